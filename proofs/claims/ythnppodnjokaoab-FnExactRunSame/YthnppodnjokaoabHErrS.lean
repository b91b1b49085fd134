/-
  Contracts of the law package's helpers on ErrS over this translation. No statement is proved here.
-/
import Derived.Test.YthnppodnjokaoabHErr
import Derived.Test.YthnppodnjokaoabCellsLib
import Derived.Deep.RegionWith
namespace Go.Proofs.Ythnppodnjokaoab
open Go.RowKit

/-- The cells of place i of a slice of such structs that is read. -/
theorem RD.atErr {w : World} {a : Option Addr} {n c : Nat} {xs : List Er} (h : RD w (.slice a n c) (slD Lay.err xs)) {i : Nat} (hi : i < xs.length) :
    ∃ b off, a = some ⟨b, off, none⟩ ∧ b < w.heap.size ∧ (w.cell? ⟨b, off + i * 3, none⟩ = some (.int .i64 xs[i].kind) ∧ w.cell? ⟨b, off + i * 3 + 1, none⟩ = some (.int .i64 xs[i].pl) ∧ w.cell? ⟨b, off + i * 3 + 2, none⟩ = some (.int .i64 xs[i].sym)) := by
  obtain ⟨b, off, rfl, hb, u0, k0, r0⟩ := RD.cellAt h hi (j := 0) (by decide) (by simp [Lay.err])
  obtain ⟨b1, off1, e1, _, u1, k1, r1⟩ := RD.cellAt h hi (j := 1) (by decide) (by simp [Lay.err])
  cases e1
  obtain ⟨b2, off2, e2, _, u2, k2, r2⟩ := RD.cellAt h hi (j := 2) (by decide) (by simp [Lay.err])
  cases e2
  have z0 : u0 = .int .i64 xs[i].kind := RD.val_eq r0
  subst z0
  rw [show off + (i * Lay.err.sz + 0) = off + i * 3 from rfl] at k0
  have z1 : u1 = .int .i64 xs[i].pl := RD.val_eq r1
  subst z1
  rw [show off + (i * Lay.err.sz + 1) = off + i * 3 + 1 from rfl] at k1
  have z2 : u2 = .int .i64 xs[i].sym := RD.val_eq r2
  subst z2
  rw [show off + (i * Lay.err.sz + 2) = off + i * 3 + 2 from rfl] at k2
  exact ⟨b, off, rfl, hb, ⟨k0, k1, k2⟩⟩

theorem Try.infoErr : (Try.prog.info? 55).map (fun i => (i.zero, i.size, i.bytes)) = some (some (.agg #[.int .i64 0, .int .i64 0, .int .i64 0]), 3, 24) := by kernel_rfl

set_option maxRecDepth 100000 in
theorem toErrS_l (xs : List Er) (a : Option Addr) (c : Nat) (w : World) (h : RD w (.slice a xs.length c) (slD Lay.err xs)) (hn : (Lay.list Lay.err).wt xs ≤ 1048576) :
    Calls Try.prog 29 #[.slice a xs.length c] w fun e w' => ∃ v S, e = .returned v ∧ OD w' w.heap.size v (slD Lay.err xs) S ∧ Below w.heap.size w w' := by
  rw [Lay.wt_list] at hn
  obtain ⟨W, hmk, O0, B0⟩ := make_ownL (P := Try.prog) w 26 55 (.agg #[.int .i64 0, .int .i64 0, .int .i64 0]) 24 [.int .i64 0, .int .i64 0, .int .i64 0] [.val (.int .i64 0), .val (.int .i64 0), .val (.int .i64 0)] xs.length Try.underlying26 Try.infoErr rfl (by decide) (by omega) (by decide) (by intro u hu; simp at hu; subst hu; rfl) rfl
    (by intro W base i hi hi'; match i, hi with | 0, _ => exact .val _ | 1, _ => exact .val _ | 2, _ => exact .val _)
  rw [zero_cells (L := Lay.err) (z := (⟨0, 0, 0⟩ : Er)) (zd := [.val (.int .i64 0), .val (.int .i64 0), .val (.int .i64 0)]) rfl] at O0
  go_enter Try.func29, Try.ntmps29
  go_wp2
  go_loopw [4] (fun i wr => ∃ (k : Nat) (S : Nat → Prop), k ≤ xs.length ∧ i = .int .i64 k ∧ OL wr w.heap.size 55 3 (.slice (some ⟨w.heap.size, 0, none⟩) xs.length xs.length) xs.length ((xs.take k ++ List.replicate (xs.length - k) (⟨0, 0, 0⟩ : Er)).flatMap Lay.err.cells) S ∧ Below w.heap.size w wr) (fun i _ => xs.length - (intOf i).toNat)
  case atStart => exact ⟨0, _, Nat.zero_le _, rfl, by simpa using O0, B0⟩
  case round =>
    obtain ⟨k, S, hk, rfl, hown, hbel⟩ := hrel
    by_cases hlt : k < xs.length
    · obtain ⟨b1, o1, rfl, hb1, ⟨q0, q1, q2⟩⟩ := (h.later hbel).atErr hlt
      have X : Hid (Calls Try.prog 43 #[.agg #[.int .i64 xs[k].kind, .int .i64 xs[k].pl, .int .i64 xs[k].sym]] wr fun e w' => e = .returned (.agg #[.int .i64 xs[k].kind, .int .i64 xs[k].pl, .int .i64 xs[k].sym]) ∧ Below wr.heap.size wr w') := toErr_l xs[k] wr
      have HP : Hid ((xs.take k ++ List.replicate (xs.length - k) (⟨0, 0, 0⟩ : Er)).set k xs[k] = xs.take (k + 1) ++ List.replicate (xs.length - (k + 1)) (⟨0, 0, 0⟩ : Er)) := put_step hlt
      have hkL : k < (xs.take k ++ List.replicate (xs.length - k) ((⟨0, 0, 0⟩ : Er) : Er)).length := by simp; omega
      have HPE : Hid (∀ (w1 : World) (S : Nat → Prop), OL w1 w.heap.size 55 3 (.slice (some ⟨w.heap.size, 0, none⟩) xs.length xs.length) xs.length ((xs.take k ++ List.replicate (xs.length - k) (⟨0, 0, 0⟩ : Er)).flatMap Lay.err.cells) S →
          ∃ S', OL (putCells w1 w.heap.size (k * 3) [.int .i64 xs[k].kind, .int .i64 xs[k].pl, .int .i64 xs[k].sym]) w.heap.size 55 3 (.slice (some ⟨w.heap.size, 0, none⟩) xs.length xs.length) xs.length ((xs.take (k + 1) ++ List.replicate (xs.length - (k + 1)) (⟨0, 0, 0⟩ : Er)).flatMap Lay.err.cells) S' ∧ S w.heap.size ∧ w1.grownBy (putCells w1 w.heap.size (k * 3) [.int .i64 xs[k].kind, .int .i64 xs[k].pl, .int .i64 xs[k].sym]) (some w.heap.size) ∧
            ∀ j, j < ([.int .i64 xs[k].kind, .int .i64 xs[k].pl, .int .i64 xs[k].sym] : List Value).length → (∃ z, (putCells w1 w.heap.size (k * 3) (([.int .i64 xs[k].kind, .int .i64 xs[k].pl, .int .i64 xs[k].sym] : List Value).take j)).cell? ⟨w.heap.size, k * 3 + j, none⟩ = some z) ∧ (putCells w1 w.heap.size (k * 3) (([.int .i64 xs[k].kind, .int .i64 xs[k].pl, .int .i64 xs[k].sym] : List Value).take j)).frozen? ⟨w.heap.size, k * 3 + j, none⟩ = false) := by
        intro w1 S hO
        obtain ⟨S', h1, _, h3, h4, h5⟩ := OL.putElem (L := Lay.err) hO hkL [.int .i64 xs[k].kind, .int .i64 xs[k].pl, .int .i64 xs[k].sym] xs[k] (fun _ => False) (Cells.plain w1 _ [.int .i64 xs[k].kind, .int .i64 xs[k].pl, .int .i64 xs[k].sym]) (fun _ h => h.elim)
        rw [HP.out] at h1
        exact ⟨S', h1, h3, h4, h5⟩
      clear h hmk O0 B0 HP hkL
      generalize xs[k].kind = v0 at *
      generalize xs[k].pl = v1 at *
      generalize xs[k].sym = v2 at *
      generalize xs.take k ++ List.replicate (xs.length - k) ((⟨0, 0, 0⟩ : Er) : Er) = M at *
      go_wp2_with fail
      refine X.out.mono ?_
      rintro e w1 ⟨rfl, hb2⟩
      have B1 := hbel.trans (hb2.mono hbel.size)
      have own1 := hown.later hb2
      obtain ⟨S', O2, hSg, G2, hall⟩ := HPE.out w1 S own1
      have hall' : (∃ z, (putCells w1 w.heap.size (k * 3) (List.take 0 ([.int .i64 v0, .int .i64 v1, .int .i64 v2] : List Value))).cell? ⟨w.heap.size, k * 3 + 0, none⟩ = some z) ∧ (putCells w1 w.heap.size (k * 3) (List.take 0 ([.int .i64 v0, .int .i64 v1, .int .i64 v2] : List Value))).frozen? ⟨w.heap.size, k * 3 + 0, none⟩ = false ∧ (∃ z, (putCells w1 w.heap.size (k * 3) (List.take 1 ([.int .i64 v0, .int .i64 v1, .int .i64 v2] : List Value))).cell? ⟨w.heap.size, k * 3 + 1, none⟩ = some z) ∧ (putCells w1 w.heap.size (k * 3) (List.take 1 ([.int .i64 v0, .int .i64 v1, .int .i64 v2] : List Value))).frozen? ⟨w.heap.size, k * 3 + 1, none⟩ = false ∧ (∃ z, (putCells w1 w.heap.size (k * 3) (List.take 2 ([.int .i64 v0, .int .i64 v1, .int .i64 v2] : List Value))).cell? ⟨w.heap.size, k * 3 + 2, none⟩ = some z) ∧ (putCells w1 w.heap.size (k * 3) (List.take 2 ([.int .i64 v0, .int .i64 v1, .int .i64 v2] : List Value))).frozen? ⟨w.heap.size, k * 3 + 2, none⟩ = false := by
        refine ⟨(hall 0 (by simp)).1, (hall 0 (by simp)).2, (hall 1 (by simp)).1, (hall 1 (by simp)).2, (hall 2 (by simp)).1, (hall 2 (by simp)).2⟩
      simp only [List.take_succ_cons, List.take_zero, putCells, Nat.add_zero, Nat.add_assoc, Nat.reduceAdd] at hall' O2 G2
      obtain ⟨⟨z0, d0⟩, f0, ⟨z1, d1⟩, f1, ⟨z2, d2⟩, f2⟩ := hall'
      have B2 := B1.grown G2 B1.size (fun k hk => by cases hk; exact Nat.le_refl _)
      have hz1 : w.heap.size < w1.heap.size := Nat.lt_of_lt_of_le (hown.lt _ hSg).2 hb2.size
      clear X hown own1 hbel hb2 HPE G2 q0 q1 q2 hb1 B1 hall
      go_wp2
      go_roundw
      case rel => exact ⟨k + 1, S', by omega, by go_num, O2, B2⟩
      case measure => simp [intOf]; omega
    · have e : k = xs.length := by omega
      subst e
      go_wp2
      go_ret
      exact ⟨_, _, rfl, by simpa [slD] using hown.od, hbel⟩

theorem eqErrS_l (xs : List Er) (a b : Option Addr) (c d : Nat) (w : World) (h : RD w (.slice a xs.length c) (slD Lay.err xs)) (g : RD w (.slice b xs.length d) (slD Lay.err xs)) (hn : (Lay.list Lay.err).wt xs ≤ 4194304) :
    Calls Try.prog 16 #[.slice a xs.length c, .slice b xs.length d] w fun e w' => e = .returned (.bool true) ∧ Below w.heap.size w w' := by
  rw [Lay.wt_list] at hn
  go_enter Try.func16, Try.ntmps16
  go_wp2
  go_loopw [5] (fun i wr => ∃ k : Nat, k ≤ xs.length ∧ i = .int .i64 k ∧ Below w.heap.size w wr) (fun i _ => xs.length - (intOf i).toNat)
  case atStart => exact ⟨0, Nat.zero_le _, rfl, Below.refl _ _⟩
  case round =>
    obtain ⟨k, hk, rfl, hbel⟩ := hrel
    by_cases hlt : k < xs.length
    · obtain ⟨b1, o1, rfl, hb1, ⟨q0, q1, q2⟩⟩ := (h.later hbel).atErr hlt
      obtain ⟨b2, o2, rfl, hb2, ⟨p0, p1, p2⟩⟩ := (g.later hbel).atErr hlt
      have X : Hid (Calls Try.prog 36 #[.agg #[.int .i64 xs[k].kind, .int .i64 xs[k].pl, .int .i64 xs[k].sym], .agg #[.int .i64 xs[k].kind, .int .i64 xs[k].pl, .int .i64 xs[k].sym]] wr.drew fun e w' => e = .returned (.bool true) ∧ Below wr.heap.size wr w') :=
        (eqErr_l xs[k] wr.drew).mono fun e w' h => ⟨h.1, ⟨h.2.os, h.2.tape, h.2.output, h.2.size, h.2.block⟩⟩
      clear h g
      generalize xs[k].kind = v0 at *
      generalize xs[k].pl = v1 at *
      generalize xs[k].sym = v2 at *
      go_wp2
      go_region_with (go_at_call 36; refine X.out.mono ?_; rintro e w1 ⟨rfl, hl1⟩)
      all_goals
        go_wp2
        go_roundw
        case rel => exact ⟨k + 1, by omega, by go_num, hbel.trans (hl1.mono hbel.size)⟩
        case measure => simp [intOf]; omega
    · go_wp2
      go_ret
      exact ⟨rfl, hbel⟩

theorem Err_sum (xs : List Er) : Lay.err.sumL xs = 0 := Lay.sumL_zero _ (fun _ => rfl) xs
theorem szErrS_l (xs : List Er) (a : Option Addr) (c : Nat) (l : Int) (w : World) (_ : RD w (.slice a xs.length c) (slD Lay.err xs)) (hf : (Lay.list Lay.err).fit xs) (h0 : 0 ≤ l) (h1 : l ≤ 1048576) :
    Calls Try.prog 25 #[.slice a xs.length c, .int .i64 l] w fun e w' => ∃ r, e = .returned (.int .i64 r) ∧ SzE ((Lay.list Lay.err).wt xs) l r ∧ Below w.heap.size w w' := by
  have hm := hf.1
  unfold maxLen at hm
  rw [Lay.wt_list, Err_sum]
  by_cases hbig : l < (xs.length : Int)
  · go_enter Try.func25, Try.ntmps25
    go_wp2
    go_ret
    exact ⟨_, rfl, .inl rfl, Below.refl _ _⟩
  · go_enter Try.func25, Try.ntmps25
    go_wp2
    go_ret
    exact ⟨_, rfl, .inr ⟨by omega, rfl⟩, Below.refl _ _⟩

end Go.Proofs.Ythnppodnjokaoab
