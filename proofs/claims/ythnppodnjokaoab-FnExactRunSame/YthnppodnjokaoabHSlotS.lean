/-
  Contracts of the law package's helpers on SlotS over this translation. No statement is proved here.
-/
import Derived.Test.YthnppodnjokaoabHSlot
import Derived.Test.YthnppodnjokaoabCellsLib
import Derived.Deep.RegionWith
namespace Go.Proofs.Ythnppodnjokaoab
open Go.RowKit

/-- The cells of place i of a slice of such structs that is read. -/
theorem RD.atSlot {w : World} {a : Option Addr} {n c : Nat} {xs : List Sl} (h : RD w (.slice a n c) (slD Lay.slot xs)) {i : Nat} (hi : i < xs.length) :
    ∃ b off, a = some ⟨b, off, none⟩ ∧ b < w.heap.size ∧ (w.cell? ⟨b, off + i * 2, none⟩ = some (.int .i64 xs[i].sym) ∧ w.cell? ⟨b, off + i * 2 + 1, none⟩ = some (.int .i64 xs[i].up)) := by
  obtain ⟨b, off, rfl, hb, u0, k0, r0⟩ := RD.cellAt h hi (j := 0) (by decide) (by simp [Lay.slot])
  obtain ⟨b1, off1, e1, _, u1, k1, r1⟩ := RD.cellAt h hi (j := 1) (by decide) (by simp [Lay.slot])
  cases e1
  have z0 : u0 = .int .i64 xs[i].sym := RD.val_eq r0
  subst z0
  rw [show off + (i * Lay.slot.sz + 0) = off + i * 2 from rfl] at k0
  have z1 : u1 = .int .i64 xs[i].up := RD.val_eq r1
  subst z1
  rw [show off + (i * Lay.slot.sz + 1) = off + i * 2 + 1 from rfl] at k1
  exact ⟨b, off, rfl, hb, ⟨k0, k1⟩⟩

theorem Try.infoSlot : (Try.prog.info? 44).map (fun i => (i.zero, i.size, i.bytes)) = some (some (.agg #[.int .i64 0, .int .i64 0]), 2, 16) := by kernel_rfl

set_option maxRecDepth 100000 in
theorem toSlotS_l (xs : List Sl) (a : Option Addr) (c : Nat) (w : World) (h : RD w (.slice a xs.length c) (slD Lay.slot xs)) (hn : (Lay.list Lay.slot).wt xs ≤ 1048576) :
    Calls Try.prog 27 #[.slice a xs.length c] w fun e w' => ∃ v S, e = .returned v ∧ OD w' w.heap.size v (slD Lay.slot xs) S ∧ Below w.heap.size w w' := by
  rw [Lay.wt_list] at hn
  obtain ⟨W, hmk, O0, B0⟩ := make_ownL (P := Try.prog) w 22 44 (.agg #[.int .i64 0, .int .i64 0]) 16 [.int .i64 0, .int .i64 0] [.val (.int .i64 0), .val (.int .i64 0)] xs.length Try.underlying22 Try.infoSlot rfl (by decide) (by omega) (by decide) (by intro u hu; simp at hu; subst hu; rfl) rfl
    (by intro W base i hi hi'; match i, hi with | 0, _ => exact .val _ | 1, _ => exact .val _)
  rw [zero_cells (L := Lay.slot) (z := (⟨0, 0⟩ : Sl)) (zd := [.val (.int .i64 0), .val (.int .i64 0)]) rfl] at O0
  go_enter Try.func27, Try.ntmps27
  go_wp2
  go_loopw [4] (fun i wr => ∃ (k : Nat) (S : Nat → Prop), k ≤ xs.length ∧ i = .int .i64 k ∧ OL wr w.heap.size 44 2 (.slice (some ⟨w.heap.size, 0, none⟩) xs.length xs.length) xs.length ((xs.take k ++ List.replicate (xs.length - k) (⟨0, 0⟩ : Sl)).flatMap Lay.slot.cells) S ∧ Below w.heap.size w wr) (fun i _ => xs.length - (intOf i).toNat)
  case atStart => exact ⟨0, _, Nat.zero_le _, rfl, by simpa using O0, B0⟩
  case round =>
    obtain ⟨k, S, hk, rfl, hown, hbel⟩ := hrel
    by_cases hlt : k < xs.length
    · obtain ⟨b1, o1, rfl, hb1, ⟨q0, q1⟩⟩ := (h.later hbel).atSlot hlt
      have X : Hid (Calls Try.prog 41 #[.agg #[.int .i64 xs[k].sym, .int .i64 xs[k].up]] wr fun e w' => e = .returned (.agg #[.int .i64 xs[k].sym, .int .i64 xs[k].up]) ∧ Below wr.heap.size wr w') := toSlot_l xs[k] wr
      have HP : Hid ((xs.take k ++ List.replicate (xs.length - k) (⟨0, 0⟩ : Sl)).set k xs[k] = xs.take (k + 1) ++ List.replicate (xs.length - (k + 1)) (⟨0, 0⟩ : Sl)) := put_step hlt
      have hkL : k < (xs.take k ++ List.replicate (xs.length - k) ((⟨0, 0⟩ : Sl) : Sl)).length := by simp; omega
      have HPE : Hid (∀ (w1 : World) (S : Nat → Prop), OL w1 w.heap.size 44 2 (.slice (some ⟨w.heap.size, 0, none⟩) xs.length xs.length) xs.length ((xs.take k ++ List.replicate (xs.length - k) (⟨0, 0⟩ : Sl)).flatMap Lay.slot.cells) S →
          ∃ S', OL (putCells w1 w.heap.size (k * 2) [.int .i64 xs[k].sym, .int .i64 xs[k].up]) w.heap.size 44 2 (.slice (some ⟨w.heap.size, 0, none⟩) xs.length xs.length) xs.length ((xs.take (k + 1) ++ List.replicate (xs.length - (k + 1)) (⟨0, 0⟩ : Sl)).flatMap Lay.slot.cells) S' ∧ S w.heap.size ∧ w1.grownBy (putCells w1 w.heap.size (k * 2) [.int .i64 xs[k].sym, .int .i64 xs[k].up]) (some w.heap.size) ∧
            ∀ j, j < ([.int .i64 xs[k].sym, .int .i64 xs[k].up] : List Value).length → (∃ z, (putCells w1 w.heap.size (k * 2) (([.int .i64 xs[k].sym, .int .i64 xs[k].up] : List Value).take j)).cell? ⟨w.heap.size, k * 2 + j, none⟩ = some z) ∧ (putCells w1 w.heap.size (k * 2) (([.int .i64 xs[k].sym, .int .i64 xs[k].up] : List Value).take j)).frozen? ⟨w.heap.size, k * 2 + j, none⟩ = false) := by
        intro w1 S hO
        obtain ⟨S', h1, _, h3, h4, h5⟩ := OL.putElem (L := Lay.slot) hO hkL [.int .i64 xs[k].sym, .int .i64 xs[k].up] xs[k] (fun _ => False) (Cells.plain w1 _ [.int .i64 xs[k].sym, .int .i64 xs[k].up]) (fun _ h => h.elim)
        rw [HP.out] at h1
        exact ⟨S', h1, h3, h4, h5⟩
      clear h hmk O0 B0 HP hkL
      generalize xs[k].sym = v0 at *
      generalize xs[k].up = v1 at *
      generalize xs.take k ++ List.replicate (xs.length - k) ((⟨0, 0⟩ : Sl) : Sl) = M at *
      go_wp2_with fail
      refine X.out.mono ?_
      rintro e w1 ⟨rfl, hb2⟩
      have B1 := hbel.trans (hb2.mono hbel.size)
      have own1 := hown.later hb2
      obtain ⟨S', O2, hSg, G2, hall⟩ := HPE.out w1 S own1
      have hall' : (∃ z, (putCells w1 w.heap.size (k * 2) (List.take 0 ([.int .i64 v0, .int .i64 v1] : List Value))).cell? ⟨w.heap.size, k * 2 + 0, none⟩ = some z) ∧ (putCells w1 w.heap.size (k * 2) (List.take 0 ([.int .i64 v0, .int .i64 v1] : List Value))).frozen? ⟨w.heap.size, k * 2 + 0, none⟩ = false ∧ (∃ z, (putCells w1 w.heap.size (k * 2) (List.take 1 ([.int .i64 v0, .int .i64 v1] : List Value))).cell? ⟨w.heap.size, k * 2 + 1, none⟩ = some z) ∧ (putCells w1 w.heap.size (k * 2) (List.take 1 ([.int .i64 v0, .int .i64 v1] : List Value))).frozen? ⟨w.heap.size, k * 2 + 1, none⟩ = false := by
        refine ⟨(hall 0 (by simp)).1, (hall 0 (by simp)).2, (hall 1 (by simp)).1, (hall 1 (by simp)).2⟩
      simp only [List.take_succ_cons, List.take_zero, putCells, Nat.add_zero] at hall' O2 G2
      obtain ⟨⟨z0, d0⟩, f0, ⟨z1, d1⟩, f1⟩ := hall'
      have B2 := B1.grown G2 B1.size (fun k hk => by cases hk; exact Nat.le_refl _)
      have hz1 : w.heap.size < w1.heap.size := Nat.lt_of_lt_of_le (hown.lt _ hSg).2 hb2.size
      clear X hown own1 hbel hb2 HPE G2 q0 q1 hb1 B1 hall
      go_wp2
      go_roundw
      case rel => exact ⟨k + 1, S', by omega, by go_num, O2, B2⟩
      case measure => simp [intOf]; omega
    · have e : k = xs.length := by omega
      subst e
      go_wp2
      go_ret
      exact ⟨_, _, rfl, by simpa [slD] using hown.od, hbel⟩

theorem eqSlotS_l (xs : List Sl) (a b : Option Addr) (c d : Nat) (w : World) (h : RD w (.slice a xs.length c) (slD Lay.slot xs)) (g : RD w (.slice b xs.length d) (slD Lay.slot xs)) (hn : (Lay.list Lay.slot).wt xs ≤ 4194304) :
    Calls Try.prog 14 #[.slice a xs.length c, .slice b xs.length d] w fun e w' => e = .returned (.bool true) ∧ Below w.heap.size w w' := by
  rw [Lay.wt_list] at hn
  go_enter Try.func14, Try.ntmps14
  go_wp2
  go_loopw [5] (fun i wr => ∃ k : Nat, k ≤ xs.length ∧ i = .int .i64 k ∧ Below w.heap.size w wr) (fun i _ => xs.length - (intOf i).toNat)
  case atStart => exact ⟨0, Nat.zero_le _, rfl, Below.refl _ _⟩
  case round =>
    obtain ⟨k, hk, rfl, hbel⟩ := hrel
    by_cases hlt : k < xs.length
    · obtain ⟨b1, o1, rfl, hb1, ⟨q0, q1⟩⟩ := (h.later hbel).atSlot hlt
      obtain ⟨b2, o2, rfl, hb2, ⟨p0, p1⟩⟩ := (g.later hbel).atSlot hlt
      have X : Hid (Calls Try.prog 34 #[.agg #[.int .i64 xs[k].sym, .int .i64 xs[k].up], .agg #[.int .i64 xs[k].sym, .int .i64 xs[k].up]] wr.drew fun e w' => e = .returned (.bool true) ∧ Below wr.heap.size wr w') :=
        (eqSlot_l xs[k] wr.drew).mono fun e w' h => ⟨h.1, ⟨h.2.os, h.2.tape, h.2.output, h.2.size, h.2.block⟩⟩
      clear h g
      generalize xs[k].sym = v0 at *
      generalize xs[k].up = v1 at *
      go_wp2
      go_region_with (go_at_call 34; refine X.out.mono ?_; rintro e w1 ⟨rfl, hl1⟩)
      all_goals
        go_wp2
        go_roundw
        case rel => exact ⟨k + 1, by omega, by go_num, hbel.trans (hl1.mono hbel.size)⟩
        case measure => simp [intOf]; omega
    · go_wp2
      go_ret
      exact ⟨rfl, hbel⟩

theorem Slot_sum (xs : List Sl) : Lay.slot.sumL xs = 0 := Lay.sumL_zero _ (fun _ => rfl) xs
theorem szSlotS_l (xs : List Sl) (a : Option Addr) (c : Nat) (l : Int) (w : World) (_ : RD w (.slice a xs.length c) (slD Lay.slot xs)) (hf : (Lay.list Lay.slot).fit xs) (h0 : 0 ≤ l) (h1 : l ≤ 1048576) :
    Calls Try.prog 23 #[.slice a xs.length c, .int .i64 l] w fun e w' => ∃ r, e = .returned (.int .i64 r) ∧ SzE ((Lay.list Lay.slot).wt xs) l r ∧ Below w.heap.size w w' := by
  have hm := hf.1
  unfold maxLen at hm
  rw [Lay.wt_list, Slot_sum]
  by_cases hbig : l < (xs.length : Int)
  · go_enter Try.func23, Try.ntmps23
    go_wp2
    go_ret
    exact ⟨_, rfl, .inl rfl, Below.refl _ _⟩
  · go_enter Try.func23, Try.ntmps23
    go_wp2
    go_ret
    exact ⟨_, rfl, .inr ⟨by omega, rfl⟩, Below.refl _ _⟩

end Go.Proofs.Ythnppodnjokaoab
