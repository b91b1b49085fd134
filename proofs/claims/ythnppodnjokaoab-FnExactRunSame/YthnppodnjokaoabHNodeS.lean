/-
  Contracts of the law package's helpers on NodeS over this translation. No statement is proved here.
-/
import Derived.Test.YthnppodnjokaoabHNode
import Derived.Deep.RegionWith
namespace Go.Proofs.Ythnppodnjokaoab
open Go.RowKit

/-- The cells of place i of a slice of such structs that is read. -/
theorem RD.atNode {w : World} {a : Option Addr} {n c : Nat} {xs : List Nd} (h : RD w (.slice a n c) (slD Lay.node xs)) {i : Nat} (hi : i < xs.length) :
    ∃ b off, a = some ⟨b, off, none⟩ ∧ b < w.heap.size ∧ (w.cell? ⟨b, off + i * 5, none⟩ = some (.int .i64 xs[i].kind) ∧ w.cell? ⟨b, off + i * 5 + 1, none⟩ = some (.int .i64 xs[i].sym) ∧ w.cell? ⟨b, off + i * 5 + 2, none⟩ = some (.int .i64 xs[i].alt) ∧ w.cell? ⟨b, off + i * 5 + 3, none⟩ = some (.int .i64 xs[i].pl)) ∧ ∃ a1 c1, w.cell? ⟨b, off + i * 5 + 4, none⟩ = some (.slice a1 xs[i].kids.length c1) ∧ RD w (.slice a1 xs[i].kids.length c1) (slD Lay.int xs[i].kids) := by
  obtain ⟨b, off, rfl, hb, u0, k0, r0⟩ := RD.cellAt h hi (j := 0) (by decide) (by simp [Lay.node])
  obtain ⟨b1, off1, e1, _, u1, k1, r1⟩ := RD.cellAt h hi (j := 1) (by decide) (by simp [Lay.node])
  cases e1
  obtain ⟨b2, off2, e2, _, u2, k2, r2⟩ := RD.cellAt h hi (j := 2) (by decide) (by simp [Lay.node])
  cases e2
  obtain ⟨b3, off3, e3, _, u3, k3, r3⟩ := RD.cellAt h hi (j := 3) (by decide) (by simp [Lay.node])
  cases e3
  obtain ⟨b4, off4, e4, _, u4, k4, r4⟩ := RD.cellAt h hi (j := 4) (by decide) (by simp [Lay.node])
  cases e4
  have z0 : u0 = .int .i64 xs[i].kind := RD.val_eq r0
  subst z0
  rw [show off + (i * Lay.node.sz + 0) = off + i * 5 from rfl] at k0
  have z1 : u1 = .int .i64 xs[i].sym := RD.val_eq r1
  subst z1
  rw [show off + (i * Lay.node.sz + 1) = off + i * 5 + 1 from rfl] at k1
  have z2 : u2 = .int .i64 xs[i].alt := RD.val_eq r2
  subst z2
  rw [show off + (i * Lay.node.sz + 2) = off + i * 5 + 2 from rfl] at k2
  have z3 : u3 = .int .i64 xs[i].pl := RD.val_eq r3
  subst z3
  rw [show off + (i * Lay.node.sz + 3) = off + i * 5 + 3 from rfl] at k3
  have r4' : RD w u4 (slD Lay.int xs[i].kids) := r4
  obtain ⟨a1, c1, rfl⟩ := RD.shapeL r4'
  rw [show off + (i * Lay.node.sz + 4) = off + i * 5 + 4 from rfl] at k4
  exact ⟨b, off, rfl, hb, ⟨k0, k1, k2, k3⟩, a1, c1, k4, r4'⟩

theorem Try.infoNode : (Try.prog.info? 62).map (fun i => (i.zero, i.size, i.bytes)) = some (some (.agg #[.int .i64 0, .int .i64 0, .int .i64 0, .int .i64 0, .slice none 0 0]), 5, 56) := by kernel_rfl

set_option maxRecDepth 100000 in
theorem toNodeS_l (xs : List Nd) (a : Option Addr) (c : Nat) (w : World) (h : RD w (.slice a xs.length c) (slD Lay.node xs)) (hn : (Lay.list Lay.node).wt xs ≤ 1048576) :
    Calls Try.prog 42 #[.slice a xs.length c] w fun e w' => ∃ v S, e = .returned v ∧ OD w' w.heap.size v (slD Lay.node xs) S ∧ Below w.heap.size w w' := by
  rw [Lay.wt_list] at hn
  obtain ⟨W, hmk, O0, B0⟩ := make_ownL (P := Try.prog) w 23 62 (.agg #[.int .i64 0, .int .i64 0, .int .i64 0, .int .i64 0, .slice none 0 0]) 56 [.int .i64 0, .int .i64 0, .int .i64 0, .int .i64 0, .slice none 0 0] [.val (.int .i64 0), .val (.int .i64 0), .val (.int .i64 0), .val (.int .i64 0), .sl 0 []] xs.length Try.underlying23 Try.infoNode rfl (by decide) (by omega) (by decide) (by intro u hu; simp at hu; rcases hu with rfl | rfl <;> rfl) rfl
    (by intro W base i hi hi'; match i, hi with | 0, _ => exact .val _ | 1, _ => exact .val _ | 2, _ => exact .val _ | 3, _ => exact .val _ | 4, _ => exact .nil 0 rfl)
  rw [zero_cells (L := Lay.node) (z := (⟨0, 0, 0, 0, []⟩ : Nd)) (zd := [.val (.int .i64 0), .val (.int .i64 0), .val (.int .i64 0), .val (.int .i64 0), .sl 0 []]) rfl] at O0
  go_enter Try.func42, Try.ntmps42
  go_wp2
  go_loopw [4] (fun i wr => ∃ (k : Nat) (S : Nat → Prop), k ≤ xs.length ∧ i = .int .i64 k ∧ OL wr w.heap.size 62 5 (.slice (some ⟨w.heap.size, 0, none⟩) xs.length xs.length) xs.length ((xs.take k ++ List.replicate (xs.length - k) (⟨0, 0, 0, 0, []⟩ : Nd)).flatMap Lay.node.cells) S ∧ Below w.heap.size w wr) (fun i _ => xs.length - (intOf i).toNat)
  case atStart => exact ⟨0, _, Nat.zero_le _, rfl, by simpa using O0, B0⟩
  case round =>
    obtain ⟨k, S, hk, rfl, hown, hbel⟩ := hrel
    by_cases hlt : k < xs.length
    · obtain ⟨b1, o1, rfl, hb1, ⟨q0, q1, q2, q3⟩, a1, c1, q4, r1⟩ := (h.later hbel).atNode hlt
      have hk2 := Lay.sumL_at Lay.node hlt
      have X : Hid (Calls Try.prog 49 #[.agg #[.int .i64 xs[k].kind, .int .i64 xs[k].sym, .int .i64 xs[k].alt, .int .i64 xs[k].pl, .slice a1 xs[k].kids.length c1]] wr fun e w' => ∃ a2 c2 S, e = .returned (.agg #[.int .i64 xs[k].kind, .int .i64 xs[k].sym, .int .i64 xs[k].alt, .int .i64 xs[k].pl, .slice a2 xs[k].kids.length c2]) ∧ Cells w' wr.heap.size [.int .i64 xs[k].kind, .int .i64 xs[k].sym, .int .i64 xs[k].alt, .int .i64 xs[k].pl, .slice a2 xs[k].kids.length c2] (Lay.node.cells xs[k]) S ∧ Below wr.heap.size wr w') :=
        toNode_l xs[k] a1 c1 wr r1 (by omega)
      have HP : Hid ((xs.take k ++ List.replicate (xs.length - k) (⟨0, 0, 0, 0, []⟩ : Nd)).set k xs[k] = xs.take (k + 1) ++ List.replicate (xs.length - (k + 1)) (⟨0, 0, 0, 0, []⟩ : Nd)) := put_step hlt
      have hkL : k < (xs.take k ++ List.replicate (xs.length - k) ((⟨0, 0, 0, 0, []⟩ : Nd) : Nd)).length := by simp; omega
      have HPE : Hid (∀ (w1 : World) (S : Nat → Prop) (us : List Value) (T : Nat → Prop), OL w1 w.heap.size 62 5 (.slice (some ⟨w.heap.size, 0, none⟩) xs.length xs.length) xs.length ((xs.take k ++ List.replicate (xs.length - k) (⟨0, 0, 0, 0, []⟩ : Nd)).flatMap Lay.node.cells) S → Cells w1 w.heap.size us (Lay.node.cells xs[k]) T → (∀ k, T k → ¬ S k) →
          ∃ S', OL (putCells w1 w.heap.size (k * 5) us) w.heap.size 62 5 (.slice (some ⟨w.heap.size, 0, none⟩) xs.length xs.length) xs.length ((xs.take (k + 1) ++ List.replicate (xs.length - (k + 1)) (⟨0, 0, 0, 0, []⟩ : Nd)).flatMap Lay.node.cells) S' ∧ S w.heap.size ∧ w1.grownBy (putCells w1 w.heap.size (k * 5) us) (some w.heap.size) ∧
            ∀ j, j < us.length → (∃ z, (putCells w1 w.heap.size (k * 5) (us.take j)).cell? ⟨w.heap.size, k * 5 + j, none⟩ = some z) ∧ (putCells w1 w.heap.size (k * 5) (us.take j)).frozen? ⟨w.heap.size, k * 5 + j, none⟩ = false) := by
        intro w1 S us T hO hu hd
        obtain ⟨S', h1, _, h3, h4, h5⟩ := OL.putElem (L := Lay.node) hO hkL us xs[k] T hu hd
        rw [HP.out] at h1
        exact ⟨S', h1, h3, h4, h5⟩
      clear h r1 hmk O0 B0 hk2 HP hkL
      generalize Lay.node.cells xs[k] = cx at *
      generalize xs[k].kids = y at *
      generalize xs[k].kind = v0 at *
      generalize xs[k].sym = v1 at *
      generalize xs[k].alt = v2 at *
      generalize xs[k].pl = v3 at *
      generalize xs.take k ++ List.replicate (xs.length - k) ((⟨0, 0, 0, 0, []⟩ : Nd) : Nd) = M at *
      go_wp2_with fail
      refine X.out.mono ?_
      rintro e w1 ⟨a2, c2, T, rfl, O1, hb2⟩
      have B1 := hbel.trans (hb2.mono hbel.size)
      have own1 := hown.later hb2
      have hsz := hbel.size
      obtain ⟨S', O2, hSg, G2, hall⟩ := HPE.out w1 S _ T own1 (O1.base hsz) (fun k hk hk2 => by have h1 := (O1.lt k hk).1; have h2 := (hown.lt k hk2).2; omega)
      have hall' : (∃ z, (putCells w1 w.heap.size (k * 5) (List.take 0 ([.int .i64 v0, .int .i64 v1, .int .i64 v2, .int .i64 v3, .slice a2 y.length c2] : List Value))).cell? ⟨w.heap.size, k * 5 + 0, none⟩ = some z) ∧ (putCells w1 w.heap.size (k * 5) (List.take 0 ([.int .i64 v0, .int .i64 v1, .int .i64 v2, .int .i64 v3, .slice a2 y.length c2] : List Value))).frozen? ⟨w.heap.size, k * 5 + 0, none⟩ = false ∧ (∃ z, (putCells w1 w.heap.size (k * 5) (List.take 1 ([.int .i64 v0, .int .i64 v1, .int .i64 v2, .int .i64 v3, .slice a2 y.length c2] : List Value))).cell? ⟨w.heap.size, k * 5 + 1, none⟩ = some z) ∧ (putCells w1 w.heap.size (k * 5) (List.take 1 ([.int .i64 v0, .int .i64 v1, .int .i64 v2, .int .i64 v3, .slice a2 y.length c2] : List Value))).frozen? ⟨w.heap.size, k * 5 + 1, none⟩ = false ∧ (∃ z, (putCells w1 w.heap.size (k * 5) (List.take 2 ([.int .i64 v0, .int .i64 v1, .int .i64 v2, .int .i64 v3, .slice a2 y.length c2] : List Value))).cell? ⟨w.heap.size, k * 5 + 2, none⟩ = some z) ∧ (putCells w1 w.heap.size (k * 5) (List.take 2 ([.int .i64 v0, .int .i64 v1, .int .i64 v2, .int .i64 v3, .slice a2 y.length c2] : List Value))).frozen? ⟨w.heap.size, k * 5 + 2, none⟩ = false ∧ (∃ z, (putCells w1 w.heap.size (k * 5) (List.take 3 ([.int .i64 v0, .int .i64 v1, .int .i64 v2, .int .i64 v3, .slice a2 y.length c2] : List Value))).cell? ⟨w.heap.size, k * 5 + 3, none⟩ = some z) ∧ (putCells w1 w.heap.size (k * 5) (List.take 3 ([.int .i64 v0, .int .i64 v1, .int .i64 v2, .int .i64 v3, .slice a2 y.length c2] : List Value))).frozen? ⟨w.heap.size, k * 5 + 3, none⟩ = false ∧ (∃ z, (putCells w1 w.heap.size (k * 5) (List.take 4 ([.int .i64 v0, .int .i64 v1, .int .i64 v2, .int .i64 v3, .slice a2 y.length c2] : List Value))).cell? ⟨w.heap.size, k * 5 + 4, none⟩ = some z) ∧ (putCells w1 w.heap.size (k * 5) (List.take 4 ([.int .i64 v0, .int .i64 v1, .int .i64 v2, .int .i64 v3, .slice a2 y.length c2] : List Value))).frozen? ⟨w.heap.size, k * 5 + 4, none⟩ = false := by
        refine ⟨(hall 0 (by simp)).1, (hall 0 (by simp)).2, (hall 1 (by simp)).1, (hall 1 (by simp)).2, (hall 2 (by simp)).1, (hall 2 (by simp)).2, (hall 3 (by simp)).1, (hall 3 (by simp)).2, (hall 4 (by simp)).1, (hall 4 (by simp)).2⟩
      simp only [List.take_succ_cons, List.take_zero, putCells, Nat.add_zero, Nat.add_assoc, Nat.reduceAdd] at hall' O2 G2
      obtain ⟨⟨z0, d0⟩, f0, ⟨z1, d1⟩, f1, ⟨z2, d2⟩, f2, ⟨z3, d3⟩, f3, ⟨z4, d4⟩, f4⟩ := hall'
      have B2 := B1.grown G2 B1.size (fun k hk => by cases hk; exact Nat.le_refl _)
      have hz1 : w.heap.size < w1.heap.size := Nat.lt_of_lt_of_le (hown.lt _ hSg).2 hb2.size
      clear X hown own1 O1 hbel hb2 HPE G2 q0 q1 q2 q3 q4 hb1 B1 hall
      go_wp2
      go_roundw
      case rel => exact ⟨k + 1, S', by omega, by go_num, O2, B2⟩
      case measure => simp [intOf]; omega
    · have e : k = xs.length := by omega
      subst e
      go_wp2
      go_ret
      exact ⟨_, _, rfl, by simpa [slD] using hown.od, hbel⟩

theorem eqNodeS_l (xs : List Nd) (a b : Option Addr) (c d : Nat) (w : World) (h : RD w (.slice a xs.length c) (slD Lay.node xs)) (g : RD w (.slice b xs.length d) (slD Lay.node xs)) (hn : (Lay.list Lay.node).wt xs ≤ 4194304) :
    Calls Try.prog 35 #[.slice a xs.length c, .slice b xs.length d] w fun e w' => e = .returned (.bool true) ∧ Below w.heap.size w w' := by
  rw [Lay.wt_list] at hn
  go_enter Try.func35, Try.ntmps35
  go_wp2
  go_loopw [5] (fun i wr => ∃ k : Nat, k ≤ xs.length ∧ i = .int .i64 k ∧ Below w.heap.size w wr) (fun i _ => xs.length - (intOf i).toNat)
  case atStart => exact ⟨0, Nat.zero_le _, rfl, Below.refl _ _⟩
  case round =>
    obtain ⟨k, hk, rfl, hbel⟩ := hrel
    by_cases hlt : k < xs.length
    · obtain ⟨b1, o1, rfl, hb1, ⟨q0, q1, q2, q3⟩, a1, c1, q4, r1⟩ := (h.later hbel).atNode hlt
      obtain ⟨b2, o2, rfl, hb2, ⟨p0, p1, p2, p3⟩, a2, c2, p4, r2⟩ := (g.later hbel).atNode hlt
      have hk2 := Lay.sumL_at Lay.node hlt
      have X : Hid (Calls Try.prog 45 #[.agg #[.int .i64 xs[k].kind, .int .i64 xs[k].sym, .int .i64 xs[k].alt, .int .i64 xs[k].pl, .slice a1 xs[k].kids.length c1], .agg #[.int .i64 xs[k].kind, .int .i64 xs[k].sym, .int .i64 xs[k].alt, .int .i64 xs[k].pl, .slice a2 xs[k].kids.length c2]] wr.drew fun e w' => e = .returned (.bool true) ∧ Below wr.heap.size wr w') :=
        (eqNode_l xs[k] a1 a2 c1 c2 wr.drew (r1.later (below_drew 1)) (r2.later (below_drew 1)) (by omega)).mono fun e w' h => ⟨h.1, ⟨h.2.os, h.2.tape, h.2.output, h.2.size, h.2.block⟩⟩
      clear h g r1 r2 hk2
      generalize xs[k].kids = y at *
      generalize xs[k].kind = v0 at *
      generalize xs[k].sym = v1 at *
      generalize xs[k].alt = v2 at *
      generalize xs[k].pl = v3 at *
      go_wp2
      go_region_with (go_at_call 45; refine X.out.mono ?_; rintro e w1 ⟨rfl, hl1⟩)
      all_goals
        go_wp2
        go_roundw
        case rel => exact ⟨k + 1, by omega, by go_num, hbel.trans (hl1.mono hbel.size)⟩
        case measure => simp [intOf]; omega
    · go_wp2
      go_ret
      exact ⟨rfl, hbel⟩

set_option maxRecDepth 100000 in
theorem szNodeS_l (xs : List Nd) (a : Option Addr) (c : Nat) (l : Int) (w : World) (h : RD w (.slice a xs.length c) (slD Lay.node xs)) (hf : (Lay.list Lay.node).fit xs) (h0 : 0 ≤ l) (h1 : l ≤ 1048576) :
    Calls Try.prog 39 #[.slice a xs.length c, .int .i64 l] w fun e w' => ∃ r, e = .returned (.int .i64 r) ∧ SzE ((Lay.list Lay.node).wt xs) l r ∧ Below w.heap.size w w' := by
  obtain ⟨hm, hfe⟩ := hf
  unfold maxLen at hm
  rw [Lay.wt_list]
  by_cases hbig : l < (xs.length : Int)
  · go_enter Try.func39, Try.ntmps39
    go_wp2
    go_ret
    exact ⟨_, rfl, .inl rfl, Below.refl _ _⟩
  · go_enter Try.func39, Try.ntmps39
    go_wp2
    go_loopw [1, 5] (fun sl i wr => ∃ (k : Nat) (x : Int), k ≤ xs.length ∧ i = .int .i64 k ∧ sl = .int .i64 x ∧ 0 ≤ x ∧ Hid (x + xs.length + Lay.sumL Lay.node (xs.take k) = l) ∧ Below w.heap.size w wr) (fun _ i _ => xs.length - (intOf i).toNat)
    case atStart => exact ⟨0, l - xs.length, Nat.zero_le _, rfl, rfl, by omega, by show _ = _; simp [Lay.sumL], Below.refl _ _⟩
    case round =>
      obtain ⟨k, x, hk, rfl, rfl, hx0, HXL, hbel⟩ := hrel
      by_cases hlt : k < xs.length
      · obtain ⟨b1, o1, rfl, hb1, ⟨q0, q1, q2, q3⟩, a1, c1, q4, r1⟩ := (h.later hbel).atNode hlt
        have fe := hfe xs[k] (List.getElem_mem hlt)
        have fk : (Lay.list Lay.int).fit xs[k].kids := fe.2.2.2.2
        have HW : Hid (Lay.sumL Lay.node (xs.take (k + 1)) = Lay.sumL Lay.node (xs.take k) + Lay.node.wt xs[k]) := Lay.sumL_take _ hlt
        have hx1 : x ≤ 1048576 := by have := HXL.out; omega
        have X : Hid (Calls Try.prog 48 #[.agg #[.int .i64 xs[k].kind, .int .i64 xs[k].sym, .int .i64 xs[k].alt, .int .i64 xs[k].pl, .slice a1 xs[k].kids.length c1], .int .i64 x] wr fun e w' => ∃ r, e = .returned (.int .i64 r) ∧ SzE (Lay.node.wt xs[k]) x r ∧ Below wr.heap.size wr w') :=
          szNode_l xs[k] a1 c1 x wr r1 fk hx0 hx1
        clear h r1 fe fk hfe
        generalize Lay.node.wt xs[k] = wk at *
        generalize xs[k].kids = y at *
        generalize xs[k].kind = v0 at *
        generalize xs[k].sym = v1 at *
        generalize xs[k].alt = v2 at *
        generalize xs[k].pl = v3 at *
        go_wp2_with fail
        refine X.out.mono ?_
        rintro e w1 ⟨r, rfl, hr, hb2⟩
        have B2 := hbel.trans (hb2.mono hbel.size)
        clear X hb2 q0 q1 q2 q3 q4
        rcases hr with rfl | ⟨hr0, hr1⟩
        · go_wp2
          go_ret
          exact ⟨_, rfl, .inl rfl, B2⟩
        · have HR : Hid (r = x - (wk : Nat)) := hr1
          clear hr1
          go_wp2
          go_roundw
          case rel => exact ⟨k + 1, r, by omega, by go_num, rfl, hr0, by show _ = _; rw [HW.out]; have h1 := HXL.out; have h2 := HR.out; omega, B2⟩
          case measure => simp [intOf]; omega
      · have e : k = xs.length := by omega
        subst e
        have HE : Hid (x = l - (xs.length + Lay.sumL Lay.node xs : Nat)) := by have := HXL.out; rw [List.take_length] at this; show _ = _; omega
        clear HXL
        go_wp2
        go_ret
        exact ⟨_, rfl, .inr ⟨hx0, HE.out⟩, hbel⟩

end Go.Proofs.Ythnppodnjokaoab
