/-
  Contracts of the law package's markRun and heldRun over this translation. No statement is proved here.
-/
import Derived.Test.YthnppodnjokaoabHRun
import Derived.Test.YthnppodnjokaoabMSlotS
import Derived.Test.YthnppodnjokaoabMTree
import Derived.Test.YthnppodnjokaoabMErrS
import Derived.Test.YthnppodnjokaoabCellsLib
namespace Go.Proofs.Ythnppodnjokaoab
open Go.RowKit

def cntRun (x : Rn) : Nat := cntSlotS x.slots + cntTree x.tree + cntErrS x.errs
def mkRun (k : Nat) (x : Rn) : Rn := ⟨x.code, x.pl, x.look, x.cost, mkSlotS (k) x.slots, mkTree (k + cntSlotS x.slots) x.tree, mkErrS (k + cntSlotS x.slots + cntTree x.tree) x.errs⟩
theorem cntRun_le (x : Rn) : cntRun x ≤ 5 * Lay.run.wt x := by
  have h0 := cntSlotS_le x.slots
  have h1 := cntTree_le x.tree
  have h2 := cntErrS_le x.errs
  rw [Lay_run_split]
  unfold cntRun
  omega
set_option maxRecDepth 100000 in
theorem markRun_l (x : Rn) (base : Nat) (a4 : Option Addr) (n4 c4 : Nat) (a5 : Option Addr) (n5 c5 : Nat) (a6 : Option Addr) (n6 c6 : Nat) (S : Nat → Prop) (k : Nat) (w : World) (h : Cells w base [.int .i64 x.code, .int .i64 x.pl, .int .i64 x.look, .int .i64 x.cost, .slice a4 n4 c4, .slice a5 n5 c5, .slice a6 n6 c6] (Lay.run.cells x) S) (hk : k + 5 * Lay.run.wt x ≤ 8388608) :
    Calls Try.prog 8 #[.agg #[.int .i64 x.code, .int .i64 x.pl, .int .i64 x.look, .int .i64 x.cost, .slice a4 n4 c4, .slice a5 n5 c5, .slice a6 n6 c6], .int .i64 (k : Int)] w fun e w' => e = .returned (.int .i64 ((k + cntRun x : Nat) : Int)) ∧ Cells w' base [.int .i64 x.code, .int .i64 x.pl, .int .i64 x.look, .int .i64 x.cost, .slice a4 n4 c4, .slice a5 n5 c5, .slice a6 n6 c6] (Lay.run.cells (mkRun k x)) S ∧ Within w w' S := by
  rw [Lay_run_split] at hk
  have B := (Below.refl w.heap.size w).alloc (Nat.le_refl _) (.cells #[.int .i64 x.code, .int .i64 x.pl, .int .i64 x.look, .int .i64 x.cost, .slice a4 n4 c4, .slice a5 n5 c5, .slice a6 n6 c6] 28)
  have hE0 : Ents w base [([.int .i64 x.code, .int .i64 x.pl, .int .i64 x.look, .int .i64 x.cost], [.val (.int .i64 x.code), .val (.int .i64 x.pl), .val (.int .i64 x.look), .val (.int .i64 x.cost)]), ([.slice a4 n4 c4], [slD Lay.slot x.slots]), ([.slice a5 n5 c5], [slD Lay.node x.tree.nodes]), ([.slice a6 n6 c6], [slD Lay.err x.errs])] S := Ents.ofCells (by intro y hy; simp only [List.mem_cons, List.not_mem_nil, or_false] at hy; rcases hy with rfl | rfl | rfl | rfl <;> rfl) h
  have HE0 : Hid (Ents (w.alloc (.cells #[.int .i64 x.code, .int .i64 x.pl, .int .i64 x.look, .int .i64 x.cost, .slice a4 n4 c4, .slice a5 n5 c5, .slice a6 n6 c6] 28)) base [([.int .i64 x.code, .int .i64 x.pl, .int .i64 x.look, .int .i64 x.cost], [.val (.int .i64 x.code), .val (.int .i64 x.pl), .val (.int .i64 x.look), .val (.int .i64 x.cost)]), ([.slice a4 n4 c4], [slD Lay.slot x.slots]), ([.slice a5 n5 c5], [slD Lay.node x.tree.nodes]), ([.slice a6 n6 c6], [slD Lay.err x.errs])] S) := hE0.later B
  have HW0 : Hid (Within w (w.alloc (.cells #[.int .i64 x.code, .int .i64 x.pl, .int .i64 x.look, .int .i64 x.cost, .slice a4 n4 c4, .slice a5 n5 c5, .slice a6 n6 c6] 28)) S) := Within.of_below B _
  have hle0 := cntSlotS_le x.slots
  have hle1 := cntTree_le x.tree
  have hle2 := cntErrS_le x.errs
  have HNS : Hid (∀ k, S k → k ≠ w.heap.size) := fun k hk e => by have := (h.lt k hk).2; omega
  clear h hE0
  have X0 : Hid (∀ (W : World) (T : Nat → Prop), Cells W base [.slice a4 n4 c4] [slD Lay.slot x.slots] T → Calls Try.prog 17 #[.slice a4 n4 c4, .int .i64 ((k : Nat) : Int)] W fun e w' => e = .returned (.int .i64 ((k + cntSlotS x.slots : Nat) : Int)) ∧ Cells w' base [.slice a4 n4 c4] [slD Lay.slot (mkSlotS (k) x.slots)] T ∧ Within W w' T) := fun W T hc => by
    refine (markSlotS_l x.slots base _ T (k) W hc.od (by omega)).mono ?_
    rintro e w' ⟨rfl, h1, h2⟩
    exact ⟨rfl, Cells.one h1, h2⟩
  have X1 : Hid (∀ (W : World) (T : Nat → Prop), Cells W base [.slice a5 n5 c5] [slD Lay.node x.tree.nodes] T → Calls Try.prog 18 #[.agg #[.slice a5 n5 c5], .int .i64 ((k + cntSlotS x.slots : Nat) : Int)] W fun e w' => e = .returned (.int .i64 ((k + cntSlotS x.slots + cntTree x.tree : Nat) : Int)) ∧ Cells w' base [.slice a5 n5 c5] [slD Lay.node (mkTree (k + cntSlotS x.slots) x.tree).nodes] T ∧ Within W w' T) := fun W T hc =>
    markTree_l x.tree base a5 n5 c5 T (k + cntSlotS x.slots) W hc (by omega)
  have X2 : Hid (∀ (W : World) (T : Nat → Prop), Cells W base [.slice a6 n6 c6] [slD Lay.err x.errs] T → Calls Try.prog 19 #[.slice a6 n6 c6, .int .i64 ((k + cntSlotS x.slots + cntTree x.tree : Nat) : Int)] W fun e w' => e = .returned (.int .i64 ((k + cntSlotS x.slots + cntTree x.tree + cntErrS x.errs : Nat) : Int)) ∧ Cells w' base [.slice a6 n6 c6] [slD Lay.err (mkErrS (k + cntSlotS x.slots + cntTree x.tree) x.errs)] T ∧ Within W w' T) := fun W T hc => by
    refine (markErrS_l x.errs base _ T (k + cntSlotS x.slots + cntTree x.tree) W hc.od (by omega)).mono ?_
    rintro e w' ⟨rfl, h1, h2⟩
    exact ⟨rfl, Cells.one h1, h2⟩
  have FIN : Hid (∀ W, Ents W base [([.int .i64 x.code, .int .i64 x.pl, .int .i64 x.look, .int .i64 x.cost], [.val (.int .i64 x.code), .val (.int .i64 x.pl), .val (.int .i64 x.look), .val (.int .i64 x.cost)]), ([.slice a4 n4 c4], [slD Lay.slot (mkSlotS (k) x.slots)]), ([.slice a5 n5 c5], [slD Lay.node (mkTree (k + cntSlotS x.slots) x.tree).nodes]), ([.slice a6 n6 c6], [slD Lay.err (mkErrS (k + cntSlotS x.slots + cntTree x.tree) x.errs)])] S → Cells W base [.int .i64 x.code, .int .i64 x.pl, .int .i64 x.look, .int .i64 x.cost, .slice a4 n4 c4, .slice a5 n5 c5, .slice a6 n6 c6] (Lay.run.cells (mkRun k x)) S) := fun W h => h.cells
  have HCN : Hid (k + cntRun x = k + cntSlotS x.slots + cntTree x.tree + cntErrS x.errs) := by show _ = _; unfold cntRun; omega
  rw [HCN.out]
  clear HCN
  generalize Lay.run.cells (mkRun k x) = CX at *
  generalize mkSlotS (k) x.slots = M4 at *
  generalize (mkTree (k + cntSlotS x.slots) x.tree).nodes = M5 at *
  generalize mkErrS (k + cntSlotS x.slots + cntTree x.tree) x.errs = M6 at *
  obtain ⟨k3, hk3⟩ : ∃ z, z = k + cntSlotS x.slots + cntTree x.tree + cntErrS x.errs := ⟨_, rfl⟩
  obtain ⟨k2, hk2⟩ : ∃ z, z = k + cntSlotS x.slots + cntTree x.tree := ⟨_, rfl⟩
  obtain ⟨k1, hk1⟩ : ∃ z, z = k + cntSlotS x.slots := ⟨_, rfl⟩
  have hkb1 : k1 ≤ 8388608 := by rw [hk1]; omega
  have hkb2 : k2 ≤ 8388608 := by rw [hk2]; omega
  have hkb3 : k3 ≤ 8388608 := by rw [hk3]; omega
  rw [← hk3] at X2 ⊢
  rw [← hk2] at X1 X2
  rw [← hk1] at X0 X1
  clear hk1 hk2 hk3 hle0 hle1 hle2
  have hkb0 : k ≤ 8388608 := by omega
  clear hk
  generalize x.code = v0 at *
  generalize x.pl = v1 at *
  generalize x.look = v2 at *
  generalize x.cost = v3 at *
  generalize x.slots = y4 at *
  generalize x.tree.nodes = y5 at *
  generalize x.errs = y6 at *
  go_enter Try.func8, Try.ntmps8
  obtain ⟨T0, hc0, hT0, hp0⟩ := Ents.turn (P := [([.int .i64 v0, .int .i64 v1, .int .i64 v2, .int .i64 v3], [.val (.int .i64 v0), .val (.int .i64 v1), .val (.int .i64 v2), .val (.int .i64 v3)])]) (x := ([.slice a4 n4 c4], [slD Lay.slot y4])) (Q := [([.slice a5 n5 c5], [slD Lay.node y5]), ([.slice a6 n6 c6], [slD Lay.err y6])]) HE0.out
  have HP0 := hid hp0
  clear hp0
  go_wp2_with fail
  refine (X0.out _ T0 hc0).mono ?_
  rintro e w1 ⟨rfl, hx0, hy0⟩
  have HE1 := hid (HP0.out _ _ hx0 hy0)
  have HW1 := hid (HW0.out.trans (hy0.mono hT0))
  have l1 : w.heap.size < w1.heap.size := by have := hy0.size; simp at this; omega
  have q5 : w1.cell? ⟨w.heap.size, 5, none⟩ = some (.slice a5 n5 c5) := (World.cell?_of_block (a := ⟨w.heap.size, 5, none⟩) (hy0.block w.heap.size (by simp) (fun e => HNS.out _ (hT0 _ e) rfl))).trans (by simp)
  have q6 : w1.cell? ⟨w.heap.size, 6, none⟩ = some (.slice a6 n6 c6) := (World.cell?_of_block (a := ⟨w.heap.size, 6, none⟩) (hy0.block w.heap.size (by simp) (fun e => HNS.out _ (hT0 _ e) rfl))).trans (by simp)
  clear X0 HE0 HW0 HP0 hx0 hc0
  obtain ⟨T1, hc1, hT1, hp1⟩ := Ents.turn (P := [([.int .i64 v0, .int .i64 v1, .int .i64 v2, .int .i64 v3], [.val (.int .i64 v0), .val (.int .i64 v1), .val (.int .i64 v2), .val (.int .i64 v3)]), ([.slice a4 n4 c4], [slD Lay.slot M4])]) (x := ([.slice a5 n5 c5], [slD Lay.node y5])) (Q := [([.slice a6 n6 c6], [slD Lay.err y6])]) HE1.out
  have HP1 := hid hp1
  clear hp1
  go_wp2_with fail
  refine (X1.out _ T1 hc1).mono ?_
  rintro e w2 ⟨rfl, hx1, hy1⟩
  have HE2 := hid (HP1.out _ _ hx1 hy1)
  have HW2 := hid (HW1.out.trans (hy1.mono hT1))
  have l2 : w.heap.size < w2.heap.size := by have := hy1.size; omega
  replace q6 : w2.cell? ⟨w.heap.size, 6, none⟩ = some (.slice a6 n6 c6) := (World.cell?_of_block (a := ⟨w.heap.size, 6, none⟩) (hy1.block w.heap.size (by omega) (fun e => HNS.out _ (hT1 _ e) rfl))).trans q6
  clear X1 HE1 HW1 HP1 hx1 hc1
  obtain ⟨T2, hc2, hT2, hp2⟩ := Ents.turn (P := [([.int .i64 v0, .int .i64 v1, .int .i64 v2, .int .i64 v3], [.val (.int .i64 v0), .val (.int .i64 v1), .val (.int .i64 v2), .val (.int .i64 v3)]), ([.slice a4 n4 c4], [slD Lay.slot M4]), ([.slice a5 n5 c5], [slD Lay.node M5])]) (x := ([.slice a6 n6 c6], [slD Lay.err y6])) (Q := []) HE2.out
  have HP2 := hid hp2
  clear hp2
  go_wp2_with fail
  refine (X2.out _ T2 hc2).mono ?_
  rintro e w3 ⟨rfl, hx2, hy2⟩
  have HE3 := hid (HP2.out _ _ hx2 hy2)
  have HW3 := hid (HW2.out.trans (hy2.mono hT2))
  have l3 : w.heap.size < w3.heap.size := by have := hy2.size; omega
  clear X2 HE2 HW2 HP2 hx2 hc2
  go_wp2
  go_ret
  exact ⟨rfl, FIN.out _ HE3.out, HW3.out⟩
set_option maxRecDepth 100000 in
theorem heldRun_l (x : Rn) (a4 : Option Addr) (n4 c4 : Nat) (a5 : Option Addr) (n5 c5 : Nat) (a6 : Option Addr) (n6 c6 : Nat) (k : Nat) (w : World) (h4 : RD w (.slice a4 n4 c4) (slD Lay.slot (mkRun k x).slots)) (h5 : RD w (.slice a5 n5 c5) (slD Lay.node (mkRun k x).tree.nodes)) (h6 : RD w (.slice a6 n6 c6) (slD Lay.err (mkRun k x).errs)) (hk : k + 5 * Lay.run.wt x ≤ 8388608) :
    Calls Try.prog 9 #[.agg #[.int .i64 x.code, .int .i64 x.pl, .int .i64 x.look, .int .i64 x.cost, .slice a4 n4 c4, .slice a5 n5 c5, .slice a6 n6 c6], .int .i64 (k : Int)] w fun e w' => e = .returned (.int .i64 ((k + cntRun x : Nat) : Int)) ∧ Below w.heap.size w w' := by
  rw [Lay_run_split] at hk
  have B := (Below.refl w.heap.size w).alloc (Nat.le_refl _) (.cells #[.int .i64 x.code, .int .i64 x.pl, .int .i64 x.look, .int .i64 x.cost, .slice a4 n4 c4, .slice a5 n5 c5, .slice a6 n6 c6] 28)
  have hle0 := cntSlotS_le x.slots
  have hle1 := cntTree_le x.tree
  have hle2 := cntErrS_le x.errs
  have X0 : Hid (∀ (W : World), Below w.heap.size w W → Calls Try.prog 20 #[.slice a4 n4 c4, .int .i64 ((k : Nat) : Int)] W fun e w' => e = .returned (.int .i64 ((k + cntSlotS x.slots : Nat) : Int)) ∧ Below W.heap.size W w') := fun W hW =>
    heldSlotS_l x.slots a4 n4 c4 (k) W (h4.later hW) (by omega)
  have X1 : Hid (∀ (W : World), Below w.heap.size w W → Calls Try.prog 21 #[.agg #[.slice a5 n5 c5], .int .i64 ((k + cntSlotS x.slots : Nat) : Int)] W fun e w' => e = .returned (.int .i64 ((k + cntSlotS x.slots + cntTree x.tree : Nat) : Int)) ∧ Below W.heap.size W w') := fun W hW =>
    heldTree_l x.tree a5 n5 c5 (k + cntSlotS x.slots) W (h5.later hW) (by omega)
  have X2 : Hid (∀ (W : World), Below w.heap.size w W → Calls Try.prog 22 #[.slice a6 n6 c6, .int .i64 ((k + cntSlotS x.slots + cntTree x.tree : Nat) : Int)] W fun e w' => e = .returned (.int .i64 ((k + cntSlotS x.slots + cntTree x.tree + cntErrS x.errs : Nat) : Int)) ∧ Below W.heap.size W w') := fun W hW =>
    heldErrS_l x.errs a6 n6 c6 (k + cntSlotS x.slots + cntTree x.tree) W (h6.later hW) (by omega)
  have HCN : Hid (k + cntRun x = k + cntSlotS x.slots + cntTree x.tree + cntErrS x.errs) := by show _ = _; unfold cntRun; omega
  rw [HCN.out]
  clear HCN h4 h5 h6
  obtain ⟨k3, hk3⟩ : ∃ z, z = k + cntSlotS x.slots + cntTree x.tree + cntErrS x.errs := ⟨_, rfl⟩
  obtain ⟨k2, hk2⟩ : ∃ z, z = k + cntSlotS x.slots + cntTree x.tree := ⟨_, rfl⟩
  obtain ⟨k1, hk1⟩ : ∃ z, z = k + cntSlotS x.slots := ⟨_, rfl⟩
  have hkb1 : k1 ≤ 8388608 := by rw [hk1]; omega
  have hkb2 : k2 ≤ 8388608 := by rw [hk2]; omega
  have hkb3 : k3 ≤ 8388608 := by rw [hk3]; omega
  rw [← hk3] at X2 ⊢
  rw [← hk2] at X1 X2
  rw [← hk1] at X0 X1
  clear hk1 hk2 hk3 hle0 hle1 hle2
  have hkb0 : k ≤ 8388608 := by omega
  clear hk
  generalize x.code = v0 at *
  generalize x.pl = v1 at *
  generalize x.look = v2 at *
  generalize x.cost = v3 at *
  go_enter Try.func9, Try.ntmps9
  go_wp2_with fail
  refine (X0.out _ B).mono ?_
  rintro e w1 ⟨rfl, hb0⟩
  have B1 := B.trans (hb0.mono B.size)
  obtain ⟨hc, _⟩ := bcellH hb0
  simp only [World.size_alloc] at hc
  have q5 : w1.cell? ⟨w.heap.size, 5, none⟩ = some (.slice a5 n5 c5) := (hc w.heap.size 5 (by omega)).trans (by simp)
  have q6 : w1.cell? ⟨w.heap.size, 6, none⟩ = some (.slice a6 n6 c6) := (hc w.heap.size 6 (by omega)).trans (by simp)
  clear X0 hc
  go_wp2_with fail
  refine (X1.out _ B1).mono ?_
  rintro e w2 ⟨rfl, hb1⟩
  have B2 := B1.trans (hb1.mono B1.size)
  replace q6 := cell_kept hb1 q6
  clear X1
  go_wp2_with fail
  refine (X2.out _ B2).mono ?_
  rintro e w3 ⟨rfl, hb2⟩
  have B3 := B2.trans (hb2.mono B2.size)
  clear X2
  go_wp2
  go_ret
  exact ⟨rfl, B3⟩

end Go.Proofs.Ythnppodnjokaoab
