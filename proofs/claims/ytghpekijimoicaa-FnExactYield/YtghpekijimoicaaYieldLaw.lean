/-
  The walk of the exact law of Yield over this translation, out of the contracts. No statement is proved here (the frame is in the text that imports this one).
-/
import Derived.Test.YtghpekijimoicaaSpecYield
import Derived.Test.YtghpekijimoicaaYield
import Derived.Test.YtghpekijimoicaaMarkLib
import Derived.Test.YtghpekijimoicaaHTree
import Derived.Test.YtghpekijimoicaaMTree
import Derived.Test.YtghpekijimoicaaHIntS
import Derived.Test.YtghpekijimoicaaMIntS
namespace Go.Proofs.Ytghpekijimoicaa
open Go.RowKit

set_option maxHeartbeats 4000000 in
set_option maxRecDepth 100000 in
theorem fnExactYield_law (x0 : Tr) (a0 : Option Addr) (c0 : Nat) (w : World) (h0 : RD w (.slice a0 x0.nodes.length c0) (slD Lay.node x0.nodes)) (hf0 : Lay.tree.fit x0) :
    Calls Try.prog 4 #[.agg #[.slice a0 x0.nodes.length c0]] w fun e w' => e = .returned (.bool true) ∧ Below w.heap.size w w' := by
  have HH0 : Hid (Holds w w [] []) := Holds.start w
  have H0 : Hid (RD w (.slice a0 x0.nodes.length c0) (slD Lay.node x0.nodes)) := h0
  clear h0
  have HF0 : Hid (Lay.tree.fit x0) := hf0
  have HH1 : Hid (Holds w (w.alloc (.cells #[.slice a0 x0.nodes.length c0] 24)) [(w.heap.size, [.slice a0 x0.nodes.length c0])] []) := by show Holds _ _ _ _; simpa using HH0.out.box [.slice a0 x0.nodes.length c0] 24
  clear HH0
  go_enter Try.func4, Try.ntmps4
  have q0 : (w.alloc (.cells #[.slice a0 x0.nodes.length c0] 24)).cell? ⟨w.heap.size, 0, none⟩ = some (.slice a0 x0.nodes.length c0) := HH1.out.cell (w.heap.size, [.slice a0 x0.nodes.length c0]) List.mem_cons_self 0 (by simp)
  go_wp2_with fail
  refine (szTree_l x0 a0 c0 _ _ (H0.out.later HH1.out.below) HF0.out (by omega) (by omega)).mono ?_
  rintro e w3 ⟨r0, rfl, hr0, B2⟩
  clear q0
  have HH4 : Hid (Holds w w3 [(w.heap.size, [.slice a0 x0.nodes.length c0])] []) := HH1.out.later B2
  clear HH1
  clear B2
  rcases hr0 with rfl | ⟨hr0a, hr0b⟩
  · go_wp2
    go_ret
    exact ⟨rfl, HH4.out.below⟩
  have HW0 : Hid (Lay.tree.wt x0 ≤ 1048576) := by show _ ≤ _; omega
  have hr0c : r0 ≤ 1048576 := by omega
  clear hr0b hf0
  have q0 : w3.cell? ⟨w.heap.size, 0, none⟩ = some (.slice a0 x0.nodes.length c0) := HH4.out.cell (w.heap.size, [.slice a0 x0.nodes.length c0]) List.mem_cons_self 0 (by simp)
  go_wp2_with fail
  refine (toTree_l x0 a0 c0 _ (H0.out.later HH4.out.below) (by have := HW0.out; omega)).mono ?_
  rintro e w7 ⟨a0s, c0s, S0s, rfl, O6, B5⟩
  clear q0
  have HH8 : Hid (Holds w w7 [(w.heap.size, [.slice a0 x0.nodes.length c0])] [([.slice a0s x0.nodes.length c0s], Lay.tree.cells x0)]) := HH4.out.push B5 O6
  clear HH4
  clear B5 O6
  have R9 : Hid (RD w7 (.slice a0s x0.nodes.length c0s) (slD Lay.node x0.nodes)) := HH8.out.rd ([.slice a0s x0.nodes.length c0s], Lay.tree.cells x0) List.mem_cons_self 0 (by simp) (by simp [Lay.tree])
  have q0 : w7.cell? ⟨w.heap.size, 0, none⟩ = some (.slice a0 x0.nodes.length c0) := HH8.out.cell (w.heap.size, [.slice a0 x0.nodes.length c0]) List.mem_cons_self 0 (by simp)
  go_wp2_with fail
  refine (specYield_any x0 a0s c0s _ R9.out (by have := HW0.out; omega) HF0.out).mono ?_
  rintro e w12 ⟨vW, SW, rfl, O11o, B10⟩
  clear q0
  obtain ⟨aW, cW, rfl, _⟩ := OD.shapeL O11o
  have O11 := Cells.one O11o
  clear O11o
  have HH13 : Hid (Holds w w12 [(w.heap.size, [.slice a0 x0.nodes.length c0])] [([.slice aW (resYield x0).length cW], [slD Lay.int (resYield x0)]), ([.slice a0s x0.nodes.length c0s], Lay.tree.cells x0)]) := HH8.out.push B10 O11
  clear HH8
  clear B10 O11
  clear R9
  have HH14 : Hid (Holds w w12 [(w.heap.size, [.slice a0 x0.nodes.length c0])] [([.slice aW (resYield x0).length cW], [slD Lay.int (resYield x0)])]) := Holds.drop (P := [([.slice aW (resYield x0).length cW], [slD Lay.int (resYield x0)])]) (x := ([.slice a0s x0.nodes.length c0s], Lay.tree.cells x0)) (Q := []) HH13.out
  clear HH13
  have q0 : w12.cell? ⟨w.heap.size, 0, none⟩ = some (.slice a0 x0.nodes.length c0) := HH14.out.cell (w.heap.size, [.slice a0 x0.nodes.length c0]) List.mem_cons_self 0 (by simp)
  go_wp2_with fail
  refine (toTree_l x0 a0 c0 _ (H0.out.later HH14.out.below) (by have := HW0.out; omega)).mono ?_
  rintro e w17 ⟨a0m, c0m, S0m, rfl, O16, B15⟩
  clear q0
  have HH18 : Hid (Holds w w17 [(w.heap.size, [.slice a0 x0.nodes.length c0])] [([.slice a0m x0.nodes.length c0m], Lay.tree.cells x0), ([.slice aW (resYield x0).length cW], [slD Lay.int (resYield x0)])]) := HH14.out.push B15 O16
  clear HH14
  clear B15 O16
  have HH19 : Hid (Holds w (w17.alloc (.cells #[.slice a0m x0.nodes.length c0m] 29)) [(w17.heap.size, [.slice a0m x0.nodes.length c0m]), (w.heap.size, [.slice a0 x0.nodes.length c0])] [([.slice a0m x0.nodes.length c0m], Lay.tree.cells x0), ([.slice aW (resYield x0).length cW], [slD Lay.int (resYield x0)])]) := by show Holds _ _ _ _; simpa using HH18.out.box [.slice a0m x0.nodes.length c0m] 29
  clear HH18
  have R20 : Hid (RD (w17.alloc (.cells #[.slice a0m x0.nodes.length c0m] 29)) (.slice a0m x0.nodes.length c0m) (slD Lay.node x0.nodes)) := HH19.out.rd ([.slice a0m x0.nodes.length c0m], Lay.tree.cells x0) List.mem_cons_self 0 (by simp) (by simp [Lay.tree])
  have q0 : (w17.alloc (.cells #[.slice a0m x0.nodes.length c0m] 29)).cell? ⟨w17.heap.size, 0, none⟩ = some (.slice a0m x0.nodes.length c0m) := HH19.out.cell (w17.heap.size, [.slice a0m x0.nodes.length c0m]) List.mem_cons_self 0 (by simp)
  have q1 : (w17.alloc (.cells #[.slice a0m x0.nodes.length c0m] 29)).cell? ⟨w.heap.size, 0, none⟩ = some (.slice a0 x0.nodes.length c0) := HH19.out.cell (w.heap.size, [.slice a0 x0.nodes.length c0]) (List.mem_cons_of_mem _ List.mem_cons_self) 0 (by simp)
  go_wp2_with fail
  refine (yield_any x0 a0m c0m _ R20.out (by have := HW0.out; omega) HF0.out).mono ?_
  rintro e w23 ⟨vG, SG, rfl, O22o, B21⟩
  clear q0 q1
  obtain ⟨aG, cG, rfl, _⟩ := OD.shapeL O22o
  have O22 := Cells.one O22o
  clear O22o
  have HH24 : Hid (Holds w w23 [(w17.heap.size, [.slice a0m x0.nodes.length c0m]), (w.heap.size, [.slice a0 x0.nodes.length c0])] [([.slice aG (resYield x0).length cG], [slD Lay.int (resYield x0)]), ([.slice a0m x0.nodes.length c0m], Lay.tree.cells x0), ([.slice aW (resYield x0).length cW], [slD Lay.int (resYield x0)])]) := HH19.out.push B21 O22
  clear HH19
  clear B21 O22
  clear R20
  have HRw : Hid ((Lay.list Lay.int).wt (resYield x0) ≤ 2097152) := resYield_le x0 (by have := HW0.out; omega) HF0.out
  obtain ⟨R, HRe⟩ : ∃ R, Hid (resYield x0 = R) := ⟨_, rfl⟩
  have HH25 : Hid (Holds w w23 [(w17.heap.size, [.slice a0m x0.nodes.length c0m]), (w.heap.size, [.slice a0 x0.nodes.length c0])] [([.slice aG R.length cG], [slD Lay.int R]), ([.slice a0m x0.nodes.length c0m], Lay.tree.cells x0), ([.slice aW R.length cW], [slD Lay.int R])]) := by show Holds _ _ _ _; have := HH24.out; rw [HRe.out] at this; exact this
  clear HH24
  have HRx : Hid ((Lay.list Lay.int).wt R ≤ 2097152) := by show _ ≤ _; rw [← HRe.out]; exact HRw.out
  clear HRw
  have HRw := HRx
  clear HRx
  rw [HRe.out]
  have R26 : Hid (RD w23 (.slice aG R.length cG) (slD Lay.int R)) := HH25.out.rd ([.slice aG R.length cG], [slD Lay.int R]) List.mem_cons_self 0 (by simp) (by simp)
  have R27 : Hid (RD w23 (.slice aW R.length cW) (slD Lay.int R)) := HH25.out.rd ([.slice aW R.length cW], [slD Lay.int R]) (List.mem_cons_of_mem _ (List.mem_cons_of_mem _ List.mem_cons_self)) 0 (by simp) (by simp)
  have q0 : w23.cell? ⟨w17.heap.size, 0, none⟩ = some (.slice a0m x0.nodes.length c0m) := HH25.out.cell (w17.heap.size, [.slice a0m x0.nodes.length c0m]) List.mem_cons_self 0 (by simp)
  have q1 : w23.cell? ⟨w.heap.size, 0, none⟩ = some (.slice a0 x0.nodes.length c0) := HH25.out.cell (w.heap.size, [.slice a0 x0.nodes.length c0]) (List.mem_cons_of_mem _ List.mem_cons_self) 0 (by simp)
  go_wp2_with fail
  refine (eqIntS_l R aG aW cG cW _ R26.out R27.out (by have := HRw.out; omega)).mono ?_
  rintro e w29 ⟨rfl, B28⟩
  clear q0 q1
  clear R26 R27
  have HH30 : Hid (Holds w w29 [(w17.heap.size, [.slice a0m x0.nodes.length c0m]), (w.heap.size, [.slice a0 x0.nodes.length c0])] [([.slice aG R.length cG], [slD Lay.int R]), ([.slice a0m x0.nodes.length c0m], Lay.tree.cells x0), ([.slice aW R.length cW], [slD Lay.int R])]) := HH25.out.later B28
  clear HH25
  clear B28
  have q0 : w29.cell? ⟨w17.heap.size, 0, none⟩ = some (.slice a0m x0.nodes.length c0m) := HH30.out.cell (w17.heap.size, [.slice a0m x0.nodes.length c0m]) List.mem_cons_self 0 (by simp)
  have q1 : w29.cell? ⟨w.heap.size, 0, none⟩ = some (.slice a0 x0.nodes.length c0) := HH30.out.cell (w.heap.size, [.slice a0 x0.nodes.length c0]) (List.mem_cons_of_mem _ List.mem_cons_self) 0 (by simp)
  go_wp2_with fail
  refine wp_region_held_drew (S := fun w' => Keeps w' [(w17.heap.size, [.slice a0m x0.nodes.length c0m]), (w.heap.size, [.slice a0 x0.nodes.length c0])]) (by kernel_rfl) HH30.out.boxes.drew (fun hHeld => ?_)
  refine take_atL (i := 0) (d := some 27) (v := .agg #[.slice a0m x0.nodes.length c0m]) rfl rfl (by kernel_rfl) (by kernel_rfl) (by kernel_rfl) (fun _ _ _ h => h) (by rfl) ?_ hHeld ?_
  · intro w' hSw
    have p0 : w'.cell? ⟨w17.heap.size, 0, none⟩ = some (.slice a0m x0.nodes.length c0m) := hSw (w17.heap.size, [.slice a0m x0.nodes.length c0m]) List.mem_cons_self 0 (by simp)
    go_simp; try rfl
  try simp only [Act.put, List.setIfInBounds_toArray, List.set_cons_zero, List.set_cons_succ]
  refine take_atL (i := 1) (d := some 28) (v := .agg #[.slice a0 x0.nodes.length c0]) rfl rfl (by kernel_rfl) (by kernel_rfl) (by kernel_rfl) (fun _ _ _ h => h) (by rfl) ?_ hHeld ?_
  · intro w' hSw
    have p0 : w'.cell? ⟨w.heap.size, 0, none⟩ = some (.slice a0 x0.nodes.length c0) := hSw (w.heap.size, [.slice a0 x0.nodes.length c0]) (List.mem_cons_of_mem _ List.mem_cons_self) 0 (by simp)
    go_simp; try rfl
  try simp only [Act.put, List.setIfInBounds_toArray, List.set_cons_zero, List.set_cons_succ]
  clear q0 q1
  refine wpAnyH_ready (rs := [2]) (by kernel_rfl) (by simp) ?_
  refine AllReadyH.cons (o := _) rfl (fun K hK => ?_) AllReadyH.nil
  rw [if_pos (by rfl)]
  go_simp
  refine (toTree_l x0 a0 c0 _ (H0.out.later (Below.drew HH30.out.below)) (by have := HW0.out; omega)).mono ?_
  rintro e w31 ⟨a0e, c0e, S0e, rfl, O33, B32d⟩
  have B32 : Below (w29).heap.size w29 w31 := Below.drewed (by simpa using B32d)
  clear B32d hHeld
  have HH34 : Hid (Holds w w31 [(w17.heap.size, [.slice a0m x0.nodes.length c0m]), (w.heap.size, [.slice a0 x0.nodes.length c0])] [([.slice a0e x0.nodes.length c0e], Lay.tree.cells x0), ([.slice aG R.length cG], [slD Lay.int R]), ([.slice a0m x0.nodes.length c0m], Lay.tree.cells x0), ([.slice aW R.length cW], [slD Lay.int R])]) := HH30.out.push B32 O33
  clear HH30
  clear B32 O33
  go_wp2_with fail
  refine hK.out _ _ HH34.out.boxes (fun hHeld => ?_)
  clear hK K
  try simp only [Act.put, List.setIfInBounds_toArray, List.set_cons_zero, List.set_cons_succ]
  refine wpAnyH_ready (rs := [3]) (by kernel_rfl) (by simp) ?_
  refine AllReadyH.cons (o := _) rfl (fun K hK => ?_) AllReadyH.nil
  rw [if_pos (by rfl)]
  go_simp
  have R35 : Hid (RD w31 (.slice a0m x0.nodes.length c0m) (slD Lay.node x0.nodes)) := HH34.out.rd ([.slice a0m x0.nodes.length c0m], Lay.tree.cells x0) (List.mem_cons_of_mem _ (List.mem_cons_of_mem _ List.mem_cons_self)) 0 (by simp) (by simp [Lay.tree])
  have R36 : Hid (RD w31 (.slice a0e x0.nodes.length c0e) (slD Lay.node x0.nodes)) := HH34.out.rd ([.slice a0e x0.nodes.length c0e], Lay.tree.cells x0) List.mem_cons_self 0 (by simp) (by simp [Lay.tree])
  refine (eqTree_l x0 a0m a0e c0m c0e _ R35.out R36.out (by have := HW0.out; omega)).mono ?_
  rintro e w37 ⟨rfl, B38⟩
  clear hHeld R35 R36
  have HH39 : Hid (Holds w w37 [(w17.heap.size, [.slice a0m x0.nodes.length c0m]), (w.heap.size, [.slice a0 x0.nodes.length c0])] [([.slice a0e x0.nodes.length c0e], Lay.tree.cells x0), ([.slice aG R.length cG], [slD Lay.int R]), ([.slice a0m x0.nodes.length c0m], Lay.tree.cells x0), ([.slice aW R.length cW], [slD Lay.int R])]) := HH34.out.later B38
  clear HH34
  clear B38
  have HH40 : Hid (Holds w w37 [(w17.heap.size, [.slice a0m x0.nodes.length c0m]), (w.heap.size, [.slice a0 x0.nodes.length c0])] [([.slice aG R.length cG], [slD Lay.int R]), ([.slice a0m x0.nodes.length c0m], Lay.tree.cells x0), ([.slice aW R.length cW], [slD Lay.int R])]) := Holds.drop (P := []) (x := ([.slice a0e x0.nodes.length c0e], Lay.tree.cells x0)) (Q := [([.slice aG R.length cG], [slD Lay.int R]), ([.slice a0m x0.nodes.length c0m], Lay.tree.cells x0), ([.slice aW R.length cW], [slD Lay.int R])]) HH39.out
  clear HH39
  go_wp2_with fail
  refine hK.out _ _ HH40.out.boxes (fun hHeld => ?_)
  clear hK K
  try simp only [Act.put, List.setIfInBounds_toArray, List.set_cons_zero, List.set_cons_succ]
  refine take_atL (i := 4) (d := some 31) (v := .bool false) rfl rfl (by kernel_rfl) (by kernel_rfl) (by kernel_rfl) (fun _ _ _ h => h) (by rfl) ?_ hHeld ?_
  · intro w' hSw; go_simp; try rfl
  try simp only [Act.put, List.setIfInBounds_toArray, List.set_cons_zero, List.set_cons_succ]
  refine wpAnyH_done (by kernel_rfl) ?_ _
  clear hHeld
  have hcl0 := cntTree_le x0
  obtain ⟨T41, hcT41, htT41⟩ := Holds.turn (P := [([.slice aG R.length cG], [slD Lay.int R])]) (x := ([.slice a0m x0.nodes.length c0m], Lay.tree.cells x0)) (Q := [([.slice aW R.length cW], [slD Lay.int R])]) HH40.out
  have q0 : w37.cell? ⟨w17.heap.size, 0, none⟩ = some (.slice a0m x0.nodes.length c0m) := HH40.out.cell (w17.heap.size, [.slice a0m x0.nodes.length c0m]) List.mem_cons_self 0 (by simp)
  have q1 : w37.cell? ⟨w.heap.size, 0, none⟩ = some (.slice a0 x0.nodes.length c0) := HH40.out.cell (w.heap.size, [.slice a0 x0.nodes.length c0]) (List.mem_cons_of_mem _ List.mem_cons_self) 0 (by simp)
  have HTT41 : Hid (∀ w' ds, Cells w' w.heap.size [.slice a0m x0.nodes.length c0m] ds T41 → Within w37 w' T41 → Holds w w' [(w17.heap.size, [.slice a0m x0.nodes.length c0m]), (w.heap.size, [.slice a0 x0.nodes.length c0])] ([([.slice aG R.length cG], [slD Lay.int R])] ++ ([.slice a0m x0.nodes.length c0m], ds) :: [([.slice aW R.length cW], [slD Lay.int R])])) := htT41
  clear htT41
  go_wp2_with fail
  refine (markTree_l x0 _ a0m x0.nodes.length c0m _ 1 _ hcT41 (by have := HW0.out; omega)).mono ?_
  rintro e w42 ⟨rfl, hxT41, hwT41⟩
  have HH43 : Hid (Holds w w42 [(w17.heap.size, [.slice a0m x0.nodes.length c0m]), (w.heap.size, [.slice a0 x0.nodes.length c0])] [([.slice aG R.length cG], [slD Lay.int R]), ([.slice a0m x0.nodes.length c0m], Lay.tree.cells (mkTree (1) x0)), ([.slice aW R.length cW], [slD Lay.int R])]) := HTT41.out _ _ hxT41 hwT41
  clear HH40
  clear q0 q1 HTT41 hxT41 hwT41 hcT41
  have hkb0 : 1 + cntTree x0 ≤ 6000000 := by have := HW0.out; omega
  clear hcl0
  have HH44 : Hid (Holds w w42 [(w17.heap.size, [.slice a0m x0.nodes.length c0m]), (w.heap.size, [.slice a0 x0.nodes.length c0])] [([.slice aG R.length cG], [slD Lay.int R]), ([.slice aW R.length cW], [slD Lay.int R])]) := Holds.drop (P := [([.slice aG R.length cG], [slD Lay.int R])]) (x := ([.slice a0m x0.nodes.length c0m], Lay.tree.cells (mkTree (1) x0))) (Q := [([.slice aW R.length cW], [slD Lay.int R])]) HH43.out
  clear HH43
  generalize 1 + cntTree x0 = k0 at *
  have R45 : Hid (RD w42 (.slice aG R.length cG) (slD Lay.int R)) := HH44.out.rd ([.slice aG R.length cG], [slD Lay.int R]) List.mem_cons_self 0 (by simp) (by simp)
  have R46 : Hid (RD w42 (.slice aW R.length cW) (slD Lay.int R)) := HH44.out.rd ([.slice aW R.length cW], [slD Lay.int R]) (List.mem_cons_of_mem _ List.mem_cons_self) 0 (by simp) (by simp)
  have q0 : w42.cell? ⟨w17.heap.size, 0, none⟩ = some (.slice a0m x0.nodes.length c0m) := HH44.out.cell (w17.heap.size, [.slice a0m x0.nodes.length c0m]) List.mem_cons_self 0 (by simp)
  have q1 : w42.cell? ⟨w.heap.size, 0, none⟩ = some (.slice a0 x0.nodes.length c0) := HH44.out.cell (w.heap.size, [.slice a0 x0.nodes.length c0]) (List.mem_cons_of_mem _ List.mem_cons_self) 0 (by simp)
  go_wp2_with fail
  refine (eqIntS_l R aG aW cG cW _ R45.out R46.out (by have := HRw.out; omega)).mono ?_
  rintro e w48 ⟨rfl, B47⟩
  clear q0 q1
  clear R45 R46
  have HH49 : Hid (Holds w w48 [(w17.heap.size, [.slice a0m x0.nodes.length c0m]), (w.heap.size, [.slice a0 x0.nodes.length c0])] [([.slice aG R.length cG], [slD Lay.int R]), ([.slice aW R.length cW], [slD Lay.int R])]) := HH44.out.later B47
  clear HH44
  clear B47
  have hcR := cntIntS_le R
  have hcR2 : 1 + cntIntS R ≤ 4000000 := by have := HRw.out; omega
  obtain ⟨T50, hcT50, htT50⟩ := Holds.turn (P := []) (x := ([.slice aG R.length cG], [slD Lay.int R])) (Q := [([.slice aW R.length cW], [slD Lay.int R])]) HH49.out
  have q0 : w48.cell? ⟨w17.heap.size, 0, none⟩ = some (.slice a0m x0.nodes.length c0m) := HH49.out.cell (w17.heap.size, [.slice a0m x0.nodes.length c0m]) List.mem_cons_self 0 (by simp)
  have q1 : w48.cell? ⟨w.heap.size, 0, none⟩ = some (.slice a0 x0.nodes.length c0) := HH49.out.cell (w.heap.size, [.slice a0 x0.nodes.length c0]) (List.mem_cons_of_mem _ List.mem_cons_self) 0 (by simp)
  have HTT50 : Hid (∀ w' ds, Cells w' w.heap.size [.slice aG R.length cG] ds T50 → Within w48 w' T50 → Holds w w' [(w17.heap.size, [.slice a0m x0.nodes.length c0m]), (w.heap.size, [.slice a0 x0.nodes.length c0])] ([] ++ ([.slice aG R.length cG], ds) :: [([.slice aW R.length cW], [slD Lay.int R])])) := htT50
  clear htT50
  go_wp2_with fail
  refine (markIntS_c R _ _ _ 1 _ hcT50 (by have := HRw.out; omega)).mono ?_
  rintro e w51 ⟨rfl, hxT50, hwT50⟩
  have HH52 : Hid (Holds w w51 [(w17.heap.size, [.slice a0m x0.nodes.length c0m]), (w.heap.size, [.slice a0 x0.nodes.length c0])] [([.slice aG R.length cG], [slD Lay.int (mkIntS 1 R)]), ([.slice aW R.length cW], [slD Lay.int R])]) := HTT50.out _ _ hxT50 hwT50
  clear HH49
  clear q0 q1 HTT50 hxT50 hwT50 hcT50
  obtain ⟨m, Hm⟩ : ∃ m, Hid (1 + cntIntS R = m) := ⟨_, rfl⟩
  have hm : m ≤ 4000000 := by rw [← Hm.out]; exact hcR2
  rw [Hm.out]
  clear hcR hcR2
  have R53 : Hid (RD w51 (.slice aG R.length cG) (slD Lay.int (mkIntS 1 R))) := HH52.out.rd ([.slice aG R.length cG], [slD Lay.int (mkIntS 1 R)]) List.mem_cons_self 0 (by simp) (by simp)
  have XH : Hid (Calls Try.prog 15 #[.slice aG R.length cG, .int .i64 1] w51 fun e w' => e = .returned (.int .i64 (m : Int)) ∧ Below (w51).heap.size w51 w') := by have := heldIntS_l R aG R.length cG 1 w51 R53.out (by have := HRw.out; omega); rw [Hm.out] at this; exact this
  clear R53
  have q0 : w51.cell? ⟨w17.heap.size, 0, none⟩ = some (.slice a0m x0.nodes.length c0m) := HH52.out.cell (w17.heap.size, [.slice a0m x0.nodes.length c0m]) List.mem_cons_self 0 (by simp)
  have q1 : w51.cell? ⟨w.heap.size, 0, none⟩ = some (.slice a0 x0.nodes.length c0) := HH52.out.cell (w.heap.size, [.slice a0 x0.nodes.length c0]) (List.mem_cons_of_mem _ List.mem_cons_self) 0 (by simp)
  go_wp2_with fail
  refine (XH.out).mono ?_
  rintro e w55 ⟨rfl, B54⟩
  clear q0 q1
  clear XH
  have HH56 : Hid (Holds w w55 [(w17.heap.size, [.slice a0m x0.nodes.length c0m]), (w.heap.size, [.slice a0 x0.nodes.length c0])] [([.slice aG R.length cG], [slD Lay.int (mkIntS 1 R)]), ([.slice aW R.length cW], [slD Lay.int R])]) := HH52.out.later B54
  clear HH52
  clear B54
  have q0 : w55.cell? ⟨w17.heap.size, 0, none⟩ = some (.slice a0m x0.nodes.length c0m) := HH56.out.cell (w17.heap.size, [.slice a0m x0.nodes.length c0m]) List.mem_cons_self 0 (by simp)
  have q1 : w55.cell? ⟨w.heap.size, 0, none⟩ = some (.slice a0 x0.nodes.length c0) := HH56.out.cell (w.heap.size, [.slice a0 x0.nodes.length c0]) (List.mem_cons_of_mem _ List.mem_cons_self) 0 (by simp)
  go_wp2_with fail
  refine (toTree_l x0 a0 c0 _ (H0.out.later HH56.out.below) (by have := HW0.out; omega)).mono ?_
  rintro e w59 ⟨a0h, c0h, S0h, rfl, O58, B57⟩
  clear q0 q1
  have HH60 : Hid (Holds w w59 [(w17.heap.size, [.slice a0m x0.nodes.length c0m]), (w.heap.size, [.slice a0 x0.nodes.length c0])] [([.slice a0h x0.nodes.length c0h], Lay.tree.cells x0), ([.slice aG R.length cG], [slD Lay.int (mkIntS 1 R)]), ([.slice aW R.length cW], [slD Lay.int R])]) := HH56.out.push B57 O58
  clear HH56
  clear B57 O58
  have R61 : Hid (RD w59 (.slice a0h x0.nodes.length c0h) (slD Lay.node x0.nodes)) := HH60.out.rd ([.slice a0h x0.nodes.length c0h], Lay.tree.cells x0) List.mem_cons_self 0 (by simp) (by simp [Lay.tree])
  have q0 : w59.cell? ⟨w17.heap.size, 0, none⟩ = some (.slice a0m x0.nodes.length c0m) := HH60.out.cell (w17.heap.size, [.slice a0m x0.nodes.length c0m]) List.mem_cons_self 0 (by simp)
  have q1 : w59.cell? ⟨w.heap.size, 0, none⟩ = some (.slice a0 x0.nodes.length c0) := HH60.out.cell (w.heap.size, [.slice a0 x0.nodes.length c0]) (List.mem_cons_of_mem _ List.mem_cons_self) 0 (by simp)
  go_wp2_with fail
  refine (yield_any x0 a0h c0h _ R61.out (by have := HW0.out; omega) HF0.out).mono ?_
  rintro e w64 ⟨vH, SH, rfl, O63o, B62⟩
  clear q0 q1
  rw [HRe.out] at O63o
  obtain ⟨aH, cH, rfl, _⟩ := OD.shapeL O63o
  have O63 := Cells.one O63o
  clear O63o
  have HH65 : Hid (Holds w w64 [(w17.heap.size, [.slice a0m x0.nodes.length c0m]), (w.heap.size, [.slice a0 x0.nodes.length c0])] [([.slice aH R.length cH], [slD Lay.int R]), ([.slice a0h x0.nodes.length c0h], Lay.tree.cells x0), ([.slice aG R.length cG], [slD Lay.int (mkIntS 1 R)]), ([.slice aW R.length cW], [slD Lay.int R])]) := HH60.out.push B62 O63
  clear HH60
  clear B62 O63
  clear R61
  have HH66 : Hid (Holds w w64 [(w17.heap.size, [.slice a0m x0.nodes.length c0m]), (w.heap.size, [.slice a0 x0.nodes.length c0])] [([.slice aH R.length cH], [slD Lay.int R]), ([.slice aG R.length cG], [slD Lay.int (mkIntS 1 R)]), ([.slice aW R.length cW], [slD Lay.int R])]) := Holds.drop (P := [([.slice aH R.length cH], [slD Lay.int R])]) (x := ([.slice a0h x0.nodes.length c0h], Lay.tree.cells x0)) (Q := [([.slice aG R.length cG], [slD Lay.int (mkIntS 1 R)]), ([.slice aW R.length cW], [slD Lay.int R])]) HH65.out
  clear HH65
  have R67 : Hid (RD w64 (.slice aH R.length cH) (slD Lay.int R)) := HH66.out.rd ([.slice aH R.length cH], [slD Lay.int R]) List.mem_cons_self 0 (by simp) (by simp)
  have R68 : Hid (RD w64 (.slice aW R.length cW) (slD Lay.int R)) := HH66.out.rd ([.slice aW R.length cW], [slD Lay.int R]) (List.mem_cons_of_mem _ (List.mem_cons_of_mem _ List.mem_cons_self)) 0 (by simp) (by simp)
  have q0 : w64.cell? ⟨w17.heap.size, 0, none⟩ = some (.slice a0m x0.nodes.length c0m) := HH66.out.cell (w17.heap.size, [.slice a0m x0.nodes.length c0m]) List.mem_cons_self 0 (by simp)
  have q1 : w64.cell? ⟨w.heap.size, 0, none⟩ = some (.slice a0 x0.nodes.length c0) := HH66.out.cell (w.heap.size, [.slice a0 x0.nodes.length c0]) (List.mem_cons_of_mem _ List.mem_cons_self) 0 (by simp)
  go_wp2_with fail
  refine (eqIntS_l R aH aW cH cW _ R67.out R68.out (by have := HRw.out; omega)).mono ?_
  rintro e w70 ⟨rfl, B69⟩
  clear q0 q1
  clear R67 R68
  have HH71 : Hid (Holds w w70 [(w17.heap.size, [.slice a0m x0.nodes.length c0m]), (w.heap.size, [.slice a0 x0.nodes.length c0])] [([.slice aH R.length cH], [slD Lay.int R]), ([.slice aG R.length cG], [slD Lay.int (mkIntS 1 R)]), ([.slice aW R.length cW], [slD Lay.int R])]) := HH66.out.later B69
  clear HH66
  clear B69
  have R72 : Hid (RD w70 (.slice aG R.length cG) (slD Lay.int (mkIntS 1 R))) := HH71.out.rd ([.slice aG R.length cG], [slD Lay.int (mkIntS 1 R)]) (List.mem_cons_of_mem _ List.mem_cons_self) 0 (by simp) (by simp)
  have XH : Hid (Calls Try.prog 15 #[.slice aG R.length cG, .int .i64 1] w70 fun e w' => e = .returned (.int .i64 (m : Int)) ∧ Below (w70).heap.size w70 w') := by have := heldIntS_l R aG R.length cG 1 w70 R72.out (by have := HRw.out; omega); rw [Hm.out] at this; exact this
  clear R72
  have q0 : w70.cell? ⟨w17.heap.size, 0, none⟩ = some (.slice a0m x0.nodes.length c0m) := HH71.out.cell (w17.heap.size, [.slice a0m x0.nodes.length c0m]) List.mem_cons_self 0 (by simp)
  have q1 : w70.cell? ⟨w.heap.size, 0, none⟩ = some (.slice a0 x0.nodes.length c0) := HH71.out.cell (w.heap.size, [.slice a0 x0.nodes.length c0]) (List.mem_cons_of_mem _ List.mem_cons_self) 0 (by simp)
  go_wp2_with fail
  refine (XH.out).mono ?_
  rintro e w74 ⟨rfl, B73⟩
  clear q0 q1
  clear XH
  have HH75 : Hid (Holds w w74 [(w17.heap.size, [.slice a0m x0.nodes.length c0m]), (w.heap.size, [.slice a0 x0.nodes.length c0])] [([.slice aH R.length cH], [slD Lay.int R]), ([.slice aG R.length cG], [slD Lay.int (mkIntS 1 R)]), ([.slice aW R.length cW], [slD Lay.int R])]) := HH71.out.later B73
  clear HH71
  clear B73
  go_wp2
  go_ret
  exact ⟨rfl, HH75.out.below⟩
end Go.Proofs.Ytghpekijimoicaa
