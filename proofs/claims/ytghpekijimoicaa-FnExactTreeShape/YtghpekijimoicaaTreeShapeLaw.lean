/-
  The walk of the exact law of TreeShape over this translation, out of the contracts. No statement is proved here (the frame is in the text that imports this one).
-/
import Derived.Test.YtghpekijimoicaaSpecTreeShape
import Derived.Test.YtghpekijimoicaaTreeShape
import Derived.Test.YtghpekijimoicaaMarkLib
import Derived.Test.YtghpekijimoicaaHTree
import Derived.Test.YtghpekijimoicaaMTree
namespace Go.Proofs.Ytghpekijimoicaa
open Go.RowKit

set_option maxHeartbeats 4000000 in
set_option maxRecDepth 100000 in
theorem fnExactTreeShape_law (x0 : Tr) (a0 : Option Addr) (c0 : Nat) (w : World) (h0 : RD w (.slice a0 x0.nodes.length c0) (slD Lay.node x0.nodes)) (hf0 : Lay.tree.fit x0) :
    Calls Try.prog 3 #[.agg #[.slice a0 x0.nodes.length c0]] w fun e w' => e = .returned (.bool true) ∧ Below w.heap.size w w' := by
  have HH0 : Hid (Holds w w [] []) := Holds.start w
  have H0 : Hid (RD w (.slice a0 x0.nodes.length c0) (slD Lay.node x0.nodes)) := h0
  clear h0
  have HF0 : Hid (Lay.tree.fit x0) := hf0
  have HH1 : Hid (Holds w (w.alloc (.cells #[.slice a0 x0.nodes.length c0] 24)) [(w.heap.size, [.slice a0 x0.nodes.length c0])] []) := by show Holds _ _ _ _; simpa using HH0.out.box [.slice a0 x0.nodes.length c0] 24
  clear HH0
  go_enter Try.func3, Try.ntmps3
  have q0 : (w.alloc (.cells #[.slice a0 x0.nodes.length c0] 24)).cell? ⟨w.heap.size, 0, none⟩ = some (.slice a0 x0.nodes.length c0) := HH1.out.cell (w.heap.size, [.slice a0 x0.nodes.length c0]) List.mem_cons_self 0 (by simp)
  go_wp2_with fail
  refine (szTree_l x0 a0 c0 _ _ (H0.out.later HH1.out.below) HF0.out (by omega) (by omega)).mono ?_
  rintro e w3 ⟨r0, rfl, hr0, B2⟩
  clear q0
  have HH4 : Hid (Holds w w3 [(w.heap.size, [.slice a0 x0.nodes.length c0])] []) := HH1.out.later B2
  clear HH1
  clear B2
  rcases hr0 with rfl | ⟨hr0a, hr0b⟩
  · go_wp2
    go_ret
    exact ⟨rfl, HH4.out.below⟩
  have HW0 : Hid (Lay.tree.wt x0 ≤ 1048576) := by show _ ≤ _; omega
  have hr0c : r0 ≤ 1048576 := by omega
  clear hr0b hf0
  have q0 : w3.cell? ⟨w.heap.size, 0, none⟩ = some (.slice a0 x0.nodes.length c0) := HH4.out.cell (w.heap.size, [.slice a0 x0.nodes.length c0]) List.mem_cons_self 0 (by simp)
  go_wp2_with fail
  refine (toTree_l x0 a0 c0 _ (H0.out.later HH4.out.below) (by have := HW0.out; omega)).mono ?_
  rintro e w7 ⟨a0s, c0s, S0s, rfl, O6, B5⟩
  clear q0
  have HH8 : Hid (Holds w w7 [(w.heap.size, [.slice a0 x0.nodes.length c0])] [([.slice a0s x0.nodes.length c0s], Lay.tree.cells x0)]) := HH4.out.push B5 O6
  clear HH4
  clear B5 O6
  have R9 : Hid (RD w7 (.slice a0s x0.nodes.length c0s) (slD Lay.node x0.nodes)) := HH8.out.rd ([.slice a0s x0.nodes.length c0s], Lay.tree.cells x0) List.mem_cons_self 0 (by simp) (by simp [Lay.tree])
  have q0 : w7.cell? ⟨w.heap.size, 0, none⟩ = some (.slice a0 x0.nodes.length c0) := HH8.out.cell (w.heap.size, [.slice a0 x0.nodes.length c0]) List.mem_cons_self 0 (by simp)
  go_wp2_with fail
  refine (specTreeShape_any x0 a0s c0s _ R9.out (by have := HW0.out; omega) HF0.out).mono ?_
  rintro e w11 ⟨rfl, B10⟩
  clear q0
  have HH12 : Hid (Holds w w11 [(w.heap.size, [.slice a0 x0.nodes.length c0])] [([.slice a0s x0.nodes.length c0s], Lay.tree.cells x0)]) := HH8.out.later B10
  clear HH8
  clear B10
  clear R9
  have HH13 : Hid (Holds w w11 [(w.heap.size, [.slice a0 x0.nodes.length c0])] []) := Holds.drop (P := []) (x := ([.slice a0s x0.nodes.length c0s], Lay.tree.cells x0)) (Q := []) HH12.out
  clear HH12
  have q0 : w11.cell? ⟨w.heap.size, 0, none⟩ = some (.slice a0 x0.nodes.length c0) := HH13.out.cell (w.heap.size, [.slice a0 x0.nodes.length c0]) List.mem_cons_self 0 (by simp)
  go_wp2_with fail
  refine (toTree_l x0 a0 c0 _ (H0.out.later HH13.out.below) (by have := HW0.out; omega)).mono ?_
  rintro e w16 ⟨a0m, c0m, S0m, rfl, O15, B14⟩
  clear q0
  have HH17 : Hid (Holds w w16 [(w.heap.size, [.slice a0 x0.nodes.length c0])] [([.slice a0m x0.nodes.length c0m], Lay.tree.cells x0)]) := HH13.out.push B14 O15
  clear HH13
  clear B14 O15
  have HH18 : Hid (Holds w (w16.alloc (.cells #[.slice a0m x0.nodes.length c0m] 29)) [(w16.heap.size, [.slice a0m x0.nodes.length c0m]), (w.heap.size, [.slice a0 x0.nodes.length c0])] [([.slice a0m x0.nodes.length c0m], Lay.tree.cells x0)]) := by show Holds _ _ _ _; simpa using HH17.out.box [.slice a0m x0.nodes.length c0m] 29
  clear HH17
  have R19 : Hid (RD (w16.alloc (.cells #[.slice a0m x0.nodes.length c0m] 29)) (.slice a0m x0.nodes.length c0m) (slD Lay.node x0.nodes)) := HH18.out.rd ([.slice a0m x0.nodes.length c0m], Lay.tree.cells x0) List.mem_cons_self 0 (by simp) (by simp [Lay.tree])
  have q0 : (w16.alloc (.cells #[.slice a0m x0.nodes.length c0m] 29)).cell? ⟨w16.heap.size, 0, none⟩ = some (.slice a0m x0.nodes.length c0m) := HH18.out.cell (w16.heap.size, [.slice a0m x0.nodes.length c0m]) List.mem_cons_self 0 (by simp)
  have q1 : (w16.alloc (.cells #[.slice a0m x0.nodes.length c0m] 29)).cell? ⟨w.heap.size, 0, none⟩ = some (.slice a0 x0.nodes.length c0) := HH18.out.cell (w.heap.size, [.slice a0 x0.nodes.length c0]) (List.mem_cons_of_mem _ List.mem_cons_self) 0 (by simp)
  go_wp2_with fail
  refine (treeShape_any x0 a0m c0m _ R19.out (by have := HW0.out; omega) HF0.out).mono ?_
  rintro e w21 ⟨rfl, B20⟩
  clear q0 q1
  have HH22 : Hid (Holds w w21 [(w16.heap.size, [.slice a0m x0.nodes.length c0m]), (w.heap.size, [.slice a0 x0.nodes.length c0])] [([.slice a0m x0.nodes.length c0m], Lay.tree.cells x0)]) := HH18.out.later B20
  clear HH18
  clear B20
  clear R19
  generalize resTreeShape x0 = T at *
  have hTT : (T != T) = false := by simp
  have q0 : w21.cell? ⟨w16.heap.size, 0, none⟩ = some (.slice a0m x0.nodes.length c0m) := HH22.out.cell (w16.heap.size, [.slice a0m x0.nodes.length c0m]) List.mem_cons_self 0 (by simp)
  have q1 : w21.cell? ⟨w.heap.size, 0, none⟩ = some (.slice a0 x0.nodes.length c0) := HH22.out.cell (w.heap.size, [.slice a0 x0.nodes.length c0]) (List.mem_cons_of_mem _ List.mem_cons_self) 0 (by simp)
  go_wp2_with fail
  refine wp_region_held_drew (S := fun w' => Keeps w' [(w16.heap.size, [.slice a0m x0.nodes.length c0m]), (w.heap.size, [.slice a0 x0.nodes.length c0])]) (by kernel_rfl) HH22.out.boxes.drew (fun hHeld => ?_)
  refine take_atL (i := 0) (d := some 22) (v := .agg #[.slice a0m x0.nodes.length c0m]) rfl rfl (by kernel_rfl) (by kernel_rfl) (by kernel_rfl) (fun _ _ _ h => h) (by rfl) ?_ hHeld ?_
  · intro w' hSw
    have p0 : w'.cell? ⟨w16.heap.size, 0, none⟩ = some (.slice a0m x0.nodes.length c0m) := hSw (w16.heap.size, [.slice a0m x0.nodes.length c0m]) List.mem_cons_self 0 (by simp)
    go_simp; try rfl
  try simp only [Act.put, List.setIfInBounds_toArray, List.set_cons_zero, List.set_cons_succ]
  refine take_atL (i := 1) (d := some 23) (v := .agg #[.slice a0 x0.nodes.length c0]) rfl rfl (by kernel_rfl) (by kernel_rfl) (by kernel_rfl) (fun _ _ _ h => h) (by rfl) ?_ hHeld ?_
  · intro w' hSw
    have p0 : w'.cell? ⟨w.heap.size, 0, none⟩ = some (.slice a0 x0.nodes.length c0) := hSw (w.heap.size, [.slice a0 x0.nodes.length c0]) (List.mem_cons_of_mem _ List.mem_cons_self) 0 (by simp)
    go_simp; try rfl
  try simp only [Act.put, List.setIfInBounds_toArray, List.set_cons_zero, List.set_cons_succ]
  clear q0 q1
  refine wpAnyH_ready (rs := [2]) (by kernel_rfl) (by simp) ?_
  refine AllReadyH.cons (o := _) rfl (fun K hK => ?_) AllReadyH.nil
  rw [if_pos (by rfl)]
  go_simp
  refine (toTree_l x0 a0 c0 _ (H0.out.later (Below.drew HH22.out.below)) (by have := HW0.out; omega)).mono ?_
  rintro e w23 ⟨a0e, c0e, S0e, rfl, O25, B24d⟩
  have B24 : Below (w21).heap.size w21 w23 := Below.drewed (by simpa using B24d)
  clear B24d hHeld
  have HH26 : Hid (Holds w w23 [(w16.heap.size, [.slice a0m x0.nodes.length c0m]), (w.heap.size, [.slice a0 x0.nodes.length c0])] [([.slice a0e x0.nodes.length c0e], Lay.tree.cells x0), ([.slice a0m x0.nodes.length c0m], Lay.tree.cells x0)]) := HH22.out.push B24 O25
  clear HH22
  clear B24 O25
  go_wp2_with fail
  refine hK.out _ _ HH26.out.boxes (fun hHeld => ?_)
  clear hK K
  try simp only [Act.put, List.setIfInBounds_toArray, List.set_cons_zero, List.set_cons_succ]
  refine wpAnyH_ready (rs := [3]) (by kernel_rfl) (by simp) ?_
  refine AllReadyH.cons (o := _) rfl (fun K hK => ?_) AllReadyH.nil
  rw [if_pos (by rfl)]
  go_simp
  have R27 : Hid (RD w23 (.slice a0m x0.nodes.length c0m) (slD Lay.node x0.nodes)) := HH26.out.rd ([.slice a0m x0.nodes.length c0m], Lay.tree.cells x0) (List.mem_cons_of_mem _ List.mem_cons_self) 0 (by simp) (by simp [Lay.tree])
  have R28 : Hid (RD w23 (.slice a0e x0.nodes.length c0e) (slD Lay.node x0.nodes)) := HH26.out.rd ([.slice a0e x0.nodes.length c0e], Lay.tree.cells x0) List.mem_cons_self 0 (by simp) (by simp [Lay.tree])
  refine (eqTree_l x0 a0m a0e c0m c0e _ R27.out R28.out (by have := HW0.out; omega)).mono ?_
  rintro e w29 ⟨rfl, B30⟩
  clear hHeld R27 R28
  have HH31 : Hid (Holds w w29 [(w16.heap.size, [.slice a0m x0.nodes.length c0m]), (w.heap.size, [.slice a0 x0.nodes.length c0])] [([.slice a0e x0.nodes.length c0e], Lay.tree.cells x0), ([.slice a0m x0.nodes.length c0m], Lay.tree.cells x0)]) := HH26.out.later B30
  clear HH26
  clear B30
  have HH32 : Hid (Holds w w29 [(w16.heap.size, [.slice a0m x0.nodes.length c0m]), (w.heap.size, [.slice a0 x0.nodes.length c0])] [([.slice a0m x0.nodes.length c0m], Lay.tree.cells x0)]) := Holds.drop (P := []) (x := ([.slice a0e x0.nodes.length c0e], Lay.tree.cells x0)) (Q := [([.slice a0m x0.nodes.length c0m], Lay.tree.cells x0)]) HH31.out
  clear HH31
  go_wp2_with fail
  refine hK.out _ _ HH32.out.boxes (fun hHeld => ?_)
  clear hK K
  try simp only [Act.put, List.setIfInBounds_toArray, List.set_cons_zero, List.set_cons_succ]
  refine take_atL (i := 4) (d := some 26) (v := .bool false) rfl rfl (by kernel_rfl) (by kernel_rfl) (by kernel_rfl) (fun _ _ _ h => h) (by rfl) ?_ hHeld ?_
  · intro w' hSw; go_simp; try rfl
  try simp only [Act.put, List.setIfInBounds_toArray, List.set_cons_zero, List.set_cons_succ]
  refine wpAnyH_done (by kernel_rfl) ?_ _
  clear hHeld
  go_wp2
  go_ret
  exact ⟨rfl, HH32.out.below⟩
end Go.Proofs.Ytghpekijimoicaa
