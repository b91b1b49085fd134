/-
  The walk of the exact law of GramText over this translation, out of the contracts. No statement is proved here (the frame is in the text that imports this one).
-/
import Derived.Test.YtimaldohblejmaaDoorGramText
import Derived.Test.YtimaldohblejmaaDoorSpecGramText
import Derived.Test.YtimaldohblejmaaDoorLawLib
import Derived.Test.YtimaldohblejmaaDoorLaid
import Derived.Test.YtimaldohblejmaaDoorHGram
namespace Go.Proofs.YtimaldohblejmaaDoor
open Go.RowKit

set_option maxHeartbeats 2000000 in
set_option maxRecDepth 100000 in
theorem fnExactGramText_law (x0 : Gm) (a0_0 : Option Addr) (c0_0 : Nat) (w : World) (h0_0 : RD w (.slice a0_0 x0.parts.length c0_0) (slD (Lay.list (Lay.list Lay.int)) x0.parts)) (hf0 : Lay.gram.fit x0) (hT : PowIs w) :
    Calls Tryd.prog 4 #[.agg #[.slice a0_0 x0.parts.length c0_0]] w fun e w' => e = .returned (.bool true) ∧ Below w.heap.size w w' := by
  have HB : Hid (Below w.heap.size w w) := Below.refl _ _
  have HK : Hid (Keeps w []) := Keeps.nil w
  have HT : Hid (PowIs w) := hT
  clear hT
  have H0_0 : Hid (RD w (.slice a0_0 x0.parts.length c0_0) (slD (Lay.list (Lay.list Lay.int)) x0.parts)) := h0_0
  clear h0_0
  have HBx1 : Hid (Below w.heap.size w (w.alloc (.cells #[.slice a0_0 x0.parts.length c0_0] 33))) := HB.out.alloc HB.out.size _
  have HKx1 : Hid (Keeps (w.alloc (.cells #[.slice a0_0 x0.parts.length c0_0] 33)) [(w.heap.size, [.slice a0_0 x0.parts.length c0_0])]) := by show Keeps _ _; simpa using HK.out.box [.slice a0_0 x0.parts.length c0_0] 33
  clear HB HK
  go_enter Tryd.func4, Tryd.ntmps4
  have q0_0 : (w.alloc (.cells #[.slice a0_0 x0.parts.length c0_0] 33)).cell? ⟨w.heap.size, 0, none⟩ = some (.slice a0_0 x0.parts.length c0_0) := HKx1.out (w.heap.size, [.slice a0_0 x0.parts.length c0_0]) List.mem_cons_self 0 (by simp)
  go_wp2_with fail
  refine (szGram_l x0 a0_0 c0_0 _ _ (H0_0.out.later HBx1.out) hf0 (by omega) (by omega)).mono ?_
  rintro e w2 ⟨r0, rfl, hr0, B3⟩
  clear q0_0
  have HBy4 : Hid (Below w.heap.size w w2) := HBx1.out.trans (B3.mono HBx1.out.size)
  have HKy4 : Hid (Keeps w2 [(w.heap.size, [.slice a0_0 x0.parts.length c0_0])]) := HKx1.out.later B3
  clear HBx1 HKx1 B3 
  rcases hr0 with rfl | ⟨hr0a, hr0b⟩
  · go_wp2
    go_ret
    exact ⟨rfl, HBy4.out⟩
  have HW0 : Hid (Lay.gram.wt x0 ≤ 1048576) := by show _ ≤ _; omega
  have hr0c : r0 ≤ 1048576 := by omega
  have HF0 : Hid (Lay.gram.fit x0) := hf0
  clear hr0b hf0
  have q0_0 : w2.cell? ⟨w.heap.size, 0, none⟩ = some (.slice a0_0 x0.parts.length c0_0) := HKy4.out (w.heap.size, [.slice a0_0 x0.parts.length c0_0]) List.mem_cons_self 0 (by simp)
  go_wp2_with fail
  refine (toGram_l x0 a0_0 c0_0 _ (H0_0.out.later HBy4.out) (by have := HW0.out; omega)).mono ?_
  rintro e w5 ⟨a0m_0, c0m_0, S0m, rfl, O0m, B6⟩
  clear q0_0
  have HR0m_0 : Hid (RD w5 (.slice a0m_0 x0.parts.length c0m_0) (slD (Lay.list (Lay.list Lay.int)) x0.parts)) := O0m.rdAt 0 (by simp) (by simp [Lay.gram])
  clear O0m
  have HBy7 : Hid (Below w.heap.size w w5) := HBy4.out.trans (B6.mono HBy4.out.size)
  have HKy7 : Hid (Keeps w5 [(w.heap.size, [.slice a0_0 x0.parts.length c0_0])]) := HKy4.out.later B6
  clear HBy4 HKy4 B6 
  have q0_0 : w5.cell? ⟨w.heap.size, 0, none⟩ = some (.slice a0_0 x0.parts.length c0_0) := HKy7.out (w.heap.size, [.slice a0_0 x0.parts.length c0_0]) List.mem_cons_self 0 (by simp)
  go_wp2_with fail
  refine (specGramText_any x0 a0m_0 c0m_0 _ HR0m_0.out (by have := HW0.out; omega) HF0.out).mono ?_
  rintro e w8 ⟨rfl, B9⟩
  clear q0_0
  clear HR0m_0
  have HBy10 : Hid (Below w.heap.size w w8) := HBy7.out.trans (B9.mono HBy7.out.size)
  have HKy10 : Hid (Keeps w8 [(w.heap.size, [.slice a0_0 x0.parts.length c0_0])]) := HKy7.out.later B9
  clear HBy7 HKy7 B9 
  have q0_0 : w8.cell? ⟨w.heap.size, 0, none⟩ = some (.slice a0_0 x0.parts.length c0_0) := HKy10.out (w.heap.size, [.slice a0_0 x0.parts.length c0_0]) List.mem_cons_self 0 (by simp)
  go_wp2_with fail
  refine (toGram_l x0 a0_0 c0_0 _ (H0_0.out.later HBy10.out) (by have := HW0.out; omega)).mono ?_
  rintro e w11 ⟨a0m_0, c0m_0, S0m, rfl, O0m, B12⟩
  clear q0_0
  have HR0m_0 : Hid (RD w11 (.slice a0m_0 x0.parts.length c0m_0) (slD (Lay.list (Lay.list Lay.int)) x0.parts)) := O0m.rdAt 0 (by simp) (by simp [Lay.gram])
  clear O0m
  have HBy13 : Hid (Below w.heap.size w w11) := HBy10.out.trans (B12.mono HBy10.out.size)
  have HKy13 : Hid (Keeps w11 [(w.heap.size, [.slice a0_0 x0.parts.length c0_0])]) := HKy10.out.later B12
  clear HBy10 HKy10 B12 
  have HBx14 : Hid (Below w.heap.size w (w11.alloc (.cells #[.slice a0m_0 x0.parts.length c0m_0] 28))) := HBy13.out.alloc HBy13.out.size _
  have HKx14 : Hid (Keeps (w11.alloc (.cells #[.slice a0m_0 x0.parts.length c0m_0] 28)) [(w11.heap.size, [.slice a0m_0 x0.parts.length c0m_0]), (w.heap.size, [.slice a0_0 x0.parts.length c0_0])]) := by show Keeps _ _; simpa using HKy13.out.box [.slice a0m_0 x0.parts.length c0m_0] 28
  clear HBy13 HKy13
  have HXb15_0_0 : Hid (RD (w11.alloc (.cells #[.slice a0m_0 x0.parts.length c0m_0] 28)) (.slice a0m_0 x0.parts.length c0m_0) (slD (Lay.list (Lay.list Lay.int)) x0.parts)) := HR0m_0.out.later ((Below.refl _ _).alloc (Nat.le_refl _) _)
  clear HR0m_0
  have q0_0 : (w11.alloc (.cells #[.slice a0m_0 x0.parts.length c0m_0] 28)).cell? ⟨w11.heap.size, 0, none⟩ = some (.slice a0m_0 x0.parts.length c0m_0) := HKx14.out (w11.heap.size, [.slice a0m_0 x0.parts.length c0m_0]) List.mem_cons_self 0 (by simp)
  have q1_0 : (w11.alloc (.cells #[.slice a0m_0 x0.parts.length c0m_0] 28)).cell? ⟨w.heap.size, 0, none⟩ = some (.slice a0_0 x0.parts.length c0_0) := HKx14.out (w.heap.size, [.slice a0_0 x0.parts.length c0_0]) (List.mem_cons_of_mem _ List.mem_cons_self) 0 (by simp)
  go_wp2_with fail
  refine (gramText_any x0 a0m_0 c0m_0 _ HXb15_0_0.out (by have := HW0.out; omega) HF0.out (HT.out.later HBx14.out)).mono ?_
  rintro e w16 ⟨rfl, B17⟩
  clear q0_0 q1_0
  have HBy18 : Hid (Below w.heap.size w w16) := HBx14.out.trans (B17.mono HBx14.out.size)
  have HKy18 : Hid (Keeps w16 [(w11.heap.size, [.slice a0m_0 x0.parts.length c0m_0]), (w.heap.size, [.slice a0_0 x0.parts.length c0_0])]) := HKx14.out.later B17
  have HXn0_0 : Hid (RD w16 (.slice a0m_0 x0.parts.length c0m_0) (slD (Lay.list (Lay.list Lay.int)) x0.parts)) := HXb15_0_0.out.later B17
  clear HBx14 HKx14 B17 HXb15_0_0
  have HX18_0_0 : Hid (RD w16 (.slice a0m_0 x0.parts.length c0m_0) (slD (Lay.list (Lay.list Lay.int)) x0.parts)) := HXn0_0.out
  clear HXn0_0
  generalize resGramText x0 = T at *
  have q0_0 : w16.cell? ⟨w11.heap.size, 0, none⟩ = some (.slice a0m_0 x0.parts.length c0m_0) := HKy18.out (w11.heap.size, [.slice a0m_0 x0.parts.length c0m_0]) List.mem_cons_self 0 (by simp)
  have q1_0 : w16.cell? ⟨w.heap.size, 0, none⟩ = some (.slice a0_0 x0.parts.length c0_0) := HKy18.out (w.heap.size, [.slice a0_0 x0.parts.length c0_0]) (List.mem_cons_of_mem _ List.mem_cons_self) 0 (by simp)
  go_wp2_with fail
  refine wp_region_held_drew (S := fun w' => Keeps w' [(w11.heap.size, [.slice a0m_0 x0.parts.length c0m_0]), (w.heap.size, [.slice a0_0 x0.parts.length c0_0])]) (by kernel_rfl) HKy18.out.drew (fun hHeld => ?_)
  refine take_atL (i := 0) (d := some 22) (v := .agg #[.slice a0m_0 x0.parts.length c0m_0]) rfl rfl (by kernel_rfl) (by kernel_rfl) (by kernel_rfl) (fun _ _ _ h => h) (by rfl) ?_ hHeld ?_
  · intro w' hSw
    have p0 : w'.cell? ⟨w11.heap.size, 0, none⟩ = some (.slice a0m_0 x0.parts.length c0m_0) := hSw (w11.heap.size, [.slice a0m_0 x0.parts.length c0m_0]) List.mem_cons_self 0 (by simp)
    go_simp; try rfl
  try simp only [Act.put, List.setIfInBounds_toArray, List.set_cons_zero, List.set_cons_succ]
  refine take_atL (i := 1) (d := some 23) (v := .agg #[.slice a0_0 x0.parts.length c0_0]) rfl rfl (by kernel_rfl) (by kernel_rfl) (by kernel_rfl) (fun _ _ _ h => h) (by rfl) ?_ hHeld ?_
  · intro w' hSw
    have p0 : w'.cell? ⟨w.heap.size, 0, none⟩ = some (.slice a0_0 x0.parts.length c0_0) := hSw (w.heap.size, [.slice a0_0 x0.parts.length c0_0]) (List.mem_cons_of_mem _ List.mem_cons_self) 0 (by simp)
    go_simp; try rfl
  try simp only [Act.put, List.setIfInBounds_toArray, List.set_cons_zero, List.set_cons_succ]
  clear q0_0 q1_0
  refine wpAnyH_ready (rs := [2]) (by kernel_rfl) (by simp) ?_
  refine AllReadyH.cons (o := _) rfl (fun K hK => ?_) AllReadyH.nil
  rw [if_pos (by rfl)]
  go_simp
  refine (toGram_l x0 a0_0 c0_0 _ (H0_0.out.later (Below.drew HBy18.out)) (by have := HW0.out; omega)).mono ?_
  rintro e w19 ⟨a0e_0, c0e_0, S0e, rfl, O0e, B20d⟩
  have B20 : Below (w16).heap.size w16 w19 := Below.drewed (by simpa using B20d)
  clear B20d hHeld
  have HR0e_0 : Hid (RD w19 (.slice a0e_0 x0.parts.length c0e_0) (slD (Lay.list (Lay.list Lay.int)) x0.parts)) := O0e.rdAt 0 (by simp) (by simp [Lay.gram])
  clear O0e
  have HBy21 : Hid (Below w.heap.size w w19) := HBy18.out.trans (B20.mono HBy18.out.size)
  have HKy21 : Hid (Keeps w19 [(w11.heap.size, [.slice a0m_0 x0.parts.length c0m_0]), (w.heap.size, [.slice a0_0 x0.parts.length c0_0])]) := HKy18.out.later B20
  have HXn0_0 : Hid (RD w19 (.slice a0m_0 x0.parts.length c0m_0) (slD (Lay.list (Lay.list Lay.int)) x0.parts)) := HX18_0_0.out.later B20
  clear HBy18 HKy18 B20 HX18_0_0
  have HX21_0_0 : Hid (RD w19 (.slice a0m_0 x0.parts.length c0m_0) (slD (Lay.list (Lay.list Lay.int)) x0.parts)) := HXn0_0.out
  clear HXn0_0
  go_wp2_with fail
  refine hK.out _ _ HKy21.out (fun hHeld => ?_)
  clear hK K
  try simp only [Act.put, List.setIfInBounds_toArray, List.set_cons_zero, List.set_cons_succ]
  refine wpAnyH_ready (rs := [3]) (by kernel_rfl) (by simp) ?_
  refine AllReadyH.cons (o := _) rfl (fun K hK => ?_) AllReadyH.nil
  rw [if_pos (by rfl)]
  go_simp
  refine (eqGram_l x0 a0m_0 a0e_0 c0m_0 c0e_0 _ HX21_0_0.out HR0e_0.out (by have := HW0.out; omega)).mono ?_
  rintro e w22 ⟨rfl, B23⟩
  clear hHeld HR0e_0
  have HBy24 : Hid (Below w.heap.size w w22) := HBy21.out.trans (B23.mono HBy21.out.size)
  have HKy24 : Hid (Keeps w22 [(w11.heap.size, [.slice a0m_0 x0.parts.length c0m_0]), (w.heap.size, [.slice a0_0 x0.parts.length c0_0])]) := HKy21.out.later B23
  have HXn0_0 : Hid (RD w22 (.slice a0m_0 x0.parts.length c0m_0) (slD (Lay.list (Lay.list Lay.int)) x0.parts)) := HX21_0_0.out.later B23
  clear HBy21 HKy21 B23 HX21_0_0
  have HX24_0_0 : Hid (RD w22 (.slice a0m_0 x0.parts.length c0m_0) (slD (Lay.list (Lay.list Lay.int)) x0.parts)) := HXn0_0.out
  clear HXn0_0
  go_wp2_with fail
  refine hK.out _ _ HKy24.out (fun hHeld => ?_)
  clear hK K
  try simp only [Act.put, List.setIfInBounds_toArray, List.set_cons_zero, List.set_cons_succ]
  refine take_atL (i := 4) (d := some 26) (v := .bool false) rfl rfl (by kernel_rfl) (by kernel_rfl) (by kernel_rfl) (fun _ _ _ h => h) (by rfl) ?_ hHeld ?_
  · intro w' hSw; go_simp; try rfl
  try simp only [Act.put, List.setIfInBounds_toArray, List.set_cons_zero, List.set_cons_succ]
  refine wpAnyH_done (by kernel_rfl) ?_ _
  clear hHeld
  go_wp2
  go_ret
  exact ⟨rfl, HBy24.out⟩
end Go.Proofs.YtimaldohblejmaaDoor
