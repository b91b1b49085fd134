/-
  The walk of the exact law of InputOf over this translation, out of the contracts. No statement is proved here (the frame is in the text that imports this one).
-/
import Derived.Test.YtojbghmlcgadeacSpecInputOf
import Derived.Test.YtojbghmlcgadeacInputOf
import Derived.Test.YtojbghmlcgadeacMarkLib
import Derived.Test.YtojbghmlcgadeacHIntS
import Derived.Test.YtojbghmlcgadeacMIntS
namespace Go.Proofs.Ytojbghmlcgadeac
open Go.RowKit

set_option maxHeartbeats 4000000 in
set_option maxRecDepth 100000 in
theorem fnExactInputOf_law (s0 : ByteArray) (w : World)  (hs0 : s0.size ≤ maxLen) :
    Calls Try.prog 3 #[.string s0] w fun e w' => e = .returned (.bool true) ∧ Below w.heap.size w w' := by
  have HH0 : Hid (Holds w w [] []) := Holds.start w
  unfold maxLen at hs0
  by_cases hl0 : 1048576 < s0.size
  · go_enter Try.func3, Try.ntmps3
    go_wp2
    go_ret
    exact ⟨rfl, HH0.out.below⟩
  go_enter Try.func3, Try.ntmps3
  go_wp2_with fail
  refine (specInputOf_any s0 _  (by omega)).mono ?_
  rintro e w3 ⟨vW, SW, rfl, O2o, B1⟩
  obtain ⟨aW, cW, rfl, _⟩ := OD.shapeL O2o
  have O2 := Cells.one O2o
  clear O2o
  have HH4 : Hid (Holds w w3 [] [([.slice aW (resInputOf s0).length cW], [slD Lay.int (resInputOf s0)])]) := HH0.out.push B1 O2
  clear HH0
  clear B1 O2
  go_wp2_with fail
  refine (inputOf_any s0 _  (by omega)).mono ?_
  rintro e w7 ⟨vG, SG, rfl, O6o, B5⟩
  obtain ⟨aG, cG, rfl, _⟩ := OD.shapeL O6o
  have O6 := Cells.one O6o
  clear O6o
  have HH8 : Hid (Holds w w7 [] [([.slice aG (resInputOf s0).length cG], [slD Lay.int (resInputOf s0)]), ([.slice aW (resInputOf s0).length cW], [slD Lay.int (resInputOf s0)])]) := HH4.out.push B5 O6
  clear HH4
  clear B5 O6
  have HRw : Hid ((Lay.list Lay.int).wt (resInputOf s0) ≤ 2097152) := resInputOf_le s0 (by omega)
  obtain ⟨R, HRe⟩ : ∃ R, Hid (resInputOf s0 = R) := ⟨_, rfl⟩
  have HH9 : Hid (Holds w w7 [] [([.slice aG R.length cG], [slD Lay.int R]), ([.slice aW R.length cW], [slD Lay.int R])]) := by show Holds _ _ _ _; have := HH8.out; rw [HRe.out] at this; exact this
  clear HH8
  have HRx : Hid ((Lay.list Lay.int).wt R ≤ 2097152) := by show _ ≤ _; rw [← HRe.out]; exact HRw.out
  clear HRw
  have HRw := HRx
  clear HRx
  try rw [HRe.out]
  obtain ⟨T, HTe⟩ : ∃ T, Hid (okInputOf s0 = T) := ⟨_, rfl⟩
  rw [HTe.out]
  have hTT : (T != T) = false := by simp
  have R10 : Hid (RD w7 (.slice aG R.length cG) (slD Lay.int R)) := HH9.out.rd ([.slice aG R.length cG], [slD Lay.int R]) List.mem_cons_self 0 (by simp) (by simp)
  have R11 : Hid (RD w7 (.slice aW R.length cW) (slD Lay.int R)) := HH9.out.rd ([.slice aW R.length cW], [slD Lay.int R]) (List.mem_cons_of_mem _ List.mem_cons_self) 0 (by simp) (by simp)
  go_wp2_with fail
  refine (eqIntS_l R aG aW cG cW _ R10.out R11.out (by have := HRw.out; omega)).mono ?_
  rintro e w13 ⟨rfl, B12⟩
  clear R10 R11
  have HH14 : Hid (Holds w w13 [] [([.slice aG R.length cG], [slD Lay.int R]), ([.slice aW R.length cW], [slD Lay.int R])]) := HH9.out.later B12
  clear HH9
  clear B12
  have hcR := cntIntS_le R
  have hcR2 : 1 + cntIntS R ≤ 4000000 := by have := HRw.out; omega
  obtain ⟨T15, hcT15, htT15⟩ := Holds.turn (P := []) (x := ([.slice aG R.length cG], [slD Lay.int R])) (Q := [([.slice aW R.length cW], [slD Lay.int R])]) HH14.out
  have HTT15 : Hid (∀ w' ds, Cells w' w.heap.size [.slice aG R.length cG] ds T15 → Within w13 w' T15 → Holds w w' [] ([] ++ ([.slice aG R.length cG], ds) :: [([.slice aW R.length cW], [slD Lay.int R])])) := htT15
  clear htT15
  go_wp2_with fail
  refine (markIntS_c R _ _ _ 1 _ hcT15 (by have := HRw.out; omega)).mono ?_
  rintro e w16 ⟨rfl, hxT15, hwT15⟩
  have HH17 : Hid (Holds w w16 [] [([.slice aG R.length cG], [slD Lay.int (mkIntS 1 R)]), ([.slice aW R.length cW], [slD Lay.int R])]) := HTT15.out _ _ hxT15 hwT15
  clear HH14
  clear HTT15 hxT15 hwT15 hcT15
  obtain ⟨m, Hm⟩ : ∃ m, Hid (1 + cntIntS R = m) := ⟨_, rfl⟩
  have hm : m ≤ 4000000 := by rw [← Hm.out]; exact hcR2
  rw [Hm.out]
  clear hcR hcR2
  have R18 : Hid (RD w16 (.slice aG R.length cG) (slD Lay.int (mkIntS 1 R))) := HH17.out.rd ([.slice aG R.length cG], [slD Lay.int (mkIntS 1 R)]) List.mem_cons_self 0 (by simp) (by simp)
  have XH : Hid (Calls Try.prog 8 #[.slice aG R.length cG, .int .i64 1] w16 fun e w' => e = .returned (.int .i64 (m : Int)) ∧ Below (w16).heap.size w16 w') := by have := heldIntS_l R aG R.length cG 1 w16 R18.out (by have := HRw.out; omega); rw [Hm.out] at this; exact this
  clear R18
  go_wp2_with fail
  refine (XH.out).mono ?_
  rintro e w20 ⟨rfl, B19⟩
  clear XH
  have HH21 : Hid (Holds w w20 [] [([.slice aG R.length cG], [slD Lay.int (mkIntS 1 R)]), ([.slice aW R.length cW], [slD Lay.int R])]) := HH17.out.later B19
  clear HH17
  clear B19
  go_wp2_with fail
  refine (inputOf_any s0 _  (by omega)).mono ?_
  rintro e w24 ⟨vH, SH, rfl, O23o, B22⟩
  rw [HRe.out] at O23o
  rw [HTe.out]
  obtain ⟨aH, cH, rfl, _⟩ := OD.shapeL O23o
  have O23 := Cells.one O23o
  clear O23o
  have HH25 : Hid (Holds w w24 [] [([.slice aH R.length cH], [slD Lay.int R]), ([.slice aG R.length cG], [slD Lay.int (mkIntS 1 R)]), ([.slice aW R.length cW], [slD Lay.int R])]) := HH21.out.push B22 O23
  clear HH21
  clear B22 O23
  have R26 : Hid (RD w24 (.slice aH R.length cH) (slD Lay.int R)) := HH25.out.rd ([.slice aH R.length cH], [slD Lay.int R]) List.mem_cons_self 0 (by simp) (by simp)
  have R27 : Hid (RD w24 (.slice aW R.length cW) (slD Lay.int R)) := HH25.out.rd ([.slice aW R.length cW], [slD Lay.int R]) (List.mem_cons_of_mem _ (List.mem_cons_of_mem _ List.mem_cons_self)) 0 (by simp) (by simp)
  go_wp2_with fail
  refine (eqIntS_l R aH aW cH cW _ R26.out R27.out (by have := HRw.out; omega)).mono ?_
  rintro e w29 ⟨rfl, B28⟩
  clear R26 R27
  have HH30 : Hid (Holds w w29 [] [([.slice aH R.length cH], [slD Lay.int R]), ([.slice aG R.length cG], [slD Lay.int (mkIntS 1 R)]), ([.slice aW R.length cW], [slD Lay.int R])]) := HH25.out.later B28
  clear HH25
  clear B28
  have R31 : Hid (RD w29 (.slice aG R.length cG) (slD Lay.int (mkIntS 1 R))) := HH30.out.rd ([.slice aG R.length cG], [slD Lay.int (mkIntS 1 R)]) (List.mem_cons_of_mem _ List.mem_cons_self) 0 (by simp) (by simp)
  have XH : Hid (Calls Try.prog 8 #[.slice aG R.length cG, .int .i64 1] w29 fun e w' => e = .returned (.int .i64 (m : Int)) ∧ Below (w29).heap.size w29 w') := by have := heldIntS_l R aG R.length cG 1 w29 R31.out (by have := HRw.out; omega); rw [Hm.out] at this; exact this
  clear R31
  go_wp2_with fail
  refine (XH.out).mono ?_
  rintro e w33 ⟨rfl, B32⟩
  clear XH
  have HH34 : Hid (Holds w w33 [] [([.slice aH R.length cH], [slD Lay.int R]), ([.slice aG R.length cG], [slD Lay.int (mkIntS 1 R)]), ([.slice aW R.length cW], [slD Lay.int R])]) := HH30.out.later B32
  clear HH30
  clear B32
  go_wp2
  go_ret
  exact ⟨rfl, HH34.out.below⟩
end Go.Proofs.Ytojbghmlcgadeac
