/-
  The walk of the exact law of RowText over this translation, out of the contracts. No statement is proved here (the frame is in the text that imports this one).
-/
import Derived.Test.YtghpekijimoicaaDoorSpecRowText
import Derived.Test.YtghpekijimoicaaDoorRowText
import Derived.Test.YtghpekijimoicaaDoorMarkLib
import Derived.Test.YtghpekijimoicaaDoorHIntS
import Derived.Test.YtghpekijimoicaaDoorMIntS
import Derived.Test.YtghpekijimoicaaDoorLaid
namespace Go.Proofs.YtghpekijimoicaaDoor
open Go.RowKit

set_option maxHeartbeats 4000000 in
set_option maxRecDepth 100000 in
theorem fnExactRowText_law (z0 : List Int) (a0 : Option Addr) (c0 : Nat) (w : World) (h0 : RD w (.slice a0 z0.length c0) (slD Lay.int z0)) (hf0 : (Lay.list Lay.int).fit z0) (hT : PowIs w) :
    Calls Tryd.prog 6 #[.slice a0 z0.length c0] w fun e w' => e = .returned (.bool true) ∧ Below w.heap.size w w' := by
  have HH0 : Hid (Holds w w [] []) := Holds.start w
  have HT : Hid (PowIs w) := hT
  clear hT
  have H0 : Hid (RD w (.slice a0 z0.length c0) (slD Lay.int z0)) := h0
  clear h0
  have HF0 : Hid ((Lay.list Lay.int).fit z0) := hf0
  have hm0 := hf0.1
  unfold maxLen at hm0
  clear hf0
  by_cases hl0 : 1048576 < z0.length
  · go_enter Tryd.func6, Tryd.ntmps6
    go_wp2
    go_ret
    exact ⟨rfl, HH0.out.below⟩
  go_enter Tryd.func6, Tryd.ntmps6
  go_wp2_with fail
  refine (toIntS_l z0 a0 c0 _ (H0.out.later HH0.out.below) (by rw [Lay.wt_ints]; omega)).mono ?_
  rintro e w3 ⟨v0s, S0s, rfl, O2o, B1⟩
  obtain ⟨a0s, c0s, rfl, _⟩ := OD.shapeL O2o
  have O2 := Cells.one O2o
  clear O2o
  have HH4 : Hid (Holds w w3 [] [([.slice a0s z0.length c0s], [slD Lay.int z0])]) := HH0.out.push B1 O2
  clear HH0
  clear B1 O2
  have R5 : Hid (RD w3 (.slice a0s z0.length c0s) (slD Lay.int z0)) := HH4.out.rd ([.slice a0s z0.length c0s], [slD Lay.int z0]) List.mem_cons_self 0 (by simp) (by simp)
  go_wp2_with fail
  refine (specRowText_any z0 a0s c0s _ R5.out (by omega) HF0.out).mono ?_
  rintro e w7 ⟨rfl, B6⟩
  have HH8 : Hid (Holds w w7 [] [([.slice a0s z0.length c0s], [slD Lay.int z0])]) := HH4.out.later B6
  clear HH4
  clear B6
  clear R5
  have HH9 : Hid (Holds w w7 [] []) := Holds.drop (P := []) (x := ([.slice a0s z0.length c0s], [slD Lay.int z0])) (Q := []) HH8.out
  clear HH8
  go_wp2_with fail
  refine (toIntS_l z0 a0 c0 _ (H0.out.later HH9.out.below) (by rw [Lay.wt_ints]; omega)).mono ?_
  rintro e w12 ⟨v0m, S0m, rfl, O11o, B10⟩
  obtain ⟨a0m, c0m, rfl, _⟩ := OD.shapeL O11o
  have O11 := Cells.one O11o
  clear O11o
  have HH13 : Hid (Holds w w12 [] [([.slice a0m z0.length c0m], [slD Lay.int z0])]) := HH9.out.push B10 O11
  clear HH9
  clear B10 O11
  have R14 : Hid (RD w12 (.slice a0m z0.length c0m) (slD Lay.int z0)) := HH13.out.rd ([.slice a0m z0.length c0m], [slD Lay.int z0]) List.mem_cons_self 0 (by simp) (by simp)
  go_wp2_with fail
  refine (rowText_any z0 a0m c0m _ R14.out (by omega) HF0.out (HT.out.later HH13.out.below)).mono ?_
  rintro e w16 ⟨rfl, B15⟩
  have HH17 : Hid (Holds w w16 [] [([.slice a0m z0.length c0m], [slD Lay.int z0])]) := HH13.out.later B15
  clear HH13
  clear B15
  clear R14
  generalize resRowText z0 = T at *
  go_wp2_with fail
  refine (toIntS_l z0 a0 c0 _ (H0.out.later HH17.out.below) (by rw [Lay.wt_ints]; omega)).mono ?_
  rintro e w20 ⟨v0e, S0e, rfl, O19o, B18⟩
  obtain ⟨a0e, c0e, rfl, _⟩ := OD.shapeL O19o
  have O19 := Cells.one O19o
  clear O19o
  have HH21 : Hid (Holds w w20 [] [([.slice a0e z0.length c0e], [slD Lay.int z0]), ([.slice a0m z0.length c0m], [slD Lay.int z0])]) := HH17.out.push B18 O19
  clear HH17
  clear B18 O19
  have R22 : Hid (RD w20 (.slice a0m z0.length c0m) (slD Lay.int z0)) := HH21.out.rd ([.slice a0m z0.length c0m], [slD Lay.int z0]) (List.mem_cons_of_mem _ List.mem_cons_self) 0 (by simp) (by simp)
  have R23 : Hid (RD w20 (.slice a0e z0.length c0e) (slD Lay.int z0)) := HH21.out.rd ([.slice a0e z0.length c0e], [slD Lay.int z0]) List.mem_cons_self 0 (by simp) (by simp)
  go_wp2_with fail
  refine (eqIntS_l z0 a0m a0e c0m c0e _ R22.out R23.out (by rw [Lay.wt_ints]; omega)).mono ?_
  rintro e w25 ⟨rfl, B24⟩
  clear R22 R23
  have HH26 : Hid (Holds w w25 [] [([.slice a0e z0.length c0e], [slD Lay.int z0]), ([.slice a0m z0.length c0m], [slD Lay.int z0])]) := HH21.out.later B24
  clear HH21
  clear B24
  have HH27 : Hid (Holds w w25 [] [([.slice a0m z0.length c0m], [slD Lay.int z0])]) := Holds.drop (P := []) (x := ([.slice a0e z0.length c0e], [slD Lay.int z0])) (Q := [([.slice a0m z0.length c0m], [slD Lay.int z0])]) HH26.out
  clear HH26
  go_wp2
  go_ret
  exact ⟨rfl, HH27.out.below⟩
end Go.Proofs.YtghpekijimoicaaDoor
