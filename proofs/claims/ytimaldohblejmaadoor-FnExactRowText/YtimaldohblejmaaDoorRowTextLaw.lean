/-
  The walk of the exact law of RowText over this translation, out of the contracts. No statement is proved here (the frame is in the text that imports this one).
-/
import Derived.Test.YtimaldohblejmaaDoorRowText
import Derived.Test.YtimaldohblejmaaDoorSpecRowText
import Derived.Test.YtimaldohblejmaaDoorLawLib
import Derived.Test.YtimaldohblejmaaDoorLaid
import Derived.Test.YtimaldohblejmaaDoorHIntS
namespace Go.Proofs.YtimaldohblejmaaDoor
open Go.RowKit

set_option maxHeartbeats 2000000 in
set_option maxRecDepth 100000 in
theorem fnExactRowText_law (z0 : List Int) (a0_0 : Option Addr) (c0_0 : Nat) (w : World) (h0_0 : RD w (.slice a0_0 z0.length c0_0) (slD Lay.int z0)) (hf0 : (Lay.list Lay.int).fit z0) (hT : PowIs w) :
    Calls Tryd.prog 5 #[.slice a0_0 z0.length c0_0] w fun e w' => e = .returned (.bool true) ∧ Below w.heap.size w w' := by
  have HB : Hid (Below w.heap.size w w) := Below.refl _ _
  have HK : Hid (Keeps w []) := Keeps.nil w
  have HT : Hid (PowIs w) := hT
  clear hT
  have H0_0 : Hid (RD w (.slice a0_0 z0.length c0_0) (slD Lay.int z0)) := h0_0
  clear h0_0
  have hm0 := hf0.1
  unfold maxLen at hm0
  by_cases hl0 : 1048576 < z0.length
  · go_enter Tryd.func5, Tryd.ntmps5
    go_wp2
    go_ret
    exact ⟨rfl, HB.out⟩
  go_enter Tryd.func5, Tryd.ntmps5
  go_wp2_with fail
  refine (toIntS_l z0 a0_0 c0_0 _ (H0_0.out.later HB.out) (by rw [Lay.wt_ints]; omega)).mono ?_
  rintro e w1 ⟨v0m, S0m, rfl, O0m, B2⟩
  obtain ⟨a0m_0, c0m_0, rfl, _⟩ := OD.shapeL O0m
  have HR0m_0 : Hid (RD w1 (.slice a0m_0 z0.length c0m_0) (slD Lay.int z0)) := O0m.rd
  clear O0m
  have HBy3 : Hid (Below w.heap.size w w1) := HB.out.trans (B2.mono HB.out.size)
  have HKy3 : Hid (Keeps w1 []) := HK.out.later B2
  clear HB HK B2 
  go_wp2_with fail
  refine (specRowText_any z0 a0m_0 c0m_0 _ HR0m_0.out (by omega) hf0).mono ?_
  rintro e w4 ⟨rfl, B5⟩
  clear HR0m_0
  have HBy6 : Hid (Below w.heap.size w w4) := HBy3.out.trans (B5.mono HBy3.out.size)
  have HKy6 : Hid (Keeps w4 []) := HKy3.out.later B5
  clear HBy3 HKy3 B5 
  go_wp2_with fail
  refine (toIntS_l z0 a0_0 c0_0 _ (H0_0.out.later HBy6.out) (by rw [Lay.wt_ints]; omega)).mono ?_
  rintro e w7 ⟨v0m, S0m, rfl, O0m, B8⟩
  obtain ⟨a0m_0, c0m_0, rfl, _⟩ := OD.shapeL O0m
  have HR0m_0 : Hid (RD w7 (.slice a0m_0 z0.length c0m_0) (slD Lay.int z0)) := O0m.rd
  clear O0m
  have HBy9 : Hid (Below w.heap.size w w7) := HBy6.out.trans (B8.mono HBy6.out.size)
  have HKy9 : Hid (Keeps w7 []) := HKy6.out.later B8
  clear HBy6 HKy6 B8 
  go_wp2_with fail
  refine (rowText_any z0 a0m_0 c0m_0 _ HR0m_0.out (by omega) hf0 (HT.out.later HBy9.out)).mono ?_
  rintro e w10 ⟨rfl, B11⟩
  have HBy12 : Hid (Below w.heap.size w w10) := HBy9.out.trans (B11.mono HBy9.out.size)
  have HKy12 : Hid (Keeps w10 []) := HKy9.out.later B11
  have HXn0_0 : Hid (RD w10 (.slice a0m_0 z0.length c0m_0) (slD Lay.int z0)) := HR0m_0.out.later B11
  clear HBy9 HKy9 B11 HR0m_0
  have HX12_0_0 : Hid (RD w10 (.slice a0m_0 z0.length c0m_0) (slD Lay.int z0)) := HXn0_0.out
  clear HXn0_0
  generalize resRowText z0 = T at *
  go_wp2_with fail
  refine (toIntS_l z0 a0_0 c0_0 _ (H0_0.out.later HBy12.out) (by rw [Lay.wt_ints]; omega)).mono ?_
  rintro e w13 ⟨v0e, S0e, rfl, O0e, B14⟩
  obtain ⟨a0e_0, c0e_0, rfl, _⟩ := OD.shapeL O0e
  have HR0e_0 : Hid (RD w13 (.slice a0e_0 z0.length c0e_0) (slD Lay.int z0)) := O0e.rd
  clear O0e
  have HBy15 : Hid (Below w.heap.size w w13) := HBy12.out.trans (B14.mono HBy12.out.size)
  have HKy15 : Hid (Keeps w13 []) := HKy12.out.later B14
  have HXn0_0 : Hid (RD w13 (.slice a0m_0 z0.length c0m_0) (slD Lay.int z0)) := HX12_0_0.out.later B14
  clear HBy12 HKy12 B14 HX12_0_0
  have HX15_0_0 : Hid (RD w13 (.slice a0m_0 z0.length c0m_0) (slD Lay.int z0)) := HXn0_0.out
  clear HXn0_0
  go_wp2_with fail
  refine (eqIntS_l z0 a0m_0 a0e_0 c0m_0 c0e_0 _ HX15_0_0.out HR0e_0.out (by rw [Lay.wt_ints]; omega)).mono ?_
  rintro e w16 ⟨rfl, B17⟩
  clear HR0e_0
  have HBy18 : Hid (Below w.heap.size w w16) := HBy15.out.trans (B17.mono HBy15.out.size)
  have HKy18 : Hid (Keeps w16 []) := HKy15.out.later B17
  have HXn0_0 : Hid (RD w16 (.slice a0m_0 z0.length c0m_0) (slD Lay.int z0)) := HX15_0_0.out.later B17
  clear HBy15 HKy15 B17 HX15_0_0
  have HX18_0_0 : Hid (RD w16 (.slice a0m_0 z0.length c0m_0) (slD Lay.int z0)) := HXn0_0.out
  clear HXn0_0
  go_wp2
  go_ret
  exact ⟨rfl, HBy18.out⟩
end Go.Proofs.YtimaldohblejmaaDoor
