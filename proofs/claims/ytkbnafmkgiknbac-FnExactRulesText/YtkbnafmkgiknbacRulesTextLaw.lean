/-
  The walk of the exact law of RulesText over this translation, out of the contracts. No statement is proved here (the frame is in the text that imports this one).
-/
import Derived.Test.YtkbnafmkgiknbacRulesText
import Derived.Test.YtkbnafmkgiknbacToRule
namespace Go.Proofs.Ytkbnafmkgiknbac
open Go.RowKit

set_option maxHeartbeats 1000000 in
set_option maxRecDepth 100000 in
theorem fnExactRulesText_law (rs : List Rl) (a : Option Addr) (c : Nat) (w : World) (h : RD w (.slice a rs.length c) (ruD rs)) (hm : rs.length ≤ maxLen) (hf : Rl.fitL rs) :
    Calls Try.prog 6 #[.slice a rs.length c] w fun e w' => e = .returned (.bool true) ∧ Below w.heap.size w w' := by
  have H : Hid (RD w (.slice a rs.length c) (ruD rs)) := h
  clear h
  go_enter Try.func6, Try.ntmps6
  go_wp2_with fail
  refine (szRuleS_any rs a c _ _ H.out hm hf (by decide) (by decide)).mono ?_
  rintro e w1 ⟨r, rfl, hr, B1⟩
  rcases hr with rfl | ⟨hr0, hsum⟩
  · go_wp2
    go_ret
    exact ⟨rfl, B1⟩
  · have hnw := Rl.nodesL_le_wtL rs
    have HS : Hid (Rl.wtL rs ≤ 1048576 ∧ Rl.nodesL rs ≤ 1048576) := ⟨by omega, by omega⟩
    have HB1 : Hid (Below w.heap.size w w1) := B1
    clear hsum hnw hm hf B1
    go_wp2_with fail
    refine (toRuleS_any rs a c _ (H.out.later HB1.out) (by have := HS.out.2; omega)).mono ?_
    rintro e w2 ⟨v2, S2, rfl, O2, B2⟩
    obtain ⟨a2, c2, rfl⟩ := RD.slice (m := rs.length) O2.rd
    have HR2 : Hid (RD w2 (.slice a2 rs.length c2) (ruD rs)) := O2.rd
    have HB2 : Hid (Below w.heap.size w w2) := HB1.out.trans (B2.mono HB1.out.size)
    clear O2 B2 HB1
    go_wp2_with fail
    refine (specRulesText_any rs a2 c2 _ HR2.out (by have := HS.out.1; omega)).mono ?_
    rintro e w3 ⟨rfl, B3⟩
    have HB3 : Hid (Below w.heap.size w w3) := HB2.out.trans (B3.mono HB2.out.size)
    clear B3 HB2 HR2
    go_wp2_with fail
    refine (toRuleS_any rs a c _ (H.out.later HB3.out) (by have := HS.out.2; omega)).mono ?_
    rintro e w4 ⟨v4, S4, rfl, O4, B4⟩
    obtain ⟨a4, c4, rfl⟩ := RD.slice (m := rs.length) O4.rd
    have HR4 : Hid (RD w4 (.slice a4 rs.length c4) (ruD rs)) := O4.rd
    have HB4 : Hid (Below w.heap.size w w4) := HB3.out.trans (B4.mono HB3.out.size)
    clear O4 B4 HB3
    go_wp2_with fail
    refine (rulesText_any rs a4 c4 _ HR4.out (by have := HS.out.1; omega)).mono ?_
    rintro e w5 ⟨rfl, B5⟩
    have HR5 : Hid (RD w5 (.slice a4 rs.length c4) (ruD rs)) := HR4.out.later B5
    have HB5 : Hid (Below w.heap.size w w5) := HB4.out.trans (B5.mono HB4.out.size)
    clear B5 HB4 HR4
    unfold strOfB
    generalize Rl.strL rs = T at *
    go_wp2_with fail
    refine (toRuleS_any rs a c _ (H.out.later HB5.out) (by have := HS.out.2; omega)).mono ?_
    rintro e w6 ⟨v6, S6, rfl, O6, B6⟩
    obtain ⟨a6, c6, rfl⟩ := RD.slice (m := rs.length) O6.rd
    have HR6 : Hid (RD w6 (.slice a6 rs.length c6) (ruD rs)) := O6.rd
    have HR6b : Hid (RD w6 (.slice a4 rs.length c4) (ruD rs)) := HR5.out.later B6
    have HB6 : Hid (Below w.heap.size w w6) := HB5.out.trans (B6.mono HB5.out.size)
    clear O6 B6 HB5 HR5
    go_wp2_with fail
    refine (eqRuleS_same rs a4 a6 c4 c6 _ HR6b.out HR6.out (by have := HS.out.2; omega)).mono ?_
    rintro e w7 ⟨rfl, B7⟩
    go_wp2
    go_ret
    exact ⟨rfl, HB6.out.trans (B7.mono HB6.out.size)⟩
end Go.Proofs.Ytkbnafmkgiknbac
