/-
  Proved: at every list of rules the exact law of RulesText returns true and leaves its argument as it was (no condition beyond the row's own).
-/
import Derived.Test.YtkbnafmkgiknbacRows
import Derived.Test.YtkbnafmkgiknbacRulesTextLaw
import Derived.Test.YtkbnafmkgiknbacOpenE
import Derived.WalkKit
import Derived.ProofKit
import Derived.OpenShut
import Derived.ShutString
import Derived.ChangeOld
import Derived.Below
namespace Go.Proofs.Ytkbnafmkgiknbac
open Go.ChangeShapes Go.WideShapes Go.ChangeAt Go.RowKit
open Go.ChangeMaps (open_string shut_string)
set_option linter.unusedVariables false

theorem fnExactRulesText_own : ownKnob Try.prog.godebug = none := by kernel_rfl
theorem fnExactRulesText_laidOut : laidOutB Try.prog = true := by kernel_rfl

set_option maxRecDepth 100000 in
theorem fnExactRulesText_lifted (os : Os) (started : os.Started) (H : Type) (enc : TypeId × Value → H) :
    ReturnsInHanded {} Try.checked os 6 .any (Rows.fnExactRulesTextSpec.pre6 enc Try.prog Try.f6 Rows.fnExactRulesTextRow.domain false) (Rows.fnExactRulesTextSpec.post enc Try.prog Try.f6 false true false false) := by
  refine returnsInHanded_of_change (C := Try.checked) fnExactRulesText_own started (by kernel_rfl) Try.func6
    (ChangeSpec.witness6 (enc := enc) (C := Try.checked) false ⟨#[], #[.slice none 0 0], []⟩ 8 (by kernel_rfl) (by kernel_rfl) (by kernel_rfl) (by kernel_rfl)) ?_
  intro W base args ds gs before hval0 hW hcnd _
  have hval : ∀ (j : Nat) t v, Try.f6.params[j]? = some t → args[j]? = some v → Value.okWide Try.prog W .any base t v := hval0
  have hW' := hW
  obtain ⟨p, q, hA0, hV, rfl, hfz, hnd⟩ := hW
  have hA : DataW.TrodAll enc Try.prog W 0 (fun _ => true) true Try.f6.params.toList args.toList ds p := hA0
  rw [Try.params6] at hA hval
  obtain ⟨v0, vs0, d0, ds0, p0, q0, hargs0, rfl, rfl, h0, r0⟩ := trodAll_cons hA
  obtain ⟨rfl, rfl, rfl⟩ := trodAll_nil r0
  obtain rfl : args = #[v0] := by cases args; simp_all
  obtain ⟨rfl, rfl⟩ := trodVars_none hV
  have k0 := h0
  have lt0 : ∀ x ∈ p0, x.block < W.heap.size := by obtain ⟨m, hm⟩ := k0; exact DataW.trod_lt m _ _ _ hm
  obtain ⟨a0, len0, c0, rfl⟩ := okWide_slice Try.underlying46 (hval 0 46 v0 rfl rfl)
  obtain ⟨rs0, rfl, hm0, hr0, hf0⟩ : ∃ rs : List Rl, len0 = rs.length ∧ rs.length ≤ maxLen ∧ RD W (.slice a0 rs.length c0) (ruD rs) ∧ Rl.fitL rs := by
    obtain ⟨fuel, hf⟩ := h0
    exact open_rules (P := Try.prog) (r := 103) (rs := 46) (e := 37) (s := 35) ⟨⟨⟨_, _, _, Try.underlying37, ⟨rfl, rfl, rfl⟩, Try.underlying3, Try.underlying9, rfl, by kernel_rfl, by kernel_rfl, by kernel_rfl⟩, Try.underlying35, by kernel_rfl⟩, ⟨_, _, Try.underlying103, ⟨rfl, rfl⟩, Try.underlying9, rfl, by kernel_rfl⟩, Try.underlying46, by kernel_rfl⟩ hf
  clear hA0 hval0
  refine (fnExactRulesText_law rs0 a0 c0 W hr0 hm0 hf0).mono fun e W' ⟨he, bel⟩ => ?_
  subst he
  exact ⟨_, rfl, _, _, _, [], _, [], hW', trodAll_mk1 (shut_bool Try.underlying4 _), (trodAll_cons_mk (Below.trod fnExactRulesText_laidOut (by kernel_rfl) (of_decide_eq_true (by kernel_rfl)) k0 bel lt0) trodAll_mk0), rfl, bel.frame _, fun h => by cases h⟩

theorem fnExactRulesText_over : Rows.fnExactRulesTextRow.holds Try.pinned (OpenSpec.ofChange Rows.fnExactRulesTextSpec) :=
  OpenClaim.holds_of_wide 6 Try.f6 rfl rfl rfl rfl rfl rfl rfl ⟨rfl, rfl, rfl, rfl, rfl⟩ rfl rfl rfl rfl rfl (by kernel_rfl) Try.func6 (by kernel_rfl)
    (of_decide_eq_true (by kernel_rfl)) (by unfold Func.isWrapper; first | (rw [if_pos (by decide +kernel)]; kernel_rfl) | (rw [if_neg (by decide +kernel)]; exact ⟨rfl, rfl⟩))
    (fun os started H enc _ => fnExactRulesText_lifted os started H enc)

theorem fnExactRulesText_proved : Rows.FnExactRulesTextSaid := fnExactRulesText_over
#print axioms fnExactRulesText_proved
end Go.Proofs.Ytkbnafmkgiknbac
