/-
  Proved: at every expression the exact law of ExprText returns true and leaves its argument as it was (no condition beyond the row's own).
-/
import Derived.Test.YtkbnafmkgiknbacRows
import Derived.Test.YtkbnafmkgiknbacExprTextLaw
import Derived.Test.YtkbnafmkgiknbacOpenE
import Derived.WalkKit
import Derived.ProofKit
import Derived.OpenShut
import Derived.ShutString
import Derived.ChangeOld
import Derived.Below
namespace Go.Proofs.Ytkbnafmkgiknbac
open Go.ChangeShapes Go.WideShapes Go.ChangeAt Go.RowKit
open Go.ChangeMaps (open_string shut_string)
set_option linter.unusedVariables false

theorem fnExactExprText_own : ownKnob Try.prog.godebug = none := by kernel_rfl
theorem fnExactExprText_laidOut : laidOutB Try.prog = true := by kernel_rfl

set_option maxRecDepth 100000 in
theorem fnExactExprText_lifted (os : Os) (started : os.Started) (H : Type) (enc : TypeId × Value → H) :
    ReturnsInHanded {} Try.checked os 5 .any (Rows.fnExactExprTextSpec.pre6 enc Try.prog Try.f5 Rows.fnExactExprTextRow.domain false) (Rows.fnExactExprTextSpec.post enc Try.prog Try.f5 false true false false) := by
  refine returnsInHanded_of_change (C := Try.checked) fnExactExprText_own started (by kernel_rfl) Try.func5
    (ChangeSpec.witness6 (enc := enc) (C := Try.checked) false ⟨#[], #[.agg #[.int .i64 0, .string ⟨#[]⟩, .slice none 0 0]], []⟩ 8 (by kernel_rfl) (by kernel_rfl) (by kernel_rfl) (by kernel_rfl)) ?_
  intro W base args ds gs before hval0 hW hcnd _
  have hval : ∀ (j : Nat) t v, Try.f5.params[j]? = some t → args[j]? = some v → Value.okWide Try.prog W .any base t v := hval0
  have hW' := hW
  obtain ⟨p, q, hA0, hV, rfl, hfz, hnd⟩ := hW
  have hA : DataW.TrodAll enc Try.prog W 0 (fun _ => true) true Try.f5.params.toList args.toList ds p := hA0
  rw [Try.params5] at hA hval
  obtain ⟨v0, vs0, d0, ds0, p0, q0, hargs0, rfl, rfl, h0, r0⟩ := trodAll_cons hA
  obtain ⟨rfl, rfl, rfl⟩ := trodAll_nil r0
  obtain rfl : args = #[v0] := by cases args; simp_all
  obtain ⟨rfl, rfl⟩ := trodVars_none hV
  have k0 := h0
  have lt0 : ∀ x ∈ p0, x.block < W.heap.size := by obtain ⟨m, hm⟩ := k0; exact DataW.trod_lt m _ _ _ hm
  obtain ⟨cs0, rfl, hcs0⟩ := okWide_struct Try.underlying37 (hval 0 37 v0 rfl rfl)
  have hagg0 := agg_of3 hcs0 (by kernel_rfl)
  obtain ⟨x0, a0, c0, hx0, hf0, hr0⟩ : ∃ (x : Ex) (a : Option Addr) (c : Nat), Value.agg cs0 = .agg #[.int .i64 x.kind, .string x.text, .slice a x.kids.length c] ∧ x.fit ∧ RD W (.slice a x.kids.length c) (exD x.kids) := by
    obtain ⟨fuel, hf⟩ := h0
    exact open_ex (P := Try.prog) (e := 37) (s := 35) ⟨⟨_, _, _, Try.underlying37, ⟨rfl, rfl, rfl⟩, Try.underlying3, Try.underlying9, rfl, by kernel_rfl, by kernel_rfl, by kernel_rfl⟩, Try.underlying35, by kernel_rfl⟩ hf hagg0
  clear hagg0 hcs0
  obtain rfl := Value.agg.inj hx0
  clear hA0 hval0
  refine (fnExactExprText_law x0 a0 c0 W hr0 hf0).mono fun e W' ⟨he, bel⟩ => ?_
  subst he
  exact ⟨_, rfl, _, _, _, [], _, [], hW', trodAll_mk1 (shut_bool Try.underlying4 _), (trodAll_cons_mk (Below.trod fnExactExprText_laidOut (by kernel_rfl) (of_decide_eq_true (by kernel_rfl)) k0 bel lt0) trodAll_mk0), rfl, bel.frame _, fun h => by cases h⟩

theorem fnExactExprText_over : Rows.fnExactExprTextRow.holds Try.pinned (OpenSpec.ofChange Rows.fnExactExprTextSpec) :=
  OpenClaim.holds_of_wide 5 Try.f5 rfl rfl rfl rfl rfl rfl rfl ⟨rfl, rfl, rfl, rfl, rfl⟩ rfl rfl rfl rfl rfl (by kernel_rfl) Try.func5 (by kernel_rfl)
    (of_decide_eq_true (by kernel_rfl)) (by unfold Func.isWrapper; first | (rw [if_pos (by decide +kernel)]; kernel_rfl) | (rw [if_neg (by decide +kernel)]; exact ⟨rfl, rfl⟩))
    (fun os started H enc _ => fnExactExprText_lifted os started H enc)

theorem fnExactExprText_proved : Rows.FnExactExprTextSaid := fnExactExprText_over
#print axioms fnExactExprText_proved
end Go.Proofs.Ytkbnafmkgiknbac
