/-
  Proved: at every list of integers the exact law of InputText returns true and leaves its argument as it was (no condition beyond the row's own).
-/
import Derived.Test.YtojbghmlcgadeabRows
import Derived.Test.YtojbghmlcgadeabInputTextLaw
import Derived.Test.YtojbghmlcgadeabOpenL
import Derived.WalkKit
import Derived.ProofKit
import Derived.OpenShut
import Derived.ShutString
import Derived.ChangeOld
import Derived.Below
namespace Go.Proofs.Ytojbghmlcgadeab
open Go.ChangeShapes Go.WideShapes Go.ChangeAt Go.RowKit
open Go.ChangeMaps (open_string shut_string)
set_option linter.unusedVariables false

theorem fnExactInputText_own : ownKnob Try.prog.godebug = none := by kernel_rfl
theorem fnExactInputText_laidOut : laidOutB Try.prog = true := by kernel_rfl

set_option maxRecDepth 100000 in
theorem fnExactInputText_lifted (os : Os) (started : os.Started) (H : Type) (enc : TypeId × Value → H) :
    ReturnsInHanded {} Try.checked os 4 .any (Rows.fnExactInputTextSpec.pre6 enc Try.prog Try.f4 Rows.fnExactInputTextRow.domain false) (Rows.fnExactInputTextSpec.post enc Try.prog Try.f4 false true false false) := by
  refine returnsInHanded_of_change (C := Try.checked) fnExactInputText_own started (by kernel_rfl) Try.func4
    (ChangeSpec.witness6 (enc := enc) (C := Try.checked) false ⟨#[], #[.slice none 0 0], []⟩ 8 (by kernel_rfl) (by kernel_rfl) (by kernel_rfl) (by kernel_rfl)) ?_
  intro W base args ds gs before hval0 hW hcnd _
  have hval : ∀ (j : Nat) t v, Try.f4.params[j]? = some t → args[j]? = some v → Value.okWide Try.prog W .any base t v := hval0
  clear hval0
  have hW' := hW
  obtain ⟨p, q, hA0, hV, rfl, hfz, hnd⟩ := hW
  have hA : DataW.TrodAll enc Try.prog W 0 (fun _ => true) true Try.f4.params.toList args.toList ds p := hA0
  rw [Try.params4] at hA hval
  obtain ⟨v0, vs0, d0, ds0, p0, q0, hargs0, rfl, rfl, h0, r0⟩ := trodAll_cons hA
  obtain ⟨rfl, rfl, rfl⟩ := trodAll_nil r0
  obtain rfl : args = #[v0] := by cases args; simp_all
  obtain ⟨rfl, rfl⟩ := trodVars_none hV
  have k0 := h0
  have lt0 : ∀ x ∈ p0, x.block < W.heap.size := by obtain ⟨m, hm⟩ := k0; exact DataW.trod_lt m _ _ _ hm
  obtain ⟨a0_0, len0, c0_0, rfl⟩ := okWide_slice Try.underlying22 (hval 0 22 v0 rfl rfl)
  obtain ⟨z0, rfl, hfz0, hr0_0⟩ : ∃ zs : List Int, len0 = zs.length ∧ (Lay.list Lay.int).fit zs ∧ RD W (.slice a0_0 zs.length c0_0) (slD Lay.int zs) := by
    obtain ⟨fuel, hf⟩ := h0
    exact Opens.slice (P := Try.prog) (t := 22) (Opens.list Try.underlying22 (by kernel_rfl) (Opens.int Try.underlying3)) hf
  have hm0 := hfz0.1
  clear hA0
  refine (fnExactInputText_law z0 a0_0 c0_0 W hr0_0 hfz0).mono fun e W' ⟨he, bel⟩ => ?_
  subst he
  exact ⟨_, rfl, _, _, _, [], _, [], hW', trodAll_mk1 (shut_bool Try.underlying4 _), (trodAll_cons_mk (Below.trod fnExactInputText_laidOut (by kernel_rfl) (of_decide_eq_true (by kernel_rfl)) k0 bel lt0) trodAll_mk0), rfl, bel.frame _, fun h => by cases h⟩

theorem fnExactInputText_over : Rows.fnExactInputTextRow.holds Try.pinned (OpenSpec.ofChange Rows.fnExactInputTextSpec) :=
  OpenClaim.holds_of_wide 4 Try.f4 rfl rfl rfl rfl rfl rfl rfl ⟨rfl, rfl, rfl, rfl, rfl⟩ rfl rfl rfl rfl rfl (by kernel_rfl) Try.func4 (by kernel_rfl)
    (of_decide_eq_true (by kernel_rfl)) (by unfold Func.isWrapper; first | (rw [if_pos (by decide +kernel)]; kernel_rfl) | (rw [if_neg (by decide +kernel)]; exact ⟨rfl, rfl⟩))
    (fun os started H enc _ => fnExactInputText_lifted os started H enc)

theorem fnExactInputText_proved : Rows.FnExactInputTextSaid := fnExactInputText_over
#print axioms fnExactInputText_proved
end Go.Proofs.Ytojbghmlcgadeab

