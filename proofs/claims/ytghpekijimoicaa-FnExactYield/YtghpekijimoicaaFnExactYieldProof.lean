/-
  Proved: at every tree the exact law of Yield returns true and leaves its argument as it was (no condition beyond the row's own).
-/
import Derived.Test.YtghpekijimoicaaRows
import Derived.Test.YtghpekijimoicaaYieldLaw
import Derived.Test.YtghpekijimoicaaHTree
import Derived.Test.YtghpekijimoicaaOpenL
import Derived.WalkKit
import Derived.ProofKit
import Derived.OpenShut
import Derived.ShutString
import Derived.ChangeOld
import Derived.Below
namespace Go.Proofs.Ytghpekijimoicaa
open Go.ChangeShapes Go.WideShapes Go.ChangeAt Go.RowKit
open Go.ChangeMaps (open_string shut_string)
set_option linter.unusedVariables false

theorem fnExactYield_own : ownKnob Try.prog.godebug = none := by kernel_rfl
theorem fnExactYield_laidOut : laidOutB Try.prog = true := by kernel_rfl

theorem fnExactYield_arr1 {cs : Array Value} (h : cs.toList.length = 1) : ∃ u0, cs = #[u0] := by
  obtain ⟨l⟩ := cs
  match l, h with
  | [u0], _ => exact ⟨_, rfl⟩

set_option maxRecDepth 100000 in
theorem fnExactYield_lifted (os : Os) (started : os.Started) (H : Type) (enc : TypeId × Value → H) :
    ReturnsInHanded {} Try.checked os 4 .any (Rows.fnExactYieldSpec.pre6 enc Try.prog Try.f4 Rows.fnExactYieldRow.domain false) (Rows.fnExactYieldSpec.post enc Try.prog Try.f4 false true false false) := by
  refine returnsInHanded_of_change (C := Try.checked) fnExactYield_own started (by kernel_rfl) Try.func4
    (ChangeSpec.witness6 (enc := enc) (C := Try.checked) false ⟨#[], #[.agg #[.slice none 0 0]], []⟩ 8 (by kernel_rfl) (by kernel_rfl) (by kernel_rfl) (by kernel_rfl)) ?_
  intro W base args ds gs before hval0 hW hcnd _
  have hval : ∀ (j : Nat) t v, Try.f4.params[j]? = some t → args[j]? = some v → Value.okWide Try.prog W .any base t v := hval0
  clear hval0
  have hW' := hW
  obtain ⟨p, q, hA0, hV, rfl, hfz, hnd⟩ := hW
  have hA : DataW.TrodAll enc Try.prog W 0 (fun _ => true) true Try.f4.params.toList args.toList ds p := hA0
  rw [Try.params4] at hA hval
  obtain ⟨v0, vs0, d0, ds0, p0, q0, hargs0, rfl, rfl, h0, r0⟩ := trodAll_cons hA
  obtain ⟨rfl, rfl, rfl⟩ := trodAll_nil r0
  obtain rfl : args = #[v0] := by cases args; simp_all
  obtain ⟨rfl, rfl⟩ := trodVars_none hV
  have k0 := h0
  have lt0 : ∀ x ∈ p0, x.block < W.heap.size := by obtain ⟨m, hm⟩ := k0; exact DataW.trod_lt m _ _ _ hm
  obtain ⟨cs0, rfl, hcs0⟩ := okWide_struct Try.underlying24 (hval 0 24 v0 rfl rfl)
  obtain ⟨x0, hf0, hlen0, hrd0⟩ : ∃ z : Tr, Lay.tree.fit z ∧ cs0.toList.length = 1 ∧ ∀ i (hi : i < cs0.toList.length) (hi' : i < (Lay.tree.cells z).length), RD W cs0.toList[i] (Lay.tree.cells z)[i] := by
    obtain ⟨fuel, hf⟩ := h0
    exact ((Opens.tree Try.underlying24 rfl (by kernel_rfl) (Opens.list Try.underlying22 (by kernel_rfl) (Opens.node Try.underlying53 rfl (by kernel_rfl) (Opens.int Try.underlying3) rfl (by kernel_rfl) (Opens.int Try.underlying3) rfl (by kernel_rfl) (Opens.int Try.underlying3) rfl (by kernel_rfl) (Opens.int Try.underlying3) rfl (by kernel_rfl) (Opens.list Try.underlying33 (by kernel_rfl) (Opens.int Try.underlying3)) (by kernel_rfl))) (by kernel_rfl)) : Opens enc Try.prog W 0 (fun _ => true) true 24 Lay.tree) fuel _ _ hf
  obtain ⟨u0_0, hx0⟩ := fnExactYield_arr1 hlen0
  subst hx0
  have hr0_0' : RD W u0_0 (slD Lay.node x0.nodes) := hrd0 0 (by simp) (by simp [Lay.tree])
  obtain ⟨a0_0, c0_0, rfl⟩ := RD.shapeL hr0_0'
  have hr0_0 := hr0_0'
  clear hA0
  refine (fnExactYield_law x0 a0_0 c0_0 W hr0_0 hf0).mono fun e W' ⟨he, bel⟩ => ?_
  subst he
  exact ⟨_, rfl, _, _, _, [], _, [], hW', trodAll_mk1 (shut_bool Try.underlying4 _), (trodAll_cons_mk (Below.trod fnExactYield_laidOut (by kernel_rfl) (of_decide_eq_true (by kernel_rfl)) k0 bel lt0) trodAll_mk0), rfl, bel.frame _, fun h => by cases h⟩

theorem fnExactYield_over : Rows.fnExactYieldRow.holds Try.pinned (OpenSpec.ofChange Rows.fnExactYieldSpec) :=
  OpenClaim.holds_of_wide 4 Try.f4 rfl rfl rfl rfl rfl rfl rfl ⟨rfl, rfl, rfl, rfl, rfl⟩ rfl rfl rfl rfl rfl (by kernel_rfl) Try.func4 (by kernel_rfl)
    (of_decide_eq_true (by kernel_rfl)) (by unfold Func.isWrapper; first | (rw [if_pos (by decide +kernel)]; kernel_rfl) | (rw [if_neg (by decide +kernel)]; exact ⟨rfl, rfl⟩))
    (fun os started H enc _ => fnExactYield_lifted os started H enc)

theorem fnExactYield_proved : Rows.FnExactYieldSaid := fnExactYield_over
#print axioms fnExactYield_proved
end Go.Proofs.Ytghpekijimoicaa

