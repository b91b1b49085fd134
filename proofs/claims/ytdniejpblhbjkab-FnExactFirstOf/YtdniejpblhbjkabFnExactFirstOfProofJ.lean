/-
  Proved: at every grammar and every list of integers the exact law of FirstOf returns true and leaves its arguments as they were (no condition beyond the row's own).
-/
import Derived.Test.YtdniejpblhbjkabRows
import Derived.Test.YtdniejpblhbjkabG6
import Derived.Test.YtdniejpblhbjkabG2
import Derived.WalkKit
import Derived.ProofKit
import Derived.OpenShut
import Derived.ShutString
import Derived.ChangeOld
import Derived.Below
namespace Go.Proofs.Ytdniejpblhbjkab
open Go.ChangeShapes Go.WideShapes Go.ChangeAt Go.RowKit
open Go.ChangeMaps (open_string shut_string)
set_option linter.unusedVariables false

theorem fnExactFirstOf_own : ownKnob Try.prog.godebug = none := by kernel_rfl
theorem fnExactFirstOf_laidOut : laidOutB Try.prog = true := by kernel_rfl

theorem fnExactFirstOf_arr1 {cs : Array Value} (h : cs.toList.length = 1) : ∃ u0, cs = #[u0] := by
  obtain ⟨l⟩ := cs
  match l, h with
  | [u0], _ => exact ⟨_, rfl⟩

set_option maxRecDepth 100000 in
theorem fnExactFirstOf_lifted (os : Os) (started : os.Started) (H : Type) (enc : TypeId × Value → H) :
    ReturnsInHanded {} Try.checked os 3 .any (Rows.fnExactFirstOfSpec.pre6 enc Try.prog Try.f3 Rows.fnExactFirstOfRow.domain false) (Rows.fnExactFirstOfSpec.post enc Try.prog Try.f3 false true false false) := by
  refine returnsInHanded_of_change (C := Try.checked) fnExactFirstOf_own started (by kernel_rfl) Try.func3
    (ChangeSpec.witness6 (enc := enc) (C := Try.checked) false ⟨#[], #[.agg #[.slice none 0 0], .slice none 0 0], []⟩ 8 (by kernel_rfl) (by kernel_rfl) (by kernel_rfl) (by kernel_rfl)) ?_
  intro W base args ds gs before hval0 hW hcnd _
  have hval : ∀ (j : Nat) t v, Try.f3.params[j]? = some t → args[j]? = some v → Value.okWide Try.prog W .any base t v := hval0
  clear hval0
  have hW' := hW
  obtain ⟨p, q, hA0, hV, rfl, hfz, hnd⟩ := hW
  have hA : DataW.TrodAll enc Try.prog W 0 (fun _ => true) true Try.f3.params.toList args.toList ds p := hA0
  rw [Try.params3] at hA hval
  obtain ⟨v0, vs0, d0, ds0, p0, q0, hargs0, rfl, rfl, h0, r0⟩ := trodAll_cons hA
  obtain ⟨v1, vs1, d1, ds1, p1, q1, hargs1, rfl, rfl, h1, r1⟩ := trodAll_cons r0
  obtain ⟨rfl, rfl, rfl⟩ := trodAll_nil r1
  obtain rfl : args = #[v0, v1] := by cases args; simp_all
  obtain ⟨rfl, rfl⟩ := trodVars_none hV
  have k0 := h0
  have lt0 : ∀ x ∈ p0, x.block < W.heap.size := by obtain ⟨m, hm⟩ := k0; exact DataW.trod_lt m _ _ _ hm
  obtain ⟨cs0, rfl, hcs0⟩ := okWide_struct Try.underlying24 (hval 0 24 v0 rfl rfl)
  obtain ⟨x0, hf0, hlen0, hrd0⟩ : ∃ z : Gm, Lay.gram.fit z ∧ cs0.toList.length = 1 ∧ ∀ i (hi : i < cs0.toList.length) (hi' : i < (Lay.gram.cells z).length), RD W cs0.toList[i] (Lay.gram.cells z)[i] := by
    obtain ⟨fuel, hf⟩ := h0
    exact ((Opens.gram Try.underlying24 rfl (by kernel_rfl) (Opens.list Try.underlying22 (by kernel_rfl) (Opens.list Try.underlying43 (by kernel_rfl) (Opens.list Try.underlying25 (by kernel_rfl) (Opens.int Try.underlying3)))) (by kernel_rfl)) : Opens enc Try.prog W 0 (fun _ => true) true 24 Lay.gram) fuel _ _ hf
  obtain ⟨u0_0, hx0⟩ := fnExactFirstOf_arr1 hlen0
  subst hx0
  have hr0_0' : RD W u0_0 (slD (Lay.list (Lay.list Lay.int)) x0.parts) := hrd0 0 (by simp) (by simp [Lay.gram])
  obtain ⟨a0_0, c0_0, rfl⟩ := RD.shapeL hr0_0'
  have hr0_0 := hr0_0'
  have k1 := h1
  have lt1 : ∀ x ∈ p1, x.block < W.heap.size := by obtain ⟨m, hm⟩ := k1; exact DataW.trod_lt m _ _ _ hm
  obtain ⟨a1_0, len1, c1_0, rfl⟩ := okWide_slice Try.underlying25 (hval 1 25 v1 rfl rfl)
  obtain ⟨z1, rfl, hfz1, hr1_0⟩ : ∃ zs : List Int, len1 = zs.length ∧ (Lay.list Lay.int).fit zs ∧ RD W (.slice a1_0 zs.length c1_0) (slD Lay.int zs) := by
    obtain ⟨fuel, hf⟩ := h1
    exact Opens.slice (P := Try.prog) (t := 25) (Opens.list Try.underlying25 (by kernel_rfl) (Opens.int Try.underlying3)) hf
  have hm1 := hfz1.1
  clear hA0
  refine (fnExactFirstOf_law x0 a0_0 c0_0 z1 a1_0 c1_0 W hr0_0 hr1_0 hf0 hfz1).mono fun e W' ⟨he, bel⟩ => ?_
  subst he
  exact ⟨_, rfl, _, _, _, [], _, [], hW', trodAll_mk1 (shut_bool Try.underlying4 _), (trodAll_cons_mk (Below.trod fnExactFirstOf_laidOut (by kernel_rfl) (of_decide_eq_true (by kernel_rfl)) k0 bel lt0) (trodAll_cons_mk (Below.trod fnExactFirstOf_laidOut (by kernel_rfl) (of_decide_eq_true (by kernel_rfl)) k1 bel lt1) trodAll_mk0)), rfl, bel.frame _, fun h => by cases h⟩

theorem fnExactFirstOf_over : Rows.fnExactFirstOfRow.holds Try.pinned (OpenSpec.ofChange Rows.fnExactFirstOfSpec) :=
  OpenClaim.holds_of_wide 3 Try.f3 rfl rfl rfl rfl rfl rfl rfl ⟨rfl, rfl, rfl, rfl, rfl⟩ rfl rfl rfl rfl rfl (by kernel_rfl) Try.func3 (by kernel_rfl)
    (of_decide_eq_true (by kernel_rfl)) (by unfold Func.isWrapper; first | (rw [if_pos (by decide +kernel)]; kernel_rfl) | (rw [if_neg (by decide +kernel)]; exact ⟨rfl, rfl⟩))
    (fun os started H enc _ => fnExactFirstOf_lifted os started H enc)

theorem fnExactFirstOf_proved : Rows.FnExactFirstOfSaid := fnExactFirstOf_over
#print axioms fnExactFirstOf_proved
end Go.Proofs.Ytdniejpblhbjkab

