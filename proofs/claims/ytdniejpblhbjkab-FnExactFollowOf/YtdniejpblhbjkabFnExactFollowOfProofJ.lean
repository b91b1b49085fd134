/-
  Proved: at every grammar and every integer the exact law of FollowOf returns true and leaves its argument as it was (no condition beyond the row's own).
-/
import Derived.Test.YtdniejpblhbjkabRows
import Derived.Test.YtdniejpblhbjkabG7
import Derived.Test.YtdniejpblhbjkabG2
import Derived.WalkKit
import Derived.ProofKit
import Derived.OpenShut
import Derived.ShutString
import Derived.ChangeOld
import Derived.Below
namespace Go.Proofs.Ytdniejpblhbjkab
open Go.ChangeShapes Go.WideShapes Go.ChangeAt Go.RowKit
open Go.ChangeMaps (open_string shut_string)
set_option linter.unusedVariables false

theorem fnExactFollowOf_own : ownKnob Try.prog.godebug = none := by kernel_rfl
theorem fnExactFollowOf_laidOut : laidOutB Try.prog = true := by kernel_rfl

theorem fnExactFollowOf_arr1 {cs : Array Value} (h : cs.toList.length = 1) : ∃ u0, cs = #[u0] := by
  obtain ⟨l⟩ := cs
  match l, h with
  | [u0], _ => exact ⟨_, rfl⟩

set_option maxRecDepth 100000 in
theorem fnExactFollowOf_lifted (os : Os) (started : os.Started) (H : Type) (enc : TypeId × Value → H) :
    ReturnsInHanded {} Try.checked os 4 .any (Rows.fnExactFollowOfSpec.pre6 enc Try.prog Try.f4 Rows.fnExactFollowOfRow.domain false) (Rows.fnExactFollowOfSpec.post enc Try.prog Try.f4 false true false false) := by
  refine returnsInHanded_of_change (C := Try.checked) fnExactFollowOf_own started (by kernel_rfl) Try.func4
    (ChangeSpec.witness6 (enc := enc) (C := Try.checked) false ⟨#[], #[.agg #[.slice none 0 0], .int .i64 0], []⟩ 8 (by kernel_rfl) (by kernel_rfl) (by kernel_rfl) (by kernel_rfl)) ?_
  intro W base args ds gs before hval0 hW hcnd _
  have hval : ∀ (j : Nat) t v, Try.f4.params[j]? = some t → args[j]? = some v → Value.okWide Try.prog W .any base t v := hval0
  clear hval0
  have hW' := hW
  obtain ⟨p, q, hA0, hV, rfl, hfz, hnd⟩ := hW
  have hA : DataW.TrodAll enc Try.prog W 0 (fun _ => true) true Try.f4.params.toList args.toList ds p := hA0
  rw [Try.params4] at hA hval
  obtain ⟨v0, vs0, d0, ds0, p0, q0, hargs0, rfl, rfl, h0, r0⟩ := trodAll_cons hA
  obtain ⟨v1, vs1, d1, ds1, p1, q1, hargs1, rfl, rfl, h1, r1⟩ := trodAll_cons r0
  obtain ⟨rfl, rfl, rfl⟩ := trodAll_nil r1
  obtain rfl : args = #[v0, v1] := by cases args; simp_all
  obtain ⟨rfl, rfl⟩ := trodVars_none hV
  have k0 := h0
  have lt0 : ∀ x ∈ p0, x.block < W.heap.size := by obtain ⟨m, hm⟩ := k0; exact DataW.trod_lt m _ _ _ hm
  obtain ⟨cs0, rfl, hcs0⟩ := okWide_struct Try.underlying24 (hval 0 24 v0 rfl rfl)
  obtain ⟨x0, hf0, hlen0, hrd0⟩ : ∃ z : Gm, Lay.gram.fit z ∧ cs0.toList.length = 1 ∧ ∀ i (hi : i < cs0.toList.length) (hi' : i < (Lay.gram.cells z).length), RD W cs0.toList[i] (Lay.gram.cells z)[i] := by
    obtain ⟨fuel, hf⟩ := h0
    exact ((Opens.gram Try.underlying24 rfl (by kernel_rfl) (Opens.list Try.underlying22 (by kernel_rfl) (Opens.list Try.underlying43 (by kernel_rfl) (Opens.list Try.underlying25 (by kernel_rfl) (Opens.int Try.underlying3)))) (by kernel_rfl)) : Opens enc Try.prog W 0 (fun _ => true) true 24 Lay.gram) fuel _ _ hf
  obtain ⟨u0_0, hx0⟩ := fnExactFollowOf_arr1 hlen0
  subst hx0
  have hr0_0' : RD W u0_0 (slD (Lay.list (Lay.list Lay.int)) x0.parts) := hrd0 0 (by simp) (by simp [Lay.gram])
  obtain ⟨a0_0, c0_0, rfl⟩ := RD.shapeL hr0_0'
  have hr0_0 := hr0_0'
  have k1 := h1
  have lt1 : ∀ x ∈ p1, x.block < W.heap.size := by obtain ⟨m, hm⟩ := k1; exact DataW.trod_lt m _ _ _ hm
  obtain ⟨n1, rfl⟩ := okWide_int Try.underlying3 (hval 1 3 v1 rfl rfl)
  obtain ⟨_, wf1⟩ : ∃ _ : True, (Lit.int .i64 n1).wf = true := ⟨trivial, by obtain ⟨m, hm⟩ := h1; obtain ⟨_, e, _, hw⟩ := DataW.trod_int Try.underlying3 hm; simp [Value.cells] at e; rw [e]; exact hw⟩
  clear hA0
  refine (fnExactFollowOf_law x0 a0_0 c0_0 n1 W hr0_0 hf0 wf1).mono fun e W' ⟨he, bel⟩ => ?_
  subst he
  exact ⟨_, rfl, _, _, _, [], _, [], hW', trodAll_mk1 (shut_bool Try.underlying4 _), (trodAll_cons_mk (Below.trod fnExactFollowOf_laidOut (by kernel_rfl) (of_decide_eq_true (by kernel_rfl)) k0 bel lt0) (trodAll_cons_mk (Below.trod fnExactFollowOf_laidOut (by kernel_rfl) (of_decide_eq_true (by kernel_rfl)) k1 bel lt1) trodAll_mk0)), rfl, bel.frame _, fun h => by cases h⟩

theorem fnExactFollowOf_over : Rows.fnExactFollowOfRow.holds Try.pinned (OpenSpec.ofChange Rows.fnExactFollowOfSpec) :=
  OpenClaim.holds_of_wide 4 Try.f4 rfl rfl rfl rfl rfl rfl rfl ⟨rfl, rfl, rfl, rfl, rfl⟩ rfl rfl rfl rfl rfl (by kernel_rfl) Try.func4 (by kernel_rfl)
    (of_decide_eq_true (by kernel_rfl)) (by unfold Func.isWrapper; first | (rw [if_pos (by decide +kernel)]; kernel_rfl) | (rw [if_neg (by decide +kernel)]; exact ⟨rfl, rfl⟩))
    (fun os started H enc _ => fnExactFollowOf_lifted os started H enc)

theorem fnExactFollowOf_proved : Rows.FnExactFollowOfSaid := fnExactFollowOf_over
#print axioms fnExactFollowOf_proved
end Go.Proofs.Ytdniejpblhbjkab

