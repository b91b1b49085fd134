/-
  Proved: at every two runs the exact law of RunSame returns true and leaves its arguments as they were (no condition beyond the row's own).
-/
import Derived.Test.YthnppodnjokaoabRows
import Derived.Test.YthnppodnjokaoabRunSameLaw
import Derived.Test.YthnppodnjokaoabHRun
import Derived.Test.YthnppodnjokaoabOpenL
import Derived.WalkKit
import Derived.ProofKit
import Derived.OpenShut
import Derived.ShutString
import Derived.ChangeOld
import Derived.Below
namespace Go.Proofs.Ythnppodnjokaoab
open Go.ChangeShapes Go.WideShapes Go.ChangeAt Go.RowKit
open Go.ChangeMaps (open_string shut_string)
set_option linter.unusedVariables false

theorem fnExactRunSame_own : ownKnob Try.prog.godebug = none := by kernel_rfl
theorem fnExactRunSame_laidOut : laidOutB Try.prog = true := by kernel_rfl

theorem fnExactRunSame_arr7 {cs : Array Value} (h : cs.toList.length = 7) : ∃ u0 u1 u2 u3 u4 u5 u6, cs = #[u0, u1, u2, u3, u4, u5, u6] := by
  obtain ⟨l⟩ := cs
  match l, h with
  | [u0, u1, u2, u3, u4, u5, u6], _ => exact ⟨_, _, _, _, _, _, _, rfl⟩

set_option maxRecDepth 100000 in
theorem fnExactRunSame_lifted (os : Os) (started : os.Started) (H : Type) (enc : TypeId × Value → H) :
    ReturnsInHanded {} Try.checked os 4 .any (Rows.fnExactRunSameSpec.pre6 enc Try.prog Try.f4 Rows.fnExactRunSameRow.domain false) (Rows.fnExactRunSameSpec.post enc Try.prog Try.f4 false true false false) := by
  refine returnsInHanded_of_change (C := Try.checked) fnExactRunSame_own started (by kernel_rfl) Try.func4
    (ChangeSpec.witness6 (enc := enc) (C := Try.checked) false ⟨#[], #[.agg #[.int .i64 0, .int .i64 0, .int .i64 0, .int .i64 0, .slice none 0 0, .slice none 0 0, .slice none 0 0], .agg #[.int .i64 0, .int .i64 0, .int .i64 0, .int .i64 0, .slice none 0 0, .slice none 0 0, .slice none 0 0]], []⟩ 8 (by kernel_rfl) (by kernel_rfl) (by kernel_rfl) (by kernel_rfl)) ?_
  intro W base args ds gs before hval0 hW hcnd _
  have hval : ∀ (j : Nat) t v, Try.f4.params[j]? = some t → args[j]? = some v → Value.okWide Try.prog W .any base t v := hval0
  clear hval0
  have hW' := hW
  obtain ⟨p, q, hA0, hV, rfl, hfz, hnd⟩ := hW
  have hA : DataW.TrodAll enc Try.prog W 0 (fun _ => true) true Try.f4.params.toList args.toList ds p := hA0
  rw [Try.params4] at hA hval
  obtain ⟨v0, vs0, d0, ds0, p0, q0, hargs0, rfl, rfl, h0, r0⟩ := trodAll_cons hA
  obtain ⟨v1, vs1, d1, ds1, p1, q1, hargs1, rfl, rfl, h1, r1⟩ := trodAll_cons r0
  obtain ⟨rfl, rfl, rfl⟩ := trodAll_nil r1
  obtain rfl : args = #[v0, v1] := by cases args; simp_all
  obtain ⟨rfl, rfl⟩ := trodVars_none hV
  have k0 := h0
  have lt0 : ∀ x ∈ p0, x.block < W.heap.size := by obtain ⟨m, hm⟩ := k0; exact DataW.trod_lt m _ _ _ hm
  obtain ⟨cs0, rfl, hcs0⟩ := okWide_struct Try.underlying39 (hval 0 39 v0 rfl rfl)
  obtain ⟨x0, hf0, hlen0, hrd0⟩ : ∃ z : Rn, Lay.run.fit z ∧ cs0.toList.length = 7 ∧ ∀ i (hi : i < cs0.toList.length) (hi' : i < (Lay.run.cells z).length), RD W cs0.toList[i] (Lay.run.cells z)[i] := by
    obtain ⟨fuel, hf⟩ := h0
    exact ((Opens.run Try.underlying39 rfl (by kernel_rfl) (Opens.int Try.underlying3) rfl (by kernel_rfl) (Opens.int Try.underlying3) rfl (by kernel_rfl) (Opens.int Try.underlying3) rfl (by kernel_rfl) (Opens.int Try.underlying3) rfl (by kernel_rfl) (Opens.list Try.underlying33 (by kernel_rfl) (Opens.slot Try.underlying71 rfl (by kernel_rfl) (Opens.int Try.underlying3) rfl (by kernel_rfl) (Opens.int Try.underlying3) (by kernel_rfl))) rfl (by kernel_rfl) (Opens.tree Try.underlying36 rfl (by kernel_rfl) (Opens.list Try.underlying34 (by kernel_rfl) (Opens.node Try.underlying77 rfl (by kernel_rfl) (Opens.int Try.underlying3) rfl (by kernel_rfl) (Opens.int Try.underlying3) rfl (by kernel_rfl) (Opens.int Try.underlying3) rfl (by kernel_rfl) (Opens.int Try.underlying3) rfl (by kernel_rfl) (Opens.list Try.underlying60 (by kernel_rfl) (Opens.int Try.underlying3)) (by kernel_rfl))) (by kernel_rfl)) rfl (by kernel_rfl) (Opens.list Try.underlying37 (by kernel_rfl) (Opens.err Try.underlying74 rfl (by kernel_rfl) (Opens.int Try.underlying3) rfl (by kernel_rfl) (Opens.int Try.underlying3) rfl (by kernel_rfl) (Opens.int Try.underlying3) (by kernel_rfl))) (by kernel_rfl)) : Opens enc Try.prog W 0 (fun _ => true) true 39 Lay.run) fuel _ _ hf
  obtain ⟨u0_0, u0_1, u0_2, u0_3, u0_4, u0_5, u0_6, hx0⟩ := fnExactRunSame_arr7 hlen0
  subst hx0
  obtain rfl : u0_0 = .int .i64 x0.code := RD.val_eq (hrd0 0 (by simp) (by simp [Lay.run]))
  obtain rfl : u0_1 = .int .i64 x0.pl := RD.val_eq (hrd0 1 (by simp) (by simp [Lay.run]))
  obtain rfl : u0_2 = .int .i64 x0.look := RD.val_eq (hrd0 2 (by simp) (by simp [Lay.run]))
  obtain rfl : u0_3 = .int .i64 x0.cost := RD.val_eq (hrd0 3 (by simp) (by simp [Lay.run]))
  have hr0_4' : RD W u0_4 (slD Lay.slot x0.slots) := hrd0 4 (by simp) (by simp [Lay.run])
  obtain ⟨a0_4, c0_4, rfl⟩ := RD.shapeL hr0_4'
  have hr0_4 := hr0_4'
  have hr0_5' : RD W u0_5 (slD Lay.node x0.tree.nodes) := hrd0 5 (by simp) (by simp [Lay.run])
  obtain ⟨a0_5, c0_5, rfl⟩ := RD.shapeL hr0_5'
  have hr0_5 := hr0_5'
  have hr0_6' : RD W u0_6 (slD Lay.err x0.errs) := hrd0 6 (by simp) (by simp [Lay.run])
  obtain ⟨a0_6, c0_6, rfl⟩ := RD.shapeL hr0_6'
  have hr0_6 := hr0_6'
  have k1 := h1
  have lt1 : ∀ x ∈ p1, x.block < W.heap.size := by obtain ⟨m, hm⟩ := k1; exact DataW.trod_lt m _ _ _ hm
  obtain ⟨cs1, rfl, hcs1⟩ := okWide_struct Try.underlying39 (hval 1 39 v1 rfl rfl)
  obtain ⟨x1, hf1, hlen1, hrd1⟩ : ∃ z : Rn, Lay.run.fit z ∧ cs1.toList.length = 7 ∧ ∀ i (hi : i < cs1.toList.length) (hi' : i < (Lay.run.cells z).length), RD W cs1.toList[i] (Lay.run.cells z)[i] := by
    obtain ⟨fuel, hf⟩ := h1
    exact ((Opens.run Try.underlying39 rfl (by kernel_rfl) (Opens.int Try.underlying3) rfl (by kernel_rfl) (Opens.int Try.underlying3) rfl (by kernel_rfl) (Opens.int Try.underlying3) rfl (by kernel_rfl) (Opens.int Try.underlying3) rfl (by kernel_rfl) (Opens.list Try.underlying33 (by kernel_rfl) (Opens.slot Try.underlying71 rfl (by kernel_rfl) (Opens.int Try.underlying3) rfl (by kernel_rfl) (Opens.int Try.underlying3) (by kernel_rfl))) rfl (by kernel_rfl) (Opens.tree Try.underlying36 rfl (by kernel_rfl) (Opens.list Try.underlying34 (by kernel_rfl) (Opens.node Try.underlying77 rfl (by kernel_rfl) (Opens.int Try.underlying3) rfl (by kernel_rfl) (Opens.int Try.underlying3) rfl (by kernel_rfl) (Opens.int Try.underlying3) rfl (by kernel_rfl) (Opens.int Try.underlying3) rfl (by kernel_rfl) (Opens.list Try.underlying60 (by kernel_rfl) (Opens.int Try.underlying3)) (by kernel_rfl))) (by kernel_rfl)) rfl (by kernel_rfl) (Opens.list Try.underlying37 (by kernel_rfl) (Opens.err Try.underlying74 rfl (by kernel_rfl) (Opens.int Try.underlying3) rfl (by kernel_rfl) (Opens.int Try.underlying3) rfl (by kernel_rfl) (Opens.int Try.underlying3) (by kernel_rfl))) (by kernel_rfl)) : Opens enc Try.prog W 0 (fun _ => true) true 39 Lay.run) fuel _ _ hf
  obtain ⟨u1_0, u1_1, u1_2, u1_3, u1_4, u1_5, u1_6, hx1⟩ := fnExactRunSame_arr7 hlen1
  subst hx1
  obtain rfl : u1_0 = .int .i64 x1.code := RD.val_eq (hrd1 0 (by simp) (by simp [Lay.run]))
  obtain rfl : u1_1 = .int .i64 x1.pl := RD.val_eq (hrd1 1 (by simp) (by simp [Lay.run]))
  obtain rfl : u1_2 = .int .i64 x1.look := RD.val_eq (hrd1 2 (by simp) (by simp [Lay.run]))
  obtain rfl : u1_3 = .int .i64 x1.cost := RD.val_eq (hrd1 3 (by simp) (by simp [Lay.run]))
  have hr1_4' : RD W u1_4 (slD Lay.slot x1.slots) := hrd1 4 (by simp) (by simp [Lay.run])
  obtain ⟨a1_4, c1_4, rfl⟩ := RD.shapeL hr1_4'
  have hr1_4 := hr1_4'
  have hr1_5' : RD W u1_5 (slD Lay.node x1.tree.nodes) := hrd1 5 (by simp) (by simp [Lay.run])
  obtain ⟨a1_5, c1_5, rfl⟩ := RD.shapeL hr1_5'
  have hr1_5 := hr1_5'
  have hr1_6' : RD W u1_6 (slD Lay.err x1.errs) := hrd1 6 (by simp) (by simp [Lay.run])
  obtain ⟨a1_6, c1_6, rfl⟩ := RD.shapeL hr1_6'
  have hr1_6 := hr1_6'
  clear hA0
  refine (fnExactRunSame_law x0 a0_4 c0_4 a0_5 c0_5 a0_6 c0_6 x1 a1_4 c1_4 a1_5 c1_5 a1_6 c1_6 W hr0_4 hr0_5 hr0_6 hr1_4 hr1_5 hr1_6 hf0 hf1).mono fun e W' ⟨he, bel⟩ => ?_
  subst he
  exact ⟨_, rfl, _, _, _, [], _, [], hW', trodAll_mk1 (shut_bool Try.underlying4 _), (trodAll_cons_mk (Below.trod fnExactRunSame_laidOut (by kernel_rfl) (of_decide_eq_true (by kernel_rfl)) k0 bel lt0) (trodAll_cons_mk (Below.trod fnExactRunSame_laidOut (by kernel_rfl) (of_decide_eq_true (by kernel_rfl)) k1 bel lt1) trodAll_mk0)), rfl, bel.frame _, fun h => by cases h⟩

theorem fnExactRunSame_over : Rows.fnExactRunSameRow.holds Try.pinned (OpenSpec.ofChange Rows.fnExactRunSameSpec) :=
  OpenClaim.holds_of_wide 4 Try.f4 rfl rfl rfl rfl rfl rfl rfl ⟨rfl, rfl, rfl, rfl, rfl⟩ rfl rfl rfl rfl rfl (by kernel_rfl) Try.func4 (by kernel_rfl)
    (of_decide_eq_true (by kernel_rfl)) (by unfold Func.isWrapper; first | (rw [if_pos (by decide +kernel)]; kernel_rfl) | (rw [if_neg (by decide +kernel)]; exact ⟨rfl, rfl⟩))
    (fun os started H enc _ => fnExactRunSame_lifted os started H enc)

theorem fnExactRunSame_proved : Rows.FnExactRunSameSaid := fnExactRunSame_over
#print axioms fnExactRunSame_proved
end Go.Proofs.Ythnppodnjokaoab

