/-
  Proved: at every grammar, every tree and every list of integers the exact law of TreeOk returns true and leaves its arguments as they were; the card ties the four errors of chapter 6 to the program's text.
-/
import Derived.Test.YthnppodnjokaoaaDoorCards
import Derived.Test.YthnppodnjokaoaaDoorTie
import Derived.Test.YthnppodnjokaoaaDoorRows
import Derived.Test.YthnppodnjokaoaaDoorG33
import Derived.Test.YthnppodnjokaoaaDoorG11
import Derived.Test.YthnppodnjokaoaaDoorG7
import Derived.WalkKit
import Derived.ProofKit
import Derived.OpenShut
import Derived.ShutString
import Derived.ChangeOld
import Derived.Below
import Derived.Deep.DeepHandedRow
import Derived.Lib.LaidTab
import Derived.OpenVars
namespace Go.Proofs.YthnppodnjokaoaaDoor
open Go.ChangeShapes Go.WideShapes Go.ChangeAt Go.RowKit
open Go.ChangeMaps (open_string shut_string)
set_option linter.unusedVariables false

theorem fnExactTreeOk_own : ownKnob Tryd.prog.godebug = none := by kernel_rfl
theorem fnExactTreeOk_laidOut : laidOutB Tryd.prog = true := by kernel_rfl

theorem fnExactTreeOk_vars {H : Type} {enc : TypeId × Value → H} {P : Program} {w : World} {sp : Nat → Bool} {n0 n1 n2 n3 : String} {gs : List (DataW H)} {ps : List MemPlace} (h : DataW.TrodVars enc P w sp [n0, n1, n2, n3] gs ps) : ∃ y0 y1 y2 y3, gs = [y0, y1, y2, y3] := by
  cases gs with
  | nil => exact h.elim
  | cons y0 gs =>
  obtain ⟨_, _, _, _, _, _, _, _, _, _, h0, _⟩ := h
  cases gs with
  | nil => exact h0.elim
  | cons y1 gs =>
  obtain ⟨_, _, _, _, _, _, _, _, _, _, h1, _⟩ := h0
  cases gs with
  | nil => exact h1.elim
  | cons y2 gs =>
  obtain ⟨_, _, _, _, _, _, _, _, _, _, h2, _⟩ := h1
  cases gs with
  | nil => exact h2.elim
  | cons y3 gs =>
  obtain ⟨_, _, _, _, _, _, _, _, _, _, h3, _⟩ := h2
  cases gs with
  | cons y gs => exact h3.elim
  | nil => exact ⟨y0, y1, y2, y3, rfl⟩

theorem fnExactTreeOk_arr1 {cs : Array Value} (h : cs.toList.length = 1) : ∃ u0, cs = #[u0] := by
  obtain ⟨l⟩ := cs
  match l, h with
  | [u0], _ => exact ⟨_, rfl⟩

set_option maxRecDepth 100000 in
theorem fnExactTreeOk_contract (H : Type) (enc : TypeId × Value → H) (W : World) (base : Nat) (args : Array Value) (ds gs : List (DataW H)) (before : List MemPlace)
    (hval : ∀ (j : Nat) t v, Tryd.f4.params[j]? = some t → args[j]? = some v → Value.okWide Tryd.prog W .any base t v)
    (hW : DataW.Whole enc Tryd.prog Tryd.f4.params.toList Rows.fnExactTreeOkSpec.vars false W args.toList ds gs before) (hL : laidMetH Tryd.prog Rows.fnExactTreeOkRow.laid W) (hS : W.ShapedOpen Tryd.prog) :
    Calls Tryd.prog 4 args W fun e W' => ∃ v, e = .returned v ∧ Rows.fnExactTreeOkSpec.post enc Tryd.prog Tryd.f4 false true false false W args v W' := by
  have hW' := hW
  obtain ⟨p, q, hA0, hV, rfl, hfz, hnd⟩ := hW
  have hA : DataW.TrodAll enc Tryd.prog W 0 (fun _ => true) true Tryd.f4.params.toList args.toList ds p := hA0
  rw [Tryd.params4] at hA hval
  obtain ⟨v0, vs0, d0, ds0, p0, q0, hargs0, rfl, rfl, h0, r0⟩ := trodAll_cons hA
  obtain ⟨v1, vs1, d1, ds1, p1, q1, hargs1, rfl, rfl, h1, r1⟩ := trodAll_cons r0
  obtain ⟨v2, vs2, d2, ds2, p2, q2, hargs2, rfl, rfl, h2, r2⟩ := trodAll_cons r1
  obtain ⟨rfl, rfl, rfl⟩ := trodAll_nil r2
  obtain rfl : args = #[v0, v1, v2] := by cases args; simp_all
  obtain ⟨y0, y1, y2, y3, rfl⟩ := fnExactTreeOk_vars hV
  have k0 := h0
  have lt0 : ∀ x ∈ p0, x.block < W.heap.size := by obtain ⟨m, hm⟩ := k0; exact DataW.trod_lt m _ _ _ hm
  obtain ⟨cs0, rfl, hcs0⟩ := okWide_struct Tryd.underlying24 (hval 0 24 v0 rfl rfl)
  obtain ⟨x0, hf0, hlen0, hrd0⟩ : ∃ z : Gm, Lay.gram.fit z ∧ cs0.toList.length = 1 ∧ ∀ i (hi : i < cs0.toList.length) (hi' : i < (Lay.gram.cells z).length), RD W cs0.toList[i] (Lay.gram.cells z)[i] := by
    obtain ⟨fuel, hf⟩ := h0
    exact ((Opens.gram Tryd.underlying24 rfl (by kernel_rfl) (Opens.list Tryd.underlying22 (by kernel_rfl) (Opens.list Tryd.underlying64 (by kernel_rfl) (Opens.list Tryd.underlying25 (by kernel_rfl) (Opens.int Tryd.underlying3)))) (by kernel_rfl)) : Opens enc Tryd.prog W 0 (fun _ => true) true 24 Lay.gram) fuel _ _ hf
  obtain ⟨u0_0, hx0⟩ := fnExactTreeOk_arr1 hlen0
  subst hx0
  have hr0_0' : RD W u0_0 (slD (Lay.list (Lay.list Lay.int)) x0.parts) := hrd0 0 (by simp) (by simp [Lay.gram])
  obtain ⟨a0_0, c0_0, rfl⟩ := RD.shapeL hr0_0'
  have hr0_0 := hr0_0'
  have k1 := h1
  have lt1 : ∀ x ∈ p1, x.block < W.heap.size := by obtain ⟨m, hm⟩ := k1; exact DataW.trod_lt m _ _ _ hm
  obtain ⟨cs1, rfl, hcs1⟩ := okWide_struct Tryd.underlying38 (hval 1 38 v1 rfl rfl)
  obtain ⟨x1, hf1, hlen1, hrd1⟩ : ∃ z : Tr, Lay.tree.fit z ∧ cs1.toList.length = 1 ∧ ∀ i (hi : i < cs1.toList.length) (hi' : i < (Lay.tree.cells z).length), RD W cs1.toList[i] (Lay.tree.cells z)[i] := by
    obtain ⟨fuel, hf⟩ := h1
    exact ((Opens.tree Tryd.underlying38 rfl (by kernel_rfl) (Opens.list Tryd.underlying36 (by kernel_rfl) (Opens.node Tryd.underlying78 rfl (by kernel_rfl) (Opens.int Tryd.underlying3) rfl (by kernel_rfl) (Opens.int Tryd.underlying3) rfl (by kernel_rfl) (Opens.int Tryd.underlying3) rfl (by kernel_rfl) (Opens.int Tryd.underlying3) rfl (by kernel_rfl) (Opens.list Tryd.underlying25 (by kernel_rfl) (Opens.int Tryd.underlying3)) (by kernel_rfl))) (by kernel_rfl)) : Opens enc Tryd.prog W 0 (fun _ => true) true 38 Lay.tree) fuel _ _ hf
  obtain ⟨u1_0, hx1⟩ := fnExactTreeOk_arr1 hlen1
  subst hx1
  have hr1_0' : RD W u1_0 (slD Lay.node x1.nodes) := hrd1 0 (by simp) (by simp [Lay.tree])
  obtain ⟨a1_0, c1_0, rfl⟩ := RD.shapeL hr1_0'
  have hr1_0 := hr1_0'
  have k2 := h2
  have lt2 : ∀ x ∈ p2, x.block < W.heap.size := by obtain ⟨m, hm⟩ := k2; exact DataW.trod_lt m _ _ _ hm
  obtain ⟨a2_0, len2, c2_0, rfl⟩ := okWide_slice Tryd.underlying25 (hval 2 25 v2 rfl rfl)
  obtain ⟨z2, rfl, hfz2, hr2_0⟩ : ∃ zs : List Int, len2 = zs.length ∧ (Lay.list Lay.int).fit zs ∧ RD W (.slice a2_0 zs.length c2_0) (slD Lay.int zs) := by
    obtain ⟨fuel, hf⟩ := h2
    exact Opens.slice (P := Tryd.prog) (t := 25) (Opens.list Tryd.underlying25 (by kernel_rfl) (Opens.int Tryd.underlying3)) hf
  have hm2 := hfz2.1
  clear hA0
  refine (fnExactTreeOk_law x0 a0_0 c0_0 x1 a1_0 c1_0 z2 a2_0 c2_0 W hr0_0 hr1_0 hr2_0 hf0 hf1 hfz2 (errs_laid hL)).mono fun e W' ⟨he, bel⟩ => ?_
  subst he
  exact ⟨_, rfl, _, _, _, [], _, _, hW', trodAll_mk1 (shut_bool Tryd.underlying4 _), (trodAll_cons_mk (Below.trod fnExactTreeOk_laidOut (by kernel_rfl) (of_decide_eq_true (by kernel_rfl)) k0 bel lt0) (trodAll_cons_mk (Below.trod fnExactTreeOk_laidOut (by kernel_rfl) (of_decide_eq_true (by kernel_rfl)) k1 bel lt1) (trodAll_cons_mk (Below.trod fnExactTreeOk_laidOut (by kernel_rfl) (of_decide_eq_true (by kernel_rfl)) k2 bel lt2) trodAll_mk0))), Below.trodVars fnExactTreeOk_laidOut bel (by kernel_rfl) hV, bel.frame _, fun h => by cases h⟩

theorem fnExactTreeOk_laid (os : Os) : laidMet Tryd.prog Rows.fnExactTreeOkRow.laid (({ World.holding Tryd.prog os ⟨#[.cells #[.string ⟨#[116, 104, 105, 115, 32, 105, 115, 32, 110, 111, 32, 103, 114, 97, 109, 109, 97, 114]⟩] 197, .cells #[.string ⟨#[97, 32, 112, 97, 114, 116, 32, 98, 101, 103, 105, 110, 115, 32, 119, 105, 116, 104, 32, 105, 116, 115, 101, 108, 102]⟩] 197, .cells #[.string ⟨#[97, 32, 112, 97, 114, 116, 32, 98, 101, 99, 111, 109, 101, 115, 32, 110, 111, 32, 114, 111, 119, 32, 111, 102, 32, 108, 101, 116, 116, 101, 114, 115]⟩] 197, .cells #[.string ⟨#[97, 32, 112, 97, 114, 116, 32, 105, 115, 32, 110, 111, 116, 32, 114, 101, 97, 99, 104, 101, 100]⟩] 197], #[], []⟩ with heap := (((((World.holding Tryd.prog os ⟨#[.cells #[.string ⟨#[116, 104, 105, 115, 32, 105, 115, 32, 110, 111, 32, 103, 114, 97, 109, 109, 97, 114]⟩] 197, .cells #[.string ⟨#[97, 32, 112, 97, 114, 116, 32, 98, 101, 103, 105, 110, 115, 32, 119, 105, 116, 104, 32, 105, 116, 115, 101, 108, 102]⟩] 197, .cells #[.string ⟨#[97, 32, 112, 97, 114, 116, 32, 98, 101, 99, 111, 109, 101, 115, 32, 110, 111, 32, 114, 111, 119, 32, 111, 102, 32, 108, 101, 116, 116, 101, 114, 115]⟩] 197, .cells #[.string ⟨#[97, 32, 112, 97, 114, 116, 32, 105, 115, 32, 110, 111, 116, 32, 114, 101, 97, 99, 104, 101, 100]⟩] 197], #[], []⟩).heap.modify 0 fun | .cells _ t z => .cells (#[.iface 171 (.pointer (some ⟨(World.holding Tryd.prog default ⟨#[], #[], []⟩).heap.size + 0, 0, none⟩))]) t z | o => o).modify 1 fun | .cells _ t z => .cells (#[.iface 171 (.pointer (some ⟨(World.holding Tryd.prog default ⟨#[], #[], []⟩).heap.size + 1, 0, none⟩))]) t z | o => o).modify 2 fun | .cells _ t z => .cells (#[.iface 171 (.pointer (some ⟨(World.holding Tryd.prog default ⟨#[], #[], []⟩).heap.size + 2, 0, none⟩))]) t z | o => o).modify 3 fun | .cells _ t z => .cells (#[.iface 171 (.pointer (some ⟨(World.holding Tryd.prog default ⟨#[], #[], []⟩).heap.size + 3, 0, none⟩))]) t z | o => o) } : World).forCall (fun _ _ => 0) ⟨#[], #[.agg #[.slice none 0 0], .agg #[.slice none 0 0], .slice none 0 0], []⟩).memory :=
  laidMet_of_run' 8 (by kernel_rfl) (by kernel_rfl)
theorem fnExactTreeOk_reads (os : Os) {H : Type} (enc : TypeId × Value → H) : ∃ places, DataW.whole enc Tryd.prog (({ World.holding Tryd.prog os ⟨#[.cells #[.string ⟨#[116, 104, 105, 115, 32, 105, 115, 32, 110, 111, 32, 103, 114, 97, 109, 109, 97, 114]⟩] 197, .cells #[.string ⟨#[97, 32, 112, 97, 114, 116, 32, 98, 101, 103, 105, 110, 115, 32, 119, 105, 116, 104, 32, 105, 116, 115, 101, 108, 102]⟩] 197, .cells #[.string ⟨#[97, 32, 112, 97, 114, 116, 32, 98, 101, 99, 111, 109, 101, 115, 32, 110, 111, 32, 114, 111, 119, 32, 111, 102, 32, 108, 101, 116, 116, 101, 114, 115]⟩] 197, .cells #[.string ⟨#[97, 32, 112, 97, 114, 116, 32, 105, 115, 32, 110, 111, 116, 32, 114, 101, 97, 99, 104, 101, 100]⟩] 197], #[], []⟩ with heap := (((((World.holding Tryd.prog os ⟨#[.cells #[.string ⟨#[116, 104, 105, 115, 32, 105, 115, 32, 110, 111, 32, 103, 114, 97, 109, 109, 97, 114]⟩] 197, .cells #[.string ⟨#[97, 32, 112, 97, 114, 116, 32, 98, 101, 103, 105, 110, 115, 32, 119, 105, 116, 104, 32, 105, 116, 115, 101, 108, 102]⟩] 197, .cells #[.string ⟨#[97, 32, 112, 97, 114, 116, 32, 98, 101, 99, 111, 109, 101, 115, 32, 110, 111, 32, 114, 111, 119, 32, 111, 102, 32, 108, 101, 116, 116, 101, 114, 115]⟩] 197, .cells #[.string ⟨#[97, 32, 112, 97, 114, 116, 32, 105, 115, 32, 110, 111, 116, 32, 114, 101, 97, 99, 104, 101, 100]⟩] 197], #[], []⟩).heap.modify 0 fun | .cells _ t z => .cells (#[.iface 171 (.pointer (some ⟨(World.holding Tryd.prog default ⟨#[], #[], []⟩).heap.size + 0, 0, none⟩))]) t z | o => o).modify 1 fun | .cells _ t z => .cells (#[.iface 171 (.pointer (some ⟨(World.holding Tryd.prog default ⟨#[], #[], []⟩).heap.size + 1, 0, none⟩))]) t z | o => o).modify 2 fun | .cells _ t z => .cells (#[.iface 171 (.pointer (some ⟨(World.holding Tryd.prog default ⟨#[], #[], []⟩).heap.size + 2, 0, none⟩))]) t z | o => o).modify 3 fun | .cells _ t z => .cells (#[.iface 171 (.pointer (some ⟨(World.holding Tryd.prog default ⟨#[], #[], []⟩).heap.size + 3, 0, none⟩))]) t z | o => o) } : World).forCall (fun _ _ => 0) ⟨#[], #[.agg #[.slice none 0 0], .agg #[.slice none 0 0], .slice none 0 0], []⟩).memory Tryd.f4.params.toList Rows.fnExactTreeOkSpec.vars false (#[.agg #[.slice none 0 0], .agg #[.slice none 0 0], .slice none 0 0] : Array Value).toList 8 = some ([.agg [.nil], .agg [.nil], .nil], [.held (enc (171, .pointer (some ⟨(World.holding Tryd.prog default ⟨#[], #[], []⟩).heap.size + 0, 0, none⟩))), .held (enc (171, .pointer (some ⟨(World.holding Tryd.prog default ⟨#[], #[], []⟩).heap.size + 1, 0, none⟩))), .held (enc (171, .pointer (some ⟨(World.holding Tryd.prog default ⟨#[], #[], []⟩).heap.size + 2, 0, none⟩))), .held (enc (171, .pointer (some ⟨(World.holding Tryd.prog default ⟨#[], #[], []⟩).heap.size + 3, 0, none⟩)))], places) :=
  ⟨[.cell 0 0, .cell 1 0, .cell 2 0, .cell 3 0], by kernel_rfl⟩

set_option maxRecDepth 100000 in
theorem fnExactTreeOk_lifted (os : Os) (started : os.Started) (H : Type) (enc : TypeId × Value → H) (F : Stop.Interp) :
    ReturnsInHanded {} Tryd.checked os 4 .any ((OpenSpec.ofChange Rows.fnExactTreeOkSpec).preRow enc Tryd.prog Tryd.f4 Rows.fnExactTreeOkRow.domain false Rows.fnExactTreeOkRow.laid) (((OpenSpec.ofChange Rows.fnExactTreeOkSpec).at F).post enc Tryd.prog Tryd.f4 false true false false) := by
  obtain ⟨places, hx⟩ := fnExactTreeOk_reads os enc
  refine returnsInHanded_of_row (C := Tryd.checked) (s := OpenSpec.ofChange Rows.fnExactTreeOkSpec) fnExactTreeOk_own started (by kernel_rfl) Tryd.func4
    (witness_row_at (enc := enc) (C := Tryd.checked) false ({ World.holding Tryd.prog os ⟨#[.cells #[.string ⟨#[116, 104, 105, 115, 32, 105, 115, 32, 110, 111, 32, 103, 114, 97, 109, 109, 97, 114]⟩] 197, .cells #[.string ⟨#[97, 32, 112, 97, 114, 116, 32, 98, 101, 103, 105, 110, 115, 32, 119, 105, 116, 104, 32, 105, 116, 115, 101, 108, 102]⟩] 197, .cells #[.string ⟨#[97, 32, 112, 97, 114, 116, 32, 98, 101, 99, 111, 109, 101, 115, 32, 110, 111, 32, 114, 111, 119, 32, 111, 102, 32, 108, 101, 116, 116, 101, 114, 115]⟩] 197, .cells #[.string ⟨#[97, 32, 112, 97, 114, 116, 32, 105, 115, 32, 110, 111, 116, 32, 114, 101, 97, 99, 104, 101, 100]⟩] 197], #[], []⟩ with heap := (((((World.holding Tryd.prog os ⟨#[.cells #[.string ⟨#[116, 104, 105, 115, 32, 105, 115, 32, 110, 111, 32, 103, 114, 97, 109, 109, 97, 114]⟩] 197, .cells #[.string ⟨#[97, 32, 112, 97, 114, 116, 32, 98, 101, 103, 105, 110, 115, 32, 119, 105, 116, 104, 32, 105, 116, 115, 101, 108, 102]⟩] 197, .cells #[.string ⟨#[97, 32, 112, 97, 114, 116, 32, 98, 101, 99, 111, 109, 101, 115, 32, 110, 111, 32, 114, 111, 119, 32, 111, 102, 32, 108, 101, 116, 116, 101, 114, 115]⟩] 197, .cells #[.string ⟨#[97, 32, 112, 97, 114, 116, 32, 105, 115, 32, 110, 111, 116, 32, 114, 101, 97, 99, 104, 101, 100]⟩] 197], #[], []⟩).heap.modify 0 fun | .cells _ t z => .cells (#[.iface 171 (.pointer (some ⟨(World.holding Tryd.prog default ⟨#[], #[], []⟩).heap.size + 0, 0, none⟩))]) t z | o => o).modify 1 fun | .cells _ t z => .cells (#[.iface 171 (.pointer (some ⟨(World.holding Tryd.prog default ⟨#[], #[], []⟩).heap.size + 1, 0, none⟩))]) t z | o => o).modify 2 fun | .cells _ t z => .cells (#[.iface 171 (.pointer (some ⟨(World.holding Tryd.prog default ⟨#[], #[], []⟩).heap.size + 2, 0, none⟩))]) t z | o => o).modify 3 fun | .cells _ t z => .cells (#[.iface 171 (.pointer (some ⟨(World.holding Tryd.prog default ⟨#[], #[], []⟩).heap.size + 3, 0, none⟩))]) t z | o => o) } : World) #[.agg #[.slice none 0 0], .agg #[.slice none 0 0], .slice none 0 0] rfl (by kernel_rfl) (by kernel_rfl) (by kernel_rfl)
      (OpenSpec.preRow_of_cond 8 hx (by kernel_rfl) (fun k hk => by cases hk) (by kernel_rfl) (fnExactTreeOk_laid os))) ?_
  intro W base args ds gs before hval hW _ _ _ hL hS _
  exact fnExactTreeOk_contract H enc W base args ds gs before hval hW hL hS

theorem fnExactTreeOk_said : Rows.FnExactTreeOkSaid :=
  OpenClaim.holds_of_cond 4 Tryd.f4 rfl rfl rfl rfl rfl rfl rfl ⟨rfl, rfl, rfl, rfl, rfl⟩ rfl rfl rfl rfl rfl (by kernel_rfl) Tryd.func4 (by kernel_rfl)
    (of_decide_eq_true (by kernel_rfl)) (by unfold Func.isWrapper; first | (rw [if_pos (by decide +kernel)]; kernel_rfl) | (rw [if_neg (by decide +kernel)]; exact ⟨rfl, rfl⟩))
    (fun os started H enc _ F => by rw [OpenClaim.pre_eq_preRow]; exact fnExactTreeOk_lifted os started H enc F)

theorem fnExactTreeOk_plain (f : FuncId) (fn : Func) (hf : Tryd.pinned.checked.prog.funcNamed Tryd.f4.name = some f) (hfn : Tryd.pinned.checked.prog.funcs[f]? = some fn) :
    true = Tryd.pinned.checked.prog.looks [] ∧ ∀ (j : Nat) t, fn.params[j]? = some t → Tryd.pinned.checked.prog.wantsStandIn t = false := by
  obtain rfl : f = 4 := Option.some.inj ((show Tryd.prog.funcNamed Tryd.f4.name = some 4 by kernel_rfl).symm.trans hf) |>.symm
  obtain rfl : fn = Tryd.f4 := (Option.some.inj (Tryd.func4.symm.trans hfn)).symm
  refine ⟨by kernel_rfl, fun j t ht => ?_⟩
  rw [Tryd.params4] at ht
  have hm := Array.mem_of_getElem? ht
  simp only [List.mem_toArray, List.mem_cons, List.not_mem_nil, or_false] at hm
  rcases hm with rfl | rfl | rfl
  · exact (show Tryd.prog.wantsStandIn 24 = false by kernel_rfl)
  · exact (show Tryd.prog.wantsStandIn 38 = false by kernel_rfl)
  · exact (show Tryd.prog.wantsStandIn 25 = false by kernel_rfl)

theorem fnExactTreeOk_proved : Rows.FnExactTreeOkCardSaid :=
  Claim7.holds_tied_plain_at .later [] _ _ _ _ fnExactTreeOk_said (fun _ h => by cases h) (by kernel_rfl) (fun _ h => by cases h) fnExactTreeOk_row_tie rfl ⟨rfl, rfl⟩ (by kernel_rfl) rfl fnExactTreeOk_plain (by kernel_rfl)
#print axioms fnExactTreeOk_proved
end Go.Proofs.YthnppodnjokaoaaDoor
