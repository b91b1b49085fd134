/-
  Proved: at every grammar, every integer, every two lists of integers and every integer the exact law of Choose returns true and leaves its arguments as they were; the card ties the four errors of chapter 6 to the program's text.
-/
import Derived.Test.YthnppodnjokaoaaGreatDoorCards
import Derived.Test.YthnppodnjokaoaaGreatDoorTie
import Derived.Test.YthnppodnjokaoaaGreatDoorRows
import Derived.Test.YthnppodnjokaoaaGreatDoorG36
import Derived.Test.YthnppodnjokaoaaGreatDoorG14
import Derived.Test.YthnppodnjokaoaaGreatDoorG10
import Derived.WalkKit
import Derived.ProofKit
import Derived.OpenShut
import Derived.ShutString
import Derived.ChangeOld
import Derived.Below
import Derived.Deep.DeepHandedRow
import Derived.Lib.LaidTab
import Derived.OpenVars
namespace Go.Proofs.YthnppodnjokaoaaGreatDoor
open Go.ChangeShapes Go.WideShapes Go.ChangeAt Go.RowKit
open Go.ChangeMaps (open_string shut_string)
set_option linter.unusedVariables false

theorem fnExactChoose_own : ownKnob Tryz.prog.godebug = none := by kernel_rfl
theorem fnExactChoose_laidOut : laidOutB Tryz.prog = true := by kernel_rfl

theorem fnExactChoose_vars {H : Type} {enc : TypeId × Value → H} {P : Program} {w : World} {sp : Nat → Bool} {n0 n1 n2 n3 : String} {gs : List (DataW H)} {ps : List MemPlace} (h : DataW.TrodVars enc P w sp [n0, n1, n2, n3] gs ps) : ∃ y0 y1 y2 y3, gs = [y0, y1, y2, y3] := by
  cases gs with
  | nil => exact h.elim
  | cons y0 gs =>
  obtain ⟨_, _, _, _, _, _, _, _, _, _, h0, _⟩ := h
  cases gs with
  | nil => exact h0.elim
  | cons y1 gs =>
  obtain ⟨_, _, _, _, _, _, _, _, _, _, h1, _⟩ := h0
  cases gs with
  | nil => exact h1.elim
  | cons y2 gs =>
  obtain ⟨_, _, _, _, _, _, _, _, _, _, h2, _⟩ := h1
  cases gs with
  | nil => exact h2.elim
  | cons y3 gs =>
  obtain ⟨_, _, _, _, _, _, _, _, _, _, h3, _⟩ := h2
  cases gs with
  | cons y gs => exact h3.elim
  | nil => exact ⟨y0, y1, y2, y3, rfl⟩

theorem fnExactChoose_arr1 {cs : Array Value} (h : cs.toList.length = 1) : ∃ u0, cs = #[u0] := by
  obtain ⟨l⟩ := cs
  match l, h with
  | [u0], _ => exact ⟨_, rfl⟩

set_option maxRecDepth 100000 in
theorem fnExactChoose_contract (H : Type) (enc : TypeId × Value → H) (W : World) (base : Nat) (args : Array Value) (ds gs : List (DataW H)) (before : List MemPlace)
    (hval : ∀ (j : Nat) t v, Tryz.f3.params[j]? = some t → args[j]? = some v → Value.okWide Tryz.prog W .any base t v)
    (hW : DataW.Whole enc Tryz.prog Tryz.f3.params.toList Rows.fnExactChooseSpec.vars false W args.toList ds gs before) (hL : laidMetH Tryz.prog Rows.fnExactChooseRow.laid W) (hS : W.ShapedOpen Tryz.prog) :
    Calls Tryz.prog 3 args W fun e W' => ∃ v, e = .returned v ∧ Rows.fnExactChooseSpec.post enc Tryz.prog Tryz.f3 false true false false W args v W' := by
  have hW' := hW
  obtain ⟨p, q, hA0, hV, rfl, hfz, hnd⟩ := hW
  have hA : DataW.TrodAll enc Tryz.prog W 0 (fun _ => true) true Tryz.f3.params.toList args.toList ds p := hA0
  rw [Tryz.params3] at hA hval
  obtain ⟨v0, vs0, d0, ds0, p0, q0, hargs0, rfl, rfl, h0, r0⟩ := trodAll_cons hA
  obtain ⟨v1, vs1, d1, ds1, p1, q1, hargs1, rfl, rfl, h1, r1⟩ := trodAll_cons r0
  obtain ⟨v2, vs2, d2, ds2, p2, q2, hargs2, rfl, rfl, h2, r2⟩ := trodAll_cons r1
  obtain ⟨v3, vs3, d3, ds3, p3, q3, hargs3, rfl, rfl, h3, r3⟩ := trodAll_cons r2
  obtain ⟨v4, vs4, d4, ds4, p4, q4, hargs4, rfl, rfl, h4, r4⟩ := trodAll_cons r3
  obtain ⟨rfl, rfl, rfl⟩ := trodAll_nil r4
  obtain rfl : args = #[v0, v1, v2, v3, v4] := by cases args; simp_all
  obtain ⟨y0, y1, y2, y3, rfl⟩ := fnExactChoose_vars hV
  have k0 := h0
  have lt0 : ∀ x ∈ p0, x.block < W.heap.size := by obtain ⟨m, hm⟩ := k0; exact DataW.trod_lt m _ _ _ hm
  obtain ⟨cs0, rfl, hcs0⟩ := okWide_struct Tryz.underlying24 (hval 0 24 v0 rfl rfl)
  obtain ⟨x0, hf0, hlen0, hrd0⟩ : ∃ z : Gm, Lay.gram.fit z ∧ cs0.toList.length = 1 ∧ ∀ i (hi : i < cs0.toList.length) (hi' : i < (Lay.gram.cells z).length), RD W cs0.toList[i] (Lay.gram.cells z)[i] := by
    obtain ⟨fuel, hf⟩ := h0
    exact ((Opens.gram Tryz.underlying24 rfl (by kernel_rfl) (Opens.list Tryz.underlying22 (by kernel_rfl) (Opens.list Tryz.underlying42 (by kernel_rfl) (Opens.list Tryz.underlying25 (by kernel_rfl) (Opens.int Tryz.underlying3)))) (by kernel_rfl)) : Opens enc Tryz.prog W 0 (fun _ => true) true 24 Lay.gram) fuel _ _ hf
  obtain ⟨u0_0, hx0⟩ := fnExactChoose_arr1 hlen0
  subst hx0
  have hr0_0' : RD W u0_0 (slD (Lay.list (Lay.list Lay.int)) x0.parts) := hrd0 0 (by simp) (by simp [Lay.gram])
  obtain ⟨a0_0, c0_0, rfl⟩ := RD.shapeL hr0_0'
  have hr0_0 := hr0_0'
  have k1 := h1
  have lt1 : ∀ x ∈ p1, x.block < W.heap.size := by obtain ⟨m, hm⟩ := k1; exact DataW.trod_lt m _ _ _ hm
  obtain ⟨n1, rfl⟩ := okWide_int Tryz.underlying3 (hval 1 3 v1 rfl rfl)
  obtain ⟨_, wf1⟩ : ∃ _ : True, (Lit.int .i64 n1).wf = true := ⟨trivial, by obtain ⟨m, hm⟩ := h1; obtain ⟨_, e, _, hw⟩ := DataW.trod_int Tryz.underlying3 hm; simp [Value.cells] at e; rw [e]; exact hw⟩
  have k2 := h2
  have lt2 : ∀ x ∈ p2, x.block < W.heap.size := by obtain ⟨m, hm⟩ := k2; exact DataW.trod_lt m _ _ _ hm
  obtain ⟨a2_0, len2, c2_0, rfl⟩ := okWide_slice Tryz.underlying25 (hval 2 25 v2 rfl rfl)
  obtain ⟨z2, rfl, hfz2, hr2_0⟩ : ∃ zs : List Int, len2 = zs.length ∧ (Lay.list Lay.int).fit zs ∧ RD W (.slice a2_0 zs.length c2_0) (slD Lay.int zs) := by
    obtain ⟨fuel, hf⟩ := h2
    exact Opens.slice (P := Tryz.prog) (t := 25) (Opens.list Tryz.underlying25 (by kernel_rfl) (Opens.int Tryz.underlying3)) hf
  have hm2 := hfz2.1
  have k3 := h3
  have lt3 : ∀ x ∈ p3, x.block < W.heap.size := by obtain ⟨m, hm⟩ := k3; exact DataW.trod_lt m _ _ _ hm
  obtain ⟨a3_0, len3, c3_0, rfl⟩ := okWide_slice Tryz.underlying25 (hval 3 25 v3 rfl rfl)
  obtain ⟨z3, rfl, hfz3, hr3_0⟩ : ∃ zs : List Int, len3 = zs.length ∧ (Lay.list Lay.int).fit zs ∧ RD W (.slice a3_0 zs.length c3_0) (slD Lay.int zs) := by
    obtain ⟨fuel, hf⟩ := h3
    exact Opens.slice (P := Tryz.prog) (t := 25) (Opens.list Tryz.underlying25 (by kernel_rfl) (Opens.int Tryz.underlying3)) hf
  have hm3 := hfz3.1
  have k4 := h4
  have lt4 : ∀ x ∈ p4, x.block < W.heap.size := by obtain ⟨m, hm⟩ := k4; exact DataW.trod_lt m _ _ _ hm
  obtain ⟨n4, rfl⟩ := okWide_int Tryz.underlying3 (hval 4 3 v4 rfl rfl)
  obtain ⟨_, wf4⟩ : ∃ _ : True, (Lit.int .i64 n4).wf = true := ⟨trivial, by obtain ⟨m, hm⟩ := h4; obtain ⟨_, e, _, hw⟩ := DataW.trod_int Tryz.underlying3 hm; simp [Value.cells] at e; rw [e]; exact hw⟩
  clear hA0
  refine (fnExactChoose_law x0 a0_0 c0_0 n1 z2 a2_0 c2_0 z3 a3_0 c3_0 n4 W hr0_0 hr2_0 hr3_0 hf0 wf1 hfz2 hfz3 wf4 (errs_laid hL)).mono fun e W' ⟨he, bel⟩ => ?_
  subst he
  exact ⟨_, rfl, _, _, _, [], _, _, hW', trodAll_mk1 (shut_bool Tryz.underlying4 _), (trodAll_cons_mk (Below.trod fnExactChoose_laidOut (by kernel_rfl) (of_decide_eq_true (by kernel_rfl)) k0 bel lt0) (trodAll_cons_mk (Below.trod fnExactChoose_laidOut (by kernel_rfl) (of_decide_eq_true (by kernel_rfl)) k1 bel lt1) (trodAll_cons_mk (Below.trod fnExactChoose_laidOut (by kernel_rfl) (of_decide_eq_true (by kernel_rfl)) k2 bel lt2) (trodAll_cons_mk (Below.trod fnExactChoose_laidOut (by kernel_rfl) (of_decide_eq_true (by kernel_rfl)) k3 bel lt3) (trodAll_cons_mk (Below.trod fnExactChoose_laidOut (by kernel_rfl) (of_decide_eq_true (by kernel_rfl)) k4 bel lt4) trodAll_mk0))))), Below.trodVars fnExactChoose_laidOut bel (by kernel_rfl) hV, bel.frame _, fun h => by cases h⟩

theorem fnExactChoose_laid (os : Os) : laidMet Tryz.prog Rows.fnExactChooseRow.laid (({ World.holding Tryz.prog os ⟨#[.cells #[.string ⟨#[116, 104, 105, 115, 32, 105, 115, 32, 110, 111, 32, 103, 114, 97, 109, 109, 97, 114]⟩] 183, .cells #[.string ⟨#[97, 32, 112, 97, 114, 116, 32, 98, 101, 103, 105, 110, 115, 32, 119, 105, 116, 104, 32, 105, 116, 115, 101, 108, 102]⟩] 183, .cells #[.string ⟨#[97, 32, 112, 97, 114, 116, 32, 98, 101, 99, 111, 109, 101, 115, 32, 110, 111, 32, 114, 111, 119, 32, 111, 102, 32, 108, 101, 116, 116, 101, 114, 115]⟩] 183, .cells #[.string ⟨#[97, 32, 112, 97, 114, 116, 32, 105, 115, 32, 110, 111, 116, 32, 114, 101, 97, 99, 104, 101, 100]⟩] 183], #[], []⟩ with heap := (((((World.holding Tryz.prog os ⟨#[.cells #[.string ⟨#[116, 104, 105, 115, 32, 105, 115, 32, 110, 111, 32, 103, 114, 97, 109, 109, 97, 114]⟩] 183, .cells #[.string ⟨#[97, 32, 112, 97, 114, 116, 32, 98, 101, 103, 105, 110, 115, 32, 119, 105, 116, 104, 32, 105, 116, 115, 101, 108, 102]⟩] 183, .cells #[.string ⟨#[97, 32, 112, 97, 114, 116, 32, 98, 101, 99, 111, 109, 101, 115, 32, 110, 111, 32, 114, 111, 119, 32, 111, 102, 32, 108, 101, 116, 116, 101, 114, 115]⟩] 183, .cells #[.string ⟨#[97, 32, 112, 97, 114, 116, 32, 105, 115, 32, 110, 111, 116, 32, 114, 101, 97, 99, 104, 101, 100]⟩] 183], #[], []⟩).heap.modify 0 fun | .cells _ t z => .cells (#[.iface 158 (.pointer (some ⟨(World.holding Tryz.prog default ⟨#[], #[], []⟩).heap.size + 0, 0, none⟩))]) t z | o => o).modify 1 fun | .cells _ t z => .cells (#[.iface 158 (.pointer (some ⟨(World.holding Tryz.prog default ⟨#[], #[], []⟩).heap.size + 1, 0, none⟩))]) t z | o => o).modify 2 fun | .cells _ t z => .cells (#[.iface 158 (.pointer (some ⟨(World.holding Tryz.prog default ⟨#[], #[], []⟩).heap.size + 2, 0, none⟩))]) t z | o => o).modify 3 fun | .cells _ t z => .cells (#[.iface 158 (.pointer (some ⟨(World.holding Tryz.prog default ⟨#[], #[], []⟩).heap.size + 3, 0, none⟩))]) t z | o => o) } : World).forCall (fun _ _ => 0) ⟨#[], #[.agg #[.slice none 0 0], .int .i64 0, .slice none 0 0, .slice none 0 0, .int .i64 0], []⟩).memory :=
  laidMet_of_run' 8 (by kernel_rfl) (by kernel_rfl)
theorem fnExactChoose_reads (os : Os) {H : Type} (enc : TypeId × Value → H) : ∃ places, DataW.whole enc Tryz.prog (({ World.holding Tryz.prog os ⟨#[.cells #[.string ⟨#[116, 104, 105, 115, 32, 105, 115, 32, 110, 111, 32, 103, 114, 97, 109, 109, 97, 114]⟩] 183, .cells #[.string ⟨#[97, 32, 112, 97, 114, 116, 32, 98, 101, 103, 105, 110, 115, 32, 119, 105, 116, 104, 32, 105, 116, 115, 101, 108, 102]⟩] 183, .cells #[.string ⟨#[97, 32, 112, 97, 114, 116, 32, 98, 101, 99, 111, 109, 101, 115, 32, 110, 111, 32, 114, 111, 119, 32, 111, 102, 32, 108, 101, 116, 116, 101, 114, 115]⟩] 183, .cells #[.string ⟨#[97, 32, 112, 97, 114, 116, 32, 105, 115, 32, 110, 111, 116, 32, 114, 101, 97, 99, 104, 101, 100]⟩] 183], #[], []⟩ with heap := (((((World.holding Tryz.prog os ⟨#[.cells #[.string ⟨#[116, 104, 105, 115, 32, 105, 115, 32, 110, 111, 32, 103, 114, 97, 109, 109, 97, 114]⟩] 183, .cells #[.string ⟨#[97, 32, 112, 97, 114, 116, 32, 98, 101, 103, 105, 110, 115, 32, 119, 105, 116, 104, 32, 105, 116, 115, 101, 108, 102]⟩] 183, .cells #[.string ⟨#[97, 32, 112, 97, 114, 116, 32, 98, 101, 99, 111, 109, 101, 115, 32, 110, 111, 32, 114, 111, 119, 32, 111, 102, 32, 108, 101, 116, 116, 101, 114, 115]⟩] 183, .cells #[.string ⟨#[97, 32, 112, 97, 114, 116, 32, 105, 115, 32, 110, 111, 116, 32, 114, 101, 97, 99, 104, 101, 100]⟩] 183], #[], []⟩).heap.modify 0 fun | .cells _ t z => .cells (#[.iface 158 (.pointer (some ⟨(World.holding Tryz.prog default ⟨#[], #[], []⟩).heap.size + 0, 0, none⟩))]) t z | o => o).modify 1 fun | .cells _ t z => .cells (#[.iface 158 (.pointer (some ⟨(World.holding Tryz.prog default ⟨#[], #[], []⟩).heap.size + 1, 0, none⟩))]) t z | o => o).modify 2 fun | .cells _ t z => .cells (#[.iface 158 (.pointer (some ⟨(World.holding Tryz.prog default ⟨#[], #[], []⟩).heap.size + 2, 0, none⟩))]) t z | o => o).modify 3 fun | .cells _ t z => .cells (#[.iface 158 (.pointer (some ⟨(World.holding Tryz.prog default ⟨#[], #[], []⟩).heap.size + 3, 0, none⟩))]) t z | o => o) } : World).forCall (fun _ _ => 0) ⟨#[], #[.agg #[.slice none 0 0], .int .i64 0, .slice none 0 0, .slice none 0 0, .int .i64 0], []⟩).memory Tryz.f3.params.toList Rows.fnExactChooseSpec.vars false (#[.agg #[.slice none 0 0], .int .i64 0, .slice none 0 0, .slice none 0 0, .int .i64 0] : Array Value).toList 8 = some ([.agg [.nil], .lit (.int .i64 0), .nil, .nil, .lit (.int .i64 0)], [.held (enc (158, .pointer (some ⟨(World.holding Tryz.prog default ⟨#[], #[], []⟩).heap.size + 0, 0, none⟩))), .held (enc (158, .pointer (some ⟨(World.holding Tryz.prog default ⟨#[], #[], []⟩).heap.size + 1, 0, none⟩))), .held (enc (158, .pointer (some ⟨(World.holding Tryz.prog default ⟨#[], #[], []⟩).heap.size + 2, 0, none⟩))), .held (enc (158, .pointer (some ⟨(World.holding Tryz.prog default ⟨#[], #[], []⟩).heap.size + 3, 0, none⟩)))], places) :=
  ⟨[.cell 0 0, .cell 1 0, .cell 2 0, .cell 3 0], by kernel_rfl⟩

set_option maxRecDepth 100000 in
theorem fnExactChoose_lifted (os : Os) (started : os.Started) (H : Type) (enc : TypeId × Value → H) (F : Stop.Interp) :
    ReturnsInHanded {} Tryz.checked os 3 .any ((OpenSpec.ofChange Rows.fnExactChooseSpec).preRow enc Tryz.prog Tryz.f3 Rows.fnExactChooseRow.domain false Rows.fnExactChooseRow.laid) (((OpenSpec.ofChange Rows.fnExactChooseSpec).at F).post enc Tryz.prog Tryz.f3 false true false false) := by
  obtain ⟨places, hx⟩ := fnExactChoose_reads os enc
  refine returnsInHanded_of_row (C := Tryz.checked) (s := OpenSpec.ofChange Rows.fnExactChooseSpec) fnExactChoose_own started (by kernel_rfl) Tryz.func3
    (witness_row_at (enc := enc) (C := Tryz.checked) false ({ World.holding Tryz.prog os ⟨#[.cells #[.string ⟨#[116, 104, 105, 115, 32, 105, 115, 32, 110, 111, 32, 103, 114, 97, 109, 109, 97, 114]⟩] 183, .cells #[.string ⟨#[97, 32, 112, 97, 114, 116, 32, 98, 101, 103, 105, 110, 115, 32, 119, 105, 116, 104, 32, 105, 116, 115, 101, 108, 102]⟩] 183, .cells #[.string ⟨#[97, 32, 112, 97, 114, 116, 32, 98, 101, 99, 111, 109, 101, 115, 32, 110, 111, 32, 114, 111, 119, 32, 111, 102, 32, 108, 101, 116, 116, 101, 114, 115]⟩] 183, .cells #[.string ⟨#[97, 32, 112, 97, 114, 116, 32, 105, 115, 32, 110, 111, 116, 32, 114, 101, 97, 99, 104, 101, 100]⟩] 183], #[], []⟩ with heap := (((((World.holding Tryz.prog os ⟨#[.cells #[.string ⟨#[116, 104, 105, 115, 32, 105, 115, 32, 110, 111, 32, 103, 114, 97, 109, 109, 97, 114]⟩] 183, .cells #[.string ⟨#[97, 32, 112, 97, 114, 116, 32, 98, 101, 103, 105, 110, 115, 32, 119, 105, 116, 104, 32, 105, 116, 115, 101, 108, 102]⟩] 183, .cells #[.string ⟨#[97, 32, 112, 97, 114, 116, 32, 98, 101, 99, 111, 109, 101, 115, 32, 110, 111, 32, 114, 111, 119, 32, 111, 102, 32, 108, 101, 116, 116, 101, 114, 115]⟩] 183, .cells #[.string ⟨#[97, 32, 112, 97, 114, 116, 32, 105, 115, 32, 110, 111, 116, 32, 114, 101, 97, 99, 104, 101, 100]⟩] 183], #[], []⟩).heap.modify 0 fun | .cells _ t z => .cells (#[.iface 158 (.pointer (some ⟨(World.holding Tryz.prog default ⟨#[], #[], []⟩).heap.size + 0, 0, none⟩))]) t z | o => o).modify 1 fun | .cells _ t z => .cells (#[.iface 158 (.pointer (some ⟨(World.holding Tryz.prog default ⟨#[], #[], []⟩).heap.size + 1, 0, none⟩))]) t z | o => o).modify 2 fun | .cells _ t z => .cells (#[.iface 158 (.pointer (some ⟨(World.holding Tryz.prog default ⟨#[], #[], []⟩).heap.size + 2, 0, none⟩))]) t z | o => o).modify 3 fun | .cells _ t z => .cells (#[.iface 158 (.pointer (some ⟨(World.holding Tryz.prog default ⟨#[], #[], []⟩).heap.size + 3, 0, none⟩))]) t z | o => o) } : World) #[.agg #[.slice none 0 0], .int .i64 0, .slice none 0 0, .slice none 0 0, .int .i64 0] rfl (by kernel_rfl) (by kernel_rfl) (by kernel_rfl)
      (OpenSpec.preRow_of_cond 8 hx (by kernel_rfl) (fun k hk => by cases hk) (by kernel_rfl) (fnExactChoose_laid os))) ?_
  intro W base args ds gs before hval hW _ _ _ hL hS _
  exact fnExactChoose_contract H enc W base args ds gs before hval hW hL hS

theorem fnExactChoose_said : Rows.FnExactChooseSaid :=
  OpenClaim.holds_of_cond 3 Tryz.f3 rfl rfl rfl rfl rfl rfl rfl ⟨rfl, rfl, rfl, rfl, rfl⟩ rfl rfl rfl rfl rfl (by kernel_rfl) Tryz.func3 (by kernel_rfl)
    (of_decide_eq_true (by kernel_rfl)) (by unfold Func.isWrapper; first | (rw [if_pos (by decide +kernel)]; kernel_rfl) | (rw [if_neg (by decide +kernel)]; exact ⟨rfl, rfl⟩))
    (fun os started H enc _ F => by rw [OpenClaim.pre_eq_preRow]; exact fnExactChoose_lifted os started H enc F)

theorem fnExactChoose_plain (f : FuncId) (fn : Func) (hf : Tryz.pinned.checked.prog.funcNamed Tryz.f3.name = some f) (hfn : Tryz.pinned.checked.prog.funcs[f]? = some fn) :
    true = Tryz.pinned.checked.prog.looks [] ∧ ∀ (j : Nat) t, fn.params[j]? = some t → Tryz.pinned.checked.prog.wantsStandIn t = false := by
  obtain rfl : f = 3 := Option.some.inj ((show Tryz.prog.funcNamed Tryz.f3.name = some 3 by kernel_rfl).symm.trans hf) |>.symm
  obtain rfl : fn = Tryz.f3 := (Option.some.inj (Tryz.func3.symm.trans hfn)).symm
  refine ⟨by kernel_rfl, fun j t ht => ?_⟩
  rw [Tryz.params3] at ht
  have hm := Array.mem_of_getElem? ht
  simp only [List.mem_toArray, List.mem_cons, List.not_mem_nil, or_false] at hm
  rcases hm with rfl | rfl | rfl | rfl | rfl
  · exact (show Tryz.prog.wantsStandIn 24 = false by kernel_rfl)
  · exact (show Tryz.prog.wantsStandIn 3 = false by kernel_rfl)
  · exact (show Tryz.prog.wantsStandIn 25 = false by kernel_rfl)
  · exact (show Tryz.prog.wantsStandIn 25 = false by kernel_rfl)
  · exact (show Tryz.prog.wantsStandIn 3 = false by kernel_rfl)

theorem fnExactChoose_proved : Rows.FnExactChooseCardSaid :=
  Claim7.holds_tied_plain_at .later [] _ _ _ _ fnExactChoose_said (fun _ h => by cases h) (by kernel_rfl) (fun _ h => by cases h) fnExactChoose_row_tie rfl ⟨rfl, rfl⟩ (by kernel_rfl) rfl fnExactChoose_plain (by kernel_rfl)
#print axioms fnExactChoose_proved
end Go.Proofs.YthnppodnjokaoaaGreatDoor
