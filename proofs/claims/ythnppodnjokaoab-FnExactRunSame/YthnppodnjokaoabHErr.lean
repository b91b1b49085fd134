/-
  Contracts of the law package's helpers on Err over this translation. No statement is proved here.
-/
import Derived.Test.YthnppodnjokaoabOpenL
import Derived.Test.YthnppodnjokaoabInfo
import Derived.Test.YthnppodnjokaoabChecked
import Derived.Deep.RegionWith
namespace Go.Proofs.Ythnppodnjokaoab
open Go.RowKit

/-- As the program has it. -/
structure Er where
  kind : Int
  pl : Int
  sym : Int
def Lay.err : Lay Er := { cells := fun x => [.val (.int .i64 x.kind), .val (.int .i64 x.pl), .val (.int .i64 x.sym)], sz := 3, len := fun _ => rfl, pos := by decide, wt := fun x => 0, fit := fun x => (Lit.int .i64 x.kind).wf = true ∧ (Lit.int .i64 x.pl).wf = true ∧ (Lit.int .i64 x.sym).wf = true }
theorem Lay_err_wt (x : Er) : Lay.err.wt x = 0 := rfl
theorem Lay_err_fit (x : Er) : Lay.err.fit x = ((Lit.int .i64 x.kind).wf = true ∧ (Lit.int .i64 x.pl).wf = true ∧ (Lit.int .i64 x.sym).wf = true) := rfl

section
variable {H : Type} {enc : TypeId × Value → H} {P : Program} {w : World} {base : Nat} {spare : Nat → Bool} {held : Bool}
theorem Opens.err {t : TypeId} {f0 f1 f2 : Field} (hu : P.underlying t = some (.struct #[f0, f1, f2])) (o0 : f0.offset = 0) (s0 : P.cellsOf f0.type = 1) (h0 : Opens enc P w base spare held f0.type Lay.int) (o1 : f1.offset = 1) (s1 : P.cellsOf f1.type = 1) (h1 : Opens enc P w base spare held f1.type Lay.int) (o2 : f2.offset = 2) (s2 : P.cellsOf f2.type = 1) (h2 : Opens enc P w base spare held f2.type Lay.int) (hc : P.cellsOf t = 3) : Opens enc P w base spare held t Lay.err := by
  intro n cs y h
  obtain ⟨xs, m, _, _, hl, hlen, hf⟩ := DataW.trod_struct hu h
  rw [hc] at hl
  match xs, hlen, cs, hl with
  | [y0, y1, y2], _, [v0, v1, v2], _ =>
    have g0 := hf 0 f0 rfl
    rw [o0, s0] at g0
    obtain ⟨z0, fit0, _, r0⟩ := h0 m _ y0 (by simpa using g0)
    have g1 := hf 1 f1 rfl
    rw [o1, s1] at g1
    obtain ⟨z1, fit1, _, r1⟩ := h1 m _ y1 (by simpa using g1)
    have g2 := hf 2 f2 rfl
    rw [o2, s2] at g2
    obtain ⟨z2, fit2, _, r2⟩ := h2 m _ y2 (by simpa using g2)
    refine ⟨⟨z0, z1, z2⟩, ⟨fit0, fit1, fit2⟩, rfl, fun j hj hj' => ?_⟩
    match j, hj with
    | 0, _ => exact r0 0 (by simp) (by rw [Lay.int.len]; decide)
    | 1, _ => exact r1 0 (by simp) (by rw [Lay.int.len]; decide)
    | 2, _ => exact r2 0 (by simp) (by rw [Lay.int.len]; decide)
end

set_option maxRecDepth 100000 in
theorem eqErr_l (x : Er) (w : World) :
    Calls Try.prog 36 #[.agg #[.int .i64 x.kind, .int .i64 x.pl, .int .i64 x.sym], .agg #[.int .i64 x.kind, .int .i64 x.pl, .int .i64 x.sym]] w fun e w' => e = .returned (.bool true) ∧ Below w.heap.size w w' := by
  have B := ((Below.refl w.heap.size w).alloc (Nat.le_refl _) (.cells #[.int .i64 x.kind, .int .i64 x.pl, .int .i64 x.sym] 55)).alloc (by simp) (.cells #[.int .i64 x.kind, .int .i64 x.pl, .int .i64 x.sym] 55)
  generalize x.kind = v0 at *
  generalize x.pl = v1 at *
  generalize x.sym = v2 at *
  go_enter Try.func36, Try.ntmps36
  go_wp2
  go_ret
  exact ⟨rfl, B⟩

set_option maxRecDepth 100000 in
theorem toErr_l (x : Er) (w : World) :
    Calls Try.prog 43 #[.agg #[.int .i64 x.kind, .int .i64 x.pl, .int .i64 x.sym]] w fun e w' => e = .returned (.agg #[.int .i64 x.kind, .int .i64 x.pl, .int .i64 x.sym]) ∧ Below w.heap.size w w' := by
  generalize x.kind = v0 at *
  generalize x.pl = v1 at *
  generalize x.sym = v2 at *
  go_enter Try.func43, Try.ntmps43
  go_wp2
  refine bodyPost_ret (v := .agg #[.int .i64 v0, .int .i64 v1, .int .i64 v2]) (by simp [results, Try.results43, go_sem]) rfl ⟨rfl, ?_⟩
  repeat refine Below.setCell ?_ (by simp; try omega) _
  repeat refine Below.alloc ?_ (by simp; try omega) _
  exact Below.refl _ _

end Go.Proofs.Ythnppodnjokaoab
