/-
  Contracts of the law package's helpers on Slot over this translation. No statement is proved here.
-/
import Derived.Test.YthnppodnjokaoabOpenL
import Derived.Test.YthnppodnjokaoabInfo
import Derived.Test.YthnppodnjokaoabChecked
import Derived.Deep.RegionWith
namespace Go.Proofs.Ythnppodnjokaoab
open Go.RowKit

/-- As the program has it. -/
structure Sl where
  sym : Int
  up : Int
def Lay.slot : Lay Sl := { cells := fun x => [.val (.int .i64 x.sym), .val (.int .i64 x.up)], sz := 2, len := fun _ => rfl, pos := by decide, wt := fun x => 0, fit := fun x => (Lit.int .i64 x.sym).wf = true ∧ (Lit.int .i64 x.up).wf = true }
theorem Lay_slot_wt (x : Sl) : Lay.slot.wt x = 0 := rfl
theorem Lay_slot_fit (x : Sl) : Lay.slot.fit x = ((Lit.int .i64 x.sym).wf = true ∧ (Lit.int .i64 x.up).wf = true) := rfl

section
variable {H : Type} {enc : TypeId × Value → H} {P : Program} {w : World} {base : Nat} {spare : Nat → Bool} {held : Bool}
theorem Opens.slot {t : TypeId} {f0 f1 : Field} (hu : P.underlying t = some (.struct #[f0, f1])) (o0 : f0.offset = 0) (s0 : P.cellsOf f0.type = 1) (h0 : Opens enc P w base spare held f0.type Lay.int) (o1 : f1.offset = 1) (s1 : P.cellsOf f1.type = 1) (h1 : Opens enc P w base spare held f1.type Lay.int) (hc : P.cellsOf t = 2) : Opens enc P w base spare held t Lay.slot := by
  intro n cs y h
  obtain ⟨xs, m, _, _, hl, hlen, hf⟩ := DataW.trod_struct hu h
  rw [hc] at hl
  match xs, hlen, cs, hl with
  | [y0, y1], _, [v0, v1], _ =>
    have g0 := hf 0 f0 rfl
    rw [o0, s0] at g0
    obtain ⟨z0, fit0, _, r0⟩ := h0 m _ y0 (by simpa using g0)
    have g1 := hf 1 f1 rfl
    rw [o1, s1] at g1
    obtain ⟨z1, fit1, _, r1⟩ := h1 m _ y1 (by simpa using g1)
    refine ⟨⟨z0, z1⟩, ⟨fit0, fit1⟩, rfl, fun j hj hj' => ?_⟩
    match j, hj with
    | 0, _ => exact r0 0 (by simp) (by rw [Lay.int.len]; decide)
    | 1, _ => exact r1 0 (by simp) (by rw [Lay.int.len]; decide)
end

set_option maxRecDepth 100000 in
theorem eqSlot_l (x : Sl) (w : World) :
    Calls Try.prog 34 #[.agg #[.int .i64 x.sym, .int .i64 x.up], .agg #[.int .i64 x.sym, .int .i64 x.up]] w fun e w' => e = .returned (.bool true) ∧ Below w.heap.size w w' := by
  have B := ((Below.refl w.heap.size w).alloc (Nat.le_refl _) (.cells #[.int .i64 x.sym, .int .i64 x.up] 44)).alloc (by simp) (.cells #[.int .i64 x.sym, .int .i64 x.up] 44)
  generalize x.sym = v0 at *
  generalize x.up = v1 at *
  go_enter Try.func34, Try.ntmps34
  go_wp2
  go_ret
  exact ⟨rfl, B⟩

set_option maxRecDepth 100000 in
theorem toSlot_l (x : Sl) (w : World) :
    Calls Try.prog 41 #[.agg #[.int .i64 x.sym, .int .i64 x.up]] w fun e w' => e = .returned (.agg #[.int .i64 x.sym, .int .i64 x.up]) ∧ Below w.heap.size w w' := by
  generalize x.sym = v0 at *
  generalize x.up = v1 at *
  go_enter Try.func41, Try.ntmps41
  go_wp2
  refine bodyPost_ret (v := .agg #[.int .i64 v0, .int .i64 v1]) (by simp [results, Try.results41, go_sem]) rfl ⟨rfl, ?_⟩
  repeat refine Below.setCell ?_ (by simp; try omega) _
  repeat refine Below.alloc ?_ (by simp; try omega) _
  exact Below.refl _ _

end Go.Proofs.Ythnppodnjokaoab
