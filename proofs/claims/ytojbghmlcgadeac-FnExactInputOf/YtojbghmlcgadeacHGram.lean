/-
  Contracts of the law package's helpers on Gram over this translation. No statement is proved here.
-/
import Derived.Test.YtojbghmlcgadeacHIntSSS
import Derived.Test.YtojbghmlcgadeacOpenL
import Derived.Deep.RegionWith
namespace Go.Proofs.Ytojbghmlcgadeac
open Go.RowKit

/-- As the program has it. -/
structure Gm where
  parts : (List (List (List Int)))
def Lay.gram : Lay Gm := { cells := fun x => [slD (Lay.list (Lay.list Lay.int)) x.parts], sz := 1, len := fun _ => rfl, pos := by decide, wt := fun x => (Lay.list (Lay.list (Lay.list Lay.int))).wt x.parts, fit := fun x => (Lay.list (Lay.list (Lay.list Lay.int))).fit x.parts }
theorem Lay_gram_wt (x : Gm) : Lay.gram.wt x = (Lay.list (Lay.list (Lay.list Lay.int))).wt x.parts := rfl
theorem Lay_gram_fit (x : Gm) : Lay.gram.fit x = ((Lay.list (Lay.list (Lay.list Lay.int))).fit x.parts) := rfl

section
variable {H : Type} {enc : TypeId × Value → H} {P : Program} {w : World} {base : Nat} {spare : Nat → Bool} {held : Bool}
theorem Opens.gram {t : TypeId} {f0 : Field} (hu : P.underlying t = some (.struct #[f0])) (o0 : f0.offset = 0) (s0 : P.cellsOf f0.type = 1) (h0 : Opens enc P w base spare held f0.type (Lay.list (Lay.list (Lay.list Lay.int)))) (hc : P.cellsOf t = 1) : Opens enc P w base spare held t Lay.gram := by
  intro n cs y h
  obtain ⟨xs, m, _, _, hl, hlen, hf⟩ := DataW.trod_struct hu h
  rw [hc] at hl
  match xs, hlen, cs, hl with
  | [y0], _, [v0], _ =>
    have g0 := hf 0 f0 rfl
    rw [o0, s0] at g0
    obtain ⟨z0, fit0, _, r0⟩ := h0 m _ y0 (by simpa using g0)
    refine ⟨⟨z0⟩, fit0, rfl, fun j hj hj' => ?_⟩
    match j, hj with
    | 0, _ => exact r0 0 (by simp) (by rw [(Lay.list (Lay.list (Lay.list Lay.int))).len]; decide)
end

end Go.Proofs.Ytojbghmlcgadeac
