/-
  Contracts of the law package's helpers on IntS over this translation. No statement is proved here.
-/
import Derived.Test.YtojbghmlcgadeacHelpLib
import Derived.Test.YtojbghmlcgadeacMarks
import Derived.Deep.RegionWith
namespace Go.Proofs.Ytojbghmlcgadeac
open Go.RowKit

theorem eqIntS_l (xs : List Int) (a b : Option Addr) (c d : Nat) (w : World) (h : RD w (.slice a xs.length c) (slD Lay.int xs)) (g : RD w (.slice b xs.length d) (slD Lay.int xs)) (hn : (Lay.list Lay.int).wt xs ≤ 4194304) :
    Calls Try.prog 6 #[.slice a xs.length c, .slice b xs.length d] w fun e w' => e = .returned (.bool true) ∧ Below w.heap.size w w' := by
  rw [Lay.wt_ints] at hn
  refine (eqIntS_any a b c d xs xs w h.reads g.reads hn).mono ?_
  rintro e w1 ⟨rfl, hb⟩
  exact ⟨by rw [eqL_self], hb⟩
end Go.Proofs.Ytojbghmlcgadeac
