/-
  Contracts of the law package's markIntS and heldIntS over this translation. No statement is proved here.
-/
import Derived.Test.YtghpekijimoicaaDoorOwn
import Derived.Test.YtghpekijimoicaaDoorInts
namespace Go.Proofs.YtghpekijimoicaaDoor
open Go.RowKit

theorem toIntS_own (a : Option Addr) (c : Nat) (zs : List Int) (w : World) (h : Reads w a zs) (hl : zs.length ≤ 1048576) :
    Calls Tryd.prog 12 #[.slice a zs.length c] w fun e w' => ∃ v, e = .returned v ∧ OwnInts w' w.heap.size 3 v zs ∧ Below w.heap.size w w' := by
  refine (toIntS_any a c zs w h hl).mono ?_
  rintro e w1 ⟨b, rfl, hb, hr, hl1⟩
  exact ⟨_, rfl, OwnInts.of_row hr hb (by unfold maxLen; omega), hl1⟩

theorem eqIntS_own (b1 b2 : Nat) (u v : Value) (xs ys : List Int) (w : World) (h : OwnInts w b1 3 u xs) (g : OwnInts w b2 3 v ys) (hl : xs.length ≤ 1048576 * 4) :
    Calls Tryd.prog 16 #[u, v] w fun e w' => e = .returned (.bool (eqL xs ys)) ∧ Below w.heap.size w w' := by
  obtain ⟨a, c, rfl, hr, _⟩ := h.shape
  obtain ⟨a2, c2, rfl, gr, _⟩ := g.shape
  exact eqIntS_any a a2 c c2 xs ys w hr gr hl

end Go.Proofs.YtghpekijimoicaaDoor
