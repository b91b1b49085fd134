/-
  Contracts of the law package's helpers on IntS over this translation. No statement is proved here.
-/
import Derived.Test.YthnppodnjokaoabHelpLib
import Derived.Test.YthnppodnjokaoabMarks
import Derived.Deep.RegionWith
namespace Go.Proofs.Ythnppodnjokaoab
open Go.RowKit

theorem toIntS_l (xs : List Int) (a : Option Addr) (c : Nat) (w : World) (h : RD w (.slice a xs.length c) (slD Lay.int xs)) (hn : (Lay.list Lay.int).wt xs ≤ 1048576) :
    Calls Try.prog 52 #[.slice a xs.length c] w fun e w' => ∃ v S, e = .returned v ∧ OD w' w.heap.size v (slD Lay.int xs) S ∧ Below w.heap.size w w' := by
  rw [Lay.wt_ints] at hn
  refine (toIntS_own a c xs w h.reads hn).mono ?_
  rintro e w1 ⟨v, rfl, ho, hb⟩
  exact ⟨v, _, rfl, ho.od, hb⟩
theorem eqIntS_l (xs : List Int) (a b : Option Addr) (c d : Nat) (w : World) (h : RD w (.slice a xs.length c) (slD Lay.int xs)) (g : RD w (.slice b xs.length d) (slD Lay.int xs)) (hn : (Lay.list Lay.int).wt xs ≤ 4194304) :
    Calls Try.prog 50 #[.slice a xs.length c, .slice b xs.length d] w fun e w' => e = .returned (.bool true) ∧ Below w.heap.size w w' := by
  rw [Lay.wt_ints] at hn
  refine (eqIntS_any a b c d xs xs w h.reads g.reads hn).mono ?_
  rintro e w1 ⟨rfl, hb⟩
  exact ⟨by rw [eqL_self], hb⟩
theorem szIntS_l (xs : List Int) (a : Option Addr) (c : Nat) (l : Int) (w : World) (_ : RD w (.slice a xs.length c) (slD Lay.int xs)) (hf : (Lay.list Lay.int).fit xs) (h0 : 0 ≤ l) (h1 : l ≤ 1048576) :
    Calls Try.prog 51 #[.slice a xs.length c, .int .i64 l] w fun e w' => ∃ r, e = .returned (.int .i64 r) ∧ SzE ((Lay.list Lay.int).wt xs) l r ∧ Below w.heap.size w w' := by
  have hm := hf.1
  unfold maxLen at hm
  rw [Lay.wt_ints]
  by_cases hbig : l < (xs.length : Int)
  · go_enter Try.func51, Try.ntmps51
    go_wp2
    go_ret
    exact ⟨_, rfl, .inl rfl, Below.refl _ _⟩
  · go_enter Try.func51, Try.ntmps51
    go_wp2
    go_ret
    exact ⟨_, rfl, .inr ⟨by omega, rfl⟩, Below.refl _ _⟩

end Go.Proofs.Ythnppodnjokaoab
