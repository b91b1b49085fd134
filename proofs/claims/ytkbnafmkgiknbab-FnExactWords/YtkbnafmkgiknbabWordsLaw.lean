/-
  The walk of the exact law of Words over this translation, out of the contracts. No statement is proved here (the frame is in the text that imports this one).
-/
import Derived.Test.YtkbnafmkgiknbabSpecWords
import Derived.Test.YtkbnafmkgiknbabEqWords
namespace Go.Proofs.Ytkbnafmkgiknbab
open Go.RowKit

set_option maxRecDepth 100000 in
theorem fnExactWords_law (s : ByteArray) (w : World) (hs : s.size ≤ maxLen) :
    Calls Try.prog 8 #[.string s] w fun e w' => e = .returned (.bool true) ∧ Below w.heap.size w w' := by
  by_cases hbig : 1048576 < s.size
  · unfold maxLen at hs
    go_enter Try.func8, Try.ntmps8
    go_wp2
    go_ret
    exact ⟨rfl, Below.refl _ _⟩
  · have hlen := wordsL_length s
    go_enter Try.func8, Try.ntmps8
    go_wp2_with fail
    refine (specWords_any s _ hs).mono ?_
    rintro e w1 ⟨v1, rfl, O1, B1⟩
    go_wp2_with fail
    refine (words_any s _ hs).mono ?_
    rintro e w2 ⟨v2, rfl, O2, B2⟩
    have O1b := O1.below B2
    have BB2 := B1.trans (B2.mono B1.size)
    go_wp2_with fail
    refine (eqWordS_own _ _ v2 v1 _ _ O2 O1b (by omega)).mono ?_
    rintro e w3 ⟨rfl, B3⟩
    have O1c := O1b.below B3
    have O2c := O2.below B3
    have BB3 := BB2.trans (B3.mono BB2.size)
    have ap := (O1.apart O2 (Nat.le_refl _)).1
    have s1 := B1.size
    clear O1 O1b O2 B1 B2 B3 BB2
    go_wp2_with fail
    refine (markWordS_any _ v2 _ 1 _ O2c (by decide) (by decide) (by omega)).mono ?_
    rintro e w4 ⟨rfl, O4, G4⟩
    have O1d := O1c.kept G4 ap
    have BB4 : Below w.heap.size w w4 := BB3.grown G4 BB3.size (fun k hk => by have := (O4.block k hk).1; omega)
    clear O1c O2c G4 ap BB3
    have HN : Hid ((wordsL s).length ≤ 300) := hlen
    generalize hnl : (wordsL s).length = n at *
    go_wp2_with fail
    refine (heldWordS_own _ n v2 1 _ O4 (by decide) (by decide) (by omega)).mono ?_
    rintro e w5 ⟨rfl, B5⟩
    have O1e := O1d.below B5
    have O5 := O4.below B5
    have BB5 := BB4.trans (B5.mono BB4.size)
    clear O1d O4 B5 BB4
    go_wp2_with fail
    refine (words_any s _ hs).mono ?_
    rintro e w6 ⟨v6, rfl, O6, B6⟩
    have O1f := O1e.below B6
    have O5f := O5.below B6
    have BB6 := BB5.trans (B6.mono BB5.size)
    clear O1e O5 B6 BB5
    go_wp2_with fail
    refine (eqWordS_own _ _ v6 v1 _ _ O6 O1f (by omega)).mono ?_
    rintro e w7 ⟨rfl, B7⟩
    have O5g := O5f.below B7
    have BB7 := BB6.trans (B7.mono BB6.size)
    clear O1f O5f O6 B7 BB6
    go_wp2_with fail
    refine (heldWordS_own _ n v2 1 _ O5g (by decide) (by decide) (by omega)).mono ?_
    rintro e w8 ⟨rfl, B8⟩
    have BB8 := BB7.trans (B8.mono BB7.size)
    clear O5g B8 BB7
    go_wp2
    go_ret
    exact ⟨rfl, BB8⟩
end Go.Proofs.Ytkbnafmkgiknbab
