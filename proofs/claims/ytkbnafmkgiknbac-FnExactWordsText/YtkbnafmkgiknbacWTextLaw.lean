/-
  The walk of the exact law of WordsText over this translation, out of the contracts. No statement is proved here (the frame is in the text that imports this one).
-/
import Derived.Test.YtkbnafmkgiknbacSpecWText
namespace Go.Proofs.Ytkbnafmkgiknbac
open Go.RowKit

set_option maxRecDepth 100000 in
theorem fnExactWordsText_law (a : Option Addr) (c : Nat) (ws : List Wd) (w : World) (h : ReadsT wdE w a ws) (hl : ws.length ≤ maxLen) (hsz : ∀ i (hi : i < ws.length), ws[i].text.size ≤ maxLen) :
    Calls Try.prog 3 #[.slice a ws.length c] w fun e w' => e = .returned (.bool true) ∧ Below w.heap.size w w' := by
  go_enter Try.func3, Try.ntmps3
  go_wp2_with fail
  refine (szWordS_any a c ws _ h hl hsz).mono ?_
  rintro e w1 ⟨r, rfl, hr, B1⟩
  rcases hr with rfl | ⟨hr0, hsum⟩
  · go_wp2
    go_ret
    exact ⟨rfl, B1⟩
  · have ht := text_le ws ws.length
    have HSZ : Hid (∀ i (hi : i < ws.length), ws[i].text.size ≤ maxLen) := hsz
    clear hsz hl
    go_wp2_with fail
    refine (toWordS_any a c ws _ (h.below B1) (by omega)).mono ?_
    rintro e w2 ⟨v2, rfl, O2, B2⟩
    have BB2 := B1.trans (B2.mono B1.size)
    obtain ⟨a2, c2, rfl, hr2, _⟩ := O2.shape
    go_wp2_with fail
    refine (specWordsText_any a2 c2 ws _ hr2 (by omega) (by omega)).mono ?_
    rintro e w3 ⟨rfl, rfl⟩
    clear O2 B1 B2 hr2
    go_wp2_with fail
    refine (toWordS_any a c ws _ (h.below BB2) (by omega)).mono ?_
    rintro e w4 ⟨v4, rfl, O4, B4⟩
    have BB4 := BB2.trans (B4.mono BB2.size)
    obtain ⟨a4, c4, rfl, hr4, _⟩ := O4.shape
    clear BB2 B4
    go_wp2_with fail
    refine (wordsText_any a4 c4 ws _ hr4 (by omega) (by omega)).mono ?_
    rintro e w5 ⟨rfl, B5⟩
    have O5 := O4.below B5
    have BB5 := BB4.trans (B5.mono BB4.size)
    clear O4 BB4 B5 hr4
    generalize textL ws = T at *
    go_wp2_with fail
    refine (toWordS_any a c ws _ (h.below BB5) (by omega)).mono ?_
    rintro e w6 ⟨v6, rfl, O6, B6⟩
    have O5b := O5.below B6
    have BB6 := BB5.trans (B6.mono BB5.size)
    clear O5 BB5 B6
    go_wp2_with fail
    refine (eqWordS_own _ _ _ v6 ws _ O5b O6 (by omega)).mono ?_
    rintro e w7 ⟨rfl, B7⟩
    have BB7 := BB6.trans (B7.mono BB6.size)
    clear O5b O6 BB6 B7
    go_wp2
    go_ret
    exact ⟨rfl, BB7⟩
end Go.Proofs.Ytkbnafmkgiknbac
