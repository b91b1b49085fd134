/-
  The walk of the law on words that are read again over this translation, out of the contracts. No statement is proved here (the frame is in the text that imports this one).
-/
import Derived.Test.YtkbnafmkgiknbaaSpecWords
import Derived.Test.YtkbnafmkgiknbaaAgainMath
import Derived.Test.YtkbnafmkgiknbaaDrawWords
namespace Go.Proofs.Ytkbnafmkgiknbaa
open Go.RowKit

theorem big_any (a : Option Addr) (n c : Nat) (w : World) :
    Calls Try.prog 6 #[.slice a n c] w fun e w' => e = .returned (.bool (decide ((1048576 : Int) < n))) ∧ w = w' := by
  go_enter Try.func6, Try.ntmps6
  go_wp2
  go_ret
  exact ⟨rfl, rfl⟩

theorem wordsN_cases (s : ByteArray) : (wordsN s = -1 ∧ ¬ 300 < s.size) ∨ (0 ≤ wordsN s ∧ wordsL s = []) := by
  by_cases h : 300 < s.size
  · right; rw [wordsN_long h]; exact ⟨by decide, wordsL_long h⟩
  · rcases badI_cases s with ⟨h1, _⟩ | ⟨k, _, _, _, h1⟩
    · left; rw [wordsN_short h]; exact ⟨h1, h⟩
    · right
      have h2 : 0 ≤ badI s := by omega
      rw [wordsN_short h]; exact ⟨h2, wordsL_bad h h2⟩

set_option maxRecDepth 100000 in
theorem fnWordsAgain_law (a : Option Addr) (c : Nat) (bs : List Int) (w : World) (hr : BReads w w.heap.size a bs) :
    Calls Try.prog 4 #[.slice a bs.length c] w fun e w' => e = .returned (.bool true) ∧ Below w.heap.size w w' := by
  by_cases hbig : 1048576 < bs.length
  · have hd : decide ((1048576 : Int) < (bs.length : Int)) = true := by simp; omega
    go_enter Try.func4, Try.ntmps4
    go_wp2_with (go_at_call 6; refine (big_any a _ c _).mono ?_; rw [hd]; rintro e w' ⟨rfl, rfl⟩)
    go_ret
    exact ⟨rfl, Below.refl _ _⟩
  · have hd : decide ((1048576 : Int) < (bs.length : Int)) = false := by simp; omega
    go_enter Try.func4, Try.ntmps4
    go_wp2_with (go_at_call 6; refine (big_any a _ c _).mono ?_; rw [hd]; rintro e w' ⟨rfl, rfl⟩)
    refine (drawWords_any a c bs _ hr (by omega)).mono ?_
    rintro e w1 ⟨s, rfl, hs, B1⟩
    have hs2 : s.size ≤ maxLen := by unfold maxLen; omega
    clear hr hd hbig
    go_wp2_with fail
    refine (words_any s _ hs2).mono ?_
    rintro e w2 ⟨v, rfl, O2, B2⟩
    go_wp2_with fail
    refine (specWords_any s _ hs2).mono ?_
    rintro e w3 ⟨v3, rfl, O3, B3⟩
    obtain ⟨ad, cap, rfl, hrd, _, hlc, hcm⟩ := (O2.below B3).shape
    obtain ⟨ad3, cap3, rfl, _⟩ := O3.shape
    have BB3 : Below w.heap.size w w3 := (B1.trans (B2.mono B1.size)).trans (B3.mono (Nat.le_trans B1.size B2.size))
    clear O2 O3 B1 B2 B3
    rcases wordsN_cases s with ⟨hN, hsz⟩ | ⟨hN, hL⟩
    · have HW : Hid (∀ x ∈ wordsL s, OneByte x) := wordsL_oneByte s
      have hlen := wordsL_length s
      rw [hN]
      clear hN hlc hcm
      generalize wordsL s = ws at *
      have htx := text_short HW.out hlen
      have htz := textL_size ws
      go_wp2_with fail
      refine (wordsText_any ad cap ws _ hrd (by omega) (by omega)).mono ?_
      rintro e w4 ⟨rfl, B4⟩
      have hrd4 := hrd.below B4
      have BB4 := BB3.trans (B4.mono BB3.size)
      clear hrd BB3 B4
      go_wp2_with fail
      refine (words_any (textL ws) _ (by unfold maxLen; omega)).mono ?_
      rintro e w5 ⟨v5, rfl, O5, B5⟩
      have hrd5 := hrd4.below B5
      have BB5 := BB4.trans (B5.mono BB4.size)
      obtain ⟨ad5, cap5, rfl, hra5, _⟩ := O5.shape
      clear hrd4 BB4 B5 O5
      by_cases hlong : 300 < (textL ws).size
      · rw [wordsN_long hlong]
        generalize textL ws = T at *
        go_wp2
        go_ret
        exact ⟨rfl, BB5⟩
      · obtain ⟨e1, e2⟩ := again_words HW.out hlong
        rw [e2]
        rw [e1] at hra5
        rw [e1]
        clear e1 e2
        have hpl := placed_length ws ws.length (Nat.le_refl _)
        have HAT : Hid (∀ i (hi : i < ws.length) (hi2 : i < (placed ws ws.length).length), (placed ws ws.length)[i].kind = ws[i].kind ∧ (placed ws ws.length)[i].text = ws[i].text ∧ (placed ws ws.length)[i].place = 2 * (i : Int)) := fun i hi hi2 => again_at hi hi2
        generalize placed ws ws.length = ag at *
        generalize textL ws = T at *
        have HPL : Hid (ag.length = ws.length) := hpl
        have hne : ((ag.length : Int) != (ws.length : Int)) = false := by simp [hpl]
        clear hpl
        go_wp2
        go_loopw [11] (fun i wr => ∃ k : Nat, k ≤ ws.length ∧ i = .int .i64 k ∧ Below w5.heap.size w5 wr) (fun i _ => ws.length - (intOf i).toNat)
        case atStart => exact ⟨0, Nat.zero_le _, rfl, Below.refl _ _⟩
        case round =>
          obtain ⟨k, hk, rfl, hbel⟩ := hrel
          by_cases hlt : k < ws.length
          · have hlt2 : k < ag.length := HPL.out ▸ hlt
            obtain ⟨f1, f2, f3⟩ := HAT.out k hlt hlt2
            obtain ⟨b1, o1, rfl, hb1, hc1⟩ := (hrd5.below hbel).at hlt
            obtain ⟨b2, o2, rfl, hb2, hc2⟩ := (hra5.below hbel).at hlt2
            have q0 := hc1 0 (by decide)
            have q2 := hc1 2 (by decide)
            have r0 := hc2 0 (by decide)
            have r1 := hc2 1 (by decide)
            have r2 := hc2 2 (by decide)
            simp only [wdE, List.getElem?_cons_zero, List.getElem?_cons_succ, Nat.add_zero, ← Nat.add_assoc] at q0 q2 r0 r1 r2
            rw [f1] at r0
            rw [f3] at r1
            rw [f2] at r2
            clear hc1 hc2 f1 f2 f3
            generalize ws[k].kind = kd at *
            generalize ws[k].text = tx at *
            go_wp2
            go_quiet (fail)
            go_wp2
            go_roundw
            case rel => exact ⟨k + 1, by omega, by go_num, below_drewN hbel _⟩
            case measure => simp [intOf]; omega
          · go_wp2
            go_ret
            exact ⟨rfl, BB5.trans (hbel.mono BB5.size)⟩
    · have hne : (wordsN s != wordsN s) = false := by simp
      rw [hL]
      rw [hL] at hrd
      go_wp2
      go_ret
      exact ⟨rfl, BB3⟩
end Go.Proofs.Ytkbnafmkgiknbaa
