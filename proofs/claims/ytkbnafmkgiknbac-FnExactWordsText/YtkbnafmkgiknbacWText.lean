/-
  Contracts of impl.WordsText and spec.WordsText over this translation. No statement is proved here.
-/
import Derived.Test.YtkbnafmkgiknbacWordsMath
import Derived.Test.YtkbnafmkgiknbacBuilder
namespace Go.Proofs.Ytkbnafmkgiknbac
open Go.RowKit

/-- The bytes of a text. -/
def bytesL (s : ByteArray) : List UInt8 := s.data.toList
/-- The text of the first k words: one blank between two. -/
def textTo (ws : List Wd) : Nat → List UInt8
  | 0 => []
  | k + 1 => textTo ws k ++ ((if k = 0 then [] else [32]) ++ ((ws[k]?).map (fun x => bytesL x.text)).getD [])
theorem textTo_first {ws : List Wd} (h : 0 < ws.length) : textTo ws (0 + 1) = bytesL ws[0].text := by simp [textTo, h]
theorem textTo_next {ws : List Wd} {k : Nat} (h : k < ws.length) (hk : k ≠ 0) : textTo ws (k + 1) = (textTo ws k ++ [32]) ++ bytesL ws[k].text := by simp [textTo, h, hk]
theorem textTo_mono (ws : List Wd) {k m : Nat} (h : k ≤ m) : (textTo ws k).length ≤ (textTo ws m).length := by
  induction m with
  | zero => have : k = 0 := by omega
            subst this; exact Nat.le_refl _
  | succ m ih =>
    by_cases e : k = m + 1
    · subst e; exact Nat.le_refl _
    · have := ih (by omega)
      rw [textTo, List.length_append]; omega
/-- The text of words. -/
def textL (ws : List Wd) : ByteArray := ⟨(textTo ws ws.length).toArray⟩

theorem strCells_bytes (s : ByteArray) : Lib.strCells s = Lib.byteCells (bytesL s) := rfl

theorem isB_lt {B b : Nat} {bs : List Value} {w : World} (h : IsB B b bs w) : b < w.heap.size := by
  rcases h with h | h <;> exact h.lt

set_option maxRecDepth 100000 in
theorem wordsText_any (a : Option Addr) (c : Nat) (ws : List Wd) (w : World) (h : ReadsT wdE w a ws) (hl : ws.length ≤ 1099511627776) (hb : (textTo ws ws.length).length ≤ 1099511627776) :
    Calls Try.prog 10 #[.slice a ws.length c] w fun e w' => e = .returned (.string (textL ws)) ∧ Below w.heap.size w w' := by
  go_enter Try.func10, Try.ntmps10
  go_wp2
  go_loopw [8] (fun i wr => ∃ k : Nat, k ≤ ws.length ∧ i = .int .i64 k ∧ IsB w.heap.size w.heap.size (Lib.byteCells (textTo ws k)) wr ∧ Below w.heap.size w wr) (fun i _ => ws.length - (intOf i).toNat)
  case atStart => exact ⟨0, Nat.zero_le _, rfl, .of (Lib.fresh_isBuilder _ _ w), (Below.refl _ _).alloc (Nat.le_refl _) _⟩
  case round =>
    obtain ⟨k, hk, rfl, hB, hbel⟩ := hrel
    have hsz := hbel.size
    by_cases hlt : k < ws.length
    · obtain ⟨b1, o1, rfl, hb1, hc1⟩ := h.at hlt
      have q0 := (hbel.cell (p := ⟨b1, o1 + (k * wdE.size + 0), none⟩) hb1).trans (hc1 0 (by decide))
      have q1 := (hbel.cell (p := ⟨b1, o1 + (k * wdE.size + 1), none⟩) hb1).trans (hc1 1 (by decide))
      have q2 := (hbel.cell (p := ⟨b1, o1 + (k * wdE.size + 2), none⟩) hb1).trans (hc1 2 (by decide))
      simp only [wdE, List.getElem?_cons_zero, List.getElem?_cons_succ, Nat.add_zero, ← Nat.add_assoc] at q0 q1 q2
      clear hc1
      have hBl := isB_lt hB
      have hm := textTo_mono ws (k := k + 1) (m := ws.length) hlt
      by_cases hk0 : 0 < k
      · have E : Hid (textTo ws (k + 1) = (textTo ws k ++ [32]) ++ bytesL ws[k].text) := textTo_next hlt (by omega)
        have hlen : (textTo ws k).length + 1 + ws[k].text.size ≤ 1099511627776 := by
          rw [E.out] at hm; simp [bytesL] at hm; omega
        generalize ws[k].text = tx at *
        generalize textTo ws k = pre at *
        go_wp2_with fail
        refine (writeByte_any w.heap.size w.heap.size _ 32 _ (hB.alloc _) (by rw [Lib.byteCells_length]; omega) (by simp; omega)).mono ?_
        rintro e w2 ⟨rfl, hU, hb2, hk2⟩
        have hblk := hk2 _ _ (heap_alloc_new wr _) (by simp; omega) (by intro c fz e; cases e)
        have hc2 : w2.cell? ⟨wr.heap.size, 2, none⟩ = some (.string tx) := by rw [Lib.cell_of_heap hblk]; rfl
        have B2 := (hbel.alloc hsz _).trans hb2
        have hz2 := hb2.size
        simp only [World.size_alloc] at hz2
        go_wp2_with fail
        refine (writeString_any w.heap.size w.heap.size _ tx _ (.inr hU) (by simp [Lib.byteCells_length]; omega) (by omega)).mono ?_
        rintro e w3 ⟨rfl, hU3, hb3, _⟩
        go_wp2
        go_roundw
        case rel =>
          refine ⟨k + 1, by omega, by go_num, .inr ?_, B2.trans hb3⟩
          rw [E.out, Lib.byteCells_append, Lib.byteCells_append]
          exact hU3
        case measure => simp [intOf]; omega
      · have hz : k = 0 := by omega
        have E : Hid (textTo ws (k + 1) = bytesL ws[k].text) := by subst hz; exact textTo_first hlt
        have E0 : textTo ws k = [] := by subst hz; rfl
        have hlen : ws[k].text.size ≤ 1099511627776 := by
          rw [E.out] at hm; simp [bytesL] at hm; omega
        rw [E0] at hB
        clear E0 hz
        generalize ws[k].text = tx at *
        go_wp2_with fail
        refine (writeString_any w.heap.size w.heap.size _ tx _ (hB.alloc _) (by simp [Lib.byteCells_length]; omega) (by simp; omega)).mono ?_
        rintro e w3 ⟨rfl, hU3, hb3, _⟩
        have B3 := (hbel.alloc hsz _).trans hb3
        go_wp2
        go_roundw
        case rel =>
          refine ⟨k + 1, by omega, by go_num, .inr ?_, B3⟩
          rw [E.out]
          exact hU3
        case measure => simp [intOf]; omega
    · have e : k = ws.length := by omega
      subst e
      go_wp2_with fail
      refine (Try.Builder_String_any_k w.heap.size w.heap.size _ _ hB hsz).mono ?_
      rintro e w2 ⟨rfl, _, hb2, _⟩
      go_wp2
      go_ret
      exact ⟨rfl, hbel.trans hb2⟩
end Go.Proofs.Ytkbnafmkgiknbac
