/-
  The plain mathematics of words that are read again from their text. No program. No statement is proved here.
-/
import Derived.Test.YtkbnafmkgiknbaaWText
namespace Go.Proofs.Ytkbnafmkgiknbaa
open Go.RowKit

/-- A word of one byte that has the byte's kind. -/
def OneByte (x : Wd) : Prop := ∃ b : UInt8, x.text = ⟨#[b]⟩ ∧ x.kind = kindI (b.toNat : Int) ∧ 0 ≤ x.kind

theorem byteAt_eq {s : ByteArray} {k : Nat} (h : k < s.size) : byteAt s k = ⟨#[s[k]]⟩ := by
  have hl : s.data.toList.length = s.size := by simp
  have hk : k < s.data.toList.length := by omega
  apply ByteArray.ext
  apply Array.ext'
  have : (s.extract k (k + 1)).data = s.data.extract k (k + 1) := ByteArray.data_extract
  rw [byteAt, this, Array.toList_extract, List.extract]
  rw [List.drop_eq_getElem_cons hk, Nat.add_sub_cancel_left, List.take_succ_cons, List.take_zero]
  rfl

theorem wordsTo_oneByte (s : ByteArray) (k : Nat) (h : k ≤ s.size) : ∀ x ∈ wordsTo s k, OneByte x := by
  induction k with
  | zero => intro x hx; simp [wordsTo] at hx
  | succ k ih =>
    intro x hx
    by_cases h0 : 0 ≤ kindAt s k
    · rw [wordsTo_yes h0] at hx
      rcases List.mem_append.1 hx with hx | hx
      · exact ih (by omega) x hx
      · have : x = ⟨kindAt s k, k, byteAt s k⟩ := by simpa using hx
        subst this
        exact ⟨s[k]'(by omega), byteAt_eq (by omega), kindAt_eq (by omega), h0⟩
    · rw [wordsTo_no h0] at hx
      exact ih (by omega) x hx

theorem wordsL_oneByte (s : ByteArray) : ∀ x ∈ wordsL s, OneByte x := by
  intro x hx
  unfold wordsL at hx
  split at hx
  · simp at hx
  · split at hx
    · simp at hx
    · exact wordsTo_oneByte s s.size (Nat.le_refl _) x hx

/-- The first byte of the i-th word. -/
def byteOf (ws : List Wd) (i : Nat) : UInt8 := ((ws[i]?).map (fun x => x.text.data.toList.getD 0 0)).getD 0

theorem byteOf_eq {ws : List Wd} (h : ∀ x ∈ ws, OneByte x) {i : Nat} (hi : i < ws.length) : ws[i].text = ⟨#[byteOf ws i]⟩ ∧ ws[i].kind = kindI ((byteOf ws i).toNat : Int) ∧ 0 ≤ ws[i].kind := by
  obtain ⟨b, h1, h2, h3⟩ := h ws[i] (List.getElem_mem hi)
  have : byteOf ws i = b := by simp [byteOf, hi, h1]
  rw [this]
  exact ⟨h1, h2, h3⟩

theorem text_len {ws : List Wd} (h : ∀ x ∈ ws, OneByte x) (k : Nat) (hk : k ≤ ws.length) : (textTo ws k).length = 2 * k - 1 := by
  induction k with
  | zero => rfl
  | succ k ih =>
    have hlt : k < ws.length := hk
    have e := (byteOf_eq h hlt).1
    have ih' := ih (by omega)
    by_cases h0 : k = 0
    · subst h0; rw [textTo_first hlt, e]; rfl
    · rw [textTo_next hlt h0, e, List.length_append, List.length_append, ih']; simp [bytesL]; omega

theorem text_at {ws : List Wd} (h : ∀ x ∈ ws, OneByte x) (k : Nat) (hk : k ≤ ws.length) : ∀ i, i < k → (textTo ws k)[2 * i]? = some (byteOf ws i) ∧ (i + 1 < k → (textTo ws k)[2 * i + 1]? = some 32) := by
  induction k with
  | zero => intro i hi; omega
  | succ k ih =>
    intro i hi
    have hlt : k < ws.length := hk
    have e := (byteOf_eq h hlt).1
    by_cases h0 : k = 0
    · subst h0
      have : i = 0 := by omega
      subst this
      rw [textTo_first hlt, e]
      exact ⟨rfl, fun h => by omega⟩
    · have hl := text_len h k (by omega)
      have hb : bytesL ws[k].text = [byteOf ws k] := by rw [e]; rfl
      rw [textTo_next hlt h0, hb, List.append_assoc]
      by_cases hik : i < k
      · obtain ⟨i1, i2⟩ := ih (by omega) i hik
        refine ⟨?_, fun _ => ?_⟩
        · rw [List.getElem?_append_left (by omega)]; exact i1
        · by_cases h2 : i + 1 < k
          · rw [List.getElem?_append_left (by omega)]; exact i2 h2
          · rw [List.getElem?_append_right (by omega), hl]
            have : 2 * i + 1 - (2 * k - 1) = 0 := by omega
            rw [this]; rfl
      · have : i = k := by omega
        subst this
        refine ⟨?_, fun h => by omega⟩
        rw [List.getElem?_append_right (by omega), hl]
        have : 2 * i - (2 * i - 1) = 1 := by omega
        rw [this]; rfl

theorem textL_size (ws : List Wd) : (textL ws).size = (textTo ws ws.length).length := rfl

theorem textL_kind {ws : List Wd} (h : ∀ x ∈ ws, OneByte x) {i : Nat} (hi : i < ws.length) : kindAt (textL ws) (2 * i) = ws[i].kind ∧ byteAt (textL ws) (2 * i) = ws[i].text ∧ (i + 1 < ws.length → kindAt (textL ws) (2 * i + 1) = -1) := by
  obtain ⟨t1, t2⟩ := text_at h ws.length (Nat.le_refl _) i hi
  obtain ⟨b1, b2, b3⟩ := byteOf_eq h hi
  have hl := text_len h ws.length (Nat.le_refl _)
  have hz := textL_size ws
  refine ⟨?_, ?_, fun h2 => ?_⟩
  · rw [kindAt, b2]
    have : (textL ws).data.toList.getD (2 * i) 0 = byteOf ws i := by
      show (textTo ws ws.length).getD (2 * i) 0 = _
      rw [List.getD_eq_getElem?_getD, t1]; rfl
    rw [this]
  · have hlt : 2 * i < (textL ws).size := by omega
    rw [byteAt_eq hlt, b1]
    have hlt2 : 2 * i < (textTo ws ws.length).length := by omega
    have : (textL ws)[2 * i]'hlt = byteOf ws i := by
      show (textTo ws ws.length)[2 * i]'hlt2 = _
      rw [List.getElem?_eq_getElem hlt2] at t1
      exact Option.some.inj t1
    exact congrArg (fun b => ByteArray.mk #[b]) this
  · rw [kindAt]
    have : (textL ws).data.toList.getD (2 * i + 1) 0 = 32 := by
      show (textTo ws ws.length).getD (2 * i + 1) 0 = _
      rw [List.getD_eq_getElem?_getD, t2 h2]; rfl
    rw [this]; rfl

theorem textL_clean {ws : List Wd} (h : ∀ x ∈ ws, OneByte x) : cleanTo (textL ws) (textL ws).size := by
  intro j hj
  rw [textL_size, text_len h _ (Nat.le_refl _)] at hj
  rcases Nat.mod_two_eq_zero_or_one j with e | e
  · have hi : j / 2 < ws.length := by omega
    have := (textL_kind h hi).1
    have hj2 : 2 * (j / 2) = j := by omega
    rw [hj2] at this
    have := (byteOf_eq h hi).2.2
    omega
  · have hi : j / 2 < ws.length := by omega
    have := (textL_kind h hi).2.2 (by omega)
    have hj2 : 2 * (j / 2) + 1 = j := by omega
    rw [hj2] at this
    omega

/-- The words of the first k words' text, each at its new place. -/
def placed (ws : List Wd) : Nat → List Wd
  | 0 => []
  | k + 1 => placed ws k ++ ((ws[k]?).map fun x => { x with place := 2 * (k : Int) }).toList
theorem placed_length (ws : List Wd) (k : Nat) (h : k ≤ ws.length) : (placed ws k).length = k := by
  induction k with
  | zero => rfl
  | succ k ih => rw [placed, List.length_append, ih (by omega)]; simp [List.getElem?_eq_getElem (show k < ws.length by omega)]
theorem placed_get (ws : List Wd) (k : Nat) (h : k ≤ ws.length) (i : Nat) (hi : i < k) : (placed ws k)[i]? = (ws[i]?).map fun x => { x with place := 2 * (i : Int) } := by
  induction k with
  | zero => omega
  | succ k ih =>
    have hl := placed_length ws k (by omega)
    rw [placed]
    by_cases e : i < k
    · rw [List.getElem?_append_left (by omega)]; exact ih (by omega) e
    · have : i = k := by omega
      subst this
      rw [List.getElem?_append_right (by omega), hl, Nat.sub_self, List.getElem?_eq_getElem (show i < ws.length by omega)]; rfl

theorem wordsTo_text {ws : List Wd} (h : ∀ x ∈ ws, OneByte x) (k : Nat) (hk : k < ws.length) : wordsTo (textL ws) (2 * k + 1) = placed ws (k + 1) := by
  have step : wordsTo (textL ws) (2 * k) = placed ws k := by
    induction k with
    | zero => rfl
    | succ k ih =>
      have h1 := textL_kind h (show k < ws.length by omega)
      have e1 : wordsTo (textL ws) (2 * k + 1) = placed ws (k + 1) := by
        have h3 := (byteOf_eq h (show k < ws.length by omega)).2.2
        rw [wordsTo_yes (by rw [h1.1]; exact h3), ih (by omega), placed, h1.1, h1.2.1, List.getElem?_eq_getElem (show k < ws.length by omega)]
        simp
      have e2 : 2 * (k + 1) = (2 * k + 1) + 1 := by omega
      rw [e2, wordsTo_no (by rw [h1.2.2 hk]; omega), e1]
  have h1 := textL_kind h hk
  have h3 := (byteOf_eq h hk).2.2
  rw [wordsTo_yes (by rw [h1.1]; exact h3), step, placed, h1.1, h1.2.1, List.getElem?_eq_getElem hk]
  simp

/-- Words are read again as they were, each at its new place. -/
theorem again_words {ws : List Wd} (h : ∀ x ∈ ws, OneByte x) (hs : ¬ 300 < (textL ws).size) : wordsL (textL ws) = placed ws ws.length ∧ wordsN (textL ws) = -1 := by
  have hc := badI_clean (textL_clean h)
  refine ⟨?_, by rw [wordsN_short hs, hc]⟩
  rw [wordsL_clean hs hc, textL_size, text_len h _ (Nat.le_refl _)]
  cases hn : ws.length with
  | zero => rfl
  | succ n =>
    have := wordsTo_text h n (by omega)
    have e : 2 * (n + 1) - 1 = 2 * n + 1 := by omega
    rw [e, this]

theorem again_at {ws : List Wd} {i : Nat} (hi : i < ws.length) (hi2 : i < (placed ws ws.length).length) : (placed ws ws.length)[i].kind = ws[i].kind ∧ (placed ws ws.length)[i].text = ws[i].text ∧ (placed ws ws.length)[i].place = 2 * (i : Int) := by
  have := placed_get ws ws.length (Nat.le_refl _) i hi
  rw [List.getElem?_eq_getElem hi2, List.getElem?_eq_getElem hi] at this
  have e := Option.some.inj this
  rw [e]
  exact ⟨rfl, rfl, rfl⟩

theorem text_short {ws : List Wd} (h : ∀ x ∈ ws, OneByte x) (hl : ws.length ≤ 300) : (textTo ws ws.length).length ≤ 1000 := by
  rw [text_len h _ (Nat.le_refl _)]; omega
end Go.Proofs.Ytkbnafmkgiknbaa
