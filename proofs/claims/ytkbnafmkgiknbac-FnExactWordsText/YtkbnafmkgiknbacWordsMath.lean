/-
  The plain mathematics of words: a byte's kind, the first byte that is no word, the words of a text. No program. No statement is proved here.
-/
import Derived.Test.YtkbnafmkgiknbacOwnT
namespace Go.Proofs.Ytkbnafmkgiknbac
open Go.RowKit

/-- The kind of a byte: -1 between words, 0 a name, 1 a letter, 2 a sign, -2 none. -/
def kindI (c : Int) : Int :=
  if c = 32 ∨ c = 10 then -1 else if 65 ≤ c ∧ c ≤ 90 then 0 else if 97 ≤ c ∧ c ≤ 122 then 1 else if c = 61 ∨ c = 124 ∨ c = 59 ∨ c = 40 ∨ c = 41 ∨ c = 42 ∨ c = 43 ∨ c = 63 then 2 else -2
theorem kindI_between {c : Int} (h : c = 32 ∨ c = 10) : kindI c = -1 := by simp [kindI, h]
theorem kindI_name {c : Int} (h : 65 ≤ c ∧ c ≤ 90) : kindI c = 0 := by rw [kindI, if_neg (by omega), if_pos h]
theorem kindI_letter {c : Int} (h : 97 ≤ c ∧ c ≤ 122) : kindI c = 1 := by rw [kindI, if_neg (by omega), if_neg (by omega), if_pos h]
theorem kindI_sign {c : Int} (h : c = 61 ∨ c = 124 ∨ c = 59 ∨ c = 40 ∨ c = 41 ∨ c = 42 ∨ c = 43 ∨ c = 63) : kindI c = 2 := by rw [kindI, if_neg (by omega), if_neg (by omega), if_neg (by omega), if_pos h]
theorem kindI_none {c : Int} (h0 : ¬ (c = 32 ∨ c = 10)) (h1 : ¬ (65 ≤ c ∧ c ≤ 90)) (h2 : ¬ (97 ≤ c ∧ c ≤ 122)) (h3 : ¬ (c = 61 ∨ c = 124 ∨ c = 59 ∨ c = 40 ∨ c = 41 ∨ c = 42 ∨ c = 43 ∨ c = 63)) : kindI c = -2 := by
  rw [kindI, if_neg h0, if_neg h1, if_neg h2, if_neg h3]
theorem kindI_range (c : Int) : -2 ≤ kindI c ∧ kindI c ≤ 2 := by
  unfold kindI; split <;> (try split) <;> (try split) <;> (try split) <;> omega

/-- A word: its kind, its place, its text. -/
structure Wd where
  kind : Int
  place : Int
  text : ByteArray

def wdE : Enc Wd where
  size := 3
  cells := fun x => [.int .i64 x.kind, .int .i64 x.place, .string x.text]
  len := fun _ => rfl
  one := by intro x u hu; simp at hu; rcases hu with rfl | rfl | rfl <;> rfl
  pos := by decide

/-- The kind of the byte at place k of a text. -/
def kindAt (s : ByteArray) (k : Nat) : Int := kindI ((s.data.toList.getD k 0).toNat : Int)
theorem kindAt_eq {s : ByteArray} {k : Nat} (h : k < s.size) : kindAt s k = kindI ((s[k]).toNat : Int) := by
  have : s.data.toList.getD k 0 = s[k] := by
    rw [List.getD_eq_getElem?_getD, Array.getElem?_toList, Array.getElem?_eq_getElem (by simpa using h)]; rfl
  rw [kindAt, this]
/-- One byte of a text, as a text. -/
def byteAt (s : ByteArray) (k : Nat) : ByteArray := s.extract k (k + 1)

/-- The words of the first k bytes. -/
def wordsTo (s : ByteArray) : Nat → List Wd
  | 0 => []
  | k + 1 => wordsTo s k ++ (if 0 ≤ kindAt s k then [⟨kindAt s k, k, byteAt s k⟩] else [])
theorem wordsTo_yes {s : ByteArray} {k : Nat} (h : 0 ≤ kindAt s k) : wordsTo s (k + 1) = wordsTo s k ++ [⟨kindAt s k, k, byteAt s k⟩] := by rw [wordsTo, if_pos h]
theorem wordsTo_no {s : ByteArray} {k : Nat} (h : ¬ 0 ≤ kindAt s k) : wordsTo s (k + 1) = wordsTo s k := by rw [wordsTo, if_neg h, List.append_nil]
theorem wordsTo_length_le (s : ByteArray) (k : Nat) : (wordsTo s k).length ≤ k := by
  induction k with
  | zero => simp [wordsTo]
  | succ k ih => rw [wordsTo]; split <;> simp <;> omega

/-- None of the first k bytes is no word. -/
def cleanTo (s : ByteArray) (k : Nat) : Prop := ∀ j, j < k → kindAt s j ≠ -2
theorem cleanTo_zero (s : ByteArray) : cleanTo s 0 := fun j h => absurd h (Nat.not_lt_zero j)
theorem cleanTo_step {s : ByteArray} {k : Nat} (h : cleanTo s k) (g : kindAt s k ≠ -2) : cleanTo s (k + 1) := by
  intro j hj
  by_cases e : j < k
  · exact h j e
  · have : j = k := by omega
    exact this ▸ g

/-- The first byte that is no word, or -1. -/
def badI (s : ByteArray) : Int := if (List.range s.size).any (fun k => decide (kindAt s k = -2)) then ((List.range s.size).findIdx (fun k => decide (kindAt s k = -2)) : Nat) else -1
theorem badI_clean {s : ByteArray} (h : cleanTo s s.size) : badI s = -1 := by
  rw [badI, if_neg]
  simp only [List.any_eq_true, List.mem_range, decide_eq_true_eq, not_exists, not_and]
  exact fun k hk => h k hk
theorem badI_at {s : ByteArray} {k : Nat} (hk : k < s.size) (h : cleanTo s k) (g : kindAt s k = -2) : badI s = k := by
  have hany : (List.range s.size).any (fun k => decide (kindAt s k = -2)) = true := by
    simp only [List.any_eq_true, List.mem_range, decide_eq_true_eq]; exact ⟨k, hk, g⟩
  rw [badI, if_pos hany]
  have : (List.range s.size).findIdx (fun k => decide (kindAt s k = -2)) = k := by
    rw [List.findIdx_eq (by simpa using hk)]
    refine ⟨by simpa using g, fun j hj => by simpa using h j hj⟩
  rw [this]
theorem badI_cases (s : ByteArray) : (badI s = -1 ∧ cleanTo s s.size) ∨ ∃ k, k < s.size ∧ cleanTo s k ∧ kindAt s k = -2 ∧ badI s = k := by
  by_cases h : cleanTo s s.size
  · exact .inl ⟨badI_clean h, h⟩
  · right
    have : ∃ k, k < s.size ∧ kindAt s k = -2 := by
      apply Classical.byContradiction
      intro hn
      exact h fun j hj e => hn ⟨j, hj, e⟩
    obtain ⟨k, hk, hk2⟩ := this
    induction k using Nat.strongRecOn with
    | ind k ih =>
      by_cases hc : cleanTo s k
      · exact ⟨k, hk, hc, hk2, badI_at hk hc hk2⟩
      · have : ∃ j, j < k ∧ kindAt s j = -2 := by
          apply Classical.byContradiction
          intro hn
          exact hc fun j hj e => hn ⟨j, hj, e⟩
        obtain ⟨j, hj, hj2⟩ := this
        exact ih j hj (by omega) hj2

/-- The words of a text, as they are answered; and the answer's number. -/
def wordsL (s : ByteArray) : List Wd := if 300 < s.size then [] else if 0 ≤ badI s then [] else wordsTo s s.size
def wordsN (s : ByteArray) : Int := if 300 < s.size then 300 else badI s
theorem wordsL_long {s : ByteArray} (h : 300 < s.size) : wordsL s = [] := by rw [wordsL, if_pos h]
theorem wordsN_long {s : ByteArray} (h : 300 < s.size) : wordsN s = 300 := by rw [wordsN, if_pos h]
theorem wordsL_bad {s : ByteArray} (h : ¬ 300 < s.size) (g : 0 ≤ badI s) : wordsL s = [] := by rw [wordsL, if_neg h, if_pos g]
theorem wordsN_short {s : ByteArray} (h : ¬ 300 < s.size) : wordsN s = badI s := by rw [wordsN, if_neg h]
theorem wordsL_clean {s : ByteArray} (h : ¬ 300 < s.size) (g : badI s = -1) : wordsL s = wordsTo s s.size := by rw [wordsL, if_neg h, if_neg (by omega)]
theorem wordsL_length (s : ByteArray) : (wordsL s).length ≤ 300 := by
  unfold wordsL
  have := wordsTo_length_le s s.size
  split
  · simp
  · split
    · simp
    · omega
end Go.Proofs.Ytkbnafmkgiknbac
