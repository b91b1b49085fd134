/-
  Grammars as lists: which are right. Plain mathematics. No statement is proved here.
-/
import Derived.Test.YthnppodnjokaoabBase
namespace Go.Proofs.Ythnppodnjokaoab
open Go.RowKit

/-- From lo to hi. -/
def inB (x lo hi : Int) : Bool := decide (lo ≤ x ∧ x ≤ hi)
theorem inB_true {x lo hi : Int} : inB x lo hi = true ↔ lo ≤ x ∧ x ≤ hi := by simp [inB]
theorem inB_false {x lo hi : Int} : inB x lo hi = false ↔ ¬ (lo ≤ x ∧ x ≤ hi) := by simp [inB]
/-- A symbol of a grammar of n parts. -/
def symOk (n : Nat) (x : Int) : Bool := inB x 0 25 || inB x 100 (100 + n - 1)
def rowOk (n : Nat) (row : List Int) : Bool := decide (row.length ≤ 8) && row.all (symOk n)
def partOk (n : Nat) (alts : List (List Int)) : Bool := inB alts.length 1 8 && alts.all (rowOk n)
def gramOkB (parts : List (List (List Int))) : Bool := inB parts.length 1 20 && parts.all (partOk parts.length)

section
variable {α : Type} {p : α → Bool} {xs : List α} {k : Nat}
theorem all_step (h : (xs.take k).all p = true) (hk : k < xs.length) (g : p xs[k] = true) : (xs.take (k + 1)).all p = true := by
  rw [List.take_succ_eq_append_getElem hk, List.all_append, h]; simp [g]
theorem all_end (h : (xs.take k).all p = true) (hk : ¬ k < xs.length) : xs.all p = true := by
  rwa [List.take_of_length_le (by omega)] at h
theorem all_no (hk : k < xs.length) (g : p xs[k] = false) : xs.all p = false := by
  simp only [List.all_eq_false]; exact ⟨xs[k], List.getElem_mem hk, by simp [g]⟩
end
theorem symOk_true {n : Nat} {x : Int} : symOk n x = true ↔ (0 ≤ x ∧ x ≤ 25) ∨ (100 ≤ x ∧ x < 100 + n) := by
  simp only [symOk, Bool.or_eq_true, inB_true]; omega
theorem symOk_false {n : Nat} {x : Int} : symOk n x = false ↔ ¬ ((0 ≤ x ∧ x ≤ 25) ∨ (100 ≤ x ∧ x < 100 + n)) := by
  rw [← symOk_true]; simp
theorem rowOk_long {n : Nat} {row : List Int} (h : ¬ row.length ≤ 8) : rowOk n row = false := by simp [rowOk, h]
theorem rowOk_no {n : Nat} {row : List Int} (h : row.all (symOk n) = false) : rowOk n row = false := by simp [rowOk, h]
theorem rowOk_yes {n : Nat} {row : List Int} (h : row.length ≤ 8) (g : row.all (symOk n) = true) : rowOk n row = true := by simp [rowOk, h, g]
theorem partOk_many {n : Nat} {alts : List (List Int)} (h : inB alts.length 1 8 = false) : partOk n alts = false := by simp [partOk, h]
theorem partOk_no {n : Nat} {alts : List (List Int)} (h : alts.all (rowOk n) = false) : partOk n alts = false := by simp [partOk, h]
theorem partOk_yes {n : Nat} {alts : List (List Int)} (h : inB alts.length 1 8 = true) (g : alts.all (rowOk n) = true) : partOk n alts = true := by simp [partOk, h, g]
theorem gramOkB_many {parts : List (List (List Int))} (h : inB parts.length 1 20 = false) : gramOkB parts = false := by simp [gramOkB, h]
theorem gramOkB_no {parts : List (List (List Int))} (h : parts.all (partOk parts.length) = false) : gramOkB parts = false := by simp [gramOkB, h]
theorem gramOkB_yes {parts : List (List (List Int))} (h : inB parts.length 1 20 = true) (g : parts.all (partOk parts.length) = true) : gramOkB parts = true := by simp [gramOkB, h, g]
end Go.Proofs.Ythnppodnjokaoab
