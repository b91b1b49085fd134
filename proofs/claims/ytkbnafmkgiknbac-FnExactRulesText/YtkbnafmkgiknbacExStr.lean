/-
  The text of expressions: plain mathematics, and the contract of spec.ExprText over this translation. No statement is proved here.
-/
import Derived.Test.YtkbnafmkgiknbacToExpr
import Derived.Handy
import Derived.Deep.RegionWith
namespace Go.Proofs.Ytkbnafmkgiknbac
open Go.RowKit

/-- The first k of some texts, with one byte between. -/
def joinTo (sep : UInt8) (ts : List (List UInt8)) : Nat → List UInt8
  | 0 => []
  | k + 1 => joinTo sep ts k ++ ((if k = 0 then [] else [sep]) ++ (ts[k]?).getD [])
/-- The text of an expression, by its kind, its own text and its kids' texts. -/
def exStr (k : Int) (t : ByteArray) (ts : List (List UInt8)) : List UInt8 :=
  if k = 0 ∨ k = 1 then t.data.toList
  else if k = 2 then [40] ++ joinTo 32 ts ts.length ++ [41]
  else if k = 3 then [40] ++ joinTo 124 ts ts.length ++ [41]
  else if k = 4 ∨ k = 5 ∨ k = 6 then (if ts.length = 1 then (ts[0]?).getD [] ++ [if k = 4 then 63 else if k = 5 then 42 else 43] else [])
  else []
mutual
def Ex.str : Ex → List UInt8
  | .mk k t ks => exStr k t (Ex.strL ks)
def Ex.strL : List Ex → List (List UInt8)
  | [] => []
  | x :: xs => x.str :: Ex.strL xs
end
theorem Ex.strL_eq (xs : List Ex) : Ex.strL xs = xs.map Ex.str := by
  induction xs with
  | nil => simp [Ex.strL]
  | cons x xs ih => simp [Ex.strL, ih]
theorem Ex.str_eq (x : Ex) : x.str = exStr x.kind x.text (x.kids.map Ex.str) := by
  cases x; simp [Ex.str, Ex.strL_eq, Ex.kind_mk, Ex.text_mk, Ex.kids_mk]

theorem joinTo_len (sep : UInt8) (xs : List Ex) (h : ∀ x ∈ xs, x.str.length ≤ 3 * x.wt + 2) (k : Nat) (hk : k ≤ xs.length) : (joinTo sep (xs.map Ex.str) k).length ≤ 3 * Ex.wtL (xs.take k) := by
  induction k with
  | zero => simp [joinTo]
  | succ k ih =>
    have hlt : k < xs.length := hk
    have h1 := ih (by omega)
    have h2 := h xs[k] (List.getElem_mem hlt)
    have h3 : ((if k = 0 then ([] : List UInt8) else [sep])).length ≤ 1 := by split <;> simp
    rw [joinTo, List.length_append, List.length_append, Ex.wtL_take hlt]
    simp [hlt]
    omega
theorem exStr_len (x : Ex) (h : ∀ y ∈ x.kids, y.str.length ≤ 3 * y.wt + 2) : x.str.length ≤ 3 * x.wt + 2 := by
  have hw := Ex.wt_eq x
  have j1 := joinTo_len 32 x.kids h x.kids.length (Nat.le_refl _)
  have j2 := joinTo_len 124 x.kids h x.kids.length (Nat.le_refl _)
  rw [List.take_length] at j1 j2
  rw [Ex.str_eq, exStr]
  split
  · simp; omega
  · split
    · simp; omega
    · split
      · simp; omega
      · split
        · split
          · rename_i hl
            simp only [List.length_map] at hl
            have h1 := h (x.kids[0]'(by omega)) (List.getElem_mem _)
            have h2 : x.kids.take 1 = x.kids := List.take_of_length_le (by omega)
            have h3 := Ex.wtL_take (xs := x.kids) (k := 0) (by omega)
            rw [Nat.zero_add, h2] at h3
            simp only [List.take_zero, Ex.wtL] at h3
            simp [show 0 < x.kids.length by omega]
            omega
          · simp
        · simp
theorem Ex.str_len : ∀ (N : Nat) (x : Ex), x.nodes ≤ N → x.str.length ≤ 3 * x.wt + 2 := by
  intro N
  induction N with
  | zero => intro x hx; have := Ex.nodes_eq x; omega
  | succ N ih =>
    intro x hx
    refine exStr_len x (fun y hy => ih y ?_)
    obtain ⟨i, hi, rfl⟩ := List.getElem_of_mem hy
    have h1 := Ex.nodes_le hi
    have h2 := Ex.nodes_eq x
    omega
theorem Ex.str_le (x : Ex) : x.str.length ≤ 3 * x.wt + 2 := Ex.str_len x.nodes x (Nat.le_refl _)
theorem joinTo_le (sep : UInt8) (xs : List Ex) (k : Nat) (hk : k ≤ xs.length) : (joinTo sep (xs.map Ex.str) k).length ≤ 3 * Ex.wtL xs := by
  have h1 := joinTo_len sep xs (fun x _ => x.str_le) k hk
  have h : Ex.wtL xs = Ex.wtL (xs.take k) + Ex.wtL (xs.drop k) := by rw [← Ex.wtL_append, List.take_append_drop]
  omega
theorem joinTo_first {sep : UInt8} {xs : List Ex} (h : 0 < xs.length) : joinTo sep (xs.map Ex.str) (0 + 1) = xs[0].str := by simp [joinTo, h]
theorem joinTo_next {sep : UInt8} {xs : List Ex} {k : Nat} (h : k < xs.length) (hk : k ≠ 0) : joinTo sep (xs.map Ex.str) (k + 1) = (joinTo sep (xs.map Ex.str) k ++ [sep]) ++ xs[k].str := by simp [joinTo, h, hk]

theorem str_text {x : Ex} (h : x.kind = 0 ∨ x.kind = 1) : x.str = x.text.data.toList := by rw [Ex.str_eq, exStr, if_pos h]
theorem str_seq {x : Ex} (h : x.kind = 2) : x.str = [40] ++ joinTo 32 (x.kids.map Ex.str) x.kids.length ++ [41] := by rw [Ex.str_eq, exStr, if_neg (by omega), if_pos h, List.length_map]
theorem str_alt {x : Ex} (h : x.kind = 3) : x.str = [40] ++ joinTo 124 (x.kids.map Ex.str) x.kids.length ++ [41] := by rw [Ex.str_eq, exStr, if_neg (by omega), if_neg (by omega), if_pos h, List.length_map]
theorem str_rep {x : Ex} (h : x.kind = 4 ∨ x.kind = 5 ∨ x.kind = 6) (h1 : x.kids.length = 1) (h0 : 0 < x.kids.length) : x.str = (x.kids[0]'h0).str ++ [if x.kind = 4 then 63 else if x.kind = 5 then 42 else 43] := by
  rw [Ex.str_eq, exStr, if_neg (by omega), if_neg (by omega), if_neg (by omega), if_pos h, if_pos (by simpa using h1)]
  simp [h0]
theorem str_none {x : Ex} (h : ¬ (0 ≤ x.kind ∧ x.kind ≤ 6) ∨ ((x.kind = 4 ∨ x.kind = 5 ∨ x.kind = 6) ∧ x.kids.length ≠ 1)) : x.str = [] := by
  rw [Ex.str_eq, exStr, if_neg (by omega), if_neg (by omega), if_neg (by omega)]
  by_cases h2 : x.kind = 4 ∨ x.kind = 5 ∨ x.kind = 6
  · rw [if_pos h2, if_neg (by simp; omega)]
  · rw [if_neg h2]

/-- A text out of bytes. -/
def strOfB (l : List UInt8) : Value := .string ⟨l.toArray⟩
theorem ret_str {l m : List UInt8} (h : l = m) : Ending.returned (.string ⟨l.toArray⟩) = .returned (strOfB m) := by rw [h]; rfl
end Go.Proofs.Ytkbnafmkgiknbac
