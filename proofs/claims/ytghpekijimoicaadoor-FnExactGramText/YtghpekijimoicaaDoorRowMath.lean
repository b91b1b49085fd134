/-
  The text of a row of symbols. Plain mathematics. No statement is proved here.
-/
import Derived.Test.YtghpekijimoicaaDoorGramMath
import Derived.Test.YtghpekijimoicaaDoorDecMath
namespace Go.Proofs.YtghpekijimoicaaDoor
open Go.RowKit

/-- A symbol's text. -/
def symText (x : Int) : List UInt8 := if inB x 0 25 then [UInt8.ofNat (97 + x.toNat)] else if 100 ≤ x then 80 :: Lib.itoa (x - 100) else [63]
theorem symText_letter {x : Int} (h : inB x 0 25 = true) : symText x = [UInt8.ofNat (97 + x.toNat)] := by rw [symText, if_pos h]
theorem symText_part {x : Int} (h : 100 ≤ x) : symText x = 80 :: Lib.itoa (x - 100) := by
  rw [symText, if_neg (by rw [inB_true]; omega), if_pos h]
theorem symText_none {x : Int} (h : inB x 0 25 = false) (g : x < 100) : symText x = [63] := by
  rw [symText, if_neg (by rw [h]; decide), if_neg (by omega)]
theorem itoa_le {n : Int} (h0 : 0 ≤ n) (h1 : n ≤ 9223372036854775807) : (Lib.itoa n).length ≤ 20 := by
  obtain ⟨N, rfl⟩ := Int.eq_ofNat_of_zero_le h0
  have : Lib.itoa (N : Int) = Lib.decDigits N := by rw [Lib.itoa, if_neg (by omega)]; congr 1
  rw [this]; exact decDigits_le (by omega)
theorem symText_le {x : Int} (h1 : x ≤ 9223372036854775807) : (symText x).length ≤ 21 := by
  unfold symText
  split
  · simp
  · split
    · have := itoa_le (n := x - 100) (by omega) (by omega); simp; omega
    · simp
theorem letter_byte {x : Int} (h : inB x 0 25 = true) : (97 + x) = ((UInt8.ofNat (97 + x.toNat)).toNat : Int) := by
  have := inB_true.1 h
  rw [UInt8.toNat_ofNat']
  have : (97 + x.toNat) % 2 ^ 8 = 97 + x.toNat := Nat.mod_eq_of_lt (by omega)
  rw [this]; omega
/-- The text of the first k symbols, a blank between. -/
def rowTo (zs : List Int) : Nat → List UInt8
  | 0 => []
  | k + 1 => (if k = 0 then [] else rowTo zs k ++ [32]) ++ symText (zs.getD k 0)
def rowText (zs : List Int) : List UInt8 := rowTo zs zs.length
theorem rowTo_le {zs : List Int} (hz : ∀ z ∈ zs, z ≤ 9223372036854775807) (k : Nat) (hk : k ≤ zs.length) : (rowTo zs k).length ≤ 22 * k := by
  induction k with
  | zero => simp [rowTo]
  | succ k ih =>
    have := ih (by omega)
    have h2 := symText_le (hz (zs.getD k 0) (by rw [List.getD_eq_getElem?_getD, List.getElem?_eq_getElem (by omega)]; exact List.getElem_mem _))
    simp only [rowTo, List.length_append]
    generalize symText (zs.getD k 0) = t at *
    split <;> simp <;> omega
theorem rowTo_first {zs : List Int} (h : 0 < zs.length) : rowTo zs (0 + 1) = symText zs[0] := by simp [rowTo, h]
theorem rowTo_next {zs : List Int} {k : Nat} (h : k < zs.length) (hk : k ≠ 0) : rowTo zs (k + 1) = (rowTo zs k ++ [32]) ++ symText zs[k] := by simp [rowTo, hk, h]
end Go.Proofs.YtghpekijimoicaaDoor
