/-
  The text of a grammar. Plain mathematics. No statement is proved here.
-/
import Derived.Test.YtghpekijimoicaaDoorRowMath
namespace Go.Proofs.YtghpekijimoicaaDoor
open Go.RowKit

/-- An alternative's text, a blank ahead of each symbol. -/
def altText (row : List Int) : List UInt8 := if row.length = 0 then [] else 32 :: rowText row
def altsTo (alts : List (List Int)) : Nat → List UInt8
  | 0 => []
  | i + 1 => (altsTo alts i ++ (if i = 0 then [] else [32, 124])) ++ altText (alts.getD i [])
def partText (k : Nat) (alts : List (List Int)) : List UInt8 := (80 :: Lib.itoa (k : Int) ++ [32, 61]) ++ (altsTo alts alts.length ++ [10])
def partsTo (P : List (List (List Int))) : Nat → List UInt8
  | 0 => []
  | k + 1 => partsTo P k ++ partText k (P.getD k [])
def gramText (P : List (List (List Int))) : List UInt8 := if gramOkB P then partsTo P P.length else []

/-- What is known of the sizes of a right grammar. -/
structure Fits (P : List (List (List Int))) : Prop where
  parts : P.length ≤ 20
  alts : ∀ alts ∈ P, alts.length ≤ 8
  rows : ∀ alts ∈ P, ∀ row ∈ alts, row.length ≤ 8
  syms : ∀ alts ∈ P, ∀ row ∈ alts, ∀ z ∈ row, 0 ≤ z ∧ z < 120
theorem Fits.of {P : List (List (List Int))} (h : gramOkB P = true) : Fits P := by
  simp only [gramOkB, Bool.and_eq_true, inB_true, List.all_eq_true, partOk, rowOk, decide_eq_true_eq] at h
  obtain ⟨hp, ha⟩ := h
  refine ⟨by omega, fun alts h1 => ?_, fun alts h1 row h2 => ((ha alts h1).2 row h2).1, fun alts h1 row h2 z h3 => ?_⟩
  · have := (ha alts h1).1; omega
  · have := symOk_true.1 (((ha alts h1).2 row h2).2 z h3); omega
theorem rowText_le8 {row : List Int} (h : row.length ≤ 8) (hz : ∀ z ∈ row, 0 ≤ z ∧ z < 120) : (rowText row).length ≤ 176 := by
  have := rowTo_le (zs := row) (fun z hz' => by have := hz z hz'; omega) row.length (Nat.le_refl _)
  unfold rowText; omega
theorem altText_le {row : List Int} (h : row.length ≤ 8) (hz : ∀ z ∈ row, 0 ≤ z ∧ z < 120) : (altText row).length ≤ 177 := by
  unfold altText
  have := rowText_le8 h hz
  split
  · simp
  · simp; omega
theorem altsTo_le {alts : List (List Int)} (h : ∀ row ∈ alts, row.length ≤ 8) (hz : ∀ row ∈ alts, ∀ z ∈ row, 0 ≤ z ∧ z < 120) (i : Nat) (hi : i ≤ alts.length) : (altsTo alts i).length ≤ 180 * i := by
  induction i with
  | zero => simp [altsTo]
  | succ i ih =>
    have h1 := ih (by omega)
    have e : alts.getD i [] = alts[i] := by simp [List.getD, show i < alts.length by omega]
    have h2 := altText_le (h alts[i] (List.getElem_mem _)) (hz alts[i] (List.getElem_mem _))
    simp only [altsTo, List.length_append, e]
    split <;> simp <;> omega
theorem partText_le {k : Nat} (hk : k ≤ 20) {alts : List (List Int)} (h8 : alts.length ≤ 8) (h : ∀ row ∈ alts, row.length ≤ 8) (hz : ∀ row ∈ alts, ∀ z ∈ row, 0 ≤ z ∧ z < 120) : (partText k alts).length ≤ 1500 := by
  have h1 := altsTo_le h hz alts.length (Nat.le_refl _)
  have h2 := itoa_le (n := (k : Int)) (by omega) (by omega)
  simp only [partText, List.length_append, List.length_cons, List.length_nil]
  omega
theorem partsTo_le {P : List (List (List Int))} (F : Fits P) (k : Nat) (hk : k ≤ P.length) : (partsTo P k).length ≤ 1500 * k := by
  induction k with
  | zero => simp [partsTo]
  | succ k ih =>
    have h1 := ih (by omega)
    have e : P.getD k [] = P[k] := by simp [List.getD, show k < P.length by omega]
    have hm := List.getElem_mem (l := P) (show k < P.length by omega)
    have h2 := partText_le (k := k) (by have := F.parts; omega) (F.alts _ hm) (F.rows _ hm) (F.syms _ hm)
    simp only [partsTo, List.length_append, e]
    omega
theorem partsTo_next {P : List (List (List Int))} {k : Nat} (h : k < P.length) : partsTo P (k + 1) = partsTo P k ++ partText k P[k] := by simp [partsTo, h]
theorem altsTo_first {alts : List (List Int)} (h : 0 < alts.length) : altsTo alts (0 + 1) = altText alts[0] := by simp [altsTo, h]
theorem altsTo_next {alts : List (List Int)} {i : Nat} (h : i < alts.length) (hi : i ≠ 0) : altsTo alts (i + 1) = (altsTo alts i ++ [32, 124]) ++ altText alts[i] := by simp [altsTo, h, hi]
theorem altText_nil {row : List Int} (h : row.length = 0) : altText row = [] := by simp [altText, h]
theorem altText_some {row : List Int} (h : row.length ≠ 0) : altText row = 32 :: rowText row := by simp [altText, h]
end Go.Proofs.YtghpekijimoicaaDoor
