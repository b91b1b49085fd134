/-
  The sets of what the parts can begin with, grown turn by turn. Plain mathematics. No statement is proved here.
-/
import Derived.Test.YtdniejpblhbjkabFirstsMath
namespace Go.Proofs.Ytdniejpblhbjkab
open Go.RowKit

/-- One alternative's part of a turn. -/
def fiS (E : List Int) (k : Nat) (row : List Int) (M : List (List Int)) : List (List Int) := M.set k (joinL (M.getD k []) (rowF M E [] row))
def fiI (E : List Int) (k : Nat) (Q : List (List Int)) (M : List (List Int)) : Nat → List (List Int)
  | 0 => M
  | i + 1 => fiS E k (Q.getD i []) (fiI E k Q M i)
def fiK (E : List Int) (P : List (List (List Int))) (M : List (List Int)) : Nat → List (List Int)
  | 0 => M
  | k + 1 => fiI E k (P.getD k []) (fiK E P M k) (P.getD k []).length
def fiT (E : List Int) (P : List (List (List Int))) : Nat → List (List Int)
  | 0 => List.replicate P.length []
  | t + 1 => fiK E P (fiT E P t) P.length
/-- So many sets of letters. -/
def Sets (n : Nat) (M : List (List Int)) : Prop := M.length = n ∧ ∀ m ∈ M, SetB 27 m
theorem Sets.get {n k : Nat} {M : List (List Int)} (h : Sets n M) : SetB 27 (M.getD k []) := by
  by_cases hk : k < M.length
  · have e : M.getD k [] = M[k] := by simp [List.getD, hk]
    rw [e]; exact h.2 _ (List.getElem_mem _)
  · have e : M.getD k [] = [] := by rw [List.getD_eq_getElem?_getD, List.getElem?_eq_none (by omega)]; rfl
    rw [e]; exact SetB.nil _
theorem Sets.set {n k : Nat} {M : List (List Int)} {m : List Int} (h : Sets n M) (hm : SetB 27 m) : Sets n (M.set k m) := by
  refine ⟨by rw [List.length_set]; exact h.1, fun x hx => ?_⟩
  rcases List.mem_or_eq_of_mem_set hx with hx | rfl
  · exact h.2 x hx
  · exact hm
theorem fiS_sets {E : List Int} {k n : Nat} {row : List Int} {M : List (List Int)} (h : Sets n M) : Sets n (fiS E k row M) := h.set (h.get.join (rowF_setB h.2 (SetB.nil _)))
theorem fiI_sets {E : List Int} {k n : Nat} {Q : List (List Int)} {M : List (List Int)} (h : Sets n M) : ∀ i, Sets n (fiI E k Q M i)
  | 0 => h
  | i + 1 => fiS_sets (fiI_sets h i)
theorem fiK_sets {E : List Int} {n : Nat} {P : List (List (List Int))} {M : List (List Int)} (h : Sets n M) : ∀ k, Sets n (fiK E P M k)
  | 0 => h
  | k + 1 => fiI_sets (fiK_sets h k) _
theorem fiT_sets (E : List Int) (P : List (List (List Int))) : ∀ t, Sets P.length (fiT E P t)
  | 0 => ⟨by simp [fiT], fun m hm => by rw [(List.mem_replicate.1 hm).2]; exact SetB.nil _⟩
  | t + 1 => fiK_sets (fiT_sets E P t) _
theorem fiI_next {E : List Int} {k i : Nat} {Q M : List (List Int)} (h : i < Q.length) : fiI E k Q M (i + 1) = fiS E k Q[i] (fiI E k Q M i) := by
  have e : Q.getD i [] = Q[i] := by simp [List.getD, h]
  rw [fiI, e]
theorem fiK_next {E : List Int} {k : Nat} {P : List (List (List Int))} {M : List (List Int)} (h : k < P.length) : fiK E P M (k + 1) = fiI E k P[k] (fiK E P M k) P[k].length := by
  have e : P.getD k [] = P[k] := by simp [List.getD, h]
  rw [fiK, e]
theorem fiS_at {E : List Int} {k : Nat} {row : List Int} {M : List (List Int)} (h : k < M.length) : fiS E k row M = M.set k (joinL M[k] (rowF M E [] row)) := by
  have e : M.getD k [] = M[k] := by simp [List.getD, h]
  rw [fiS, e]
def firstsL (P : List (List (List Int))) : List (List Int) := fiT (emptiesL P) P (P.length + 1)
end Go.Proofs.Ytdniejpblhbjkab
