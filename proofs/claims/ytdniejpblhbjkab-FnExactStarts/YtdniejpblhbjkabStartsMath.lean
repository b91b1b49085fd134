/-
  The parts with which parts can begin, grown turn by turn. Plain mathematics. No statement is proved here.
-/
import Derived.Test.YtdniejpblhbjkabFirstsMath2
namespace Go.Proofs.Ytdniejpblhbjkab
open Go.RowKit

/-- One symbol's part of a turn. -/
def stS (k : Nat) (x : Int) (M : List (List Int)) : List (List Int) := M.set k (joinL (addL (M.getD k []) (x - 100)) (M.getD (x - 100).toNat []))
def stRow (E : List Int) (k : Nat) : List (List Int) → List Int → List (List Int)
  | M, [] => M
  | M, x :: xs => if 100 ≤ x then (if hasL E (x - 100) then stRow E k (stS k x M) xs else stS k x M) else M
def stI (E : List Int) (k : Nat) (Q : List (List Int)) (M : List (List Int)) : Nat → List (List Int)
  | 0 => M
  | i + 1 => stRow E k (stI E k Q M i) (Q.getD i [])
def stK (E : List Int) (P : List (List (List Int))) (M : List (List Int)) : Nat → List (List Int)
  | 0 => M
  | k + 1 => stI E k (P.getD k []) (stK E P M k) (P.getD k []).length
def stT (E : List Int) (P : List (List (List Int))) : Nat → List (List Int)
  | 0 => List.replicate P.length []
  | t + 1 => stK E P (stT E P t) P.length
theorem stRow_end {E : List Int} {k j : Nat} {M : List (List Int)} {R : List Int} (h : ¬ j < R.length) : stRow E k M (R.drop j) = M := by rw [List.drop_eq_nil_of_le (by omega), stRow]
theorem stRow_letter {E : List Int} {k j : Nat} {M : List (List Int)} {R : List Int} (h : j < R.length) (g : ¬ 100 ≤ R[j]) : stRow E k M (R.drop j) = M := by rw [List.drop_eq_getElem_cons h, stRow, if_neg g]
theorem stRow_go {E : List Int} {k j : Nat} {M : List (List Int)} {R : List Int} (h : j < R.length) (g : 100 ≤ R[j]) (g2 : hasL E (R[j] - 100) = true) : stRow E k M (R.drop j) = stRow E k (stS k R[j] M) (R.drop (j + 1)) := by rw [List.drop_eq_getElem_cons h, stRow, if_pos g, if_pos g2]
theorem stRow_stop {E : List Int} {k j : Nat} {M : List (List Int)} {R : List Int} (h : j < R.length) (g : 100 ≤ R[j]) (g2 : hasL E (R[j] - 100) = false) : stRow E k M (R.drop j) = stS k R[j] M := by rw [List.drop_eq_getElem_cons h, stRow, if_pos g, if_neg (by simp [g2])]
theorem stS_sets {k n : Nat} {x : Int} {M : List (List Int)} (h : Sets n M) (h0 : 100 ≤ x) (h1 : x < 120) : Sets n (stS k x M) := h.set ((h.get.add (by omega) (by omega)).join h.get)
theorem stRow_sets {E : List Int} {k n : Nat} : ∀ {R : List Int} {M : List (List Int)}, Sets n M → (∀ z ∈ R, 0 ≤ z ∧ z < 120) → Sets n (stRow E k M R)
  | [], M, h, _ => by rw [stRow]; exact h
  | x :: xs, M, h, hz => by
    rw [stRow]
    split
    · have hx := hz x List.mem_cons_self
      have hs := stS_sets (k := k) h ‹_› hx.2
      split
      · exact stRow_sets hs (fun z hz2 => hz z (List.mem_cons_of_mem _ hz2))
      · exact hs
    · exact h
theorem stI_next {E : List Int} {k i : Nat} {Q M : List (List Int)} (h : i < Q.length) : stI E k Q M (i + 1) = stRow E k (stI E k Q M i) Q[i] := by
  have e : Q.getD i [] = Q[i] := by simp [List.getD, h]
  rw [stI, e]
theorem stK_next {E : List Int} {k : Nat} {P : List (List (List Int))} {M : List (List Int)} (h : k < P.length) : stK E P M (k + 1) = stI E k P[k] (stK E P M k) P[k].length := by
  have e : P.getD k [] = P[k] := by simp [List.getD, h]
  rw [stK, e]
theorem stI_sets {E : List Int} {k n : Nat} {Q : List (List Int)} {M : List (List Int)} (h : Sets n M) (hq : ∀ row ∈ Q, ∀ z ∈ row, 0 ≤ z ∧ z < 120) (i : Nat) (hi : i ≤ Q.length) : Sets n (stI E k Q M i) := by
  induction i with
  | zero => exact h
  | succ i ih => rw [stI_next (by omega)]; exact stRow_sets (ih (by omega)) (hq _ (List.getElem_mem _))
theorem stK_sets {E : List Int} {n : Nat} {P : List (List (List Int))} {M : List (List Int)} (h : Sets n M) (F : Fits P) (k : Nat) (hk : k ≤ P.length) : Sets n (stK E P M k) := by
  induction k with
  | zero => exact h
  | succ k ih => rw [stK_next (by omega)]; exact stI_sets (ih (by omega)) (F.syms _ (List.getElem_mem _)) _ (Nat.le_refl _)
theorem stT_sets (E : List Int) {P : List (List (List Int))} (F : Fits P) : ∀ t, Sets P.length (stT E P t)
  | 0 => ⟨by simp [stT], fun m hm => by rw [(List.mem_replicate.1 hm).2]; exact SetB.nil _⟩
  | t + 1 => stK_sets (stT_sets E F t) F _ (Nat.le_refl _)
theorem stS_at {k n : Nat} {x : Int} {M : List (List Int)} (hk : k < M.length) (hx : x - 100 = (n : Int)) (hn : n < M.length) : stS k x M = M.set k (joinL (addL M[k] (n : Int)) M[n]) := by
  have e1 : M.getD k [] = M[k] := by simp [List.getD, hk]
  have e2 : M.getD (x - 100).toNat [] = M[n] := by rw [hx]; simp [List.getD, hn]
  rw [stS, e1, e2, hx]
def startsL (P : List (List (List Int))) : List (List Int) := stT (emptiesL P) P (P.length + 1)
end Go.Proofs.Ytdniejpblhbjkab
