/-
  What may be nothing, what is productive: sets of parts grown turn by turn. Plain mathematics. No statement is proved here.
-/
import Derived.Test.YtdniejpblhbjkabGramTextMath
namespace Go.Proofs.Ytdniejpblhbjkab
open Go.RowKit

/-- All symbols of the row are of those parts. -/
def allE (row E : List Int) : Bool := row.all fun x => decide (100 ≤ x) && hasL E (x - 100)
/-- All parts of the row are those. -/
def aliveE (row E : List Int) : Bool := row.all fun x => !decide (100 ≤ x) || hasL E (x - 100)

section
variable (p : List Int → List Int → Bool)
/-- Part k is put in for each of the first i alternatives that p lets. -/
def growI (k : Nat) (Q : List (List Int)) (E : List Int) : Nat → List Int
  | 0 => E
  | i + 1 => if p (Q.getD i []) (growI k Q E i) then addL (growI k Q E i) k else growI k Q E i
def growK (P : List (List (List Int))) (E : List Int) : Nat → List Int
  | 0 => E
  | k + 1 => growI p k (P.getD k []) (growK P E k) (P.getD k []).length
def growT (P : List (List (List Int))) : Nat → List Int
  | 0 => []
  | t + 1 => growK p P (growT P t) P.length
theorem growI_yes {k i : Nat} {Q : List (List Int)} {E : List Int} (h : i < Q.length) (g : p Q[i] (growI p k Q E i) = true) : growI p k Q E (i + 1) = addL (growI p k Q E i) k := by
  have e : Q.getD i [] = Q[i] := by simp [List.getD, h]
  rw [growI, e, if_pos g]
theorem growI_no {k i : Nat} {Q : List (List Int)} {E : List Int} (h : i < Q.length) (g : p Q[i] (growI p k Q E i) = false) : growI p k Q E (i + 1) = growI p k Q E i := by
  have e : Q.getD i [] = Q[i] := by simp [List.getD, h]
  rw [growI, e, if_neg (by simp [g])]
theorem growK_next {P : List (List (List Int))} {E : List Int} {k : Nat} (h : k < P.length) : growK p P E (k + 1) = growI p k P[k] (growK p P E k) P[k].length := by
  have e : P.getD k [] = P[k] := by simp [List.getD, h]
  rw [growK, e]
theorem growI_le (k : Nat) (Q : List (List Int)) (E : List Int) (i : Nat) : (growI p k Q E i).length ≤ E.length + i := by
  induction i with
  | zero => simp [growI]
  | succ i ih =>
    rw [growI]
    split
    · have := addL_length_le (growI p k Q E i) k; omega
    · omega
theorem growK_le {P : List (List (List Int))} (h8 : ∀ alts ∈ P, alts.length ≤ 8) (E : List Int) (k : Nat) (hk : k ≤ P.length) : (growK p P E k).length ≤ E.length + 8 * k := by
  induction k with
  | zero => simp [growK]
  | succ k ih =>
    have h1 := ih (by omega)
    have h2 := growI_le p k (P.getD k []) (growK p P E k) (P.getD k []).length
    have e : P.getD k [] = P[k] := by simp [List.getD, show k < P.length by omega]
    have h3 := h8 P[k] (List.getElem_mem _)
    rw [growK]; rw [e] at h2 ⊢; omega
theorem growT_le {P : List (List (List Int))} (hp : P.length ≤ 20) (h8 : ∀ alts ∈ P, alts.length ≤ 8) (t : Nat) : (growT p P t).length ≤ 160 * t := by
  induction t with
  | zero => simp [growT]
  | succ t ih =>
    have h2 := growK_le p h8 (growT p P t) P.length (Nat.le_refl _)
    rw [growT]; omega
end
/-- The parts that can become nothing; those that can become letters. -/
def emptiesL (P : List (List (List Int))) : List Int := growT allE P (P.length + 1)
def aliveL (P : List (List (List Int))) : List Int := growT aliveE P (P.length + 1)
theorem emptiesL_le {P : List (List (List Int))} (F : Fits P) : (emptiesL P).length ≤ 3360 := by
  have h1 := F.parts
  have h2 := growT_le allE F.parts F.alts (P.length + 1)
  have h3 : 160 * (P.length + 1) ≤ 3360 := by omega
  exact Nat.le_trans h2 h3
theorem aliveL_le {P : List (List (List Int))} (F : Fits P) : (aliveL P).length ≤ 3360 := by
  have h1 := F.parts
  have h2 := growT_le aliveE F.parts F.alts (P.length + 1)
  have h3 : 160 * (P.length + 1) ≤ 3360 := by omega
  exact Nat.le_trans h2 h3
/-- What Reachable grows: the parts of a row; of all rows of a part; of all parts that are there. -/
def reachJ (R : List Int) (E : List Int) : Nat → List Int
  | 0 => E
  | j + 1 => if 100 ≤ R.getD j 0 then addL (reachJ R E j) (R.getD j 0 - 100) else reachJ R E j
def reachI (Q : List (List Int)) (E : List Int) : Nat → List Int
  | 0 => E
  | i + 1 => reachJ (Q.getD i []) (reachI Q E i) (Q.getD i []).length
def reachK (P : List (List (List Int))) (E : List Int) : Nat → List Int
  | 0 => E
  | k + 1 => if hasL (reachK P E k) k then reachI (P.getD k []) (reachK P E k) (P.getD k []).length else reachK P E k
def reachT (P : List (List (List Int))) : Nat → List Int
  | 0 => [0]
  | t + 1 => reachK P (reachT P t) P.length
def reachL (P : List (List (List Int))) : List Int := reachT P (P.length + 1)
theorem reachJ_yes {R E : List Int} {j : Nat} (h : j < R.length) (g : 100 ≤ R[j]) : reachJ R E (j + 1) = addL (reachJ R E j) (R[j] - 100) := by
  have e : R.getD j 0 = R[j] := by simp [List.getD, h]
  rw [reachJ, e, if_pos g]
theorem reachJ_no {R E : List Int} {j : Nat} (h : j < R.length) (g : ¬ 100 ≤ R[j]) : reachJ R E (j + 1) = reachJ R E j := by
  have e : R.getD j 0 = R[j] := by simp [List.getD, h]
  rw [reachJ, e, if_neg g]
theorem reachI_next {Q : List (List Int)} {E : List Int} {i : Nat} (h : i < Q.length) : reachI Q E (i + 1) = reachJ Q[i] (reachI Q E i) Q[i].length := by
  have e : Q.getD i [] = Q[i] := by simp [List.getD, h]
  rw [reachI, e]
theorem reachK_yes {P : List (List (List Int))} {E : List Int} {k : Nat} (h : k < P.length) (g : hasL (reachK P E k) k = true) : reachK P E (k + 1) = reachI P[k] (reachK P E k) P[k].length := by
  have e : P.getD k [] = P[k] := by simp [List.getD, h]
  rw [reachK, e, if_pos g]
theorem reachK_no {P : List (List (List Int))} {E : List Int} {k : Nat} (g : hasL (reachK P E k) k = false) : reachK P E (k + 1) = reachK P E k := by
  rw [reachK, if_neg (by simp [g])]
theorem reachJ_le (R E : List Int) (j : Nat) : (reachJ R E j).length ≤ E.length + j := by
  induction j with
  | zero => simp [reachJ]
  | succ j ih =>
    rw [reachJ]
    split
    · have := addL_length_le (reachJ R E j) (R.getD j 0 - 100); omega
    · omega
theorem reachI_le {Q : List (List Int)} (h8 : ∀ row ∈ Q, row.length ≤ 8) (E : List Int) (i : Nat) (hi : i ≤ Q.length) : (reachI Q E i).length ≤ E.length + 8 * i := by
  induction i with
  | zero => simp [reachI]
  | succ i ih =>
    have h1 := ih (by omega)
    have h2 := reachJ_le (Q.getD i []) (reachI Q E i) (Q.getD i []).length
    have e : Q.getD i [] = Q[i] := by simp [List.getD, show i < Q.length by omega]
    have h3 := h8 Q[i] (List.getElem_mem _)
    rw [reachI]; rw [e] at h2 ⊢; omega
theorem reachK_le {P : List (List (List Int))} (F : Fits P) (E : List Int) (k : Nat) (hk : k ≤ P.length) : (reachK P E k).length ≤ E.length + 64 * k := by
  induction k with
  | zero => simp [reachK]
  | succ k ih =>
    have h1 := ih (by omega)
    have e : P.getD k [] = P[k] := by simp [List.getD, show k < P.length by omega]
    have hm := List.getElem_mem (l := P) (show k < P.length by omega)
    have h2 := reachI_le (F.rows _ hm) (reachK P E k) P[k].length (Nat.le_refl _)
    have h3 := F.alts _ hm
    rw [reachK]
    split
    · rw [e]; omega
    · omega
theorem reachT_le {P : List (List (List Int))} (F : Fits P) (t : Nat) : (reachT P t).length ≤ 1 + 1280 * t := by
  induction t with
  | zero => simp [reachT]
  | succ t ih =>
    have h2 := reachK_le F (reachT P t) P.length (Nat.le_refl _)
    have := F.parts
    rw [reachT]; omega
theorem reachL_le {P : List (List (List Int))} (F : Fits P) : (reachL P).length ≤ 26881 := by
  have h1 := F.parts
  have h2 := reachT_le F (P.length + 1)
  have h3 : 1 + 1280 * (P.length + 1) ≤ 26881 := by omega
  exact Nat.le_trans h2 h3
end Go.Proofs.Ytdniejpblhbjkab
