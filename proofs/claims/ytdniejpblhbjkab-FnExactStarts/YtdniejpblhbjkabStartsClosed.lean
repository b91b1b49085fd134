/-
  The sets of the parts with which parts can begin are closed, sound and ascending. Plain mathematics. No statement is proved here.
-/
import Derived.Test.YtdniejpblhbjkabFirstsClosed
import Derived.Test.YtdniejpblhbjkabStartsMath
namespace Go.Proofs.Ytdniejpblhbjkab
open Go.RowKit

/-- The parts at the front of a row: all ahead of which only what can be nothing stands. -/
def lead (E : List Int) : List Int → List Int
  | [] => []
  | x :: xs => if 100 ≤ x then x :: (if hasL E (x - 100) then lead E xs else []) else []
theorem stRow_fold (E : List Int) (k : Nat) : ∀ (row : List Int) (M : List (List Int)), stRow E k M row = (lead E row).foldl (fun M x => stS k x M) M
  | [], M => by simp [stRow, lead]
  | x :: xs, M => by
    rw [stRow, lead]
    split
    · rw [List.foldl_cons]
      split
      · exact stRow_fold E k xs _
      · rfl
    · rfl
def leads (E : List Int) (L : List (Nat × List Int)) : List (Nat × Int) := L.flatMap fun s => (lead E s.2).map fun x => (s.1, x)
theorem stI_fold (E : List Int) (k : Nat) (Q M : List (List Int)) (i : Nat) (hi : i ≤ Q.length) : stI E k Q M i = (leads E ((Q.take i).map fun row => (k, row))).foldl (fun M s => stS s.1 s.2 M) M := by
  induction i with
  | zero => simp [stI, leads]
  | succ i ih =>
    have e : leads E (((Q.take i).map fun row => (k, row)) ++ [(k, Q[i])]) = leads E ((Q.take i).map fun row => (k, row)) ++ (lead E Q[i]).map (fun x => (k, x)) := by simp [leads]
    rw [stI_next (by omega), ih (by omega), List.take_succ_eq_append_getElem (by omega), List.map_append, List.map_singleton, e, List.foldl_append, stRow_fold, List.foldl_map]
theorem stK_fold (E : List Int) (P : List (List (List Int))) (M : List (List Int)) (k : Nat) : stK E P M k = (leads E (flatP P k)).foldl (fun M s => stS s.1 s.2 M) M := by
  induction k with
  | zero => rfl
  | succ k ih =>
    rw [stK, flatP, leads, List.flatMap_append, List.foldl_append]
    have e := stI_fold E k (P.getD k []) (stK E P M k) (P.getD k []).length (Nat.le_refl _)
    rw [List.take_length] at e
    rw [e, ih]; rfl
theorem proj_stS (c : Int) (k : Nat) (x : Int) (M : List (List Int)) : proj c (stS k x M) = bstep (proj c M) (k, fun b => decide (c = x - 100) || b.getD (x - 100).toNat false) := by
  rw [stS, proj_set, hasL_joinL, hasL_addL, bstep, proj_getD]
  simp only [proj_getD]
  congr 1
  cases hasL (M.getD k []) c <;> cases decide (c = x - 100) <;> simp
theorem proj_foldS (c : Int) (L : List (Nat × Int)) (M : List (List Int)) : proj c (L.foldl (fun M s => stS s.1 s.2 M) M) = bturn (L.map fun s => (s.1, fun b => decide (c = s.2 - 100) || b.getD (s.2 - 100).toNat false)) (proj c M) := by
  unfold bturn
  induction L generalizing M with
  | nil => rfl
  | cons s L ih => rw [List.foldl_cons, ih, List.map_cons, List.foldl_cons, proj_stS]
theorem stT_length (E : List Int) (P : List (List (List Int))) (t : Nat) : (stT E P t).length = P.length := by
  have len : ∀ (L : List (Nat × Int)) (M : List (List Int)), (L.foldl (fun M s => stS s.1 s.2 M) M).length = M.length := by
    intro L
    induction L with
    | nil => intro M; rfl
    | cons s L ih => intro M; rw [List.foldl_cons, ih, stS, List.length_set]
  induction t with
  | zero => simp [stT]
  | succ t ih => rw [stT, stK_fold, len, ih]
/-- A part at the front of a row of part k, and what that begins with, k begins with. -/
theorem stT_closed {E : List Int} {P : List (List (List Int))} {k i : Nat} (hk : k < P.length) (hi : i < P[k].length) {x : Int} (hx : x ∈ lead E P[k][i]) {c : Int} (hc : c = x - 100 ∨ c ∈ (stT E P (P.length + 1)).getD (x - 100).toNat []) : c ∈ (stT E P (P.length + 1)).getD k [] := by
  have hl := stT_length E P (P.length + 1)
  have h := bturns_closed (L := (leads E (flatP P P.length)).map fun s => (s.1, fun b => decide (c = s.2 - 100) || b.getD (s.2 - 100).toNat false)) (f := fun t => proj c (stT E P t)) (fun t => by show proj c (stT E P (t + 1)) = _; rw [stT, stK_fold, proj_foldS]) (N := P.length) (T := P.length + 1)
    (by show (proj c (stT E P 0)).length ≤ _; rw [proj_length, stT_length]; exact Nat.le_refl _) (Nat.le_refl _) (s := (k, fun b => decide (c = x - 100) || b.getD (x - 100).toNat false))
    (List.mem_map.2 ⟨(k, x), List.mem_flatMap.2 ⟨_, mem_flatP hk hi hk, List.mem_map.2 ⟨x, hx, rfl⟩⟩, rfl⟩)
    (by show k < (proj c _).length; rw [proj_length, hl]; exact hk)
    (by
      show (decide (c = x - 100) || (proj c (stT E P (P.length + 1))).getD (x - 100).toNat false) = true
      rw [proj_getD, Bool.or_eq_true]
      exact hc.imp (fun h => by simpa using h) (fun h => hasL_yes h))
  have e := proj_getD c (stT E P (P.length + 1)) k
  rw [List.getD_eq_getElem?_getD, List.getElem?_eq_getElem (by rw [proj_length, hl]; exact hk), Option.getD_some] at e
  rw [h] at e
  simpa [hasL] using e.symm
theorem stT_keeps {E : List Int} {P : List (List (List Int))} {S : List (List Int) → Prop} (h0 : S (List.replicate P.length [])) (hS : ∀ k (hk : k < P.length) i (hi : i < P[k].length) x, x ∈ lead E P[k][i] → ∀ M, S M → S (stS k x M)) (t : Nat) : S (stT E P t) := by
  have sF : ∀ k (hk : k < P.length) i (hi : i < P[k].length) (L : List Int), (∀ x ∈ L, x ∈ lead E P[k][i]) → ∀ M, S M → S (L.foldl (fun M x => stS k x M) M) := by
    intro k hk i hi L
    induction L with
    | nil => exact fun _ M hM => hM
    | cons x L ih => intro hL M hM; rw [List.foldl_cons]; exact ih (fun y hy => hL y (List.mem_cons_of_mem _ hy)) _ (hS k hk i hi x (hL x List.mem_cons_self) M hM)
  have sI : ∀ k (hk : k < P.length) M, S M → ∀ i, i ≤ P[k].length → S (stI E k P[k] M i) := by
    intro k hk M hM i
    induction i with
    | zero => exact fun _ => hM
    | succ i ih => intro hi; rw [stI_next (by omega), stRow_fold]; exact sF k hk i (by omega) _ (fun _ h => h) _ (ih (by omega))
  have sK : ∀ M, S M → ∀ k, k ≤ P.length → S (stK E P M k) := by
    intro M hM k
    induction k with
    | zero => exact fun _ => hM
    | succ k ih => intro hk; rw [stK_next (by omega)]; exact sI k (by omega) _ (ih (by omega)) _ (Nat.le_refl _)
  induction t with
  | zero => exact h0
  | succ t ih => rw [stT]; exact sK _ ih _ (Nat.le_refl _)
theorem stT_sound {E : List Int} {P : List (List (List Int))} {S : Nat → Int → Prop} (hS : ∀ k (hk : k < P.length) i (hi : i < P[k].length) x, x ∈ lead E P[k][i] → S k (x - 100) ∧ ∀ c, S (x - 100).toNat c → S k c) (t j : Nat) : ∀ c ∈ (stT E P t).getD j [], S j c := by
  have := stT_keeps (E := E) (P := P) (S := fun M => ∀ j, ∀ c ∈ M.getD j [], S j c) (fun j c hc => by
      by_cases hj : j < P.length
      · simp [List.getD, hj] at hc
      · simp [List.getD, hj] at hc) (fun k hk i hi x hx M hM j c hc => by
      rw [stS, getD_set] at hc
      split at hc
      · rename_i hj
        rw [hj.1]
        rcases mem_joinL.1 hc with hc | hc
        · rcases mem_addL.1 hc with rfl | hc
          · exact (hS k hk i hi x hx).1
          · exact hM k c hc
        · exact (hS k hk i hi x hx).2 c (hM _ c hc)
      · exact hM j c hc) t
  exact this j
theorem stT_sorted (E : List Int) (P : List (List (List Int))) (t j : Nat) : ((stT E P t).getD j []).Pairwise (· < ·) := by
  have := stT_keeps (E := E) (P := P) (S := fun M => ∀ j, (M.getD j []).Pairwise (· < ·)) (fun j => by
      by_cases hj : j < P.length
      · simp [List.getD, hj]
      · simp [List.getD, hj]) (fun k hk i hi x hx M hM j => by
      rw [stS, getD_set]
      split
      · exact pair_joinL (pair_addL (hM k))
      · exact hM j) t
  exact this j
end Go.Proofs.Ytdniejpblhbjkab
