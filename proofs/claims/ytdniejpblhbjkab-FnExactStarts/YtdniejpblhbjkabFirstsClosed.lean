/-
  The sets of what parts can begin with are closed, sound and ascending. Plain mathematics. No statement is proved here.
-/
import Derived.Test.YtdniejpblhbjkabBitMath
import Derived.Test.YtdniejpblhbjkabFirstsMath2
namespace Go.Proofs.Ytdniejpblhbjkab
open Go.RowKit

/-- Whether a row can begin with c, by the flags of c. -/
def bgB (E : List Int) (c : Int) (b : List Bool) : List Int → Bool
  | [] => false
  | x :: xs => if inB x 0 25 then decide (c = x) else if inB x 100 (100 + b.length - 1) then (b.getD (x - 100).toNat false || (hasL E (x - 100) && bgB E c b xs)) else false
theorem hasL_rowF (M : List (List Int)) (E : List Int) (c : Int) : ∀ (row out : List Int), hasL (rowF M E out row) c = (hasL out c || bgB E c (proj c M) row)
  | [], out => by simp [rowF, bgB]
  | x :: xs, out => by
    rw [rowF, bgB, proj_length]
    split
    · rw [hasL_addL, Bool.or_comm]
    · split
      · rw [proj_getD]
        by_cases g : hasL E (x - 100) = true
        · rw [if_pos g, hasL_rowF M E c xs, hasL_joinL, g, Bool.true_and, Bool.or_assoc]
        · have g' : hasL E (x - 100) = false := by simpa using g
          rw [if_neg g, hasL_joinL, g', Bool.false_and, Bool.or_false]
      · simp
theorem fiI_fold (E : List Int) (k : Nat) (Q M : List (List Int)) (i : Nat) (hi : i ≤ Q.length) : fiI E k Q M i = ((Q.take i).map fun row => (k, row)).foldl (fun M s => fiS E s.1 s.2 M) M := by
  induction i with
  | zero => simp [fiI]
  | succ i ih => rw [fiI_next (by omega), ih (by omega), List.take_succ_eq_append_getElem (by omega), List.map_append, List.foldl_append]; rfl
theorem fiK_fold (E : List Int) (P : List (List (List Int))) (M : List (List Int)) (k : Nat) : fiK E P M k = (flatP P k).foldl (fun M s => fiS E s.1 s.2 M) M := by
  induction k with
  | zero => rfl
  | succ k ih => rw [fiK, flatP, List.foldl_append, ← ih, fiI_fold _ _ _ _ _ (Nat.le_refl _), List.take_length]
theorem proj_fiS (E : List Int) (c : Int) (k : Nat) (row : List Int) (M : List (List Int)) : proj c (fiS E k row M) = bstep (proj c M) (k, fun b => bgB E c b row) := by
  rw [fiS, proj_set, hasL_joinL, hasL_rowF, bstep, proj_getD]
  simp [hasL]
theorem proj_fold (E : List Int) (c : Int) (L : List (Nat × List Int)) (M : List (List Int)) : proj c (L.foldl (fun M s => fiS E s.1 s.2 M) M) = bturn (L.map fun s => (s.1, fun b => bgB E c b s.2)) (proj c M) := by
  unfold bturn
  induction L generalizing M with
  | nil => rfl
  | cons s L ih => rw [List.foldl_cons, ih, List.map_cons, List.foldl_cons, proj_fiS]
/-- What a row of a part can begin with, the part can. -/
theorem fiT_closed {E : List Int} {P : List (List (List Int))} {k i : Nat} (hk : k < P.length) (hi : i < P[k].length) {c : Int} (hc : c ∈ rowF (fiT E P (P.length + 1)) E [] P[k][i]) : c ∈ (fiT E P (P.length + 1)).getD k [] := by
  have hl := (fiT_sets E P (P.length + 1)).1
  have h := bturns_closed (L := (flatP P P.length).map fun s => (s.1, fun b => bgB E c b s.2)) (f := fun t => proj c (fiT E P t)) (fun t => by show proj c (fiT E P (t + 1)) = _; rw [fiT, fiK_fold, proj_fold]) (N := P.length) (T := P.length + 1)
    (by show (proj c (fiT E P 0)).length ≤ _; rw [proj_length, (fiT_sets E P 0).1]; exact Nat.le_refl _) (Nat.le_refl _) (s := (k, fun b => bgB E c b P[k][i])) (List.mem_map.2 ⟨_, mem_flatP hk hi hk, rfl⟩)
    (by show k < (proj c _).length; rw [proj_length, hl]; exact hk)
    (by
      have := hasL_rowF (fiT E P (P.length + 1)) E c P[k][i] []
      rw [hasL_yes hc] at this
      simpa [hasL] using this.symm)
  have e := proj_getD c (fiT E P (P.length + 1)) k
  rw [List.getD_eq_getElem?_getD, List.getElem?_eq_getElem (by rw [proj_length, hl]; exact hk), Option.getD_some] at e
  rw [h] at e
  simpa [hasL] using e.symm
/-- What is kept step by step holds at the end. -/
theorem fiT_keeps {E : List Int} {P : List (List (List Int))} {S : List (List Int) → Prop} (h0 : S (List.replicate P.length [])) (hS : ∀ k (hk : k < P.length) i (hi : i < P[k].length) M, S M → S (fiS E k P[k][i] M)) (t : Nat) : S (fiT E P t) := by
  have sI : ∀ k (hk : k < P.length) M, S M → ∀ i, i ≤ P[k].length → S (fiI E k P[k] M i) := by
    intro k hk M hM i
    induction i with
    | zero => exact fun _ => hM
    | succ i ih => intro hi; rw [fiI_next (by omega)]; exact hS k hk i (by omega) _ (ih (by omega))
  have sK : ∀ M, S M → ∀ k, k ≤ P.length → S (fiK E P M k) := by
    intro M hM k
    induction k with
    | zero => exact fun _ => hM
    | succ k ih => intro hk; rw [fiK_next (by omega)]; exact sI k (by omega) _ (ih (by omega)) _ (Nat.le_refl _)
  induction t with
  | zero => exact h0
  | succ t ih => rw [fiT]; exact sK _ ih _ (Nat.le_refl _)
theorem getD_set (M : List (List Int)) (k j : Nat) (m : List Int) : (M.set k m).getD j [] = if j = k ∧ k < M.length then m else M.getD j [] := by
  by_cases e : j = k
  · subst e
    by_cases h : j < M.length
    · simp [List.getD, h]
    · simp [List.getD, h]
  · simp [List.getD, e, Ne.symm e]
/-- Nothing is there that closed sets have not. -/
theorem fiT_sound {E : List Int} {P : List (List (List Int))} {S : Nat → Int → Prop} (hS : ∀ k (hk : k < P.length) i (hi : i < P[k].length) (M : List (List Int)), M.length = P.length → (∀ j, ∀ c ∈ M.getD j [], S j c) → ∀ c ∈ rowF M E [] P[k][i], S k c) (t j : Nat) : ∀ c ∈ (fiT E P t).getD j [], S j c := by
  have := fiT_keeps (E := E) (P := P) (S := fun M => M.length = P.length ∧ ∀ j, ∀ c ∈ M.getD j [], S j c) ⟨by simp, fun j c hc => by
      by_cases hj : j < P.length
      · simp [List.getD, hj] at hc
      · simp [List.getD, hj] at hc⟩ (fun k hk i hi M hM => ⟨by rw [fiS, List.length_set]; exact hM.1, fun j c hc => by
      rw [fiS, getD_set] at hc
      split at hc
      · rename_i hj
        rcases mem_joinL.1 hc with hc | hc
        · rw [hj.1]; exact hM.2 k c hc
        · rw [hj.1]; exact hS k hk i hi M hM.1 hM.2 c hc
      · exact hM.2 j c hc⟩) t
  exact this.2 j
theorem rowF_sorted {M : List (List Int)} {E : List Int} : ∀ {zs out : List Int}, out.Pairwise (· < ·) → (rowF M E out zs).Pairwise (· < ·)
  | [], out, h => by rw [rowF]; exact h
  | x :: xs, out, h => by
    rw [rowF]
    split
    · exact pair_addL h
    · split
      · split
        · exact rowF_sorted (pair_joinL h)
        · exact pair_joinL h
      · exact h
theorem fiT_sorted (E : List Int) (P : List (List (List Int))) (t j : Nat) : ((fiT E P t).getD j []).Pairwise (· < ·) := by
  have := fiT_keeps (E := E) (P := P) (S := fun M => ∀ j, (M.getD j []).Pairwise (· < ·)) (fun j => by
      by_cases hj : j < P.length
      · simp [List.getD, hj]
      · simp [List.getD, hj]) (fun k hk i hi M hM j => by
      rw [fiS, getD_set]
      split
      · exact pair_joinL (hM k)
      · exact hM j) t
  exact this j
end Go.Proofs.Ytdniejpblhbjkab
