/-
  What is reached, grown turn by turn, is closed; nothing is there that need not be. Plain mathematics. No statement is proved here.
-/
import Derived.Test.YtdniejpblhbjkabGrowMath
namespace Go.Proofs.Ytdniejpblhbjkab
open Go.RowKit

/-- The parts that stand in a grammar are its own. -/
def SymsIn (P : List (List (List Int))) : Prop := ∀ alts ∈ P, ∀ row ∈ alts, ∀ z ∈ row, 100 ≤ z → z - 100 < P.length
theorem SymsIn.of {P : List (List (List Int))} (hok : gramOkB P = true) : SymsIn P := by
  intro alts h1 row h2 z h3 h4
  simp only [gramOkB, Bool.and_eq_true, List.all_eq_true, partOk, rowOk, decide_eq_true_eq] at hok
  have := symOk_true.1 (((hok.2 alts h1).2 row h2).2 z h3)
  omega
theorem all_steps {f : Nat → List Int} (h : ∀ i, f (i + 1) = f i ∨ (f i).length < (f (i + 1)).length) (i : Nat) : f i = f 0 ∨ (f 0).length < (f i).length := by
  induction i with
  | zero => exact .inl rfl
  | succ i ih =>
    rcases h i with h1 | h1
    · rw [h1]; exact ih
    · rcases ih with ih | ih
      · rw [ih] at h1; exact .inr h1
      · exact .inr (by omega)
theorem reachJ_step (R E : List Int) (j : Nat) : reachJ R E (j + 1) = reachJ R E j ∨ (reachJ R E j).length < (reachJ R E (j + 1)).length := by
  rw [reachJ]
  split
  · exact addL_same_or _ _
  · exact .inl rfl
theorem reachI_step (Q : List (List Int)) (E : List Int) (i : Nat) : reachI Q E (i + 1) = reachI Q E i ∨ (reachI Q E i).length < (reachI Q E (i + 1)).length := by
  rw [reachI]; exact all_steps (f := reachJ _ (reachI Q E i)) (reachJ_step _ _) _
theorem reachK_step (P : List (List (List Int))) (E : List Int) (k : Nat) : reachK P E (k + 1) = reachK P E k ∨ (reachK P E k).length < (reachK P E (k + 1)).length := by
  rw [reachK]
  split
  · exact all_steps (f := reachI _ (reachK P E k)) (reachI_step _ _) _
  · exact .inl rfl
theorem reachT_step (P : List (List (List Int))) (t : Nat) : reachT P (t + 1) = reachT P t ∨ (reachT P t).length < (reachT P (t + 1)).length := by
  rw [reachT]; exact all_steps (f := reachK P (reachT P t)) (reachK_step _ _) _
section
variable {P : List (List (List Int))} {S : List Int → Prop}
/-- What holds of the beginning and is kept where a part that may be reached is put in, holds at the end. -/
theorem reachT_keeps (h0 : S [0]) (hS : ∀ k (hk : k < P.length) i (hi : i < P[k].length) j (hj : j < P[k][i].length) (E : List Int), S E → (k : Int) ∈ E → 100 ≤ P[k][i][j] → S (addL E (P[k][i][j] - 100))) (t : Nat) : S (reachT P t) := by
  have sJ : ∀ k (hk : k < P.length) i (hi : i < P[k].length) E, S E → (k : Int) ∈ E → ∀ j, j ≤ P[k][i].length → S (reachJ P[k][i] E j) ∧ (k : Int) ∈ reachJ P[k][i] E j := by
    intro k hk i hi E hE hm j
    induction j with
    | zero => exact fun _ => ⟨hE, hm⟩
    | succ j ih =>
      intro hj
      obtain ⟨h1, h2⟩ := ih (by omega)
      by_cases g : 100 ≤ P[k][i][j]
      · rw [reachJ_yes (by omega) g]
        exact ⟨hS k hk i hi j (by omega) _ h1 h2 g, mem_addL.2 (.inr h2)⟩
      · rw [reachJ_no (by omega) g]; exact ⟨h1, h2⟩
  have sI : ∀ k (hk : k < P.length) E, S E → (k : Int) ∈ E → ∀ i, i ≤ P[k].length → S (reachI P[k] E i) ∧ (k : Int) ∈ reachI P[k] E i := by
    intro k hk E hE hm i
    induction i with
    | zero => exact fun _ => ⟨hE, hm⟩
    | succ i ih =>
      intro hi
      obtain ⟨h1, h2⟩ := ih (by omega)
      rw [reachI_next (by omega)]
      exact sJ k hk i (by omega) _ h1 h2 _ (Nat.le_refl _)
  have sK : ∀ E, S E → ∀ k, k ≤ P.length → S (reachK P E k) := by
    intro E hE k
    induction k with
    | zero => exact fun _ => hE
    | succ k ih =>
      intro hk
      have h1 := ih (by omega)
      cases g : hasL (reachK P E k) k
      · rw [reachK_no g]; exact h1
      · rw [reachK_yes (by omega) g]
        exact (sI k (by omega) _ h1 (by simpa [hasL] using g) _ (Nat.le_refl _)).1
  induction t with
  | zero => exact h0
  | succ t ih => rw [reachT]; exact sK _ ih _ (Nat.le_refl _)
end
theorem reachT_setB {P : List (List (List Int))} (h : SymsIn P) (hp : 0 < P.length) (t : Nat) : SetB (P.length : Int) (reachT P t) := by
  refine reachT_keeps (S := SetB (P.length : Int)) ⟨by simp, fun x hx => by simp at hx; subst hx; omega⟩ (fun k hk i hi j hj E hE _ g => hE.add (by omega) ?_) t
  exact h _ (List.getElem_mem hk) _ (List.getElem_mem hi) _ (List.getElem_mem hj) g
theorem reachT_sorted (P : List (List (List Int))) (t : Nat) : (reachT P t).Pairwise (· < ·) :=
  reachT_keeps (S := List.Pairwise (· < ·)) (by simp) (fun _ _ _ _ _ _ _ hE _ _ => pair_addL hE) t
theorem reachT_sound {P : List (List (List Int))} {S : Int → Prop} (h0 : S 0) (hS : ∀ k (hk : k < P.length) i (hi : i < P[k].length) j (hj : j < P[k][i].length), S k → 100 ≤ P[k][i][j] → S (P[k][i][j] - 100)) (t : Nat) : ∀ x ∈ reachT P t, S x :=
  reachT_keeps (S := fun E => ∀ x ∈ E, S x) (fun x hx => by simp at hx; subst hx; exact h0) (fun k hk i hi j hj E hE hm g x hx => by
    rcases mem_addL.1 hx with rfl | hx
    · exact hS k hk i hi j hj (hE _ hm) g
    · exact hE x hx) t
theorem reachT_zero (P : List (List (List Int))) (t : Nat) : (0 : Int) ∈ reachT P t :=
  reachT_keeps (S := fun E => (0 : Int) ∈ E) (by simp) (fun _ _ _ _ _ _ _ hE _ _ => mem_addL.2 (.inr hE)) t
theorem reachT_closed {P : List (List (List Int))} (h : SymsIn P) (hp : 0 < P.length) {k i j : Nat} (hk : k < P.length) (hi : i < P[k].length) (hj : j < P[k][i].length) (hm : (k : Int) ∈ reachT P (P.length + 1)) (g : 100 ≤ P[k][i][j]) : P[k][i][j] - 100 ∈ reachT P (P.length + 1) := by
  have fx : reachK P (reachT P (P.length + 1)) P.length = reachT P (P.length + 1) :=
    turns_fix (F := fun E => reachK P E P.length) (f := reachT P) (m := List.length) (fun t => rfl) (reachT_step P) (fun t => (reachT_setB h hp t).len)
  generalize reachT P (P.length + 1) = E at *
  have hK := steps_fix (f := reachK P E) (m := List.length) (reachK_step P E) fx
  have e1 : reachI P[k] E P[k].length = E := by
    have := reachK_yes (E := E) hk (by rw [hK k (by omega)]; exact hasL_yes hm)
    rw [hK (k + 1) (by omega), hK k (by omega)] at this
    exact this.symm
  have hI := steps_fix (f := reachI P[k] E) (m := List.length) (reachI_step P[k] E) e1
  have e2 : reachJ P[k][i] E P[k][i].length = E := by
    have := reachI_next (E := E) hi
    rw [hI (i + 1) (by omega), hI i (by omega)] at this
    exact this.symm
  have hJ := steps_fix (f := reachJ P[k][i] E) (m := List.length) (reachJ_step P[k][i] E) e2
  have e3 := hJ (j + 1) (by omega)
  have e4 : reachJ P[k][i] E j = E := hJ j (by omega)
  rw [reachJ_yes hj g, e4] at e3
  exact addL_fix e3
end Go.Proofs.Ytdniejpblhbjkab
