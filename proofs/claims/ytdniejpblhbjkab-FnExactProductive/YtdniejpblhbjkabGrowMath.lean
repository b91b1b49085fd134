/-
  Sets that are grown turn by turn come to an end: what is grown is closed, and nothing is there that need not be. Plain mathematics. No statement is proved here.
-/
import Derived.Test.YtdniejpblhbjkabFirstsMath
namespace Go.Proofs.Ytdniejpblhbjkab
open Go.RowKit

theorem addL_same_or (zs : List Int) (x : Int) : addL zs x = zs ∨ zs.length < (addL zs x).length := by
  by_cases h : x ∈ zs
  · exact .inl (by simp [addL, h])
  · right
    have := placeL_le zs x
    simp only [addL, h, if_false, List.length_append, List.length_cons, List.length_nil, List.length_take, List.length_drop]
    omega
theorem addL_fix {zs : List Int} {x : Int} (h : addL zs x = zs) : x ∈ zs := by
  have : x ∈ addL zs x := mem_addL.2 (.inl rfl)
  rwa [h] at this

/-- Steps that leave as it was or make longer: where all together leave as it was, each does. -/
theorem steps_fix {α : Type} {m : α → Nat} {f : Nat → α} (h : ∀ i, f (i + 1) = f i ∨ m (f i) < m (f (i + 1))) {n : Nat} (e : f n = f 0) : ∀ i, i ≤ n → f i = f 0 := by
  have mono : ∀ i j, i ≤ j → m (f i) ≤ m (f j) := by
    intro i j hij
    induction j with
    | zero => have : i = 0 := by omega
              subst this; exact Nat.le_refl _
    | succ j ih =>
      by_cases e1 : i = j + 1
      · subst e1; exact Nat.le_refl _
      · have := ih (by omega)
        rcases h j with h1 | h1
        · rw [h1]; exact this
        · omega
  intro i hi
  induction i with
  | zero => rfl
  | succ i ih =>
    have h1 := ih (by omega)
    rcases h i with h2 | h2
    · rw [h2, h1]
    · have h3 := mono (i + 1) n hi
      rw [e] at h3
      rw [h1] at h2
      omega
/-- Turns that leave as it was or make longer, within N: behind N + 1 of them nothing turns any more. -/
theorem turns_fix {α : Type} {m : α → Nat} {F : α → α} {f : Nat → α} (hf : ∀ t, f (t + 1) = F (f t)) (h : ∀ t, f (t + 1) = f t ∨ m (f t) < m (f (t + 1))) {N : Nat} (hN : ∀ t, m (f t) ≤ N) : F (f (N + 1)) = f (N + 1) := by
  have key : ∀ t, t ≤ m (f t) ∨ ∃ s, s < t ∧ f (s + 1) = f s := by
    intro t
    induction t with
    | zero => exact .inl (Nat.zero_le _)
    | succ t ih =>
      rcases ih with ih | ⟨s, hs, e⟩
      · rcases h t with h1 | h1
        · exact .inr ⟨t, by omega, h1⟩
        · exact .inl (by omega)
      · exact .inr ⟨s, by omega, e⟩
  rcases key (N + 1) with h1 | ⟨s, hs, e⟩
  · have := hN (N + 1); omega
  · have all : ∀ d, f (s + d) = f s := by
      intro d
      induction d with
      | zero => rfl
      | succ d ih => rw [← Nat.add_assoc, hf, ih, ← hf, e]
    have e1 : f (N + 1) = f s := by have := all (N + 1 - s); rwa [show s + (N + 1 - s) = N + 1 by omega] at this
    rw [e1, ← hf, e]

section
variable {p : List Int → List Int → Bool}
theorem growI_step (k : Nat) (Q : List (List Int)) (E : List Int) (i : Nat) : growI p k Q E (i + 1) = growI p k Q E i ∨ (growI p k Q E i).length < (growI p k Q E (i + 1)).length := by
  rw [growI]
  split
  · exact addL_same_or _ _
  · exact .inl rfl
theorem growI_all (k : Nat) (Q : List (List Int)) (E : List Int) (i : Nat) : growI p k Q E i = E ∨ E.length < (growI p k Q E i).length := by
  induction i with
  | zero => exact .inl rfl
  | succ i ih =>
    rcases growI_step (p := p) k Q E i with h | h
    · rw [h]; exact ih
    · rcases ih with ih | ih
      · rw [ih] at h; exact .inr h
      · exact .inr (by omega)
theorem growK_step (P : List (List (List Int))) (E : List Int) (k : Nat) : growK p P E (k + 1) = growK p P E k ∨ (growK p P E k).length < (growK p P E (k + 1)).length := by
  rw [growK]; exact growI_all _ _ _ _
theorem growK_all (P : List (List (List Int))) (E : List Int) (k : Nat) : growK p P E k = E ∨ E.length < (growK p P E k).length := by
  induction k with
  | zero => exact .inl rfl
  | succ k ih =>
    rcases growK_step (p := p) P E k with h | h
    · rw [h]; exact ih
    · rcases ih with ih | ih
      · rw [ih] at h; exact .inr h
      · exact .inr (by omega)
/-- What is grown is a set of parts. -/
theorem growI_setB {k n : Nat} (hk : k < n) {Q : List (List Int)} {E : List Int} (h : SetB (n : Int) E) : ∀ i, SetB (n : Int) (growI p k Q E i)
  | 0 => h
  | i + 1 => by
    rw [growI]
    split
    · exact (growI_setB hk h i).add (by omega) (by omega)
    · exact growI_setB hk h i
theorem growK_setB {n : Nat} {P : List (List (List Int))} {E : List Int} (h : SetB (n : Int) E) : ∀ k, k ≤ n → SetB (n : Int) (growK p P E k)
  | 0, _ => h
  | k + 1, hk => by rw [growK]; exact growI_setB (by omega) (growK_setB h k (by omega)) _
theorem growT_setB (P : List (List (List Int))) : ∀ t, SetB (P.length : Int) (growT p P t)
  | 0 => SetB.nil _
  | t + 1 => by rw [growT]; exact growK_setB (growT_setB P t) _ (Nat.le_refl _)
/-- What is grown is closed. -/
theorem growT_closed {P : List (List (List Int))} {k i : Nat} (hk : k < P.length) (hi : i < P[k].length) (h : p P[k][i] (growT p P (P.length + 1)) = true) : (k : Int) ∈ growT p P (P.length + 1) := by
  have fx : growK p P (growT p P (P.length + 1)) P.length = growT p P (P.length + 1) :=
    turns_fix (F := fun E => growK p P E P.length) (f := growT p P) (m := List.length) (fun t => rfl) (fun t => growK_all P _ _) (fun t => (growT_setB P t).len)
  generalize growT p P (P.length + 1) = E at *
  have hK := steps_fix (f := growK p P E) (m := List.length) (growK_step P E) fx
  have e1 : growI p k P[k] E P[k].length = E := by
    have := growK_next p (E := E) hk
    rw [hK (k + 1) (by omega), hK k (by omega)] at this
    exact this.symm
  have hI := steps_fix (f := growI p k P[k] E) (m := List.length) (growI_step k P[k] E) e1
  have e2 := hI (i + 1) (by omega)
  have e3 : growI p k P[k] E i = E := hI i (by omega)
  rw [growI_yes p hi (by rw [e3]; exact h), e3] at e2
  exact addL_fix e2
/-- Nothing is grown that a closed set has not. -/
theorem growT_sound {P : List (List (List Int))} {S : Int → Prop} (hS : ∀ k (hk : k < P.length) i (hi : i < P[k].length) (E : List Int), (∀ x ∈ E, S x) → p P[k][i] E = true → S k) (t : Nat) : ∀ x ∈ growT p P t, S x := by
  have sI : ∀ k (hk : k < P.length) E, (∀ x ∈ E, S x) → ∀ i, i ≤ P[k].length → ∀ x ∈ growI p k P[k] E i, S x := by
    intro k hk E hE i
    induction i with
    | zero => exact fun _ => hE
    | succ i ih =>
      intro hi x hx
      by_cases g : p P[k][i] (growI p k P[k] E i) = true
      · rw [growI_yes p (by omega) g] at hx
        rcases mem_addL.1 hx with rfl | hx
        · exact hS k hk i (by omega) _ (ih (by omega)) g
        · exact ih (by omega) x hx
      · rw [growI_no p (by omega) (by simpa using g)] at hx
        exact ih (by omega) x hx
  have sK : ∀ E, (∀ x ∈ E, S x) → ∀ k, k ≤ P.length → ∀ x ∈ growK p P E k, S x := by
    intro E hE k
    induction k with
    | zero => exact fun _ => hE
    | succ k ih =>
      intro hk
      rw [growK_next p (by omega)]
      exact sI k (by omega) _ (ih (by omega)) _ (Nat.le_refl _)
  induction t with
  | zero => intro x hx; simp [growT] at hx
  | succ t ih => rw [growT]; exact sK _ ih _ (Nat.le_refl _)
end
theorem growT_sorted {p : List Int → List Int → Bool} (P : List (List (List Int))) (t : Nat) : (growT p P t).Pairwise (· < ·) := by
  have sI : ∀ k Q (E : List Int), E.Pairwise (· < ·) → ∀ i, (growI p k Q E i).Pairwise (· < ·) := by
    intro k Q E hE i
    induction i with
    | zero => exact hE
    | succ i ih =>
      rw [growI]
      split
      · exact pair_addL ih
      · exact ih
  have sK : ∀ (E : List Int), E.Pairwise (· < ·) → ∀ k, (growK p P E k).Pairwise (· < ·) := by
    intro E hE k
    induction k with
    | zero => exact hE
    | succ k ih => rw [growK]; exact sI _ _ _ ih _
  induction t with
  | zero => exact List.Pairwise.nil
  | succ t ih => rw [growT]; exact sK _ ih _
end Go.Proofs.Ytdniejpblhbjkab
