/-
  Flags that are only ever raised, round by round over the rows of a grammar, till a round brings nothing new. Plain mathematics. No statement is proved here.
-/
import Derived.Test.YtdniejpblhbjkabFirstsClosed
namespace Go.Proofs.Ytdniejpblhbjkab
open Go.RowKit

section
variable (st : Nat → List Int → List Bool → List Bool)
def leI (k : Nat) (Q : List (List Int)) (T : List Bool) : Nat → List Bool
  | 0 => T
  | i + 1 => st k (Q.getD i []) (leI k Q T i)
def leK (P : List (List (List Int))) (T : List Bool) : Nat → List Bool
  | 0 => T
  | k + 1 => leI st k (P.getD k []) (leK P T k) (P.getD k []).length
/-- What holds at the start and is kept by each row's step holds of T. -/
def Grows (P : List (List (List Int))) (T0 T : List Bool) : Prop := ∀ I : List Bool → Prop, I T0 → (∀ k (hk : k < P.length) i (hi : i < P[k].length) T, I T → I (st k P[k][i] T)) → I T
end
variable {st : Nat → List Int → List Bool → List Bool}
theorem leI_next {k i : Nat} {Q : List (List Int)} {T : List Bool} (h : i < Q.length) : leI st k Q T (i + 1) = st k Q[i] (leI st k Q T i) := by
  have e : Q.getD i [] = Q[i] := by simp [List.getD, h]
  rw [leI, e]
theorem leK_next {P : List (List (List Int))} {T : List Bool} {k : Nat} (h : k < P.length) : leK st P T (k + 1) = leI st k P[k] (leK st P T k) P[k].length := by
  have e : P.getD k [] = P[k] := by simp [List.getD, h]
  rw [leK, e]
theorem Grows.refl (P : List (List (List Int))) (T : List Bool) : Grows st P T T := fun _ h _ => h
theorem Grows.leI {P : List (List (List Int))} {T0 T : List Bool} (h : Grows st P T0 T) {k : Nat} (hk : k < P.length) (i : Nat) (hi : i ≤ P[k].length) : Grows st P T0 (leI st k P[k] T i) := by
  intro I h0 hS
  induction i with
  | zero => exact h I h0 hS
  | succ i ih => rw [leI_next (by omega)]; exact hS k hk i (by omega) _ (ih (by omega))
theorem Grows.leK {P : List (List (List Int))} {T0 T : List Bool} (h : Grows st P T0 T) (k : Nat) (hk : k ≤ P.length) : Grows st P T0 (leK st P T k) := by
  induction k with
  | zero => exact h
  | succ k ih => rw [leK_next (by omega)]; exact (ih (by omega)).leI (by omega) _ (Nat.le_refl _)
/-- Steps that leave as it was or raise a flag. -/
def Raises (st : Nat → List Int → List Bool → List Bool) (P : List (List (List Int))) (n : Nat) : Prop := ∀ k (hk : k < P.length) i (hi : i < P[k].length) (T : List Bool), T.length = n → (st k P[k][i] T).length = n ∧ (st k P[k][i] T = T ∨ cntB T < cntB (st k P[k][i] T))
theorem Raises.leI {P : List (List (List Int))} {n : Nat} (h : Raises st P n) {k : Nat} (hk : k < P.length) {T : List Bool} (hT : T.length = n) (i : Nat) (hi : i ≤ P[k].length) : (leI st k P[k] T i).length = n ∧ (leI st k P[k] T i = T ∨ cntB T < cntB (leI st k P[k] T i)) := by
  induction i with
  | zero => exact ⟨hT, .inl rfl⟩
  | succ i ih =>
    have h1 := ih (by omega)
    have h2 := h k hk i (by omega) _ h1.1
    rw [leI_next (by omega)]
    refine ⟨h2.1, ?_⟩
    rcases h1.2 with e1 | e1
    · rcases h2.2 with e2 | e2
      · left; rw [e2]; exact e1
      · right; rw [e1] at e2 ⊢; exact e2
    · rcases h2.2 with e2 | e2
      · right; rw [e2]; exact e1
      · right; omega
theorem Raises.leK {P : List (List (List Int))} {n : Nat} (h : Raises st P n) {T : List Bool} (hT : T.length = n) (k : Nat) (hk : k ≤ P.length) : (leK st P T k).length = n ∧ (leK st P T k = T ∨ cntB T < cntB (leK st P T k)) := by
  induction k with
  | zero => exact ⟨hT, .inl rfl⟩
  | succ k ih =>
    have h1 := ih (by omega)
    have h2 := h.leI (k := k) (by omega) h1.1 _ (Nat.le_refl _)
    rw [leK_next (by omega)]
    refine ⟨h2.1, ?_⟩
    rcases h1.2 with e1 | e1
    · rcases h2.2 with e2 | e2
      · left; rw [e2]; exact e1
      · right; rw [e1] at e2 ⊢; exact e2
    · rcases h2.2 with e2 | e2
      · right; rw [e2]; exact e1
      · right; omega
/-- Where a round brings nothing new, no row's step does. -/
theorem Raises.fix {P : List (List (List Int))} {n : Nat} (h : Raises st P n) {T : List Bool} (hT : T.length = n) (e : Go.Proofs.Ytdniejpblhbjkab.leK st P T P.length = T) {k : Nat} (hk : k < P.length) {i : Nat} (hi : i < P[k].length) : st k P[k][i] T = T := by
  have stepK : ∀ j, j < P.length → Go.Proofs.Ytdniejpblhbjkab.leK st P T (j + 1) = Go.Proofs.Ytdniejpblhbjkab.leK st P T j ∨ cntB (Go.Proofs.Ytdniejpblhbjkab.leK st P T j) < cntB (Go.Proofs.Ytdniejpblhbjkab.leK st P T (j + 1)) := by
    intro j hj
    rw [leK_next hj]
    exact (h.leI hj (h.leK hT j (by omega)).1 _ (Nat.le_refl _)).2
  have hK := steps_fix (m := cntB) (f := fun j => Go.Proofs.Ytdniejpblhbjkab.leK st P T (min j P.length)) (fun j => by
    by_cases hj : j < P.length
    · have e1 : min (j + 1) P.length = j + 1 := by omega
      have e2 : min j P.length = j := by omega
      show Go.Proofs.Ytdniejpblhbjkab.leK st P T (min (j + 1) P.length) = _ ∨ _
      rw [e1, e2]; exact stepK j hj
    · left
      have e1 : min (j + 1) P.length = P.length := by omega
      have e2 : min j P.length = P.length := by omega
      show Go.Proofs.Ytdniejpblhbjkab.leK st P T (min (j + 1) P.length) = _
      rw [e1, e2]) (n := P.length) (by
      show Go.Proofs.Ytdniejpblhbjkab.leK st P T (min P.length P.length) = Go.Proofs.Ytdniejpblhbjkab.leK st P T (min 0 P.length)
      rw [Nat.min_self, Nat.zero_min]; exact e)
  have kk : ∀ j, j ≤ P.length → Go.Proofs.Ytdniejpblhbjkab.leK st P T j = T := by
    intro j hj
    have := hK j hj
    have e1 : min j P.length = j := by omega
    have e2 : min 0 P.length = 0 := by omega
    simp only [e1, e2] at this
    exact this
  have e1 : Go.Proofs.Ytdniejpblhbjkab.leI st k P[k] T P[k].length = T := by
    have := leK_next (st := st) (T := T) hk
    rw [kk (k + 1) (by omega), kk k (by omega)] at this
    exact this.symm
  have hI := steps_fix (m := cntB) (f := fun j => Go.Proofs.Ytdniejpblhbjkab.leI st k P[k] T (min j P[k].length)) (fun j => by
    by_cases hj : j < P[k].length
    · have e1 : min (j + 1) P[k].length = j + 1 := by omega
      have e2 : min j P[k].length = j := by omega
      show Go.Proofs.Ytdniejpblhbjkab.leI st k P[k] T (min (j + 1) P[k].length) = _ ∨ _
      rw [e1, e2, leI_next hj]; exact (h k hk j hj _ (h.leI hk hT j (by omega)).1).2
    · left
      have e1 : min (j + 1) P[k].length = P[k].length := by omega
      have e2 : min j P[k].length = P[k].length := by omega
      show Go.Proofs.Ytdniejpblhbjkab.leI st k P[k] T (min (j + 1) P[k].length) = _
      rw [e1, e2]) (n := P[k].length) (by
      show Go.Proofs.Ytdniejpblhbjkab.leI st k P[k] T (min P[k].length P[k].length) = Go.Proofs.Ytdniejpblhbjkab.leI st k P[k] T (min 0 P[k].length)
      rw [Nat.min_self, Nat.zero_min]; exact e1)
  have ii : ∀ j, j ≤ P[k].length → Go.Proofs.Ytdniejpblhbjkab.leI st k P[k] T j = T := by
    intro j hj
    have := hI j hj
    have e1 : min j P[k].length = j := by omega
    have e2 : min 0 P[k].length = 0 := by omega
    simp only [e1, e2] at this
    exact this
  have := ii (i + 1) (by omega)
  rw [leI_next hi, ii i (by omega)] at this
  exact this
/-- The flags of a set of numbers; of sets of such. -/
def flagsOf (E : List Int) : List Bool := (List.range 27).map fun (n : Nat) => hasL E (n : Int)
theorem flagsOf_length (E : List Int) : (flagsOf E).length = 27 := by simp [flagsOf]
theorem flagsOf_get (E : List Int) {n : Nat} (h : n < 27) : (flagsOf E).getD n false = hasL E (n : Int) := by simp [flagsOf, List.getD, h]
/-- One row's step of emptiesOf. -/
def emS (allB : List Bool → List Int → Bool) (k : Nat) (row : List Int) (T : List Bool) : List Bool := bstep T (k, fun b => allB b row)
end Go.Proofs.Ytdniejpblhbjkab
