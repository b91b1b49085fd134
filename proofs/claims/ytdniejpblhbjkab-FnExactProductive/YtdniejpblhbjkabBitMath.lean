/-
  Flags that are only ever raised, turn by turn, come to an end behind as many turns as there are flags, and one. Plain mathematics. No statement is proved here.
-/
import Derived.Test.YtdniejpblhbjkabGrowMath
namespace Go.Proofs.Ytdniejpblhbjkab
open Go.RowKit

/-- One step: flag s.1 is raised where the test says so. -/
def bstep (b : List Bool) (s : Nat × (List Bool → Bool)) : List Bool := b.set s.1 (b.getD s.1 false || s.2 b)
def bturn (L : List (Nat × (List Bool → Bool))) (b : List Bool) : List Bool := L.foldl bstep b
def cntB : List Bool → Nat
  | [] => 0
  | b :: bs => (if b then 1 else 0) + cntB bs
theorem cntB_le (b : List Bool) : cntB b ≤ b.length := by
  induction b with
  | nil => simp [cntB]
  | cons x xs ih => simp only [cntB, List.length_cons]; split <;> omega
theorem cntB_set {b : List Bool} {k : Nat} (h : k < b.length) (g : b[k] = false) : cntB (b.set k true) = cntB b + 1 := by
  induction b generalizing k with
  | nil => simp at h
  | cons x xs ih =>
    cases k with
    | zero => simp at g; subst g; simp [cntB]; omega
    | succ k =>
      have := ih (k := k) (by simpa using h) (by simpa using g)
      simp only [List.set_cons_succ, cntB, this]; omega
theorem bstep_length (b : List Bool) (s : Nat × (List Bool → Bool)) : (bstep b s).length = b.length := by simp [bstep]
theorem bstep_or (b : List Bool) (s : Nat × (List Bool → Bool)) : bstep b s = b ∨ cntB b < cntB (bstep b s) := by
  unfold bstep
  by_cases h : s.1 < b.length
  · have e : b.getD s.1 false = b[s.1] := by simp [List.getD, h]
    rw [e]
    by_cases g : b[s.1] = true
    · left; rw [g, Bool.true_or]
      conv => lhs; rw [← g]
      exact List.set_getElem_self h
    · have g' : b[s.1] = false := by simpa using g
      rw [g', Bool.false_or]
      by_cases t : s.2 b = true
      · right; rw [t, cntB_set h g']; omega
      · have t' : s.2 b = false := by simpa using t
        left; rw [t']
        conv => lhs; rw [← g']
        exact List.set_getElem_self h
  · left; exact List.set_eq_of_length_le (by omega)
theorem bstep_fix {b : List Bool} {s : Nat × (List Bool → Bool)} (h : bstep b s = b) (hk : s.1 < b.length) (ht : s.2 b = true) : b[s.1] = true := by
  have e : (bstep b s)[s.1]? = some (b.getD s.1 false || s.2 b) := by simp [bstep, hk]
  rw [h, List.getElem?_eq_getElem hk, ht, Bool.or_true] at e
  exact Option.some.inj e
theorem fold_or (L : List (Nat × (List Bool → Bool))) (b : List Bool) (i : Nat) : (L.take (i + 1)).foldl bstep b = (L.take i).foldl bstep b ∨ cntB ((L.take i).foldl bstep b) < cntB ((L.take (i + 1)).foldl bstep b) := by
  by_cases h : i < L.length
  · rw [List.take_succ_eq_append_getElem h, List.foldl_append]
    exact bstep_or _ _
  · left; rw [List.take_of_length_le (by omega), List.take_of_length_le (by omega)]
theorem bturn_or (L : List (Nat × (List Bool → Bool))) (b : List Bool) : bturn L b = b ∨ cntB b < cntB (bturn L b) := by
  have key : ∀ i, (L.take i).foldl bstep b = b ∨ cntB b < cntB ((L.take i).foldl bstep b) := by
    intro i
    induction i with
    | zero => exact .inl rfl
    | succ i ih =>
      rcases fold_or L b i with h | h
      · rw [h]; exact ih
      · rcases ih with ih | ih
        · rw [ih] at h; exact .inr h
        · exact .inr (by omega)
  have := key L.length
  rwa [List.take_length] at this
theorem bturn_fix {L : List (Nat × (List Bool → Bool))} {b : List Bool} (h : bturn L b = b) {s : Nat × (List Bool → Bool)} (hs : s ∈ L) (hk : s.1 < b.length) (ht : s.2 b = true) : b[s.1] = true := by
  obtain ⟨i, hi, rfl⟩ := List.getElem_of_mem hs
  have all := steps_fix (f := fun i => (L.take i).foldl bstep b) (m := cntB) (fold_or L b) (n := L.length) (by rw [List.take_length]; exact h)
  have e1 : (L.take i).foldl bstep b = b := all i (by omega)
  have e2 : (L.take (i + 1)).foldl bstep b = b := all (i + 1) (by omega)
  rw [List.take_succ_eq_append_getElem hi, List.foldl_append, e1] at e2
  exact bstep_fix e2 hk ht
theorem bturn_length (L : List (Nat × (List Bool → Bool))) (b : List Bool) : (bturn L b).length = b.length := by
  unfold bturn
  induction L generalizing b with
  | nil => rfl
  | cons s L ih => rw [List.foldl_cons, ih, bstep_length]
/-- Behind N + 1 turns, where there are N flags at most, each flag is up that a test asks for. -/
theorem bturns_closed {L : List (Nat × (List Bool → Bool))} {f : Nat → List Bool} (hf : ∀ t, f (t + 1) = bturn L (f t)) {N T : Nat} (hN : (f 0).length ≤ N) (hT : N + 1 ≤ T) {s : Nat × (List Bool → Bool)} (hs : s ∈ L) (hk : s.1 < (f T).length) (ht : s.2 (f T) = true) : (f T)[s.1] = true := by
  have hl : ∀ t, (f t).length = (f 0).length := by
    intro t
    induction t with
    | zero => rfl
    | succ t ih => rw [hf, bturn_length, ih]
  have fx : bturn L (f (N + 1)) = f (N + 1) := turns_fix (F := bturn L) (f := f) (m := cntB) hf (fun t => by rw [hf]; exact bturn_or L (f t)) (fun t => by have := cntB_le (f t); rw [hl t] at this; omega)
  have all : ∀ d, f (N + 1 + d) = f (N + 1) := by
    intro d
    induction d with
    | zero => rfl
    | succ d ih => rw [← Nat.add_assoc, hf, ih, fx]
  have e : f T = f (N + 1) := by have := all (T - (N + 1)); rwa [show N + 1 + (T - (N + 1)) = T by omega] at this
  have fx2 : bturn L (f T) = f T := by rw [e]; exact fx
  exact bturn_fix fx2 hs hk ht

/-- Whether a number is in each of the sets. -/
def proj (c : Int) (M : List (List Int)) : List Bool := M.map fun m => hasL m c
theorem proj_length (c : Int) (M : List (List Int)) : (proj c M).length = M.length := by simp [proj]
theorem proj_getD (c : Int) (M : List (List Int)) (k : Nat) : (proj c M).getD k false = hasL (M.getD k []) c := by
  by_cases h : k < M.length
  · simp [proj, List.getD, h]
  · rw [List.getD_eq_getElem?_getD, List.getElem?_eq_none (by rw [proj_length]; omega), List.getD_eq_getElem?_getD, List.getElem?_eq_none (by omega)]; rfl
theorem proj_set (c : Int) (M : List (List Int)) (k : Nat) (m : List Int) : proj c (M.set k m) = (proj c M).set k (hasL m c) := by
  simp [proj, List.map_set]
theorem hasL_joinL (xs ys : List Int) (c : Int) : hasL (joinL xs ys) c = (hasL xs c || hasL ys c) := by
  rw [Bool.eq_iff_iff, Bool.or_eq_true]; simp only [hasL, decide_eq_true_eq]; exact mem_joinL
theorem hasL_addL (xs : List Int) (x c : Int) : hasL (addL xs x) c = (decide (c = x) || hasL xs c) := by
  rw [Bool.eq_iff_iff, Bool.or_eq_true]; simp only [hasL, decide_eq_true_eq]; exact mem_addL
/-- The rows of a grammar, each with its part's number, in order. -/
def flatP (P : List (List (List Int))) : Nat → List (Nat × List Int)
  | 0 => []
  | k + 1 => flatP P k ++ (P.getD k []).map fun row => (k, row)
theorem mem_flatP {P : List (List (List Int))} {k i n : Nat} (hk : k < P.length) (hi : i < P[k].length) (hn : k < n) : (k, P[k][i]) ∈ flatP P n := by
  induction n with
  | zero => omega
  | succ n ih =>
    rw [flatP, List.mem_append]
    by_cases e : k = n
    · subst e
      right
      have e1 : P.getD k [] = P[k] := by simp [List.getD, hk]
      rw [e1, List.mem_map]
      exact ⟨_, List.getElem_mem hi, rfl⟩
    · exact .inl (ih (by omega))
end Go.Proofs.Ytdniejpblhbjkab
