/-
  What a search by depth finds: its step as relations between flags. Plain mathematics. No statement is proved here.
-/
import Derived.Test.YtdniejpblhbjkabEmptiesMath
import Derived.Test.YtdniejpblhbjkabReachMath
namespace Go.Proofs.Ytdniejpblhbjkab
open Go.RowKit

/-- Part m stands in an alternative of part n. -/
def Edge (P : List (List (List Int))) (n m : Nat) : Prop := ∃ (hn : n < P.length) (i : Nat) (hi : i < P[n].length) (j : Nat) (hj : j < P[n][i].length), P[n][i][j] = 100 + (m : Int)
def leB (T T' : List Bool) : Prop := T'.length = T.length ∧ ∀ n, T.getD n false = true → T'.getD n false = true
theorem leB.refl (T : List Bool) : leB T T := ⟨rfl, fun _ h => h⟩
theorem leB.trans {A B C : List Bool} (h : leB A B) (g : leB B C) : leB A C := ⟨g.1.trans h.1, fun n hn => g.2 n (h.2 n hn)⟩
theorem leB.cnt : ∀ {T T' : List Bool}, leB T T' → cntB T ≤ cntB T'
  | [], [], _ => Nat.le_refl _
  | [], _ :: _, h => by have := h.1; simp at this
  | _ :: _, [], h => by have := h.1; simp at this
  | x :: xs, y :: ys, h => by
    have h1 : leB xs ys := ⟨by have := h.1; simpa using this, fun n hn => by have := h.2 (n + 1) (by simpa [List.getD] using hn); simpa [List.getD] using this⟩
    have h2 := h1.cnt
    have h3 := h.2 0
    simp only [cntB]
    cases x <;> cases y <;> simp_all <;> omega
/-- What the search from part k makes of the flags. -/
structure RPost (P : List (List (List Int))) (k : Nat) (T T' : List Bool) : Prop where
  up : leB T T'
  there : T'.getD k false = true
  closed : ∀ n, T'.getD n false = true → T.getD n false = false → ∀ m, Edge P n m → T'.getD m false = true
  sound : ∀ S : Nat → Prop, (∀ n m, S n → Edge P n m → S m) → S k → ∀ n, T'.getD n false = true → T.getD n false = true ∨ S n
/-- ..within the rows of part k, behind the first i and the first j symbols of the next one. -/
structure RJ (P : List (List (List Int))) (k : Nat) (T : List Bool) (i j : Nat) (T' : List Bool) : Prop where
  up : leB T T'
  closed : ∀ n, T'.getD n false = true → T.getD n false = false → ∀ m, Edge P n m → T'.getD m false = true
  sound : ∀ S : Nat → Prop, (∀ n m, S n → Edge P n m → S m) → S k → ∀ n, T'.getD n false = true → T.getD n false = true ∨ S n
  rows : ∀ (hk : k < P.length) i' (hi : i' < P[k].length) j' (hj : j' < P[k][i'].length), (i' < i ∨ (i' = i ∧ j' < j)) → ∀ m : Nat, P[k][i'][j'] = 100 + (m : Int) → T'.getD m false = true
theorem RPost.skip {P : List (List (List Int))} {k : Nat} {T : List Bool} (h : T.getD k false = true) : RPost P k T T :=
  ⟨leB.refl _, h, fun n h1 h2 => (by rw [h1] at h2; cases h2), fun _ _ _ n hn => .inl hn⟩
theorem RJ.start {P : List (List (List Int))} {k : Nat} {T : List Bool} : RJ P k T 0 0 T :=
  ⟨leB.refl _, fun n h1 h2 => (by rw [h1] at h2; cases h2), fun _ _ _ n hn => .inl hn, fun _ _ _ _ _ h => by omega⟩
theorem RJ.letter {P : List (List (List Int))} {k : Nat} {T T' : List Bool} {i j : Nat} (h : RJ P k T i j T') (hk : k < P.length) (hi : i < P[k].length) (hj : j < P[k][i].length) (g : P[k][i][j] ≤ 25) : RJ P k T i (j + 1) T' :=
  ⟨h.up, h.closed, h.sound, fun hk' i' hi' j' hj' ho m hm => by
    by_cases e : i' = i ∧ j' = j
    · obtain ⟨e1, e2⟩ := e; subst e1; subst e2; omega
    · exact h.rows hk' i' hi' j' hj' (by omega) m hm⟩
theorem RJ.call {P : List (List (List Int))} {k : Nat} {T T' T2 : List Bool} {i j m : Nat} (h : RJ P k T i j T') (hk : k < P.length) (hi : i < P[k].length) (hj : j < P[k][i].length) (g : P[k][i][j] = 100 + (m : Int)) (hp : RPost P m T' T2) : RJ P k T i (j + 1) T2 :=
  ⟨h.up.trans hp.up, fun n h1 h2 q hq => by
    by_cases e : T'.getD n false = true
    · exact hp.up.2 _ (h.closed n e h2 q hq)
    · exact hp.closed n h1 (by simpa using e) q hq, fun S hS hSk n hn => by
    have hm : S m := hS k m hSk ⟨hk, i, hi, j, hj, g⟩
    rcases hp.sound S hS hm n hn with h1 | h1
    · exact h.sound S hS hSk n h1
    · exact .inr h1, fun hk' i' hi' j' hj' ho q hq => by
    by_cases e : i' = i ∧ j' = j
    · obtain ⟨e1, e2⟩ := e; subst e1; subst e2
      have : q = m := by omega
      subst this; exact hp.there
    · exact hp.up.2 _ (h.rows hk' i' hi' j' hj' (by omega) q hq)⟩
theorem RJ.row {P : List (List (List Int))} {k : Nat} {T T' : List Bool} {i : Nat} {R : List Int} (h : RJ P k T i R.length T') (hk : k < P.length) (hi : i < P[k].length) (hR : P[k][i] = R) : RJ P k T (i + 1) 0 T' :=
  ⟨h.up, h.closed, h.sound, fun hk' i' hi' j' hj' ho m hm => by
    refine h.rows hk' i' hi' j' hj' ?_ m hm
    by_cases e : i' = i
    · subst e; rw [← hR]; exact .inr ⟨rfl, hj'⟩
    · exact .inl (by omega)⟩
theorem set_up {T : List Bool} {k : Nat} (hk : k < T.length) (n : Nat) : (T.set k true).getD n false = true ↔ n = k ∨ T.getD n false = true := by
  rw [getD_setB]
  by_cases e : n = k
  · simp [e, hk]
  · simp [e]
theorem RJ.done {P : List (List (List Int))} {k : Nat} {T T' : List Bool} (hk : k < P.length) (hl : k < T.length) (h : RJ P k (T.set k true) P[k].length 0 T') : RPost P k T T' := by
  have hkk : T'.getD k false = true := h.up.2 k ((set_up hl k).2 (.inl rfl))
  refine ⟨⟨by have := h.up.1; simpa using this, fun n hn => h.up.2 n ((set_up hl n).2 (.inr hn))⟩, hkk, fun n h1 h2 m hm => ?_, fun S hS hSk n hn => ?_⟩
  · by_cases e : n = k
    · subst e
      obtain ⟨hn, i, hi, j, hj, g⟩ := hm
      exact h.rows hn i hi j hj (.inl hi) m g
    · refine h.closed n h1 ?_ m hm
      rw [Bool.eq_false_iff]; intro h3
      rcases (set_up hl n).1 h3 with h3 | h3
      · exact e h3
      · rw [h2] at h3; cases h3
  · rcases h.sound S hS hSk n hn with h1 | h1
    · rcases (set_up hl n).1 h1 with h3 | h3
      · subst h3; exact .inr hSk
      · exact .inl h3
    · exact .inr h1
theorem RJ.cnt {P : List (List (List Int))} {k : Nat} {T T' : List Bool} {i j d : Nat} (hl : k < T.length) (hT : T.getD k false = false) (hd : 27 ≤ cntB T + (d + 1)) (h : RJ P k (T.set k true) i j T') : 27 ≤ cntB T' + d := by
  have e : T[k] = false := by simpa [List.getD, hl] using hT
  have h1 := cntB_set hl e
  have h2 := h.up.cnt
  omega
theorem RJ.len {P : List (List (List Int))} {k : Nat} {T T' : List Bool} {i j : Nat} (h : RJ P k (T.set k true) i j T') : T'.length = T.length := by
  have := h.up.1; simpa using this
theorem all_up : ∀ {T : List Bool}, T.length ≤ cntB T → ∀ {k : Nat}, k < T.length → T.getD k false = true
  | [], _, _, hk => by simp at hk
  | x :: xs, h, k, hk => by
    have h1 := cntB_le xs
    simp only [cntB, List.length_cons] at h
    cases x
    · simp at h; omega
    · cases k with
      | zero => rfl
      | succ k =>
        have := all_up (T := xs) (by simp at h; omega) (k := k) (by simpa using hk)
        simpa [List.getD] using this
theorem reachL_mem {P : List (List (List Int))} (hok : gramOkB P = true) {x : Int} (h : x ∈ reachL P) : 0 ≤ x ∧ x < 20 := by
  have F := Fits.of hok
  have hp := F.parts
  have h0 : 0 < P.length := by
    simp only [gramOkB, Bool.and_eq_true] at hok
    have := inB_true.1 hok.1
    omega
  have := (reachT_setB (SymsIn.of hok) h0 (P.length + 1)).lt x h
  omega
theorem reachOf_is {P : List (List (List Int))} (hok : gramOkB P = true) {T : List Bool} (hl : T.length = 27) (h : RPost P 0 (List.replicate 27 false) T) : T = flagsOf (reachL P) := by
  have F := Fits.of hok
  have h0 : 0 < P.length := by
    simp only [gramOkB, Bool.and_eq_true] at hok
    have := inB_true.1 hok.1
    omega
  have sound : ∀ n : Nat, T.getD n false = true → (n : Int) ∈ reachL P := by
    intro n hn
    have := h.sound (fun n => (n : Int) ∈ reachL P) (fun n m h1 h2 => by
      obtain ⟨hk, i, hi, j, hj, g⟩ := h2
      have := reachT_closed (SymsIn.of hok) h0 hk hi hj h1 (by omega)
      rwa [g, show 100 + (m : Int) - 100 = m by omega] at this) (reachT_zero P _) n hn
    rcases this with h1 | h1
    · rw [rep_getD] at h1; cases h1
    · exact h1
  have compl : ∀ x ∈ reachL P, ∃ n : Nat, x = n ∧ T.getD n false = true := by
    refine reachT_sound (S := fun x => ∃ n : Nat, x = n ∧ T.getD n false = true) ⟨0, rfl, h.there⟩ (fun k hk i hi j hj hS g => ?_) _
    obtain ⟨n, hn, hT⟩ := hS
    have e : n = k := by omega
    subst e
    refine ⟨(P[n][i][j] - 100).toNat, by omega, h.closed n hT (rep_getD _ _) _ ⟨hk, i, hi, j, hj, by omega⟩⟩
  apply list_ext_getD (by rw [hl, flagsOf_length])
  intro n hn
  rw [flagsOf_get _ (by omega), Bool.eq_iff_iff]
  constructor
  · intro h; exact hasL_yes (sound n h)
  · intro h
    obtain ⟨m, hm, h2⟩ := compl n (by simpa [hasL] using h)
    rwa [show n = m by omega]
end Go.Proofs.Ytdniejpblhbjkab
