/-
  What the rows' steps of startsOf raise is what the sets of the parts with which parts can begin have. Plain mathematics. No statement is proved here.
-/
import Derived.Test.YtdniejpblhbjkabStartsB
import Derived.Test.YtdniejpblhbjkabEmptiesMath
import Derived.Test.YtdniejpblhbjkabStartsClosed
namespace Go.Proofs.Ytdniejpblhbjkab
open Go.RowKit

/-- As it was, or with more flags. -/
def Up (A B : List Bool) : Prop := B.length = A.length ∧ (B = A ∨ cntB A < cntB B)
theorem Up.refl (A : List Bool) : Up A A := ⟨rfl, .inl rfl⟩
theorem Up.trans {A B C : List Bool} (h : Up A B) (g : Up B C) : Up A C := by
  refine ⟨by rw [g.1, h.1], ?_⟩
  rcases h.2 with rfl | h2
  · exact g.2
  · rcases g.2 with rfl | g2
    · exact .inr h2
    · exact .inr (by omega)
theorem Up.fix {A B C : List Bool} (h : Up A B) (g : Up B C) (e : C = A) : B = A := by
  rcases h.2 with h2 | h2
  · exact h2
  · rcases g.2 with g2 | g2
    · rw [← g2]; exact e
    · subst e; omega
theorem Up.bstep (A : List Bool) (s : Nat × (List Bool → Bool)) : Up A (bstep A s) := ⟨bstep_length _ _, bstep_or _ _⟩
theorem Up.set (A : List Bool) (i : Nat) : Up A (A.set i true) := by
  have := Up.bstep A (i, fun _ => true)
  simpa only [Go.Proofs.Ytdniejpblhbjkab.bstep, Bool.or_true] using this
theorem Up.joinTo (A : List Bool) (off : Nat) (cs : List Bool) (k : Nat) : Up A (joinTo A off cs k) := by
  induction k with
  | zero => exact Up.refl _
  | succ k ih => exact ih.trans (Up.bstep _ (off + k, fun _ => cs.getD k false))
theorem Up.joinB (A : List Bool) (off : Nat) (cs : List Bool) : Up A (joinB A off cs) := Up.joinTo _ _ _ _
theorem Up.stX (k n : Nat) (T : List Bool) : Up T (stX k n T) := (Up.set T _).trans (Up.joinB _ _ _)
theorem Up.stB (E : List Bool) (k : Nat) : ∀ (row : List Int) (T : List Bool), Up T (stB E k T row)
  | [], T => by rw [Go.Proofs.Ytdniejpblhbjkab.stB]; exact Up.refl _
  | x :: xs, T => by
    rw [Go.Proofs.Ytdniejpblhbjkab.stB]
    split
    · split
      · exact (Up.stX _ _ _).trans (Up.stB E k xs _)
      · exact Up.stX _ _ _
    · exact Up.refl _
theorem chunk_get (T : List Bool) (n c : Nat) (hc : c < 27) : ((T.drop (n * 27)).take 27).getD c false = T.getD (n * 27 + c) false := by
  simp [List.getD, hc]
theorem stX_get {k n : Nat} {T : List Bool} (hT : T.length = 540) (hk : k < 20) (hn : n < 20) {j c : Nat} (hj : j < 20) (hc : c < 27) :
    (stX k n T).getD (j * 27 + c) false = true ↔ (T.getD (j * 27 + c) false = true ∨ (j = k ∧ (c = n ∨ T.getD (n * 27 + c) false = true))) := by
  have hl : (T.set (k * 27 + n) true).length = 540 := by rw [List.length_set]; exact hT
  have g : ∀ i d, i < 20 → d < 27 → (T.set (k * 27 + n) true).getD (i * 27 + d) false = (T.getD (i * 27 + d) false || decide (i = k ∧ d = n)) := by
    intro i d hi hd
    rw [getD_setB]
    by_cases e : i = k ∧ d = n
    · rw [if_pos ⟨by rw [e.1, e.2], by omega⟩, decide_eq_true e, Bool.or_true]
    · rw [if_neg (by intro h; omega), decide_eq_false e, Bool.or_false]
  rw [stX, joinB_get (by rw [hl]; omega), g j c hj hc]
  by_cases e : j = k
  · subst e
    rw [decide_eq_true (show j * 27 ≤ j * 27 + c ∧ j * 27 + c < j * 27 + 27 by omega), Bool.true_and, show j * 27 + c - j * 27 = c by omega, chunk_get _ _ _ hc, g n c hn hc]
    simp only [Bool.or_eq_true, decide_eq_true_eq, true_and]
    constructor
    · rintro ((h | h) | (h | ⟨_, h⟩))
      · exact .inl h
      · exact .inr (.inl h)
      · exact .inr (.inr h)
      · exact .inr (.inl h)
    · rintro (h | h | h)
      · exact .inl (.inl h)
      · exact .inl (.inr h)
      · exact .inr (.inl h)
  · rw [decide_eq_false (show ¬ (k * 27 ≤ j * 27 + c ∧ j * 27 + c < k * 27 + 27) by omega), Bool.false_and, Bool.or_false, decide_eq_false (by intro h; exact e h.1), Bool.or_false]
    constructor
    · exact .inl
    · rintro (h | ⟨h, _⟩)
      · exact h
      · exact absurd h e
theorem symsOk {P : List (List (List Int))} (h : gramOkB P = true) {k i : Nat} (hk : k < P.length) (hi : i < P[k].length) : ∀ z ∈ P[k][i], (0 ≤ z ∧ z ≤ 25) ∨ (100 ≤ z ∧ z < 100 + P.length) := by
  simp only [gramOkB, Bool.and_eq_true, inB_true, List.all_eq_true, partOk, rowOk, decide_eq_true_eq] at h
  intro z hz
  have := symOk_true.1 (((h.2 _ (List.getElem_mem hk)).2 _ (List.getElem_mem hi)).2 z hz)
  omega
def stR (E : List Bool) (k : Nat) (row : List Int) (T : List Bool) : List Bool := stB E k T row
theorem stR_raises (E : List Bool) (P : List (List (List Int))) : Raises (stR E) P 540 := fun k _ i _ T hT => by
  have := Up.stB E k P[k][i] T
  exact ⟨by rw [stR, this.1]; exact hT, this.2⟩
theorem stB_fix {E : List Int} {k : Nat} (hk : k < 20) : ∀ (row : List Int) (T : List Bool), (∀ z ∈ row, (0 ≤ z ∧ z ≤ 25) ∨ (100 ≤ z ∧ z < 120)) → T.length = 540 → stB (flagsOf E) k T row = T → ∀ x ∈ lead E row, T.getD (k * 27 + (x - 100).toNat) false = true ∧ ∀ c, c < 27 → T.getD ((x - 100).toNat * 27 + c) false = true → T.getD (k * 27 + c) false = true
  | [], T, _, _, _, x, hx => by simp [lead] at hx
  | y :: ys, T, hz, hT, he, x, hx => by
    have hy := hz y List.mem_cons_self
    by_cases h100 : 100 ≤ y
    · have hn : (y - 100).toNat < 20 := by omega
      have hyn : (((y - 100).toNat : Nat) : Int) = y - 100 := by omega
      have hfl : (flagsOf E).getD (y - 100).toNat false = hasL E (y - 100) := by rw [flagsOf_get _ (by omega), hyn]
      rw [stB, if_pos h100, hfl] at he
      rw [lead, if_pos h100] at hx
      have e1 : stX k (y - 100).toNat T = T := by
        split at he
        · exact Up.fix (Up.stX _ _ _) (Up.stB _ _ _ _) he
        · exact he
      have here : T.getD (k * 27 + (y - 100).toNat) false = true ∧ ∀ c, c < 27 → T.getD ((y - 100).toNat * 27 + c) false = true → T.getD (k * 27 + c) false = true := by
        refine ⟨?_, fun c hc h => ?_⟩
        · have := (stX_get (T := T) hT hk hn hk (show (y - 100).toNat < 27 by omega)).2 (.inr ⟨rfl, .inl rfl⟩)
          rwa [e1] at this
        · have := (stX_get (T := T) hT hk hn hk hc).2 (.inr ⟨rfl, .inr h⟩)
          rwa [e1] at this
      rcases List.mem_cons.1 hx with rfl | hx
      · exact here
      · split at hx
        · rename_i hE
          rw [if_pos hE, e1] at he
          exact stB_fix hk ys T (fun z h => hz z (List.mem_cons_of_mem _ h)) hT he x hx
        · simp at hx
    · rw [lead, if_neg h100] at hx; simp at hx
theorem stB_keeps {E : List Int} {k : Nat} (hk : k < 20) {S : Nat → Int → Prop} : ∀ (row : List Int) (T : List Bool), (∀ z ∈ row, (0 ≤ z ∧ z ≤ 25) ∨ (100 ≤ z ∧ z < 120)) → T.length = 540 → (∀ x ∈ lead E row, S k (x - 100) ∧ ∀ c, S (x - 100).toNat c → S k c) → (∀ j c, j < 20 → c < 27 → T.getD (j * 27 + c) false = true → S j (c : Int)) → ∀ j c, j < 20 → c < 27 → (stB (flagsOf E) k T row).getD (j * 27 + c) false = true → S j (c : Int)
  | [], T, _, _, _, h, j, c, hj, hc, hg => by rw [stB] at hg; exact h j c hj hc hg
  | y :: ys, T, hz, hT, hS, h, j, c, hj, hc, hg => by
    have hy := hz y List.mem_cons_self
    by_cases h100 : 100 ≤ y
    · have hn : (y - 100).toNat < 20 := by omega
      have hyn : (((y - 100).toNat : Nat) : Int) = y - 100 := by omega
      have hfl : (flagsOf E).getD (y - 100).toNat false = hasL E (y - 100) := by rw [flagsOf_get _ (by omega), hyn]
      rw [stB, if_pos h100, hfl] at hg
      have hy2 := hS y (by rw [lead, if_pos h100]; exact List.mem_cons_self)
      have hX : ∀ j c, j < 20 → c < 27 → (stX k (y - 100).toNat T).getD (j * 27 + c) false = true → S j (c : Int) := by
        intro j c hj hc hg
        rcases (stX_get hT hk hn hj hc).1 hg with h1 | ⟨rfl, h1 | h1⟩
        · exact h j c hj hc h1
        · rw [h1, hyn]; exact hy2.1
        · exact hy2.2 _ (h _ c hn hc h1)
      split at hg
      · rename_i hE
        refine stB_keeps hk ys _ (fun z h => hz z (List.mem_cons_of_mem _ h)) (by rw [stX_length]; exact hT) (fun x hx => hS x ?_) hX j c hj hc hg
        rw [lead, if_pos h100, if_pos hE]; exact List.mem_cons_of_mem _ hx
      · exact hX j c hj hc hg
    · rw [stB, if_neg h100] at hg
      exact h j c hj hc hg
theorem lead_part {E : List Int} : ∀ {row : List Int}, (∀ z ∈ row, (0 ≤ z ∧ z ≤ 25) ∨ (100 ≤ z ∧ z < 120)) → ∀ {x : Int}, x ∈ lead E row → 100 ≤ x ∧ x < 120
  | [], _, x, h => by simp [lead] at h
  | y :: ys, hz, x, h => by
    rw [lead] at h
    split at h
    · rcases List.mem_cons.1 h with rfl | h
      · have := hz x List.mem_cons_self; omega
      · split at h
        · exact lead_part (fun z hz2 => hz z (List.mem_cons_of_mem _ hz2)) h
        · simp at h
    · simp at h
/-- The table that startsOf answers. -/
theorem startsOf_is {P : List (List (List Int))} (hok : gramOkB P = true) {T : List Bool} (hl : T.length = 540) (hG : Grows (stR (flagsOf (emptiesL P))) P (List.replicate 540 false) T) (hx : leK (stR (flagsOf (emptiesL P))) P T P.length = T) {k : Nat} (hk : k < P.length) :
    numsB (fun c => T.getD (k * 27 + c) false) 27 = (startsL P).getD k [] := by
  have F := Fits.of hok
  have hp := F.parts
  have sy : ∀ k (hk : k < P.length) i (hi : i < P[k].length), ∀ z ∈ P[k][i], (0 ≤ z ∧ z ≤ 25) ∨ (100 ≤ z ∧ z < 120) := fun k hk i hi z hz => by have := symsOk hok hk hi z hz; omega
  have sound := hG (fun T => T.length = 540 ∧ ∀ j c, j < 20 → c < 27 → T.getD (j * 27 + c) false = true → (c : Int) ∈ (startsL P).getD j []) ⟨List.length_replicate, fun j c _ _ h => by rw [rep_getD] at h; cases h⟩
    (fun k hk i hi T hT => ⟨by rw [stR, (Up.stB _ _ _ _).1]; exact hT.1, stB_keeps (S := fun j c => c ∈ (startsL P).getD j []) (by omega) P[k][i] T (sy k hk i hi) hT.1 (fun x hx => ⟨stT_closed hk hi hx (.inl rfl), fun c hc => stT_closed hk hi hx (.inr hc)⟩) hT.2⟩)
  have compl : ∀ c ∈ (startsL P).getD k [], T.getD (k * 27 + c.toNat) false = true := by
    have := stT_sound (E := emptiesL P) (P := P) (S := fun j c => 0 ≤ c ∧ c < 27 ∧ T.getD (j * 27 + c.toNat) false = true) (fun k hk i hi x hm => by
      have hfx := (stR_raises (flagsOf (emptiesL P)) P).fix hl hx hk hi
      have hb := stB_fix (E := emptiesL P) (k := k) (by omega) P[k][i] T (sy k hk i hi) hl hfx x hm
      have hxr : 100 ≤ x ∧ x < 120 := lead_part (sy k hk i hi) hm
      refine ⟨⟨by omega, by omega, hb.1⟩, fun c hc => ⟨hc.1, hc.2.1, hb.2 c.toNat (by omega) hc.2.2⟩⟩) (P.length + 1) k
    exact fun c hc => (this c hc).2.2
  have hset := (stT_sets (emptiesL P) F (P.length + 1)).get (k := k)
  refine nums_flags (stT_sorted _ _ _ _) (fun x h => by have := hset.lt x h; omega) (fun n hn => ?_)
  rw [Bool.eq_iff_iff]
  constructor
  · intro h; exact hasL_yes (sound.2 k n (by omega) hn h)
  · intro h
    have h2 := compl n (of_decide_eq_true h)
    simpa using h2
end Go.Proofs.Ytdniejpblhbjkab
