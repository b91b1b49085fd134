/-
  The flags that emptiesOf raises are those of the parts that can become nothing. No statement is proved here.
-/
import Derived.Test.YtdniejpblhbjkabEmptiesOf
namespace Go.Proofs.Ytdniejpblhbjkab
open Go.RowKit

theorem emptiesL_mem {P : List (List (List Int))} (F : Fits P) {x : Int} (h : x ∈ emptiesL P) : 0 ≤ x ∧ x < 20 := by
  have := (growT_setB (p := allE) P (P.length + 1)).lt x h
  have := F.parts
  omega
theorem rep_getD (m n : Nat) : (List.replicate m false).getD n false = false := by
  rw [List.getD_eq_getElem?_getD, List.getElem?_replicate]
  split <;> rfl
theorem getD_setB (T : List Bool) (k n : Nat) (v : Bool) : (T.set k v).getD n false = if n = k ∧ k < T.length then v else T.getD n false := by
  by_cases e : n = k
  · subst e
    by_cases h : n < T.length
    · simp [List.getD, h]
    · simp [List.getD, h]
  · simp [List.getD, e, Ne.symm e]
theorem allB_of {T : List Bool} {E row : List Int} (hz : ∀ z ∈ row, 0 ≤ z ∧ z < 120) (h : ∀ n : Nat, (n : Int) ∈ E → T.getD n false = true) (g : allE row E = true) : allB T row = true := by
  unfold allE at g
  unfold allB
  rw [List.all_eq_true] at g ⊢
  intro x hx
  have h1 := g x hx
  have h2 := hz x hx
  simp only [Bool.and_eq_true, decide_eq_true_eq] at h1 ⊢
  refine ⟨⟨h1.1, by omega⟩, h _ ?_⟩
  have h3 : x - 100 ∈ E := by simpa [hasL] using h1.2
  rwa [show (((x - 100).toNat : Nat) : Int) = x - 100 by omega]
theorem allE_of {T : List Bool} {E row : List Int} (h : ∀ n : Nat, T.getD n false = true → (n : Int) ∈ E) (g : allB T row = true) : allE row E = true := by
  unfold allB at g
  unfold allE
  rw [List.all_eq_true] at g ⊢
  intro x hx
  have h1 := g x hx
  simp only [Bool.and_eq_true, decide_eq_true_eq] at h1 ⊢
  refine ⟨h1.1.1, ?_⟩
  have h3 := h _ h1.2
  rw [show (((x - 100).toNat : Nat) : Int) = x - 100 by omega] at h3
  exact hasL_yes h3
theorem emptiesOf_is {P : List (List (List Int))} (F : Fits P) {T : List Bool} (hl : T.length = 27) (hG : Grows eS P (List.replicate 27 false) T) (hx : leK eS P T P.length = T) : T = flagsOf (emptiesL P) := by
  have sound : ∀ n : Nat, T.getD n false = true → (n : Int) ∈ emptiesL P := by
    refine hG (fun T => ∀ n : Nat, T.getD n false = true → (n : Int) ∈ emptiesL P) (fun n hn => ?_) (fun k hk i hi T hT n hn => ?_)
    · rw [rep_getD] at hn; cases hn
    · simp only [eS, bstep] at hn
      rw [getD_setB] at hn
      split at hn
      · rename_i e
        rw [Bool.or_eq_true] at hn
        rcases hn with hn | hn
        · rw [e.1]; exact hT k hn
        · rw [e.1]; exact growT_closed hk hi (allE_of hT hn)
      · exact hT n hn
  have fix : ∀ k (hk : k < P.length) i (hi : i < P[k].length), allB T P[k][i] = true → T.getD k false = true := by
    intro k hk i hi ha
    have e := (eS_raises P).fix hl hx hk hi
    have h20 := F.parts
    have := bstep_fix (s := (k, fun b => allB b P[k][i])) e (by show k < T.length; omega) ha
    simp only [List.getD, List.getElem?_eq_getElem (show k < T.length by omega), Option.getD_some]
    exact this
  have compl : ∀ x ∈ emptiesL P, ∃ n : Nat, x = n ∧ T.getD n false = true := by
    refine growT_sound (p := allE) (S := fun x => ∃ n : Nat, x = n ∧ T.getD n false = true) (fun k hk i hi E hE ha => ⟨k, rfl, fix k hk i hi ?_⟩) _
    refine allB_of (E := E) (F.syms _ (List.getElem_mem hk) _ (List.getElem_mem hi)) (fun n hn => ?_) ha
    obtain ⟨m, hm, h⟩ := hE _ hn
    rwa [show n = m by omega]
  apply list_ext_getD (by rw [hl, flagsOf_length])
  intro n hn
  rw [flagsOf_get _ (by omega), Bool.eq_iff_iff]
  constructor
  · intro h; exact hasL_yes (sound n h)
  · intro h
    obtain ⟨m, hm, h2⟩ := compl n (by simpa [hasL] using h)
    rwa [show n = m by omega]
theorem nums_flags {E : List Int} (hs : E.Pairwise (· < ·)) (hb : ∀ x ∈ E, 0 ≤ x ∧ x < 27) {f : Nat → Bool} (hf : ∀ n, n < 27 → f n = hasL E (n : Int)) : numsB f 27 = E := by
  refine eq_of_pair (numsB_sorted _ _) hs fun z => ?_
  rw [mem_numsB]
  constructor
  · rintro ⟨n, h1, rfl, h2⟩
    rw [hf n h1] at h2
    simpa [hasL] using h2
  · intro h
    have hz := hb z h
    refine ⟨z.toNat, by omega, by omega, ?_⟩
    rw [hf _ (by omega), show ((z.toNat : Nat) : Int) = z by omega]
    exact hasL_yes h
theorem allB_flags {E : List Int} (hb : ∀ x ∈ E, 0 ≤ x ∧ x < 20) (row : List Int) : allB (flagsOf E) row = allE row E := by
  unfold allB allE
  congr 1
  funext x
  by_cases h1 : 100 ≤ x
  · by_cases h2 : x - 100 < 20
    · rw [flagsOf_get _ (by omega), show (((x - 100).toNat : Nat) : Int) = x - 100 by omega]
      simp [h1, h2]
    · have : hasL E (x - 100) = false := hasL_no (fun h => by have := hb _ h; omega)
      simp [h2, this]
  · simp [h1]

set_option maxRecDepth 100000 in
theorem emptiesOf_any (P : List (List (List Int))) (a0 : Option Addr) (c0 : Nat) (w : World) (h0 : RD w (.slice a0 P.length c0) (slD (Lay.list (Lay.list Lay.int)) P)) (hok : gramOkB P = true) :
    Calls Try.prog 54 #[.agg #[.slice a0 P.length c0]] w fun e w' => e = .returned (aggB (flagsOf (emptiesL P))) ∧ Below w.heap.size w w' := by
  refine (emptiesOf_grow P a0 c0 w h0 hok).mono ?_
  rintro e w' ⟨T, rfl, h1, h2, h3, h4⟩
  exact ⟨by rw [emptiesOf_is (Fits.of hok) h1 h2 h3], h4⟩
end Go.Proofs.Ytdniejpblhbjkab
