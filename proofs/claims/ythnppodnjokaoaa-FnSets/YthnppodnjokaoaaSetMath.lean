/-
  Plain facts on lists of integers: putting in, joining, order. No statement is proved here.
-/
import Derived.Test.YthnppodnjokaoaaBase
namespace Go.Proofs.Ythnppodnjokaoaa

theorem mem_addL {zs : List Int} {x z : Int} : z ∈ addL zs x ↔ z = x ∨ z ∈ zs := by
  unfold addL
  split
  · constructor
    · exact .inr
    · rintro (rfl | h)
      · assumption
      · exact h
  · have e : ∀ p, z ∈ zs.take p ++ [x] ++ zs.drop p ↔ z = x ∨ z ∈ zs := by
      intro p
      have : z ∈ zs ↔ z ∈ zs.take p ∨ z ∈ zs.drop p := by rw [← List.mem_append, List.take_append_drop]
      rw [this]; simp only [List.mem_append, List.mem_singleton]
      constructor
      · rintro ((h | h) | h)
        · exact .inr (.inl h)
        · exact .inl h
        · exact .inr (.inr h)
      · rintro (h | h | h)
        · exact .inl (.inr h)
        · exact .inl (.inl h)
        · exact .inr h
    exact e _

theorem mem_joinL {xs ys : List Int} {z : Int} : z ∈ joinL xs ys ↔ z ∈ xs ∨ z ∈ ys := by
  induction ys generalizing xs with
  | nil => simp [joinL]
  | cons y ys ih =>
    show z ∈ joinL (addL xs y) ys ↔ _
    rw [ih, mem_addL]
    simp only [List.mem_cons]
    constructor
    · rintro ((h | h) | h)
      · exact .inr (.inl h)
      · exact .inl h
      · exact .inr (.inr h)
    · rintro (h | h | h)
      · exact .inl (.inr h)
      · exact .inl (.inl h)
      · exact .inr h

theorem hasL_join_left {xs ys : List Int} {k : Nat} (h : k < xs.length) : hasL (joinL xs ys) xs[k] = true := hasL_yes (mem_joinL.2 (.inl (List.getElem_mem h)))
theorem hasL_join_right {xs ys : List Int} {k : Nat} (h : k < ys.length) : hasL (joinL xs ys) ys[k] = true := hasL_yes (mem_joinL.2 (.inr (List.getElem_mem h)))

/-- Each number is below all that follow. -/
theorem pair_of_ok {zs : List Int} (h : okL zs = true) : zs.Pairwise (· < ·) := by
  simp only [okL, decide_eq_true_eq] at h
  have step : ∀ d i, i + d + 1 < zs.length → zs.getD i 0 < zs.getD (i + d + 1) 0 := by
    intro d
    induction d with
    | zero => intro i hi; exact h i (by omega)
    | succ d ih =>
      intro i hi
      have h1 := ih i (by omega)
      have h2 := h (i + d + 1) (by omega)
      have e : i + (d + 1) + 1 = i + d + 1 + 1 := by omega
      rw [e]
      omega
  rw [List.pairwise_iff_getElem]
  intro i j hi hj hij
  have := step (j - i - 1) i (by omega)
  rw [show i + (j - i - 1) + 1 = j by omega] at this
  simpa [List.getD, hi, hj] using this

theorem ok_of_pair {zs : List Int} (h : zs.Pairwise (· < ·)) : okL zs = true := by
  simp only [okL, decide_eq_true_eq]
  intro j hj
  rw [List.pairwise_iff_getElem] at h
  have := h j (j + 1) (by omega) (by omega) (by omega)
  have h1 : j < zs.length := by omega
  have h2 : j + 1 < zs.length := by omega
  simpa [List.getD, h1, h2] using this

theorem place_cons (z : Int) (zs : List Int) (x : Int) : placeL (z :: zs) x = if x < z then 0 else placeL zs x + 1 := by
  unfold placeL
  rw [List.findIdx_cons]
  by_cases h : x < z <;> simp [h]

theorem pair_add {zs : List Int} {x : Int} (h : zs.Pairwise (· < ·)) (hx : x ∉ zs) : (zs.take (placeL zs x) ++ [x] ++ zs.drop (placeL zs x)).Pairwise (· < ·) := by
  induction zs with
  | nil => simp [placeL]
  | cons z zs ih =>
    rw [List.pairwise_cons] at h
    rw [place_cons]
    by_cases hz : x < z
    · rw [if_pos hz]
      simp only [List.take_zero, List.nil_append, List.drop_zero, List.singleton_append]
      rw [List.pairwise_cons, List.pairwise_cons]
      refine ⟨fun a ha => ?_, h⟩
      rcases List.mem_cons.1 ha with rfl | ha
      · exact hz
      · have := h.1 a ha; omega
    · rw [if_neg hz]
      simp only [List.take_succ_cons, List.drop_succ_cons, List.cons_append]
      rw [List.pairwise_cons]
      refine ⟨fun a ha => ?_, ih h.2 (fun hm => hx (List.mem_cons_of_mem _ hm))⟩
      have hne : x ≠ z := fun e => hx (by rw [e]; exact List.mem_cons_self ..)
      have : a = x ∨ a ∈ zs := by
        simp only [List.mem_append, List.mem_singleton] at ha
        rcases ha with (ha | ha) | ha
        · exact .inr (List.mem_of_mem_take ha)
        · exact .inl ha
        · exact .inr (List.mem_of_mem_drop ha)
      rcases this with rfl | hm
      · omega
      · exact h.1 a hm

theorem pair_addL {zs : List Int} {x : Int} (h : zs.Pairwise (· < ·)) : (addL zs x).Pairwise (· < ·) := by
  unfold addL
  split
  · exact h
  · exact pair_add h ‹_›

theorem pair_joinL {xs ys : List Int} (h : xs.Pairwise (· < ·)) : (joinL xs ys).Pairwise (· < ·) := by
  induction ys generalizing xs with
  | nil => exact h
  | cons y ys ih => exact ih (pair_addL h)

theorem eq_of_pair : ∀ {xs ys : List Int}, xs.Pairwise (· < ·) → ys.Pairwise (· < ·) → (∀ z, z ∈ xs ↔ z ∈ ys) → xs = ys
  | [], [], _, _, _ => rfl
  | [], y :: ys, _, _, h => absurd ((h y).2 (List.mem_cons_self ..)) (by simp)
  | x :: xs, [], _, _, h => absurd ((h x).1 (List.mem_cons_self ..)) (by simp)
  | x :: xs, y :: ys, hx, hy, h => by
    rw [List.pairwise_cons] at hx hy
    have hxy : x = y := by
      have h1 := (h x).1 (List.mem_cons_self ..)
      have h2 := (h y).2 (List.mem_cons_self ..)
      rcases List.mem_cons.1 h1 with e | h1
      · exact e
      · rcases List.mem_cons.1 h2 with e | h2
        · exact e.symm
        · have a := hy.1 x h1
          have b := hx.1 y h2
          omega
    subst hxy
    congr 1
    refine eq_of_pair hx.2 hy.2 fun z => ⟨fun hz => ?_, fun hz => ?_⟩
    · have := hx.1 z hz
      rcases List.mem_cons.1 ((h z).1 (List.mem_cons_of_mem _ hz)) with e | e
      · omega
      · exact e
    · have := hy.1 z hz
      rcases List.mem_cons.1 ((h z).2 (List.mem_cons_of_mem _ hz)) with e | e
      · omega
      · exact e

theorem join_comm {xs ys : List Int} (hx : okL xs = true) (hy : okL ys = true) : joinL xs ys = joinL ys xs :=
  eq_of_pair (pair_joinL (pair_of_ok hx)) (pair_joinL (pair_of_ok hy)) fun z => by rw [mem_joinL, mem_joinL, Or.comm]
theorem join_ok {xs ys : List Int} (hx : okL xs = true) : okL (joinL xs ys) = true := ok_of_pair (pair_joinL (pair_of_ok hx))

theorem cmpL_self (xs : List Int) : cmpL xs xs = 0 := by
  induction xs with
  | nil => rfl
  | cons x xs ih => simp [cmpL, ih]
theorem cmpL_bound : ∀ xs ys : List Int, -1 ≤ cmpL xs ys ∧ cmpL xs ys ≤ 1
  | [], [] => by simp [cmpL]
  | [], _ :: _ => by simp [cmpL]
  | _ :: _, [] => by simp [cmpL]
  | x :: xs, y :: ys => by
    have := cmpL_bound xs ys
    rw [cmpL]
    split
    · omega
    · split <;> omega
theorem cmpL_swap : ∀ xs ys : List Int, cmpL ys xs = - cmpL xs ys
  | [], [] => rfl
  | [], _ :: _ => rfl
  | _ :: _, [] => rfl
  | x :: xs, y :: ys => by
    have := cmpL_swap xs ys
    rw [cmpL, cmpL]
    by_cases h1 : x < y
    · rw [if_neg (by omega), if_pos h1, if_pos h1]; rfl
    · by_cases h2 : y < x
      · rw [if_pos h2, if_neg h1, if_pos h2]
      · rw [if_neg h2, if_neg h1, if_neg h1, if_neg h2, this]
theorem cmpL_trans : ∀ xs ys zs : List Int, cmpL xs ys ≤ 0 → cmpL ys zs ≤ 0 → cmpL xs zs ≤ 0
  | [], _, [], _, _ => by simp [cmpL]
  | [], _, _ :: _, _, _ => by simp [cmpL]
  | _ :: _, [], _, h, _ => by simp [cmpL] at h
  | _ :: _, _ :: _, [], _, h => by simp [cmpL] at h
  | x :: xs, y :: ys, z :: zs, h, g => by
    rw [cmpL] at h g ⊢
    have ih := cmpL_trans xs ys zs
    split at h
    · split at g
      · rw [if_pos (by omega)]; omega
      · split at g
        · omega
        · rw [if_pos (by omega)]; omega
    · split at h
      · omega
      · split at g
        · rw [if_pos (by omega)]; omega
        · split at g
          · omega
          · rw [if_neg (by omega), if_neg (by omega)]
            exact ih h g
end Go.Proofs.Ythnppodnjokaoaa
