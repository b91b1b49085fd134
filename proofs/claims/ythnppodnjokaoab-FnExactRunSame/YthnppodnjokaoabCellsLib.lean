/-
  The cells of a struct of several fields with depth: joined, one of them turned alone, taken from what a walk holds. Plain laws over any program. No statement is proved here.
-/
import Derived.Test.YthnppodnjokaoabMarkLib
namespace Go.Proofs.Ythnppodnjokaoab
open Go.RowKit

theorem hid {p : Prop} (h : p) : Hid p := h
theorem Cells.plain (w : World) (base : Nat) (ps : List Value) : Cells w base ps (ps.map Dat.val) (fun _ => False) :=
  ⟨fun _ _ => False, by simp, fun i h h' => by rw [List.getElem_map]; exact .val _, fun _ _ _ _ _ _ h => h.elim, fun k => by simp⟩
theorem Cells.join {w : World} {base : Nat} {us us' : List Value} {ds ds' : List Dat} {T T' : Nat → Prop} (h : Cells w base us ds T) (g : Cells w base us' ds' T') (hd : ∀ k, T k → ¬ T' k) : Cells w base (us ++ us') (ds ++ ds') (fun k => T k ∨ T' k) := by
  obtain ⟨G, hl, hr, hdj, hT⟩ := h
  obtain ⟨G', hl', hr', hdj', hT'⟩ := g
  refine ⟨fun i k => if i < us.length then G i k else G' (i - us.length) k, by simp [hl, hl'], ?_, ?_, ?_⟩
  · intro i hi hi'
    by_cases e : i < us.length
    · rw [List.getElem_append_left e, List.getElem_append_left (by omega)]
      simp only [if_pos e]
      exact hr i e (by omega)
    · have hu : i - us.length < us'.length := by simp at hi; omega
      rw [List.getElem_append_right (by omega), List.getElem_append_right (by omega)]
      simp only [if_neg e]
      have e2 : i - ds.length = i - us.length := by omega
      simp only [e2]
      exact hr' _ hu (by omega)
  · intro i j k hi hj hne h1 h2
    have ha : ∀ i, i < us.length → G i k → T k := fun i hi h => (hT k).2 ⟨i, hi, h⟩
    have hb : ∀ i, i < us'.length → G' i k → T' k := fun i hi h => (hT' k).2 ⟨i, hi, h⟩
    simp only [List.length_append] at hi hj
    by_cases e1 : i < us.length
    · simp only [if_pos e1] at h1
      by_cases e2 : j < us.length
      · simp only [if_pos e2] at h2
        exact hdj i j k e1 e2 hne h1 h2
      · simp only [if_neg e2] at h2
        exact hd k (ha i e1 h1) (hb _ (by omega) h2)
    · simp only [if_neg e1] at h1
      by_cases e2 : j < us.length
      · simp only [if_pos e2] at h2
        exact hd k (ha j e2 h2) (hb _ (by omega) h1)
      · simp only [if_neg e2] at h2
        exact hdj' _ _ k (by omega) (by omega) (by omega) h1 h2
  · intro k
    constructor
    · rintro (h | h)
      · obtain ⟨i, hi, hk⟩ := (hT k).1 h
        exact ⟨i, by simp; omega, by simp only [if_pos hi]; exact hk⟩
      · obtain ⟨i, hi, hk⟩ := (hT' k).1 h
        refine ⟨us.length + i, by simp; omega, ?_⟩
        have e : ¬ us.length + i < us.length := by omega
        simp only [if_neg e, Nat.add_sub_cancel_left]
        exact hk
    · rintro ⟨i, hi, hk⟩
      simp only [List.length_append] at hi
      by_cases e : i < us.length
      · simp only [if_pos e] at hk
        exact .inl ((hT k).2 ⟨i, e, hk⟩)
      · simp only [if_neg e] at hk
        exact .inr ((hT' k).2 ⟨_, by omega, hk⟩)
theorem Cells.nil (w : World) (base : Nat) {T : Nat → Prop} (h : ∀ k, ¬ T k) : Cells w base [] [] T :=
  ⟨fun _ _ => False, rfl, fun i h => by simp at h, fun i _ _ h => by simp at h, fun k => ⟨fun hk => absurd hk (h k), fun ⟨i, hi, _⟩ => by simp at hi⟩⟩
theorem Cells.congr {w : World} {base : Nat} {us : List Value} {ds : List Dat} {T U : Nat → Prop} (h : Cells w base us ds T) (e : ∀ k, U k ↔ T k) : Cells w base us ds U := by
  obtain ⟨G, hl, hr, hd, hT⟩ := h
  exact ⟨G, hl, hr, hd, fun k => (e k).trans (hT k)⟩
/-- One cell, and how all are put together again when it alone has turned. -/
theorem Cells.into {w : World} {base : Nat} {us : List Value} {ds : List Dat} {S : Nat → Prop} (h : Cells w base us ds S) (i : Nat) (hi : i < us.length) (hi' : i < ds.length) :
    ∃ T, OD w base us[i] ds[i] T ∧ (∀ k, T k → S k) ∧ ∀ w' d, OD w' base us[i] d T → Within w w' T → Cells w' base us (ds.set i d) S := by
  obtain ⟨G, hl, hr, hd, hT⟩ := h
  refine ⟨G i, hr i hi hi', fun k hk => (hT k).2 ⟨i, hi, hk⟩, fun w' d h' hw => ⟨G, by simpa using hl, fun j hj hj' => ?_, hd, hT⟩⟩
  by_cases e : j = i
  · subst e
    rw [List.getElem_set_self]; exact h'
  · rw [List.getElem_set_ne (by omega)]
    exact (hr j hj (by omega)).kept hw (fun k hk hk2 => hd j i k hj hi e hk hk2)
theorem Ents.cells {w : World} {base : Nat} : ∀ {E : List (List Value × List Dat)} {S : Nat → Prop}, Ents w base E S → Cells w base (E.flatMap (fun x => x.1)) (E.flatMap (fun x => x.2)) S
  | [], _, h => Cells.nil w base h
  | x :: E, _, ⟨T, U, hT, hU, hd, hS⟩ => by
    simp only [List.flatMap_cons]
    exact (Cells.join hT hU.cells hd).congr hS
theorem Ents.snoc {w : World} {base : Nat} {vs : List Value} {ds : List Dat} {T : Nat → Prop} (hc : Cells w base vs ds T) : ∀ {E : List (List Value × List Dat)} {S : Nat → Prop}, Ents w base E S → (∀ k, T k → ¬ S k) → Ents w base (E ++ [(vs, ds)]) (fun k => S k ∨ T k)
  | [], S, h, _ => ⟨T, fun _ => False, hc, fun _ h => h, fun _ _ h => h, fun k => ⟨fun hk => hk.elim (fun a => absurd a (h k)) .inl, fun hk => hk.elim .inr False.elim⟩⟩
  | x :: E, S, ⟨A, U, hA, hU, hd, hS⟩, hn => by
    refine ⟨A, fun k => U k ∨ T k, hA, Ents.snoc hc hU (fun k hk hk2 => hn k hk ((hS k).2 (.inr hk2))), fun k hk hk2 => ?_, fun k => ?_⟩
    · rcases hk2 with hk2 | hk2
      · exact hd k hk hk2
      · exact hn k hk2 ((hS k).2 (.inl hk))
    · show S k ∨ T k ↔ A k ∨ (U k ∨ T k)
      rw [hS k, or_assoc]
theorem Cells.split {w : World} {base : Nat} {us us' : List Value} {ds ds' : List Dat} {T : Nat → Prop} (h : Cells w base (us ++ us') (ds ++ ds') T) (hl : us.length = ds.length) :
    ∃ T1 T2, Cells w base us ds T1 ∧ Cells w base us' ds' T2 ∧ (∀ k, T1 k → ¬ T2 k) ∧ ∀ k, T k ↔ T1 k ∨ T2 k := by
  obtain ⟨G, hl2, hr, hd, hT⟩ := h
  simp only [List.length_append] at hl2
  refine ⟨fun k => ∃ i, i < us.length ∧ G i k, fun k => ∃ i, i < us'.length ∧ G (us.length + i) k, ⟨fun i => G i, hl, fun i hi hi' => ?_, fun i j k hi hj => hd i j k (by simp; omega) (by simp; omega), fun _ => Iff.rfl⟩, ⟨fun i => G (us.length + i), by omega, fun i hi hi' => ?_, fun i j k hi hj hne => hd _ _ k (by simp; omega) (by simp; omega) (by omega), fun _ => Iff.rfl⟩, ?_, ?_⟩
  · have := hr i (by simp; omega) (by simp; omega)
    rwa [List.getElem_append_left hi, List.getElem_append_left hi'] at this
  · have := hr (us.length + i) (by simp; omega) (by simp; omega)
    rw [List.getElem_append_right (by omega), List.getElem_append_right (by omega)] at this
    have e1 : us.length + i - us.length = i := by omega
    have e2 : us.length + i - ds.length = i := by omega
    simp only [e1, e2] at this
    exact this
  · rintro k ⟨i, hi, h1⟩ ⟨j, hj, h2⟩
    exact hd i (us.length + j) k (by simp; omega) (by simp; omega) (by omega) h1 h2
  · intro k
    rw [hT k]
    constructor
    · rintro ⟨i, hi, h⟩
      simp only [List.length_append] at hi
      by_cases e : i < us.length
      · exact .inl ⟨i, e, h⟩
      · exact .inr ⟨i - us.length, by omega, by rw [show us.length + (i - us.length) = i by omega]; exact h⟩
    · rintro (⟨i, hi, h⟩ | ⟨i, hi, h⟩)
      · exact ⟨i, by simp; omega, h⟩
      · exact ⟨us.length + i, by simp; omega, h⟩
theorem Ents.ofCells {w : World} {base : Nat} : ∀ {E : List (List Value × List Dat)} {S : Nat → Prop}, (∀ x ∈ E, x.1.length = x.2.length) → Cells w base (E.flatMap (fun x => x.1)) (E.flatMap (fun x => x.2)) S → Ents w base E S
  | [], S, _, h => by
    obtain ⟨G, _, _, _, hT⟩ := h
    intro k hk
    obtain ⟨i, hi, _⟩ := (hT k).1 hk
    simp at hi
  | x :: E, S, hl, h => by
    simp only [List.flatMap_cons] at h
    obtain ⟨T, U, h1, h2, hd, hS⟩ := Cells.split h (hl x (by simp))
    exact ⟨T, U, h1, Ents.ofCells (fun y hy => hl y (List.mem_cons_of_mem _ hy)) h2, hd, hS⟩
theorem Ents.later {w w' : World} {base : Nat} {E : List (List Value × List Dat)} {S : Nat → Prop} (h : Ents w base E S) (hb : Below w.heap.size w w') : Ents w' base E S := h.kept (Within.of_below hb (fun _ => False)) (fun _ _ h => h)
/-- Two values that came as one are held one by one. -/
theorem Holds.split {w0 w : World} {B : List (Nat × List Value)} {us us' : List Value} {ds ds' : List Dat} {E : List (List Value × List Dat)} (h : Holds w0 w B ((us ++ us', ds ++ ds') :: E)) (hl : us.length = ds.length) : Holds w0 w B ((us, ds) :: (us', ds') :: E) := by
  obtain ⟨S, ⟨T, U, hT, hU, hd, hS⟩, h2⟩ := h.ents
  obtain ⟨T1, T2, c1, c2, hd2, hT2⟩ := Cells.split hT hl
  refine ⟨h.below, h.boxes, h.boxlt, S, ⟨T1, fun k => T2 k ∨ U k, c1, ⟨T2, U, c2, hU, fun k hk => hd k ((hT2 k).2 (.inr hk)), fun _ => Iff.rfl⟩, fun k hk hk2 => ?_, fun k => ?_⟩, h2⟩
  · rcases hk2 with hk2 | hk2
    · exact hd2 k hk hk2
    · exact hd k ((hT2 k).2 (.inl hk)) hk2
  · rw [hS k, hT2 k, or_assoc]
section
variable {w0 w w' : World} {B : List (Nat × List Value)} {E : List (List Value × List Dat)}
theorem Holds.snoc (h : Holds w0 w B E) (hb : Below w.heap.size w w') {vs : List Value} {ds : List Dat} {T : Nat → Prop} (hc : Cells w' w.heap.size vs ds T) : Holds w0 w' B (E ++ [(vs, ds)]) := by
  obtain ⟨S0, h10, h20⟩ := h.ents
  have hS0 : Ents w' w0.heap.size E S0 := h10.kept (Within.of_below hb (fun _ => False)) (fun _ _ h => h)
  refine ⟨(h.later hb).below, (h.later hb).boxes, (h.later hb).boxlt, _, Ents.snoc (hc.base h.size) hS0 (fun k hk hk2 => ?_), fun p hp hk => ?_⟩
  · have := (hc.lt k hk).1; have := (h10.lt k hk2).2; omega
  · rcases hk with hk | hk
    · exact h20 p hp hk
    · have := (hc.lt _ hk).1; have := h.boxlt p hp; omega
theorem Holds.plain (h : Holds w0 w B E) (ps : List Value) : Holds w0 w B (E ++ [(ps, ps.map Dat.val)]) := h.snoc (Below.refl _ _) (Cells.plain w _ ps)
theorem Holds.cells (h : Holds w0 w B E) : ∃ S, Cells w w0.heap.size (E.flatMap (fun x => x.1)) (E.flatMap (fun x => x.2)) S := by
  obtain ⟨S, h1, _⟩ := h.ents
  exact ⟨S, h1.cells⟩
/-- A block that the walk holds, but for its cells: a store there leaves all else. -/
theorem Holds.poke (h : Holds w0 w B E) (p : Addr) (v : Value) (hb : w0.heap.size ≤ p.block) (hB : ∃ vs, (p.block, vs) ∈ B) (hall : ∀ q ∈ B, q.2 = []) : Holds w0 (w.setCell p v) B E := by
  obtain ⟨S, h1, h2⟩ := h.ents
  obtain ⟨vs, hp⟩ := hB
  have hW : Within w (w.setCell p v) (fun k => k = p.block) := (Within.refl _ _).setCell _ _ rfl
  refine ⟨h.below.setCell hb v, fun q hq j hj => ?_, fun q hq => by simpa using h.boxlt q hq, S, h1.kept hW (fun k hk e => h2 _ hp (by rw [← e]; exact hk)), h2⟩
  rw [hall q hq] at hj
  simp at hj
theorem Holds.mark (h : Holds w0 w B E) {b : Nat} (h1 : w.heap.size ≤ b) (hb : Below w.heap.size w w') (h2 : b < w'.heap.size) : Holds w0 w' ((b, []) :: B) E := by
  obtain ⟨S, g1, g2⟩ := h.ents
  have hl := h.later hb
  refine ⟨hl.below, fun q hq j hj => ?_, fun q hq => ?_, S, g1.kept (Within.of_below hb (fun _ => False)) (fun _ _ h => h), fun q hq hk => ?_⟩
  · rcases List.mem_cons.1 hq with rfl | hq
    · simp at hj
    · exact hl.boxes q hq j hj
  · rcases List.mem_cons.1 hq with rfl | hq
    · exact h2
    · exact hl.boxlt q hq
  · rcases List.mem_cons.1 hq with rfl | hq
    · have := (g1.lt _ hk).2; simp at this; omega
    · exact g2 q hq hk
/-- A block that the walk holds is filled anew; nothing else has turned. -/
theorem Holds.refill {b : Nat} {vs0 vs : List Value} (h : Holds w0 w ((b, vs0) :: B) E) (hfr : ∀ q ∈ B, q.1 < b) (hb : w0.heap.size ≤ b) (hw : Within w w' (fun k => k = b)) (hc : ∀ j (hj : j < vs.length), w'.cell? ⟨b, j, none⟩ = some vs[j]) : Holds w0 w' ((b, vs) :: B) E := by
  obtain ⟨S, h1, h2⟩ := h.ents
  refine ⟨hw.below h.below (fun k e => by rw [e]; exact hb), fun q hq j hj => ?_, fun q hq => ?_, S, h1.kept hw (fun k hk e => h2 _ List.mem_cons_self (by rw [e] at hk; exact hk)), fun q hq hk => ?_⟩
  · rcases List.mem_cons.1 hq with rfl | hq
    · exact hc j hj
    · have c := h.boxes q (List.mem_cons_of_mem _ hq) j hj
      have e := hw.block q.1 (h.boxlt q (List.mem_cons_of_mem _ hq)) (fun e => by have := hfr q hq; omega)
      rw [← c]
      simp only [World.cell?, e]
  · rcases List.mem_cons.1 hq with rfl | hq
    · exact Nat.lt_of_lt_of_le (h.boxlt (b, vs0) List.mem_cons_self) hw.size
    · exact Nat.lt_of_lt_of_le (h.boxlt q (List.mem_cons_of_mem _ hq)) hw.size
  · rcases List.mem_cons.1 hq with rfl | hq
    · exact h2 (b, vs0) List.mem_cons_self hk
    · exact h2 q (List.mem_cons_of_mem _ hq) hk
theorem Keeps.tail {p : Nat × List Value} (h : Keeps w (p :: B)) : Keeps w B := fun q hq => h q (List.mem_cons_of_mem _ hq)
end
theorem cell_kept {w w' : World} {p : Addr} {v : Value} (hb : Below w.heap.size w w') (h : w.cell? p = some v) : w'.cell? p = some v := (hb.cell (World.block_lt_of_cell? w _ h)).trans h
theorem cell_set {w : World} {p : Addr} {u v : Value} (h : w.cell? p = some u) : (w.setCell p v).cell? p = some v := World.cell?_setCell_same _ _ _ h
theorem cell_far {w : World} {p q : Addr} {u v : Value} (h : w.cell? q = some u) (hne : p ≠ q) : (w.setCell p v).cell? q = some u := (World.cell?_setCell_other _ _ _ _ hne).trans h
theorem Lay.sumL_zero {α : Type} (L : Lay α) (h : ∀ x, L.wt x = 0) (xs : List α) : L.sumL xs = 0 := by
  induction xs with
  | nil => rfl
  | cons x xs ih => rw [Lay.sumL, ih, h]
end Go.Proofs.Ythnppodnjokaoab
