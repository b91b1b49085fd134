/-
  Contracts and plain mathematics, joined: NewTab. No statement is proved here.
-/
import Derived.Test.YthnppodnjokaoaaDoorG12
import Derived.Deep.AppendLies
namespace Go.Proofs.YthnppodnjokaoaaDoor
open Go.RowKit

/-- The slices that lie in blocks f 0, f 1, .. -/
def rowsAt (f : Nat → Nat) (n k : Nat) : List Value := (List.range k).map fun i => .slice (some ⟨f i, 0, none⟩) n n
theorem rowsAt_length (f : Nat → Nat) (n k : Nat) : (rowsAt f n k).length = k := by simp [rowsAt]
theorem rowsAt_get (f : Nat → Nat) (n : Nat) {k i : Nat} (h : i < k) : (rowsAt f n k)[i]? = some (.slice (some ⟨f i, 0, none⟩) n n) := by simp [rowsAt, h]
def putAt {α : Type} (f : Nat → α) (k : Nat) (x : α) : Nat → α := fun i => if i = k then x else f i
theorem putAt_same {α : Type} (f : Nat → α) (k : Nat) (x : α) : putAt f k x k = x := if_pos rfl
theorem putAt_other {α : Type} (f : Nat → α) {k i : Nat} (x : α) (h : i ≠ k) : putAt f k x i = f i := if_neg h
theorem rowsAt_next (f : Nat → Nat) (n k g : Nat) : rowsAt f n k ++ [.slice (some ⟨g, 0, none⟩) n n] = rowsAt (putAt f k g) n (k + 1) := by
  unfold rowsAt
  rw [List.range_succ, List.map_append]
  congr 1
  · refine List.map_congr_left (fun i hi => ?_)
    rw [List.mem_range] at hi
    rw [putAt_other f g (by omega)]
  · simp [putAt_same]

theorem setCell_grows (w : World) (b n : Nat) (v : Value) : w.grownBy (w.setCell ⟨b, n, none⟩ v) (some b) :=
  ⟨rfl, rfl, rfl, by simp, fun k _ hne => Below.heap_setCell w _ v k (fun e => hne (by rw [e]))⟩

/-- One of its two lists: its field o, its slice, its rows (each of n elements v of type te), all told apart by tags. -/
structure Half (base bT o : Nat) (el te : TypeId) (n : Nat) (z : Value) (tag : Nat) (τ : Nat → Nat) (v : Value) (f : Nat → Nat) (k : Nat) (w : World) : Prop where
  cell : w.cell? ⟨bT, o, none⟩ = some v
  own : w.ownsRow base el 1 v k (rowsAt f n k)
  rows : ∀ i, i < k → w.rowIs (f i) te n (fun _ => z)
  low : ∀ i, i < k → base ≤ f i
  tagV : ∀ g, v.ownBlock = some g → τ g = tag
  tagF : ∀ i, i < k → τ (f i) = 2 * i + 3 + tag
/-- Its other half stays. -/
theorem Half.kept {base bT o : Nat} {el te : TypeId} {n : Nat} {z : Value} {tag : Nat} {τ τ' : Nat → Nat} {v : Value} {f : Nat → Nat} {k : Nat} {w w' : World} (h : Half base bT o el te n z tag τ v f k w)
    (hc : w'.cell? ⟨bT, o, none⟩ = w.cell? ⟨bT, o, none⟩) {row : Option Nat} (hg : w.grownBy w' row) (hr : ∀ b, row = some b → τ b ≠ tag ∧ ∀ i, i < k → τ b ≠ 2 * i + 3 + tag) (hτ : ∀ b, b < w.heap.size → τ' b = τ b) : Half base bT o el te n z tag τ' v f k w' := by
  refine ⟨by rw [hc]; exact h.cell, h.own.kept hg ?_, fun i hi => ?_, h.low, fun g e => ?_, fun i hi => ?_⟩
  · cases e : v.ownBlock with
    | none => exact .inl rfl
    | some g => exact .inr (fun e2 => by
        have := (hr g e2.symm).1
        exact this (h.tagV g e))
  · exact (h.rows i hi).of_block (hg.block _ (h.rows i hi).lt (fun e => (hr _ e.symm).2 i hi (h.tagF i hi)))
  · rw [hτ g (h.own.lt g e).2]; exact h.tagV g e
  · rw [hτ _ (h.rows i hi).lt]; exact h.tagF i hi
/-- A row is appended. -/
theorem Half.grown {base bT o : Nat} {el te : TypeId} {n : Nat} {z : Value} {tag : Nat} {τ : Nat → Nat} {v : Value} {f : Nat → Nat} {k : Nat} {w w1 w3 w4 : World} {g g' cap : Nat} (h : Half base bT o el te n z tag τ v f k w)
    (htag : tag = 1 ∨ tag = 2) (hb1 : Below w.heap.size w w1) (hg1 : w.heap.size ≤ g) (hbase : base ≤ w.heap.size) (hrow : w1.rowIs g te n (fun _ => z)) (hown : w3.ownsRow base el 1 (.slice (some ⟨g', 0, none⟩) (k + 1) cap) (k + 1) (rowsAt f n k ++ [.slice (some ⟨g, 0, none⟩) n n])) (hgr : w1.grownBy w3 v.ownBlock)
    (hg' : v.ownBlock = some g' ∨ g' = w1.heap.size) (h4 : w4 = w3.setCell ⟨bT, o, none⟩ (.slice (some ⟨g', 0, none⟩) (k + 1) cap)) (hbT : bT < w.heap.size) (hτT : τ bT = 0) :
    ∃ τ', (∀ b, b < w.heap.size → τ' b = τ b) ∧ Half base bT o el te n z tag τ' (.slice (some ⟨g', 0, none⟩) (k + 1) cap) (putAt f k g) (k + 1) w4 := by
  have hs1 := hb1.size
  have hvT : ∀ b, v.ownBlock = some b → b ≠ bT := fun b e e2 => by
    have := h.tagV b e; rw [e2, hτT] at this; omega
  have hgl := hrow.lt
  have hv' : ∀ b, v.ownBlock = some b → b < w.heap.size := fun b e => (h.own.lt b e).2
  have hgg : g ≠ g' := by
    rcases hg' with e | e
    · have := hv' g' e; omega
    · omega
  have hgT : bT ≠ g := by omega
  have hnT : bT ≠ g' := by
    rcases hg' with e | e
    · exact fun e2 => hvT g' e e2.symm
    · omega
  have keep : ∀ b, b < w.heap.size → v.ownBlock ≠ some b → b ≠ bT → w4.heap[b]? = w.heap[b]? := fun b hb hn hT => by
    rw [h4, Below.heap_setCell _ _ _ _ hT, hgr.block b (by omega) (fun e => hn e.symm), hb1.block b hb]
  have hcT : (w3.cell? ⟨bT, o, none⟩).isSome := by
    rw [blk_cell (hgr.block bT (by omega) (fun e => hvT bT e.symm rfl)), blk_cell (hb1.block bT hbT), h.cell]; rfl
  refine ⟨fun b => if b = g then 2 * k + 3 + tag else if b = g' then tag else τ b, fun b hb => ?_, ⟨?_, ?_, fun i hi => ?_, fun i hi => ?_, fun b e => ?_, fun i hi => ?_⟩⟩
  · show (if b = g then 2 * k + 3 + tag else if b = g' then tag else τ b) = τ b
    rw [if_neg (by omega)]
    by_cases e : b = g'
    · rw [if_pos e]
      rcases hg' with e2 | e2
      · exact (h.tagV b (by rw [e2, e])).symm
      · omega
    · rw [if_neg e]
  · subst h4
    obtain ⟨u, hu⟩ := Option.isSome_iff_exists.1 hcT
    exact cell_set hu
  · subst h4
    rw [← rowsAt_next]
    refine World.ownsRow.kept hown (setCell_grows _ _ _ _) (.inr ?_)
    simp [Value.ownBlock]; exact fun e => hnT e.symm
  · subst h4
    by_cases e : i = k
    · subst e
      rw [putAt_same]
      refine hrow.of_block ?_
      rw [Below.heap_setCell _ _ _ _ (fun e => hgT e.symm)]
      refine hgr.block g hgl (fun e => ?_)
      have := hv' g e.symm; omega
    · rw [putAt_other _ _ e]
      have hi' : i < k := by omega
      have ht := h.tagF i hi'
      refine (h.rows i hi').of_block (keep _ (h.rows i hi').lt (fun e => ?_) (fun e => ?_))
      · have := h.tagV _ e; omega
      · rw [e, hτT] at ht; omega
  · by_cases e : i = k
    · subst e; rw [putAt_same]; omega
    · rw [putAt_other _ _ e]; exact h.low i (by omega)
  · have : b = g' := by simp [Value.ownBlock] at e; exact e.symm
    subst this
    show (if b = g then 2 * k + 3 + tag else if b = b then tag else τ b) = tag
    rw [if_neg (fun e => hgg e.symm), if_pos rfl]
  · by_cases e : i = k
    · subst e; rw [putAt_same]; exact if_pos rfl
    · rw [putAt_other _ _ e]
      show (if f i = g then 2 * k + 3 + tag else if f i = g' then tag else τ (f i)) = _
      have hi' : i < k := by omega
      have ht := h.tagF i hi'
      have hl := (h.rows i hi').lt
      have n1 : f i ≠ g := by omega
      have n2 : f i ≠ g' := by
        rcases hg' with e2 | e2
        · intro e3
          have := h.tagV g' e2
          rw [← e3, ht] at this; omega
        · omega
      rw [if_neg n1, if_neg n2]; exact ht
end Go.Proofs.YthnppodnjokaoaaDoor
