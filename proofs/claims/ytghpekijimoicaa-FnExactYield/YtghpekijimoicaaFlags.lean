/-
  Rows of flags (arrays of bools, and arrays and structs of such) in one block: what reads, stores, copies, comparisons and literals of them do, whatever their number. Plain laws over any program. No statement is proved here.
-/
import Derived.Test.YtghpekijimoicaaOwn
import Derived.Deep.MidRow
import Derived.ChangeKeysEq
namespace Go.Proofs.Ytghpekijimoicaa
open Go.RowKit

def cellsB (bs : List Bool) : Array Value := (bs.map Value.bool).toArray
/-- The value of such an array. -/
def aggB (bs : List Bool) : Value := .agg (cellsB bs)
/-- Block b is such an array. -/
def Bits (w : World) (b : Nat) (t : TypeId) (bs : List Bool) : Prop := w.heap[b]? = some (.cells (cellsB bs) t)

theorem cellsB_size (bs : List Bool) : (cellsB bs).size = bs.length := by simp [cellsB]
theorem cellsB_get (bs : List Bool) (i : Nat) : (cellsB bs)[i]? = bs[i]?.map Value.bool := by simp [cellsB]
theorem cellsB_one (bs : List Bool) : (cellsB bs).all (·.oneCell') = true := by
  refine Array.all_eq_true_iff_forall_mem.2 fun v hv => ?_
  simp only [cellsB, List.mem_toArray, List.mem_map] at hv
  obtain ⟨x, _, rfl⟩ := hv
  rfl
section
variable {w w' : World} {b : Nat} {t : TypeId} {bs : List Bool}
theorem Bits.lt (h : Bits w b t bs) : b < w.heap.size := (Array.getElem?_eq_some_iff.1 h).1
theorem Bits.cell (h : Bits w b t bs) {n : Nat} (hn : n < bs.length) : w.cell? ⟨b, n, none⟩ = some (.bool (bs.getD n false)) := by
  rw [cell_of_row w b n _ t (0, 0) h, cellsB_get]
  simp [List.getD, hn]
theorem Bits.frozen (h : Bits w b t bs) (n : Nat) : w.frozen? ⟨b, n, none⟩ = false := by
  unfold Bits at h
  simp [World.frozen?, h]
theorem Bits.kept (h : Bits w b t bs) (hb : w'.heap[b]? = w.heap[b]?) : Bits w' b t bs := by unfold Bits at *; rw [hb]; exact h
theorem Bits.below (h : Bits w b t bs) {N : Nat} (hb : Below N w w') (hN : b < N) : Bits w' b t bs := h.kept (hb.block b hN)
theorem Bits.later (h : Bits w b t bs) (hb : Below w.heap.size w w') : Bits w' b t bs := h.below hb h.lt
theorem Bits.grown (h : Bits w b t bs) {row : Option Nat} (hg : w.grownBy w' row) (hne : row ≠ some b) : Bits w' b t bs := h.kept (hg.block b h.lt (fun e => hne e.symm))
theorem Bits.set (h : Bits w b t bs) (n : Nat) (v : Bool) : Bits (w.setCell ⟨b, n, none⟩ (.bool v)) b t (bs.set n v) := by
  unfold Bits at *
  have e : cellsB (bs.set n v) = (cellsB bs).setIfInBounds n (.bool v) := by
    simp [cellsB, List.map_set]
  rw [e]
  simp [World.setCell, Array.getElem?_modify, h]
theorem Bits.range (h : Bits w b t bs) (o n : Nat) : w.rangeAt b o (((bs.drop o).take n).map Value.bool) := by
  intro j v hv
  rw [cell_of_row w b (o + j) _ t (0, 0) h, cellsB_get]
  rw [List.getElem?_map, List.getElem?_take] at hv
  split at hv
  · rw [List.getElem?_drop] at hv; exact hv
  · simp at hv
theorem Bits.there (h : Bits w b t bs) (o n : Nat) (hn : o + n ≤ bs.length) : w.there b o n := fun j hj => ⟨by rw [h.cell (by omega)]; rfl, h.frozen _⟩
end
theorem Bits.new (w : World) (t : TypeId) (bs : List Bool) : Bits (w.alloc (.cells (cellsB bs) t)) w.heap.size t bs := by
  exact heap_alloc_new w _
theorem setCell_grown (w : World) (b n : Nat) (v : Value) : w.grownBy (w.setCell ⟨b, n, none⟩ v) (some b) :=
  ⟨rfl, rfl, rfl, by simp, fun k _ hne => Below.heap_setCell w _ v k (fun e => hne (by rw [e]))⟩

/-- What is there behind the flags cs are put in from o on. -/
def putB : List Bool → Nat → List Bool → List Bool
  | bs, _, [] => bs
  | bs, o, v :: r => putB (bs.set o v) (o + 1) r
theorem putB_length : ∀ (cs : List Bool) (bs : List Bool) (o : Nat), (putB bs o cs).length = bs.length
  | [], _, _ => rfl
  | v :: r, bs, o => by rw [putB, putB_length r]; simp
theorem putB_get : ∀ (cs : List Bool) (bs : List Bool) (o i : Nat), o + cs.length ≤ bs.length → (putB bs o cs).getD i false = if o ≤ i ∧ i < o + cs.length then cs.getD (i - o) false else bs.getD i false
  | [], bs, o, i, _ => by rw [putB, if_neg (by simp)]
  | v :: r, bs, o, i, h => by
    simp only [List.length_cons] at h
    rw [putB, putB_get r (bs.set o v) (o + 1) i (by simp; omega)]
    simp only [List.length_cons]
    by_cases e : i = o
    · subst e
      rw [if_neg (by omega), if_pos (by omega), Nat.sub_self]
      simp [List.getD, show i < bs.length by omega]
    · by_cases g : o + 1 ≤ i ∧ i < o + 1 + r.length
      · rw [if_pos g, if_pos (by omega), show i - o = (i - (o + 1)) + 1 by omega]
        rfl
      · rw [if_neg g, if_neg (by omega)]
        simp [List.getD, Ne.symm e]
theorem list_ext_getD {us bs : List Bool} (hl : us.length = bs.length) (h : ∀ i, i < us.length → us.getD i false = bs.getD i false) : us = bs := by
  apply List.ext_getElem hl
  intro i h1 h2
  have := h i h1
  simpa [List.getD, h1, h2] using this
theorem putB_whole {bs cs : List Bool} (h : cs.length = bs.length) : putB bs 0 cs = cs := by
  apply list_ext_getD (by rw [putB_length]; exact h.symm)
  intro i hi
  rw [putB_length] at hi
  rw [putB_get _ _ _ _ (by omega), if_pos (by omega), Nat.sub_zero]
theorem putB_tail {us bs cs : List Bool} (h : cs.length = bs.length) : putB (us ++ bs) us.length cs = us ++ cs := by
  apply list_ext_getD (by rw [putB_length]; simp [h])
  intro i hi
  rw [putB_length] at hi
  rw [putB_get _ _ _ _ (by simp [h])]
  simp only [List.length_append] at hi
  by_cases g : us.length ≤ i
  · rw [if_pos ⟨g, by omega⟩, List.getD_eq_getElem?_getD, List.getD_eq_getElem?_getD, List.getElem?_append_right g]
  · rw [if_neg (by omega), List.getD_eq_getElem?_getD, List.getD_eq_getElem?_getD, List.getElem?_append_left (by omega), List.getElem?_append_left (by omega)]
theorem setCells_bits : ∀ (cs bs : List Bool) (o : Nat) (w : World) (b : Nat) (t : TypeId), Bits w b t bs → Bits (w.setCells b o (cs.map Value.bool)) b t (putB bs o cs) ∧ w.grownBy (w.setCells b o (cs.map Value.bool)) (some b)
  | [], bs, o, w, b, t, h => ⟨h, World.grownBy.refl _ _⟩
  | v :: r, bs, o, w, b, t, h => by
    rw [List.map_cons, World.setCells, putB]
    have := setCells_bits r (bs.set o v) (o + 1) _ b t (h.set o v)
    exact ⟨this.1, grownBy_trans (setCell_grown w b o _) this.2⟩

section
variable {P : Program}
theorem wpList_val {ops : Array Oper} {rest : List Oper} {o : Oper} {a : Act} {w w' : World} {v : Value} {Q : Exit → Act → World → Prop} (hgd : Region.wanted o (yielded ops a.tmps) = true) (hr : (execOp a.eval o).run P w = .ok (.value v) w') (h : wpList P ops Q rest (a.put o.dst v) w') : wpList P ops Q (o :: rest) a w := by
  refine wpList_step fun K hK => ?_
  rw [if_pos hgd]
  unfold Oper.wp
  rw [hr, Oper.upon_value]
  exact hK _ _ h
theorem wpList_unit {ops : Array Oper} {rest : List Oper} {o : Oper} {a : Act} {w w' : World} {Q : Exit → Act → World → Prop} (hgd : Region.wanted o (yielded ops a.tmps) = true) (hr : (execOp a.eval o).run P w = .ok .skip w') (h : wpList P ops Q rest (a.put o.dst undef) w') : wpList P ops Q (o :: rest) a w := by
  refine wpList_step fun K hK => ?_
  rw [if_pos hgd]
  unfold Oper.wp
  rw [hr, Oper.upon_skip]
  exact hK _ _ h

/-- A type of such arrays: its cells, its form. -/
structure BitT (P : Program) (ty : TypeId) (n : Nat) : Prop where
  info : (P.info? ty).map (fun i => (i.zero, i.size)) = some (some (.agg (Array.replicate n (.bool false))), n)
  desc : ∃ d, P.underlying ty = some d ∧ d.isRow = true
theorem BitT.size {ty : TypeId} {n : Nat} (h : BitT P ty n) : (P.info? ty).map (·.size) = some n := by
  have := h.info
  cases hq : P.info? ty with
  | none => simp [hq] at this
  | some i => simp [hq] at this; simp [this.2]
theorem BitT.zero {ty : TypeId} {n : Nat} (h : BitT P ty n) (w : World) : (zeroValue ty).run P w = .ok (.agg (Array.replicate n (.bool false))) w := by
  have := h.info
  cases hq : P.info? ty with
  | none => simp [hq] at this
  | some i => simp [hq] at this; simp [zeroValue, typeInfo, hq, this.1]
theorem cellsB_rep (n : Nat) : cellsB (List.replicate n false) = Array.replicate n (.bool false) := by
  simp [cellsB]

/-- The whole array, or a part of it, is read. -/
theorem exec_loadB {ρ : Operand → Value} {o : Oper} {w : World} {ty t : TypeId} {x : Operand} {b off n : Nat} {bs : List Bool} (ho : o.op = .load ty x) (hx : ρ x = .pointer (some ⟨b, off, none⟩)) (hT : BitT P ty n) (hB : Bits w b t bs) (hn : off + n ≤ bs.length) :
    (execOp ρ o).run P w = .ok (.value (aggB ((bs.drop off).take n))) w := by
  obtain ⟨d, hu, hd⟩ := hT.desc
  have hl : (((bs.drop off).take n).map Value.bool).length = n := by simp; omega
  have := run_loadVar_mid (P := P) w b off ty (((bs.drop off).take n).map Value.bool) d (hB.range off n) hu hd (by rw [hl]; exact hT.size)
  unfold execOp
  simp only [ho, hx, Instr.loadAt, Instr.sureAddr, Sem.run_bind, Sem.run_pure, Result.andThen_ok, this]
  rfl
theorem exec_loadW {ρ : Operand → Value} {o : Oper} {w : World} {ty t : TypeId} {x : Operand} {b : Nat} {bs : List Bool} (ho : o.op = .load ty x) (hx : ρ x = .pointer (some ⟨b, 0, none⟩)) (hT : BitT P ty bs.length) (hB : Bits w b t bs) :
    (execOp ρ o).run P w = .ok (.value (aggB bs)) w := by
  have := exec_loadB (P := P) ho hx hT hB (by omega)
  simpa using this
/-- It is stored. -/
theorem exec_storeB {ρ : Operand → Value} {o : Oper} {w : World} {ty t : TypeId} {x y : Operand} {b off : Nat} {bs cs : List Bool} (ho : o.op = .store ty x y) (hx : ρ x = .pointer (some ⟨b, off, none⟩)) (hy : ρ y = aggB cs) (hT : BitT P ty cs.length) (hB : Bits w b t bs) (hn : off + cs.length ≤ bs.length) :
    ∃ w', (execOp ρ o).run P w = .ok .skip w' ∧ Bits w' b t (putB bs off cs) ∧ w.grownBy w' (some b) := by
  have h1 := run_storeVar_mid (P := P) w b off ty (cellsB cs) (hB.there off _ (by rw [cellsB_size]; exact hn)) (by rw [cellsB_size]; exact hT.size) (cellsB_one cs)
  have h2 := setCells_bits cs bs off w b t hB
  refine ⟨_, ?_, h2.1, h2.2⟩
  unfold execOp
  simp only [ho, hx, hy, aggB, Instr.storeAt, Instr.sureAddr, Sem.run_bind, Sem.run_pure, Result.andThen_ok, h1]
  rfl
theorem exec_boxB {ρ : Operand → Value} {o : Oper} {w : World} {ty : TypeId} {x : Operand} {bs : List Bool} (ho : o.op = .box ty x) (hx : ρ x = aggB bs) :
    ∃ w', (execOp ρ o).run P w = .ok (.value (.pointer (some ⟨w.heap.size, 0, none⟩))) w' ∧ Bits w' w.heap.size ty bs ∧ Below w.heap.size w w' ∧ w'.heap.size = w.heap.size + 1 := by
  refine ⟨w.alloc (.cells (cellsB bs) ty), ?_, Bits.new w ty bs, (Below.refl _ _).alloc (Nat.le_refl _) _, by simp⟩
  unfold execOp
  simp only [ho, hx, aggB, Instr.box, newVar, newRow, Value.cells]
  simp
theorem exec_allocB {ρ : Operand → Value} {o : Oper} {w : World} {ty : TypeId} {n : Nat} (ho : o.op = .alloc ty) (hT : BitT P ty n) :
    ∃ w', (execOp ρ o).run P w = .ok (.value (.pointer (some ⟨w.heap.size, 0, none⟩))) w' ∧ Bits w' w.heap.size ty (List.replicate n false) ∧ Below w.heap.size w w' ∧ w'.heap.size = w.heap.size + 1 := by
  refine ⟨w.alloc (.cells (cellsB (List.replicate n false)) ty), ?_, Bits.new w ty _, (Below.refl _ _).alloc (Nat.le_refl _) _, by simp⟩
  unfold execOp
  simp only [ho, Instr.alloc, newVar, newRow, Sem.run_bind, hT.zero, Result.andThen_ok, Value.cells, cellsB_rep]
  simp
theorem exec_indexB {ρ : Operand → Value} {o : Oper} {w : World} {ty e : TypeId} {x y : Operand} {bs : List Bool} {i : Nat} (ho : o.op = .index ty x y) (hx : ρ x = aggB bs) (hy : ρ y = .int .i64 i) (hu : P.underlying ty = some (.array bs.length e)) (he : P.underlying e = some .bool) (hz : (P.info? e).map (·.size) = some 1) (hi : i < bs.length) :
    (execOp ρ o).run P w = .ok (.value (.bool (bs.getD i false))) w := by
  have hz' : (sizeOf e).run P w = .ok 1 w := by
    cases hq : P.info? e with
    | none => simp [hq] at hz
    | some j => simp [hq] at hz; simp [sizeOf, typeInfo, hq, hz]
  have hg : (isAgg e).run P w = .ok false w := by simp [isAgg, run_underlying he]
  have hc : (cellsB bs)[i]? = some (.bool (bs.getD i false)) := by rw [cellsB_get]; simp [List.getD, hi]
  unfold execOp
  simp only [ho, hx, hy, aggB, Instr.index, asIntOf]
  simp [run_underlying hu, hz', part, hg, hi, hc]
end
end Go.Proofs.Ytghpekijimoicaa
