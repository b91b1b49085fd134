/-
  Contracts and plain mathematics, joined: Flags, Vals, FlagsEq, FlagT, JoinB. No statement is proved here.
-/
import Derived.Test.YthnppodnjokaoaaDoorG2
import Derived.Deep.MidRow
import Derived.ChangeKeysEq
namespace Go.Proofs.YthnppodnjokaoaaDoor
open Go.RowKit

def cellsB (bs : List Bool) : Array Value := (bs.map Value.bool).toArray
/-- The value of such an array. -/
def aggB (bs : List Bool) : Value := .agg (cellsB bs)
/-- Block b is such an array. -/
def Bits (w : World) (b : Nat) (t : TypeId) (bs : List Bool) : Prop := w.heap[b]? = some (.cells (cellsB bs) t)

theorem cellsB_size (bs : List Bool) : (cellsB bs).size = bs.length := by simp [cellsB]
theorem cellsB_get (bs : List Bool) (i : Nat) : (cellsB bs)[i]? = bs[i]?.map Value.bool := by simp [cellsB]
theorem cellsB_one (bs : List Bool) : (cellsB bs).all (·.oneCell') = true := by
  refine Array.all_eq_true_iff_forall_mem.2 fun v hv => ?_
  simp only [cellsB, List.mem_toArray, List.mem_map] at hv
  obtain ⟨x, _, rfl⟩ := hv
  rfl
section
variable {w w' : World} {b : Nat} {t : TypeId} {bs : List Bool}
theorem Bits.lt (h : Bits w b t bs) : b < w.heap.size := (Array.getElem?_eq_some_iff.1 h).1
theorem Bits.cell (h : Bits w b t bs) {n : Nat} (hn : n < bs.length) : w.cell? ⟨b, n, none⟩ = some (.bool (bs.getD n false)) := by
  rw [cell_of_row w b n _ t (0, 0) h, cellsB_get]
  simp [List.getD, hn]
theorem Bits.frozen (h : Bits w b t bs) (n : Nat) : w.frozen? ⟨b, n, none⟩ = false := by
  unfold Bits at h
  simp [World.frozen?, h]
theorem Bits.kept (h : Bits w b t bs) (hb : w'.heap[b]? = w.heap[b]?) : Bits w' b t bs := by unfold Bits at *; rw [hb]; exact h
theorem Bits.below (h : Bits w b t bs) {N : Nat} (hb : Below N w w') (hN : b < N) : Bits w' b t bs := h.kept (hb.block b hN)
theorem Bits.later (h : Bits w b t bs) (hb : Below w.heap.size w w') : Bits w' b t bs := h.below hb h.lt
theorem Bits.grown (h : Bits w b t bs) {row : Option Nat} (hg : w.grownBy w' row) (hne : row ≠ some b) : Bits w' b t bs := h.kept (hg.block b h.lt (fun e => hne e.symm))
theorem Bits.set (h : Bits w b t bs) (n : Nat) (v : Bool) : Bits (w.setCell ⟨b, n, none⟩ (.bool v)) b t (bs.set n v) := by
  unfold Bits at *
  have e : cellsB (bs.set n v) = (cellsB bs).setIfInBounds n (.bool v) := by
    simp [cellsB, List.map_set]
  rw [e]
  simp [World.setCell, Array.getElem?_modify, h]
theorem Bits.range (h : Bits w b t bs) (o n : Nat) : w.rangeAt b o (((bs.drop o).take n).map Value.bool) := by
  intro j v hv
  rw [cell_of_row w b (o + j) _ t (0, 0) h, cellsB_get]
  rw [List.getElem?_map, List.getElem?_take] at hv
  split at hv
  · rw [List.getElem?_drop] at hv; exact hv
  · simp at hv
theorem Bits.there (h : Bits w b t bs) (o n : Nat) (hn : o + n ≤ bs.length) : w.there b o n := fun j hj => ⟨by rw [h.cell (by omega)]; rfl, h.frozen _⟩
end
theorem Bits.new (w : World) (t : TypeId) (bs : List Bool) : Bits (w.alloc (.cells (cellsB bs) t)) w.heap.size t bs := by
  exact heap_alloc_new w _
theorem setCell_grown (w : World) (b n : Nat) (v : Value) : w.grownBy (w.setCell ⟨b, n, none⟩ v) (some b) :=
  ⟨rfl, rfl, rfl, by simp, fun k _ hne => Below.heap_setCell w _ v k (fun e => hne (by rw [e]))⟩

/-- What is there behind the flags cs are put in from o on. -/
def putB : List Bool → Nat → List Bool → List Bool
  | bs, _, [] => bs
  | bs, o, v :: r => putB (bs.set o v) (o + 1) r
theorem putB_length : ∀ (cs : List Bool) (bs : List Bool) (o : Nat), (putB bs o cs).length = bs.length
  | [], _, _ => rfl
  | v :: r, bs, o => by rw [putB, putB_length r]; simp
theorem putB_get : ∀ (cs : List Bool) (bs : List Bool) (o i : Nat), o + cs.length ≤ bs.length → (putB bs o cs).getD i false = if o ≤ i ∧ i < o + cs.length then cs.getD (i - o) false else bs.getD i false
  | [], bs, o, i, _ => by rw [putB, if_neg (by simp)]
  | v :: r, bs, o, i, h => by
    simp only [List.length_cons] at h
    rw [putB, putB_get r (bs.set o v) (o + 1) i (by simp; omega)]
    simp only [List.length_cons]
    by_cases e : i = o
    · subst e
      rw [if_neg (by omega), if_pos (by omega), Nat.sub_self]
      simp [List.getD, show i < bs.length by omega]
    · by_cases g : o + 1 ≤ i ∧ i < o + 1 + r.length
      · rw [if_pos g, if_pos (by omega), show i - o = (i - (o + 1)) + 1 by omega]
        rfl
      · rw [if_neg g, if_neg (by omega)]
        simp [List.getD, Ne.symm e]
theorem list_ext_getD {us bs : List Bool} (hl : us.length = bs.length) (h : ∀ i, i < us.length → us.getD i false = bs.getD i false) : us = bs := by
  apply List.ext_getElem hl
  intro i h1 h2
  have := h i h1
  simpa [List.getD, h1, h2] using this
theorem putB_whole {bs cs : List Bool} (h : cs.length = bs.length) : putB bs 0 cs = cs := by
  apply list_ext_getD (by rw [putB_length]; exact h.symm)
  intro i hi
  rw [putB_length] at hi
  rw [putB_get _ _ _ _ (by omega), if_pos (by omega), Nat.sub_zero]
theorem putB_tail {us bs cs : List Bool} (h : cs.length = bs.length) : putB (us ++ bs) us.length cs = us ++ cs := by
  apply list_ext_getD (by rw [putB_length]; simp [h])
  intro i hi
  rw [putB_length] at hi
  rw [putB_get _ _ _ _ (by simp [h])]
  simp only [List.length_append] at hi
  by_cases g : us.length ≤ i
  · rw [if_pos ⟨g, by omega⟩, List.getD_eq_getElem?_getD, List.getD_eq_getElem?_getD, List.getElem?_append_right g]
  · rw [if_neg (by omega), List.getD_eq_getElem?_getD, List.getD_eq_getElem?_getD, List.getElem?_append_left (by omega), List.getElem?_append_left (by omega)]
theorem setCells_bits : ∀ (cs bs : List Bool) (o : Nat) (w : World) (b : Nat) (t : TypeId), Bits w b t bs → Bits (w.setCells b o (cs.map Value.bool)) b t (putB bs o cs) ∧ w.grownBy (w.setCells b o (cs.map Value.bool)) (some b)
  | [], bs, o, w, b, t, h => ⟨h, World.grownBy.refl _ _⟩
  | v :: r, bs, o, w, b, t, h => by
    rw [List.map_cons, World.setCells, putB]
    have := setCells_bits r (bs.set o v) (o + 1) _ b t (h.set o v)
    exact ⟨this.1, grownBy_trans (setCell_grown w b o _) this.2⟩

section
variable {P : Program}
theorem wpList_val {ops : Array Oper} {rest : List Oper} {o : Oper} {a : Act} {w w' : World} {v : Value} {Q : Exit → Act → World → Prop} (hgd : Region.wanted o (yielded ops a.tmps) = true) (hr : (execOp a.eval o).run P w = .ok (.value v) w') (h : wpList P ops Q rest (a.put o.dst v) w') : wpList P ops Q (o :: rest) a w := by
  refine wpList_step fun K hK => ?_
  rw [if_pos hgd]
  unfold Oper.wp
  rw [hr, Oper.upon_value]
  exact hK _ _ h
theorem wpList_unit {ops : Array Oper} {rest : List Oper} {o : Oper} {a : Act} {w w' : World} {Q : Exit → Act → World → Prop} (hgd : Region.wanted o (yielded ops a.tmps) = true) (hr : (execOp a.eval o).run P w = .ok .skip w') (h : wpList P ops Q rest (a.put o.dst undef) w') : wpList P ops Q (o :: rest) a w := by
  refine wpList_step fun K hK => ?_
  rw [if_pos hgd]
  unfold Oper.wp
  rw [hr, Oper.upon_skip]
  exact hK _ _ h

/-- A type of such arrays: its cells, its form. -/
structure BitT (P : Program) (ty : TypeId) (n : Nat) : Prop where
  info : (P.info? ty).map (fun i => (i.zero, i.size)) = some (some (.agg (Array.replicate n (.bool false))), n)
  desc : ∃ d, P.underlying ty = some d ∧ d.isRow = true
theorem BitT.size {ty : TypeId} {n : Nat} (h : BitT P ty n) : (P.info? ty).map (·.size) = some n := by
  have := h.info
  cases hq : P.info? ty with
  | none => simp [hq] at this
  | some i => simp [hq] at this; simp [this.2]
theorem BitT.zero {ty : TypeId} {n : Nat} (h : BitT P ty n) (w : World) : (zeroValue ty).run P w = .ok (.agg (Array.replicate n (.bool false))) w := by
  have := h.info
  cases hq : P.info? ty with
  | none => simp [hq] at this
  | some i => simp [hq] at this; simp [zeroValue, typeInfo, hq, this.1]
theorem cellsB_rep (n : Nat) : cellsB (List.replicate n false) = Array.replicate n (.bool false) := by
  simp [cellsB]

/-- The whole array, or a part of it, is read. -/
theorem exec_loadB {ρ : Operand → Value} {o : Oper} {w : World} {ty t : TypeId} {x : Operand} {b off n : Nat} {bs : List Bool} (ho : o.op = .load ty x) (hx : ρ x = .pointer (some ⟨b, off, none⟩)) (hT : BitT P ty n) (hB : Bits w b t bs) (hn : off + n ≤ bs.length) :
    (execOp ρ o).run P w = .ok (.value (aggB ((bs.drop off).take n))) w := by
  obtain ⟨d, hu, hd⟩ := hT.desc
  have hl : (((bs.drop off).take n).map Value.bool).length = n := by simp; omega
  have := run_loadVar_mid (P := P) w b off ty (((bs.drop off).take n).map Value.bool) d (hB.range off n) hu hd (by rw [hl]; exact hT.size)
  unfold execOp
  simp only [ho, hx, Instr.loadAt, Instr.sureAddr, Sem.run_bind, Sem.run_pure, Result.andThen_ok, this]
  rfl
theorem exec_loadW {ρ : Operand → Value} {o : Oper} {w : World} {ty t : TypeId} {x : Operand} {b : Nat} {bs : List Bool} (ho : o.op = .load ty x) (hx : ρ x = .pointer (some ⟨b, 0, none⟩)) (hT : BitT P ty bs.length) (hB : Bits w b t bs) :
    (execOp ρ o).run P w = .ok (.value (aggB bs)) w := by
  have := exec_loadB (P := P) ho hx hT hB (by omega)
  simpa using this
/-- It is stored. -/
theorem exec_storeB {ρ : Operand → Value} {o : Oper} {w : World} {ty t : TypeId} {x y : Operand} {b off : Nat} {bs cs : List Bool} (ho : o.op = .store ty x y) (hx : ρ x = .pointer (some ⟨b, off, none⟩)) (hy : ρ y = aggB cs) (hT : BitT P ty cs.length) (hB : Bits w b t bs) (hn : off + cs.length ≤ bs.length) :
    ∃ w', (execOp ρ o).run P w = .ok .skip w' ∧ Bits w' b t (putB bs off cs) ∧ w.grownBy w' (some b) := by
  have h1 := run_storeVar_mid (P := P) w b off ty (cellsB cs) (hB.there off _ (by rw [cellsB_size]; exact hn)) (by rw [cellsB_size]; exact hT.size) (cellsB_one cs)
  have h2 := setCells_bits cs bs off w b t hB
  refine ⟨_, ?_, h2.1, h2.2⟩
  unfold execOp
  simp only [ho, hx, hy, aggB, Instr.storeAt, Instr.sureAddr, Sem.run_bind, Sem.run_pure, Result.andThen_ok, h1]
  rfl
theorem exec_boxB {ρ : Operand → Value} {o : Oper} {w : World} {ty : TypeId} {x : Operand} {bs : List Bool} (ho : o.op = .box ty x) (hx : ρ x = aggB bs) :
    ∃ w', (execOp ρ o).run P w = .ok (.value (.pointer (some ⟨w.heap.size, 0, none⟩))) w' ∧ Bits w' w.heap.size ty bs ∧ Below w.heap.size w w' ∧ w'.heap.size = w.heap.size + 1 := by
  refine ⟨w.alloc (.cells (cellsB bs) ty), ?_, Bits.new w ty bs, (Below.refl _ _).alloc (Nat.le_refl _) _, by simp⟩
  unfold execOp
  simp only [ho, hx, aggB, Instr.box, newVar, newRow, Value.cells]
  simp
theorem exec_allocB {ρ : Operand → Value} {o : Oper} {w : World} {ty : TypeId} {n : Nat} (ho : o.op = .alloc ty) (hT : BitT P ty n) :
    ∃ w', (execOp ρ o).run P w = .ok (.value (.pointer (some ⟨w.heap.size, 0, none⟩))) w' ∧ Bits w' w.heap.size ty (List.replicate n false) ∧ Below w.heap.size w w' ∧ w'.heap.size = w.heap.size + 1 := by
  refine ⟨w.alloc (.cells (cellsB (List.replicate n false)) ty), ?_, Bits.new w ty _, (Below.refl _ _).alloc (Nat.le_refl _) _, by simp⟩
  unfold execOp
  simp only [ho, Instr.alloc, newVar, newRow, Sem.run_bind, hT.zero, Result.andThen_ok, Value.cells, cellsB_rep]
  simp
theorem exec_indexB {ρ : Operand → Value} {o : Oper} {w : World} {ty e : TypeId} {x y : Operand} {bs : List Bool} {i : Nat} (ho : o.op = .index ty x y) (hx : ρ x = aggB bs) (hy : ρ y = .int .i64 i) (hu : P.underlying ty = some (.array bs.length e)) (he : P.underlying e = some .bool) (hz : (P.info? e).map (·.size) = some 1) (hi : i < bs.length) :
    (execOp ρ o).run P w = .ok (.value (.bool (bs.getD i false))) w := by
  have hz' : (sizeOf e).run P w = .ok 1 w := by
    cases hq : P.info? e with
    | none => simp [hq] at hz
    | some j => simp [hq] at hz; simp [sizeOf, typeInfo, hq, hz]
  have hg : (isAgg e).run P w = .ok false w := by simp [isAgg, run_underlying he]
  have hc : (cellsB bs)[i]? = some (.bool (bs.getD i false)) := by rw [cellsB_get]; simp [List.getD, hi]
  unfold execOp
  simp only [ho, hx, hy, aggB, Instr.index, asIntOf]
  simp [run_underlying hu, hz', part, hg, hi, hc]
end
end Go.Proofs.YthnppodnjokaoaaDoor
namespace Go.Proofs.YthnppodnjokaoaaDoor
open Go.RowKit

/-- The value of such a row. -/
def aggV (vs : List Value) : Value := .agg vs.toArray
/-- Block b is such a row. -/
def Vals (w : World) (b : Nat) (t : TypeId) (vs : List Value) : Prop := w.heap[b]? = some (.cells vs.toArray t)
/-- Each has one cell. -/
def Ones (vs : List Value) : Prop := ∀ v ∈ vs, v.oneCell' = true
theorem Ones.all {vs : List Value} (h : Ones vs) : vs.toArray.all (·.oneCell') = true := Array.all_eq_true_iff_forall_mem.2 fun v hv => h v (by simpa using hv)
theorem Ones.part {vs : List Value} (h : Ones vs) (o n : Nat) : Ones ((vs.drop o).take n) := fun v hv => h v (List.mem_of_mem_drop (List.mem_of_mem_take hv))
section
variable {w w' : World} {b : Nat} {t : TypeId} {vs : List Value}
theorem Vals.lt (h : Vals w b t vs) : b < w.heap.size := (Array.getElem?_eq_some_iff.1 h).1
theorem Vals.cell (h : Vals w b t vs) (n : Nat) : w.cell? ⟨b, n, none⟩ = vs[n]? := by
  rw [cell_of_row w b n _ t (0, 0) h]
  simp
theorem Vals.frozen (h : Vals w b t vs) (n : Nat) : w.frozen? ⟨b, n, none⟩ = false := by
  unfold Vals at h
  simp [World.frozen?, h]
theorem Vals.kept (h : Vals w b t vs) (hb : w'.heap[b]? = w.heap[b]?) : Vals w' b t vs := by unfold Vals at *; rw [hb]; exact h
theorem Vals.below (h : Vals w b t vs) {N : Nat} (hb : Below N w w') (hN : b < N) : Vals w' b t vs := h.kept (hb.block b hN)
theorem Vals.later (h : Vals w b t vs) (hb : Below w.heap.size w w') : Vals w' b t vs := h.below hb h.lt
theorem Vals.grown (h : Vals w b t vs) {row : Option Nat} (hg : w.grownBy w' row) (hne : row ≠ some b) : Vals w' b t vs := h.kept (hg.block b h.lt (fun e => hne e.symm))
theorem Vals.set (h : Vals w b t vs) (n : Nat) (v : Value) : Vals (w.setCell ⟨b, n, none⟩ v) b t (vs.set n v) := by
  unfold Vals at *
  have e : (vs.set n v).toArray = vs.toArray.setIfInBounds n v := by simp
  rw [e]
  simp [World.setCell, Array.getElem?_modify, h]
theorem Vals.range (h : Vals w b t vs) (o n : Nat) : w.rangeAt b o ((vs.drop o).take n) := by
  intro j v hv
  rw [cell_of_row w b (o + j) _ t (0, 0) h]
  rw [List.getElem?_take] at hv
  split at hv
  · rw [List.getElem?_drop] at hv; simpa using hv
  · simp at hv
theorem Vals.there (h : Vals w b t vs) (o n : Nat) (hn : o + n ≤ vs.length) : w.there b o n := fun j hj => ⟨by rw [h.cell]; simp; omega, h.frozen _⟩
end
theorem Vals.new (w : World) (t : TypeId) (vs : List Value) : Vals (w.alloc (.cells vs.toArray t)) w.heap.size t vs := by
  exact heap_alloc_new w _

/-- What is there behind the values cs are put in from o on. -/
def putV : List Value → Nat → List Value → List Value
  | vs, _, [] => vs
  | vs, o, v :: r => putV (vs.set o v) (o + 1) r
theorem putV_length : ∀ (cs : List Value) (vs : List Value) (o : Nat), (putV vs o cs).length = vs.length
  | [], _, _ => rfl
  | v :: r, vs, o => by rw [putV, putV_length r]; simp
theorem putV_get : ∀ (cs : List Value) (vs : List Value) (o i : Nat), o + cs.length ≤ vs.length → (putV vs o cs)[i]? = if o ≤ i ∧ i < o + cs.length then cs[i - o]? else vs[i]?
  | [], vs, o, i, _ => by rw [putV, if_neg (by simp)]
  | v :: r, vs, o, i, h => by
    simp only [List.length_cons] at h
    rw [putV, putV_get r (vs.set o v) (o + 1) i (by simp; omega)]
    simp only [List.length_cons]
    by_cases e : i = o
    · subst e
      rw [if_neg (by omega), if_pos (by omega), Nat.sub_self]
      simp [show i < vs.length by omega]
    · by_cases g : o + 1 ≤ i ∧ i < o + 1 + r.length
      · rw [if_pos g, if_pos (by omega), show i - o = (i - (o + 1)) + 1 by omega]
        rfl
      · rw [if_neg g, if_neg (by omega)]
        simp [Ne.symm e]
theorem putV_whole {vs cs : List Value} (h : cs.length = vs.length) : putV vs 0 cs = cs := by
  apply List.ext_getElem?
  intro i
  rw [putV_get _ _ _ _ (by omega)]
  by_cases e : i < cs.length
  · rw [if_pos (by omega), Nat.sub_zero]
  · rw [if_neg (by omega), List.getElem?_eq_none (by omega), List.getElem?_eq_none (by omega)]
theorem setCells_vals : ∀ (cs vs : List Value) (o : Nat) (w : World) (b : Nat) (t : TypeId), Vals w b t vs → Vals (w.setCells b o cs) b t (putV vs o cs) ∧ w.grownBy (w.setCells b o cs) (some b)
  | [], vs, o, w, b, t, h => ⟨h, World.grownBy.refl _ _⟩
  | v :: r, vs, o, w, b, t, h => by
    rw [World.setCells, putV]
    have := setCells_vals r (vs.set o v) (o + 1) _ b t (h.set o v)
    exact ⟨this.1, grownBy_trans (setCell_grown w b o _) this.2⟩

section
variable {P : Program}
/-- A type of such rows: its cells, its form. -/
structure RowT (P : Program) (ty : TypeId) (zs : List Value) : Prop where
  info : (P.info? ty).map (fun i => (i.zero, i.size)) = some (some (aggV zs), zs.length)
  desc : ∃ d, P.underlying ty = some d ∧ d.isRow = true
theorem RowT.size {ty : TypeId} {zs : List Value} (h : RowT P ty zs) : (P.info? ty).map (·.size) = some zs.length := by
  have := h.info
  cases hq : P.info? ty with
  | none => simp [hq] at this
  | some i => simp [hq] at this; simp [this.2]
theorem RowT.zero {ty : TypeId} {zs : List Value} (h : RowT P ty zs) (w : World) : (zeroValue ty).run P w = .ok (aggV zs) w := by
  have := h.info
  cases hq : P.info? ty with
  | none => simp [hq] at this
  | some i => simp [hq] at this; simp [zeroValue, typeInfo, hq, this.1]
/-- The whole row, or a part of it, is read. -/
theorem exec_loadV {ρ : Operand → Value} {o : Oper} {w : World} {ty t : TypeId} {x : Operand} {b off : Nat} {vs zs : List Value} (ho : o.op = .load ty x) (hx : ρ x = .pointer (some ⟨b, off, none⟩)) (hT : RowT P ty zs) (hB : Vals w b t vs) (hn : off + zs.length ≤ vs.length) :
    (execOp ρ o).run P w = .ok (.value (aggV ((vs.drop off).take zs.length))) w := by
  obtain ⟨d, hu, hd⟩ := hT.desc
  have hl : ((vs.drop off).take zs.length).length = zs.length := by simp; omega
  have := run_loadVar_mid (P := P) w b off ty ((vs.drop off).take zs.length) d (hB.range off zs.length) hu hd (by rw [hl]; exact hT.size)
  unfold execOp
  simp only [ho, hx, Instr.loadAt, Instr.sureAddr, Sem.run_bind, Sem.run_pure, Result.andThen_ok, this]
  rfl
theorem exec_loadVW {ρ : Operand → Value} {o : Oper} {w : World} {ty t : TypeId} {x : Operand} {b : Nat} {vs zs : List Value} (ho : o.op = .load ty x) (hx : ρ x = .pointer (some ⟨b, 0, none⟩)) (hT : RowT P ty zs) (hl : vs.length = zs.length) (hB : Vals w b t vs) :
    (execOp ρ o).run P w = .ok (.value (aggV vs)) w := by
  have := exec_loadV (P := P) ho hx hT hB (by omega)
  rw [List.drop_zero, List.take_of_length_le (by omega)] at this
  exact this
/-- It is stored. -/
theorem exec_storeV {ρ : Operand → Value} {o : Oper} {w : World} {ty t : TypeId} {x y : Operand} {b off : Nat} {vs cs zs : List Value} (ho : o.op = .store ty x y) (hx : ρ x = .pointer (some ⟨b, off, none⟩)) (hy : ρ y = aggV cs) (hT : RowT P ty zs) (hl : cs.length = zs.length) (hB : Vals w b t vs) (hn : off + cs.length ≤ vs.length) (h1 : Ones cs) :
    ∃ w', (execOp ρ o).run P w = .ok .skip w' ∧ Vals w' b t (putV vs off cs) ∧ w.grownBy w' (some b) := by
  have h1 := run_storeVar_mid (P := P) w b off ty cs.toArray (hB.there off _ (by simpa using hn)) (by rw [hT.size, ← hl]; simp) h1.all
  have h2 := setCells_vals cs vs off w b t hB
  refine ⟨_, ?_, h2.1, h2.2⟩
  unfold execOp
  simp only [ho, hx, hy, aggV, Instr.storeAt, Instr.sureAddr, Sem.run_bind, Sem.run_pure, Result.andThen_ok, h1]
theorem exec_boxV {ρ : Operand → Value} {o : Oper} {w : World} {ty : TypeId} {x : Operand} {vs : List Value} (ho : o.op = .box ty x) (hx : ρ x = aggV vs) :
    ∃ w', (execOp ρ o).run P w = .ok (.value (.pointer (some ⟨w.heap.size, 0, none⟩))) w' ∧ Vals w' w.heap.size ty vs ∧ Below w.heap.size w w' ∧ w'.heap.size = w.heap.size + 1 := by
  refine ⟨w.alloc (.cells vs.toArray ty), ?_, Vals.new w ty vs, (Below.refl _ _).alloc (Nat.le_refl _) _, by simp⟩
  unfold execOp
  simp only [ho, hx, aggV, Instr.box, newVar, newRow, Value.cells]
  simp
theorem exec_allocV {ρ : Operand → Value} {o : Oper} {w : World} {ty : TypeId} {zs : List Value} (ho : o.op = .alloc ty) (hT : RowT P ty zs) :
    ∃ w', (execOp ρ o).run P w = .ok (.value (.pointer (some ⟨w.heap.size, 0, none⟩))) w' ∧ Vals w' w.heap.size ty zs ∧ Below w.heap.size w w' ∧ w'.heap.size = w.heap.size + 1 := by
  refine ⟨w.alloc (.cells zs.toArray ty), ?_, Vals.new w ty _, (Below.refl _ _).alloc (Nat.le_refl _) _, by simp⟩
  unfold execOp
  simp only [ho, Instr.alloc, newVar, newRow, Sem.run_bind, hT.zero, aggV, Result.andThen_ok, Value.cells]
  simp
theorem wpList_boxV {ops : Array Oper} {rest : List Oper} {o : Oper} {a : Act} {w : World} {Q : Exit → Act → World → Prop} (hgd : Region.wanted o (yielded ops a.tmps) = true) (ty : TypeId) (x : Operand) (ho : o.op = .box ty x) (vs : List Value) (hx : a.eval x = aggV vs)
    (h : ∀ w', Vals w' w.heap.size ty vs → Below w.heap.size w w' → w'.heap.size = w.heap.size + 1 → wpList P ops Q rest (a.put o.dst (.pointer (some ⟨w.heap.size, 0, none⟩))) w') : wpList P ops Q (o :: rest) a w := by
  obtain ⟨w', h1, h2, h3, h4⟩ := exec_boxV (P := P) (w := w) ho hx
  exact wpList_val hgd h1 (h w' h2 h3 h4)
theorem wpList_allocV {ops : Array Oper} {rest : List Oper} {o : Oper} {a : Act} {w : World} {Q : Exit → Act → World → Prop} (hgd : Region.wanted o (yielded ops a.tmps) = true) (ty : TypeId) (ho : o.op = .alloc ty) (zs : List Value) (hT : RowT P ty zs)
    (h : ∀ w', Vals w' w.heap.size ty zs → Below w.heap.size w w' → w'.heap.size = w.heap.size + 1 → wpList P ops Q rest (a.put o.dst (.pointer (some ⟨w.heap.size, 0, none⟩))) w') : wpList P ops Q (o :: rest) a w := by
  obtain ⟨w', h1, h2, h3, h4⟩ := exec_allocV (P := P) (w := w) (ρ := a.eval) ho hT
  exact wpList_val hgd h1 (h w' h2 h3 h4)
theorem wpList_loadV {ops : Array Oper} {rest : List Oper} {o : Oper} {a : Act} {w : World} {Q : Exit → Act → World → Prop} (hgd : Region.wanted o (yielded ops a.tmps) = true) (ty : TypeId) (x : Operand) (ho : o.op = .load ty x) (b off : Nat) (t : TypeId) (vs zs : List Value) (hx : a.eval x = .pointer (some ⟨b, off, none⟩)) (hT : RowT P ty zs) (hB : Vals w b t vs) (hn : off + zs.length ≤ vs.length)
    (h : wpList P ops Q rest (a.put o.dst (aggV ((vs.drop off).take zs.length))) w) : wpList P ops Q (o :: rest) a w :=
  wpList_val hgd (exec_loadV ho hx hT hB hn) h
theorem wpList_loadVW {ops : Array Oper} {rest : List Oper} {o : Oper} {a : Act} {w : World} {Q : Exit → Act → World → Prop} (hgd : Region.wanted o (yielded ops a.tmps) = true) (ty : TypeId) (x : Operand) (ho : o.op = .load ty x) (b : Nat) (t : TypeId) (vs zs : List Value) (hx : a.eval x = .pointer (some ⟨b, 0, none⟩)) (hT : RowT P ty zs) (hl : vs.length = zs.length) (hB : Vals w b t vs)
    (h : wpList P ops Q rest (a.put o.dst (aggV vs)) w) : wpList P ops Q (o :: rest) a w :=
  wpList_val hgd (exec_loadVW ho hx hT hl hB) h
theorem wpList_storeV {ops : Array Oper} {rest : List Oper} {o : Oper} {a : Act} {w : World} {Q : Exit → Act → World → Prop} (hgd : Region.wanted o (yielded ops a.tmps) = true) (ty : TypeId) (x y : Operand) (ho : o.op = .store ty x y) (b off : Nat) (t : TypeId) (vs cs zs : List Value) (hx : a.eval x = .pointer (some ⟨b, off, none⟩)) (hy : a.eval y = aggV cs) (hT : RowT P ty zs) (hl : cs.length = zs.length) (hB : Vals w b t vs) (hn : off + cs.length ≤ vs.length) (h1 : Ones cs)
    (h : ∀ w', Vals w' b t (putV vs off cs) → w.grownBy w' (some b) → wpList P ops Q rest (a.put o.dst undef) w') : wpList P ops Q (o :: rest) a w := by
  obtain ⟨w', h1, h2, h3⟩ := exec_storeV (P := P) ho hx hy hT hl hB hn h1
  exact wpList_unit hgd h1 (h w' h2 h3)
theorem ret_cellV {fn : Func} {p : Tmp} {tmps : Array Value} {w : World} {g : Nat} {t : TypeId} {vs zs : List Value} (ty : TypeId) (h : fn.results = #[.cell p ty]) (hp : tmps.getD p undef = .pointer (some ⟨g, 0, none⟩)) (hB : Vals w g t vs) (hT : RowT P ty zs) (hl : vs.length = zs.length) : (results fn tmps).run P w = .ok (aggV vs) w := by
  obtain ⟨d, hu, hd⟩ := hT.desc
  exact results_cell_row h tmps w g t vs.toArray (0, 0) d hp hB hu (by cases d <;> first | rfl | cases hd) (by rw [hT.size, ← hl]; simp)
end
end Go.Proofs.YthnppodnjokaoaaDoor
namespace Go.Proofs.YthnppodnjokaoaaDoor
open Go.RowKit
section
variable {P : Program}
theorem run_items_of {e : TypeId} {c d : Nat} {xs ys : Array Value} {w : World} {r : Nat → Bool} : ∀ is : List Nat, (∀ i ∈ is, ∃ x y, (part e xs (i * c)).run P w = .ok x w ∧ (part e ys (i * c)).run P w = .ok y w ∧ (Op.equalIn d e x y).run P w = .ok (r i) w) → (Op.eqItems d e c xs ys is).run P w = .ok (is.all r) w
  | [], _ => by simp [Op.eqItems]
  | i :: is, h => by
    obtain ⟨x, y, h1, h2, h3⟩ := h i List.mem_cons_self
    have ih := run_items_of is (fun j hj => h j (List.mem_cons_of_mem _ hj))
    rw [Op.eqItems]
    simp only [Sem.run_bind, h1, h2, h3, Result.andThen_ok, List.all_cons]
    cases r i
    · simp
    · simp only [Bool.not_true, Bool.false_eq_true, if_false, Bool.true_and]; exact ih
theorem all_range_eq {us bs : List Bool} {n : Nat} (ha : us.length = n) (hb : bs.length = n) : ((List.range n).all fun i => us.getD i false == bs.getD i false) = decide (us = bs) := by
  rw [Bool.eq_iff_iff]
  simp only [List.all_eq_true, List.mem_range, beq_iff_eq, decide_eq_true_eq]
  constructor
  · intro h; exact list_ext_getD (by omega) (fun i hi => h i (by omega))
  · rintro rfl; exact fun _ _ => rfl
/-- Arrays of bools. -/
theorem run_eq_flags {ty e : TypeId} {n : Nat} {w : World} (d : Nat) (hu : P.underlying ty = some (.array n e)) (he : P.underlying e = some .bool) (hz : (P.info? e).map (·.size) = some 1) {us bs : List Bool} (ha : us.length = n) (hb : bs.length = n) :
    (Op.equalIn (d + 2) ty (aggB us) (aggB bs)).run P w = .ok (decide (us = bs)) w := by
  cases hq : P.info? e with
  | none => simp [hq] at hz
  | some j =>
    have hc : P.cellsOf e = 1 := by rw [Program.cellsOf, hz]; rfl
    unfold aggB
    rw [run_equalIn_array w (d + 1) _ _ hu hq, hc, run_items_of (r := fun i => us.getD i false == bs.getD i false), all_range_eq ha hb]
    intro i hi
    rw [List.mem_range] at hi
    have hx : (cellsB us)[i]? = some (.bool (us.getD i false)) := by rw [cellsB_get]; simp [List.getD, ha, hi]
    have hy : (cellsB bs)[i]? = some (.bool (bs.getD i false)) := by rw [cellsB_get]; simp [List.getD, hb, hi]
    have hg : (isAgg e).run P w = .ok false w := by simp [isAgg, run_underlying he]
    refine ⟨.bool (us.getD i false), .bool (bs.getD i false), ?_, ?_, run_equalIn_bool w d e _ _ he⟩
    · simp only [part, Sem.run_bind, hg, Result.andThen_ok, Nat.mul_one, hx]; rfl
    · simp only [part, Sem.run_bind, hg, Result.andThen_ok, Nat.mul_one, hy]; rfl
theorem chunks_eq {us bs : List Bool} {n m : Nat} (ha : us.length = m * n) (hb : bs.length = m * n) : ((List.range m).all fun i => decide ((us.drop (i * n)).take n = (bs.drop (i * n)).take n)) = decide (us = bs) := by
  rw [Bool.eq_iff_iff]
  simp only [List.all_eq_true, List.mem_range, decide_eq_true_eq]
  constructor
  · intro h
    apply list_ext_getD (by omega)
    intro i hi
    have hn : 0 < n := by
      rcases Nat.eq_zero_or_pos n with e | e
      · subst e; omega
      · exact e
    have h1 : i / n < m := by
      rw [Nat.div_lt_iff_lt_mul hn]; omega
    have h2 := h (i / n) h1
    have h3 := congrArg (fun l : List Bool => l.getD (i % n) false) h2
    have h4 := Nat.mod_lt i hn
    have h5 : i / n * n + i % n = i := by rw [Nat.mul_comm]; exact Nat.div_add_mod i n
    simpa [List.getD, List.getElem?_take, h4, h5] using h3
  · rintro rfl; exact fun _ _ => rfl
/-- Arrays of arrays of bools. -/
theorem run_eq_table {ty e e2 : TypeId} {n m : Nat} {w : World} (d : Nat) (hu : P.underlying ty = some (.array m e)) (he : P.underlying e = some (.array n e2)) (he2 : P.underlying e2 = some .bool) (hz : (P.info? e).map (·.size) = some n) (hz2 : (P.info? e2).map (·.size) = some 1) {us bs : List Bool} (ha : us.length = m * n) (hb : bs.length = m * n) :
    (Op.equalIn (d + 3) ty (aggB us) (aggB bs)).run P w = .ok (decide (us = bs)) w := by
  cases hq : P.info? e with
  | none => simp [hq] at hz
  | some j =>
    have hc : P.cellsOf e = n := by rw [Program.cellsOf, hz]; rfl
    have hs : (sizeOf e).run P w = .ok n w := by rw [run_sizeOf w hq, hc]
    have hg : (isAgg e).run P w = .ok true w := by simp [isAgg, run_underlying he]
    have hp : ∀ (cs : List Bool) (i : Nat), (part e (cellsB cs) (i * n)).run P w = .ok (aggB ((cs.drop (i * n)).take n)) w := by
      intro cs i
      have hx : (cellsB cs).extract (i * n) (i * n + n) = cellsB ((cs.drop (i * n)).take n) := by
        apply Array.ext_getElem?
        intro k
        rw [cellsB_get, Array.getElem?_extract]
        simp only [List.getElem?_take, List.getElem?_drop, cellsB_get]
        rw [cellsB_size]
        by_cases g : k < n
        · by_cases g2 : i * n + k < cs.length
          · rw [if_pos (by omega), if_pos g]
          · rw [if_neg (by omega), if_pos g, List.getElem?_eq_none (by omega)]; rfl
        · rw [if_neg (by omega), if_neg g]; rfl
      simp only [part, Sem.run_bind, hg, Result.andThen_ok, if_true, hs, hx]
      rfl
    unfold aggB
    rw [run_equalIn_array w (d + 2) _ _ hu hq, hc, run_items_of (r := fun i => decide ((us.drop (i * n)).take n = (bs.drop (i * n)).take n)), chunks_eq ha hb]
    intro i hi
    rw [List.mem_range] at hi
    have hin : i * n + n ≤ m * n := by
      have := Nat.mul_le_mul_right n (show i + 1 ≤ m by omega)
      rw [Nat.succ_mul] at this; exact this
    refine ⟨_, _, hp us i, hp bs i, run_eq_flags d he he2 hz2 ?_ ?_⟩
    · rw [List.length_take, List.length_drop]; omega
    · rw [List.length_take, List.length_drop]; omega
theorem exec_eqlB {ρ : Operand → Value} {o : Oper} {w : World} {ty rt : TypeId} {x y : Operand} {us bs : List Bool} (ho : o.op = .binOp .eql ty x y rt) (hx : ρ x = aggB us) (hy : ρ y = aggB bs) (hg : P.eqGuardType P.depth ty = false) (he : (Op.equalIn 10000 ty (aggB us) (aggB bs)).run P w = .ok (decide (us = bs)) w) :
    (execOp ρ o).run P w = .ok (.value (.bool (decide (us = bs)))) w := by
  unfold execOp
  unfold aggB at *
  simp only [ho, hx, hy, Sem.run_bind, run_eqGuard_agg w _ _ _ _ _ _ hg, Result.andThen_ok, run_eql_struct, he, Sem.run_pure]
/-- Parts are put together. -/
theorem zip_putL (cs : List Bool) : ∀ (bs : List Bool) (o k : Nat), ((cs.map Value.bool).zipIdx k).foldl (fun (ys : Array Value) (p : Value × Nat) => ys.setIfInBounds (o + p.2) p.1) (cellsB bs) = cellsB (putB bs (o + k) cs) := by
  induction cs with
  | nil => intro bs o k; rfl
  | cons v r ih =>
    intro bs o k
    have h := ih (bs.set (o + k) v) o (k + 1)
    have e : cellsB (bs.set (o + k) v) = (cellsB bs).setIfInBounds (o + k) (.bool v) := by simp [cellsB, List.map_set]
    rw [putB, show o + k + 1 = o + (k + 1) by omega, ← h, List.map_cons, List.zipIdx_cons, List.foldl_cons, e]
theorem zip_put (cs bs : List Bool) (o k : Nat) : ((cellsB cs).zipIdx k).foldl (fun (ys : Array Value) (p : Value × Nat) => ys.setIfInBounds (o + p.2) p.1) (cellsB bs) = cellsB (putB bs (o + k) cs) := by
  rw [← zip_putL cs bs o k, ← Array.foldl_toList]
  congr 1
  simp [cellsB]
theorem fill_put {place : Nat → Option (Nat × Nat)} {bs cs : List Bool} {i off : Nat} {rest : List (Nat × Value)} (h : place i = some (off, cs.length)) (hn : off + cs.length ≤ bs.length) : Instr.fill place (cellsB bs) ((i, aggB cs) :: rest) = Instr.fill place (cellsB (putB bs off cs)) rest := by
  have z := zip_put cs bs off 0
  rw [Instr.fill, h]
  simp only [aggB, Value.cells, cellsB_size]
  rw [if_neg (by simp; omega)]
  congr 1
end
end Go.Proofs.YthnppodnjokaoaaDoor
namespace Go.Proofs.YthnppodnjokaoaaDoor
open Go.RowKit

section
variable {P : Program}
theorem wpList_boxB {ops : Array Oper} {rest : List Oper} {o : Oper} {a : Act} {w : World} {Q : Exit → Act → World → Prop} (hgd : Region.wanted o (yielded ops a.tmps) = true) (ty : TypeId) (x : Operand) (ho : o.op = .box ty x) (bs : List Bool) (hx : a.eval x = aggB bs)
    (h : ∀ w', Bits w' w.heap.size ty bs → Below w.heap.size w w' → w'.heap.size = w.heap.size + 1 → wpList P ops Q rest (a.put o.dst (.pointer (some ⟨w.heap.size, 0, none⟩))) w') : wpList P ops Q (o :: rest) a w := by
  obtain ⟨w', h1, h2, h3, h4⟩ := exec_boxB (P := P) (w := w) ho hx
  exact wpList_val hgd h1 (h w' h2 h3 h4)
theorem wpList_allocB {ops : Array Oper} {rest : List Oper} {o : Oper} {a : Act} {w : World} {Q : Exit → Act → World → Prop} (hgd : Region.wanted o (yielded ops a.tmps) = true) (ty : TypeId) (ho : o.op = .alloc ty) (n : Nat) (hT : BitT P ty n)
    (h : ∀ w', Bits w' w.heap.size ty (List.replicate n false) → Below w.heap.size w w' → w'.heap.size = w.heap.size + 1 → wpList P ops Q rest (a.put o.dst (.pointer (some ⟨w.heap.size, 0, none⟩))) w') : wpList P ops Q (o :: rest) a w := by
  obtain ⟨w', h1, h2, h3, h4⟩ := exec_allocB (P := P) (w := w) (ρ := a.eval) ho hT
  exact wpList_val hgd h1 (h w' h2 h3 h4)
theorem wpList_loadB {ops : Array Oper} {rest : List Oper} {o : Oper} {a : Act} {w : World} {Q : Exit → Act → World → Prop} (hgd : Region.wanted o (yielded ops a.tmps) = true) (ty : TypeId) (x : Operand) (ho : o.op = .load ty x) (b off n : Nat) (t : TypeId) (bs : List Bool) (hx : a.eval x = .pointer (some ⟨b, off, none⟩)) (hT : BitT P ty n) (hB : Bits w b t bs) (hn : off + n ≤ bs.length)
    (h : wpList P ops Q rest (a.put o.dst (aggB ((bs.drop off).take n))) w) : wpList P ops Q (o :: rest) a w :=
  wpList_val hgd (exec_loadB ho hx hT hB hn) h
theorem wpList_loadW {ops : Array Oper} {rest : List Oper} {o : Oper} {a : Act} {w : World} {Q : Exit → Act → World → Prop} (hgd : Region.wanted o (yielded ops a.tmps) = true) (ty : TypeId) (x : Operand) (ho : o.op = .load ty x) (b : Nat) (t : TypeId) (bs : List Bool) (hx : a.eval x = .pointer (some ⟨b, 0, none⟩)) (hT : BitT P ty bs.length) (hB : Bits w b t bs)
    (h : wpList P ops Q rest (a.put o.dst (aggB bs)) w) : wpList P ops Q (o :: rest) a w :=
  wpList_val hgd (exec_loadW ho hx hT hB) h
theorem wpList_storeB {ops : Array Oper} {rest : List Oper} {o : Oper} {a : Act} {w : World} {Q : Exit → Act → World → Prop} (hgd : Region.wanted o (yielded ops a.tmps) = true) (ty : TypeId) (x y : Operand) (ho : o.op = .store ty x y) (b off : Nat) (t : TypeId) (bs cs : List Bool) (hx : a.eval x = .pointer (some ⟨b, off, none⟩)) (hy : a.eval y = aggB cs) (hT : BitT P ty cs.length) (hB : Bits w b t bs) (hn : off + cs.length ≤ bs.length)
    (h : ∀ w', Bits w' b t (putB bs off cs) → w.grownBy w' (some b) → wpList P ops Q rest (a.put o.dst undef) w') : wpList P ops Q (o :: rest) a w := by
  obtain ⟨w', h1, h2, h3⟩ := exec_storeB (P := P) ho hx hy hT hB hn
  exact wpList_unit hgd h1 (h w' h2 h3)
theorem wpList_eqlB {ops : Array Oper} {rest : List Oper} {o : Oper} {a : Act} {w : World} {Q : Exit → Act → World → Prop} (hgd : Region.wanted o (yielded ops a.tmps) = true) (ty rt : TypeId) (x y : Operand) (ho : o.op = .binOp .eql ty x y rt) (cs bs : List Bool) (hx : a.eval x = aggB cs) (hy : a.eval y = aggB bs) (hg : P.eqGuardType P.depth ty = false) (he : (Op.equalIn 10000 ty (aggB cs) (aggB bs)).run P w = .ok (decide (cs = bs)) w)
    (h : wpList P ops Q rest (a.put o.dst (.bool (decide (cs = bs)))) w) : wpList P ops Q (o :: rest) a w :=
  wpList_val hgd (exec_eqlB ho hx hy hg he) h
theorem wpList_indexB {ops : Array Oper} {rest : List Oper} {o : Oper} {a : Act} {w : World} {Q : Exit → Act → World → Prop} (hgd : Region.wanted o (yielded ops a.tmps) = true) (ty e : TypeId) (x y : Operand) (ho : o.op = .index ty x y) (bs : List Bool) (i : Nat) (hx : a.eval x = aggB bs) (hy : a.eval y = .int .i64 i) (hu : P.underlying ty = some (.array bs.length e)) (he : P.underlying e = some .bool) (hz : (P.info? e).map (·.size) = some 1) (hi : i < bs.length)
    (h : wpList P ops Q rest (a.put o.dst (.bool (bs.getD i false))) w) : wpList P ops Q (o :: rest) a w :=
  wpList_val hgd (exec_indexB ho hx hy hu he hz hi) h
end

theorem row_of {P : Program} {ty : TypeId} (h : (P.underlying ty).map TypeDesc.isRow = some true) : ∃ d, P.underlying ty = some d ∧ d.isRow = true := by
  cases hq : P.underlying ty with
  | none => simp [hq] at h
  | some d => exact ⟨d, rfl, by simpa [hq] using h⟩
set_option maxRecDepth 100000 in
theorem bt_flags : BitT Tryd.prog 134 27 := ⟨by kernel_rfl, row_of (by kernel_rfl)⟩
set_option maxRecDepth 100000 in
theorem bt_table : BitT Tryd.prog 148 540 := ⟨by kernel_rfl, row_of (by kernel_rfl)⟩
theorem bool_size : (Tryd.prog.info? 4).map (·.size) = some 1 := by kernel_rfl
theorem u_flags : Tryd.prog.underlying 134 = some (.array 27 4) := by kernel_rfl
theorem u_bool : Tryd.prog.underlying 4 = some .bool := by kernel_rfl

/-- The numbers below k whose flag is up. -/
def numsB (f : Nat → Bool) : Nat → List Int
  | 0 => []
  | k + 1 => if f k then numsB f k ++ [(k : Int)] else numsB f k
theorem numsB_len (f : Nat → Bool) (k : Nat) : (numsB f k).length ≤ k := by
  induction k with
  | zero => simp [numsB]
  | succ k ih =>
    rw [numsB]
    split
    · rw [List.length_append, List.length_singleton]; omega
    · omega
theorem mem_numsB {f : Nat → Bool} {k : Nat} {x : Int} : x ∈ numsB f k ↔ ∃ n : Nat, n < k ∧ x = n ∧ f n = true := by
  induction k with
  | zero => simp [numsB]
  | succ k ih =>
    rw [numsB]
    split
    · rename_i h
      rw [List.mem_append, ih, List.mem_singleton]
      constructor
      · rintro (⟨n, h1, h2, h3⟩ | rfl)
        · exact ⟨n, by omega, h2, h3⟩
        · exact ⟨k, by omega, rfl, h⟩
      · rintro ⟨n, h1, h2, h3⟩
        by_cases e : n = k
        · subst e; exact .inr h2
        · exact .inl ⟨n, by omega, h2, h3⟩
    · rename_i h
      rw [ih]
      constructor
      · rintro ⟨n, h1, h2, h3⟩; exact ⟨n, by omega, h2, h3⟩
      · rintro ⟨n, h1, h2, h3⟩
        refine ⟨n, ?_, h2, h3⟩
        by_cases e : n = k
        · subst e; exact absurd h3 h
        · omega
theorem numsB_sorted (f : Nat → Bool) (k : Nat) : (numsB f k).Pairwise (· < ·) := by
  induction k with
  | zero => exact List.Pairwise.nil
  | succ k ih =>
    rw [numsB]
    split
    · rw [List.pairwise_append]
      refine ⟨ih, List.pairwise_singleton _ _, fun x hx y hy => ?_⟩
      obtain ⟨n, h1, rfl, _⟩ := mem_numsB.1 hx
      rw [List.mem_singleton] at hy
      omega
    · exact ih

/-- All symbols of the row are of parts whose flag is up. -/
def allB (bs : List Bool) (row : List Int) : Bool := row.all fun x => decide (100 ≤ x ∧ x - 100 < 20) && bs.getD (x - 100).toNat false
theorem allB_step {p : Int → Bool} {xs : List Int} {k : Nat} (h : (xs.take k).all p = true) (hk : k < xs.length) (g : p xs[k] = true) : (xs.take (k + 1)).all p = true := by
  rw [List.take_succ_eq_append_getElem hk, List.all_append, h]; simp [g]
theorem allB_no {p : Int → Bool} {xs : List Int} {k : Nat} (hk : k < xs.length) (g : p xs[k] = false) : xs.all p = false := by
  rw [Bool.eq_false_iff]; intro h
  rw [List.all_eq_true] at h
  have := h _ (List.getElem_mem hk)
  rw [g] at this; cases this
theorem allB_end {p : Int → Bool} {xs : List Int} {k : Nat} (h : (xs.take k).all p = true) (hk : ¬ k < xs.length) : xs.all p = true := by
  rwa [List.take_of_length_le (by omega)] at h

set_option maxRecDepth 100000 in
theorem allOf_any (zs : List Int) (a : Option Addr) (c : Nat) (bs : List Bool) (w : World) (h : Reads w a zs) (hl : zs.length ≤ 1048576) (hz : ∀ z ∈ zs, -9223372036854775808 ≤ z ∧ z ≤ 9223372036854775807) (hb : bs.length = 27) :
    Calls Tryd.prog 122 #[.slice a zs.length c, aggB bs] w fun e w' => e = .returned (.bool (allB bs zs)) ∧ Below w.heap.size w w' := by
  have HZ : Hid (∀ z ∈ zs, -9223372036854775808 ≤ z ∧ z ≤ 9223372036854775807) := hz
  clear hz
  go_enter Tryd.func122, Tryd.ntmps122
  go_wp2_with (refine wpList_boxB rfl 134 _ rfl bs rfl ?_; intro w1 hB1 hb1 hs1)
  go_loop [9] (fun s => ∃ k : Nat, k ≤ zs.length ∧ s = .int .i64 k ∧ Hid ((zs.take k).all (fun x => decide (100 ≤ x ∧ x - 100 < 20) && bs.getD (x - 100).toNat false) = true)) (fun s => zs.length - (intOf s).toNat)
  case atStart => exact ⟨0, Nat.zero_le _, rfl, by show _ = _; simp⟩
  case round =>
    obtain ⟨k, hk, rfl, HK⟩ := hrel
    have h1 := h.below hb1
    by_cases hlt : k < zs.length
    · obtain ⟨b, off, rfl, hbb, hc⟩ := h1.at hlt
      have q1 := hc k hlt
      rw [List.getD_eq_getElem?_getD, List.getElem?_eq_getElem hlt, Option.getD_some] at q1
      have hr := HZ.out zs[k] (List.getElem_mem hlt)
      have HS : Hid (100 ≤ zs[k] ∧ zs[k] - 100 < 20 → bs.getD (zs[k] - 100).toNat false = true → (zs.take (k + 1)).all (fun x => decide (100 ≤ x ∧ x - 100 < 20) && bs.getD (x - 100).toNat false) = true) := fun g1 g2 => allB_step HK.out hlt (by simp only [decide_eq_true g1, Bool.true_and]; exact g2)
      have HN : Hid ((100 ≤ zs[k] ∧ zs[k] - 100 < 20 → bs.getD (zs[k] - 100).toNat false = false) → allB bs zs = false) := fun g1 => by
        refine allB_no hlt ?_
        by_cases g2 : 100 ≤ zs[k] ∧ zs[k] - 100 < 20
        · simp only [g1 g2, Bool.and_false]
        · simp only [decide_eq_false g2, Bool.false_and]
      clear hc h h1 HK
      generalize zs[k] = z at *
      by_cases z1 : 100 ≤ z
      · by_cases z2 : z - 100 < 20
        · obtain ⟨n, hn⟩ : ∃ n : Nat, z = 100 + (n : Int) := ⟨(z - 100).toNat, by omega⟩
          subst hn
          have hn2 : n < 27 := by omega
          have q2 := hB1.cell (n := n) (by omega)
          have e1 : (100 + (n : Int) - 100).toNat = n := by omega
          have e2 : (100 + (n : Int) - 100) = n := by omega
          rw [e1] at HS HN
          by_cases z3 : bs.getD n false = true
          · rw [z3] at q2
            have HSS : Hid _ := HS.out ⟨z1, z2⟩ z3
            clear HS HN z3
            go_wp2
            go_round
            case rel => exact ⟨k + 1, by omega, by go_num, HSS.out⟩
            case measure => simp [intOf]; omega
          · have z4 : bs.getD n false = false := by simpa using z3
            rw [z4] at q2
            have HNN : Hid (allB bs zs = false) := HN.out (fun _ => z4)
            clear HS HN z3 z4
            go_wp2
            go_ret
            exact ⟨ret_bool (by rw [HNN.out]), hb1⟩
        · have HNN : Hid (allB bs zs = false) := HN.out (fun g => absurd g.2 z2)
          clear HS HN
          go_wp2
          go_ret
          exact ⟨ret_bool (by rw [HNN.out]), hb1⟩
      · have HNN : Hid (allB bs zs = false) := HN.out (fun g => absurd g.1 z1)
        clear HS HN
        go_wp2
        go_ret
        exact ⟨ret_bool (by rw [HNN.out]), hb1⟩
    · have HE : Hid (allB bs zs = true) := allB_end HK.out hlt
      clear h h1 HK
      go_wp2
      go_ret
      exact ⟨ret_bool (by rw [HE.out]), hb1⟩
end Go.Proofs.YthnppodnjokaoaaDoor
namespace Go.Proofs.YthnppodnjokaoaaDoor
open Go.RowKit

/-- The first k flags of cs are put to those of bs from off on. -/
def joinTo (bs : List Bool) (off : Nat) (cs : List Bool) : Nat → List Bool
  | 0 => bs
  | k + 1 => (joinTo bs off cs k).set (off + k) ((joinTo bs off cs k).getD (off + k) false || cs.getD k false)
def joinB (bs : List Bool) (off : Nat) (cs : List Bool) : List Bool := joinTo bs off cs 27
theorem joinTo_length (bs : List Bool) (off : Nat) (cs : List Bool) (k : Nat) : (joinTo bs off cs k).length = bs.length := by
  induction k with
  | zero => rfl
  | succ k ih => rw [joinTo, List.length_set]; exact ih
theorem joinB_length (bs : List Bool) (off : Nat) (cs : List Bool) : (joinB bs off cs).length = bs.length := joinTo_length _ _ _ _
theorem joinTo_get (bs : List Bool) (off : Nat) (cs : List Bool) (k : Nat) (h : off + k ≤ bs.length) (i : Nat) : (joinTo bs off cs k).getD i false = (bs.getD i false || (decide (off ≤ i ∧ i < off + k) && cs.getD (i - off) false)) := by
  induction k with
  | zero => simp [joinTo]; omega
  | succ k ih =>
    have ih := ih (by omega)
    rw [joinTo]
    by_cases e : i = off + k
    · subst e
      have hl : off + k < (joinTo bs off cs k).length := by rw [joinTo_length]; omega
      have e1 : ((joinTo bs off cs k).set (off + k) ((joinTo bs off cs k).getD (off + k) false || cs.getD k false)).getD (off + k) false = ((joinTo bs off cs k).getD (off + k) false || cs.getD k false) := by
        generalize ((joinTo bs off cs k).getD (off + k) false || cs.getD k false) = v
        simp [List.getD, hl]
      rw [e1, ih, show off + k - off = k by omega]
      simp
    · have e1 : ∀ v, ((joinTo bs off cs k).set (off + k) v).getD i false = (joinTo bs off cs k).getD i false := by
        intro v
        simp [List.getD, Ne.symm e]
      rw [e1, ih]
      congr 2
      rw [Bool.eq_iff_iff]; simp; omega
theorem joinB_get {bs : List Bool} {off : Nat} {cs : List Bool} (h : off + 27 ≤ bs.length) (i : Nat) : (joinB bs off cs).getD i false = (bs.getD i false || (decide (off ≤ i ∧ i < off + 27) && cs.getD (i - off) false)) := joinTo_get bs off cs 27 h i

set_option maxHeartbeats 2000000 in
set_option maxRecDepth 100000 in
theorem join_any (b off : Nat) (t : TypeId) (bs cs : List Bool) (w : World) (hB : Bits w b t bs) (hl : off + 27 ≤ bs.length) (hc : cs.length = 27) :
    Calls Tryd.prog 121 #[.pointer (some ⟨b, off, none⟩), aggB cs] w fun e w' => e = .returned (.tuple #[]) ∧ Bits w' b t (joinB bs off cs) ∧ w.grownBy w' (some b) := by
  go_enter Tryd.func121, Tryd.ntmps121
  go_wp2_with (first | (refine wpList_boxB rfl 134 _ rfl cs rfl ?_; intro w1 hB1 hb1 hs1) | (refine wpList_loadW rfl 134 _ rfl w.heap.size 134 cs rfl (by rw [hc]; exact bt_flags) hB1 ?_))
  have HB0 : Hid (Bits w1 b t (joinTo bs off cs 0)) := hB.later hb1
  have HG0 : Hid (w.grownBy w1 (some b)) := grownBy_of_below hb1 _
  have HL : Hid (off + 27 ≤ bs.length) := hl
  clear hB hB1 hb1 hs1 hl
  go_loopw [7] (fun s7 wr => ∃ k : Nat, k ≤ 27 ∧ s7 = .int .i64 k ∧ Bits wr b t (joinTo bs off cs k) ∧ w.grownBy wr (some b)) (fun s7 _ => 27 - (intOf s7).toNat)
  case atStart => exact ⟨0, Nat.zero_le _, rfl, HB0.out, HG0.out⟩
  case round =>
    obtain ⟨k, hk, rfl, hBk, hgk⟩ := hrel
    clear HB0 HG0
    by_cases hlt : k < 27
    · have q0 := hBk.cell (n := off + k) (by rw [joinTo_length]; have := HL.out; omega)
      have f0 := hBk.frozen (off + k)
      have hk0 : (0 : Int) ≤ (k : Int) := by omega
      have hk1 : (k : Int) < 27 := by omega
      have HN : Hid (joinTo bs off cs (k + 1) = (joinTo bs off cs k).set (off + k) ((joinTo bs off cs k).getD (off + k) false || cs.getD k false)) := rfl
      have HC : Hid (cs.length = 27) := hc
      have HB : Hid (Bits wr b t (joinTo bs off cs k)) := hBk
      generalize joinTo bs off cs k = Tk at *
      generalize Tk.getD (off + k) false = x at *
      clear hc hBk
      obtain ⟨y, Hy⟩ : ∃ y, Hid (cs.getD k false = y) := ⟨_, rfl⟩
      rw [Hy.out] at HN
      go_wp2_with (refine wpList_indexB rfl 134 4 _ _ rfl cs k rfl rfl (by rw [HC.out]; exact u_flags) u_bool bool_size (by rw [HC.out]; exact hlt) ?_; rw [Hy.out])
      have key : ∀ (v : Bool) (W : World), (x || y) = v → Below wr.heap.size (wr.setCell ⟨b, off + k, none⟩ (.bool v)) W → Bits W b t (joinTo bs off cs (k + 1)) ∧ w.grownBy W (some b) := by
        intro v W hv hW
        rw [HN.out, hv]
        have hlt2 := HB.out.lt
        exact ⟨(HB.out.set (off + k) v).below hW hlt2, grownBy_trans (grownBy_trans hgk (setCell_grown wr b (off + k) _)) (grownBy_of_below (by simpa using hW) _)⟩
      have HK : Hid (∀ (v : Bool) (W : World), (x || y) = v → Below wr.heap.size (wr.setCell ⟨b, off + k, none⟩ (.bool v)) W → Bits W b t (joinTo bs off cs (k + 1)) ∧ w.grownBy W (some b)) := key
      clear key HN Hy HB
      cases x
      · have HK1 : Hid (∀ W : World, Below wr.heap.size (wr.setCell ⟨b, off + k, none⟩ (.bool y)) W → Bits W b t (joinTo bs off cs (k + 1)) ∧ w.grownBy W (some b)) := fun W hW => HK.out y W (by simp) hW
        clear HK
        go_region
        all_goals
          go_wp2
          go_roundw
          case rel => exact ⟨k + 1, by omega, by go_num, (HK1.out _ (by first | exact Below.refl _ _ | exact Below.drew (Below.refl _ _))).1, (HK1.out _ (by first | exact Below.refl _ _ | exact Below.drew (Below.refl _ _))).2⟩
          case measure => simp [intOf]; omega
      · have HK1 : Hid (∀ W : World, Below wr.heap.size (wr.setCell ⟨b, off + k, none⟩ (.bool true)) W → Bits W b t (joinTo bs off cs (k + 1)) ∧ w.grownBy W (some b)) := fun W hW => HK.out true W (by simp) hW
        clear HK
        go_region
        all_goals
          go_wp2
          go_roundw
          case rel => exact ⟨k + 1, by omega, by go_num, (HK1.out _ (by first | exact Below.refl _ _ | exact Below.drew (Below.refl _ _))).1, (HK1.out _ (by first | exact Below.refl _ _ | exact Below.drew (Below.refl _ _))).2⟩
          case measure => simp [intOf]; omega
    · have e : k = 27 := by omega
      subst e
      go_wp2
      go_end0
      exact ⟨rfl, hBk, hgk⟩
end Go.Proofs.YthnppodnjokaoaaDoor
