/-
  Rows of values of one cell each in one block (arrays, structs, arrays within structs): what reads, stores, copies and literals of them do, whatever their number. Plain laws over any program. No statement is proved here.
-/
import Derived.Test.YtghpekijimoicaaFlags
namespace Go.Proofs.Ytghpekijimoicaa
open Go.RowKit

/-- The value of such a row. -/
def aggV (vs : List Value) : Value := .agg vs.toArray
/-- Block b is such a row. -/
def Vals (w : World) (b : Nat) (t : TypeId) (vs : List Value) : Prop := w.heap[b]? = some (.cells vs.toArray t)
/-- Each has one cell. -/
def Ones (vs : List Value) : Prop := ∀ v ∈ vs, v.oneCell' = true
theorem Ones.all {vs : List Value} (h : Ones vs) : vs.toArray.all (·.oneCell') = true := Array.all_eq_true_iff_forall_mem.2 fun v hv => h v (by simpa using hv)
theorem Ones.part {vs : List Value} (h : Ones vs) (o n : Nat) : Ones ((vs.drop o).take n) := fun v hv => h v (List.mem_of_mem_drop (List.mem_of_mem_take hv))
section
variable {w w' : World} {b : Nat} {t : TypeId} {vs : List Value}
theorem Vals.lt (h : Vals w b t vs) : b < w.heap.size := (Array.getElem?_eq_some_iff.1 h).1
theorem Vals.cell (h : Vals w b t vs) (n : Nat) : w.cell? ⟨b, n, none⟩ = vs[n]? := by
  rw [cell_of_row w b n _ t (0, 0) h]
  simp
theorem Vals.frozen (h : Vals w b t vs) (n : Nat) : w.frozen? ⟨b, n, none⟩ = false := by
  unfold Vals at h
  simp [World.frozen?, h]
theorem Vals.kept (h : Vals w b t vs) (hb : w'.heap[b]? = w.heap[b]?) : Vals w' b t vs := by unfold Vals at *; rw [hb]; exact h
theorem Vals.below (h : Vals w b t vs) {N : Nat} (hb : Below N w w') (hN : b < N) : Vals w' b t vs := h.kept (hb.block b hN)
theorem Vals.later (h : Vals w b t vs) (hb : Below w.heap.size w w') : Vals w' b t vs := h.below hb h.lt
theorem Vals.grown (h : Vals w b t vs) {row : Option Nat} (hg : w.grownBy w' row) (hne : row ≠ some b) : Vals w' b t vs := h.kept (hg.block b h.lt (fun e => hne e.symm))
theorem Vals.set (h : Vals w b t vs) (n : Nat) (v : Value) : Vals (w.setCell ⟨b, n, none⟩ v) b t (vs.set n v) := by
  unfold Vals at *
  have e : (vs.set n v).toArray = vs.toArray.setIfInBounds n v := by simp
  rw [e]
  simp [World.setCell, Array.getElem?_modify, h]
theorem Vals.range (h : Vals w b t vs) (o n : Nat) : w.rangeAt b o ((vs.drop o).take n) := by
  intro j v hv
  rw [cell_of_row w b (o + j) _ t (0, 0) h]
  rw [List.getElem?_take] at hv
  split at hv
  · rw [List.getElem?_drop] at hv; simpa using hv
  · simp at hv
theorem Vals.there (h : Vals w b t vs) (o n : Nat) (hn : o + n ≤ vs.length) : w.there b o n := fun j hj => ⟨by rw [h.cell]; simp; omega, h.frozen _⟩
end
theorem Vals.new (w : World) (t : TypeId) (vs : List Value) : Vals (w.alloc (.cells vs.toArray t)) w.heap.size t vs := by
  exact heap_alloc_new w _

/-- What is there behind the values cs are put in from o on. -/
def putV : List Value → Nat → List Value → List Value
  | vs, _, [] => vs
  | vs, o, v :: r => putV (vs.set o v) (o + 1) r
theorem putV_length : ∀ (cs : List Value) (vs : List Value) (o : Nat), (putV vs o cs).length = vs.length
  | [], _, _ => rfl
  | v :: r, vs, o => by rw [putV, putV_length r]; simp
theorem putV_get : ∀ (cs : List Value) (vs : List Value) (o i : Nat), o + cs.length ≤ vs.length → (putV vs o cs)[i]? = if o ≤ i ∧ i < o + cs.length then cs[i - o]? else vs[i]?
  | [], vs, o, i, _ => by rw [putV, if_neg (by simp)]
  | v :: r, vs, o, i, h => by
    simp only [List.length_cons] at h
    rw [putV, putV_get r (vs.set o v) (o + 1) i (by simp; omega)]
    simp only [List.length_cons]
    by_cases e : i = o
    · subst e
      rw [if_neg (by omega), if_pos (by omega), Nat.sub_self]
      simp [show i < vs.length by omega]
    · by_cases g : o + 1 ≤ i ∧ i < o + 1 + r.length
      · rw [if_pos g, if_pos (by omega), show i - o = (i - (o + 1)) + 1 by omega]
        rfl
      · rw [if_neg g, if_neg (by omega)]
        simp [Ne.symm e]
theorem putV_whole {vs cs : List Value} (h : cs.length = vs.length) : putV vs 0 cs = cs := by
  apply List.ext_getElem?
  intro i
  rw [putV_get _ _ _ _ (by omega)]
  by_cases e : i < cs.length
  · rw [if_pos (by omega), Nat.sub_zero]
  · rw [if_neg (by omega), List.getElem?_eq_none (by omega), List.getElem?_eq_none (by omega)]
theorem setCells_vals : ∀ (cs vs : List Value) (o : Nat) (w : World) (b : Nat) (t : TypeId), Vals w b t vs → Vals (w.setCells b o cs) b t (putV vs o cs) ∧ w.grownBy (w.setCells b o cs) (some b)
  | [], vs, o, w, b, t, h => ⟨h, World.grownBy.refl _ _⟩
  | v :: r, vs, o, w, b, t, h => by
    rw [World.setCells, putV]
    have := setCells_vals r (vs.set o v) (o + 1) _ b t (h.set o v)
    exact ⟨this.1, grownBy_trans (setCell_grown w b o _) this.2⟩

section
variable {P : Program}
/-- A type of such rows: its cells, its form. -/
structure RowT (P : Program) (ty : TypeId) (zs : List Value) : Prop where
  info : (P.info? ty).map (fun i => (i.zero, i.size)) = some (some (aggV zs), zs.length)
  desc : ∃ d, P.underlying ty = some d ∧ d.isRow = true
theorem RowT.size {ty : TypeId} {zs : List Value} (h : RowT P ty zs) : (P.info? ty).map (·.size) = some zs.length := by
  have := h.info
  cases hq : P.info? ty with
  | none => simp [hq] at this
  | some i => simp [hq] at this; simp [this.2]
theorem RowT.zero {ty : TypeId} {zs : List Value} (h : RowT P ty zs) (w : World) : (zeroValue ty).run P w = .ok (aggV zs) w := by
  have := h.info
  cases hq : P.info? ty with
  | none => simp [hq] at this
  | some i => simp [hq] at this; simp [zeroValue, typeInfo, hq, this.1]
/-- The whole row, or a part of it, is read. -/
theorem exec_loadV {ρ : Operand → Value} {o : Oper} {w : World} {ty t : TypeId} {x : Operand} {b off : Nat} {vs zs : List Value} (ho : o.op = .load ty x) (hx : ρ x = .pointer (some ⟨b, off, none⟩)) (hT : RowT P ty zs) (hB : Vals w b t vs) (hn : off + zs.length ≤ vs.length) :
    (execOp ρ o).run P w = .ok (.value (aggV ((vs.drop off).take zs.length))) w := by
  obtain ⟨d, hu, hd⟩ := hT.desc
  have hl : ((vs.drop off).take zs.length).length = zs.length := by simp; omega
  have := run_loadVar_mid (P := P) w b off ty ((vs.drop off).take zs.length) d (hB.range off zs.length) hu hd (by rw [hl]; exact hT.size)
  unfold execOp
  simp only [ho, hx, Instr.loadAt, Instr.sureAddr, Sem.run_bind, Sem.run_pure, Result.andThen_ok, this]
  rfl
theorem exec_loadVW {ρ : Operand → Value} {o : Oper} {w : World} {ty t : TypeId} {x : Operand} {b : Nat} {vs zs : List Value} (ho : o.op = .load ty x) (hx : ρ x = .pointer (some ⟨b, 0, none⟩)) (hT : RowT P ty zs) (hl : vs.length = zs.length) (hB : Vals w b t vs) :
    (execOp ρ o).run P w = .ok (.value (aggV vs)) w := by
  have := exec_loadV (P := P) ho hx hT hB (by omega)
  rw [List.drop_zero, List.take_of_length_le (by omega)] at this
  exact this
/-- It is stored. -/
theorem exec_storeV {ρ : Operand → Value} {o : Oper} {w : World} {ty t : TypeId} {x y : Operand} {b off : Nat} {vs cs zs : List Value} (ho : o.op = .store ty x y) (hx : ρ x = .pointer (some ⟨b, off, none⟩)) (hy : ρ y = aggV cs) (hT : RowT P ty zs) (hl : cs.length = zs.length) (hB : Vals w b t vs) (hn : off + cs.length ≤ vs.length) (h1 : Ones cs) :
    ∃ w', (execOp ρ o).run P w = .ok .skip w' ∧ Vals w' b t (putV vs off cs) ∧ w.grownBy w' (some b) := by
  have h1 := run_storeVar_mid (P := P) w b off ty cs.toArray (hB.there off _ (by simpa using hn)) (by rw [hT.size, ← hl]; simp) h1.all
  have h2 := setCells_vals cs vs off w b t hB
  refine ⟨_, ?_, h2.1, h2.2⟩
  unfold execOp
  simp only [ho, hx, hy, aggV, Instr.storeAt, Instr.sureAddr, Sem.run_bind, Sem.run_pure, Result.andThen_ok, h1]
theorem exec_boxV {ρ : Operand → Value} {o : Oper} {w : World} {ty : TypeId} {x : Operand} {vs : List Value} (ho : o.op = .box ty x) (hx : ρ x = aggV vs) :
    ∃ w', (execOp ρ o).run P w = .ok (.value (.pointer (some ⟨w.heap.size, 0, none⟩))) w' ∧ Vals w' w.heap.size ty vs ∧ Below w.heap.size w w' ∧ w'.heap.size = w.heap.size + 1 := by
  refine ⟨w.alloc (.cells vs.toArray ty), ?_, Vals.new w ty vs, (Below.refl _ _).alloc (Nat.le_refl _) _, by simp⟩
  unfold execOp
  simp only [ho, hx, aggV, Instr.box, newVar, newRow, Value.cells]
  simp
theorem exec_allocV {ρ : Operand → Value} {o : Oper} {w : World} {ty : TypeId} {zs : List Value} (ho : o.op = .alloc ty) (hT : RowT P ty zs) :
    ∃ w', (execOp ρ o).run P w = .ok (.value (.pointer (some ⟨w.heap.size, 0, none⟩))) w' ∧ Vals w' w.heap.size ty zs ∧ Below w.heap.size w w' ∧ w'.heap.size = w.heap.size + 1 := by
  refine ⟨w.alloc (.cells zs.toArray ty), ?_, Vals.new w ty _, (Below.refl _ _).alloc (Nat.le_refl _) _, by simp⟩
  unfold execOp
  simp only [ho, Instr.alloc, newVar, newRow, Sem.run_bind, hT.zero, aggV, Result.andThen_ok, Value.cells]
  simp
theorem wpList_boxV {ops : Array Oper} {rest : List Oper} {o : Oper} {a : Act} {w : World} {Q : Exit → Act → World → Prop} (hgd : Region.wanted o (yielded ops a.tmps) = true) (ty : TypeId) (x : Operand) (ho : o.op = .box ty x) (vs : List Value) (hx : a.eval x = aggV vs)
    (h : ∀ w', Vals w' w.heap.size ty vs → Below w.heap.size w w' → w'.heap.size = w.heap.size + 1 → wpList P ops Q rest (a.put o.dst (.pointer (some ⟨w.heap.size, 0, none⟩))) w') : wpList P ops Q (o :: rest) a w := by
  obtain ⟨w', h1, h2, h3, h4⟩ := exec_boxV (P := P) (w := w) ho hx
  exact wpList_val hgd h1 (h w' h2 h3 h4)
theorem wpList_allocV {ops : Array Oper} {rest : List Oper} {o : Oper} {a : Act} {w : World} {Q : Exit → Act → World → Prop} (hgd : Region.wanted o (yielded ops a.tmps) = true) (ty : TypeId) (ho : o.op = .alloc ty) (zs : List Value) (hT : RowT P ty zs)
    (h : ∀ w', Vals w' w.heap.size ty zs → Below w.heap.size w w' → w'.heap.size = w.heap.size + 1 → wpList P ops Q rest (a.put o.dst (.pointer (some ⟨w.heap.size, 0, none⟩))) w') : wpList P ops Q (o :: rest) a w := by
  obtain ⟨w', h1, h2, h3, h4⟩ := exec_allocV (P := P) (w := w) (ρ := a.eval) ho hT
  exact wpList_val hgd h1 (h w' h2 h3 h4)
theorem wpList_loadV {ops : Array Oper} {rest : List Oper} {o : Oper} {a : Act} {w : World} {Q : Exit → Act → World → Prop} (hgd : Region.wanted o (yielded ops a.tmps) = true) (ty : TypeId) (x : Operand) (ho : o.op = .load ty x) (b off : Nat) (t : TypeId) (vs zs : List Value) (hx : a.eval x = .pointer (some ⟨b, off, none⟩)) (hT : RowT P ty zs) (hB : Vals w b t vs) (hn : off + zs.length ≤ vs.length)
    (h : wpList P ops Q rest (a.put o.dst (aggV ((vs.drop off).take zs.length))) w) : wpList P ops Q (o :: rest) a w :=
  wpList_val hgd (exec_loadV ho hx hT hB hn) h
theorem wpList_loadVW {ops : Array Oper} {rest : List Oper} {o : Oper} {a : Act} {w : World} {Q : Exit → Act → World → Prop} (hgd : Region.wanted o (yielded ops a.tmps) = true) (ty : TypeId) (x : Operand) (ho : o.op = .load ty x) (b : Nat) (t : TypeId) (vs zs : List Value) (hx : a.eval x = .pointer (some ⟨b, 0, none⟩)) (hT : RowT P ty zs) (hl : vs.length = zs.length) (hB : Vals w b t vs)
    (h : wpList P ops Q rest (a.put o.dst (aggV vs)) w) : wpList P ops Q (o :: rest) a w :=
  wpList_val hgd (exec_loadVW ho hx hT hl hB) h
theorem wpList_storeV {ops : Array Oper} {rest : List Oper} {o : Oper} {a : Act} {w : World} {Q : Exit → Act → World → Prop} (hgd : Region.wanted o (yielded ops a.tmps) = true) (ty : TypeId) (x y : Operand) (ho : o.op = .store ty x y) (b off : Nat) (t : TypeId) (vs cs zs : List Value) (hx : a.eval x = .pointer (some ⟨b, off, none⟩)) (hy : a.eval y = aggV cs) (hT : RowT P ty zs) (hl : cs.length = zs.length) (hB : Vals w b t vs) (hn : off + cs.length ≤ vs.length) (h1 : Ones cs)
    (h : ∀ w', Vals w' b t (putV vs off cs) → w.grownBy w' (some b) → wpList P ops Q rest (a.put o.dst undef) w') : wpList P ops Q (o :: rest) a w := by
  obtain ⟨w', h1, h2, h3⟩ := exec_storeV (P := P) ho hx hy hT hl hB hn h1
  exact wpList_unit hgd h1 (h w' h2 h3)
theorem ret_cellV {fn : Func} {p : Tmp} {tmps : Array Value} {w : World} {g : Nat} {t : TypeId} {vs zs : List Value} (ty : TypeId) (h : fn.results = #[.cell p ty]) (hp : tmps.getD p undef = .pointer (some ⟨g, 0, none⟩)) (hB : Vals w g t vs) (hT : RowT P ty zs) (hl : vs.length = zs.length) : (results fn tmps).run P w = .ok (aggV vs) w := by
  obtain ⟨d, hu, hd⟩ := hT.desc
  exact results_cell_row h tmps w g t vs.toArray (0, 0) d hp hB hu (by cases d <;> first | rfl | cases hd) (by rw [hT.size, ← hl]; simp)
end
end Go.Proofs.Ytghpekijimoicaa
