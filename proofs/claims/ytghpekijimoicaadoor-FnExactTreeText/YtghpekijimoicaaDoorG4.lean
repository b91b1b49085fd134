/-
  Contracts and plain mathematics, joined: Vals, SpecTreeShape, GramTextMath, SpecGramText, LawLib, SpecTreeText, HeadText, GramText. No statement is proved here.
-/
import Derived.Test.YtghpekijimoicaaDoorG3
import Derived.Test.YtghpekijimoicaaDoorG2
import Derived.Laws.OwnMore
import Derived.Deep.QuietTactic
import Derived.BigQuiet
import Derived.BigRegion
import Derived.Test.YtghpekijimoicaaDoorG1
import Derived.Deep.RegionHeld
namespace Go.Proofs.YtghpekijimoicaaDoor
open Go.RowKit

/-- The value of such a row. -/
def aggV (vs : List Value) : Value := .agg vs.toArray
/-- Block b is such a row. -/
def Vals (w : World) (b : Nat) (t : TypeId) (vs : List Value) : Prop := w.heap[b]? = some (.cells vs.toArray t)
/-- Each has one cell. -/
def Ones (vs : List Value) : Prop := ∀ v ∈ vs, v.oneCell' = true
theorem Ones.all {vs : List Value} (h : Ones vs) : vs.toArray.all (·.oneCell') = true := Array.all_eq_true_iff_forall_mem.2 fun v hv => h v (by simpa using hv)
theorem Ones.part {vs : List Value} (h : Ones vs) (o n : Nat) : Ones ((vs.drop o).take n) := fun v hv => h v (List.mem_of_mem_drop (List.mem_of_mem_take hv))
section
variable {w w' : World} {b : Nat} {t : TypeId} {vs : List Value}
theorem Vals.lt (h : Vals w b t vs) : b < w.heap.size := (Array.getElem?_eq_some_iff.1 h).1
theorem Vals.cell (h : Vals w b t vs) (n : Nat) : w.cell? ⟨b, n, none⟩ = vs[n]? := by
  rw [cell_of_row w b n _ t (0, 0) h]
  simp
theorem Vals.frozen (h : Vals w b t vs) (n : Nat) : w.frozen? ⟨b, n, none⟩ = false := by
  unfold Vals at h
  simp [World.frozen?, h]
theorem Vals.kept (h : Vals w b t vs) (hb : w'.heap[b]? = w.heap[b]?) : Vals w' b t vs := by unfold Vals at *; rw [hb]; exact h
theorem Vals.below (h : Vals w b t vs) {N : Nat} (hb : Below N w w') (hN : b < N) : Vals w' b t vs := h.kept (hb.block b hN)
theorem Vals.later (h : Vals w b t vs) (hb : Below w.heap.size w w') : Vals w' b t vs := h.below hb h.lt
theorem Vals.grown (h : Vals w b t vs) {row : Option Nat} (hg : w.grownBy w' row) (hne : row ≠ some b) : Vals w' b t vs := h.kept (hg.block b h.lt (fun e => hne e.symm))
theorem Vals.set (h : Vals w b t vs) (n : Nat) (v : Value) : Vals (w.setCell ⟨b, n, none⟩ v) b t (vs.set n v) := by
  unfold Vals at *
  have e : (vs.set n v).toArray = vs.toArray.setIfInBounds n v := by simp
  rw [e]
  simp [World.setCell, Array.getElem?_modify, h]
theorem Vals.range (h : Vals w b t vs) (o n : Nat) : w.rangeAt b o ((vs.drop o).take n) := by
  intro j v hv
  rw [cell_of_row w b (o + j) _ t (0, 0) h]
  rw [List.getElem?_take] at hv
  split at hv
  · rw [List.getElem?_drop] at hv; simpa using hv
  · simp at hv
theorem Vals.there (h : Vals w b t vs) (o n : Nat) (hn : o + n ≤ vs.length) : w.there b o n := fun j hj => ⟨by rw [h.cell]; simp; omega, h.frozen _⟩
end
theorem Vals.new (w : World) (t : TypeId) (vs : List Value) : Vals (w.alloc (.cells vs.toArray t)) w.heap.size t vs := by
  exact heap_alloc_new w _

/-- What is there behind the values cs are put in from o on. -/
def putV : List Value → Nat → List Value → List Value
  | vs, _, [] => vs
  | vs, o, v :: r => putV (vs.set o v) (o + 1) r
theorem putV_length : ∀ (cs : List Value) (vs : List Value) (o : Nat), (putV vs o cs).length = vs.length
  | [], _, _ => rfl
  | v :: r, vs, o => by rw [putV, putV_length r]; simp
theorem putV_get : ∀ (cs : List Value) (vs : List Value) (o i : Nat), o + cs.length ≤ vs.length → (putV vs o cs)[i]? = if o ≤ i ∧ i < o + cs.length then cs[i - o]? else vs[i]?
  | [], vs, o, i, _ => by rw [putV, if_neg (by simp)]
  | v :: r, vs, o, i, h => by
    simp only [List.length_cons] at h
    rw [putV, putV_get r (vs.set o v) (o + 1) i (by simp; omega)]
    simp only [List.length_cons]
    by_cases e : i = o
    · subst e
      rw [if_neg (by omega), if_pos (by omega), Nat.sub_self]
      simp [show i < vs.length by omega]
    · by_cases g : o + 1 ≤ i ∧ i < o + 1 + r.length
      · rw [if_pos g, if_pos (by omega), show i - o = (i - (o + 1)) + 1 by omega]
        rfl
      · rw [if_neg g, if_neg (by omega)]
        simp [Ne.symm e]
theorem putV_whole {vs cs : List Value} (h : cs.length = vs.length) : putV vs 0 cs = cs := by
  apply List.ext_getElem?
  intro i
  rw [putV_get _ _ _ _ (by omega)]
  by_cases e : i < cs.length
  · rw [if_pos (by omega), Nat.sub_zero]
  · rw [if_neg (by omega), List.getElem?_eq_none (by omega), List.getElem?_eq_none (by omega)]
theorem setCells_vals : ∀ (cs vs : List Value) (o : Nat) (w : World) (b : Nat) (t : TypeId), Vals w b t vs → Vals (w.setCells b o cs) b t (putV vs o cs) ∧ w.grownBy (w.setCells b o cs) (some b)
  | [], vs, o, w, b, t, h => ⟨h, World.grownBy.refl _ _⟩
  | v :: r, vs, o, w, b, t, h => by
    rw [World.setCells, putV]
    have := setCells_vals r (vs.set o v) (o + 1) _ b t (h.set o v)
    exact ⟨this.1, grownBy_trans (setCell_grown w b o _) this.2⟩

section
variable {P : Program}
/-- A type of such rows: its cells, its form. -/
structure RowT (P : Program) (ty : TypeId) (zs : List Value) : Prop where
  info : (P.info? ty).map (fun i => (i.zero, i.size)) = some (some (aggV zs), zs.length)
  desc : ∃ d, P.underlying ty = some d ∧ d.isRow = true
theorem RowT.size {ty : TypeId} {zs : List Value} (h : RowT P ty zs) : (P.info? ty).map (·.size) = some zs.length := by
  have := h.info
  cases hq : P.info? ty with
  | none => simp [hq] at this
  | some i => simp [hq] at this; simp [this.2]
theorem RowT.zero {ty : TypeId} {zs : List Value} (h : RowT P ty zs) (w : World) : (zeroValue ty).run P w = .ok (aggV zs) w := by
  have := h.info
  cases hq : P.info? ty with
  | none => simp [hq] at this
  | some i => simp [hq] at this; simp [zeroValue, typeInfo, hq, this.1]
/-- The whole row, or a part of it, is read. -/
theorem exec_loadV {ρ : Operand → Value} {o : Oper} {w : World} {ty t : TypeId} {x : Operand} {b off : Nat} {vs zs : List Value} (ho : o.op = .load ty x) (hx : ρ x = .pointer (some ⟨b, off, none⟩)) (hT : RowT P ty zs) (hB : Vals w b t vs) (hn : off + zs.length ≤ vs.length) :
    (execOp ρ o).run P w = .ok (.value (aggV ((vs.drop off).take zs.length))) w := by
  obtain ⟨d, hu, hd⟩ := hT.desc
  have hl : ((vs.drop off).take zs.length).length = zs.length := by simp; omega
  have := run_loadVar_mid (P := P) w b off ty ((vs.drop off).take zs.length) d (hB.range off zs.length) hu hd (by rw [hl]; exact hT.size)
  unfold execOp
  simp only [ho, hx, Instr.loadAt, Instr.sureAddr, Sem.run_bind, Sem.run_pure, Result.andThen_ok, this]
  rfl
theorem exec_loadVW {ρ : Operand → Value} {o : Oper} {w : World} {ty t : TypeId} {x : Operand} {b : Nat} {vs zs : List Value} (ho : o.op = .load ty x) (hx : ρ x = .pointer (some ⟨b, 0, none⟩)) (hT : RowT P ty zs) (hl : vs.length = zs.length) (hB : Vals w b t vs) :
    (execOp ρ o).run P w = .ok (.value (aggV vs)) w := by
  have := exec_loadV (P := P) ho hx hT hB (by omega)
  rw [List.drop_zero, List.take_of_length_le (by omega)] at this
  exact this
/-- It is stored. -/
theorem exec_storeV {ρ : Operand → Value} {o : Oper} {w : World} {ty t : TypeId} {x y : Operand} {b off : Nat} {vs cs zs : List Value} (ho : o.op = .store ty x y) (hx : ρ x = .pointer (some ⟨b, off, none⟩)) (hy : ρ y = aggV cs) (hT : RowT P ty zs) (hl : cs.length = zs.length) (hB : Vals w b t vs) (hn : off + cs.length ≤ vs.length) (h1 : Ones cs) :
    ∃ w', (execOp ρ o).run P w = .ok .skip w' ∧ Vals w' b t (putV vs off cs) ∧ w.grownBy w' (some b) := by
  have h1 := run_storeVar_mid (P := P) w b off ty cs.toArray (hB.there off _ (by simpa using hn)) (by rw [hT.size, ← hl]; simp) h1.all
  have h2 := setCells_vals cs vs off w b t hB
  refine ⟨_, ?_, h2.1, h2.2⟩
  unfold execOp
  simp only [ho, hx, hy, aggV, Instr.storeAt, Instr.sureAddr, Sem.run_bind, Sem.run_pure, Result.andThen_ok, h1]
theorem exec_boxV {ρ : Operand → Value} {o : Oper} {w : World} {ty : TypeId} {x : Operand} {vs : List Value} (ho : o.op = .box ty x) (hx : ρ x = aggV vs) :
    ∃ w', (execOp ρ o).run P w = .ok (.value (.pointer (some ⟨w.heap.size, 0, none⟩))) w' ∧ Vals w' w.heap.size ty vs ∧ Below w.heap.size w w' ∧ w'.heap.size = w.heap.size + 1 := by
  refine ⟨w.alloc (.cells vs.toArray ty), ?_, Vals.new w ty vs, (Below.refl _ _).alloc (Nat.le_refl _) _, by simp⟩
  unfold execOp
  simp only [ho, hx, aggV, Instr.box, newVar, newRow, Value.cells]
  simp
theorem exec_allocV {ρ : Operand → Value} {o : Oper} {w : World} {ty : TypeId} {zs : List Value} (ho : o.op = .alloc ty) (hT : RowT P ty zs) :
    ∃ w', (execOp ρ o).run P w = .ok (.value (.pointer (some ⟨w.heap.size, 0, none⟩))) w' ∧ Vals w' w.heap.size ty zs ∧ Below w.heap.size w w' ∧ w'.heap.size = w.heap.size + 1 := by
  refine ⟨w.alloc (.cells zs.toArray ty), ?_, Vals.new w ty _, (Below.refl _ _).alloc (Nat.le_refl _) _, by simp⟩
  unfold execOp
  simp only [ho, Instr.alloc, newVar, newRow, Sem.run_bind, hT.zero, aggV, Result.andThen_ok, Value.cells]
  simp
theorem wpList_boxV {ops : Array Oper} {rest : List Oper} {o : Oper} {a : Act} {w : World} {Q : Exit → Act → World → Prop} (hgd : Region.wanted o (yielded ops a.tmps) = true) (ty : TypeId) (x : Operand) (ho : o.op = .box ty x) (vs : List Value) (hx : a.eval x = aggV vs)
    (h : ∀ w', Vals w' w.heap.size ty vs → Below w.heap.size w w' → w'.heap.size = w.heap.size + 1 → wpList P ops Q rest (a.put o.dst (.pointer (some ⟨w.heap.size, 0, none⟩))) w') : wpList P ops Q (o :: rest) a w := by
  obtain ⟨w', h1, h2, h3, h4⟩ := exec_boxV (P := P) (w := w) ho hx
  exact wpList_val hgd h1 (h w' h2 h3 h4)
theorem wpList_allocV {ops : Array Oper} {rest : List Oper} {o : Oper} {a : Act} {w : World} {Q : Exit → Act → World → Prop} (hgd : Region.wanted o (yielded ops a.tmps) = true) (ty : TypeId) (ho : o.op = .alloc ty) (zs : List Value) (hT : RowT P ty zs)
    (h : ∀ w', Vals w' w.heap.size ty zs → Below w.heap.size w w' → w'.heap.size = w.heap.size + 1 → wpList P ops Q rest (a.put o.dst (.pointer (some ⟨w.heap.size, 0, none⟩))) w') : wpList P ops Q (o :: rest) a w := by
  obtain ⟨w', h1, h2, h3, h4⟩ := exec_allocV (P := P) (w := w) (ρ := a.eval) ho hT
  exact wpList_val hgd h1 (h w' h2 h3 h4)
theorem wpList_loadV {ops : Array Oper} {rest : List Oper} {o : Oper} {a : Act} {w : World} {Q : Exit → Act → World → Prop} (hgd : Region.wanted o (yielded ops a.tmps) = true) (ty : TypeId) (x : Operand) (ho : o.op = .load ty x) (b off : Nat) (t : TypeId) (vs zs : List Value) (hx : a.eval x = .pointer (some ⟨b, off, none⟩)) (hT : RowT P ty zs) (hB : Vals w b t vs) (hn : off + zs.length ≤ vs.length)
    (h : wpList P ops Q rest (a.put o.dst (aggV ((vs.drop off).take zs.length))) w) : wpList P ops Q (o :: rest) a w :=
  wpList_val hgd (exec_loadV ho hx hT hB hn) h
theorem wpList_loadVW {ops : Array Oper} {rest : List Oper} {o : Oper} {a : Act} {w : World} {Q : Exit → Act → World → Prop} (hgd : Region.wanted o (yielded ops a.tmps) = true) (ty : TypeId) (x : Operand) (ho : o.op = .load ty x) (b : Nat) (t : TypeId) (vs zs : List Value) (hx : a.eval x = .pointer (some ⟨b, 0, none⟩)) (hT : RowT P ty zs) (hl : vs.length = zs.length) (hB : Vals w b t vs)
    (h : wpList P ops Q rest (a.put o.dst (aggV vs)) w) : wpList P ops Q (o :: rest) a w :=
  wpList_val hgd (exec_loadVW ho hx hT hl hB) h
theorem wpList_storeV {ops : Array Oper} {rest : List Oper} {o : Oper} {a : Act} {w : World} {Q : Exit → Act → World → Prop} (hgd : Region.wanted o (yielded ops a.tmps) = true) (ty : TypeId) (x y : Operand) (ho : o.op = .store ty x y) (b off : Nat) (t : TypeId) (vs cs zs : List Value) (hx : a.eval x = .pointer (some ⟨b, off, none⟩)) (hy : a.eval y = aggV cs) (hT : RowT P ty zs) (hl : cs.length = zs.length) (hB : Vals w b t vs) (hn : off + cs.length ≤ vs.length) (h1 : Ones cs)
    (h : ∀ w', Vals w' b t (putV vs off cs) → w.grownBy w' (some b) → wpList P ops Q rest (a.put o.dst undef) w') : wpList P ops Q (o :: rest) a w := by
  obtain ⟨w', h1, h2, h3⟩ := exec_storeV (P := P) ho hx hy hT hl hB hn h1
  exact wpList_unit hgd h1 (h w' h2 h3)
theorem ret_cellV {fn : Func} {p : Tmp} {tmps : Array Value} {w : World} {g : Nat} {t : TypeId} {vs zs : List Value} (ty : TypeId) (h : fn.results = #[.cell p ty]) (hp : tmps.getD p undef = .pointer (some ⟨g, 0, none⟩)) (hB : Vals w g t vs) (hT : RowT P ty zs) (hl : vs.length = zs.length) : (results fn tmps).run P w = .ok (aggV vs) w := by
  obtain ⟨d, hu, hd⟩ := hT.desc
  exact results_cell_row h tmps w g t vs.toArray (0, 0) d hp hB hu (by cases d <;> first | rfl | cases hd) (by rw [hT.size, ← hl]; simp)
end
end Go.Proofs.YtghpekijimoicaaDoor
namespace Go.Proofs.YtghpekijimoicaaDoor
open Go.RowKit

def resTreeShape (x : Tr) : Bool := shapeB x.nodes

theorem madeCells_one (z : Value) (n : Nat) : madeCells #[z] n = (List.replicate n z).toArray := by
  apply Array.ext'
  rw [toList_madeCells_one]
theorem Vals.made (w : World) (z : Value) (n : Nat) (t : TypeId) : Vals (w.alloc (.cells (madeCells #[z] n) t)) w.heap.size t (List.replicate n z) := by
  rw [madeCells_one]; exact Vals.new w t _
/-- The five cells of a node. -/
def ndCells (x : Nd) (a : Option Addr) (c : Nat) : List Value := [.int .i64 x.kind, .int .i64 x.sym, .int .i64 x.alt, .int .i64 x.pl, .slice a x.kids.length c]
theorem node_fit {ns : List Nd} (hf : (Lay.list Lay.node).fit ns) {i : Nat} (h : i < ns.length) : ∀ k ∈ ns[i].kids, (Lit.int .i64 k).wf = true := by
  have := hf.2 ns[i] (List.getElem_mem h)
  exact this.2.2.2.2.2

set_option maxHeartbeats 4000000 in
set_option maxRecDepth 100000 in
theorem specTreeShape_any (x : Tr) (a0 : Option Addr) (c0 : Nat) (w : World) (h0 : RD w (.slice a0 x.nodes.length c0) (slD Lay.node x.nodes)) (hw : Lay.tree.wt x ≤ 1048576) (hf : Lay.tree.fit x) :
    Calls Tryd.prog 27 #[.agg #[.slice a0 x.nodes.length c0]] w fun e w' => e = .returned (.bool (resTreeShape x)) ∧ Below w.heap.size w w' := by
  rw [Lay_tree_wt, Lay.wt_list] at hw
  have hn : x.nodes.length ≤ 1048576 := by omega
  unfold resTreeShape
  have HF : Hid ((Lay.list Lay.node).fit x.nodes) := hf
  clear hf
  have HW : Hid (Lay.node.sumL x.nodes ≤ 1048576) := by show _ ≤ _; omega
  clear hw
  generalize x.nodes = ns at *
  by_cases hz : ns = []
  · rw [shapeB_no (fun s => s.1 hz)]
    subst hz
    clear h0
    go_enter Tryd.func27, Tryd.ntmps27
    go_wp2
    go_ret
    exact ⟨rfl, (Below.refl _ _).alloc (Nat.le_refl _) _⟩
  · have hpos : 0 < ns.length := List.length_pos_iff.2 hz
    have hmk := run_make_row' (P := Tryd.prog) 28 3 (.int .i64 0) 8 Tryd.underlying28 Tryd.infoInt rfl .i64 .i64 ns.length (by omega) (by omega)
    have B0 := (Below.refl w.heap.size w).alloc (Nat.le_refl _) (.cells #[.slice a0 ns.length c0] 36)
    have HR : Hid (RD (w.alloc (.cells #[.slice a0 ns.length c0] 36)) (.slice a0 ns.length c0) (slD Lay.node ns)) := h0.later B0
    have HV0 : Hid (Vals ((w.alloc (.cells #[.slice a0 ns.length c0] 36)).alloc (.cells (madeCells #[.int .i64 0] ns.length) 3)) (w.heap.size + 1) 3 (cntRow [] ns.length)) := by
      show Vals _ _ _ _
      rw [cntRow_nil]
      have := Vals.made (w.alloc (.cells #[.slice a0 ns.length c0] 36)) (.int .i64 0) ns.length 3
      simpa using this
    have HB0 : Hid (Below (w.heap.size + 1) (w.alloc (.cells #[.slice a0 ns.length c0] 36)) ((w.alloc (.cells #[.slice a0 ns.length c0] 36)).alloc (.cells (madeCells #[.int .i64 0] ns.length) 3))) := (Below.refl _ _).alloc (by simp) _
    clear h0
    have hz0 : ((ns.length : Int) == 0) = false := by simp; omega
    go_enter Tryd.func27, Tryd.ntmps27
    go_wp2
    clear hmk
    go_loopw [4] (fun u4 wr => ∃ i : Nat, i ≤ ns.length ∧ u4 = .int .i64 i ∧ Hid ((∀ j (h : j < ns.length), j < i → Right ns.length j ns[j]) ∧ Vals wr (w.heap.size + 1) 3 (cntRow (kidsTo ns i) ns.length)) ∧ Below (w.heap.size + 1) (w.alloc (.cells #[.slice a0 ns.length c0] 36)) wr) (fun u4 _ => ns.length - (intOf u4).toNat)
    case atStart => exact ⟨0, Nat.zero_le _, rfl, ⟨fun j _ h => by omega, HV0.out⟩, HB0.out⟩
    case round =>
      obtain ⟨i, hi, rfl, HI, hbel⟩ := hrel
      clear HV0 HB0
      have g0 : wr.cell? ⟨w.heap.size, 0, none⟩ = some (.slice a0 ns.length c0) := (hbel.cell (p := ⟨w.heap.size, 0, none⟩) (by simp)).trans (by simp)
      obtain ⟨wA, hwA⟩ : ∃ y, y = wr := ⟨_, rfl⟩
      subst hwA
      by_cases hlt : i < ns.length
      · obtain ⟨b1, o1, rfl, hb1, ⟨p0, p1, p2, p3⟩, a1, c1, p4, r1⟩ := HR.out.atNode hlt
        have hb1' : b1 < w.heap.size + 1 := by simpa using hb1
        have q0 := (hbel.cell (p := ⟨b1, _, none⟩) hb1').trans p0
        have q1 := (hbel.cell (p := ⟨b1, _, none⟩) hb1').trans p1
        have q2 := (hbel.cell (p := ⟨b1, _, none⟩) hb1').trans p2
        have q3 := (hbel.cell (p := ⟨b1, _, none⟩) hb1').trans p3
        have q4 := (hbel.cell (p := ⟨b1, _, none⟩) hb1').trans p4
        have HRT : Hid (¬ Right ns.length i ns[i] → shapeB ns = false) := fun h => shapeB_no (not_shaped_at hlt h)
        have HNX : Hid (kidsTo ns (i + 1) = kidsTo ns i ++ ns[i].kids) := kidsTo_next hlt
        have HRI : Hid (Right ns.length i ns[i] → ∀ j (h : j < ns.length), j < i + 1 → Right ns.length j ns[j]) := fun h j hj hji => by
          by_cases e : j = i
          · subst e; exact h
          · exact HI.out.1 j hj (by omega)
        have HV1 : Hid (Vals wA (w.heap.size + 1) 3 (cntRow (kidsTo ns i) ns.length)) := HI.out.2
        have HKB : Hid ((kidsTo ns (i + 1)).length ≤ 1048576) := by have := kidsTo_length (ns := ns) (i + 1); have := HW.out; show _ ≤ _; omega
        have HRK : Hid (Reads (w.alloc (.cells #[.slice (some ⟨b1, o1, none⟩) ns.length c0] 36)) a1 ns[i].kids) := r1.reads
        have HKW : Hid (∀ k ∈ ns[i].kids, (Lit.int .i64 k).wf = true) := node_fit HF.out hlt
        have HRN : Hid (∀ k (h : k < ns[i].kids.length), ¬ ((i : Int) < ns[i].kids[k] ∧ ns[i].kids[k] < ns.length) → shapeB ns = false) := fun k h g => shapeB_no (not_shaped_at hlt (not_right_kid h g))
        have hkl : ns[i].kids.length ≤ 1048576 := by have := HKB.out; rw [HNX.out, List.length_append] at this; omega
        have hgA := hbel.size
        simp only [World.size_alloc] at hgA
        have hgN : w.heap.size + 1 < wA.heap.size := HV1.out.lt
        clear HI r1 p0 p1 p2 p3 p4 hb1 hb1'
        generalize ns[i] = y at *
        by_cases hk : inB y.kind 0 3 = true
        · have HNG : Hid (y.kind ≠ 1 → 0 < y.kids.length → shapeB ns = false) := fun h g => HRT.out (not_right_kids h (fun e => by rw [e] at g; simp at g))
          have HRG : Hid ((y.kind = 1 ∨ y.kids.length = 0) → (∀ k ∈ y.kids, (i : Int) < k ∧ k < ns.length) → Right ns.length i y) := fun g h => ⟨hk, g.imp id List.eq_nil_of_length_eq_zero, h⟩
          generalize y.kind = kd at *
          obtain ⟨kl, HKL⟩ : ∃ kl, Hid (y.kids.length = kl) := ⟨_, rfl⟩
          rw [HKL.out] at q4 hkl HNG HRG
          obtain ⟨vsN, HBN, HV4⟩ : ∃ vsN : List Value, Hid (Vals (wA.alloc (.cells #[.int .i64 kd, .int .i64 y.sym, .int .i64 y.alt, .int .i64 y.pl, .slice a1 kl c1] 54)) wA.heap.size 54 vsN) ∧ Hid (vsN[4]? = some (.slice a1 kl c1)) := ⟨[.int .i64 kd, .int .i64 y.sym, .int .i64 y.alt, .int .i64 y.pl, .slice a1 kl c1], Vals.new wA _ _, by show _ = _; rfl⟩
          have HV2 : Hid (Vals (wA.alloc (.cells #[.int .i64 kd, .int .i64 y.sym, .int .i64 y.alt, .int .i64 y.pl, .slice a1 kl c1] 54)) (w.heap.size + 1) 3 (cntRow (kidsTo ns i) ns.length)) := HV1.out.later ((Below.refl _ _).alloc (Nat.le_refl _) _)
          have hbel2 : Below (w.heap.size + 1) (w.alloc (.cells #[.slice (some ⟨b1, o1, none⟩) ns.length c0] 36)) (wA.alloc (.cells #[.int .i64 kd, .int .i64 y.sym, .int .i64 y.alt, .int .i64 y.pl, .slice a1 kl c1] 54)) := hbel.alloc (by omega) _
          clear HV1
          by_cases h2 : 0 < kl ∧ kd ≠ 1
          · obtain ⟨h2, h1⟩ := h2
            have HSB : Hid (shapeB ns = false) := HNG.out h1 h2
            go_wp2_with (go_at_call 55; refine (l1In_any _ _ _ _).mono ?_; rintro e w' ⟨rfl, rfl⟩)
            go_ret
            exact ⟨ret_bool (by rw [HSB.out]), B0.trans ((hbel.alloc (by omega) _).mono (by omega))⟩
          · have HKR : Hid (kd = 1 ∨ kl = 0) := by show _ ∨ _; omega
            have HRG2 : Hid ((∀ k ∈ y.kids, (i : Int) < k ∧ k < ns.length) → Right ns.length i y) := HRG.out HKR.out
            clear HRG HNG h2
            by_cases h1 : kd = 1
            · subst h1
              clear HKR
              go_wp2_with (go_at_call 55; refine (l1In_any _ _ _ _).mono ?_; rintro e w' ⟨rfl, rfl⟩)
              clear q0 q1 q2 q3 q4 g0
              go_loopw [6] (fun u6 wr => ∃ k : Nat, k ≤ kl ∧ u6 = .int .i64 k ∧ Hid ((∀ j (h : j < y.kids.length), j < k → (i : Int) < y.kids[j] ∧ y.kids[j] < ns.length) ∧ Vals wr (w.heap.size + 1) 3 (cntRow (kidsTo ns i ++ y.kids.take k) ns.length) ∧ Vals wr wA.heap.size 54 vsN) ∧ Below (w.heap.size + 1) (w.alloc (.cells #[.slice (some ⟨b1, o1, none⟩) ns.length c0] 36)) wr) (fun u6 _ => kl - (intOf u6).toNat)
              case atStart => exact ⟨0, Nat.zero_le _, rfl, ⟨fun j _ h => by omega, by simpa using HV2.out, HBN.out⟩, hbel2⟩
              case round =>
                obtain ⟨k, hk3, rfl, HI, hbel3⟩ := hrel
                clear HV2 HBN hbel2
                have g0 : wr.cell? ⟨w.heap.size, 0, none⟩ = some (.slice (some ⟨b1, o1, none⟩) ns.length c0) := (hbel3.cell (p := ⟨w.heap.size, 0, none⟩) (by simp)).trans (by simp)
                have hszr : w.heap.size + 1 ≤ wr.heap.size := by have := hbel3.size; simpa using this
                have q4 : wr.cell? ⟨wA.heap.size, 4, none⟩ = some (.slice a1 kl c1) := (HI.out.2.2.cell 4).trans HV4.out
                by_cases hlk : k < kl
                · have hlk2 : k < y.kids.length := by rw [HKL.out]; exact hlk
                  obtain ⟨b2, o2, rfl, hb2, hc2⟩ := HRK.out.at hlk2
                  have q5' := hc2 k hlk2
                  rw [List.getD_eq_getElem?_getD, List.getElem?_eq_getElem hlk2, Option.getD_some] at q5'
                  have q5 := (hbel3.cell (p := ⟨b2, o2 + k, none⟩) (by simpa using hb2)).trans q5'
                  have HIN : Hid (¬ ((i : Int) < y.kids[k] ∧ y.kids[k] < ns.length) → shapeB ns = false) := HRN.out k hlk2
                  have HNX2 : Hid (y.kids.take (k + 1) = y.kids.take k ++ [y.kids[k]]) := List.take_succ_eq_append_getElem hlk2
                  have HSTEP : Hid (((i : Int) < y.kids[k] ∧ y.kids[k] < ns.length) → ∀ j (h : j < y.kids.length), j < k + 1 → (i : Int) < y.kids[j] ∧ y.kids[j] < ns.length) := fun h j hj hjk => by
                    by_cases e : j = k
                    · subst e; exact h
                    · exact HI.out.1 j hj (by omega)
                  have HV3 : Hid (Vals wr (w.heap.size + 1) 3 (cntRow (kidsTo ns i ++ y.kids.take k) ns.length) ∧ Vals wr wA.heap.size 54 vsN) := HI.out.2
                  have hcl : (kidsTo ns i ++ y.kids.take k).length ≤ 1048576 := by
                    have := HKB.out
                    rw [HNX.out, List.length_append] at this
                    rw [List.length_append, List.length_take]; omega
                  clear hc2 q5' hb2 HI
                  generalize y.kids[k] = kid at *
                  clear hlk2
                  by_cases hin : inB kid ((i : Int) + 1) ((ns.length : Int) - 1) = true
                  · have hin3 := inB_true.1 hin
                    obtain ⟨kn, rfl⟩ : ∃ kn : Nat, kid = kn := ⟨kid.toNat, by omega⟩
                    have hkn : kn < ns.length := by omega
                    have hct := List.count_le_length (a := (kn : Int)) (l := kidsTo ns i ++ y.kids.take k)
                    have qs : wr.cell? ⟨w.heap.size + 1, kn, none⟩ = some (.int .i64 (((kidsTo ns i ++ y.kids.take k).count (kn : Int) : Nat) : Int)) := (HV3.out.1.cell kn).trans (cntRow_get hkn)
                    have fs : wr.frozen? ⟨w.heap.size + 1, kn, none⟩ = false := HV3.out.1.frozen kn
                    have HST : Hid ((cntRow (kidsTo ns i ++ y.kids.take k) ns.length).set kn (.int .i64 ((((kidsTo ns i ++ y.kids.take k).count (kn : Int) : Nat) : Int) + 1)) = cntRow (kidsTo ns i ++ y.kids.take (k + 1)) ns.length) := by
                      show _ = _
                      rw [cntRow_set, HNX2.out, List.append_assoc]
                    have HIN2 : Hid ((∀ j (h : j < y.kids.length), j < k + 1 → (i : Int) < y.kids[j] ∧ y.kids[j] < ns.length)) := HSTEP.out ⟨by omega, by omega⟩
                    have HVF : Hid (∀ nq, (Vals ((wr.drewN nq).setCell ⟨w.heap.size + 1, kn, none⟩ (.int .i64 ((((kidsTo ns i ++ y.kids.take k).count (kn : Int) : Nat) : Int) + 1))) (w.heap.size + 1) 3 (cntRow (kidsTo ns i ++ y.kids.take (k + 1)) ns.length) ∧ Vals ((wr.drewN nq).setCell ⟨w.heap.size + 1, kn, none⟩ (.int .i64 ((((kidsTo ns i ++ y.kids.take k).count (kn : Int) : Nat) : Int) + 1))) wA.heap.size 54 vsN) ∧ Below (w.heap.size + 1) (w.alloc (.cells #[.slice (some ⟨b1, o1, none⟩) ns.length c0] 36)) ((wr.drewN nq).setCell ⟨w.heap.size + 1, kn, none⟩ (.int .i64 ((((kidsTo ns i ++ y.kids.take k).count (kn : Int) : Nat) : Int) + 1)))) := fun nq => by
                      have v1 : Vals (wr.drewN nq) (w.heap.size + 1) 3 (cntRow (kidsTo ns i ++ y.kids.take k) ns.length) := HV3.out.1
                      have v2 : Vals (wr.drewN nq) wA.heap.size 54 vsN := HV3.out.2
                      refine ⟨⟨?_, v2.grown (setCell_grown _ _ _ _) (by simp; omega)⟩, (hbel3.trans ((below_drew nq).mono hszr)).setCell (p := ⟨w.heap.size + 1, kn, none⟩) (Nat.le_refl _) _⟩
                      have := v1.set kn (.int .i64 ((((kidsTo ns i ++ y.kids.take k).count (kn : Int) : Nat) : Int) + 1))
                      rw [HST.out] at this
                      exact this
                    clear HSTEP HIN HNX2 HST HV3
                    generalize (kidsTo ns i ++ y.kids.take k).count (kn : Int) = ct at *
                    go_wp2
                    go_quiet ((go_at_call 55; exact Calls.quiet_of_same (l1In_any _ _ _ _)))
                    go_wp2
                    go_region
                    go_wp2
                    go_roundw
                    case rel => exact ⟨k + 1, by omega, by go_num, ⟨HIN2.out, (HVF.out _).1⟩, (HVF.out _).2⟩
                    case measure => simp [intOf]; omega
                  · have hin4 : inB kid ((i : Int) + 1) ((ns.length : Int) - 1) = false := by simpa using hin
                    have HSB : Hid (shapeB ns = false) := HIN.out (fun h => hin (inB_true.2 ⟨by omega, by omega⟩))
                    clear HIN HSTEP hin
                    go_wp2
                    go_quiet ((go_at_call 55; exact Calls.quiet_of_same (l1In_any _ _ _ _)))
                    go_wp2
                    go_ret
                    exact ⟨ret_bool (by rw [HSB.out]), B0.trans ((hbel3.trans ((below_drew _).mono hszr)).mono (Nat.le_succ w.heap.size))⟩
                · have e : k = kl := by omega
                  subst e
                  have HRF : Hid (Right ns.length i y) := HRG2.out (fun z hz => by
                    obtain ⟨j, hj, e⟩ := List.mem_iff_getElem.1 hz
                    rw [← e]
                    exact HI.out.1 j hj (by rw [← HKL.out]; exact hj))
                  have HVE : Hid (Vals wr (w.heap.size + 1) 3 (cntRow (kidsTo ns (i + 1)) ns.length)) := by
                    have := HI.out.2.1
                    rw [List.take_of_length_le (by rw [HKL.out]; exact Nat.le_refl _), ← HNX.out] at this
                    exact this
                  have HJE : Hid (∀ j (h : j < ns.length), j < i + 1 → Right ns.length j ns[j]) := HRI.out HRF.out
                  clear HI HRF
                  go_wp2
                  go_roundw
                  case rel => exact ⟨i + 1, by omega, by go_num, ⟨HJE.out, HVE.out⟩, hbel3⟩
                  case measure => simp [intOf]; omega
            · have h3 : kl = 0 := HKR.out.resolve_left h1
              subst h3
              clear HKR
              go_wp2_with (go_at_call 55; refine (l1In_any _ _ _ _).mono ?_; rintro e w' ⟨rfl, rfl⟩)
              clear q0 q1 q2 q3 q4 g0
              go_loopw [6] (fun u6 wr => ∃ k : Nat, k ≤ 0 ∧ u6 = .int .i64 k ∧ Hid ((∀ j (h : j < y.kids.length), j < k → (i : Int) < y.kids[j] ∧ y.kids[j] < ns.length) ∧ Vals wr (w.heap.size + 1) 3 (cntRow (kidsTo ns i ++ y.kids.take k) ns.length) ∧ Vals wr wA.heap.size 54 vsN) ∧ Below (w.heap.size + 1) (w.alloc (.cells #[.slice (some ⟨b1, o1, none⟩) ns.length c0] 36)) wr) (fun u6 _ => 0 - (intOf u6).toNat)
              case atStart => exact ⟨0, Nat.zero_le _, rfl, ⟨fun j _ h => by omega, by simpa using HV2.out, HBN.out⟩, hbel2⟩
              case round =>
                obtain ⟨k, hk3, rfl, HI, hbel3⟩ := hrel
                clear HV2 HBN hbel2
                have g0 : wr.cell? ⟨w.heap.size, 0, none⟩ = some (.slice (some ⟨b1, o1, none⟩) ns.length c0) := (hbel3.cell (p := ⟨w.heap.size, 0, none⟩) (by simp)).trans (by simp)
                have q4 : wr.cell? ⟨wA.heap.size, 4, none⟩ = some (.slice a1 0 c1) := (HI.out.2.2.cell 4).trans HV4.out
                have e : k = 0 := by omega
                subst e
                have HRF : Hid (Right ns.length i y) := HRG2.out (fun z hz => by
                  obtain ⟨j, hj, e⟩ := List.mem_iff_getElem.1 hz
                  rw [← e]
                  exact HI.out.1 j hj (by rw [← HKL.out]; exact hj))
                have HVE : Hid (Vals wr (w.heap.size + 1) 3 (cntRow (kidsTo ns (i + 1)) ns.length)) := by
                  have := HI.out.2.1
                  rw [List.take_of_length_le (by rw [HKL.out]; exact Nat.le_refl _), ← HNX.out] at this
                  exact this
                have HJE : Hid (∀ j (h : j < ns.length), j < i + 1 → Right ns.length j ns[j]) := HRI.out HRF.out
                clear HI HRF
                go_wp2
                go_roundw
                case rel => exact ⟨i + 1, by omega, by go_num, ⟨HJE.out, HVE.out⟩, hbel3⟩
                case measure => simp [intOf]; omega
        · have hk2 : inB y.kind 0 3 = false := by simpa using hk
          have HSB : Hid (shapeB ns = false) := HRT.out (fun r => hk r.1)
          clear hk
          go_wp2_with (go_at_call 55; refine (l1In_any _ _ _ _).mono ?_; rintro e w' ⟨rfl, rfl⟩)
          go_ret
          exact ⟨ret_bool (by rw [HSB.out]), B0.trans ((hbel.alloc (by omega) _).mono (by omega))⟩
      · have e : i = ns.length := by omega
        subst e
        have HV1 : Hid (Vals wA (w.heap.size + 1) 3 (cntRow (kidsTo ns ns.length) ns.length)) := HI.out.2
        have HJ1 : Hid (∀ j (h : j < ns.length), Right ns.length j ns[j]) := fun j h => HI.out.1 j h h
        have HKB : Hid ((kidsTo ns ns.length).length ≤ 1048576) := by have := kidsTo_length (ns := ns) ns.length; have := HW.out; show _ ≤ _; omega
        clear HI HF HW HR
        go_wp2
        go_loopw [7] (fun u7 wr => ∃ j : Nat, 1 ≤ j ∧ j ≤ ns.length ∧ u7 = .int .i64 j ∧ Hid (∀ l, 1 ≤ l → l < j → (kidsTo ns ns.length).count (l : Int) = 1) ∧ wr = wA) (fun u7 _ => ns.length - (intOf u7).toNat)
        case atStart => exact ⟨1, Nat.le_refl _, hpos, rfl, fun l h1 h2 => by omega, rfl⟩
        case round =>
          obtain ⟨j, hj1, hj, rfl, HC, hw1⟩ := hrel
          replace hw1 := hw1.symm
          subst hw1
          by_cases hlj : j < ns.length
          · have hct := List.count_le_length (a := (j : Int)) (l := kidsTo ns ns.length)
            have hkb := HKB.out
            have qs : wA.cell? ⟨w.heap.size + 1, j, none⟩ = some (.int .i64 (((kidsTo ns ns.length).count (j : Int) : Nat) : Int)) := (HV1.out.cell j).trans (cntRow_get hlj)
            have HS : Hid ((kidsTo ns ns.length).count (j : Int) = 1 → ∀ l, 1 ≤ l → l < j + 1 → (kidsTo ns ns.length).count (l : Int) = 1) := fun h l h1 h2 => by
              by_cases e : l = j
              · subst e; exact h
              · exact HC.out l h1 (by omega)
            have HN : Hid ((kidsTo ns ns.length).count (j : Int) ≠ 1 → shapeB ns = false) := fun h => shapeB_no (fun s => h (s.2.2 j hj1 hlj))
            clear HC
            generalize (kidsTo ns ns.length).count (j : Int) = ct at *
            by_cases hc : ct = 1
            · have HS2 := HS.out hc
              have HS3 : Hid (∀ l, 1 ≤ l → l < j + 1 → (kidsTo ns ns.length).count (l : Int) = 1) := HS2
              subst hc
              clear HS HN HS2
              go_wp2
              go_roundw
              case rel => exact ⟨j + 1, by omega, by omega, by go_num, HS3, trivial⟩
              case measure => simp [intOf]; omega
            · have HSB : Hid (shapeB ns = false) := HN.out hc
              clear HS HN
              go_wp2
              go_ret
              exact ⟨ret_bool (by rw [HSB.out]), B0.trans (hbel.mono (Nat.le_succ w.heap.size))⟩
          · have HSB : Hid (shapeB ns = true) := shapeB_yes ⟨hz, HJ1.out, fun l h1 h2 => HC.out l h1 (by omega)⟩
            clear HC
            go_wp2
            go_ret
            exact ⟨ret_bool (by rw [HSB.out]), B0.trans (hbel.mono (Nat.le_succ w.heap.size))⟩
end Go.Proofs.YtghpekijimoicaaDoor
namespace Go.Proofs.YtghpekijimoicaaDoor
open Go.RowKit

/-- An alternative's text, a blank ahead of each symbol. -/
def altText (row : List Int) : List UInt8 := if row.length = 0 then [] else 32 :: rowText row
def altsTo (alts : List (List Int)) : Nat → List UInt8
  | 0 => []
  | i + 1 => (altsTo alts i ++ (if i = 0 then [] else [32, 124])) ++ altText (alts.getD i [])
def partText (k : Nat) (alts : List (List Int)) : List UInt8 := (80 :: Lib.itoa (k : Int) ++ [32, 61]) ++ (altsTo alts alts.length ++ [10])
def partsTo (P : List (List (List Int))) : Nat → List UInt8
  | 0 => []
  | k + 1 => partsTo P k ++ partText k (P.getD k [])
def gramText (P : List (List (List Int))) : List UInt8 := if gramOkB P then partsTo P P.length else []

/-- What is known of the sizes of a right grammar. -/
structure Fits (P : List (List (List Int))) : Prop where
  parts : P.length ≤ 20
  alts : ∀ alts ∈ P, alts.length ≤ 8
  rows : ∀ alts ∈ P, ∀ row ∈ alts, row.length ≤ 8
  syms : ∀ alts ∈ P, ∀ row ∈ alts, ∀ z ∈ row, 0 ≤ z ∧ z < 120
theorem Fits.of {P : List (List (List Int))} (h : gramOkB P = true) : Fits P := by
  simp only [gramOkB, Bool.and_eq_true, inB_true, List.all_eq_true, partOk, rowOk, decide_eq_true_eq] at h
  obtain ⟨hp, ha⟩ := h
  refine ⟨by omega, fun alts h1 => ?_, fun alts h1 row h2 => ((ha alts h1).2 row h2).1, fun alts h1 row h2 z h3 => ?_⟩
  · have := (ha alts h1).1; omega
  · have := symOk_true.1 (((ha alts h1).2 row h2).2 z h3); omega
theorem rowText_le8 {row : List Int} (h : row.length ≤ 8) (hz : ∀ z ∈ row, 0 ≤ z ∧ z < 120) : (rowText row).length ≤ 176 := by
  have := rowTo_le (zs := row) (fun z hz' => by have := hz z hz'; omega) row.length (Nat.le_refl _)
  unfold rowText; omega
theorem altText_le {row : List Int} (h : row.length ≤ 8) (hz : ∀ z ∈ row, 0 ≤ z ∧ z < 120) : (altText row).length ≤ 177 := by
  unfold altText
  have := rowText_le8 h hz
  split
  · simp
  · simp; omega
theorem altsTo_le {alts : List (List Int)} (h : ∀ row ∈ alts, row.length ≤ 8) (hz : ∀ row ∈ alts, ∀ z ∈ row, 0 ≤ z ∧ z < 120) (i : Nat) (hi : i ≤ alts.length) : (altsTo alts i).length ≤ 180 * i := by
  induction i with
  | zero => simp [altsTo]
  | succ i ih =>
    have h1 := ih (by omega)
    have e : alts.getD i [] = alts[i] := by simp [List.getD, show i < alts.length by omega]
    have h2 := altText_le (h alts[i] (List.getElem_mem _)) (hz alts[i] (List.getElem_mem _))
    simp only [altsTo, List.length_append, e]
    split <;> simp <;> omega
theorem partText_le {k : Nat} (hk : k ≤ 20) {alts : List (List Int)} (h8 : alts.length ≤ 8) (h : ∀ row ∈ alts, row.length ≤ 8) (hz : ∀ row ∈ alts, ∀ z ∈ row, 0 ≤ z ∧ z < 120) : (partText k alts).length ≤ 1500 := by
  have h1 := altsTo_le h hz alts.length (Nat.le_refl _)
  have h2 := itoa_le (n := (k : Int)) (by omega) (by omega)
  simp only [partText, List.length_append, List.length_cons, List.length_nil]
  omega
theorem partsTo_le {P : List (List (List Int))} (F : Fits P) (k : Nat) (hk : k ≤ P.length) : (partsTo P k).length ≤ 1500 * k := by
  induction k with
  | zero => simp [partsTo]
  | succ k ih =>
    have h1 := ih (by omega)
    have e : P.getD k [] = P[k] := by simp [List.getD, show k < P.length by omega]
    have hm := List.getElem_mem (l := P) (show k < P.length by omega)
    have h2 := partText_le (k := k) (by have := F.parts; omega) (F.alts _ hm) (F.rows _ hm) (F.syms _ hm)
    simp only [partsTo, List.length_append, e]
    omega
theorem partsTo_next {P : List (List (List Int))} {k : Nat} (h : k < P.length) : partsTo P (k + 1) = partsTo P k ++ partText k P[k] := by simp [partsTo, h]
theorem altsTo_first {alts : List (List Int)} (h : 0 < alts.length) : altsTo alts (0 + 1) = altText alts[0] := by simp [altsTo, h]
theorem altsTo_next {alts : List (List Int)} {i : Nat} (h : i < alts.length) (hi : i ≠ 0) : altsTo alts (i + 1) = (altsTo alts i ++ [32, 124]) ++ altText alts[i] := by simp [altsTo, h, hi]
theorem altText_nil {row : List Int} (h : row.length = 0) : altText row = [] := by simp [altText, h]
theorem altText_some {row : List Int} (h : row.length ≠ 0) : altText row = 32 :: rowText row := by simp [altText, h]
end Go.Proofs.YtghpekijimoicaaDoor
namespace Go.Proofs.YtghpekijimoicaaDoor
open Go.RowKit

/-- What GramText answers. -/
def resGramText (x : Gm) : ByteArray := ⟨(gramText x.parts).toArray⟩

theorem str_cat {s : ByteArray} {l : List UInt8} (h : s.data.toList = l) : Value.string s = .string ⟨l.toArray⟩ := by rw [← h]

set_option maxHeartbeats 2000000 in
set_option maxRecDepth 100000 in
theorem specGramText_any (x : Gm) (a0 : Option Addr) (c0 : Nat) (w : World) (h0 : RD w (.slice a0 x.parts.length c0) (slD (Lay.list (Lay.list Lay.int)) x.parts)) (hn : Lay.gram.wt x ≤ 1048576) (hf : Lay.gram.fit x) :
    Calls Tryd.prog 19 #[.agg #[.slice a0 x.parts.length c0]] w fun e w' => e = .returned (.string (resGramText x)) ∧ Below w.heap.size w w' := by
  unfold resGramText
  have B0 := (Below.refl w.heap.size w).alloc (Nat.le_refl _) (.cells #[.slice a0 x.parts.length c0] 32)
  have HR : Hid (RD (w.alloc (.cells #[.slice a0 x.parts.length c0] 32)) (.slice a0 x.parts.length c0) (slD (Lay.list (Lay.list Lay.int)) x.parts)) := h0.later B0
  have HOK : Hid (∀ W : World, Below w.heap.size w W → Calls Tryd.prog 44 #[.agg #[.slice a0 x.parts.length c0]] W fun e w' => e = .returned (.bool (gramOkB x.parts)) ∧ Below W.heap.size W w') := fun W hW => specGramOk_any x a0 c0 W (h0.later hW) hn hf
  clear h0 hn hf
  generalize x.parts = P at *
  by_cases hok : gramOkB P = true
  · have F := Fits.of hok
    have HF : Hid (Fits P) := F
    have hp := F.parts
    rw [gramText, if_pos hok]
    clear F
    go_enter Tryd.func19, Tryd.ntmps19
    go_wp2_with (go_at_call 44; refine (HOK.out _ B0).mono ?_; rintro e w1 ⟨rfl, hb1⟩)
    clear HOK
    have hb1' : Below (w.heap.size + 1) (w.alloc (.cells #[.slice a0 P.length c0] 32)) w1 := by simpa using hb1
    go_loopw [3, 4] (fun s i wr => ∃ k : Nat, k ≤ P.length ∧ i = .int .i64 k ∧ s = .string ⟨(partsTo P k).toArray⟩ ∧ Below (w.heap.size + 1) (w.alloc (.cells #[.slice a0 P.length c0] 32)) wr) (fun _ i _ => P.length - (intOf i).toNat)
    case atStart => exact ⟨0, Nat.zero_le _, rfl, rfl, hb1'⟩
    case round =>
      obtain ⟨k, hk, rfl, rfl, hbel⟩ := hrel
      clear hb1 hb1'
      have hbx : Below (w.alloc (.cells #[.slice a0 P.length c0] 32)).heap.size (w.alloc (.cells #[.slice a0 P.length c0] 32)) wr := by simpa using hbel
      have g0 : wr.cell? ⟨w.heap.size, 0, none⟩ = some (.slice a0 P.length c0) := (hbel.cell (p := ⟨w.heap.size, 0, none⟩) (by simp)).trans (by simp)
      have hwl : w.heap.size < wr.heap.size := World.block_lt_of_cell? wr _ g0
      by_cases hlt : k < P.length
      · obtain ⟨b1, o1, rfl, hb1, a1, c1, q0, r1⟩ := (HR.out.later hbx).listAt hlt
        have hm := List.getElem_mem hlt
        have HE : Hid (partsTo P (k + 1) = partsTo P k ++ partText k P[k]) := partsTo_next hlt
        have hpl := partsTo_le HF.out k hk
        have hQ := HF.out.alts _ hm
        have HQr : Hid (∀ row ∈ P[k], row.length ≤ 8) := HF.out.rows _ hm
        have HQs : Hid (∀ row ∈ P[k], ∀ z ∈ row, 0 ≤ z ∧ z < 120) := HF.out.syms _ hm
        have HR1 : Hid (∀ W : World, Below (w.heap.size + 1) (w.alloc (.cells #[.slice (some ⟨b1, o1, none⟩) P.length c0] 32)) W → W.cell? ⟨b1, o1 + k, none⟩ = some (.slice a1 P[k].length c1) ∧ RD W (.slice a1 P[k].length c1) (slD (Lay.list Lay.int) P[k])) := by
          intro W hW
          have hWx : Below (w.alloc (.cells #[.slice (some ⟨b1, o1, none⟩) P.length c0] 32)).heap.size (w.alloc (.cells #[.slice (some ⟨b1, o1, none⟩) P.length c0] 32)) W := by simpa using hW
          obtain ⟨b1', o1', e1, hb1', a1', c1', q0', r1'⟩ := HR.out.listAt hlt
          cases e1
          have t1 := (hWx.cell (p := ⟨b1, o1 + k, none⟩) (by simpa using hb1')).trans q0'
          have t2 := (hbx.cell (p := ⟨b1, o1 + k, none⟩) (by simpa using hb1')).trans q0'
          rw [q0] at t2
          cases t2
          exact ⟨t1, r1'.later hWx⟩
        have X : Hid (∀ W : World, Calls Tryd.prog 45 #[.int .i64 (k : Int)] W fun e w' => e = .returned (.string ⟨(Lib.itoa (k : Int)).toArray⟩) ∧ Below W.heap.size W w') := fun W => specDigits_any (k : Int) W (by omega) (by omega)
        have hds := itoa_le (n := (k : Int)) (by omega) (by omega)
        have HT : Hid (partText k P[k] = (80 :: Lib.itoa (k : Int) ++ [32, 61]) ++ (altsTo P[k] P[k].length ++ [10])) := rfl
        clear r1 HR hm hbx
        generalize Lib.itoa (k : Int) = ds at *
        generalize partText k P[k] = pt at *
        generalize P[k] = Q at *
        generalize partsTo P k = pre at *
        go_wp2_with (go_at_call 45; refine (X.out _).mono ?_; rintro e w2 ⟨rfl, hb2⟩)
        have hbel2 : Below (w.heap.size + 1) (w.alloc (.cells #[.slice (some ⟨b1, o1, none⟩) P.length c0] 32)) w2 := hbel.trans (hb2.mono (by omega))
        clear X q0 g0 hb1
        go_loopw [3, 5] (fun s i wi => ∃ j : Nat, j ≤ Q.length ∧ i = .int .i64 j ∧ s = .string ⟨((pre ++ (80 :: ds ++ [32, 61])) ++ altsTo Q j).toArray⟩ ∧ Below (w.heap.size + 1) (w.alloc (.cells #[.slice (some ⟨b1, o1, none⟩) P.length c0] 32)) wi) (fun _ i _ => Q.length - (intOf i).toNat)
        case atStart => exact ⟨0, Nat.zero_le _, rfl, str_cat (by simp [altsTo]), hbel2⟩
        case round =>
          obtain ⟨j, hj, rfl, rfl, hbi⟩ := hrel
          clear hbel hbel2 hb2 hwl
          obtain ⟨q0, r1⟩ := HR1.out wr hbi
          have g0 : wr.cell? ⟨w.heap.size, 0, none⟩ = some (.slice (some ⟨b1, o1, none⟩) P.length c0) := (hbi.cell (p := ⟨w.heap.size, 0, none⟩) (by simp)).trans (by simp)
          have hwl : w.heap.size < wr.heap.size := World.block_lt_of_cell? wr _ g0
          have hal := altsTo_le HQr.out HQs.out j hj
          by_cases hlt2 : j < Q.length
          · obtain ⟨b2, o2, rfl, hb2', a2, c2, q1, r2⟩ := r1.listAt hlt2
            have hm := List.getElem_mem hlt2
            have hr8 := HQr.out _ hm
            have X2 : Hid (Calls Tryd.prog 21 #[.slice a2 Q[j].length c2] wr fun e w' => e = .returned (.string ⟨(rowText Q[j]).toArray⟩) ∧ Below wr.heap.size wr w') := specRow_p Q[j] a2 c2 wr r2.reads (by omega) (fun z hz => by have := HQs.out _ hm z hz; omega)
            have hrl := rowText_le8 hr8 (HQs.out _ hm)
            have HA0 : Hid (Q[j].length = 0 → altText Q[j] = []) := altText_nil
            have HA1 : Hid (Q[j].length ≠ 0 → altText Q[j] = 32 :: rowText Q[j]) := altText_some
            by_cases j0 : j = 0
            · subst j0
              have HN : Hid (altsTo Q (0 + 1) = altText Q[0]) := altsTo_first hlt2
              have e0 : altsTo Q 0 = [] := rfl
              rw [e0]
              rw [Nat.add_zero] at q1
              generalize rowText Q[0] = rt at *
              generalize altText Q[0] = at1 at *
              generalize Q[0] = R at *
              clear r1 r2 hm hal
              by_cases hR : R.length = 0
              · have hR2 : ¬ (0 : Int) < (R.length : Int) := by omega
                have HN2 : Hid (altsTo Q (0 + 1) = []) := by show _ = _; rw [HN.out, HA0.out hR]
                clear X2
                go_wp2
                go_roundw
                case rel => exact ⟨0 + 1, by omega, by go_num, by rw [HN2.out], hbi⟩
                case measure => simp [intOf]; omega
              · have hR2 : (0 : Int) < (R.length : Int) := by omega
                have HN2 : Hid (altsTo Q (0 + 1) = 32 :: rt) := by show _ = _; rw [HN.out, HA1.out hR]
                clear hR
                go_wp2_with (go_at_call 21; refine X2.out.mono ?_; rintro e w3 ⟨rfl, hb3⟩)
                go_roundw
                case rel => exact ⟨0 + 1, by omega, by go_num, by rw [HN2.out]; exact str_cat (by simp), hbi.trans (hb3.mono (by omega))⟩
                case measure => simp [intOf]; omega
            · have HN : Hid (altsTo Q (j + 1) = (altsTo Q j ++ [32, 124]) ++ altText Q[j]) := altsTo_next hlt2 j0
              have hj0 : 0 < (j : Int) := by omega
              generalize rowText Q[j] = rt at *
              generalize altText Q[j] = at1 at *
              generalize Q[j] = R at *
              generalize altsTo Q j = al at *
              clear r1 r2 hm
              by_cases hR : R.length = 0
              · have hR2 : ¬ (0 : Int) < (R.length : Int) := by omega
                have HN2 : Hid (altsTo Q (j + 1) = al ++ [32, 124]) := by show _ = _; rw [HN.out, HA0.out hR]; simp
                clear X2
                go_wp2
                go_roundw
                case rel => exact ⟨j + 1, by omega, by go_num, by rw [HN2.out]; exact str_cat (by simp), hbi⟩
                case measure => simp [intOf]; omega
              · have hR2 : (0 : Int) < (R.length : Int) := by omega
                have HN2 : Hid (altsTo Q (j + 1) = (al ++ [32, 124]) ++ (32 :: rt)) := by show _ = _; rw [HN.out, HA1.out hR]
                clear hR
                go_wp2_with (go_at_call 21; refine X2.out.mono ?_; rintro e w3 ⟨rfl, hb3⟩)
                go_roundw
                case rel => exact ⟨j + 1, by omega, by go_num, by rw [HN2.out]; exact str_cat (by simp), hbi.trans (hb3.mono (by omega))⟩
                case measure => simp [intOf]; omega
          · have e : j = Q.length := by omega
            subst e
            clear r1
            generalize altsTo Q Q.length = al at *
            go_wp2
            go_roundw
            case rel => exact ⟨k + 1, by omega, by go_num, by rw [HE.out, HT.out]; exact str_cat (by simp), hbi⟩
            case measure => simp [intOf]; omega
      · have e : k = P.length := by omega
        subst e
        clear HR
        go_wp2
        go_ret
        exact ⟨rfl, B0.trans (hbel.mono (by omega))⟩
  · have hok2 : gramOkB P = false := by simpa using hok
    rw [gramText, if_neg hok]
    clear hok
    go_enter Tryd.func19, Tryd.ntmps19
    go_wp2_with (go_at_call 44; refine (HOK.out _ B0).mono ?_; rintro e w1 ⟨rfl, hb1⟩)
    go_ret
    exact ⟨rfl, B0.trans (hb1.mono B0.size)⟩
end Go.Proofs.YtghpekijimoicaaDoor
namespace Go.Proofs.YtghpekijimoicaaDoor
open Go.RowKit

/-- Each block that is told begins with the cells that are told. -/
def Keeps (w : World) (L : List (Nat × List Value)) : Prop := ∀ p ∈ L, ∀ j (hj : j < p.2.length), w.cell? ⟨p.1, j, none⟩ = some p.2[j]
theorem Keeps.nil (w : World) : Keeps w [] := fun p hp => by simp at hp
theorem Keeps.later {w w' : World} {L : List (Nat × List Value)} (h : Keeps w L) (hb : Below w.heap.size w w') : Keeps w' L := by
  intro p hp j hj
  have c := h p hp j hj
  exact (hb.cell (p := ⟨p.1, j, none⟩) (World.block_lt_of_cell? w _ c)).trans c
theorem Keeps.box {w : World} {L : List (Nat × List Value)} (h : Keeps w L) (vs : List Value) (t : TypeId) : Keeps (w.alloc (.cells vs.toArray t)) ((w.heap.size, vs) :: L) := by
  intro p hp j hj
  rcases List.mem_cons.1 hp with rfl | hp
  · have e := Lib.cell_of_heap (heap_alloc_new w (.cells vs.toArray t)) j
    rw [e]
    simp at hj
    simp [hj]
  · exact h.later ((Below.refl _ _).alloc (Nat.le_refl _) _) p hp j hj
theorem Keeps.drew {w : World} {L : List (Nat × List Value)} (h : Keeps w L) : Keeps w.drew L := h.later (Below.drew (Below.refl _ _))
theorem Keeps.drewN {w : World} {L : List (Nat × List Value)} (h : Keeps w L) (n : Nat) : Keeps (w.drewN n) L := h.later (below_drew n)

theorem Cells.rdAt {w : World} {base : Nat} {us : List Value} {ds : List Dat} {T : Nat → Prop} (h : Cells w base us ds T) (i : Nat) (hi : i < us.length) (hi' : i < ds.length) : RD w us[i] ds[i] := by
  obtain ⟨G, hl, hr, _⟩ := h
  exact (hr i hi hi').rd
theorem take_atL {P : Program} {ops : Array Oper} {Q : Exit → Act → World → Prop} {md : Region.Mode} {S : World → Prop} {i : Nat} {oi : Oper} {d : Option Tmp} {v : Value} {fuel : Nat} {listed : Array Bool} {a : Act} {w : World} (hi : ops[i]? = some oi) (hd : oi.dst = d)
    (hs : Region.noSelect ops = true) (hf : Region.free md ops listed i = true) (hr : (Region.ready md ops listed).contains i = true)
    (hQ : ∀ c a w, Q (.panic c) (a.put d v) w → Q (.panic c) a w) (hw : Region.wanted oi (yielded ops a.tmps) = true) (hv : ∀ w, S w → (execOp a.eval oi).run P w = .ok (.value v) w) (hS : S w)
    (h : wpAnyH P md ops Q S fuel (listed.setIfInBounds i true) (a.put d v) w) : wpAnyH P md ops Q S (fuel + 1) listed a w := by
  subst hd
  exact wpAnyH_take hi hs hf hr hQ (.inl ⟨hw, hv⟩) hS h
theorem Below.drewed {w w' : World} (h : Below w.heap.size w.drew w') : Below w.heap.size w w' := ⟨h.os, h.tape, h.output, h.size, h.block⟩
end Go.Proofs.YtghpekijimoicaaDoor
namespace Go.Proofs.YtghpekijimoicaaDoor
open Go.RowKit

set_option maxRecDepth 100000 in
theorem l9Letter_any (x : Int) (w : World) (h0 : -9223372036854775808 ≤ x) (h1 : x ≤ 9223372036854775807) :
    Calls Tryd.prog 68 #[.int .i64 x] w fun e w' => e = .returned (.string ⟨(letText x).toArray⟩) ∧ Below w.heap.size w w' := by
  by_cases hl : inB x 0 25 = true
  · have hx := inB_true.1 hl
    have hcv := conv_one (P := Tryd.prog) 66 9 5 Tryd.underlying66 Tryd.underlying5 Tryd.underlying9 w (UInt8.ofNat (97 + x.toNat)) (97 + x) (letter_byte hl)
    rw [letText, if_pos hl]
    generalize UInt8.ofNat (97 + x.toNat) = b at *
    go_enter Tryd.func68, Tryd.ntmps68
    go_wp2_with (go_at_call 55; refine (l1In_any _ _ _ _).mono ?_; rintro e w' ⟨rfl, rfl⟩)
    go_ret
    exact ⟨rfl, (Below.refl _ _).alloc (Nat.le_refl _) _⟩
  · have hl2 : inB x 0 25 = false := by simpa using hl
    rw [letText, if_neg hl]
    clear hl
    go_enter Tryd.func68, Tryd.ntmps68
    go_wp2_with (go_at_call 55; refine (l1In_any _ _ _ _).mono ?_; rintro e w' ⟨rfl, rfl⟩)
    go_ret
    exact ⟨rfl, Below.refl _ _⟩

theorem kid_pos {ns : List Nd} (s : Shaped ns) {p : Nat} (hp : p < ns.length) {j : Nat} (hj : j < (kidsAt ns p).length) : 0 < (kidsAt ns p)[j] ∧ (kidsAt ns p)[j] < ns.length ∧ p < (kidsAt ns p)[j] := by
  have := kid_lt s hp (List.getElem_mem hj)
  omega
theorem txt_take {ns : List Nd} {ks : List Nat} {j : Nat} (hj : j < ks.length) : (ks.take (j + 1)).flatMap (txtAt ns) = (ks.take j).flatMap (txtAt ns) ++ txtAt ns ks[j] := by
  rw [List.take_succ_eq_append_getElem hj, List.flatMap_append, List.flatMap_singleton]
theorem txt_kid_le {ns : List Nd} {ks : List Nat} {j : Nat} (hj : j < ks.length) : ((ks.take j).flatMap (txtAt ns)).length + (txtAt ns ks[j]).length ≤ (ks.flatMap (txtAt ns)).length := by
  have e : ks = ks.take j ++ ks[j] :: ks.drop (j + 1) := by rw [← List.drop_eq_getElem_cons hj, List.take_append_drop]
  conv => rhs; rw [e]
  rw [List.flatMap_append, List.flatMap_cons, List.length_append, List.length_append]
  omega

set_option maxHeartbeats 1000000 in
set_option maxRecDepth 100000 in
theorem l9Text_at (ns : List Nd) (hs : Shaped ns) (hn : ns.length ≤ 1048576) (hsum : Lay.node.sumL ns ≤ 1048576) (hnum : ∀ p, NumIn (ndAt ns p)) : ∀ (f p : Nat), p < ns.length → ns.length - p ≤ f → (ownT ns p).length ≤ 1000000000 → ∀ (a0 : Option Addr) (c0 : Nat) (w : World), RD w (.slice a0 ns.length c0) (slD Lay.node ns) →
    Calls Tryd.prog 38 #[.agg #[.slice a0 ns.length c0], .int .i64 (p : Int)] w fun e w' => e = .returned (.string ⟨(ownT ns p).toArray⟩) ∧ Below w.heap.size w w'
  | 0, p, hp, hf, _, _, _, _, _ => by omega
  | f + 1, p, hp, hf, hl, a0, c0, w, h0 => by
    have HREC : Hid (∀ k, k ∈ kidsAt ns p → (ownT ns k).length ≤ 1000000000 → ∀ (W : World), Below w.heap.size w W → Calls Tryd.prog 38 #[.agg #[.slice a0 ns.length c0], .int .i64 (k : Int)] W fun e w' => e = .returned (.string ⟨(ownT ns k).toArray⟩) ∧ Below W.heap.size W w') := fun k hk hl2 W hW => by
      have := kid_lt hs hp hk
      exact l9Text_at ns hs hn hsum hnum f k this.2 (by omega) hl2 a0 c0 W (h0.later hW)
    obtain ⟨b1, o1, rfl, hb1, ⟨p0, p1, p2, p3⟩, a1, c1, p4, r1⟩ := h0.atNode hp
    have HRK : Hid (Reads w a1 ns[p].kids) := r1.reads
    have B0 : Below w.heap.size w (w.alloc (.cells #[.slice (some ⟨b1, o1, none⟩) ns.length c0] 36)) := (Below.refl _ _).alloc (Nat.le_refl _) _
    have hpI : (p : Int) < (ns.length : Int) := by omega
    have hx := hnum p
    have hkl := kidsAt_length ns p
    have hkb : (kidsAt ns p).length ≤ 1048576 := by
      have h1 := kidsTo_length (ns := ns) (p + 1)
      rw [kidsTo_next hp, List.length_append] at h1
      rw [hkl, ndAt_get hp]
      omega
    have p0' := (B0.cell (p := ⟨b1, _, none⟩) hb1).trans p0
    have p1' := (B0.cell (p := ⟨b1, _, none⟩) hb1).trans p1
    have p2' := (B0.cell (p := ⟨b1, _, none⟩) hb1).trans p2
    have p3' := (B0.cell (p := ⟨b1, _, none⟩) hb1).trans p3
    have p4' := (B0.cell (p := ⟨b1, _, none⟩) hb1).trans p4
    rw [← ndAt_get hp] at p0' p1' p2' p3' p4' HRK
    obtain ⟨w2, hw2⟩ : ∃ w2, w2 = (w.alloc (.cells #[.slice (some ⟨b1, o1, none⟩) ns.length c0] 36)).alloc (.cells #[.int .i64 (ndAt ns p).kind, .int .i64 (ndAt ns p).sym, .int .i64 (ndAt ns p).alt, .int .i64 (ndAt ns p).pl, .slice a1 (ndAt ns p).kids.length c1] 54) := ⟨_, rfl⟩
    have g0 : w2.cell? ⟨w.heap.size, 0, none⟩ = some (.slice (some ⟨b1, o1, none⟩) ns.length c0) := by
      rw [hw2]
      exact (((Below.refl (w.heap.size + 1) _).alloc (by simp) _).cell (p := ⟨w.heap.size, 0, none⟩) (by simp)).trans (by simp)
    have q1 : w2.cell? ⟨w.heap.size + 1, 1, none⟩ = some (.int .i64 (ndAt ns p).sym) := by
      rw [hw2]
      have : (w.alloc (.cells #[.slice (some ⟨b1, o1, none⟩) ns.length c0] 36)).heap.size = w.heap.size + 1 := by simp
      rw [← this]; simp
    have q2 : w2.cell? ⟨w.heap.size + 1, 2, none⟩ = some (.int .i64 (ndAt ns p).alt) := by
      rw [hw2]
      have : (w.alloc (.cells #[.slice (some ⟨b1, o1, none⟩) ns.length c0] 36)).heap.size = w.heap.size + 1 := by simp
      rw [← this]; simp
    have q4 : w2.cell? ⟨w.heap.size + 1, 4, none⟩ = some (.slice a1 (ndAt ns p).kids.length c1) := by
      rw [hw2]
      have : (w.alloc (.cells #[.slice (some ⟨b1, o1, none⟩) ns.length c0] 36)).heap.size = w.heap.size + 1 := by simp
      rw [← this]; simp
    have hs2 : w.heap.size + 2 ≤ w2.heap.size := by rw [hw2]; simp
    have B2 : Below w.heap.size w w2 := by rw [hw2]; exact B0.alloc (by simp) _
    have HKP : Hid (∀ j (hj : j < (kidsAt ns p).length), 0 < (kidsAt ns p)[j] ∧ (kidsAt ns p)[j] < ns.length ∧ p < (kidsAt ns p)[j]) := fun j hj => kid_pos hs hp hj
    have HKG : Hid (∀ j (hj : j < (kidsAt ns p).length), (ndAt ns p).kids.getD j 0 = (((kidsAt ns p)[j] : Nat) : Int)) := fun j hj => kidsAt_get hs hp hj
    have HOWN : Hid (∀ k, 0 < k → k < ns.length → txtAt ns k = 32 :: ownT ns k) := fun k h1 h2 => txtAt_own hs h2 h1
    have X1 : Hid (∀ W, Below w2.heap.size w2 W → Calls Tryd.prog 45 #[.int .i64 (ndAt ns p).sym] W fun e w' => e = .returned (.string ⟨(Lib.itoa (ndAt ns p).sym).toArray⟩) ∧ Below W.heap.size W w') := fun W _ => specDigits_any _ W hx.1.1 hx.1.2
    have X2 : Hid (∀ W, Below w2.heap.size w2 W → Calls Tryd.prog 45 #[.int .i64 (ndAt ns p).alt] W fun e w' => e = .returned (.string ⟨(Lib.itoa (ndAt ns p).alt).toArray⟩) ∧ Below W.heap.size W w') := fun W _ => specDigits_any _ W hx.2.1 hx.2.2
    have X3 : Hid (∀ W, Calls Tryd.prog 68 #[.int .i64 (ndAt ns p).sym] W fun e w' => e = .returned (.string ⟨(letText (ndAt ns p).sym).toArray⟩) ∧ Below W.heap.size W w') := fun W => l9Letter_any _ W hx.1.1 hx.1.2
    have hl1 := itoa_le2 (ndAt ns p).sym hx.1.1 hx.1.2
    have hl2 := itoa_le2 (ndAt ns p).alt hx.2.1 hx.2.2
    have hl3 := letText_len (ndAt ns p).sym
    have HK3 : Hid (inB (ndAt ns p).kind 0 3 = true) := by have := (hs.2.1 p hp).1; rw [← ndAt_get hp] at this; exact this
    clear h0 r1 p0 p1 p2 p3 p4
    by_cases h1 : (ndAt ns p).kind = 1
    · have HT : Hid (ownT ns p = ((40 :: 80 :: Lib.itoa (ndAt ns p).sym) ++ (47 :: Lib.itoa (ndAt ns p).alt)) ++ (kidsAt ns p).flatMap (txtAt ns) ++ [41]) := ownT_part h1
      have hl4 : ((kidsAt ns p).flatMap (txtAt ns)).length ≤ 1000000000 := by
        rw [HT.out, List.length_append, List.length_append] at hl
        omega
      rw [HT.out]
      have HRK2 : Hid (∀ j (hj : j < (kidsAt ns p).length), ∃ b off, a1 = some ⟨b, off, none⟩ ∧ b < w.heap.size ∧ w.cell? ⟨b, off + j, none⟩ = some (.int .i64 (((kidsAt ns p)[j] : Nat) : Int))) := fun j hj => by
        obtain ⟨b, off, e, hb, hc⟩ := HRK.out.at (i := j) (by omega)
        exact ⟨b, off, e, hb, by rw [hc j (by omega), HKG.out j hj]⟩
      rw [← hkl] at p4' q4 hw2
      clear hl HT HRK HKG hkl X3 hl3 HK3
      rw [h1] at p0' hw2
      clear h1
      generalize kidsAt ns p = ks at *
      generalize ndAt ns p = y at *
      generalize Lib.itoa y.sym = d1 at *
      generalize Lib.itoa y.alt = d2 at *
      go_enter Tryd.func38, Tryd.ntmps38
      go_wp2_with fail
      rw [← hw2]
      clear hw2
      refine wp_region_held_drew (S := (fun w' => w'.cell? ⟨w.heap.size + 1, 1, none⟩ = some (.int .i64 y.sym) ∧ w'.cell? ⟨w.heap.size + 1, 2, none⟩ = some (.int .i64 y.alt))) (by kernel_rfl) ⟨q1, q2⟩ (fun hHeld => ?_)
      refine take_atL (i := 0) (d := some 32) (v := .pointer (some ⟨w.heap.size + 1, 1, none⟩)) rfl rfl (by kernel_rfl) (by kernel_rfl) (by kernel_rfl) (fun _ _ _ h => h) (by rfl) ?_ hHeld ?_
      · intro w' hSw; obtain ⟨s0, s1⟩ := hSw; go_simp; first | done | rfl | (intro hbad; exfalso; omega) | omega
      try simp only [Act.put, List.setIfInBounds_toArray, List.set_cons_zero, List.set_cons_succ]
      refine take_atL (i := 1) (d := some 33) (v := .int .i64 (y.sym)) rfl rfl (by kernel_rfl) (by kernel_rfl) (by kernel_rfl) (fun _ _ _ h => h) (by rfl) ?_ hHeld ?_
      · intro w' hSw; obtain ⟨s0, s1⟩ := hSw; go_simp; first | done | rfl | (intro hbad; exfalso; omega) | omega
      try simp only [Act.put, List.setIfInBounds_toArray, List.set_cons_zero, List.set_cons_succ]
      refine take_atL (i := 5) (d := some 37) (v := .pointer (some ⟨w.heap.size + 1, 2, none⟩)) rfl rfl (by kernel_rfl) (by kernel_rfl) (by kernel_rfl) (fun _ _ _ h => h) (by rfl) ?_ hHeld ?_
      · intro w' hSw; obtain ⟨s0, s1⟩ := hSw; go_simp; first | done | rfl | (intro hbad; exfalso; omega) | omega
      try simp only [Act.put, List.setIfInBounds_toArray, List.set_cons_zero, List.set_cons_succ]
      refine take_atL (i := 6) (d := some 38) (v := .int .i64 (y.alt)) rfl rfl (by kernel_rfl) (by kernel_rfl) (by kernel_rfl) (fun _ _ _ h => h) (by rfl) ?_ hHeld ?_
      · intro w' hSw; obtain ⟨s0, s1⟩ := hSw; go_simp; first | done | rfl | (intro hbad; exfalso; omega) | omega
      try simp only [Act.put, List.setIfInBounds_toArray, List.set_cons_zero, List.set_cons_succ]
      refine wpAnyH_ready (rs := [2]) (by kernel_rfl) (by simp) ?_
      refine AllReadyH.cons (o := _) rfl (fun K hK => ?_) AllReadyH.nil
      rw [if_pos (by rfl)]
      go_simp
      refine (X1.out _ (Below.drew (Below.refl _ _))).mono ?_
      rintro e w5 ⟨rfl, hb5'⟩
      have hb5 : Below w2.heap.size w2 w5 := Below.drewed (by simpa using hb5')
      have r1 := (hb5.cell (p := ⟨w.heap.size + 1, 1, none⟩) (by first | omega | (simp; omega) | simp)).trans q1
      have r2 := (hb5.cell (p := ⟨w.heap.size + 1, 2, none⟩) (by first | omega | (simp; omega) | simp)).trans q2
      go_wp2_with fail
      refine hK.out _ _ ⟨r1, r2⟩ (fun hHeld => ?_)
      clear hK K
      try simp only [Act.put, List.setIfInBounds_toArray, List.set_cons_zero, List.set_cons_succ]
      refine take_atL (i := 3) (d := some 35) (v := .string (⟨#[40, 80]⟩ ++ ⟨d1.toArray⟩)) rfl rfl (by kernel_rfl) (by kernel_rfl) (by kernel_rfl) (fun _ _ _ h => h) (by rfl) ?_ hHeld ?_
      · intro w' hSw; obtain ⟨s0, s1⟩ := hSw; go_simp; first | done | rfl | (intro hbad; exfalso; omega) | omega
      try simp only [Act.put, List.setIfInBounds_toArray, List.set_cons_zero, List.set_cons_succ]
      refine take_atL (i := 4) (d := some 36) (v := .string (⟨#[40, 80]⟩ ++ ⟨d1.toArray⟩ ++ ⟨#[47]⟩)) rfl rfl (by kernel_rfl) (by kernel_rfl) (by kernel_rfl) (fun _ _ _ h => h) (by rfl) ?_ hHeld ?_
      · intro w' hSw; obtain ⟨s0, s1⟩ := hSw; go_simp; first | done | rfl | (intro hbad; exfalso; omega) | omega
      try simp only [Act.put, List.setIfInBounds_toArray, List.set_cons_zero, List.set_cons_succ]
      refine wpAnyH_ready (rs := [7]) (by kernel_rfl) (by simp) ?_
      refine AllReadyH.cons (o := _) rfl (fun K hK => ?_) AllReadyH.nil
      rw [if_pos (by rfl)]
      go_simp
      refine (X2.out _ hb5).mono ?_
      rintro e w6 ⟨rfl, hb6⟩
      have hb56 : Below w2.heap.size w2 w6 := hb5.trans (hb6.mono hb5.size)
      have t1 := (hb56.cell (p := ⟨w.heap.size + 1, 1, none⟩) (by first | omega | (simp; omega) | simp)).trans q1
      have t2 := (hb56.cell (p := ⟨w.heap.size + 1, 2, none⟩) (by first | omega | (simp; omega) | simp)).trans q2
      clear r1 r2 q1 q2 hb5' hb6
      go_wp2_with fail
      refine hK.out _ _ ⟨t1, t2⟩ (fun hHeld => ?_)
      clear hK K
      try simp only [Act.put, List.setIfInBounds_toArray, List.set_cons_zero, List.set_cons_succ]
      refine take_atL (i := 8) (d := some 40) (v := .string (⟨#[40, 80]⟩ ++ ⟨d1.toArray⟩ ++ ⟨#[47]⟩ ++ ⟨d2.toArray⟩)) rfl rfl (by kernel_rfl) (by kernel_rfl) (by kernel_rfl) (fun _ _ _ h => h) (by rfl) ?_ hHeld ?_
      · intro w' hSw; obtain ⟨s0, s1⟩ := hSw; go_simp; first | done | rfl | (intro hbad; exfalso; omega) | omega
      try simp only [Act.put, List.setIfInBounds_toArray, List.set_cons_zero, List.set_cons_succ]
      refine take_atL (i := 9) (d := some 6) (v := .string (⟨#[40, 80]⟩ ++ ⟨d1.toArray⟩ ++ ⟨#[47]⟩ ++ ⟨d2.toArray⟩)) rfl rfl (by kernel_rfl) (by kernel_rfl) (by kernel_rfl) (fun _ _ _ h => h) (by rfl) ?_ hHeld ?_
      · intro w' hSw; obtain ⟨s0, s1⟩ := hSw; go_simp; first | done | rfl | (intro hbad; exfalso; omega) | omega
      try simp only [Act.put, List.setIfInBounds_toArray, List.set_cons_zero, List.set_cons_succ]
      refine wpAnyH_done (by kernel_rfl) ?_ _
      clear hHeld
      have HB6 : Hid (Below w2.heap.size w2 w6) := hb56
      clear hb56 hb5 t1 t2 X1 X2 p0' p1' p2' p3' p4' B0
      go_wp2
      go_loopw [6, 7] (fun u6 u7 wr => ∃ j : Nat, j ≤ ks.length ∧ u7 = .int .i64 (j : Int) ∧ u6 = .string ⟨(((40 :: 80 :: d1) ++ (47 :: d2)) ++ (ks.take j).flatMap (txtAt ns)).toArray⟩ ∧ Hid (Below w2.heap.size w2 wr)) (fun _ u7 _ => ks.length - (intOf u7).toNat)
      case atStart => exact ⟨0, Nat.zero_le _, rfl, str_cat (by simp), HB6⟩
      case round =>
        obtain ⟨j, hj, rfl, rfl, HB⟩ := hrel
        obtain ⟨wA, hwA⟩ : ∃ y, y = wr := ⟨_, rfl⟩
        subst hwA
        have hsA := HB.out.size
        replace g0 := (HB.out.cell (p := ⟨w.heap.size, 0, none⟩) (by show w.heap.size < _; omega)).trans g0
        replace q4 := (HB.out.cell (p := ⟨w.heap.size + 1, 4, none⟩) (by show w.heap.size + 1 < _; omega)).trans q4
        have hwl : w.heap.size + 1 < wA.heap.size := by omega
        by_cases hlt : j < ks.length
        · obtain ⟨b2, o2, rfl, hb2, p5⟩ := HRK2.out j hlt
          have HBw : Hid (Below w.heap.size w wA) := B2.trans (HB.out.mono (by omega))
          have q5 := (HBw.out.cell (p := ⟨b2, _, none⟩) hb2).trans p5
          obtain ⟨hk0, hkn, _⟩ := HKP.out j hlt
          have HOK : Hid (txtAt ns ks[j] = 32 :: ownT ns ks[j]) := HOWN.out _ hk0 hkn
          have HTK : Hid ((ks.take (j + 1)).flatMap (txtAt ns) = (ks.take j).flatMap (txtAt ns) ++ (32 :: ownT ns ks[j])) := by rw [← HOK.out]; exact txt_take hlt
          have hle : ((ks.take j).flatMap (txtAt ns)).length + (ownT ns ks[j]).length ≤ 1000000000 := by
            have := txt_kid_le (ns := ns) hlt
            rw [HOK.out, List.length_cons] at this
            omega
          have X : Hid (∀ W, Below wA.heap.size wA W → Calls Tryd.prog 38 #[.agg #[.slice (some ⟨b1, o1, none⟩) ns.length c0], .int .i64 ((ks[j] : Nat) : Int)] W fun e w' => e = .returned (.string ⟨(ownT ns ks[j]).toArray⟩) ∧ Below W.heap.size W w') := fun W hW => HREC.out ks[j] (List.getElem_mem hlt) (by omega) W (HBw.out.trans (hW.mono HBw.out.size))
          have hltI : (j : Int) < (ks.length : Int) := by omega
          have HRES : Hid (((40 :: 80 :: d1) ++ (47 :: d2)) ++ (ks.take (j + 1)).flatMap (txtAt ns) = (((40 :: 80 :: d1) ++ (47 :: d2)) ++ (ks.take j).flatMap (txtAt ns)) ++ (32 :: ownT ns ks[j])) := by show _ = _; rw [HTK.out]; simp
          have hol : (((40 :: 80 :: d1) ++ (47 :: d2)) ++ (ks.take j).flatMap (txtAt ns)).length ≤ 1000000100 := by simp only [List.length_append, List.length_cons]; omega
          have hkl : (ownT ns ks[j]).length ≤ 1000000000 := by omega
          clear p5 hl4 HREC HRK2 HKP HOWN HOK HTK hle HB6
          generalize ks[j] = kd2 at *
          generalize ownT ns kd2 = T at *
          generalize ((40 :: 80 :: d1) ++ (47 :: d2)) ++ (ks.take j).flatMap (txtAt ns) = O at *
          go_wp2_with fail
          refine wp_region_held_drew (S := (fun w' => w'.cell? ⟨w.heap.size, 0, none⟩ = some (.slice (some ⟨b1, o1, none⟩) ns.length c0) ∧ w'.cell? ⟨w.heap.size + 1, 4, none⟩ = some (.slice (some ⟨b2, o2, none⟩) ks.length c1) ∧ w'.cell? ⟨b2, o2 + j, none⟩ = some (.int .i64 (kd2 : Int)))) (by kernel_rfl) ⟨g0, q4, q5⟩ (fun hHeld => ?_)
          refine take_atL (i := 0) (d := some 48) (v := .string ⟨O.toArray⟩) rfl rfl (by kernel_rfl) (by kernel_rfl) (by kernel_rfl) (fun _ _ _ h => h) (by rfl) ?_ hHeld ?_
          · intro w' hSw; obtain ⟨s0, s1, s2⟩ := hSw; go_simp; first | done | rfl | (intro hbad; exfalso; omega) | omega
          try simp only [Act.put, List.setIfInBounds_toArray, List.set_cons_zero, List.set_cons_succ]
          refine take_atL (i := 1) (d := some 49) (v := .string (⟨O.toArray⟩ ++ ⟨#[32]⟩)) rfl rfl (by kernel_rfl) (by kernel_rfl) (by kernel_rfl) (fun _ _ _ h => h) (by rfl) ?_ hHeld ?_
          · intro w' hSw; obtain ⟨s0, s1, s2⟩ := hSw; go_simp; first | done | rfl | (intro hbad; exfalso; omega) | omega
          try simp only [Act.put, List.setIfInBounds_toArray, List.set_cons_zero, List.set_cons_succ]
          refine take_atL (i := 2) (d := some 50) (v := .agg #[.slice (some ⟨b1, o1, none⟩) ns.length c0]) rfl rfl (by kernel_rfl) (by kernel_rfl) (by kernel_rfl) (fun _ _ _ h => h) (by rfl) ?_ hHeld ?_
          · intro w' hSw; obtain ⟨s0, s1, s2⟩ := hSw; go_simp; first | done | rfl | (intro hbad; exfalso; omega) | omega
          try simp only [Act.put, List.setIfInBounds_toArray, List.set_cons_zero, List.set_cons_succ]
          refine take_atL (i := 3) (d := some 51) (v := .pointer (some ⟨w.heap.size + 1, 4, none⟩)) rfl rfl (by kernel_rfl) (by kernel_rfl) (by kernel_rfl) (fun _ _ _ h => h) (by rfl) ?_ hHeld ?_
          · intro w' hSw; obtain ⟨s0, s1, s2⟩ := hSw; go_simp; first | done | rfl | (intro hbad; exfalso; omega) | omega
          try simp only [Act.put, List.setIfInBounds_toArray, List.set_cons_zero, List.set_cons_succ]
          refine take_atL (i := 4) (d := some 52) (v := .slice (some ⟨b2, o2, none⟩) ks.length c1) rfl rfl (by kernel_rfl) (by kernel_rfl) (by kernel_rfl) (fun _ _ _ h => h) (by rfl) ?_ hHeld ?_
          · intro w' hSw; obtain ⟨s0, s1, s2⟩ := hSw; go_simp; first | done | rfl | (intro hbad; exfalso; omega) | omega
          try simp only [Act.put, List.setIfInBounds_toArray, List.set_cons_zero, List.set_cons_succ]
          refine take_atL (i := 5) (d := some 53) (v := .int .i64 ((j : Int))) rfl rfl (by kernel_rfl) (by kernel_rfl) (by kernel_rfl) (fun _ _ _ h => h) (by rfl) ?_ hHeld ?_
          · intro w' hSw; obtain ⟨s0, s1, s2⟩ := hSw; go_simp; first | done | rfl | (intro hbad; exfalso; omega) | omega
          try simp only [Act.put, List.setIfInBounds_toArray, List.set_cons_zero, List.set_cons_succ]
          refine take_atL (i := 6) (d := some 54) (v := .pointer (some ⟨b2, o2 + j, none⟩)) rfl rfl (by kernel_rfl) (by kernel_rfl) (by kernel_rfl) (fun _ _ _ h => h) (by rfl) ?_ hHeld ?_
          · intro w' hSw; obtain ⟨s0, s1, s2⟩ := hSw; go_simp; first | done | rfl | (intro hbad; exfalso; omega) | omega
          try simp only [Act.put, List.setIfInBounds_toArray, List.set_cons_zero, List.set_cons_succ]
          refine take_atL (i := 7) (d := some 55) (v := .int .i64 ((kd2 : Int))) rfl rfl (by kernel_rfl) (by kernel_rfl) (by kernel_rfl) (fun _ _ _ h => h) (by rfl) ?_ hHeld ?_
          · intro w' hSw; obtain ⟨s0, s1, s2⟩ := hSw; go_simp; first | done | rfl | (intro hbad; exfalso; omega) | omega
          try simp only [Act.put, List.setIfInBounds_toArray, List.set_cons_zero, List.set_cons_succ]
          refine wpAnyH_ready (rs := [8]) (by kernel_rfl) (by simp) ?_
          refine AllReadyH.cons (o := _) rfl (fun K hK => ?_) AllReadyH.nil
          rw [if_pos (by rfl)]
          go_simp
          refine (X.out _ (Below.drew (Below.refl _ _))).mono ?_
          rintro e w5 ⟨rfl, hb5'⟩
          have hb5 : Below wA.heap.size wA w5 := Below.drewed (by simpa using hb5')
          have s0 := (hb5.cell (p := ⟨w.heap.size, 0, none⟩) (by show w.heap.size < _; omega)).trans g0
          have s1 := (hb5.cell (p := ⟨w.heap.size + 1, 4, none⟩) (by show w.heap.size + 1 < _; omega)).trans q4
          have s2 := (hb5.cell (p := ⟨b2, o2 + j, none⟩) (by show b2 < _; omega)).trans q5
          go_wp2_with fail
          refine hK.out _ _ ⟨s0, s1, s2⟩ (fun hHeld => ?_)
          clear hK K
          try simp only [Act.put, List.setIfInBounds_toArray, List.set_cons_zero, List.set_cons_succ]
          refine take_atL (i := 9) (d := some 57) (v := .string (⟨O.toArray⟩ ++ ⟨#[32]⟩ ++ ⟨T.toArray⟩)) rfl rfl (by kernel_rfl) (by kernel_rfl) (by kernel_rfl) (fun _ _ _ h => h) (by rfl) ?_ hHeld ?_
          · intro w' hSw; obtain ⟨s0, s1, s2⟩ := hSw; go_simp; first | done | rfl | (intro hbad; exfalso; omega) | omega
          try simp only [Act.put, List.setIfInBounds_toArray, List.set_cons_zero, List.set_cons_succ]
          refine take_atL (i := 10) (d := some 6) (v := .string (⟨O.toArray⟩ ++ ⟨#[32]⟩ ++ ⟨T.toArray⟩)) rfl rfl (by kernel_rfl) (by kernel_rfl) (by kernel_rfl) (fun _ _ _ h => h) (by rfl) ?_ hHeld ?_
          · intro w' hSw; obtain ⟨s0, s1, s2⟩ := hSw; go_simp; first | done | rfl | (intro hbad; exfalso; omega) | omega
          try simp only [Act.put, List.setIfInBounds_toArray, List.set_cons_zero, List.set_cons_succ]
          refine wpAnyH_done (by kernel_rfl) ?_ _
          clear hHeld
          have HB5 : Hid (Below w2.heap.size w2 w5) := HB.out.trans (hb5.mono HB.out.size)
          clear s0 s1 s2 hb5 hb5' X HB g0 q4 q5
          go_wp2
          go_roundw
          case rel => exact ⟨j + 1, by omega, by go_num, by rw [HRES.out]; exact str_cat (by simp), HB5⟩
          case measure => simp [intOf]; omega
        · have hj2 : j = ks.length := by omega
          subst hj2
          rw [List.take_length]
          have hol : (((40 :: 80 :: d1) ++ (47 :: d2)) ++ ks.flatMap (txtAt ns)).length ≤ 1000000100 := by simp only [List.length_append, List.length_cons]; omega
          clear HREC HRK2 HKP HOWN hl4 HB6
          generalize hO : ((40 :: 80 :: d1) ++ (47 :: d2)) ++ ks.flatMap (txtAt ns) = O at *
          have HO : Hid (((40 :: 80 :: d1) ++ (47 :: d2)) ++ ks.flatMap (txtAt ns) = O) := hO
          clear hO
          go_wp2
          go_ret
          exact ⟨ret_strB (by simp; rw [← HO.out]; simp), B2.trans (HB.out.mono (by omega))⟩
    · have HT : Hid (ownT ns p = headT (ndAt ns p)) := ownT_other h1
      rw [HT.out, headT, if_neg h1]
      clear HREC HRK HKP HKG HOWN HT X2 hl hkl
      generalize kidsAt ns p = ks at *
      generalize ndAt ns p = y at *
      generalize y.kind = kd at *
      generalize Lib.itoa y.sym = d1 at *
      generalize letText y.sym = lt at *
      have hk1 : (kd == 1) = false := by simpa using h1
      by_cases h2 : kd = 2
      · subst h2
        rw [if_pos rfl]
        clear X1 h1 hk1
        go_enter Tryd.func38, Tryd.ntmps38
        go_wp2_with fail
        rw [← hw2]
        clear hw2
        refine (X3.out _).mono ?_
        rintro e w5 ⟨rfl, hb5⟩
        go_wp2
        go_ret
        exact ⟨ret_strB (by simp), B2.trans (hb5.mono B2.size)⟩
      · rw [if_neg h2]
        have hk2 : (kd == 2) = false := by simpa using h2
        by_cases h3 : kd = 3
        · subst h3
          rw [if_pos rfl]
          clear X3 hk1 hk2
          go_enter Tryd.func38, Tryd.ntmps38
          go_wp2_with fail
          rw [← hw2]
          clear hw2
          refine (X1.out _ (Below.refl _ _)).mono ?_
          rintro e w5 ⟨rfl, hb5⟩
          go_wp2
          go_ret
          exact ⟨ret_strB (by simp), B2.trans (hb5.mono B2.size)⟩
        · rw [if_neg h3]
          have h0 : kd = 0 := by have := inB_true.1 HK3.out; omega
          subst h0
          clear X1 hk1 hk2 h1 h2 h3
          go_enter Tryd.func38, Tryd.ntmps38
          go_wp2_with fail
          rw [← hw2]
          clear hw2
          refine (X3.out _).mono ?_
          rintro e w5 ⟨rfl, hb5⟩
          go_wp2
          go_ret
          exact ⟨rfl, B2.trans (hb5.mono B2.size)⟩

set_option maxHeartbeats 1000000 in
set_option maxRecDepth 100000 in
theorem specTreeText_any (x : Tr) (a0 : Option Addr) (c0 : Nat) (w : World) (h0 : RD w (.slice a0 x.nodes.length c0) (slD Lay.node x.nodes)) (hw : Lay.tree.wt x ≤ 1048576) (hf : Lay.tree.fit x) :
    Calls Tryd.prog 17 #[.agg #[.slice a0 x.nodes.length c0]] w fun e w' => e = .returned (.string (resTreeText x)) ∧ Below w.heap.size w w' := by
  have HT : Hid (∀ W : World, Below w.heap.size w W → Calls Tryd.prog 27 #[.agg #[.slice a0 x.nodes.length c0]] W fun e w' => e = .returned (.bool (resTreeShape x)) ∧ Below W.heap.size W w') := fun W hW => specTreeShape_any x a0 c0 W (h0.later hW) hw hf
  have hnum : ∀ p, NumIn (ndAt x.nodes p) := fun p => numIn_at hf p
  have hfl : (Lay.list Lay.node).fit x.nodes := hf
  rw [Lay_tree_wt, Lay.wt_list] at hw
  have hn : x.nodes.length ≤ 1048576 := by omega
  have hsum : Lay.node.sumL x.nodes ≤ 1048576 := by omega
  unfold resTreeText
  unfold resTreeShape at HT
  clear hw hf
  generalize x.nodes = ns at *
  have B0 : Below w.heap.size w (w.alloc (.cells #[.slice a0 ns.length c0] 36)) := (Below.refl _ _).alloc (Nat.le_refl _) _
  have qG : (w.alloc (.cells #[.slice a0 ns.length c0] 36)).cell? ⟨w.heap.size, 0, none⟩ = some (.slice a0 ns.length c0) := by simp
  have hsz : w.heap.size < (w.alloc (.cells #[.slice a0 ns.length c0] 36)).heap.size := by simp
  have X := HT.out _ B0
  cases hsb : shapeB ns with
  | false =>
    rw [hsb] at X
    rw [if_neg (by simp)]
    clear h0 HT
    go_enter Tryd.func17, Tryd.ntmps17
    go_wp2_with (go_at_call 27; refine X.mono ?_; rintro e w2 ⟨rfl, hb2⟩)
    go_ret
    exact ⟨rfl, B0.trans (hb2.mono B0.size)⟩
  | true =>
    rw [hsb] at X
    rw [if_pos rfl]
    have hs := shapeB_true.1 hsb
    have hpos : 0 < ns.length := List.length_pos_iff.2 hs.1
    have hl := txtAt_le hfl hs
    have e0 := txtAt_zero hs
    have Y : Hid (∀ W, Below w.heap.size w W → Calls Tryd.prog 38 #[.agg #[.slice a0 ns.length c0], .int .i64 ((0 : Nat) : Int)] W fun e w' => e = .returned (.string ⟨(ownT ns 0).toArray⟩) ∧ Below W.heap.size W w') := fun W hW => l9Text_at ns hs hn hsum hnum ns.length 0 hpos (by omega) (by rw [← e0]; omega) a0 c0 W (h0.later hW)
    rw [e0]
    clear h0 HT hl e0
    generalize ownT ns 0 = T at *
    go_enter Tryd.func17, Tryd.ntmps17
    go_wp2_with (first
      | (go_at_call 27; refine X.mono ?_; rintro e w2 ⟨rfl, hb2⟩; have q2 := (hb2.cell (p := ⟨w.heap.size, 0, none⟩) hsz).trans qG)
      | (go_at_call 38; refine (Y.out _ (B0.trans (hb2.mono B0.size))).mono ?_; rintro e w3 ⟨rfl, hb3⟩))
    go_ret
    exact ⟨rfl, B0.trans ((hb2.mono B0.size).trans (hb3.mono (Nat.le_trans B0.size hb2.size)))⟩
end Go.Proofs.YtghpekijimoicaaDoor
namespace Go.Proofs.YtghpekijimoicaaDoor
open Go.RowKit

def boxNd (w : World) (x : Nd) (a : Option Addr) (c : Nat) : World := w.alloc (.cells #[.int .i64 x.kind, .int .i64 x.sym, .int .i64 x.alt, .int .i64 x.pl, .slice a x.kids.length c] 54)

set_option maxHeartbeats 400000 in
set_option maxRecDepth 100000 in
theorem headText_any (x : Nd) (a : Option Addr) (c : Nat) (w : World) (hx : NumIn x) (ht : PowIs w) :
    Calls Tryd.prog 42 #[.agg #[.int .i64 x.kind, .int .i64 x.sym, .int .i64 x.alt, .int .i64 x.pl, .slice a x.kids.length c]] w fun e w' => e = .returned (.string ⟨(headT x).toArray⟩) ∧ Below w.heap.size w w' := by
  obtain ⟨wA, hwA⟩ : ∃ y, y = w.alloc (.cells #[.int .i64 x.kind, .int .i64 x.sym, .int .i64 x.alt, .int .i64 x.pl, .slice a x.kids.length c] 54) := ⟨_, rfl⟩
  have B0 : Below w.heap.size w wA := by rw [hwA]; exact (Below.refl _ _).alloc (Nat.le_refl _) _
  have hsz : wA.heap.size = w.heap.size + 1 := by rw [hwA]; simp
  have hsz1 : w.heap.size < wA.heap.size := by omega
  have q0 : wA.cell? ⟨w.heap.size, 0, none⟩ = some (.int .i64 x.kind) := by rw [hwA]; simp
  have q1 : wA.cell? ⟨w.heap.size, 1, none⟩ = some (.int .i64 x.sym) := by rw [hwA]; simp
  have q2 : wA.cell? ⟨w.heap.size, 2, none⟩ = some (.int .i64 x.alt) := by rw [hwA]; simp
  have HP : Hid (PowIs wA) := ht.later B0
  have X1 : Hid (∀ W, Below wA.heap.size wA W → Calls Tryd.prog 72 #[.int .i64 x.sym] W fun e w' => e = .returned (.string ⟨(Lib.itoa x.sym).toArray⟩) ∧ Below W.heap.size W w') := fun W hW => implDigits_any x.sym W hx.1.1 hx.1.2 (HP.out.later hW)
  have X2 : Hid (∀ W, Below wA.heap.size wA W → Calls Tryd.prog 72 #[.int .i64 x.alt] W fun e w' => e = .returned (.string ⟨(Lib.itoa x.alt).toArray⟩) ∧ Below W.heap.size W w') := fun W hW => implDigits_any x.alt W hx.2.1 hx.2.2 (HP.out.later hW)
  have X3 : Hid (∀ W, Calls Tryd.prog 73 #[.int .i64 x.sym] W fun e w' => e = .returned (.string ⟨(letText x.sym).toArray⟩) ∧ Below W.heap.size W w') := fun W => letterText_any x.sym W hx.1.1 hx.1.2
  have hl1 := itoa_le2 x.sym hx.1.1 hx.1.2
  have hl2 := itoa_le2 x.alt hx.2.1 hx.2.2
  have hl3 := letText_len x.sym
  unfold headT
  clear hx ht HP hsz
  generalize x.kind = kd at *
  generalize Lib.itoa x.sym = d1 at *
  generalize Lib.itoa x.alt = d2 at *
  generalize letText x.sym = lt at *
  by_cases h1 : kd = 1
  · subst h1
    rw [if_pos rfl]
    clear X3
    go_enter Tryd.func42, Tryd.ntmps42
    go_wp2_with fail
    rw [← hwA]
    clear hwA
    go_wp2_with fail
    refine wp_region_held_drew (S := (fun w' => w'.cell? ⟨w.heap.size, 1, none⟩ = some (.int .i64 x.sym) ∧ w'.cell? ⟨w.heap.size, 2, none⟩ = some (.int .i64 x.alt))) (by kernel_rfl) ⟨q1, q2⟩ (fun hHeld => ?_)
    refine take_atL (i := 0) (d := some 7) (v := .pointer (some ⟨w.heap.size, 1, none⟩)) rfl rfl (by kernel_rfl) (by kernel_rfl) (by kernel_rfl) (fun _ _ _ h => h) (by rfl) ?_ hHeld ?_
    · intro w' hSw; obtain ⟨s0, s1⟩ := hSw; go_simp; first | done | rfl | (intro hbad; exfalso; omega) | omega
    try simp only [Act.put, List.setIfInBounds_toArray, List.set_cons_zero, List.set_cons_succ]
    refine take_atL (i := 1) (d := some 8) (v := .int .i64 (x.sym)) rfl rfl (by kernel_rfl) (by kernel_rfl) (by kernel_rfl) (fun _ _ _ h => h) (by rfl) ?_ hHeld ?_
    · intro w' hSw; obtain ⟨s0, s1⟩ := hSw; go_simp; first | done | rfl | (intro hbad; exfalso; omega) | omega
    try simp only [Act.put, List.setIfInBounds_toArray, List.set_cons_zero, List.set_cons_succ]
    refine take_atL (i := 5) (d := some 12) (v := .pointer (some ⟨w.heap.size, 2, none⟩)) rfl rfl (by kernel_rfl) (by kernel_rfl) (by kernel_rfl) (fun _ _ _ h => h) (by rfl) ?_ hHeld ?_
    · intro w' hSw; obtain ⟨s0, s1⟩ := hSw; go_simp; first | done | rfl | (intro hbad; exfalso; omega) | omega
    try simp only [Act.put, List.setIfInBounds_toArray, List.set_cons_zero, List.set_cons_succ]
    refine take_atL (i := 6) (d := some 13) (v := .int .i64 (x.alt)) rfl rfl (by kernel_rfl) (by kernel_rfl) (by kernel_rfl) (fun _ _ _ h => h) (by rfl) ?_ hHeld ?_
    · intro w' hSw; obtain ⟨s0, s1⟩ := hSw; go_simp; first | done | rfl | (intro hbad; exfalso; omega) | omega
    try simp only [Act.put, List.setIfInBounds_toArray, List.set_cons_zero, List.set_cons_succ]
    refine wpAnyH_ready (rs := [2]) (by kernel_rfl) (by simp) ?_
    refine AllReadyH.cons (o := _) rfl (fun K hK => ?_) AllReadyH.nil
    rw [if_pos (by rfl)]
    go_simp
    refine (X1.out _ (Below.drew (Below.refl _ _))).mono ?_
    rintro e w5 ⟨rfl, hb5'⟩
    have hb5 : Below wA.heap.size wA w5 := Below.drewed (by simpa using hb5')
    have r1 := (hb5.cell (p := ⟨w.heap.size, 1, none⟩) (by first | omega | (simp; omega) | simp)).trans q1
    have r2 := (hb5.cell (p := ⟨w.heap.size, 2, none⟩) (by first | omega | (simp; omega) | simp)).trans q2
    go_wp2_with fail
    refine hK.out _ _ ⟨r1, r2⟩ (fun hHeld => ?_)
    clear hK K
    try simp only [Act.put, List.setIfInBounds_toArray, List.set_cons_zero, List.set_cons_succ]
    refine take_atL (i := 3) (d := some 10) (v := .string (⟨#[40, 80]⟩ ++ ⟨d1.toArray⟩)) rfl rfl (by kernel_rfl) (by kernel_rfl) (by kernel_rfl) (fun _ _ _ h => h) (by rfl) ?_ hHeld ?_
    · intro w' hSw; obtain ⟨s0, s1⟩ := hSw; go_simp; first | done | rfl | (intro hbad; exfalso; omega) | omega
    try simp only [Act.put, List.setIfInBounds_toArray, List.set_cons_zero, List.set_cons_succ]
    refine take_atL (i := 4) (d := some 11) (v := .string (⟨#[40, 80]⟩ ++ ⟨d1.toArray⟩ ++ ⟨#[47]⟩)) rfl rfl (by kernel_rfl) (by kernel_rfl) (by kernel_rfl) (fun _ _ _ h => h) (by rfl) ?_ hHeld ?_
    · intro w' hSw; obtain ⟨s0, s1⟩ := hSw; go_simp; first | done | rfl | (intro hbad; exfalso; omega) | omega
    try simp only [Act.put, List.setIfInBounds_toArray, List.set_cons_zero, List.set_cons_succ]
    refine wpAnyH_ready (rs := [7]) (by kernel_rfl) (by simp) ?_
    refine AllReadyH.cons (o := _) rfl (fun K hK => ?_) AllReadyH.nil
    rw [if_pos (by rfl)]
    go_simp
    refine (X2.out _ hb5).mono ?_
    rintro e w6 ⟨rfl, hb6⟩
    have hb56 : Below wA.heap.size wA w6 := hb5.trans (hb6.mono hb5.size)
    have t1 := (hb56.cell (p := ⟨w.heap.size, 1, none⟩) (by first | omega | (simp; omega) | simp)).trans q1
    have t2 := (hb56.cell (p := ⟨w.heap.size, 2, none⟩) (by first | omega | (simp; omega) | simp)).trans q2
    clear r1 r2 q1 q2 hb5' hb6
    go_wp2_with fail
    refine hK.out _ _ ⟨t1, t2⟩ (fun hHeld => ?_)
    clear hK K
    try simp only [Act.put, List.setIfInBounds_toArray, List.set_cons_zero, List.set_cons_succ]
    refine take_atL (i := 8) (d := some 15) (v := .string (⟨#[40, 80]⟩ ++ ⟨d1.toArray⟩ ++ ⟨#[47]⟩ ++ ⟨d2.toArray⟩)) rfl rfl (by kernel_rfl) (by kernel_rfl) (by kernel_rfl) (fun _ _ _ h => h) (by rfl) ?_ hHeld ?_
    · intro w' hSw; obtain ⟨s0, s1⟩ := hSw; go_simp; first | done | rfl | (intro hbad; exfalso; omega) | omega
    try simp only [Act.put, List.setIfInBounds_toArray, List.set_cons_zero, List.set_cons_succ]
    refine take_atL (i := 9) (d := some 2) (v := .string (⟨#[40, 80]⟩ ++ ⟨d1.toArray⟩ ++ ⟨#[47]⟩ ++ ⟨d2.toArray⟩)) rfl rfl (by kernel_rfl) (by kernel_rfl) (by kernel_rfl) (fun _ _ _ h => h) (by rfl) ?_ hHeld ?_
    · intro w' hSw; obtain ⟨s0, s1⟩ := hSw; go_simp; first | done | rfl | (intro hbad; exfalso; omega) | omega
    try simp only [Act.put, List.setIfInBounds_toArray, List.set_cons_zero, List.set_cons_succ]
    refine wpAnyH_done (by kernel_rfl) ?_ _
    clear hHeld
    go_wp2
    go_ret
    exact ⟨ret_strB (by simp), B0.trans (hb56.mono B0.size)⟩
  · rw [if_neg h1]
    have hk1 : (kd == 1) = false := by simpa using h1
    clear X2
    by_cases h2 : kd = 2
    · subst h2
      rw [if_pos rfl]
      clear X1 hk1
      go_enter Tryd.func42, Tryd.ntmps42
      go_wp2_with fail
      rw [← hwA]
      clear hwA
      go_wp2_with (go_at_call 73; refine (X3.out _).mono ?_; rintro e w5 ⟨rfl, hb5⟩)
      go_ret
      exact ⟨ret_strB (by simp), B0.trans (hb5.mono B0.size)⟩
    · rw [if_neg h2]
      have hk2 : (kd == 2) = false := by simpa using h2
      by_cases h3 : kd = 3
      · subst h3
        rw [if_pos rfl]
        clear X3 hk1 hk2
        go_enter Tryd.func42, Tryd.ntmps42
        go_wp2_with fail
        rw [← hwA]
        clear hwA
        go_wp2_with (go_at_call 72; refine (X1.out _ (Below.refl _ _)).mono ?_; rintro e w5 ⟨rfl, hb5⟩)
        go_ret
        exact ⟨ret_strB (by simp), B0.trans (hb5.mono B0.size)⟩
      · rw [if_neg h3]
        have hk3 : (kd == 3) = false := by simpa using h3
        clear X1
        go_enter Tryd.func42, Tryd.ntmps42
        go_wp2_with fail
        rw [← hwA]
        clear hwA
        go_wp2_with (go_at_call 73; refine (X3.out _).mono ?_; rintro e w5 ⟨rfl, hb5⟩)
        go_ret
        exact ⟨rfl, B0.trans (hb5.mono B0.size)⟩
end Go.Proofs.YtghpekijimoicaaDoor
namespace Go.Proofs.YtghpekijimoicaaDoor
open Go.RowKit

/-- The first k symbols, a blank ahead of each. -/
def blankTo (row : List Int) : Nat → List UInt8
  | 0 => []
  | k + 1 => blankTo row k ++ (32 :: symText (row.getD k 0))
theorem blankTo_next {row : List Int} {k : Nat} (h : k < row.length) : blankTo row (k + 1) = (blankTo row k ++ [32]) ++ symText row[k] := by simp [blankTo, h]
theorem blankTo_eq {row : List Int} : ∀ k, 0 < k → blankTo row k = 32 :: rowTo row k
  | 1, _ => by simp [blankTo, rowTo]
  | k + 2, _ => by rw [blankTo, blankTo_eq (k + 1) (by omega), show rowTo row (k + 2) = (if k + 1 = 0 then [] else rowTo row (k + 1) ++ [32]) ++ symText (row.getD (k + 1) 0) from rfl, if_neg (by omega)]; simp only [List.cons_append, List.append_assoc, List.nil_append]
theorem blankTo_end (row : List Int) : blankTo row row.length = altText row := by
  by_cases h : row.length = 0
  · rw [altText_nil h, h]; rfl
  · rw [altText_some h, blankTo_eq _ (by omega)]; rfl
theorem blankTo_le {row : List Int} (hz : ∀ z ∈ row, 0 ≤ z ∧ z < 120) (k : Nat) (hk : k ≤ row.length) : (blankTo row k).length ≤ 22 * k := by
  induction k with
  | zero => simp [blankTo]
  | succ k ih =>
    have := ih (by omega)
    have h2 := symText_le (x := row.getD k 0) (by have := hz (row.getD k 0) (by rw [List.getD_eq_getElem?_getD, List.getElem?_eq_getElem (by omega)]; exact List.getElem_mem _); omega)
    simp only [blankTo, List.length_append, List.length_cons]
    omega
theorem symText_own (k : Nat) : symText (100 + (k : Int)) = 80 :: Lib.itoa (k : Int) := by
  rw [symText_part (by omega)]; congr 2; omega

theorem writeL (B b : Nat) (pre s : List UInt8) (w : World) (h : IsB B b (Lib.byteCells pre) w) (hlen : pre.length + s.length ≤ 1099511627776) (hBw : B ≤ w.heap.size) :
    Calls Tryd.prog 41 #[.pointer (some ⟨b, 0, none⟩), .string ⟨s.toArray⟩] w fun e w' => e = .returned (.tuple #[.int .i64 (⟨s.toArray⟩ : ByteArray).size, .nilIface]) ∧ Hid (IsB B b (Lib.byteCells (pre ++ s)) w') ∧ Below B w w' := by
  refine (writeString_any B b _ ⟨s.toArray⟩ w h (by rw [Lib.byteCells_length, sizeL]; omega) hBw).mono ?_
  rintro e w' ⟨rfl, hU, hb, _⟩
  refine ⟨rfl, ?_, hb⟩
  show IsB _ _ _ _
  rw [Lib.byteCells_append, ← strCells_list s]
  exact .inr hU

set_option maxHeartbeats 2000000 in
set_option maxRecDepth 100000 in
theorem gramText_any (x : Gm) (a0 : Option Addr) (c0 : Nat) (w : World) (h0 : RD w (.slice a0 x.parts.length c0) (slD (Lay.list (Lay.list Lay.int)) x.parts)) (hn : Lay.gram.wt x ≤ 1048576) (hf : Lay.gram.fit x) (ht : PowIs w) :
    Calls Tryd.prog 20 #[.agg #[.slice a0 x.parts.length c0]] w fun e w' => e = .returned (.string (resGramText x)) ∧ Below w.heap.size w w' := by
  unfold resGramText
  have HT : Hid (PowIs w) := ht
  have B0 := (Below.refl w.heap.size w).alloc (Nat.le_refl _) (.cells #[.slice a0 x.parts.length c0] 32)
  have HR : Hid (RD w (.slice a0 x.parts.length c0) (slD (Lay.list (Lay.list Lay.int)) x.parts)) := h0
  have HOK : Hid (∀ W : World, Below w.heap.size w W → Calls Tryd.prog 46 #[.agg #[.slice a0 x.parts.length c0]] W fun e w' => e = .returned (.bool (gramOkB x.parts)) ∧ Below W.heap.size W w') := fun W hW => gramOk_any x a0 c0 W (h0.later hW) hn hf
  clear h0 hn hf ht
  generalize x.parts = P at *
  by_cases hok : gramOkB P = true
  · have F := Fits.of hok
    have HF : Hid (Fits P) := F
    have hp := F.parts
    rw [gramText, if_pos hok]
    clear F
    go_enter Tryd.func20, Tryd.ntmps20
    go_wp2_with fail
    refine (HOK.out _ B0).mono ?_
    rintro e w1 ⟨rfl, hb1⟩
    have g0 : w1.cell? ⟨w.heap.size, 0, none⟩ = some (.slice a0 P.length c0) := (hb1.cell (p := ⟨w.heap.size, 0, none⟩) (by simp)).trans (by simp)
    have hwl : w.heap.size < w1.heap.size := World.block_lt_of_cell? w1 _ g0
    have B1 : Below w.heap.size w w1 := B0.trans (hb1.mono B0.size)
    have HR1 : Hid (RD w1 (.slice a0 P.length c0) (slD (Lay.list (Lay.list Lay.int)) P)) := HR.out.later B1
    have HT1 : Hid (PowIs w1) := HT.out.later B1
    clear HOK HR HT hb1 B0
    go_wp2
    go_loopw [16] (fun i wr => ∃ k : Nat, k ≤ P.length ∧ i = .int .i64 k ∧ Hid (IsB w1.heap.size w1.heap.size (Lib.byteCells (partsTo P k)) wr) ∧ Below w1.heap.size w1 wr) (fun i _ => P.length - (intOf i).toNat)
    case atStart => exact ⟨0, Nat.zero_le _, rfl, .of (Lib.fresh_isBuilder _ _ w1), (Below.refl _ _).alloc (Nat.le_refl _) _⟩
    case round =>
      obtain ⟨k, hk, rfl, HB, hbel⟩ := hrel
      have hsz := hbel.size
      by_cases hlt : k < P.length
      · obtain ⟨b1, o1, rfl, hb1, a1, c1, q0', r1⟩ := HR1.out.listAt hlt
        have q0 := (hbel.cell (p := ⟨b1, o1 + k, none⟩) hb1).trans q0'
        have hm := List.getElem_mem hlt
        have HE : Hid (partsTo P (k + 1) = partsTo P k ++ partText k P[k]) := partsTo_next hlt
        have hpl := partsTo_le HF.out k hk
        have hQ := HF.out.alts _ hm
        have HQr : Hid (∀ row ∈ P[k], row.length ≤ 8) := HF.out.rows _ hm
        have HQs : Hid (∀ row ∈ P[k], ∀ z ∈ row, 0 ≤ z ∧ z < 120) := HF.out.syms _ hm
        have HRQ : Hid (RD w1 (.slice a1 P[k].length c1) (slD (Lay.list Lay.int) P[k])) := r1
        have hds := itoa_le (n := (k : Int)) (by omega) (by omega)
        have X : Hid (∀ W : World, Below w1.heap.size w1 W → Calls Tryd.prog 47 #[.int .i64 (100 + (k : Int))] W fun e w' => e = .returned (.string ⟨(80 :: Lib.itoa (k : Int)).toArray⟩) ∧ Below W.heap.size W w') := fun W hW => by
          have := symbolText_any (100 + (k : Int)) W (by omega) (by omega) (HT1.out.later hW)
          rwa [symText_own] at this
        have HTx : Hid (partText k P[k] = (80 :: Lib.itoa (k : Int) ++ [32, 61]) ++ (altsTo P[k] P[k].length ++ [10])) := rfl
        clear r1 q0' hm HR1
        generalize Lib.itoa (k : Int) = ds at *
        generalize partText k P[k] = pt at *
        generalize P[k] = Q at *
        generalize partsTo P k = pre at *
        go_wp2_with fail
        refine (X.out _ hbel).mono ?_
        rintro e w2 ⟨rfl, hb2⟩
        have bel2 : Below w1.heap.size w1 w2 := hbel.trans (hb2.mono hsz)
        have HB2 : Hid (IsB w1.heap.size w1.heap.size (Lib.byteCells pre) w2) := HB.out.keptR hb2
        clear X HB hb2 q0
        go_wp2_with fail
        refine (writeL _ _ pre (80 :: ds) _ HB2.out (by simp; omega) bel2.size).mono ?_
        rintro e w3 ⟨rfl, HB3, hb3⟩
        have bel3 := bel2.trans hb3
        clear HB2 bel2 hb3
        go_wp2_with fail
        refine (writeL _ _ (pre ++ (80 :: ds)) [32, 61] _ HB3.out (by simp; omega) bel3.size).mono ?_
        rintro e w4 ⟨rfl, HB4, hb4⟩
        have bel4 := bel3.trans hb4
        clear HB3 bel3 hb4
        go_wp2
        go_loopw [28] (fun i wi => ∃ j : Nat, j ≤ Q.length ∧ i = .int .i64 j ∧ Hid (IsB w1.heap.size w1.heap.size (Lib.byteCells ((pre ++ (80 :: ds) ++ [32, 61]) ++ altsTo Q j)) wi) ∧ Below w1.heap.size w1 wi) (fun i _ => Q.length - (intOf i).toNat)
        case atStart => exact ⟨0, Nat.zero_le _, rfl, by simpa [altsTo] using HB4, bel4⟩
        case round =>
          obtain ⟨j, hj, rfl, HBj, belj⟩ := hrel
          clear HB4 bel4 hbel hsz
          have hsj := belj.size
          have hal := altsTo_le HQr.out HQs.out j hj
          by_cases hlt2 : j < Q.length
          · obtain ⟨b2, o2, rfl, hb2, a2, c2, q1', r2⟩ := HRQ.out.listAt hlt2
            have q1 := (belj.cell (p := ⟨b2, o2 + j, none⟩) hb2).trans q1'
            have hm := List.getElem_mem hlt2
            have hr8 := HQr.out _ hm
            have HRs : Hid (∀ z ∈ Q[j], 0 ≤ z ∧ z < 120) := HQs.out _ hm
            have HRR : Hid (Reads w1 a2 Q[j]) := r2.reads
            have HNx : Hid (∃ mid : List UInt8, mid.length ≤ 2 ∧ (j = 0 → mid = []) ∧ (j ≠ 0 → mid = [32, 124]) ∧ altsTo Q (j + 1) = (altsTo Q j ++ mid) ++ altText Q[j]) := by
              by_cases j0 : j = 0
              · subst j0
                exact ⟨[], by simp, fun _ => rfl, fun h => absurd rfl h, by rw [altsTo_first hlt2]; simp [altsTo]⟩
              · exact ⟨[32, 124], by simp, fun h => absurd h j0, fun _ => rfl, altsTo_next hlt2 j0⟩
            have HA : Hid (blankTo Q[j] Q[j].length = altText Q[j]) := blankTo_end _
            clear r2 hm q1'
            generalize altText Q[j] = at1 at *
            generalize altsTo Q j = al at *
            generalize Q[j] = R at *
            obtain ⟨mid, hmid, m0, m1, HN⟩ := HNx.out
            have HNe : Hid (altsTo Q (j + 1) = (al ++ mid) ++ at1) := HN
            clear HN HNx
            by_cases j0 : j = 0
            · have e0 := m0 j0
              subst e0
              have hj0 : ¬ 0 < j := by omega
              clear m0 m1 j0
              go_wp2
              go_loopw [38] (fun i wm => ∃ m : Nat, m ≤ R.length ∧ i = .int .i64 m ∧ Hid (IsB w1.heap.size w1.heap.size (Lib.byteCells (((pre ++ (80 :: ds) ++ [32, 61]) ++ al) ++ blankTo R m)) wm) ∧ Below w1.heap.size w1 wm) (fun i _ => R.length - (intOf i).toNat)
              case atStart => exact ⟨0, Nat.zero_le _, rfl, by simpa [blankTo] using HBj, belj⟩
              case round =>
                obtain ⟨m, hmm, rfl, HBm, belm⟩ := hrel
                clear HBj belj hsj q1
                have hsm := belm.size
                have hbl := blankTo_le HRs.out m hmm
                by_cases hlt3 : m < R.length
                · obtain ⟨b3, o3, rfl, hb3, hc3⟩ := (HRR.out.below belm).at hlt3
                  have q2 := hc3 m hlt3
                  rw [List.getD_eq_getElem?_getD, List.getElem?_eq_getElem hlt3, Option.getD_some] at q2
                  have hz := HRs.out _ (List.getElem_mem hlt3)
                  have hsl := symText_le (x := R[m]) (by omega)
                  have HBE : Hid (blankTo R (m + 1) = (blankTo R m ++ [32]) ++ symText R[m]) := blankTo_next hlt3
                  have X : Hid (∀ W : World, Below w1.heap.size w1 W → Calls Tryd.prog 47 #[.int .i64 R[m]] W fun e w' => e = .returned (.string ⟨(symText R[m]).toArray⟩) ∧ Below W.heap.size W w') := fun W hW => symbolText_any R[m] W (by omega) (by omega) (HT1.out.later hW)
                  clear hc3
                  generalize symText R[m] = sy at *
                  generalize R[m] = z at *
                  generalize blankTo R m = bl at *
                  go_wp2_with fail
                  refine (writeL _ _ _ [32] _ HBm.out (by simp; omega) hsm).mono ?_
                  rintro e w5 ⟨rfl, HB5, hb5⟩
                  have bel5 := belm.trans hb5
                  clear HBm hb5
                  go_wp2_with fail
                  refine (X.out _ bel5).mono ?_
                  rintro e w6 ⟨rfl, hb6⟩
                  have bel6 : Below w1.heap.size w1 w6 := bel5.trans (hb6.mono bel5.size)
                  have HB6 := HB5.out.keptR hb6
                  clear X HB5 hb6
                  go_wp2_with fail
                  refine (writeL _ _ _ sy _ HB6 (by simp; omega) bel6.size).mono ?_
                  rintro e w7 ⟨rfl, HB7, hb7⟩
                  have bel7 := bel6.trans hb7
                  clear HB6 hb7
                  go_wp2
                  go_roundw
                  case rel => exact ⟨m + 1, by omega, by go_num, by show IsB _ _ _ _; rw [HBE.out]; simpa using HB7.out, bel7⟩
                  case measure => simp [intOf]; omega
                · have e : m = R.length := by omega
                  subst e
                  have HBn : Hid (IsB w1.heap.size w1.heap.size (Lib.byteCells ((pre ++ (80 :: ds) ++ [32, 61]) ++ altsTo Q (j + 1))) wr) := by
                    show IsB _ _ _ _
                    rw [HNe.out, ← HA.out]; simpa using HBm.out
                  clear HBm
                  go_wp2
                  go_roundw
                  case rel => exact ⟨j + 1, by omega, by go_num, HBn, belm⟩
                  case measure => simp [intOf]; omega
            · have e0 := m1 j0
              subst e0
              have hj0 : (0 : Int) < (j : Int) := by omega
              clear m0 m1
              go_wp2_with fail
              refine (writeL _ _ _ [32, 124] _ HBj.out (by simp; omega) hsj).mono ?_
              rintro e w4 ⟨rfl, HBx, hbx⟩
              have belx := belj.trans hbx
              clear HBj belj hsj q1 hbx
              go_wp2
              go_loopw [38] (fun i wm => ∃ m : Nat, m ≤ R.length ∧ i = .int .i64 m ∧ Hid (IsB w1.heap.size w1.heap.size (Lib.byteCells (((pre ++ (80 :: ds) ++ [32, 61]) ++ al ++ [32, 124]) ++ blankTo R m)) wm) ∧ Below w1.heap.size w1 wm) (fun i _ => R.length - (intOf i).toNat)
              case atStart => exact ⟨0, Nat.zero_le _, rfl, by simpa [blankTo] using HBx, belx⟩
              case round =>
                obtain ⟨m, hmm, rfl, HBm, belm⟩ := hrel
                clear HBx belx
                have hsm := belm.size
                have hbl := blankTo_le HRs.out m hmm
                by_cases hlt3 : m < R.length
                · obtain ⟨b3, o3, rfl, hb3, hc3⟩ := (HRR.out.below belm).at hlt3
                  have q2 := hc3 m hlt3
                  rw [List.getD_eq_getElem?_getD, List.getElem?_eq_getElem hlt3, Option.getD_some] at q2
                  have hz := HRs.out _ (List.getElem_mem hlt3)
                  have hsl := symText_le (x := R[m]) (by omega)
                  have HBE : Hid (blankTo R (m + 1) = (blankTo R m ++ [32]) ++ symText R[m]) := blankTo_next hlt3
                  have X : Hid (∀ W : World, Below w1.heap.size w1 W → Calls Tryd.prog 47 #[.int .i64 R[m]] W fun e w' => e = .returned (.string ⟨(symText R[m]).toArray⟩) ∧ Below W.heap.size W w') := fun W hW => symbolText_any R[m] W (by omega) (by omega) (HT1.out.later hW)
                  clear hc3
                  generalize symText R[m] = sy at *
                  generalize R[m] = z at *
                  generalize blankTo R m = bl at *
                  go_wp2_with fail
                  refine (writeL _ _ _ [32] _ HBm.out (by simp; omega) hsm).mono ?_
                  rintro e w5 ⟨rfl, HB5, hb5⟩
                  have bel5 := belm.trans hb5
                  clear HBm hb5
                  go_wp2_with fail
                  refine (X.out _ bel5).mono ?_
                  rintro e w6 ⟨rfl, hb6⟩
                  have bel6 : Below w1.heap.size w1 w6 := bel5.trans (hb6.mono bel5.size)
                  have HB6 := HB5.out.keptR hb6
                  clear X HB5 hb6
                  go_wp2_with fail
                  refine (writeL _ _ _ sy _ HB6 (by simp; omega) bel6.size).mono ?_
                  rintro e w7 ⟨rfl, HB7, hb7⟩
                  have bel7 := bel6.trans hb7
                  clear HB6 hb7
                  go_wp2
                  go_roundw
                  case rel => exact ⟨m + 1, by omega, by go_num, by show IsB _ _ _ _; rw [HBE.out]; simpa using HB7.out, bel7⟩
                  case measure => simp [intOf]; omega
                · have e : m = R.length := by omega
                  subst e
                  have HBn : Hid (IsB w1.heap.size w1.heap.size (Lib.byteCells ((pre ++ (80 :: ds) ++ [32, 61]) ++ altsTo Q (j + 1))) wr) := by
                    show IsB _ _ _ _
                    rw [HNe.out, ← HA.out]; simpa using HBm.out
                  clear HBm
                  go_wp2
                  go_roundw
                  case rel => exact ⟨j + 1, by omega, by go_num, HBn, belm⟩
                  case measure => simp [intOf]; omega
          · have e : j = Q.length := by omega
            subst e
            generalize altsTo Q Q.length = al at *
            go_wp2_with fail
            refine (writeL _ _ _ [10] _ HBj.out (by simp; omega) hsj).mono ?_
            rintro e w5 ⟨rfl, HB5, hb5⟩
            have bel5 := belj.trans hb5
            clear HBj hb5
            have HBn : Hid (IsB w1.heap.size w1.heap.size (Lib.byteCells (partsTo P (k + 1))) w5) := by
              show IsB _ _ _ _
              rw [HE.out, HTx.out]; simpa using HB5.out
            clear HB5
            go_wp2
            go_roundw
            case rel => exact ⟨k + 1, by omega, by go_num, HBn, bel5⟩
            case measure => simp [intOf]; omega
      · have e : k = P.length := by omega
        subst e
        clear HR1
        go_wp2_with fail
        refine (Tryd.Builder_String_any_k w1.heap.size w1.heap.size _ _ HB.out hsz).mono ?_
        rintro e w2 ⟨rfl, _, hb2, _⟩
        go_wp2
        go_ret
        exact ⟨rfl, B1.trans ((hbel.trans hb2).mono (by omega))⟩
  · have hok2 : gramOkB P = false := by simpa using hok
    rw [gramText, if_neg hok]
    clear hok
    go_enter Tryd.func20, Tryd.ntmps20
    go_wp2_with (go_at_call 46; refine (HOK.out _ B0).mono ?_; rintro e w1 ⟨rfl, hb1⟩)
    go_ret
    exact ⟨rfl, B0.trans (hb1.mono B0.size)⟩
end Go.Proofs.YtghpekijimoicaaDoor
