/-
  Contracts and plain mathematics, joined: CanAsk, CanGo, Vals, Stretch, StrJoin, TrIn, StrLetter, StrPart, StrRow, StrOf, TrFar. No statement is proved here.
-/
import Derived.Test.YthnppodnjokaoaaDoorG10
import Derived.Test.YthnppodnjokaoaaDoorG6
import Derived.Test.YthnppodnjokaoaaDoorG7
import Derived.Test.YthnppodnjokaoaaDoorG9
import Derived.Test.YthnppodnjokaoaaDoorG2
import Derived.Test.YthnppodnjokaoaaDoorG3
import Derived.Test.YthnppodnjokaoaaDoorG5
import Derived.WalkMore
import Derived.Test.YthnppodnjokaoaaDoorG4
namespace Go.Proofs.YthnppodnjokaoaaDoor
open Go.RowKit

set_option maxHeartbeats 1000000 in
set_option maxRecDepth 100000 in
theorem canBeAsked_any (x : Gm) (a0 : Option Addr) (c0 : Nat) (ws : List Int) (aw : Option Addr) (cw : Nat) (w : World) (h0 : RD w (.slice a0 x.parts.length c0) (slD (Lay.list (Lay.list Lay.int)) x.parts)) (h1 : RD w (.slice aw ws.length cw) (slD Lay.int ws)) (hn : Lay.gram.wt x ≤ 1048576) (hf : Lay.gram.fit x) (hl : ws.length ≤ 1048576) (hz : (Lay.list Lay.int).fit ws) (hE : ErrsIs w) :
    Calls Tryd.prog 34 #[.agg #[.slice a0 x.parts.length c0], .slice aw ws.length cw] w fun e w' => e = .returned (.bool (inputOkB ws && decide (resCheck x = 0))) ∧ Below w.heap.size w w' := by
  have B0 := (Below.refl w.heap.size w).alloc (Nat.le_refl _) (.cells #[.slice a0 x.parts.length c0] 28)
  have HI : Hid (∀ W : World, Below w.heap.size w W → Calls Tryd.prog 59 #[.slice aw ws.length cw] W fun e w' => e = .returned (.bool (inputOkB ws)) ∧ Below W.heap.size W w') := fun W hW => inputOk_any ws aw cw W (h1.later hW) hl hz
  have HK : Hid (∀ W : World, Below w.heap.size w W → Calls Tryd.prog 60 #[.agg #[.slice a0 x.parts.length c0]] W fun e w' => e = .returned (.int .i64 (resCheck x)) ∧ Below W.heap.size W w') := fun W hW => check_any x a0 c0 W (h0.later hW) hn hf (hE.later hW)
  have hgl : w.heap.size < (w.alloc (.cells #[.slice a0 x.parts.length c0] 28)).heap.size := by simp
  have qg : (w.alloc (.cells #[.slice a0 x.parts.length c0] 28)).cell? ⟨w.heap.size, 0, none⟩ = some (.slice a0 x.parts.length c0) := by simp
  clear h0 h1 hn hf hl hz hE
  generalize resCheck x = rc at *
  generalize x.parts = P at *
  by_cases hi : inputOkB ws = true
  · rw [hi] at HI ⊢
    by_cases hc : rc = 0
    · subst hc
      go_enter Tryd.func34, Tryd.ntmps34
      go_wp2_with (first | (go_at_call 59; refine (HI.out _ B0).mono ?_; rintro e w1 ⟨rfl, hb1⟩; have g1 := (hb1.cell (p := ⟨w.heap.size, 0, none⟩) hgl).trans qg; have B1 := B0.trans (hb1.mono B0.size)) | (go_at_call 60; refine (HK.out _ B1).mono ?_; rintro e w2 ⟨rfl, hb2⟩))
      go_ret
      exact ⟨rfl, B1.trans (hb2.mono B1.size)⟩
    · have hcb : (rc == 0) = false := by simp [hc]
      go_enter Tryd.func34, Tryd.ntmps34
      go_wp2_with (first | (go_at_call 59; refine (HI.out _ B0).mono ?_; rintro e w1 ⟨rfl, hb1⟩; have g1 := (hb1.cell (p := ⟨w.heap.size, 0, none⟩) hgl).trans qg; have B1 := B0.trans (hb1.mono B0.size)) | (go_at_call 60; refine (HK.out _ B1).mono ?_; rintro e w2 ⟨rfl, hb2⟩))
      go_ret
      exact ⟨ret_bool (by simp [hc]), B1.trans (hb2.mono B1.size)⟩
  · have hi' : inputOkB ws = false := by simpa using hi
    rw [hi'] at HI ⊢
    clear hi hi'
    go_enter Tryd.func34, Tryd.ntmps34
    go_wp2_with (go_at_call 59; refine (HI.out _ B0).mono ?_; rintro e w1 ⟨rfl, hb1⟩)
    go_ret
    exact ⟨rfl, B0.trans (hb1.mono B0.size)⟩
end Go.Proofs.YthnppodnjokaoaaDoor
namespace Go.Proofs.YthnppodnjokaoaaDoor
open Go.RowKit

set_option maxHeartbeats 1000000 in
set_option maxRecDepth 100000 in
theorem canBeAskedAt_any (x : Gm) (a0 : Option Addr) (c0 : Nat) (z2 : List Int) (a2 : Option Addr) (c2 : Nat) (n : Int) (w : World) (h0 : RD w (.slice a0 x.parts.length c0) (slD (Lay.list (Lay.list Lay.int)) x.parts)) (h2 : RD w (.slice a2 z2.length c2) (slD Lay.int z2)) (hn : Lay.gram.wt x ≤ 1048576) (hf : Lay.gram.fit x) (hl2 : z2.length ≤ 1048576) (hz2 : (Lay.list Lay.int).fit z2) (wf : (Lit.int .i64 n).wf = true) (hE : ErrsIs w) :
    Calls Tryd.prog 45 #[.agg #[.slice a0 x.parts.length c0], .slice a2 z2.length c2, .int .i64 n] w fun e w' => e = .returned (.bool (rightAt x z2 n)) ∧ Below w.heap.size w w' := by
  have B0 := (Below.refl w.heap.size w).alloc (Nat.le_refl _) (.cells #[.slice a0 x.parts.length c0] 28)
  have HK : Hid (∀ W : World, Below w.heap.size w W → Calls Tryd.prog 34 #[.agg #[.slice a0 x.parts.length c0], .slice a2 z2.length c2] W fun e w' => e = .returned (.bool (inputOkB z2 && decide (resCheck x = 0))) ∧ Below W.heap.size W w') := fun W hW => canBeAsked_any x a0 c0 z2 a2 c2 W (h0.later hW) (h2.later hW) hn hf hl2 hz2 (hE.later hW)
  have HR : Hid (rightAt x z2 n = ((inputOkB z2 && decide (resCheck x = 0)) && inB n 0 z2.length)) := by
    show _ = _
    unfold rightAt
    cases inputOkB z2 <;> cases decide (resCheck x = 0) <;> rfl
  have hwf := wf_i64 wf
  clear h0 h2 hn hf hz2 hE wf
  generalize rightAt x z2 n = R at *
  generalize (inputOkB z2 && decide (resCheck x = 0)) = b at *
  generalize x.parts = P at *
  cases b
  · have E : Hid (R = false) := by show _ = _; rw [HR.out]; rfl
    go_enter Tryd.func45, Tryd.ntmps45
    go_wp2_with (go_at_call 34; refine (HK.out _ B0).mono ?_; rintro e w1 ⟨rfl, hb1⟩; have B1 := B0.trans (hb1.mono B0.size))
    go_ret
    exact ⟨ret_bool E.out.symm, B1⟩
  · by_cases h1 : 0 ≤ n
    · by_cases h2 : n ≤ z2.length
      · have E : Hid (R = true) := by show _ = _; rw [HR.out, Bool.true_and, inB_true]; exact ⟨h1, h2⟩
        go_enter Tryd.func45, Tryd.ntmps45
        go_wp2_with (go_at_call 34; refine (HK.out _ B0).mono ?_; rintro e w1 ⟨rfl, hb1⟩; have B1 := B0.trans (hb1.mono B0.size))
        go_ret
        exact ⟨ret_bool E.out.symm, B1⟩
      · have E : Hid (R = false) := by
          show _ = _
          rw [HR.out, Bool.true_and]
          cases e : inB n 0 z2.length
          · rfl
          · rw [inB_true] at e; exact absurd e.2 h2
        go_enter Tryd.func45, Tryd.ntmps45
        go_wp2_with (go_at_call 34; refine (HK.out _ B0).mono ?_; rintro e w1 ⟨rfl, hb1⟩; have B1 := B0.trans (hb1.mono B0.size))
        go_ret
        exact ⟨ret_bool (by rw [E.out]; exact decide_eq_false (by omega)), B1⟩
    · have E : Hid (R = false) := by
        show _ = _
        rw [HR.out, Bool.true_and]
        cases e : inB n 0 z2.length
        · rfl
        · rw [inB_true] at e; exact absurd e.1 h1
      go_enter Tryd.func45, Tryd.ntmps45
      go_wp2_with (go_at_call 34; refine (HK.out _ B0).mono ?_; rintro e w1 ⟨rfl, hb1⟩; have B1 := B0.trans (hb1.mono B0.size))
      go_ret
      exact ⟨ret_bool E.out.symm, B1⟩
set_option maxHeartbeats 1000000 in
set_option maxRecDepth 100000 in
theorem canGo_any (n : Nat) (a : Option Addr) (c : Nat) (row : List Int) (ar : Option Addr) (cr : Nat) (w : World) (hr : Reads w ar row) (hn : n ≤ 1048576) (hl : row.length ≤ 4194304) (hz : ∀ z ∈ row, -9223372036854775808 ≤ z ∧ z ≤ 9223372036854775807) :
    Calls Tryd.prog 73 #[.agg #[.slice a n c], .slice ar row.length cr] w fun e w' => e = .returned (.bool (knownB n row)) ∧ Below w.heap.size w w' := by
  have B0 := (Below.refl w.heap.size w).alloc (Nat.le_refl _) (.cells #[.slice a n c] 28)
  by_cases hlong : row.length ≤ 200
  · have hI : (row.length : Int) ≤ 200 := by omega
    have HS := symbolsOf_any n a c row ar cr _ (hr.below B0) hn (by omega) hz
    have E : Hid (knownB n row = row.all (symOk n)) := by show _ = _; simp [knownB, hlong]
    generalize knownB n row = R at *
    generalize row.all (symOk n) = s at *
    clear hr hz
    go_enter Tryd.func73, Tryd.ntmps73
    go_wp2_with (go_at_call 96; refine HS.mono ?_; rintro e w1 ⟨rfl, hb1⟩)
    go_ret
    exact ⟨ret_bool (by rw [E.out]), B0.trans (hb1.mono B0.size)⟩
  · have hI : ¬ (row.length : Int) ≤ 200 := by omega
    rw [knownB_long hlong]
    go_enter Tryd.func73, Tryd.ntmps73
    go_wp2
    go_ret
    exact ⟨rfl, B0⟩
end Go.Proofs.YthnppodnjokaoaaDoor
namespace Go.Proofs.YthnppodnjokaoaaDoor
open Go.RowKit

/-- The value of such a row. -/
def aggV (vs : List Value) : Value := .agg vs.toArray
/-- Block b is such a row. -/
def Vals (w : World) (b : Nat) (t : TypeId) (vs : List Value) : Prop := w.heap[b]? = some (.cells vs.toArray t)
/-- Each has one cell. -/
def Ones (vs : List Value) : Prop := ∀ v ∈ vs, v.oneCell' = true
theorem Ones.all {vs : List Value} (h : Ones vs) : vs.toArray.all (·.oneCell') = true := Array.all_eq_true_iff_forall_mem.2 fun v hv => h v (by simpa using hv)
theorem Ones.part {vs : List Value} (h : Ones vs) (o n : Nat) : Ones ((vs.drop o).take n) := fun v hv => h v (List.mem_of_mem_drop (List.mem_of_mem_take hv))
section
variable {w w' : World} {b : Nat} {t : TypeId} {vs : List Value}
theorem Vals.lt (h : Vals w b t vs) : b < w.heap.size := (Array.getElem?_eq_some_iff.1 h).1
theorem Vals.cell (h : Vals w b t vs) (n : Nat) : w.cell? ⟨b, n, none⟩ = vs[n]? := by
  rw [cell_of_row w b n _ t (0, 0) h]
  simp
theorem Vals.frozen (h : Vals w b t vs) (n : Nat) : w.frozen? ⟨b, n, none⟩ = false := by
  unfold Vals at h
  simp [World.frozen?, h]
theorem Vals.kept (h : Vals w b t vs) (hb : w'.heap[b]? = w.heap[b]?) : Vals w' b t vs := by unfold Vals at *; rw [hb]; exact h
theorem Vals.below (h : Vals w b t vs) {N : Nat} (hb : Below N w w') (hN : b < N) : Vals w' b t vs := h.kept (hb.block b hN)
theorem Vals.later (h : Vals w b t vs) (hb : Below w.heap.size w w') : Vals w' b t vs := h.below hb h.lt
theorem Vals.grown (h : Vals w b t vs) {row : Option Nat} (hg : w.grownBy w' row) (hne : row ≠ some b) : Vals w' b t vs := h.kept (hg.block b h.lt (fun e => hne e.symm))
theorem Vals.set (h : Vals w b t vs) (n : Nat) (v : Value) : Vals (w.setCell ⟨b, n, none⟩ v) b t (vs.set n v) := by
  unfold Vals at *
  have e : (vs.set n v).toArray = vs.toArray.setIfInBounds n v := by simp
  rw [e]
  simp [World.setCell, Array.getElem?_modify, h]
theorem Vals.range (h : Vals w b t vs) (o n : Nat) : w.rangeAt b o ((vs.drop o).take n) := by
  intro j v hv
  rw [cell_of_row w b (o + j) _ t (0, 0) h]
  rw [List.getElem?_take] at hv
  split at hv
  · rw [List.getElem?_drop] at hv; simpa using hv
  · simp at hv
theorem Vals.there (h : Vals w b t vs) (o n : Nat) (hn : o + n ≤ vs.length) : w.there b o n := fun j hj => ⟨by rw [h.cell]; simp; omega, h.frozen _⟩
end
theorem Vals.new (w : World) (t : TypeId) (vs : List Value) : Vals (w.alloc (.cells vs.toArray t)) w.heap.size t vs := by
  exact heap_alloc_new w _

/-- What is there behind the values cs are put in from o on. -/
def putV : List Value → Nat → List Value → List Value
  | vs, _, [] => vs
  | vs, o, v :: r => putV (vs.set o v) (o + 1) r
theorem putV_length : ∀ (cs : List Value) (vs : List Value) (o : Nat), (putV vs o cs).length = vs.length
  | [], _, _ => rfl
  | v :: r, vs, o => by rw [putV, putV_length r]; simp
theorem putV_get : ∀ (cs : List Value) (vs : List Value) (o i : Nat), o + cs.length ≤ vs.length → (putV vs o cs)[i]? = if o ≤ i ∧ i < o + cs.length then cs[i - o]? else vs[i]?
  | [], vs, o, i, _ => by rw [putV, if_neg (by simp)]
  | v :: r, vs, o, i, h => by
    simp only [List.length_cons] at h
    rw [putV, putV_get r (vs.set o v) (o + 1) i (by simp; omega)]
    simp only [List.length_cons]
    by_cases e : i = o
    · subst e
      rw [if_neg (by omega), if_pos (by omega), Nat.sub_self]
      simp [show i < vs.length by omega]
    · by_cases g : o + 1 ≤ i ∧ i < o + 1 + r.length
      · rw [if_pos g, if_pos (by omega), show i - o = (i - (o + 1)) + 1 by omega]
        rfl
      · rw [if_neg g, if_neg (by omega)]
        simp [Ne.symm e]
theorem putV_whole {vs cs : List Value} (h : cs.length = vs.length) : putV vs 0 cs = cs := by
  apply List.ext_getElem?
  intro i
  rw [putV_get _ _ _ _ (by omega)]
  by_cases e : i < cs.length
  · rw [if_pos (by omega), Nat.sub_zero]
  · rw [if_neg (by omega), List.getElem?_eq_none (by omega), List.getElem?_eq_none (by omega)]
theorem setCells_vals : ∀ (cs vs : List Value) (o : Nat) (w : World) (b : Nat) (t : TypeId), Vals w b t vs → Vals (w.setCells b o cs) b t (putV vs o cs) ∧ w.grownBy (w.setCells b o cs) (some b)
  | [], vs, o, w, b, t, h => ⟨h, World.grownBy.refl _ _⟩
  | v :: r, vs, o, w, b, t, h => by
    rw [World.setCells, putV]
    have := setCells_vals r (vs.set o v) (o + 1) _ b t (h.set o v)
    exact ⟨this.1, grownBy_trans (setCell_grown w b o _) this.2⟩

section
variable {P : Program}
/-- A type of such rows: its cells, its form. -/
structure RowT (P : Program) (ty : TypeId) (zs : List Value) : Prop where
  info : (P.info? ty).map (fun i => (i.zero, i.size)) = some (some (aggV zs), zs.length)
  desc : ∃ d, P.underlying ty = some d ∧ d.isRow = true
theorem RowT.size {ty : TypeId} {zs : List Value} (h : RowT P ty zs) : (P.info? ty).map (·.size) = some zs.length := by
  have := h.info
  cases hq : P.info? ty with
  | none => simp [hq] at this
  | some i => simp [hq] at this; simp [this.2]
theorem RowT.zero {ty : TypeId} {zs : List Value} (h : RowT P ty zs) (w : World) : (zeroValue ty).run P w = .ok (aggV zs) w := by
  have := h.info
  cases hq : P.info? ty with
  | none => simp [hq] at this
  | some i => simp [hq] at this; simp [zeroValue, typeInfo, hq, this.1]
/-- The whole row, or a part of it, is read. -/
theorem exec_loadV {ρ : Operand → Value} {o : Oper} {w : World} {ty t : TypeId} {x : Operand} {b off : Nat} {vs zs : List Value} (ho : o.op = .load ty x) (hx : ρ x = .pointer (some ⟨b, off, none⟩)) (hT : RowT P ty zs) (hB : Vals w b t vs) (hn : off + zs.length ≤ vs.length) :
    (execOp ρ o).run P w = .ok (.value (aggV ((vs.drop off).take zs.length))) w := by
  obtain ⟨d, hu, hd⟩ := hT.desc
  have hl : ((vs.drop off).take zs.length).length = zs.length := by simp; omega
  have := run_loadVar_mid (P := P) w b off ty ((vs.drop off).take zs.length) d (hB.range off zs.length) hu hd (by rw [hl]; exact hT.size)
  unfold execOp
  simp only [ho, hx, Instr.loadAt, Instr.sureAddr, Sem.run_bind, Sem.run_pure, Result.andThen_ok, this]
  rfl
theorem exec_loadVW {ρ : Operand → Value} {o : Oper} {w : World} {ty t : TypeId} {x : Operand} {b : Nat} {vs zs : List Value} (ho : o.op = .load ty x) (hx : ρ x = .pointer (some ⟨b, 0, none⟩)) (hT : RowT P ty zs) (hl : vs.length = zs.length) (hB : Vals w b t vs) :
    (execOp ρ o).run P w = .ok (.value (aggV vs)) w := by
  have := exec_loadV (P := P) ho hx hT hB (by omega)
  rw [List.drop_zero, List.take_of_length_le (by omega)] at this
  exact this
/-- It is stored. -/
theorem exec_storeV {ρ : Operand → Value} {o : Oper} {w : World} {ty t : TypeId} {x y : Operand} {b off : Nat} {vs cs zs : List Value} (ho : o.op = .store ty x y) (hx : ρ x = .pointer (some ⟨b, off, none⟩)) (hy : ρ y = aggV cs) (hT : RowT P ty zs) (hl : cs.length = zs.length) (hB : Vals w b t vs) (hn : off + cs.length ≤ vs.length) (h1 : Ones cs) :
    ∃ w', (execOp ρ o).run P w = .ok .skip w' ∧ Vals w' b t (putV vs off cs) ∧ w.grownBy w' (some b) := by
  have h1 := run_storeVar_mid (P := P) w b off ty cs.toArray (hB.there off _ (by simpa using hn)) (by rw [hT.size, ← hl]; simp) h1.all
  have h2 := setCells_vals cs vs off w b t hB
  refine ⟨_, ?_, h2.1, h2.2⟩
  unfold execOp
  simp only [ho, hx, hy, aggV, Instr.storeAt, Instr.sureAddr, Sem.run_bind, Sem.run_pure, Result.andThen_ok, h1]
theorem exec_boxV {ρ : Operand → Value} {o : Oper} {w : World} {ty : TypeId} {x : Operand} {vs : List Value} (ho : o.op = .box ty x) (hx : ρ x = aggV vs) :
    ∃ w', (execOp ρ o).run P w = .ok (.value (.pointer (some ⟨w.heap.size, 0, none⟩))) w' ∧ Vals w' w.heap.size ty vs ∧ Below w.heap.size w w' ∧ w'.heap.size = w.heap.size + 1 := by
  refine ⟨w.alloc (.cells vs.toArray ty), ?_, Vals.new w ty vs, (Below.refl _ _).alloc (Nat.le_refl _) _, by simp⟩
  unfold execOp
  simp only [ho, hx, aggV, Instr.box, newVar, newRow, Value.cells]
  simp
theorem exec_allocV {ρ : Operand → Value} {o : Oper} {w : World} {ty : TypeId} {zs : List Value} (ho : o.op = .alloc ty) (hT : RowT P ty zs) :
    ∃ w', (execOp ρ o).run P w = .ok (.value (.pointer (some ⟨w.heap.size, 0, none⟩))) w' ∧ Vals w' w.heap.size ty zs ∧ Below w.heap.size w w' ∧ w'.heap.size = w.heap.size + 1 := by
  refine ⟨w.alloc (.cells zs.toArray ty), ?_, Vals.new w ty _, (Below.refl _ _).alloc (Nat.le_refl _) _, by simp⟩
  unfold execOp
  simp only [ho, Instr.alloc, newVar, newRow, Sem.run_bind, hT.zero, aggV, Result.andThen_ok, Value.cells]
  simp
theorem wpList_boxV {ops : Array Oper} {rest : List Oper} {o : Oper} {a : Act} {w : World} {Q : Exit → Act → World → Prop} (hgd : Region.wanted o (yielded ops a.tmps) = true) (ty : TypeId) (x : Operand) (ho : o.op = .box ty x) (vs : List Value) (hx : a.eval x = aggV vs)
    (h : ∀ w', Vals w' w.heap.size ty vs → Below w.heap.size w w' → w'.heap.size = w.heap.size + 1 → wpList P ops Q rest (a.put o.dst (.pointer (some ⟨w.heap.size, 0, none⟩))) w') : wpList P ops Q (o :: rest) a w := by
  obtain ⟨w', h1, h2, h3, h4⟩ := exec_boxV (P := P) (w := w) ho hx
  exact wpList_val hgd h1 (h w' h2 h3 h4)
theorem wpList_allocV {ops : Array Oper} {rest : List Oper} {o : Oper} {a : Act} {w : World} {Q : Exit → Act → World → Prop} (hgd : Region.wanted o (yielded ops a.tmps) = true) (ty : TypeId) (ho : o.op = .alloc ty) (zs : List Value) (hT : RowT P ty zs)
    (h : ∀ w', Vals w' w.heap.size ty zs → Below w.heap.size w w' → w'.heap.size = w.heap.size + 1 → wpList P ops Q rest (a.put o.dst (.pointer (some ⟨w.heap.size, 0, none⟩))) w') : wpList P ops Q (o :: rest) a w := by
  obtain ⟨w', h1, h2, h3, h4⟩ := exec_allocV (P := P) (w := w) (ρ := a.eval) ho hT
  exact wpList_val hgd h1 (h w' h2 h3 h4)
theorem wpList_loadV {ops : Array Oper} {rest : List Oper} {o : Oper} {a : Act} {w : World} {Q : Exit → Act → World → Prop} (hgd : Region.wanted o (yielded ops a.tmps) = true) (ty : TypeId) (x : Operand) (ho : o.op = .load ty x) (b off : Nat) (t : TypeId) (vs zs : List Value) (hx : a.eval x = .pointer (some ⟨b, off, none⟩)) (hT : RowT P ty zs) (hB : Vals w b t vs) (hn : off + zs.length ≤ vs.length)
    (h : wpList P ops Q rest (a.put o.dst (aggV ((vs.drop off).take zs.length))) w) : wpList P ops Q (o :: rest) a w :=
  wpList_val hgd (exec_loadV ho hx hT hB hn) h
theorem wpList_loadVW {ops : Array Oper} {rest : List Oper} {o : Oper} {a : Act} {w : World} {Q : Exit → Act → World → Prop} (hgd : Region.wanted o (yielded ops a.tmps) = true) (ty : TypeId) (x : Operand) (ho : o.op = .load ty x) (b : Nat) (t : TypeId) (vs zs : List Value) (hx : a.eval x = .pointer (some ⟨b, 0, none⟩)) (hT : RowT P ty zs) (hl : vs.length = zs.length) (hB : Vals w b t vs)
    (h : wpList P ops Q rest (a.put o.dst (aggV vs)) w) : wpList P ops Q (o :: rest) a w :=
  wpList_val hgd (exec_loadVW ho hx hT hl hB) h
theorem wpList_storeV {ops : Array Oper} {rest : List Oper} {o : Oper} {a : Act} {w : World} {Q : Exit → Act → World → Prop} (hgd : Region.wanted o (yielded ops a.tmps) = true) (ty : TypeId) (x y : Operand) (ho : o.op = .store ty x y) (b off : Nat) (t : TypeId) (vs cs zs : List Value) (hx : a.eval x = .pointer (some ⟨b, off, none⟩)) (hy : a.eval y = aggV cs) (hT : RowT P ty zs) (hl : cs.length = zs.length) (hB : Vals w b t vs) (hn : off + cs.length ≤ vs.length) (h1 : Ones cs)
    (h : ∀ w', Vals w' b t (putV vs off cs) → w.grownBy w' (some b) → wpList P ops Q rest (a.put o.dst undef) w') : wpList P ops Q (o :: rest) a w := by
  obtain ⟨w', h1, h2, h3⟩ := exec_storeV (P := P) ho hx hy hT hl hB hn h1
  exact wpList_unit hgd h1 (h w' h2 h3)
theorem ret_cellV {fn : Func} {p : Tmp} {tmps : Array Value} {w : World} {g : Nat} {t : TypeId} {vs zs : List Value} (ty : TypeId) (h : fn.results = #[.cell p ty]) (hp : tmps.getD p undef = .pointer (some ⟨g, 0, none⟩)) (hB : Vals w g t vs) (hT : RowT P ty zs) (hl : vs.length = zs.length) : (results fn tmps).run P w = .ok (aggV vs) w := by
  obtain ⟨d, hu, hd⟩ := hT.desc
  exact results_cell_row h tmps w g t vs.toArray (0, 0) d hp hB hu (by cases d <;> first | rfl | cases hd) (by rw [hT.size, ← hl]; simp)
end
end Go.Proofs.YthnppodnjokaoaaDoor
namespace Go.Proofs.YthnppodnjokaoaaDoor
open Go.RowKit

/-- Its values. -/
def strV (f : Nat) (v : Nat → Nat) : List Value := .int .i64 (f : Int) :: (eB v).map Value.bool
def strZ : List Value := .int .i64 0 :: List.replicate 11 (.bool false)
def placesZ : List Value := List.replicate 11 (.bool false)
/-- Block b is a stretch. -/
def Str (w : World) (b f : Nat) (v : Nat → Nat) : Prop := Vals w b 130 (strV f v)
theorem strV_length (f : Nat) (v : Nat → Nat) : (strV f v).length = 12 := by simp [strV, eB_length]
theorem strZ_length : strZ.length = 12 := rfl
theorem strV_ones (f : Nat) (v : Nat → Nat) : Ones (strV f v) := fun u hu => by
  simp only [strV, List.mem_cons, List.mem_map] at hu
  rcases hu with rfl | ⟨x, _, rfl⟩ <;> rfl
theorem strV_congr {f : Nat} {u v : Nat → Nat} (h : ∀ j, j < 11 → (u j ≠ 0 ↔ v j ≠ 0)) : strV f u = strV f v := by unfold strV; rw [eB_congr h]
theorem strV_none (f : Nat) : strV f (fun _ => 0) = .int .i64 (f : Int) :: List.replicate 11 (.bool false) := by unfold strV; rw [eB_none]; rfl
theorem strV_ends (f : Nat) (v : Nat → Nat) : aggV (((strV f v).drop 1).take placesZ.length) = aggB (eB v) := by
  show aggV ((((eB v).map Value.bool)).take 11) = _
  rw [List.take_of_length_le (by simp [eB_length])]; rfl
set_option maxRecDepth 100000 in
theorem rt_str : RowT Tryd.prog 130 strZ := ⟨by kernel_rfl, row_of (by kernel_rfl)⟩
set_option maxRecDepth 100000 in
theorem rt_places : RowT Tryd.prog 128 placesZ := ⟨by kernel_rfl, row_of (by kernel_rfl)⟩
set_option maxRecDepth 100000 in
theorem bt_places : BitT Tryd.prog 128 11 := ⟨by kernel_rfl, row_of (by kernel_rfl)⟩
theorem u_places : Tryd.prog.underlying 128 = some (.array 11 4) := by kernel_rfl
section
variable {w w' : World} {b f : Nat} {v : Nat → Nat}
theorem Str.lt (h : Str w b f v) : b < w.heap.size := Vals.lt h
theorem Str.kept (h : Str w b f v) (hb : w'.heap[b]? = w.heap[b]?) : Str w' b f v := Vals.kept h hb
theorem Str.later (h : Str w b f v) (hb : Below w.heap.size w w') : Str w' b f v := Vals.later h hb
theorem Str.grown (h : Str w b f v) {row : Option Nat} (hg : w.grownBy w' row) (hne : row ≠ some b) : Str w' b f v := Vals.grown h hg hne
theorem Str.far (h : Str w b f v) : w.cell? ⟨b, 0, none⟩ = some (.int .i64 (f : Int)) := by rw [Vals.cell h]; rfl
theorem Str.frozen (h : Str w b f v) (i : Nat) : w.frozen? ⟨b, i, none⟩ = false := Vals.frozen h i
theorem Str.end (h : Str w b f v) {j : Nat} (hj : j < 11) : w.cell? ⟨b, 1 + j, none⟩ = some (.bool (decide (v j ≠ 0))) := by
  rw [Vals.cell h, Nat.add_comm]
  show ((eB v).map Value.bool)[j]? = _
  rw [List.getElem?_map, List.getElem?_eq_getElem (by rw [eB_length]; exact hj), eB_get v hj]; rfl
theorem Str.setF (h : Str w b f v) (n : Nat) : Str (w.setCell ⟨b, 0, none⟩ (.int .i64 (n : Int))) b n v := Vals.set h 0 (.int .i64 (n : Int))
theorem eB_set (v : Nat → Nat) {j : Nat} (x : Bool) : (eB v).set j x = eB (fun i => if i = j then (if x then 1 else 0) else v i) := by
  apply List.ext_getElem (by simp [eB])
  intro i h1 h2
  simp only [List.getElem_set, eB, List.getElem_map, List.getElem_range]
  by_cases e : j = i
  · subst e; cases x <;> simp
  · rw [if_neg e, if_neg (fun h => e h.symm)]
theorem Str.setE (h : Str w b f v) {j : Nat} (x : Bool) : Str (w.setCell ⟨b, 1 + j, none⟩ (.bool x)) b f (fun i => if i = j then (if x then 1 else 0) else v i) := by
  have := Vals.set h (1 + j) (.bool x)
  unfold Str
  have e : (strV f v).set (1 + j) (.bool x) = strV f (fun i => if i = j then (if x then 1 else 0) else v i) := by
    rw [Nat.add_comm]
    show .int .i64 (f : Int) :: ((eB v).map Value.bool).set j (.bool x) = _
    rw [← List.map_set, eB_set]; rfl
  rwa [e] at this
theorem Str.congr (h : Str w b f v) {u : Nat → Nat} (he : ∀ j, j < 11 → (v j ≠ 0 ↔ u j ≠ 0)) : Str w b f u := by unfold Str at *; rwa [strV_congr he] at h
end
/-- The literal of one with a place and no end. -/
theorem exec_str1 {ρ : Operand → Value} {o : Oper} {x : Operand} {n : Nat} (ho : o.op = .build 130 #[(0, x)]) (hx : ρ x = .int .i64 (n : Int)) (w : World) :
    (execOp ρ o).run Tryd.prog w = .ok (.value (aggV (strV n (fun _ => 0)))) w := by
  rw [strV_none]
  unfold execOp
  simp [ho, Instr.build, rt_str.zero, run_underlying Tryd.underlying130, hx, Value.cells, aggV, strZ]
  rfl
theorem wpList_str1 {ops : Array Oper} {rest : List Oper} {o : Oper} {a : Act} {w : World} {Q : Exit → Act → World → Prop} (hgd : Region.wanted o (yielded ops a.tmps) = true) (x : Operand) (ho : o.op = .build 130 #[(0, x)]) (n : Nat) (hx : a.eval x = .int .i64 (n : Int))
    (h : wpList Tryd.prog ops Q rest (a.put o.dst (aggV (strV n (fun _ => 0)))) w) : wpList Tryd.prog ops Q (o :: rest) a w :=
  wpList_val hgd (exec_str1 ho hx w) h
/-- The literal of no places. -/
theorem exec_places0 {ρ : Operand → Value} {o : Oper} (ho : o.op = .build 128 #[]) (w : World) :
    (execOp ρ o).run Tryd.prog w = .ok (.value (aggB (List.replicate 11 false))) w := by
  unfold execOp
  simp [ho, Instr.build, rt_places.zero, run_underlying Tryd.underlying128, aggV, placesZ, aggB, cellsB, Instr.fill, Value.cells]
theorem wpList_places0 {ops : Array Oper} {rest : List Oper} {o : Oper} {a : Act} {w : World} {Q : Exit → Act → World → Prop} (hgd : Region.wanted o (yielded ops a.tmps) = true) (ho : o.op = .build 128 #[])
    (h : wpList Tryd.prog ops Q rest (a.put o.dst (aggB (List.replicate 11 false))) w) : wpList Tryd.prog ops Q (o :: rest) a w :=
  wpList_val hgd (exec_places0 ho w) h
/-- Its flags are loaded. -/
theorem wpList_endsV {ops : Array Oper} {rest : List Oper} {o : Oper} {a : Act} {w : World} {Q : Exit → Act → World → Prop} (hgd : Region.wanted o (yielded ops a.tmps) = true) (x : Operand) (ho : o.op = .load 128 x) (b f : Nat) (v : Nat → Nat) (hx : a.eval x = .pointer (some ⟨b, 1, none⟩)) (hB : Str w b f v)
    (h : wpList Tryd.prog ops Q rest (a.put o.dst (aggB (eB v))) w) : wpList Tryd.prog ops Q (o :: rest) a w := by
  rw [← strV_ends f v] at h
  exact wpList_loadV hgd _ x ho b 1 _ _ placesZ hx rt_places hB (by rw [strV_length]; decide) h
/-- It is boxed, loaded, stored. -/
theorem wpList_boxS {ops : Array Oper} {rest : List Oper} {o : Oper} {a : Act} {w : World} {Q : Exit → Act → World → Prop} (hgd : Region.wanted o (yielded ops a.tmps) = true) (x : Operand) (ho : o.op = .box 130 x) (f : Nat) (v : Nat → Nat) (hx : a.eval x = aggV (strV f v))
    (h : ∀ w', Str w' w.heap.size f v → Below w.heap.size w w' → w'.heap.size = w.heap.size + 1 → wpList Tryd.prog ops Q rest (a.put o.dst (.pointer (some ⟨w.heap.size, 0, none⟩))) w') : wpList Tryd.prog ops Q (o :: rest) a w :=
  wpList_boxV hgd _ x ho _ hx h
theorem wpList_allocS {ops : Array Oper} {rest : List Oper} {o : Oper} {a : Act} {w : World} {Q : Exit → Act → World → Prop} (hgd : Region.wanted o (yielded ops a.tmps) = true) (ho : o.op = .alloc 130)
    (h : ∀ w', Str w' w.heap.size 0 (fun _ => 0) → Below w.heap.size w w' → w'.heap.size = w.heap.size + 1 → wpList Tryd.prog ops Q rest (a.put o.dst (.pointer (some ⟨w.heap.size, 0, none⟩))) w') : wpList Tryd.prog ops Q (o :: rest) a w :=
  wpList_allocV hgd _ ho strZ rt_str (fun w' h1 h2 h3 => h w' (by unfold Str; rw [strV_none]; exact h1) h2 h3)
theorem wpList_loadS {ops : Array Oper} {rest : List Oper} {o : Oper} {a : Act} {w : World} {Q : Exit → Act → World → Prop} (hgd : Region.wanted o (yielded ops a.tmps) = true) (x : Operand) (ho : o.op = .load 130 x) (b f : Nat) (v : Nat → Nat) (hx : a.eval x = .pointer (some ⟨b, 0, none⟩)) (hB : Str w b f v)
    (h : wpList Tryd.prog ops Q rest (a.put o.dst (aggV (strV f v))) w) : wpList Tryd.prog ops Q (o :: rest) a w :=
  wpList_loadVW hgd _ x ho b _ _ strZ hx rt_str (strV_length f v) hB h
theorem wpList_storeS {ops : Array Oper} {rest : List Oper} {o : Oper} {a : Act} {w : World} {Q : Exit → Act → World → Prop} (hgd : Region.wanted o (yielded ops a.tmps) = true) (x y : Operand) (ho : o.op = .store 130 x y) (b f0 : Nat) (v0 : Nat → Nat) (f : Nat) (v : Nat → Nat) (hx : a.eval x = .pointer (some ⟨b, 0, none⟩)) (hy : a.eval y = aggV (strV f v)) (hB : Str w b f0 v0)
    (h : ∀ w', Str w' b f v → w.grownBy w' (some b) → wpList Tryd.prog ops Q rest (a.put o.dst undef) w') : wpList Tryd.prog ops Q (o :: rest) a w :=
  wpList_storeV hgd _ x y ho b 0 _ _ _ strZ hx hy rt_str (strV_length f v) hB (by rw [strV_length, strV_length]; decide) (strV_ones f v) (fun w' h1 h2 => h w' (by rw [putV_whole (by rw [strV_length, strV_length])] at h1; exact h1) h2)
theorem ret_cellS {fn : Func} {p : Tmp} {tmps : Array Value} {w : World} {g f : Nat} {v : Nat → Nat} (h : fn.results = #[.cell p 130]) (hp : tmps.getD p undef = .pointer (some ⟨g, 0, none⟩)) (hB : Str w g f v) : (results fn tmps).run Tryd.prog w = .ok (aggV (strV f v)) w :=
  ret_cellV _ h hp hB rt_str (strV_length f v)
end Go.Proofs.YthnppodnjokaoaaDoor
namespace Go.Proofs.YthnppodnjokaoaaDoor
open Go.RowKit

/-- The first k flags are put to those that are there. -/
def joinTo8 (v u : Nat → Nat) (k : Nat) : Nat → Nat := fun j => if j < k then v j + u j else v j
theorem joinTo8_step (v u : Nat → Nat) (k : Nat) (x : Bool) (h : x = (decide (v k ≠ 0) || decide (u k ≠ 0))) (j : Nat) : ((if j = k then (if x then 1 else 0) else joinTo8 v u k j) ≠ 0 ↔ joinTo8 v u (k + 1) j ≠ 0) := by
  unfold joinTo8
  by_cases e : j = k
  · subst e
    rw [if_pos rfl, if_pos (Nat.lt_succ_self _), h]
    by_cases h1 : v j = 0
    · by_cases h2 : u j = 0
      · simp [h1, h2]
      · simp [h1, h2]
    · simp [h1]
  · rw [if_neg e]
    by_cases g : j < k
    · rw [if_pos g, if_pos (by omega)]
    · rw [if_neg g, if_neg (by omega)]
set_option maxHeartbeats 2000000 in
set_option maxRecDepth 100000 in
theorem strJoin_any (b f f2 : Nat) (v u : Nat → Nat) (w : World) (hB : Str w b f v) :
    Calls Tryd.prog 116 #[.pointer (some ⟨b, 0, none⟩), aggV (strV f2 u)] w fun e w' => e = .returned (.tuple #[]) ∧ Str w' b (max f f2) (fun j => v j + u j) ∧ w.grownBy w' (some b) := by
  have hbl := hB.lt
  obtain ⟨m, hm⟩ : ∃ m, m = max f f2 := ⟨_, rfl⟩
  have HM : Hid ((if f < f2 then (f2 : Int) else (f : Int)) = (m : Int)) := by show _ = _; rw [hm]; split <;> omega
  rw [← hm]
  clear hm
  have HB : Hid (Str w b f v) := hB
  go_enter Tryd.func116, Tryd.ntmps116
  go_wp2_with (refine wpList_boxS rfl _ rfl f2 u rfl ?_; intro w1 hB1 hb1 hs1)
  have HB1 : Hid (Str w1 w.heap.size f2 u) := hB1
  have HB0 : Hid (Str w1 b f v) := HB.out.later hb1
  have q0 := HB0.out.far
  have f0 := HB0.out.frozen 0
  have q1 := HB1.out.far
  have HG1 : Hid (w.grownBy w1 (some b)) := grownBy_of_below hb1 _
  clear hB hB1 HB
  have hne : w.heap.size ≠ b := by omega
  have hs1' : b < w1.heap.size := by omega
  go_region
  all_goals
    rw [HM.out]
    have HB2 : Hid (Str (w1.setCell ⟨b, 0, none⟩ (.int .i64 (m : Int))).drew b m v) := (HB0.out.setF m).later (Below.drew (Below.refl _ _))
    have HB3 : Hid (Str (w1.setCell ⟨b, 0, none⟩ (.int .i64 (m : Int))).drew w.heap.size f2 u) := HB1.out.grown (grownBy_trans (setCell_grown w1 b 0 _) (grownBy_of_below (Below.drew (Below.refl _ _)) _)) (fun e => hne (Option.some.inj e).symm)
    have HG2 : Hid (w.grownBy (w1.setCell ⟨b, 0, none⟩ (.int .i64 (m : Int))).drew (some b)) := grownBy_trans HG1.out (grownBy_trans (setCell_grown w1 b 0 _) (grownBy_of_below (Below.drew (Below.refl _ _)) _))
    clear HB0 HB1 HG1 q0 f0 q1
    generalize (w1.setCell ⟨b, 0, none⟩ (.int .i64 (m : Int))).drew = w2 at *
    go_wp2_with (refine wpList_endsV rfl _ rfl w.heap.size f2 u rfl HB3.out ?_)
    have HB4 : Hid (Str w2 b m (joinTo8 v u 0)) := HB2.out
    clear HB2
    go_loopw [18] (fun s18 wr => ∃ k : Nat, k ≤ 11 ∧ s18 = .int .i64 (k : Int) ∧ Hid (Str wr b m (joinTo8 v u k)) ∧ Hid (w.grownBy wr (some b))) (fun s18 _ => 11 - (intOf s18).toNat)
    case atStart => exact ⟨0, Nat.zero_le _, rfl, HB4, HG2⟩
    case round =>
      obtain ⟨k, hk, rfl, HBk, HGk⟩ := hrel
      clear HB4 HG2
      by_cases hlt : k < 11
      · have q0 := HBk.out.end hlt
        have f0 := HBk.out.frozen (1 + k)
        have hk0 : (0 : Int) ≤ (k : Int) := by omega
        have hk1 : (k : Int) < 11 := by omega
        have hvk : joinTo8 v u k k = v k := if_neg (Nat.lt_irrefl k)
        rw [hvk] at q0
        have HN : Hid (∀ x, x = (decide (v k ≠ 0) || decide (u k ≠ 0)) → Str (wr.setCell ⟨b, 1 + k, none⟩ (.bool x)) b m (joinTo8 v u (k + 1))) := fun x hx => (HBk.out.setE x).congr (fun j _ => joinTo8_step v u k x hx j)
        have hgu := eB_get u hlt
        have hgu2 : (eB u).getD k false = decide (u k ≠ 0) := by rw [List.getD_eq_getElem?_getD, List.getElem?_eq_getElem (by rw [eB_length]; exact hlt), hgu]; rfl
        have HU : Hid ((eB u).getD k false = decide (u k ≠ 0)) := hgu2
        have HL : Hid ((eB u).length = 11) := eB_length u
        have HG3 : Hid (∀ x, w.grownBy (wr.setCell ⟨b, 1 + k, none⟩ (.bool x)) (some b)) := fun x => grownBy_trans HGk.out (setCell_grown wr b (1 + k) _)
        clear HBk hvk hgu hgu2 HGk
        generalize decide (v k ≠ 0) = x at *
        generalize decide (u k ≠ 0) = y at *
        obtain ⟨l, hl⟩ : ∃ l, Hid (eB u = l) := ⟨_, rfl⟩
        rw [hl.out] at HU HL ⊢
        go_wp2_with (refine wpList_indexB rfl 128 4 _ _ rfl l k rfl rfl (by rw [HL.out]; exact u_places) u_bool bool_size (by rw [HL.out]; exact hlt) ?_; rw [HU.out])
        cases x
        · have HN1 : Hid (Str (wr.setCell ⟨b, 1 + k, none⟩ (.bool y)) b m (joinTo8 v u (k + 1))) := HN.out y (by simp)
          have HG4 := HG3.out y
          have HG4' : Hid (w.grownBy (wr.setCell ⟨b, 1 + k, none⟩ (.bool y)) (some b)) := HG4
          clear HN HG3 HG4
          go_region
          all_goals
            go_wp2
            go_roundw
            case rel => exact ⟨k + 1, by omega, by go_num, HN1.out.later (by first | exact Below.refl _ _ | exact Below.drew (Below.refl _ _)), grownBy_trans HG4'.out (grownBy_of_below (by first | exact Below.refl _ _ | exact Below.drew (Below.refl _ _)) _)⟩
            case measure => simp [intOf]; omega
        · have HN1 : Hid (Str (wr.setCell ⟨b, 1 + k, none⟩ (.bool true)) b m (joinTo8 v u (k + 1))) := HN.out true (by simp)
          have HG4 := HG3.out true
          have HG4' : Hid (w.grownBy (wr.setCell ⟨b, 1 + k, none⟩ (.bool true)) (some b)) := HG4
          clear HN HG3 HG4
          go_region
          all_goals
            go_wp2
            go_roundw
            case rel => exact ⟨k + 1, by omega, by go_num, HN1.out.later (by first | exact Below.refl _ _ | exact Below.drew (Below.refl _ _)), grownBy_trans HG4'.out (grownBy_of_below (by first | exact Below.refl _ _ | exact Below.drew (Below.refl _ _)) _)⟩
            case measure => simp [intOf]; omega
      · have e : k = 11 := by omega
        subst e
        go_wp2
        go_end0
        exact ⟨rfl, HBk.out.congr (fun j hj => by unfold joinTo8; rw [if_pos hj]), HGk.out⟩
end Go.Proofs.YthnppodnjokaoaaDoor
namespace Go.Proofs.YthnppodnjokaoaaDoor
open Go.RowKit

section
variable (P : List (List (List Int))) (ws : List Int) (w0 : World) (bT : Nat) (aP : Option Addr) (cP : Nat) (aw : Option Addr) (cw : Nat)
/-- K: the blocks of what it knows. -/
structure TrIn (K : Nat → Prop) (w : World) : Prop where
  low : Below w0.heap.size w0 w
  lT : w0.heap.size ≤ bT
  lt : bT < w.heap.size
  c0 : w.cell? ⟨bT, 0, none⟩ = some (.slice aP P.length cP)
  c1 : w.cell? ⟨bT, 1, none⟩ = some (.slice aw ws.length cw)
  fr : ∀ i, w.frozen? ⟨bT, i, none⟩ = false
  kb : ∀ b, K b → b ≠ bT ∧ w0.heap.size ≤ b ∧ b < w.heap.size
  known : ∀ k i, k < P.length → i ≤ ws.length → ∃ u, w.cell? ⟨bT, 2 + k * 11 + i, none⟩ = some (.pointer u) ∧ ∀ a, u = some a → ∃ b, a = ⟨b, 0, none⟩ ∧ K b ∧ Str w b (farP P ws k i) (way P ws k i)
end
section
variable {P : List (List (List Int))} {ws : List Int} {w0 : World} {bT : Nat} {aP : Option Addr} {cP : Nat} {aw : Option Addr} {cw : Nat} {K : Nat → Prop} {w w' : World}
theorem TrIn.kept {T : Nat → Prop} (h : TrIn P ws w0 bT aP cP aw cw K w) (hw : Within w w' T) (hT : ∀ b, T b → w0.heap.size ≤ b ∧ b ≠ bT ∧ ¬ K b) : TrIn P ws w0 bT aP cP aw cw K w' := by
  have e1 := hw.block bT h.lt (fun e => (hT _ e).2.1 rfl)
  refine ⟨hw.below h.low (fun b e => (hT b e).1), h.lT, Nat.lt_of_lt_of_le h.lt hw.size, by rw [blk_cell e1]; exact h.c0, by rw [blk_cell e1]; exact h.c1, fun i => by rw [blk_frozen e1]; exact h.fr i, fun b hb => ⟨(h.kb b hb).1, (h.kb b hb).2.1, Nat.lt_of_lt_of_le (h.kb b hb).2.2 hw.size⟩, fun k i hk hi => ?_⟩
  obtain ⟨u, hu, hr⟩ := h.known k i hk hi
  refine ⟨u, by rw [blk_cell e1]; exact hu, fun a ha => ?_⟩
  obtain ⟨b, hb, hK, hS⟩ := hr a ha
  exact ⟨b, hb, hK, hS.kept (hw.block b hS.lt (fun e => (hT b e).2.2 hK))⟩
theorem TrIn.later (h : TrIn P ws w0 bT aP cP aw cw K w) (hb : Below w.heap.size w w') : TrIn P ws w0 bT aP cP aw cw K w' := h.kept (T := fun _ => False) (Within.of_below hb _) (fun _ e => e.elim)
/-- What it has found of a part at a place is kept. -/
theorem TrIn.put (h : TrIn P ws w0 bT aP cP aw cw K w) {k i b : Nat} (hi : i ≤ ws.length) (hi10 : ws.length ≤ 10) (hb : b ≠ bT) (hb0 : w0.heap.size ≤ b) (hS : Str w b (farP P ws k i) (way P ws k i)) :
    TrIn P ws w0 bT aP cP aw cw (fun x => K x ∨ x = b) (w.setCell ⟨bT, 2 + k * 11 + i, none⟩ (.pointer (some ⟨b, 0, none⟩))) := by
  have hw : Within w (w.setCell ⟨bT, 2 + k * 11 + i, none⟩ (.pointer (some ⟨b, 0, none⟩))) (fun x => x = bT) := Within.setCell (Within.refl _ _) _ _ rfl
  refine ⟨hw.below h.low (fun x e => by rw [e]; exact h.lT), h.lT, by simpa using h.lt, by rw [cell_set_off (.inr (by omega))]; exact h.c0, by rw [cell_set_off (.inr (by omega))]; exact h.c1, fun j => by rw [World.frozen?_setCell]; exact h.fr j, fun x hx => ?_, fun k' i' hk' hi' => ?_⟩
  · rcases hx with hx | rfl
    · have := h.kb x hx; simpa using this
    · exact ⟨hb, hb0, by simpa using hS.lt⟩
  · obtain ⟨u, hu, hr⟩ := h.known k' i' hk' hi'
    by_cases e : k' = k ∧ i' = i
    · obtain ⟨rfl, rfl⟩ := e
      exact ⟨_, cell_set hu, fun a ha => by
        obtain rfl := Option.some.inj ha
        exact ⟨b, rfl, .inr rfl, hS.kept (hw.block b hS.lt hb)⟩⟩
    · refine ⟨u, by rw [cell_set_off (.inr (by omega))]; exact hu, fun a ha => ?_⟩
      obtain ⟨b', hb', hK, hS'⟩ := hr a ha
      exact ⟨b', hb', .inl hK, hS'.kept (hw.block b' hS'.lt (h.kb b' hK).1)⟩
end
/-- What a letter leads to, as far as the places were gone through. -/
def letTo8 (ws : List Int) (z : Int) (v : Nat → Nat) (k : Nat) : Nat → Nat := fun j => if j ≤ k then letNx ws z v j else 0
theorem letTo8_zero (ws : List Int) (z : Int) (v : Nat → Nat) (j : Nat) : letTo8 ws z v 0 j = 0 := by
  unfold letTo8
  cases j with
  | zero => rfl
  | succ j => rw [if_neg (by omega)]
theorem letTo8_stay {ws : List Int} {z : Int} {v : Nat → Nat} {k : Nat} (h : ¬ (v k ≠ 0 ∧ ws[k]? = some z)) (j : Nat) : letTo8 ws z v k j ≠ 0 ↔ letTo8 ws z v (k + 1) j ≠ 0 := by
  unfold letTo8
  by_cases e : j = k + 1
  · subst e
    rw [if_neg (by omega), if_pos (Nat.le_refl _), letNx]
    by_cases g : ws[k]? = some z
    · rw [if_pos g]
      have : v k = 0 := by by_cases e : v k = 0; exact e; exact absurd ⟨e, g⟩ h
      rw [this]
    · rw [if_neg g]
  · by_cases g : j ≤ k
    · rw [if_pos g, if_pos (by omega)]
    · rw [if_neg g, if_neg (by omega)]
theorem letTo8_put {ws : List Int} {z : Int} {v : Nat → Nat} {k : Nat} (h1 : v k ≠ 0) (h2 : ws[k]? = some z) (j : Nat) : (if j = k + 1 then (if true = true then 1 else 0) else letTo8 ws z v k j) ≠ 0 ↔ letTo8 ws z v (k + 1) j ≠ 0 := by
  unfold letTo8
  by_cases e : j = k + 1
  · subst e
    rw [if_pos rfl, if_pos (Nat.le_refl _), letNx, if_pos h2]
    simp [h1]
  · rw [if_neg e]
    by_cases g : j ≤ k
    · rw [if_pos g, if_pos (by omega)]
    · rw [if_neg g, if_neg (by omega)]
theorem letTo8_end {ws : List Int} {z : Int} {v : Nat → Nat} (j : Nat) : letTo8 ws z v ws.length j ≠ 0 ↔ letNx ws z v j ≠ 0 := by
  unfold letTo8
  by_cases g : j ≤ ws.length
  · rw [if_pos g]
  · rw [if_neg g]
    have : letNx ws z v j = 0 := by
      cases j with
      | zero => rfl
      | succ j => rw [letNx, List.getElem?_eq_none (by omega)]; simp
    rw [this]
theorem letSpot_step {ws : List Int} {z : Int} {v : Nat → Nat} {b k : Nat} (h1 : v k ≠ 0) (h2 : ws[k]? = some z) : maxOn (letSpot ws z v) b (k + 1) = max (maxOn (letSpot ws z v) b k) (k + 1) := by rw [maxOn, letSpot, if_pos ⟨h1, h2⟩]
theorem letSpot_stay {ws : List Int} {z : Int} {v : Nat → Nat} {b k : Nat} (h : ¬ (v k ≠ 0 ∧ ws[k]? = some z)) : maxOn (letSpot ws z v) b (k + 1) = maxOn (letSpot ws z v) b k := by rw [maxOn, letSpot, if_neg h]; omega
end Go.Proofs.YthnppodnjokaoaaDoor
namespace Go.Proofs.YthnppodnjokaoaaDoor
open Go.RowKit

section
variable {P : List (List (List Int))} {ws : List Int} {w0 : World} {bT : Nat} {aP : Option Addr} {cP : Nat} {aw : Option Addr} {cw : Nat} {K : Nat → Prop}
set_option maxHeartbeats 4000000 in
set_option maxRecDepth 100000 in
theorem strLetter_any (z : Int) (fa : Nat) (v : Nat → Nat) (w : World) (hT : TrIn P ws w0 bT aP cP aw cw K w) (hws : Reads w0 aw ws) (hn : ws.length ≤ 10) (hfa : fa ≤ 10) :
    Calls Tryd.prog 107 #[.pointer (some ⟨bT, 0, none⟩), aggV (strV fa v), .int .i64 z] w fun e w' => e = .returned (aggV (strV (maxOn (letSpot ws z v) fa ws.length) (letNx ws z v))) ∧ Below w.heap.size w w' := by
  have HT : Hid (TrIn P ws w0 bT aP cP aw cw K w) := hT
  have HWS : Hid (Reads w0 aw ws) := hws
  have hbl := hT.lt
  have HEND : Hid (∀ n (W : World), n = maxOn (letSpot ws z v) fa ws.length → Below w.heap.size w W → (aggV (strV n (letTo8 ws z v ws.length)) = aggV (strV (maxOn (letSpot ws z v) fa ws.length) (letNx ws z v))) ∧ Below w.heap.size w W) := fun n W hn hW => ⟨by rw [hn, strV_congr (fun j _ => letTo8_end j)], hW⟩
  obtain ⟨R, HR⟩ : ∃ R, Hid (aggV (strV (maxOn (letSpot ws z v) fa ws.length) (letNx ws z v)) = R) := ⟨_, rfl⟩
  rw [HR.out] at HEND ⊢
  clear hT hws HR
  go_enter Tryd.func107, Tryd.ntmps107
  go_wp2_with (first
    | (refine wpList_boxS rfl _ rfl fa v rfl ?_; intro w1 hB1 hb1 hs1; have l1 : w.heap.size < w1.heap.size := (by omega); clear hs1)
    | (refine wpList_allocS (w := w1) rfl rfl ?_; intro w2 hA2 hb2 hs2; have l2 : w1.heap.size < w2.heap.size := (by omega); clear hs2; have q2 := (hB1.later hb2).far)
    | (refine wpList_str1 rfl _ rfl fa rfl ?_)
    | (refine wpList_allocS (w := w2) rfl rfl ?_; intro w3 hA3 hb3 hs3; clear hs3)
    | (refine wpList_storeS rfl _ _ rfl w2.heap.size 0 (fun _ => 0) fa (fun _ => 0) rfl rfl hA3 ?_; intro w4 hS4 hg4; have g4 : Below w.heap.size w w4 := (((hb1.trans (hb2.mono hb1.size)).trans (hb3.mono (Nat.le_trans hb1.size hb2.size))).grown hg4 (by have := hb1.size; have := hb2.size; have := hb3.size; omega) (fun k e => by cases e; have := hb1.size; have := hb2.size; omega)); have q4 := (HT.out.later g4).c1))
  have HBk : Hid (Str w4 w.heap.size fa v) := (hB1.later (hb2.trans (hb3.mono hb2.size))).grown hg4 (fun e => by have := Option.some.inj e; omega)
  have HS0 : Hid (Str w4 w2.heap.size (maxOn (letSpot ws z v) fa 0) (letTo8 ws z v 0)) := hS4.congr (fun j _ => by rw [letTo8_zero])
  have hl2 : w.heap.size < w2.heap.size := by omega
  have HG0 : Hid (Within w4 w4 (fun b => b = w2.heap.size)) := Within.refl _ _
  have HB4 : Hid (Below w.heap.size w w4) := g4
  have HA4 : Hid (Str w4 w1.heap.size 0 (fun _ => 0)) := (hA2.later hb3).grown hg4 (fun e => by have := Option.some.inj e; omega)
  have hRS : w1.heap.size < w2.heap.size := l2
  have hR0 : w.heap.size < w1.heap.size := l1
  clear hB1 hb1 hA2 hb2 hA3 hb3 hS4 hg4 g4 q2 l1 l2
  generalize w2.heap.size = nS at *
  generalize w1.heap.size = nR at *
  go_loopw [18] (fun s18 wr => ∃ k : Nat, k ≤ ws.length ∧ s18 = .int .i64 (k : Int) ∧ Hid (Str wr nS (maxOn (letSpot ws z v) fa k) (letTo8 ws z v k)) ∧ Hid (Within w4 wr (fun b => b = nS))) (fun s18 _ => ws.length - (intOf s18).toNat)
  case atStart => exact ⟨0, Nat.zero_le _, rfl, HS0, HG0⟩
  case round =>
    obtain ⟨k, hk, rfl, HSk, HGk⟩ := hrel
    clear HS0 HG0
    have HBr : Hid (Below w.heap.size w wr) := HGk.out.below HB4.out (fun b e => by omega)
    have HBx : Hid (Str wr w.heap.size fa v) := HBk.out.kept (HGk.out.block _ HBk.out.lt (by omega))
    have hle : maxOn (letSpot ws z v) fa k ≤ 11 := maxOn_le (by omega) (fun i hi => by unfold letSpot; split <;> omega)
    by_cases hlt : k < ws.length
    · obtain ⟨br, ofr, rfl, hbr, hcell⟩ := HWS.out.at hlt
      have qr0 := (HT.out.later HBr.out).low.cell (p := ⟨br, ofr + k, none⟩) hbr |>.trans (hcell k hlt)
      rw [List.getD_eq_getElem?_getD, List.getElem?_eq_getElem hlt, Option.getD_some] at qr0
      have q0 := HBx.out.end (j := k) (by omega)
      have qe := HSk.out.far
      have fe := HSk.out.frozen 0
      have qk := HSk.out.end (j := k + 1) (by omega)
      have fk := HSk.out.frozen (1 + (k + 1))
      have hsome : ws[k]? = some ws[k] := List.getElem?_eq_getElem hlt
      have HN0 : Hid (¬ (v k ≠ 0 ∧ ws[k]? = some z) → Str wr nS (maxOn (letSpot ws z v) fa (k + 1)) (letTo8 ws z v (k + 1))) := fun h => by rw [letSpot_stay h]; exact HSk.out.congr (fun j _ => letTo8_stay h j)
      have HN1 : Hid (v k ≠ 0 → ws[k]? = some z → ∀ n : Nat, n = max (maxOn (letSpot ws z v) fa k) (k + 1) → Str ((wr.setCell ⟨nS, 1 + (k + 1), none⟩ (.bool true)).setCell ⟨nS, 0, none⟩ (.int .i64 (n : Int))) nS (maxOn (letSpot ws z v) fa (k + 1)) (letTo8 ws z v (k + 1))) := fun h1 h2 n hn' => by
        rw [letSpot_step h1 h2, ← hn']
        exact ((HSk.out.setE true).congr (fun j _ => letTo8_put h1 h2 j)).setF n
      have hkn : k + 1 < 11 := by omega
      have HWk : Hid (Within w4 wr (fun b => b = nS)) := HGk.out
      have hnl : nS < wr.heap.size := HSk.out.lt
      clear HSk hcell HGk HBr HBx
      by_cases hv : v k = 0
      · have HN := HN0.out (fun h => h.1 hv)
        have HNh : Hid (Str wr nS (maxOn (letSpot ws z v) fa (k + 1)) (letTo8 ws z v (k + 1))) := HN
        rw [show decide (v k ≠ 0) = false by simp [hv]] at q0
        clear HN0 HN1 HN hv hsome
        generalize ws[k] = x at *
        generalize maxOn (letSpot ws z v) fa k = m at *
        go_wp2
        go_roundw
        case rel => exact ⟨k + 1, by omega, by go_num, HNh, HWk⟩
        case measure => simp [intOf]; omega
      · rw [show decide (v k ≠ 0) = true by simp [hv]] at q0
        by_cases hz : ws[k] = z
        · have HN := HN1.out hv (by rw [hsome, hz])
          have HNh : Hid (∀ n : Nat, n = max (maxOn (letSpot ws z v) fa k) (k + 1) → Str ((wr.setCell ⟨nS, 1 + (k + 1), none⟩ (.bool true)).setCell ⟨nS, 0, none⟩ (.int .i64 (n : Int))) nS (maxOn (letSpot ws z v) fa (k + 1)) (letTo8 ws z v (k + 1))) := HN
          clear HN0 HN1 HN hsome
          rw [hz] at qr0
          clear hz
          generalize maxOn (letSpot ws z v) fa k = m at *
          obtain ⟨n, hn'⟩ : ∃ n, n = max m (k + 1) := ⟨_, rfl⟩
          have HS := HNh.out n hn'
          have HSh : Hid (Str ((wr.setCell ⟨nS, 1 + (k + 1), none⟩ (.bool true)).setCell ⟨nS, 0, none⟩ (.int .i64 (n : Int))) nS (maxOn (letSpot ws z v) fa (k + 1)) (letTo8 ws z v (k + 1))) := HS
          have HM : Hid (n = max m (k + 1)) := hn'
          clear HNh HS hn'
          go_wp2
          go_roundw
          case rel =>
            rw [show (if (m : Int) < (k : Int) + 1 then (k : Int) + 1 else (m : Int)) = (n : Int) from by rw [HM.out]; split <;> omega]
            exact ⟨k + 1, by omega, by go_num, HSh, (HWk.out.trans (set_within _ _ _ _ rfl)).trans (set_within _ _ _ _ rfl)⟩
          case measure => simp [intOf]; omega
        · have HN := HN0.out (fun h => hz (by have := h.2; rw [hsome] at this; exact Option.some.inj this))
          have HNh : Hid (Str wr nS (maxOn (letSpot ws z v) fa (k + 1)) (letTo8 ws z v (k + 1))) := HN
          clear HN0 HN1 HN hsome
          generalize ws[k] = x at *
          generalize maxOn (letSpot ws z v) fa k = m at *
          go_wp2
          go_roundw
          case rel => exact ⟨k + 1, by omega, by go_num, HNh, HWk⟩
          case measure => simp [intOf]; omega
    · have e : k = ws.length := by omega
      subst e
      have HE := HEND.out _ (wr) rfl HBr.out
      have HEh : Hid (aggV (strV (maxOn (letSpot ws z v) fa ws.length) (letTo8 ws z v ws.length)) = R) := HE.1
      have HSl : Hid (Str wr nS (maxOn (letSpot ws z v) fa ws.length) (letTo8 ws z v ws.length)) := HSk.out
      have HAr : Hid (Str wr nR 0 (fun _ => 0)) := HA4.out.kept (HGk.out.block _ HA4.out.lt (by omega))
      have HBr2 : Hid (Below w.heap.size w wr) := HBr.out
      clear HE HSk HEND HBx HA4 HGk HBr
      generalize maxOn (letSpot ws z v) fa ws.length = m at *
      generalize letTo8 ws z v ws.length = u at *
      go_wp2_with (first | (refine wpList_loadS rfl _ rfl nS m u rfl HSl.out ?_) | (refine wpList_storeS rfl _ _ rfl nR 0 (fun _ => 0) m u rfl rfl HAr.out ?_; intro w6 hS6 hg6))
      exact bodyPost_ret (v := aggV (strV m u)) (ret_cellS rfl rfl hS6) rfl ⟨by rw [HEh.out], HBr2.out.grown hg6 HBr2.out.size (fun k e => by cases e; omega)⟩
end
end Go.Proofs.YthnppodnjokaoaaDoor
namespace Go.Proofs.YthnppodnjokaoaaDoor
open Go.RowKit

theorem sumTo_none {f : Nat → Nat} {m n : Nat} (hm : m ≤ n) (h : ∀ i, m ≤ i → i < n → f i = 0) : sumTo f n = sumTo f m := by
  induction n with
  | zero => have : m = 0 := by omega
            subst this; rfl
  | succ n ih =>
    by_cases e : m = n + 1
    · subst e; rfl
    · rw [sumTo, ih (by omega) (fun i h1 h2 => h i h1 (by omega)), h n (by omega) (by omega)]; rfl
/-- Where a part leads, as far as the places were gone through. -/
def partTo8 (W : Nat → Nat → Nat) (v : Nat → Nat) (q : Nat) : Nat → Nat := fun j => sumTo (fun i => v i * W i j) q
theorem partTo8_stay {W : Nat → Nat → Nat} {v : Nat → Nat} {q : Nat} (h : v q = 0) (j : Nat) : partTo8 W v q j ≠ 0 ↔ partTo8 W v (q + 1) j ≠ 0 := by
  unfold partTo8
  rw [sumTo, h, Nat.zero_mul]; rfl
theorem partTo8_put {W : Nat → Nat → Nat} {v : Nat → Nat} {q : Nat} (h : v q ≠ 0) (j : Nat) : partTo8 W v q j + W q j ≠ 0 ↔ partTo8 W v (q + 1) j ≠ 0 := by
  unfold partTo8
  rw [sumTo]
  have : v q * W q j = 0 ↔ W q j = 0 := by
    rw [Nat.mul_eq_zero]
    exact ⟨fun e => e.elim (fun e => absurd e h) id, .inr⟩
  generalize v q * W q j = x at *
  omega
theorem partTo8_end {W : Nat → Nat → Nat} {v : Nat → Nat} {n : Nat} (hn : n ≤ 10) (hv : ∀ j, n < j → v j = 0) (j : Nat) : partTo8 W v 11 j ≠ 0 ↔ partNx n W v j ≠ 0 := by
  unfold partTo8 partNx
  rw [sumTo_none (m := n + 1) (by omega) (fun i h1 _ => by rw [hv i (by omega), Nat.zero_mul])]
  unfold capN
  omega
theorem partSpot_step {F : Nat → Nat → Nat} {k : Nat} {v : Nat → Nat} {b q : Nat} (h : v q ≠ 0) : maxOn (partSpot F k v) b (q + 1) = max (maxOn (partSpot F k v) b q) (F k q) := by rw [maxOn, partSpot, if_neg h]
theorem partSpot_stay {F : Nat → Nat → Nat} {k : Nat} {v : Nat → Nat} {b q : Nat} (h : v q = 0) : maxOn (partSpot F k v) b (q + 1) = maxOn (partSpot F k v) b q := by rw [maxOn, partSpot, if_pos h]; omega
theorem partSpot_end {F : Nat → Nat → Nat} {k : Nat} {v : Nat → Nat} {b n : Nat} (hn : n ≤ 10) (hv : ∀ j, n < j → v j = 0) : maxOn (partSpot F k v) b 11 = maxOn (partSpot F k v) b (n + 1) :=
  maxOn_none (by omega) (fun i h1 _ => by unfold partSpot; rw [if_pos (hv i (by omega))])

/-- impl.tracer.ofPart does what it should at a part and a place. -/
def StrPartOk (P : List (List (List Int))) (ws : List Int) (w0 : World) (bT : Nat) (aP : Option Addr) (cP : Nat) (aw : Option Addr) (cw : Nat) (k i : Nat) : Prop :=
  ∀ (W : World) (K : Nat → Prop), TrIn P ws w0 bT aP cP aw cw K W → Calls Tryd.prog 117 #[.pointer (some ⟨bT, 0, none⟩), .int .i64 (k : Int), .int .i64 (i : Int)] W fun e w' => e = .returned (aggV (strV (farP P ws k i) (way P ws k i))) ∧ Hid (∃ K', TrIn P ws w0 bT aP cP aw cw K' w' ∧ ∀ b, K' b → K b ∨ W.heap.size ≤ b) ∧ Within W w' (fun b => b = bT)
section
variable {P : List (List (List Int))} {ws : List Int} {w0 : World} {bT : Nat} {aP : Option Addr} {cP : Nat} {aw : Option Addr} {cw : Nat} {K : Nat → Prop}
set_option maxHeartbeats 4000000 in
set_option maxRecDepth 100000 in
theorem strPart_any (k fa : Nat) (v : Nat → Nat) (w : World) (hT : TrIn P ws w0 bT aP cP aw cw K w) (hn : ws.length ≤ 10) (hv : ∀ j, ws.length < j → v j = 0)
    (hpart : ∀ j, j ≤ ws.length → v j ≠ 0 → StrPartOk P ws w0 bT aP cP aw cw k j) :
    Calls Tryd.prog 108 #[.pointer (some ⟨bT, 0, none⟩), aggV (strV fa v), .int .i64 (k : Int)] w fun e w' => e = .returned (aggV (strV (maxOn (partSpot (farP P ws) k v) fa (ws.length + 1)) (partNx ws.length (way P ws k) v))) ∧ Hid (∃ K', TrIn P ws w0 bT aP cP aw cw K' w' ∧ ∀ b, K' b → K b ∨ w.heap.size ≤ b) ∧ Within w w' (fun b => b = bT) := by
  have HT : Hid (TrIn P ws w0 bT aP cP aw cw K w) := hT
  have hbl := hT.lt
  have hb0 := hT.low.size
  have HKB : Hid (∀ b, K b → b < w.heap.size) := fun b e => (hT.kb b e).2.2
  have HV : Hid (∀ j, ws.length < j → v j = 0) := hv
  have HPA : Hid (∀ j, j < 11 → v j ≠ 0 → ∀ (W : World) (K : Nat → Prop), TrIn P ws w0 bT aP cP aw cw K W → Calls Tryd.prog 117 #[.pointer (some ⟨bT, 0, none⟩), .int .i64 (k : Int), .int .i64 (j : Int)] W fun e w' => e = .returned (aggV (strV (farP P ws k j) (way P ws k j))) ∧ Hid (∃ K', TrIn P ws w0 bT aP cP aw cw K' w' ∧ ∀ b, K' b → K b ∨ W.heap.size ≤ b) ∧ Within W w' (fun b => b = bT)) := fun j _ h => hpart j (by by_cases e : j ≤ ws.length; exact e; exact absurd (hv j (by omega)) h) h
  have HEND : Hid (strV (maxOn (partSpot (farP P ws) k v) fa 11) (partTo8 (way P ws k) v 11) = strV (maxOn (partSpot (farP P ws) k v) fa (ws.length + 1)) (partNx ws.length (way P ws k) v)) := by
    show _ = _
    rw [partSpot_end hn hv, strV_congr (fun j _ => partTo8_end hn hv j)]
  obtain ⟨R, HR⟩ : ∃ R, Hid (aggV (strV (maxOn (partSpot (farP P ws) k v) fa (ws.length + 1)) (partNx ws.length (way P ws k) v)) = R) := ⟨_, rfl⟩
  rw [HR.out]
  have HEND2 : Hid (aggV (strV (maxOn (partSpot (farP P ws) k v) fa 11) (partTo8 (way P ws k) v 11)) = R) := by show _ = _; rw [HEND.out]; exact HR.out
  clear hT hpart hv HR HEND
  go_enter Tryd.func108, Tryd.ntmps108
  go_wp2_with (first
    | (refine wpList_boxS rfl _ rfl fa v rfl ?_; intro w1 hB1 hb1 hs1; have l1 : w.heap.size < w1.heap.size := (by omega); clear hs1)
    | (refine wpList_allocS (w := w1) rfl rfl ?_; intro w2 hA2 hb2 hs2; have l2 : w1.heap.size < w2.heap.size := (by omega); clear hs2; have q2 := (hB1.later hb2).far)
    | (refine wpList_str1 rfl _ rfl fa rfl ?_)
    | (refine wpList_allocS (w := w2) rfl rfl ?_; intro w3 hA3 hb3 hs3; clear hs3)
    | (refine wpList_storeS rfl _ _ rfl w2.heap.size 0 (fun _ => 0) fa (fun _ => 0) rfl rfl hA3 ?_; intro w4 hS4 hg4; have g4 : Below w.heap.size w w4 := (((hb1.trans (hb2.mono hb1.size)).trans (hb3.mono (Nat.le_trans hb1.size hb2.size))).grown hg4 (by have := hb1.size; have := hb2.size; have := hb3.size; omega) (fun k e => by cases e; have := hb1.size; have := hb2.size; omega)); have HBk : Hid (Str w4 w.heap.size fa v) := (hB1.later (hb2.trans (hb3.mono hb2.size))).grown hg4 (fun e => by have := Option.some.inj e; omega))
    | (refine wpList_endsV rfl _ rfl w.heap.size fa v rfl HBk.out ?_))
  have HS0 : Hid (Str w4 w2.heap.size (maxOn (partSpot (farP P ws) k v) fa 0) (partTo8 (way P ws k) v 0)) := hS4
  have HA4 : Hid (Str w4 w1.heap.size 0 (fun _ => 0)) := (hA2.later hb3).grown hg4 (fun e => by have := Option.some.inj e; omega)
  have hRS : w1.heap.size < w2.heap.size := l2
  have hR0 : w.heap.size < w1.heap.size := l1
  have hSl : w2.heap.size < w4.heap.size := hS4.lt
  have HB4 : Hid (Below w.heap.size w w4) := g4
  have HT4 : Hid (TrIn P ws w0 bT aP cP aw cw K w4) := HT.out.later g4
  have HG0 : Hid (Within w4 w4 (fun b => b = bT ∨ b = w2.heap.size)) := Within.refl _ _
  clear hB1 hb1 hA2 hb2 hA3 hb3 hS4 hg4 g4 q2 l1 l2 HBk HT
  generalize w2.heap.size = nS at *
  generalize w1.heap.size = nR at *
  have HL : Hid ((eB v).length = 11) := eB_length v
  have HU : Hid (∀ q, q < 11 → (eB v).getD q false = decide (v q ≠ 0)) := fun q hq => by rw [List.getD_eq_getElem?_getD, List.getElem?_eq_getElem (by rw [eB_length]; exact hq), eB_get v hq]; rfl
  obtain ⟨l, hl⟩ : ∃ l, Hid (eB v = l) := ⟨_, rfl⟩
  rw [hl.out] at HU HL ⊢
  clear hl
  go_loopw [15] (fun s15 wr => ∃ q : Nat, q ≤ 11 ∧ s15 = .int .i64 (q : Int) ∧ Hid (Str wr nS (maxOn (partSpot (farP P ws) k v) fa q) (partTo8 (way P ws k) v q)) ∧ Hid (Within w4 wr (fun b => b = bT ∨ b = nS)) ∧ Hid (∃ K', TrIn P ws w0 bT aP cP aw cw K' wr ∧ ∀ b, K' b → K b ∨ w4.heap.size ≤ b)) (fun s15 _ => 11 - (intOf s15).toNat)
  case atStart => exact ⟨0, Nat.zero_le _, rfl, HS0, HG0, ⟨K, HT4.out, fun b e => .inl e⟩⟩
  case round =>
    obtain ⟨q, hq, rfl, HSq, HGq, HKq⟩ := hrel
    obtain ⟨wA, hwA⟩ : ∃ y, y = wr := ⟨_, rfl⟩
    subst hwA
    clear HS0 HG0
    by_cases hlt : q < 11
    · have hqI : (q : Int) < 11 := by omega
      have HUq := HU.out q hlt
      by_cases hvq : v q = 0
      · rw [show decide (v q ≠ 0) = false by simp [hvq]] at HUq
        have HUh : Hid (l.getD q false = false) := HUq
        have HN : Hid (Str wA nS (maxOn (partSpot (farP P ws) k v) fa (q + 1)) (partTo8 (way P ws k) v (q + 1))) := by rw [partSpot_stay hvq]; exact HSq.out.congr (fun j _ => partTo8_stay hvq j)
        clear HSq HUq hvq
        go_wp2_with (refine wpList_indexB rfl 128 4 _ _ rfl l q rfl rfl (by rw [HL.out]; exact u_places) u_bool bool_size (by rw [HL.out]; exact hlt) ?_; rw [HUh.out])
        go_roundw
        case rel => exact ⟨q + 1, by omega, by go_num, HN, HGq, HKq⟩
        case measure => simp [intOf]; omega
      · rw [show decide (v q ≠ 0) = true by simp [hvq]] at HUq
        have HUh : Hid (l.getD q false = true) := HUq
        obtain ⟨K1, hT1, hK1⟩ := HKq.out
        have X := HPA.out q hlt hvq wA K1 hT1
        have HK1 : Hid (∀ b, K1 b → K b ∨ w4.heap.size ≤ b) := hK1
        have HNX : Hid (∀ w7, Str w7 nS (max (maxOn (partSpot (farP P ws) k v) fa q) (farP P ws k q)) (fun j => partTo8 (way P ws k) v q j + way P ws k q j) → Str w7 nS (maxOn (partSpot (farP P ws) k v) fa (q + 1)) (partTo8 (way P ws k) v (q + 1))) := fun w7 h => by rw [partSpot_step hvq]; exact h.congr (fun j _ => partTo8_put hvq j)
        clear HKq hK1 hT1 HUq hvq
        generalize farP P ws k q = f at *
        generalize way P ws k q = u at *
        go_wp2_with (first
          | (refine wpList_indexB rfl 128 4 _ _ rfl l q rfl rfl (by rw [HL.out]; exact u_places) u_bool bool_size (by rw [HL.out]; exact hlt) ?_; rw [HUh.out])
          | (go_at_call 117; refine X.mono ?_; rintro e w6 ⟨rfl, HK6, hW6⟩; have hS6 := HSq.out.kept (hW6.block nS HSq.out.lt (by omega)))
          | (go_at_call 116; refine (strJoin_any nS _ f _ u w6 hS6).mono ?_; rintro e w7 ⟨rfl, hS7, hg7⟩))
        obtain ⟨K2, hT2, hK2⟩ := HK6.out
        have hWn : Within w6 w7 (fun b => b = nS) := Within.of_grown hg7 (fun k e => by cases e; rfl)
        have hszA := HGq.out.size
        have hNS : ¬ K2 nS := fun e => by
          rcases hK2 nS e with e | e
          · rcases HK1.out nS e with e | e
            · have := HKB.out nS e; omega
            · omega
          · omega
        have HKn : Hid (∃ K', TrIn P ws w0 bT aP cP aw cw K' w7 ∧ ∀ b, K' b → K b ∨ w4.heap.size ≤ b) := ⟨K2, hT2.kept hWn (fun b e => by subst e; exact ⟨by omega, by omega, hNS⟩), fun b e => by
          rcases hK2 b e with e | e
          · exact HK1.out b e
          · right; omega⟩
        have HSn : Hid (Str w7 nS (maxOn (partSpot (farP P ws) k v) fa (q + 1)) (partTo8 (way P ws k) v (q + 1))) := HNX.out w7 hS7
        have HGn : Hid (Within w4 w7 (fun b => b = bT ∨ b = nS)) := (HGq.out.trans (hW6.mono (fun b e => .inl e))).trans (hWn.mono (fun b e => .inr e))
        clear hT2 hK2 hS6 hS7 hg7 hW6 hWn X HK6 HNX
        go_wp2
        go_roundw
        case rel => exact ⟨q + 1, by omega, by go_num, HSn, HGn, HKn⟩
        case measure => simp [intOf]; omega
    · have e : q = 11 := by omega
      subst e
      have HAr : Hid (Str wA nR 0 (fun _ => 0)) := HA4.out.kept (HGq.out.block _ HA4.out.lt (by omega))
      clear HU HPA HA4
      generalize maxOn (partSpot (farP P ws) k v) fa 11 = m at *
      generalize partTo8 (way P ws k) v 11 = u at *
      go_wp2_with (first | (refine wpList_loadS rfl _ rfl nS m u rfl HSq.out ?_) | (refine wpList_storeS rfl _ _ rfl nR 0 (fun _ => 0) m u rfl rfl HAr.out ?_; intro w6 hS6 hg6))
      obtain ⟨K2, hT2, hK2⟩ := HKq.out
      have hWn : Within wA w6 (fun b => b = nR) := Within.of_grown hg6 (fun k e => by cases e; rfl)
      have hNR : ¬ K2 nR := fun e => by
        rcases hK2 nR e with e | e
        · have := HKB.out nR e; omega
        · omega
      have hs4 := HB4.out.size
      exact bodyPost_ret (v := aggV (strV m u)) (ret_cellS rfl rfl hS6) rfl ⟨by rw [HEND2.out], ⟨K2, hT2.kept hWn (fun b e => by subst e; exact ⟨by omega, by omega, hNR⟩), fun b e => (hK2 b e).imp id (fun h => by omega)⟩, ((Within.of_below HB4.out (fun b => b = bT)).comp HGq.out (fun b e => by rcases e with e | e; exact .inl e; exact .inr (by omega))).comp hWn (fun b e => .inr (by omega))⟩
end
end Go.Proofs.YthnppodnjokaoaaDoor
namespace Go.Proofs.YthnppodnjokaoaaDoor
open Go.RowKit

theorem eq_places {w : World} {cs bs : List Bool} (h1 : cs.length = 11) (h2 : bs.length = 11) : (Op.equalIn 10000 128 (aggB cs) (aggB bs)).run Tryd.prog w = .ok (decide (cs = bs)) w := run_eq_flags 9998 u_places u_bool bool_size h1 h2
theorem farAt_le {w : List Int} {W : Nat → Nat → Nat → Nat} {F : Nat → Nat → Nat} {i : Nat} {row : List Int} (hi : i ≤ w.length) (hF : ∀ k j, j ≤ w.length → F k j ≤ w.length) (s : Nat) : farAt w W F i row s ≤ w.length :=
  maxOn_le (farPre_le hi hF s) (fun j hj => by unfold there; split <;> omega)
section
variable {P : List (List (List Int))} {ws : List Int} {w0 : World} {bT : Nat} {aP : Option Addr} {cP : Nat} {aw : Option Addr} {cw : Nat} {K : Nat → Prop}
theorem str_fin {row : List Int} {i s : Nat} (hi : i ≤ ws.length) (hs : s ≤ row.length) (h : s = row.length ∨ eB (rowNx ws (way P ws) (deltaV i) (row.take s)) = List.replicate 11 false) (hn : ws.length ≤ 10) :
    strV (farAt ws (way P ws) (farP P ws) i row s) (rowNx ws (way P ws) (deltaV i) (row.take s)) = strV (farRow ws (way P ws) (farP P ws) i row) (rowNx ws (way P ws) (deltaV i) row) := by
  rcases h with rfl | h
  · rw [farAt_all, List.take_length]
  · have hz := eB_dead.1 h
    have hz' : ∀ j, j ≤ ws.length → rowNx ws (way P ws) (deltaV i) (row.take s) j = 0 := fun j hj => hz j (by omega)
    have e1 : farAt ws (way P ws) (farP P ws) i row s = farRow ws (way P ws) (farP P ws) i row := by
      rw [← farAt_all, ← farAt_dead hz' (row.length - s)]
      congr 1; omega
    have e2 : eB (rowNx ws (way P ws) (deltaV i) (row.take s)) = eB (rowNx ws (way P ws) (deltaV i) row) := eB_congr (fun j hj => by
      have h1 := hz j hj
      have h2 : rowNx ws (way P ws) (deltaV i) row j = 0 := by
        by_cases e : j ≤ ws.length
        · have := rowNx_dead_at hz' row.length hs j e
          rwa [List.take_length] at this
        · exact rowNx_out (fun k i j => way_out k i j) (fun j => deltaV_out hi) j (by omega)
      rw [h1, h2])
    unfold strV
    rw [e1, e2]
set_option maxHeartbeats 8000000 in
set_option maxRecDepth 100000 in
theorem strRow_any (row : List Int) (ar : Option Addr) (cr i : Nat) (w : World) (hT : TrIn P ws w0 bT aP cP aw cw K w) (hws : Reads w0 aw ws) (hr : Reads w ar row) (hrb : ∀ b off, row ≠ [] → ar = some ⟨b, off, none⟩ → b ≠ bT) (hrl : row.length ≤ 1048576) (hn : ws.length ≤ 10) (hi : i ≤ ws.length) (hrow : ∀ x ∈ row, symOk P.length x = true) (F : Fits P) (hL : NoLoop P)
    (hpart : ∀ s (hs : s < row.length), 100 ≤ row[s] → ∀ j, j ≤ ws.length → rowNx ws (way P ws) (deltaV i) (row.take s) j ≠ 0 → StrPartOk P ws w0 bT aP cP aw cw (row[s] - 100).toNat j) :
    Calls Tryd.prog 97 #[.pointer (some ⟨bT, 0, none⟩), .slice ar row.length cr, .int .i64 (i : Int)] w fun e w' => e = .returned (aggV (strV (farRow ws (way P ws) (farP P ws) i row) (rowNx ws (way P ws) (deltaV i) row))) ∧ Hid (∃ K', TrIn P ws w0 bT aP cP aw cw K' w' ∧ ∀ b, K' b → K b ∨ w.heap.size ≤ b) ∧ Within w w' (fun b => b = bT) := by
  have HT : Hid (TrIn P ws w0 bT aP cP aw cw K w) := hT
  have HWS : Hid (Reads w0 aw ws) := hws
  have HRD : Hid (Reads w ar row) := hr
  have HRB : Hid (∀ b off, row ≠ [] → ar = some ⟨b, off, none⟩ → b ≠ bT) := hrb
  have hbl := hT.lt
  have hb0 := hT.low.size
  have HKB : Hid (∀ b, K b → b < w.heap.size) := fun b e => (hT.kb b e).2.2
  have HSY : Hid (∀ x ∈ row, symOk P.length x = true) := hrow
  have HPA : Hid (∀ s (hs : s < row.length), 100 ≤ row[s] → ∀ j, j ≤ ws.length → rowNx ws (way P ws) (deltaV i) (row.take s) j ≠ 0 → StrPartOk P ws w0 bT aP cP aw cw (row[s] - 100).toNat j) := hpart
  have HOUT : Hid (∀ s j, ws.length < j → rowNx ws (way P ws) (deltaV i) (row.take s) j = 0) := fun s j hj => rowNx_out (fun k i j => way_out k i j) (fun j => deltaV_out hi) j hj
  have HLE : Hid (∀ s, farAt ws (way P ws) (farP P ws) i row s ≤ ws.length) := fun s => farAt_le hi (fun k j hj => farP_le P ws k j hj) s
  have HFIN : Hid (∀ s, s ≤ row.length → (s = row.length ∨ eB (rowNx ws (way P ws) (deltaV i) (row.take s)) = List.replicate 11 false) → aggV (strV (farAt ws (way P ws) (farP P ws) i row s) (rowNx ws (way P ws) (deltaV i) (row.take s))) = aggV (strV (farRow ws (way P ws) (farP P ws) i row) (rowNx ws (way P ws) (deltaV i) row))) := fun s hs h => by rw [str_fin hi hs h hn]
  have HLT : Hid (∀ s (hs : s < row.length), row[s] < 100 → farAt ws (way P ws) (farP P ws) i row (s + 1) = maxOn (letSpot ws row[s] (rowNx ws (way P ws) (deltaV i) (row.take s))) (farAt ws (way P ws) (farP P ws) i row s) ws.length ∧ rowNx ws (way P ws) (deltaV i) (row.take (s + 1)) = letNx ws row[s] (rowNx ws (way P ws) (deltaV i) (row.take s))) := fun s hs h => ⟨farAt_letter hs h, by rw [rowNx_step hs]; unfold stepNx; rw [if_pos h]⟩
  have HPT : Hid (∀ s (hs : s < row.length), 100 ≤ row[s] → farAt ws (way P ws) (farP P ws) i row (s + 1) = maxOn (partSpot (farP P ws) (row[s] - 100).toNat (rowNx ws (way P ws) (deltaV i) (row.take s))) (farAt ws (way P ws) (farP P ws) i row s) (ws.length + 1) ∧ rowNx ws (way P ws) (deltaV i) (row.take (s + 1)) = partNx ws.length (way P ws (row[s] - 100).toNat) (rowNx ws (way P ws) (deltaV i) (row.take s))) := fun s hs h => ⟨farAt_part hs h (fun j hj j' hne => way_far F hL hj hne), by rw [rowNx_step hs]; unfold stepNx; rw [if_neg (by omega)]⟩
  have HST : Hid (i = farAt ws (way P ws) (farP P ws) i row 0) := farAt_zero.symm
  obtain ⟨R, HR⟩ : ∃ R, Hid (aggV (strV (farRow ws (way P ws) (farP P ws) i row) (rowNx ws (way P ws) (deltaV i) row)) = R) := ⟨_, rfl⟩
  rw [HR.out] at HFIN ⊢
  clear hT hws hr hrb hpart hrow HR
  have hi11 : i < 11 := by omega
  go_enter Tryd.func97, Tryd.ntmps97
  go_wp2_with (refine wpList_allocS (w := w) rfl rfl ?_; intro w1 hA1 hb1 hs1)
  have l1 : w.heap.size < w1.heap.size := by omega
  clear hs1
  go_step3
  go_wp2_with (first
    | (refine wpList_str1 rfl _ rfl i rfl ?_)
    | (refine wpList_allocS (w := w1) rfl rfl ?_; intro w2 hA2 hb2 hs2; clear hs2)
    | (refine wpList_storeS rfl _ _ rfl w1.heap.size 0 (fun _ => 0) i (fun _ => 0) rfl rfl hA2 ?_; intro w3 hS3 hg3; have q3 := hS3.end hi11; have f3 := hS3.frozen (1 + i)))
  have g3 : Below w.heap.size w w3 := (hb1.trans (hb2.mono hb1.size)).grown hg3 (by have := hb1.size; have := hb2.size; omega) (fun k e => by cases e; omega)
  have HA3 : Hid (Str w3 w.heap.size 0 (fun _ => 0)) := (hA1.later hb2).grown hg3 (fun e => by have := Option.some.inj e; omega)
  have hS4 := (hS3.setE (j := i) true).congr (u := rowNx ws (way P ws) (deltaV i) (row.take 0)) (fun j _ => by
    show _ ↔ deltaV i j ≠ 0
    unfold deltaV; by_cases e : j = i <;> simp [e])
  have hW4 : Within w3 (w3.setCell ⟨w1.heap.size, 1 + i, none⟩ (.bool true)) (fun b => b = w1.heap.size) := set_within _ _ _ _ rfl
  have hB4 : Below w.heap.size w (w3.setCell ⟨w1.heap.size, 1 + i, none⟩ (.bool true)) := hW4.below g3 (fun b e => by omega)
  have HA4 : Hid (Str (w3.setCell ⟨w1.heap.size, 1 + i, none⟩ (.bool true)) w.heap.size 0 (fun _ => 0)) := HA3.out.kept (hW4.block _ HA3.out.lt (by omega))
  have HS4 : Hid (Str (w3.setCell ⟨w1.heap.size, 1 + i, none⟩ (.bool true)) w1.heap.size (farAt ws (way P ws) (farP P ws) i row 0) (rowNx ws (way P ws) (deltaV i) (row.take 0))) := by rw [← HST.out]; exact hS4
  have HB4 : Hid (Below w.heap.size w (w3.setCell ⟨w1.heap.size, 1 + i, none⟩ (.bool true))) := hB4
  have hSl : w1.heap.size < (w3.setCell ⟨w1.heap.size, 1 + i, none⟩ (.bool true)).heap.size := hS4.lt
  clear hA1 hb1 hA2 hb2 hS3 hg3 g3 HA3 hS4 hW4 hB4 q3 f3 HST
  generalize w3.setCell ⟨w1.heap.size, 1 + i, none⟩ (.bool true) = w4 at *
  have hRS : w.heap.size < w1.heap.size := l1
  clear l1
  generalize w1.heap.size = nS at *
  have HT4 : Hid (TrIn P ws w0 bT aP cP aw cw K w4) := HT.out.later HB4.out
  have HG0 : Hid (Within w4 w4 (fun b => b = bT ∨ b = nS)) := Within.refl _ _
  clear HT
  go_step3
  go_wp2
  go_loopw [17] (fun s17 wr => ∃ s : Nat, s ≤ row.length ∧ s17 = .int .i64 (s : Int) ∧ Hid (Str wr nS (farAt ws (way P ws) (farP P ws) i row s) (rowNx ws (way P ws) (deltaV i) (row.take s))) ∧ Hid (Within w4 wr (fun b => b = bT ∨ b = nS)) ∧ Hid (∃ K', TrIn P ws w0 bT aP cP aw cw K' wr ∧ ∀ b, K' b → K b ∨ w4.heap.size ≤ b)) (fun s17 _ => row.length - (intOf s17).toNat)
  case atStart => exact ⟨0, Nat.zero_le _, rfl, HS4, HG0, ⟨K, HT4.out, fun b e => .inl e⟩⟩
  case round =>
    obtain ⟨s, hs, rfl, HSq, HGq, HKq⟩ := hrel
    obtain ⟨wA, hwA⟩ : ∃ y, y = wr := ⟨_, rfl⟩
    subst hwA
    clear HS4 HG0
    have HAr : Hid (Str wA w.heap.size 0 (fun _ => 0)) := HA4.out.kept (HGq.out.block _ HA4.out.lt (by omega))
    have HENDW : Hid (∀ (m : Nat) (u : Nat → Nat) (w6 : World), aggV (strV m u) = R → wA.grownBy w6 (some w.heap.size) → (aggV (strV m u) = R) ∧ Hid (∃ K', TrIn P ws w0 bT aP cP aw cw K' w6 ∧ ∀ b, K' b → K b ∨ w.heap.size ≤ b) ∧ Within w w6 (fun b => b = bT)) := fun m u w6 hR hg6 => by
      obtain ⟨K2, hT2, hK2⟩ := HKq.out
      have hs4 := HB4.out.size
      have hWn : Within wA w6 (fun b => b = w.heap.size) := Within.of_grown hg6 (fun k e => by cases e; rfl)
      have hNR : ¬ K2 w.heap.size := fun e => by
        rcases hK2 _ e with e | e
        · have := HKB.out _ e; omega
        · omega
      exact ⟨hR, ⟨K2, hT2.kept hWn (fun b e => by subst e; exact ⟨by omega, by omega, hNR⟩), fun b e => (hK2 b e).imp id (fun h => by omega)⟩, ((Within.of_below HB4.out (fun b => b = bT)).comp HGq.out (fun b e => by rcases e with e | e; exact .inl e; exact .inr (by omega))).comp hWn (fun b e => .inr (by omega))⟩
    by_cases hlt : s < row.length
    · obtain ⟨K1, hT1, hK1⟩ := HKq.out
      obtain ⟨br, ofr, rfl, hbr, hcell⟩ := HRD.out.at hlt
      have hbrT : br ≠ bT := HRB.out br ofr (fun e => by rw [e] at hlt; simp at hlt) rfl
      have hbr4 : br < w4.heap.size := Nat.lt_of_lt_of_le hbr HB4.out.size
      have qr0 := (blk_cell (o := ofr + s) (HGq.out.block br hbr4 (fun e => e.elim hbrT (fun e => by omega)))).trans ((HB4.out.cell (p := ⟨br, ofr + s, none⟩) hbr).trans (hcell s hlt))
      rw [List.getD_eq_getElem?_getD, List.getElem?_eq_getElem hlt, Option.getD_some] at qr0
      have hsI : (s : Int) < (row.length : Int) := by omega
      by_cases hd : eB (rowNx ws (way P ws) (deltaV i) (row.take s)) = List.replicate 11 false
      · have HF : Hid (aggV (strV (farAt ws (way P ws) (farP P ws) i row s) (rowNx ws (way P ws) (deltaV i) (row.take s))) = R) := HFIN.out s hs (.inr hd)
        have HD : Hid (eB (rowNx ws (way P ws) (deltaV i) (row.take s)) = List.replicate 11 false) := hd
        clear HPT HLT HFIN HPA hcell hd hT1 hK1
        generalize row[s] = z at *
        generalize farAt ws (way P ws) (farP P ws) i row s = m at *
        generalize rowNx ws (way P ws) (deltaV i) (row.take s) = v at *
        go_wp2_with (first
          | (refine wpList_endsV rfl _ rfl nS m v rfl HSq.out ?_)
          | (refine wpList_places0 rfl rfl ?_)
          | (refine wpList_eqlB rfl 128 _ _ _ rfl (eB v) (List.replicate 11 false) rfl rfl (by kernel_rfl) (eq_places (eB_length v) rfl) ?_; rw [decide_eq_true HD.out])
          | (refine wpList_loadS rfl _ rfl nS m v rfl HSq.out ?_)
          | (refine wpList_storeS rfl _ _ rfl w.heap.size 0 (fun _ => 0) m v rfl rfl HAr.out ?_; intro w6 hS6 hg6))
        have HZ := HENDW.out m v w6 HF.out hg6
        rw [Exit.noGoto_ret]
        exact bodyPost_ret (v := aggV (strV m v)) (ret_cellS rfl rfl hS6) rfl ⟨by rw [HZ.1], HZ.2⟩
      · have HD : Hid (¬ eB (rowNx ws (way P ws) (deltaV i) (row.take s)) = List.replicate 11 false) := hd
        have hsy := symOk_true.1 (HSY.out row[s] (List.getElem_mem hlt))
        have hle := HLE.out s
        have HO := HOUT.out s
        have HOh : Hid (∀ j, ws.length < j → rowNx ws (way P ws) (deltaV i) (row.take s) j = 0) := HO
        have HK1 : Hid (∀ b, K1 b → K b ∨ w4.heap.size ≤ b) := hK1
        have HT1 : Hid (TrIn P ws w0 bT aP cP aw cw K1 wA) := hT1
        have hszA := HGq.out.size
        by_cases hz : row[s] < 100
        · have HN := HLT.out s hlt hz
          have hin : inB row[s] 0 25 = true := by rw [inB_true]; omega
          have HNh : Hid (farAt ws (way P ws) (farP P ws) i row (s + 1) = maxOn (letSpot ws row[s] (rowNx ws (way P ws) (deltaV i) (row.take s))) (farAt ws (way P ws) (farP P ws) i row s) ws.length ∧ rowNx ws (way P ws) (deltaV i) (row.take (s + 1)) = letNx ws row[s] (rowNx ws (way P ws) (deltaV i) (row.take s))) := HN
          clear HPT HLT HFIN HPA hcell hd hT1 hK1 HN HO hsy HENDW HKq
          generalize row[s] = z at *
          generalize farAt ws (way P ws) (farP P ws) i row s = m at *
          generalize rowNx ws (way P ws) (deltaV i) (row.take s) = v at *
          have X := strLetter_any z m v wA HT1.out HWS.out hn (by omega)
          go_wp2_with (first
            | (refine wpList_endsV rfl _ rfl nS m v rfl HSq.out ?_)
            | (refine wpList_places0 rfl rfl ?_)
            | (refine wpList_eqlB rfl 128 _ _ _ rfl (eB v) (List.replicate 11 false) rfl rfl (by kernel_rfl) (eq_places (eB_length v) rfl) ?_; rw [decide_eq_false HD.out])
            | (go_at_call 79; refine (isLetter_any _ _).mono ?_; rintro e w5 ⟨rfl, h5⟩; replace h5 := h5.symm; subst h5; rw [hin])
            | (refine wpList_loadS (w := wA) rfl _ rfl nS m v rfl HSq.out ?_)
            | (go_at_call 107; refine X.mono ?_; rintro e w6 ⟨rfl, hb6⟩; have hS6 := HSq.out.later hb6)
            | (refine wpList_storeS rfl _ _ rfl nS m v (maxOn (letSpot ws z v) m ws.length) (letNx ws z v) rfl rfl hS6 ?_; intro w7 hS7 hg7))
          have hWn : Within w6 w7 (fun b => b = nS) := Within.of_grown hg7 (fun k e => by cases e; rfl)
          have hNS : ¬ K1 nS := fun e => by
            rcases HK1.out nS e with e | e
            · have := HKB.out nS e; omega
            · omega
          have HKn : Hid (∃ K', TrIn P ws w0 bT aP cP aw cw K' w7 ∧ ∀ b, K' b → K b ∨ w4.heap.size ≤ b) := ⟨K1, (HT1.out.later hb6).kept hWn (fun b e => by subst e; exact ⟨by omega, by omega, hNS⟩), HK1.out⟩
          have HSn : Hid (Str w7 nS (farAt ws (way P ws) (farP P ws) i row (s + 1)) (rowNx ws (way P ws) (deltaV i) (row.take (s + 1)))) := by rw [HNh.out.1, HNh.out.2]; exact hS7
          have HGn : Hid (Within w4 w7 (fun b => b = bT ∨ b = nS)) := (HGq.out.trans (Within.of_below hb6 _)).trans (hWn.mono (fun b e => .inr e))
          clear hS6 hS7 hg7 hWn X HNh hb6
          go_wp2
          go_roundw
          case rel => exact ⟨s + 1, by omega, by go_num, HSn, HGn, HKn⟩
          case measure => simp [intOf]; omega
        · have hz' : 100 ≤ row[s] := by omega
          have HN := HPT.out s hlt hz'
          have hin : inB row[s] 0 25 = false := by
            cases e : inB row[s] 0 25
            · rfl
            · rw [inB_true] at e; omega
          have HNh : Hid (farAt ws (way P ws) (farP P ws) i row (s + 1) = maxOn (partSpot (farP P ws) (row[s] - 100).toNat (rowNx ws (way P ws) (deltaV i) (row.take s))) (farAt ws (way P ws) (farP P ws) i row s) (ws.length + 1) ∧ rowNx ws (way P ws) (deltaV i) (row.take (s + 1)) = partNx ws.length (way P ws (row[s] - 100).toNat) (rowNx ws (way P ws) (deltaV i) (row.take s))) := HN
          have X := strPart_any (row[s] - 100).toNat (farAt ws (way P ws) (farP P ws) i row s) (rowNx ws (way P ws) (deltaV i) (row.take s)) wA HT1.out hn HOh.out (HPA.out s hlt hz')
          rw [part_nat hz'] at X
          have hzI : row[s] ≤ 119 + 1048576 := by have := F.parts; omega
          clear HPT HLT HFIN HPA hcell hd hT1 hK1 HN HO hsy HENDW HKq
          generalize maxOn (partSpot (farP P ws) (row[s] - 100).toNat (rowNx ws (way P ws) (deltaV i) (row.take s))) (farAt ws (way P ws) (farP P ws) i row s) (ws.length + 1) = m2 at *
          generalize partNx ws.length (way P ws (row[s] - 100).toNat) (rowNx ws (way P ws) (deltaV i) (row.take s)) = v2 at *
          generalize row[s] = z at *
          generalize farAt ws (way P ws) (farP P ws) i row s = m at *
          generalize rowNx ws (way P ws) (deltaV i) (row.take s) = v at *
          go_wp2_with (first
            | (refine wpList_endsV rfl _ rfl nS m v rfl HSq.out ?_)
            | (refine wpList_places0 rfl rfl ?_)
            | (refine wpList_eqlB rfl 128 _ _ _ rfl (eB v) (List.replicate 11 false) rfl rfl (by kernel_rfl) (eq_places (eB_length v) rfl) ?_; rw [decide_eq_false HD.out])
            | (go_at_call 79; refine (isLetter_any _ _).mono ?_; rintro e w5 ⟨rfl, h5⟩; replace h5 := h5.symm; subst h5; rw [hin])
            | (refine wpList_loadS (w := wA) rfl _ rfl nS m v rfl HSq.out ?_)
            | (go_at_call 108; refine X.mono ?_; rintro e w6 ⟨rfl, HK6, hW6⟩; have hS6 := HSq.out.kept (hW6.block nS HSq.out.lt (by omega)))
            | (refine wpList_storeS rfl _ _ rfl nS m v m2 v2 rfl rfl hS6 ?_; intro w7 hS7 hg7))
          obtain ⟨K2, hT2, hK2⟩ := HK6.out
          have hWn : Within w6 w7 (fun b => b = nS) := Within.of_grown hg7 (fun k e => by cases e; rfl)
          have hNS : ¬ K2 nS := fun e => by
            rcases hK2 nS e with e | e
            · rcases HK1.out nS e with e | e
              · have := HKB.out nS e; omega
              · omega
            · omega
          have HKn : Hid (∃ K', TrIn P ws w0 bT aP cP aw cw K' w7 ∧ ∀ b, K' b → K b ∨ w4.heap.size ≤ b) := ⟨K2, hT2.kept hWn (fun b e => by subst e; exact ⟨by omega, by omega, hNS⟩), fun b e => by
            rcases hK2 b e with e | e
            · exact HK1.out b e
            · right; omega⟩
          have HSn : Hid (Str w7 nS (farAt ws (way P ws) (farP P ws) i row (s + 1)) (rowNx ws (way P ws) (deltaV i) (row.take (s + 1)))) := by rw [HNh.out.1, HNh.out.2]; exact hS7
          have HGn : Hid (Within w4 w7 (fun b => b = bT ∨ b = nS)) := (HGq.out.trans (hW6.mono (fun b e => .inl e))).trans (hWn.mono (fun b e => .inr e))
          clear hS6 hS7 hg7 hWn X HNh hW6 hT2 hK2 HK6
          go_wp2
          go_roundw
          case rel => exact ⟨s + 1, by omega, by go_num, HSn, HGn, HKn⟩
          case measure => simp [intOf]; omega
    · have e : s = row.length := by omega
      have HF : Hid (aggV (strV (farAt ws (way P ws) (farP P ws) i row s) (rowNx ws (way P ws) (deltaV i) (row.take s))) = R) := HFIN.out s hs (.inl e)
      clear HPT HLT HFIN HPA e
      generalize farAt ws (way P ws) (farP P ws) i row s = m at *
      generalize rowNx ws (way P ws) (deltaV i) (row.take s) = v at *
      go_wp2_with (first
        | (refine wpList_loadS rfl _ rfl nS m v rfl HSq.out ?_)
        | (refine wpList_storeS rfl _ _ rfl w.heap.size 0 (fun _ => 0) m v rfl rfl HAr.out ?_; intro w6 hS6 hg6))
      have HZ := HENDW.out m v w6 HF.out hg6
      rw [Exit.noGoto_ret]
      exact bodyPost_ret (v := aggV (strV m v)) (ret_cellS rfl rfl hS6) rfl ⟨by rw [HZ.1], HZ.2⟩
end
end Go.Proofs.YthnppodnjokaoaaDoor
namespace Go.Proofs.YthnppodnjokaoaaDoor
open Go.RowKit

section
variable {Q8 : Program}
theorem exec_loadP {ρ : Operand → Value} {o : Oper} {w : World} {ty e : TypeId} {x : Operand} {p : Addr} {v : Value} (ho : o.op = .load ty x) (hx : ρ x = .pointer (some p)) (hu : Q8.underlying ty = some (.pointer e)) (hc : w.cell? p = some v) :
    (execOp ρ o).run Q8 w = .ok (.value v) w := by
  have hg : (isAgg ty).run Q8 w = .ok false w := by simp [isAgg, run_underlying hu]
  unfold execOp
  simp [ho, hx, Instr.loadAt, Instr.sureAddr, loadVar, hg, hc]
theorem exec_storeP {ρ : Operand → Value} {o : Oper} {w : World} {ty : TypeId} {x y : Operand} {p : Addr} {v u : Value} {u8 : Option Addr} (ho : o.op = .store ty x y) (hx : ρ x = .pointer (some p)) (hy : ρ y = .pointer u8) (hv : v = .pointer u8) (hz : (Q8.info? ty).map (·.size) = some 1) (hc : w.cell? p = some u) (hf : w.frozen? p = false) :
    (execOp ρ o).run Q8 w = .ok .skip (w.setCell p v) := by
  subst hv
  have hs : (sizeOf ty).run Q8 w = .ok 1 w := by
    cases hq : Q8.info? ty with
    | none => simp [hq] at hz
    | some j => simp [hq] at hz; simp [sizeOf, typeInfo, hq, hz]
  have hp : p.add 0 = p := by obtain ⟨b, o, e⟩ := p; simp [Addr.add]
  have hst : (store p (.pointer u8)).run Q8 w = .ok () (w.setCell p (.pointer u8)) := by rw [run_store Q8 w p (.pointer u8) _ rfl, hc]; simp [hf]
  unfold execOp
  simp [ho, hx, hy, Instr.storeAt, Instr.sureAddr, storeVar, hs, Value.cells, storeCells, hp, hst]
theorem wpList_loadP {ops : Array Oper} {rest : List Oper} {o : Oper} {a : Act} {w : World} {Q : Exit → Act → World → Prop} (hgd : Region.wanted o (yielded ops a.tmps) = true) (ty e : TypeId) (x : Operand) (ho : o.op = .load ty x) (p : Addr) (v : Value) (hx : a.eval x = .pointer (some p)) (hu : Q8.underlying ty = some (.pointer e)) (hc : w.cell? p = some v)
    (h : wpList Q8 ops Q rest (a.put o.dst v) w) : wpList Q8 ops Q (o :: rest) a w :=
  wpList_val hgd (exec_loadP ho hx hu hc) h
theorem wpList_storeP {ops : Array Oper} {rest : List Oper} {o : Oper} {a : Act} {w : World} {Q : Exit → Act → World → Prop} (hgd : Region.wanted o (yielded ops a.tmps) = true) (ty : TypeId) (x y : Operand) (ho : o.op = .store ty x y) (p : Addr) (u8 : Option Addr) (u : Value) (hx : a.eval x = .pointer (some p)) (hy : a.eval y = .pointer u8) (hz : (Q8.info? ty).map (·.size) = some 1) (hc : w.cell? p = some u) (hf : w.frozen? p = false)
    (h : wpList Q8 ops Q rest (a.put o.dst undef) (w.setCell p (.pointer u8))) : wpList Q8 ops Q (o :: rest) a w :=
  wpList_unit hgd (exec_storeP ho hx hy rfl hz hc hf) h
end
theorem u_pstr : Tryd.prog.underlying 70 = some (.pointer 130) := by kernel_rfl
theorem pstr_size : (Tryd.prog.info? 70).map (·.size) = some 1 := by kernel_rfl
/-- What the first alternatives lead to. -/
def altTo8 (f : Nat → Nat → Nat) (a : Nat) : Nat → Nat := fun j => sumTo (fun x => f x j) a
theorem altTo8_end {P : List (List (List Int))} {ws : List Int} (F : Fits P) (hL : NoLoop P) {k i : Nat} (hk : k < P.length) (hi : i ≤ ws.length) (j : Nat) : altTo8 (fun a => rowNx ws (way P ws) (deltaV i) (P[k].getD a [])) P[k].length j ≠ 0 ↔ way P ws k i j ≠ 0 := by
  rw [way_eq F hL hk hi]
  show sumTo (fun a => rowNx ws (way P ws) (deltaV i) (P[k].getD a []) j) P[k].length ≠ 0 ↔ capN (sumTo (fun a => rowNx ws (way P ws) (deltaV i) (P[k].getD a []) j) P[k].length) ≠ 0
  generalize sumTo (fun a => rowNx ws (way P ws) (deltaV i) (P[k].getD a []) j) P[k].length = y
  unfold capN
  omega
section
variable {P : List (List (List Int))} {ws : List Int} {w0 : World} {bT : Nat} {aP : Option Addr} {cP : Nat} {aw : Option Addr} {cw : Nat} {K : Nat → Prop}
set_option maxHeartbeats 8000000 in
set_option maxRecDepth 100000 in
theorem strOf_walk (k i : Nat) (w : World) (hT : TrIn P ws w0 bT aP cP aw cw K w) (hk : k < P.length) (hi : i ≤ ws.length) (hn : ws.length ≤ 10) (hp : P.length ≤ 20) (hp8 : P[k].length ≤ 8) (h0 : RD w0 (.slice aP P.length cP) (slD (Lay.list (Lay.list Lay.int)) P)) (fr : Nat → Nat) (nx : Nat → Nat → Nat)
    (hrow : ∀ a (ha : a < P[k].length) (W : World) (K : Nat → Prop) (ar : Option Addr) (cr : Nat), TrIn P ws w0 bT aP cP aw cw K W → RD w0 (.slice ar P[k][a].length cr) (slD Lay.int P[k][a]) → Calls Tryd.prog 97 #[.pointer (some ⟨bT, 0, none⟩), .slice ar P[k][a].length cr, .int .i64 (i : Int)] W fun e w' => e = .returned (aggV (strV (fr a) (nx a))) ∧ Hid (∃ K', TrIn P ws w0 bT aP cP aw cw K' w' ∧ ∀ b, K' b → K b ∨ W.heap.size ≤ b) ∧ Within W w' (fun b => b = bT))
    (heq : farP P ws k i = maxOn fr i P[k].length) (heq2 : ∀ j, altTo8 nx P[k].length j ≠ 0 ↔ way P ws k i j ≠ 0) :
    Calls Tryd.prog 117 #[.pointer (some ⟨bT, 0, none⟩), .int .i64 (k : Int), .int .i64 (i : Int)] w fun e w' => e = .returned (aggV (strV (farP P ws k i) (way P ws k i))) ∧ Hid (∃ K', TrIn P ws w0 bT aP cP aw cw K' w' ∧ ∀ b, K' b → K b ∨ w.heap.size ≤ b) ∧ Within w w' (fun b => b = bT) := by
  have HT : Hid (TrIn P ws w0 bT aP cP aw cw K w) := hT
  have hbl := hT.lt
  have hb0 := hT.low.size
  have HKB : Hid (∀ b, K b → b < w.heap.size ∧ b ≠ bT) := fun b e => ⟨(hT.kb b e).2.2, (hT.kb b e).1⟩
  have HP : Hid (RD w0 (.slice aP P.length cP) (slD (Lay.list (Lay.list Lay.int)) P)) := h0
  have HRO : Hid (∀ a (ha : a < P[k].length) (W : World) (K : Nat → Prop) (ar : Option Addr) (cr : Nat), TrIn P ws w0 bT aP cP aw cw K W → RD w0 (.slice ar P[k][a].length cr) (slD Lay.int P[k][a]) → Calls Tryd.prog 97 #[.pointer (some ⟨bT, 0, none⟩), .slice ar P[k][a].length cr, .int .i64 (i : Int)] W fun e w' => e = .returned (aggV (strV (fr a) (nx a))) ∧ Hid (∃ K', TrIn P ws w0 bT aP cP aw cw K' w' ∧ ∀ b, K' b → K b ∨ W.heap.size ≤ b) ∧ Within W w' (fun b => b = bT)) := hrow
  have HEQ : Hid (maxOn fr i P[k].length = farP P ws k i) := heq.symm
  have HEQ2 : Hid (∀ j, altTo8 nx P[k].length j ≠ 0 ↔ way P ws k i j ≠ 0) := heq2
  have hk20 : (k : Int) < 20 := by omega
  have hi11 : (i : Int) < 11 := by omega
  have hkI : (k : Int) < (P.length : Int) := by omega
  clear hT hrow heq heq2 h0
  obtain ⟨u, qu, hu⟩ := HT.out.known k i hk hi
  cases u with
  | some ad =>
    obtain ⟨b, rfl, hKb, hSb⟩ := hu ad rfl
    have HSb : Hid (Str w b (farP P ws k i) (way P ws k i)) := hSb
    clear hu hSb HEQ HEQ2 HRO HP hKb
    generalize farP P ws k i = m at *
    generalize way P ws k i = v at *
    go_enter Tryd.func117, Tryd.ntmps117
    go_wp2_with (first
      | (refine wpList_allocS (w := w) rfl rfl ?_; intro w1 hA1 hb1 hs1; have l1 : w.heap.size < w1.heap.size := (by omega); clear hs1; have qu1 := (hb1.cell (p := ⟨bT, 2 + k * 11 + i, none⟩) hbl).trans qu)
      | (refine wpList_loadS rfl _ rfl b m v rfl (HSb.out.later hb1) ?_)
      | (refine wpList_storeS rfl _ _ rfl w.heap.size 0 (fun _ => 0) m v rfl rfl hA1 ?_; intro w6 hS6 hg6))
    have HT1 : Hid (TrIn P ws w0 bT aP cP aw cw K w1) := HT.out.later hb1
    have hWn : Within w1 w6 (fun b => b = w.heap.size) := Within.of_grown hg6 (fun k e => by cases e; rfl)
    exact bodyPost_ret (v := aggV (strV m v)) (ret_cellS rfl rfl hS6) rfl ⟨rfl, ⟨K, HT1.out.kept hWn (fun b e => by subst e; exact ⟨by omega, by omega, fun h => by have := (HKB.out _ h).1; omega⟩), fun b e => .inl e⟩, (Within.of_below hb1 (fun b => b = bT)).comp hWn (fun b e => .inr (by omega))⟩
  | none =>
    clear hu
    obtain ⟨b1, o1, rfl, hb1a, a1, ca1, p1, r1⟩ := HP.out.listAt hk
    have HR1 : Hid (RD w0 (.slice a1 P[k].length ca1) (slD (Lay.list Lay.int) P[k])) := r1
    have q0 := HT.out.c0
    have p1a := (HT.out.low.cell (p := ⟨b1, o1 + k, none⟩) hb1a).trans p1
    have hlow1 := HT.out.low.size
    have HC : Hid (∀ W, Below w.heap.size w W → W.cell? ⟨bT, 0, none⟩ = some (.slice (some ⟨b1, o1, none⟩) P.length cP) ∧ W.cell? ⟨b1, o1 + k, none⟩ = some (.slice a1 P[k].length ca1)) := fun W hW => ⟨(hW.cell (p := ⟨bT, 0, none⟩) HT.out.lt).trans q0, (hW.cell (p := ⟨b1, o1 + k, none⟩) (by show b1 < _; omega)).trans p1a⟩
    clear p1 r1 q0 p1a
    go_enter Tryd.func117, Tryd.ntmps117
    go_wp2_with (first
      | (refine wpList_allocS (w := w) rfl rfl ?_; intro w1 hA1 hb1 hs1; have l1 : w.heap.size < w1.heap.size := (by omega); clear hs1; have qu1 := (hb1.cell (p := ⟨bT, 2 + k * 11 + i, none⟩) hbl).trans qu)
      | (refine wpList_str1 rfl _ rfl i rfl ?_)
      | (refine wpList_allocS (w := w1) rfl rfl ?_; intro w2 hA2 hb2 hs2; clear hs2)
      | (refine wpList_storeS rfl _ _ rfl w1.heap.size 0 (fun _ => 0) i (fun _ => 0) rfl rfl hA2 ?_; intro w4 hS4 hg4; have g4 : Below w1.heap.size w1 w4 := (hb2.grown hg4 hb2.size (fun k e => by cases e; omega)); have g40 : Below w.heap.size w w4 := hb1.trans (g4.mono hb1.size); obtain ⟨q0, p1a⟩ := HC.out w4 g40))
    have HA1 : Hid (Str w1 w.heap.size 0 (fun _ => 0)) := hA1
    have HB1 : Hid (Below w.heap.size w w1) := hb1
    have HT1 : Hid (TrIn P ws w0 bT (some ⟨b1, o1, none⟩) cP aw cw K w1) := HT.out.later hb1
    have HS0 : Hid (Str w4 w1.heap.size (maxOn fr i 0) (altTo8 nx 0)) := hS4
    have HA4 : Hid (Str w4 w.heap.size 0 (fun _ => 0)) := (HA1.out.later hb2).grown hg4 (fun e => by have := Option.some.inj e; omega)
    have HT4 : Hid (TrIn P ws w0 bT (some ⟨b1, o1, none⟩) cP aw cw K w4) := HT1.out.later g4
    have HB4 : Hid (Below w.heap.size w w4) := HB1.out.trans (g4.mono HB1.out.size)
    have hSl : w1.heap.size < w4.heap.size := hS4.lt
    have HG0 : Hid (Within w4 w4 (fun b => b = bT ∨ b = w1.heap.size)) := Within.refl _ _
    have HC4 : Hid (∀ b, b ≠ bT → b < w.heap.size → b ≠ w1.heap.size) := fun b _ h => by omega
    clear hA2 hb2 hS4 hg4 g4 g40 HA1 HT1 HB1 HC qu qu1 q0 p1a hA1 hb1 HT
    have hb1w : b1 < w.heap.size := by omega
    have hbT1 : bT < w1.heap.size := by omega
    clear HC4
    generalize w1.heap.size = nS at *
    go_loopw [35] (fun s35 wr => ∃ a : Nat, a ≤ P[k].length ∧ s35 = .int .i64 (a : Int) ∧ Hid (Str wr nS (maxOn fr i a) (altTo8 nx a)) ∧ Hid (Within w4 wr (fun b => b = bT ∨ b = nS)) ∧ Hid (∃ K', TrIn P ws w0 bT (some ⟨b1, o1, none⟩) cP aw cw K' wr ∧ ∀ b, K' b → K b ∨ w4.heap.size ≤ b)) (fun s35 _ => P[k].length - (intOf s35).toNat)
    case atStart => exact ⟨0, Nat.zero_le _, rfl, HS0, HG0, ⟨K, HT4.out, fun b e => .inl e⟩⟩
    case round =>
      obtain ⟨a, ha, rfl, HSq, HGq, HKq⟩ := hrel
      obtain ⟨wA, hwA⟩ : ∃ y, y = wr := ⟨_, rfl⟩
      subst hwA
      clear HS0 HG0
      obtain ⟨K1, hT1, hK1⟩ := HKq.out
      have HT1 : Hid (TrIn P ws w0 bT (some ⟨b1, o1, none⟩) cP aw cw K1 wA) := hT1
      have HK1 : Hid (∀ b, K1 b → K b ∨ w4.heap.size ≤ b) := hK1
      have hszA := HGq.out.size
      clear hT1 hK1 HKq
      by_cases hlt : a < P[k].length
      · obtain ⟨b2, o2, rfl, hb2, a2, ca2, q2, r2⟩ := HR1.out.listAt hlt
        have q2a := (HT1.out.low.cell (p := ⟨b2, o2 + a, none⟩) hb2).trans q2
        have X := HRO.out a hlt wA K1 a2 ca2 HT1.out r2
        have haI : (a : Int) < (P[k].length : Int) := by omega
        have HSn0 : Hid (∀ w7, Str w7 nS (max (maxOn fr i a) (fr a)) (fun j => altTo8 nx a j + nx a j) → Str w7 nS (maxOn fr i (a + 1)) (altTo8 nx (a + 1))) := fun w7 h => h
        clear r2 q2 HRO HEQ HEQ2
        generalize P[k][a].length = n2 at *
        go_wp2_with (first
          | (go_at_call 97; refine X.mono ?_; rintro e w6 ⟨rfl, HK6, hW6⟩; have hS6 := HSq.out.kept (hW6.block nS HSq.out.lt (by omega)))
          | (go_at_call 116; refine (strJoin_any nS _ _ _ _ w6 hS6).mono ?_; rintro e w7 ⟨rfl, hS7, hg7⟩))
        obtain ⟨K2, hT2, hK2⟩ := HK6.out
        have hWn : Within w6 w7 (fun b => b = nS) := Within.of_grown hg7 (fun k e => by cases e; rfl)
        have hNS : ¬ K2 nS := fun e => by
          rcases hK2 nS e with e | e
          · rcases HK1.out nS e with e | e
            · have := (HKB.out nS e).1; omega
            · omega
          · omega
        have HKn : Hid (∃ K', TrIn P ws w0 bT (some ⟨b1, o1, none⟩) cP aw cw K' w7 ∧ ∀ b, K' b → K b ∨ w4.heap.size ≤ b) := ⟨K2, hT2.kept hWn (fun b e => by subst e; exact ⟨by omega, by omega, hNS⟩), fun b e => by
          rcases hK2 b e with e | e
          · exact HK1.out b e
          · right; omega⟩
        have HSn : Hid (Str w7 nS (maxOn fr i (a + 1)) (altTo8 nx (a + 1))) := HSn0.out w7 hS7
        have HGn : Hid (Within w4 w7 (fun b => b = bT ∨ b = nS)) := (HGq.out.trans (hW6.mono (fun b e => .inl e))).trans (hWn.mono (fun b e => .inr e))
        clear hT2 hK2 hS6 hS7 hg7 hW6 hWn X HK6 HSn0
        go_wp2
        go_roundw
        case rel => exact ⟨a + 1, by omega, by go_num, HSn, HGn, HKn⟩
        case measure => simp [intOf]; omega
      · have e : a = P[k].length := by omega
        subst e
        have HSf : Hid (Str wA nS (farP P ws k i) (way P ws k i)) := by
          have := HSq.out.congr (fun j _ => HEQ2.out j)
          rw [HEQ.out] at this
          exact this
        have HAr : Hid (Str wA w.heap.size 0 (fun _ => 0)) := HA4.out.kept (HGq.out.block _ HA4.out.lt (by omega))
        obtain ⟨u', qu', _⟩ := HT1.out.known k i hk hi
        have fu := HT1.out.fr (2 + k * 11 + i)
        have HPUT := HT1.out.put (k := k) (i := i) hi hn (by omega : nS ≠ bT) (by omega) HSf.out
        have HPh : Hid (TrIn P ws w0 bT (some ⟨b1, o1, none⟩) cP aw cw (fun x => K1 x ∨ x = nS) (wA.setCell ⟨bT, 2 + k * 11 + i, none⟩ (.pointer (some ⟨nS, 0, none⟩)))) := HPUT
        have hW8 : Within wA (wA.setCell ⟨bT, 2 + k * 11 + i, none⟩ (.pointer (some ⟨nS, 0, none⟩))) (fun b => b = bT) := set_within _ _ _ _ rfl
        have HS8 : Hid (Str (wA.setCell ⟨bT, 2 + k * 11 + i, none⟩ (.pointer (some ⟨nS, 0, none⟩))) nS (farP P ws k i) (way P ws k i)) := HSf.out.kept (hW8.block nS HSf.out.lt (by omega))
        have HA8 : Hid (Str (wA.setCell ⟨bT, 2 + k * 11 + i, none⟩ (.pointer (some ⟨nS, 0, none⟩))) w.heap.size 0 (fun _ => 0)) := HAr.out.kept (hW8.block _ HAr.out.lt (by omega))
        have HW8 : Hid (Within w4 (wA.setCell ⟨bT, 2 + k * 11 + i, none⟩ (.pointer (some ⟨nS, 0, none⟩))) (fun b => b = bT ∨ b = nS)) := HGq.out.trans (hW8.mono (fun b e => .inl e))
        clear HPUT hW8 HSf HAr HSq HGq HRO HEQ HEQ2 HT1 HR1
        go_wp2_with (first
          | (refine wpList_storeP rfl 70 _ _ rfl ⟨bT, 2 + k * 11 + i, none⟩ (some ⟨nS, 0, none⟩) _ rfl rfl pstr_size qu' fu ?_)
          | (refine wpList_loadS rfl _ rfl nS (farP P ws k i) (way P ws k i) rfl HS8.out ?_)
          | (refine wpList_storeS rfl _ _ rfl w.heap.size 0 (fun _ => 0) (farP P ws k i) (way P ws k i) rfl rfl HA8.out ?_; intro w9 hS9 hg9))
        have hWn : Within (wA.setCell ⟨bT, 2 + k * 11 + i, none⟩ (.pointer (some ⟨nS, 0, none⟩))) w9 (fun b => b = w.heap.size) := Within.of_grown hg9 (fun k e => by cases e; rfl)
        have hs4 := HB4.out.size
        exact bodyPost_ret (v := aggV (strV (farP P ws k i) (way P ws k i))) (ret_cellS rfl rfl hS9) rfl ⟨rfl, ⟨_, HPh.out.kept hWn (fun b e => by
          subst e
          refine ⟨by omega, by omega, fun h => ?_⟩
          rcases h with h | h
          · rcases HK1.out _ h with h | h
            · have := (HKB.out _ h).1; omega
            · omega
          · omega), fun b e => by
          rcases e with e | e
          · exact (HK1.out b e).imp id (fun h => by omega)
          · right; omega⟩, ((Within.of_below HB4.out (fun b => b = bT)).comp HW8.out (fun b e => by rcases e with e | e; exact .inl e; exact .inr (by omega))).comp hWn (fun b e => .inr (by omega))⟩
/-- impl.tracer.ofPart at every part and place. -/
theorem strOf_ok (hok : gramOkB P = true) (hL : NoLoop P) (hws : Reads w0 aw ws) (hn : ws.length ≤ 10) (hP : RD w0 (.slice aP P.length cP) (slD (Lay.list (Lay.list Lay.int)) P)) (m : Nat) :
    ∀ k i, k < P.length → i ≤ ws.length → muP P ws.length k i < m → StrPartOk P ws w0 bT aP cP aw cw k i := by
  have F := Fits.of hok
  induction m with
  | zero => intro k i _ _ h; omega
  | succ m ih =>
    intro k i hk hi hm W K hC
    have hmem := List.getElem_mem hk
    refine strOf_walk k i W hC hk hi hn F.parts (F.alts _ hmem) hP (fun a => farRow ws (way P ws) (farP P ws) i (P[k].getD a [])) (fun a => rowNx ws (way P ws) (deltaV i) (P[k].getD a [])) ?_ (far_eq F hL hk hi) (fun j => altTo8_end F hL hk hi j)
    intro a ha W' K' ar cr h1 h2
    have hmem2 := List.getElem_mem ha
    have ea : P[k].getD a [] = P[k][a] := by simp [List.getD, ha]
    show Calls _ _ _ _ (fun e w' => e = .returned (aggV (strV (farRow ws (way P ws) (farP P ws) i (P[k].getD a [])) (rowNx ws (way P ws) (deltaV i) (P[k].getD a [])))) ∧ _)
    rw [ea]
    refine strRow_any P[k][a] ar cr i W' h1 hws (h2.reads.below h1.low) (fun b off hne e => ?_) (by have := F.rows _ hmem _ hmem2; omega) hn hi ?_ F hL ?_
    · obtain ⟨b', off', e', hlt, _⟩ := h2.reads.at (List.length_pos_iff.2 hne)
      rw [e] at e'
      have := (Addr.mk.inj (Option.some.inj e')).1
      have := h1.lT
      omega
    · intro x hx
      simp only [gramOkB, Bool.and_eq_true, List.all_eq_true, partOk, rowOk] at hok
      exact (((hok.2 _ hmem).2 _ hmem2).2) x hx
    · intro s hs hx j hj hne
      obtain ⟨_, _, h5⟩ := way_lt F hL hk ha hi hs hx hne
      exact ih _ j (gram_part hok hk ha hs) hj (by omega)
end
end Go.Proofs.YthnppodnjokaoaaDoor
namespace Go.Proofs.YthnppodnjokaoaaDoor
open Go.RowKit

/-- The values of a tracer that knows nothing. -/
def trV (u v : Value) : List Value := u :: v :: List.replicate 220 (.pointer none)
theorem trV_length (u v : Value) : (trV u v).length = 222 := by rw [trV, List.length_cons, List.length_cons, List.length_replicate]
theorem trV_ones {u v : Value} (hu : u.oneCell' = true) (hv : v.oneCell' = true) : Ones (trV u v) := fun x hx => by
  simp only [trV, List.mem_cons] at hx
  rcases hx with rfl | rfl | hx
  · exact hu
  · exact hv
  · rw [(List.mem_replicate.1 hx).2]; rfl
theorem trV_known (u v : Value) {n : Nat} (h : n < 220) : (trV u v)[2 + n]? = some (.pointer none) := by
  rw [Nat.add_comm]
  show (List.replicate 220 (Value.pointer none))[n]? = _
  rw [List.getElem?_replicate, if_pos h]
set_option maxRecDepth 100000 in
theorem rt_tr : RowT Tryd.prog 74 (trV (.slice none 0 0) (.slice none 0 0)) := ⟨by kernel_rfl, row_of (by kernel_rfl)⟩
theorem fill_tr {place : Nat → Option (Nat × Nat)} (h0 : place 0 = some (0, 1)) (h1 : place 1 = some (1, 1)) (u0 v0 u : Value) (R : List Value) (a : Option Addr) (l c : Nat) :
    Instr.fill place (u0 :: v0 :: R).toArray [(0, .agg #[u]), (1, .slice a l c)] = some (u :: .slice a l c :: R).toArray := by
  simp [Instr.fill, h0, h1, Value.cells]
set_option maxRecDepth 100000 in
set_option maxHeartbeats 1000000 in
theorem exec_tr {ρ : Operand → Value} {o : Oper} {x y : Operand} {aP : Option Addr} {lP cP : Nat} {aw : Option Addr} {lw cw : Nat} (ho : o.op = .build 74 #[(0, x), (1, y)]) (hx : ρ x = .agg #[.slice aP lP cP]) (hy : ρ y = .slice aw lw cw) (w : World) :
    (execOp ρ o).run Tryd.prog w = .ok (.value (aggV (trV (.slice aP lP cP) (.slice aw lw cw)))) w := by
  have hf := fill_tr (place := fun x => ([((0 : Nat), (1 : Nat)), (1, 1), (2, 220)] : List (Nat × Nat))[x]?) rfl rfl (.slice none 0 0) (.slice none 0 0) (.slice aP lP cP) (List.replicate 220 (.pointer none)) aw lw cw
  have hz := rt_tr.zero w
  unfold trV at *
  generalize List.replicate 220 (Value.pointer none) = Z at *
  unfold execOp
  simp [ho, Instr.build, hz, run_underlying Tryd.underlying74, hx, hy, Value.cells, aggV]
  rw [hf]
  rfl
theorem wpList_tr {ops : Array Oper} {rest : List Oper} {o : Oper} {a : Act} {w : World} {Q : Exit → Act → World → Prop} (hgd : Region.wanted o (yielded ops a.tmps) = true) (x y : Operand) (ho : o.op = .build 74 #[(0, x), (1, y)]) (aP : Option Addr) (lP cP : Nat) (aw : Option Addr) (lw cw : Nat) (hx : a.eval x = .agg #[.slice aP lP cP]) (hy : a.eval y = .slice aw lw cw)
    (h : wpList Tryd.prog ops Q rest (a.put o.dst (aggV (trV (.slice aP lP cP) (.slice aw lw cw)))) w) : wpList Tryd.prog ops Q (o :: rest) a w :=
  wpList_val hgd (exec_tr ho hx hy w) h
section
variable {P : List (List (List Int))} {ws : List Int} {w0 : World} {bT : Nat} {aP : Option Addr} {cP : Nat} {aw : Option Addr} {cw : Nat} {K : Nat → Prop}
theorem TrIn.new {w : World} (hV : Vals w bT 74 (trV (.slice aP P.length cP) (.slice aw ws.length cw))) (hlow : Below w0.heap.size w0 w) (hb : w0.heap.size ≤ bT) (hp : P.length ≤ 20) (hn : ws.length ≤ 10) : TrIn P ws w0 bT aP cP aw cw (fun _ => False) w :=
  ⟨hlow, hb, hV.lt, by rw [hV.cell]; rfl, by rw [hV.cell]; rfl, fun i => hV.frozen i, fun b e => e.elim, fun k i hk hi => ⟨none, by rw [hV.cell, Nat.add_assoc, trV_known _ _ (by omega)], fun a e => by cases e⟩⟩
theorem wholeFar_any (a : Option Addr) (n c i : Nat) (w : World) (hn : n ≤ 10) (hi : i ≤ n) : Calls Tryd.prog 24 #[.slice a n c, .int .i64 (i : Int)] w fun e w' => e = .returned (.int .i64 ((n - i + 1 : Nat) : Int)) ∧ w' = w := by
  have hiI : (i : Int) ≤ (n : Int) := by omega
  have hnI : (n : Int) ≤ 10 := by omega
  go_enter Tryd.func24, Tryd.ntmps24
  go_wp2
  go_ret
  exact ⟨ret_int (by omega), rfl⟩
set_option maxHeartbeats 4000000 in
set_option maxRecDepth 100000 in
theorem trFar_any (row : List Int) (ar : Option Addr) (cr i : Nat) (w : World) (hT : TrIn P ws w0 bT aP cP aw cw K w) (hws : Reads w0 aw ws) (hr : Reads w ar row) (hrb : ∀ b off, row ≠ [] → ar = some ⟨b, off, none⟩ → b ≠ bT) (hrl : row.length ≤ 1048576) (hn : ws.length ≤ 10) (hi : i ≤ ws.length) (hrow : ∀ x ∈ row, symOk P.length x = true) (hok : gramOkB P = true) (hL : NoLoop P) (hP : RD w0 (.slice aP P.length cP) (slD (Lay.list (Lay.list Lay.int)) P)) :
    Calls Tryd.prog 74 #[.pointer (some ⟨bT, 0, none⟩), .slice ar row.length cr, .int .i64 (i : Int)] w fun e w' => e = .returned (.int .i64 (farOf P row ws i : Int)) ∧ Hid (∃ K', TrIn P ws w0 bT aP cP aw cw K' w' ∧ ∀ b, K' b → K b ∨ w.heap.size ≤ b) ∧ Within w w' (fun b => b = bT) := by
  have X := strRow_any row ar cr i w hT hws hr hrb hrl hn hi hrow (Fits.of hok) hL (fun s hs hx j hj _ => by
    have := symOk_true.1 (hrow row[s] (List.getElem_mem hs))
    exact strOf_ok hok hL hws hn hP _ _ j (by omega) hj (Nat.lt_succ_self _))
  have HK0 : Hid (∀ b, K b → b < w.heap.size) := fun b e => (hT.kb b e).2.2
  have hge : i ≤ farRow ws (way P ws) (farP P ws) i row := farRow_ge _ _ _ _ _
  have hle : farRow ws (way P ws) (farP P ws) i row ≤ ws.length := farRow_le hi (fun k j hj => farP_le P ws k j hj)
  have E1 : Hid (rowNx ws (way P ws) (deltaV i) row ws.length ≠ 0 → farOf P row ws i = ws.length - i + 1) := farOf_end hi
  have E2 : Hid (rowNx ws (way P ws) (deltaV i) row ws.length = 0 → farOf P row ws i = farRow ws (way P ws) (farP P ws) i row - i) := farOf_not
  have hbT := hT.lt
  have hb0 := hT.low.size
  generalize farRow ws (way P ws) (farP P ws) i row = n at *
  generalize farOf P row ws i = r at *
  generalize rowNx ws (way P ws) (deltaV i) row = v at *
  clear hT hws hr hrb hrow hok hL hP
  have hgeI : (i : Int) ≤ (n : Int) := by omega
  have hleI : (n : Int) ≤ 10 := by omega
  have hn11 : ws.length < 11 := by omega
  by_cases hv : v ws.length = 0
  · have E : Hid (r = n - i) := E2.out hv
    clear E1 E2
    go_enter Tryd.func74, Tryd.ntmps74
    go_wp2_with (first
      | (go_at_call 97; refine X.mono ?_; rintro e w1 ⟨rfl, HK1, hW1⟩)
      | (refine wpList_allocS (w := w1) rfl rfl ?_; intro w2 hA2 hb2 hs2; clear hs2)
      | (refine wpList_storeS rfl _ _ rfl w1.heap.size 0 (fun _ => 0) n v rfl rfl hA2 ?_; intro w3 hS3 hg3; have q3 := hS3.end hn11; rw [show decide (v ws.length ≠ 0) = false by simp [hv]] at q3; have qf := hS3.far; have hT3 := HK1.out; obtain ⟨K1, hT1, hK1⟩ := hT3; have hW3 : Within w1 w3 (fun b => b = w1.heap.size) := (Within.of_below hb2 _).trans (Within.of_grown hg3 (fun k e => by cases e; rfl)); have hs1 := hW1.size; have HT3 : Hid (TrIn P ws w0 bT aP cP aw cw K1 w3) := hT1.kept hW3 (fun b e => by subst e; exact ⟨by omega, by omega, fun h => by have := (hT1.kb _ h).2.2; omega⟩); have c1 := HT3.out.c1))
    go_ret
    exact ⟨ret_int (by have := E.out; omega), ⟨K1, HT3.out, hK1⟩, hW1.comp hW3 (fun b e => .inr (by omega))⟩
  · have E : Hid (r = ws.length - i + 1) := E1.out hv
    clear E1 E2
    go_enter Tryd.func74, Tryd.ntmps74
    go_wp2_with (first
      | (go_at_call 97; refine X.mono ?_; rintro e w1 ⟨rfl, HK1, hW1⟩)
      | (refine wpList_allocS (w := w1) rfl rfl ?_; intro w2 hA2 hb2 hs2; clear hs2)
      | (refine wpList_storeS rfl _ _ rfl w1.heap.size 0 (fun _ => 0) n v rfl rfl hA2 ?_; intro w3 hS3 hg3; have q3 := hS3.end hn11; rw [show decide (v ws.length ≠ 0) = true by simp [hv]] at q3; have qf := hS3.far; have hT3 := HK1.out; obtain ⟨K1, hT1, hK1⟩ := hT3; have hW3 : Within w1 w3 (fun b => b = w1.heap.size) := (Within.of_below hb2 _).trans (Within.of_grown hg3 (fun k e => by cases e; rfl)); have hs1 := hW1.size; have HT3 : Hid (TrIn P ws w0 bT aP cP aw cw K1 w3) := hT1.kept hW3 (fun b e => by subst e; exact ⟨by omega, by omega, fun h => by have := (hT1.kb _ h).2.2; omega⟩); have c1 := HT3.out.c1)
      | (go_at_call 24; refine (wholeFar_any aw ws.length cw i _ hn hi).mono ?_; rintro e w5 ⟨rfl, h5⟩; replace h5 := h5.symm; subst h5))
    go_ret
    exact ⟨ret_int (by have := E.out; omega), ⟨K1, HT3.out, hK1⟩, hW1.comp hW3 (fun b e => .inr (by omega))⟩
end
end Go.Proofs.YthnppodnjokaoaaDoor
