/-
  A region that sends or receives, walked where one goroutine runs alone and nothing waits: what is left of a region comes to its end; a send into a buffer with room; a receive from a buffer that holds something, and from a closed channel that holds nothing. Plain laws over any program. No statement is proved here.
-/
import Derived.Conc.LoneCalls
import Derived.WalkKit
namespace Go.Proofs.Ytkbnafmkgiknbab
open Go.RowKit Go.Conc

/-- What is left of a region, l, comes to an end of which Q holds. -/
def RegTo (P : Program) (ops : Array Oper) (Q : Exit → Act → World → Prop) (l : List Nat) (a : Act) (w : World) : Prop :=
  ∀ (b : Frame) (k : List Item) (cs : List Frame), ∃ e a' w', Q e a' w' ∧ Arrives P (lone (b.at a (.inRegion ops l :: k)) cs w) b k cs e a' w'

section
variable {P : Program} {ops : Array Oper} {Q : Exit → Act → World → Prop} {a : Act} {w : World}

theorem RegTo.nil (h : Q .normal a w) : RegTo P ops Q [] a w := fun _ _ _ => ⟨.normal, a, w, h, .one step_region_end⟩

theorem wp_of_regTo {id : Nat} (h : RegTo P ops Q (List.range ops.size) a w) : (Code.region id ops false).wp P Q a w :=
  fun b k cs => let ⟨e, a', w', q, r⟩ := h b k cs; ⟨e, a', w', q, .of_steps (.one step_region) r⟩

theorem RegTo.wpOps {l : List Nat} (h : Go.wpOps P ops Q l a w) : RegTo P ops Q l a w := fun b k cs => wp_ops l a w h b k cs

theorem RegTo.steps {l l' : List Nat} {a' : Act} {w' : World} (hs : ∀ (b : Frame) (k : List Item) (cs : List Frame), Steps P (lone (b.at a (.inRegion ops l :: k)) cs w) (lone (b.at a' (.inRegion ops l' :: k)) cs w'))
    (h : RegTo P ops Q l' a' w') : RegTo P ops Q l a w :=
  fun b k cs => let ⟨e, a₂, w₂, q, r⟩ := h b k cs; ⟨e, a₂, w₂, q, .of_steps (hs b k cs) r⟩

theorem stepG_comm_any {i : Nat} {rest : List Nat} {o : Oper} {cases : Array CommCase} {blocking : Bool} {shape : CommShape} {w' : World} (ho : ops[i]? = some o) (hw : Region.wanted o (yielded ops a.tmps) = true)
    (hr : (execOp a.eval o).run P w = .ok (.comm cases blocking shape) w') (b : Frame) (k : List Item) (cs : List Frame) :
    ∃ es, stepG P true (G (b.at a (.inRegion ops (i :: rest) :: k)) cs) w = .comm (G (b.at a (.inRegion ops (i :: rest) :: k)) cs) cases blocking shape w' es := by
  rw [stepG_oper ho hw]
  simp [stepG.apply, hr, G, GStep.after]

theorem RegTo.send {i : Nat} {rest : List Nat} {o : Oper} (ho : ops[i]? = some o) (hg : o.guard = none) {c cap s r : Nat} {buf : Array Value} {v z : Value} {tm : Bool}
    (hr : (execOp a.eval o).run P w = .ok (.comm #[scase c v z] true .send) w) (hc : w.heap[c]? = some (.chan cap buf false s r tm)) (hroom : buf.size < cap)
    (h : RegTo P ops Q rest (a.put o.dst undef) (w.setChan c cap (buf.push v) false (s + 1) r tm)) : RegTo P ops Q (i :: rest) a w := by
  refine RegTo.steps (fun b k cs => ?_) h
  obtain ⟨es, he⟩ := stepG_comm_any (rest := rest) ho (by simp [Region.wanted, hg]) hr b k cs
  have := step_lone_send_room he hc hroom
  rw [Frame.finish_at, ho] at this
  exact .one this

theorem RegTo.recv {i : Nat} {rest : List Nat} {o : Oper} (ho : ops[i]? = some o) (hg : o.guard = none) (ok : Bool) {c cap s r : Nat} {buf : Array Value} {z : Value} {tm closed : Bool}
    (hr : (execOp a.eval o).run P w = .ok (.comm #[rcase c z] true (.recv ok)) w) (hc : w.heap[c]? = some (.chan cap buf closed s r tm)) (hsome : 0 < buf.size)
    (h : RegTo P ops Q rest (a.put o.dst (got ok (buf.getD 0 undef) true)) (w.setChan c cap (buf.extract 1 buf.size) closed s (r + 1) tm)) : RegTo P ops Q (i :: rest) a w := by
  refine RegTo.steps (fun b k cs => ?_) h
  obtain ⟨es, he⟩ := stepG_comm_any (rest := rest) ho (by simp [Region.wanted, hg]) hr b k cs
  have := step_lone_recv_buf ok he hc hsome
  rw [Frame.finish_at, ho] at this
  exact .one this

theorem RegTo.shut {i : Nat} {rest : List Nat} {o : Oper} (ho : ops[i]? = some o) (hg : o.guard = none) (ok : Bool) {c cap s r : Nat} {z : Value} {tm : Bool}
    (hr : (execOp a.eval o).run P w = .ok (.comm #[rcase c z] true (.recv ok)) w) (hc : w.heap[c]? = some (.chan cap #[] true s r tm))
    (h : RegTo P ops Q rest (a.put o.dst (got ok z false)) w) : RegTo P ops Q (i :: rest) a w := by
  refine RegTo.steps (fun b k cs => ?_) h
  obtain ⟨es, he⟩ := stepG_comm_any (rest := rest) ho (by simp [Region.wanted, hg]) hr b k cs
  have := step_lone_recv_shut ok he hc
  rw [Frame.finish_at, ho] at this
  exact .one this

/-- One operation, by its own road, then what is left. -/
theorem RegTo.oper {i : Nat} {rest : List Nat} {o : Oper} (ho : ops[i]? = some o) (hw : Region.wanted o (yielded ops a.tmps) = true) (h : o.wp P a w (RegTo P ops Q rest) Q) : RegTo P ops Q (i :: rest) a w := by
  intro b k cs
  have hg := stepG_op (P := P) (b := b) (k := k) (cs := cs) (w := w) (rest := rest) ho hw
  have hfin : ∀ (a : Act) v, (b.at a (.inRegion ops (i :: rest) :: k)).finish v = b.at (a.put o.dst v) (.inRegion ops rest :: k) := by
    intro a v; rw [Frame.finish_at, ho]; rfl
  unfold Oper.wp at h
  have hs : ∀ (a' : Act) (v : Value) (w' : World), (stepG P true { frame := b.at a (.inRegion ops (i :: rest) :: k), callers := cs, status := .running, dying := none } w).bare = GStep.go { frame := (b.at a' (.inRegion ops (i :: rest) :: k)).finish v, callers := cs, status := .running, dying := none } w' →
      RegTo P ops Q rest (a'.put o.dst v) w' → ∃ e a' w', Q e a' w' ∧ Arrives P (lone (b.at a (.inRegion ops (i :: rest) :: k)) cs w) b k cs e a' w' := by
    intro a' v w' hst hR
    obtain ⟨e, a₂, w₂, hq, harr⟩ := hR b k cs
    refine ⟨e, a₂, w₂, hq, .of_steps (.one (step_lone_go ?_)) harr⟩
    rw [hst, hfin]
  unfold Oper.upon at h
  split at h
  · rename_i v w' hr
    exact hs a v w' (by rw [hg]; simp [stepG.apply, hr]) h
  · rename_i w' hr
    exact hs a undef w' (by rw [hg]; simp [stepG.apply, hr]) h
  · rename_i d w' hr
    exact hs { a with defers := d :: a.defers } undef w' (by rw [hg]; simp [stepG.apply, hr, Frame.at]) h
  · rename_i f args w' hr
    have henter : step P (lone (b.at a (.inRegion ops (i :: rest) :: k)) cs w) = .next (lone (Frame.enter P f args .normal) (b.at a (.inRegion ops (i :: rest) :: k) :: cs) w') :=
      step_lone_go (by rw [hg]; simp [stepG.apply, hr, Frame.at])
    obtain ⟨e, w₂, fr, hR, hcm, _, hleave⟩ := h (b.at a (.inRegion ops (i :: rest) :: k) :: cs)
    cases e with
    | returned v =>
      obtain ⟨e, a₃, w₃, hq, harr⟩ := hR b k cs
      refine ⟨e, a₃, w₃, hq, .of_steps (.head henter (Steps.trans hcm (.one ?_))) harr⟩
      rw [← hfin]; exact step_leave_returned hleave
    | panicked chain =>
      exact ⟨.panic chain, a, w₂, hR, _, .head henter (Steps.trans hcm (.one (step_leave_panicked hleave)))⟩
    | outgrown =>
      obtain ⟨a₀, w₀, hq⟩ := hR
      exact ⟨.outgrown, a₀, w₀, hq, .inr (Outgrown.of_steps (.one henter) hcm)⟩
  · rename_i row args w' hr
    obtain ⟨v, w₂, hR, hst⟩ := h (b.at a (.inRegion ops (i :: rest) :: k)) cs
    have henter : step P (lone (b.at a (.inRegion ops (i :: rest) :: k)) cs w) = .next (lone (Frame.ofRow P row args .normal) (b.at a (.inRegion ops (i :: rest) :: k) :: cs) w') :=
      step_lone_go (by rw [hg]; simp [stepG.apply, hr, Frame.at])
    obtain ⟨e, a₃, w₃, hq, harr⟩ := hR b k cs
    refine ⟨e, a₃, w₃, hq, .of_steps (.head henter ?_) harr⟩
    rw [← hfin]; exact hst
  · rename_i v w' hr
    exact ⟨_, a, w', h, .inRegion ops (i :: rest) :: k, .one (step_lone_go (by rw [hg, ← Frame.raise_at]; simp [stepG.apply, hr]))⟩
  · exact h.elim

/-- The operations of l, from place n on, by the kit's walk; then what is left. -/
theorem RegTo.front {rest : List Nat} : ∀ (l : List Oper) (n : Nat) (a : Act) (w : World), (∀ j, j < l.length → ops[n + j]? = l[j]?) →
    wpList P ops (Exit.then (RegTo P ops Q rest) Q) l a w → RegTo P ops Q (List.range' n l.length ++ rest) a w := by
  intro l
  induction l with
  | nil => intro n a w _ h; simpa [wpList, Exit.then] using h
  | cons o l ih =>
    intro n a w hl h
    have h0 : ops[n]? = some o := by simpa using hl 0 (by simp)
    have hrest : ∀ a w, wpList P ops (Exit.then (RegTo P ops Q rest) Q) l a w → RegTo P ops Q (List.range' (n + 1) l.length ++ rest) a w := fun a w => ih (n + 1) a w (fun j hj => by
      have := hl (j + 1) (by simpa using hj)
      simpa [Nat.add_assoc, Nat.add_comm 1 j] using this)
    simp only [List.length_cons, List.range'_succ, List.cons_append]
    simp only [wpList] at h
    by_cases hw : Region.wanted o (yielded ops a.tmps) = true
    · rw [if_pos hw] at h
      rcases h with h | ⟨hasks, a₀, w₀, hq⟩
      · refine RegTo.oper h0 hw ?_
        unfold Oper.wp Oper.upon at h ⊢
        split at h
        · exact hrest _ _ h
        · exact hrest _ _ h
        · exact hrest _ _ h
        · refine Calls.mono h ?_
          intro e w₂ hR
          cases e with
          | returned v => exact hrest _ _ hR
          | panicked chain => exact hR
          | outgrown => exact hR
        · exact Rows.mono h fun v w₂ hR => hrest _ _ hR
        · exact h
        · exact h.elim
      · intro b k cs
        by_cases hk : b.kind = .early
        · exact ⟨.outgrown, a₀, w₀, hq, .inl hk⟩
        · exact ⟨.outgrown, a₀, w₀, hq, .inr (asks_outgrown h0 hw hk hasks)⟩
    · rw [if_neg hw] at h
      refine RegTo.steps (fun b k cs => ?_) (hrest _ _ h)
      have hs := step_op_skip (P := P) (b := b) (a := a) (k := k) (cs := cs) (w := w) (ops := ops) (i := n) (rest := List.range' (n + 1) l.length ++ rest) (by simp [h0]; simpa using hw)
      rw [h0] at hs
      exact .one hs

/-- A region whose operations are l, walked by the kit, and then those of r. -/
theorem wp_region_front {id : Nat} {l r : List Oper} (h : wpList P (l ++ r).toArray (Exit.then (RegTo P (l ++ r).toArray Q (List.range' l.length r.length)) Q) l a w) : (Code.region id (l ++ r).toArray false).wp P Q a w := by
  refine wp_of_regTo ?_
  have e : List.range (l ++ r).toArray.size = List.range' 0 l.length ++ List.range' l.length r.length := by
    rw [List.range_eq_range', List.size_toArray, List.length_append]
    simpa using (List.range'_append_1 (s := 0) (m := l.length) (n := r.length)).symm
  rw [e]
  exact RegTo.front l 0 a w (fun j hj => by simp [List.getElem?_append_left hj]) h

/-- The same, cut behind the first n operations. -/
theorem wp_region_cut (n : Nat) {id : Nat} {l : List Oper} (h : wpList P l.toArray (Exit.then (RegTo P l.toArray Q (List.range' (l.take n).length (l.drop n).length)) Q) (l.take n) a w) : (Code.region id l.toArray false).wp P Q a w := by
  have e : l = l.take n ++ l.drop n := (List.take_append_drop n l).symm
  have := wp_region_front (P := P) (id := id) (l := l.take n) (r := l.drop n) (Q := Q) (a := a) (w := w) (by rw [← e]; exact h)
  rwa [← e] at this

/-- What a body that has deferred the closing of one channel must come to: the channel is open; behind the closing the result is read. -/
def closePost (P : Program) (fn : Func) (R : Ending → World → Prop) : Exit → Act → World → Prop
  | .normal, a, w | .ret, a, w => ∃ ats ty consts c cap buf s r tm, a.defers = [{ target := .builtin .close ats ty consts, args := #[.chan (some c)] }] ∧ w.heap[c]? = some (.chan cap buf false s r tm) ∧
      ∃ v, (results fn a.tmps).run P (w.setChan c cap buf true s r tm) = .ok v (w.setChan c cap buf true s r tm) ∧ R (.returned v) (w.setChan c cap buf true s r tm)
  | _, _, _ => False

theorem calls_of_wp_close {f : FuncId} {fn : Func} {c : Code} {args : Array Value} {R : Ending → World → Prop} (hf : P.funcs[f]? = some fn) (hb : fn.body = some c)
    (h : c.wp P (closePost P fn R) { tmps := args ++ Array.replicate (fn.ntmps - args.size) undef, defers := [] } w) : Calls P f args w R := by
  intro cs
  have henter : Frame.enter P f args .normal = ({ (default : Frame) with fn := f, kind := .normal } : Frame).at { tmps := args ++ Array.replicate (fn.ntmps - args.size) undef, defers := [] } [.code c] := by
    simp [Frame.enter, Frame.at, hf, hb]
  obtain ⟨e, a', w', hq, harr⟩ := h { (default : Frame) with fn := f, kind := .normal } [] cs
  rw [← henter] at harr
  have fin : ∀ todo, (∃ ats ty consts c cap buf s r tm, a'.defers = [{ target := .builtin .close ats ty consts, args := #[.chan (some c)] }] ∧ w'.heap[c]? = some (.chan cap buf false s r tm) ∧
      ∃ v, (results fn a'.tmps).run P (w'.setChan c cap buf true s r tm) = .ok v (w'.setChan c cap buf true s r tm) ∧ R (.returned v) (w'.setChan c cap buf true s r tm)) →
      Steps P (lone (Frame.enter P f args .normal) cs w) (lone { ({ (default : Frame) with fn := f, kind := .normal } : Frame).at a' todo with mode := .returning } cs w') →
      ∃ e w'' fr, R e w'' ∧ Comes P (lone (Frame.enter P f args .normal) cs w) (lone fr cs w'') e ∧ fr.fn = f ∧ fr.leaving P w'' e := by
    rintro todo ⟨ats, ty, consts, ch, cap, buf, s, r, tm, hd, hc, v, hv, hR⟩ hs
    refine ⟨.returned v, _, { ({ (default : Frame) with fn := f, kind := .normal } : Frame).at { a' with defers := [] } todo with mode := .returning }, hR, Steps.trans hs (.one (step_lone_go ?_)), rfl, rfl, rfl, rfl, fn, hf, hv⟩
    have hcl := run_close_open (P := P) (w := w') ats ty hc
    simp [stepG, unwind, Frame.at, hd, callDeferred, invoke, builtin, hcl, GStep.after, World.setChan]
  cases e with
  | normal => exact fin [] hq (Steps.trans harr (.one step_end))
  | ret => obtain ⟨todo, hs⟩ := harr; exact fin todo hq hs
  | panic chain => exact hq.elim
  | exit id => exact hq.elim
  | goto l => exact hq.elim
  | outgrown => exact hq.elim
end
end Go.Proofs.Ytkbnafmkgiknbab
