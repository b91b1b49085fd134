/-
  Contracts and plain mathematics, joined: IterT, BackIter, LoopMarks, TreeShape, VisitIter, LeafIter, Yield. No statement is proved here.
-/
import Derived.RangeFuncNested
import Derived.RangeFuncLeaves
import Derived.Shelf.Abstract
import Derived.WalkKit
import Derived.OwnWalkIn
import Derived.TacticsInMore
import Derived.LoopNIn
import Derived.LoopIn
import Derived.Test.YtghpekijimoicaaDoorG1
import Derived.Test.YtghpekijimoicaaDoorChecked
import Derived.Deep.LoopGhost
import Derived.Test.YtghpekijimoicaaDoorG4
import Derived.Test.YtghpekijimoicaaDoorG2
namespace Go.Proofs.YtghpekijimoicaaDoor
open Go.RowKit Go.Shelf

theorem wide_fn (f : FuncId) : Fence.wide.fn f = True := rfl
theorem wide_fn_in (f : FuncId) (l : Nat) : (Fence.wide.inRound l).fn f = True := rfl
theorem wide_depth : Fence.wide.depth.isSome = false := rfl
theorem wide_depth_in (l : Nat) : (Fence.wide.inRound l).depth.isSome = false := rfl
section
variable {P : Program} {α : Type}
/-- A block that is not the caller's: from B on, no cells, or cells of one of the types that the iterator writes. -/
def Theirs (tv : TypeId → Prop) (B : Nat) (W : World) (k : Nat) : Prop := B ≤ k ∧ ∃ o, W.heap[k]? = some o ∧ (o.isCells = false ∨ ∃ cur t p, tv t ∧ o = .cells cur t p)
/-- What the caller says of the world holds on, whatever the iterator does. -/
def Stays {β : Type} (tv : TypeId → Prop) (B : Nat) (J : β → World → Prop) : Prop := ∀ s W W', J s W → Within W W' (Theirs tv B W) → J s W'
/-- What a round that goes on leaves as it was. -/
structure Kept3 (n₀ b : Nat) (tk : TypeId → Prop) (W W' : World) : Prop where
  below : Below n₀ W W'
  typed : ∀ (k : Nat) (cur : Array Value) (t : TypeId) (p : Nat × Nat), tk t → W.heap[k]? = some (Obj.cells cur t p) → W'.heap[k]? = some (Obj.cells cur t p)
  other : KeepsFrom b W W'
theorem Kept3.refl (n₀ b : Nat) (tk : TypeId → Prop) (W : World) : Kept3 n₀ b tk W W := ⟨Below.refl _ _, fun _ _ _ _ _ h => h, KeepsFrom.refl _ _⟩
theorem Kept3.trans {n₀ b : Nat} {tk : TypeId → Prop} {W X Y : World} (h : Kept3 n₀ b tk W X) (g : Kept3 n₀ b tk X Y) : Kept3 n₀ b tk W Y :=
  ⟨h.below.trans g.below, fun k cur t p ht hk => g.typed k cur t p ht (h.typed k cur t p ht hk), h.other.trans g.other⟩
theorem Kept3.mono {n₀ n₁ b c : Nat} {tk tj : TypeId → Prop} {W X : World} (h : Kept3 n₀ b tk W X) (hn : n₁ ≤ n₀) (hb : b ≤ c) (ht : ∀ t, tj t → tk t) : Kept3 n₁ c tj W X :=
  ⟨h.below.mono hn, fun k cur t p hj hk => h.typed k cur t p (ht t hj) hk, ⟨h.other.size, fun k o hk ho hc => h.other.same k o (Nat.le_trans hb hk) ho hc⟩⟩
/-- Where nothing old has turned. -/
theorem Kept3.of_below {n₀ b : Nat} {tk : TypeId → Prop} {W X : World} (h : Below W.heap.size W X) (hn : n₀ ≤ W.heap.size) : Kept3 n₀ b tk W X :=
  ⟨h.mono hn, fun k _ _ _ _ hk => (h.block k (Array.getElem?_eq_some_iff.1 hk).1).trans hk, ⟨h.size, fun k _ _ hk _ => (h.block k (Array.getElem?_eq_some_iff.1 hk).1).trans hk⟩⟩
theorem keepsFrom_mono {b c : Nat} {W X : World} (h : KeepsFrom b W X) (hb : b ≤ c) : KeepsFrom c W X := ⟨h.size, fun k o hk ho hc => h.same k o (Nat.le_trans hb hk) ho hc⟩

theorem within_none {W X : World} (h : Below W.heap.size W X) (S : Nat → Prop) : Within W X S := Within.of_below h S
theorem within_put {W : World} {l : Nat} (o' : Obj) : Within W (W.putObj l o') (fun k => k = l) :=
  have g := grownBy_putObj' W l o'
  ⟨g.os, g.tape, g.output, g.size, fun k hk hn => g.block k hk (fun e => hn (by cases e; rfl))⟩
theorem Stays.put {β : Type} {tv : TypeId → Prop} {B : Nat} {J : β → World → Prop} (h : Stays tv B J) {s : β} {W : World} {l : Nat} {o : Obj} (o' : Obj) (hs : J s W) (hB : B ≤ l) (hl : W.heap[l]? = some o) (ho : o.isCells = false) : J s (W.putObj l o') :=
  h s W _ hs ((within_put o').mono (fun k e => by subst e; exact ⟨hB, o, hl, .inl ho⟩))
theorem Stays.later {β : Type} {tv : TypeId → Prop} {B : Nat} {J : β → World → Prop} (h : Stays tv B J) {s : β} {W X : World} (hs : J s W) (hb : Below W.heap.size W X) : J s X := h s W X hs (within_none hb _)
theorem Stays.and {β : Type} {tv : TypeId → Prop} {B : Nat} {I J : β → World → Prop} (h : Stays tv B I) (g : Stays tv B J) : Stays tv B (fun s W => I s W ∧ J s W) := fun s W W' hs hw => ⟨h s W W' hs.1 hw, g s W W' hs.2 hw⟩
theorem Stays.mono {β : Type} {tv : TypeId → Prop} {B C : Nat} {J : β → World → Prop} (h : Stays tv B J) (hB : B ≤ C) : Stays tv C J := fun s W W' hs hw => h s W W' hs (hw.mono (fun _ hk => ⟨Nat.le_trans hB hk.1, hk.2⟩))
/-- A block that is not theirs. -/
theorem Within.same {W X : World} {S : Nat → Prop} (h : Within W X S) {k : Nat} {o : Obj} (hk : W.heap[k]? = some o) (hn : ¬ S k) : X.heap[k]? = some o := (h.block k (Array.getElem?_eq_some_iff.1 hk).1 hn).trans hk

/-- The iterator's contract: it gives xs in their order, or stops where a round says so; it writes cells of the types tv, and leans on cells of the types tk, and on what lies below n₀. -/
def SeqT (P : Program) (g : Nat) (lb : Array Value) (encs : α → Array Value) (xs : List α) (tv tk : TypeId → Prop) (n₀ : Nat) (w : World) : Prop :=
  ∀ (n l : Nat) (J Jx : List α → World → Prop) (W : World), Below w.heap.size w W → l < W.heap.size → Stays tv W.heap.size J → Stays tv W.heap.size Jx →
    (∀ (m : Nat) (pre : List α) (x : α) (W1 : World), J pre W1 → pre ++ [x] <+: xs → YieldAt Fence.wide m P l (encs x) W1 fun e W' =>
      (e = .returned (.bool true) ∧ J (pre ++ [x]) W' ∧ Kept3 n₀ (l + 1) tk W1 W') ∨ (e = .returned (.bool false) ∧ Jx (pre ++ [x]) W' ∧ KeepsFrom (l + 1) W1 W')) →
    J [] W →
    CallsIn Fence.wide n P g (#[.func (.yield l) #[] #[]] ++ lb) W fun e W' => (∃ v, e = .returned v) ∧ (J xs W' ∨ ∃ pre x, pre ++ [x] <+: xs ∧ Jx (pre ++ [x]) W')

/-- How a round's body may be left. -/
def postT (n₀ b : Nat) (tk : TypeId → Prop) (I : List α → World → Prop) (Ix : Code → List α → World → Prop) (xs : List α) (W : World) : Exit → Act → World → Prop
  | .normal, _, W' => Kept3 n₀ b tk W W' ∧ I xs W'
  | .ret, _, W' => KeepsFrom b W W' ∧ Ix .ret xs W'
  | .exit id, _, W' => KeepsFrom b W W' ∧ Ix (.exit id) xs W'
  | .goto t, _, W' => KeepsFrom b W W' ∧ Ix (.goto t) xs W'
  | .panic _, _, _ => False
  | .outgrown, _, _ => False

theorem wpIn_rangeT {g : Operand} {ps : Array Tmp} {assign body : Code} {Q : Exit → Act → World → Prop} {a : Act} {w : World} {n : Nat}
    {gf : Nat} {lb : Array Value} (hg : a.eval g = .func (.func gf) #[] lb) (eg : ∀ args w, (callFunc gf args).run P w = .ok (.enter gf args) w)
    {encs : α → Array Value} {xs : List α} {tv tk : TypeId → Prop} {n₀ : Nat} {w0 : World} (hseq : SeqT P gf lb encs xs tv tk n₀ w0) (hb0 : Below w0.heap.size w0 w) (hn₀ : n₀ ≤ w.heap.size) (hps : ∀ x, (encs x).size = ps.size)
    (I : List α → World → Prop) (Ix : Code → List α → World → Prop) (hI : Stays tv w.heap.size I) (hIx : ∀ c, Stays tv w.heap.size (Ix c)) (h0 : I [] w)
    (Ax : α → Act → World → Prop) (hAx : ∀ x a' W l r r', Ax x a' W → W.heap[l]? = some (.loop r) → Ax x a' (W.putObj l (.loop r')))
    (hassign : ∀ (l m : Nat) (pre : List α) (x : α) (W : World) (K : Act → World → Prop), I pre W → pre ++ [x] <+: xs → (∀ a' W', Below W.heap.size W W' → Ax x a' W' → K a' W') →
      assign.wpIn (Fence.wide.inRound l) m P (Exit.then K (fun _ _ _ => False)) { tmps := (ps.zip (encs x)).foldl (fun t (p, v) => t.setIfInBounds p v) a.tmps, defers := [] } W)
    (hbody : ∀ (l m : Nat) (pre : List α) (x : α) (a' : Act) (W : World), w.heap.size ≤ l → l < W.heap.size → I pre W → Ax x a' W → pre ++ [x] <+: xs → body.wpIn (Fence.wide.inRound l) m P (postT n₀ w.heap.size tk I Ix (pre ++ [x]) W) a' W)
    (hdone : ∀ (D : Nat) (W : World), w.heap.size ≤ D → I xs W → W.heap[D]? = some (.deferred (some [])) → Q .normal { a with defers := { target := .collected D, args := #[] } :: a.defers } W)
    (hstop : ∀ (D : Nat) (c : Code) (pre : List α) (x : α) (W : World), w.heap.size ≤ D → pre ++ [x] <+: xs → Ix c (pre ++ [x]) W → W.heap[D]? = some (.deferred (some [])) → c.wpIn Fence.wide n P Q { a with defers := { target := .collected D, args := #[] } :: a.defers } W) :
    (Code.rangeFunc g ps assign body).wpIn Fence.wide n P Q a w := by
  refine wpIn_rangeFunc fun fn hfn => ?_
  -- the loop's own two blocks
  have hall : ∃ rec : LoopState → Option Code → Loop, rec = fun st pe => { state := st, pending := pe, fn, tmps := a.tmps, params := ps, assign, body, defers := w.heap.size } := ⟨_, rfl⟩
  obtain ⟨rec, hrec⟩ := hall
  generalize hl : w.heap.size + 1 = l
  have hen := run_enterLoop_outer (P := P) (w := w) fn a.tmps ps assign body
  generalize hW1 : (w.alloc (.deferred (some []))).alloc (.loop { state := .ready, pending := none, fn, tmps := a.tmps, params := ps, assign, body, defers := w.heap.size }) = W1 at hen
  have bW : Below w.heap.size w W1 := by rw [← hW1]; exact ((Below.refl _ w).alloc (Nat.le_refl _) _).alloc (by simp) _
  have sW : W1.heap.size = w.heap.size + 2 := by rw [← hW1]; simp
  have hR1 : W1.heap[l]? = some (.loop (rec .ready none)) := by
    rw [← hW1, ← hl, hrec]
    have := World.alloc_heap_new (w.alloc (.deferred (some []))) (.loop { state := .ready, pending := none, fn, tmps := a.tmps, params := ps, assign, body, defers := w.heap.size })
    rwa [World.size_alloc] at this
  have hD1 : W1.heap[w.heap.size]? = some (.deferred (some [])) := by
    rw [← hW1]; exact (Below.heap_alloc _ _ _ (by simp)).trans (World.alloc_heap_new w _)
  clear hW1
  -- what is carried through the rounds: the caller's word, and the two blocks
  have hst : ∀ {β : Type} {J : β → World → Prop} {R : Obj}, Stays tv w.heap.size J → Stays tv W1.heap.size (fun s W => J s W ∧ W.heap[l]? = some R ∧ W.heap[w.heap.size]? = some (.deferred (some []))) := fun hJ s W W' hs hw =>
    ⟨hJ s W W' hs.1 (hw.mono (fun k hk => ⟨by have := hk.1; omega, hk.2⟩)), hw.same hs.2.1 (fun hk => by have := hk.1; omega), hw.same hs.2.2 (fun hk => by have := hk.1; omega)⟩
  refine ⟨l, [{ target := .collected w.heap.size, args := #[] }], W1, { target := .fn (.func gf) lb, args := #[.func (.yield l) #[] #[]] }, W1, gf, #[.func (.yield l) #[] #[]] ++ lb, W1, by rw [← hl]; exact hen, ?_, fun _ _ => trivial, ?_, fun h => (by simp [Fence.wide] at h), ?_⟩
  · simp only [resolve, hg]
    simp [go_sem]
  · simp [invoke, go_sem, eg]
  · refine (hseq (n - 1) l (fun pre W => I pre W ∧ W.heap[l]? = some (.loop (rec .ready none)) ∧ W.heap[w.heap.size]? = some (.deferred (some [])))
      (fun pre W => ∃ c, Ix c pre W ∧ W.heap[l]? = some (.loop (rec .done (some c))) ∧ W.heap[w.heap.size]? = some (.deferred (some []))) W1 (hb0.trans (bW.mono hb0.size)) (by omega) (hst hI)
      (fun s W W' ⟨c, hs⟩ hw => ⟨c, hst (hIx c) s W W' hs hw⟩) ?_ ⟨hI.later h0 bW, hR1, hD1⟩).mono ?_
    · -- one round
      rintro m pre x W ⟨hi, hR, hD⟩ hp
      have hy := run_yield (P := P) (args := encs x) hR (by rw [hrec]; exact hps x)
      rw [hrec] at hy
      refine ⟨fn, _, assign, body, hy, roundIn_of_wpIn hfn (hassign l m pre x W _ hi hp ?_)⟩
      intro a' Wa hb hax
      have hia := hI.later hi hb
      have hRa : Wa.heap[l]? = some (.loop (rec .ready none)) := (hb.block l (Array.getElem?_eq_some_iff.1 hR).1).trans hR
      have hDa : Wa.heap[w.heap.size]? = some (.deferred (some [])) := (hb.block _ (Array.getElem?_eq_some_iff.1 hD).1).trans hD
      refine ⟨_, run_beginRound hRa (by rw [hrec]), ?_⟩
      have hll : l < Wa.heap.size := (Array.getElem?_eq_some_iff.1 hRa).1
      generalize hWb : Wa.putObj l (.loop { rec .ready none with state := .busy }) = Wb
      have hib : I pre Wb := by rw [← hWb]; exact hI.put _ hia (by omega) hRa rfl
      have hab : Ax x a' Wb := by rw [← hWb]; exact hAx x a' Wa l _ _ hax hRa
      have hRb : Wb.heap[l]? = some (.loop { rec .ready none with state := .busy }) := by rw [← hWb]; exact World.putObj_heap_same hll
      have hDb : Wb.heap[w.heap.size]? = some (.deferred (some [])) := by rw [← hWb]; exact (World.putObj_heap_other (by omega)).trans hDa
      have hKb : Kept3 n₀ (l + 1) tk W Wb := by
        refine (Kept3.of_below hb (by have := (Array.getElem?_eq_some_iff.1 hD).1; omega)).trans ?_
        rw [← hWb]
        exact ⟨(Below.refl n₀ Wa).grown (grownBy_putObj' Wa l _) (by omega) (fun k e => by cases e; omega),
          fun k cur t p _ hk => (World.putObj_heap_other (fun e => by subst e; rw [hRa] at hk; cases hk)).trans hk,
          ⟨by simp, fun k o hk ho _ => (World.putObj_heap_other (by omega)).trans ho⟩⟩
      refine wpIn_mono (hbody l m pre x a' Wb (by omega) (Array.getElem?_eq_some_iff.1 hRb).1 hib hab hp) ?_
      -- the round's end
      have fin : ∀ (jump : Option Code) (W3 : World), KeepsFrom w.heap.size Wb W3 →
          (Instr.endRound l jump).run P W3 = .ok (.bool jump.isNone) (W3.putObj l (.loop (rec (if jump.isNone then .ready else .done) jump))) ∧ W3.heap[l]? = some (.loop { rec .ready none with state := .busy }) ∧
          (W3.putObj l (.loop (rec (if jump.isNone then .ready else .done) jump))).heap[l]? = some (.loop (rec (if jump.isNone then .ready else .done) jump)) ∧
          (W3.putObj l (.loop (rec (if jump.isNone then .ready else .done) jump))).heap[w.heap.size]? = some (.deferred (some [])) ∧ KeepsFrom (l + 1) W (W3.putObj l (.loop (rec (if jump.isNone then .ready else .done) jump))) := fun jump W3 hk => by
        have h3 := hk.same _ _ (by omega) hRb rfl
        have := run_endRound (P := P) jump h3
        rw [hrec] at this ⊢
        refine ⟨this, by rw [hrec] at h3; exact h3, World.putObj_heap_same (Array.getElem?_eq_some_iff.1 h3).1, (World.putObj_heap_other (by omega)).trans (hk.same _ _ (Nat.le_refl _) hDb rfl), ?_⟩
        exact hKb.other.trans ⟨Nat.le_trans hk.size (by simp), fun k o hk2 ho hc => (World.putObj_heap_other (by omega)).trans (hk.same k o (by omega) ho hc)⟩
      have outs : ∀ (c : Code) (W3 : World), KeepsFrom w.heap.size Wb W3 ∧ Ix c (pre ++ [x]) W3 → ∃ v w', (Instr.endRound l (some c)).run P W3 = .ok v w' ∧
          ((Ending.returned v = .returned (.bool true) ∧ (I (pre ++ [x]) w' ∧ w'.heap[l]? = some (.loop (rec .ready none)) ∧ w'.heap[w.heap.size]? = some (.deferred (some []))) ∧ Kept3 n₀ (l + 1) tk W w') ∨
            (Ending.returned v = .returned (.bool false) ∧ (∃ c, Ix c (pre ++ [x]) w' ∧ w'.heap[l]? = some (.loop (rec .done (some c))) ∧ w'.heap[w.heap.size]? = some (.deferred (some []))) ∧ KeepsFrom (l + 1) W w')) := fun c W3 h => by
        obtain ⟨hr, h3, h4, h5, h6⟩ := fin (some c) W3 h.1
        exact ⟨_, _, hr, .inr ⟨rfl, ⟨c, (hIx c).put _ h.2 (by omega) h3 rfl, h4, h5⟩, h6⟩⟩
      rintro e a3 W3 hpo
      cases e with
      | normal =>
        obtain ⟨hk, hi3⟩ := hpo
        obtain ⟨hr, h3, h4, h5, h6⟩ := fin none W3 hk.other
        refine ⟨_, _, hr, .inl ⟨rfl, ⟨hI.put _ hi3 (by omega) h3 rfl, h4, h5⟩, ?_⟩⟩
        refine hKb.trans ((hk.mono (Nat.le_refl _) (by omega) (fun _ h => h)).trans ?_)
        exact ⟨(Below.refl n₀ W3).grown (grownBy_putObj' W3 l _) (by have := hk.other.size; have := (Array.getElem?_eq_some_iff.1 hDb).1; omega) (fun k e => by cases e; omega),
          fun k cur t p _ hk2 => (World.putObj_heap_other (fun e => by subst e; rw [h3] at hk2; cases hk2)).trans hk2,
          ⟨by simp, fun k o hk2 ho _ => (World.putObj_heap_other (by omega)).trans ho⟩⟩
      | ret => exact outs .ret W3 hpo
      | exit id => exact outs (.exit id) W3 hpo
      | goto t => exact outs (.goto t) W3 hpo
      | panic ch => exact hpo.elim
      | outgrown => exact hpo.elim
    · -- behind the iterator
      rintro e W2 ⟨⟨v, rfl⟩, (⟨hi, hR, hD⟩ | ⟨pre, x, hp, c, hi, hR, hD⟩)⟩
      · refine ⟨none, _, by have := run_endLoop (P := P) hR (by rw [hrec]; simp); rw [hrec] at this; exact this, ?_⟩
        exact hdone _ _ (Nat.le_refl _) (hI.put _ hi (by omega) hR rfl) ((World.putObj_heap_other (by omega)).trans hD)
      · refine ⟨some c, _, by have := run_endLoop (P := P) hR (by rw [hrec]; simp); rw [hrec] at this; exact this, ?_⟩
        exact hstop _ c pre x _ (Nat.le_refl _) hp ((hIx c).put _ hi (by omega) hR rfl) ((World.putObj_heap_other (by omega)).trans hD)
end
end Go.Proofs.YtghpekijimoicaaDoor
namespace Go.Proofs.YtghpekijimoicaaDoor
open Go.RowKit Go.Shelf

attribute [local go_sem] Oper.semAt_some

theorem backward_any (a : Option Addr) (len cap : Nat) (w : World) :
    Calls Tryd.prog 70 #[.slice a len cap] w fun e w' => e = .returned (.func (.func 89) #[] #[.pointer (some ⟨w.heap.size, 0, none⟩)]) ∧ w' = w.alloc (.cells #[.slice a len cap] 28) := by
  go_enter Tryd.func70, Tryd.ntmps70
  go_wp2
  go_ret
  exact ⟨rfl, rfl⟩

/-- The numbers with their places, from the last one on. -/
def backs (zs : List Int) : List (Int × Nat) := zs.zipIdx.reverse
theorem backs_length (zs : List Int) : (backs zs).length = zs.length := by simp [backs]
theorem backs_get {zs : List Int} {k : Nat} (h : k < zs.length) (h' : k < (backs zs).length) : (backs zs)[k] = (zs[zs.length - 1 - k], zs.length - 1 - k) := by
  simp [backs, List.getElem_reverse]
theorem prefix_step {α : Type} {xs : List α} {k : Nat} (h : k < xs.length) : xs.take k ++ [xs[k]] <+: xs := by
  rw [← List.take_succ_eq_append_getElem h]; exact List.take_prefix _ _
theorem yield_in {P : Program} {m l : Nat} {args : Array Value} {W : World} {R : Ending → World → Prop} (l' : Nat) (h : YieldAt Fence.wide m P l args W R) : YieldAt (Fence.wide.inRound l') m P l args W R := h
theorem calls_in {P : Program} {f : FuncId} {args : Array Value} {w : World} {R : Ending → World → Prop} (n l : Nat) (h : Calls P f args w R) : CallsIn (Fence.wide.inRound l) n P f args w R := callsIn_wide.2 h

set_option maxRecDepth 100000 in
set_option maxHeartbeats 2000000 in
theorem backward_seq (Bs n₀ b off cap : Nat) (a : Option Addr) (zs : List Int) (hreach : zs.length ≤ 1048576) (w : World) (hB : w.heap[Bs]? = some (.cells #[.slice a zs.length cap] 28)) (hn : n₀ ≤ w.heap.size)
    (hb : zs = [] ∨ (a = some ⟨b, off, none⟩ ∧ b < n₀ ∧ ∀ j (hj : j < zs.length), w.cell? ⟨b, off + j, none⟩ = some (.int .i64 zs[j]))) :
    SeqT Tryd.prog 89 #[.pointer (some ⟨Bs, 0, none⟩)] (fun x : Int × Nat => #[.int .i64 (x.2 : Int), .int .i64 x.1]) (backs zs) (fun _ => False) (fun t => t = 28) n₀ w := by
  intro n l J Jx W hW hl hJ hJx hY h0
  refine callsIn_of_wp Tryd.func89 rfl trivial ?_ rfl
  simp only [Tryd.ntmps89, List.size_toArray, List.length_cons, List.length_nil, Nat.reduceAdd, Nat.reduceSub, Array.replicate_succ, Array.replicate_zero, List.push_toArray, List.append_toArray, List.nil_append, List.cons_append]
  have hB1 : W.heap[Bs]? = some (.cells #[.slice a zs.length cap] 28) := (hW.block Bs (Array.getElem?_eq_some_iff.1 hB).1).trans hB
  have q1 : W.cell? ⟨Bs, 0, none⟩ = some (.slice a zs.length cap) := by simp [World.cell?, hB1]
  have hc1 : ∀ j (hj : j < zs.length), ∃ b off, a = some ⟨b, off, none⟩ ∧ b < n₀ ∧ W.cell? ⟨b, off + j, none⟩ = some (.int .i64 zs[j]) := fun j hj => by
    rcases hb with e | ⟨e, hb2, hc⟩
    · rw [e] at hj; simp at hj
    · exact ⟨b, off, e, hb2, (hW.cell (p := ⟨b, off + j, none⟩) (by simp; omega)).trans (hc j hj)⟩
  have HC : Hid (∀ j (hj : j < zs.length), ∃ b off, a = some ⟨b, off, none⟩ ∧ b < n₀ ∧ W.cell? ⟨b, off + j, none⟩ = some (.int .i64 zs[j])) := hc1
  have HY : Hid (∀ (m : Nat) (pre : List (Int × Nat)) (x : Int × Nat) (W1 : World), J pre W1 → pre ++ [x] <+: backs zs → YieldAt Fence.wide m Tryd.prog l #[.int .i64 (x.2 : Int), .int .i64 x.1] W1 fun e W' =>
      (e = .returned (.bool true) ∧ J (pre ++ [x]) W' ∧ Kept3 n₀ (l + 1) (fun t => t = 28) W1 W') ∨ (e = .returned (.bool false) ∧ Jx (pre ++ [x]) W' ∧ KeepsFrom (l + 1) W1 W')) := hY
  clear hb hc1 hY hJ hJx hB
  gi_wp2
  gi_loopw [3] (fun i wr => ∃ k : Nat, k ≤ zs.length ∧ i = .int .i64 ((zs.length : Int) - 1 - k) ∧ J ((backs zs).take k) wr ∧ wr.heap[Bs]? = some (.cells #[.slice a zs.length cap] 28) ∧ Below n₀ W wr) (fun i _ => (intOf i + 1).toNat)
  case atStart => exact ⟨0, Nat.zero_le _, by simp, h0, hB1, Below.refl _ _⟩
  case round =>
    obtain ⟨k, hk, rfl, hJs, hBr, hnx⟩ := hrel
    by_cases hlt : k < zs.length
    · have hkb : k < (backs zs).length := by rw [backs_length]; exact hlt
      obtain ⟨b, off, rfl, hb, hcc⟩ := HC.out (zs.length - 1 - k) (by omega)
      have q := (hnx.cell (p := ⟨b, off + (zs.length - 1 - k), none⟩) hb).trans hcc
      have q2 : wr.cell? ⟨Bs, 0, none⟩ = some (.slice (some ⟨b, off, none⟩) zs.length cap) := by simp [World.cell?, hBr]
      have HT : Hid ((backs zs).take (k + 1) = (backs zs).take k ++ [(zs[zs.length - 1 - k], zs.length - 1 - k)]) := by
        show _ = _
        rw [List.take_succ_eq_append_getElem hkb, backs_get hlt hkb]
      have hy := HY.out (n - 1) ((backs zs).take k) (zs[zs.length - 1 - k], zs.length - 1 - k) wr hJs (by rw [← HT.out]; exact List.take_prefix _ _)
      rw [← HT.out] at hy
      obtain ⟨fn, tmps, assign, body, hy, hR⟩ := hy
      obtain ⟨d, hd⟩ : ∃ d : Nat, Hid (zs.length - 1 - k = d) := ⟨_, rfl⟩
      have hdi : (zs.length : Int) - 1 - k = d := by have := hd.out; omega
      have hdl : d < zs.length := by have := hd.out; omega
      simp only [hd.out] at hy q hR
      rw [hdi]
      clear hcc
      gi_wp2
      refine ⟨fun h => by simp [Fence.wide] at h, hR.mono ?_⟩
      rintro e W3 (⟨rfl, hJ3, hk3⟩ | ⟨rfl, hJx3, hk3⟩)
      · gi_wp2
        go_roundw
        case rel => exact ⟨k + 1, by omega, by have := hd.out; simp; omega, hJ3, hk3.typed _ _ _ _ rfl hBr, hnx.trans hk3.below⟩
        case measure => simp [intOf]
      · gi_wp2
        refine bodyPost_ret (results_none rfl _ _ _) rfl ?_
        refine ⟨⟨_, rfl⟩, .inr ⟨(backs zs).take k, (zs[zs.length - 1 - k], zs.length - 1 - k), ?_, ?_⟩⟩
        · rw [← HT.out]; exact List.take_prefix _ _
        · rw [← HT.out]; exact hJx3
    · have e : k = zs.length := by omega
      have HJ : Hid (J (backs zs) wr) := by
        rw [List.take_of_length_le (by rw [backs_length]; omega)] at hJs
        exact hJs
      subst e
      gi_wp2
      go_end0
      exact ⟨⟨_, rfl⟩, .inl HJ.out⟩
end Go.Proofs.YtghpekijimoicaaDoor
namespace Go.Proofs.YtghpekijimoicaaDoor
open Go.RowKit Go.Shelf

section
variable {P : Program} {F : Fence} {n : Nat}
/-- A loop whose invariant bears a number that each round lowers. -/
theorem wpIn_loop_num {Q : Exit → Act → World → Prop} {a : Act} {w : World} {c : Code} (I : Nat → Act → World → Prop) (n₀ : Nat) (h₀ : I n₀ a w)
    (round : ∀ k a w, I k a w → ∀ K : Act → World → Prop, (∀ k' a' w', k' < k → I k' a' w' → K a' w') → c.wpIn F n P (Exit.then K Q) a w) : (Code.loop c).wpIn F n P Q a w := by
  refine wpIn_loop (fun a w => ∃ k, I k a w) (fun a w => leastOf (fun k => I k a w)) ⟨n₀, h₀⟩ fun a w hI => ?_
  have h1 := (leastOf_spec hI).1
  exact round _ a w h1 _ fun k' a' w' hlt h2 => ⟨⟨k', h2⟩, Nat.lt_of_le_of_lt ((leastOf_spec ⟨k', h2⟩).2 k' h2) hlt⟩

/-- The marks of ranges over functions. -/
def marksOf (ds : List Nat) : List Deferred := ds.map fun D => { target := .collected D, args := #[] }
theorem marksOf_cons (D : Nat) (ds : List Nat) : ({ target := .collected D, args := #[] } : Deferred) :: marksOf ds = marksOf (D :: ds) := rfl
/-- Blocks that are there for the rounds' deferred calls, none twice. -/
def MarksIn (B : Nat) (ds : List Nat) (w : World) : Prop := ds.Nodup ∧ ∀ D ∈ ds, B ≤ D ∧ w.heap[D]? = some (.deferred (some []))
theorem MarksIn.nil (B : Nat) (w : World) : MarksIn B [] w := ⟨List.nodup_nil, fun _ h => by simp at h⟩
theorem MarksIn.kept {B b : Nat} {ds : List Nat} {w w' : World} (h : MarksIn B ds w) (hb : b ≤ B) (hk : KeepsFrom b w w') : MarksIn B ds w' := ⟨h.1, fun D hD => ⟨(h.2 D hD).1, hk.same D _ (by have := (h.2 D hD).1; omega) (h.2 D hD).2 rfl⟩⟩
theorem MarksIn.within {B : Nat} {ds : List Nat} {w w' : World} {S : Nat → Prop} (h : MarksIn B ds w) (hw : Within w w' S) (hn : ∀ k o, w.heap[k]? = some o → o.isCells = false → ¬ S k) : MarksIn B ds w' := ⟨h.1, fun D hD => ⟨(h.2 D hD).1, hw.same (h.2 D hD).2 (hn D _ (h.2 D hD).2 rfl)⟩⟩
theorem MarksIn.push {B D : Nat} {ds : List Nat} {w w0 : World} (h : MarksIn B ds w) (h0 : ∀ x ∈ ds, x < w0.heap.size) (hD : w0.heap.size ≤ D) (hB : B ≤ D) (hd : w.heap[D]? = some (.deferred (some []))) : MarksIn B (D :: ds) w :=
  ⟨List.nodup_cons.2 ⟨fun hm => by have := h0 D hm; omega, h.1⟩, fun x hx => by
    rcases List.mem_cons.1 hx with rfl | hx
    · exact ⟨hB, hd⟩
    · exact h.2 x hx⟩
theorem MarksIn.lt {B : Nat} {ds : List Nat} {w : World} (h : MarksIn B ds w) : ∀ x ∈ ds, x < w.heap.size := fun x hx => (Array.getElem?_eq_some_iff.1 (h.2 x hx).2).1

theorem leaves_marks {fn : Func} {tmps : Array Value} {R : Ending → World → Prop} {B : Nat} : ∀ (ds : List Nat) (w : World), MarksIn B ds w → (∀ w', Within w w' (fun k => B ≤ k ∧ ∃ o, w.heap[k]? = some o ∧ o.isCells = false) → LeavesInM F n P fn tmps R [] .returning w') → LeavesInM F n P fn tmps R (marksOf ds) .returning w
  | [], w, _, h => h w (Within.refl _ _)
  | D :: ds, w, hm, h => by
    have hD := hm.2 D (by simp)
    refine ⟨by simp, .inl ⟨D, _, rfl, run_takeDeferred hD.2, ?_⟩⟩
    have hnd := List.nodup_cons.1 hm.1
    have hw : Within w (w.putObj D (.deferred none)) (fun k => k = D) := within_put _
    refine leaves_marks ds _ ⟨hnd.2, fun x hx => ⟨(hm.2 x (by simp [hx])).1, hw.same (hm.2 x (by simp [hx])).2 (fun e => hnd.1 (e ▸ hx))⟩⟩ fun w' hw' => h w' ?_
    have h1 : Within w (w.putObj D (.deferred none)) (fun k => B ≤ k ∧ ∃ o, w.heap[k]? = some o ∧ o.isCells = false) := hw.mono (fun k e => by subst e; exact ⟨hD.1, _, hD.2, rfl⟩)
    refine ⟨hw'.os.trans h1.os, hw'.tape.trans h1.tape, hw'.output.trans h1.output, Nat.le_trans h1.size hw'.size, fun k hk hn => ?_⟩
    by_cases e : k = D
    · subst e; exact absurd ⟨hD.1, _, hD.2, rfl⟩ hn
    · have e1 := h1.block k hk hn
      have hk2 : k < (w.putObj D (.deferred none)).heap.size := by simpa using hk
      refine (hw'.block k hk2 (fun hx => ?_)).trans e1
      rw [e1] at hx
      exact hn hx
end
end Go.Proofs.YtghpekijimoicaaDoor
namespace Go.Proofs.YtghpekijimoicaaDoor
open Go.RowKit

theorem Tryd.infoBoolT : (Tryd.prog.info? 4).map (fun i => (i.zero, i.size, i.bytes)) = some (some (.bool false), 1, 1) := by kernel_rfl

theorem isKind_any (x : Int) (w : World) : Calls Tryd.prog 62 #[.int .i64 x] w fun e w' => e = .returned (.bool (inB x 0 3)) ∧ w' = w := by
  by_cases h1 : 0 ≤ x
  · by_cases h2 : x ≤ 3
    all_goals
      go_enter Tryd.func62, Tryd.ntmps62
      go_wp2
      go_ret
      exact ⟨ret_bool (by simp [inB]; omega), rfl⟩
  · go_enter Tryd.func62, Tryd.ntmps62
    go_wp2
    go_ret
    exact ⟨ret_bool (by simp [inB]; omega), rfl⟩

theorem indexB_any (bs : List Bool) (b c : Nat) (w : World) (h : Vals w b 4 (bs.map Value.bool)) (hl : bs.length ≤ 1048576) :
    Calls Tryd.prog 83 #[.slice (some ⟨b, 0, none⟩) bs.length c, .bool false] w fun e w' => ∃ r : Int, e = .returned (.int .i64 r) ∧ Hid (-1 ≤ r ∧ r ≤ 1048576 ∧ (0 ≤ r ↔ bs.contains false = true)) ∧ w' = w := by
  go_enter Tryd.func83, Tryd.ntmps83
  go_wp2
  go_loop [8] (fun u => ∃ k : Nat, k ≤ bs.length ∧ u = .int .i64 (k : Int) ∧ Hid (∀ j (h : j < bs.length), j < k → bs[j] = true)) (fun u => bs.length - (intOf u).toNat)
  case atStart => exact ⟨0, Nat.zero_le _, rfl, fun j _ h => by omega⟩
  case round =>
    obtain ⟨k, hk, rfl, HK⟩ := hrel
    by_cases hlt : k < bs.length
    · have q : w.cell? ⟨b, k, none⟩ = some (.bool bs[k]) := (h.cell k).trans (by simp [hlt])
      have HS : Hid (bs[k] = true → ∀ j (h : j < bs.length), j < k + 1 → bs[j] = true) := fun e j hj hjk => by
        by_cases e2 : j = k
        · subst e2; exact e
        · exact HK.out j hj (by omega)
      have HN : Hid (bs[k] = false → bs.contains false = true) := fun e => List.contains_iff_mem.2 (e ▸ List.getElem_mem hlt)
      clear HK
      generalize bs[k] = x at *
      cases x with
      | true =>
        have HS2 : Hid (∀ j (h : j < bs.length), j < k + 1 → bs[j] = true) := HS.out rfl
        clear HS HN
        go_wp2
        go_round
        case rel => exact ⟨k + 1, by omega, by go_num, HS2⟩
        case measure => simp [intOf]; omega
      | false =>
        have HN2 : Hid (bs.contains false = true) := HN.out rfl
        clear HS HN
        go_wp2
        go_ret
        exact ⟨(k : Int), rfl, ⟨by omega, by omega, fun _ => List.contains_iff_mem.1 HN2.out |> fun h => by simpa using h, fun _ => by omega⟩, rfl⟩
    · have HN2 : Hid (¬ bs.contains false = true) := fun e => by
        obtain ⟨j, hj, e2⟩ := List.mem_iff_getElem.1 (List.contains_iff_mem.1 e)
        rw [HK.out j hj (by omega)] at e2
        cases e2
      clear HK
      go_wp2
      go_ret
      exact ⟨-1, rfl, ⟨by omega, by omega, fun h => absurd h (by omega), fun h => absurd (by simpa using h) HN2.out⟩, rfl⟩

theorem containsB_any (bs : List Bool) (b c : Nat) (w : World) (h : Vals w b 4 (bs.map Value.bool)) (hl : bs.length ≤ 1048576) :
    Calls Tryd.prog 63 #[.slice (some ⟨b, 0, none⟩) bs.length c, .bool false] w fun e w' => e = .returned (.bool (bs.contains false)) ∧ w' = w := by
  have X : Hid (Calls Tryd.prog 83 #[.slice (some ⟨b, 0, none⟩) bs.length c, .bool false] w fun e w' => ∃ r : Int, e = .returned (.int .i64 r) ∧ Hid (-1 ≤ r ∧ r ≤ 1048576 ∧ (0 ≤ r ↔ bs.contains false = true)) ∧ w' = w) := indexB_any bs b c w h hl
  clear h
  go_enter Tryd.func63, Tryd.ntmps63
  go_wp2_with (go_at_call 83; refine X.out.mono ?_; rintro e w' ⟨r, rfl, hr, rfl⟩)
  go_ret
  exact ⟨ret_bool (by
    have h := hr.out.2.2
    by_cases h0 : 0 ≤ r
    · rw [h.1 h0]; simpa using h0
    · have : bs.contains false = false := by
        cases e : bs.contains false with
        | false => rfl
        | true => exact absurd (h.2 e) h0
      rw [this]; simpa using h0), rfl⟩

set_option maxHeartbeats 4000000 in
set_option maxRecDepth 100000 in
theorem treeShape_any (x : Tr) (a0 : Option Addr) (c0 : Nat) (w : World) (h0 : RD w (.slice a0 x.nodes.length c0) (slD Lay.node x.nodes)) (hw : Lay.tree.wt x ≤ 1048576) (hf : Lay.tree.fit x) :
    Calls Tryd.prog 33 #[.agg #[.slice a0 x.nodes.length c0]] w fun e w' => e = .returned (.bool (resTreeShape x)) ∧ Below w.heap.size w w' := by
  rw [Lay_tree_wt, Lay.wt_list] at hw
  have hn : x.nodes.length ≤ 1048576 := by omega
  unfold resTreeShape
  have HF : Hid ((Lay.list Lay.node).fit x.nodes) := hf
  clear hf
  have HW : Hid (Lay.node.sumL x.nodes ≤ 1048576) := by show _ ≤ _; omega
  clear hw
  generalize x.nodes = ns at *
  by_cases hz : ns = []
  · rw [shapeB_no (fun s => s.1 hz)]
    subst hz
    clear h0
    go_enter Tryd.func33, Tryd.ntmps33
    go_wp2
    go_ret
    exact ⟨rfl, (Below.refl _ _).alloc (Nat.le_refl _) _⟩
  · have hpos : 0 < ns.length := List.length_pos_iff.2 hz
    have hmk := run_make_row' (P := Tryd.prog) 94 4 (.bool false) 1 Tryd.underlying94 Tryd.infoBoolT rfl .i64 .i64 ns.length (by omega) (by omega)
    have B0 := (Below.refl w.heap.size w).alloc (Nat.le_refl _) (.cells #[.slice a0 ns.length c0] 36)
    have HR : Hid (RD (w.alloc (.cells #[.slice a0 ns.length c0] 36)) (.slice a0 ns.length c0) (slD Lay.node ns)) := h0.later B0
    have HVM : Vals ((w.alloc (.cells #[.slice a0 ns.length c0] 36)).alloc (.cells (madeCells #[.bool false] ns.length) 4)) (w.heap.size + 1) 4 (List.replicate ns.length (.bool false)) := by
      have := Vals.made (w.alloc (.cells #[.slice a0 ns.length c0] 36)) (.bool false) ns.length 4
      simpa using this
    have HE : Hid ((madeCells #[.bool false] ns.length).setIfInBounds 0 (.bool true) = (metRow [] ns.length).toArray) := by
      show _ = _
      rw [madeCells_one, ← metRow_first]
      exact List.setIfInBounds_toArray _ _ _
    have HV0 : Hid (Vals ((w.alloc (.cells #[.slice a0 ns.length c0] 36)).alloc (.cells ((madeCells #[.bool false] ns.length).setIfInBounds 0 (.bool true)) 4)) (w.heap.size + 1) 4 (metRow [] ns.length)) := by
      show Vals _ _ _ _
      rw [HE.out]
      have := Vals.new (w.alloc (.cells #[.slice a0 ns.length c0] 36)) 4 (metRow [] ns.length)
      simpa using this
    have HB0 : Hid (Below (w.heap.size + 1) (w.alloc (.cells #[.slice a0 ns.length c0] 36)) ((w.alloc (.cells #[.slice a0 ns.length c0] 36)).alloc (.cells ((madeCells #[.bool false] ns.length).setIfInBounds 0 (.bool true)) 4))) := (Below.refl _ _).alloc (by simp) _
    clear HE
    have qm := HVM.cell 0
    rw [List.getElem?_replicate, if_pos hpos] at qm
    have fm := HVM.frozen 0
    clear HVM
    clear h0
    have hz0 : ((ns.length : Int) == 0) = false := by simp; omega
    go_enter Tryd.func33, Tryd.ntmps33
    go_wp2
    clear hmk qm fm
    go_loopw [21] (fun u4 wr => ∃ i : Nat, i ≤ ns.length ∧ u4 = .int .i64 i ∧ Hid (((∀ j (h : j < ns.length), j < i → Right ns.length j ns[j]) ∧ (kidsTo ns i).Nodup) ∧ Vals wr (w.heap.size + 1) 4 (metRow (kidsTo ns i) ns.length)) ∧ Below (w.heap.size + 1) (w.alloc (.cells #[.slice a0 ns.length c0] 36)) wr) (fun u4 _ => ns.length - (intOf u4).toNat)
    case atStart => exact ⟨0, Nat.zero_le _, rfl, ⟨⟨fun j _ h => by omega, List.nodup_nil⟩, HV0.out⟩, HB0.out⟩
    case round =>
      obtain ⟨i, hi, rfl, HI, hbel⟩ := hrel
      clear HV0 HB0
      have g0 : wr.cell? ⟨w.heap.size, 0, none⟩ = some (.slice a0 ns.length c0) := (hbel.cell (p := ⟨w.heap.size, 0, none⟩) (by simp)).trans (by simp)
      obtain ⟨wA, hwA⟩ : ∃ y, y = wr := ⟨_, rfl⟩
      subst hwA
      by_cases hlt : i < ns.length
      · obtain ⟨b1, o1, rfl, hb1, ⟨p0, p1, p2, p3⟩, a1, c1, p4, r1⟩ := HR.out.atNode hlt
        have hb1' : b1 < w.heap.size + 1 := by simpa using hb1
        have q0 := (hbel.cell (p := ⟨b1, _, none⟩) hb1').trans p0
        have q1 := (hbel.cell (p := ⟨b1, _, none⟩) hb1').trans p1
        have q2 := (hbel.cell (p := ⟨b1, _, none⟩) hb1').trans p2
        have q3 := (hbel.cell (p := ⟨b1, _, none⟩) hb1').trans p3
        have q4 := (hbel.cell (p := ⟨b1, _, none⟩) hb1').trans p4
        have HRT : Hid (¬ Right ns.length i ns[i] → shapeB ns = false) := fun h => shapeB_no (not_shaped_at hlt h)
        have HNX : Hid (kidsTo ns (i + 1) = kidsTo ns i ++ ns[i].kids) := kidsTo_next hlt
        have HRI : Hid (Right ns.length i ns[i] → ∀ j (h : j < ns.length), j < i + 1 → Right ns.length j ns[j]) := fun h j hj hji => by
          by_cases e : j = i
          · subst e; exact h
          · exact HI.out.1.1 j hj (by omega)
        have HND : Hid ((kidsTo ns i).Nodup) := HI.out.1.2
        have HDU : Hid (∀ k (h : k < ns[i].kids.length) (kn : Nat), ns[i].kids[k] = (kn : Int) → kn < ns.length → 1 ≤ kn → (kn : Int) ∈ kidsTo ns i ++ ns[i].kids.take k → shapeB ns = false) := fun k h kn e h1 h2 hm => shapeB_no (not_shaped_dup hlt h e h1 h2 hm)
        have HV1 : Hid (Vals wA (w.heap.size + 1) 4 (metRow (kidsTo ns i) ns.length)) := HI.out.2
        have HKB : Hid ((kidsTo ns (i + 1)).length ≤ 1048576) := by have := kidsTo_length (ns := ns) (i + 1); have := HW.out; show _ ≤ _; omega
        have HRK : Hid (Reads (w.alloc (.cells #[.slice (some ⟨b1, o1, none⟩) ns.length c0] 36)) a1 ns[i].kids) := r1.reads
        have HKW : Hid (∀ k ∈ ns[i].kids, (Lit.int .i64 k).wf = true) := node_fit HF.out hlt
        have HRN : Hid (∀ k (h : k < ns[i].kids.length), ¬ ((i : Int) < ns[i].kids[k] ∧ ns[i].kids[k] < ns.length) → shapeB ns = false) := fun k h g => shapeB_no (not_shaped_at hlt (not_right_kid h g))
        have hkl : ns[i].kids.length ≤ 1048576 := by have := HKB.out; rw [HNX.out, List.length_append] at this; omega
        have hgA := hbel.size
        simp only [World.size_alloc] at hgA
        have hgN : w.heap.size + 1 < wA.heap.size := HV1.out.lt
        clear HI r1 p0 p1 p2 p3 p4 hb1 hb1'
        generalize ns[i] = y at *
        by_cases hk : inB y.kind 0 3 = true
        · have HNG : Hid (y.kind ≠ 1 → 0 < y.kids.length → shapeB ns = false) := fun h g => HRT.out (not_right_kids h (fun e => by rw [e] at g; simp at g))
          have HRG : Hid ((y.kind = 1 ∨ y.kids.length = 0) → (∀ k ∈ y.kids, (i : Int) < k ∧ k < ns.length) → Right ns.length i y) := fun g h => ⟨hk, g.imp id List.eq_nil_of_length_eq_zero, h⟩
          generalize y.kind = kd at *
          obtain ⟨kl, HKL⟩ : ∃ kl, Hid (y.kids.length = kl) := ⟨_, rfl⟩
          rw [HKL.out] at q4 hkl HNG HRG
          obtain ⟨vsN, HBN, HV4⟩ : ∃ vsN : List Value, Hid (Vals (wA.alloc (.cells #[.int .i64 kd, .int .i64 y.sym, .int .i64 y.alt, .int .i64 y.pl, .slice a1 kl c1] 54)) wA.heap.size 54 vsN) ∧ Hid (vsN[4]? = some (.slice a1 kl c1)) := ⟨[.int .i64 kd, .int .i64 y.sym, .int .i64 y.alt, .int .i64 y.pl, .slice a1 kl c1], Vals.new wA _ _, by show _ = _; rfl⟩
          have HV2 : Hid (Vals (wA.alloc (.cells #[.int .i64 kd, .int .i64 y.sym, .int .i64 y.alt, .int .i64 y.pl, .slice a1 kl c1] 54)) (w.heap.size + 1) 4 (metRow (kidsTo ns i) ns.length)) := HV1.out.later ((Below.refl _ _).alloc (Nat.le_refl _) _)
          have hbel2 : Below (w.heap.size + 1) (w.alloc (.cells #[.slice (some ⟨b1, o1, none⟩) ns.length c0] 36)) (wA.alloc (.cells #[.int .i64 kd, .int .i64 y.sym, .int .i64 y.alt, .int .i64 y.pl, .slice a1 kl c1] 54)) := hbel.alloc (by omega) _
          clear HV1
          by_cases h2 : 0 < kl ∧ kd ≠ 1
          · obtain ⟨h2, h1⟩ := h2
            have HSB : Hid (shapeB ns = false) := HNG.out h1 h2
            go_wp2_with (go_at_call 62; refine (isKind_any _ _).mono ?_; rintro e w' ⟨rfl, rfl⟩)
            go_ret
            exact ⟨ret_bool (by rw [HSB.out]), B0.trans ((hbel.alloc (by omega) _).mono (by omega))⟩
          · have HKR : Hid (kd = 1 ∨ kl = 0) := by show _ ∨ _; omega
            have HRG2 : Hid ((∀ k ∈ y.kids, (i : Int) < k ∧ k < ns.length) → Right ns.length i y) := HRG.out HKR.out
            clear HRG HNG h2
            by_cases h1 : kd = 1
            · subst h1
              clear HKR
              go_wp2_with (go_at_call 62; refine (isKind_any _ _).mono ?_; rintro e w' ⟨rfl, rfl⟩)
              clear q0 q1 q2 q3 q4 g0
              go_loopw [44] (fun u6 wr => ∃ k : Nat, k ≤ kl ∧ u6 = .int .i64 k ∧ Hid (((∀ j (h : j < y.kids.length), j < k → (i : Int) < y.kids[j] ∧ y.kids[j] < ns.length) ∧ (kidsTo ns i ++ y.kids.take k).Nodup) ∧ Vals wr (w.heap.size + 1) 4 (metRow (kidsTo ns i ++ y.kids.take k) ns.length) ∧ Vals wr wA.heap.size 54 vsN) ∧ Below (w.heap.size + 1) (w.alloc (.cells #[.slice (some ⟨b1, o1, none⟩) ns.length c0] 36)) wr) (fun u6 _ => kl - (intOf u6).toNat)
              case atStart => exact ⟨0, Nat.zero_le _, rfl, ⟨⟨fun j _ h => by omega, by simpa using HND.out⟩, by simpa using HV2.out, HBN.out⟩, hbel2⟩
              case round =>
                obtain ⟨k, hk3, rfl, HI, hbel3⟩ := hrel
                clear HV2 HBN hbel2
                have g0 : wr.cell? ⟨w.heap.size, 0, none⟩ = some (.slice (some ⟨b1, o1, none⟩) ns.length c0) := (hbel3.cell (p := ⟨w.heap.size, 0, none⟩) (by simp)).trans (by simp)
                have hszr : w.heap.size + 1 ≤ wr.heap.size := by have := hbel3.size; simpa using this
                have q4 : wr.cell? ⟨wA.heap.size, 4, none⟩ = some (.slice a1 kl c1) := (HI.out.2.2.cell 4).trans HV4.out
                by_cases hlk : k < kl
                · have hlk2 : k < y.kids.length := by rw [HKL.out]; exact hlk
                  obtain ⟨b2, o2, rfl, hb2, hc2⟩ := HRK.out.at hlk2
                  have q5' := hc2 k hlk2
                  rw [List.getD_eq_getElem?_getD, List.getElem?_eq_getElem hlk2, Option.getD_some] at q5'
                  have q5 := (hbel3.cell (p := ⟨b2, o2 + k, none⟩) (by simpa using hb2)).trans q5'
                  have HIN : Hid (¬ ((i : Int) < y.kids[k] ∧ y.kids[k] < ns.length) → shapeB ns = false) := HRN.out k hlk2
                  have HNX2 : Hid (y.kids.take (k + 1) = y.kids.take k ++ [y.kids[k]]) := List.take_succ_eq_append_getElem hlk2
                  have HSTEP : Hid (((i : Int) < y.kids[k] ∧ y.kids[k] < ns.length) → ∀ j (h : j < y.kids.length), j < k + 1 → (i : Int) < y.kids[j] ∧ y.kids[j] < ns.length) := fun h j hj hjk => by
                    by_cases e : j = k
                    · subst e; exact h
                    · exact HI.out.1.1 j hj (by omega)
                  have HNN : Hid ((kidsTo ns i ++ y.kids.take k).Nodup) := HI.out.1.2
                  have HDK : Hid (∀ kn : Nat, y.kids[k] = (kn : Int) → kn < ns.length → 1 ≤ kn → (kn : Int) ∈ kidsTo ns i ++ y.kids.take k → shapeB ns = false) := HDU.out k hlk2
                  have HV3 : Hid (Vals wr (w.heap.size + 1) 4 (metRow (kidsTo ns i ++ y.kids.take k) ns.length) ∧ Vals wr wA.heap.size 54 vsN) := HI.out.2
                  have hkw := HKW.out y.kids[k] (List.getElem_mem hlk2)
                  have hkw2 := bounds_i64 hkw
                  clear hkw
                  clear hc2 q5' hb2 HI
                  generalize y.kids[k] = kid at *
                  clear hlk2
                  by_cases ha : kid ≤ (i : Int)
                  · have HSB : Hid (shapeB ns = false) := HIN.out (fun h => by omega)
                    clear HIN HSTEP HNN HDK HV3 HNX2
                    go_wp2
                    go_ret
                    exact ⟨ret_bool (by rw [HSB.out]), B0.trans (hbel3.mono (Nat.le_succ w.heap.size))⟩
                  · by_cases hb : (ns.length : Int) ≤ kid
                    · have HSB : Hid (shapeB ns = false) := HIN.out (fun h => by omega)
                      clear HIN HSTEP HNN HDK HV3 HNX2
                      go_wp2
                      go_ret
                      exact ⟨ret_bool (by rw [HSB.out]), B0.trans (hbel3.mono (Nat.le_succ w.heap.size))⟩
                    · obtain ⟨kn, rfl⟩ : ∃ kn : Nat, kid = kn := ⟨kid.toNat, by omega⟩
                      have hkn : kn < ns.length := by omega
                      have qs : wr.cell? ⟨w.heap.size + 1, kn, none⟩ = some (.bool (decide (kn = 0) || (kidsTo ns i ++ y.kids.take k).contains (kn : Int))) := (HV3.out.1.cell kn).trans (metRow_get hkn)
                      have fs : wr.frozen? ⟨w.heap.size + 1, kn, none⟩ = false := HV3.out.1.frozen kn
                      have hkn0 : decide (kn = 0) = false := by simp; omega
                      rw [hkn0, Bool.false_or] at qs
                      have HST : Hid ((metRow (kidsTo ns i ++ y.kids.take k) ns.length).set kn (.bool true) = metRow (kidsTo ns i ++ y.kids.take (k + 1)) ns.length) := by
                        show _ = _
                        rw [metRow_set, HNX2.out, List.append_assoc]
                      have HIN2 : Hid ((∀ j (h : j < y.kids.length), j < k + 1 → (i : Int) < y.kids[j] ∧ y.kids[j] < ns.length)) := HSTEP.out ⟨by omega, by omega⟩
                      have HVF : Hid (Vals (wr.setCell ⟨w.heap.size + 1, kn, none⟩ (.bool true)) (w.heap.size + 1) 4 (metRow (kidsTo ns i ++ y.kids.take (k + 1)) ns.length) ∧ Vals (wr.setCell ⟨w.heap.size + 1, kn, none⟩ (.bool true)) wA.heap.size 54 vsN) := by
                        refine ⟨?_, HV3.out.2.grown (setCell_grown _ _ _ _) (by simp; omega)⟩
                        have := HV3.out.1.set kn (.bool true)
                        rw [HST.out] at this
                        exact this
                      have HBF : Hid (Below (w.heap.size + 1) (w.alloc (.cells #[.slice (some ⟨b1, o1, none⟩) ns.length c0] 36)) (wr.setCell ⟨w.heap.size + 1, kn, none⟩ (.bool true))) := hbel3.setCell (p := ⟨w.heap.size + 1, kn, none⟩) (Nat.le_refl _) _
                      have HSN : Hid ((kidsTo ns i ++ y.kids.take k).contains (kn : Int) = true → shapeB ns = false) := fun h => HDK.out kn rfl hkn (by omega) (List.contains_iff_mem.1 h)
                      have HND2 : Hid ((kidsTo ns i ++ y.kids.take k).contains (kn : Int) = false → (kidsTo ns i ++ y.kids.take (k + 1)).Nodup) := fun h => by
                        rw [HNX2.out, ← List.append_assoc]
                        exact nodup_snoc HNN.out (fun hm => by rw [List.contains_iff_mem.2 hm] at h; cases h)
                      clear HSTEP HIN HNX2 HST HV3 HNN HDK hkn0
                      generalize (kidsTo ns i ++ y.kids.take k).contains (kn : Int) = mb at *
                      cases mb with
                      | true =>
                        have HSB : Hid (shapeB ns = false) := HSN.out rfl
                        clear HSN HND2 HVF HBF
                        go_wp2
                        go_ret
                        exact ⟨ret_bool (by rw [HSB.out]), B0.trans (hbel3.mono (Nat.le_succ w.heap.size))⟩
                      | false =>
                        have HND3 := HND2.out rfl
                        have HND4 : Hid ((kidsTo ns i ++ y.kids.take (k + 1)).Nodup) := HND3
                        clear HSN HND2 HND3
                        go_wp2
                        go_roundw
                        case rel => exact ⟨k + 1, by omega, by go_num, ⟨⟨HIN2.out, HND4.out⟩, HVF.out⟩, HBF.out⟩
                        case measure => simp [intOf]; omega
                · have e : k = kl := by omega
                  subst e
                  have HRF : Hid (Right ns.length i y) := HRG2.out (fun z hz => by
                    obtain ⟨j, hj, e⟩ := List.mem_iff_getElem.1 hz
                    rw [← e]
                    exact HI.out.1.1 j hj (by rw [← HKL.out]; exact hj))
                  have HVE : Hid (Vals wr (w.heap.size + 1) 4 (metRow (kidsTo ns (i + 1)) ns.length)) := by
                    have := HI.out.2.1
                    rw [List.take_of_length_le (by rw [HKL.out]; exact Nat.le_refl _), ← HNX.out] at this
                    exact this
                  have HJE : Hid ((∀ j (h : j < ns.length), j < i + 1 → Right ns.length j ns[j]) ∧ (kidsTo ns (i + 1)).Nodup) := ⟨HRI.out HRF.out, by
                    have := HI.out.1.2
                    rw [List.take_of_length_le (by rw [HKL.out]; exact Nat.le_refl _), ← HNX.out] at this
                    exact this⟩
                  clear HI HRF
                  go_wp2
                  go_roundw
                  case rel => exact ⟨i + 1, by omega, by go_num, ⟨HJE.out, HVE.out⟩, hbel3⟩
                  case measure => simp [intOf]; omega
            · have h3 : kl = 0 := HKR.out.resolve_left h1
              subst h3
              clear HKR
              go_wp2_with (go_at_call 62; refine (isKind_any _ _).mono ?_; rintro e w' ⟨rfl, rfl⟩)
              clear q0 q1 q2 q3 q4 g0
              go_loopw [44] (fun u6 wr => ∃ k : Nat, k ≤ 0 ∧ u6 = .int .i64 k ∧ Hid (((∀ j (h : j < y.kids.length), j < k → (i : Int) < y.kids[j] ∧ y.kids[j] < ns.length) ∧ (kidsTo ns i ++ y.kids.take k).Nodup) ∧ Vals wr (w.heap.size + 1) 4 (metRow (kidsTo ns i ++ y.kids.take k) ns.length) ∧ Vals wr wA.heap.size 54 vsN) ∧ Below (w.heap.size + 1) (w.alloc (.cells #[.slice (some ⟨b1, o1, none⟩) ns.length c0] 36)) wr) (fun u6 _ => 0 - (intOf u6).toNat)
              case atStart => exact ⟨0, Nat.zero_le _, rfl, ⟨⟨fun j _ h => by omega, by simpa using HND.out⟩, by simpa using HV2.out, HBN.out⟩, hbel2⟩
              case round =>
                obtain ⟨k, hk3, rfl, HI, hbel3⟩ := hrel
                clear HV2 HBN hbel2
                have g0 : wr.cell? ⟨w.heap.size, 0, none⟩ = some (.slice (some ⟨b1, o1, none⟩) ns.length c0) := (hbel3.cell (p := ⟨w.heap.size, 0, none⟩) (by simp)).trans (by simp)
                have q4 : wr.cell? ⟨wA.heap.size, 4, none⟩ = some (.slice a1 0 c1) := (HI.out.2.2.cell 4).trans HV4.out
                have e : k = 0 := by omega
                subst e
                have HRF : Hid (Right ns.length i y) := HRG2.out (fun z hz => by
                  obtain ⟨j, hj, e⟩ := List.mem_iff_getElem.1 hz
                  rw [← e]
                  exact HI.out.1.1 j hj (by rw [← HKL.out]; exact hj))
                have HVE : Hid (Vals wr (w.heap.size + 1) 4 (metRow (kidsTo ns (i + 1)) ns.length)) := by
                  have := HI.out.2.1
                  rw [List.take_of_length_le (by rw [HKL.out]; exact Nat.le_refl _), ← HNX.out] at this
                  exact this
                have HJE : Hid ((∀ j (h : j < ns.length), j < i + 1 → Right ns.length j ns[j]) ∧ (kidsTo ns (i + 1)).Nodup) := ⟨HRI.out HRF.out, by
                  have := HI.out.1.2
                  rw [List.take_of_length_le (by rw [HKL.out]; exact Nat.le_refl _), ← HNX.out] at this
                  exact this⟩
                clear HI HRF
                go_wp2
                go_roundw
                case rel => exact ⟨i + 1, by omega, by go_num, ⟨HJE.out, HVE.out⟩, hbel3⟩
                case measure => simp [intOf]; omega
        · have hk2 : inB y.kind 0 3 = false := by simpa using hk
          have HSB : Hid (shapeB ns = false) := HRT.out (fun r => hk r.1)
          clear hk
          go_wp2_with (go_at_call 62; refine (isKind_any _ _).mono ?_; rintro e w' ⟨rfl, rfl⟩)
          go_ret
          exact ⟨ret_bool (by rw [HSB.out]), B0.trans ((hbel.alloc (by omega) _).mono (by omega))⟩
      · have e : i = ns.length := by omega
        subst e
        have HV1 : Hid (Vals wA (w.heap.size + 1) 4 ((metB (kidsTo ns ns.length) ns.length).map Value.bool)) := by
          have := HI.out.2
          rw [metRow_bools] at this
          exact this
        have X : Hid (Calls Tryd.prog 63 #[.slice (some ⟨w.heap.size + 1, 0, none⟩) ns.length ns.length, .bool false] wA fun e w' => e = .returned (.bool ((metB (kidsTo ns ns.length) ns.length).contains false)) ∧ w' = wA) := by
          have := containsB_any (metB (kidsTo ns ns.length) ns.length) (w.heap.size + 1) ns.length wA HV1.out (by rw [metB_length]; exact hn)
          rw [metB_length] at this
          exact this
        have HSY : Hid ((metB (kidsTo ns ns.length) ns.length).contains false = false → shapeB ns = true) := fun h => shapeB_yes (shaped_of hz (fun j hj => HI.out.1.1 j hj hj) HI.out.1.2 (fun j h1 h2 => metB_all h h2 h1))
        have HSN : Hid ((metB (kidsTo ns ns.length) ns.length).contains false = true → shapeB ns = false) := fun h => by
          obtain ⟨j, h1, h2, h3⟩ := metB_free h
          exact shapeB_no (not_shaped_free h1 h2 h3)
        clear HI HF HW HR HV1
        generalize (metB (kidsTo ns ns.length) ns.length).contains false = mb at *
        go_wp2_with (go_at_call 63; refine X.out.mono ?_; rintro e w' ⟨rfl, rfl⟩)
        go_ret
        exact ⟨ret_bool (by
          cases mb with
          | true => rw [HSN.out rfl]; rfl
          | false => rw [HSY.out rfl]; rfl), B0.trans (hbel.mono (Nat.le_succ w.heap.size))⟩
end Go.Proofs.YtghpekijimoicaaDoor
namespace Go.Proofs.YtghpekijimoicaaDoor
open Go.RowKit Go.Shelf

attribute [local go_sem] Oper.semAt_some wide_fn wide_fn_in wide_depth wide_depth_in

theorem visits_any (a : Option Addr) (len cap : Nat) (w : World) :
    Calls Tryd.prog 39 #[.agg #[.slice a len cap]] w fun e w' => e = .returned (.func (.func 69) #[] #[.pointer (some ⟨w.heap.size, 0, none⟩)]) ∧ w' = w.alloc (.cells #[.slice a len cap] 36) := by
  go_enter Tryd.func39, Tryd.ntmps39
  go_wp2
  go_ret
  exact ⟨rfl, rfl⟩

/-- The types of the iterator's own memory: its stack, what it visits. -/
def visTv (t : TypeId) : Prop := t = 73 ∨ t = 104
def visTk (t : TypeId) : Prop := visTv t ∨ t = 36
def vzEnc (v : Nat × Bool) : Array Value := #[.agg #[.int .i64 (v.1 : Int), .bool v.2]]
def vzCells (st : List (Nat × Bool)) : List Value := st.flatMap fun v => [.int .i64 (v.1 : Int), .bool v.2]
theorem vzCells_length (st : List (Nat × Bool)) : (vzCells st).length = st.length * 2 := by
  induction st with
  | nil => rfl
  | cons v st ih => simp only [vzCells, List.flatMap_cons, List.length_append, List.length_cons, List.length_nil] at *; omega
theorem vzCells_snoc (st : List (Nat × Bool)) (v : Nat × Bool) : vzCells (st ++ [v]) = vzCells st ++ [.int .i64 (v.1 : Int), .bool v.2] := by simp [vzCells]
/-- The iterator's stack in memory. -/
def StackIn (base B : Nat) (st : List (Nat × Bool)) (w : World) (v : Value) : Prop := Boxed w B 104 v ∧ w.ownsRow base 73 2 v st.length (vzCells st)
theorem StackIn.top {base B : Nat} {st : List (Nat × Bool)} {u : Nat × Bool} {w : World} {v : Value} (h : StackIn base B (st ++ [u]) w v) :
    ∃ g cap, v = .slice (some ⟨g, 0, none⟩) (st.length + 1) cap ∧ st.length + 1 ≤ cap ∧ w.cell? ⟨g, st.length * 2, none⟩ = some (.int .i64 (u.1 : Int)) ∧ w.cell? ⟨g, st.length * 2 + 1, none⟩ = some (.bool u.2) ∧ w.ownsRow base 73 2 (.slice (some ⟨g, 0, none⟩) st.length cap) st.length (vzCells st) := by
  obtain ⟨_, hl, h2⟩ := h
  rw [List.length_append, List.length_singleton] at h2
  rcases h2 with ⟨_, h0⟩ | ⟨g, cap, cur, rfl, hb, hg, hnc, hcm, hcs, ht⟩
  · omega
  · have hown : w.ownsRow base 73 2 (.slice (some ⟨g, 0, none⟩) (st.length + 1) cap) (st.length + 1) (vzCells (st ++ [u])) := ⟨by rw [vzCells_length, List.length_append, List.length_singleton], .inr ⟨g, cap, cur, rfl, hb, hg, hnc, hcm, hcs, ht⟩⟩
    have hlen := vzCells_length st
    refine ⟨g, cap, rfl, hnc, ?_, ?_, ?_, .inr ⟨g, cap, cur, rfl, hb, hg, by omega, hcm, hcs, ?_⟩⟩
    · have := World.ownsRow.cellAt (g := g) (cap := cap) hown (st.length * 2) (by omega)
      rw [this, vzCells_snoc, List.getElem?_append_right (by omega), hlen]
      simp
    · have := World.ownsRow.cellAt (g := g) (cap := cap) hown (st.length * 2 + 1) (by omega)
      rw [this, vzCells_snoc, List.getElem?_append_right (by omega), hlen]
      simp
    · exact hlen
    · have e : vzCells (st ++ [u]) = vzCells st ++ [.int .i64 (u.1 : Int), .bool u.2] := vzCells_snoc st u
      rw [e] at ht
      have h3 := congrArg (List.take (st.length * 2)) ht
      rw [List.take_take, List.take_left' hlen, Nat.min_eq_left (by omega)] at h3
      exact h3
theorem StackIn.typed {base B : Nat} {st : List (Nat × Bool)} {w w' : World} {v : Value} (h : StackIn base B st w v) (hk : ∀ (k : Nat) (cur : Array Value) (t : TypeId) (p : Nat × Nat), visTk t → w.heap[k]? = some (.cells cur t p) → w'.heap[k]? = some (.cells cur t p)) : StackIn base B st w' v := by
  obtain ⟨h1, hl, h2⟩ := h
  refine ⟨hk _ _ _ _ (.inl (.inr rfl)) h1, hl, ?_⟩
  rcases h2 with h2 | ⟨g, cap, cur, rfl, hb, hg, r⟩
  · exact .inl h2
  · exact .inr ⟨g, cap, cur, rfl, hb, hk _ _ _ _ (.inl (.inl rfl)) hg, r⟩

/-- What holds between two rounds of the iterator's own loop. -/
structure VIn (ns : List Nd) (J : List (Nat × Bool) → World → Prop) (n₀ Bt : Nat) (tv : Value) (W : World) (i : Nat) (st : List (Nat × Bool)) (k : Nat) (ds : List Nat) (v : Value) (wr : World) : Prop where
  all : visAt ns 0 = (visAt ns 0).take i ++ toCome ns st
  done : J ((visAt ns 0).take i) wr
  lt : ∀ u ∈ st, u.1 < ns.length
  stack : StackIn W.heap.size (W.heap.size + 1) st wr v
  tree : wr.heap[Bt]? = some (.cells #[tv] 36)
  below : Below n₀ W wr
  num : (toCome ns st).length = k
  marks : MarksIn W.heap.size ds wr
theorem take_next {α : Type} {L : List α} {i : Nat} {u : α} {r : List α} (h : L = L.take i ++ u :: r) : L.take (i + 1) = L.take i ++ [u] := by
  have h1 := congrArg List.length h
  rw [List.length_append, List.length_cons, List.length_take] at h1
  have h2 : (L.take i).length = i := by rw [List.length_take]; omega
  conv => lhs; rw [h]
  rw [List.take_append, h2, List.take_of_length_le (by omega)]
  simp
theorem toCome_start (ns : List Nd) : toCome ns [(0, false)] = visAt ns 0 := by simp [toCome, unfold1]
theorem boxed_of {W : World} {B : Nat} {v : Value} {t : TypeId} (h : W.heap[B]? = some (.cells #[v] t)) : W.cell? ⟨B, 0, none⟩ = some v ∧ W.frozen? ⟨B, 0, none⟩ = false := by simp [World.cell?, World.frozen?, h]
theorem theirs_box {W : World} {B base : Nat} {v : Value} {t : TypeId} {tv : TypeId → Prop} (h : W.heap[B]? = some (.cells #[v] t)) (hb : base ≤ B) (ht : tv t) : Theirs tv base W B := ⟨hb, _, h, .inr ⟨_, _, _, ht, rfl⟩⟩
theorem theirs_row {W : World} {base : Nat} {v : Value} {n : Nat} {xs : List Value} (h : W.ownsRow base 73 2 v n xs) {k : Nat} (hk : v.ownBlock = some k) : Theirs visTv base W k := by
  rcases h.2 with ⟨rfl, _⟩ | ⟨g, cap, cur, rfl, hb, hg, _⟩
  · simp [Value.ownBlock] at hk
  · have : g = k := by simpa [Value.ownBlock] using hk
    subst this
    exact ⟨hb, _, hg, .inr ⟨_, _, _, .inl rfl, rfl⟩⟩
theorem new_two (W : World) (x y : Value) (t : TypeId) : ∀ (j : Nat) (u : Value), ([x, y] : List Value)[j]? = some u → (W.alloc (.cells #[x, y] t)).cell? ((⟨W.heap.size, 0, none⟩ : Addr).add j) = some u := by
  intro j u hu
  have e := Lib.cell_of_heap (heap_alloc_new W (.cells #[x, y] t)) j
  rw [Addr.add_lit, Nat.zero_add, e]
  simpa using hu
/-- The turn of a push: only the box and the row, or new memory. -/
theorem StackIn.turn {base B : Nat} {st : List (Nat × Bool)} {w w1 : World} {v v' : Value} {tmp : Obj} {u : Nat × Bool} (h : StackIn base B st w v) (hb : base ≤ w.heap.size) (hB : base ≤ B)
    (hown : w1.ownsRow base 73 2 v' (st.length + 1) (vzCells st ++ [.int .i64 (u.1 : Int), .bool u.2])) (hg : (w.alloc tmp).grownBy w1 v.ownBlock) :
    (w1.cell? ⟨B, 0, none⟩ = some v ∧ w1.frozen? ⟨B, 0, none⟩ = false) ∧ StackIn base B (st ++ [u]) (w1.setCell ⟨B, 0, none⟩ v') v' ∧ Within w w1 (fun k => v.ownBlock = some k) ∧ Within w (w1.setCell ⟨B, 0, none⟩ v') (Theirs visTv base w) ∧ w.heap.size < w1.heap.size ∧ KeepsOthers w (w1.setCell ⟨B, 0, none⟩ v') := by
  obtain ⟨h1, h2, h3, h4, h5⟩ := h.1.appended (by decide) h.2 hb hB hown hg
  have hw1 : Within w w1 (fun k => v.ownBlock = some k) := (within_none ((Below.refl _ _).alloc (Nat.le_refl _) tmp) _).trans (Within.of_grown hg (fun k e => e))
  have hs1 : w.heap.size < w1.heap.size := by have := hg.size; simp at this; omega
  refine ⟨⟨h1.cell, h1.frozen⟩, ⟨h2, ?_⟩, hw1, ?_, hs1, h4⟩
  · rw [List.length_append, vzCells_snoc]; exact h3
  · have hw2 : Within w1 (w1.setCell ⟨B, 0, none⟩ v') (fun k => k = B) := by
      refine Within.setCell (Within.refl _ _) _ _ ?_
      rfl
    refine (hw1.mono (fun k hk => theirs_row h.2 hk)).trans (hw2.mono (fun k e => ?_))
    subst e
    exact theirs_box h.1 hB (.inr rfl)
theorem Within.after {A B C : World} {tv : TypeId → Prop} {base : Nat} (h : Below A.heap.size A B) (g : Within B C (Theirs tv base B)) : Within A C (Theirs tv base A) :=
  ⟨g.os.trans h.os, g.tape.trans h.tape, g.output.trans h.output, Nat.le_trans h.size g.size, fun k hk hn => by
    have e := h.block k hk
    refine (g.block k (Nat.lt_of_lt_of_le hk h.size) (fun ⟨h1, o, ho, h2⟩ => hn ⟨h1, o, ?_, h2⟩)).trans e
    rw [← e]; exact ho⟩
theorem Within.beyond {A B C : World} {S T : Nat → Prop} (h : Within A B S) (g : Within B C T) (hT : ∀ k, k < A.heap.size → T k → S k) : Within A C S :=
  ⟨g.os.trans h.os, g.tape.trans h.tape, g.output.trans h.output, Nat.le_trans h.size g.size, fun k hk hn => (g.block k (Nat.lt_of_lt_of_le hk h.size) (fun ht => hn (hT k hk ht))).trans (h.block k hk hn)⟩
theorem Theirs.back {A B : World} {tv : TypeId → Prop} {base : Nat} (h : Within A B (Theirs tv base A)) {k : Nat} (hk : k < A.heap.size) (ht : Theirs tv base B k) : Theirs tv base A k := by
  by_cases hn : Theirs tv base A k
  · exact hn
  · obtain ⟨h1, o, ho, h2⟩ := ht
    rw [h.block k hk hn] at ho
    exact ⟨h1, o, ho, h2⟩
theorem within_theirs {A B C : World} {tv : TypeId → Prop} {base : Nat} (h : Within A B (Theirs tv base A)) (g : Within B C (Theirs tv base B)) : Within A C (Theirs tv base A) := h.beyond g (fun _ hk ht => Theirs.back h hk ht)
theorem within_below {w w' : World} {tv : TypeId → Prop} {base n : Nat} (h : Within w w' (Theirs tv base w)) (hn : n ≤ base) (hw : n ≤ w.heap.size) : Below n w w' :=
  ⟨h.os, h.tape, h.output, h.size, fun k hk => h.block k (Nat.lt_of_lt_of_le hk hw) (fun ht => by have := ht.1; omega)⟩
theorem StackIn.stays {base B b : Nat} {st : List (Nat × Bool)} {w w' : World} {v : Value} (h : StackIn base B st w v) (hw : Within w w' (Theirs (fun _ => False) b w)) : StackIn base B st w' v :=
  h.typed (fun k cur t p _ hk => hw.same hk (fun ⟨_, o, ho, hc⟩ => by
    rw [hk] at ho
    cases ho
    rcases hc with hc | ⟨_, _, _, ht2, _⟩
    · cases hc
    · exact ht2))
theorem backs_map (zs : List Int) : (backs zs).map (fun x => (x.1.toNat, false)) = ((zs.map Int.toNat).reverse).map (fun k => (k, false)) := by
  rw [backs, List.map_reverse, ← List.map_reverse]
  have e : zs.zipIdx.map (fun x => (x.1.toNat, false)) = (zs.map Int.toNat).map (fun k => (k, false)) := by
    conv => rhs; rw [← List.zipIdx_map_fst 0 zs]
    rw [List.map_map, List.map_map]
    rfl
  rw [List.map_reverse, e, List.map_reverse]
theorem backs_mem {zs : List Int} {x : Int × Nat} (h : x ∈ backs zs) : x.1 ∈ zs := by
  rw [backs, List.mem_reverse] at h
  have := List.mem_map_of_mem (f := Prod.fst) h
  rwa [List.zipIdx_map_fst] at this
theorem node_at {w w1 : World} {g n cap N : Nat} {cs : Array Value} {t : TypeId} (hw : Within w w1 (fun k => (Value.slice (some ⟨g, 0, none⟩) n cap).ownBlock = some k)) (hN : w.heap[N]? = some (.cells cs t)) (hg : g < N) (j : Nat) : w1.cell? ⟨N, j, none⟩ = cs[j]? := by
  have h := hw.same hN (fun e => by simp [Value.ownBlock] at e; omega)
  exact Lib.cell_of_heap h j
theorem Within.typed {w w' : World} {base : Nat} (h : Within w w' (Theirs visTv base w)) {k : Nat} {cur : Array Value} {t : TypeId} {p : Nat × Nat} (hk : w.heap[k]? = some (.cells cur t p)) (ht : ¬ visTv t) : w'.heap[k]? = some (.cells cur t p) :=
  h.same hk (fun ⟨_, o, ho, hc⟩ => by
    rw [hk] at ho
    cases ho
    rcases hc with hc | ⟨_, _, _, ht2, e⟩
    · cases hc
    · cases e; exact ht ht2)

theorem Tryd.infoVisit : (Tryd.prog.info? 73).map (fun i => (i.zero, i.size, i.bytes)) = some (some (.agg #[.int .i64 0, .bool false]), 2, 16) := by kernel_rfl

set_option maxRecDepth 100000 in
set_option maxHeartbeats 4000000 in
theorem visits_seq (ns : List Nd) (hs : Shaped ns) (hlen : ns.length ≤ 1048576) (hsum : Lay.node.sumL ns ≤ 1048576) (wA : World) (a0 : Option Addr) (c0 : Nat) (hR : RD wA (.slice a0 ns.length c0) (slD Lay.node ns)) (w : World) (hA : Below wA.heap.size wA w) (Bt : Nat) (hB : w.heap[Bt]? = some (.cells #[.slice a0 ns.length c0] 36)) :
    SeqT Tryd.prog 69 #[.pointer (some ⟨Bt, 0, none⟩)] vzEnc (visAt ns 0) visTv visTk wA.heap.size w := by
  intro n l J Jx W hW hl hJ hJx hY h0
  refine callsIn_of_wp_marks Tryd.func69 rfl trivial ?_ rfl
  simp only [Tryd.ntmps69, List.size_toArray, List.length_cons, List.length_nil, Nat.reduceAdd, Nat.reduceSub, Array.replicate_succ, Array.replicate_zero, List.push_toArray, List.append_toArray, List.nil_append, List.cons_append]
  have hB1 : W.heap[Bt]? = some (.cells #[.slice a0 ns.length c0] 36) := (hW.block Bt (Array.getElem?_eq_some_iff.1 hB).1).trans hB
  have hAW : Below wA.heap.size wA W := hA.trans (hW.mono hA.size)
  have hnW := hAW.size
  have hpos : 0 < ns.length := List.length_pos_iff.2 hs.1
  have HL : Hid ((visAt ns 0).length ≤ 2 * ns.length) := visits_le hs
  have HY : Hid (∀ (m : Nat) (pre : List (Nat × Bool)) (x : Nat × Bool) (W1 : World), J pre W1 → pre ++ [x] <+: visAt ns 0 → YieldAt Fence.wide m Tryd.prog l (vzEnc x) W1 fun e W' =>
      (e = .returned (.bool true) ∧ J (pre ++ [x]) W' ∧ Kept3 wA.heap.size (l + 1) visTk W1 W') ∨ (e = .returned (.bool false) ∧ Jx (pre ++ [x]) W' ∧ KeepsFrom (l + 1) W1 W')) := hY
  have HS : Hid (VIn ns J wA.heap.size Bt (.slice a0 ns.length c0) W 0 [(0, false)] (visAt ns 0).length [] (.slice (some ⟨W.heap.size, 0, none⟩) 1 1) ((W.alloc (.cells #[.int .i64 0, .bool false] 73)).alloc (.cells #[.slice (some ⟨W.heap.size, 0, none⟩) 1 1] 104))) := by
    have b2 : Below W.heap.size W ((W.alloc (.cells #[.int .i64 0, .bool false] 73)).alloc (.cells #[.slice (some ⟨W.heap.size, 0, none⟩) 1 1] 104)) := ((Below.refl _ _).alloc (Nat.le_refl _) _).alloc (by simp) _
    refine ⟨by rw [toCome_start]; simp, hJ.later h0 b2, fun u hu => ?_, ⟨?_, ?_⟩, (b2.block Bt (Array.getElem?_eq_some_iff.1 hB1).1).trans hB1, b2.mono hnW, by rw [toCome_start], MarksIn.nil _ _⟩
    · simp at hu; subst hu; exact hpos
    · have := Boxed.new (W.alloc (.cells #[.int .i64 0, .bool false] 73)) 104 (.slice (some ⟨W.heap.size, 0, none⟩) 1 1)
      simpa using this
    · have ho : (W.alloc (.cells #[.int .i64 0, .bool false] 73)).ownsRow W.heap.size 73 2 (.slice (some ⟨W.heap.size, 0, none⟩) 1 1) 1 [.int .i64 0, .bool false] := ⟨rfl, .inr ⟨W.heap.size, 1, _, rfl, Nat.le_refl _, heap_alloc_new W _, Nat.le_refl _, by decide, rfl, rfl⟩⟩
      exact ho.alloc _
  clear hY h0 hB hB1
  gi_wp2
  refine wpIn_loop_num (fun k a wr => ∃ u4 u5 u6 u7 u8 u11 u12 u13 u14 u15 u16 u17 u18 u19 u20 u21 u22 u23 u24 u25 u26 u27 u28 u29 u30 u31 u32 u33 u34 u35 u36 u37 u38 u39 u40 u41 u42 u43 u44 u45 u46 u47 u48 u49 u50 u51 u52 u53 u54 u55 u56, ∃ ds, (∃ i st v, Hid (VIn ns J wA.heap.size Bt (.slice a0 ns.length c0) W i st k ds v wr)) ∧ a = { tmps := #[.func (.yield l) #[] #[], .pointer (some ⟨Bt, 0, none⟩), undef, .pointer (some ⟨W.heap.size + 1, 0, none⟩), u4, u5, u6, u7, u8, .agg #[.int .i64 0, .bool false], .slice (some ⟨W.heap.size, 0, none⟩) 1 1, u11, u12, u13, u14, u15, u16, u17, u18, u19, u20, u21, u22, u23, u24, u25, u26, u27, u28, u29, u30, u31, u32, u33, u34, u35, u36, u37, u38, u39, u40, u41, u42, u43, u44, u45, u46, u47, u48, u49, u50, u51, u52, u53, u54, u55, u56], defers := marksOf ds }) _ ⟨_, _, _, _, _, _, _, _, _, _, _, _, _, _, _, _, _, _, _, _, _, _, _, _, _, _, _, _, _, _, _, _, _, _, _, _, _, _, _, _, _, _, _, _, _, _, _, _, _, _, _, [], ⟨0, _, _, HS⟩, rfl⟩ ?_
  rintro k a wr ⟨u4, u5, u6, u7, u8, u11, u12, u13, u14, u15, u16, u17, u18, u19, u20, u21, u22, u23, u24, u25, u26, u27, u28, u29, u30, u31, u32, u33, u34, u35, u36, u37, u38, u39, u40, u41, u42, u43, u44, u45, u46, u47, u48, u49, u50, u51, u52, u53, u54, u55, u56, ds, ⟨i, st, v, HV⟩, rfl⟩ K hK
  rcases List.eq_nil_or_concat st with rfl | ⟨st, u, rfl⟩
  · obtain ⟨a, cap, rfl⟩ : ∃ a cap, v = .slice a 0 cap := by
      rcases HV.out.stack.2.2 with ⟨rfl, _⟩ | ⟨g, cap, _, rfl, _⟩
      · exact ⟨none, 0, rfl⟩
      · exact ⟨_, cap, rfl⟩
    obtain ⟨qb, _⟩ := boxed_of HV.out.stack.1
    have HJE : Hid (J (visAt ns 0) wr) := by
      have h1 := HV.out.all
      rw [show toCome ns [] = [] from rfl, List.append_nil] at h1
      have h2 := HV.out.done
      rw [← h1] at h2
      exact h2
    have HM : Hid (MarksIn W.heap.size ds wr) := HV.out.marks
    clear HV
    gi_wp2
    refine leaves_marks ds wr HM.out fun w' hw' => ⟨_, results_none rfl _ _ _, ⟨_, rfl⟩, .inl ?_⟩
    exact hJ _ _ _ HJE.out (hw'.mono (fun x hx => ⟨hx.1, hx.2.elim fun o ho => ⟨o, ho.1, .inl ho.2⟩⟩))
  · rw [List.concat_eq_append] at HV
    obtain ⟨g, cap, rfl, hcap, q0, q1, HOW⟩ := HV.out.stack.top
    obtain ⟨qb, fb⟩ := boxed_of HV.out.stack.1
    have hbl : W.heap.size + 1 < wr.heap.size := HV.out.stack.1.lt
    have hgl : g < wr.heap.size := World.block_lt_of_cell? wr _ q0
    have hst : st.length + 1 ≤ 2097152 := by
      have h1 := toCome_length_ge ns _ HV.out.lt
      have h2 := congrArg List.length HV.out.all
      have h3 := HL.out
      rw [List.length_append] at h1 h2
      simp only [List.length_singleton] at h1
      omega
    have hu : u.1 < ns.length := HV.out.lt u (by simp)
    have HTC : Hid (toCome ns (st ++ [u]) = u :: toCome ns (st ++ pushed ns u)) := toCome_step hs st u hu
    have HT : Hid ((visAt ns 0).take (i + 1) = (visAt ns 0).take i ++ [u]) := by
      have h1 := HV.out.all
      rw [HTC.out] at h1
      exact take_next h1
    have HAL : Hid (visAt ns 0 = (visAt ns 0).take (i + 1) ++ toCome ns (st ++ pushed ns u)) := by
      have h1 := HV.out.all
      rw [HTC.out] at h1
      show _ = _
      rw [HT.out, List.append_assoc]
      exact h1
    have HNUM : Hid ((toCome ns (st ++ pushed ns u)).length < k) := by
      have := HV.out.num
      rw [HTC.out, List.length_cons] at this
      show _ < _
      omega
    have HLT : Hid (∀ x ∈ st, x.1 < ns.length) := fun x hx => HV.out.lt x (by simp [hx])
    -- the world that is handed to the round
    have WYW : Within wr ((wr.setCell ⟨W.heap.size + 1, 0, none⟩ (.slice (some ⟨g, 0, none⟩) st.length cap)).alloc (.cells #[.int .i64 (u.1 : Int), .bool u.2] 73)) (fun x => x = W.heap.size + 1) := by
      have h1 : Within wr (wr.setCell ⟨W.heap.size + 1, 0, none⟩ (.slice (some ⟨g, 0, none⟩) st.length cap)) (fun x => x = W.heap.size + 1) := by
        refine Within.setCell (Within.refl _ _) _ _ ?_
        rfl
      exact h1.trans (within_none ((Below.refl _ _).alloc (Nat.le_refl _) _) _)
    have HJY : Hid (J ((visAt ns 0).take i) ((wr.setCell ⟨W.heap.size + 1, 0, none⟩ (.slice (some ⟨g, 0, none⟩) st.length cap)).alloc (.cells #[.int .i64 (u.1 : Int), .bool u.2] 73))) :=
      hJ _ _ _ HV.out.done (WYW.mono (fun x hx => by subst hx; exact theirs_box HV.out.stack.1 (Nat.le_succ _) (.inr rfl)))
    have HSY : Hid (StackIn W.heap.size (W.heap.size + 1) st ((wr.setCell ⟨W.heap.size + 1, 0, none⟩ (.slice (some ⟨g, 0, none⟩) st.length cap)).alloc (.cells #[.int .i64 (u.1 : Int), .bool u.2] 73)) (.slice (some ⟨g, 0, none⟩) st.length cap)) := by
      refine ⟨(HV.out.stack.1.set _).alloc _, ?_⟩
      exact (HOW.kept (grownBy_setCell' wr (W.heap.size + 1) _) (.inr (HV.out.stack.1.not_row (by decide) HOW).symm)).alloc _
    have HTY : Hid (((wr.setCell ⟨W.heap.size + 1, 0, none⟩ (.slice (some ⟨g, 0, none⟩) st.length cap)).alloc (.cells #[.int .i64 (u.1 : Int), .bool u.2] 73)).heap[Bt]? = some (.cells #[.slice a0 ns.length c0] 36)) :=
      WYW.same HV.out.tree (fun e => by have h1 := HV.out.tree; rw [e] at h1; rw [show wr.heap[W.heap.size + 1]? = _ from HV.out.stack.1] at h1; injection (Option.some.inj h1) with _ e2; exact absurd e2 (by decide))
    have HBY : Hid (Below wA.heap.size W ((wr.setCell ⟨W.heap.size + 1, 0, none⟩ (.slice (some ⟨g, 0, none⟩) st.length cap)).alloc (.cells #[.int .i64 (u.1 : Int), .bool u.2] 73))) :=
      (HV.out.below.setCell (p := ⟨W.heap.size + 1, 0, none⟩) (by simp; omega) _).alloc (by simp; omega) _
    have HMY : Hid (MarksIn W.heap.size ds ((wr.setCell ⟨W.heap.size + 1, 0, none⟩ (.slice (some ⟨g, 0, none⟩) st.length cap)).alloc (.cells #[.int .i64 (u.1 : Int), .bool u.2] 73))) :=
      HV.out.marks.within WYW (fun x o hx ho e => by subst e; rw [show wr.heap[W.heap.size + 1]? = _ from HV.out.stack.1] at hx; cases hx; cases ho)
    have HNY : Hid (((wr.setCell ⟨W.heap.size + 1, 0, none⟩ (.slice (some ⟨g, 0, none⟩) st.length cap)).alloc (.cells #[.int .i64 (u.1 : Int), .bool u.2] 73)).heap[wr.heap.size]? = some (.cells #[.int .i64 (u.1 : Int), .bool u.2] 73)) := by
      show _ = _
      have := heap_alloc_new (wr.setCell ⟨W.heap.size + 1, 0, none⟩ (.slice (some ⟨g, 0, none⟩) st.length cap)) (.cells #[.int .i64 (u.1 : Int), .bool u.2] 73)
      simpa using this
    have hy := HY.out (n - 1) _ u _ HJY.out (by rw [← HT.out]; exact List.take_prefix _ _)
    rw [← HT.out] at hy
    unfold vzEnc at hy
    obtain ⟨fn, tmps, assign, body, hy, hYR⟩ := hy
    clear HV WYW HJY
    gi_wp2
    refine hYR.mono ?_
    rintro e W6 (⟨rfl, hJ6, hk6⟩ | ⟨rfl, hJx6, hk6⟩)
    · have HS6 : Hid (StackIn W.heap.size (W.heap.size + 1) st W6 (.slice (some ⟨g, 0, none⟩) st.length cap)) := HSY.out.typed hk6.typed
      have HT6 : Hid (W6.heap[Bt]? = some (.cells #[.slice a0 ns.length c0] 36)) := hk6.typed _ _ _ _ (.inr rfl) HTY.out
      have HN6 : Hid (W6.heap[wr.heap.size]? = some (.cells #[.int .i64 (u.1 : Int), .bool u.2] 73)) := hk6.typed _ _ _ _ (.inl (.inl rfl)) HNY.out
      have HM6 : Hid (MarksIn W.heap.size ds W6) := HMY.out.kept (by omega) hk6.other
      have HB6 : Hid (Below wA.heap.size W W6) := HBY.out.trans hk6.below
      clear HSY HTY HNY HMY HBY hk6 hy hYR q0 q1 qb fb HOW hgl
      obtain ⟨qt, _⟩ := boxed_of HT6.out
      have hnl : wr.heap.size < W6.heap.size := (Array.getElem?_eq_some_iff.1 HN6.out).1
      have hb6 : W.heap.size + 1 < W6.heap.size := HS6.out.1.lt
      have qn0 : W6.cell? ⟨wr.heap.size, 0, none⟩ = some (.int .i64 (u.1 : Int)) := by simp [World.cell?, HN6.out]
      have qn1 : W6.cell? ⟨wr.heap.size, 1, none⟩ = some (.bool u.2) := by simp [World.cell?, HN6.out]
      obtain ⟨b1, o1, rfl, hb1, ⟨p0, p1, p2, p3⟩, a1, c1, p4, r1⟩ := hR.atNode hu
      have bA6 : Below wA.heap.size wA W6 := hAW.trans HB6.out
      have p0' := (bA6.cell (p := ⟨b1, _, none⟩) hb1).trans p0
      have p1' := (bA6.cell (p := ⟨b1, _, none⟩) hb1).trans p1
      have p2' := (bA6.cell (p := ⟨b1, _, none⟩) hb1).trans p2
      have p3' := (bA6.cell (p := ⟨b1, _, none⟩) hb1).trans p3
      have p4' := (bA6.cell (p := ⟨b1, _, none⟩) hb1).trans p4
      have HPU : Hid (pushed ns u = if u.2 = false ∧ ns[u.1].kind = 1 then (u.1, true) :: (kidsAt ns u.1).reverse.map (fun k => (k, false)) else []) := by show _ = _; rw [pushed, ndAt_get hu]
      have HKA : Hid (kidsAt ns u.1 = ns[u.1].kids.map Int.toNat) := by show _ = _; rw [kidsAt, ndAt_get hu]
      have HKN : Hid (∀ z ∈ ns[u.1].kids, (u.1 : Int) < z ∧ z < ns.length) := (hs.2.1 u.1 hu).2.2
      have HKR : Hid (Reads wA a1 ns[u.1].kids) := r1.reads
      have hkl : ns[u.1].kids.length ≤ 1048576 := by have := Lay.sumL_at Lay.node hu; rw [Lay_node_wt, Lay.wt_ints] at this; omega
      clear p0 p1 p2 p3 p4 r1
      generalize ns[u.1] = y at *
      generalize y.kind = kd at *
      by_cases hpush : u.2 = false ∧ kd = 1
      · obtain ⟨u1, u2⟩ := u
        obtain ⟨rfl, rfl⟩ : u2 = false ∧ kd = 1 := hpush
        obtain ⟨i0, hi0, hz0, hz1, hz2⟩ := info_parts Tryd.infoVisit
        have B7 : Below W6.heap.size W6 (W6.alloc (.cells #[.int .i64 1, .int .i64 y.sym, .int .i64 y.alt, .int .i64 y.pl, .slice a1 y.kids.length c1] 54)) := (Below.refl _ _).alloc (Nat.le_refl _) _
        have HS7 : Hid (StackIn W.heap.size (W.heap.size + 1) st (W6.alloc (.cells #[.int .i64 1, .int .i64 y.sym, .int .i64 y.alt, .int .i64 y.pl, .slice a1 y.kids.length c1] 54)) (.slice (some ⟨g, 0, none⟩) st.length cap)) := ⟨HS6.out.1.alloc _, World.ownsRow.alloc HS6.out.2 _⟩
        have HOT : Hid (((W6.alloc (.cells #[.int .i64 1, .int .i64 y.sym, .int .i64 y.alt, .int .i64 y.pl, .slice a1 y.kids.length c1] 54)).alloc (.cells #[.int .i64 (u1 : Int), .bool true] 73)).ownsRow W.heap.size 73 2 (.slice (some ⟨g, 0, none⟩) st.length cap) st.length (vzCells st)) := World.ownsRow.alloc HS7.out.2 _
        have HNW : Hid (∀ (j : Nat) (u : Value), ([.int .i64 (u1 : Int), .bool true] : List Value)[j]? = some u → ((W6.alloc (.cells #[.int .i64 1, .int .i64 y.sym, .int .i64 y.alt, .int .i64 y.pl, .slice a1 y.kids.length c1] 54)).alloc (.cells #[.int .i64 (u1 : Int), .bool true] 73)).cell? ((⟨W6.heap.size + 1, 0, none⟩ : Addr).add j) = some u) := by
          have := new_two (W6.alloc (.cells #[.int .i64 1, .int .i64 y.sym, .int .i64 y.alt, .int .i64 y.pl, .slice a1 y.kids.length c1] 54)) (.int .i64 (u1 : Int)) (.bool true) 73
          intro j u hu
          have h1 := this j u hu
          rwa [World.size_alloc] at h1
        have HCN : Hid ((W6.alloc (.cells #[.int .i64 1, .int .i64 y.sym, .int .i64 y.alt, .int .i64 y.pl, .slice a1 y.kids.length c1] 54)).heap[W6.heap.size]? = some (.cells #[.int .i64 1, .int .i64 y.sym, .int .i64 y.alt, .int .i64 y.pl, .slice a1 y.kids.length c1] 54)) := heap_alloc_new W6 _
        have hW6 : W.heap.size ≤ W6.heap.size := by omega
        obtain ⟨q6b, f6b⟩ := boxed_of HS6.out.1
        have hg6 : g < W6.heap.size := (HS6.out.2.lt g rfl).2
        clear HTC HN6
        gi_wp2_with (first
          | (gi_at_call 70; refine (callsIn_wide.2 (backward_any _ _ _ _)).mono ?_; rintro e w' ⟨rfl, rfl⟩)
          | (gi_at_builtin; refine wpListIn_append_own _ rfl _ _ 104 rfl W.heap.size 73 i0 (.agg #[.int .i64 0, .bool false]) 2 16 Tryd.underlying104 hi0 hz0 hz1 hz2 rfl (by decide) _ _ _ rfl HOT.out ⟨W6.heap.size + 1, 0, none⟩ 1 1 [.int .i64 (u1 : Int), .bool true] rfl rfl HNW.out (by simp [Value.oneCell']) (by simp [maxLen]; omega) (by omega) (by simp; omega) ?_; intro v' w3 hown' hgrow _; obtain ⟨g', cap', rfl⟩ := ownsRow_succ hown'; obtain ⟨⟨hc3, hf3⟩, HS8, hw3, HW8, hs3, hko⟩ := HS7.out.turn (u := (u1, true)) (by simp; omega) (Nat.le_succ _) hown' hgrow; have q4n : w3.cell? ⟨W6.heap.size, 4, none⟩ = some (.slice a1 y.kids.length c1) := node_at hw3 HCN.out hg6 4; clear hown' hgrow))
        -- behind the push of the part's end
        obtain ⟨Wz, hWz⟩ : ∃ Wz, (w3.setCell ⟨W.heap.size + 1, 0, none⟩ (.slice (some ⟨g', 0, none⟩) (st.length + 1) cap')).alloc (.cells #[.slice a1 y.kids.length c1] 28) = Wz := ⟨_, rfl⟩
        rw [hWz]
        have b8 : Below (w3.setCell ⟨W.heap.size + 1, 0, none⟩ (.slice (some ⟨g', 0, none⟩) (st.length + 1) cap')).heap.size (w3.setCell ⟨W.heap.size + 1, 0, none⟩ (.slice (some ⟨g', 0, none⟩) (st.length + 1) cap')) Wz := by rw [← hWz]; exact (Below.refl _ _).alloc (Nat.le_refl _) _
        have hbk : Wz.heap[w3.heap.size]? = some (.cells #[.slice a1 y.kids.length c1] 28) := by
          rw [← hWz]
          have := heap_alloc_new (w3.setCell ⟨W.heap.size + 1, 0, none⟩ (.slice (some ⟨g', 0, none⟩) (st.length + 1) cap')) (.cells #[.slice a1 y.kids.length c1] 28)
          simpa using this
        have hzs : Wz.heap.size = w3.heap.size + 1 := by rw [← hWz]; simp
        have hs4 : W6.heap.size < w3.heap.size := by rw [World.size_alloc] at hs3; omega
        clear hs3
        have HSz : Hid (StackIn W.heap.size (W.heap.size + 1) (st ++ [(u1, true)]) Wz (.slice (some ⟨g', 0, none⟩) (st.length + 1) cap')) := by
          rw [← hWz]
          exact ⟨HS8.1.alloc _, World.ownsRow.alloc HS8.2 _⟩
        have HW68 : Within W6 (w3.setCell ⟨W.heap.size + 1, 0, none⟩ (.slice (some ⟨g', 0, none⟩) (st.length + 1) cap')) (Theirs visTv W.heap.size W6) := Within.after B7 HW8
        have HWz : Hid (Within W6 Wz (Theirs visTv W.heap.size W6)) := HW68.trans (within_none b8 _)
        have HMz0 : MarksIn W.heap.size ds Wz := ((HM6.out.within (within_none B7 (fun _ => False)) (fun _ _ _ _ h => h)).kept (Nat.le_refl _) (hko.from _)).within (within_none b8 (fun _ => False)) (fun _ _ _ _ h => h)
        clear hko hWz b8 HS8 HW8 HW68 hw3 q4n hc3 hf3 HOT HNW HCN HS7 B7
        have HJz : Hid (J ((visAt ns 0).take (i + 1)) Wz) := hJ _ _ _ hJ6 HWz.out
        have HTz : Hid (Wz.heap[Bt]? = some (.cells #[.slice (some ⟨b1, o1, none⟩) ns.length c0] 36)) := HWz.out.typed HT6.out (by unfold visTv; decide)
        have HMz : Hid (MarksIn W.heap.size ds Wz) := HMz0
        have HBz : Hid (Below wA.heap.size wA Wz) := HWz.out.below (hAW.trans HB6.out) (fun k hk => by have := hk.1; omega)
        have HKr : Hid (y.kids = [] ∨ ∃ b off, a1 = some ⟨b, off, none⟩ ∧ b < wA.heap.size ∧ ∀ j (hj : j < y.kids.length), Wz.cell? ⟨b, off + j, none⟩ = some (.int .i64 y.kids[j])) := by
          rcases HKR.out with e | ⟨b, off, e, hb, hc⟩
          · exact .inl e
          · refine .inr ⟨b, off, e, hb, fun j hj => (HBz.out.cell (p := ⟨b, off + j, none⟩) hb).trans ?_⟩
            rw [hc j hj, List.getD_eq_getElem?_getD, List.getElem?_eq_getElem hj, Option.getD_some]
        clear HMz0 HKR HS6 HT6 HM6 q6b f6b
        obtain ⟨bk, ok, hbk2⟩ : ∃ bk ok, y.kids = [] ∨ (a1 = some ⟨bk, ok, none⟩ ∧ bk < wA.heap.size ∧ ∀ j (hj : j < y.kids.length), Wz.cell? ⟨bk, ok + j, none⟩ = some (.int .i64 y.kids[j])) := by
          rcases HKr.out with e | ⟨b, off, h⟩
          · exact ⟨0, 0, .inl e⟩
          · exact ⟨b, off, .inr h⟩
        have hseq := backward_seq w3.heap.size wA.heap.size bk ok c1 a1 y.kids hkl Wz hbk (by omega) hbk2
        clear hbk hbk2 HKr
        refine wpIn_rangeT (gf := 89) (lb := #[.pointer (some ⟨w3.heap.size, 0, none⟩)]) rfl (enters_of Tryd.func89 (by kernel_rfl) rfl) hseq (Below.refl _ _) (by omega) (fun _ => rfl)
          (fun pre W' => (∃ v, StackIn W.heap.size (W.heap.size + 1) (st ++ (u1, true) :: pre.map (fun x => (x.1.toNat, false))) W' v) ∧ Within Wz W' (Theirs visTv W.heap.size Wz) ∧ KeepsFrom W.heap.size Wz W')
          (fun _ _ _ => False)
          ?hI (fun _ _ _ _ hs _ => hs) ⟨⟨_, HSz.out⟩, Within.refl _ _, KeepsFrom.refl _ _⟩
          (fun x a' _ => a' = { tmps := #[.func (.yield l) #[] #[], .pointer (some ⟨Bt, 0, none⟩), undef, .pointer (some ⟨W.heap.size + 1, 0, none⟩), .int .i64 (st.length : Int), .pointer (some ⟨wr.heap.size, 0, none⟩), .pointer (some ⟨W6.heap.size, 0, none⟩), u7, .int .i64 x.1, .agg #[.int .i64 0, .bool false], .slice (some ⟨W.heap.size, 0, none⟩) 1 1, .slice (some ⟨g, 0, none⟩) (st.length + 1) cap, .int .i64 ((st.length : Int) + 1), .bool true, .slice (some ⟨g, 0, none⟩) (st.length + 1) cap, .int .i64 ((st.length : Int) + 1), .int .i64 (st.length : Int), .slice (some ⟨g, 0, none⟩) (st.length + 1) cap, .int .i64 (st.length : Int), .pointer (some ⟨g, st.length * 2, none⟩), .agg #[.int .i64 (u1 : Int), .bool false], .slice (some ⟨g, 0, none⟩) (st.length + 1) cap, .int .i64 (st.length : Int), .slice (some ⟨g, 0, none⟩) st.length cap, .func (.yield l) #[] #[], .agg #[.int .i64 (u1 : Int), .bool false], .bool true, .bool false, .pointer (some ⟨Bt, 0, none⟩), .slice (some ⟨b1, o1, none⟩) ns.length c0, .pointer (some ⟨wr.heap.size, 0, none⟩), .int .i64 (u1 : Int), .pointer (some ⟨b1, o1 + u1 * 5, none⟩), .agg #[.int .i64 1, .int .i64 y.sym, .int .i64 y.alt, .int .i64 y.pl, .slice a1 y.kids.length c1], .pointer (some ⟨wr.heap.size, 1, none⟩), .bool false, .bool false, .pointer (some ⟨W6.heap.size, 0, none⟩), .int .i64 1, .bool false, .bool false, .slice (some ⟨g, 0, none⟩) st.length cap, .pointer (some ⟨wr.heap.size, 0, none⟩), .int .i64 (u1 : Int), .agg #[.int .i64 (u1 : Int), .bool true], .slice (some ⟨W6.heap.size + 1, 0, none⟩) 1 1, .slice (some ⟨g', 0, none⟩) (st.length + 1) cap', .pointer (some ⟨W6.heap.size, 4, none⟩), .slice a1 y.kids.length c1, .func (.func 89) #[] #[.pointer (some ⟨w3.heap.size, 0, none⟩)], .int .i64 (x.2 : Int), .int .i64 x.1, u52, u53, u54, u55, u56], defers := [] }) (fun _ _ _ _ _ _ h _ => h) ?assign ?body ?done ?stop
        case hI =>
          rintro pre W' W'' ⟨⟨v, hv⟩, hw, hk⟩ hw2
          refine ⟨⟨v, hv.stays hw2⟩, hw.beyond hw2 (fun k hk ht => absurd ht.1 (by omega)), ⟨Nat.le_trans hk.size hw2.size, fun k o hb ho hc => hw2.same (hk.same k o hb ho hc) (fun ht => ?_)⟩⟩
          have h1 := (Array.getElem?_eq_some_iff.1 ho).1
          have h2 := ht.1
          omega
        case assign =>
          intro l2 m pre x W' K2 hI hp hK2
          gi_wp2
          exact hK2 _ _ (Below.refl _ _) rfl
        case body =>
          rintro l2 m pre ⟨z, zi⟩ a' W' hl2 hl3 ⟨⟨v, hv⟩, hw, hk⟩ rfl hp
          have hzn := HKN.out z (backs_mem (hp.subset (by simp) : (z, zi) ∈ backs y.kids))
          obtain ⟨kz, rfl⟩ : ∃ kz : Nat, z = kz := ⟨z.toNat, by omega⟩
          have hpl : pre.length + 1 ≤ 1048576 := by
            have := hp.length_le
            rw [backs_length, List.length_append, List.length_singleton] at this
            omega
          have hc := hv.1.cell
          have hsl : (st ++ (u1, true) :: pre.map (fun x => (x.1.toNat, false))).length = st.length + 1 + pre.length := by simp; omega
          have hWW : W.heap.size ≤ W'.heap.size := by omega
          gi_wp2_with (first
            | (gi_at_builtin; refine wpListIn_append_own _ rfl _ _ 104 rfl W.heap.size 73 i0 (.agg #[.int .i64 0, .bool false]) 2 16 Tryd.underlying104 hi0 hz0 hz1 hz2 rfl (by decide) _ _ _ rfl (World.ownsRow.alloc hv.2 _) ⟨W'.heap.size, 0, none⟩ 1 1 [.int .i64 (kz : Int), .bool false] rfl rfl (new_two _ _ _ _) (by simp [Value.oneCell']) (by rw [hsl]; simp [maxLen]; omega) (by rw [hsl]; omega) (by simp; omega) ?_; intro v' w4 hown' hgrow _; obtain ⟨g4, cap4, rfl⟩ := ownsRow_succ hown'; obtain ⟨⟨hc4, hf4⟩, HS9, _, HW9, hs9, hko9⟩ := hv.turn (u := (kz, false)) hWW (Nat.le_succ _) hown' hgrow; clear hown' hgrow))
          rw [hsl] at HW9 hko9 HS9
          refine ⟨⟨within_below HW9 hnW (by omega), fun k cur t p e hk2 => HW9.typed hk2 (by subst e; unfold visTv; decide), hko9.from _⟩, ⟨.slice (some ⟨g4, 0, none⟩) (st.length + 1 + pre.length + 1) cap4, ?_⟩, within_theirs hw HW9, hk.trans (hko9.from _)⟩
          have e : st ++ (u1, true) :: (pre ++ [((kz : Int), zi)]).map (fun x => (x.1.toNat, false)) = (st ++ (u1, true) :: pre.map (fun x => (x.1.toNat, false))) ++ [(kz, false)] := by simp
          rw [e]
          exact HS9
        case done =>
          rintro D W' hD ⟨⟨v, hv⟩, hw, hk⟩ hd
          have hpe : pushed ns (u1, false) = (u1, true) :: (backs y.kids).map (fun x => (x.1.toNat, false)) := by rw [HPU.out, backs_map, HKA.out]; simp
          rw [← hpe] at hv
          have HV9 : VIn ns J wA.heap.size Bt (.slice (some ⟨b1, o1, none⟩) ns.length c0) W (i + 1) (st ++ pushed ns (u1, false)) (toCome ns (st ++ pushed ns (u1, false))).length (D :: ds) v W' := by
            refine ⟨HAL.out, hJ _ _ _ HJz.out (hw), fun x hx => ?_, hv, hw.typed HTz.out (by unfold visTv; decide), ?_, rfl, (HMz.out.kept (Nat.le_refl _) hk).push HMz.out.lt hD (by omega) hd⟩
            · rcases List.mem_append.1 hx with hx | hx
              · exact HLT.out x hx
              · exact pushed_lt hs hu x hx
            · have h1 : Below wA.heap.size W W6 := HB6.out
              exact h1.trans (((within_below HWz.out hnW (by omega))).trans (within_below hw hnW (by omega)))
          exact hK _ _ _ HNUM.out ⟨_, _, _, _, _, _, _, _, _, _, _, _, _, _, _, _, _, _, _, _, _, _, _, _, _, _, _, _, _, _, _, _, _, _, _, _, _, _, _, _, _, _, _, _, _, _, _, _, _, _, _, D :: ds, ⟨i + 1, _, _, HV9⟩, rfl⟩
        case stop =>
          rintro D c pre x W' _ _ h _
          exact h.elim
      · have HSK : Hid (Hid (VIn ns J wA.heap.size Bt (.slice (some ⟨b1, o1, none⟩) ns.length c0) W (i + 1) st (toCome ns (st ++ pushed ns u)).length ds (.slice (some ⟨g, 0, none⟩) st.length cap) (W6.alloc (.cells #[.int .i64 kd, .int .i64 y.sym, .int .i64 y.alt, .int .i64 y.pl, .slice a1 y.kids.length c1] 54)))) := by
          have e : pushed ns u = [] := by rw [HPU.out, if_neg hpush]
          have b6 : Below W6.heap.size W6 (W6.alloc (.cells #[.int .i64 kd, .int .i64 y.sym, .int .i64 y.alt, .int .i64 y.pl, .slice a1 y.kids.length c1] 54)) := (Below.refl _ _).alloc (Nat.le_refl _) _
          have hA := HAL.out
          rw [e, List.append_nil] at hA
          rw [e, List.append_nil]
          exact ⟨hA, hJ.later hJ6 b6, HLT.out, ⟨HS6.out.1.alloc _, World.ownsRow.alloc HS6.out.2 _⟩, (b6.block Bt (Array.getElem?_eq_some_iff.1 HT6.out).1).trans HT6.out, HB6.out.alloc (by have := HB6.out.size; omega) _, rfl, HM6.out.within (within_none b6 (fun _ => False)) (fun _ _ _ _ h => h)⟩
        have hnum := HNUM.out
        clear HPU HKA HKN HKR HTC HT HAL HNUM HLT HS6 HT6 HN6 HM6 HB6 HY HL bA6
        obtain ⟨u1, u2⟩ := u
        cases u2 with
        | true =>
          gi_wp2
          exact hK _ _ _ hnum ⟨_, _, _, _, _, _, _, _, _, _, _, _, _, _, _, _, _, _, _, _, _, _, _, _, _, _, _, _, _, _, _, _, _, _, _, _, _, _, _, _, _, _, _, _, _, _, _, _, _, _, _, ds, ⟨i + 1, st, _, HSK.out⟩, rfl⟩
        | false =>
          have hkd : ¬ kd = 1 := fun e => hpush ⟨rfl, e⟩
          gi_wp2
          exact hK _ _ _ hnum ⟨_, _, _, _, _, _, _, _, _, _, _, _, _, _, _, _, _, _, _, _, _, _, _, _, _, _, _, _, _, _, _, _, _, _, _, _, _, _, _, _, _, _, _, _, _, _, _, _, _, _, _, ds, ⟨i + 1, st, _, HSK.out⟩, rfl⟩
    · clear HSY HTY HNY HBY hy hYR q0 q1 qb fb HOW hgl
      have HM6 : Hid (MarksIn W.heap.size ds W6) := HMY.out.kept (by omega) hk6
      have HP6 : Hid ((visAt ns 0).take i ++ [u] <+: visAt ns 0) := by show _ <+: _; rw [← HT.out]; exact List.take_prefix _ _
      clear HMY
      gi_wp2
      refine leaves_marks ds W6 HM6.out fun w' hw' => ⟨_, results_none rfl _ _ _, ⟨_, rfl⟩, .inr ⟨(visAt ns 0).take i, u, HP6.out, ?_⟩⟩
      rw [← HT.out]
      exact hJx _ _ _ hJx6 (hw'.mono (fun x hx => ⟨hx.1, hx.2.elim fun o ho => ⟨o, ho.1, .inl ho.2⟩⟩))
end Go.Proofs.YtghpekijimoicaaDoor
namespace Go.Proofs.YtghpekijimoicaaDoor
open Go.RowKit Go.Shelf

attribute [local go_sem] Oper.semAt_some wide_fn wide_fn_in wide_depth wide_depth_in

theorem leaves_any (a : Option Addr) (len cap : Nat) (w : World) :
    Calls Tryd.prog 65 #[.agg #[.slice a len cap]] w fun e w' => e = .returned (.func (.func 88) #[] #[.pointer (some ⟨w.heap.size, 0, none⟩)]) ∧ w' = w.alloc (.cells #[.slice a len cap] 36) := by
  go_enter Tryd.func65, Tryd.ntmps65
  go_wp2
  go_ret
  exact ⟨rfl, rfl⟩

/-- The value of a node's Kids, as the tree's memory has it. -/
def kvAt (w : World) (a : Option Addr) (p : Nat) : Option Addr × Nat := match a with
  | some x => (match w.cell? ⟨x.block, x.off + p * 5 + 4, none⟩ with
    | some (.slice b _ c) => (b, c)
    | _ => (none, 0))
  | none => (none, 0)
abbrev Lf := Nd × (Option Addr × Nat)
def ndEnc (y : Lf) : Array Value := #[.agg #[.int .i64 y.1.kind, .int .i64 y.1.sym, .int .i64 y.1.alt, .int .i64 y.1.pl, .slice y.2.1 y.1.kids.length y.2.2]]
def leafOf (ns : List Nd) (w : World) (a : Option Addr) (v : Nat × Bool) : Option Lf := if v.2 = false ∧ (ndAt ns v.1).kind = 0 then some (ndAt ns v.1, kvAt w a v.1) else none
def leavesOf (ns : List Nd) (w : World) (a : Option Addr) : List Lf := (visAt ns 0).filterMap (leafOf ns w a)
def lvTk (t : TypeId) : Prop := visTk t ∨ t = 119
theorem filterMap_prefix {α β : Type} {f : α → Option β} {xs ys : List α} (h : xs <+: ys) : xs.filterMap f <+: ys.filterMap f := by
  obtain ⟨t, rfl⟩ := h
  exact ⟨t.filterMap f, by rw [List.filterMap_append]⟩
theorem filterMap_snoc {α β : Type} (f : α → Option β) (xs : List α) (x : α) : (xs ++ [x]).filterMap f = xs.filterMap f ++ (f x).toList := by
  rw [List.filterMap_append]
  cases h : f x <;> simp [h]
/-- Of the visits of a tree all are to its nodes. -/
theorem vis_lt {ns : List Nd} (s : Shaped ns) : ∀ (f p : Nat), p < ns.length → ∀ v ∈ vis ns f p, v.1 < ns.length ∧ (v.2 = true → (ndAt ns v.1).kind = 1)
  | 0, _, _, v, hv => by simp [vis] at hv
  | f + 1, p, hp, v, hv => by
    rw [vis] at hv
    rcases List.mem_cons.1 hv with rfl | hv
    · exact ⟨hp, fun h => by cases h⟩
    · split at hv
      · rename_i hk1
        rcases List.mem_append.1 hv with hv | hv
        · obtain ⟨k, hk, hv⟩ := List.mem_flatMap.1 hv
          exact vis_lt s f k (kid_lt s hp hk).2 v hv
        · simp at hv; subst hv; exact ⟨hp, fun _ => hk1⟩
      · simp at hv

set_option maxRecDepth 100000 in
set_option maxHeartbeats 4000000 in
theorem leaves_seq (ns : List Nd) (hs : Shaped ns) (hlen : ns.length ≤ 1048576) (hsum : Lay.node.sumL ns ≤ 1048576) (wA : World) (a0 : Option Addr) (c0 : Nat) (hR : RD wA (.slice a0 ns.length c0) (slD Lay.node ns)) (w : World) (hA : Below wA.heap.size wA w) (Bt : Nat) (hB : w.heap[Bt]? = some (.cells #[.slice a0 ns.length c0] 36)) :
    SeqT Tryd.prog 88 #[.pointer (some ⟨Bt, 0, none⟩)] ndEnc (leavesOf ns wA a0) visTv lvTk wA.heap.size w := by
  intro n l J Jx W hW hl hJ hJx hY h0
  refine callsIn_of_wp_marks Tryd.func88 rfl trivial ?_ rfl
  simp only [Tryd.ntmps88, List.size_toArray, List.length_cons, List.length_nil, Nat.reduceAdd, Nat.reduceSub, Array.replicate_succ, Array.replicate_zero, List.push_toArray, List.append_toArray, List.nil_append, List.cons_append]
  have hB1 : W.heap[Bt]? = some (.cells #[.slice a0 ns.length c0] 36) := (hW.block Bt (Array.getElem?_eq_some_iff.1 hB).1).trans hB
  have hBl : Bt < W.heap.size := (Array.getElem?_eq_some_iff.1 hB1).1
  obtain ⟨qt, _⟩ := boxed_of hB1
  have hAW : Below wA.heap.size wA W := hA.trans (hW.mono hA.size)
  have hnW := hAW.size
  gi_wp2_with (gi_at_call 39; refine (callsIn_wide.2 (visits_any _ _ _ _)).mono ?_; rintro e w' ⟨rfl, rfl⟩)
  obtain ⟨Wz, hWz⟩ : ∃ Wz, (W.alloc (.cells #[.func (.yield l) #[] #[]] 119)).alloc (.cells #[.slice a0 ns.length c0] 36) = Wz := ⟨_, rfl⟩
  rw [hWz]
  have bz : Below W.heap.size W Wz := by rw [← hWz]; exact ((Below.refl _ _).alloc (Nat.le_refl _) _).alloc (by simp) _
  have hz1 : W.heap.size + 2 ≤ Wz.heap.size := by rw [← hWz]; simp
  have hy0 : Wz.heap[W.heap.size]? = some (.cells #[.func (.yield l) #[] #[]] 119) := by
    rw [← hWz]; exact (Below.heap_alloc _ _ _ (by simp)).trans (heap_alloc_new W _)
  have ht0 : Wz.heap[W.heap.size + 1]? = some (.cells #[.slice a0 ns.length c0] 36) := by
    rw [← hWz]
    have := heap_alloc_new (W.alloc (.cells #[.func (.yield l) #[] #[]] 119)) (.cells #[.slice a0 ns.length c0] 36)
    simpa using this
  have hB2 : Wz.heap[Bt]? = some (.cells #[.slice a0 ns.length c0] 36) := (bz.block Bt hBl).trans hB1
  have hJz : J [] Wz := hJ.later h0 bz
  have hAz : Below wA.heap.size wA Wz := hAW.trans (bz.mono hnW)
  have hseq := visits_seq ns hs hlen hsum wA a0 c0 hR Wz hAz (W.heap.size + 1) ht0
  clear hWz hB1 h0 qt
  refine wpIn_rangeT (gf := 69) (lb := #[.pointer (some ⟨W.heap.size + 1, 0, none⟩)]) rfl (enters_of Tryd.func69 (by kernel_rfl) rfl) hseq (Below.refl _ _) (by omega) (fun _ => rfl)
    (fun pre W' => J (pre.filterMap (leafOf ns wA a0)) W' ∧ W'.heap[W.heap.size]? = some (.cells #[.func (.yield l) #[] #[]] 119) ∧ W'.heap[Bt]? = some (.cells #[.slice a0 ns.length c0] 36) ∧ Below wA.heap.size Wz W')
    (fun c _ W' => c = .ret ∧ ∃ q y, q ++ [y] <+: leavesOf ns wA a0 ∧ Jx (q ++ [y]) W')
    ?hI ?hIx ⟨hJz, hy0, hB2, Below.refl _ _⟩
    (fun x a' W' => ∃ Bv, W'.heap[Bv]? = some (.cells #[.int .i64 (x.1 : Int), .bool x.2] 73) ∧ a' = { tmps := #[.func (.yield l) #[] #[], .pointer (some ⟨Bt, 0, none⟩), .pointer (some ⟨W.heap.size, 0, none⟩), .pointer (some ⟨Bv, 0, none⟩), undef, .agg #[.slice a0 ns.length c0], .func (.func 69) #[] #[.pointer (some ⟨W.heap.size + 1, 0, none⟩)], .agg #[.int .i64 (x.1 : Int), .bool x.2], undef, undef, undef, undef, undef, undef, undef, undef, undef, undef, undef, undef, undef, undef, undef], defers := [] }) ?hAx ?assign ?body ?done ?stop
  case hI =>
    rintro pre W' W'' ⟨h1, h2, h3, h4⟩ hw
    exact ⟨hJ _ _ _ h1 (hw.mono (fun k hk => ⟨by have := hk.1; omega, hk.2⟩)), hw.same h2 (fun hk => by have := hk.1; omega), hw.same h3 (fun hk => by have := hk.1; omega), h4.trans (within_below hw (by omega) (by have := h4.size; omega))⟩
  case hIx =>
    rintro c pre W' W'' ⟨h1, q, y, h2, h3⟩ hw
    exact ⟨h1, q, y, h2, hJx _ _ _ h3 (hw.mono (fun k hk => ⟨by have := hk.1; omega, hk.2⟩))⟩
  case hAx =>
    rintro x a' W' l' r r' ⟨Bv, h1, h2⟩ hr
    exact ⟨Bv, (World.putObj_heap_other (fun e => by subst e; rw [h1] at hr; cases hr)).trans h1, h2⟩
  case assign =>
    intro l2 m pre x W' K2 hI hp hK2
    unfold vzEnc
    gi_wp2
    exact hK2 _ _ ((Below.refl _ _).alloc (Nat.le_refl _) _) ⟨W'.heap.size, heap_alloc_new W' _, rfl⟩
  case body =>
    rintro l2 m pre ⟨p, b⟩ a' W' hl2 hl3 ⟨h1, h2, h3, h4⟩ ⟨Bv, hv, rfl⟩ hp
    obtain ⟨hpl, hpt⟩ := vis_lt hs _ 0 (List.length_pos_iff.2 hs.1) (p, b) (hp.subset (by simp))
    obtain ⟨qt, _⟩ := boxed_of h3
    obtain ⟨qy, _⟩ := boxed_of h2
    have qv0 : W'.cell? ⟨Bv, 0, none⟩ = some (.int .i64 (p : Int)) := by simp [World.cell?, hv]
    have hbv : Bv < W'.heap.size := (Array.getElem?_eq_some_iff.1 hv).1
    have hWW : W.heap.size + 2 ≤ W'.heap.size := by have := h4.size; omega
    have hWl : W.heap.size < W'.heap.size := by omega
    obtain ⟨b1, o1, rfl, hb1, ⟨p0, p1, p2, p3⟩, a1, c1, p4, r1⟩ := hR.atNode hpl
    have bA : Below wA.heap.size wA W' := hAz.trans h4
    have p0' := (bA.cell (p := ⟨b1, _, none⟩) hb1).trans p0
    have p1' := (bA.cell (p := ⟨b1, _, none⟩) hb1).trans p1
    have p2' := (bA.cell (p := ⟨b1, _, none⟩) hb1).trans p2
    have p3' := (bA.cell (p := ⟨b1, _, none⟩) hb1).trans p3
    have p4' := (bA.cell (p := ⟨b1, _, none⟩) hb1).trans p4
    have HLF : Hid (leafOf ns wA (some ⟨b1, o1, none⟩) (p, b) = if b = false ∧ ns[p].kind = 0 then some (ns[p], (a1, c1)) else none) := by
      show _ = _
      simp only [leafOf, kvAt, ndAt_get hpl, p4]
    have HPT : Hid (b = true → ns[p].kind = 1) := by rw [ndAt_get hpl] at hpt; exact hpt
    have HFM : Hid ((pre ++ [(p, b)]).filterMap (leafOf ns wA (some ⟨b1, o1, none⟩)) = pre.filterMap (leafOf ns wA (some ⟨b1, o1, none⟩)) ++ (leafOf ns wA (some ⟨b1, o1, none⟩) (p, b)).toList) := by
      exact filterMap_snoc _ _ _
    have HPX : Hid ((pre ++ [(p, b)]).filterMap (leafOf ns wA (some ⟨b1, o1, none⟩)) <+: leavesOf ns wA (some ⟨b1, o1, none⟩)) := filterMap_prefix hp
    clear p0 p1 p2 p3 p4 r1 hpt hp
    generalize ns[p] = y at *
    by_cases hkd : y.kind = 0
    · have hbf : b = false := by
        cases b with
        | false => rfl
        | true => have := HPT.out rfl; omega
      subst hbf
      rw [if_pos ⟨rfl, hkd⟩] at HLF
      rw [HLF.out] at HFM
      rw [HFM.out] at HPX
      have HY : Hid (YieldAt Fence.wide (m - 1) Tryd.prog l #[.agg #[.int .i64 0, .int .i64 y.sym, .int .i64 y.alt, .int .i64 y.pl, .slice a1 y.kids.length c1]] (W'.alloc (.cells #[.int .i64 0, .int .i64 y.sym, .int .i64 y.alt, .int .i64 y.pl, .slice a1 y.kids.length c1] 54)) fun e W2 =>
          (e = .returned (.bool true) ∧ J (pre.filterMap (leafOf ns wA (some ⟨b1, o1, none⟩)) ++ [(y, (a1, c1))]) W2 ∧ Kept3 wA.heap.size (l + 1) lvTk (W'.alloc (.cells #[.int .i64 0, .int .i64 y.sym, .int .i64 y.alt, .int .i64 y.pl, .slice a1 y.kids.length c1] 54)) W2) ∨
          (e = .returned (.bool false) ∧ Jx (pre.filterMap (leafOf ns wA (some ⟨b1, o1, none⟩)) ++ [(y, (a1, c1))]) W2 ∧ KeepsFrom (l + 1) (W'.alloc (.cells #[.int .i64 0, .int .i64 y.sym, .int .i64 y.alt, .int .i64 y.pl, .slice a1 y.kids.length c1] 54)) W2)) := by
        have := hY (m - 1) (pre.filterMap (leafOf ns wA (some ⟨b1, o1, none⟩))) (y, (a1, c1)) (W'.alloc (.cells #[.int .i64 0, .int .i64 y.sym, .int .i64 y.alt, .int .i64 y.pl, .slice a1 y.kids.length c1] 54)) (hJ.later h1 ((Below.refl _ _).alloc (Nat.le_refl _) _)) HPX.out
        unfold ndEnc at this
        simp only [hkd] at this
        exact this
      obtain ⟨fn, tmps, asg, bdy, hyr, hYR⟩ := HY.out
      rw [hkd] at p0'
      have hk0 : Kept3 wA.heap.size Wz.heap.size visTk W' (W'.alloc (.cells #[.int .i64 0, .int .i64 y.sym, .int .i64 y.alt, .int .i64 y.pl, .slice a1 y.kids.length c1] 54)) := Kept3.of_below ((Below.refl _ _).alloc (Nat.le_refl _) _) (by omega)
      have h2' : (W'.alloc (.cells #[.int .i64 0, .int .i64 y.sym, .int .i64 y.alt, .int .i64 y.pl, .slice a1 y.kids.length c1] 54)).heap[W.heap.size]? = some (.cells #[.func (.yield l) #[] #[]] 119) := (Below.heap_alloc _ _ _ (by omega)).trans h2
      have h3' : (W'.alloc (.cells #[.int .i64 0, .int .i64 y.sym, .int .i64 y.alt, .int .i64 y.pl, .slice a1 y.kids.length c1] 54)).heap[Bt]? = some (.cells #[.slice (some ⟨b1, o1, none⟩) ns.length c0] 36) := (Below.heap_alloc _ _ _ (by omega)).trans h3
      have h4' : Below wA.heap.size Wz (W'.alloc (.cells #[.int .i64 0, .int .i64 y.sym, .int .i64 y.alt, .int .i64 y.pl, .slice a1 y.kids.length c1] 54)) := h4.alloc (by omega) _
      have HPQ : Hid (pre.filterMap (leafOf ns wA (some ⟨b1, o1, none⟩)) ++ [(y, (a1, c1))] <+: leavesOf ns wA (some ⟨b1, o1, none⟩)) := HPX.out
      clear HY hY HLF HPX hJ hJx hseq h1 h2 h3 h4 hkd
      gi_wp2
      refine hYR.mono ?_
      rintro e W2 (⟨rfl, hJ2, hk2⟩ | ⟨rfl, hJx2, hk2⟩)
      · gi_wp2
        refine ⟨hk0.trans (hk2.mono (Nat.le_refl _) (by omega) (fun t ht => .inl ht)), ?_, hk2.typed _ _ _ _ (.inr rfl) h2', hk2.typed _ _ _ _ (.inl (.inr rfl)) h3', h4'.trans hk2.below⟩
        rw [HFM.out]
        exact hJ2
      · gi_wp2
        exact ⟨hk0.other.trans (keepsFrom_mono hk2 (by omega)), rfl, _, _, HPQ.out, hJx2⟩
    · rw [if_neg (fun h => hkd h.2)] at HLF
      rw [HLF.out, Option.toList_none, List.append_nil] at HFM
      have hI2 : J (pre.filterMap (leafOf ns wA (some ⟨b1, o1, none⟩))) (W'.alloc (.cells #[.int .i64 y.kind, .int .i64 y.sym, .int .i64 y.alt, .int .i64 y.pl, .slice a1 y.kids.length c1] 54)) := hJ.later h1 ((Below.refl _ _).alloc (Nat.le_refl _) _)
      have h2' : (W'.alloc (.cells #[.int .i64 y.kind, .int .i64 y.sym, .int .i64 y.alt, .int .i64 y.pl, .slice a1 y.kids.length c1] 54)).heap[W.heap.size]? = some (.cells #[.func (.yield l) #[] #[]] 119) := (Below.heap_alloc _ _ _ (by omega)).trans h2
      have h3' : (W'.alloc (.cells #[.int .i64 y.kind, .int .i64 y.sym, .int .i64 y.alt, .int .i64 y.pl, .slice a1 y.kids.length c1] 54)).heap[Bt]? = some (.cells #[.slice (some ⟨b1, o1, none⟩) ns.length c0] 36) := (Below.heap_alloc _ _ _ (by omega)).trans h3
      have h4' : Below wA.heap.size Wz (W'.alloc (.cells #[.int .i64 y.kind, .int .i64 y.sym, .int .i64 y.alt, .int .i64 y.pl, .slice a1 y.kids.length c1] 54)) := h4.alloc (by omega) _
      have hk0 : Kept3 wA.heap.size Wz.heap.size visTk W' (W'.alloc (.cells #[.int .i64 y.kind, .int .i64 y.sym, .int .i64 y.alt, .int .i64 y.pl, .slice a1 y.kids.length c1] 54)) := Kept3.of_below ((Below.refl _ _).alloc (Nat.le_refl _) _) (by omega)
      clear hY HLF HPX hJ hJx hseq h1 h2 h3 h4
      gi_wp2
      refine ⟨hk0, ?_, h2', h3', h4'⟩
      rw [HFM.out]
      exact hI2
  case done =>
    rintro D W' hD ⟨h1, h2, h3, h4⟩ hd
    gi_wp2
    refine leaves_marks (B := Wz.heap.size) [D] W' ⟨by simp, fun x hx => ?_⟩ fun w' hw' => ⟨_, results_none rfl _ _ _, ⟨_, rfl⟩, .inl ?_⟩
    · simp at hx; subst hx; exact ⟨hD, hd⟩
    · exact hJ _ _ _ h1 (hw'.mono (fun x hx => ⟨by have := hx.1; omega, hx.2.elim fun o ho => ⟨o, ho.1, .inl ho.2⟩⟩))
  case stop =>
    rintro D c pre x W' hD hp ⟨rfl, q, y, h1, h2⟩ hd
    gi_wp2
    refine leaves_marks (B := Wz.heap.size) [D] W' ⟨by simp, fun x hx => ?_⟩ fun w' hw' => ⟨_, results_none rfl _ _ _, ⟨_, rfl⟩, .inr ⟨q, y, h1, ?_⟩⟩
    · simp at hx; subst hx; exact ⟨hD, hd⟩
    · exact hJx _ _ _ h2 (hw'.mono (fun x hx => ⟨by have := hx.1; omega, hx.2.elim fun o ho => ⟨o, ho.1, .inl ho.2⟩⟩))
end Go.Proofs.YtghpekijimoicaaDoor
namespace Go.Proofs.YtghpekijimoicaaDoor
open Go.RowKit Go.Shelf

attribute [local go_sem] Oper.semAt_some wide_fn wide_fn_in wide_depth wide_depth_in

/-- The letters of the leaves, from the left. -/
def leafSyms (ns : List Nd) : List Int := (visAt ns 0).filterMap fun v => if v.2 = false ∧ (ndAt ns v.1).kind = 0 then some (ndAt ns v.1).sym else none
def resYield (x : Tr) : List Int := if shapeB x.nodes = true then leafSyms x.nodes else []
theorem leavesOf_syms (ns : List Nd) (w : World) (a : Option Addr) : (leavesOf ns w a).map (fun y => y.1.sym) = leafSyms ns := by
  unfold leavesOf leafSyms
  rw [List.map_filterMap]
  congr 1
  funext v
  unfold leafOf
  split <;> simp
theorem leafSyms_length {ns : List Nd} (s : Shaped ns) : (leafSyms ns).length ≤ 2 * ns.length := Nat.le_trans (List.length_filterMap_le _ _) (visits_le s)
theorem resYield_le (x : Tr) (hw : Lay.tree.wt x ≤ 1048576) (_ : Lay.tree.fit x) : (Lay.list Lay.int).wt (resYield x) ≤ 2097152 := by
  rw [Lay.wt_ints]
  rw [Lay_tree_wt, Lay.wt_list] at hw
  unfold resYield
  split
  · rename_i h
    have := leafSyms_length (shapeB_true.1 h)
    omega
  · simp

/-- An append into a boxed slice: only the box and the row, or new memory. -/
theorem appended_within {W w1 : World} {B : Nat} {v v' : Value} {tmp : Obj} (hgrow : (W.alloc tmp).grownBy w1 v.ownBlock) : Within W (w1.setCell ⟨B, 0, none⟩ v') (fun k => k = B ∨ v.ownBlock = some k) := by
  have hw1 : Within W w1 (fun k => v.ownBlock = some k) := (within_none ((Below.refl _ _).alloc (Nat.le_refl _) tmp) _).trans (Within.of_grown hgrow (fun k e => e))
  have hw2 : Within w1 (w1.setCell ⟨B, 0, none⟩ v') (fun k => k = B) := by
    refine Within.setCell (Within.refl _ _) _ _ ?_
    rfl
  exact (hw1.mono (fun k h => .inr h)).trans (hw2.mono (fun k h => .inl h))
theorem boxed_row_typed {W X : World} {n₀ B : Nat} {t e : TypeId} {size : Nat} {v : Value} {k : Nat} {xs : List Value} (hv : Boxed W B t v) (hrow : W.ownsRow n₀ e size v k xs) (hw : Within W X (fun k => k = B ∨ v.ownBlock = some k)) {j : Nat} {cur : Array Value} {u : TypeId} {p : Nat × Nat} (hj : W.heap[j]? = some (.cells cur u p)) (h1 : u ≠ t) (h2 : u ≠ e) : X.heap[j]? = some (.cells cur u p) :=
  hw.same hj (fun h => by
    rcases h with rfl | h
    · rw [show W.heap[j]? = _ from hv] at hj
      cases hj
      exact h1 rfl
    · rcases hrow.2 with ⟨rfl, _⟩ | ⟨g, cap, c, rfl, _, hg, _⟩
      · simp [Value.ownBlock] at h
      · have : g = j := by simpa [Value.ownBlock] using h
        subst this
        rw [hg] at hj
        cases hj
        exact h2 rfl)
theorem ownsRow_stays {W X : World} {n₀ b : Nat} {e : TypeId} {size : Nat} {v : Value} {k : Nat} {xs : List Value} {tv : TypeId → Prop} (h : W.ownsRow n₀ e size v k xs) (hw : Within W X (Theirs tv b W)) (he : ¬ tv e) : X.ownsRow n₀ e size v k xs := by
  refine ⟨h.1, ?_⟩
  rcases h.2 with hx | ⟨g, cap, cur, rfl, hb, hg, r⟩
  · exact .inl hx
  · refine .inr ⟨g, cap, cur, rfl, hb, hw.same hg (fun ⟨_, o, ho, hc⟩ => ?_), r⟩
    rw [hg] at ho
    cases ho
    rcases hc with hc | ⟨_, _, _, ht, e2⟩
    · cases hc
    · cases e2; exact he ht

theorem new_one_c (W : World) (x : Value) (t : TypeId) : ∀ (j : Nat) (u : Value), ([x] : List Value)[j]? = some u → (W.alloc (.cells #[x] t)).cell? ((⟨W.heap.size, 0, none⟩ : Addr).add j) = some u := by
  intro j u hu
  have e := Lib.cell_of_heap (heap_alloc_new W (.cells #[x] t)) j
  rw [Addr.add_lit, Nat.zero_add, e]
  simpa using hu
theorem box_later {w w1 : World} {v : Value} {t : TypeId} (hb : Below (w.alloc (.cells #[v] t)).heap.size (w.alloc (.cells #[v] t)) w1) : w1.cell? ⟨w.heap.size, 0, none⟩ = some v ∧ w.heap.size < w1.heap.size := by
  have h := (hb.block w.heap.size (by simp)).trans (heap_alloc_new w (.cells #[v] t))
  exact ⟨(boxed_of h).1, (Array.getElem?_eq_some_iff.1 h).1⟩

end Go.Proofs.YtghpekijimoicaaDoor
