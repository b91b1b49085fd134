/-
  Contracts and plain mathematics, joined: IterT, BackIter. No statement is proved here.
-/
import Derived.RangeFuncNested
import Derived.RangeFuncLeaves
import Derived.Shelf.Abstract
import Derived.WalkKit
import Derived.OwnWalkIn
import Derived.TacticsInMore
import Derived.LoopNIn
import Derived.LoopIn
import Derived.Test.YthnppodnjokaoaaDoorG2
import Derived.Test.YthnppodnjokaoaaDoorChecked
namespace Go.Proofs.YthnppodnjokaoaaDoor
open Go.RowKit Go.Shelf

theorem wide_fn (f : FuncId) : Fence.wide.fn f = True := rfl
theorem wide_fn_in (f : FuncId) (l : Nat) : (Fence.wide.inRound l).fn f = True := rfl
theorem wide_depth : Fence.wide.depth.isSome = false := rfl
theorem wide_depth_in (l : Nat) : (Fence.wide.inRound l).depth.isSome = false := rfl
section
variable {P : Program} {α : Type}
/-- A block that is not the caller's: from B on, no cells, or cells of one of the types that the iterator writes. -/
def Theirs (tv : TypeId → Prop) (B : Nat) (W : World) (k : Nat) : Prop := B ≤ k ∧ ∃ o, W.heap[k]? = some o ∧ (o.isCells = false ∨ ∃ cur t p, tv t ∧ o = .cells cur t p)
/-- What the caller says of the world holds on, whatever the iterator does. -/
def Stays {β : Type} (tv : TypeId → Prop) (B : Nat) (J : β → World → Prop) : Prop := ∀ s W W', J s W → Within W W' (Theirs tv B W) → J s W'
/-- What a round that goes on leaves as it was. -/
structure Kept3 (n₀ b : Nat) (tk : TypeId → Prop) (W W' : World) : Prop where
  below : Below n₀ W W'
  typed : ∀ (k : Nat) (cur : Array Value) (t : TypeId) (p : Nat × Nat), tk t → W.heap[k]? = some (Obj.cells cur t p) → W'.heap[k]? = some (Obj.cells cur t p)
  other : KeepsFrom b W W'
theorem Kept3.refl (n₀ b : Nat) (tk : TypeId → Prop) (W : World) : Kept3 n₀ b tk W W := ⟨Below.refl _ _, fun _ _ _ _ _ h => h, KeepsFrom.refl _ _⟩
theorem Kept3.trans {n₀ b : Nat} {tk : TypeId → Prop} {W X Y : World} (h : Kept3 n₀ b tk W X) (g : Kept3 n₀ b tk X Y) : Kept3 n₀ b tk W Y :=
  ⟨h.below.trans g.below, fun k cur t p ht hk => g.typed k cur t p ht (h.typed k cur t p ht hk), h.other.trans g.other⟩
theorem Kept3.mono {n₀ n₁ b c : Nat} {tk tj : TypeId → Prop} {W X : World} (h : Kept3 n₀ b tk W X) (hn : n₁ ≤ n₀) (hb : b ≤ c) (ht : ∀ t, tj t → tk t) : Kept3 n₁ c tj W X :=
  ⟨h.below.mono hn, fun k cur t p hj hk => h.typed k cur t p (ht t hj) hk, ⟨h.other.size, fun k o hk ho hc => h.other.same k o (Nat.le_trans hb hk) ho hc⟩⟩
/-- Where nothing old has turned. -/
theorem Kept3.of_below {n₀ b : Nat} {tk : TypeId → Prop} {W X : World} (h : Below W.heap.size W X) (hn : n₀ ≤ W.heap.size) : Kept3 n₀ b tk W X :=
  ⟨h.mono hn, fun k _ _ _ _ hk => (h.block k (Array.getElem?_eq_some_iff.1 hk).1).trans hk, ⟨h.size, fun k _ _ hk _ => (h.block k (Array.getElem?_eq_some_iff.1 hk).1).trans hk⟩⟩
theorem keepsFrom_mono {b c : Nat} {W X : World} (h : KeepsFrom b W X) (hb : b ≤ c) : KeepsFrom c W X := ⟨h.size, fun k o hk ho hc => h.same k o (Nat.le_trans hb hk) ho hc⟩

theorem within_none {W X : World} (h : Below W.heap.size W X) (S : Nat → Prop) : Within W X S := Within.of_below h S
theorem within_put {W : World} {l : Nat} (o' : Obj) : Within W (W.putObj l o') (fun k => k = l) :=
  have g := grownBy_putObj' W l o'
  ⟨g.os, g.tape, g.output, g.size, fun k hk hn => g.block k hk (fun e => hn (by cases e; rfl))⟩
theorem Stays.put {β : Type} {tv : TypeId → Prop} {B : Nat} {J : β → World → Prop} (h : Stays tv B J) {s : β} {W : World} {l : Nat} {o : Obj} (o' : Obj) (hs : J s W) (hB : B ≤ l) (hl : W.heap[l]? = some o) (ho : o.isCells = false) : J s (W.putObj l o') :=
  h s W _ hs ((within_put o').mono (fun k e => by subst e; exact ⟨hB, o, hl, .inl ho⟩))
theorem Stays.later {β : Type} {tv : TypeId → Prop} {B : Nat} {J : β → World → Prop} (h : Stays tv B J) {s : β} {W X : World} (hs : J s W) (hb : Below W.heap.size W X) : J s X := h s W X hs (within_none hb _)
theorem Stays.and {β : Type} {tv : TypeId → Prop} {B : Nat} {I J : β → World → Prop} (h : Stays tv B I) (g : Stays tv B J) : Stays tv B (fun s W => I s W ∧ J s W) := fun s W W' hs hw => ⟨h s W W' hs.1 hw, g s W W' hs.2 hw⟩
theorem Stays.mono {β : Type} {tv : TypeId → Prop} {B C : Nat} {J : β → World → Prop} (h : Stays tv B J) (hB : B ≤ C) : Stays tv C J := fun s W W' hs hw => h s W W' hs (hw.mono (fun _ hk => ⟨Nat.le_trans hB hk.1, hk.2⟩))
/-- A block that is not theirs. -/
theorem Within.same {W X : World} {S : Nat → Prop} (h : Within W X S) {k : Nat} {o : Obj} (hk : W.heap[k]? = some o) (hn : ¬ S k) : X.heap[k]? = some o := (h.block k (Array.getElem?_eq_some_iff.1 hk).1 hn).trans hk

/-- The iterator's contract: it gives xs in their order, or stops where a round says so; it writes cells of the types tv, and leans on cells of the types tk, and on what lies below n₀. -/
def SeqT (P : Program) (g : Nat) (lb : Array Value) (encs : α → Array Value) (xs : List α) (tv tk : TypeId → Prop) (n₀ : Nat) (w : World) : Prop :=
  ∀ (n l : Nat) (J Jx : List α → World → Prop) (W : World), Below w.heap.size w W → l < W.heap.size → Stays tv W.heap.size J → Stays tv W.heap.size Jx →
    (∀ (m : Nat) (pre : List α) (x : α) (W1 : World), J pre W1 → pre ++ [x] <+: xs → YieldAt Fence.wide m P l (encs x) W1 fun e W' =>
      (e = .returned (.bool true) ∧ J (pre ++ [x]) W' ∧ Kept3 n₀ (l + 1) tk W1 W') ∨ (e = .returned (.bool false) ∧ Jx (pre ++ [x]) W' ∧ KeepsFrom (l + 1) W1 W')) →
    J [] W →
    CallsIn Fence.wide n P g (#[.func (.yield l) #[] #[]] ++ lb) W fun e W' => (∃ v, e = .returned v) ∧ (J xs W' ∨ ∃ pre x, pre ++ [x] <+: xs ∧ Jx (pre ++ [x]) W')

/-- How a round's body may be left. -/
def postT (n₀ b : Nat) (tk : TypeId → Prop) (I : List α → World → Prop) (Ix : Code → List α → World → Prop) (xs : List α) (W : World) : Exit → Act → World → Prop
  | .normal, _, W' => Kept3 n₀ b tk W W' ∧ I xs W'
  | .ret, _, W' => KeepsFrom b W W' ∧ Ix .ret xs W'
  | .exit id, _, W' => KeepsFrom b W W' ∧ Ix (.exit id) xs W'
  | .goto t, _, W' => KeepsFrom b W W' ∧ Ix (.goto t) xs W'
  | .panic _, _, _ => False
  | .outgrown, _, _ => False

theorem wpIn_rangeT {g : Operand} {ps : Array Tmp} {assign body : Code} {Q : Exit → Act → World → Prop} {a : Act} {w : World} {n : Nat}
    {gf : Nat} {lb : Array Value} (hg : a.eval g = .func (.func gf) #[] lb) (eg : ∀ args w, (callFunc gf args).run P w = .ok (.enter gf args) w)
    {encs : α → Array Value} {xs : List α} {tv tk : TypeId → Prop} {n₀ : Nat} {w0 : World} (hseq : SeqT P gf lb encs xs tv tk n₀ w0) (hb0 : Below w0.heap.size w0 w) (hn₀ : n₀ ≤ w.heap.size) (hps : ∀ x, (encs x).size = ps.size)
    (I : List α → World → Prop) (Ix : Code → List α → World → Prop) (hI : Stays tv w.heap.size I) (hIx : ∀ c, Stays tv w.heap.size (Ix c)) (h0 : I [] w)
    (Ax : α → Act → World → Prop) (hAx : ∀ x a' W l r r', Ax x a' W → W.heap[l]? = some (.loop r) → Ax x a' (W.putObj l (.loop r')))
    (hassign : ∀ (l m : Nat) (pre : List α) (x : α) (W : World) (K : Act → World → Prop), I pre W → pre ++ [x] <+: xs → (∀ a' W', Below W.heap.size W W' → Ax x a' W' → K a' W') →
      assign.wpIn (Fence.wide.inRound l) m P (Exit.then K (fun _ _ _ => False)) { tmps := (ps.zip (encs x)).foldl (fun t (p, v) => t.setIfInBounds p v) a.tmps, defers := [] } W)
    (hbody : ∀ (l m : Nat) (pre : List α) (x : α) (a' : Act) (W : World), w.heap.size ≤ l → l < W.heap.size → I pre W → Ax x a' W → pre ++ [x] <+: xs → body.wpIn (Fence.wide.inRound l) m P (postT n₀ w.heap.size tk I Ix (pre ++ [x]) W) a' W)
    (hdone : ∀ (D : Nat) (W : World), w.heap.size ≤ D → I xs W → W.heap[D]? = some (.deferred (some [])) → Q .normal { a with defers := { target := .collected D, args := #[] } :: a.defers } W)
    (hstop : ∀ (D : Nat) (c : Code) (pre : List α) (x : α) (W : World), w.heap.size ≤ D → pre ++ [x] <+: xs → Ix c (pre ++ [x]) W → W.heap[D]? = some (.deferred (some [])) → c.wpIn Fence.wide n P Q { a with defers := { target := .collected D, args := #[] } :: a.defers } W) :
    (Code.rangeFunc g ps assign body).wpIn Fence.wide n P Q a w := by
  refine wpIn_rangeFunc fun fn hfn => ?_
  -- the loop's own two blocks
  have hall : ∃ rec : LoopState → Option Code → Loop, rec = fun st pe => { state := st, pending := pe, fn, tmps := a.tmps, params := ps, assign, body, defers := w.heap.size } := ⟨_, rfl⟩
  obtain ⟨rec, hrec⟩ := hall
  generalize hl : w.heap.size + 1 = l
  have hen := run_enterLoop_outer (P := P) (w := w) fn a.tmps ps assign body
  generalize hW1 : (w.alloc (.deferred (some []))).alloc (.loop { state := .ready, pending := none, fn, tmps := a.tmps, params := ps, assign, body, defers := w.heap.size }) = W1 at hen
  have bW : Below w.heap.size w W1 := by rw [← hW1]; exact ((Below.refl _ w).alloc (Nat.le_refl _) _).alloc (by simp) _
  have sW : W1.heap.size = w.heap.size + 2 := by rw [← hW1]; simp
  have hR1 : W1.heap[l]? = some (.loop (rec .ready none)) := by
    rw [← hW1, ← hl, hrec]
    have := World.alloc_heap_new (w.alloc (.deferred (some []))) (.loop { state := .ready, pending := none, fn, tmps := a.tmps, params := ps, assign, body, defers := w.heap.size })
    rwa [World.size_alloc] at this
  have hD1 : W1.heap[w.heap.size]? = some (.deferred (some [])) := by
    rw [← hW1]; exact (Below.heap_alloc _ _ _ (by simp)).trans (World.alloc_heap_new w _)
  clear hW1
  -- what is carried through the rounds: the caller's word, and the two blocks
  have hst : ∀ {β : Type} {J : β → World → Prop} {R : Obj}, Stays tv w.heap.size J → Stays tv W1.heap.size (fun s W => J s W ∧ W.heap[l]? = some R ∧ W.heap[w.heap.size]? = some (.deferred (some []))) := fun hJ s W W' hs hw =>
    ⟨hJ s W W' hs.1 (hw.mono (fun k hk => ⟨by have := hk.1; omega, hk.2⟩)), hw.same hs.2.1 (fun hk => by have := hk.1; omega), hw.same hs.2.2 (fun hk => by have := hk.1; omega)⟩
  refine ⟨l, [{ target := .collected w.heap.size, args := #[] }], W1, { target := .fn (.func gf) lb, args := #[.func (.yield l) #[] #[]] }, W1, gf, #[.func (.yield l) #[] #[]] ++ lb, W1, by rw [← hl]; exact hen, ?_, fun _ _ => trivial, ?_, fun h => (by simp [Fence.wide] at h), ?_⟩
  · simp only [resolve, hg]
    simp [go_sem]
  · simp [invoke, go_sem, eg]
  · refine (hseq (n - 1) l (fun pre W => I pre W ∧ W.heap[l]? = some (.loop (rec .ready none)) ∧ W.heap[w.heap.size]? = some (.deferred (some [])))
      (fun pre W => ∃ c, Ix c pre W ∧ W.heap[l]? = some (.loop (rec .done (some c))) ∧ W.heap[w.heap.size]? = some (.deferred (some []))) W1 (hb0.trans (bW.mono hb0.size)) (by omega) (hst hI)
      (fun s W W' ⟨c, hs⟩ hw => ⟨c, hst (hIx c) s W W' hs hw⟩) ?_ ⟨hI.later h0 bW, hR1, hD1⟩).mono ?_
    · -- one round
      rintro m pre x W ⟨hi, hR, hD⟩ hp
      have hy := run_yield (P := P) (args := encs x) hR (by rw [hrec]; exact hps x)
      rw [hrec] at hy
      refine ⟨fn, _, assign, body, hy, roundIn_of_wpIn hfn (hassign l m pre x W _ hi hp ?_)⟩
      intro a' Wa hb hax
      have hia := hI.later hi hb
      have hRa : Wa.heap[l]? = some (.loop (rec .ready none)) := (hb.block l (Array.getElem?_eq_some_iff.1 hR).1).trans hR
      have hDa : Wa.heap[w.heap.size]? = some (.deferred (some [])) := (hb.block _ (Array.getElem?_eq_some_iff.1 hD).1).trans hD
      refine ⟨_, run_beginRound hRa (by rw [hrec]), ?_⟩
      have hll : l < Wa.heap.size := (Array.getElem?_eq_some_iff.1 hRa).1
      generalize hWb : Wa.putObj l (.loop { rec .ready none with state := .busy }) = Wb
      have hib : I pre Wb := by rw [← hWb]; exact hI.put _ hia (by omega) hRa rfl
      have hab : Ax x a' Wb := by rw [← hWb]; exact hAx x a' Wa l _ _ hax hRa
      have hRb : Wb.heap[l]? = some (.loop { rec .ready none with state := .busy }) := by rw [← hWb]; exact World.putObj_heap_same hll
      have hDb : Wb.heap[w.heap.size]? = some (.deferred (some [])) := by rw [← hWb]; exact (World.putObj_heap_other (by omega)).trans hDa
      have hKb : Kept3 n₀ (l + 1) tk W Wb := by
        refine (Kept3.of_below hb (by have := (Array.getElem?_eq_some_iff.1 hD).1; omega)).trans ?_
        rw [← hWb]
        exact ⟨(Below.refl n₀ Wa).grown (grownBy_putObj' Wa l _) (by omega) (fun k e => by cases e; omega),
          fun k cur t p _ hk => (World.putObj_heap_other (fun e => by subst e; rw [hRa] at hk; cases hk)).trans hk,
          ⟨by simp, fun k o hk ho _ => (World.putObj_heap_other (by omega)).trans ho⟩⟩
      refine wpIn_mono (hbody l m pre x a' Wb (by omega) (Array.getElem?_eq_some_iff.1 hRb).1 hib hab hp) ?_
      -- the round's end
      have fin : ∀ (jump : Option Code) (W3 : World), KeepsFrom w.heap.size Wb W3 →
          (Instr.endRound l jump).run P W3 = .ok (.bool jump.isNone) (W3.putObj l (.loop (rec (if jump.isNone then .ready else .done) jump))) ∧ W3.heap[l]? = some (.loop { rec .ready none with state := .busy }) ∧
          (W3.putObj l (.loop (rec (if jump.isNone then .ready else .done) jump))).heap[l]? = some (.loop (rec (if jump.isNone then .ready else .done) jump)) ∧
          (W3.putObj l (.loop (rec (if jump.isNone then .ready else .done) jump))).heap[w.heap.size]? = some (.deferred (some [])) ∧ KeepsFrom (l + 1) W (W3.putObj l (.loop (rec (if jump.isNone then .ready else .done) jump))) := fun jump W3 hk => by
        have h3 := hk.same _ _ (by omega) hRb rfl
        have := run_endRound (P := P) jump h3
        rw [hrec] at this ⊢
        refine ⟨this, by rw [hrec] at h3; exact h3, World.putObj_heap_same (Array.getElem?_eq_some_iff.1 h3).1, (World.putObj_heap_other (by omega)).trans (hk.same _ _ (Nat.le_refl _) hDb rfl), ?_⟩
        exact hKb.other.trans ⟨Nat.le_trans hk.size (by simp), fun k o hk2 ho hc => (World.putObj_heap_other (by omega)).trans (hk.same k o (by omega) ho hc)⟩
      have outs : ∀ (c : Code) (W3 : World), KeepsFrom w.heap.size Wb W3 ∧ Ix c (pre ++ [x]) W3 → ∃ v w', (Instr.endRound l (some c)).run P W3 = .ok v w' ∧
          ((Ending.returned v = .returned (.bool true) ∧ (I (pre ++ [x]) w' ∧ w'.heap[l]? = some (.loop (rec .ready none)) ∧ w'.heap[w.heap.size]? = some (.deferred (some []))) ∧ Kept3 n₀ (l + 1) tk W w') ∨
            (Ending.returned v = .returned (.bool false) ∧ (∃ c, Ix c (pre ++ [x]) w' ∧ w'.heap[l]? = some (.loop (rec .done (some c))) ∧ w'.heap[w.heap.size]? = some (.deferred (some []))) ∧ KeepsFrom (l + 1) W w')) := fun c W3 h => by
        obtain ⟨hr, h3, h4, h5, h6⟩ := fin (some c) W3 h.1
        exact ⟨_, _, hr, .inr ⟨rfl, ⟨c, (hIx c).put _ h.2 (by omega) h3 rfl, h4, h5⟩, h6⟩⟩
      rintro e a3 W3 hpo
      cases e with
      | normal =>
        obtain ⟨hk, hi3⟩ := hpo
        obtain ⟨hr, h3, h4, h5, h6⟩ := fin none W3 hk.other
        refine ⟨_, _, hr, .inl ⟨rfl, ⟨hI.put _ hi3 (by omega) h3 rfl, h4, h5⟩, ?_⟩⟩
        refine hKb.trans ((hk.mono (Nat.le_refl _) (by omega) (fun _ h => h)).trans ?_)
        exact ⟨(Below.refl n₀ W3).grown (grownBy_putObj' W3 l _) (by have := hk.other.size; have := (Array.getElem?_eq_some_iff.1 hDb).1; omega) (fun k e => by cases e; omega),
          fun k cur t p _ hk2 => (World.putObj_heap_other (fun e => by subst e; rw [h3] at hk2; cases hk2)).trans hk2,
          ⟨by simp, fun k o hk2 ho _ => (World.putObj_heap_other (by omega)).trans ho⟩⟩
      | ret => exact outs .ret W3 hpo
      | exit id => exact outs (.exit id) W3 hpo
      | goto t => exact outs (.goto t) W3 hpo
      | panic ch => exact hpo.elim
      | outgrown => exact hpo.elim
    · -- behind the iterator
      rintro e W2 ⟨⟨v, rfl⟩, (⟨hi, hR, hD⟩ | ⟨pre, x, hp, c, hi, hR, hD⟩)⟩
      · refine ⟨none, _, by have := run_endLoop (P := P) hR (by rw [hrec]; simp); rw [hrec] at this; exact this, ?_⟩
        exact hdone _ _ (Nat.le_refl _) (hI.put _ hi (by omega) hR rfl) ((World.putObj_heap_other (by omega)).trans hD)
      · refine ⟨some c, _, by have := run_endLoop (P := P) hR (by rw [hrec]; simp); rw [hrec] at this; exact this, ?_⟩
        exact hstop _ c pre x _ (Nat.le_refl _) hp ((hIx c).put _ hi (by omega) hR rfl) ((World.putObj_heap_other (by omega)).trans hD)
end
end Go.Proofs.YthnppodnjokaoaaDoor
namespace Go.Proofs.YthnppodnjokaoaaDoor
open Go.RowKit Go.Shelf

attribute [local go_sem] Oper.semAt_some

theorem backward_any (a : Option Addr) (len cap : Nat) (w : World) :
    Calls Tryd.prog 105 #[.slice a len cap] w fun e w' => e = .returned (.func (.func 115) #[] #[.pointer (some ⟨w.heap.size, 0, none⟩)]) ∧ w' = w.alloc (.cells #[.slice a len cap] 25) := by
  go_enter Tryd.func105, Tryd.ntmps105
  go_wp2
  go_ret
  exact ⟨rfl, rfl⟩

/-- The numbers with their places, from the last one on. -/
def backs (zs : List Int) : List (Int × Nat) := zs.zipIdx.reverse
theorem backs_length (zs : List Int) : (backs zs).length = zs.length := by simp [backs]
theorem backs_get {zs : List Int} {k : Nat} (h : k < zs.length) (h' : k < (backs zs).length) : (backs zs)[k] = (zs[zs.length - 1 - k], zs.length - 1 - k) := by
  simp [backs, List.getElem_reverse]
theorem prefix_step {α : Type} {xs : List α} {k : Nat} (h : k < xs.length) : xs.take k ++ [xs[k]] <+: xs := by
  rw [← List.take_succ_eq_append_getElem h]; exact List.take_prefix _ _
theorem yield_in {P : Program} {m l : Nat} {args : Array Value} {W : World} {R : Ending → World → Prop} (l' : Nat) (h : YieldAt Fence.wide m P l args W R) : YieldAt (Fence.wide.inRound l') m P l args W R := h
theorem calls_in {P : Program} {f : FuncId} {args : Array Value} {w : World} {R : Ending → World → Prop} (n l : Nat) (h : Calls P f args w R) : CallsIn (Fence.wide.inRound l) n P f args w R := callsIn_wide.2 h

set_option maxRecDepth 100000 in
set_option maxHeartbeats 2000000 in
theorem backward_seq (Bs n₀ b off cap : Nat) (a : Option Addr) (zs : List Int) (hreach : zs.length ≤ 1048576) (w : World) (hB : w.heap[Bs]? = some (.cells #[.slice a zs.length cap] 25)) (hn : n₀ ≤ w.heap.size)
    (hb : zs = [] ∨ (a = some ⟨b, off, none⟩ ∧ b < n₀ ∧ ∀ j (hj : j < zs.length), w.cell? ⟨b, off + j, none⟩ = some (.int .i64 zs[j]))) :
    SeqT Tryd.prog 115 #[.pointer (some ⟨Bs, 0, none⟩)] (fun x : Int × Nat => #[.int .i64 (x.2 : Int), .int .i64 x.1]) (backs zs) (fun _ => False) (fun t => t = 25) n₀ w := by
  intro n l J Jx W hW hl hJ hJx hY h0
  refine callsIn_of_wp Tryd.func115 rfl trivial ?_ rfl
  simp only [Tryd.ntmps115, List.size_toArray, List.length_cons, List.length_nil, Nat.reduceAdd, Nat.reduceSub, Array.replicate_succ, Array.replicate_zero, List.push_toArray, List.append_toArray, List.nil_append, List.cons_append]
  have hB1 : W.heap[Bs]? = some (.cells #[.slice a zs.length cap] 25) := (hW.block Bs (Array.getElem?_eq_some_iff.1 hB).1).trans hB
  have q1 : W.cell? ⟨Bs, 0, none⟩ = some (.slice a zs.length cap) := by simp [World.cell?, hB1]
  have hc1 : ∀ j (hj : j < zs.length), ∃ b off, a = some ⟨b, off, none⟩ ∧ b < n₀ ∧ W.cell? ⟨b, off + j, none⟩ = some (.int .i64 zs[j]) := fun j hj => by
    rcases hb with e | ⟨e, hb2, hc⟩
    · rw [e] at hj; simp at hj
    · exact ⟨b, off, e, hb2, (hW.cell (p := ⟨b, off + j, none⟩) (by simp; omega)).trans (hc j hj)⟩
  have HC : Hid (∀ j (hj : j < zs.length), ∃ b off, a = some ⟨b, off, none⟩ ∧ b < n₀ ∧ W.cell? ⟨b, off + j, none⟩ = some (.int .i64 zs[j])) := hc1
  have HY : Hid (∀ (m : Nat) (pre : List (Int × Nat)) (x : Int × Nat) (W1 : World), J pre W1 → pre ++ [x] <+: backs zs → YieldAt Fence.wide m Tryd.prog l #[.int .i64 (x.2 : Int), .int .i64 x.1] W1 fun e W' =>
      (e = .returned (.bool true) ∧ J (pre ++ [x]) W' ∧ Kept3 n₀ (l + 1) (fun t => t = 25) W1 W') ∨ (e = .returned (.bool false) ∧ Jx (pre ++ [x]) W' ∧ KeepsFrom (l + 1) W1 W')) := hY
  clear hb hc1 hY hJ hJx hB
  gi_wp2
  gi_loopw [3] (fun i wr => ∃ k : Nat, k ≤ zs.length ∧ i = .int .i64 ((zs.length : Int) - 1 - k) ∧ J ((backs zs).take k) wr ∧ wr.heap[Bs]? = some (.cells #[.slice a zs.length cap] 25) ∧ Below n₀ W wr) (fun i _ => (intOf i + 1).toNat)
  case atStart => exact ⟨0, Nat.zero_le _, by simp, h0, hB1, Below.refl _ _⟩
  case round =>
    obtain ⟨k, hk, rfl, hJs, hBr, hnx⟩ := hrel
    by_cases hlt : k < zs.length
    · have hkb : k < (backs zs).length := by rw [backs_length]; exact hlt
      obtain ⟨b, off, rfl, hb, hcc⟩ := HC.out (zs.length - 1 - k) (by omega)
      have q := (hnx.cell (p := ⟨b, off + (zs.length - 1 - k), none⟩) hb).trans hcc
      have q2 : wr.cell? ⟨Bs, 0, none⟩ = some (.slice (some ⟨b, off, none⟩) zs.length cap) := by simp [World.cell?, hBr]
      have HT : Hid ((backs zs).take (k + 1) = (backs zs).take k ++ [(zs[zs.length - 1 - k], zs.length - 1 - k)]) := by
        show _ = _
        rw [List.take_succ_eq_append_getElem hkb, backs_get hlt hkb]
      have hy := HY.out (n - 1) ((backs zs).take k) (zs[zs.length - 1 - k], zs.length - 1 - k) wr hJs (by rw [← HT.out]; exact List.take_prefix _ _)
      rw [← HT.out] at hy
      obtain ⟨fn, tmps, assign, body, hy, hR⟩ := hy
      obtain ⟨d, hd⟩ : ∃ d : Nat, Hid (zs.length - 1 - k = d) := ⟨_, rfl⟩
      have hdi : (zs.length : Int) - 1 - k = d := by have := hd.out; omega
      have hdl : d < zs.length := by have := hd.out; omega
      simp only [hd.out] at hy q hR
      rw [hdi]
      clear hcc
      gi_wp2
      refine ⟨fun h => by simp [Fence.wide] at h, hR.mono ?_⟩
      rintro e W3 (⟨rfl, hJ3, hk3⟩ | ⟨rfl, hJx3, hk3⟩)
      · gi_wp2
        go_roundw
        case rel => exact ⟨k + 1, by omega, by have := hd.out; simp; omega, hJ3, hk3.typed _ _ _ _ rfl hBr, hnx.trans hk3.below⟩
        case measure => simp [intOf]
      · gi_wp2
        refine bodyPost_ret (results_none rfl _ _ _) rfl ?_
        refine ⟨⟨_, rfl⟩, .inr ⟨(backs zs).take k, (zs[zs.length - 1 - k], zs.length - 1 - k), ?_, ?_⟩⟩
        · rw [← HT.out]; exact List.take_prefix _ _
        · rw [← HT.out]; exact hJx3
    · have e : k = zs.length := by omega
      have HJ : Hid (J (backs zs) wr) := by
        rw [List.take_of_length_le (by rw [backs_length]; omega)] at hJs
        exact hJs
      subst e
      gi_wp2
      go_end0
      exact ⟨⟨_, rfl⟩, .inl HJ.out⟩
end Go.Proofs.YthnppodnjokaoaaDoor
