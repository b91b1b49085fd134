/-
  Data with depth: a cell that holds a slice, whose cells hold slices again. What such a value reads as; such a value that the call itself has made, with the blocks it lies in; what stores, later calls and moves of others leave of it. Plain laws over any program. No statement is proved here.
-/
import Derived.Test.YthnppodnjokaoabOwnT
namespace Go.Proofs.Ythnppodnjokaoab
open Go.RowKit

/-- What a cell holds, read through: a plain value, or a slice of n elements, whose cells are told one behind the other. -/
inductive Dat where
  | val (v : Value)
  | sl (n : Nat) (cs : List Dat)

section flat
variable {α β : Type} {f : α → List β} {sz : Nat}
theorem flat_length (hf : ∀ x, (f x).length = sz) (xs : List α) : (xs.flatMap f).length = xs.length * sz := by
  induction xs with
  | nil => simp
  | cons x xs ih => rw [List.flatMap_cons, List.length_append, ih, hf, List.length_cons, Nat.add_mul]; omega
theorem flat_split {xs : List α} {i : Nat} (h : i < xs.length) : xs.flatMap f = (xs.take i).flatMap f ++ (f xs[i] ++ (xs.drop (i + 1)).flatMap f) := by
  conv => lhs; rw [← List.take_append_drop i xs, List.drop_eq_getElem_cons h]
  rw [List.flatMap_append]; rfl
theorem flat_get (hf : ∀ x, (f x).length = sz) {xs : List α} {i : Nat} (h : i < xs.length) {j : Nat} (hj : j < sz) : (xs.flatMap f)[i * sz + j]? = (f xs[i])[j]? := by
  have hl : ((xs.take i).flatMap f).length = i * sz := by rw [flat_length hf, List.length_take, Nat.min_eq_left (by omega)]
  rw [flat_split h, List.getElem?_append_right (by omega), hl, Nat.add_sub_cancel_left, List.getElem?_append_left (by rw [hf]; exact hj)]
theorem flat_set (hf : ∀ x, (f x).length = sz) {xs : List α} {i : Nat} (h : i < xs.length) {j : Nat} (hj : j < sz) (u : β) (x : α) (hx : f x = (f xs[i]).set j u) : (xs.flatMap f).set (i * sz + j) u = (xs.set i x).flatMap f := by
  have hl : ((xs.take i).flatMap f).length = i * sz := by rw [flat_length hf, List.length_take, Nat.min_eq_left (by omega)]
  have hs : (xs.set i x) = xs.take i ++ x :: xs.drop (i + 1) := by rw [List.set_eq_take_append_cons_drop, if_pos h]
  rw [flat_split h, List.set_append_right _ _ (by omega), hl, Nat.add_sub_cancel_left, List.set_append_left _ _ (by rw [hf]; exact hj), ← hx, hs, List.flatMap_append]
  rfl
theorem at_lt {xs : List α} {i j : Nat} (hi : i < xs.length) (hj : j < sz) : i * sz + j < xs.length * sz := by
  have h1 : (i + 1) * sz ≤ xs.length * sz := Nat.mul_le_mul_right _ hi
  rw [Nat.add_mul] at h1; omega
end flat

/-- The value v reads as the datum d. -/
inductive RD (w : World) : Value → Dat → Prop where
  | val (v : Value) : RD w v (.val v)
  | empty (a : Option Addr) (c : Nat) : RD w (.slice a 0 c) (.sl 0 [])
  | row (b off n c : Nat) (cs : List Dat) (vs : List Value) (hnc : n ≤ c) (hb : b < w.heap.size) (hl : vs.length = cs.length) (hc : ∀ i, i < vs.length → w.cell? ⟨b, off + i, none⟩ = vs[i]?)
      (hr : ∀ i (h : i < vs.length) (h' : i < cs.length), RD w vs[i] cs[i]) : RD w (.slice (some ⟨b, off, none⟩) n c) (.sl n cs)

theorem RD.later {w w' : World} {v : Value} {d : Dat} (h : RD w v d) (hb : Below w.heap.size w w') : RD w' v d := by
  induction h with
  | val v => exact .val v
  | empty a c => exact .empty a c
  | row b off n c cs vs hnc hb0 hl hc _ ih => exact .row b off n c cs vs hnc (Nat.lt_of_lt_of_le hb0 hb.size) hl (fun i hi => (hb.cell (p := ⟨b, off + i, none⟩) hb0).trans (hc i hi)) ih

theorem RD.val_eq {w : World} {v u : Value} (h : RD w v (.val u)) : v = u := by cases h; rfl

/-- What a slice that is read through holds at place i. -/
theorem RD.at {w : World} {a : Option Addr} {n m c : Nat} {cs : List Dat} (h : RD w (.slice a n c) (.sl m cs)) {i : Nat} (hi : i < cs.length) :
    n = m ∧ ∃ b off, a = some ⟨b, off, none⟩ ∧ b < w.heap.size ∧ ∃ u, w.cell? ⟨b, off + i, none⟩ = some u ∧ RD w u cs[i] := by
  cases h with
  | empty => simp at hi
  | row b off n c cs vs _ hb hl hc hr =>
    have hv : i < vs.length := by omega
    refine ⟨rfl, b, off, rfl, hb, vs[i], ?_, hr i hv hi⟩
    rw [hc i hv, List.getElem?_eq_getElem hv]
theorem RD.len {w : World} {a : Option Addr} {n m c : Nat} {cs : List Dat} (h : RD w (.slice a n c) (.sl m cs)) : n = m := by
  cases h <;> rfl
theorem RD.cap {w : World} {a : Option Addr} {n m c : Nat} {cs : List Dat} (h : RD w (.slice a n c) (.sl m cs)) : n ≤ c := by
  cases h with
  | empty => exact Nat.zero_le _
  | row b off n c cs vs hnc => exact hnc
theorem RD.slice {w : World} {v : Value} {m : Nat} {cs : List Dat} (h : RD w v (.sl m cs)) : ∃ a c, v = .slice a m c := by
  cases h with
  | empty a c => exact ⟨a, c, rfl⟩
  | row b off n c cs vs => exact ⟨_, c, rfl⟩

/-- Nothing old but the blocks in S has turned. -/
structure Within (w w' : World) (S : Nat → Prop) : Prop where
  os : w'.os = w.os
  tape : w'.tape = w.tape
  output : w'.output = w.output
  size : w.heap.size ≤ w'.heap.size
  block : ∀ k, k < w.heap.size → ¬ S k → w'.heap[k]? = w.heap[k]?

theorem Within.refl (w : World) (S : Nat → Prop) : Within w w S := ⟨rfl, rfl, rfl, Nat.le_refl _, fun _ _ _ => rfl⟩
theorem Within.trans {w1 w2 w3 : World} {S : Nat → Prop} (h : Within w1 w2 S) (g : Within w2 w3 S) : Within w1 w3 S :=
  ⟨g.os.trans h.os, g.tape.trans h.tape, g.output.trans h.output, Nat.le_trans h.size g.size, fun k hk hn => (g.block k (Nat.lt_of_lt_of_le hk h.size) hn).trans (h.block k hk hn)⟩
theorem Within.mono {w w' : World} {S T : Nat → Prop} (h : Within w w' S) (hs : ∀ k, S k → T k) : Within w w' T :=
  ⟨h.os, h.tape, h.output, h.size, fun k hk hn => h.block k hk (fun hs' => hn (hs k hs'))⟩
theorem Within.of_below {w w' : World} (h : Below w.heap.size w w') (S : Nat → Prop) : Within w w' S := ⟨h.os, h.tape, h.output, h.size, fun k hk _ => h.block k hk⟩
theorem Within.of_grown {w w' : World} {row : Option Nat} {S : Nat → Prop} (h : w.grownBy w' row) (hs : ∀ k, row = some k → S k) : Within w w' S :=
  ⟨h.os, h.tape, h.output, h.size, fun k hk hn => h.block k hk (fun e => hn (hs k e.symm))⟩
theorem Within.below {w0 w w' : World} {S : Nat → Prop} (h : Within w w' S) (hb : Below w0.heap.size w0 w) (hs : ∀ k, S k → w0.heap.size ≤ k) : Below w0.heap.size w0 w' :=
  ⟨h.os.trans hb.os, h.tape.trans hb.tape, h.output.trans hb.output, Nat.le_trans hb.size h.size, fun k hk => (h.block k (Nat.lt_of_lt_of_le hk hb.size) (fun hk2 => by have := hs k hk2; omega)).trans (hb.block k hk)⟩
theorem Within.drewN {w w' : World} {S : Nat → Prop} (h : Within w w' S) (n : Nat) : Within w (w'.drewN n) S := ⟨h.os, h.tape, h.output, h.size, h.block⟩
theorem Within.drew {w w' : World} {S : Nat → Prop} (h : Within w w' S) : Within w w'.drew S := ⟨h.os, h.tape, h.output, h.size, h.block⟩

theorem Within.setCell {w w' : World} {S : Nat → Prop} (h : Within w w' S) (p : Addr) (v : Value) (hp : S p.block) : Within w (w'.setCell p v) S :=
  h.trans ⟨rfl, rfl, rfl, by simp, fun k _ hn => Below.heap_setCell w' p v k (fun e => hn (e ▸ hp))⟩

/-- The value v, all of it made by the call (in the blocks S, from base on, no block twice), holds the datum d. -/
inductive OD (w : World) (base : Nat) : Value → Dat → (Nat → Prop) → Prop where
  | val (v : Value) : OD w base v (.val v) (fun _ => False)
  | nil (n : Nat) (h0 : n = 0) : OD w base (.slice none 0 0) (.sl n []) (fun _ => False)
  | row (e : TypeId) (sz g n c : Nat) (cs : List Dat) (vs : List Value) (F : Nat → Nat → Prop) (S : Nat → Prop) (ho : w.ownsRow base e sz (.slice (some ⟨g, 0, none⟩) n c) n vs) (hl : vs.length = cs.length)
      (hr : ∀ i (h : i < vs.length) (h' : i < cs.length), OD w base vs[i] cs[i] (F i)) (hd : ∀ i j k, i < vs.length → j < vs.length → i ≠ j → F i k → ¬ F j k) (hg : ∀ i, i < vs.length → ¬ F i g)
      (hS : ∀ k, S k ↔ k = g ∨ ∃ i, i < vs.length ∧ F i k) : OD w base (.slice (some ⟨g, 0, none⟩) n c) (.sl n cs) S

theorem OD.lt {w : World} {base : Nat} {v : Value} {d : Dat} {S : Nat → Prop} (h : OD w base v d S) : ∀ k, S k → base ≤ k ∧ k < w.heap.size := by
  induction h with
  | val v => exact fun k hk => hk.elim
  | nil n h0 => exact fun k hk => hk.elim
  | row e sz g n c cs vs F S ho hl _ hd hg hS ih =>
    intro k hk
    rcases (hS k).1 hk with rfl | ⟨i, hi, hik⟩
    · exact ho.lt k rfl
    · exact ih i hi (by omega) k hik

theorem OD.room {w : World} {base : Nat} {e : TypeId} {sz g n c : Nat} {vs : List Value} (ho : w.ownsRow base e sz (.slice (some ⟨g, 0, none⟩) n c) n vs) : n ≤ c := by
  rcases ho.2 with ⟨h, _⟩ | ⟨g', cap, cur, hv, _, _, hnc, _⟩
  · cases h
  · cases hv; exact hnc
theorem OD.rd {w : World} {base : Nat} {v : Value} {d : Dat} {S : Nat → Prop} (h : OD w base v d S) : RD w v d := by
  induction h with
  | val v => exact .val v
  | nil n h0 => subst h0; exact .empty none 0
  | row e sz g n c cs vs F S ho hl _ hd hg hS ih =>
    refine .row g 0 n c cs vs (OD.room ho) (ho.lt g rfl).2 hl (fun i hi => ?_) ih
    rw [Nat.zero_add]
    exact World.ownsRow.cellAt (g := g) (cap := c) ho i (by rw [← ho.1]; exact hi)

theorem ownsRow_within {w w' : World} {base : Nat} {e : TypeId} {size : Nat} {v : Value} {n : Nat} {xs : List Value} {S : Nat → Prop} (h : w.ownsRow base e size v n xs) (hw : Within w w' S) (hn : ∀ k, v.ownBlock = some k → ¬ S k) : w'.ownsRow base e size v n xs := by
  refine ⟨h.1, ?_⟩
  rcases h.2 with hx | ⟨g, cap, cur, rfl, hb, hg, r⟩
  · exact .inl hx
  · exact .inr ⟨g, cap, cur, rfl, hb, (hw.block g (Array.getElem?_eq_some_iff.1 hg).1 (hn g rfl)).trans hg, r⟩

theorem OD.kept {w w' : World} {base : Nat} {v : Value} {d : Dat} {S T : Nat → Prop} (h : OD w base v d S) (hw : Within w w' T) (hn : ∀ k, S k → ¬ T k) : OD w' base v d S := by
  induction h with
  | val v => exact .val v
  | nil n h0 => exact .nil n h0
  | row e sz g n c cs vs F S ho hl _ hd hg hS ih =>
    refine .row e sz g n c cs vs F S (ownsRow_within ho hw (fun k hk => ?_)) hl (fun i hi hi' => ih i hi hi' (fun k hk => hn k ((hS k).2 (.inr ⟨i, hi, hk⟩)))) hd hg hS
    have : k = g := by simpa [Value.ownBlock] using hk.symm
    exact hn k ((hS k).2 (.inl this))

theorem OD.later {w w' : World} {base : Nat} {v : Value} {d : Dat} {S : Nat → Prop} (h : OD w base v d S) (hb : Below w.heap.size w w') : OD w' base v d S :=
  h.kept (Within.of_below hb (fun _ => False)) (fun _ _ h => h)

theorem OD.base {w : World} {b b' : Nat} {v : Value} {d : Dat} {S : Nat → Prop} (h : OD w b v d S) (hb : b' ≤ b) : OD w b' v d S := by
  induction h with
  | val v => exact .val v
  | nil n h0 => exact .nil n h0
  | row e sz g n c cs vs F S ho hl _ hd hg hS ih =>
    refine .row e sz g n c cs vs F S ⟨ho.1, ?_⟩ hl ih hd hg hS
    rcases ho.2 with hx | ⟨g, cap, cur, hv, h3, r⟩
    · exact .inl hx
    · exact .inr ⟨g, cap, cur, hv, Nat.le_trans hb h3, r⟩

/-- A cell of an own row, and what lies behind it. -/
theorem OD.at {w : World} {base : Nat} {a : Option Addr} {n m c : Nat} {cs : List Dat} {S : Nat → Prop} (h : OD w base (.slice a n c) (.sl m cs) S) {i : Nat} (hi : i < cs.length) :
    n = m ∧ ∃ g, a = some ⟨g, 0, none⟩ ∧ S g ∧ ∃ u T, w.cell? ⟨g, i, none⟩ = some u ∧ w.frozen? ⟨g, i, none⟩ = false ∧ OD w base u cs[i] T ∧ (∀ k, T k → S k) ∧ ¬ T g := by
  cases h with
  | nil => simp at hi
  | row e sz g n c cs vs F S ho hl hr hd hg hS =>
    have hv : i < vs.length := by omega
    refine ⟨rfl, g, rfl, (hS g).2 (.inl rfl), vs[i], F i, ?_, World.ownsRow.frozenAt (g := g) (cap := c) ho i, hr i hv hi, fun k hk => (hS k).2 (.inr ⟨i, hv, hk⟩), hg i hv⟩
    rw [World.ownsRow.cellAt (g := g) (cap := c) ho i (by rw [← ho.1]; exact hv), List.getElem?_eq_getElem hv]

theorem OD.plain {w : World} {base : Nat} {v : Value} {d : Dat} {S : Nat → Prop} (h : OD w base v d S) (u : Value) (e : d = .val u) : ∀ k, ¬ S k := by
  cases h with
  | val v => exact fun k hk => hk
  | nil n h0 => cases e
  | row => cases e

/-- A plain value stored into a cell that held one. -/
theorem OD.store {w : World} {base g : Nat} {n m c : Nat} {cs : List Dat} {S : Nat → Prop} (h : OD w base (.slice (some ⟨g, 0, none⟩) n c) (.sl m cs) S) {i : Nat} (hi : i < cs.length) (u0 u : Value) (hp : cs[i] = .val u0) :
    OD (w.setCell ⟨g, i, none⟩ u) base (.slice (some ⟨g, 0, none⟩) n c) (.sl m (cs.set i (.val u))) S ∧ Within w (w.setCell ⟨g, i, none⟩ u) S := by
  cases h with
  | row e sz _ n _ cs vs F S ho hl hr hd hg hS =>
    obtain ⟨s1, s2⟩ := World.ownsRow.stored (g := g) (cap := c) ho i u
    have hW : Within w (w.setCell ⟨g, i, none⟩ u) (fun k => k = g) := Within.of_grown s2 (fun k hk => by simpa using hk.symm)
    refine ⟨.row e sz g n c _ (vs.set i u) (fun j => if j = i then (fun _ => False) else F j) S s1 (by simpa using hl) ?_ ?_ ?_ ?_, hW.mono (fun k hk => (hS k).2 (.inl hk))⟩
    · intro j hj hj'
      have hjv : j < vs.length := by simpa using hj
      have hjc : j < cs.length := by simpa using hj'
      by_cases e1 : j = i
      · subst e1
        simp only [if_true, List.getElem_set_self]
        exact .val u
      · simp only [if_neg e1]
        rw [List.getElem_set_ne (by omega), List.getElem_set_ne (by omega)]
        exact (hr j hjv hjc).kept hW (fun k hk e2 => hg j hjv (e2 ▸ hk))
    · intro j l k hj hl2 hne h1 h2
      have hj' : j < vs.length := by simpa using hj
      have hl' : l < vs.length := by simpa using hl2
      by_cases e1 : j = i
      · simp [e1] at h1
      · by_cases e2 : l = i
        · simp [e2] at h2
        · simp only [if_neg e1] at h1
          simp only [if_neg e2] at h2
          exact hd j l k hj' hl' hne h1 h2
    · intro j hj h1
      have hj' : j < vs.length := by simpa using hj
      by_cases e1 : j = i
      · simp [e1] at h1
      · simp only [if_neg e1] at h1
        exact hg j hj' h1
    · intro k
      rw [hS k]
      have hv : i < vs.length := by omega
      have hF : ∀ k, ¬ F i k := by
        exact (hr i hv hi).plain u0 hp
      refine ⟨fun h => h.imp id (fun ⟨j, hj, hjk⟩ => ⟨j, by simpa using hj, ?_⟩), fun h => h.imp id (fun ⟨j, hj, hjk⟩ => ⟨j, by simpa using hj, ?_⟩)⟩
      · have : j ≠ i := fun e => hF k (e ▸ hjk)
        simpa [this] using hjk
      · by_cases e1 : j = i
        · simp [e1] at hjk
        · simpa [e1] using hjk

/-- What lies behind a cell of an own row, and how the whole is put together again when that alone has turned. -/
theorem OD.into {w : World} {base g : Nat} {n m c : Nat} {cs : List Dat} {S : Nat → Prop} (h : OD w base (.slice (some ⟨g, 0, none⟩) n c) (.sl m cs) S) {i : Nat} (hi : i < cs.length) :
    ∃ u T, w.cell? ⟨g, i, none⟩ = some u ∧ OD w base u cs[i] T ∧ (∀ k, T k → S k) ∧ ¬ T g ∧
      ∀ w' d, OD w' base u d T → Within w w' T → OD w' base (.slice (some ⟨g, 0, none⟩) n c) (.sl m (cs.set i d)) S := by
  cases h with
  | row e sz _ n _ cs vs F S ho hl hr hd hg hS =>
    have hv : i < vs.length := by omega
    refine ⟨vs[i], F i, ?_, hr i hv hi, fun k hk => (hS k).2 (.inr ⟨i, hv, hk⟩), hg i hv, ?_⟩
    · rw [World.ownsRow.cellAt (g := g) (cap := c) ho i (by rw [← ho.1]; exact hv), List.getElem?_eq_getElem hv]
    · intro w' d h' hw
      refine .row e sz g n c _ vs F S (ownsRow_within ho hw (fun k hk => ?_)) (by simpa using hl) ?_ hd hg hS
      · have : k = g := by simpa [Value.ownBlock] using hk.symm
        rw [this]; exact hg i hv
      · intro j hj hj'
        have hjc : j < cs.length := by simpa using hj'
        by_cases e1 : j = i
        · subst e1
          rw [List.getElem_set_self]; exact h'
        · rw [List.getElem_set_ne (by omega)]
          exact (hr j hj hjc).kept hw (fun k hk hk2 => hd j i k hj hv e1 hk hk2)

section elems
variable {α : Type} {f : α → List Dat} {sz : Nat}
theorem flat_at (hf : ∀ x, (f x).length = sz) {xs : List α} {i j : Nat} (hi : i < xs.length) (hj : j < sz) (h' : i * sz + j < (xs.flatMap f).length) (h'' : j < (f xs[i]).length) : (xs.flatMap f)[i * sz + j]'h' = (f xs[i])[j]'h'' := by
  have := flat_get hf hi hj
  rw [List.getElem?_eq_getElem h', List.getElem?_eq_getElem h''] at this
  exact Option.some.inj this
theorem flat_lt (hf : ∀ x, (f x).length = sz) {xs : List α} {i j : Nat} (hi : i < xs.length) (hj : j < sz) : i * sz + j < (xs.flatMap f).length := by
  rw [flat_length hf]; exact at_lt hi hj

/-- Cell j of element i of a slice that is read. -/
theorem RD.elem (hf : ∀ x, (f x).length = sz) {w : World} {a : Option Addr} {n c : Nat} {xs : List α} (h : RD w (.slice a n c) (.sl xs.length (xs.flatMap f))) {i : Nat} (hi : i < xs.length) {j : Nat} (hj : j < sz) (h'' : j < (f xs[i]).length) :
    ∃ b off, a = some ⟨b, off, none⟩ ∧ b < w.heap.size ∧ ∃ u, w.cell? ⟨b, off + (i * sz + j), none⟩ = some u ∧ RD w u ((f xs[i])[j]'h'') := by
  have l := flat_lt hf hi hj
  obtain ⟨_, b, off, rfl, hb, u, c0, r0⟩ := RD.at h l
  rw [flat_at hf hi hj l h''] at r0
  exact ⟨b, off, rfl, hb, u, c0, r0⟩

/-- A plain value stored into cell j of element i of an own slice. -/
theorem OD.elemStore (hf : ∀ x, (f x).length = sz) {w : World} {base g n c : Nat} {L : List α} {S : Nat → Prop} (h : OD w base (.slice (some ⟨g, 0, none⟩) n c) (.sl L.length (L.flatMap f)) S) {i : Nat} (hi : i < L.length) {j : Nat} (hj : j < sz)
    (u0 u : Value) (h'' : j < (f L[i]).length) (hp : (f L[i])[j]'h'' = .val u0) (x : α) (hx : f x = (f L[i]).set j (.val u)) :
    OD (w.setCell ⟨g, i * sz + j, none⟩ u) base (.slice (some ⟨g, 0, none⟩) n c) (.sl (L.set i x).length ((L.set i x).flatMap f)) S ∧ Within w (w.setCell ⟨g, i * sz + j, none⟩ u) S ∧ (∃ z, w.cell? ⟨g, i * sz + j, none⟩ = some z) ∧ w.frozen? ⟨g, i * sz + j, none⟩ = false := by
  have l := flat_lt hf hi hj
  obtain ⟨s1, s2⟩ := OD.store h l u0 u ((flat_at hf hi hj l h'').trans hp)
  obtain ⟨_, g', hg', _, z, T, hc, hfz, _⟩ := OD.at h l
  cases hg'
  rw [flat_set hf hi hj _ x hx] at s1
  refine ⟨?_, s2, ⟨z, hc⟩, hfz⟩
  rw [List.length_set]; exact s1

/-- What lies behind cell j of element i of an own slice. -/
theorem OD.elemInto (hf : ∀ x, (f x).length = sz) {w : World} {base g n c : Nat} {L : List α} {S : Nat → Prop} (h : OD w base (.slice (some ⟨g, 0, none⟩) n c) (.sl L.length (L.flatMap f)) S) {i : Nat} (hi : i < L.length) {j : Nat} (hj : j < sz) (h'' : j < (f L[i]).length) :
    ∃ u T, w.cell? ⟨g, i * sz + j, none⟩ = some u ∧ OD w base u ((f L[i])[j]'h'') T ∧ (∀ k, T k → S k) ∧ ¬ T g ∧
      ∀ w' d x, f x = (f L[i]).set j d → OD w' base u d T → Within w w' T → OD w' base (.slice (some ⟨g, 0, none⟩) n c) (.sl (L.set i x).length ((L.set i x).flatMap f)) S := by
  have l := flat_lt hf hi hj
  obtain ⟨u, T, hc, ho, hT, hg, hput⟩ := OD.into h l
  rw [flat_at hf hi hj l h''] at ho
  refine ⟨u, T, hc, ho, hT, hg, fun w' d x hx h' hw => ?_⟩
  have := hput w' d h' hw
  rw [flat_set hf hi hj _ x hx] at this
  rw [List.length_set]; exact this

theorem OD.elemShape {w : World} {base : Nat} {v : Value} {L : List α} {S : Nat → Prop} (hf : ∀ x, (f x).length = sz) (hz : 0 < sz) (h : OD w base v (.sl L.length (L.flatMap f)) S) : ∃ a c, v = .slice a L.length c ∧ (L ≠ [] → ∃ g, a = some ⟨g, 0, none⟩) := by
  obtain ⟨a, c, rfl⟩ := RD.slice (m := L.length) h.rd
  refine ⟨a, c, rfl, fun hne => ?_⟩
  have hpos : 0 < L.length := List.length_pos_iff.2 hne
  obtain ⟨_, g, hg, _⟩ := OD.at h (flat_lt hf hpos hz)
  exact ⟨g, hg⟩
end elems
end Go.Proofs.Ythnppodnjokaoab
