/-
  A slice of integers that the call itself has made, and what append, a store and a later call leave of it: plain laws over any program. No statement is proved here.
-/
import Derived.Test.YthnppodnjokaoabBase
namespace Go.Proofs.Ythnppodnjokaoab
open Go.RowKit

/-- The slice value v, made by the call (in a block from base on, elements of type e), holds the integers xs. -/
def OwnInts (w : World) (base : Nat) (e : TypeId) (v : Value) (xs : List Int) : Prop := w.ownsRow base e 1 v xs.length (xs.map (Value.int .i64))

theorem OwnInts.nil (w : World) (base : Nat) (e : TypeId) : OwnInts w base e (.slice none 0 0) [] := World.ownsRow_nil w base e 1

theorem OwnInts.empty {w : World} {base : Nat} {e : TypeId} (h : base ≤ w.heap.size) : OwnInts (w.alloc (.cells #[] e)) base e (.slice (some ⟨w.heap.size, 0, none⟩) 0 0) [] :=
  World.ownsRow_made w #[] 0 h (by simp [maxLen]) (by simp)

theorem OwnInts.shape {w : World} {base : Nat} {e : TypeId} {v : Value} {xs : List Int} (h : OwnInts w base e v xs) :
    ∃ a cap, v = .slice a xs.length cap ∧ Reads w a xs ∧ (xs ≠ [] → ∃ g, a = some ⟨g, 0, none⟩) := by
  rcases h.2 with ⟨rfl, hn⟩ | ⟨g, cap, cur, rfl, hb, hg, hnc, hcm, hcs, htake⟩
  · have : xs = [] := List.eq_nil_of_length_eq_zero hn
    subst this
    exact ⟨none, 0, rfl, .inl rfl, fun h => absurd rfl h⟩
  · refine ⟨_, _, rfl, .inr ⟨g, 0, rfl, (Array.getElem?_eq_some_iff.1 hg).1, fun i hi => ?_⟩, fun _ => ⟨g, rfl⟩⟩
    have := World.ownsRow.cellAt (g := g) (cap := cap) h i (by simpa using hi)
    rw [Nat.zero_add, this]
    simp [hi]

theorem OwnInts.parts {w : World} {base : Nat} {e : TypeId} {v : Value} {xs : List Int} (h : OwnInts w base e v xs) :
    (v = .slice none 0 0 ∧ xs = []) ∨ ∃ g cap, v = .slice (some ⟨g, 0, none⟩) xs.length cap ∧ xs.length ≤ cap ∧ cap ≤ maxLen ∧ g < w.heap.size ∧ ∀ i, i < xs.length → w.cell? ⟨g, i, none⟩ = some (.int .i64 (xs.getD i 0)) := by
  rcases h.2 with ⟨rfl, hn⟩ | ⟨g, cap, cur, rfl, hb, hg, hnc, hcm, hcs, htake⟩
  · exact .inl ⟨rfl, List.eq_nil_of_length_eq_zero hn⟩
  · refine .inr ⟨g, cap, rfl, hnc, hcm, (Array.getElem?_eq_some_iff.1 hg).1, fun i hi => ?_⟩
    rw [World.ownsRow.cellAt (g := g) (cap := cap) h i (by simpa using hi)]
    simp [hi]

/-- The first numbers of a row. -/
theorem Reads.take {w : World} {a : Option Addr} {zs : List Int} (h : Reads w a zs) (k : Nat) : Reads w a (zs.take k) := by
  rcases h with rfl | ⟨b, off, rfl, hb, hc⟩
  · exact .inl (by simp)
  · refine .inr ⟨b, off, rfl, hb, fun i hi => ?_⟩
    simp only [List.length_take] at hi
    rw [hc i (by omega), getD_take (by omega)]

/-- The numbers of a row from k on, by whatever address, where there is none. -/
theorem Reads.drop {w : World} {g : Nat} {zs : List Int} (hb : g < w.heap.size) (hc : ∀ i, i < zs.length → w.cell? ⟨g, i, none⟩ = some (.int .i64 (zs.getD i 0))) {ad : Option Addr} {k : Nat}
    (h : k < zs.length → ad = some ⟨g, k, none⟩) : Reads w ad (zs.drop k) := by
  by_cases hk : k < zs.length
  · rw [h hk]
    refine .inr ⟨g, k, rfl, hb, fun i hi => ?_⟩
    simp only [List.length_drop] at hi
    rw [hc (k + i) (by omega)]
    simp [List.getD]
  · exact .inl (List.drop_eq_nil_of_le (by omega))

theorem Reads.new (w : World) (x : Int) (e : TypeId) : Reads (w.alloc (.cells #[.int .i64 x] e)) (some ⟨w.heap.size, 0, none⟩) [x] := by
  refine .inr ⟨w.heap.size, 0, rfl, by simp, fun i hi => ?_⟩
  have : i = 0 := by simpa using hi
  subst this
  simp

theorem OwnInts.reads {w : World} {base n cap : Nat} {a : Option Addr} {e : TypeId} {xs : List Int} (h : OwnInts w base e (.slice a n cap) xs) : Reads w a xs := by
  obtain ⟨a', c', he, hr, _⟩ := h.shape
  cases he
  exact hr

theorem OwnInts.lit3 {w : World} {base : Nat} {e : TypeId} (x y z : Int) (h : base ≤ w.heap.size) : OwnInts (w.alloc (.cells #[.int .i64 x, .int .i64 y, .int .i64 z] e)) base e (.slice (some ⟨w.heap.size, 0, none⟩) 3 3) [x, y, z] :=
  World.ownsRow_lit w #[.int .i64 x, .int .i64 y, .int .i64 z] 3 h (by simp [maxLen]) rfl

theorem OwnInts.kept {w w' : World} {base : Nat} {e : TypeId} {v : Value} {xs : List Int} {row : Option Nat} (h : OwnInts w base e v xs) (hg : w.grownBy w' row) (hne : v.ownBlock = none ∨ v.ownBlock ≠ row) : OwnInts w' base e v xs :=
  World.ownsRow.kept h hg hne

theorem grownBy_of_below {w w' : World} (hb : Below w.heap.size w w') (row : Option Nat) : w.grownBy w' row := ⟨hb.os, hb.tape, hb.output, hb.size, fun k hk _ => hb.block k hk⟩

theorem OwnInts.below {w w' : World} {base : Nat} {e : TypeId} {v : Value} {xs : List Int} (h : OwnInts w base e v xs) (hb : Below w.heap.size w w') : OwnInts w' base e v xs :=
  h.kept (grownBy_of_below hb none) (by cases v.ownBlock <;> simp)

theorem OwnInts.alloc {w : World} {base : Nat} {e : TypeId} {v : Value} {xs : List Int} (h : OwnInts w base e v xs) (o : Obj) : OwnInts (w.alloc o) base e v xs := World.ownsRow.alloc h o

theorem OwnInts.block {w : World} {base : Nat} {e : TypeId} {v : Value} {xs : List Int} (h : OwnInts w base e v xs) : ∀ k, v.ownBlock = some k → base ≤ k ∧ k < w.heap.size := World.ownsRow.lt h

theorem OwnInts.base {w : World} {b b' : Nat} {e : TypeId} {v : Value} {xs : List Int} (h : OwnInts w b e v xs) (hb : b' ≤ b) : OwnInts w b' e v xs := by
  refine ⟨h.1, ?_⟩
  rcases h.2 with h2 | ⟨g, cap, cur, rfl, h3, r⟩
  · exact .inl h2
  · exact .inr ⟨g, cap, cur, rfl, Nat.le_trans hb h3, r⟩

theorem OwnInts.past {w w1 w2 : World} {base : Nat} {e : TypeId} {v : Value} {xs : List Int} {row : Option Nat} (h : OwnInts w base e v xs) (hb : Below w.heap.size w w1) (hg : w1.grownBy w2 row) (hr : ∀ k, row = some k → w.heap.size ≤ k) : OwnInts w2 base e v xs :=
  h.below (hb.grown hg hb.size hr)

/-- What was made earlier lies elsewhere than what was made later. -/
theorem OwnInts.apart {w1 w2 : World} {b1 b2 : Nat} {e : TypeId} {v1 v2 : Value} {xs ys : List Int} (h1 : OwnInts w1 b1 e v1 xs) (h2 : OwnInts w2 b2 e v2 ys) (hb : w1.heap.size ≤ b2) :
    (v1.ownBlock = none ∨ v1.ownBlock ≠ v2.ownBlock) ∧ (v2.ownBlock = none ∨ v2.ownBlock ≠ v1.ownBlock) := by
  have g1 := h1.block
  have g2 := h2.block
  cases e1 : v1.ownBlock with
  | none => cases e2 : v2.ownBlock <;> simp
  | some k1 => cases e2 : v2.ownBlock with
    | none => simp
    | some k2 =>
      have a1 := g1 k1 e1
      have a2 := g2 k2 e2
      have : k1 ≠ k2 := by omega
      have : k2 ≠ k1 := by omega
      exact ⟨.inr (by simpa using ‹k1 ≠ k2›), .inr (by simpa using ‹k2 ≠ k1›)⟩

theorem OwnInts.of_row {w : World} {b base : Nat} {e : TypeId} {zs : List Int} (h : w.rowIs b e zs.length (fun i => .int .i64 (zs.getD i 0))) (hb : base ≤ b) (hm : zs.length ≤ maxLen) :
    OwnInts w base e (.slice (some ⟨b, 0, none⟩) zs.length zs.length) zs := by
  obtain ⟨c, hc, hn, hf⟩ := h
  refine ⟨by simp, .inr ⟨b, zs.length, c, rfl, hb, hc, Nat.le_refl _, hm, by simpa using hn, ?_⟩⟩
  apply List.ext_getElem?
  intro i
  rw [Nat.mul_one, List.getElem?_take]
  by_cases hi : i < zs.length
  · rw [if_pos hi]
    have := hf i hi
    simp only [Array.getElem?_toList, this]
    simp [hi]
  · rw [if_neg hi, List.getElem?_eq_none (by rw [List.length_map]; omega)]

section
variable {P : Program} (w : World)

theorem run_append_none (t ty e : TypeId) (i : TypeInfo) (ht : P.underlying t = some (.slice e)) (hi : P.info? e = some i) (base : Nat) (v : Value) (n : Nat) (xs : List Value) (c : Nat) (hown : w.ownsRow base e 1 v n xs) :
    (Builtin.append_ #[t, t] ty #[v, .slice none 0 c]).run P w = .ok v w := by
  rcases hown.2 with ⟨rfl, rfl⟩ | ⟨g, cap, cur, rfl, _, _, hnc, _⟩
  · simp [Builtin.append_, run_underlying ht, sizeOf, typeInfo, hi, Builtin.lenOf, Builtin.firstCells]
  · simp [Builtin.append_, run_underlying ht, sizeOf, typeInfo, hi, Builtin.lenOf, Builtin.firstCells, hnc, storeCells]

theorem run_append_ints (base : Nat) (t ty e : TypeId) (ht : P.underlying t = some (.slice e)) (hinfo : (P.info? e).map (fun i => (i.zero, i.size, i.bytes)) = some (some (.int .i64 0), 1, 8))
    (v : Value) (xs : List Int) (hown : OwnInts w base e v xs) (ad : Option Addr) (c : Nat) (news : List Int) (hnews : Reads w ad news) (hlen : xs.length + news.length ≤ 1099511627776) (hbase : base ≤ w.heap.size) :
    ∃ v' w', (Builtin.append_ #[t, t] ty #[v, .slice ad news.length c]).run P w = .ok v' w' ∧ OwnInts w' base e v' (xs ++ news) ∧ w.grownBy w' v.ownBlock := by
  obtain ⟨i, hi, hz0, hz1, hz2⟩ := info_parts hinfo
  rcases hnews with rfl | ⟨b, off, rfl, hb, hc⟩
  · cases ad with
    | none => exact ⟨v, w, run_append_none w t ty e i ht hi base v _ _ c hown, by simpa using hown, World.grownBy.refl _ _⟩
    | some ad =>
      obtain ⟨v', w', h1, h2, h3, _⟩ := run_append_own (P := P) w base t ty e i (.int .i64 0) 1 8 ht hi hz0 hz1 hz2 rfl (by decide) v _ _ hown ad 0 c [] rfl (by simp) (by simp) (by unfold maxLen; simp at hlen; omega) (by simp at hlen; omega) hbase
      exact ⟨v', w', h1, by simpa [OwnInts] using h2, h3⟩
  · obtain ⟨v', w', h1, h2, h3, _⟩ := run_append_own (P := P) w base t ty e i (.int .i64 0) 1 8 ht hi hz0 hz1 hz2 rfl (by decide) v _ _ hown ⟨b, off, none⟩ news.length c (news.map (Value.int .i64)) (by simp)
      (by
        intro j u hu
        have hj : j < news.length := by have := (List.getElem?_eq_some_iff.1 hu).1; simpa using this
        rw [Addr.add_lit, hc j hj]
        simp [hj] at hu
        simp [hj, hu])
      (ints_oneCell _ _) (by unfold maxLen; omega) (by omega) hbase
    exact ⟨v', w', h1, by simpa [OwnInts] using h2, h3⟩

theorem wpList_append_ints {ops : Array Oper} {rest : List Oper} {o : Oper} {a : Act} {Q : Exit → Act → World → Prop} (hgd : o.guard = none) (s x : Operand) (t : TypeId)
    (ho : o.op = .call { callee := .builtin .append, args := #[s, x], argTypes := #[t, t] })
    (base : Nat) (e : TypeId) (ht : P.underlying t = some (.slice e)) (hinfo : (P.info? e).map (fun i => (i.zero, i.size, i.bytes)) = some (some (.int .i64 0), 1, 8))
    (v : Value) (xs : List Int) (hs : a.eval s = v) (hown : OwnInts w base e v xs) (ad : Option Addr) (n c : Nat) (news : List Int) (hx : a.eval x = .slice ad n c) (hn : n = news.length) (hnews : Reads w ad news)
    (hlen : xs.length + news.length ≤ 1099511627776) (hbase : base ≤ w.heap.size)
    (h : ∀ v' w', OwnInts w' base e v' (xs ++ news) → w.grownBy w' v.ownBlock → wpList P ops Q rest (a.put o.dst v') w') : wpList P ops Q (o :: rest) a w := by
  refine wpList_plain hgd fun K hK => ?_
  subst hn
  obtain ⟨v', w', hr, h2, h3⟩ := run_append_ints (P := P) w base t o.type e ht hinfo v xs hown ad c news hnews hlen hbase
  unfold Oper.wp execOp
  simp only [ho, resolve, invoke, builtin, Sem.run_bind, Sem.run_pure, Result.andThen_ok, List.map_toArray, List.map_cons, List.map_nil, hs, hx, hr]
  exact hK _ _ (h v' w' h2 h3)

theorem wpList_make_ints {ops : Array Oper} {rest : List Oper} {o : Oper} {a : Act} {Q : Exit → Act → World → Prop} (hgd : o.guard = none) (l c : Operand) (t : TypeId) (ho : o.op = Op.makeSlice t l c)
    (base : Nat) (e : TypeId) (ht : P.underlying t = some (.slice e)) (hinfo : (P.info? e).map (fun i => (i.zero, i.size, i.bytes)) = some (some (.int .i64 0), 1, 8))
    (C : Int) (n : Nat) (hl : a.eval l = .int .i64 0) (hc : a.eval c = .int .i64 C) (hC : C = n) (hn : n ≤ 1099511627776) (hbase : base ≤ w.heap.size)
    (h : ∀ v' w', OwnInts w' base e v' [] → w.grownBy w' none → wpList P ops Q rest (a.put o.dst v') w') : wpList P ops Q (o :: rest) a w := by
  refine wpList_plain hgd fun K hK => ?_
  subst hC
  obtain ⟨i, hi, hz0, hz1, hz2⟩ := info_parts hinfo
  obtain ⟨w', hr, h2, h3⟩ := run_make_own (P := P) w base t e i (.int .i64 0) 1 ht hi hz0 hz1 .i64 .i64 n (by rw [hz2]; omega) (by unfold maxLen; omega) hbase
  unfold Oper.wp
  simp only [execOp, ho, hl, hc, hr, Sem.run_bind, Sem.run_pure, Result.andThen_ok]
  exact hK _ _ (h _ w' h2 h3)
end

/-- The n integers from k on. -/
def marks (k : Int) : Nat → List Int
  | 0 => []
  | n + 1 => marks k n ++ [k + n]
theorem marks_length (k : Int) (n : Nat) : (marks k n).length = n := by
  induction n with
  | zero => rfl
  | succ n ih => simp [marks, ih]
theorem marks_get (k : Int) (n i : Nat) (h : i < n) : (marks k n)[i]? = some (k + i) := by
  induction n with
  | zero => omega
  | succ n ih =>
    rw [marks]
    by_cases e : i < n
    · rw [List.getElem?_append_left (by rw [marks_length]; exact e)]; exact ih e
    · have : i = n := by omega
      subst this
      rw [List.getElem?_append_right (by rw [marks_length]; exact Nat.le_refl _), marks_length]; simp

theorem set_step {k : Int} {xs : List Int} {j : Nat} (h : j < xs.length) : (marks k j ++ xs.drop j).set j (k + j) = marks k (j + 1) ++ xs.drop (j + 1) := by
  rw [List.set_append_right _ _ (by rw [marks_length]; exact Nat.le_refl _), marks_length, Nat.sub_self, List.drop_eq_getElem_cons h, List.set_cons_zero, marks]
  simp

theorem OwnInts.store {w : World} {base g cap : Nat} {e : TypeId} {xs : List Int} {n : Nat} (hn : n = xs.length) (h : OwnInts w base e (.slice (some ⟨g, 0, none⟩) n cap) xs) (j : Nat) (x : Int) :
    OwnInts (w.setCell ⟨g, j, none⟩ (.int .i64 x)) base e (.slice (some ⟨g, 0, none⟩) n cap) (xs.set j x) ∧ w.grownBy (w.setCell ⟨g, j, none⟩ (.int .i64 x)) (some g) := by
  subst hn
  have := World.ownsRow.stored (g := g) (cap := cap) h j (.int .i64 x)
  refine ⟨?_, this.2⟩
  unfold OwnInts
  rw [List.length_set]
  simpa [List.map_set] using this.1

theorem OwnInts.at {w : World} {base g cap : Nat} {e : TypeId} {xs : List Int} {n : Nat} (hn : n = xs.length) (h : OwnInts w base e (.slice (some ⟨g, 0, none⟩) n cap) xs) (j : Nat) (hj : j < n) :
    (∃ u, w.cell? ⟨g, j, none⟩ = some u) ∧ w.frozen? ⟨g, j, none⟩ = false := by
  subst hn
  refine ⟨⟨.int .i64 xs[j], ?_⟩, World.ownsRow.frozenAt (g := g) (cap := cap) h j⟩
  rw [World.ownsRow.cellAt (g := g) (cap := cap) h j (by simpa using hj)]
  simp [hj]

theorem step_length {k : Int} {xs : List Int} {j : Nat} (h : j ≤ xs.length) : xs.length = (marks k j ++ xs.drop j).length := by
  rw [List.length_append, marks_length, List.length_drop]; omega

theorem grownBy_trans {w1 w2 w3 : World} {row : Option Nat} (h : w1.grownBy w2 row) (g : w2.grownBy w3 row) : w1.grownBy w3 row :=
  ⟨g.os.trans h.os, g.tape.trans h.tape, g.output.trans h.output, Nat.le_trans h.size g.size, fun k hk hne => (g.block k (Nat.lt_of_lt_of_le hk h.size) hne).trans (h.block k hk hne)⟩
end Go.Proofs.Ythnppodnjokaoab
