/-
  Slices whose elements lie in several cells each (structs): what such a slice reads as, one that the call itself has made, and what append, a store and a later call leave of it: plain laws over any program. No statement is proved here.
-/
import Derived.Test.YthnppodnjokaoabOwn
namespace Go.Proofs.Ythnppodnjokaoab
open Go.RowKit

/-- How an element lies in cells. -/
structure Enc (α : Type) where
  size : Nat
  cells : α → List Value
  len : ∀ x, (cells x).length = size
  one : ∀ x, ∀ u ∈ cells x, u.oneCell' = true
  pos : 0 < size

section
variable {α : Type} (E : Enc α)

def Enc.row (xs : List α) : List Value := xs.flatMap E.cells

theorem Enc.row_length (xs : List α) : (E.row xs).length = xs.length * E.size := by
  induction xs with
  | nil => simp [Enc.row]
  | cons x xs ih =>
    have : E.row (x :: xs) = E.cells x ++ E.row xs := by simp [Enc.row]
    rw [this, List.length_append, ih, E.len, List.length_cons, Nat.add_mul]; omega

theorem Enc.row_append (xs ys : List α) : E.row (xs ++ ys) = E.row xs ++ E.row ys := by simp [Enc.row]

theorem Enc.row_one (x : α) : E.row [x] = E.cells x := by simp [Enc.row]

theorem Enc.row_split {xs : List α} {i : Nat} (h : i < xs.length) : E.row xs = E.row (xs.take i) ++ (E.cells xs[i] ++ E.row (xs.drop (i + 1))) := by
  conv => lhs; rw [← List.take_append_drop i xs, List.drop_eq_getElem_cons h]
  rw [Enc.row_append]; rfl

theorem Enc.row_get {xs : List α} {i : Nat} (h : i < xs.length) {j : Nat} (hj : j < E.size) : (E.row xs)[i * E.size + j]? = (E.cells xs[i])[j]? := by
  have hl : (E.row (xs.take i)).length = i * E.size := by rw [E.row_length, List.length_take, Nat.min_eq_left (by omega)]
  rw [E.row_split h, List.getElem?_append_right (by omega), hl, Nat.add_sub_cancel_left, List.getElem?_append_left (by rw [E.len]; exact hj)]

theorem Enc.row_set {xs : List α} {i : Nat} (h : i < xs.length) {j : Nat} (hj : j < E.size) (u : Value) (x : α) (hx : E.cells x = (E.cells xs[i]).set j u) : (E.row xs).set (i * E.size + j) u = E.row (xs.set i x) := by
  have hl : (E.row (xs.take i)).length = i * E.size := by rw [E.row_length, List.length_take, Nat.min_eq_left (by omega)]
  have hs : (xs.set i x) = xs.take i ++ x :: xs.drop (i + 1) := by rw [List.set_eq_take_append_cons_drop, if_pos h]
  rw [E.row_split h, List.set_append_right _ _ (by omega), hl, Nat.add_sub_cancel_left, List.set_append_left _ _ (by rw [E.len]; exact hj), ← hx, hs, Enc.row_append]
  simp [Enc.row]

theorem Enc.row_oneCell (xs : List α) : ∀ u ∈ E.row xs, u.oneCell' = true := by
  intro u hu
  obtain ⟨x, _, hx⟩ := List.mem_flatMap.1 hu
  exact E.one x u hx

/-- The address a leads to the elements zs, in cells that are there. -/
def ReadsT (w : World) (a : Option Addr) (zs : List α) : Prop :=
  zs = [] ∨ ∃ b off, a = some ⟨b, off, none⟩ ∧ b < w.heap.size ∧ ∀ i, i < zs.length * E.size → w.cell? ⟨b, off + i, none⟩ = (E.row zs)[i]?

variable {E}
theorem ReadsT.below {w w' : World} {a : Option Addr} {zs : List α} (h : ReadsT E w a zs) (hb : Below w.heap.size w w') : ReadsT E w' a zs := by
  rcases h with h | ⟨b, off, rfl, hlt, hc⟩
  · exact .inl h
  · exact .inr ⟨b, off, rfl, Nat.lt_of_lt_of_le hlt hb.size, fun i hi => (hb.cell (p := ⟨b, off + i, none⟩) hlt).trans (hc i hi)⟩

theorem ReadsT.at {w : World} {a : Option Addr} {zs : List α} (h : ReadsT E w a zs) {i : Nat} (hi : i < zs.length) :
    ∃ b off, a = some ⟨b, off, none⟩ ∧ b < w.heap.size ∧ ∀ j, j < E.size → w.cell? ⟨b, off + (i * E.size + j), none⟩ = (E.cells zs[i])[j]? := by
  rcases h with h | ⟨b, off, rfl, hlt, hc⟩
  · subst h; simp at hi
  · refine ⟨b, off, rfl, hlt, fun j hj => ?_⟩
    have h1 : (i + 1) * E.size ≤ zs.length * E.size := Nat.mul_le_mul_right _ hi
    rw [Nat.add_mul] at h1
    rw [hc _ (by omega), E.row_get hi hj]

theorem ReadsT.where {w : World} {a : Option Addr} {zs : List α} (h : ReadsT E w a zs) (hne : zs ≠ []) :
    ∃ b off, a = some ⟨b, off, none⟩ ∧ b < w.heap.size ∧ ∀ i (hi : i < zs.length) j, j < E.size → w.cell? ⟨b, off + (i * E.size + j), none⟩ = (E.cells zs[i])[j]? := by
  rcases h with h | ⟨b, off, rfl, hlt, hc⟩
  · exact absurd h hne
  · refine ⟨b, off, rfl, hlt, fun i hi j hj => ?_⟩
    have h1 : (i + 1) * E.size ≤ zs.length * E.size := Nat.mul_le_mul_right _ hi
    rw [Nat.add_mul] at h1
    rw [hc _ (by omega), E.row_get hi hj]

theorem ReadsT.new (w : World) (x : α) (e : TypeId) (cs : Array Value) (hcs : cs.toList = E.cells x) : ReadsT E (w.alloc (.cells cs e)) (some ⟨w.heap.size, 0, none⟩) [x] := by
  refine .inr ⟨w.heap.size, 0, rfl, by simp, fun i hi => ?_⟩
  rw [E.row_one, Nat.zero_add, ← hcs, cell_of_row _ _ i cs e (0, 0) (heap_alloc_new w _)]
  simp

/-- The slice value v, made by the call (in a block from base on, elements of type e), holds the elements xs. -/
def OwnT (E : Enc α) (w : World) (base : Nat) (e : TypeId) (v : Value) (xs : List α) : Prop := w.ownsRow base e E.size v xs.length (E.row xs)

theorem OwnT.nil (w : World) (base : Nat) (e : TypeId) : OwnT E w base e (.slice none 0 0) [] := World.ownsRow_nil w base e E.size

theorem OwnT.empty {w : World} {base : Nat} {e : TypeId} (h : base ≤ w.heap.size) : OwnT E (w.alloc (.cells #[] e)) base e (.slice (some ⟨w.heap.size, 0, none⟩) 0 0) [] :=
  World.ownsRow_made w #[] 0 h (by simp [maxLen]) (by simp)

theorem OwnT.shape {w : World} {base : Nat} {e : TypeId} {v : Value} {xs : List α} (h : OwnT E w base e v xs) :
    ∃ a cap, v = .slice a xs.length cap ∧ ReadsT E w a xs ∧ (xs ≠ [] → ∃ g, a = some ⟨g, 0, none⟩) ∧ xs.length ≤ cap ∧ cap ≤ maxLen := by
  rcases h.2 with ⟨rfl, hn⟩ | ⟨g, cap, cur, rfl, hb, hg, hnc, hcm, hcs, htake⟩
  · have : xs = [] := List.eq_nil_of_length_eq_zero hn
    subst this
    exact ⟨none, 0, rfl, .inl rfl, fun h => absurd rfl h, Nat.le_refl _, by simp [maxLen]⟩
  · refine ⟨_, _, rfl, .inr ⟨g, 0, rfl, (Array.getElem?_eq_some_iff.1 hg).1, fun i hi => ?_⟩, fun _ => ⟨g, rfl⟩, hnc, hcm⟩
    rw [Nat.zero_add]
    exact World.ownsRow.cellAt (g := g) (cap := cap) h i hi

theorem OwnT.reads {w : World} {base n cap : Nat} {a : Option Addr} {e : TypeId} {xs : List α} (h : OwnT E w base e (.slice a n cap) xs) : ReadsT E w a xs ∧ n = xs.length := by
  obtain ⟨a', c', he, hr, _⟩ := h.shape
  cases he
  exact ⟨hr, rfl⟩

theorem OwnT.kept {w w' : World} {base : Nat} {e : TypeId} {v : Value} {xs : List α} {row : Option Nat} (h : OwnT E w base e v xs) (hg : w.grownBy w' row) (hne : v.ownBlock = none ∨ v.ownBlock ≠ row) : OwnT E w' base e v xs :=
  World.ownsRow.kept h hg hne

theorem OwnT.below {w w' : World} {base : Nat} {e : TypeId} {v : Value} {xs : List α} (h : OwnT E w base e v xs) (hb : Below w.heap.size w w') : OwnT E w' base e v xs :=
  h.kept (grownBy_of_below hb none) (by cases v.ownBlock <;> simp)

theorem OwnT.alloc {w : World} {base : Nat} {e : TypeId} {v : Value} {xs : List α} (h : OwnT E w base e v xs) (o : Obj) : OwnT E (w.alloc o) base e v xs := World.ownsRow.alloc h o

theorem OwnT.block {w : World} {base : Nat} {e : TypeId} {v : Value} {xs : List α} (h : OwnT E w base e v xs) : ∀ k, v.ownBlock = some k → base ≤ k ∧ k < w.heap.size := World.ownsRow.lt h

theorem OwnT.base {w : World} {b b' : Nat} {e : TypeId} {v : Value} {xs : List α} (h : OwnT E w b e v xs) (hb : b' ≤ b) : OwnT E w b' e v xs := by
  refine ⟨h.1, ?_⟩
  rcases h.2 with h2 | ⟨g, cap, cur, rfl, h3, r⟩
  · exact .inl h2
  · exact .inr ⟨g, cap, cur, rfl, Nat.le_trans hb h3, r⟩

theorem OwnT.past {w w1 w2 : World} {base : Nat} {e : TypeId} {v : Value} {xs : List α} {row : Option Nat} (h : OwnT E w base e v xs) (hb : Below w.heap.size w w1) (hg : w1.grownBy w2 row) (hr : ∀ k, row = some k → w.heap.size ≤ k) : OwnT E w2 base e v xs :=
  h.below (hb.grown hg hb.size hr)

theorem OwnT.apart {β : Type} {F : Enc β} {w1 w2 : World} {b1 b2 : Nat} {e f : TypeId} {v1 v2 : Value} {xs : List α} {ys : List β} (h1 : OwnT E w1 b1 e v1 xs) (h2 : OwnT F w2 b2 f v2 ys) (hb : w1.heap.size ≤ b2) :
    (v1.ownBlock = none ∨ v1.ownBlock ≠ v2.ownBlock) ∧ (v2.ownBlock = none ∨ v2.ownBlock ≠ v1.ownBlock) := by
  have g1 := h1.block
  have g2 := h2.block
  cases e1 : v1.ownBlock with
  | none => cases e2 : v2.ownBlock <;> simp
  | some k1 => cases e2 : v2.ownBlock with
    | none => simp
    | some k2 =>
      have a1 := g1 k1 e1
      have a2 := g2 k2 e2
      have : k1 ≠ k2 := by omega
      have : k2 ≠ k1 := by omega
      exact ⟨.inr (by simpa using ‹k1 ≠ k2›), .inr (by simpa using ‹k2 ≠ k1›)⟩

theorem OwnT.at {w : World} {base g cap : Nat} {e : TypeId} {xs : List α} {n : Nat} (hn : n = xs.length) (h : OwnT E w base e (.slice (some ⟨g, 0, none⟩) n cap) xs) {i : Nat} (hi : i < xs.length) (j : Nat) (hj : j < E.size) :
    w.cell? ⟨g, i * E.size + j, none⟩ = (E.cells xs[i])[j]? ∧ w.frozen? ⟨g, i * E.size + j, none⟩ = false := by
  subst hn
  have h1 : (i + 1) * E.size ≤ xs.length * E.size := Nat.mul_le_mul_right _ hi
  rw [Nat.add_mul] at h1
  refine ⟨?_, World.ownsRow.frozenAt (g := g) (cap := cap) h _⟩
  rw [World.ownsRow.cellAt (g := g) (cap := cap) h _ (by omega), E.row_get hi hj]

theorem OwnT.store {w : World} {base g cap : Nat} {e : TypeId} {xs : List α} {n : Nat} (hn : n = xs.length) (h : OwnT E w base e (.slice (some ⟨g, 0, none⟩) n cap) xs) {i : Nat} (hi : i < xs.length) (j : Nat) (hj : j < E.size) (u : Value) (x : α)
    (hx : E.cells x = (E.cells xs[i]).set j u) :
    OwnT E (w.setCell ⟨g, i * E.size + j, none⟩ u) base e (.slice (some ⟨g, 0, none⟩) n cap) (xs.set i x) ∧ w.grownBy (w.setCell ⟨g, i * E.size + j, none⟩ u) (some g) := by
  subst hn
  have := World.ownsRow.stored (g := g) (cap := cap) h (i * E.size + j) u
  refine ⟨?_, this.2⟩
  unfold OwnT
  rw [List.length_set, ← E.row_set hi hj u x hx]
  exact this.1
end

section
variable {P : Program} (w : World) {α : Type} {E : Enc α}

theorem run_append_noneT (t ty e : TypeId) (i : TypeInfo) (ht : P.underlying t = some (.slice e)) (hi : P.info? e = some i) (base : Nat) (v : Value) (n : Nat) (xs : List Value) (c : Nat) (size : Nat) (hown : w.ownsRow base e size v n xs) :
    (Builtin.append_ #[t, t] ty #[v, .slice none 0 c]).run P w = .ok v w := by
  rcases hown.2 with ⟨rfl, rfl⟩ | ⟨g, cap, cur, rfl, _, _, hnc, _⟩
  · simp [Builtin.append_, run_underlying ht, sizeOf, typeInfo, hi, Builtin.lenOf, Builtin.firstCells]
  · simp [Builtin.append_, run_underlying ht, sizeOf, typeInfo, hi, Builtin.lenOf, Builtin.firstCells, hnc, storeCells]

theorem run_appendT (base : Nat) (t ty e : TypeId) (z : Value) (bytes : Nat) (ht : P.underlying t = some (.slice e)) (hinfo : (P.info? e).map (fun i => (i.zero, i.size, i.bytes)) = some (some z, E.size, bytes)) (hz : z.cells.size = E.size) (hby : bytes ≤ 128)
    (v : Value) (xs : List α) (hown : OwnT E w base e v xs) (ad : Option Addr) (c : Nat) (news : List α) (hnews : ReadsT E w ad news) (hlen : xs.length + news.length ≤ 1099511627776) (hbase : base ≤ w.heap.size) :
    ∃ v' w', (Builtin.append_ #[t, t] ty #[v, .slice ad news.length c]).run P w = .ok v' w' ∧ OwnT E w' base e v' (xs ++ news) ∧ w.grownBy w' v.ownBlock := by
  obtain ⟨i, hi, hz0, hz1, hz2⟩ := info_parts hinfo
  have hb : (xs.length + news.length) * bytes ≤ 140737488355328 := Nat.le_trans (Nat.mul_le_mul hlen hby) (by decide)
  rcases hnews with rfl | ⟨b, off, rfl, hb0, hc⟩
  · cases ad with
    | none => exact ⟨v, w, run_append_noneT w t ty e i ht hi base v _ _ c _ hown, by simpa using hown, World.grownBy.refl _ _⟩
    | some ad =>
      obtain ⟨v', w', h1, h2, h3, _⟩ := run_append_own (P := P) w base t ty e i z E.size bytes ht hi hz0 hz1 hz2 hz E.pos v _ _ hown ad 0 c [] (by simp) (by simp) (by simp) (by unfold maxLen; simp at hlen; omega) (by simpa using hb) hbase
      exact ⟨v', w', h1, by simpa [OwnT] using h2, h3⟩
  · obtain ⟨v', w', h1, h2, h3, _⟩ := run_append_own (P := P) w base t ty e i z E.size bytes ht hi hz0 hz1 hz2 hz E.pos v _ _ hown ⟨b, off, none⟩ news.length c (E.row news) (E.row_length _)
      (by
        intro j u hu
        have hj : j < news.length * E.size := by have := (List.getElem?_eq_some_iff.1 hu).1; rwa [E.row_length] at this
        rw [Addr.add_lit, hc j hj, hu])
      (E.row_oneCell _) (by unfold maxLen; omega) hb hbase
    refine ⟨v', w', h1, ?_, h3⟩
    unfold OwnT
    rw [List.length_append, E.row_append]
    exact h2

theorem wpList_appendT {ops : Array Oper} {rest : List Oper} {o : Oper} {a : Act} {Q : Exit → Act → World → Prop} (hgd : o.guard = none) (s x : Operand) (t : TypeId)
    (ho : o.op = .call { callee := .builtin .append, args := #[s, x], argTypes := #[t, t] })
    (base : Nat) (e : TypeId) (z : Value) (bytes : Nat) (ht : P.underlying t = some (.slice e)) (hinfo : (P.info? e).map (fun i => (i.zero, i.size, i.bytes)) = some (some z, E.size, bytes)) (hz : z.cells.size = E.size) (hby : bytes ≤ 128)
    (v : Value) (xs : List α) (hs : a.eval s = v) (hown : OwnT E w base e v xs) (ad : Option Addr) (n c : Nat) (news : List α) (hx : a.eval x = .slice ad n c) (hn : n = news.length) (hnews : ReadsT E w ad news)
    (hlen : xs.length + news.length ≤ 1099511627776) (hbase : base ≤ w.heap.size)
    (h : ∀ v' w', OwnT E w' base e v' (xs ++ news) → w.grownBy w' v.ownBlock → wpList P ops Q rest (a.put o.dst v') w') : wpList P ops Q (o :: rest) a w := by
  refine wpList_plain hgd fun K hK => ?_
  subst hn
  obtain ⟨v', w', hr, h2, h3⟩ := run_appendT (P := P) w base t o.type e z bytes ht hinfo hz hby v xs hown ad c news hnews hlen hbase
  unfold Oper.wp execOp
  simp only [ho, resolve, invoke, builtin, Sem.run_bind, Sem.run_pure, Result.andThen_ok, List.map_toArray, List.map_cons, List.map_nil, hs, hx, hr]
  exact hK _ _ (h v' w' h2 h3)

theorem made_row {α : Type} (E : Enc α) (x : α) (n : Nat) : (madeCells (E.cells x).toArray (n * E.size)).toList = E.row (List.replicate n x) := by
  apply List.ext_getElem?
  intro i
  by_cases hi : i < n * E.size
  · have hp := E.pos
    have hq : i / E.size < n := Nat.div_lt_of_lt_mul (by rw [Nat.mul_comm]; exact hi)
    have hr : i % E.size < E.size := Nat.mod_lt _ hp
    have e : i = i / E.size * E.size + i % E.size := by rw [Nat.mul_comm]; exact (Nat.div_add_mod i E.size).symm
    have h1 : (E.row (List.replicate n x))[i]? = (E.cells x)[i % E.size]? := by
      conv => lhs; rw [e]
      rw [E.row_get (by simpa using hq) hr]; simp
    rw [h1]
    have hr2 : i % E.size < (E.cells x).length := by rw [E.len]; exact hr
    simp only [madeCells, Array.toList_map, Array.toList_range, List.getElem?_map, List.getElem?_range hi, Option.map_some, List.size_toArray, E.len]
    rw [List.getElem?_eq_getElem hr2]
    simp [hr2]
  · rw [List.getElem?_eq_none (by rw [Array.length_toList, size_madeCells]; omega), List.getElem?_eq_none (by rw [E.row_length]; simp; omega)]

theorem make_ownT (t e : TypeId) (z : Value) (bytes : Nat) (x : α) (n : Nat) (ht : P.underlying t = some (.slice e)) (hinfo : (P.info? e).map (fun i => (i.zero, i.size, i.bytes)) = some (some z, E.size, bytes)) (hz : z.cells = (E.cells x).toArray) (hby : bytes ≤ 128) (hn : n ≤ 1099511627776) :
    ∃ W : World, (Instr.makeSlice t (.int .i64 (n : Int)) (.int .i64 (n : Int))).run P w = .ok (.slice (some ⟨w.heap.size, 0, none⟩) n n) W ∧ OwnT E W w.heap.size e (.slice (some ⟨w.heap.size, 0, none⟩) n n) (List.replicate n x) ∧ Below w.heap.size w W := by
  obtain ⟨i, hi, hz0, hz1, hz2⟩ := info_parts hinfo
  have hb : bytes * n ≤ 140737488355328 := Nat.le_trans (Nat.mul_le_mul hby hn) (by decide)
  have hb' : (bytes : Int) * (n : Int) ≤ 281474976710656 := by
    have h : ((bytes * n : Nat) : Int) ≤ 281474976710656 := by omega
    rwa [Int.natCast_mul] at h
  have hr := run_make (P := P) w t e i z ht hi hz0 .i64 .i64 (n : Int) (n : Int) (by omega) (Int.le_refl _) (by rw [hz2]; exact hb') (by omega)
  simp only [Int.toNat_natCast, hz1, hz] at hr
  refine ⟨_, hr, ?_, (Below.refl _ _).alloc (Nat.le_refl _) _⟩
  have hl := World.ownsRow_lit (base := w.heap.size) (e := e) (size := E.size) w (madeCells (E.cells x).toArray (n * E.size)) n (Nat.le_refl _) (by unfold maxLen; omega) (size_madeCells _ _)
  rw [made_row] at hl
  unfold OwnT
  rw [List.length_replicate]
  exact hl
end
end Go.Proofs.Ythnppodnjokaoab
