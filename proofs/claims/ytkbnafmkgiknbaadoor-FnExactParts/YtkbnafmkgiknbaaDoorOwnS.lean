/-
  A slice of texts that the call itself has made, and what append, a store and a later call leave of it: plain laws over any program. No statement is proved here.
-/
import Derived.Test.YtkbnafmkgiknbaaDoorOwn
namespace Go.Proofs.YtkbnafmkgiknbaaDoor
open Go.RowKit

/-- The address a leads to the texts zs, in cells that are there. -/
def ReadsS (w : World) (a : Option Addr) (zs : List ByteArray) : Prop :=
  zs = [] ∨ ∃ b off, a = some ⟨b, off, none⟩ ∧ b < w.heap.size ∧ ∀ i, i < zs.length → w.cell? ⟨b, off + i, none⟩ = some (.string (zs.getD i ByteArray.empty))

theorem ReadsS.below {w w' : World} {a : Option Addr} {zs : List ByteArray} (h : ReadsS w a zs) (hb : Below w.heap.size w w') : ReadsS w' a zs := by
  rcases h with h | ⟨b, off, rfl, hlt, hc⟩
  · exact .inl h
  · exact .inr ⟨b, off, rfl, Nat.lt_of_lt_of_le hlt hb.size, fun i hi => (hb.cell (p := ⟨b, off + i, none⟩) hlt).trans (hc i hi)⟩

theorem ReadsS.at {w : World} {a : Option Addr} {zs : List ByteArray} (h : ReadsS w a zs) {i : Nat} (hi : i < zs.length) :
    ∃ b off, a = some ⟨b, off, none⟩ ∧ b < w.heap.size ∧ ∀ i, i < zs.length → w.cell? ⟨b, off + i, none⟩ = some (.string (zs.getD i ByteArray.empty)) := by
  rcases h with h | h
  · subst h; simp at hi
  · exact h

theorem strs_oneCell (zs : List ByteArray) : ∀ u ∈ zs.map Value.string, u.oneCell' = true := by
  intro u hu
  obtain ⟨_, _, rfl⟩ := List.mem_map.1 hu
  rfl

/-- The slice value v, made by the call (in a block from base on, elements of type e), holds the texts xs. -/
def OwnStrs (w : World) (base : Nat) (e : TypeId) (v : Value) (xs : List ByteArray) : Prop := w.ownsRow base e 1 v xs.length (xs.map (Value.string))

theorem OwnStrs.nil (w : World) (base : Nat) (e : TypeId) : OwnStrs w base e (.slice none 0 0) [] := World.ownsRow_nil w base e 1

theorem OwnStrs.empty {w : World} {base : Nat} {e : TypeId} (h : base ≤ w.heap.size) : OwnStrs (w.alloc (.cells #[] e)) base e (.slice (some ⟨w.heap.size, 0, none⟩) 0 0) [] :=
  World.ownsRow_made w #[] 0 h (by simp [maxLen]) (by simp)

theorem OwnStrs.shape {w : World} {base : Nat} {e : TypeId} {v : Value} {xs : List ByteArray} (h : OwnStrs w base e v xs) :
    ∃ a cap, v = .slice a xs.length cap ∧ ReadsS w a xs ∧ (xs ≠ [] → ∃ g, a = some ⟨g, 0, none⟩) := by
  rcases h.2 with ⟨rfl, hn⟩ | ⟨g, cap, cur, rfl, hb, hg, hnc, hcm, hcs, htake⟩
  · have : xs = [] := List.eq_nil_of_length_eq_zero hn
    subst this
    exact ⟨none, 0, rfl, .inl rfl, fun h => absurd rfl h⟩
  · refine ⟨_, _, rfl, .inr ⟨g, 0, rfl, (Array.getElem?_eq_some_iff.1 hg).1, fun i hi => ?_⟩, fun _ => ⟨g, rfl⟩⟩
    have := World.ownsRow.cellAt (g := g) (cap := cap) h i (by simpa using hi)
    rw [Nat.zero_add, this]
    simp [hi]

theorem OwnStrs.parts {w : World} {base : Nat} {e : TypeId} {v : Value} {xs : List ByteArray} (h : OwnStrs w base e v xs) :
    (v = .slice none 0 0 ∧ xs = []) ∨ ∃ g cap, v = .slice (some ⟨g, 0, none⟩) xs.length cap ∧ xs.length ≤ cap ∧ cap ≤ maxLen ∧ g < w.heap.size ∧ ∀ i, i < xs.length → w.cell? ⟨g, i, none⟩ = some (.string (xs.getD i ByteArray.empty)) := by
  rcases h.2 with ⟨rfl, hn⟩ | ⟨g, cap, cur, rfl, hb, hg, hnc, hcm, hcs, htake⟩
  · exact .inl ⟨rfl, List.eq_nil_of_length_eq_zero hn⟩
  · refine .inr ⟨g, cap, rfl, hnc, hcm, (Array.getElem?_eq_some_iff.1 hg).1, fun i hi => ?_⟩
    rw [World.ownsRow.cellAt (g := g) (cap := cap) h i (by simpa using hi)]
    simp [hi]

theorem ReadsS.new (w : World) (x : ByteArray) (e : TypeId) : ReadsS (w.alloc (.cells #[.string x] e)) (some ⟨w.heap.size, 0, none⟩) [x] := by
  refine .inr ⟨w.heap.size, 0, rfl, by simp, fun i hi => ?_⟩
  have : i = 0 := by simpa using hi
  subst this
  simp

theorem OwnStrs.reads {w : World} {base n cap : Nat} {a : Option Addr} {e : TypeId} {xs : List ByteArray} (h : OwnStrs w base e (.slice a n cap) xs) : ReadsS w a xs := by
  obtain ⟨a', c', he, hr, _⟩ := h.shape
  cases he
  exact hr

theorem OwnStrs.kept {w w' : World} {base : Nat} {e : TypeId} {v : Value} {xs : List ByteArray} {row : Option Nat} (h : OwnStrs w base e v xs) (hg : w.grownBy w' row) (hne : v.ownBlock = none ∨ v.ownBlock ≠ row) : OwnStrs w' base e v xs :=
  World.ownsRow.kept h hg hne

theorem OwnStrs.below {w w' : World} {base : Nat} {e : TypeId} {v : Value} {xs : List ByteArray} (h : OwnStrs w base e v xs) (hb : Below w.heap.size w w') : OwnStrs w' base e v xs :=
  h.kept (grownBy_of_below hb none) (by cases v.ownBlock <;> simp)

theorem OwnStrs.alloc {w : World} {base : Nat} {e : TypeId} {v : Value} {xs : List ByteArray} (h : OwnStrs w base e v xs) (o : Obj) : OwnStrs (w.alloc o) base e v xs := World.ownsRow.alloc h o

theorem OwnStrs.block {w : World} {base : Nat} {e : TypeId} {v : Value} {xs : List ByteArray} (h : OwnStrs w base e v xs) : ∀ k, v.ownBlock = some k → base ≤ k ∧ k < w.heap.size := World.ownsRow.lt h

theorem OwnStrs.base {w : World} {b b' : Nat} {e : TypeId} {v : Value} {xs : List ByteArray} (h : OwnStrs w b e v xs) (hb : b' ≤ b) : OwnStrs w b' e v xs := by
  refine ⟨h.1, ?_⟩
  rcases h.2 with h2 | ⟨g, cap, cur, rfl, h3, r⟩
  · exact .inl h2
  · exact .inr ⟨g, cap, cur, rfl, Nat.le_trans hb h3, r⟩

theorem OwnStrs.past {w w1 w2 : World} {base : Nat} {e : TypeId} {v : Value} {xs : List ByteArray} {row : Option Nat} (h : OwnStrs w base e v xs) (hb : Below w.heap.size w w1) (hg : w1.grownBy w2 row) (hr : ∀ k, row = some k → w.heap.size ≤ k) : OwnStrs w2 base e v xs :=
  h.below (hb.grown hg hb.size hr)

/-- What was made earlier lies elsewhere than what was made later. -/
theorem OwnStrs.apart {w1 w2 : World} {b1 b2 : Nat} {e : TypeId} {v1 v2 : Value} {xs ys : List ByteArray} (h1 : OwnStrs w1 b1 e v1 xs) (h2 : OwnStrs w2 b2 e v2 ys) (hb : w1.heap.size ≤ b2) :
    (v1.ownBlock = none ∨ v1.ownBlock ≠ v2.ownBlock) ∧ (v2.ownBlock = none ∨ v2.ownBlock ≠ v1.ownBlock) := by
  have g1 := h1.block
  have g2 := h2.block
  cases e1 : v1.ownBlock with
  | none => cases e2 : v2.ownBlock <;> simp
  | some k1 => cases e2 : v2.ownBlock with
    | none => simp
    | some k2 =>
      have a1 := g1 k1 e1
      have a2 := g2 k2 e2
      have : k1 ≠ k2 := by omega
      have : k2 ≠ k1 := by omega
      exact ⟨.inr (by simpa using ‹k1 ≠ k2›), .inr (by simpa using ‹k2 ≠ k1›)⟩

section
variable {P : Program} (w : World)

theorem run_append_strs (base : Nat) (t ty e : TypeId) (ht : P.underlying t = some (.slice e)) (hinfo : (P.info? e).map (fun i => (i.zero, i.size, i.bytes)) = some (some (.string ByteArray.empty), 1, 16))
    (v : Value) (xs : List ByteArray) (hown : OwnStrs w base e v xs) (ad : Option Addr) (c : Nat) (news : List ByteArray) (hnews : ReadsS w ad news) (hlen : xs.length + news.length ≤ 1099511627776) (hbase : base ≤ w.heap.size) :
    ∃ v' w', (Builtin.append_ #[t, t] ty #[v, .slice ad news.length c]).run P w = .ok v' w' ∧ OwnStrs w' base e v' (xs ++ news) ∧ w.grownBy w' v.ownBlock := by
  obtain ⟨i, hi, hz0, hz1, hz2⟩ := info_parts hinfo
  rcases hnews with rfl | ⟨b, off, rfl, hb, hc⟩
  · cases ad with
    | none => exact ⟨v, w, run_append_none w t ty e i ht hi base v _ _ c hown, by simpa using hown, World.grownBy.refl _ _⟩
    | some ad =>
      obtain ⟨v', w', h1, h2, h3, _⟩ := run_append_own (P := P) w base t ty e i (.string ByteArray.empty) 1 16 ht hi hz0 hz1 hz2 rfl (by decide) v _ _ hown ad 0 c [] rfl (by simp) (by simp) (by unfold maxLen; simp at hlen; omega) (by simp at hlen; omega) hbase
      exact ⟨v', w', h1, by simpa [OwnStrs] using h2, h3⟩
  · obtain ⟨v', w', h1, h2, h3, _⟩ := run_append_own (P := P) w base t ty e i (.string ByteArray.empty) 1 16 ht hi hz0 hz1 hz2 rfl (by decide) v _ _ hown ⟨b, off, none⟩ news.length c (news.map (Value.string)) (by simp)
      (by
        intro j u hu
        have hj : j < news.length := by have := (List.getElem?_eq_some_iff.1 hu).1; simpa using this
        rw [Addr.add_lit, hc j hj]
        simp [hj] at hu
        simp [hj, hu])
      (strs_oneCell _) (by unfold maxLen; omega) (by omega) hbase
    exact ⟨v', w', h1, by simpa [OwnStrs] using h2, h3⟩

theorem wpList_append_strs {ops : Array Oper} {rest : List Oper} {o : Oper} {a : Act} {Q : Exit → Act → World → Prop} (hgd : o.guard = none) (s x : Operand) (t : TypeId)
    (ho : o.op = .call { callee := .builtin .append, args := #[s, x], argTypes := #[t, t] })
    (base : Nat) (e : TypeId) (ht : P.underlying t = some (.slice e)) (hinfo : (P.info? e).map (fun i => (i.zero, i.size, i.bytes)) = some (some (.string ByteArray.empty), 1, 16))
    (v : Value) (xs : List ByteArray) (hs : a.eval s = v) (hown : OwnStrs w base e v xs) (ad : Option Addr) (n c : Nat) (news : List ByteArray) (hx : a.eval x = .slice ad n c) (hn : n = news.length) (hnews : ReadsS w ad news)
    (hlen : xs.length + news.length ≤ 1099511627776) (hbase : base ≤ w.heap.size)
    (h : ∀ v' w', OwnStrs w' base e v' (xs ++ news) → w.grownBy w' v.ownBlock → wpList P ops Q rest (a.put o.dst v') w') : wpList P ops Q (o :: rest) a w := by
  refine wpList_plain hgd fun K hK => ?_
  subst hn
  obtain ⟨v', w', hr, h2, h3⟩ := run_append_strs (P := P) w base t o.type e ht hinfo v xs hown ad c news hnews hlen hbase
  unfold Oper.wp execOp
  simp only [ho, resolve, invoke, builtin, Sem.run_bind, Sem.run_pure, Result.andThen_ok, List.map_toArray, List.map_cons, List.map_nil, hs, hx, hr]
  exact hK _ _ (h v' w' h2 h3)

end

theorem OwnStrs.store {w : World} {base g cap : Nat} {e : TypeId} {xs : List ByteArray} {n : Nat} (hn : n = xs.length) (h : OwnStrs w base e (.slice (some ⟨g, 0, none⟩) n cap) xs) (j : Nat) (x : ByteArray) :
    OwnStrs (w.setCell ⟨g, j, none⟩ (.string x)) base e (.slice (some ⟨g, 0, none⟩) n cap) (xs.set j x) ∧ w.grownBy (w.setCell ⟨g, j, none⟩ (.string x)) (some g) := by
  subst hn
  have := World.ownsRow.stored (g := g) (cap := cap) h j (.string x)
  refine ⟨?_, this.2⟩
  unfold OwnStrs
  rw [List.length_set]
  simpa [List.map_set] using this.1

theorem OwnStrs.at {w : World} {base g cap : Nat} {e : TypeId} {xs : List ByteArray} {n : Nat} (hn : n = xs.length) (h : OwnStrs w base e (.slice (some ⟨g, 0, none⟩) n cap) xs) (j : Nat) (hj : j < n) :
    (∃ u, w.cell? ⟨g, j, none⟩ = some u) ∧ w.frozen? ⟨g, j, none⟩ = false := by
  subst hn
  refine ⟨⟨.string xs[j], ?_⟩, World.ownsRow.frozenAt (g := g) (cap := cap) h j⟩
  rw [World.ownsRow.cellAt (g := g) (cap := cap) h j (by simpa using hj)]
  simp [hj]

end Go.Proofs.YtkbnafmkgiknbaaDoor
