/-
  A row of bytes that the call itself has made: append of a byte, a store, its text: plain laws over any program. No statement is proved here.
-/
import Derived.Test.YtojbghmlcgadeabOwn
import Derived.Maps.AppendAt
namespace Go.Proofs.Ytojbghmlcgadeab
open Go.RowKit

def bCells (l : List UInt8) : List Value := l.map fun b => Value.int .u8 b.toNat
theorem bCells_length (l : List UInt8) : (bCells l).length = l.length := by simp [bCells]

/-- The slice value v, made by the call (in a block from base on), is not nil and holds the bytes bs. -/
def OwnBytes (w : World) (base : Nat) (e : TypeId) (v : Value) (bs : List UInt8) : Prop := w.ownsRow base e 1 v bs.length (bCells bs) ∧ v ≠ .slice none 0 0

theorem OwnBytes.shape {w : World} {base : Nat} {e : TypeId} {v : Value} {bs : List UInt8} (h : OwnBytes w base e v bs) :
    ∃ g cap, v = .slice (some ⟨g, 0, none⟩) bs.length cap ∧ base ≤ g ∧ g < w.heap.size ∧ ∀ j (hj : j < bs.length), w.cell? ⟨g, j, none⟩ = some (.int .u8 (bs[j].toNat : Int)) := by
  rcases h.1.2 with ⟨rfl, _⟩ | ⟨g, cap, cur, rfl, hb, hg, hnc, hcm, hcs, htake⟩
  · exact absurd rfl h.2
  · refine ⟨g, cap, rfl, hb, (Array.getElem?_eq_some_iff.1 hg).1, fun j hj => ?_⟩
    rw [World.ownsRow.cellAt (g := g) (cap := cap) h.1 j (by simpa using hj)]
    simp [bCells, hj]

theorem OwnBytes.empty {w : World} {base : Nat} {e : TypeId} (h : base ≤ w.heap.size) : OwnBytes (w.alloc (.cells #[] e)) base e (.slice (some ⟨w.heap.size, 0, none⟩) 0 0) [] :=
  ⟨World.ownsRow_made w #[] 0 h (by simp [maxLen]) (by simp), by simp⟩
theorem OwnBytes.kept {w w' : World} {base : Nat} {e : TypeId} {v : Value} {bs : List UInt8} {row : Option Nat} (h : OwnBytes w base e v bs) (hg : w.grownBy w' row) (hne : v.ownBlock = none ∨ v.ownBlock ≠ row) : OwnBytes w' base e v bs :=
  ⟨World.ownsRow.kept h.1 hg hne, h.2⟩
theorem OwnBytes.alloc {w : World} {base : Nat} {e : TypeId} {v : Value} {bs : List UInt8} (h : OwnBytes w base e v bs) (o : Obj) : OwnBytes (w.alloc o) base e v bs := ⟨World.ownsRow.alloc h.1 o, h.2⟩

section
variable {P : Program}
/-- Its text. -/
theorem OwnBytes.conv {w : World} {base : Nat} {e : TypeId} {v : Value} {bs : List UInt8} (h : OwnBytes w base e v bs) (src dst : TypeId) (hs : P.underlying src = some (.slice e)) (he : P.underlying e = some (.int .u8)) (hd : P.underlying dst = some .string) :
    (convert src dst v).run P w = .ok (.string ⟨bs.toArray⟩) w := by
  obtain ⟨g, cap, rfl, _, _, hc⟩ := h.shape
  exact run_convert_bytes_back (P := P) w src dst e ⟨g, 0, none⟩ cap bs hs he hd (fun j hj => by rw [Addr.add_lit, Nat.zero_add]; exact hc j hj)

theorem wpList_append_byte {w : World} {ops : Array Oper} {rest : List Oper} {o : Oper} {a : Act} {Q : Exit → Act → World → Prop} (hgd : o.guard = none) (s x : Operand) (t : TypeId)
    (ho : o.op = .call { callee := .builtin .append, args := #[s, x], argTypes := #[t, t] })
    (base : Nat) (e : TypeId) (ht : P.underlying t = some (.slice e)) (hinfo : (P.info? e).map (fun i => (i.zero, i.size, i.bytes)) = some (some (.int .u8 0), 1, 1))
    (v : Value) (bs : List UInt8) (hs : a.eval s = v) (hown : OwnBytes w base e v bs) (g : Nat) (hx : a.eval x = .slice (some ⟨g, 0, none⟩) 1 1) (y : Int) (b : UInt8) (hy : y = (b.toNat : Int)) (hc : w.cell? ⟨g, 0, none⟩ = some (.int .u8 y))
    (hlen : bs.length + 1 ≤ 1099511627776) (hbase : base ≤ w.heap.size)
    (h : ∀ v' w', OwnBytes w' base e v' (bs ++ [b]) → w.grownBy w' v.ownBlock → wpList P ops Q rest (a.put o.dst v') w') : wpList P ops Q (o :: rest) a w := by
  obtain ⟨i, hi, hz0, hz1, hz2⟩ := info_parts hinfo
  refine wpList_append_own_at _ hgd s x t ho base e i (.int .u8 0) 1 1 ht hi hz0 hz1 hz2 rfl (by decide) v bs.length (bCells bs) hs hown.1 ⟨g, 0, none⟩ 1 1 [.int .u8 y] hx rfl ?_ ?_ (by unfold maxLen; omega) (by omega) hbase ?_
  · intro j u hj
    match j, hj with
    | 0, hj => simp at hj; subst hj; simpa [Addr.add] using hc
  · intro u hu; simp at hu; subst hu; rfl
  · intro v' w' h1 h2 h3 _
    refine h v' w' ⟨?_, fun e => hown.2 (h3.1 e).1⟩ h2
    subst hy
    simpa [bCells] using h1

/-- make([]byte, n). -/
theorem makeBytes (n : Nat) (hn : n ≤ 1000) (w : World) (base : Nat) (hb : base ≤ w.heap.size) (t e : TypeId) (ht : P.underlying t = some (.slice e)) (hinfo : (P.info? e).map (fun i => (i.zero, i.size, i.bytes)) = some (some (.int .u8 0), 1, 1)) :
    ∃ W : World, (Instr.makeSlice t (.int .i64 (n : Int)) (.int .i64 (n : Int))).run P w = .ok (.slice (some ⟨w.heap.size, 0, none⟩) n n) W ∧ OwnBytes W base e (.slice (some ⟨w.heap.size, 0, none⟩) n n) (List.replicate n 0) ∧ Below w.heap.size w W := by
  refine ⟨w.alloc (.cells (madeCells #[.int .u8 0] n) e), run_make_row' (P := P) t e (.int .u8 0) 1 ht hinfo rfl .i64 .i64 n (by omega) (by omega) w, ⟨?_, by simp⟩, (Below.refl _ _).alloc (Nat.le_refl _) _⟩
  have hl : (madeCells #[.int .u8 0] n).toList = bCells (List.replicate n 0) := by
    apply List.ext_getElem
    · simp [bCells, madeCells]
    · intro i h1 h2
      simp [madeCells, bCells, Nat.mod_one]
  have := World.ownsRow_lit (base := base) (e := e) (size := 1) w (madeCells #[.int .u8 0] n) n hb (by unfold maxLen; omega) (by simp [madeCells])
  rw [hl] at this
  simpa using this
end

theorem OwnBytes.store {w : World} {base g cap n : Nat} {e : TypeId} {bs : List UInt8} (hn : n = bs.length) (h : OwnBytes w base e (.slice (some ⟨g, 0, none⟩) n cap) bs) (j : Nat) (y : Int) (b : UInt8) (hy : y = (b.toNat : Int)) :
    OwnBytes (w.setCell ⟨g, j, none⟩ (.int .u8 y)) base e (.slice (some ⟨g, 0, none⟩) n cap) (bs.set j b) ∧ w.grownBy (w.setCell ⟨g, j, none⟩ (.int .u8 y)) (some g) := by
  subst hn hy
  have := World.ownsRow.stored (g := g) (cap := cap) h.1 j (.int .u8 (b.toNat : Int))
  refine ⟨⟨?_, h.2⟩, this.2⟩
  rw [List.length_set]
  simpa [bCells, List.map_set] using this.1
theorem OwnBytes.at {w : World} {base g cap n : Nat} {e : TypeId} {bs : List UInt8} (hn : n = bs.length) (h : OwnBytes w base e (.slice (some ⟨g, 0, none⟩) n cap) bs) (j : Nat) (hj : j < n) :
    (∃ u, w.cell? ⟨g, j, none⟩ = some u) ∧ w.frozen? ⟨g, j, none⟩ = false := by
  subst hn
  refine ⟨⟨.int .u8 (bs[j].toNat : Int), ?_⟩, World.ownsRow.frozenAt (g := g) (cap := cap) h.1 j⟩
  rw [World.ownsRow.cellAt (g := g) (cap := cap) h.1 j (by simpa using hj)]
  simp [bCells, hj]
end Go.Proofs.Ytojbghmlcgadeab
