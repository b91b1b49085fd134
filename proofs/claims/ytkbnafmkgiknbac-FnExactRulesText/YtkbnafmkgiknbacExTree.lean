/-
  Expressions as trees: how they lie in cells, their nodes, and what reading one in memory says of its cells. Plain laws over any program. No statement is proved here.
-/
import Derived.Test.YtkbnafmkgiknbacDat
namespace Go.Proofs.Ytkbnafmkgiknbac
open Go.RowKit

/-- An expression. -/
inductive Ex where
  | mk (kind : Int) (text : ByteArray) (kids : List Ex)
def Ex.kind : Ex → Int | .mk k _ _ => k
def Ex.text : Ex → ByteArray | .mk _ t _ => t
def Ex.kids : Ex → List Ex | .mk _ _ ks => ks
theorem Ex.kind_mk (k : Int) (t : ByteArray) (ks : List Ex) : (Ex.mk k t ks).kind = k := rfl
theorem Ex.text_mk (k : Int) (t : ByteArray) (ks : List Ex) : (Ex.mk k t ks).text = t := rfl
theorem Ex.kids_mk (k : Int) (t : ByteArray) (ks : List Ex) : (Ex.mk k t ks).kids = ks := rfl

mutual
def Ex.cells : Ex → List Dat
  | .mk k t ks => [.val (.int .i64 k), .val (.string t), .sl ks.length (Ex.cellsL ks)]
def Ex.cellsL : List Ex → List Dat
  | [] => []
  | x :: xs => x.cells ++ Ex.cellsL xs
end
theorem Ex.cellsL_eq (xs : List Ex) : Ex.cellsL xs = xs.flatMap Ex.cells := by
  induction xs with
  | nil => simp [Ex.cellsL]
  | cons x xs ih => simp [Ex.cellsL, ih]
/-- A list of expressions, read through. -/
def exD (xs : List Ex) : Dat := .sl xs.length (xs.flatMap Ex.cells)
theorem Ex.cells_eq (x : Ex) : x.cells = [.val (.int .i64 x.kind), .val (.string x.text), exD x.kids] := by
  cases x; simp [Ex.cells, Ex.cellsL_eq, exD, Ex.kind, Ex.text, Ex.kids]
theorem Ex.cells_len (x : Ex) : x.cells.length = 3 := by rw [Ex.cells_eq]; rfl

mutual
def Ex.nodes : Ex → Nat
  | .mk _ _ ks => 1 + Ex.nodesL ks
def Ex.nodesL : List Ex → Nat
  | [] => 0
  | x :: xs => x.nodes + Ex.nodesL xs
end
theorem Ex.nodes_eq (x : Ex) : x.nodes = 1 + Ex.nodesL x.kids := by cases x; simp [Ex.nodes, Ex.kids]
theorem Ex.nodesL_append (xs ys : List Ex) : Ex.nodesL (xs ++ ys) = Ex.nodesL xs + Ex.nodesL ys := by
  induction xs with
  | nil => simp [Ex.nodesL]
  | cons x xs ih => simp [Ex.nodesL, ih]; omega
theorem Ex.nodes_le {xs : List Ex} {i : Nat} (h : i < xs.length) : xs[i].nodes ≤ Ex.nodesL xs := by
  induction xs generalizing i with
  | nil => simp at h
  | cons x xs ih =>
    cases i with
    | zero => simp [Ex.nodesL]
    | succ i => have := ih (i := i) (by simpa using h); simp [Ex.nodesL]; omega
theorem Ex.kids_lt {xs : List Ex} {i : Nat} (h : i < xs.length) : Ex.nodesL xs[i].kids < Ex.nodesL xs := by
  have h1 := Ex.nodes_le h
  rw [Ex.nodes_eq] at h1; omega
theorem Ex.length_le (xs : List Ex) : xs.length ≤ Ex.nodesL xs := by
  induction xs with
  | nil => simp
  | cons x xs ih => have := Ex.nodes_eq x; simp [Ex.nodesL]; omega
theorem Ex.nodesL_take {xs : List Ex} {k : Nat} (h : k < xs.length) : Ex.nodesL (xs.take (k + 1)) = Ex.nodesL (xs.take k) + xs[k].nodes := by
  rw [List.take_succ_eq_append_getElem h, Ex.nodesL_append]; simp [Ex.nodesL]
theorem Ex.nodesL_take_le (xs : List Ex) (k : Nat) : Ex.nodesL (xs.take k) ≤ Ex.nodesL xs := by
  have h : Ex.nodesL xs = Ex.nodesL (xs.take k) + Ex.nodesL (xs.drop k) := by rw [← Ex.nodesL_append, List.take_append_drop]
  omega

/-- The three cells of an expression in a list that is read. -/
theorem RD.ex {w : World} {a : Option Addr} {n c : Nat} {xs : List Ex} (h : RD w (.slice a n c) (exD xs)) {i : Nat} (hi : i < xs.length) :
    ∃ b off, a = some ⟨b, off, none⟩ ∧ b < w.heap.size ∧ w.cell? ⟨b, off + i * 3, none⟩ = some (.int .i64 xs[i].kind) ∧ w.cell? ⟨b, off + i * 3 + 1, none⟩ = some (.string xs[i].text) ∧
      ∃ a' c', w.cell? ⟨b, off + i * 3 + 2, none⟩ = some (.slice a' xs[i].kids.length c') ∧ RD w (.slice a' xs[i].kids.length c') (exD xs[i].kids) := by
  have hl : (xs.flatMap Ex.cells).length = xs.length * 3 := flat_length Ex.cells_len xs
  have key : ∀ j (hj : j < 3) (h' : i * 3 + j < (xs.flatMap Ex.cells).length), (xs.flatMap Ex.cells)[i * 3 + j]'h' = (xs[i].cells)[j]'(by rw [Ex.cells_len]; exact hj) := by
    intro j hj h'
    have := flat_get Ex.cells_len hi hj
    rw [List.getElem?_eq_getElem h', List.getElem?_eq_getElem (by rw [Ex.cells_len]; exact hj)] at this
    exact Option.some.inj this
  have l0 : i * 3 + 0 < (xs.flatMap Ex.cells).length := by omega
  have l1 : i * 3 + 1 < (xs.flatMap Ex.cells).length := by omega
  have l2 : i * 3 + 2 < (xs.flatMap Ex.cells).length := by omega
  obtain ⟨_, b, off, rfl, hb, u0, c0, r0⟩ := RD.at h l0
  obtain ⟨_, b1, off1, e1, _, u1, c1, r1⟩ := RD.at h l1
  obtain ⟨_, b2, off2, e2, _, u2, c2, r2⟩ := RD.at h l2
  cases e1
  cases e2
  rw [key 0 (by decide) l0] at r0
  rw [key 1 (by decide) l1] at r1
  rw [key 2 (by decide) l2] at r2
  simp only [Ex.cells_eq, List.getElem_cons_zero, List.getElem_cons_succ] at r0 r1 r2
  rw [r0.val_eq] at c0
  rw [r1.val_eq] at c1
  obtain ⟨a', c', rfl⟩ := RD.slice (m := xs[i].kids.length) r2
  exact ⟨b, off, rfl, hb, c0, by rw [Nat.add_assoc]; exact c1, a', c', by rw [Nat.add_assoc]; exact c2, r2⟩

theorem RD.exlen {w : World} {a : Option Addr} {n c : Nat} {xs : List Ex} (h : RD w (.slice a n c) (exD xs)) : n = xs.length := RD.len h

theorem Ex.flat_at {xs : List Ex} {i j : Nat} (hi : i < xs.length) (hj : j < 3) (h' : i * 3 + j < (xs.flatMap Ex.cells).length) : (xs.flatMap Ex.cells)[i * 3 + j]'h' = (xs[i].cells)[j]'(by rw [Ex.cells_len]; exact hj) := by
  have := flat_get Ex.cells_len hi hj
  rw [List.getElem?_eq_getElem h', List.getElem?_eq_getElem (by rw [Ex.cells_len]; exact hj)] at this
  exact Option.some.inj this
theorem Ex.flat_lt {xs : List Ex} {i j : Nat} (hi : i < xs.length) (hj : j < 3) : i * 3 + j < (xs.flatMap Ex.cells).length := by
  rw [flat_length Ex.cells_len]; exact at_lt hi hj

theorem OD.exKind {w : World} {base g n c : Nat} {L : List Ex} {S : Nat → Prop} (h : OD w base (.slice (some ⟨g, 0, none⟩) n c) (exD L) S) {i : Nat} (hi : i < L.length) (z : Int) :
    OD (w.setCell ⟨g, i * 3, none⟩ (.int .i64 z)) base (.slice (some ⟨g, 0, none⟩) n c) (exD (L.set i (.mk z L[i].text L[i].kids))) S ∧ Within w (w.setCell ⟨g, i * 3, none⟩ (.int .i64 z)) S ∧ (∃ u, w.cell? ⟨g, i * 3, none⟩ = some u) ∧ w.frozen? ⟨g, i * 3, none⟩ = false := by
  have l0 := Ex.flat_lt hi (show 0 < 3 by decide)
  have e0 : (L.flatMap Ex.cells)[i * 3 + 0]'l0 = .val (.int .i64 L[i].kind) := by rw [Ex.flat_at hi (by decide) l0]; simp [Ex.cells_eq]
  obtain ⟨s1, s2⟩ := OD.store h l0 _ (.int .i64 z) e0
  obtain ⟨_, g', hg', _, u, T, hc, hf, _⟩ := OD.at h l0
  cases hg'
  rw [flat_set Ex.cells_len hi (by decide) _ (.mk z L[i].text L[i].kids) (by simp [Ex.cells_eq, Ex.kind, Ex.text, Ex.kids])] at s1
  refine ⟨?_, s2, ⟨u, hc⟩, hf⟩
  simpa [exD] using s1

theorem OD.exText {w : World} {base g n c : Nat} {L : List Ex} {S : Nat → Prop} (h : OD w base (.slice (some ⟨g, 0, none⟩) n c) (exD L) S) {i : Nat} (hi : i < L.length) (z : ByteArray) :
    OD (w.setCell ⟨g, i * 3 + 1, none⟩ (.string z)) base (.slice (some ⟨g, 0, none⟩) n c) (exD (L.set i (.mk L[i].kind z L[i].kids))) S ∧ Within w (w.setCell ⟨g, i * 3 + 1, none⟩ (.string z)) S ∧ (∃ u, w.cell? ⟨g, i * 3 + 1, none⟩ = some u) ∧ w.frozen? ⟨g, i * 3 + 1, none⟩ = false := by
  have l0 := Ex.flat_lt hi (show 1 < 3 by decide)
  have e0 : (L.flatMap Ex.cells)[i * 3 + 1]'l0 = .val (.string L[i].text) := by rw [Ex.flat_at hi (by decide) l0]; simp [Ex.cells_eq]
  obtain ⟨s1, s2⟩ := OD.store h l0 _ (.string z) e0
  obtain ⟨_, g', hg', _, u, T, hc, hf, _⟩ := OD.at h l0
  cases hg'
  rw [flat_set Ex.cells_len hi (by decide) _ (.mk L[i].kind z L[i].kids) (by simp [Ex.cells_eq, Ex.kind, Ex.text, Ex.kids])] at s1
  refine ⟨?_, s2, ⟨u, hc⟩, hf⟩
  simpa [exD] using s1

theorem OD.exKids {w : World} {base g n c : Nat} {L : List Ex} {S : Nat → Prop} (h : OD w base (.slice (some ⟨g, 0, none⟩) n c) (exD L) S) {i : Nat} (hi : i < L.length) :
    ∃ a' c' T, w.cell? ⟨g, i * 3 + 2, none⟩ = some (.slice a' L[i].kids.length c') ∧ OD w base (.slice a' L[i].kids.length c') (exD L[i].kids) T ∧ (∀ k, T k → S k) ∧
      ∀ w' ks, OD w' base (.slice a' L[i].kids.length c') (exD ks) T → Within w w' T → OD w' base (.slice (some ⟨g, 0, none⟩) n c) (exD (L.set i (.mk L[i].kind L[i].text ks))) S := by
  have l0 := Ex.flat_lt hi (show 2 < 3 by decide)
  have e0 : (L.flatMap Ex.cells)[i * 3 + 2]'l0 = exD L[i].kids := by rw [Ex.flat_at hi (by decide) l0]; simp [Ex.cells_eq]
  obtain ⟨u, T, hc, ho, hT, _, hput⟩ := OD.into h l0
  rw [e0] at ho
  obtain ⟨a', c', rfl⟩ := RD.slice (m := L[i].kids.length) ho.rd
  refine ⟨a', c', T, hc, ho, hT, fun w' ks h' hw => ?_⟩
  have := hput w' (exD ks) h' hw
  rw [flat_set Ex.cells_len hi (by decide) _ (.mk L[i].kind L[i].text ks) (by simp [Ex.cells_eq, Ex.kind, Ex.text, Ex.kids])] at this
  simpa [exD] using this

theorem OD.exShape {w : World} {base : Nat} {v : Value} {L : List Ex} {S : Nat → Prop} (h : OD w base v (exD L) S) : ∃ a c, v = .slice a L.length c ∧ (L ≠ [] → ∃ g, a = some ⟨g, 0, none⟩) := by
  obtain ⟨a, c, rfl⟩ := RD.slice (m := L.length) h.rd
  refine ⟨a, c, rfl, fun hne => ?_⟩
  have hpos : 0 < L.length := List.length_pos_iff.2 hne
  obtain ⟨_, g, hg, _⟩ := OD.at h (Ex.flat_lt hpos (show 0 < 3 by decide))
  exact ⟨g, hg⟩
end Go.Proofs.Ytkbnafmkgiknbac
