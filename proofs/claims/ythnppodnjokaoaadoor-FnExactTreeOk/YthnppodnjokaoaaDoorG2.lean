/-
  Contracts and plain mathematics, joined: Base, Own, OwnT, Dat, OwnL, HelpLib, Info, Ints, Marks. No statement is proved here.
-/
import Derived.WalkKit
import Derived.WalkSpells
import Derived.WalkLawsBesides
import Derived.Deep.OwnRows
import Derived.Deep.QuietTactic
import Derived.BigQuiet
import Derived.Test.YthnppodnjokaoaaDoorChecked
namespace Go.Proofs.YthnppodnjokaoaaDoor
open Go.RowKit

/-- The address a leads to the integers zs, in cells that are there. -/
def Reads (w : World) (a : Option Addr) (zs : List Int) : Prop :=
  zs = [] ∨ ∃ b off, a = some ⟨b, off, none⟩ ∧ b < w.heap.size ∧ ∀ i, i < zs.length → w.cell? ⟨b, off + i, none⟩ = some (.int .i64 (zs.getD i 0))

theorem Reads.below {w w' : World} {a : Option Addr} {zs : List Int} (h : Reads w a zs) (hb : Below w.heap.size w w') : Reads w' a zs := by
  rcases h with h | ⟨b, off, rfl, hlt, hc⟩
  · exact .inl h
  · exact .inr ⟨b, off, rfl, Nat.lt_of_lt_of_le hlt hb.size, fun i hi => (hb.cell (p := ⟨b, off + i, none⟩) hlt).trans (hc i hi)⟩

theorem Reads.at {w : World} {a : Option Addr} {zs : List Int} (h : Reads w a zs) {i : Nat} (hi : i < zs.length) :
    ∃ b off, a = some ⟨b, off, none⟩ ∧ b < w.heap.size ∧ ∀ i, i < zs.length → w.cell? ⟨b, off + i, none⟩ = some (.int .i64 (zs.getD i 0)) := by
  rcases h with h | h
  · subst h; simp at hi
  · exact h

theorem Reads.of_row {w : World} {b : Nat} {t : TypeId} {zs : List Int} (h : w.rowIs b t zs.length (fun i => .int .i64 (zs.getD i 0))) : Reads w (some ⟨b, 0, none⟩) zs :=
  .inr ⟨b, 0, rfl, h.lt, fun i hi => by simpa using h.cell hi⟩

/-- A slice of integers that came in: nil, or a row of cap cells with the numbers zs, the first len of them its elements. -/
def IsRow (k : IntKind) (w : World) (a : Option Addr) (len cap : Nat) (zs : List Int) : Prop :=
  (a = none ∧ len = 0 ∧ cap = 0 ∧ zs = []) ∨
  ∃ x, a = some x ∧ len ≤ cap ∧ cap ≤ maxLen ∧ zs.length = cap ∧ (∀ i, i < zs.length → w.cell? (x.add i) = some (.int k (zs.getD i 0))) ∧ ∀ n ∈ zs, (Lit.int k n).wf = true

theorem IsRow.reads {w : World} {a : Option Addr} {len cap : Nat} {zs : List Int} (h : IsRow .i64 w a len cap zs) :
    ∃ ys : List Int, len = ys.length ∧ ys.length ≤ 9223372036854775807 ∧ Reads w a ys ∧ ∀ n ∈ ys, (Lit.int .i64 n).wf = true := by
  rcases h with ⟨rfl, rfl, rfl, rfl⟩ | ⟨x, rfl, hl, hm, hz, hc, hw⟩
  · exact ⟨[], rfl, by simp, .inl rfl, by simp⟩
  · have e : (zs.take len).length = len := by simp; omega
    unfold maxLen at hm
    refine ⟨zs.take len, e.symm, by omega, ?_, fun n hn => hw n (List.mem_of_mem_take hn)⟩
    by_cases h0 : len = 0
    · subst h0; exact .inl (by simp)
    · obtain ⟨b, off, spot⟩ := x
      have h1 := hc 0 (by omega)
      have hs : spot = none := by simpa [Addr.add] using World.cell?_spot h1
      subst hs
      refine .inr ⟨b, off, rfl, by simpa [Addr.add] using World.block_lt_of_cell? w _ h1, fun i hi => ?_⟩
      rw [e] at hi
      have := hc i (by omega)
      rw [Addr.add_lit] at this
      rw [this, List.getD_eq_getElem?_getD, List.getD_eq_getElem?_getD, List.getElem?_take, if_pos hi]

theorem below_drew {w : World} (n : Nat) : Below w.heap.size w (w.drewN n) := ⟨rfl, rfl, rfl, Nat.le_refl _, fun _ _ => rfl⟩

theorem rowIs_below {w w' : World} {b : Nat} {t : TypeId} {n : Nat} {f : Nat → Value} (h : w.rowIs b t n f) (hb : Below w.heap.size w w') : w'.rowIs b t n f := h.of_block (hb.block b h.lt)

theorem getD_take {zs : List Int} {k i : Nat} (h : i < k) : (zs.take k).getD i 0 = zs.getD i 0 := by simp [List.getD, h]

theorem ret_bool {a b : Bool} (h : a = b) : Ending.returned (.bool a) = .returned (.bool b) := by rw [h]
theorem ret_int {k : IntKind} {a b : Int} (h : a = b) : Ending.returned (.int k a) = .returned (.int k b) := by rw [h]

/-- Two lists of integers are the same. -/
def eqL (xs ys : List Int) : Bool := decide (xs = ys)
theorem eqL_self (xs : List Int) : eqL xs xs = true := by simp [eqL]
theorem eqL_len {xs ys : List Int} (h : ¬ xs.length = ys.length) : eqL xs ys = false := by
  simp only [eqL, decide_eq_false_iff_not]; intro e; exact h (by rw [e])
theorem eqL_at {xs ys : List Int} {k : Nat} (h1 : k < xs.length) (h2 : k < ys.length) (h : (xs[k] != ys[k]) = true) : eqL xs ys = false := by
  simp only [eqL, decide_eq_false_iff_not]; intro e; subst e; simp at h
theorem take_step {xs ys : List Int} {k : Nat} (h1 : k < xs.length) (h2 : k < ys.length) (h : (xs[k] != ys[k]) = false) (e : xs.take k = ys.take k) : xs.take (k + 1) = ys.take (k + 1) := by
  rw [List.take_succ_eq_append_getElem h1, List.take_succ_eq_append_getElem h2, e]
  simp at h; rw [h]
theorem eqL_end {xs ys : List Int} {k : Nat} (hk : ¬ k < xs.length) (hl : xs.length = ys.length) (e : xs.take k = ys.take k) : eqL xs ys = true := by
  rw [List.take_of_length_le (by omega), List.take_of_length_le (by omega)] at e
  simp [eqL, e]

/-- Each number is above the one ahead of it. -/
def okL (zs : List Int) : Bool := decide (∀ j, j < zs.length - 1 → zs.getD j 0 < zs.getD (j + 1) 0)
def okTo (zs : List Int) (k : Nat) : Prop := ∀ j, j + 1 < k → zs.getD j 0 < zs.getD (j + 1) 0
theorem okTo_one (zs : List Int) : okTo zs 1 := fun j h => by omega
theorem okTo_step {zs : List Int} {k : Nat} (h : okTo zs k) (h1 : 1 ≤ k) (g : zs.getD (k - 1) 0 < zs.getD k 0) : okTo zs (k + 1) := by
  intro j hj
  by_cases e : j + 1 < k
  · exact h j e
  · have : j = k - 1 := by omega
    subst this
    rwa [Nat.sub_add_cancel h1]
theorem okL_end {zs : List Int} {k : Nat} (h : okTo zs k) (hk : ¬ k < zs.length) : okL zs = true := by
  simp only [okL, decide_eq_true_eq]; intro j hj; exact h j (by omega)
theorem okL_no {zs : List Int} {k : Nat} (h1 : 1 ≤ k) (hk : k < zs.length) (g : zs.getD k 0 ≤ zs.getD (k - 1) 0) : okL zs = false := by
  simp only [okL, decide_eq_false_iff_not]; intro h
  have := h (k - 1) (by omega)
  rw [Nat.sub_add_cancel h1] at this
  omega

theorem okTo_step' {zs : List Int} {k : Nat} (h : okTo zs k) (h1 : 1 ≤ k) (hk : k < zs.length) (g : zs[k - 1]?.getD 0 < zs[k]) : okTo zs (k + 1) := okTo_step h h1 (by simpa [List.getD, hk] using g)
theorem okL_no' {zs : List Int} {k : Nat} (h1 : 1 ≤ k) (hk : k < zs.length) (g : zs[k] ≤ zs[k - 1]?.getD 0) : okL zs = false := okL_no h1 hk (by simpa [List.getD, hk] using g)

/-- One of the numbers is x. -/
def hasL (zs : List Int) (x : Int) : Bool := decide (x ∈ zs)
/-- The place of the first x, or -1. -/
def idxL (zs : List Int) (x : Int) : Int := if x ∈ zs then (zs.idxOf x : Int) else -1
theorem notin_step {zs : List Int} {x : Int} {k : Nat} (h : x ∉ zs.take k) (hk : k < zs.length) (g : (zs[k] == x) = false) : x ∉ zs.take (k + 1) := by
  rw [List.take_succ_eq_append_getElem hk]
  simp only [List.mem_append, List.mem_singleton, not_or]
  exact ⟨h, fun e => by simp [e] at g⟩
theorem notin_step' {zs : List Int} {x : Int} {k : Nat} (h : x ∉ zs.take k) (hk : k < zs.length) (g : (x == zs[k]) = false) : x ∉ zs.take (k + 1) :=
  notin_step h hk (by rw [Bool.beq_comm]; exact g)
theorem notin_end {zs : List Int} {x : Int} {k : Nat} (h : x ∉ zs.take k) (hk : ¬ k < zs.length) : x ∉ zs := by
  rwa [List.take_of_length_le (by omega)] at h
theorem in_at {zs : List Int} {x : Int} {k : Nat} (hk : k < zs.length) (g : (zs[k] == x) = true) : x ∈ zs := by
  have : zs[k] = x := by simpa using g
  exact this ▸ List.getElem_mem hk
theorem hasL_yes {zs : List Int} {x : Int} (h : x ∈ zs) : hasL zs x = true := by simp [hasL, h]
theorem hasL_no {zs : List Int} {x : Int} (h : x ∉ zs) : hasL zs x = false := by simp [hasL, h]
theorem idxL_no {zs : List Int} {x : Int} (h : x ∉ zs) : idxL zs x = -1 := by simp [idxL, h]
theorem idxL_at {zs : List Int} {x : Int} {k : Nat} (h : x ∉ zs.take k) (hk : k < zs.length) (g : (x == zs[k]) = true) : idxL zs x = k := by
  have e : x = zs[k] := by simpa using g
  have hm : x ∈ zs := e ▸ List.getElem_mem hk
  rw [idxL, if_pos hm]
  have hs : zs = zs.take k ++ zs.drop k := (List.take_append_drop k zs).symm
  have : zs.idxOf x = k := by
    conv => lhs; rw [hs]
    rw [List.idxOf_append, if_neg h, List.drop_eq_getElem_cons hk, ← e, List.idxOf_cons_self]
    simp; omega
  omega
theorem idxL_geq (zs : List Int) (x : Int) : decide (0 ≤ idxL zs x) = hasL zs x := by
  by_cases h : x ∈ zs <;> simp [idxL, hasL, h]

/-- How two integers stand. -/
def cmpI (x y : Int) : Int := if x < y then -1 else if y < x then 1 else 0
theorem cmpI_lt {x y : Int} (h : x < y) : cmpI x y = -1 := by simp [cmpI, h]
theorem cmpI_gt {x y : Int} (h : y < x) : cmpI x y = 1 := by rw [cmpI, if_neg (by omega), if_pos h]
theorem cmpI_eq {x y : Int} (h1 : y ≤ x) (h2 : x ≤ y) : cmpI x y = 0 := by rw [cmpI, if_neg (by omega), if_neg (by omega)]
/-- How two lists stand: place by place; a beginning is ahead. -/
def cmpL : List Int → List Int → Int
  | [], [] => 0
  | [], _ :: _ => -1
  | _ :: _, [] => 1
  | x :: xs, y :: ys => if x < y then -1 else if y < x then 1 else cmpL xs ys
theorem cmpL_drop {xs ys : List Int} {k : Nat} (h1 : k < xs.length) (h2 : k < ys.length) : cmpL (xs.drop k) (ys.drop k) = if xs[k] < ys[k] then -1 else if ys[k] < xs[k] then 1 else cmpL (xs.drop (k + 1)) (ys.drop (k + 1)) := by
  rw [List.drop_eq_getElem_cons h1, List.drop_eq_getElem_cons h2, cmpL]
theorem cmpL_lt {xs ys : List Int} {k : Nat} (e : cmpL xs ys = cmpL (xs.drop k) (ys.drop k)) (h1 : k < xs.length) (h2 : k < ys.length) (g : xs[k] < ys[k]) : cmpL xs ys = -1 := by
  rw [e, cmpL_drop h1 h2, if_pos g]
theorem cmpL_gt {xs ys : List Int} {k : Nat} (e : cmpL xs ys = cmpL (xs.drop k) (ys.drop k)) (h1 : k < xs.length) (h2 : k < ys.length) (g : ys[k] < xs[k]) : cmpL xs ys = 1 := by
  rw [e, cmpL_drop h1 h2, if_neg (by omega), if_pos g]
theorem cmpL_eq {xs ys : List Int} {k : Nat} (e : cmpL xs ys = cmpL (xs.drop k) (ys.drop k)) (h1 : k < xs.length) (h2 : k < ys.length) (g : ys[k] ≤ xs[k]) (g2 : xs[k] ≤ ys[k]) : cmpL xs ys = cmpL (xs.drop (k + 1)) (ys.drop (k + 1)) := by
  rw [e, cmpL_drop h1 h2, if_neg (by omega), if_neg (by omega)]
theorem cmpL_short {xs ys : List Int} {k : Nat} (e : cmpL xs ys = cmpL (xs.drop k) (ys.drop k)) (h1 : ¬ k < xs.length) (h2 : k < ys.length) : cmpL xs ys = -1 := by
  rw [e, List.drop_eq_nil_of_le (by omega), List.drop_eq_getElem_cons h2, cmpL]
theorem cmpL_long {xs ys : List Int} {k : Nat} (e : cmpL xs ys = cmpL (xs.drop k) (ys.drop k)) (h1 : k < xs.length) (h2 : ¬ k < ys.length) : cmpL xs ys = 1 := by
  rw [e, @List.drop_eq_nil_of_le _ ys _ (by omega), List.drop_eq_getElem_cons h1, cmpL]
theorem cmpL_end {xs ys : List Int} {k : Nat} (e : cmpL xs ys = cmpL (xs.drop k) (ys.drop k)) (h1 : ¬ k < xs.length) (h2 : ¬ k < ys.length) : cmpL xs ys = 0 := by
  rw [e, List.drop_eq_nil_of_le (by omega), List.drop_eq_nil_of_le (by omega), cmpL]

/-- The place of the first number above x, or the end. -/
def placeL (zs : List Int) (x : Int) : Nat := zs.findIdx fun y => decide (x < y)
/-- The same, looked for from m on. -/
def placeFrom (zs : List Int) (x : Int) (m : Nat) : Nat := m + (zs.drop m).findIdx fun y => decide (x < y)
theorem placeFrom_le (zs : List Int) (x : Int) (m : Nat) (h : m ≤ zs.length) : placeFrom zs x m ≤ zs.length := by
  have := List.findIdx_le_length (xs := zs.drop m) (p := fun y => decide (x < y))
  simp only [placeFrom, List.length_drop] at this ⊢; omega
theorem placeL_le (zs : List Int) (x : Int) : placeL zs x ≤ zs.length := List.findIdx_le_length
theorem placeFrom_zero (zs : List Int) (x : Int) : placeFrom zs x 0 = placeL zs x := by simp [placeFrom, placeL]
theorem placeFrom_end (zs : List Int) (x : Int) : placeFrom zs x zs.length = zs.length := by simp [placeFrom]
theorem placeFrom_yes {zs : List Int} {x : Int} {m : Nat} (h : m < zs.length) (g : x < zs[m]) : placeFrom zs x m = m := by
  rw [placeFrom, List.drop_eq_getElem_cons h, List.findIdx_cons]; simp [g]
theorem placeFrom_no {zs : List Int} {x : Int} {m : Nat} (h : m < zs.length) (g : ¬ x < zs[m]) : placeFrom zs x m = placeFrom zs x (m + 1) := by
  rw [placeFrom, List.drop_eq_getElem_cons h, List.findIdx_cons]; simp [g, placeFrom]; omega
/-- x is put in: as it was, where x is there; else ahead of the first number above it, or at the end. -/
def addL (zs : List Int) (x : Int) : List Int := if x ∈ zs then zs else zs.take (placeL zs x) ++ [x] ++ zs.drop (placeL zs x)
theorem addL_yes {zs : List Int} {x : Int} (h : hasL zs x = true) : addL zs x = zs := by
  have : x ∈ zs := by simpa [hasL] using h
  simp [addL, this]
theorem addL_no {zs : List Int} {x : Int} (h : hasL zs x = false) : addL zs x = zs.take (placeL zs x) ++ [x] ++ zs.drop (placeL zs x) := by
  have : x ∉ zs := by simpa [hasL] using h
  simp [addL, this]
theorem addL_length_le (zs : List Int) (x : Int) : (addL zs x).length ≤ zs.length + 1 := by
  unfold addL
  have := placeL_le zs x
  split
  · omega
  · simp; omega

/-- All of ys put into xs, in order. -/
def joinL (xs ys : List Int) : List Int := ys.foldl addL xs
theorem joinL_step {xs ys : List Int} {k : Nat} (h : k < ys.length) : addL (joinL xs (ys.take k)) ys[k] = joinL xs (ys.take (k + 1)) := by
  rw [List.take_succ_eq_append_getElem h, joinL, joinL, List.foldl_append]; rfl
theorem joinL_length_le (xs ys : List Int) : (joinL xs ys).length ≤ xs.length + ys.length := by
  induction ys generalizing xs with
  | nil => simp [joinL]
  | cons y ys ih =>
    have h1 := ih (addL xs y)
    have h2 := addL_length_le xs y
    simp only [joinL, List.foldl_cons, List.length_cons] at h1 ⊢
    omega

end Go.Proofs.YthnppodnjokaoaaDoor
namespace Go.Proofs.YthnppodnjokaoaaDoor
open Go.RowKit

/-- The slice value v, made by the call (in a block from base on, elements of type e), holds the integers xs. -/
def OwnInts (w : World) (base : Nat) (e : TypeId) (v : Value) (xs : List Int) : Prop := w.ownsRow base e 1 v xs.length (xs.map (Value.int .i64))

theorem OwnInts.nil (w : World) (base : Nat) (e : TypeId) : OwnInts w base e (.slice none 0 0) [] := World.ownsRow_nil w base e 1

theorem OwnInts.empty {w : World} {base : Nat} {e : TypeId} (h : base ≤ w.heap.size) : OwnInts (w.alloc (.cells #[] e)) base e (.slice (some ⟨w.heap.size, 0, none⟩) 0 0) [] :=
  World.ownsRow_made w #[] 0 h (by simp [maxLen]) (by simp)

theorem OwnInts.shape {w : World} {base : Nat} {e : TypeId} {v : Value} {xs : List Int} (h : OwnInts w base e v xs) :
    ∃ a cap, v = .slice a xs.length cap ∧ Reads w a xs ∧ (xs ≠ [] → ∃ g, a = some ⟨g, 0, none⟩) := by
  rcases h.2 with ⟨rfl, hn⟩ | ⟨g, cap, cur, rfl, hb, hg, hnc, hcm, hcs, htake⟩
  · have : xs = [] := List.eq_nil_of_length_eq_zero hn
    subst this
    exact ⟨none, 0, rfl, .inl rfl, fun h => absurd rfl h⟩
  · refine ⟨_, _, rfl, .inr ⟨g, 0, rfl, (Array.getElem?_eq_some_iff.1 hg).1, fun i hi => ?_⟩, fun _ => ⟨g, rfl⟩⟩
    have := World.ownsRow.cellAt (g := g) (cap := cap) h i (by simpa using hi)
    rw [Nat.zero_add, this]
    simp [hi]

theorem OwnInts.parts {w : World} {base : Nat} {e : TypeId} {v : Value} {xs : List Int} (h : OwnInts w base e v xs) :
    (v = .slice none 0 0 ∧ xs = []) ∨ ∃ g cap, v = .slice (some ⟨g, 0, none⟩) xs.length cap ∧ xs.length ≤ cap ∧ cap ≤ maxLen ∧ g < w.heap.size ∧ ∀ i, i < xs.length → w.cell? ⟨g, i, none⟩ = some (.int .i64 (xs.getD i 0)) := by
  rcases h.2 with ⟨rfl, hn⟩ | ⟨g, cap, cur, rfl, hb, hg, hnc, hcm, hcs, htake⟩
  · exact .inl ⟨rfl, List.eq_nil_of_length_eq_zero hn⟩
  · refine .inr ⟨g, cap, rfl, hnc, hcm, (Array.getElem?_eq_some_iff.1 hg).1, fun i hi => ?_⟩
    rw [World.ownsRow.cellAt (g := g) (cap := cap) h i (by simpa using hi)]
    simp [hi]

/-- The first numbers of a row. -/
theorem Reads.take {w : World} {a : Option Addr} {zs : List Int} (h : Reads w a zs) (k : Nat) : Reads w a (zs.take k) := by
  rcases h with rfl | ⟨b, off, rfl, hb, hc⟩
  · exact .inl (by simp)
  · refine .inr ⟨b, off, rfl, hb, fun i hi => ?_⟩
    simp only [List.length_take] at hi
    rw [hc i (by omega), getD_take (by omega)]

/-- The numbers of a row from k on, by whatever address, where there is none. -/
theorem Reads.drop {w : World} {g : Nat} {zs : List Int} (hb : g < w.heap.size) (hc : ∀ i, i < zs.length → w.cell? ⟨g, i, none⟩ = some (.int .i64 (zs.getD i 0))) {ad : Option Addr} {k : Nat}
    (h : k < zs.length → ad = some ⟨g, k, none⟩) : Reads w ad (zs.drop k) := by
  by_cases hk : k < zs.length
  · rw [h hk]
    refine .inr ⟨g, k, rfl, hb, fun i hi => ?_⟩
    simp only [List.length_drop] at hi
    rw [hc (k + i) (by omega)]
    simp [List.getD]
  · exact .inl (List.drop_eq_nil_of_le (by omega))

theorem Reads.new (w : World) (x : Int) (e : TypeId) : Reads (w.alloc (.cells #[.int .i64 x] e)) (some ⟨w.heap.size, 0, none⟩) [x] := by
  refine .inr ⟨w.heap.size, 0, rfl, by simp, fun i hi => ?_⟩
  have : i = 0 := by simpa using hi
  subst this
  simp

theorem OwnInts.reads {w : World} {base n cap : Nat} {a : Option Addr} {e : TypeId} {xs : List Int} (h : OwnInts w base e (.slice a n cap) xs) : Reads w a xs := by
  obtain ⟨a', c', he, hr, _⟩ := h.shape
  cases he
  exact hr

theorem OwnInts.lit3 {w : World} {base : Nat} {e : TypeId} (x y z : Int) (h : base ≤ w.heap.size) : OwnInts (w.alloc (.cells #[.int .i64 x, .int .i64 y, .int .i64 z] e)) base e (.slice (some ⟨w.heap.size, 0, none⟩) 3 3) [x, y, z] :=
  World.ownsRow_lit w #[.int .i64 x, .int .i64 y, .int .i64 z] 3 h (by simp [maxLen]) rfl

theorem OwnInts.kept {w w' : World} {base : Nat} {e : TypeId} {v : Value} {xs : List Int} {row : Option Nat} (h : OwnInts w base e v xs) (hg : w.grownBy w' row) (hne : v.ownBlock = none ∨ v.ownBlock ≠ row) : OwnInts w' base e v xs :=
  World.ownsRow.kept h hg hne

theorem grownBy_of_below {w w' : World} (hb : Below w.heap.size w w') (row : Option Nat) : w.grownBy w' row := ⟨hb.os, hb.tape, hb.output, hb.size, fun k hk _ => hb.block k hk⟩

theorem OwnInts.below {w w' : World} {base : Nat} {e : TypeId} {v : Value} {xs : List Int} (h : OwnInts w base e v xs) (hb : Below w.heap.size w w') : OwnInts w' base e v xs :=
  h.kept (grownBy_of_below hb none) (by cases v.ownBlock <;> simp)

theorem OwnInts.alloc {w : World} {base : Nat} {e : TypeId} {v : Value} {xs : List Int} (h : OwnInts w base e v xs) (o : Obj) : OwnInts (w.alloc o) base e v xs := World.ownsRow.alloc h o

theorem OwnInts.block {w : World} {base : Nat} {e : TypeId} {v : Value} {xs : List Int} (h : OwnInts w base e v xs) : ∀ k, v.ownBlock = some k → base ≤ k ∧ k < w.heap.size := World.ownsRow.lt h

theorem OwnInts.base {w : World} {b b' : Nat} {e : TypeId} {v : Value} {xs : List Int} (h : OwnInts w b e v xs) (hb : b' ≤ b) : OwnInts w b' e v xs := by
  refine ⟨h.1, ?_⟩
  rcases h.2 with h2 | ⟨g, cap, cur, rfl, h3, r⟩
  · exact .inl h2
  · exact .inr ⟨g, cap, cur, rfl, Nat.le_trans hb h3, r⟩

theorem OwnInts.past {w w1 w2 : World} {base : Nat} {e : TypeId} {v : Value} {xs : List Int} {row : Option Nat} (h : OwnInts w base e v xs) (hb : Below w.heap.size w w1) (hg : w1.grownBy w2 row) (hr : ∀ k, row = some k → w.heap.size ≤ k) : OwnInts w2 base e v xs :=
  h.below (hb.grown hg hb.size hr)

/-- What was made earlier lies elsewhere than what was made later. -/
theorem OwnInts.apart {w1 w2 : World} {b1 b2 : Nat} {e : TypeId} {v1 v2 : Value} {xs ys : List Int} (h1 : OwnInts w1 b1 e v1 xs) (h2 : OwnInts w2 b2 e v2 ys) (hb : w1.heap.size ≤ b2) :
    (v1.ownBlock = none ∨ v1.ownBlock ≠ v2.ownBlock) ∧ (v2.ownBlock = none ∨ v2.ownBlock ≠ v1.ownBlock) := by
  have g1 := h1.block
  have g2 := h2.block
  cases e1 : v1.ownBlock with
  | none => cases e2 : v2.ownBlock <;> simp
  | some k1 => cases e2 : v2.ownBlock with
    | none => simp
    | some k2 =>
      have a1 := g1 k1 e1
      have a2 := g2 k2 e2
      have : k1 ≠ k2 := by omega
      have : k2 ≠ k1 := by omega
      exact ⟨.inr (by simpa using ‹k1 ≠ k2›), .inr (by simpa using ‹k2 ≠ k1›)⟩

theorem OwnInts.of_row {w : World} {b base : Nat} {e : TypeId} {zs : List Int} (h : w.rowIs b e zs.length (fun i => .int .i64 (zs.getD i 0))) (hb : base ≤ b) (hm : zs.length ≤ maxLen) :
    OwnInts w base e (.slice (some ⟨b, 0, none⟩) zs.length zs.length) zs := by
  obtain ⟨c, hc, hn, hf⟩ := h
  refine ⟨by simp, .inr ⟨b, zs.length, c, rfl, hb, hc, Nat.le_refl _, hm, by simpa using hn, ?_⟩⟩
  apply List.ext_getElem?
  intro i
  rw [Nat.mul_one, List.getElem?_take]
  by_cases hi : i < zs.length
  · rw [if_pos hi]
    have := hf i hi
    simp only [Array.getElem?_toList, this]
    simp [hi]
  · rw [if_neg hi, List.getElem?_eq_none (by rw [List.length_map]; omega)]

section
variable {P : Program} (w : World)

theorem run_append_none (t ty e : TypeId) (i : TypeInfo) (ht : P.underlying t = some (.slice e)) (hi : P.info? e = some i) (base : Nat) (v : Value) (n : Nat) (xs : List Value) (c : Nat) (hown : w.ownsRow base e 1 v n xs) :
    (Builtin.append_ #[t, t] ty #[v, .slice none 0 c]).run P w = .ok v w := by
  rcases hown.2 with ⟨rfl, rfl⟩ | ⟨g, cap, cur, rfl, _, _, hnc, _⟩
  · simp [Builtin.append_, run_underlying ht, sizeOf, typeInfo, hi, Builtin.lenOf, Builtin.firstCells]
  · simp [Builtin.append_, run_underlying ht, sizeOf, typeInfo, hi, Builtin.lenOf, Builtin.firstCells, hnc, storeCells]

theorem run_append_ints (base : Nat) (t ty e : TypeId) (ht : P.underlying t = some (.slice e)) (hinfo : (P.info? e).map (fun i => (i.zero, i.size, i.bytes)) = some (some (.int .i64 0), 1, 8))
    (v : Value) (xs : List Int) (hown : OwnInts w base e v xs) (ad : Option Addr) (c : Nat) (news : List Int) (hnews : Reads w ad news) (hlen : xs.length + news.length ≤ 1099511627776) (hbase : base ≤ w.heap.size) :
    ∃ v' w', (Builtin.append_ #[t, t] ty #[v, .slice ad news.length c]).run P w = .ok v' w' ∧ OwnInts w' base e v' (xs ++ news) ∧ w.grownBy w' v.ownBlock := by
  obtain ⟨i, hi, hz0, hz1, hz2⟩ := info_parts hinfo
  rcases hnews with rfl | ⟨b, off, rfl, hb, hc⟩
  · cases ad with
    | none => exact ⟨v, w, run_append_none w t ty e i ht hi base v _ _ c hown, by simpa using hown, World.grownBy.refl _ _⟩
    | some ad =>
      obtain ⟨v', w', h1, h2, h3, _⟩ := run_append_own (P := P) w base t ty e i (.int .i64 0) 1 8 ht hi hz0 hz1 hz2 rfl (by decide) v _ _ hown ad 0 c [] rfl (by simp) (by simp) (by unfold maxLen; simp at hlen; omega) (by simp at hlen; omega) hbase
      exact ⟨v', w', h1, by simpa [OwnInts] using h2, h3⟩
  · obtain ⟨v', w', h1, h2, h3, _⟩ := run_append_own (P := P) w base t ty e i (.int .i64 0) 1 8 ht hi hz0 hz1 hz2 rfl (by decide) v _ _ hown ⟨b, off, none⟩ news.length c (news.map (Value.int .i64)) (by simp)
      (by
        intro j u hu
        have hj : j < news.length := by have := (List.getElem?_eq_some_iff.1 hu).1; simpa using this
        rw [Addr.add_lit, hc j hj]
        simp [hj] at hu
        simp [hj, hu])
      (ints_oneCell _ _) (by unfold maxLen; omega) (by omega) hbase
    exact ⟨v', w', h1, by simpa [OwnInts] using h2, h3⟩

theorem wpList_append_ints {ops : Array Oper} {rest : List Oper} {o : Oper} {a : Act} {Q : Exit → Act → World → Prop} (hgd : o.guard = none) (s x : Operand) (t : TypeId)
    (ho : o.op = .call { callee := .builtin .append, args := #[s, x], argTypes := #[t, t] })
    (base : Nat) (e : TypeId) (ht : P.underlying t = some (.slice e)) (hinfo : (P.info? e).map (fun i => (i.zero, i.size, i.bytes)) = some (some (.int .i64 0), 1, 8))
    (v : Value) (xs : List Int) (hs : a.eval s = v) (hown : OwnInts w base e v xs) (ad : Option Addr) (n c : Nat) (news : List Int) (hx : a.eval x = .slice ad n c) (hn : n = news.length) (hnews : Reads w ad news)
    (hlen : xs.length + news.length ≤ 1099511627776) (hbase : base ≤ w.heap.size)
    (h : ∀ v' w', OwnInts w' base e v' (xs ++ news) → w.grownBy w' v.ownBlock → wpList P ops Q rest (a.put o.dst v') w') : wpList P ops Q (o :: rest) a w := by
  refine wpList_plain hgd fun K hK => ?_
  subst hn
  obtain ⟨v', w', hr, h2, h3⟩ := run_append_ints (P := P) w base t o.type e ht hinfo v xs hown ad c news hnews hlen hbase
  unfold Oper.wp execOp
  simp only [ho, resolve, invoke, builtin, Sem.run_bind, Sem.run_pure, Result.andThen_ok, List.map_toArray, List.map_cons, List.map_nil, hs, hx, hr]
  exact hK _ _ (h v' w' h2 h3)

theorem wpList_make_ints {ops : Array Oper} {rest : List Oper} {o : Oper} {a : Act} {Q : Exit → Act → World → Prop} (hgd : o.guard = none) (l c : Operand) (t : TypeId) (ho : o.op = Op.makeSlice t l c)
    (base : Nat) (e : TypeId) (ht : P.underlying t = some (.slice e)) (hinfo : (P.info? e).map (fun i => (i.zero, i.size, i.bytes)) = some (some (.int .i64 0), 1, 8))
    (C : Int) (n : Nat) (hl : a.eval l = .int .i64 0) (hc : a.eval c = .int .i64 C) (hC : C = n) (hn : n ≤ 1099511627776) (hbase : base ≤ w.heap.size)
    (h : ∀ v' w', OwnInts w' base e v' [] → w.grownBy w' none → wpList P ops Q rest (a.put o.dst v') w') : wpList P ops Q (o :: rest) a w := by
  refine wpList_plain hgd fun K hK => ?_
  subst hC
  obtain ⟨i, hi, hz0, hz1, hz2⟩ := info_parts hinfo
  obtain ⟨w', hr, h2, h3⟩ := run_make_own (P := P) w base t e i (.int .i64 0) 1 ht hi hz0 hz1 .i64 .i64 n (by rw [hz2]; omega) (by unfold maxLen; omega) hbase
  unfold Oper.wp
  simp only [execOp, ho, hl, hc, hr, Sem.run_bind, Sem.run_pure, Result.andThen_ok]
  exact hK _ _ (h _ w' h2 h3)
end

/-- The n integers from k on. -/
def marks (k : Int) : Nat → List Int
  | 0 => []
  | n + 1 => marks k n ++ [k + n]
theorem marks_length (k : Int) (n : Nat) : (marks k n).length = n := by
  induction n with
  | zero => rfl
  | succ n ih => simp [marks, ih]
theorem marks_get (k : Int) (n i : Nat) (h : i < n) : (marks k n)[i]? = some (k + i) := by
  induction n with
  | zero => omega
  | succ n ih =>
    rw [marks]
    by_cases e : i < n
    · rw [List.getElem?_append_left (by rw [marks_length]; exact e)]; exact ih e
    · have : i = n := by omega
      subst this
      rw [List.getElem?_append_right (by rw [marks_length]; exact Nat.le_refl _), marks_length]; simp

theorem set_step {k : Int} {xs : List Int} {j : Nat} (h : j < xs.length) : (marks k j ++ xs.drop j).set j (k + j) = marks k (j + 1) ++ xs.drop (j + 1) := by
  rw [List.set_append_right _ _ (by rw [marks_length]; exact Nat.le_refl _), marks_length, Nat.sub_self, List.drop_eq_getElem_cons h, List.set_cons_zero, marks]
  simp

theorem OwnInts.store {w : World} {base g cap : Nat} {e : TypeId} {xs : List Int} {n : Nat} (hn : n = xs.length) (h : OwnInts w base e (.slice (some ⟨g, 0, none⟩) n cap) xs) (j : Nat) (x : Int) :
    OwnInts (w.setCell ⟨g, j, none⟩ (.int .i64 x)) base e (.slice (some ⟨g, 0, none⟩) n cap) (xs.set j x) ∧ w.grownBy (w.setCell ⟨g, j, none⟩ (.int .i64 x)) (some g) := by
  subst hn
  have := World.ownsRow.stored (g := g) (cap := cap) h j (.int .i64 x)
  refine ⟨?_, this.2⟩
  unfold OwnInts
  rw [List.length_set]
  simpa [List.map_set] using this.1

theorem OwnInts.at {w : World} {base g cap : Nat} {e : TypeId} {xs : List Int} {n : Nat} (hn : n = xs.length) (h : OwnInts w base e (.slice (some ⟨g, 0, none⟩) n cap) xs) (j : Nat) (hj : j < n) :
    (∃ u, w.cell? ⟨g, j, none⟩ = some u) ∧ w.frozen? ⟨g, j, none⟩ = false := by
  subst hn
  refine ⟨⟨.int .i64 xs[j], ?_⟩, World.ownsRow.frozenAt (g := g) (cap := cap) h j⟩
  rw [World.ownsRow.cellAt (g := g) (cap := cap) h j (by simpa using hj)]
  simp [hj]

theorem step_length {k : Int} {xs : List Int} {j : Nat} (h : j ≤ xs.length) : xs.length = (marks k j ++ xs.drop j).length := by
  rw [List.length_append, marks_length, List.length_drop]; omega

theorem grownBy_trans {w1 w2 w3 : World} {row : Option Nat} (h : w1.grownBy w2 row) (g : w2.grownBy w3 row) : w1.grownBy w3 row :=
  ⟨g.os.trans h.os, g.tape.trans h.tape, g.output.trans h.output, Nat.le_trans h.size g.size, fun k hk hne => (g.block k (Nat.lt_of_lt_of_le hk h.size) hne).trans (h.block k hk hne)⟩
end Go.Proofs.YthnppodnjokaoaaDoor
namespace Go.Proofs.YthnppodnjokaoaaDoor
open Go.RowKit

/-- How an element lies in cells. -/
structure Enc (α : Type) where
  size : Nat
  cells : α → List Value
  len : ∀ x, (cells x).length = size
  one : ∀ x, ∀ u ∈ cells x, u.oneCell' = true
  pos : 0 < size

section
variable {α : Type} (E : Enc α)

def Enc.row (xs : List α) : List Value := xs.flatMap E.cells

theorem Enc.row_length (xs : List α) : (E.row xs).length = xs.length * E.size := by
  induction xs with
  | nil => simp [Enc.row]
  | cons x xs ih =>
    have : E.row (x :: xs) = E.cells x ++ E.row xs := by simp [Enc.row]
    rw [this, List.length_append, ih, E.len, List.length_cons, Nat.add_mul]; omega

theorem Enc.row_append (xs ys : List α) : E.row (xs ++ ys) = E.row xs ++ E.row ys := by simp [Enc.row]

theorem Enc.row_one (x : α) : E.row [x] = E.cells x := by simp [Enc.row]

theorem Enc.row_split {xs : List α} {i : Nat} (h : i < xs.length) : E.row xs = E.row (xs.take i) ++ (E.cells xs[i] ++ E.row (xs.drop (i + 1))) := by
  conv => lhs; rw [← List.take_append_drop i xs, List.drop_eq_getElem_cons h]
  rw [Enc.row_append]; rfl

theorem Enc.row_get {xs : List α} {i : Nat} (h : i < xs.length) {j : Nat} (hj : j < E.size) : (E.row xs)[i * E.size + j]? = (E.cells xs[i])[j]? := by
  have hl : (E.row (xs.take i)).length = i * E.size := by rw [E.row_length, List.length_take, Nat.min_eq_left (by omega)]
  rw [E.row_split h, List.getElem?_append_right (by omega), hl, Nat.add_sub_cancel_left, List.getElem?_append_left (by rw [E.len]; exact hj)]

theorem Enc.row_set {xs : List α} {i : Nat} (h : i < xs.length) {j : Nat} (hj : j < E.size) (u : Value) (x : α) (hx : E.cells x = (E.cells xs[i]).set j u) : (E.row xs).set (i * E.size + j) u = E.row (xs.set i x) := by
  have hl : (E.row (xs.take i)).length = i * E.size := by rw [E.row_length, List.length_take, Nat.min_eq_left (by omega)]
  have hs : (xs.set i x) = xs.take i ++ x :: xs.drop (i + 1) := by rw [List.set_eq_take_append_cons_drop, if_pos h]
  rw [E.row_split h, List.set_append_right _ _ (by omega), hl, Nat.add_sub_cancel_left, List.set_append_left _ _ (by rw [E.len]; exact hj), ← hx, hs, Enc.row_append]
  simp [Enc.row]

theorem Enc.row_oneCell (xs : List α) : ∀ u ∈ E.row xs, u.oneCell' = true := by
  intro u hu
  obtain ⟨x, _, hx⟩ := List.mem_flatMap.1 hu
  exact E.one x u hx

/-- The address a leads to the elements zs, in cells that are there. -/
def ReadsT (w : World) (a : Option Addr) (zs : List α) : Prop :=
  zs = [] ∨ ∃ b off, a = some ⟨b, off, none⟩ ∧ b < w.heap.size ∧ ∀ i, i < zs.length * E.size → w.cell? ⟨b, off + i, none⟩ = (E.row zs)[i]?

variable {E}
theorem ReadsT.below {w w' : World} {a : Option Addr} {zs : List α} (h : ReadsT E w a zs) (hb : Below w.heap.size w w') : ReadsT E w' a zs := by
  rcases h with h | ⟨b, off, rfl, hlt, hc⟩
  · exact .inl h
  · exact .inr ⟨b, off, rfl, Nat.lt_of_lt_of_le hlt hb.size, fun i hi => (hb.cell (p := ⟨b, off + i, none⟩) hlt).trans (hc i hi)⟩

theorem ReadsT.at {w : World} {a : Option Addr} {zs : List α} (h : ReadsT E w a zs) {i : Nat} (hi : i < zs.length) :
    ∃ b off, a = some ⟨b, off, none⟩ ∧ b < w.heap.size ∧ ∀ j, j < E.size → w.cell? ⟨b, off + (i * E.size + j), none⟩ = (E.cells zs[i])[j]? := by
  rcases h with h | ⟨b, off, rfl, hlt, hc⟩
  · subst h; simp at hi
  · refine ⟨b, off, rfl, hlt, fun j hj => ?_⟩
    have h1 : (i + 1) * E.size ≤ zs.length * E.size := Nat.mul_le_mul_right _ hi
    rw [Nat.add_mul] at h1
    rw [hc _ (by omega), E.row_get hi hj]

theorem ReadsT.where {w : World} {a : Option Addr} {zs : List α} (h : ReadsT E w a zs) (hne : zs ≠ []) :
    ∃ b off, a = some ⟨b, off, none⟩ ∧ b < w.heap.size ∧ ∀ i (hi : i < zs.length) j, j < E.size → w.cell? ⟨b, off + (i * E.size + j), none⟩ = (E.cells zs[i])[j]? := by
  rcases h with h | ⟨b, off, rfl, hlt, hc⟩
  · exact absurd h hne
  · refine ⟨b, off, rfl, hlt, fun i hi j hj => ?_⟩
    have h1 : (i + 1) * E.size ≤ zs.length * E.size := Nat.mul_le_mul_right _ hi
    rw [Nat.add_mul] at h1
    rw [hc _ (by omega), E.row_get hi hj]

theorem ReadsT.new (w : World) (x : α) (e : TypeId) (cs : Array Value) (hcs : cs.toList = E.cells x) : ReadsT E (w.alloc (.cells cs e)) (some ⟨w.heap.size, 0, none⟩) [x] := by
  refine .inr ⟨w.heap.size, 0, rfl, by simp, fun i hi => ?_⟩
  rw [E.row_one, Nat.zero_add, ← hcs, cell_of_row _ _ i cs e (0, 0) (heap_alloc_new w _)]
  simp

/-- The slice value v, made by the call (in a block from base on, elements of type e), holds the elements xs. -/
def OwnT (E : Enc α) (w : World) (base : Nat) (e : TypeId) (v : Value) (xs : List α) : Prop := w.ownsRow base e E.size v xs.length (E.row xs)

theorem OwnT.nil (w : World) (base : Nat) (e : TypeId) : OwnT E w base e (.slice none 0 0) [] := World.ownsRow_nil w base e E.size

theorem OwnT.empty {w : World} {base : Nat} {e : TypeId} (h : base ≤ w.heap.size) : OwnT E (w.alloc (.cells #[] e)) base e (.slice (some ⟨w.heap.size, 0, none⟩) 0 0) [] :=
  World.ownsRow_made w #[] 0 h (by simp [maxLen]) (by simp)

theorem OwnT.shape {w : World} {base : Nat} {e : TypeId} {v : Value} {xs : List α} (h : OwnT E w base e v xs) :
    ∃ a cap, v = .slice a xs.length cap ∧ ReadsT E w a xs ∧ (xs ≠ [] → ∃ g, a = some ⟨g, 0, none⟩) ∧ xs.length ≤ cap ∧ cap ≤ maxLen := by
  rcases h.2 with ⟨rfl, hn⟩ | ⟨g, cap, cur, rfl, hb, hg, hnc, hcm, hcs, htake⟩
  · have : xs = [] := List.eq_nil_of_length_eq_zero hn
    subst this
    exact ⟨none, 0, rfl, .inl rfl, fun h => absurd rfl h, Nat.le_refl _, by simp [maxLen]⟩
  · refine ⟨_, _, rfl, .inr ⟨g, 0, rfl, (Array.getElem?_eq_some_iff.1 hg).1, fun i hi => ?_⟩, fun _ => ⟨g, rfl⟩, hnc, hcm⟩
    rw [Nat.zero_add]
    exact World.ownsRow.cellAt (g := g) (cap := cap) h i hi

theorem OwnT.reads {w : World} {base n cap : Nat} {a : Option Addr} {e : TypeId} {xs : List α} (h : OwnT E w base e (.slice a n cap) xs) : ReadsT E w a xs ∧ n = xs.length := by
  obtain ⟨a', c', he, hr, _⟩ := h.shape
  cases he
  exact ⟨hr, rfl⟩

theorem OwnT.kept {w w' : World} {base : Nat} {e : TypeId} {v : Value} {xs : List α} {row : Option Nat} (h : OwnT E w base e v xs) (hg : w.grownBy w' row) (hne : v.ownBlock = none ∨ v.ownBlock ≠ row) : OwnT E w' base e v xs :=
  World.ownsRow.kept h hg hne

theorem OwnT.below {w w' : World} {base : Nat} {e : TypeId} {v : Value} {xs : List α} (h : OwnT E w base e v xs) (hb : Below w.heap.size w w') : OwnT E w' base e v xs :=
  h.kept (grownBy_of_below hb none) (by cases v.ownBlock <;> simp)

theorem OwnT.alloc {w : World} {base : Nat} {e : TypeId} {v : Value} {xs : List α} (h : OwnT E w base e v xs) (o : Obj) : OwnT E (w.alloc o) base e v xs := World.ownsRow.alloc h o

theorem OwnT.block {w : World} {base : Nat} {e : TypeId} {v : Value} {xs : List α} (h : OwnT E w base e v xs) : ∀ k, v.ownBlock = some k → base ≤ k ∧ k < w.heap.size := World.ownsRow.lt h

theorem OwnT.base {w : World} {b b' : Nat} {e : TypeId} {v : Value} {xs : List α} (h : OwnT E w b e v xs) (hb : b' ≤ b) : OwnT E w b' e v xs := by
  refine ⟨h.1, ?_⟩
  rcases h.2 with h2 | ⟨g, cap, cur, rfl, h3, r⟩
  · exact .inl h2
  · exact .inr ⟨g, cap, cur, rfl, Nat.le_trans hb h3, r⟩

theorem OwnT.past {w w1 w2 : World} {base : Nat} {e : TypeId} {v : Value} {xs : List α} {row : Option Nat} (h : OwnT E w base e v xs) (hb : Below w.heap.size w w1) (hg : w1.grownBy w2 row) (hr : ∀ k, row = some k → w.heap.size ≤ k) : OwnT E w2 base e v xs :=
  h.below (hb.grown hg hb.size hr)

theorem OwnT.apart {β : Type} {F : Enc β} {w1 w2 : World} {b1 b2 : Nat} {e f : TypeId} {v1 v2 : Value} {xs : List α} {ys : List β} (h1 : OwnT E w1 b1 e v1 xs) (h2 : OwnT F w2 b2 f v2 ys) (hb : w1.heap.size ≤ b2) :
    (v1.ownBlock = none ∨ v1.ownBlock ≠ v2.ownBlock) ∧ (v2.ownBlock = none ∨ v2.ownBlock ≠ v1.ownBlock) := by
  have g1 := h1.block
  have g2 := h2.block
  cases e1 : v1.ownBlock with
  | none => cases e2 : v2.ownBlock <;> simp
  | some k1 => cases e2 : v2.ownBlock with
    | none => simp
    | some k2 =>
      have a1 := g1 k1 e1
      have a2 := g2 k2 e2
      have : k1 ≠ k2 := by omega
      have : k2 ≠ k1 := by omega
      exact ⟨.inr (by simpa using ‹k1 ≠ k2›), .inr (by simpa using ‹k2 ≠ k1›)⟩

theorem OwnT.at {w : World} {base g cap : Nat} {e : TypeId} {xs : List α} {n : Nat} (hn : n = xs.length) (h : OwnT E w base e (.slice (some ⟨g, 0, none⟩) n cap) xs) {i : Nat} (hi : i < xs.length) (j : Nat) (hj : j < E.size) :
    w.cell? ⟨g, i * E.size + j, none⟩ = (E.cells xs[i])[j]? ∧ w.frozen? ⟨g, i * E.size + j, none⟩ = false := by
  subst hn
  have h1 : (i + 1) * E.size ≤ xs.length * E.size := Nat.mul_le_mul_right _ hi
  rw [Nat.add_mul] at h1
  refine ⟨?_, World.ownsRow.frozenAt (g := g) (cap := cap) h _⟩
  rw [World.ownsRow.cellAt (g := g) (cap := cap) h _ (by omega), E.row_get hi hj]

theorem OwnT.store {w : World} {base g cap : Nat} {e : TypeId} {xs : List α} {n : Nat} (hn : n = xs.length) (h : OwnT E w base e (.slice (some ⟨g, 0, none⟩) n cap) xs) {i : Nat} (hi : i < xs.length) (j : Nat) (hj : j < E.size) (u : Value) (x : α)
    (hx : E.cells x = (E.cells xs[i]).set j u) :
    OwnT E (w.setCell ⟨g, i * E.size + j, none⟩ u) base e (.slice (some ⟨g, 0, none⟩) n cap) (xs.set i x) ∧ w.grownBy (w.setCell ⟨g, i * E.size + j, none⟩ u) (some g) := by
  subst hn
  have := World.ownsRow.stored (g := g) (cap := cap) h (i * E.size + j) u
  refine ⟨?_, this.2⟩
  unfold OwnT
  rw [List.length_set, ← E.row_set hi hj u x hx]
  exact this.1
end

section
variable {P : Program} (w : World) {α : Type} {E : Enc α}

theorem run_append_noneT (t ty e : TypeId) (i : TypeInfo) (ht : P.underlying t = some (.slice e)) (hi : P.info? e = some i) (base : Nat) (v : Value) (n : Nat) (xs : List Value) (c : Nat) (size : Nat) (hown : w.ownsRow base e size v n xs) :
    (Builtin.append_ #[t, t] ty #[v, .slice none 0 c]).run P w = .ok v w := by
  rcases hown.2 with ⟨rfl, rfl⟩ | ⟨g, cap, cur, rfl, _, _, hnc, _⟩
  · simp [Builtin.append_, run_underlying ht, sizeOf, typeInfo, hi, Builtin.lenOf, Builtin.firstCells]
  · simp [Builtin.append_, run_underlying ht, sizeOf, typeInfo, hi, Builtin.lenOf, Builtin.firstCells, hnc, storeCells]

theorem run_appendT (base : Nat) (t ty e : TypeId) (z : Value) (bytes : Nat) (ht : P.underlying t = some (.slice e)) (hinfo : (P.info? e).map (fun i => (i.zero, i.size, i.bytes)) = some (some z, E.size, bytes)) (hz : z.cells.size = E.size) (hby : bytes ≤ 128)
    (v : Value) (xs : List α) (hown : OwnT E w base e v xs) (ad : Option Addr) (c : Nat) (news : List α) (hnews : ReadsT E w ad news) (hlen : xs.length + news.length ≤ 1099511627776) (hbase : base ≤ w.heap.size) :
    ∃ v' w', (Builtin.append_ #[t, t] ty #[v, .slice ad news.length c]).run P w = .ok v' w' ∧ OwnT E w' base e v' (xs ++ news) ∧ w.grownBy w' v.ownBlock := by
  obtain ⟨i, hi, hz0, hz1, hz2⟩ := info_parts hinfo
  have hb : (xs.length + news.length) * bytes ≤ 140737488355328 := Nat.le_trans (Nat.mul_le_mul hlen hby) (by decide)
  rcases hnews with rfl | ⟨b, off, rfl, hb0, hc⟩
  · cases ad with
    | none => exact ⟨v, w, run_append_noneT w t ty e i ht hi base v _ _ c _ hown, by simpa using hown, World.grownBy.refl _ _⟩
    | some ad =>
      obtain ⟨v', w', h1, h2, h3, _⟩ := run_append_own (P := P) w base t ty e i z E.size bytes ht hi hz0 hz1 hz2 hz E.pos v _ _ hown ad 0 c [] (by simp) (by simp) (by simp) (by unfold maxLen; simp at hlen; omega) (by simpa using hb) hbase
      exact ⟨v', w', h1, by simpa [OwnT] using h2, h3⟩
  · obtain ⟨v', w', h1, h2, h3, _⟩ := run_append_own (P := P) w base t ty e i z E.size bytes ht hi hz0 hz1 hz2 hz E.pos v _ _ hown ⟨b, off, none⟩ news.length c (E.row news) (E.row_length _)
      (by
        intro j u hu
        have hj : j < news.length * E.size := by have := (List.getElem?_eq_some_iff.1 hu).1; rwa [E.row_length] at this
        rw [Addr.add_lit, hc j hj, hu])
      (E.row_oneCell _) (by unfold maxLen; omega) hb hbase
    refine ⟨v', w', h1, ?_, h3⟩
    unfold OwnT
    rw [List.length_append, E.row_append]
    exact h2

theorem wpList_appendT {ops : Array Oper} {rest : List Oper} {o : Oper} {a : Act} {Q : Exit → Act → World → Prop} (hgd : o.guard = none) (s x : Operand) (t : TypeId)
    (ho : o.op = .call { callee := .builtin .append, args := #[s, x], argTypes := #[t, t] })
    (base : Nat) (e : TypeId) (z : Value) (bytes : Nat) (ht : P.underlying t = some (.slice e)) (hinfo : (P.info? e).map (fun i => (i.zero, i.size, i.bytes)) = some (some z, E.size, bytes)) (hz : z.cells.size = E.size) (hby : bytes ≤ 128)
    (v : Value) (xs : List α) (hs : a.eval s = v) (hown : OwnT E w base e v xs) (ad : Option Addr) (n c : Nat) (news : List α) (hx : a.eval x = .slice ad n c) (hn : n = news.length) (hnews : ReadsT E w ad news)
    (hlen : xs.length + news.length ≤ 1099511627776) (hbase : base ≤ w.heap.size)
    (h : ∀ v' w', OwnT E w' base e v' (xs ++ news) → w.grownBy w' v.ownBlock → wpList P ops Q rest (a.put o.dst v') w') : wpList P ops Q (o :: rest) a w := by
  refine wpList_plain hgd fun K hK => ?_
  subst hn
  obtain ⟨v', w', hr, h2, h3⟩ := run_appendT (P := P) w base t o.type e z bytes ht hinfo hz hby v xs hown ad c news hnews hlen hbase
  unfold Oper.wp execOp
  simp only [ho, resolve, invoke, builtin, Sem.run_bind, Sem.run_pure, Result.andThen_ok, List.map_toArray, List.map_cons, List.map_nil, hs, hx, hr]
  exact hK _ _ (h v' w' h2 h3)

theorem made_row {α : Type} (E : Enc α) (x : α) (n : Nat) : (madeCells (E.cells x).toArray (n * E.size)).toList = E.row (List.replicate n x) := by
  apply List.ext_getElem?
  intro i
  by_cases hi : i < n * E.size
  · have hp := E.pos
    have hq : i / E.size < n := Nat.div_lt_of_lt_mul (by rw [Nat.mul_comm]; exact hi)
    have hr : i % E.size < E.size := Nat.mod_lt _ hp
    have e : i = i / E.size * E.size + i % E.size := by rw [Nat.mul_comm]; exact (Nat.div_add_mod i E.size).symm
    have h1 : (E.row (List.replicate n x))[i]? = (E.cells x)[i % E.size]? := by
      conv => lhs; rw [e]
      rw [E.row_get (by simpa using hq) hr]; simp
    rw [h1]
    have hr2 : i % E.size < (E.cells x).length := by rw [E.len]; exact hr
    simp only [madeCells, Array.toList_map, Array.toList_range, List.getElem?_map, List.getElem?_range hi, Option.map_some, List.size_toArray, E.len]
    rw [List.getElem?_eq_getElem hr2]
    simp [hr2]
  · rw [List.getElem?_eq_none (by rw [Array.length_toList, size_madeCells]; omega), List.getElem?_eq_none (by rw [E.row_length]; simp; omega)]

theorem make_ownT (t e : TypeId) (z : Value) (bytes : Nat) (x : α) (n : Nat) (ht : P.underlying t = some (.slice e)) (hinfo : (P.info? e).map (fun i => (i.zero, i.size, i.bytes)) = some (some z, E.size, bytes)) (hz : z.cells = (E.cells x).toArray) (hby : bytes ≤ 128) (hn : n ≤ 1099511627776) :
    ∃ W : World, (Instr.makeSlice t (.int .i64 (n : Int)) (.int .i64 (n : Int))).run P w = .ok (.slice (some ⟨w.heap.size, 0, none⟩) n n) W ∧ OwnT E W w.heap.size e (.slice (some ⟨w.heap.size, 0, none⟩) n n) (List.replicate n x) ∧ Below w.heap.size w W := by
  obtain ⟨i, hi, hz0, hz1, hz2⟩ := info_parts hinfo
  have hb : bytes * n ≤ 140737488355328 := Nat.le_trans (Nat.mul_le_mul hby hn) (by decide)
  have hb' : (bytes : Int) * (n : Int) ≤ 281474976710656 := by
    have h : ((bytes * n : Nat) : Int) ≤ 281474976710656 := by omega
    rwa [Int.natCast_mul] at h
  have hr := run_make (P := P) w t e i z ht hi hz0 .i64 .i64 (n : Int) (n : Int) (by omega) (Int.le_refl _) (by rw [hz2]; exact hb') (by omega)
  simp only [Int.toNat_natCast, hz1, hz] at hr
  refine ⟨_, hr, ?_, (Below.refl _ _).alloc (Nat.le_refl _) _⟩
  have hl := World.ownsRow_lit (base := w.heap.size) (e := e) (size := E.size) w (madeCells (E.cells x).toArray (n * E.size)) n (Nat.le_refl _) (by unfold maxLen; omega) (size_madeCells _ _)
  rw [made_row] at hl
  unfold OwnT
  rw [List.length_replicate]
  exact hl
end
end Go.Proofs.YthnppodnjokaoaaDoor
namespace Go.Proofs.YthnppodnjokaoaaDoor
open Go.RowKit

/-- What a cell holds, read through: a plain value, or a slice of n elements, whose cells are told one behind the other. -/
inductive Dat where
  | val (v : Value)
  | sl (n : Nat) (cs : List Dat)

section flat
variable {α β : Type} {f : α → List β} {sz : Nat}
theorem flat_length (hf : ∀ x, (f x).length = sz) (xs : List α) : (xs.flatMap f).length = xs.length * sz := by
  induction xs with
  | nil => simp
  | cons x xs ih => rw [List.flatMap_cons, List.length_append, ih, hf, List.length_cons, Nat.add_mul]; omega
theorem flat_split {xs : List α} {i : Nat} (h : i < xs.length) : xs.flatMap f = (xs.take i).flatMap f ++ (f xs[i] ++ (xs.drop (i + 1)).flatMap f) := by
  conv => lhs; rw [← List.take_append_drop i xs, List.drop_eq_getElem_cons h]
  rw [List.flatMap_append]; rfl
theorem flat_get (hf : ∀ x, (f x).length = sz) {xs : List α} {i : Nat} (h : i < xs.length) {j : Nat} (hj : j < sz) : (xs.flatMap f)[i * sz + j]? = (f xs[i])[j]? := by
  have hl : ((xs.take i).flatMap f).length = i * sz := by rw [flat_length hf, List.length_take, Nat.min_eq_left (by omega)]
  rw [flat_split h, List.getElem?_append_right (by omega), hl, Nat.add_sub_cancel_left, List.getElem?_append_left (by rw [hf]; exact hj)]
theorem flat_set (hf : ∀ x, (f x).length = sz) {xs : List α} {i : Nat} (h : i < xs.length) {j : Nat} (hj : j < sz) (u : β) (x : α) (hx : f x = (f xs[i]).set j u) : (xs.flatMap f).set (i * sz + j) u = (xs.set i x).flatMap f := by
  have hl : ((xs.take i).flatMap f).length = i * sz := by rw [flat_length hf, List.length_take, Nat.min_eq_left (by omega)]
  have hs : (xs.set i x) = xs.take i ++ x :: xs.drop (i + 1) := by rw [List.set_eq_take_append_cons_drop, if_pos h]
  rw [flat_split h, List.set_append_right _ _ (by omega), hl, Nat.add_sub_cancel_left, List.set_append_left _ _ (by rw [hf]; exact hj), ← hx, hs, List.flatMap_append]
  rfl
theorem at_lt {xs : List α} {i j : Nat} (hi : i < xs.length) (hj : j < sz) : i * sz + j < xs.length * sz := by
  have h1 : (i + 1) * sz ≤ xs.length * sz := Nat.mul_le_mul_right _ hi
  rw [Nat.add_mul] at h1; omega
end flat

/-- The value v reads as the datum d. -/
inductive RD (w : World) : Value → Dat → Prop where
  | val (v : Value) : RD w v (.val v)
  | empty (a : Option Addr) (c : Nat) : RD w (.slice a 0 c) (.sl 0 [])
  | row (b off n c : Nat) (cs : List Dat) (vs : List Value) (hnc : n ≤ c) (hb : b < w.heap.size) (hl : vs.length = cs.length) (hc : ∀ i, i < vs.length → w.cell? ⟨b, off + i, none⟩ = vs[i]?)
      (hr : ∀ i (h : i < vs.length) (h' : i < cs.length), RD w vs[i] cs[i]) : RD w (.slice (some ⟨b, off, none⟩) n c) (.sl n cs)

theorem RD.later {w w' : World} {v : Value} {d : Dat} (h : RD w v d) (hb : Below w.heap.size w w') : RD w' v d := by
  induction h with
  | val v => exact .val v
  | empty a c => exact .empty a c
  | row b off n c cs vs hnc hb0 hl hc _ ih => exact .row b off n c cs vs hnc (Nat.lt_of_lt_of_le hb0 hb.size) hl (fun i hi => (hb.cell (p := ⟨b, off + i, none⟩) hb0).trans (hc i hi)) ih

theorem RD.val_eq {w : World} {v u : Value} (h : RD w v (.val u)) : v = u := by cases h; rfl

/-- What a slice that is read through holds at place i. -/
theorem RD.at {w : World} {a : Option Addr} {n m c : Nat} {cs : List Dat} (h : RD w (.slice a n c) (.sl m cs)) {i : Nat} (hi : i < cs.length) :
    n = m ∧ ∃ b off, a = some ⟨b, off, none⟩ ∧ b < w.heap.size ∧ ∃ u, w.cell? ⟨b, off + i, none⟩ = some u ∧ RD w u cs[i] := by
  cases h with
  | empty => simp at hi
  | row b off n c cs vs _ hb hl hc hr =>
    have hv : i < vs.length := by omega
    refine ⟨rfl, b, off, rfl, hb, vs[i], ?_, hr i hv hi⟩
    rw [hc i hv, List.getElem?_eq_getElem hv]
theorem RD.len {w : World} {a : Option Addr} {n m c : Nat} {cs : List Dat} (h : RD w (.slice a n c) (.sl m cs)) : n = m := by
  cases h <;> rfl
theorem RD.cap {w : World} {a : Option Addr} {n m c : Nat} {cs : List Dat} (h : RD w (.slice a n c) (.sl m cs)) : n ≤ c := by
  cases h with
  | empty => exact Nat.zero_le _
  | row b off n c cs vs hnc => exact hnc
theorem RD.slice {w : World} {v : Value} {m : Nat} {cs : List Dat} (h : RD w v (.sl m cs)) : ∃ a c, v = .slice a m c := by
  cases h with
  | empty a c => exact ⟨a, c, rfl⟩
  | row b off n c cs vs => exact ⟨_, c, rfl⟩

/-- Nothing old but the blocks in S has turned. -/
structure Within (w w' : World) (S : Nat → Prop) : Prop where
  os : w'.os = w.os
  tape : w'.tape = w.tape
  output : w'.output = w.output
  size : w.heap.size ≤ w'.heap.size
  block : ∀ k, k < w.heap.size → ¬ S k → w'.heap[k]? = w.heap[k]?

theorem Within.refl (w : World) (S : Nat → Prop) : Within w w S := ⟨rfl, rfl, rfl, Nat.le_refl _, fun _ _ _ => rfl⟩
theorem Within.trans {w1 w2 w3 : World} {S : Nat → Prop} (h : Within w1 w2 S) (g : Within w2 w3 S) : Within w1 w3 S :=
  ⟨g.os.trans h.os, g.tape.trans h.tape, g.output.trans h.output, Nat.le_trans h.size g.size, fun k hk hn => (g.block k (Nat.lt_of_lt_of_le hk h.size) hn).trans (h.block k hk hn)⟩
theorem Within.mono {w w' : World} {S T : Nat → Prop} (h : Within w w' S) (hs : ∀ k, S k → T k) : Within w w' T :=
  ⟨h.os, h.tape, h.output, h.size, fun k hk hn => h.block k hk (fun hs' => hn (hs k hs'))⟩
theorem Within.of_below {w w' : World} (h : Below w.heap.size w w') (S : Nat → Prop) : Within w w' S := ⟨h.os, h.tape, h.output, h.size, fun k hk _ => h.block k hk⟩
theorem Within.of_grown {w w' : World} {row : Option Nat} {S : Nat → Prop} (h : w.grownBy w' row) (hs : ∀ k, row = some k → S k) : Within w w' S :=
  ⟨h.os, h.tape, h.output, h.size, fun k hk hn => h.block k hk (fun e => hn (hs k e.symm))⟩
theorem Within.below {w0 w w' : World} {S : Nat → Prop} (h : Within w w' S) (hb : Below w0.heap.size w0 w) (hs : ∀ k, S k → w0.heap.size ≤ k) : Below w0.heap.size w0 w' :=
  ⟨h.os.trans hb.os, h.tape.trans hb.tape, h.output.trans hb.output, Nat.le_trans hb.size h.size, fun k hk => (h.block k (Nat.lt_of_lt_of_le hk hb.size) (fun hk2 => by have := hs k hk2; omega)).trans (hb.block k hk)⟩
theorem Within.drewN {w w' : World} {S : Nat → Prop} (h : Within w w' S) (n : Nat) : Within w (w'.drewN n) S := ⟨h.os, h.tape, h.output, h.size, h.block⟩
theorem Within.drew {w w' : World} {S : Nat → Prop} (h : Within w w' S) : Within w w'.drew S := ⟨h.os, h.tape, h.output, h.size, h.block⟩

theorem Within.setCell {w w' : World} {S : Nat → Prop} (h : Within w w' S) (p : Addr) (v : Value) (hp : S p.block) : Within w (w'.setCell p v) S :=
  h.trans ⟨rfl, rfl, rfl, by simp, fun k _ hn => Below.heap_setCell w' p v k (fun e => hn (e ▸ hp))⟩

/-- The value v, all of it made by the call (in the blocks S, from base on, no block twice), holds the datum d. -/
inductive OD (w : World) (base : Nat) : Value → Dat → (Nat → Prop) → Prop where
  | val (v : Value) : OD w base v (.val v) (fun _ => False)
  | nil (n : Nat) (h0 : n = 0) : OD w base (.slice none 0 0) (.sl n []) (fun _ => False)
  | row (e : TypeId) (sz g n c : Nat) (cs : List Dat) (vs : List Value) (F : Nat → Nat → Prop) (S : Nat → Prop) (ho : w.ownsRow base e sz (.slice (some ⟨g, 0, none⟩) n c) n vs) (hl : vs.length = cs.length)
      (hr : ∀ i (h : i < vs.length) (h' : i < cs.length), OD w base vs[i] cs[i] (F i)) (hd : ∀ i j k, i < vs.length → j < vs.length → i ≠ j → F i k → ¬ F j k) (hg : ∀ i, i < vs.length → ¬ F i g)
      (hS : ∀ k, S k ↔ k = g ∨ ∃ i, i < vs.length ∧ F i k) : OD w base (.slice (some ⟨g, 0, none⟩) n c) (.sl n cs) S

theorem OD.lt {w : World} {base : Nat} {v : Value} {d : Dat} {S : Nat → Prop} (h : OD w base v d S) : ∀ k, S k → base ≤ k ∧ k < w.heap.size := by
  induction h with
  | val v => exact fun k hk => hk.elim
  | nil n h0 => exact fun k hk => hk.elim
  | row e sz g n c cs vs F S ho hl _ hd hg hS ih =>
    intro k hk
    rcases (hS k).1 hk with rfl | ⟨i, hi, hik⟩
    · exact ho.lt k rfl
    · exact ih i hi (by omega) k hik

theorem OD.room {w : World} {base : Nat} {e : TypeId} {sz g n c : Nat} {vs : List Value} (ho : w.ownsRow base e sz (.slice (some ⟨g, 0, none⟩) n c) n vs) : n ≤ c := by
  rcases ho.2 with ⟨h, _⟩ | ⟨g', cap, cur, hv, _, _, hnc, _⟩
  · cases h
  · cases hv; exact hnc
theorem OD.rd {w : World} {base : Nat} {v : Value} {d : Dat} {S : Nat → Prop} (h : OD w base v d S) : RD w v d := by
  induction h with
  | val v => exact .val v
  | nil n h0 => subst h0; exact .empty none 0
  | row e sz g n c cs vs F S ho hl _ hd hg hS ih =>
    refine .row g 0 n c cs vs (OD.room ho) (ho.lt g rfl).2 hl (fun i hi => ?_) ih
    rw [Nat.zero_add]
    exact World.ownsRow.cellAt (g := g) (cap := c) ho i (by rw [← ho.1]; exact hi)

theorem ownsRow_within {w w' : World} {base : Nat} {e : TypeId} {size : Nat} {v : Value} {n : Nat} {xs : List Value} {S : Nat → Prop} (h : w.ownsRow base e size v n xs) (hw : Within w w' S) (hn : ∀ k, v.ownBlock = some k → ¬ S k) : w'.ownsRow base e size v n xs := by
  refine ⟨h.1, ?_⟩
  rcases h.2 with hx | ⟨g, cap, cur, rfl, hb, hg, r⟩
  · exact .inl hx
  · exact .inr ⟨g, cap, cur, rfl, hb, (hw.block g (Array.getElem?_eq_some_iff.1 hg).1 (hn g rfl)).trans hg, r⟩

theorem OD.kept {w w' : World} {base : Nat} {v : Value} {d : Dat} {S T : Nat → Prop} (h : OD w base v d S) (hw : Within w w' T) (hn : ∀ k, S k → ¬ T k) : OD w' base v d S := by
  induction h with
  | val v => exact .val v
  | nil n h0 => exact .nil n h0
  | row e sz g n c cs vs F S ho hl _ hd hg hS ih =>
    refine .row e sz g n c cs vs F S (ownsRow_within ho hw (fun k hk => ?_)) hl (fun i hi hi' => ih i hi hi' (fun k hk => hn k ((hS k).2 (.inr ⟨i, hi, hk⟩)))) hd hg hS
    have : k = g := by simpa [Value.ownBlock] using hk.symm
    exact hn k ((hS k).2 (.inl this))

theorem OD.later {w w' : World} {base : Nat} {v : Value} {d : Dat} {S : Nat → Prop} (h : OD w base v d S) (hb : Below w.heap.size w w') : OD w' base v d S :=
  h.kept (Within.of_below hb (fun _ => False)) (fun _ _ h => h)

theorem OD.base {w : World} {b b' : Nat} {v : Value} {d : Dat} {S : Nat → Prop} (h : OD w b v d S) (hb : b' ≤ b) : OD w b' v d S := by
  induction h with
  | val v => exact .val v
  | nil n h0 => exact .nil n h0
  | row e sz g n c cs vs F S ho hl _ hd hg hS ih =>
    refine .row e sz g n c cs vs F S ⟨ho.1, ?_⟩ hl ih hd hg hS
    rcases ho.2 with hx | ⟨g, cap, cur, hv, h3, r⟩
    · exact .inl hx
    · exact .inr ⟨g, cap, cur, hv, Nat.le_trans hb h3, r⟩

/-- A cell of an own row, and what lies behind it. -/
theorem OD.at {w : World} {base : Nat} {a : Option Addr} {n m c : Nat} {cs : List Dat} {S : Nat → Prop} (h : OD w base (.slice a n c) (.sl m cs) S) {i : Nat} (hi : i < cs.length) :
    n = m ∧ ∃ g, a = some ⟨g, 0, none⟩ ∧ S g ∧ ∃ u T, w.cell? ⟨g, i, none⟩ = some u ∧ w.frozen? ⟨g, i, none⟩ = false ∧ OD w base u cs[i] T ∧ (∀ k, T k → S k) ∧ ¬ T g := by
  cases h with
  | nil => simp at hi
  | row e sz g n c cs vs F S ho hl hr hd hg hS =>
    have hv : i < vs.length := by omega
    refine ⟨rfl, g, rfl, (hS g).2 (.inl rfl), vs[i], F i, ?_, World.ownsRow.frozenAt (g := g) (cap := c) ho i, hr i hv hi, fun k hk => (hS k).2 (.inr ⟨i, hv, hk⟩), hg i hv⟩
    rw [World.ownsRow.cellAt (g := g) (cap := c) ho i (by rw [← ho.1]; exact hv), List.getElem?_eq_getElem hv]

theorem OD.plain {w : World} {base : Nat} {v : Value} {d : Dat} {S : Nat → Prop} (h : OD w base v d S) (u : Value) (e : d = .val u) : ∀ k, ¬ S k := by
  cases h with
  | val v => exact fun k hk => hk
  | nil n h0 => cases e
  | row => cases e

/-- A plain value stored into a cell that held one. -/
theorem OD.store {w : World} {base g : Nat} {n m c : Nat} {cs : List Dat} {S : Nat → Prop} (h : OD w base (.slice (some ⟨g, 0, none⟩) n c) (.sl m cs) S) {i : Nat} (hi : i < cs.length) (u0 u : Value) (hp : cs[i] = .val u0) :
    OD (w.setCell ⟨g, i, none⟩ u) base (.slice (some ⟨g, 0, none⟩) n c) (.sl m (cs.set i (.val u))) S ∧ Within w (w.setCell ⟨g, i, none⟩ u) S := by
  cases h with
  | row e sz _ n _ cs vs F S ho hl hr hd hg hS =>
    obtain ⟨s1, s2⟩ := World.ownsRow.stored (g := g) (cap := c) ho i u
    have hW : Within w (w.setCell ⟨g, i, none⟩ u) (fun k => k = g) := Within.of_grown s2 (fun k hk => by simpa using hk.symm)
    refine ⟨.row e sz g n c _ (vs.set i u) (fun j => if j = i then (fun _ => False) else F j) S s1 (by simpa using hl) ?_ ?_ ?_ ?_, hW.mono (fun k hk => (hS k).2 (.inl hk))⟩
    · intro j hj hj'
      have hjv : j < vs.length := by simpa using hj
      have hjc : j < cs.length := by simpa using hj'
      by_cases e1 : j = i
      · subst e1
        simp only [if_true, List.getElem_set_self]
        exact .val u
      · simp only [if_neg e1]
        rw [List.getElem_set_ne (by omega), List.getElem_set_ne (by omega)]
        exact (hr j hjv hjc).kept hW (fun k hk e2 => hg j hjv (e2 ▸ hk))
    · intro j l k hj hl2 hne h1 h2
      have hj' : j < vs.length := by simpa using hj
      have hl' : l < vs.length := by simpa using hl2
      by_cases e1 : j = i
      · simp [e1] at h1
      · by_cases e2 : l = i
        · simp [e2] at h2
        · simp only [if_neg e1] at h1
          simp only [if_neg e2] at h2
          exact hd j l k hj' hl' hne h1 h2
    · intro j hj h1
      have hj' : j < vs.length := by simpa using hj
      by_cases e1 : j = i
      · simp [e1] at h1
      · simp only [if_neg e1] at h1
        exact hg j hj' h1
    · intro k
      rw [hS k]
      have hv : i < vs.length := by omega
      have hF : ∀ k, ¬ F i k := by
        exact (hr i hv hi).plain u0 hp
      refine ⟨fun h => h.imp id (fun ⟨j, hj, hjk⟩ => ⟨j, by simpa using hj, ?_⟩), fun h => h.imp id (fun ⟨j, hj, hjk⟩ => ⟨j, by simpa using hj, ?_⟩)⟩
      · have : j ≠ i := fun e => hF k (e ▸ hjk)
        simpa [this] using hjk
      · by_cases e1 : j = i
        · simp [e1] at hjk
        · simpa [e1] using hjk

/-- What lies behind a cell of an own row, and how the whole is put together again when that alone has turned. -/
theorem OD.into {w : World} {base g : Nat} {n m c : Nat} {cs : List Dat} {S : Nat → Prop} (h : OD w base (.slice (some ⟨g, 0, none⟩) n c) (.sl m cs) S) {i : Nat} (hi : i < cs.length) :
    ∃ u T, w.cell? ⟨g, i, none⟩ = some u ∧ OD w base u cs[i] T ∧ (∀ k, T k → S k) ∧ ¬ T g ∧
      ∀ w' d, OD w' base u d T → Within w w' T → OD w' base (.slice (some ⟨g, 0, none⟩) n c) (.sl m (cs.set i d)) S := by
  cases h with
  | row e sz _ n _ cs vs F S ho hl hr hd hg hS =>
    have hv : i < vs.length := by omega
    refine ⟨vs[i], F i, ?_, hr i hv hi, fun k hk => (hS k).2 (.inr ⟨i, hv, hk⟩), hg i hv, ?_⟩
    · rw [World.ownsRow.cellAt (g := g) (cap := c) ho i (by rw [← ho.1]; exact hv), List.getElem?_eq_getElem hv]
    · intro w' d h' hw
      refine .row e sz g n c _ vs F S (ownsRow_within ho hw (fun k hk => ?_)) (by simpa using hl) ?_ hd hg hS
      · have : k = g := by simpa [Value.ownBlock] using hk.symm
        rw [this]; exact hg i hv
      · intro j hj hj'
        have hjc : j < cs.length := by simpa using hj'
        by_cases e1 : j = i
        · subst e1
          rw [List.getElem_set_self]; exact h'
        · rw [List.getElem_set_ne (by omega)]
          exact (hr j hj hjc).kept hw (fun k hk hk2 => hd j i k hj hv e1 hk hk2)

section elems
variable {α : Type} {f : α → List Dat} {sz : Nat}
theorem flat_at (hf : ∀ x, (f x).length = sz) {xs : List α} {i j : Nat} (hi : i < xs.length) (hj : j < sz) (h' : i * sz + j < (xs.flatMap f).length) (h'' : j < (f xs[i]).length) : (xs.flatMap f)[i * sz + j]'h' = (f xs[i])[j]'h'' := by
  have := flat_get hf hi hj
  rw [List.getElem?_eq_getElem h', List.getElem?_eq_getElem h''] at this
  exact Option.some.inj this
theorem flat_lt (hf : ∀ x, (f x).length = sz) {xs : List α} {i j : Nat} (hi : i < xs.length) (hj : j < sz) : i * sz + j < (xs.flatMap f).length := by
  rw [flat_length hf]; exact at_lt hi hj

/-- Cell j of element i of a slice that is read. -/
theorem RD.elem (hf : ∀ x, (f x).length = sz) {w : World} {a : Option Addr} {n c : Nat} {xs : List α} (h : RD w (.slice a n c) (.sl xs.length (xs.flatMap f))) {i : Nat} (hi : i < xs.length) {j : Nat} (hj : j < sz) (h'' : j < (f xs[i]).length) :
    ∃ b off, a = some ⟨b, off, none⟩ ∧ b < w.heap.size ∧ ∃ u, w.cell? ⟨b, off + (i * sz + j), none⟩ = some u ∧ RD w u ((f xs[i])[j]'h'') := by
  have l := flat_lt hf hi hj
  obtain ⟨_, b, off, rfl, hb, u, c0, r0⟩ := RD.at h l
  rw [flat_at hf hi hj l h''] at r0
  exact ⟨b, off, rfl, hb, u, c0, r0⟩

/-- A plain value stored into cell j of element i of an own slice. -/
theorem OD.elemStore (hf : ∀ x, (f x).length = sz) {w : World} {base g n c : Nat} {L : List α} {S : Nat → Prop} (h : OD w base (.slice (some ⟨g, 0, none⟩) n c) (.sl L.length (L.flatMap f)) S) {i : Nat} (hi : i < L.length) {j : Nat} (hj : j < sz)
    (u0 u : Value) (h'' : j < (f L[i]).length) (hp : (f L[i])[j]'h'' = .val u0) (x : α) (hx : f x = (f L[i]).set j (.val u)) :
    OD (w.setCell ⟨g, i * sz + j, none⟩ u) base (.slice (some ⟨g, 0, none⟩) n c) (.sl (L.set i x).length ((L.set i x).flatMap f)) S ∧ Within w (w.setCell ⟨g, i * sz + j, none⟩ u) S ∧ (∃ z, w.cell? ⟨g, i * sz + j, none⟩ = some z) ∧ w.frozen? ⟨g, i * sz + j, none⟩ = false := by
  have l := flat_lt hf hi hj
  obtain ⟨s1, s2⟩ := OD.store h l u0 u ((flat_at hf hi hj l h'').trans hp)
  obtain ⟨_, g', hg', _, z, T, hc, hfz, _⟩ := OD.at h l
  cases hg'
  rw [flat_set hf hi hj _ x hx] at s1
  refine ⟨?_, s2, ⟨z, hc⟩, hfz⟩
  rw [List.length_set]; exact s1

/-- What lies behind cell j of element i of an own slice. -/
theorem OD.elemInto (hf : ∀ x, (f x).length = sz) {w : World} {base g n c : Nat} {L : List α} {S : Nat → Prop} (h : OD w base (.slice (some ⟨g, 0, none⟩) n c) (.sl L.length (L.flatMap f)) S) {i : Nat} (hi : i < L.length) {j : Nat} (hj : j < sz) (h'' : j < (f L[i]).length) :
    ∃ u T, w.cell? ⟨g, i * sz + j, none⟩ = some u ∧ OD w base u ((f L[i])[j]'h'') T ∧ (∀ k, T k → S k) ∧ ¬ T g ∧
      ∀ w' d x, f x = (f L[i]).set j d → OD w' base u d T → Within w w' T → OD w' base (.slice (some ⟨g, 0, none⟩) n c) (.sl (L.set i x).length ((L.set i x).flatMap f)) S := by
  have l := flat_lt hf hi hj
  obtain ⟨u, T, hc, ho, hT, hg, hput⟩ := OD.into h l
  rw [flat_at hf hi hj l h''] at ho
  refine ⟨u, T, hc, ho, hT, hg, fun w' d x hx h' hw => ?_⟩
  have := hput w' d h' hw
  rw [flat_set hf hi hj _ x hx] at this
  rw [List.length_set]; exact this

theorem OD.elemShape {w : World} {base : Nat} {v : Value} {L : List α} {S : Nat → Prop} (hf : ∀ x, (f x).length = sz) (hz : 0 < sz) (h : OD w base v (.sl L.length (L.flatMap f)) S) : ∃ a c, v = .slice a L.length c ∧ (L ≠ [] → ∃ g, a = some ⟨g, 0, none⟩) := by
  obtain ⟨a, c, rfl⟩ := RD.slice (m := L.length) h.rd
  refine ⟨a, c, rfl, fun hne => ?_⟩
  have hpos : 0 < L.length := List.length_pos_iff.2 hne
  obtain ⟨_, g, hg, _⟩ := OD.at h (flat_lt hf hpos hz)
  exact ⟨g, hg⟩
end elems
end Go.Proofs.YthnppodnjokaoaaDoor
namespace Go.Proofs.YthnppodnjokaoaaDoor
open Go.RowKit

/-- The slice value v, made by the call, elements of type e in sz cells each, holds n elements with the cells cs; it lies in the blocks S. -/
def OL (w : World) (base : Nat) (e : TypeId) (sz : Nat) (v : Value) (n : Nat) (cs : List Dat) (S : Nat → Prop) : Prop :=
  ∃ (vs : List Value) (F : Nat → Nat → Prop), w.ownsRow base e sz v n vs ∧ vs.length = cs.length ∧ (∀ i (h : i < vs.length) (h' : i < cs.length), OD w base vs[i] cs[i] (F i)) ∧
    (∀ i j k, i < vs.length → j < vs.length → i ≠ j → F i k → ¬ F j k) ∧ (∀ i g, i < vs.length → v.ownBlock = some g → ¬ F i g) ∧ ∀ k, S k ↔ v.ownBlock = some k ∨ ∃ i, i < vs.length ∧ F i k

theorem OL.od {w : World} {base : Nat} {e : TypeId} {sz : Nat} {v : Value} {n : Nat} {cs : List Dat} {S : Nat → Prop} (h : OL w base e sz v n cs S) : OD w base v (.sl n cs) S := by
  obtain ⟨vs, F, ho, hl, hr, hd, hg, hS⟩ := h
  rcases ho.2 with ⟨rfl, hn⟩ | ⟨g, cap, cur, rfl, h3⟩
  · subst hn
    have hv : vs = [] := List.eq_nil_of_length_eq_zero (by have := ho.1; omega)
    subst hv
    have hc : cs = [] := List.eq_nil_of_length_eq_zero (by simpa using hl.symm)
    subst hc
    have : S = fun _ => False := by
      funext k
      apply propext
      rw [hS k]
      simp [Value.ownBlock]
    rw [this]
    exact .nil 0 rfl
  · exact .row e sz g n cap cs vs F S ho hl hr hd (fun i hi => hg i g hi rfl) (fun k => by rw [hS k]; simp [Value.ownBlock, eq_comm])

theorem OL.nil (w : World) (base : Nat) (e : TypeId) (sz : Nat) : OL w base e sz (.slice none 0 0) 0 [] (fun _ => False) :=
  ⟨[], fun _ _ => False, World.ownsRow_nil w base e sz, rfl, fun i h => by simp at h, fun i j k h => by simp at h, fun i g h => by simp at h, fun k => by simp [Value.ownBlock]⟩

theorem OL.empty {w : World} {base : Nat} {e : TypeId} {sz : Nat} (h : base ≤ w.heap.size) : OL (w.alloc (.cells #[] e)) base e sz (.slice (some ⟨w.heap.size, 0, none⟩) 0 0) 0 [] (fun k => k = w.heap.size) :=
  ⟨[], fun _ _ => False, World.ownsRow_made w #[] 0 h (by simp [maxLen]) (by simp), rfl, fun i h => by simp at h, fun i j k h => by simp at h, fun i g h => by simp at h, fun k => by simp [Value.ownBlock, eq_comm]⟩

theorem OL.lt {w : World} {base : Nat} {e : TypeId} {sz : Nat} {v : Value} {n : Nat} {cs : List Dat} {S : Nat → Prop} (h : OL w base e sz v n cs S) : ∀ k, S k → base ≤ k ∧ k < w.heap.size := by
  obtain ⟨vs, F, ho, hl, hr, hd, hg, hS⟩ := h
  intro k hk
  rcases (hS k).1 hk with hk | ⟨i, hi, hik⟩
  · exact ho.lt k hk
  · exact (hr i hi (by omega)).lt k hik

theorem OL.kept {w w' : World} {base : Nat} {e : TypeId} {sz : Nat} {v : Value} {n : Nat} {cs : List Dat} {S T : Nat → Prop} (h : OL w base e sz v n cs S) (hw : Within w w' T) (hn : ∀ k, S k → ¬ T k) : OL w' base e sz v n cs S := by
  obtain ⟨vs, F, ho, hl, hr, hd, hg, hS⟩ := h
  exact ⟨vs, F, ownsRow_within ho hw (fun k hk => hn k ((hS k).2 (.inl hk))), hl, fun i hi hi' => (hr i hi hi').kept hw (fun k hk => hn k ((hS k).2 (.inr ⟨i, hi, hk⟩))), hd, hg, hS⟩

theorem OL.later {w w' : World} {base : Nat} {e : TypeId} {sz : Nat} {v : Value} {n : Nat} {cs : List Dat} {S : Nat → Prop} (h : OL w base e sz v n cs S) (hb : Below w.heap.size w w') : OL w' base e sz v n cs S :=
  h.kept (Within.of_below hb (fun _ => False)) (fun _ _ h => h)

theorem OL.alloc {w : World} {base : Nat} {e : TypeId} {sz : Nat} {v : Value} {n : Nat} {cs : List Dat} {S : Nat → Prop} (h : OL w base e sz v n cs S) (o : Obj) : OL (w.alloc o) base e sz v n cs S :=
  h.later ((Below.refl _ _).alloc (Nat.le_refl _) o)
theorem OD.alloc {w : World} {base : Nat} {v : Value} {d : Dat} {S : Nat → Prop} (h : OD w base v d S) (o : Obj) : OD (w.alloc o) base v d S :=
  h.later ((Below.refl _ _).alloc (Nat.le_refl _) o)

theorem OL.base {w : World} {b b' : Nat} {e : TypeId} {sz : Nat} {v : Value} {n : Nat} {cs : List Dat} {S : Nat → Prop} (h : OL w b e sz v n cs S) (hb : b' ≤ b) : OL w b' e sz v n cs S := by
  obtain ⟨vs, F, ho, hl, hr, hd, hg, hS⟩ := h
  refine ⟨vs, F, ⟨ho.1, ?_⟩, hl, fun i hi hi' => (hr i hi hi').base hb, hd, hg, hS⟩
  rcases ho.2 with hx | ⟨g, cap, cur, hv, h3, r⟩
  · exact .inl hx
  · exact .inr ⟨g, cap, cur, hv, Nat.le_trans hb h3, r⟩

/-- The cells of one element, each with the blocks that it lies in, no block twice. -/
def Cells (w : World) (base : Nat) (us : List Value) (ds : List Dat) (T : Nat → Prop) : Prop :=
  ∃ G : Nat → Nat → Prop, us.length = ds.length ∧ (∀ i (h : i < us.length) (h' : i < ds.length), OD w base us[i] ds[i] (G i)) ∧ (∀ i j k, i < us.length → j < us.length → i ≠ j → G i k → ¬ G j k) ∧ ∀ k, T k ↔ ∃ i, i < us.length ∧ G i k

theorem Cells.kept {w w' : World} {base : Nat} {us : List Value} {ds : List Dat} {T U : Nat → Prop} (h : Cells w base us ds T) (hw : Within w w' U) (hn : ∀ k, T k → ¬ U k) : Cells w' base us ds T := by
  obtain ⟨G, hl, hr, hd, hT⟩ := h
  exact ⟨G, hl, fun i hi hi' => (hr i hi hi').kept hw (fun k hk => hn k ((hT k).2 ⟨i, hi, hk⟩)), hd, hT⟩
theorem Cells.later {w w' : World} {base : Nat} {us : List Value} {ds : List Dat} {T : Nat → Prop} (h : Cells w base us ds T) (hb : Below w.heap.size w w') : Cells w' base us ds T :=
  h.kept (Within.of_below hb (fun _ => False)) (fun _ _ h => h)
theorem Cells.alloc {w : World} {base : Nat} {us : List Value} {ds : List Dat} {T : Nat → Prop} (h : Cells w base us ds T) (o : Obj) : Cells (w.alloc o) base us ds T :=
  h.later ((Below.refl _ _).alloc (Nat.le_refl _) o)
theorem Cells.lt {w : World} {base : Nat} {us : List Value} {ds : List Dat} {T : Nat → Prop} (h : Cells w base us ds T) : ∀ k, T k → base ≤ k ∧ k < w.heap.size := by
  obtain ⟨G, hl, hr, hd, hT⟩ := h
  intro k hk
  obtain ⟨i, hi, hik⟩ := (hT k).1 hk
  exact (hr i hi (by omega)).lt k hik
theorem Cells.base {w : World} {b b' : Nat} {us : List Value} {ds : List Dat} {T : Nat → Prop} (h : Cells w b us ds T) (hb : b' ≤ b) : Cells w b' us ds T := by
  obtain ⟨G, hl, hr, hd, hT⟩ := h
  exact ⟨G, hl, fun i hi hi' => (hr i hi hi').base hb, hd, hT⟩
/-- Plain cells ahead, and one with depth behind them. -/
theorem Cells.last {w : World} {base : Nat} (ps : List Value) {u : Value} {d : Dat} {T : Nat → Prop} (h : OD w base u d T) : Cells w base (ps ++ [u]) (ps.map Dat.val ++ [d]) T := by
  refine ⟨fun i k => i = ps.length ∧ T k, by simp, ?_, ?_, ?_⟩
  · intro i hi hi'
    by_cases e : i < ps.length
    · rw [List.getElem_append_left e, List.getElem_append_left (by simpa using e), List.getElem_map]
      have : (fun k => i = ps.length ∧ T k) = fun _ => False := by funext k; simp; omega
      show OD w base ps[i] _ (fun k => i = ps.length ∧ T k)
      rw [this]; exact .val _
    · have : i = ps.length := by simp at hi; omega
      subst this
      rw [List.getElem_append_right (by omega), List.getElem_append_right (by simp)]
      simpa using h
  · intro i j k _ _ hne h1 h2; exact hne (h1.1.trans h2.1.symm)
  · intro k; exact ⟨fun hk => ⟨ps.length, by simp, rfl, hk⟩, fun ⟨_, _, _, hk⟩ => hk⟩

section
variable {P : Program} (w : World)

/-- append, and where the row lies behind it: where it lay, or in a new block. -/
theorem run_append_where (base : Nat) (t ty e : TypeId) (i : TypeInfo) (z : Value) (size bytes : Nat) (ht : P.underlying t = some (.slice e)) (hi : P.info? e = some i) (hz : i.zero = some z)
    (hsize : i.size = size) (hby : i.bytes = bytes) (hzs : z.cells.size = size) (hsz : 0 < size) (v : Value) (n : Nat) (xs : List Value) (hown : w.ownsRow base e size v n xs)
    (a : Addr) (m c : Nat) (news : List Value) (hm : 0 < m) (hl : news.length = m * size) (hnews : ∀ j u, news[j]? = some u → w.cell? (a.add j) = some u) (h1 : ∀ u ∈ news, u.oneCell' = true)
    (h63 : n + m ≤ maxLen) (hbytes : (n + m) * bytes ≤ 140737488355328) (hbase : base ≤ w.heap.size) :
    ∃ v' w', (Builtin.append_ #[t, t] ty #[v, .slice (some a) m c]).run P w = .ok v' w' ∧ w'.ownsRow base e size v' (n + m) (xs ++ news) ∧ w.grownBy w' v.ownBlock ∧ ∀ k, v'.ownBlock = some k → v.ownBlock = some k ∨ k = w.heap.size := by
  obtain ⟨v', w', hrun, ho', hgr, _⟩ := run_append_own (P := P) w base t ty e i z size bytes ht hi hz hsize hby hzs hsz v n xs hown a m c news hl hnews h1 h63 hbytes hbase
  refine ⟨v', w', hrun, ho', hgr, ?_⟩
  have hsmall : n + m ≤ 9223372036854775807 := by simp only [maxLen] at h63; omega
  subst hsize
  subst hby
  rcases hown.2 with ⟨rfl, rfl⟩ | ⟨g, cap, cur, rfl, hbg, hg, hnc, hcm, hcs, htake⟩
  · have hr := run_append_nil (P := P) w t ty e i z ht hi hz a m c news hl hnews (by omega) (by omega) (by have hb := hbytes; simp only [Nat.zero_add] at hb; omega)
    rw [hr] at hrun
    injection hrun with e1 _
    subst e1
    intro k hk
    right
    simpa [Value.ownBlock] using hk.symm
  · by_cases hroom : n + m ≤ cap
    · have hfit : n * i.size + news.length ≤ cur.size := by rw [hl, hcs, ← Nat.add_mul]; exact Nat.mul_le_mul_right _ hroom
      have hr := run_append_room (P := P) w t ty e i ht hi g n cap cur hg a m c news hl hnews h1 hroom hfit
      rw [hr] at hrun
      injection hrun with e1 _
      subst e1
      exact fun k hk => .inl hk
    · have holds : ∀ j u, xs[j]? = some u → w.cell? ((⟨g, 0, none⟩ : Addr).add j) = some u := hown.cells (g := g) rfl
      have hr := run_append_grow (P := P) w t ty e i z ht hi hz ⟨g, 0, none⟩ n cap xs hown.1 holds a m c news hl hnews (by omega) (by omega) (growslice_fits (by omega) hbytes)
      rw [hr] at hrun
      injection hrun with e1 _
      subst e1
      intro k hk
      right
      simpa [Value.ownBlock] using hk.symm

/-- append of one element, whose cells lie at ⟨b, 0⟩, onto a list under construction. -/
theorem run_appendL (base : Nat) (t ty e : TypeId) (z : Value) (sz bytes : Nat) (ht : P.underlying t = some (.slice e)) (hinfo : (P.info? e).map (fun i => (i.zero, i.size, i.bytes)) = some (some z, sz, bytes)) (hz : z.cells.size = sz) (hsz : 0 < sz) (hby : bytes ≤ 128)
    (v : Value) (n : Nat) (cs : List Dat) (S : Nat → Prop) (hown : OL w base e sz v n cs S) (b c : Nat) (us : List Value) (ds : List Dat) (T : Nat → Prop) (hcells : Cells w base us ds T) (hus : us.length = sz) (h1 : ∀ u ∈ us, u.oneCell' = true)
    (hc : ∀ j, j < us.length → w.cell? ⟨b, j, none⟩ = us[j]?) (hdis : ∀ k, T k → ¬ S k) (hlen : n + 1 ≤ 1099511627776) (hbase : base ≤ w.heap.size) :
    ∃ v' w' S', (Builtin.append_ #[t, t] ty #[v, .slice (some ⟨b, 0, none⟩) 1 c]).run P w = .ok v' w' ∧ OL w' base e sz v' (n + 1) (cs ++ ds) S' ∧ (∀ k, S' k → S k ∨ T k ∨ w.heap.size ≤ k) ∧ Within w w' S := by
  have hSl := hown.lt
  have hTl := hcells.lt
  obtain ⟨vs, F, ho, hl, hr, hd, hg, hS⟩ := hown
  obtain ⟨G, gl, gr, gd, gT⟩ := hcells
  obtain ⟨i, hi, hz0, hz1, hz2⟩ := info_parts hinfo
  have hb : (n + 1) * bytes ≤ 140737488355328 := Nat.le_trans (Nat.mul_le_mul hlen hby) (by decide)
  obtain ⟨v', w', hrun, ho', hgr, hnew⟩ := run_append_where (P := P) w base t ty e i z sz bytes ht hi hz0 hz1 hz2 hz hsz v n vs ho ⟨b, 0, none⟩ 1 c us (by decide) (by omega)
    (by
      intro j u hu
      have hj : j < us.length := (List.getElem?_eq_some_iff.1 hu).1
      rw [Addr.add_lit, Nat.zero_add, hc j hj, hu])
    h1 (by unfold maxLen; omega) hb hbase
  have hW : Within w w' (fun k => v.ownBlock = some k) := Within.of_grown hgr (fun k hk => hk)
  have hvS : ∀ k, v.ownBlock = some k → S k := fun k hk => (hS k).2 (.inl hk)
  have hFS : ∀ i k, i < vs.length → F i k → S k := fun i k hi hk => (hS k).2 (.inr ⟨i, hi, hk⟩)
  have hGT : ∀ i k, i < us.length → G i k → T k := fun i k hi hk => (gT k).2 ⟨i, hi, hk⟩
  refine ⟨v', w', fun k => v'.ownBlock = some k ∨ ∃ i, i < (vs ++ us).length ∧ (if i < vs.length then F i k else G (i - vs.length) k), hrun, ⟨vs ++ us, fun i k => if i < vs.length then F i k else G (i - vs.length) k, ho', by simp [hl, gl], ?_, ?_, ?_, fun k => Iff.rfl⟩, ?_, hW.mono hvS⟩
  · intro j hj hj'
    by_cases e1 : j < vs.length
    · rw [List.getElem_append_left e1, List.getElem_append_left (by omega)]
      simp only [if_pos e1]
      exact (hr j e1 (by omega)).kept hW (fun k hk hk2 => hg j k e1 hk2 hk)
    · have hju : j - vs.length < us.length := by simp at hj; omega
      rw [List.getElem_append_right (by omega), List.getElem_append_right (by omega)]
      simp only [if_neg e1]
      have e2 : j - cs.length = j - vs.length := by omega
      simp only [e2]
      exact (gr (j - vs.length) hju (by omega)).kept hW (fun k hk hk2 => hdis k (hGT _ k hju hk) (hvS k hk2))
  · intro j l k hj hl2 hne hk1 hk2
    by_cases e1 : j < vs.length
    · simp only [if_pos e1] at hk1
      by_cases e2 : l < vs.length
      · simp only [if_pos e2] at hk2
        exact hd j l k e1 e2 hne hk1 hk2
      · simp only [if_neg e2] at hk2
        have hlu : l - vs.length < us.length := by simp at hl2; omega
        exact hdis k (hGT _ k hlu hk2) (hFS j k e1 hk1)
    · simp only [if_neg e1] at hk1
      have hju : j - vs.length < us.length := by simp at hj; omega
      by_cases e2 : l < vs.length
      · simp only [if_pos e2] at hk2
        exact hdis k (hGT _ k hju hk1) (hFS l k e2 hk2)
      · simp only [if_neg e2] at hk2
        have hlu : l - vs.length < us.length := by simp at hl2; omega
        exact gd _ _ k hju hlu (by omega) hk1 hk2
  · intro j g' hj hg' hk
    by_cases e1 : j < vs.length
    · simp only [if_pos e1] at hk
      rcases hnew g' hg' with h2 | h2
      · exact hg j g' e1 h2 hk
      · have := (hSl g' (hFS j g' e1 hk)).2; omega
    · simp only [if_neg e1] at hk
      have hju : j - vs.length < us.length := by simp at hj; omega
      rcases hnew g' hg' with h2 | h2
      · exact hdis g' (hGT _ g' hju hk) (hvS g' h2)
      · have := (hTl g' (hGT _ g' hju hk)).2; omega
  · intro k hk
    rcases hk with hk | ⟨j, hj, hk⟩
    · rcases hnew k hk with h2 | h2
      · exact .inl (hvS k h2)
      · exact .inr (.inr (by omega))
    · by_cases e1 : j < vs.length
      · simp only [if_pos e1] at hk
        exact .inl (hFS j k e1 hk)
      · simp only [if_neg e1] at hk
        have hju : j - vs.length < us.length := by simp at hj; omega
        exact .inr (.inl (hGT _ k hju hk))

theorem wpList_appendL {ops : Array Oper} {rest : List Oper} {o : Oper} {a : Act} {Q : Exit → Act → World → Prop} (hgd : o.guard = none) (s x : Operand) (t : TypeId)
    (ho : o.op = .call { callee := .builtin .append, args := #[s, x], argTypes := #[t, t] })
    (base : Nat) (e : TypeId) (z : Value) (sz bytes : Nat) (ht : P.underlying t = some (.slice e)) (hinfo : (P.info? e).map (fun i => (i.zero, i.size, i.bytes)) = some (some z, sz, bytes)) (hz : z.cells.size = sz) (hsz : 0 < sz) (hby : bytes ≤ 128)
    (v : Value) (n : Nat) (cs : List Dat) (S : Nat → Prop) (hs : a.eval s = v) (hown : OL w base e sz v n cs S) (b c : Nat) (us : List Value) (ds : List Dat) (T : Nat → Prop) (hx : a.eval x = .slice (some ⟨b, 0, none⟩) 1 c) (hcells : Cells w base us ds T) (hus : us.length = sz) (h1 : ∀ u ∈ us, u.oneCell' = true)
    (hc : ∀ j, j < us.length → w.cell? ⟨b, j, none⟩ = us[j]?) (hdis : ∀ k, T k → ¬ S k) (hlen : n + 1 ≤ 1099511627776) (hbase : base ≤ w.heap.size)
    (h : ∀ v' w' S', OL w' base e sz v' (n + 1) (cs ++ ds) S' → (∀ k, S' k → S k ∨ T k ∨ w.heap.size ≤ k) → Within w w' S → wpList P ops Q rest (a.put o.dst v') w') : wpList P ops Q (o :: rest) a w := by
  refine wpList_plain hgd fun K hK => ?_
  obtain ⟨v', w', S', hr, h2, h3, h4⟩ := run_appendL (P := P) w base t o.type e z sz bytes ht hinfo hz hsz hby v n cs S hown b c us ds T hcells hus h1 hc hdis hlen hbase
  unfold Oper.wp execOp
  simp only [ho, resolve, invoke, builtin, Sem.run_bind, Sem.run_pure, Result.andThen_ok, List.map_toArray, List.map_cons, List.map_nil, hs, hx, hr]
  exact hK _ _ (h v' w' S' h2 h3 h4)
end

/-- A value, plain or with depth, stored into a cell of a list under construction. -/
theorem OL.put {w : World} {base g n c : Nat} {e : TypeId} {sz : Nat} {cs : List Dat} {S : Nat → Prop} (h : OL w base e sz (.slice (some ⟨g, 0, none⟩) n c) n cs S) {i : Nat} (hi : i < cs.length) (u : Value) (d : Dat) (T : Nat → Prop) (hu : OD w base u d T) (hdis : ∀ k, T k → ¬ S k) :
    ∃ S', OL (w.setCell ⟨g, i, none⟩ u) base e sz (.slice (some ⟨g, 0, none⟩) n c) n (cs.set i d) S' ∧ (∀ k, S' k → S k ∨ T k) ∧ w.grownBy (w.setCell ⟨g, i, none⟩ u) (some g) ∧ S g ∧ (∃ z, w.cell? ⟨g, i, none⟩ = some z) ∧ w.frozen? ⟨g, i, none⟩ = false := by
  obtain ⟨vs, F, ho, hl, hr, hd, hg, hS⟩ := h
  have hv : i < vs.length := by omega
  obtain ⟨s1, s2⟩ := World.ownsRow.stored (g := g) (cap := c) ho i u
  have hW : Within w (w.setCell ⟨g, i, none⟩ u) (fun k => k = g) := Within.of_grown s2 (fun k hk => by simpa using hk.symm)
  have hgS : S g := (hS g).2 (.inl rfl)
  refine ⟨fun k => k = g ∨ ∃ j, j < vs.length ∧ (if j = i then T k else F j k), ⟨vs.set i u, fun j k => if j = i then T k else F j k, s1, by simpa using hl, ?_, ?_, ?_, ?_⟩, ?_, s2, hgS, ⟨vs[i], ?_⟩, World.ownsRow.frozenAt (g := g) (cap := c) ho i⟩
  · intro j hj hj'
    have hjv : j < vs.length := by simpa using hj
    have hjc : j < cs.length := by simpa using hj'
    by_cases e1 : j = i
    · subst e1
      simp only [if_true, List.getElem_set_self]
      exact hu.kept hW (fun k hk e2 => hdis k hk (e2 ▸ hgS))
    · simp only [if_neg e1]
      rw [List.getElem_set_ne (by omega), List.getElem_set_ne (by omega)]
      exact (hr j hjv hjc).kept hW (fun k hk e2 => hg j g hjv rfl (e2 ▸ hk))
  · intro j l k hj hl2 hne h1 h2
    have hj' : j < vs.length := by simpa using hj
    have hl' : l < vs.length := by simpa using hl2
    by_cases e1 : j = i
    · by_cases e2 : l = i
      · exact hne (e1.trans e2.symm)
      · simp only [if_pos e1] at h1
        simp only [if_neg e2] at h2
        exact hdis k h1 ((hS k).2 (.inr ⟨l, hl', h2⟩))
    · simp only [if_neg e1] at h1
      by_cases e2 : l = i
      · simp only [if_pos e2] at h2
        exact hdis k h2 ((hS k).2 (.inr ⟨j, hj', h1⟩))
      · simp only [if_neg e2] at h2
        exact hd j l k hj' hl' hne h1 h2
  · intro j g' hj hg' h1
    have hj' : j < vs.length := by simpa using hj
    have eg : g' = g := by simpa [Value.ownBlock] using hg'.symm
    subst eg
    by_cases e1 : j = i
    · simp only [if_pos e1] at h1
      exact hdis g' h1 hgS
    · simp only [if_neg e1] at h1
      exact hg j g' hj' rfl h1
  · intro k
    simp [Value.ownBlock, eq_comm]
  · intro k hk
    rcases hk with rfl | ⟨j, hj, hk⟩
    · exact .inl hgS
    · by_cases e1 : j = i
      · simp only [if_pos e1] at hk; exact .inr hk
      · simp only [if_neg e1] at hk; exact .inl ((hS k).2 (.inr ⟨j, hj, hk⟩))
  · rw [World.ownsRow.cellAt (g := g) (cap := c) ho i (by rw [← ho.1]; exact hv), List.getElem?_eq_getElem hv]

section
variable {P : Program} (w : World)
/-- make of a list whose elements have depth: all zero. -/
theorem make_ownL (t e : TypeId) (z : Value) (bytes : Nat) (zv : List Value) (zd : List Dat) (n : Nat) (ht : P.underlying t = some (.slice e)) (hinfo : (P.info? e).map (fun i => (i.zero, i.size, i.bytes)) = some (some z, zv.length, bytes)) (hz : z.cells = zv.toArray) (hby : bytes ≤ 128) (hn : n ≤ 1099511627776)
    (hp : 0 < zv.length) (h1 : ∀ u ∈ zv, u.oneCell' = true) (hl : zv.length = zd.length) (hzd : ∀ (W : World) (base i : Nat) (h : i < zv.length) (h' : i < zd.length), OD W base zv[i] zd[i] (fun _ => False)) :
    ∃ W : World, (Instr.makeSlice t (.int .i64 (n : Int)) (.int .i64 (n : Int))).run P w = .ok (.slice (some ⟨w.heap.size, 0, none⟩) n n) W ∧ OL W w.heap.size e zv.length (.slice (some ⟨w.heap.size, 0, none⟩) n n) n ((List.replicate n ()).flatMap (fun _ => zd)) (fun k => k = w.heap.size) ∧ Below w.heap.size w W := by
  let E : Enc Unit := { size := zv.length, cells := fun _ => zv, len := fun _ => rfl, one := fun _ => h1, pos := hp }
  obtain ⟨W, hrun, ho, hb⟩ := make_ownT (P := P) (E := E) w t e z bytes () n ht hinfo hz hby hn
  refine ⟨W, hrun, ⟨(List.replicate n ()).flatMap (fun _ => zv), fun _ _ => False, ?_, ?_, ?_, fun i j k _ _ _ h => h.elim, fun i g _ _ h => h, fun k => by simp [Value.ownBlock, eq_comm]⟩, hb⟩
  · have : (List.replicate n ()).length = n := List.length_replicate
    have h2 : W.ownsRow w.heap.size e zv.length (.slice (some ⟨w.heap.size, 0, none⟩) n n) (List.replicate n ()).length ((List.replicate n ()).flatMap (fun _ => zv)) := ho
    rwa [this] at h2
  · rw [flat_length (sz := zv.length) (fun _ => rfl), flat_length (sz := zv.length) (fun _ => hl.symm)]
  · intro i hi hi'
    have hi2 := hi
    rw [flat_length (sz := zv.length) (fun _ => rfl)] at hi2
    have hq : i / zv.length < (List.replicate n ()).length := Nat.div_lt_of_lt_mul (by rw [Nat.mul_comm]; exact hi2)
    have hr : i % zv.length < zv.length := Nat.mod_lt _ hp
    have e0 : i / zv.length * zv.length + i % zv.length = i := by rw [Nat.mul_comm]; exact Nat.div_add_mod i zv.length
    have v1 := flat_get (f := fun _ : Unit => zv) (sz := zv.length) (fun _ => rfl) hq hr
    have d1 := flat_get (f := fun _ : Unit => zd) (sz := zv.length) (fun _ => hl.symm) hq hr
    rw [e0, List.getElem?_eq_getElem hi, List.getElem?_eq_getElem hr] at v1
    rw [e0, List.getElem?_eq_getElem hi', List.getElem?_eq_getElem (by omega)] at d1
    rw [Option.some.inj v1, Option.some.inj d1]
    exact hzd W _ (i % zv.length) hr (by omega)
end
end Go.Proofs.YthnppodnjokaoaaDoor
namespace Go.Proofs.YthnppodnjokaoaaDoor
open Go.RowKit

/-- How a type's values lie in cells. -/
structure Lay (α : Type) where
  cells : α → List Dat
  sz : Nat
  len : ∀ x, (cells x).length = sz
  pos : 0 < sz
  wt : α → Nat
  fit : α → Prop

section
variable {α : Type} (L : Lay α)
/-- A list, read through. -/
def slD (xs : List α) : Dat := .sl xs.length (xs.flatMap L.cells)
def Lay.sumL : List α → Nat
  | [] => 0
  | x :: xs => L.wt x + Lay.sumL xs
theorem Lay.sumL_append (xs ys : List α) : L.sumL (xs ++ ys) = L.sumL xs + L.sumL ys := by
  induction xs with
  | nil => simp [Lay.sumL]
  | cons x xs ih => simp [Lay.sumL, ih]; omega
theorem Lay.sumL_take {xs : List α} {k : Nat} (h : k < xs.length) : L.sumL (xs.take (k + 1)) = L.sumL (xs.take k) + L.wt xs[k] := by
  rw [List.take_succ_eq_append_getElem h, Lay.sumL_append]; simp [Lay.sumL]
theorem Lay.sumL_take_le (xs : List α) (k : Nat) : L.sumL (xs.take k) ≤ L.sumL xs := by
  have h : L.sumL xs = L.sumL (xs.take k) + L.sumL (xs.drop k) := by rw [← Lay.sumL_append, List.take_append_drop]
  omega
theorem Lay.sumL_at {xs : List α} {k : Nat} (h : k < xs.length) : L.wt xs[k] ≤ L.sumL xs := by
  have := L.sumL_take h
  have := L.sumL_take_le xs (k + 1)
  omega
def Lay.list : Lay (List α) := { cells := fun xs => [slD L xs], sz := 1, len := fun _ => rfl, pos := by decide, wt := fun xs => xs.length + L.sumL xs, fit := fun xs => xs.length ≤ maxLen ∧ ∀ x ∈ xs, L.fit x }
theorem Lay.wt_list (xs : List α) : L.list.wt xs = xs.length + L.sumL xs := rfl
theorem Lay.cells_list (xs : List α) : L.list.cells xs = [slD L xs] := rfl
end
def Lay.int : Lay Int := { cells := fun k => [.val (.int .i64 k)], sz := 1, len := fun _ => rfl, pos := by decide, wt := fun _ => 0, fit := fun k => (Lit.int .i64 k).wf = true }
def Lay.str : Lay ByteArray := { cells := fun s => [.val (.string s)], sz := 1, len := fun _ => rfl, pos := by decide, wt := fun s => s.size, fit := fun s => s.size ≤ maxLen }
def Lay.bool : Lay Bool := { cells := fun b => [.val (.bool b)], sz := 1, len := fun _ => rfl, pos := by decide, wt := fun _ => 0, fit := fun _ => True }
theorem Lay.sumL_int (zs : List Int) : Lay.int.sumL zs = 0 := by
  induction zs with
  | nil => rfl
  | cons x xs ih => rw [Lay.sumL, ih]; rfl
theorem Lay.wt_ints (zs : List Int) : (Lay.list Lay.int).wt zs = zs.length := by rw [Lay.wt_list, Lay.sumL_int]; rfl

/-- What the measuring tells. -/
def SzE (wt : Nat) (l r : Int) : Prop := r = -1 ∨ (0 ≤ r ∧ r = l - wt)

section
variable {α : Type} {L : Lay α}
/-- Cell j of element i. -/
theorem RD.cellAt {w : World} {a : Option Addr} {n c : Nat} {xs : List α} (h : RD w (.slice a n c) (slD L xs)) {i : Nat} (hi : i < xs.length) {j : Nat} (hj : j < L.sz) (h'' : j < (L.cells xs[i]).length) :
    ∃ b off, a = some ⟨b, off, none⟩ ∧ b < w.heap.size ∧ ∃ u, w.cell? ⟨b, off + (i * L.sz + j), none⟩ = some u ∧ RD w u ((L.cells xs[i])[j]'h'') := RD.elem L.len h hi hj h''
theorem RD.capL {w : World} {a : Option Addr} {n c : Nat} {xs : List α} (h : RD w (.slice a n c) (slD L xs)) : n ≤ c := RD.cap h
theorem RD.lenL {w : World} {a : Option Addr} {n c : Nat} {xs : List α} (h : RD w (.slice a n c) (slD L xs)) : n = xs.length := RD.len h
theorem OD.shapeL {w : World} {base : Nat} {v : Value} {xs : List α} {S : Nat → Prop} (h : OD w base v (slD L xs) S) : ∃ a c, v = .slice a xs.length c ∧ (xs ≠ [] → ∃ g, a = some ⟨g, 0, none⟩) := OD.elemShape L.len L.pos h
theorem RD.shapeL {w : World} {v : Value} {xs : List α} (h : RD w v (slD L xs)) : ∃ a c, v = .slice a xs.length c := RD.slice (m := xs.length) h
/-- The one cell of element i of a list of lists. -/
theorem RD.listAt {w : World} {a : Option Addr} {n c : Nat} {xss : List (List α)} (h : RD w (.slice a n c) (slD (Lay.list L) xss)) {i : Nat} (hi : i < xss.length) :
    ∃ b off, a = some ⟨b, off, none⟩ ∧ b < w.heap.size ∧ ∃ a' c', w.cell? ⟨b, off + i, none⟩ = some (.slice a' xss[i].length c') ∧ RD w (.slice a' xss[i].length c') (slD L xss[i]) := by
  obtain ⟨b, off, rfl, hb, u, hc, r⟩ := RD.cellAt h hi (j := 0) (by show 0 < 1; decide) (by show 0 < 1; decide)
  have r' : RD w u (slD L xss[i]) := r
  obtain ⟨a', c', rfl⟩ := RD.shapeL r'
  have e : off + (i * (Lay.list L).sz + 0) = off + i := by show off + (i * 1 + 0) = _; omega
  rw [e] at hc
  exact ⟨b, off, rfl, hb, a', c', hc, r'⟩
theorem zero_cells {z : α} {zd : List Dat} (hz : L.cells z = zd) (n : Nat) : (List.replicate n ()).flatMap (fun _ => zd) = (List.replicate n z).flatMap L.cells := by
  induction n with
  | zero => rfl
  | succ n ih => rw [List.replicate_succ, List.replicate_succ, List.flatMap_cons, List.flatMap_cons, ih, hz]
theorem put_step {ws : List α} {x : α} {k : Nat} (h : k < ws.length) : (ws.take k ++ List.replicate (ws.length - k) x).set k ws[k] = ws.take (k + 1) ++ List.replicate (ws.length - (k + 1)) x := by
  have hl : (ws.take k).length = k := by simp; omega
  have e : ws.length - k = (ws.length - (k + 1)) + 1 := by omega
  rw [List.set_append_right _ _ (by omega), hl, Nat.sub_self, e, List.replicate_succ, List.set_cons_zero, List.take_succ_eq_append_getElem h, List.append_assoc]
  rfl
/-- A list stored into a list of lists under construction. -/
theorem OL.putList {w : World} {base g n c : Nat} {e : TypeId} {M : List (List α)} {S : Nat → Prop} (h : OL w base e 1 (.slice (some ⟨g, 0, none⟩) n c) n (M.flatMap (Lay.list L).cells) S) {i : Nat} (hi : i < M.length) (u : Value) (x : List α) (T : Nat → Prop) (hu : OD w base u (slD L x) T) (hdis : ∀ k, T k → ¬ S k) :
    ∃ S', OL (w.setCell ⟨g, i, none⟩ u) base e 1 (.slice (some ⟨g, 0, none⟩) n c) n ((M.set i x).flatMap (Lay.list L).cells) S' ∧ (∀ k, S' k → S k ∨ T k) ∧ w.grownBy (w.setCell ⟨g, i, none⟩ u) (some g) ∧ S g ∧ (∃ z, w.cell? ⟨g, i, none⟩ = some z) ∧ w.frozen? ⟨g, i, none⟩ = false := by
  have hl : i < (M.flatMap (Lay.list L).cells).length := by rw [flat_length (Lay.list L).len]; show i < M.length * 1; omega
  obtain ⟨S', O1, r⟩ := h.put hl u (slD L x) T hu hdis
  have e1 := flat_set (Lay.list L).len hi (show 0 < (Lay.list L).sz from Nat.zero_lt_one) (slD L x) x rfl
  rw [show i * (Lay.list L).sz + 0 = i from (by show i * 1 + 0 = i; omega)] at e1
  rw [e1] at O1
  exact ⟨S', O1, r⟩
end

theorem bcellH {W w1 : World} (hb : Below W.heap.size W w1) : (∀ b o, b < W.heap.size → w1.cell? ⟨b, o, none⟩ = W.cell? ⟨b, o, none⟩) ∧ (∀ b o, b < W.heap.size → w1.frozen? ⟨b, o, none⟩ = W.frozen? ⟨b, o, none⟩) :=
  ⟨fun b o h => hb.cell (p := ⟨b, o, none⟩) h, fun b o h => hb.frozen (p := ⟨b, o, none⟩) h⟩

/-- Values stored into cells one behind the other. -/
def putCells (w : World) (g : Nat) : Nat → List Value → World
  | _, [] => w
  | o, u :: us => putCells (w.setCell ⟨g, o, none⟩ u) g (o + 1) us
/-- Data set one behind the other. -/
def setMany (cs : List Dat) : Nat → List Dat → List Dat
  | _, [] => cs
  | o, d :: ds => setMany (cs.set o d) (o + 1) ds
theorem setMany_length (cs : List Dat) (o : Nat) (ds : List Dat) : (setMany cs o ds).length = cs.length := by
  induction ds generalizing cs o with
  | nil => rfl
  | cons d ds ih => simp [setMany, ih]
theorem setMany_eq (ds : List Dat) : ∀ (pre mid post : List Dat), mid.length = ds.length → setMany (pre ++ (mid ++ post)) pre.length ds = pre ++ (ds ++ post) := by
  induction ds with
  | nil => intro pre mid post h; have : mid = [] := List.eq_nil_of_length_eq_zero (by simpa using h); subst this; rfl
  | cons d ds ih =>
    intro pre mid post h
    match mid, h with
    | m :: mid, h =>
      have e : (pre ++ (m :: mid ++ post)).set pre.length d = (pre ++ [d]) ++ (mid ++ post) := by
        rw [List.set_append_right _ _ (Nat.le_refl _), Nat.sub_self]; simp
      have := ih (pre ++ [d]) mid post (by simpa using h)
      rw [List.length_append] at this
      simp only [setMany, e]
      rw [show pre.length + 1 = pre.length + [d].length from rfl, this]
      simp
theorem setMany_flat {α : Type} {f : α → List Dat} {sz : Nat} (hf : ∀ x, (f x).length = sz) {M : List α} {i : Nat} (hi : i < M.length) (x : α) : setMany (M.flatMap f) (i * sz) (f x) = (M.set i x).flatMap f := by
  have hl : ((M.take i).flatMap f).length = i * sz := by rw [flat_length hf, List.length_take, Nat.min_eq_left (by omega)]
  have hs : (M.set i x) = M.take i ++ x :: M.drop (i + 1) := by rw [List.set_eq_take_append_cons_drop, if_pos hi]
  rw [flat_split hi, ← hl, setMany_eq _ _ _ _ (by rw [hf, hf]), hs, List.flatMap_append]
  rfl

theorem Cells.tail {w : World} {base : Nat} {u : Value} {us : List Value} {d : Dat} {ds : List Dat} {T : Nat → Prop} (h : Cells w base (u :: us) (d :: ds) T) :
    ∃ T0 T1, OD w base u d T0 ∧ Cells w base us ds T1 ∧ (∀ k, T0 k → ¬ T1 k) ∧ ∀ k, T k ↔ T0 k ∨ T1 k := by
  obtain ⟨G, hl, hr, hd, hT⟩ := h
  refine ⟨G 0, fun k => ∃ i, i < us.length ∧ G (i + 1) k, hr 0 (by simp) (by simp), ⟨fun i => G (i + 1), by simpa using hl, fun i hi hi' => hr (i + 1) (by simpa using hi) (by simpa using hi'), fun i j k hi hj hne => hd (i + 1) (j + 1) k (by simpa using hi) (by simpa using hj) (by omega), fun k => Iff.rfl⟩, ?_, ?_⟩
  · rintro k h0 ⟨i, hi, h1⟩
    exact hd 0 (i + 1) k (by simp) (by simpa using hi) (by omega) h0 h1
  · intro k
    rw [hT k]
    constructor
    · rintro ⟨i, hi, h⟩
      cases i with
      | zero => exact .inl h
      | succ i => exact .inr ⟨i, by simpa using hi, h⟩
    · rintro (h | ⟨i, hi, h⟩)
      · exact ⟨0, by simp, h⟩
      · exact ⟨i + 1, by simpa using hi, h⟩

/-- Values with depth stored one behind the other into a list under construction. -/
theorem OL.putMany {base g n c : Nat} {e : TypeId} {sz : Nat} : ∀ (us : List Value) (ds : List Dat) (w : World) (cs : List Dat) (S T : Nat → Prop) (o : Nat), OL w base e sz (.slice (some ⟨g, 0, none⟩) n c) n cs S → Cells w base us ds T → o + us.length ≤ cs.length → (∀ k, T k → ¬ S k) →
    ∃ S', OL (putCells w g o us) base e sz (.slice (some ⟨g, 0, none⟩) n c) n (setMany cs o ds) S' ∧ (∀ k, S' k → S k ∨ T k) ∧ w.grownBy (putCells w g o us) (some g) ∧
      ∀ j, j < us.length → (∃ z, (putCells w g o (us.take j)).cell? ⟨g, o + j, none⟩ = some z) ∧ (putCells w g o (us.take j)).frozen? ⟨g, o + j, none⟩ = false := by
  intro us
  induction us with
  | nil =>
    intro ds w cs S T o h hc ho hd
    have : ds = [] := List.eq_nil_of_length_eq_zero (by obtain ⟨G, hl, _⟩ := hc; simpa using hl.symm)
    subst this
    exact ⟨S, h, fun k hk => .inl hk, World.grownBy.refl _ _, fun j hj => by simp at hj⟩
  | cons u us ih =>
    intro ds w cs S T o h hc ho hd
    match ds, hc with
    | [], hc => obtain ⟨G, hl, _⟩ := hc; simp at hl
    | d :: ds, hc =>
      obtain ⟨T0, T1, h0, h1, hdis, hT⟩ := hc.tail
      simp only [List.length_cons] at ho
      obtain ⟨S1, O1, hS1, G1, hSg, c0, f0⟩ := h.put (i := o) (by omega) u d T0 h0 (fun k hk => hd k ((hT k).2 (.inl hk)))
      have W1 : Within w (w.setCell ⟨g, o, none⟩ u) (fun k => k = g) := Within.of_grown G1 (fun k hk => by simpa using hk.symm)
      have h1' := h1.kept W1 (fun k hk e => hd k ((hT k).2 (.inr hk)) (e ▸ hSg))
      obtain ⟨S2, O2, hS2, G2, hall⟩ := ih ds _ (cs.set o d) S1 T1 (o + 1) O1 h1' (by rw [List.length_set]; omega) (fun k hk hk2 => by
        rcases hS1 k hk2 with hk2 | hk2
        · exact hd k ((hT k).2 (.inr hk)) hk2
        · exact hdis k hk2 hk)
      refine ⟨S2, O2, ?_, grownBy_trans G1 G2, ?_⟩
      · intro k hk
        rcases hS2 k hk with hk | hk
        · rcases hS1 k hk with hk | hk
          · exact .inl hk
          · exact .inr ((hT k).2 (.inl hk))
        · exact .inr ((hT k).2 (.inr hk))
      · intro j hj
        cases j with
        | zero => exact ⟨c0, f0⟩
        | succ j =>
          have := hall j (by simpa using hj)
          simp only [List.take_succ_cons, putCells]
          rw [show o + (j + 1) = o + 1 + j by omega]
          exact this

/-- An element with depth stored, cell by cell, into a list under construction. -/
theorem OL.putElem {α : Type} {L : Lay α} {w : World} {base g n c : Nat} {e : TypeId} {M : List α} {S : Nat → Prop} (h : OL w base e L.sz (.slice (some ⟨g, 0, none⟩) n c) n (M.flatMap L.cells) S) {i : Nat} (hi : i < M.length) (us : List Value) (x : α) (T : Nat → Prop) (hu : Cells w base us (L.cells x) T) (hdis : ∀ k, T k → ¬ S k) :
    ∃ S', OL (putCells w g (i * L.sz) us) base e L.sz (.slice (some ⟨g, 0, none⟩) n c) n ((M.set i x).flatMap L.cells) S' ∧ (∀ k, S' k → S k ∨ T k) ∧ S g ∧ w.grownBy (putCells w g (i * L.sz) us) (some g) ∧
      ∀ j, j < us.length → (∃ z, (putCells w g (i * L.sz) (us.take j)).cell? ⟨g, i * L.sz + j, none⟩ = some z) ∧ (putCells w g (i * L.sz) (us.take j)).frozen? ⟨g, i * L.sz + j, none⟩ = false := by
  have hlu : us.length = L.sz := by obtain ⟨G, hl, _⟩ := hu; rw [hl, L.len]
  have hle : i * L.sz + us.length ≤ (M.flatMap L.cells).length := by
    rw [flat_length L.len, hlu]
    have : (i + 1) * L.sz ≤ M.length * L.sz := Nat.mul_le_mul_right _ hi
    rw [Nat.add_mul] at this; omega
  obtain ⟨S', O', hS', G', hall⟩ := OL.putMany us (L.cells x) w _ S T (i * L.sz) h hu hle hdis
  rw [setMany_flat L.len hi] at O'
  have hSg : S g := by
    obtain ⟨vs, F, ho, hl, hr, hd, hg, hS⟩ := h
    exact (hS g).2 (.inl rfl)
  exact ⟨S', O', hS', hSg, G', hall⟩

/-- Lists of integers, in the words of earlier texts. -/
theorem RD.reads {w : World} {a : Option Addr} {n c : Nat} {zs : List Int} (h : RD w (.slice a n c) (slD Lay.int zs)) : Reads w a zs := by
  by_cases h0 : zs = []
  · exact .inl h0
  · have hpos : 0 < zs.length := List.length_pos_iff.2 h0
    obtain ⟨b, off, rfl, hb, _⟩ := RD.cellAt h hpos (j := 0) (by decide) (by simp [Lay.int])
    refine .inr ⟨b, off, rfl, hb, fun i hi => ?_⟩
    obtain ⟨b', off', e, _, u, hc, r⟩ := RD.cellAt h hi (j := 0) (by decide) (by simp [Lay.int])
    cases e
    have hu : u = .int .i64 zs[i] := RD.val_eq r
    have e1 : off + (i * Lay.int.sz + 0) = off + i := by show off + (i * 1 + 0) = _; omega
    rw [e1, hu] at hc
    rw [hc]
    simp [List.getD, hi]
theorem ints_cells (zs : List Int) : zs.flatMap Lay.int.cells = zs.map (fun k => Dat.val (.int .i64 k)) := by
  induction zs with
  | nil => rfl
  | cons x xs ih => rw [List.flatMap_cons, ih]; rfl
theorem Reads.rd {w : World} {a : Option Addr} {zs : List Int} (h : Reads w a zs) (c : Nat) (hc0 : zs.length ≤ c) : RD w (.slice a zs.length c) (slD Lay.int zs) := by
  unfold slD
  rw [ints_cells]
  rcases h with rfl | ⟨b, off, rfl, hb, hc⟩
  · exact .empty a c
  · refine .row b off _ c _ (zs.map (Value.int .i64)) hc0 hb (by simp) (fun i hi => ?_) (fun i hi hi' => ?_)
    · have hi' : i < zs.length := by simpa using hi
      rw [hc i hi']; simp [List.getD, hi']
    · simp only [List.getElem_map]; exact .val _
theorem OwnInts.ol {w : World} {base : Nat} {e : TypeId} {v : Value} {zs : List Int} (h : OwnInts w base e v zs) : OL w base e 1 v zs.length (zs.flatMap Lay.int.cells) (fun k => v.ownBlock = some k) := by
  rw [ints_cells]
  refine ⟨zs.map (Value.int .i64), fun _ _ => False, h, by simp, fun i hi hi' => ?_, fun _ _ _ _ _ _ h => h.elim, fun _ _ _ _ h => h, fun k => by simp⟩
  simp only [List.getElem_map]; exact .val _
theorem OwnInts.od {w : World} {base : Nat} {e : TypeId} {v : Value} {zs : List Int} (h : OwnInts w base e v zs) : OD w base v (slD Lay.int zs) (fun k => v.ownBlock = some k) := h.ol.od
end Go.Proofs.YthnppodnjokaoaaDoor
namespace Go.Proofs.YthnppodnjokaoaaDoor
theorem Tryd.infoInt : (Tryd.prog.info? 3).map (fun i => (i.zero, i.size, i.bytes)) = some (some (.int .i64 0), 1, 8) := by kernel_rfl
end Go.Proofs.YthnppodnjokaoaaDoor
namespace Go.Proofs.YthnppodnjokaoaaDoor
open Go.RowKit

theorem toIntS_any (a : Option Addr) (c : Nat) (zs : List Int) (w : World) (h : Reads w a zs) (hl : zs.length ≤ 1048576) :
    Calls Tryd.prog 8 #[.slice a zs.length c] w fun e w' => ∃ b, e = .returned (.slice (some ⟨b, 0, none⟩) zs.length zs.length) ∧ w.heap.size ≤ b ∧
      w'.rowIs b 3 zs.length (fun i => .int .i64 (zs.getD i 0)) ∧ Below w.heap.size w w' := by
  have hmk := fun wx => run_make_row' (P := Tryd.prog) 25 3 (.int .i64 0) 8 Tryd.underlying25 Tryd.infoInt rfl .i64 .i64 zs.length (by omega) (by omega) wx
  go_enter Tryd.func8, Tryd.ntmps8
  go_wp2
  clear hmk
  go_loopw [4] (fun i wr => ∃ k : Nat, k ≤ zs.length ∧ i = .int .i64 k ∧ wr.rowIs w.heap.size 3 zs.length (fun j => .int .i64 (if j < k then zs.getD j 0 else 0)) ∧ Below w.heap.size w wr) (fun i _ => zs.length - (intOf i).toNat)
  case atStart => exact ⟨0, Nat.zero_le _, rfl, (World.rowIs_made _ _ _ _).congr (fun i _ => by simp), (Below.refl _ _).alloc (Nat.le_refl _) _⟩
  case round =>
    obtain ⟨k, hk, rfl, hrow, hbel⟩ := hrel
    by_cases hlt : k < zs.length
    · obtain ⟨b, off, rfl, hb, hc⟩ := h.at hlt
      have hcx := (hbel.cell (p := ⟨b, off + k, none⟩) hb).trans (hc k hlt)
      have hfr := hrow.frozen k
      have hcy := hrow.cell hlt
      go_wp2
      go_roundw
      case rel =>
        exact ⟨k + 1, by omega, by go_num, (hrow.set k _).congr (fun j hj => by
          by_cases e : j = k
          · subst e; simp [List.getD, hj]
          · by_cases e2 : j < k
            · simp [e, e2, Nat.lt_succ_of_lt e2]
            · have : ¬ j < k + 1 := by omega
              simp [e, e2, this]), hbel.setCell (Nat.le_refl _) _⟩
      case measure => simp [intOf]; omega
    · go_wp2
      go_ret
      exact ⟨_, rfl, Nat.le_refl _, hrow.congr (fun j hj => by rw [if_pos (by omega)]), hbel⟩

theorem eqIntS_any (a b : Option Addr) (c d : Nat) (xs ys : List Int) (w : World) (h : Reads w a xs) (g : Reads w b ys) (hl : xs.length ≤ 1048576 * 4) :
    Calls Tryd.prog 10 #[.slice a xs.length c, .slice b ys.length d] w fun e w' => e = .returned (.bool (eqL xs ys)) ∧ Below w.heap.size w w' := by
  by_cases he : xs.length = ys.length
  · have hne : ((xs.length : Int) != (ys.length : Int)) = false := by simp [he]
    have HE : Hid (xs.length = ys.length) := he
    clear he
    go_enter Tryd.func10, Tryd.ntmps10
    go_wp2
    go_loopw [5] (fun i wr => ∃ k : Nat, k ≤ xs.length ∧ i = .int .i64 k ∧ xs.take k = ys.take k ∧ Below w.heap.size w wr) (fun i _ => xs.length - (intOf i).toNat)
    case atStart => exact ⟨0, Nat.zero_le _, rfl, rfl, Below.refl _ _⟩
    case round =>
      obtain ⟨k, hk, rfl, heq, hbel⟩ := hrel
      have HQ : Hid (xs.take k = ys.take k) := heq
      clear heq
      by_cases hlt : k < xs.length
      · have hlt2 : k < ys.length := HE.out ▸ hlt
        obtain ⟨b1, o1, rfl, hb1, hc1⟩ := h.at hlt
        obtain ⟨b2, o2, rfl, hb2, hc2⟩ := g.at hlt2
        have hcx := (hbel.cell (p := ⟨b1, o1 + k, none⟩) hb1).trans (hc1 k hlt)
        have hcy := (hbel.cell (p := ⟨b2, o2 + k, none⟩) hb2).trans (hc2 k hlt2)
        go_wp2
        go_quiet (fail)
        go_wp2
        · go_ret
          exact ⟨ret_bool (eqL_at hlt hlt2 ‹_›).symm, below_drewN hbel _⟩
        · go_roundw
          case rel => exact ⟨k + 1, by omega, by go_num, take_step hlt hlt2 ‹_› HQ.out, below_drewN hbel _⟩
          case measure => simp [intOf]; omega
      · go_wp2
        go_ret
        exact ⟨ret_bool (eqL_end hlt HE.out HQ.out).symm, hbel⟩
  · have hne : ((xs.length : Int) != (ys.length : Int)) = true := by simp; omega
    go_enter Tryd.func10, Tryd.ntmps10
    go_wp2
    go_ret
    exact ⟨ret_bool (eqL_len he).symm, Below.refl _ _⟩
end Go.Proofs.YthnppodnjokaoaaDoor
namespace Go.Proofs.YthnppodnjokaoaaDoor
open Go.RowKit

theorem markIntS_any (base : Nat) (v : Value) (xs : List Int) (k : Int) (w : World) (h : OwnInts w base 3 v xs) (hk : 0 ≤ k) (hk2 : k ≤ 1099511627776) (hl : xs.length ≤ 8388608) :
    Calls Tryd.prog 13 #[v, .int .i64 k] w fun e w' => e = .returned (.int .i64 (k + xs.length)) ∧ OwnInts w' base 3 v (marks k xs.length) ∧ w.grownBy w' v.ownBlock := by
  obtain ⟨a, cap, rfl, _, hg⟩ := h.shape
  go_enter Tryd.func13, Tryd.ntmps13
  go_wp2
  go_loopw [1, 5] (fun sk i wr => ∃ j : Nat, j ≤ xs.length ∧ i = .int .i64 j ∧ sk = .int .i64 (k + j) ∧ OwnInts wr base 3 (.slice a xs.length cap) (marks k j ++ xs.drop j) ∧ w.grownBy wr (Value.ownBlock (.slice a xs.length cap))) (fun _ i _ => xs.length - (intOf i).toNat)
  case atStart => exact ⟨0, Nat.zero_le _, rfl, by simp, by simpa [marks] using h, World.grownBy.refl _ _⟩
  case round =>
    obtain ⟨j, hj, rfl, rfl, hown, hgr⟩ := hrel
    by_cases hlt : j < xs.length
    · obtain ⟨g, rfl⟩ := hg (by intro e; simp [e] at hlt)
      obtain ⟨⟨u, hu⟩, hf⟩ := hown.at (step_length hj) j hlt
      have R := hown.store (step_length hj) j (k + j)
      clear hg
      go_wp2
      go_roundw
      case rel => exact ⟨j + 1, by omega, by go_num, by go_num, by rw [← set_step hlt]; exact R.1, grownBy_trans hgr R.2⟩
      case measure => simp [intOf]; omega
    · have e : j = xs.length := by omega
      go_wp2
      go_ret
      subst e
      exact ⟨rfl, by simpa using hown, hgr⟩

theorem heldIntS_any (a : Option Addr) (n c : Nat) (k : Int) (w : World) (h : Reads w a (marks k n)) (hk : 0 ≤ k) (hk2 : k ≤ 1099511627776) (hl : n ≤ 8388608) :
    Calls Tryd.prog 14 #[.slice a n c, .int .i64 k] w fun e w' => e = .returned (.int .i64 (k + n)) ∧ Below w.heap.size w w' := by
  go_enter Tryd.func14, Tryd.ntmps14
  go_wp2
  go_loop [1, 5] (fun sk i => ∃ j : Nat, j ≤ n ∧ i = .int .i64 j ∧ sk = .int .i64 (k + j)) (fun _ i => n - (intOf i).toNat)
  case atStart => exact ⟨0, Nat.zero_le _, rfl, by simp⟩
  case round =>
    obtain ⟨j, hj, rfl, rfl⟩ := hrel
    by_cases hlt : j < n
    · obtain ⟨b1, o1, rfl, hb1, hc1⟩ := h.at (i := j) (by rw [marks_length]; exact hlt)
      have hcx : w.cell? ⟨b1, o1 + j, none⟩ = some (.int .i64 (k + j)) := by
        rw [hc1 j (by rw [marks_length]; exact hlt), List.getD_eq_getElem?_getD, marks_get k n j hlt]; rfl
      clear h hc1
      go_wp2
      go_round
      case rel => exact ⟨j + 1, by omega, by go_num, by go_num⟩
      case measure => simp [intOf]; omega
    · have e : j = n := by omega
      go_wp2
      go_ret
      subst e
      exact ⟨rfl, Below.refl _ _⟩

theorem toIntS_own (a : Option Addr) (c : Nat) (zs : List Int) (w : World) (h : Reads w a zs) (hl : zs.length ≤ 1048576) :
    Calls Tryd.prog 8 #[.slice a zs.length c] w fun e w' => ∃ v, e = .returned v ∧ OwnInts w' w.heap.size 3 v zs ∧ Below w.heap.size w w' := by
  refine (toIntS_any a c zs w h hl).mono ?_
  rintro e w1 ⟨b, rfl, hb, hr, hl1⟩
  exact ⟨_, rfl, OwnInts.of_row hr hb (by unfold maxLen; omega), hl1⟩

theorem eqIntS_own (b1 b2 : Nat) (u v : Value) (xs ys : List Int) (w : World) (h : OwnInts w b1 3 u xs) (g : OwnInts w b2 3 v ys) (hl : xs.length ≤ 1048576 * 4) :
    Calls Tryd.prog 10 #[u, v] w fun e w' => e = .returned (.bool (eqL xs ys)) ∧ Below w.heap.size w w' := by
  obtain ⟨a, c, rfl, hr, _⟩ := h.shape
  obtain ⟨a2, c2, rfl, gr, _⟩ := g.shape
  exact eqIntS_any a a2 c c2 xs ys w hr gr hl

theorem heldIntS_own (base n : Nat) (v : Value) (k : Int) (w : World) (h : OwnInts w base 3 v (marks k n)) (hk : 0 ≤ k) (hk2 : k ≤ 1099511627776) (hl : n ≤ 8388608) :
    Calls Tryd.prog 14 #[v, .int .i64 k] w fun e w' => e = .returned (.int .i64 (k + n)) ∧ Below w.heap.size w w' := by
  obtain ⟨a, c, rfl, hr, _⟩ := h.shape
  rw [marks_length]
  exact heldIntS_any a n c k w hr hk hk2 hl
end Go.Proofs.YthnppodnjokaoaaDoor
