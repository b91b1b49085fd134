/-
  Plain notions that our walks share: a slice value that reads as a list of integers, and how that reading is kept where old memory is kept. No statement is proved here.
-/
import Derived.WalkKit
import Derived.WalkSpells
import Derived.WalkLawsBesides
import Derived.Deep.OwnRows
import Derived.Deep.QuietTactic
import Derived.BigQuiet
namespace Go.Proofs.Ythnppodnjokaoab
open Go.RowKit

/-- The address a leads to the integers zs, in cells that are there. -/
def Reads (w : World) (a : Option Addr) (zs : List Int) : Prop :=
  zs = [] ∨ ∃ b off, a = some ⟨b, off, none⟩ ∧ b < w.heap.size ∧ ∀ i, i < zs.length → w.cell? ⟨b, off + i, none⟩ = some (.int .i64 (zs.getD i 0))

theorem Reads.below {w w' : World} {a : Option Addr} {zs : List Int} (h : Reads w a zs) (hb : Below w.heap.size w w') : Reads w' a zs := by
  rcases h with h | ⟨b, off, rfl, hlt, hc⟩
  · exact .inl h
  · exact .inr ⟨b, off, rfl, Nat.lt_of_lt_of_le hlt hb.size, fun i hi => (hb.cell (p := ⟨b, off + i, none⟩) hlt).trans (hc i hi)⟩

theorem Reads.at {w : World} {a : Option Addr} {zs : List Int} (h : Reads w a zs) {i : Nat} (hi : i < zs.length) :
    ∃ b off, a = some ⟨b, off, none⟩ ∧ b < w.heap.size ∧ ∀ i, i < zs.length → w.cell? ⟨b, off + i, none⟩ = some (.int .i64 (zs.getD i 0)) := by
  rcases h with h | h
  · subst h; simp at hi
  · exact h

theorem Reads.of_row {w : World} {b : Nat} {t : TypeId} {zs : List Int} (h : w.rowIs b t zs.length (fun i => .int .i64 (zs.getD i 0))) : Reads w (some ⟨b, 0, none⟩) zs :=
  .inr ⟨b, 0, rfl, h.lt, fun i hi => by simpa using h.cell hi⟩

/-- A slice of integers that came in: nil, or a row of cap cells with the numbers zs, the first len of them its elements. -/
def IsRow (k : IntKind) (w : World) (a : Option Addr) (len cap : Nat) (zs : List Int) : Prop :=
  (a = none ∧ len = 0 ∧ cap = 0 ∧ zs = []) ∨
  ∃ x, a = some x ∧ len ≤ cap ∧ cap ≤ maxLen ∧ zs.length = cap ∧ (∀ i, i < zs.length → w.cell? (x.add i) = some (.int k (zs.getD i 0))) ∧ ∀ n ∈ zs, (Lit.int k n).wf = true

theorem IsRow.reads {w : World} {a : Option Addr} {len cap : Nat} {zs : List Int} (h : IsRow .i64 w a len cap zs) :
    ∃ ys : List Int, len = ys.length ∧ ys.length ≤ 9223372036854775807 ∧ Reads w a ys ∧ ∀ n ∈ ys, (Lit.int .i64 n).wf = true := by
  rcases h with ⟨rfl, rfl, rfl, rfl⟩ | ⟨x, rfl, hl, hm, hz, hc, hw⟩
  · exact ⟨[], rfl, by simp, .inl rfl, by simp⟩
  · have e : (zs.take len).length = len := by simp; omega
    unfold maxLen at hm
    refine ⟨zs.take len, e.symm, by omega, ?_, fun n hn => hw n (List.mem_of_mem_take hn)⟩
    by_cases h0 : len = 0
    · subst h0; exact .inl (by simp)
    · obtain ⟨b, off, spot⟩ := x
      have h1 := hc 0 (by omega)
      have hs : spot = none := by simpa [Addr.add] using World.cell?_spot h1
      subst hs
      refine .inr ⟨b, off, rfl, by simpa [Addr.add] using World.block_lt_of_cell? w _ h1, fun i hi => ?_⟩
      rw [e] at hi
      have := hc i (by omega)
      rw [Addr.add_lit] at this
      rw [this, List.getD_eq_getElem?_getD, List.getD_eq_getElem?_getD, List.getElem?_take, if_pos hi]

theorem below_drew {w : World} (n : Nat) : Below w.heap.size w (w.drewN n) := ⟨rfl, rfl, rfl, Nat.le_refl _, fun _ _ => rfl⟩

theorem rowIs_below {w w' : World} {b : Nat} {t : TypeId} {n : Nat} {f : Nat → Value} (h : w.rowIs b t n f) (hb : Below w.heap.size w w') : w'.rowIs b t n f := h.of_block (hb.block b h.lt)

theorem getD_take {zs : List Int} {k i : Nat} (h : i < k) : (zs.take k).getD i 0 = zs.getD i 0 := by simp [List.getD, h]

theorem ret_bool {a b : Bool} (h : a = b) : Ending.returned (.bool a) = .returned (.bool b) := by rw [h]
theorem ret_int {k : IntKind} {a b : Int} (h : a = b) : Ending.returned (.int k a) = .returned (.int k b) := by rw [h]

/-- Two lists of integers are the same. -/
def eqL (xs ys : List Int) : Bool := decide (xs = ys)
theorem eqL_self (xs : List Int) : eqL xs xs = true := by simp [eqL]
theorem eqL_len {xs ys : List Int} (h : ¬ xs.length = ys.length) : eqL xs ys = false := by
  simp only [eqL, decide_eq_false_iff_not]; intro e; exact h (by rw [e])
theorem eqL_at {xs ys : List Int} {k : Nat} (h1 : k < xs.length) (h2 : k < ys.length) (h : (xs[k] != ys[k]) = true) : eqL xs ys = false := by
  simp only [eqL, decide_eq_false_iff_not]; intro e; subst e; simp at h
theorem take_step {xs ys : List Int} {k : Nat} (h1 : k < xs.length) (h2 : k < ys.length) (h : (xs[k] != ys[k]) = false) (e : xs.take k = ys.take k) : xs.take (k + 1) = ys.take (k + 1) := by
  rw [List.take_succ_eq_append_getElem h1, List.take_succ_eq_append_getElem h2, e]
  simp at h; rw [h]
theorem eqL_end {xs ys : List Int} {k : Nat} (hk : ¬ k < xs.length) (hl : xs.length = ys.length) (e : xs.take k = ys.take k) : eqL xs ys = true := by
  rw [List.take_of_length_le (by omega), List.take_of_length_le (by omega)] at e
  simp [eqL, e]

/-- Each number is above the one ahead of it. -/
def okL (zs : List Int) : Bool := decide (∀ j, j < zs.length - 1 → zs.getD j 0 < zs.getD (j + 1) 0)
def okTo (zs : List Int) (k : Nat) : Prop := ∀ j, j + 1 < k → zs.getD j 0 < zs.getD (j + 1) 0
theorem okTo_one (zs : List Int) : okTo zs 1 := fun j h => by omega
theorem okTo_step {zs : List Int} {k : Nat} (h : okTo zs k) (h1 : 1 ≤ k) (g : zs.getD (k - 1) 0 < zs.getD k 0) : okTo zs (k + 1) := by
  intro j hj
  by_cases e : j + 1 < k
  · exact h j e
  · have : j = k - 1 := by omega
    subst this
    rwa [Nat.sub_add_cancel h1]
theorem okL_end {zs : List Int} {k : Nat} (h : okTo zs k) (hk : ¬ k < zs.length) : okL zs = true := by
  simp only [okL, decide_eq_true_eq]; intro j hj; exact h j (by omega)
theorem okL_no {zs : List Int} {k : Nat} (h1 : 1 ≤ k) (hk : k < zs.length) (g : zs.getD k 0 ≤ zs.getD (k - 1) 0) : okL zs = false := by
  simp only [okL, decide_eq_false_iff_not]; intro h
  have := h (k - 1) (by omega)
  rw [Nat.sub_add_cancel h1] at this
  omega

theorem okTo_step' {zs : List Int} {k : Nat} (h : okTo zs k) (h1 : 1 ≤ k) (hk : k < zs.length) (g : zs[k - 1]?.getD 0 < zs[k]) : okTo zs (k + 1) := okTo_step h h1 (by simpa [List.getD, hk] using g)
theorem okL_no' {zs : List Int} {k : Nat} (h1 : 1 ≤ k) (hk : k < zs.length) (g : zs[k] ≤ zs[k - 1]?.getD 0) : okL zs = false := okL_no h1 hk (by simpa [List.getD, hk] using g)

/-- One of the numbers is x. -/
def hasL (zs : List Int) (x : Int) : Bool := decide (x ∈ zs)
/-- The place of the first x, or -1. -/
def idxL (zs : List Int) (x : Int) : Int := if x ∈ zs then (zs.idxOf x : Int) else -1
theorem notin_step {zs : List Int} {x : Int} {k : Nat} (h : x ∉ zs.take k) (hk : k < zs.length) (g : (zs[k] == x) = false) : x ∉ zs.take (k + 1) := by
  rw [List.take_succ_eq_append_getElem hk]
  simp only [List.mem_append, List.mem_singleton, not_or]
  exact ⟨h, fun e => by simp [e] at g⟩
theorem notin_step' {zs : List Int} {x : Int} {k : Nat} (h : x ∉ zs.take k) (hk : k < zs.length) (g : (x == zs[k]) = false) : x ∉ zs.take (k + 1) :=
  notin_step h hk (by rw [Bool.beq_comm]; exact g)
theorem notin_end {zs : List Int} {x : Int} {k : Nat} (h : x ∉ zs.take k) (hk : ¬ k < zs.length) : x ∉ zs := by
  rwa [List.take_of_length_le (by omega)] at h
theorem in_at {zs : List Int} {x : Int} {k : Nat} (hk : k < zs.length) (g : (zs[k] == x) = true) : x ∈ zs := by
  have : zs[k] = x := by simpa using g
  exact this ▸ List.getElem_mem hk
theorem hasL_yes {zs : List Int} {x : Int} (h : x ∈ zs) : hasL zs x = true := by simp [hasL, h]
theorem hasL_no {zs : List Int} {x : Int} (h : x ∉ zs) : hasL zs x = false := by simp [hasL, h]
theorem idxL_no {zs : List Int} {x : Int} (h : x ∉ zs) : idxL zs x = -1 := by simp [idxL, h]
theorem idxL_at {zs : List Int} {x : Int} {k : Nat} (h : x ∉ zs.take k) (hk : k < zs.length) (g : (x == zs[k]) = true) : idxL zs x = k := by
  have e : x = zs[k] := by simpa using g
  have hm : x ∈ zs := e ▸ List.getElem_mem hk
  rw [idxL, if_pos hm]
  have hs : zs = zs.take k ++ zs.drop k := (List.take_append_drop k zs).symm
  have : zs.idxOf x = k := by
    conv => lhs; rw [hs]
    rw [List.idxOf_append, if_neg h, List.drop_eq_getElem_cons hk, ← e, List.idxOf_cons_self]
    simp; omega
  omega
theorem idxL_geq (zs : List Int) (x : Int) : decide (0 ≤ idxL zs x) = hasL zs x := by
  by_cases h : x ∈ zs <;> simp [idxL, hasL, h]

/-- How two integers stand. -/
def cmpI (x y : Int) : Int := if x < y then -1 else if y < x then 1 else 0
theorem cmpI_lt {x y : Int} (h : x < y) : cmpI x y = -1 := by simp [cmpI, h]
theorem cmpI_gt {x y : Int} (h : y < x) : cmpI x y = 1 := by rw [cmpI, if_neg (by omega), if_pos h]
theorem cmpI_eq {x y : Int} (h1 : y ≤ x) (h2 : x ≤ y) : cmpI x y = 0 := by rw [cmpI, if_neg (by omega), if_neg (by omega)]
/-- How two lists stand: place by place; a beginning is ahead. -/
def cmpL : List Int → List Int → Int
  | [], [] => 0
  | [], _ :: _ => -1
  | _ :: _, [] => 1
  | x :: xs, y :: ys => if x < y then -1 else if y < x then 1 else cmpL xs ys
theorem cmpL_drop {xs ys : List Int} {k : Nat} (h1 : k < xs.length) (h2 : k < ys.length) : cmpL (xs.drop k) (ys.drop k) = if xs[k] < ys[k] then -1 else if ys[k] < xs[k] then 1 else cmpL (xs.drop (k + 1)) (ys.drop (k + 1)) := by
  rw [List.drop_eq_getElem_cons h1, List.drop_eq_getElem_cons h2, cmpL]
theorem cmpL_lt {xs ys : List Int} {k : Nat} (e : cmpL xs ys = cmpL (xs.drop k) (ys.drop k)) (h1 : k < xs.length) (h2 : k < ys.length) (g : xs[k] < ys[k]) : cmpL xs ys = -1 := by
  rw [e, cmpL_drop h1 h2, if_pos g]
theorem cmpL_gt {xs ys : List Int} {k : Nat} (e : cmpL xs ys = cmpL (xs.drop k) (ys.drop k)) (h1 : k < xs.length) (h2 : k < ys.length) (g : ys[k] < xs[k]) : cmpL xs ys = 1 := by
  rw [e, cmpL_drop h1 h2, if_neg (by omega), if_pos g]
theorem cmpL_eq {xs ys : List Int} {k : Nat} (e : cmpL xs ys = cmpL (xs.drop k) (ys.drop k)) (h1 : k < xs.length) (h2 : k < ys.length) (g : ys[k] ≤ xs[k]) (g2 : xs[k] ≤ ys[k]) : cmpL xs ys = cmpL (xs.drop (k + 1)) (ys.drop (k + 1)) := by
  rw [e, cmpL_drop h1 h2, if_neg (by omega), if_neg (by omega)]
theorem cmpL_short {xs ys : List Int} {k : Nat} (e : cmpL xs ys = cmpL (xs.drop k) (ys.drop k)) (h1 : ¬ k < xs.length) (h2 : k < ys.length) : cmpL xs ys = -1 := by
  rw [e, List.drop_eq_nil_of_le (by omega), List.drop_eq_getElem_cons h2, cmpL]
theorem cmpL_long {xs ys : List Int} {k : Nat} (e : cmpL xs ys = cmpL (xs.drop k) (ys.drop k)) (h1 : k < xs.length) (h2 : ¬ k < ys.length) : cmpL xs ys = 1 := by
  rw [e, @List.drop_eq_nil_of_le _ ys _ (by omega), List.drop_eq_getElem_cons h1, cmpL]
theorem cmpL_end {xs ys : List Int} {k : Nat} (e : cmpL xs ys = cmpL (xs.drop k) (ys.drop k)) (h1 : ¬ k < xs.length) (h2 : ¬ k < ys.length) : cmpL xs ys = 0 := by
  rw [e, List.drop_eq_nil_of_le (by omega), List.drop_eq_nil_of_le (by omega), cmpL]

/-- The place of the first number above x, or the end. -/
def placeL (zs : List Int) (x : Int) : Nat := zs.findIdx fun y => decide (x < y)
/-- The same, looked for from m on. -/
def placeFrom (zs : List Int) (x : Int) (m : Nat) : Nat := m + (zs.drop m).findIdx fun y => decide (x < y)
theorem placeFrom_le (zs : List Int) (x : Int) (m : Nat) (h : m ≤ zs.length) : placeFrom zs x m ≤ zs.length := by
  have := List.findIdx_le_length (xs := zs.drop m) (p := fun y => decide (x < y))
  simp only [placeFrom, List.length_drop] at this ⊢; omega
theorem placeL_le (zs : List Int) (x : Int) : placeL zs x ≤ zs.length := List.findIdx_le_length
theorem placeFrom_zero (zs : List Int) (x : Int) : placeFrom zs x 0 = placeL zs x := by simp [placeFrom, placeL]
theorem placeFrom_end (zs : List Int) (x : Int) : placeFrom zs x zs.length = zs.length := by simp [placeFrom]
theorem placeFrom_yes {zs : List Int} {x : Int} {m : Nat} (h : m < zs.length) (g : x < zs[m]) : placeFrom zs x m = m := by
  rw [placeFrom, List.drop_eq_getElem_cons h, List.findIdx_cons]; simp [g]
theorem placeFrom_no {zs : List Int} {x : Int} {m : Nat} (h : m < zs.length) (g : ¬ x < zs[m]) : placeFrom zs x m = placeFrom zs x (m + 1) := by
  rw [placeFrom, List.drop_eq_getElem_cons h, List.findIdx_cons]; simp [g, placeFrom]; omega
/-- x is put in: as it was, where x is there; else ahead of the first number above it, or at the end. -/
def addL (zs : List Int) (x : Int) : List Int := if x ∈ zs then zs else zs.take (placeL zs x) ++ [x] ++ zs.drop (placeL zs x)
theorem addL_yes {zs : List Int} {x : Int} (h : hasL zs x = true) : addL zs x = zs := by
  have : x ∈ zs := by simpa [hasL] using h
  simp [addL, this]
theorem addL_no {zs : List Int} {x : Int} (h : hasL zs x = false) : addL zs x = zs.take (placeL zs x) ++ [x] ++ zs.drop (placeL zs x) := by
  have : x ∉ zs := by simpa [hasL] using h
  simp [addL, this]
theorem addL_length_le (zs : List Int) (x : Int) : (addL zs x).length ≤ zs.length + 1 := by
  unfold addL
  have := placeL_le zs x
  split
  · omega
  · simp; omega

/-- All of ys put into xs, in order. -/
def joinL (xs ys : List Int) : List Int := ys.foldl addL xs
theorem joinL_step {xs ys : List Int} {k : Nat} (h : k < ys.length) : addL (joinL xs (ys.take k)) ys[k] = joinL xs (ys.take (k + 1)) := by
  rw [List.take_succ_eq_append_getElem h, joinL, joinL, List.foldl_append]; rfl
theorem joinL_length_le (xs ys : List Int) : (joinL xs ys).length ≤ xs.length + ys.length := by
  induction ys generalizing xs with
  | nil => simp [joinL]
  | cons y ys ih =>
    have h1 := ih (addL xs y)
    have h2 := addL_length_le xs y
    simp only [joinL, List.foldl_cons, List.length_cons] at h1 ⊢
    omega

end Go.Proofs.Ythnppodnjokaoab
