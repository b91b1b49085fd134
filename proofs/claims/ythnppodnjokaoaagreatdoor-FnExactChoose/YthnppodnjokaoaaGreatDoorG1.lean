/-
  Contracts and plain mathematics, joined: Base, GramMath, DecMath, RowMath, GramTextMath, FirstMath, SetMath, FirstsMath, GrowMath, BitMath, FirstsMath2, FirstsClosed. No statement is proved here.
-/
import Derived.WalkKit
import Derived.WalkSpells
import Derived.WalkLawsBesides
import Derived.Deep.OwnRows
import Derived.Deep.QuietTactic
import Derived.BigQuiet
import Derived.Lib.ItoaNum
import Derived.Laws.IdiomStrings
namespace Go.Proofs.YthnppodnjokaoaaGreatDoor
open Go.RowKit

/-- The address a leads to the integers zs, in cells that are there. -/
def Reads (w : World) (a : Option Addr) (zs : List Int) : Prop :=
  zs = [] ∨ ∃ b off, a = some ⟨b, off, none⟩ ∧ b < w.heap.size ∧ ∀ i, i < zs.length → w.cell? ⟨b, off + i, none⟩ = some (.int .i64 (zs.getD i 0))

theorem Reads.below {w w' : World} {a : Option Addr} {zs : List Int} (h : Reads w a zs) (hb : Below w.heap.size w w') : Reads w' a zs := by
  rcases h with h | ⟨b, off, rfl, hlt, hc⟩
  · exact .inl h
  · exact .inr ⟨b, off, rfl, Nat.lt_of_lt_of_le hlt hb.size, fun i hi => (hb.cell (p := ⟨b, off + i, none⟩) hlt).trans (hc i hi)⟩

theorem Reads.at {w : World} {a : Option Addr} {zs : List Int} (h : Reads w a zs) {i : Nat} (hi : i < zs.length) :
    ∃ b off, a = some ⟨b, off, none⟩ ∧ b < w.heap.size ∧ ∀ i, i < zs.length → w.cell? ⟨b, off + i, none⟩ = some (.int .i64 (zs.getD i 0)) := by
  rcases h with h | h
  · subst h; simp at hi
  · exact h

theorem Reads.of_row {w : World} {b : Nat} {t : TypeId} {zs : List Int} (h : w.rowIs b t zs.length (fun i => .int .i64 (zs.getD i 0))) : Reads w (some ⟨b, 0, none⟩) zs :=
  .inr ⟨b, 0, rfl, h.lt, fun i hi => by simpa using h.cell hi⟩

/-- A slice of integers that came in: nil, or a row of cap cells with the numbers zs, the first len of them its elements. -/
def IsRow (k : IntKind) (w : World) (a : Option Addr) (len cap : Nat) (zs : List Int) : Prop :=
  (a = none ∧ len = 0 ∧ cap = 0 ∧ zs = []) ∨
  ∃ x, a = some x ∧ len ≤ cap ∧ cap ≤ maxLen ∧ zs.length = cap ∧ (∀ i, i < zs.length → w.cell? (x.add i) = some (.int k (zs.getD i 0))) ∧ ∀ n ∈ zs, (Lit.int k n).wf = true

theorem IsRow.reads {w : World} {a : Option Addr} {len cap : Nat} {zs : List Int} (h : IsRow .i64 w a len cap zs) :
    ∃ ys : List Int, len = ys.length ∧ ys.length ≤ 9223372036854775807 ∧ Reads w a ys ∧ ∀ n ∈ ys, (Lit.int .i64 n).wf = true := by
  rcases h with ⟨rfl, rfl, rfl, rfl⟩ | ⟨x, rfl, hl, hm, hz, hc, hw⟩
  · exact ⟨[], rfl, by simp, .inl rfl, by simp⟩
  · have e : (zs.take len).length = len := by simp; omega
    unfold maxLen at hm
    refine ⟨zs.take len, e.symm, by omega, ?_, fun n hn => hw n (List.mem_of_mem_take hn)⟩
    by_cases h0 : len = 0
    · subst h0; exact .inl (by simp)
    · obtain ⟨b, off, spot⟩ := x
      have h1 := hc 0 (by omega)
      have hs : spot = none := by simpa [Addr.add] using World.cell?_spot h1
      subst hs
      refine .inr ⟨b, off, rfl, by simpa [Addr.add] using World.block_lt_of_cell? w _ h1, fun i hi => ?_⟩
      rw [e] at hi
      have := hc i (by omega)
      rw [Addr.add_lit] at this
      rw [this, List.getD_eq_getElem?_getD, List.getD_eq_getElem?_getD, List.getElem?_take, if_pos hi]

theorem below_drew {w : World} (n : Nat) : Below w.heap.size w (w.drewN n) := ⟨rfl, rfl, rfl, Nat.le_refl _, fun _ _ => rfl⟩

theorem rowIs_below {w w' : World} {b : Nat} {t : TypeId} {n : Nat} {f : Nat → Value} (h : w.rowIs b t n f) (hb : Below w.heap.size w w') : w'.rowIs b t n f := h.of_block (hb.block b h.lt)

theorem getD_take {zs : List Int} {k i : Nat} (h : i < k) : (zs.take k).getD i 0 = zs.getD i 0 := by simp [List.getD, h]

theorem ret_bool {a b : Bool} (h : a = b) : Ending.returned (.bool a) = .returned (.bool b) := by rw [h]
theorem ret_int {k : IntKind} {a b : Int} (h : a = b) : Ending.returned (.int k a) = .returned (.int k b) := by rw [h]

/-- Two lists of integers are the same. -/
def eqL (xs ys : List Int) : Bool := decide (xs = ys)
theorem eqL_self (xs : List Int) : eqL xs xs = true := by simp [eqL]
theorem eqL_len {xs ys : List Int} (h : ¬ xs.length = ys.length) : eqL xs ys = false := by
  simp only [eqL, decide_eq_false_iff_not]; intro e; exact h (by rw [e])
theorem eqL_at {xs ys : List Int} {k : Nat} (h1 : k < xs.length) (h2 : k < ys.length) (h : (xs[k] != ys[k]) = true) : eqL xs ys = false := by
  simp only [eqL, decide_eq_false_iff_not]; intro e; subst e; simp at h
theorem take_step {xs ys : List Int} {k : Nat} (h1 : k < xs.length) (h2 : k < ys.length) (h : (xs[k] != ys[k]) = false) (e : xs.take k = ys.take k) : xs.take (k + 1) = ys.take (k + 1) := by
  rw [List.take_succ_eq_append_getElem h1, List.take_succ_eq_append_getElem h2, e]
  simp at h; rw [h]
theorem eqL_end {xs ys : List Int} {k : Nat} (hk : ¬ k < xs.length) (hl : xs.length = ys.length) (e : xs.take k = ys.take k) : eqL xs ys = true := by
  rw [List.take_of_length_le (by omega), List.take_of_length_le (by omega)] at e
  simp [eqL, e]

/-- Each number is above the one ahead of it. -/
def okL (zs : List Int) : Bool := decide (∀ j, j < zs.length - 1 → zs.getD j 0 < zs.getD (j + 1) 0)
def okTo (zs : List Int) (k : Nat) : Prop := ∀ j, j + 1 < k → zs.getD j 0 < zs.getD (j + 1) 0
theorem okTo_one (zs : List Int) : okTo zs 1 := fun j h => by omega
theorem okTo_step {zs : List Int} {k : Nat} (h : okTo zs k) (h1 : 1 ≤ k) (g : zs.getD (k - 1) 0 < zs.getD k 0) : okTo zs (k + 1) := by
  intro j hj
  by_cases e : j + 1 < k
  · exact h j e
  · have : j = k - 1 := by omega
    subst this
    rwa [Nat.sub_add_cancel h1]
theorem okL_end {zs : List Int} {k : Nat} (h : okTo zs k) (hk : ¬ k < zs.length) : okL zs = true := by
  simp only [okL, decide_eq_true_eq]; intro j hj; exact h j (by omega)
theorem okL_no {zs : List Int} {k : Nat} (h1 : 1 ≤ k) (hk : k < zs.length) (g : zs.getD k 0 ≤ zs.getD (k - 1) 0) : okL zs = false := by
  simp only [okL, decide_eq_false_iff_not]; intro h
  have := h (k - 1) (by omega)
  rw [Nat.sub_add_cancel h1] at this
  omega

theorem okTo_step' {zs : List Int} {k : Nat} (h : okTo zs k) (h1 : 1 ≤ k) (hk : k < zs.length) (g : zs[k - 1]?.getD 0 < zs[k]) : okTo zs (k + 1) := okTo_step h h1 (by simpa [List.getD, hk] using g)
theorem okL_no' {zs : List Int} {k : Nat} (h1 : 1 ≤ k) (hk : k < zs.length) (g : zs[k] ≤ zs[k - 1]?.getD 0) : okL zs = false := okL_no h1 hk (by simpa [List.getD, hk] using g)

/-- One of the numbers is x. -/
def hasL (zs : List Int) (x : Int) : Bool := decide (x ∈ zs)
/-- The place of the first x, or -1. -/
def idxL (zs : List Int) (x : Int) : Int := if x ∈ zs then (zs.idxOf x : Int) else -1
theorem notin_step {zs : List Int} {x : Int} {k : Nat} (h : x ∉ zs.take k) (hk : k < zs.length) (g : (zs[k] == x) = false) : x ∉ zs.take (k + 1) := by
  rw [List.take_succ_eq_append_getElem hk]
  simp only [List.mem_append, List.mem_singleton, not_or]
  exact ⟨h, fun e => by simp [e] at g⟩
theorem notin_step' {zs : List Int} {x : Int} {k : Nat} (h : x ∉ zs.take k) (hk : k < zs.length) (g : (x == zs[k]) = false) : x ∉ zs.take (k + 1) :=
  notin_step h hk (by rw [Bool.beq_comm]; exact g)
theorem notin_end {zs : List Int} {x : Int} {k : Nat} (h : x ∉ zs.take k) (hk : ¬ k < zs.length) : x ∉ zs := by
  rwa [List.take_of_length_le (by omega)] at h
theorem in_at {zs : List Int} {x : Int} {k : Nat} (hk : k < zs.length) (g : (zs[k] == x) = true) : x ∈ zs := by
  have : zs[k] = x := by simpa using g
  exact this ▸ List.getElem_mem hk
theorem hasL_yes {zs : List Int} {x : Int} (h : x ∈ zs) : hasL zs x = true := by simp [hasL, h]
theorem hasL_no {zs : List Int} {x : Int} (h : x ∉ zs) : hasL zs x = false := by simp [hasL, h]
theorem idxL_no {zs : List Int} {x : Int} (h : x ∉ zs) : idxL zs x = -1 := by simp [idxL, h]
theorem idxL_at {zs : List Int} {x : Int} {k : Nat} (h : x ∉ zs.take k) (hk : k < zs.length) (g : (x == zs[k]) = true) : idxL zs x = k := by
  have e : x = zs[k] := by simpa using g
  have hm : x ∈ zs := e ▸ List.getElem_mem hk
  rw [idxL, if_pos hm]
  have hs : zs = zs.take k ++ zs.drop k := (List.take_append_drop k zs).symm
  have : zs.idxOf x = k := by
    conv => lhs; rw [hs]
    rw [List.idxOf_append, if_neg h, List.drop_eq_getElem_cons hk, ← e, List.idxOf_cons_self]
    simp; omega
  omega
theorem idxL_geq (zs : List Int) (x : Int) : decide (0 ≤ idxL zs x) = hasL zs x := by
  by_cases h : x ∈ zs <;> simp [idxL, hasL, h]

/-- How two integers stand. -/
def cmpI (x y : Int) : Int := if x < y then -1 else if y < x then 1 else 0
theorem cmpI_lt {x y : Int} (h : x < y) : cmpI x y = -1 := by simp [cmpI, h]
theorem cmpI_gt {x y : Int} (h : y < x) : cmpI x y = 1 := by rw [cmpI, if_neg (by omega), if_pos h]
theorem cmpI_eq {x y : Int} (h1 : y ≤ x) (h2 : x ≤ y) : cmpI x y = 0 := by rw [cmpI, if_neg (by omega), if_neg (by omega)]
/-- How two lists stand: place by place; a beginning is ahead. -/
def cmpL : List Int → List Int → Int
  | [], [] => 0
  | [], _ :: _ => -1
  | _ :: _, [] => 1
  | x :: xs, y :: ys => if x < y then -1 else if y < x then 1 else cmpL xs ys
theorem cmpL_drop {xs ys : List Int} {k : Nat} (h1 : k < xs.length) (h2 : k < ys.length) : cmpL (xs.drop k) (ys.drop k) = if xs[k] < ys[k] then -1 else if ys[k] < xs[k] then 1 else cmpL (xs.drop (k + 1)) (ys.drop (k + 1)) := by
  rw [List.drop_eq_getElem_cons h1, List.drop_eq_getElem_cons h2, cmpL]
theorem cmpL_lt {xs ys : List Int} {k : Nat} (e : cmpL xs ys = cmpL (xs.drop k) (ys.drop k)) (h1 : k < xs.length) (h2 : k < ys.length) (g : xs[k] < ys[k]) : cmpL xs ys = -1 := by
  rw [e, cmpL_drop h1 h2, if_pos g]
theorem cmpL_gt {xs ys : List Int} {k : Nat} (e : cmpL xs ys = cmpL (xs.drop k) (ys.drop k)) (h1 : k < xs.length) (h2 : k < ys.length) (g : ys[k] < xs[k]) : cmpL xs ys = 1 := by
  rw [e, cmpL_drop h1 h2, if_neg (by omega), if_pos g]
theorem cmpL_eq {xs ys : List Int} {k : Nat} (e : cmpL xs ys = cmpL (xs.drop k) (ys.drop k)) (h1 : k < xs.length) (h2 : k < ys.length) (g : ys[k] ≤ xs[k]) (g2 : xs[k] ≤ ys[k]) : cmpL xs ys = cmpL (xs.drop (k + 1)) (ys.drop (k + 1)) := by
  rw [e, cmpL_drop h1 h2, if_neg (by omega), if_neg (by omega)]
theorem cmpL_short {xs ys : List Int} {k : Nat} (e : cmpL xs ys = cmpL (xs.drop k) (ys.drop k)) (h1 : ¬ k < xs.length) (h2 : k < ys.length) : cmpL xs ys = -1 := by
  rw [e, List.drop_eq_nil_of_le (by omega), List.drop_eq_getElem_cons h2, cmpL]
theorem cmpL_long {xs ys : List Int} {k : Nat} (e : cmpL xs ys = cmpL (xs.drop k) (ys.drop k)) (h1 : k < xs.length) (h2 : ¬ k < ys.length) : cmpL xs ys = 1 := by
  rw [e, @List.drop_eq_nil_of_le _ ys _ (by omega), List.drop_eq_getElem_cons h1, cmpL]
theorem cmpL_end {xs ys : List Int} {k : Nat} (e : cmpL xs ys = cmpL (xs.drop k) (ys.drop k)) (h1 : ¬ k < xs.length) (h2 : ¬ k < ys.length) : cmpL xs ys = 0 := by
  rw [e, List.drop_eq_nil_of_le (by omega), List.drop_eq_nil_of_le (by omega), cmpL]

/-- The place of the first number above x, or the end. -/
def placeL (zs : List Int) (x : Int) : Nat := zs.findIdx fun y => decide (x < y)
/-- The same, looked for from m on. -/
def placeFrom (zs : List Int) (x : Int) (m : Nat) : Nat := m + (zs.drop m).findIdx fun y => decide (x < y)
theorem placeFrom_le (zs : List Int) (x : Int) (m : Nat) (h : m ≤ zs.length) : placeFrom zs x m ≤ zs.length := by
  have := List.findIdx_le_length (xs := zs.drop m) (p := fun y => decide (x < y))
  simp only [placeFrom, List.length_drop] at this ⊢; omega
theorem placeL_le (zs : List Int) (x : Int) : placeL zs x ≤ zs.length := List.findIdx_le_length
theorem placeFrom_zero (zs : List Int) (x : Int) : placeFrom zs x 0 = placeL zs x := by simp [placeFrom, placeL]
theorem placeFrom_end (zs : List Int) (x : Int) : placeFrom zs x zs.length = zs.length := by simp [placeFrom]
theorem placeFrom_yes {zs : List Int} {x : Int} {m : Nat} (h : m < zs.length) (g : x < zs[m]) : placeFrom zs x m = m := by
  rw [placeFrom, List.drop_eq_getElem_cons h, List.findIdx_cons]; simp [g]
theorem placeFrom_no {zs : List Int} {x : Int} {m : Nat} (h : m < zs.length) (g : ¬ x < zs[m]) : placeFrom zs x m = placeFrom zs x (m + 1) := by
  rw [placeFrom, List.drop_eq_getElem_cons h, List.findIdx_cons]; simp [g, placeFrom]; omega
/-- x is put in: as it was, where x is there; else ahead of the first number above it, or at the end. -/
def addL (zs : List Int) (x : Int) : List Int := if x ∈ zs then zs else zs.take (placeL zs x) ++ [x] ++ zs.drop (placeL zs x)
theorem addL_yes {zs : List Int} {x : Int} (h : hasL zs x = true) : addL zs x = zs := by
  have : x ∈ zs := by simpa [hasL] using h
  simp [addL, this]
theorem addL_no {zs : List Int} {x : Int} (h : hasL zs x = false) : addL zs x = zs.take (placeL zs x) ++ [x] ++ zs.drop (placeL zs x) := by
  have : x ∉ zs := by simpa [hasL] using h
  simp [addL, this]
theorem addL_length_le (zs : List Int) (x : Int) : (addL zs x).length ≤ zs.length + 1 := by
  unfold addL
  have := placeL_le zs x
  split
  · omega
  · simp; omega

/-- All of ys put into xs, in order. -/
def joinL (xs ys : List Int) : List Int := ys.foldl addL xs
theorem joinL_step {xs ys : List Int} {k : Nat} (h : k < ys.length) : addL (joinL xs (ys.take k)) ys[k] = joinL xs (ys.take (k + 1)) := by
  rw [List.take_succ_eq_append_getElem h, joinL, joinL, List.foldl_append]; rfl
theorem joinL_length_le (xs ys : List Int) : (joinL xs ys).length ≤ xs.length + ys.length := by
  induction ys generalizing xs with
  | nil => simp [joinL]
  | cons y ys ih =>
    have h1 := ih (addL xs y)
    have h2 := addL_length_le xs y
    simp only [joinL, List.foldl_cons, List.length_cons] at h1 ⊢
    omega

end Go.Proofs.YthnppodnjokaoaaGreatDoor
namespace Go.Proofs.YthnppodnjokaoaaGreatDoor
open Go.RowKit

/-- From lo to hi. -/
def inB (x lo hi : Int) : Bool := decide (lo ≤ x ∧ x ≤ hi)
theorem inB_true {x lo hi : Int} : inB x lo hi = true ↔ lo ≤ x ∧ x ≤ hi := by simp [inB]
theorem inB_false {x lo hi : Int} : inB x lo hi = false ↔ ¬ (lo ≤ x ∧ x ≤ hi) := by simp [inB]
/-- A symbol of a grammar of n parts. -/
def symOk (n : Nat) (x : Int) : Bool := inB x 0 25 || inB x 100 (100 + n - 1)
def rowOk (n : Nat) (row : List Int) : Bool := decide (row.length ≤ 8) && row.all (symOk n)
def partOk (n : Nat) (alts : List (List Int)) : Bool := inB alts.length 1 8 && alts.all (rowOk n)
def gramOkB (parts : List (List (List Int))) : Bool := inB parts.length 1 20 && parts.all (partOk parts.length)

section
variable {α : Type} {p : α → Bool} {xs : List α} {k : Nat}
theorem all_step (h : (xs.take k).all p = true) (hk : k < xs.length) (g : p xs[k] = true) : (xs.take (k + 1)).all p = true := by
  rw [List.take_succ_eq_append_getElem hk, List.all_append, h]; simp [g]
theorem all_end (h : (xs.take k).all p = true) (hk : ¬ k < xs.length) : xs.all p = true := by
  rwa [List.take_of_length_le (by omega)] at h
theorem all_no (hk : k < xs.length) (g : p xs[k] = false) : xs.all p = false := by
  simp only [List.all_eq_false]; exact ⟨xs[k], List.getElem_mem hk, by simp [g]⟩
end
theorem symOk_true {n : Nat} {x : Int} : symOk n x = true ↔ (0 ≤ x ∧ x ≤ 25) ∨ (100 ≤ x ∧ x < 100 + n) := by
  simp only [symOk, Bool.or_eq_true, inB_true]; omega
theorem symOk_false {n : Nat} {x : Int} : symOk n x = false ↔ ¬ ((0 ≤ x ∧ x ≤ 25) ∨ (100 ≤ x ∧ x < 100 + n)) := by
  rw [← symOk_true]; simp
theorem rowOk_long {n : Nat} {row : List Int} (h : ¬ row.length ≤ 8) : rowOk n row = false := by simp [rowOk, h]
theorem rowOk_no {n : Nat} {row : List Int} (h : row.all (symOk n) = false) : rowOk n row = false := by simp [rowOk, h]
theorem rowOk_yes {n : Nat} {row : List Int} (h : row.length ≤ 8) (g : row.all (symOk n) = true) : rowOk n row = true := by simp [rowOk, h, g]
theorem partOk_many {n : Nat} {alts : List (List Int)} (h : inB alts.length 1 8 = false) : partOk n alts = false := by simp [partOk, h]
theorem partOk_no {n : Nat} {alts : List (List Int)} (h : alts.all (rowOk n) = false) : partOk n alts = false := by simp [partOk, h]
theorem partOk_yes {n : Nat} {alts : List (List Int)} (h : inB alts.length 1 8 = true) (g : alts.all (rowOk n) = true) : partOk n alts = true := by simp [partOk, h, g]
theorem gramOkB_many {parts : List (List (List Int))} (h : inB parts.length 1 20 = false) : gramOkB parts = false := by simp [gramOkB, h]
theorem gramOkB_no {parts : List (List (List Int))} (h : parts.all (partOk parts.length) = false) : gramOkB parts = false := by simp [gramOkB, h]
theorem gramOkB_yes {parts : List (List (List Int))} (h : inB parts.length 1 20 = true) (g : parts.all (partOk parts.length) = true) : gramOkB parts = true := by simp [gramOkB, h, g]
end Go.Proofs.YthnppodnjokaoaaGreatDoor
namespace Go.Proofs.YthnppodnjokaoaaGreatDoor
open Go.RowKit

theorem conv_one {P : Program} (src dst e : TypeId) (hs : P.underlying src = some (.slice e)) (he : P.underlying e = some (.int .u8)) (hd : P.underlying dst = some .string) (W : World) (b : UInt8) (x : Int) (hx : x = (b.toNat : Int)) :
    (convert src dst (.slice (some ⟨W.heap.size, 0, none⟩) 1 1)).run P (W.alloc (.cells #[.int .u8 x] e)) = .ok (.string ⟨#[b]⟩) (W.alloc (.cells #[.int .u8 x] e)) := by
  have := run_convert_bytes_back (P := P) (W.alloc (.cells #[.int .u8 x] e)) src dst e ⟨W.heap.size, 0, none⟩ 1 [b] hs he hd (by
    intro j hj
    have : j = 0 := by simpa using hj
    subst this
    simp [Addr.add, hx])
  simpa using this

/-- The digits of m; nothing for 0. -/
def decD (m : Nat) : List UInt8 := if m = 0 then [] else Lib.decDigits m
theorem decD_pos {m : Nat} (h : 1 ≤ m) : decD m = Lib.decDigits m := by rw [decD, if_neg (by omega)]
theorem decD_step {m : Nat} (h : 1 ≤ m) : decD m = decD (m / 10) ++ [UInt8.ofNat (48 + m % 10)] := by
  rw [decD_pos h, Lib.decDigits]
  by_cases h2 : m < 10
  · rw [dif_pos h2, decD, if_pos (by omega), Nat.mod_eq_of_lt h2]; rfl
  · rw [dif_neg h2, decD_pos (by omega)]
theorem digit_toNat (m : Nat) : ((UInt8.ofNat (48 + m % 10)).toNat : Int) = 48 + (m : Int) % 10 := by
  have : (UInt8.ofNat (48 + m % 10)).toNat = 48 + m % 10 := by
    rw [UInt8.toNat_ofNat']; omega
  rw [this]; omega
theorem nDigits_le : ∀ (k u : Nat), u < 10 ^ (k + 1) → Lib.nDigits u ≤ k + 1
  | 0, u, h => by rw [Lib.nDigits_small (by simpa using h)]; exact Nat.le_refl _
  | k + 1, u, h => by
    by_cases hu : u < 10
    · rw [Lib.nDigits_small hu]; omega
    · rw [Lib.nDigits_big hu]
      have := nDigits_le k (u / 10) (by rw [Nat.pow_succ] at h; omega)
      omega
theorem decDigits_le {N : Nat} (h : (N : Int) ≤ 9223372036854775808) : (Lib.decDigits N).length ≤ 20 := by
  rw [Lib.decDigits_length]
  exact nDigits_le 19 N (by have : N ≤ 9223372036854775808 := by omega
                            exact Nat.lt_of_le_of_lt this (by decide))
theorem digit_is (m : Nat) : ∃ b : UInt8, (b.toNat : Int) = 48 + (m : Int) % 10 ∧ b = UInt8.ofNat (48 + m % 10) := ⟨_, digit_toNat m, rfl⟩
end Go.Proofs.YthnppodnjokaoaaGreatDoor
namespace Go.Proofs.YthnppodnjokaoaaGreatDoor
open Go.RowKit

/-- A symbol's text. -/
def symText (x : Int) : List UInt8 := if inB x 0 25 then [UInt8.ofNat (97 + x.toNat)] else if 100 ≤ x then 80 :: Lib.itoa (x - 100) else [63]
theorem symText_letter {x : Int} (h : inB x 0 25 = true) : symText x = [UInt8.ofNat (97 + x.toNat)] := by rw [symText, if_pos h]
theorem symText_part {x : Int} (h : 100 ≤ x) : symText x = 80 :: Lib.itoa (x - 100) := by
  rw [symText, if_neg (by rw [inB_true]; omega), if_pos h]
theorem symText_none {x : Int} (h : inB x 0 25 = false) (g : x < 100) : symText x = [63] := by
  rw [symText, if_neg (by rw [h]; decide), if_neg (by omega)]
theorem itoa_le {n : Int} (h0 : 0 ≤ n) (h1 : n ≤ 9223372036854775807) : (Lib.itoa n).length ≤ 20 := by
  obtain ⟨N, rfl⟩ := Int.eq_ofNat_of_zero_le h0
  have : Lib.itoa (N : Int) = Lib.decDigits N := by rw [Lib.itoa, if_neg (by omega)]; congr 1
  rw [this]; exact decDigits_le (by omega)
theorem symText_le {x : Int} (h1 : x ≤ 9223372036854775807) : (symText x).length ≤ 21 := by
  unfold symText
  split
  · simp
  · split
    · have := itoa_le (n := x - 100) (by omega) (by omega); simp; omega
    · simp
theorem letter_byte {x : Int} (h : inB x 0 25 = true) : (97 + x) = ((UInt8.ofNat (97 + x.toNat)).toNat : Int) := by
  have := inB_true.1 h
  rw [UInt8.toNat_ofNat']
  have : (97 + x.toNat) % 2 ^ 8 = 97 + x.toNat := Nat.mod_eq_of_lt (by omega)
  rw [this]; omega
/-- The text of the first k symbols, a blank between. -/
def rowTo (zs : List Int) : Nat → List UInt8
  | 0 => []
  | k + 1 => (if k = 0 then [] else rowTo zs k ++ [32]) ++ symText (zs.getD k 0)
def rowText (zs : List Int) : List UInt8 := rowTo zs zs.length
theorem rowTo_le {zs : List Int} (hz : ∀ z ∈ zs, z ≤ 9223372036854775807) (k : Nat) (hk : k ≤ zs.length) : (rowTo zs k).length ≤ 22 * k := by
  induction k with
  | zero => simp [rowTo]
  | succ k ih =>
    have := ih (by omega)
    have h2 := symText_le (hz (zs.getD k 0) (by rw [List.getD_eq_getElem?_getD, List.getElem?_eq_getElem (by omega)]; exact List.getElem_mem _))
    simp only [rowTo, List.length_append]
    generalize symText (zs.getD k 0) = t at *
    split <;> simp <;> omega
theorem rowTo_first {zs : List Int} (h : 0 < zs.length) : rowTo zs (0 + 1) = symText zs[0] := by simp [rowTo, h]
theorem rowTo_next {zs : List Int} {k : Nat} (h : k < zs.length) (hk : k ≠ 0) : rowTo zs (k + 1) = (rowTo zs k ++ [32]) ++ symText zs[k] := by simp [rowTo, hk, h]
end Go.Proofs.YthnppodnjokaoaaGreatDoor
namespace Go.Proofs.YthnppodnjokaoaaGreatDoor
open Go.RowKit

/-- An alternative's text, a blank ahead of each symbol. -/
def altText (row : List Int) : List UInt8 := if row.length = 0 then [] else 32 :: rowText row
def altsTo (alts : List (List Int)) : Nat → List UInt8
  | 0 => []
  | i + 1 => (altsTo alts i ++ (if i = 0 then [] else [32, 124])) ++ altText (alts.getD i [])
def partText (k : Nat) (alts : List (List Int)) : List UInt8 := (80 :: Lib.itoa (k : Int) ++ [32, 61]) ++ (altsTo alts alts.length ++ [10])
def partsTo (P : List (List (List Int))) : Nat → List UInt8
  | 0 => []
  | k + 1 => partsTo P k ++ partText k (P.getD k [])
def gramText (P : List (List (List Int))) : List UInt8 := if gramOkB P then partsTo P P.length else []

/-- What is known of the sizes of a right grammar. -/
structure Fits (P : List (List (List Int))) : Prop where
  parts : P.length ≤ 20
  alts : ∀ alts ∈ P, alts.length ≤ 8
  rows : ∀ alts ∈ P, ∀ row ∈ alts, row.length ≤ 8
  syms : ∀ alts ∈ P, ∀ row ∈ alts, ∀ z ∈ row, 0 ≤ z ∧ z < 120
theorem Fits.of {P : List (List (List Int))} (h : gramOkB P = true) : Fits P := by
  simp only [gramOkB, Bool.and_eq_true, inB_true, List.all_eq_true, partOk, rowOk, decide_eq_true_eq] at h
  obtain ⟨hp, ha⟩ := h
  refine ⟨by omega, fun alts h1 => ?_, fun alts h1 row h2 => ((ha alts h1).2 row h2).1, fun alts h1 row h2 z h3 => ?_⟩
  · have := (ha alts h1).1; omega
  · have := symOk_true.1 (((ha alts h1).2 row h2).2 z h3); omega
theorem rowText_le8 {row : List Int} (h : row.length ≤ 8) (hz : ∀ z ∈ row, 0 ≤ z ∧ z < 120) : (rowText row).length ≤ 176 := by
  have := rowTo_le (zs := row) (fun z hz' => by have := hz z hz'; omega) row.length (Nat.le_refl _)
  unfold rowText; omega
theorem altText_le {row : List Int} (h : row.length ≤ 8) (hz : ∀ z ∈ row, 0 ≤ z ∧ z < 120) : (altText row).length ≤ 177 := by
  unfold altText
  have := rowText_le8 h hz
  split
  · simp
  · simp; omega
theorem altsTo_le {alts : List (List Int)} (h : ∀ row ∈ alts, row.length ≤ 8) (hz : ∀ row ∈ alts, ∀ z ∈ row, 0 ≤ z ∧ z < 120) (i : Nat) (hi : i ≤ alts.length) : (altsTo alts i).length ≤ 180 * i := by
  induction i with
  | zero => simp [altsTo]
  | succ i ih =>
    have h1 := ih (by omega)
    have e : alts.getD i [] = alts[i] := by simp [List.getD, show i < alts.length by omega]
    have h2 := altText_le (h alts[i] (List.getElem_mem _)) (hz alts[i] (List.getElem_mem _))
    simp only [altsTo, List.length_append, e]
    split <;> simp <;> omega
theorem partText_le {k : Nat} (hk : k ≤ 20) {alts : List (List Int)} (h8 : alts.length ≤ 8) (h : ∀ row ∈ alts, row.length ≤ 8) (hz : ∀ row ∈ alts, ∀ z ∈ row, 0 ≤ z ∧ z < 120) : (partText k alts).length ≤ 1500 := by
  have h1 := altsTo_le h hz alts.length (Nat.le_refl _)
  have h2 := itoa_le (n := (k : Int)) (by omega) (by omega)
  simp only [partText, List.length_append, List.length_cons, List.length_nil]
  omega
theorem partsTo_le {P : List (List (List Int))} (F : Fits P) (k : Nat) (hk : k ≤ P.length) : (partsTo P k).length ≤ 1500 * k := by
  induction k with
  | zero => simp [partsTo]
  | succ k ih =>
    have h1 := ih (by omega)
    have e : P.getD k [] = P[k] := by simp [List.getD, show k < P.length by omega]
    have hm := List.getElem_mem (l := P) (show k < P.length by omega)
    have h2 := partText_le (k := k) (by have := F.parts; omega) (F.alts _ hm) (F.rows _ hm) (F.syms _ hm)
    simp only [partsTo, List.length_append, e]
    omega
theorem partsTo_next {P : List (List (List Int))} {k : Nat} (h : k < P.length) : partsTo P (k + 1) = partsTo P k ++ partText k P[k] := by simp [partsTo, h]
theorem altsTo_first {alts : List (List Int)} (h : 0 < alts.length) : altsTo alts (0 + 1) = altText alts[0] := by simp [altsTo, h]
theorem altsTo_next {alts : List (List Int)} {i : Nat} (h : i < alts.length) (hi : i ≠ 0) : altsTo alts (i + 1) = (altsTo alts i ++ [32, 124]) ++ altText alts[i] := by simp [altsTo, h, hi]
theorem altText_nil {row : List Int} (h : row.length = 0) : altText row = [] := by simp [altText, h]
theorem altText_some {row : List Int} (h : row.length ≠ 0) : altText row = 32 :: rowText row := by simp [altText, h]
end Go.Proofs.YthnppodnjokaoaaGreatDoor
namespace Go.Proofs.YthnppodnjokaoaaGreatDoor
open Go.RowKit

/-- All symbols of the row are of those parts. -/
def allE (row E : List Int) : Bool := row.all fun x => decide (100 ≤ x) && hasL E (x - 100)
/-- All parts of the row are those. -/
def aliveE (row E : List Int) : Bool := row.all fun x => !decide (100 ≤ x) || hasL E (x - 100)

section
variable (p : List Int → List Int → Bool)
/-- Part k is put in for each of the first i alternatives that p lets. -/
def growI (k : Nat) (Q : List (List Int)) (E : List Int) : Nat → List Int
  | 0 => E
  | i + 1 => if p (Q.getD i []) (growI k Q E i) then addL (growI k Q E i) k else growI k Q E i
def growK (P : List (List (List Int))) (E : List Int) : Nat → List Int
  | 0 => E
  | k + 1 => growI p k (P.getD k []) (growK P E k) (P.getD k []).length
def growT (P : List (List (List Int))) : Nat → List Int
  | 0 => []
  | t + 1 => growK p P (growT P t) P.length
theorem growI_yes {k i : Nat} {Q : List (List Int)} {E : List Int} (h : i < Q.length) (g : p Q[i] (growI p k Q E i) = true) : growI p k Q E (i + 1) = addL (growI p k Q E i) k := by
  have e : Q.getD i [] = Q[i] := by simp [List.getD, h]
  rw [growI, e, if_pos g]
theorem growI_no {k i : Nat} {Q : List (List Int)} {E : List Int} (h : i < Q.length) (g : p Q[i] (growI p k Q E i) = false) : growI p k Q E (i + 1) = growI p k Q E i := by
  have e : Q.getD i [] = Q[i] := by simp [List.getD, h]
  rw [growI, e, if_neg (by simp [g])]
theorem growK_next {P : List (List (List Int))} {E : List Int} {k : Nat} (h : k < P.length) : growK p P E (k + 1) = growI p k P[k] (growK p P E k) P[k].length := by
  have e : P.getD k [] = P[k] := by simp [List.getD, h]
  rw [growK, e]
theorem growI_le (k : Nat) (Q : List (List Int)) (E : List Int) (i : Nat) : (growI p k Q E i).length ≤ E.length + i := by
  induction i with
  | zero => simp [growI]
  | succ i ih =>
    rw [growI]
    split
    · have := addL_length_le (growI p k Q E i) k; omega
    · omega
theorem growK_le {P : List (List (List Int))} (h8 : ∀ alts ∈ P, alts.length ≤ 8) (E : List Int) (k : Nat) (hk : k ≤ P.length) : (growK p P E k).length ≤ E.length + 8 * k := by
  induction k with
  | zero => simp [growK]
  | succ k ih =>
    have h1 := ih (by omega)
    have h2 := growI_le p k (P.getD k []) (growK p P E k) (P.getD k []).length
    have e : P.getD k [] = P[k] := by simp [List.getD, show k < P.length by omega]
    have h3 := h8 P[k] (List.getElem_mem _)
    rw [growK]; rw [e] at h2 ⊢; omega
theorem growT_le {P : List (List (List Int))} (hp : P.length ≤ 20) (h8 : ∀ alts ∈ P, alts.length ≤ 8) (t : Nat) : (growT p P t).length ≤ 160 * t := by
  induction t with
  | zero => simp [growT]
  | succ t ih =>
    have h2 := growK_le p h8 (growT p P t) P.length (Nat.le_refl _)
    rw [growT]; omega
end
/-- The parts that can become nothing; those that can become letters. -/
def emptiesL (P : List (List (List Int))) : List Int := growT allE P (P.length + 1)
def aliveL (P : List (List (List Int))) : List Int := growT aliveE P (P.length + 1)
theorem emptiesL_le {P : List (List (List Int))} (F : Fits P) : (emptiesL P).length ≤ 3360 := by
  have h1 := F.parts
  have h2 := growT_le allE F.parts F.alts (P.length + 1)
  have h3 : 160 * (P.length + 1) ≤ 3360 := by omega
  exact Nat.le_trans h2 h3
theorem aliveL_le {P : List (List (List Int))} (F : Fits P) : (aliveL P).length ≤ 3360 := by
  have h1 := F.parts
  have h2 := growT_le aliveE F.parts F.alts (P.length + 1)
  have h3 : 160 * (P.length + 1) ≤ 3360 := by omega
  exact Nat.le_trans h2 h3
/-- What Reachable grows: the parts of a row; of all rows of a part; of all parts that are there. -/
def reachJ (R : List Int) (E : List Int) : Nat → List Int
  | 0 => E
  | j + 1 => if 100 ≤ R.getD j 0 then addL (reachJ R E j) (R.getD j 0 - 100) else reachJ R E j
def reachI (Q : List (List Int)) (E : List Int) : Nat → List Int
  | 0 => E
  | i + 1 => reachJ (Q.getD i []) (reachI Q E i) (Q.getD i []).length
def reachK (P : List (List (List Int))) (E : List Int) : Nat → List Int
  | 0 => E
  | k + 1 => if hasL (reachK P E k) k then reachI (P.getD k []) (reachK P E k) (P.getD k []).length else reachK P E k
def reachT (P : List (List (List Int))) : Nat → List Int
  | 0 => [0]
  | t + 1 => reachK P (reachT P t) P.length
def reachL (P : List (List (List Int))) : List Int := reachT P (P.length + 1)
theorem reachJ_yes {R E : List Int} {j : Nat} (h : j < R.length) (g : 100 ≤ R[j]) : reachJ R E (j + 1) = addL (reachJ R E j) (R[j] - 100) := by
  have e : R.getD j 0 = R[j] := by simp [List.getD, h]
  rw [reachJ, e, if_pos g]
theorem reachJ_no {R E : List Int} {j : Nat} (h : j < R.length) (g : ¬ 100 ≤ R[j]) : reachJ R E (j + 1) = reachJ R E j := by
  have e : R.getD j 0 = R[j] := by simp [List.getD, h]
  rw [reachJ, e, if_neg g]
theorem reachI_next {Q : List (List Int)} {E : List Int} {i : Nat} (h : i < Q.length) : reachI Q E (i + 1) = reachJ Q[i] (reachI Q E i) Q[i].length := by
  have e : Q.getD i [] = Q[i] := by simp [List.getD, h]
  rw [reachI, e]
theorem reachK_yes {P : List (List (List Int))} {E : List Int} {k : Nat} (h : k < P.length) (g : hasL (reachK P E k) k = true) : reachK P E (k + 1) = reachI P[k] (reachK P E k) P[k].length := by
  have e : P.getD k [] = P[k] := by simp [List.getD, h]
  rw [reachK, e, if_pos g]
theorem reachK_no {P : List (List (List Int))} {E : List Int} {k : Nat} (g : hasL (reachK P E k) k = false) : reachK P E (k + 1) = reachK P E k := by
  rw [reachK, if_neg (by simp [g])]
theorem reachJ_le (R E : List Int) (j : Nat) : (reachJ R E j).length ≤ E.length + j := by
  induction j with
  | zero => simp [reachJ]
  | succ j ih =>
    rw [reachJ]
    split
    · have := addL_length_le (reachJ R E j) (R.getD j 0 - 100); omega
    · omega
theorem reachI_le {Q : List (List Int)} (h8 : ∀ row ∈ Q, row.length ≤ 8) (E : List Int) (i : Nat) (hi : i ≤ Q.length) : (reachI Q E i).length ≤ E.length + 8 * i := by
  induction i with
  | zero => simp [reachI]
  | succ i ih =>
    have h1 := ih (by omega)
    have h2 := reachJ_le (Q.getD i []) (reachI Q E i) (Q.getD i []).length
    have e : Q.getD i [] = Q[i] := by simp [List.getD, show i < Q.length by omega]
    have h3 := h8 Q[i] (List.getElem_mem _)
    rw [reachI]; rw [e] at h2 ⊢; omega
theorem reachK_le {P : List (List (List Int))} (F : Fits P) (E : List Int) (k : Nat) (hk : k ≤ P.length) : (reachK P E k).length ≤ E.length + 64 * k := by
  induction k with
  | zero => simp [reachK]
  | succ k ih =>
    have h1 := ih (by omega)
    have e : P.getD k [] = P[k] := by simp [List.getD, show k < P.length by omega]
    have hm := List.getElem_mem (l := P) (show k < P.length by omega)
    have h2 := reachI_le (F.rows _ hm) (reachK P E k) P[k].length (Nat.le_refl _)
    have h3 := F.alts _ hm
    rw [reachK]
    split
    · rw [e]; omega
    · omega
theorem reachT_le {P : List (List (List Int))} (F : Fits P) (t : Nat) : (reachT P t).length ≤ 1 + 1280 * t := by
  induction t with
  | zero => simp [reachT]
  | succ t ih =>
    have h2 := reachK_le F (reachT P t) P.length (Nat.le_refl _)
    have := F.parts
    rw [reachT]; omega
theorem reachL_le {P : List (List (List Int))} (F : Fits P) : (reachL P).length ≤ 26881 := by
  have h1 := F.parts
  have h2 := reachT_le F (P.length + 1)
  have h3 : 1 + 1280 * (P.length + 1) ≤ 26881 := by omega
  exact Nat.le_trans h2 h3
end Go.Proofs.YthnppodnjokaoaaGreatDoor
namespace Go.Proofs.YthnppodnjokaoaaGreatDoor

theorem mem_addL {zs : List Int} {x z : Int} : z ∈ addL zs x ↔ z = x ∨ z ∈ zs := by
  unfold addL
  split
  · constructor
    · exact .inr
    · rintro (rfl | h)
      · assumption
      · exact h
  · have e : ∀ p, z ∈ zs.take p ++ [x] ++ zs.drop p ↔ z = x ∨ z ∈ zs := by
      intro p
      have : z ∈ zs ↔ z ∈ zs.take p ∨ z ∈ zs.drop p := by rw [← List.mem_append, List.take_append_drop]
      rw [this]; simp only [List.mem_append, List.mem_singleton]
      constructor
      · rintro ((h | h) | h)
        · exact .inr (.inl h)
        · exact .inl h
        · exact .inr (.inr h)
      · rintro (h | h | h)
        · exact .inl (.inr h)
        · exact .inl (.inl h)
        · exact .inr h
    exact e _

theorem mem_joinL {xs ys : List Int} {z : Int} : z ∈ joinL xs ys ↔ z ∈ xs ∨ z ∈ ys := by
  induction ys generalizing xs with
  | nil => simp [joinL]
  | cons y ys ih =>
    show z ∈ joinL (addL xs y) ys ↔ _
    rw [ih, mem_addL]
    simp only [List.mem_cons]
    constructor
    · rintro ((h | h) | h)
      · exact .inr (.inl h)
      · exact .inl h
      · exact .inr (.inr h)
    · rintro (h | h | h)
      · exact .inl (.inr h)
      · exact .inl (.inl h)
      · exact .inr h

theorem hasL_join_left {xs ys : List Int} {k : Nat} (h : k < xs.length) : hasL (joinL xs ys) xs[k] = true := hasL_yes (mem_joinL.2 (.inl (List.getElem_mem h)))
theorem hasL_join_right {xs ys : List Int} {k : Nat} (h : k < ys.length) : hasL (joinL xs ys) ys[k] = true := hasL_yes (mem_joinL.2 (.inr (List.getElem_mem h)))

/-- Each number is below all that follow. -/
theorem pair_of_ok {zs : List Int} (h : okL zs = true) : zs.Pairwise (· < ·) := by
  simp only [okL, decide_eq_true_eq] at h
  have step : ∀ d i, i + d + 1 < zs.length → zs.getD i 0 < zs.getD (i + d + 1) 0 := by
    intro d
    induction d with
    | zero => intro i hi; exact h i (by omega)
    | succ d ih =>
      intro i hi
      have h1 := ih i (by omega)
      have h2 := h (i + d + 1) (by omega)
      have e : i + (d + 1) + 1 = i + d + 1 + 1 := by omega
      rw [e]
      omega
  rw [List.pairwise_iff_getElem]
  intro i j hi hj hij
  have := step (j - i - 1) i (by omega)
  rw [show i + (j - i - 1) + 1 = j by omega] at this
  simpa [List.getD, hi, hj] using this

theorem ok_of_pair {zs : List Int} (h : zs.Pairwise (· < ·)) : okL zs = true := by
  simp only [okL, decide_eq_true_eq]
  intro j hj
  rw [List.pairwise_iff_getElem] at h
  have := h j (j + 1) (by omega) (by omega) (by omega)
  have h1 : j < zs.length := by omega
  have h2 : j + 1 < zs.length := by omega
  simpa [List.getD, h1, h2] using this

theorem place_cons (z : Int) (zs : List Int) (x : Int) : placeL (z :: zs) x = if x < z then 0 else placeL zs x + 1 := by
  unfold placeL
  rw [List.findIdx_cons]
  by_cases h : x < z <;> simp [h]

theorem pair_add {zs : List Int} {x : Int} (h : zs.Pairwise (· < ·)) (hx : x ∉ zs) : (zs.take (placeL zs x) ++ [x] ++ zs.drop (placeL zs x)).Pairwise (· < ·) := by
  induction zs with
  | nil => simp [placeL]
  | cons z zs ih =>
    rw [List.pairwise_cons] at h
    rw [place_cons]
    by_cases hz : x < z
    · rw [if_pos hz]
      simp only [List.take_zero, List.nil_append, List.drop_zero, List.singleton_append]
      rw [List.pairwise_cons, List.pairwise_cons]
      refine ⟨fun a ha => ?_, h⟩
      rcases List.mem_cons.1 ha with rfl | ha
      · exact hz
      · have := h.1 a ha; omega
    · rw [if_neg hz]
      simp only [List.take_succ_cons, List.drop_succ_cons, List.cons_append]
      rw [List.pairwise_cons]
      refine ⟨fun a ha => ?_, ih h.2 (fun hm => hx (List.mem_cons_of_mem _ hm))⟩
      have hne : x ≠ z := fun e => hx (by rw [e]; exact List.mem_cons_self ..)
      have : a = x ∨ a ∈ zs := by
        simp only [List.mem_append, List.mem_singleton] at ha
        rcases ha with (ha | ha) | ha
        · exact .inr (List.mem_of_mem_take ha)
        · exact .inl ha
        · exact .inr (List.mem_of_mem_drop ha)
      rcases this with rfl | hm
      · omega
      · exact h.1 a hm

theorem pair_addL {zs : List Int} {x : Int} (h : zs.Pairwise (· < ·)) : (addL zs x).Pairwise (· < ·) := by
  unfold addL
  split
  · exact h
  · exact pair_add h ‹_›

theorem pair_joinL {xs ys : List Int} (h : xs.Pairwise (· < ·)) : (joinL xs ys).Pairwise (· < ·) := by
  induction ys generalizing xs with
  | nil => exact h
  | cons y ys ih => exact ih (pair_addL h)

theorem eq_of_pair : ∀ {xs ys : List Int}, xs.Pairwise (· < ·) → ys.Pairwise (· < ·) → (∀ z, z ∈ xs ↔ z ∈ ys) → xs = ys
  | [], [], _, _, _ => rfl
  | [], y :: ys, _, _, h => absurd ((h y).2 (List.mem_cons_self ..)) (by simp)
  | x :: xs, [], _, _, h => absurd ((h x).1 (List.mem_cons_self ..)) (by simp)
  | x :: xs, y :: ys, hx, hy, h => by
    rw [List.pairwise_cons] at hx hy
    have hxy : x = y := by
      have h1 := (h x).1 (List.mem_cons_self ..)
      have h2 := (h y).2 (List.mem_cons_self ..)
      rcases List.mem_cons.1 h1 with e | h1
      · exact e
      · rcases List.mem_cons.1 h2 with e | h2
        · exact e.symm
        · have a := hy.1 x h1
          have b := hx.1 y h2
          omega
    subst hxy
    congr 1
    refine eq_of_pair hx.2 hy.2 fun z => ⟨fun hz => ?_, fun hz => ?_⟩
    · have := hx.1 z hz
      rcases List.mem_cons.1 ((h z).1 (List.mem_cons_of_mem _ hz)) with e | e
      · omega
      · exact e
    · have := hy.1 z hz
      rcases List.mem_cons.1 ((h z).2 (List.mem_cons_of_mem _ hz)) with e | e
      · omega
      · exact e

theorem join_comm {xs ys : List Int} (hx : okL xs = true) (hy : okL ys = true) : joinL xs ys = joinL ys xs :=
  eq_of_pair (pair_joinL (pair_of_ok hx)) (pair_joinL (pair_of_ok hy)) fun z => by rw [mem_joinL, mem_joinL, Or.comm]
theorem join_ok {xs ys : List Int} (hx : okL xs = true) : okL (joinL xs ys) = true := ok_of_pair (pair_joinL (pair_of_ok hx))

theorem cmpL_self (xs : List Int) : cmpL xs xs = 0 := by
  induction xs with
  | nil => rfl
  | cons x xs ih => simp [cmpL, ih]
theorem cmpL_bound : ∀ xs ys : List Int, -1 ≤ cmpL xs ys ∧ cmpL xs ys ≤ 1
  | [], [] => by simp [cmpL]
  | [], _ :: _ => by simp [cmpL]
  | _ :: _, [] => by simp [cmpL]
  | x :: xs, y :: ys => by
    have := cmpL_bound xs ys
    rw [cmpL]
    split
    · omega
    · split <;> omega
theorem cmpL_swap : ∀ xs ys : List Int, cmpL ys xs = - cmpL xs ys
  | [], [] => rfl
  | [], _ :: _ => rfl
  | _ :: _, [] => rfl
  | x :: xs, y :: ys => by
    have := cmpL_swap xs ys
    rw [cmpL, cmpL]
    by_cases h1 : x < y
    · rw [if_neg (by omega), if_pos h1, if_pos h1]; rfl
    · by_cases h2 : y < x
      · rw [if_pos h2, if_neg h1, if_pos h2]
      · rw [if_neg h2, if_neg h1, if_neg h1, if_neg h2, this]
theorem cmpL_trans : ∀ xs ys zs : List Int, cmpL xs ys ≤ 0 → cmpL ys zs ≤ 0 → cmpL xs zs ≤ 0
  | [], _, [], _, _ => by simp [cmpL]
  | [], _, _ :: _, _, _ => by simp [cmpL]
  | _ :: _, [], _, h, _ => by simp [cmpL] at h
  | _ :: _, _ :: _, [], _, h => by simp [cmpL] at h
  | x :: xs, y :: ys, z :: zs, h, g => by
    rw [cmpL] at h g ⊢
    have ih := cmpL_trans xs ys zs
    split at h
    · split at g
      · rw [if_pos (by omega)]; omega
      · split at g
        · omega
        · rw [if_pos (by omega)]; omega
    · split at h
      · omega
      · split at g
        · rw [if_pos (by omega)]; omega
        · split at g
          · omega
          · rw [if_neg (by omega), if_neg (by omega)]
            exact ih h g
end Go.Proofs.YthnppodnjokaoaaGreatDoor
namespace Go.Proofs.YthnppodnjokaoaaGreatDoor
open Go.RowKit

/-- What a row can begin with, put to out. -/
def rowF (M : List (List Int)) (E : List Int) : List Int → List Int → List Int
  | out, [] => out
  | out, x :: xs => if inB x 0 25 then addL out x else if inB x 100 (100 + M.length - 1) then (if hasL E (x - 100) then rowF M E (joinL out (M.getD (x - 100).toNat [])) xs else joinL out (M.getD (x - 100).toNat [])) else out
section
variable {M : List (List Int)} {E out zs : List Int} {k : Nat}
theorem rowF_end (h : ¬ k < zs.length) : rowF M E out (zs.drop k) = out := by rw [List.drop_eq_nil_of_le (by omega), rowF]
theorem rowF_letter (h : k < zs.length) (g : inB zs[k] 0 25 = true) : rowF M E out (zs.drop k) = addL out zs[k] := by
  rw [List.drop_eq_getElem_cons h, rowF, if_pos g]
theorem rowF_none (h : k < zs.length) (g : inB zs[k] 0 25 = false) (g2 : inB zs[k] 100 (100 + M.length - 1) = false) : rowF M E out (zs.drop k) = out := by
  rw [List.drop_eq_getElem_cons h, rowF, if_neg (by simp [g]), if_neg (by simp [g2])]
theorem rowF_stop (h : k < zs.length) (g : inB zs[k] 0 25 = false) (g2 : inB zs[k] 100 (100 + M.length - 1) = true) (g3 : hasL E (zs[k] - 100) = false) : rowF M E out (zs.drop k) = joinL out (M.getD (zs[k] - 100).toNat []) := by
  rw [List.drop_eq_getElem_cons h, rowF, if_neg (by simp [g]), if_pos g2, if_neg (by simp [g3])]
theorem rowF_go (h : k < zs.length) (g : inB zs[k] 0 25 = false) (g2 : inB zs[k] 100 (100 + M.length - 1) = true) (g3 : hasL E (zs[k] - 100) = true) : rowF M E out (zs.drop k) = rowF M E (joinL out (M.getD (zs[k] - 100).toNat [])) (zs.drop (k + 1)) := by
  rw [List.drop_eq_getElem_cons h, rowF, if_neg (by simp [g]), if_pos g2, if_pos g3]
end
/-- All numbers of a list are below b, from 0 on, and none stands there twice. -/
structure SetB (b : Int) (xs : List Int) : Prop where
  nodup : xs.Nodup
  lt : ∀ x ∈ xs, 0 ≤ x ∧ x < b
theorem SetB.nil (b : Int) : SetB b [] := ⟨List.nodup_nil, fun _ h => by simp at h⟩
theorem nodup_addL {zs : List Int} {x : Int} (h : zs.Nodup) : (addL zs x).Nodup := by
  unfold addL
  split
  · exact h
  · rename_i hx
    have hs : zs = zs.take (placeL zs x) ++ zs.drop (placeL zs x) := (List.take_append_drop _ _).symm
    rw [hs] at h hx
    generalize zs.take (placeL zs x) = A at *
    generalize zs.drop (placeL zs x) = C at *
    rw [List.nodup_append] at h
    simp only [List.mem_append, not_or] at hx
    rw [List.append_assoc, List.singleton_append, List.nodup_append]
    refine ⟨h.1, List.nodup_cons.2 ⟨hx.2, h.2.1⟩, fun a ha b hb => ?_⟩
    rcases List.mem_cons.1 hb with rfl | hb
    · intro e; subst e; exact hx.1 ha
    · exact h.2.2 a ha b hb
theorem nodup_joinL {xs ys : List Int} (h : xs.Nodup) : (joinL xs ys).Nodup := by
  unfold joinL
  induction ys generalizing xs with
  | nil => exact h
  | cons z zs ih => exact ih (nodup_addL h)
theorem SetB.add {b : Int} {xs : List Int} {x : Int} (h : SetB b xs) (h0 : 0 ≤ x) (h1 : x < b) : SetB b (addL xs x) :=
  ⟨nodup_addL h.nodup, fun y hy => by
    rcases mem_addL.1 hy with rfl | hy
    · exact ⟨h0, h1⟩
    · exact h.lt y hy⟩
theorem SetB.join {b : Int} {xs ys : List Int} (h : SetB b xs) (g : SetB b ys) : SetB b (joinL xs ys) :=
  ⟨nodup_joinL h.nodup, fun y hy => by
    rcases mem_joinL.1 hy with hy | hy
    · exact h.lt y hy
    · exact g.lt y hy⟩
theorem nodup_le {n : Nat} : ∀ {xs : List Int}, xs.Nodup → (∀ x ∈ xs, 0 ≤ x ∧ x < (n : Int)) → xs.length ≤ n := by
  intro xs h hl
  have h1 : (xs.map Int.toNat).Nodup := by
    rw [List.nodup_iff_pairwise_ne] at h ⊢
    rw [List.pairwise_map]
    exact h.imp_of_mem (fun ha hb hne e => hne (by have := hl _ ha; have := hl _ hb; omega))
  have h2 : (xs.map Int.toNat) ⊆ List.range n := by
    intro k hk
    obtain ⟨x, hx, rfl⟩ := List.mem_map.1 hk
    have := hl x hx
    rw [List.mem_range]; omega
  have := h1.length_le_of_subset h2
  simpa using this
theorem SetB.len {n : Nat} {xs : List Int} (h : SetB (n : Int) xs) : xs.length ≤ n := nodup_le h.nodup h.lt
theorem rowF_setB {M : List (List Int)} {E : List Int} (hM : ∀ m ∈ M, SetB 27 m) : ∀ {zs out : List Int}, SetB 27 out → SetB 27 (rowF M E out zs)
  | [], out, h => by rw [rowF]; exact h
  | x :: xs, out, h => by
    rw [rowF]
    have hj : SetB 27 (joinL out (M.getD (x - 100).toNat [])) := by
      refine h.join ?_
      by_cases hi : (x - 100).toNat < M.length
      · have e : M.getD (x - 100).toNat [] = M[(x - 100).toNat] := by simp [List.getD, hi]
        rw [e]; exact hM _ (List.getElem_mem _)
      · have e : M.getD (x - 100).toNat [] = [] := by rw [List.getD_eq_getElem?_getD, List.getElem?_eq_none (by omega)]; rfl
        rw [e]; exact SetB.nil _
    split
    · have := inB_true.1 ‹_›; exact h.add (by omega) (by omega)
    · split
      · split
        · exact rowF_setB hM hj
        · exact hj
      · exact h
end Go.Proofs.YthnppodnjokaoaaGreatDoor
namespace Go.Proofs.YthnppodnjokaoaaGreatDoor
open Go.RowKit

theorem addL_same_or (zs : List Int) (x : Int) : addL zs x = zs ∨ zs.length < (addL zs x).length := by
  by_cases h : x ∈ zs
  · exact .inl (by simp [addL, h])
  · right
    have := placeL_le zs x
    simp only [addL, h, if_false, List.length_append, List.length_cons, List.length_nil, List.length_take, List.length_drop]
    omega
theorem addL_fix {zs : List Int} {x : Int} (h : addL zs x = zs) : x ∈ zs := by
  have : x ∈ addL zs x := mem_addL.2 (.inl rfl)
  rwa [h] at this

/-- Steps that leave as it was or make longer: where all together leave as it was, each does. -/
theorem steps_fix {α : Type} {m : α → Nat} {f : Nat → α} (h : ∀ i, f (i + 1) = f i ∨ m (f i) < m (f (i + 1))) {n : Nat} (e : f n = f 0) : ∀ i, i ≤ n → f i = f 0 := by
  have mono : ∀ i j, i ≤ j → m (f i) ≤ m (f j) := by
    intro i j hij
    induction j with
    | zero => have : i = 0 := by omega
              subst this; exact Nat.le_refl _
    | succ j ih =>
      by_cases e1 : i = j + 1
      · subst e1; exact Nat.le_refl _
      · have := ih (by omega)
        rcases h j with h1 | h1
        · rw [h1]; exact this
        · omega
  intro i hi
  induction i with
  | zero => rfl
  | succ i ih =>
    have h1 := ih (by omega)
    rcases h i with h2 | h2
    · rw [h2, h1]
    · have h3 := mono (i + 1) n hi
      rw [e] at h3
      rw [h1] at h2
      omega
/-- Turns that leave as it was or make longer, within N: behind N + 1 of them nothing turns any more. -/
theorem turns_fix {α : Type} {m : α → Nat} {F : α → α} {f : Nat → α} (hf : ∀ t, f (t + 1) = F (f t)) (h : ∀ t, f (t + 1) = f t ∨ m (f t) < m (f (t + 1))) {N : Nat} (hN : ∀ t, m (f t) ≤ N) : F (f (N + 1)) = f (N + 1) := by
  have key : ∀ t, t ≤ m (f t) ∨ ∃ s, s < t ∧ f (s + 1) = f s := by
    intro t
    induction t with
    | zero => exact .inl (Nat.zero_le _)
    | succ t ih =>
      rcases ih with ih | ⟨s, hs, e⟩
      · rcases h t with h1 | h1
        · exact .inr ⟨t, by omega, h1⟩
        · exact .inl (by omega)
      · exact .inr ⟨s, by omega, e⟩
  rcases key (N + 1) with h1 | ⟨s, hs, e⟩
  · have := hN (N + 1); omega
  · have all : ∀ d, f (s + d) = f s := by
      intro d
      induction d with
      | zero => rfl
      | succ d ih => rw [← Nat.add_assoc, hf, ih, ← hf, e]
    have e1 : f (N + 1) = f s := by have := all (N + 1 - s); rwa [show s + (N + 1 - s) = N + 1 by omega] at this
    rw [e1, ← hf, e]

section
variable {p : List Int → List Int → Bool}
theorem growI_step (k : Nat) (Q : List (List Int)) (E : List Int) (i : Nat) : growI p k Q E (i + 1) = growI p k Q E i ∨ (growI p k Q E i).length < (growI p k Q E (i + 1)).length := by
  rw [growI]
  split
  · exact addL_same_or _ _
  · exact .inl rfl
theorem growI_all (k : Nat) (Q : List (List Int)) (E : List Int) (i : Nat) : growI p k Q E i = E ∨ E.length < (growI p k Q E i).length := by
  induction i with
  | zero => exact .inl rfl
  | succ i ih =>
    rcases growI_step (p := p) k Q E i with h | h
    · rw [h]; exact ih
    · rcases ih with ih | ih
      · rw [ih] at h; exact .inr h
      · exact .inr (by omega)
theorem growK_step (P : List (List (List Int))) (E : List Int) (k : Nat) : growK p P E (k + 1) = growK p P E k ∨ (growK p P E k).length < (growK p P E (k + 1)).length := by
  rw [growK]; exact growI_all _ _ _ _
theorem growK_all (P : List (List (List Int))) (E : List Int) (k : Nat) : growK p P E k = E ∨ E.length < (growK p P E k).length := by
  induction k with
  | zero => exact .inl rfl
  | succ k ih =>
    rcases growK_step (p := p) P E k with h | h
    · rw [h]; exact ih
    · rcases ih with ih | ih
      · rw [ih] at h; exact .inr h
      · exact .inr (by omega)
/-- What is grown is a set of parts. -/
theorem growI_setB {k n : Nat} (hk : k < n) {Q : List (List Int)} {E : List Int} (h : SetB (n : Int) E) : ∀ i, SetB (n : Int) (growI p k Q E i)
  | 0 => h
  | i + 1 => by
    rw [growI]
    split
    · exact (growI_setB hk h i).add (by omega) (by omega)
    · exact growI_setB hk h i
theorem growK_setB {n : Nat} {P : List (List (List Int))} {E : List Int} (h : SetB (n : Int) E) : ∀ k, k ≤ n → SetB (n : Int) (growK p P E k)
  | 0, _ => h
  | k + 1, hk => by rw [growK]; exact growI_setB (by omega) (growK_setB h k (by omega)) _
theorem growT_setB (P : List (List (List Int))) : ∀ t, SetB (P.length : Int) (growT p P t)
  | 0 => SetB.nil _
  | t + 1 => by rw [growT]; exact growK_setB (growT_setB P t) _ (Nat.le_refl _)
/-- What is grown is closed. -/
theorem growT_closed {P : List (List (List Int))} {k i : Nat} (hk : k < P.length) (hi : i < P[k].length) (h : p P[k][i] (growT p P (P.length + 1)) = true) : (k : Int) ∈ growT p P (P.length + 1) := by
  have fx : growK p P (growT p P (P.length + 1)) P.length = growT p P (P.length + 1) :=
    turns_fix (F := fun E => growK p P E P.length) (f := growT p P) (m := List.length) (fun t => rfl) (fun t => growK_all P _ _) (fun t => (growT_setB P t).len)
  generalize growT p P (P.length + 1) = E at *
  have hK := steps_fix (f := growK p P E) (m := List.length) (growK_step P E) fx
  have e1 : growI p k P[k] E P[k].length = E := by
    have := growK_next p (E := E) hk
    rw [hK (k + 1) (by omega), hK k (by omega)] at this
    exact this.symm
  have hI := steps_fix (f := growI p k P[k] E) (m := List.length) (growI_step k P[k] E) e1
  have e2 := hI (i + 1) (by omega)
  have e3 : growI p k P[k] E i = E := hI i (by omega)
  rw [growI_yes p hi (by rw [e3]; exact h), e3] at e2
  exact addL_fix e2
/-- Nothing is grown that a closed set has not. -/
theorem growT_sound {P : List (List (List Int))} {S : Int → Prop} (hS : ∀ k (hk : k < P.length) i (hi : i < P[k].length) (E : List Int), (∀ x ∈ E, S x) → p P[k][i] E = true → S k) (t : Nat) : ∀ x ∈ growT p P t, S x := by
  have sI : ∀ k (hk : k < P.length) E, (∀ x ∈ E, S x) → ∀ i, i ≤ P[k].length → ∀ x ∈ growI p k P[k] E i, S x := by
    intro k hk E hE i
    induction i with
    | zero => exact fun _ => hE
    | succ i ih =>
      intro hi x hx
      by_cases g : p P[k][i] (growI p k P[k] E i) = true
      · rw [growI_yes p (by omega) g] at hx
        rcases mem_addL.1 hx with rfl | hx
        · exact hS k hk i (by omega) _ (ih (by omega)) g
        · exact ih (by omega) x hx
      · rw [growI_no p (by omega) (by simpa using g)] at hx
        exact ih (by omega) x hx
  have sK : ∀ E, (∀ x ∈ E, S x) → ∀ k, k ≤ P.length → ∀ x ∈ growK p P E k, S x := by
    intro E hE k
    induction k with
    | zero => exact fun _ => hE
    | succ k ih =>
      intro hk
      rw [growK_next p (by omega)]
      exact sI k (by omega) _ (ih (by omega)) _ (Nat.le_refl _)
  induction t with
  | zero => intro x hx; simp [growT] at hx
  | succ t ih => rw [growT]; exact sK _ ih _ (Nat.le_refl _)
end
theorem growT_sorted {p : List Int → List Int → Bool} (P : List (List (List Int))) (t : Nat) : (growT p P t).Pairwise (· < ·) := by
  have sI : ∀ k Q (E : List Int), E.Pairwise (· < ·) → ∀ i, (growI p k Q E i).Pairwise (· < ·) := by
    intro k Q E hE i
    induction i with
    | zero => exact hE
    | succ i ih =>
      rw [growI]
      split
      · exact pair_addL ih
      · exact ih
  have sK : ∀ (E : List Int), E.Pairwise (· < ·) → ∀ k, (growK p P E k).Pairwise (· < ·) := by
    intro E hE k
    induction k with
    | zero => exact hE
    | succ k ih => rw [growK]; exact sI _ _ _ ih _
  induction t with
  | zero => exact List.Pairwise.nil
  | succ t ih => rw [growT]; exact sK _ ih _
end Go.Proofs.YthnppodnjokaoaaGreatDoor
namespace Go.Proofs.YthnppodnjokaoaaGreatDoor
open Go.RowKit

/-- One step: flag s.1 is raised where the test says so. -/
def bstep (b : List Bool) (s : Nat × (List Bool → Bool)) : List Bool := b.set s.1 (b.getD s.1 false || s.2 b)
def bturn (L : List (Nat × (List Bool → Bool))) (b : List Bool) : List Bool := L.foldl bstep b
def cntB : List Bool → Nat
  | [] => 0
  | b :: bs => (if b then 1 else 0) + cntB bs
theorem cntB_le (b : List Bool) : cntB b ≤ b.length := by
  induction b with
  | nil => simp [cntB]
  | cons x xs ih => simp only [cntB, List.length_cons]; split <;> omega
theorem cntB_set {b : List Bool} {k : Nat} (h : k < b.length) (g : b[k] = false) : cntB (b.set k true) = cntB b + 1 := by
  induction b generalizing k with
  | nil => simp at h
  | cons x xs ih =>
    cases k with
    | zero => simp at g; subst g; simp [cntB]; omega
    | succ k =>
      have := ih (k := k) (by simpa using h) (by simpa using g)
      simp only [List.set_cons_succ, cntB, this]; omega
theorem bstep_length (b : List Bool) (s : Nat × (List Bool → Bool)) : (bstep b s).length = b.length := by simp [bstep]
theorem bstep_or (b : List Bool) (s : Nat × (List Bool → Bool)) : bstep b s = b ∨ cntB b < cntB (bstep b s) := by
  unfold bstep
  by_cases h : s.1 < b.length
  · have e : b.getD s.1 false = b[s.1] := by simp [List.getD, h]
    rw [e]
    by_cases g : b[s.1] = true
    · left; rw [g, Bool.true_or]
      conv => lhs; rw [← g]
      exact List.set_getElem_self h
    · have g' : b[s.1] = false := by simpa using g
      rw [g', Bool.false_or]
      by_cases t : s.2 b = true
      · right; rw [t, cntB_set h g']; omega
      · have t' : s.2 b = false := by simpa using t
        left; rw [t']
        conv => lhs; rw [← g']
        exact List.set_getElem_self h
  · left; exact List.set_eq_of_length_le (by omega)
theorem bstep_fix {b : List Bool} {s : Nat × (List Bool → Bool)} (h : bstep b s = b) (hk : s.1 < b.length) (ht : s.2 b = true) : b[s.1] = true := by
  have e : (bstep b s)[s.1]? = some (b.getD s.1 false || s.2 b) := by simp [bstep, hk]
  rw [h, List.getElem?_eq_getElem hk, ht, Bool.or_true] at e
  exact Option.some.inj e
theorem fold_or (L : List (Nat × (List Bool → Bool))) (b : List Bool) (i : Nat) : (L.take (i + 1)).foldl bstep b = (L.take i).foldl bstep b ∨ cntB ((L.take i).foldl bstep b) < cntB ((L.take (i + 1)).foldl bstep b) := by
  by_cases h : i < L.length
  · rw [List.take_succ_eq_append_getElem h, List.foldl_append]
    exact bstep_or _ _
  · left; rw [List.take_of_length_le (by omega), List.take_of_length_le (by omega)]
theorem bturn_or (L : List (Nat × (List Bool → Bool))) (b : List Bool) : bturn L b = b ∨ cntB b < cntB (bturn L b) := by
  have key : ∀ i, (L.take i).foldl bstep b = b ∨ cntB b < cntB ((L.take i).foldl bstep b) := by
    intro i
    induction i with
    | zero => exact .inl rfl
    | succ i ih =>
      rcases fold_or L b i with h | h
      · rw [h]; exact ih
      · rcases ih with ih | ih
        · rw [ih] at h; exact .inr h
        · exact .inr (by omega)
  have := key L.length
  rwa [List.take_length] at this
theorem bturn_fix {L : List (Nat × (List Bool → Bool))} {b : List Bool} (h : bturn L b = b) {s : Nat × (List Bool → Bool)} (hs : s ∈ L) (hk : s.1 < b.length) (ht : s.2 b = true) : b[s.1] = true := by
  obtain ⟨i, hi, rfl⟩ := List.getElem_of_mem hs
  have all := steps_fix (f := fun i => (L.take i).foldl bstep b) (m := cntB) (fold_or L b) (n := L.length) (by rw [List.take_length]; exact h)
  have e1 : (L.take i).foldl bstep b = b := all i (by omega)
  have e2 : (L.take (i + 1)).foldl bstep b = b := all (i + 1) (by omega)
  rw [List.take_succ_eq_append_getElem hi, List.foldl_append, e1] at e2
  exact bstep_fix e2 hk ht
theorem bturn_length (L : List (Nat × (List Bool → Bool))) (b : List Bool) : (bturn L b).length = b.length := by
  unfold bturn
  induction L generalizing b with
  | nil => rfl
  | cons s L ih => rw [List.foldl_cons, ih, bstep_length]
/-- Behind N + 1 turns, where there are N flags at most, each flag is up that a test asks for. -/
theorem bturns_closed {L : List (Nat × (List Bool → Bool))} {f : Nat → List Bool} (hf : ∀ t, f (t + 1) = bturn L (f t)) {N T : Nat} (hN : (f 0).length ≤ N) (hT : N + 1 ≤ T) {s : Nat × (List Bool → Bool)} (hs : s ∈ L) (hk : s.1 < (f T).length) (ht : s.2 (f T) = true) : (f T)[s.1] = true := by
  have hl : ∀ t, (f t).length = (f 0).length := by
    intro t
    induction t with
    | zero => rfl
    | succ t ih => rw [hf, bturn_length, ih]
  have fx : bturn L (f (N + 1)) = f (N + 1) := turns_fix (F := bturn L) (f := f) (m := cntB) hf (fun t => by rw [hf]; exact bturn_or L (f t)) (fun t => by have := cntB_le (f t); rw [hl t] at this; omega)
  have all : ∀ d, f (N + 1 + d) = f (N + 1) := by
    intro d
    induction d with
    | zero => rfl
    | succ d ih => rw [← Nat.add_assoc, hf, ih, fx]
  have e : f T = f (N + 1) := by have := all (T - (N + 1)); rwa [show N + 1 + (T - (N + 1)) = T by omega] at this
  have fx2 : bturn L (f T) = f T := by rw [e]; exact fx
  exact bturn_fix fx2 hs hk ht

/-- Whether a number is in each of the sets. -/
def proj (c : Int) (M : List (List Int)) : List Bool := M.map fun m => hasL m c
theorem proj_length (c : Int) (M : List (List Int)) : (proj c M).length = M.length := by simp [proj]
theorem proj_getD (c : Int) (M : List (List Int)) (k : Nat) : (proj c M).getD k false = hasL (M.getD k []) c := by
  by_cases h : k < M.length
  · simp [proj, List.getD, h]
  · rw [List.getD_eq_getElem?_getD, List.getElem?_eq_none (by rw [proj_length]; omega), List.getD_eq_getElem?_getD, List.getElem?_eq_none (by omega)]; rfl
theorem proj_set (c : Int) (M : List (List Int)) (k : Nat) (m : List Int) : proj c (M.set k m) = (proj c M).set k (hasL m c) := by
  simp [proj, List.map_set]
theorem hasL_joinL (xs ys : List Int) (c : Int) : hasL (joinL xs ys) c = (hasL xs c || hasL ys c) := by
  rw [Bool.eq_iff_iff, Bool.or_eq_true]; simp only [hasL, decide_eq_true_eq]; exact mem_joinL
theorem hasL_addL (xs : List Int) (x c : Int) : hasL (addL xs x) c = (decide (c = x) || hasL xs c) := by
  rw [Bool.eq_iff_iff, Bool.or_eq_true]; simp only [hasL, decide_eq_true_eq]; exact mem_addL
/-- The rows of a grammar, each with its part's number, in order. -/
def flatP (P : List (List (List Int))) : Nat → List (Nat × List Int)
  | 0 => []
  | k + 1 => flatP P k ++ (P.getD k []).map fun row => (k, row)
theorem mem_flatP {P : List (List (List Int))} {k i n : Nat} (hk : k < P.length) (hi : i < P[k].length) (hn : k < n) : (k, P[k][i]) ∈ flatP P n := by
  induction n with
  | zero => omega
  | succ n ih =>
    rw [flatP, List.mem_append]
    by_cases e : k = n
    · subst e
      right
      have e1 : P.getD k [] = P[k] := by simp [List.getD, hk]
      rw [e1, List.mem_map]
      exact ⟨_, List.getElem_mem hi, rfl⟩
    · exact .inl (ih (by omega))
end Go.Proofs.YthnppodnjokaoaaGreatDoor
namespace Go.Proofs.YthnppodnjokaoaaGreatDoor
open Go.RowKit

/-- One alternative's part of a turn. -/
def fiS (E : List Int) (k : Nat) (row : List Int) (M : List (List Int)) : List (List Int) := M.set k (joinL (M.getD k []) (rowF M E [] row))
def fiI (E : List Int) (k : Nat) (Q : List (List Int)) (M : List (List Int)) : Nat → List (List Int)
  | 0 => M
  | i + 1 => fiS E k (Q.getD i []) (fiI E k Q M i)
def fiK (E : List Int) (P : List (List (List Int))) (M : List (List Int)) : Nat → List (List Int)
  | 0 => M
  | k + 1 => fiI E k (P.getD k []) (fiK E P M k) (P.getD k []).length
def fiT (E : List Int) (P : List (List (List Int))) : Nat → List (List Int)
  | 0 => List.replicate P.length []
  | t + 1 => fiK E P (fiT E P t) P.length
/-- So many sets of letters. -/
def Sets (n : Nat) (M : List (List Int)) : Prop := M.length = n ∧ ∀ m ∈ M, SetB 27 m
theorem Sets.get {n k : Nat} {M : List (List Int)} (h : Sets n M) : SetB 27 (M.getD k []) := by
  by_cases hk : k < M.length
  · have e : M.getD k [] = M[k] := by simp [List.getD, hk]
    rw [e]; exact h.2 _ (List.getElem_mem _)
  · have e : M.getD k [] = [] := by rw [List.getD_eq_getElem?_getD, List.getElem?_eq_none (by omega)]; rfl
    rw [e]; exact SetB.nil _
theorem Sets.set {n k : Nat} {M : List (List Int)} {m : List Int} (h : Sets n M) (hm : SetB 27 m) : Sets n (M.set k m) := by
  refine ⟨by rw [List.length_set]; exact h.1, fun x hx => ?_⟩
  rcases List.mem_or_eq_of_mem_set hx with hx | rfl
  · exact h.2 x hx
  · exact hm
theorem fiS_sets {E : List Int} {k n : Nat} {row : List Int} {M : List (List Int)} (h : Sets n M) : Sets n (fiS E k row M) := h.set (h.get.join (rowF_setB h.2 (SetB.nil _)))
theorem fiI_sets {E : List Int} {k n : Nat} {Q : List (List Int)} {M : List (List Int)} (h : Sets n M) : ∀ i, Sets n (fiI E k Q M i)
  | 0 => h
  | i + 1 => fiS_sets (fiI_sets h i)
theorem fiK_sets {E : List Int} {n : Nat} {P : List (List (List Int))} {M : List (List Int)} (h : Sets n M) : ∀ k, Sets n (fiK E P M k)
  | 0 => h
  | k + 1 => fiI_sets (fiK_sets h k) _
theorem fiT_sets (E : List Int) (P : List (List (List Int))) : ∀ t, Sets P.length (fiT E P t)
  | 0 => ⟨by simp [fiT], fun m hm => by rw [(List.mem_replicate.1 hm).2]; exact SetB.nil _⟩
  | t + 1 => fiK_sets (fiT_sets E P t) _
theorem fiI_next {E : List Int} {k i : Nat} {Q M : List (List Int)} (h : i < Q.length) : fiI E k Q M (i + 1) = fiS E k Q[i] (fiI E k Q M i) := by
  have e : Q.getD i [] = Q[i] := by simp [List.getD, h]
  rw [fiI, e]
theorem fiK_next {E : List Int} {k : Nat} {P : List (List (List Int))} {M : List (List Int)} (h : k < P.length) : fiK E P M (k + 1) = fiI E k P[k] (fiK E P M k) P[k].length := by
  have e : P.getD k [] = P[k] := by simp [List.getD, h]
  rw [fiK, e]
theorem fiS_at {E : List Int} {k : Nat} {row : List Int} {M : List (List Int)} (h : k < M.length) : fiS E k row M = M.set k (joinL M[k] (rowF M E [] row)) := by
  have e : M.getD k [] = M[k] := by simp [List.getD, h]
  rw [fiS, e]
def firstsL (P : List (List (List Int))) : List (List Int) := fiT (emptiesL P) P (P.length + 1)
end Go.Proofs.YthnppodnjokaoaaGreatDoor
namespace Go.Proofs.YthnppodnjokaoaaGreatDoor
open Go.RowKit

/-- Whether a row can begin with c, by the flags of c. -/
def bgB (E : List Int) (c : Int) (b : List Bool) : List Int → Bool
  | [] => false
  | x :: xs => if inB x 0 25 then decide (c = x) else if inB x 100 (100 + b.length - 1) then (b.getD (x - 100).toNat false || (hasL E (x - 100) && bgB E c b xs)) else false
theorem hasL_rowF (M : List (List Int)) (E : List Int) (c : Int) : ∀ (row out : List Int), hasL (rowF M E out row) c = (hasL out c || bgB E c (proj c M) row)
  | [], out => by simp [rowF, bgB]
  | x :: xs, out => by
    rw [rowF, bgB, proj_length]
    split
    · rw [hasL_addL, Bool.or_comm]
    · split
      · rw [proj_getD]
        by_cases g : hasL E (x - 100) = true
        · rw [if_pos g, hasL_rowF M E c xs, hasL_joinL, g, Bool.true_and, Bool.or_assoc]
        · have g' : hasL E (x - 100) = false := by simpa using g
          rw [if_neg g, hasL_joinL, g', Bool.false_and, Bool.or_false]
      · simp
theorem fiI_fold (E : List Int) (k : Nat) (Q M : List (List Int)) (i : Nat) (hi : i ≤ Q.length) : fiI E k Q M i = ((Q.take i).map fun row => (k, row)).foldl (fun M s => fiS E s.1 s.2 M) M := by
  induction i with
  | zero => simp [fiI]
  | succ i ih => rw [fiI_next (by omega), ih (by omega), List.take_succ_eq_append_getElem (by omega), List.map_append, List.foldl_append]; rfl
theorem fiK_fold (E : List Int) (P : List (List (List Int))) (M : List (List Int)) (k : Nat) : fiK E P M k = (flatP P k).foldl (fun M s => fiS E s.1 s.2 M) M := by
  induction k with
  | zero => rfl
  | succ k ih => rw [fiK, flatP, List.foldl_append, ← ih, fiI_fold _ _ _ _ _ (Nat.le_refl _), List.take_length]
theorem proj_fiS (E : List Int) (c : Int) (k : Nat) (row : List Int) (M : List (List Int)) : proj c (fiS E k row M) = bstep (proj c M) (k, fun b => bgB E c b row) := by
  rw [fiS, proj_set, hasL_joinL, hasL_rowF, bstep, proj_getD]
  simp [hasL]
theorem proj_fold (E : List Int) (c : Int) (L : List (Nat × List Int)) (M : List (List Int)) : proj c (L.foldl (fun M s => fiS E s.1 s.2 M) M) = bturn (L.map fun s => (s.1, fun b => bgB E c b s.2)) (proj c M) := by
  unfold bturn
  induction L generalizing M with
  | nil => rfl
  | cons s L ih => rw [List.foldl_cons, ih, List.map_cons, List.foldl_cons, proj_fiS]
/-- What a row of a part can begin with, the part can. -/
theorem fiT_closed {E : List Int} {P : List (List (List Int))} {k i : Nat} (hk : k < P.length) (hi : i < P[k].length) {c : Int} (hc : c ∈ rowF (fiT E P (P.length + 1)) E [] P[k][i]) : c ∈ (fiT E P (P.length + 1)).getD k [] := by
  have hl := (fiT_sets E P (P.length + 1)).1
  have h := bturns_closed (L := (flatP P P.length).map fun s => (s.1, fun b => bgB E c b s.2)) (f := fun t => proj c (fiT E P t)) (fun t => by show proj c (fiT E P (t + 1)) = _; rw [fiT, fiK_fold, proj_fold]) (N := P.length) (T := P.length + 1)
    (by show (proj c (fiT E P 0)).length ≤ _; rw [proj_length, (fiT_sets E P 0).1]; exact Nat.le_refl _) (Nat.le_refl _) (s := (k, fun b => bgB E c b P[k][i])) (List.mem_map.2 ⟨_, mem_flatP hk hi hk, rfl⟩)
    (by show k < (proj c _).length; rw [proj_length, hl]; exact hk)
    (by
      have := hasL_rowF (fiT E P (P.length + 1)) E c P[k][i] []
      rw [hasL_yes hc] at this
      simpa [hasL] using this.symm)
  have e := proj_getD c (fiT E P (P.length + 1)) k
  rw [List.getD_eq_getElem?_getD, List.getElem?_eq_getElem (by rw [proj_length, hl]; exact hk), Option.getD_some] at e
  rw [h] at e
  simpa [hasL] using e.symm
/-- What is kept step by step holds at the end. -/
theorem fiT_keeps {E : List Int} {P : List (List (List Int))} {S : List (List Int) → Prop} (h0 : S (List.replicate P.length [])) (hS : ∀ k (hk : k < P.length) i (hi : i < P[k].length) M, S M → S (fiS E k P[k][i] M)) (t : Nat) : S (fiT E P t) := by
  have sI : ∀ k (hk : k < P.length) M, S M → ∀ i, i ≤ P[k].length → S (fiI E k P[k] M i) := by
    intro k hk M hM i
    induction i with
    | zero => exact fun _ => hM
    | succ i ih => intro hi; rw [fiI_next (by omega)]; exact hS k hk i (by omega) _ (ih (by omega))
  have sK : ∀ M, S M → ∀ k, k ≤ P.length → S (fiK E P M k) := by
    intro M hM k
    induction k with
    | zero => exact fun _ => hM
    | succ k ih => intro hk; rw [fiK_next (by omega)]; exact sI k (by omega) _ (ih (by omega)) _ (Nat.le_refl _)
  induction t with
  | zero => exact h0
  | succ t ih => rw [fiT]; exact sK _ ih _ (Nat.le_refl _)
theorem getD_set (M : List (List Int)) (k j : Nat) (m : List Int) : (M.set k m).getD j [] = if j = k ∧ k < M.length then m else M.getD j [] := by
  by_cases e : j = k
  · subst e
    by_cases h : j < M.length
    · simp [List.getD, h]
    · simp [List.getD, h]
  · simp [List.getD, e, Ne.symm e]
/-- Nothing is there that closed sets have not. -/
theorem fiT_sound {E : List Int} {P : List (List (List Int))} {S : Nat → Int → Prop} (hS : ∀ k (hk : k < P.length) i (hi : i < P[k].length) (M : List (List Int)), M.length = P.length → (∀ j, ∀ c ∈ M.getD j [], S j c) → ∀ c ∈ rowF M E [] P[k][i], S k c) (t j : Nat) : ∀ c ∈ (fiT E P t).getD j [], S j c := by
  have := fiT_keeps (E := E) (P := P) (S := fun M => M.length = P.length ∧ ∀ j, ∀ c ∈ M.getD j [], S j c) ⟨by simp, fun j c hc => by
      by_cases hj : j < P.length
      · simp [List.getD, hj] at hc
      · simp [List.getD, hj] at hc⟩ (fun k hk i hi M hM => ⟨by rw [fiS, List.length_set]; exact hM.1, fun j c hc => by
      rw [fiS, getD_set] at hc
      split at hc
      · rename_i hj
        rcases mem_joinL.1 hc with hc | hc
        · rw [hj.1]; exact hM.2 k c hc
        · rw [hj.1]; exact hS k hk i hi M hM.1 hM.2 c hc
      · exact hM.2 j c hc⟩) t
  exact this.2 j
theorem rowF_sorted {M : List (List Int)} {E : List Int} : ∀ {zs out : List Int}, out.Pairwise (· < ·) → (rowF M E out zs).Pairwise (· < ·)
  | [], out, h => by rw [rowF]; exact h
  | x :: xs, out, h => by
    rw [rowF]
    split
    · exact pair_addL h
    · split
      · split
        · exact rowF_sorted (pair_joinL h)
        · exact pair_joinL h
      · exact h
theorem fiT_sorted (E : List Int) (P : List (List (List Int))) (t j : Nat) : ((fiT E P t).getD j []).Pairwise (· < ·) := by
  have := fiT_keeps (E := E) (P := P) (S := fun M => ∀ j, (M.getD j []).Pairwise (· < ·)) (fun j => by
      by_cases hj : j < P.length
      · simp [List.getD, hj]
      · simp [List.getD, hj]) (fun k hk i hi M hM j => by
      rw [fiS, getD_set]
      split
      · exact pair_joinL (hM k)
      · exact hM j) t
  exact this j
end Go.Proofs.YthnppodnjokaoaaGreatDoor
