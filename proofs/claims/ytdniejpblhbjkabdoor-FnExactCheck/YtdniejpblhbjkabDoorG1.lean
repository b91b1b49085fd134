/-
  Contracts and plain mathematics, joined: Base, GramMath, DecMath, RowMath, GramTextMath, FirstMath, SetMath, FirstsMath, FirstsMath2, StartsMath, Own, OwnT. No statement is proved here.
-/
import Derived.WalkKit
import Derived.WalkSpells
import Derived.WalkLawsBesides
import Derived.Deep.OwnRows
import Derived.Deep.QuietTactic
import Derived.BigQuiet
import Derived.Lib.ItoaNum
import Derived.Laws.IdiomStrings
namespace Go.Proofs.YtdniejpblhbjkabDoor
open Go.RowKit

/-- The address a leads to the integers zs, in cells that are there. -/
def Reads (w : World) (a : Option Addr) (zs : List Int) : Prop :=
  zs = [] ∨ ∃ b off, a = some ⟨b, off, none⟩ ∧ b < w.heap.size ∧ ∀ i, i < zs.length → w.cell? ⟨b, off + i, none⟩ = some (.int .i64 (zs.getD i 0))

theorem Reads.below {w w' : World} {a : Option Addr} {zs : List Int} (h : Reads w a zs) (hb : Below w.heap.size w w') : Reads w' a zs := by
  rcases h with h | ⟨b, off, rfl, hlt, hc⟩
  · exact .inl h
  · exact .inr ⟨b, off, rfl, Nat.lt_of_lt_of_le hlt hb.size, fun i hi => (hb.cell (p := ⟨b, off + i, none⟩) hlt).trans (hc i hi)⟩

theorem Reads.at {w : World} {a : Option Addr} {zs : List Int} (h : Reads w a zs) {i : Nat} (hi : i < zs.length) :
    ∃ b off, a = some ⟨b, off, none⟩ ∧ b < w.heap.size ∧ ∀ i, i < zs.length → w.cell? ⟨b, off + i, none⟩ = some (.int .i64 (zs.getD i 0)) := by
  rcases h with h | h
  · subst h; simp at hi
  · exact h

theorem Reads.of_row {w : World} {b : Nat} {t : TypeId} {zs : List Int} (h : w.rowIs b t zs.length (fun i => .int .i64 (zs.getD i 0))) : Reads w (some ⟨b, 0, none⟩) zs :=
  .inr ⟨b, 0, rfl, h.lt, fun i hi => by simpa using h.cell hi⟩

/-- A slice of integers that came in: nil, or a row of cap cells with the numbers zs, the first len of them its elements. -/
def IsRow (k : IntKind) (w : World) (a : Option Addr) (len cap : Nat) (zs : List Int) : Prop :=
  (a = none ∧ len = 0 ∧ cap = 0 ∧ zs = []) ∨
  ∃ x, a = some x ∧ len ≤ cap ∧ cap ≤ maxLen ∧ zs.length = cap ∧ (∀ i, i < zs.length → w.cell? (x.add i) = some (.int k (zs.getD i 0))) ∧ ∀ n ∈ zs, (Lit.int k n).wf = true

theorem IsRow.reads {w : World} {a : Option Addr} {len cap : Nat} {zs : List Int} (h : IsRow .i64 w a len cap zs) :
    ∃ ys : List Int, len = ys.length ∧ ys.length ≤ 9223372036854775807 ∧ Reads w a ys ∧ ∀ n ∈ ys, (Lit.int .i64 n).wf = true := by
  rcases h with ⟨rfl, rfl, rfl, rfl⟩ | ⟨x, rfl, hl, hm, hz, hc, hw⟩
  · exact ⟨[], rfl, by simp, .inl rfl, by simp⟩
  · have e : (zs.take len).length = len := by simp; omega
    unfold maxLen at hm
    refine ⟨zs.take len, e.symm, by omega, ?_, fun n hn => hw n (List.mem_of_mem_take hn)⟩
    by_cases h0 : len = 0
    · subst h0; exact .inl (by simp)
    · obtain ⟨b, off, spot⟩ := x
      have h1 := hc 0 (by omega)
      have hs : spot = none := by simpa [Addr.add] using World.cell?_spot h1
      subst hs
      refine .inr ⟨b, off, rfl, by simpa [Addr.add] using World.block_lt_of_cell? w _ h1, fun i hi => ?_⟩
      rw [e] at hi
      have := hc i (by omega)
      rw [Addr.add_lit] at this
      rw [this, List.getD_eq_getElem?_getD, List.getD_eq_getElem?_getD, List.getElem?_take, if_pos hi]

theorem below_drew {w : World} (n : Nat) : Below w.heap.size w (w.drewN n) := ⟨rfl, rfl, rfl, Nat.le_refl _, fun _ _ => rfl⟩

theorem rowIs_below {w w' : World} {b : Nat} {t : TypeId} {n : Nat} {f : Nat → Value} (h : w.rowIs b t n f) (hb : Below w.heap.size w w') : w'.rowIs b t n f := h.of_block (hb.block b h.lt)

theorem getD_take {zs : List Int} {k i : Nat} (h : i < k) : (zs.take k).getD i 0 = zs.getD i 0 := by simp [List.getD, h]

theorem ret_bool {a b : Bool} (h : a = b) : Ending.returned (.bool a) = .returned (.bool b) := by rw [h]
theorem ret_int {k : IntKind} {a b : Int} (h : a = b) : Ending.returned (.int k a) = .returned (.int k b) := by rw [h]

/-- Two lists of integers are the same. -/
def eqL (xs ys : List Int) : Bool := decide (xs = ys)
theorem eqL_self (xs : List Int) : eqL xs xs = true := by simp [eqL]
theorem eqL_len {xs ys : List Int} (h : ¬ xs.length = ys.length) : eqL xs ys = false := by
  simp only [eqL, decide_eq_false_iff_not]; intro e; exact h (by rw [e])
theorem eqL_at {xs ys : List Int} {k : Nat} (h1 : k < xs.length) (h2 : k < ys.length) (h : (xs[k] != ys[k]) = true) : eqL xs ys = false := by
  simp only [eqL, decide_eq_false_iff_not]; intro e; subst e; simp at h
theorem take_step {xs ys : List Int} {k : Nat} (h1 : k < xs.length) (h2 : k < ys.length) (h : (xs[k] != ys[k]) = false) (e : xs.take k = ys.take k) : xs.take (k + 1) = ys.take (k + 1) := by
  rw [List.take_succ_eq_append_getElem h1, List.take_succ_eq_append_getElem h2, e]
  simp at h; rw [h]
theorem eqL_end {xs ys : List Int} {k : Nat} (hk : ¬ k < xs.length) (hl : xs.length = ys.length) (e : xs.take k = ys.take k) : eqL xs ys = true := by
  rw [List.take_of_length_le (by omega), List.take_of_length_le (by omega)] at e
  simp [eqL, e]

/-- Each number is above the one ahead of it. -/
def okL (zs : List Int) : Bool := decide (∀ j, j < zs.length - 1 → zs.getD j 0 < zs.getD (j + 1) 0)
def okTo (zs : List Int) (k : Nat) : Prop := ∀ j, j + 1 < k → zs.getD j 0 < zs.getD (j + 1) 0
theorem okTo_one (zs : List Int) : okTo zs 1 := fun j h => by omega
theorem okTo_step {zs : List Int} {k : Nat} (h : okTo zs k) (h1 : 1 ≤ k) (g : zs.getD (k - 1) 0 < zs.getD k 0) : okTo zs (k + 1) := by
  intro j hj
  by_cases e : j + 1 < k
  · exact h j e
  · have : j = k - 1 := by omega
    subst this
    rwa [Nat.sub_add_cancel h1]
theorem okL_end {zs : List Int} {k : Nat} (h : okTo zs k) (hk : ¬ k < zs.length) : okL zs = true := by
  simp only [okL, decide_eq_true_eq]; intro j hj; exact h j (by omega)
theorem okL_no {zs : List Int} {k : Nat} (h1 : 1 ≤ k) (hk : k < zs.length) (g : zs.getD k 0 ≤ zs.getD (k - 1) 0) : okL zs = false := by
  simp only [okL, decide_eq_false_iff_not]; intro h
  have := h (k - 1) (by omega)
  rw [Nat.sub_add_cancel h1] at this
  omega

theorem okTo_step' {zs : List Int} {k : Nat} (h : okTo zs k) (h1 : 1 ≤ k) (hk : k < zs.length) (g : zs[k - 1]?.getD 0 < zs[k]) : okTo zs (k + 1) := okTo_step h h1 (by simpa [List.getD, hk] using g)
theorem okL_no' {zs : List Int} {k : Nat} (h1 : 1 ≤ k) (hk : k < zs.length) (g : zs[k] ≤ zs[k - 1]?.getD 0) : okL zs = false := okL_no h1 hk (by simpa [List.getD, hk] using g)

/-- One of the numbers is x. -/
def hasL (zs : List Int) (x : Int) : Bool := decide (x ∈ zs)
/-- The place of the first x, or -1. -/
def idxL (zs : List Int) (x : Int) : Int := if x ∈ zs then (zs.idxOf x : Int) else -1
theorem notin_step {zs : List Int} {x : Int} {k : Nat} (h : x ∉ zs.take k) (hk : k < zs.length) (g : (zs[k] == x) = false) : x ∉ zs.take (k + 1) := by
  rw [List.take_succ_eq_append_getElem hk]
  simp only [List.mem_append, List.mem_singleton, not_or]
  exact ⟨h, fun e => by simp [e] at g⟩
theorem notin_step' {zs : List Int} {x : Int} {k : Nat} (h : x ∉ zs.take k) (hk : k < zs.length) (g : (x == zs[k]) = false) : x ∉ zs.take (k + 1) :=
  notin_step h hk (by rw [Bool.beq_comm]; exact g)
theorem notin_end {zs : List Int} {x : Int} {k : Nat} (h : x ∉ zs.take k) (hk : ¬ k < zs.length) : x ∉ zs := by
  rwa [List.take_of_length_le (by omega)] at h
theorem in_at {zs : List Int} {x : Int} {k : Nat} (hk : k < zs.length) (g : (zs[k] == x) = true) : x ∈ zs := by
  have : zs[k] = x := by simpa using g
  exact this ▸ List.getElem_mem hk
theorem hasL_yes {zs : List Int} {x : Int} (h : x ∈ zs) : hasL zs x = true := by simp [hasL, h]
theorem hasL_no {zs : List Int} {x : Int} (h : x ∉ zs) : hasL zs x = false := by simp [hasL, h]
theorem idxL_no {zs : List Int} {x : Int} (h : x ∉ zs) : idxL zs x = -1 := by simp [idxL, h]
theorem idxL_at {zs : List Int} {x : Int} {k : Nat} (h : x ∉ zs.take k) (hk : k < zs.length) (g : (x == zs[k]) = true) : idxL zs x = k := by
  have e : x = zs[k] := by simpa using g
  have hm : x ∈ zs := e ▸ List.getElem_mem hk
  rw [idxL, if_pos hm]
  have hs : zs = zs.take k ++ zs.drop k := (List.take_append_drop k zs).symm
  have : zs.idxOf x = k := by
    conv => lhs; rw [hs]
    rw [List.idxOf_append, if_neg h, List.drop_eq_getElem_cons hk, ← e, List.idxOf_cons_self]
    simp; omega
  omega
theorem idxL_geq (zs : List Int) (x : Int) : decide (0 ≤ idxL zs x) = hasL zs x := by
  by_cases h : x ∈ zs <;> simp [idxL, hasL, h]

/-- How two integers stand. -/
def cmpI (x y : Int) : Int := if x < y then -1 else if y < x then 1 else 0
theorem cmpI_lt {x y : Int} (h : x < y) : cmpI x y = -1 := by simp [cmpI, h]
theorem cmpI_gt {x y : Int} (h : y < x) : cmpI x y = 1 := by rw [cmpI, if_neg (by omega), if_pos h]
theorem cmpI_eq {x y : Int} (h1 : y ≤ x) (h2 : x ≤ y) : cmpI x y = 0 := by rw [cmpI, if_neg (by omega), if_neg (by omega)]
/-- How two lists stand: place by place; a beginning is ahead. -/
def cmpL : List Int → List Int → Int
  | [], [] => 0
  | [], _ :: _ => -1
  | _ :: _, [] => 1
  | x :: xs, y :: ys => if x < y then -1 else if y < x then 1 else cmpL xs ys
theorem cmpL_drop {xs ys : List Int} {k : Nat} (h1 : k < xs.length) (h2 : k < ys.length) : cmpL (xs.drop k) (ys.drop k) = if xs[k] < ys[k] then -1 else if ys[k] < xs[k] then 1 else cmpL (xs.drop (k + 1)) (ys.drop (k + 1)) := by
  rw [List.drop_eq_getElem_cons h1, List.drop_eq_getElem_cons h2, cmpL]
theorem cmpL_lt {xs ys : List Int} {k : Nat} (e : cmpL xs ys = cmpL (xs.drop k) (ys.drop k)) (h1 : k < xs.length) (h2 : k < ys.length) (g : xs[k] < ys[k]) : cmpL xs ys = -1 := by
  rw [e, cmpL_drop h1 h2, if_pos g]
theorem cmpL_gt {xs ys : List Int} {k : Nat} (e : cmpL xs ys = cmpL (xs.drop k) (ys.drop k)) (h1 : k < xs.length) (h2 : k < ys.length) (g : ys[k] < xs[k]) : cmpL xs ys = 1 := by
  rw [e, cmpL_drop h1 h2, if_neg (by omega), if_pos g]
theorem cmpL_eq {xs ys : List Int} {k : Nat} (e : cmpL xs ys = cmpL (xs.drop k) (ys.drop k)) (h1 : k < xs.length) (h2 : k < ys.length) (g : ys[k] ≤ xs[k]) (g2 : xs[k] ≤ ys[k]) : cmpL xs ys = cmpL (xs.drop (k + 1)) (ys.drop (k + 1)) := by
  rw [e, cmpL_drop h1 h2, if_neg (by omega), if_neg (by omega)]
theorem cmpL_short {xs ys : List Int} {k : Nat} (e : cmpL xs ys = cmpL (xs.drop k) (ys.drop k)) (h1 : ¬ k < xs.length) (h2 : k < ys.length) : cmpL xs ys = -1 := by
  rw [e, List.drop_eq_nil_of_le (by omega), List.drop_eq_getElem_cons h2, cmpL]
theorem cmpL_long {xs ys : List Int} {k : Nat} (e : cmpL xs ys = cmpL (xs.drop k) (ys.drop k)) (h1 : k < xs.length) (h2 : ¬ k < ys.length) : cmpL xs ys = 1 := by
  rw [e, @List.drop_eq_nil_of_le _ ys _ (by omega), List.drop_eq_getElem_cons h1, cmpL]
theorem cmpL_end {xs ys : List Int} {k : Nat} (e : cmpL xs ys = cmpL (xs.drop k) (ys.drop k)) (h1 : ¬ k < xs.length) (h2 : ¬ k < ys.length) : cmpL xs ys = 0 := by
  rw [e, List.drop_eq_nil_of_le (by omega), List.drop_eq_nil_of_le (by omega), cmpL]

/-- The place of the first number above x, or the end. -/
def placeL (zs : List Int) (x : Int) : Nat := zs.findIdx fun y => decide (x < y)
/-- The same, looked for from m on. -/
def placeFrom (zs : List Int) (x : Int) (m : Nat) : Nat := m + (zs.drop m).findIdx fun y => decide (x < y)
theorem placeFrom_le (zs : List Int) (x : Int) (m : Nat) (h : m ≤ zs.length) : placeFrom zs x m ≤ zs.length := by
  have := List.findIdx_le_length (xs := zs.drop m) (p := fun y => decide (x < y))
  simp only [placeFrom, List.length_drop] at this ⊢; omega
theorem placeL_le (zs : List Int) (x : Int) : placeL zs x ≤ zs.length := List.findIdx_le_length
theorem placeFrom_zero (zs : List Int) (x : Int) : placeFrom zs x 0 = placeL zs x := by simp [placeFrom, placeL]
theorem placeFrom_end (zs : List Int) (x : Int) : placeFrom zs x zs.length = zs.length := by simp [placeFrom]
theorem placeFrom_yes {zs : List Int} {x : Int} {m : Nat} (h : m < zs.length) (g : x < zs[m]) : placeFrom zs x m = m := by
  rw [placeFrom, List.drop_eq_getElem_cons h, List.findIdx_cons]; simp [g]
theorem placeFrom_no {zs : List Int} {x : Int} {m : Nat} (h : m < zs.length) (g : ¬ x < zs[m]) : placeFrom zs x m = placeFrom zs x (m + 1) := by
  rw [placeFrom, List.drop_eq_getElem_cons h, List.findIdx_cons]; simp [g, placeFrom]; omega
/-- x is put in: as it was, where x is there; else ahead of the first number above it, or at the end. -/
def addL (zs : List Int) (x : Int) : List Int := if x ∈ zs then zs else zs.take (placeL zs x) ++ [x] ++ zs.drop (placeL zs x)
theorem addL_yes {zs : List Int} {x : Int} (h : hasL zs x = true) : addL zs x = zs := by
  have : x ∈ zs := by simpa [hasL] using h
  simp [addL, this]
theorem addL_no {zs : List Int} {x : Int} (h : hasL zs x = false) : addL zs x = zs.take (placeL zs x) ++ [x] ++ zs.drop (placeL zs x) := by
  have : x ∉ zs := by simpa [hasL] using h
  simp [addL, this]
theorem addL_length_le (zs : List Int) (x : Int) : (addL zs x).length ≤ zs.length + 1 := by
  unfold addL
  have := placeL_le zs x
  split
  · omega
  · simp; omega

/-- All of ys put into xs, in order. -/
def joinL (xs ys : List Int) : List Int := ys.foldl addL xs
theorem joinL_step {xs ys : List Int} {k : Nat} (h : k < ys.length) : addL (joinL xs (ys.take k)) ys[k] = joinL xs (ys.take (k + 1)) := by
  rw [List.take_succ_eq_append_getElem h, joinL, joinL, List.foldl_append]; rfl
theorem joinL_length_le (xs ys : List Int) : (joinL xs ys).length ≤ xs.length + ys.length := by
  induction ys generalizing xs with
  | nil => simp [joinL]
  | cons y ys ih =>
    have h1 := ih (addL xs y)
    have h2 := addL_length_le xs y
    simp only [joinL, List.foldl_cons, List.length_cons] at h1 ⊢
    omega

end Go.Proofs.YtdniejpblhbjkabDoor
namespace Go.Proofs.YtdniejpblhbjkabDoor
open Go.RowKit

/-- From lo to hi. -/
def inB (x lo hi : Int) : Bool := decide (lo ≤ x ∧ x ≤ hi)
theorem inB_true {x lo hi : Int} : inB x lo hi = true ↔ lo ≤ x ∧ x ≤ hi := by simp [inB]
theorem inB_false {x lo hi : Int} : inB x lo hi = false ↔ ¬ (lo ≤ x ∧ x ≤ hi) := by simp [inB]
/-- A symbol of a grammar of n parts. -/
def symOk (n : Nat) (x : Int) : Bool := inB x 0 25 || inB x 100 (100 + n - 1)
def rowOk (n : Nat) (row : List Int) : Bool := decide (row.length ≤ 8) && row.all (symOk n)
def partOk (n : Nat) (alts : List (List Int)) : Bool := inB alts.length 1 8 && alts.all (rowOk n)
def gramOkB (parts : List (List (List Int))) : Bool := inB parts.length 1 20 && parts.all (partOk parts.length)

section
variable {α : Type} {p : α → Bool} {xs : List α} {k : Nat}
theorem all_step (h : (xs.take k).all p = true) (hk : k < xs.length) (g : p xs[k] = true) : (xs.take (k + 1)).all p = true := by
  rw [List.take_succ_eq_append_getElem hk, List.all_append, h]; simp [g]
theorem all_end (h : (xs.take k).all p = true) (hk : ¬ k < xs.length) : xs.all p = true := by
  rwa [List.take_of_length_le (by omega)] at h
theorem all_no (hk : k < xs.length) (g : p xs[k] = false) : xs.all p = false := by
  simp only [List.all_eq_false]; exact ⟨xs[k], List.getElem_mem hk, by simp [g]⟩
end
theorem symOk_true {n : Nat} {x : Int} : symOk n x = true ↔ (0 ≤ x ∧ x ≤ 25) ∨ (100 ≤ x ∧ x < 100 + n) := by
  simp only [symOk, Bool.or_eq_true, inB_true]; omega
theorem symOk_false {n : Nat} {x : Int} : symOk n x = false ↔ ¬ ((0 ≤ x ∧ x ≤ 25) ∨ (100 ≤ x ∧ x < 100 + n)) := by
  rw [← symOk_true]; simp
theorem rowOk_long {n : Nat} {row : List Int} (h : ¬ row.length ≤ 8) : rowOk n row = false := by simp [rowOk, h]
theorem rowOk_no {n : Nat} {row : List Int} (h : row.all (symOk n) = false) : rowOk n row = false := by simp [rowOk, h]
theorem rowOk_yes {n : Nat} {row : List Int} (h : row.length ≤ 8) (g : row.all (symOk n) = true) : rowOk n row = true := by simp [rowOk, h, g]
theorem partOk_many {n : Nat} {alts : List (List Int)} (h : inB alts.length 1 8 = false) : partOk n alts = false := by simp [partOk, h]
theorem partOk_no {n : Nat} {alts : List (List Int)} (h : alts.all (rowOk n) = false) : partOk n alts = false := by simp [partOk, h]
theorem partOk_yes {n : Nat} {alts : List (List Int)} (h : inB alts.length 1 8 = true) (g : alts.all (rowOk n) = true) : partOk n alts = true := by simp [partOk, h, g]
theorem gramOkB_many {parts : List (List (List Int))} (h : inB parts.length 1 20 = false) : gramOkB parts = false := by simp [gramOkB, h]
theorem gramOkB_no {parts : List (List (List Int))} (h : parts.all (partOk parts.length) = false) : gramOkB parts = false := by simp [gramOkB, h]
theorem gramOkB_yes {parts : List (List (List Int))} (h : inB parts.length 1 20 = true) (g : parts.all (partOk parts.length) = true) : gramOkB parts = true := by simp [gramOkB, h, g]
end Go.Proofs.YtdniejpblhbjkabDoor
namespace Go.Proofs.YtdniejpblhbjkabDoor
open Go.RowKit

theorem conv_one {P : Program} (src dst e : TypeId) (hs : P.underlying src = some (.slice e)) (he : P.underlying e = some (.int .u8)) (hd : P.underlying dst = some .string) (W : World) (b : UInt8) (x : Int) (hx : x = (b.toNat : Int)) :
    (convert src dst (.slice (some ⟨W.heap.size, 0, none⟩) 1 1)).run P (W.alloc (.cells #[.int .u8 x] e)) = .ok (.string ⟨#[b]⟩) (W.alloc (.cells #[.int .u8 x] e)) := by
  have := run_convert_bytes_back (P := P) (W.alloc (.cells #[.int .u8 x] e)) src dst e ⟨W.heap.size, 0, none⟩ 1 [b] hs he hd (by
    intro j hj
    have : j = 0 := by simpa using hj
    subst this
    simp [Addr.add, hx])
  simpa using this

/-- The digits of m; nothing for 0. -/
def decD (m : Nat) : List UInt8 := if m = 0 then [] else Lib.decDigits m
theorem decD_pos {m : Nat} (h : 1 ≤ m) : decD m = Lib.decDigits m := by rw [decD, if_neg (by omega)]
theorem decD_step {m : Nat} (h : 1 ≤ m) : decD m = decD (m / 10) ++ [UInt8.ofNat (48 + m % 10)] := by
  rw [decD_pos h, Lib.decDigits]
  by_cases h2 : m < 10
  · rw [dif_pos h2, decD, if_pos (by omega), Nat.mod_eq_of_lt h2]; rfl
  · rw [dif_neg h2, decD_pos (by omega)]
theorem digit_toNat (m : Nat) : ((UInt8.ofNat (48 + m % 10)).toNat : Int) = 48 + (m : Int) % 10 := by
  have : (UInt8.ofNat (48 + m % 10)).toNat = 48 + m % 10 := by
    rw [UInt8.toNat_ofNat']; omega
  rw [this]; omega
theorem nDigits_le : ∀ (k u : Nat), u < 10 ^ (k + 1) → Lib.nDigits u ≤ k + 1
  | 0, u, h => by rw [Lib.nDigits_small (by simpa using h)]; exact Nat.le_refl _
  | k + 1, u, h => by
    by_cases hu : u < 10
    · rw [Lib.nDigits_small hu]; omega
    · rw [Lib.nDigits_big hu]
      have := nDigits_le k (u / 10) (by rw [Nat.pow_succ] at h; omega)
      omega
theorem decDigits_le {N : Nat} (h : (N : Int) ≤ 9223372036854775808) : (Lib.decDigits N).length ≤ 20 := by
  rw [Lib.decDigits_length]
  exact nDigits_le 19 N (by have : N ≤ 9223372036854775808 := by omega
                            exact Nat.lt_of_le_of_lt this (by decide))
theorem digit_is (m : Nat) : ∃ b : UInt8, (b.toNat : Int) = 48 + (m : Int) % 10 ∧ b = UInt8.ofNat (48 + m % 10) := ⟨_, digit_toNat m, rfl⟩
end Go.Proofs.YtdniejpblhbjkabDoor
namespace Go.Proofs.YtdniejpblhbjkabDoor
open Go.RowKit

/-- A symbol's text. -/
def symText (x : Int) : List UInt8 := if inB x 0 25 then [UInt8.ofNat (97 + x.toNat)] else if 100 ≤ x then 80 :: Lib.itoa (x - 100) else [63]
theorem symText_letter {x : Int} (h : inB x 0 25 = true) : symText x = [UInt8.ofNat (97 + x.toNat)] := by rw [symText, if_pos h]
theorem symText_part {x : Int} (h : 100 ≤ x) : symText x = 80 :: Lib.itoa (x - 100) := by
  rw [symText, if_neg (by rw [inB_true]; omega), if_pos h]
theorem symText_none {x : Int} (h : inB x 0 25 = false) (g : x < 100) : symText x = [63] := by
  rw [symText, if_neg (by rw [h]; decide), if_neg (by omega)]
theorem itoa_le {n : Int} (h0 : 0 ≤ n) (h1 : n ≤ 9223372036854775807) : (Lib.itoa n).length ≤ 20 := by
  obtain ⟨N, rfl⟩ := Int.eq_ofNat_of_zero_le h0
  have : Lib.itoa (N : Int) = Lib.decDigits N := by rw [Lib.itoa, if_neg (by omega)]; congr 1
  rw [this]; exact decDigits_le (by omega)
theorem symText_le {x : Int} (h1 : x ≤ 9223372036854775807) : (symText x).length ≤ 21 := by
  unfold symText
  split
  · simp
  · split
    · have := itoa_le (n := x - 100) (by omega) (by omega); simp; omega
    · simp
theorem letter_byte {x : Int} (h : inB x 0 25 = true) : (97 + x) = ((UInt8.ofNat (97 + x.toNat)).toNat : Int) := by
  have := inB_true.1 h
  rw [UInt8.toNat_ofNat']
  have : (97 + x.toNat) % 2 ^ 8 = 97 + x.toNat := Nat.mod_eq_of_lt (by omega)
  rw [this]; omega
/-- The text of the first k symbols, a blank between. -/
def rowTo (zs : List Int) : Nat → List UInt8
  | 0 => []
  | k + 1 => (if k = 0 then [] else rowTo zs k ++ [32]) ++ symText (zs.getD k 0)
def rowText (zs : List Int) : List UInt8 := rowTo zs zs.length
theorem rowTo_le {zs : List Int} (hz : ∀ z ∈ zs, z ≤ 9223372036854775807) (k : Nat) (hk : k ≤ zs.length) : (rowTo zs k).length ≤ 22 * k := by
  induction k with
  | zero => simp [rowTo]
  | succ k ih =>
    have := ih (by omega)
    have h2 := symText_le (hz (zs.getD k 0) (by rw [List.getD_eq_getElem?_getD, List.getElem?_eq_getElem (by omega)]; exact List.getElem_mem _))
    simp only [rowTo, List.length_append]
    generalize symText (zs.getD k 0) = t at *
    split <;> simp <;> omega
theorem rowTo_first {zs : List Int} (h : 0 < zs.length) : rowTo zs (0 + 1) = symText zs[0] := by simp [rowTo, h]
theorem rowTo_next {zs : List Int} {k : Nat} (h : k < zs.length) (hk : k ≠ 0) : rowTo zs (k + 1) = (rowTo zs k ++ [32]) ++ symText zs[k] := by simp [rowTo, hk, h]
end Go.Proofs.YtdniejpblhbjkabDoor
namespace Go.Proofs.YtdniejpblhbjkabDoor
open Go.RowKit

/-- An alternative's text, a blank ahead of each symbol. -/
def altText (row : List Int) : List UInt8 := if row.length = 0 then [] else 32 :: rowText row
def altsTo (alts : List (List Int)) : Nat → List UInt8
  | 0 => []
  | i + 1 => (altsTo alts i ++ (if i = 0 then [] else [32, 124])) ++ altText (alts.getD i [])
def partText (k : Nat) (alts : List (List Int)) : List UInt8 := (80 :: Lib.itoa (k : Int) ++ [32, 61]) ++ (altsTo alts alts.length ++ [10])
def partsTo (P : List (List (List Int))) : Nat → List UInt8
  | 0 => []
  | k + 1 => partsTo P k ++ partText k (P.getD k [])
def gramText (P : List (List (List Int))) : List UInt8 := if gramOkB P then partsTo P P.length else []

/-- What is known of the sizes of a right grammar. -/
structure Fits (P : List (List (List Int))) : Prop where
  parts : P.length ≤ 20
  alts : ∀ alts ∈ P, alts.length ≤ 8
  rows : ∀ alts ∈ P, ∀ row ∈ alts, row.length ≤ 8
  syms : ∀ alts ∈ P, ∀ row ∈ alts, ∀ z ∈ row, 0 ≤ z ∧ z < 120
theorem Fits.of {P : List (List (List Int))} (h : gramOkB P = true) : Fits P := by
  simp only [gramOkB, Bool.and_eq_true, inB_true, List.all_eq_true, partOk, rowOk, decide_eq_true_eq] at h
  obtain ⟨hp, ha⟩ := h
  refine ⟨by omega, fun alts h1 => ?_, fun alts h1 row h2 => ((ha alts h1).2 row h2).1, fun alts h1 row h2 z h3 => ?_⟩
  · have := (ha alts h1).1; omega
  · have := symOk_true.1 (((ha alts h1).2 row h2).2 z h3); omega
theorem rowText_le8 {row : List Int} (h : row.length ≤ 8) (hz : ∀ z ∈ row, 0 ≤ z ∧ z < 120) : (rowText row).length ≤ 176 := by
  have := rowTo_le (zs := row) (fun z hz' => by have := hz z hz'; omega) row.length (Nat.le_refl _)
  unfold rowText; omega
theorem altText_le {row : List Int} (h : row.length ≤ 8) (hz : ∀ z ∈ row, 0 ≤ z ∧ z < 120) : (altText row).length ≤ 177 := by
  unfold altText
  have := rowText_le8 h hz
  split
  · simp
  · simp; omega
theorem altsTo_le {alts : List (List Int)} (h : ∀ row ∈ alts, row.length ≤ 8) (hz : ∀ row ∈ alts, ∀ z ∈ row, 0 ≤ z ∧ z < 120) (i : Nat) (hi : i ≤ alts.length) : (altsTo alts i).length ≤ 180 * i := by
  induction i with
  | zero => simp [altsTo]
  | succ i ih =>
    have h1 := ih (by omega)
    have e : alts.getD i [] = alts[i] := by simp [List.getD, show i < alts.length by omega]
    have h2 := altText_le (h alts[i] (List.getElem_mem _)) (hz alts[i] (List.getElem_mem _))
    simp only [altsTo, List.length_append, e]
    split <;> simp <;> omega
theorem partText_le {k : Nat} (hk : k ≤ 20) {alts : List (List Int)} (h8 : alts.length ≤ 8) (h : ∀ row ∈ alts, row.length ≤ 8) (hz : ∀ row ∈ alts, ∀ z ∈ row, 0 ≤ z ∧ z < 120) : (partText k alts).length ≤ 1500 := by
  have h1 := altsTo_le h hz alts.length (Nat.le_refl _)
  have h2 := itoa_le (n := (k : Int)) (by omega) (by omega)
  simp only [partText, List.length_append, List.length_cons, List.length_nil]
  omega
theorem partsTo_le {P : List (List (List Int))} (F : Fits P) (k : Nat) (hk : k ≤ P.length) : (partsTo P k).length ≤ 1500 * k := by
  induction k with
  | zero => simp [partsTo]
  | succ k ih =>
    have h1 := ih (by omega)
    have e : P.getD k [] = P[k] := by simp [List.getD, show k < P.length by omega]
    have hm := List.getElem_mem (l := P) (show k < P.length by omega)
    have h2 := partText_le (k := k) (by have := F.parts; omega) (F.alts _ hm) (F.rows _ hm) (F.syms _ hm)
    simp only [partsTo, List.length_append, e]
    omega
theorem partsTo_next {P : List (List (List Int))} {k : Nat} (h : k < P.length) : partsTo P (k + 1) = partsTo P k ++ partText k P[k] := by simp [partsTo, h]
theorem altsTo_first {alts : List (List Int)} (h : 0 < alts.length) : altsTo alts (0 + 1) = altText alts[0] := by simp [altsTo, h]
theorem altsTo_next {alts : List (List Int)} {i : Nat} (h : i < alts.length) (hi : i ≠ 0) : altsTo alts (i + 1) = (altsTo alts i ++ [32, 124]) ++ altText alts[i] := by simp [altsTo, h, hi]
theorem altText_nil {row : List Int} (h : row.length = 0) : altText row = [] := by simp [altText, h]
theorem altText_some {row : List Int} (h : row.length ≠ 0) : altText row = 32 :: rowText row := by simp [altText, h]
end Go.Proofs.YtdniejpblhbjkabDoor
namespace Go.Proofs.YtdniejpblhbjkabDoor
open Go.RowKit

/-- All symbols of the row are of those parts. -/
def allE (row E : List Int) : Bool := row.all fun x => decide (100 ≤ x) && hasL E (x - 100)
/-- All parts of the row are those. -/
def aliveE (row E : List Int) : Bool := row.all fun x => !decide (100 ≤ x) || hasL E (x - 100)

section
variable (p : List Int → List Int → Bool)
/-- Part k is put in for each of the first i alternatives that p lets. -/
def growI (k : Nat) (Q : List (List Int)) (E : List Int) : Nat → List Int
  | 0 => E
  | i + 1 => if p (Q.getD i []) (growI k Q E i) then addL (growI k Q E i) k else growI k Q E i
def growK (P : List (List (List Int))) (E : List Int) : Nat → List Int
  | 0 => E
  | k + 1 => growI p k (P.getD k []) (growK P E k) (P.getD k []).length
def growT (P : List (List (List Int))) : Nat → List Int
  | 0 => []
  | t + 1 => growK p P (growT P t) P.length
theorem growI_yes {k i : Nat} {Q : List (List Int)} {E : List Int} (h : i < Q.length) (g : p Q[i] (growI p k Q E i) = true) : growI p k Q E (i + 1) = addL (growI p k Q E i) k := by
  have e : Q.getD i [] = Q[i] := by simp [List.getD, h]
  rw [growI, e, if_pos g]
theorem growI_no {k i : Nat} {Q : List (List Int)} {E : List Int} (h : i < Q.length) (g : p Q[i] (growI p k Q E i) = false) : growI p k Q E (i + 1) = growI p k Q E i := by
  have e : Q.getD i [] = Q[i] := by simp [List.getD, h]
  rw [growI, e, if_neg (by simp [g])]
theorem growK_next {P : List (List (List Int))} {E : List Int} {k : Nat} (h : k < P.length) : growK p P E (k + 1) = growI p k P[k] (growK p P E k) P[k].length := by
  have e : P.getD k [] = P[k] := by simp [List.getD, h]
  rw [growK, e]
theorem growI_le (k : Nat) (Q : List (List Int)) (E : List Int) (i : Nat) : (growI p k Q E i).length ≤ E.length + i := by
  induction i with
  | zero => simp [growI]
  | succ i ih =>
    rw [growI]
    split
    · have := addL_length_le (growI p k Q E i) k; omega
    · omega
theorem growK_le {P : List (List (List Int))} (h8 : ∀ alts ∈ P, alts.length ≤ 8) (E : List Int) (k : Nat) (hk : k ≤ P.length) : (growK p P E k).length ≤ E.length + 8 * k := by
  induction k with
  | zero => simp [growK]
  | succ k ih =>
    have h1 := ih (by omega)
    have h2 := growI_le p k (P.getD k []) (growK p P E k) (P.getD k []).length
    have e : P.getD k [] = P[k] := by simp [List.getD, show k < P.length by omega]
    have h3 := h8 P[k] (List.getElem_mem _)
    rw [growK]; rw [e] at h2 ⊢; omega
theorem growT_le {P : List (List (List Int))} (hp : P.length ≤ 20) (h8 : ∀ alts ∈ P, alts.length ≤ 8) (t : Nat) : (growT p P t).length ≤ 160 * t := by
  induction t with
  | zero => simp [growT]
  | succ t ih =>
    have h2 := growK_le p h8 (growT p P t) P.length (Nat.le_refl _)
    rw [growT]; omega
end
/-- The parts that can become nothing; those that can become letters. -/
def emptiesL (P : List (List (List Int))) : List Int := growT allE P (P.length + 1)
def aliveL (P : List (List (List Int))) : List Int := growT aliveE P (P.length + 1)
theorem emptiesL_le {P : List (List (List Int))} (F : Fits P) : (emptiesL P).length ≤ 3360 := by
  have h1 := F.parts
  have h2 := growT_le allE F.parts F.alts (P.length + 1)
  have h3 : 160 * (P.length + 1) ≤ 3360 := by omega
  exact Nat.le_trans h2 h3
theorem aliveL_le {P : List (List (List Int))} (F : Fits P) : (aliveL P).length ≤ 3360 := by
  have h1 := F.parts
  have h2 := growT_le aliveE F.parts F.alts (P.length + 1)
  have h3 : 160 * (P.length + 1) ≤ 3360 := by omega
  exact Nat.le_trans h2 h3
/-- What Reachable grows: the parts of a row; of all rows of a part; of all parts that are there. -/
def reachJ (R : List Int) (E : List Int) : Nat → List Int
  | 0 => E
  | j + 1 => if 100 ≤ R.getD j 0 then addL (reachJ R E j) (R.getD j 0 - 100) else reachJ R E j
def reachI (Q : List (List Int)) (E : List Int) : Nat → List Int
  | 0 => E
  | i + 1 => reachJ (Q.getD i []) (reachI Q E i) (Q.getD i []).length
def reachK (P : List (List (List Int))) (E : List Int) : Nat → List Int
  | 0 => E
  | k + 1 => if hasL (reachK P E k) k then reachI (P.getD k []) (reachK P E k) (P.getD k []).length else reachK P E k
def reachT (P : List (List (List Int))) : Nat → List Int
  | 0 => [0]
  | t + 1 => reachK P (reachT P t) P.length
def reachL (P : List (List (List Int))) : List Int := reachT P (P.length + 1)
theorem reachJ_yes {R E : List Int} {j : Nat} (h : j < R.length) (g : 100 ≤ R[j]) : reachJ R E (j + 1) = addL (reachJ R E j) (R[j] - 100) := by
  have e : R.getD j 0 = R[j] := by simp [List.getD, h]
  rw [reachJ, e, if_pos g]
theorem reachJ_no {R E : List Int} {j : Nat} (h : j < R.length) (g : ¬ 100 ≤ R[j]) : reachJ R E (j + 1) = reachJ R E j := by
  have e : R.getD j 0 = R[j] := by simp [List.getD, h]
  rw [reachJ, e, if_neg g]
theorem reachI_next {Q : List (List Int)} {E : List Int} {i : Nat} (h : i < Q.length) : reachI Q E (i + 1) = reachJ Q[i] (reachI Q E i) Q[i].length := by
  have e : Q.getD i [] = Q[i] := by simp [List.getD, h]
  rw [reachI, e]
theorem reachK_yes {P : List (List (List Int))} {E : List Int} {k : Nat} (h : k < P.length) (g : hasL (reachK P E k) k = true) : reachK P E (k + 1) = reachI P[k] (reachK P E k) P[k].length := by
  have e : P.getD k [] = P[k] := by simp [List.getD, h]
  rw [reachK, e, if_pos g]
theorem reachK_no {P : List (List (List Int))} {E : List Int} {k : Nat} (g : hasL (reachK P E k) k = false) : reachK P E (k + 1) = reachK P E k := by
  rw [reachK, if_neg (by simp [g])]
theorem reachJ_le (R E : List Int) (j : Nat) : (reachJ R E j).length ≤ E.length + j := by
  induction j with
  | zero => simp [reachJ]
  | succ j ih =>
    rw [reachJ]
    split
    · have := addL_length_le (reachJ R E j) (R.getD j 0 - 100); omega
    · omega
theorem reachI_le {Q : List (List Int)} (h8 : ∀ row ∈ Q, row.length ≤ 8) (E : List Int) (i : Nat) (hi : i ≤ Q.length) : (reachI Q E i).length ≤ E.length + 8 * i := by
  induction i with
  | zero => simp [reachI]
  | succ i ih =>
    have h1 := ih (by omega)
    have h2 := reachJ_le (Q.getD i []) (reachI Q E i) (Q.getD i []).length
    have e : Q.getD i [] = Q[i] := by simp [List.getD, show i < Q.length by omega]
    have h3 := h8 Q[i] (List.getElem_mem _)
    rw [reachI]; rw [e] at h2 ⊢; omega
theorem reachK_le {P : List (List (List Int))} (F : Fits P) (E : List Int) (k : Nat) (hk : k ≤ P.length) : (reachK P E k).length ≤ E.length + 64 * k := by
  induction k with
  | zero => simp [reachK]
  | succ k ih =>
    have h1 := ih (by omega)
    have e : P.getD k [] = P[k] := by simp [List.getD, show k < P.length by omega]
    have hm := List.getElem_mem (l := P) (show k < P.length by omega)
    have h2 := reachI_le (F.rows _ hm) (reachK P E k) P[k].length (Nat.le_refl _)
    have h3 := F.alts _ hm
    rw [reachK]
    split
    · rw [e]; omega
    · omega
theorem reachT_le {P : List (List (List Int))} (F : Fits P) (t : Nat) : (reachT P t).length ≤ 1 + 1280 * t := by
  induction t with
  | zero => simp [reachT]
  | succ t ih =>
    have h2 := reachK_le F (reachT P t) P.length (Nat.le_refl _)
    have := F.parts
    rw [reachT]; omega
theorem reachL_le {P : List (List (List Int))} (F : Fits P) : (reachL P).length ≤ 26881 := by
  have h1 := F.parts
  have h2 := reachT_le F (P.length + 1)
  have h3 : 1 + 1280 * (P.length + 1) ≤ 26881 := by omega
  exact Nat.le_trans h2 h3
end Go.Proofs.YtdniejpblhbjkabDoor
namespace Go.Proofs.YtdniejpblhbjkabDoor

theorem mem_addL {zs : List Int} {x z : Int} : z ∈ addL zs x ↔ z = x ∨ z ∈ zs := by
  unfold addL
  split
  · constructor
    · exact .inr
    · rintro (rfl | h)
      · assumption
      · exact h
  · have e : ∀ p, z ∈ zs.take p ++ [x] ++ zs.drop p ↔ z = x ∨ z ∈ zs := by
      intro p
      have : z ∈ zs ↔ z ∈ zs.take p ∨ z ∈ zs.drop p := by rw [← List.mem_append, List.take_append_drop]
      rw [this]; simp only [List.mem_append, List.mem_singleton]
      constructor
      · rintro ((h | h) | h)
        · exact .inr (.inl h)
        · exact .inl h
        · exact .inr (.inr h)
      · rintro (h | h | h)
        · exact .inl (.inr h)
        · exact .inl (.inl h)
        · exact .inr h
    exact e _

theorem mem_joinL {xs ys : List Int} {z : Int} : z ∈ joinL xs ys ↔ z ∈ xs ∨ z ∈ ys := by
  induction ys generalizing xs with
  | nil => simp [joinL]
  | cons y ys ih =>
    show z ∈ joinL (addL xs y) ys ↔ _
    rw [ih, mem_addL]
    simp only [List.mem_cons]
    constructor
    · rintro ((h | h) | h)
      · exact .inr (.inl h)
      · exact .inl h
      · exact .inr (.inr h)
    · rintro (h | h | h)
      · exact .inl (.inr h)
      · exact .inl (.inl h)
      · exact .inr h

theorem hasL_join_left {xs ys : List Int} {k : Nat} (h : k < xs.length) : hasL (joinL xs ys) xs[k] = true := hasL_yes (mem_joinL.2 (.inl (List.getElem_mem h)))
theorem hasL_join_right {xs ys : List Int} {k : Nat} (h : k < ys.length) : hasL (joinL xs ys) ys[k] = true := hasL_yes (mem_joinL.2 (.inr (List.getElem_mem h)))

/-- Each number is below all that follow. -/
theorem pair_of_ok {zs : List Int} (h : okL zs = true) : zs.Pairwise (· < ·) := by
  simp only [okL, decide_eq_true_eq] at h
  have step : ∀ d i, i + d + 1 < zs.length → zs.getD i 0 < zs.getD (i + d + 1) 0 := by
    intro d
    induction d with
    | zero => intro i hi; exact h i (by omega)
    | succ d ih =>
      intro i hi
      have h1 := ih i (by omega)
      have h2 := h (i + d + 1) (by omega)
      have e : i + (d + 1) + 1 = i + d + 1 + 1 := by omega
      rw [e]
      omega
  rw [List.pairwise_iff_getElem]
  intro i j hi hj hij
  have := step (j - i - 1) i (by omega)
  rw [show i + (j - i - 1) + 1 = j by omega] at this
  simpa [List.getD, hi, hj] using this

theorem ok_of_pair {zs : List Int} (h : zs.Pairwise (· < ·)) : okL zs = true := by
  simp only [okL, decide_eq_true_eq]
  intro j hj
  rw [List.pairwise_iff_getElem] at h
  have := h j (j + 1) (by omega) (by omega) (by omega)
  have h1 : j < zs.length := by omega
  have h2 : j + 1 < zs.length := by omega
  simpa [List.getD, h1, h2] using this

theorem place_cons (z : Int) (zs : List Int) (x : Int) : placeL (z :: zs) x = if x < z then 0 else placeL zs x + 1 := by
  unfold placeL
  rw [List.findIdx_cons]
  by_cases h : x < z <;> simp [h]

theorem pair_add {zs : List Int} {x : Int} (h : zs.Pairwise (· < ·)) (hx : x ∉ zs) : (zs.take (placeL zs x) ++ [x] ++ zs.drop (placeL zs x)).Pairwise (· < ·) := by
  induction zs with
  | nil => simp [placeL]
  | cons z zs ih =>
    rw [List.pairwise_cons] at h
    rw [place_cons]
    by_cases hz : x < z
    · rw [if_pos hz]
      simp only [List.take_zero, List.nil_append, List.drop_zero, List.singleton_append]
      rw [List.pairwise_cons, List.pairwise_cons]
      refine ⟨fun a ha => ?_, h⟩
      rcases List.mem_cons.1 ha with rfl | ha
      · exact hz
      · have := h.1 a ha; omega
    · rw [if_neg hz]
      simp only [List.take_succ_cons, List.drop_succ_cons, List.cons_append]
      rw [List.pairwise_cons]
      refine ⟨fun a ha => ?_, ih h.2 (fun hm => hx (List.mem_cons_of_mem _ hm))⟩
      have hne : x ≠ z := fun e => hx (by rw [e]; exact List.mem_cons_self ..)
      have : a = x ∨ a ∈ zs := by
        simp only [List.mem_append, List.mem_singleton] at ha
        rcases ha with (ha | ha) | ha
        · exact .inr (List.mem_of_mem_take ha)
        · exact .inl ha
        · exact .inr (List.mem_of_mem_drop ha)
      rcases this with rfl | hm
      · omega
      · exact h.1 a hm

theorem pair_addL {zs : List Int} {x : Int} (h : zs.Pairwise (· < ·)) : (addL zs x).Pairwise (· < ·) := by
  unfold addL
  split
  · exact h
  · exact pair_add h ‹_›

theorem pair_joinL {xs ys : List Int} (h : xs.Pairwise (· < ·)) : (joinL xs ys).Pairwise (· < ·) := by
  induction ys generalizing xs with
  | nil => exact h
  | cons y ys ih => exact ih (pair_addL h)

theorem eq_of_pair : ∀ {xs ys : List Int}, xs.Pairwise (· < ·) → ys.Pairwise (· < ·) → (∀ z, z ∈ xs ↔ z ∈ ys) → xs = ys
  | [], [], _, _, _ => rfl
  | [], y :: ys, _, _, h => absurd ((h y).2 (List.mem_cons_self ..)) (by simp)
  | x :: xs, [], _, _, h => absurd ((h x).1 (List.mem_cons_self ..)) (by simp)
  | x :: xs, y :: ys, hx, hy, h => by
    rw [List.pairwise_cons] at hx hy
    have hxy : x = y := by
      have h1 := (h x).1 (List.mem_cons_self ..)
      have h2 := (h y).2 (List.mem_cons_self ..)
      rcases List.mem_cons.1 h1 with e | h1
      · exact e
      · rcases List.mem_cons.1 h2 with e | h2
        · exact e.symm
        · have a := hy.1 x h1
          have b := hx.1 y h2
          omega
    subst hxy
    congr 1
    refine eq_of_pair hx.2 hy.2 fun z => ⟨fun hz => ?_, fun hz => ?_⟩
    · have := hx.1 z hz
      rcases List.mem_cons.1 ((h z).1 (List.mem_cons_of_mem _ hz)) with e | e
      · omega
      · exact e
    · have := hy.1 z hz
      rcases List.mem_cons.1 ((h z).2 (List.mem_cons_of_mem _ hz)) with e | e
      · omega
      · exact e

theorem join_comm {xs ys : List Int} (hx : okL xs = true) (hy : okL ys = true) : joinL xs ys = joinL ys xs :=
  eq_of_pair (pair_joinL (pair_of_ok hx)) (pair_joinL (pair_of_ok hy)) fun z => by rw [mem_joinL, mem_joinL, Or.comm]
theorem join_ok {xs ys : List Int} (hx : okL xs = true) : okL (joinL xs ys) = true := ok_of_pair (pair_joinL (pair_of_ok hx))

theorem cmpL_self (xs : List Int) : cmpL xs xs = 0 := by
  induction xs with
  | nil => rfl
  | cons x xs ih => simp [cmpL, ih]
theorem cmpL_bound : ∀ xs ys : List Int, -1 ≤ cmpL xs ys ∧ cmpL xs ys ≤ 1
  | [], [] => by simp [cmpL]
  | [], _ :: _ => by simp [cmpL]
  | _ :: _, [] => by simp [cmpL]
  | x :: xs, y :: ys => by
    have := cmpL_bound xs ys
    rw [cmpL]
    split
    · omega
    · split <;> omega
theorem cmpL_swap : ∀ xs ys : List Int, cmpL ys xs = - cmpL xs ys
  | [], [] => rfl
  | [], _ :: _ => rfl
  | _ :: _, [] => rfl
  | x :: xs, y :: ys => by
    have := cmpL_swap xs ys
    rw [cmpL, cmpL]
    by_cases h1 : x < y
    · rw [if_neg (by omega), if_pos h1, if_pos h1]; rfl
    · by_cases h2 : y < x
      · rw [if_pos h2, if_neg h1, if_pos h2]
      · rw [if_neg h2, if_neg h1, if_neg h1, if_neg h2, this]
theorem cmpL_trans : ∀ xs ys zs : List Int, cmpL xs ys ≤ 0 → cmpL ys zs ≤ 0 → cmpL xs zs ≤ 0
  | [], _, [], _, _ => by simp [cmpL]
  | [], _, _ :: _, _, _ => by simp [cmpL]
  | _ :: _, [], _, h, _ => by simp [cmpL] at h
  | _ :: _, _ :: _, [], _, h => by simp [cmpL] at h
  | x :: xs, y :: ys, z :: zs, h, g => by
    rw [cmpL] at h g ⊢
    have ih := cmpL_trans xs ys zs
    split at h
    · split at g
      · rw [if_pos (by omega)]; omega
      · split at g
        · omega
        · rw [if_pos (by omega)]; omega
    · split at h
      · omega
      · split at g
        · rw [if_pos (by omega)]; omega
        · split at g
          · omega
          · rw [if_neg (by omega), if_neg (by omega)]
            exact ih h g
end Go.Proofs.YtdniejpblhbjkabDoor
namespace Go.Proofs.YtdniejpblhbjkabDoor
open Go.RowKit

/-- What a row can begin with, put to out. -/
def rowF (M : List (List Int)) (E : List Int) : List Int → List Int → List Int
  | out, [] => out
  | out, x :: xs => if inB x 0 25 then addL out x else if inB x 100 (100 + M.length - 1) then (if hasL E (x - 100) then rowF M E (joinL out (M.getD (x - 100).toNat [])) xs else joinL out (M.getD (x - 100).toNat [])) else out
section
variable {M : List (List Int)} {E out zs : List Int} {k : Nat}
theorem rowF_end (h : ¬ k < zs.length) : rowF M E out (zs.drop k) = out := by rw [List.drop_eq_nil_of_le (by omega), rowF]
theorem rowF_letter (h : k < zs.length) (g : inB zs[k] 0 25 = true) : rowF M E out (zs.drop k) = addL out zs[k] := by
  rw [List.drop_eq_getElem_cons h, rowF, if_pos g]
theorem rowF_none (h : k < zs.length) (g : inB zs[k] 0 25 = false) (g2 : inB zs[k] 100 (100 + M.length - 1) = false) : rowF M E out (zs.drop k) = out := by
  rw [List.drop_eq_getElem_cons h, rowF, if_neg (by simp [g]), if_neg (by simp [g2])]
theorem rowF_stop (h : k < zs.length) (g : inB zs[k] 0 25 = false) (g2 : inB zs[k] 100 (100 + M.length - 1) = true) (g3 : hasL E (zs[k] - 100) = false) : rowF M E out (zs.drop k) = joinL out (M.getD (zs[k] - 100).toNat []) := by
  rw [List.drop_eq_getElem_cons h, rowF, if_neg (by simp [g]), if_pos g2, if_neg (by simp [g3])]
theorem rowF_go (h : k < zs.length) (g : inB zs[k] 0 25 = false) (g2 : inB zs[k] 100 (100 + M.length - 1) = true) (g3 : hasL E (zs[k] - 100) = true) : rowF M E out (zs.drop k) = rowF M E (joinL out (M.getD (zs[k] - 100).toNat [])) (zs.drop (k + 1)) := by
  rw [List.drop_eq_getElem_cons h, rowF, if_neg (by simp [g]), if_pos g2, if_pos g3]
end
/-- All numbers of a list are below b, from 0 on, and none stands there twice. -/
structure SetB (b : Int) (xs : List Int) : Prop where
  nodup : xs.Nodup
  lt : ∀ x ∈ xs, 0 ≤ x ∧ x < b
theorem SetB.nil (b : Int) : SetB b [] := ⟨List.nodup_nil, fun _ h => by simp at h⟩
theorem nodup_addL {zs : List Int} {x : Int} (h : zs.Nodup) : (addL zs x).Nodup := by
  unfold addL
  split
  · exact h
  · rename_i hx
    have hs : zs = zs.take (placeL zs x) ++ zs.drop (placeL zs x) := (List.take_append_drop _ _).symm
    rw [hs] at h hx
    generalize zs.take (placeL zs x) = A at *
    generalize zs.drop (placeL zs x) = C at *
    rw [List.nodup_append] at h
    simp only [List.mem_append, not_or] at hx
    rw [List.append_assoc, List.singleton_append, List.nodup_append]
    refine ⟨h.1, List.nodup_cons.2 ⟨hx.2, h.2.1⟩, fun a ha b hb => ?_⟩
    rcases List.mem_cons.1 hb with rfl | hb
    · intro e; subst e; exact hx.1 ha
    · exact h.2.2 a ha b hb
theorem nodup_joinL {xs ys : List Int} (h : xs.Nodup) : (joinL xs ys).Nodup := by
  unfold joinL
  induction ys generalizing xs with
  | nil => exact h
  | cons z zs ih => exact ih (nodup_addL h)
theorem SetB.add {b : Int} {xs : List Int} {x : Int} (h : SetB b xs) (h0 : 0 ≤ x) (h1 : x < b) : SetB b (addL xs x) :=
  ⟨nodup_addL h.nodup, fun y hy => by
    rcases mem_addL.1 hy with rfl | hy
    · exact ⟨h0, h1⟩
    · exact h.lt y hy⟩
theorem SetB.join {b : Int} {xs ys : List Int} (h : SetB b xs) (g : SetB b ys) : SetB b (joinL xs ys) :=
  ⟨nodup_joinL h.nodup, fun y hy => by
    rcases mem_joinL.1 hy with hy | hy
    · exact h.lt y hy
    · exact g.lt y hy⟩
theorem nodup_le {n : Nat} : ∀ {xs : List Int}, xs.Nodup → (∀ x ∈ xs, 0 ≤ x ∧ x < (n : Int)) → xs.length ≤ n := by
  intro xs h hl
  have h1 : (xs.map Int.toNat).Nodup := by
    rw [List.nodup_iff_pairwise_ne] at h ⊢
    rw [List.pairwise_map]
    exact h.imp_of_mem (fun ha hb hne e => hne (by have := hl _ ha; have := hl _ hb; omega))
  have h2 : (xs.map Int.toNat) ⊆ List.range n := by
    intro k hk
    obtain ⟨x, hx, rfl⟩ := List.mem_map.1 hk
    have := hl x hx
    rw [List.mem_range]; omega
  have := h1.length_le_of_subset h2
  simpa using this
theorem SetB.len {n : Nat} {xs : List Int} (h : SetB (n : Int) xs) : xs.length ≤ n := nodup_le h.nodup h.lt
theorem rowF_setB {M : List (List Int)} {E : List Int} (hM : ∀ m ∈ M, SetB 27 m) : ∀ {zs out : List Int}, SetB 27 out → SetB 27 (rowF M E out zs)
  | [], out, h => by rw [rowF]; exact h
  | x :: xs, out, h => by
    rw [rowF]
    have hj : SetB 27 (joinL out (M.getD (x - 100).toNat [])) := by
      refine h.join ?_
      by_cases hi : (x - 100).toNat < M.length
      · have e : M.getD (x - 100).toNat [] = M[(x - 100).toNat] := by simp [List.getD, hi]
        rw [e]; exact hM _ (List.getElem_mem _)
      · have e : M.getD (x - 100).toNat [] = [] := by rw [List.getD_eq_getElem?_getD, List.getElem?_eq_none (by omega)]; rfl
        rw [e]; exact SetB.nil _
    split
    · have := inB_true.1 ‹_›; exact h.add (by omega) (by omega)
    · split
      · split
        · exact rowF_setB hM hj
        · exact hj
      · exact h
end Go.Proofs.YtdniejpblhbjkabDoor
namespace Go.Proofs.YtdniejpblhbjkabDoor
open Go.RowKit

/-- One alternative's part of a turn. -/
def fiS (E : List Int) (k : Nat) (row : List Int) (M : List (List Int)) : List (List Int) := M.set k (joinL (M.getD k []) (rowF M E [] row))
def fiI (E : List Int) (k : Nat) (Q : List (List Int)) (M : List (List Int)) : Nat → List (List Int)
  | 0 => M
  | i + 1 => fiS E k (Q.getD i []) (fiI E k Q M i)
def fiK (E : List Int) (P : List (List (List Int))) (M : List (List Int)) : Nat → List (List Int)
  | 0 => M
  | k + 1 => fiI E k (P.getD k []) (fiK E P M k) (P.getD k []).length
def fiT (E : List Int) (P : List (List (List Int))) : Nat → List (List Int)
  | 0 => List.replicate P.length []
  | t + 1 => fiK E P (fiT E P t) P.length
/-- So many sets of letters. -/
def Sets (n : Nat) (M : List (List Int)) : Prop := M.length = n ∧ ∀ m ∈ M, SetB 27 m
theorem Sets.get {n k : Nat} {M : List (List Int)} (h : Sets n M) : SetB 27 (M.getD k []) := by
  by_cases hk : k < M.length
  · have e : M.getD k [] = M[k] := by simp [List.getD, hk]
    rw [e]; exact h.2 _ (List.getElem_mem _)
  · have e : M.getD k [] = [] := by rw [List.getD_eq_getElem?_getD, List.getElem?_eq_none (by omega)]; rfl
    rw [e]; exact SetB.nil _
theorem Sets.set {n k : Nat} {M : List (List Int)} {m : List Int} (h : Sets n M) (hm : SetB 27 m) : Sets n (M.set k m) := by
  refine ⟨by rw [List.length_set]; exact h.1, fun x hx => ?_⟩
  rcases List.mem_or_eq_of_mem_set hx with hx | rfl
  · exact h.2 x hx
  · exact hm
theorem fiS_sets {E : List Int} {k n : Nat} {row : List Int} {M : List (List Int)} (h : Sets n M) : Sets n (fiS E k row M) := h.set (h.get.join (rowF_setB h.2 (SetB.nil _)))
theorem fiI_sets {E : List Int} {k n : Nat} {Q : List (List Int)} {M : List (List Int)} (h : Sets n M) : ∀ i, Sets n (fiI E k Q M i)
  | 0 => h
  | i + 1 => fiS_sets (fiI_sets h i)
theorem fiK_sets {E : List Int} {n : Nat} {P : List (List (List Int))} {M : List (List Int)} (h : Sets n M) : ∀ k, Sets n (fiK E P M k)
  | 0 => h
  | k + 1 => fiI_sets (fiK_sets h k) _
theorem fiT_sets (E : List Int) (P : List (List (List Int))) : ∀ t, Sets P.length (fiT E P t)
  | 0 => ⟨by simp [fiT], fun m hm => by rw [(List.mem_replicate.1 hm).2]; exact SetB.nil _⟩
  | t + 1 => fiK_sets (fiT_sets E P t) _
theorem fiI_next {E : List Int} {k i : Nat} {Q M : List (List Int)} (h : i < Q.length) : fiI E k Q M (i + 1) = fiS E k Q[i] (fiI E k Q M i) := by
  have e : Q.getD i [] = Q[i] := by simp [List.getD, h]
  rw [fiI, e]
theorem fiK_next {E : List Int} {k : Nat} {P : List (List (List Int))} {M : List (List Int)} (h : k < P.length) : fiK E P M (k + 1) = fiI E k P[k] (fiK E P M k) P[k].length := by
  have e : P.getD k [] = P[k] := by simp [List.getD, h]
  rw [fiK, e]
theorem fiS_at {E : List Int} {k : Nat} {row : List Int} {M : List (List Int)} (h : k < M.length) : fiS E k row M = M.set k (joinL M[k] (rowF M E [] row)) := by
  have e : M.getD k [] = M[k] := by simp [List.getD, h]
  rw [fiS, e]
def firstsL (P : List (List (List Int))) : List (List Int) := fiT (emptiesL P) P (P.length + 1)
end Go.Proofs.YtdniejpblhbjkabDoor
namespace Go.Proofs.YtdniejpblhbjkabDoor
open Go.RowKit

/-- One symbol's part of a turn. -/
def stS (k : Nat) (x : Int) (M : List (List Int)) : List (List Int) := M.set k (joinL (addL (M.getD k []) (x - 100)) (M.getD (x - 100).toNat []))
def stRow (E : List Int) (k : Nat) : List (List Int) → List Int → List (List Int)
  | M, [] => M
  | M, x :: xs => if 100 ≤ x then (if hasL E (x - 100) then stRow E k (stS k x M) xs else stS k x M) else M
def stI (E : List Int) (k : Nat) (Q : List (List Int)) (M : List (List Int)) : Nat → List (List Int)
  | 0 => M
  | i + 1 => stRow E k (stI E k Q M i) (Q.getD i [])
def stK (E : List Int) (P : List (List (List Int))) (M : List (List Int)) : Nat → List (List Int)
  | 0 => M
  | k + 1 => stI E k (P.getD k []) (stK E P M k) (P.getD k []).length
def stT (E : List Int) (P : List (List (List Int))) : Nat → List (List Int)
  | 0 => List.replicate P.length []
  | t + 1 => stK E P (stT E P t) P.length
theorem stRow_end {E : List Int} {k j : Nat} {M : List (List Int)} {R : List Int} (h : ¬ j < R.length) : stRow E k M (R.drop j) = M := by rw [List.drop_eq_nil_of_le (by omega), stRow]
theorem stRow_letter {E : List Int} {k j : Nat} {M : List (List Int)} {R : List Int} (h : j < R.length) (g : ¬ 100 ≤ R[j]) : stRow E k M (R.drop j) = M := by rw [List.drop_eq_getElem_cons h, stRow, if_neg g]
theorem stRow_go {E : List Int} {k j : Nat} {M : List (List Int)} {R : List Int} (h : j < R.length) (g : 100 ≤ R[j]) (g2 : hasL E (R[j] - 100) = true) : stRow E k M (R.drop j) = stRow E k (stS k R[j] M) (R.drop (j + 1)) := by rw [List.drop_eq_getElem_cons h, stRow, if_pos g, if_pos g2]
theorem stRow_stop {E : List Int} {k j : Nat} {M : List (List Int)} {R : List Int} (h : j < R.length) (g : 100 ≤ R[j]) (g2 : hasL E (R[j] - 100) = false) : stRow E k M (R.drop j) = stS k R[j] M := by rw [List.drop_eq_getElem_cons h, stRow, if_pos g, if_neg (by simp [g2])]
theorem stS_sets {k n : Nat} {x : Int} {M : List (List Int)} (h : Sets n M) (h0 : 100 ≤ x) (h1 : x < 120) : Sets n (stS k x M) := h.set ((h.get.add (by omega) (by omega)).join h.get)
theorem stRow_sets {E : List Int} {k n : Nat} : ∀ {R : List Int} {M : List (List Int)}, Sets n M → (∀ z ∈ R, 0 ≤ z ∧ z < 120) → Sets n (stRow E k M R)
  | [], M, h, _ => by rw [stRow]; exact h
  | x :: xs, M, h, hz => by
    rw [stRow]
    split
    · have hx := hz x List.mem_cons_self
      have hs := stS_sets (k := k) h ‹_› hx.2
      split
      · exact stRow_sets hs (fun z hz2 => hz z (List.mem_cons_of_mem _ hz2))
      · exact hs
    · exact h
theorem stI_next {E : List Int} {k i : Nat} {Q M : List (List Int)} (h : i < Q.length) : stI E k Q M (i + 1) = stRow E k (stI E k Q M i) Q[i] := by
  have e : Q.getD i [] = Q[i] := by simp [List.getD, h]
  rw [stI, e]
theorem stK_next {E : List Int} {k : Nat} {P : List (List (List Int))} {M : List (List Int)} (h : k < P.length) : stK E P M (k + 1) = stI E k P[k] (stK E P M k) P[k].length := by
  have e : P.getD k [] = P[k] := by simp [List.getD, h]
  rw [stK, e]
theorem stI_sets {E : List Int} {k n : Nat} {Q : List (List Int)} {M : List (List Int)} (h : Sets n M) (hq : ∀ row ∈ Q, ∀ z ∈ row, 0 ≤ z ∧ z < 120) (i : Nat) (hi : i ≤ Q.length) : Sets n (stI E k Q M i) := by
  induction i with
  | zero => exact h
  | succ i ih => rw [stI_next (by omega)]; exact stRow_sets (ih (by omega)) (hq _ (List.getElem_mem _))
theorem stK_sets {E : List Int} {n : Nat} {P : List (List (List Int))} {M : List (List Int)} (h : Sets n M) (F : Fits P) (k : Nat) (hk : k ≤ P.length) : Sets n (stK E P M k) := by
  induction k with
  | zero => exact h
  | succ k ih => rw [stK_next (by omega)]; exact stI_sets (ih (by omega)) (F.syms _ (List.getElem_mem _)) _ (Nat.le_refl _)
theorem stT_sets (E : List Int) {P : List (List (List Int))} (F : Fits P) : ∀ t, Sets P.length (stT E P t)
  | 0 => ⟨by simp [stT], fun m hm => by rw [(List.mem_replicate.1 hm).2]; exact SetB.nil _⟩
  | t + 1 => stK_sets (stT_sets E F t) F _ (Nat.le_refl _)
theorem stS_at {k n : Nat} {x : Int} {M : List (List Int)} (hk : k < M.length) (hx : x - 100 = (n : Int)) (hn : n < M.length) : stS k x M = M.set k (joinL (addL M[k] (n : Int)) M[n]) := by
  have e1 : M.getD k [] = M[k] := by simp [List.getD, hk]
  have e2 : M.getD (x - 100).toNat [] = M[n] := by rw [hx]; simp [List.getD, hn]
  rw [stS, e1, e2, hx]
def startsL (P : List (List (List Int))) : List (List Int) := stT (emptiesL P) P (P.length + 1)
end Go.Proofs.YtdniejpblhbjkabDoor
namespace Go.Proofs.YtdniejpblhbjkabDoor
open Go.RowKit

/-- The slice value v, made by the call (in a block from base on, elements of type e), holds the integers xs. -/
def OwnInts (w : World) (base : Nat) (e : TypeId) (v : Value) (xs : List Int) : Prop := w.ownsRow base e 1 v xs.length (xs.map (Value.int .i64))

theorem OwnInts.nil (w : World) (base : Nat) (e : TypeId) : OwnInts w base e (.slice none 0 0) [] := World.ownsRow_nil w base e 1

theorem OwnInts.empty {w : World} {base : Nat} {e : TypeId} (h : base ≤ w.heap.size) : OwnInts (w.alloc (.cells #[] e)) base e (.slice (some ⟨w.heap.size, 0, none⟩) 0 0) [] :=
  World.ownsRow_made w #[] 0 h (by simp [maxLen]) (by simp)

theorem OwnInts.shape {w : World} {base : Nat} {e : TypeId} {v : Value} {xs : List Int} (h : OwnInts w base e v xs) :
    ∃ a cap, v = .slice a xs.length cap ∧ Reads w a xs ∧ (xs ≠ [] → ∃ g, a = some ⟨g, 0, none⟩) := by
  rcases h.2 with ⟨rfl, hn⟩ | ⟨g, cap, cur, rfl, hb, hg, hnc, hcm, hcs, htake⟩
  · have : xs = [] := List.eq_nil_of_length_eq_zero hn
    subst this
    exact ⟨none, 0, rfl, .inl rfl, fun h => absurd rfl h⟩
  · refine ⟨_, _, rfl, .inr ⟨g, 0, rfl, (Array.getElem?_eq_some_iff.1 hg).1, fun i hi => ?_⟩, fun _ => ⟨g, rfl⟩⟩
    have := World.ownsRow.cellAt (g := g) (cap := cap) h i (by simpa using hi)
    rw [Nat.zero_add, this]
    simp [hi]

theorem OwnInts.parts {w : World} {base : Nat} {e : TypeId} {v : Value} {xs : List Int} (h : OwnInts w base e v xs) :
    (v = .slice none 0 0 ∧ xs = []) ∨ ∃ g cap, v = .slice (some ⟨g, 0, none⟩) xs.length cap ∧ xs.length ≤ cap ∧ cap ≤ maxLen ∧ g < w.heap.size ∧ ∀ i, i < xs.length → w.cell? ⟨g, i, none⟩ = some (.int .i64 (xs.getD i 0)) := by
  rcases h.2 with ⟨rfl, hn⟩ | ⟨g, cap, cur, rfl, hb, hg, hnc, hcm, hcs, htake⟩
  · exact .inl ⟨rfl, List.eq_nil_of_length_eq_zero hn⟩
  · refine .inr ⟨g, cap, rfl, hnc, hcm, (Array.getElem?_eq_some_iff.1 hg).1, fun i hi => ?_⟩
    rw [World.ownsRow.cellAt (g := g) (cap := cap) h i (by simpa using hi)]
    simp [hi]

/-- The first numbers of a row. -/
theorem Reads.take {w : World} {a : Option Addr} {zs : List Int} (h : Reads w a zs) (k : Nat) : Reads w a (zs.take k) := by
  rcases h with rfl | ⟨b, off, rfl, hb, hc⟩
  · exact .inl (by simp)
  · refine .inr ⟨b, off, rfl, hb, fun i hi => ?_⟩
    simp only [List.length_take] at hi
    rw [hc i (by omega), getD_take (by omega)]

/-- The numbers of a row from k on, by whatever address, where there is none. -/
theorem Reads.drop {w : World} {g : Nat} {zs : List Int} (hb : g < w.heap.size) (hc : ∀ i, i < zs.length → w.cell? ⟨g, i, none⟩ = some (.int .i64 (zs.getD i 0))) {ad : Option Addr} {k : Nat}
    (h : k < zs.length → ad = some ⟨g, k, none⟩) : Reads w ad (zs.drop k) := by
  by_cases hk : k < zs.length
  · rw [h hk]
    refine .inr ⟨g, k, rfl, hb, fun i hi => ?_⟩
    simp only [List.length_drop] at hi
    rw [hc (k + i) (by omega)]
    simp [List.getD]
  · exact .inl (List.drop_eq_nil_of_le (by omega))

theorem Reads.new (w : World) (x : Int) (e : TypeId) : Reads (w.alloc (.cells #[.int .i64 x] e)) (some ⟨w.heap.size, 0, none⟩) [x] := by
  refine .inr ⟨w.heap.size, 0, rfl, by simp, fun i hi => ?_⟩
  have : i = 0 := by simpa using hi
  subst this
  simp

theorem OwnInts.reads {w : World} {base n cap : Nat} {a : Option Addr} {e : TypeId} {xs : List Int} (h : OwnInts w base e (.slice a n cap) xs) : Reads w a xs := by
  obtain ⟨a', c', he, hr, _⟩ := h.shape
  cases he
  exact hr

theorem OwnInts.lit3 {w : World} {base : Nat} {e : TypeId} (x y z : Int) (h : base ≤ w.heap.size) : OwnInts (w.alloc (.cells #[.int .i64 x, .int .i64 y, .int .i64 z] e)) base e (.slice (some ⟨w.heap.size, 0, none⟩) 3 3) [x, y, z] :=
  World.ownsRow_lit w #[.int .i64 x, .int .i64 y, .int .i64 z] 3 h (by simp [maxLen]) rfl

theorem OwnInts.kept {w w' : World} {base : Nat} {e : TypeId} {v : Value} {xs : List Int} {row : Option Nat} (h : OwnInts w base e v xs) (hg : w.grownBy w' row) (hne : v.ownBlock = none ∨ v.ownBlock ≠ row) : OwnInts w' base e v xs :=
  World.ownsRow.kept h hg hne

theorem grownBy_of_below {w w' : World} (hb : Below w.heap.size w w') (row : Option Nat) : w.grownBy w' row := ⟨hb.os, hb.tape, hb.output, hb.size, fun k hk _ => hb.block k hk⟩

theorem OwnInts.below {w w' : World} {base : Nat} {e : TypeId} {v : Value} {xs : List Int} (h : OwnInts w base e v xs) (hb : Below w.heap.size w w') : OwnInts w' base e v xs :=
  h.kept (grownBy_of_below hb none) (by cases v.ownBlock <;> simp)

theorem OwnInts.alloc {w : World} {base : Nat} {e : TypeId} {v : Value} {xs : List Int} (h : OwnInts w base e v xs) (o : Obj) : OwnInts (w.alloc o) base e v xs := World.ownsRow.alloc h o

theorem OwnInts.block {w : World} {base : Nat} {e : TypeId} {v : Value} {xs : List Int} (h : OwnInts w base e v xs) : ∀ k, v.ownBlock = some k → base ≤ k ∧ k < w.heap.size := World.ownsRow.lt h

theorem OwnInts.base {w : World} {b b' : Nat} {e : TypeId} {v : Value} {xs : List Int} (h : OwnInts w b e v xs) (hb : b' ≤ b) : OwnInts w b' e v xs := by
  refine ⟨h.1, ?_⟩
  rcases h.2 with h2 | ⟨g, cap, cur, rfl, h3, r⟩
  · exact .inl h2
  · exact .inr ⟨g, cap, cur, rfl, Nat.le_trans hb h3, r⟩

theorem OwnInts.past {w w1 w2 : World} {base : Nat} {e : TypeId} {v : Value} {xs : List Int} {row : Option Nat} (h : OwnInts w base e v xs) (hb : Below w.heap.size w w1) (hg : w1.grownBy w2 row) (hr : ∀ k, row = some k → w.heap.size ≤ k) : OwnInts w2 base e v xs :=
  h.below (hb.grown hg hb.size hr)

/-- What was made earlier lies elsewhere than what was made later. -/
theorem OwnInts.apart {w1 w2 : World} {b1 b2 : Nat} {e : TypeId} {v1 v2 : Value} {xs ys : List Int} (h1 : OwnInts w1 b1 e v1 xs) (h2 : OwnInts w2 b2 e v2 ys) (hb : w1.heap.size ≤ b2) :
    (v1.ownBlock = none ∨ v1.ownBlock ≠ v2.ownBlock) ∧ (v2.ownBlock = none ∨ v2.ownBlock ≠ v1.ownBlock) := by
  have g1 := h1.block
  have g2 := h2.block
  cases e1 : v1.ownBlock with
  | none => cases e2 : v2.ownBlock <;> simp
  | some k1 => cases e2 : v2.ownBlock with
    | none => simp
    | some k2 =>
      have a1 := g1 k1 e1
      have a2 := g2 k2 e2
      have : k1 ≠ k2 := by omega
      have : k2 ≠ k1 := by omega
      exact ⟨.inr (by simpa using ‹k1 ≠ k2›), .inr (by simpa using ‹k2 ≠ k1›)⟩

theorem OwnInts.of_row {w : World} {b base : Nat} {e : TypeId} {zs : List Int} (h : w.rowIs b e zs.length (fun i => .int .i64 (zs.getD i 0))) (hb : base ≤ b) (hm : zs.length ≤ maxLen) :
    OwnInts w base e (.slice (some ⟨b, 0, none⟩) zs.length zs.length) zs := by
  obtain ⟨c, hc, hn, hf⟩ := h
  refine ⟨by simp, .inr ⟨b, zs.length, c, rfl, hb, hc, Nat.le_refl _, hm, by simpa using hn, ?_⟩⟩
  apply List.ext_getElem?
  intro i
  rw [Nat.mul_one, List.getElem?_take]
  by_cases hi : i < zs.length
  · rw [if_pos hi]
    have := hf i hi
    simp only [Array.getElem?_toList, this]
    simp [hi]
  · rw [if_neg hi, List.getElem?_eq_none (by rw [List.length_map]; omega)]

section
variable {P : Program} (w : World)

theorem run_append_none (t ty e : TypeId) (i : TypeInfo) (ht : P.underlying t = some (.slice e)) (hi : P.info? e = some i) (base : Nat) (v : Value) (n : Nat) (xs : List Value) (c : Nat) (hown : w.ownsRow base e 1 v n xs) :
    (Builtin.append_ #[t, t] ty #[v, .slice none 0 c]).run P w = .ok v w := by
  rcases hown.2 with ⟨rfl, rfl⟩ | ⟨g, cap, cur, rfl, _, _, hnc, _⟩
  · simp [Builtin.append_, run_underlying ht, sizeOf, typeInfo, hi, Builtin.lenOf, Builtin.firstCells]
  · simp [Builtin.append_, run_underlying ht, sizeOf, typeInfo, hi, Builtin.lenOf, Builtin.firstCells, hnc, storeCells]

theorem run_append_ints (base : Nat) (t ty e : TypeId) (ht : P.underlying t = some (.slice e)) (hinfo : (P.info? e).map (fun i => (i.zero, i.size, i.bytes)) = some (some (.int .i64 0), 1, 8))
    (v : Value) (xs : List Int) (hown : OwnInts w base e v xs) (ad : Option Addr) (c : Nat) (news : List Int) (hnews : Reads w ad news) (hlen : xs.length + news.length ≤ 1099511627776) (hbase : base ≤ w.heap.size) :
    ∃ v' w', (Builtin.append_ #[t, t] ty #[v, .slice ad news.length c]).run P w = .ok v' w' ∧ OwnInts w' base e v' (xs ++ news) ∧ w.grownBy w' v.ownBlock := by
  obtain ⟨i, hi, hz0, hz1, hz2⟩ := info_parts hinfo
  rcases hnews with rfl | ⟨b, off, rfl, hb, hc⟩
  · cases ad with
    | none => exact ⟨v, w, run_append_none w t ty e i ht hi base v _ _ c hown, by simpa using hown, World.grownBy.refl _ _⟩
    | some ad =>
      obtain ⟨v', w', h1, h2, h3, _⟩ := run_append_own (P := P) w base t ty e i (.int .i64 0) 1 8 ht hi hz0 hz1 hz2 rfl (by decide) v _ _ hown ad 0 c [] rfl (by simp) (by simp) (by unfold maxLen; simp at hlen; omega) (by simp at hlen; omega) hbase
      exact ⟨v', w', h1, by simpa [OwnInts] using h2, h3⟩
  · obtain ⟨v', w', h1, h2, h3, _⟩ := run_append_own (P := P) w base t ty e i (.int .i64 0) 1 8 ht hi hz0 hz1 hz2 rfl (by decide) v _ _ hown ⟨b, off, none⟩ news.length c (news.map (Value.int .i64)) (by simp)
      (by
        intro j u hu
        have hj : j < news.length := by have := (List.getElem?_eq_some_iff.1 hu).1; simpa using this
        rw [Addr.add_lit, hc j hj]
        simp [hj] at hu
        simp [hj, hu])
      (ints_oneCell _ _) (by unfold maxLen; omega) (by omega) hbase
    exact ⟨v', w', h1, by simpa [OwnInts] using h2, h3⟩

theorem wpList_append_ints {ops : Array Oper} {rest : List Oper} {o : Oper} {a : Act} {Q : Exit → Act → World → Prop} (hgd : o.guard = none) (s x : Operand) (t : TypeId)
    (ho : o.op = .call { callee := .builtin .append, args := #[s, x], argTypes := #[t, t] })
    (base : Nat) (e : TypeId) (ht : P.underlying t = some (.slice e)) (hinfo : (P.info? e).map (fun i => (i.zero, i.size, i.bytes)) = some (some (.int .i64 0), 1, 8))
    (v : Value) (xs : List Int) (hs : a.eval s = v) (hown : OwnInts w base e v xs) (ad : Option Addr) (n c : Nat) (news : List Int) (hx : a.eval x = .slice ad n c) (hn : n = news.length) (hnews : Reads w ad news)
    (hlen : xs.length + news.length ≤ 1099511627776) (hbase : base ≤ w.heap.size)
    (h : ∀ v' w', OwnInts w' base e v' (xs ++ news) → w.grownBy w' v.ownBlock → wpList P ops Q rest (a.put o.dst v') w') : wpList P ops Q (o :: rest) a w := by
  refine wpList_plain hgd fun K hK => ?_
  subst hn
  obtain ⟨v', w', hr, h2, h3⟩ := run_append_ints (P := P) w base t o.type e ht hinfo v xs hown ad c news hnews hlen hbase
  unfold Oper.wp execOp
  simp only [ho, resolve, invoke, builtin, Sem.run_bind, Sem.run_pure, Result.andThen_ok, List.map_toArray, List.map_cons, List.map_nil, hs, hx, hr]
  exact hK _ _ (h v' w' h2 h3)

theorem wpList_make_ints {ops : Array Oper} {rest : List Oper} {o : Oper} {a : Act} {Q : Exit → Act → World → Prop} (hgd : o.guard = none) (l c : Operand) (t : TypeId) (ho : o.op = Op.makeSlice t l c)
    (base : Nat) (e : TypeId) (ht : P.underlying t = some (.slice e)) (hinfo : (P.info? e).map (fun i => (i.zero, i.size, i.bytes)) = some (some (.int .i64 0), 1, 8))
    (C : Int) (n : Nat) (hl : a.eval l = .int .i64 0) (hc : a.eval c = .int .i64 C) (hC : C = n) (hn : n ≤ 1099511627776) (hbase : base ≤ w.heap.size)
    (h : ∀ v' w', OwnInts w' base e v' [] → w.grownBy w' none → wpList P ops Q rest (a.put o.dst v') w') : wpList P ops Q (o :: rest) a w := by
  refine wpList_plain hgd fun K hK => ?_
  subst hC
  obtain ⟨i, hi, hz0, hz1, hz2⟩ := info_parts hinfo
  obtain ⟨w', hr, h2, h3⟩ := run_make_own (P := P) w base t e i (.int .i64 0) 1 ht hi hz0 hz1 .i64 .i64 n (by rw [hz2]; omega) (by unfold maxLen; omega) hbase
  unfold Oper.wp
  simp only [execOp, ho, hl, hc, hr, Sem.run_bind, Sem.run_pure, Result.andThen_ok]
  exact hK _ _ (h _ w' h2 h3)
end

/-- The n integers from k on. -/
def marks (k : Int) : Nat → List Int
  | 0 => []
  | n + 1 => marks k n ++ [k + n]
theorem marks_length (k : Int) (n : Nat) : (marks k n).length = n := by
  induction n with
  | zero => rfl
  | succ n ih => simp [marks, ih]
theorem marks_get (k : Int) (n i : Nat) (h : i < n) : (marks k n)[i]? = some (k + i) := by
  induction n with
  | zero => omega
  | succ n ih =>
    rw [marks]
    by_cases e : i < n
    · rw [List.getElem?_append_left (by rw [marks_length]; exact e)]; exact ih e
    · have : i = n := by omega
      subst this
      rw [List.getElem?_append_right (by rw [marks_length]; exact Nat.le_refl _), marks_length]; simp

theorem set_step {k : Int} {xs : List Int} {j : Nat} (h : j < xs.length) : (marks k j ++ xs.drop j).set j (k + j) = marks k (j + 1) ++ xs.drop (j + 1) := by
  rw [List.set_append_right _ _ (by rw [marks_length]; exact Nat.le_refl _), marks_length, Nat.sub_self, List.drop_eq_getElem_cons h, List.set_cons_zero, marks]
  simp

theorem OwnInts.store {w : World} {base g cap : Nat} {e : TypeId} {xs : List Int} {n : Nat} (hn : n = xs.length) (h : OwnInts w base e (.slice (some ⟨g, 0, none⟩) n cap) xs) (j : Nat) (x : Int) :
    OwnInts (w.setCell ⟨g, j, none⟩ (.int .i64 x)) base e (.slice (some ⟨g, 0, none⟩) n cap) (xs.set j x) ∧ w.grownBy (w.setCell ⟨g, j, none⟩ (.int .i64 x)) (some g) := by
  subst hn
  have := World.ownsRow.stored (g := g) (cap := cap) h j (.int .i64 x)
  refine ⟨?_, this.2⟩
  unfold OwnInts
  rw [List.length_set]
  simpa [List.map_set] using this.1

theorem OwnInts.at {w : World} {base g cap : Nat} {e : TypeId} {xs : List Int} {n : Nat} (hn : n = xs.length) (h : OwnInts w base e (.slice (some ⟨g, 0, none⟩) n cap) xs) (j : Nat) (hj : j < n) :
    (∃ u, w.cell? ⟨g, j, none⟩ = some u) ∧ w.frozen? ⟨g, j, none⟩ = false := by
  subst hn
  refine ⟨⟨.int .i64 xs[j], ?_⟩, World.ownsRow.frozenAt (g := g) (cap := cap) h j⟩
  rw [World.ownsRow.cellAt (g := g) (cap := cap) h j (by simpa using hj)]
  simp [hj]

theorem step_length {k : Int} {xs : List Int} {j : Nat} (h : j ≤ xs.length) : xs.length = (marks k j ++ xs.drop j).length := by
  rw [List.length_append, marks_length, List.length_drop]; omega

theorem grownBy_trans {w1 w2 w3 : World} {row : Option Nat} (h : w1.grownBy w2 row) (g : w2.grownBy w3 row) : w1.grownBy w3 row :=
  ⟨g.os.trans h.os, g.tape.trans h.tape, g.output.trans h.output, Nat.le_trans h.size g.size, fun k hk hne => (g.block k (Nat.lt_of_lt_of_le hk h.size) hne).trans (h.block k hk hne)⟩
end Go.Proofs.YtdniejpblhbjkabDoor
namespace Go.Proofs.YtdniejpblhbjkabDoor
open Go.RowKit

/-- How an element lies in cells. -/
structure Enc (α : Type) where
  size : Nat
  cells : α → List Value
  len : ∀ x, (cells x).length = size
  one : ∀ x, ∀ u ∈ cells x, u.oneCell' = true
  pos : 0 < size

section
variable {α : Type} (E : Enc α)

def Enc.row (xs : List α) : List Value := xs.flatMap E.cells

theorem Enc.row_length (xs : List α) : (E.row xs).length = xs.length * E.size := by
  induction xs with
  | nil => simp [Enc.row]
  | cons x xs ih =>
    have : E.row (x :: xs) = E.cells x ++ E.row xs := by simp [Enc.row]
    rw [this, List.length_append, ih, E.len, List.length_cons, Nat.add_mul]; omega

theorem Enc.row_append (xs ys : List α) : E.row (xs ++ ys) = E.row xs ++ E.row ys := by simp [Enc.row]

theorem Enc.row_one (x : α) : E.row [x] = E.cells x := by simp [Enc.row]

theorem Enc.row_split {xs : List α} {i : Nat} (h : i < xs.length) : E.row xs = E.row (xs.take i) ++ (E.cells xs[i] ++ E.row (xs.drop (i + 1))) := by
  conv => lhs; rw [← List.take_append_drop i xs, List.drop_eq_getElem_cons h]
  rw [Enc.row_append]; rfl

theorem Enc.row_get {xs : List α} {i : Nat} (h : i < xs.length) {j : Nat} (hj : j < E.size) : (E.row xs)[i * E.size + j]? = (E.cells xs[i])[j]? := by
  have hl : (E.row (xs.take i)).length = i * E.size := by rw [E.row_length, List.length_take, Nat.min_eq_left (by omega)]
  rw [E.row_split h, List.getElem?_append_right (by omega), hl, Nat.add_sub_cancel_left, List.getElem?_append_left (by rw [E.len]; exact hj)]

theorem Enc.row_set {xs : List α} {i : Nat} (h : i < xs.length) {j : Nat} (hj : j < E.size) (u : Value) (x : α) (hx : E.cells x = (E.cells xs[i]).set j u) : (E.row xs).set (i * E.size + j) u = E.row (xs.set i x) := by
  have hl : (E.row (xs.take i)).length = i * E.size := by rw [E.row_length, List.length_take, Nat.min_eq_left (by omega)]
  have hs : (xs.set i x) = xs.take i ++ x :: xs.drop (i + 1) := by rw [List.set_eq_take_append_cons_drop, if_pos h]
  rw [E.row_split h, List.set_append_right _ _ (by omega), hl, Nat.add_sub_cancel_left, List.set_append_left _ _ (by rw [E.len]; exact hj), ← hx, hs, Enc.row_append]
  simp [Enc.row]

theorem Enc.row_oneCell (xs : List α) : ∀ u ∈ E.row xs, u.oneCell' = true := by
  intro u hu
  obtain ⟨x, _, hx⟩ := List.mem_flatMap.1 hu
  exact E.one x u hx

/-- The address a leads to the elements zs, in cells that are there. -/
def ReadsT (w : World) (a : Option Addr) (zs : List α) : Prop :=
  zs = [] ∨ ∃ b off, a = some ⟨b, off, none⟩ ∧ b < w.heap.size ∧ ∀ i, i < zs.length * E.size → w.cell? ⟨b, off + i, none⟩ = (E.row zs)[i]?

variable {E}
theorem ReadsT.below {w w' : World} {a : Option Addr} {zs : List α} (h : ReadsT E w a zs) (hb : Below w.heap.size w w') : ReadsT E w' a zs := by
  rcases h with h | ⟨b, off, rfl, hlt, hc⟩
  · exact .inl h
  · exact .inr ⟨b, off, rfl, Nat.lt_of_lt_of_le hlt hb.size, fun i hi => (hb.cell (p := ⟨b, off + i, none⟩) hlt).trans (hc i hi)⟩

theorem ReadsT.at {w : World} {a : Option Addr} {zs : List α} (h : ReadsT E w a zs) {i : Nat} (hi : i < zs.length) :
    ∃ b off, a = some ⟨b, off, none⟩ ∧ b < w.heap.size ∧ ∀ j, j < E.size → w.cell? ⟨b, off + (i * E.size + j), none⟩ = (E.cells zs[i])[j]? := by
  rcases h with h | ⟨b, off, rfl, hlt, hc⟩
  · subst h; simp at hi
  · refine ⟨b, off, rfl, hlt, fun j hj => ?_⟩
    have h1 : (i + 1) * E.size ≤ zs.length * E.size := Nat.mul_le_mul_right _ hi
    rw [Nat.add_mul] at h1
    rw [hc _ (by omega), E.row_get hi hj]

theorem ReadsT.where {w : World} {a : Option Addr} {zs : List α} (h : ReadsT E w a zs) (hne : zs ≠ []) :
    ∃ b off, a = some ⟨b, off, none⟩ ∧ b < w.heap.size ∧ ∀ i (hi : i < zs.length) j, j < E.size → w.cell? ⟨b, off + (i * E.size + j), none⟩ = (E.cells zs[i])[j]? := by
  rcases h with h | ⟨b, off, rfl, hlt, hc⟩
  · exact absurd h hne
  · refine ⟨b, off, rfl, hlt, fun i hi j hj => ?_⟩
    have h1 : (i + 1) * E.size ≤ zs.length * E.size := Nat.mul_le_mul_right _ hi
    rw [Nat.add_mul] at h1
    rw [hc _ (by omega), E.row_get hi hj]

theorem ReadsT.new (w : World) (x : α) (e : TypeId) (cs : Array Value) (hcs : cs.toList = E.cells x) : ReadsT E (w.alloc (.cells cs e)) (some ⟨w.heap.size, 0, none⟩) [x] := by
  refine .inr ⟨w.heap.size, 0, rfl, by simp, fun i hi => ?_⟩
  rw [E.row_one, Nat.zero_add, ← hcs, cell_of_row _ _ i cs e (0, 0) (heap_alloc_new w _)]
  simp

/-- The slice value v, made by the call (in a block from base on, elements of type e), holds the elements xs. -/
def OwnT (E : Enc α) (w : World) (base : Nat) (e : TypeId) (v : Value) (xs : List α) : Prop := w.ownsRow base e E.size v xs.length (E.row xs)

theorem OwnT.nil (w : World) (base : Nat) (e : TypeId) : OwnT E w base e (.slice none 0 0) [] := World.ownsRow_nil w base e E.size

theorem OwnT.empty {w : World} {base : Nat} {e : TypeId} (h : base ≤ w.heap.size) : OwnT E (w.alloc (.cells #[] e)) base e (.slice (some ⟨w.heap.size, 0, none⟩) 0 0) [] :=
  World.ownsRow_made w #[] 0 h (by simp [maxLen]) (by simp)

theorem OwnT.shape {w : World} {base : Nat} {e : TypeId} {v : Value} {xs : List α} (h : OwnT E w base e v xs) :
    ∃ a cap, v = .slice a xs.length cap ∧ ReadsT E w a xs ∧ (xs ≠ [] → ∃ g, a = some ⟨g, 0, none⟩) ∧ xs.length ≤ cap ∧ cap ≤ maxLen := by
  rcases h.2 with ⟨rfl, hn⟩ | ⟨g, cap, cur, rfl, hb, hg, hnc, hcm, hcs, htake⟩
  · have : xs = [] := List.eq_nil_of_length_eq_zero hn
    subst this
    exact ⟨none, 0, rfl, .inl rfl, fun h => absurd rfl h, Nat.le_refl _, by simp [maxLen]⟩
  · refine ⟨_, _, rfl, .inr ⟨g, 0, rfl, (Array.getElem?_eq_some_iff.1 hg).1, fun i hi => ?_⟩, fun _ => ⟨g, rfl⟩, hnc, hcm⟩
    rw [Nat.zero_add]
    exact World.ownsRow.cellAt (g := g) (cap := cap) h i hi

theorem OwnT.reads {w : World} {base n cap : Nat} {a : Option Addr} {e : TypeId} {xs : List α} (h : OwnT E w base e (.slice a n cap) xs) : ReadsT E w a xs ∧ n = xs.length := by
  obtain ⟨a', c', he, hr, _⟩ := h.shape
  cases he
  exact ⟨hr, rfl⟩

theorem OwnT.kept {w w' : World} {base : Nat} {e : TypeId} {v : Value} {xs : List α} {row : Option Nat} (h : OwnT E w base e v xs) (hg : w.grownBy w' row) (hne : v.ownBlock = none ∨ v.ownBlock ≠ row) : OwnT E w' base e v xs :=
  World.ownsRow.kept h hg hne

theorem OwnT.below {w w' : World} {base : Nat} {e : TypeId} {v : Value} {xs : List α} (h : OwnT E w base e v xs) (hb : Below w.heap.size w w') : OwnT E w' base e v xs :=
  h.kept (grownBy_of_below hb none) (by cases v.ownBlock <;> simp)

theorem OwnT.alloc {w : World} {base : Nat} {e : TypeId} {v : Value} {xs : List α} (h : OwnT E w base e v xs) (o : Obj) : OwnT E (w.alloc o) base e v xs := World.ownsRow.alloc h o

theorem OwnT.block {w : World} {base : Nat} {e : TypeId} {v : Value} {xs : List α} (h : OwnT E w base e v xs) : ∀ k, v.ownBlock = some k → base ≤ k ∧ k < w.heap.size := World.ownsRow.lt h

theorem OwnT.base {w : World} {b b' : Nat} {e : TypeId} {v : Value} {xs : List α} (h : OwnT E w b e v xs) (hb : b' ≤ b) : OwnT E w b' e v xs := by
  refine ⟨h.1, ?_⟩
  rcases h.2 with h2 | ⟨g, cap, cur, rfl, h3, r⟩
  · exact .inl h2
  · exact .inr ⟨g, cap, cur, rfl, Nat.le_trans hb h3, r⟩

theorem OwnT.past {w w1 w2 : World} {base : Nat} {e : TypeId} {v : Value} {xs : List α} {row : Option Nat} (h : OwnT E w base e v xs) (hb : Below w.heap.size w w1) (hg : w1.grownBy w2 row) (hr : ∀ k, row = some k → w.heap.size ≤ k) : OwnT E w2 base e v xs :=
  h.below (hb.grown hg hb.size hr)

theorem OwnT.apart {β : Type} {F : Enc β} {w1 w2 : World} {b1 b2 : Nat} {e f : TypeId} {v1 v2 : Value} {xs : List α} {ys : List β} (h1 : OwnT E w1 b1 e v1 xs) (h2 : OwnT F w2 b2 f v2 ys) (hb : w1.heap.size ≤ b2) :
    (v1.ownBlock = none ∨ v1.ownBlock ≠ v2.ownBlock) ∧ (v2.ownBlock = none ∨ v2.ownBlock ≠ v1.ownBlock) := by
  have g1 := h1.block
  have g2 := h2.block
  cases e1 : v1.ownBlock with
  | none => cases e2 : v2.ownBlock <;> simp
  | some k1 => cases e2 : v2.ownBlock with
    | none => simp
    | some k2 =>
      have a1 := g1 k1 e1
      have a2 := g2 k2 e2
      have : k1 ≠ k2 := by omega
      have : k2 ≠ k1 := by omega
      exact ⟨.inr (by simpa using ‹k1 ≠ k2›), .inr (by simpa using ‹k2 ≠ k1›)⟩

theorem OwnT.at {w : World} {base g cap : Nat} {e : TypeId} {xs : List α} {n : Nat} (hn : n = xs.length) (h : OwnT E w base e (.slice (some ⟨g, 0, none⟩) n cap) xs) {i : Nat} (hi : i < xs.length) (j : Nat) (hj : j < E.size) :
    w.cell? ⟨g, i * E.size + j, none⟩ = (E.cells xs[i])[j]? ∧ w.frozen? ⟨g, i * E.size + j, none⟩ = false := by
  subst hn
  have h1 : (i + 1) * E.size ≤ xs.length * E.size := Nat.mul_le_mul_right _ hi
  rw [Nat.add_mul] at h1
  refine ⟨?_, World.ownsRow.frozenAt (g := g) (cap := cap) h _⟩
  rw [World.ownsRow.cellAt (g := g) (cap := cap) h _ (by omega), E.row_get hi hj]

theorem OwnT.store {w : World} {base g cap : Nat} {e : TypeId} {xs : List α} {n : Nat} (hn : n = xs.length) (h : OwnT E w base e (.slice (some ⟨g, 0, none⟩) n cap) xs) {i : Nat} (hi : i < xs.length) (j : Nat) (hj : j < E.size) (u : Value) (x : α)
    (hx : E.cells x = (E.cells xs[i]).set j u) :
    OwnT E (w.setCell ⟨g, i * E.size + j, none⟩ u) base e (.slice (some ⟨g, 0, none⟩) n cap) (xs.set i x) ∧ w.grownBy (w.setCell ⟨g, i * E.size + j, none⟩ u) (some g) := by
  subst hn
  have := World.ownsRow.stored (g := g) (cap := cap) h (i * E.size + j) u
  refine ⟨?_, this.2⟩
  unfold OwnT
  rw [List.length_set, ← E.row_set hi hj u x hx]
  exact this.1
end

section
variable {P : Program} (w : World) {α : Type} {E : Enc α}

theorem run_append_noneT (t ty e : TypeId) (i : TypeInfo) (ht : P.underlying t = some (.slice e)) (hi : P.info? e = some i) (base : Nat) (v : Value) (n : Nat) (xs : List Value) (c : Nat) (size : Nat) (hown : w.ownsRow base e size v n xs) :
    (Builtin.append_ #[t, t] ty #[v, .slice none 0 c]).run P w = .ok v w := by
  rcases hown.2 with ⟨rfl, rfl⟩ | ⟨g, cap, cur, rfl, _, _, hnc, _⟩
  · simp [Builtin.append_, run_underlying ht, sizeOf, typeInfo, hi, Builtin.lenOf, Builtin.firstCells]
  · simp [Builtin.append_, run_underlying ht, sizeOf, typeInfo, hi, Builtin.lenOf, Builtin.firstCells, hnc, storeCells]

theorem run_appendT (base : Nat) (t ty e : TypeId) (z : Value) (bytes : Nat) (ht : P.underlying t = some (.slice e)) (hinfo : (P.info? e).map (fun i => (i.zero, i.size, i.bytes)) = some (some z, E.size, bytes)) (hz : z.cells.size = E.size) (hby : bytes ≤ 128)
    (v : Value) (xs : List α) (hown : OwnT E w base e v xs) (ad : Option Addr) (c : Nat) (news : List α) (hnews : ReadsT E w ad news) (hlen : xs.length + news.length ≤ 1099511627776) (hbase : base ≤ w.heap.size) :
    ∃ v' w', (Builtin.append_ #[t, t] ty #[v, .slice ad news.length c]).run P w = .ok v' w' ∧ OwnT E w' base e v' (xs ++ news) ∧ w.grownBy w' v.ownBlock := by
  obtain ⟨i, hi, hz0, hz1, hz2⟩ := info_parts hinfo
  have hb : (xs.length + news.length) * bytes ≤ 140737488355328 := Nat.le_trans (Nat.mul_le_mul hlen hby) (by decide)
  rcases hnews with rfl | ⟨b, off, rfl, hb0, hc⟩
  · cases ad with
    | none => exact ⟨v, w, run_append_noneT w t ty e i ht hi base v _ _ c _ hown, by simpa using hown, World.grownBy.refl _ _⟩
    | some ad =>
      obtain ⟨v', w', h1, h2, h3, _⟩ := run_append_own (P := P) w base t ty e i z E.size bytes ht hi hz0 hz1 hz2 hz E.pos v _ _ hown ad 0 c [] (by simp) (by simp) (by simp) (by unfold maxLen; simp at hlen; omega) (by simpa using hb) hbase
      exact ⟨v', w', h1, by simpa [OwnT] using h2, h3⟩
  · obtain ⟨v', w', h1, h2, h3, _⟩ := run_append_own (P := P) w base t ty e i z E.size bytes ht hi hz0 hz1 hz2 hz E.pos v _ _ hown ⟨b, off, none⟩ news.length c (E.row news) (E.row_length _)
      (by
        intro j u hu
        have hj : j < news.length * E.size := by have := (List.getElem?_eq_some_iff.1 hu).1; rwa [E.row_length] at this
        rw [Addr.add_lit, hc j hj, hu])
      (E.row_oneCell _) (by unfold maxLen; omega) hb hbase
    refine ⟨v', w', h1, ?_, h3⟩
    unfold OwnT
    rw [List.length_append, E.row_append]
    exact h2

theorem wpList_appendT {ops : Array Oper} {rest : List Oper} {o : Oper} {a : Act} {Q : Exit → Act → World → Prop} (hgd : o.guard = none) (s x : Operand) (t : TypeId)
    (ho : o.op = .call { callee := .builtin .append, args := #[s, x], argTypes := #[t, t] })
    (base : Nat) (e : TypeId) (z : Value) (bytes : Nat) (ht : P.underlying t = some (.slice e)) (hinfo : (P.info? e).map (fun i => (i.zero, i.size, i.bytes)) = some (some z, E.size, bytes)) (hz : z.cells.size = E.size) (hby : bytes ≤ 128)
    (v : Value) (xs : List α) (hs : a.eval s = v) (hown : OwnT E w base e v xs) (ad : Option Addr) (n c : Nat) (news : List α) (hx : a.eval x = .slice ad n c) (hn : n = news.length) (hnews : ReadsT E w ad news)
    (hlen : xs.length + news.length ≤ 1099511627776) (hbase : base ≤ w.heap.size)
    (h : ∀ v' w', OwnT E w' base e v' (xs ++ news) → w.grownBy w' v.ownBlock → wpList P ops Q rest (a.put o.dst v') w') : wpList P ops Q (o :: rest) a w := by
  refine wpList_plain hgd fun K hK => ?_
  subst hn
  obtain ⟨v', w', hr, h2, h3⟩ := run_appendT (P := P) w base t o.type e z bytes ht hinfo hz hby v xs hown ad c news hnews hlen hbase
  unfold Oper.wp execOp
  simp only [ho, resolve, invoke, builtin, Sem.run_bind, Sem.run_pure, Result.andThen_ok, List.map_toArray, List.map_cons, List.map_nil, hs, hx, hr]
  exact hK _ _ (h v' w' h2 h3)

theorem made_row {α : Type} (E : Enc α) (x : α) (n : Nat) : (madeCells (E.cells x).toArray (n * E.size)).toList = E.row (List.replicate n x) := by
  apply List.ext_getElem?
  intro i
  by_cases hi : i < n * E.size
  · have hp := E.pos
    have hq : i / E.size < n := Nat.div_lt_of_lt_mul (by rw [Nat.mul_comm]; exact hi)
    have hr : i % E.size < E.size := Nat.mod_lt _ hp
    have e : i = i / E.size * E.size + i % E.size := by rw [Nat.mul_comm]; exact (Nat.div_add_mod i E.size).symm
    have h1 : (E.row (List.replicate n x))[i]? = (E.cells x)[i % E.size]? := by
      conv => lhs; rw [e]
      rw [E.row_get (by simpa using hq) hr]; simp
    rw [h1]
    have hr2 : i % E.size < (E.cells x).length := by rw [E.len]; exact hr
    simp only [madeCells, Array.toList_map, Array.toList_range, List.getElem?_map, List.getElem?_range hi, Option.map_some, List.size_toArray, E.len]
    rw [List.getElem?_eq_getElem hr2]
    simp [hr2]
  · rw [List.getElem?_eq_none (by rw [Array.length_toList, size_madeCells]; omega), List.getElem?_eq_none (by rw [E.row_length]; simp; omega)]

theorem make_ownT (t e : TypeId) (z : Value) (bytes : Nat) (x : α) (n : Nat) (ht : P.underlying t = some (.slice e)) (hinfo : (P.info? e).map (fun i => (i.zero, i.size, i.bytes)) = some (some z, E.size, bytes)) (hz : z.cells = (E.cells x).toArray) (hby : bytes ≤ 128) (hn : n ≤ 1099511627776) :
    ∃ W : World, (Instr.makeSlice t (.int .i64 (n : Int)) (.int .i64 (n : Int))).run P w = .ok (.slice (some ⟨w.heap.size, 0, none⟩) n n) W ∧ OwnT E W w.heap.size e (.slice (some ⟨w.heap.size, 0, none⟩) n n) (List.replicate n x) ∧ Below w.heap.size w W := by
  obtain ⟨i, hi, hz0, hz1, hz2⟩ := info_parts hinfo
  have hb : bytes * n ≤ 140737488355328 := Nat.le_trans (Nat.mul_le_mul hby hn) (by decide)
  have hb' : (bytes : Int) * (n : Int) ≤ 281474976710656 := by
    have h : ((bytes * n : Nat) : Int) ≤ 281474976710656 := by omega
    rwa [Int.natCast_mul] at h
  have hr := run_make (P := P) w t e i z ht hi hz0 .i64 .i64 (n : Int) (n : Int) (by omega) (Int.le_refl _) (by rw [hz2]; exact hb') (by omega)
  simp only [Int.toNat_natCast, hz1, hz] at hr
  refine ⟨_, hr, ?_, (Below.refl _ _).alloc (Nat.le_refl _) _⟩
  have hl := World.ownsRow_lit (base := w.heap.size) (e := e) (size := E.size) w (madeCells (E.cells x).toArray (n * E.size)) n (Nat.le_refl _) (by unfold maxLen; omega) (size_madeCells _ _)
  rw [made_row] at hl
  unfold OwnT
  rw [List.length_replicate]
  exact hl
end
end Go.Proofs.YtdniejpblhbjkabDoor
