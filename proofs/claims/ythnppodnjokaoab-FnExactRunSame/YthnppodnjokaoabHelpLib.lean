/-
  How plain data lies in cells, by one word for each type: its cells, what measuring it counts, what of it fits; lists of such data; what make and stores leave of such a list under construction. Plain laws over any program. No statement is proved here.
-/
import Derived.Test.YthnppodnjokaoabOwnL
namespace Go.Proofs.Ythnppodnjokaoab
open Go.RowKit

/-- How a type's values lie in cells. -/
structure Lay (α : Type) where
  cells : α → List Dat
  sz : Nat
  len : ∀ x, (cells x).length = sz
  pos : 0 < sz
  wt : α → Nat
  fit : α → Prop

section
variable {α : Type} (L : Lay α)
/-- A list, read through. -/
def slD (xs : List α) : Dat := .sl xs.length (xs.flatMap L.cells)
def Lay.sumL : List α → Nat
  | [] => 0
  | x :: xs => L.wt x + Lay.sumL xs
theorem Lay.sumL_append (xs ys : List α) : L.sumL (xs ++ ys) = L.sumL xs + L.sumL ys := by
  induction xs with
  | nil => simp [Lay.sumL]
  | cons x xs ih => simp [Lay.sumL, ih]; omega
theorem Lay.sumL_take {xs : List α} {k : Nat} (h : k < xs.length) : L.sumL (xs.take (k + 1)) = L.sumL (xs.take k) + L.wt xs[k] := by
  rw [List.take_succ_eq_append_getElem h, Lay.sumL_append]; simp [Lay.sumL]
theorem Lay.sumL_take_le (xs : List α) (k : Nat) : L.sumL (xs.take k) ≤ L.sumL xs := by
  have h : L.sumL xs = L.sumL (xs.take k) + L.sumL (xs.drop k) := by rw [← Lay.sumL_append, List.take_append_drop]
  omega
theorem Lay.sumL_at {xs : List α} {k : Nat} (h : k < xs.length) : L.wt xs[k] ≤ L.sumL xs := by
  have := L.sumL_take h
  have := L.sumL_take_le xs (k + 1)
  omega
def Lay.list : Lay (List α) := { cells := fun xs => [slD L xs], sz := 1, len := fun _ => rfl, pos := by decide, wt := fun xs => xs.length + L.sumL xs, fit := fun xs => xs.length ≤ maxLen ∧ ∀ x ∈ xs, L.fit x }
theorem Lay.wt_list (xs : List α) : L.list.wt xs = xs.length + L.sumL xs := rfl
theorem Lay.cells_list (xs : List α) : L.list.cells xs = [slD L xs] := rfl
end
def Lay.int : Lay Int := { cells := fun k => [.val (.int .i64 k)], sz := 1, len := fun _ => rfl, pos := by decide, wt := fun _ => 0, fit := fun k => (Lit.int .i64 k).wf = true }
def Lay.str : Lay ByteArray := { cells := fun s => [.val (.string s)], sz := 1, len := fun _ => rfl, pos := by decide, wt := fun s => s.size, fit := fun s => s.size ≤ maxLen }
def Lay.bool : Lay Bool := { cells := fun b => [.val (.bool b)], sz := 1, len := fun _ => rfl, pos := by decide, wt := fun _ => 0, fit := fun _ => True }
theorem Lay.sumL_int (zs : List Int) : Lay.int.sumL zs = 0 := by
  induction zs with
  | nil => rfl
  | cons x xs ih => rw [Lay.sumL, ih]; rfl
theorem Lay.wt_ints (zs : List Int) : (Lay.list Lay.int).wt zs = zs.length := by rw [Lay.wt_list, Lay.sumL_int]; rfl

/-- What the measuring tells. -/
def SzE (wt : Nat) (l r : Int) : Prop := r = -1 ∨ (0 ≤ r ∧ r = l - wt)

section
variable {α : Type} {L : Lay α}
/-- Cell j of element i. -/
theorem RD.cellAt {w : World} {a : Option Addr} {n c : Nat} {xs : List α} (h : RD w (.slice a n c) (slD L xs)) {i : Nat} (hi : i < xs.length) {j : Nat} (hj : j < L.sz) (h'' : j < (L.cells xs[i]).length) :
    ∃ b off, a = some ⟨b, off, none⟩ ∧ b < w.heap.size ∧ ∃ u, w.cell? ⟨b, off + (i * L.sz + j), none⟩ = some u ∧ RD w u ((L.cells xs[i])[j]'h'') := RD.elem L.len h hi hj h''
theorem RD.capL {w : World} {a : Option Addr} {n c : Nat} {xs : List α} (h : RD w (.slice a n c) (slD L xs)) : n ≤ c := RD.cap h
theorem RD.lenL {w : World} {a : Option Addr} {n c : Nat} {xs : List α} (h : RD w (.slice a n c) (slD L xs)) : n = xs.length := RD.len h
theorem OD.shapeL {w : World} {base : Nat} {v : Value} {xs : List α} {S : Nat → Prop} (h : OD w base v (slD L xs) S) : ∃ a c, v = .slice a xs.length c ∧ (xs ≠ [] → ∃ g, a = some ⟨g, 0, none⟩) := OD.elemShape L.len L.pos h
theorem RD.shapeL {w : World} {v : Value} {xs : List α} (h : RD w v (slD L xs)) : ∃ a c, v = .slice a xs.length c := RD.slice (m := xs.length) h
/-- The one cell of element i of a list of lists. -/
theorem RD.listAt {w : World} {a : Option Addr} {n c : Nat} {xss : List (List α)} (h : RD w (.slice a n c) (slD (Lay.list L) xss)) {i : Nat} (hi : i < xss.length) :
    ∃ b off, a = some ⟨b, off, none⟩ ∧ b < w.heap.size ∧ ∃ a' c', w.cell? ⟨b, off + i, none⟩ = some (.slice a' xss[i].length c') ∧ RD w (.slice a' xss[i].length c') (slD L xss[i]) := by
  obtain ⟨b, off, rfl, hb, u, hc, r⟩ := RD.cellAt h hi (j := 0) (by show 0 < 1; decide) (by show 0 < 1; decide)
  have r' : RD w u (slD L xss[i]) := r
  obtain ⟨a', c', rfl⟩ := RD.shapeL r'
  have e : off + (i * (Lay.list L).sz + 0) = off + i := by show off + (i * 1 + 0) = _; omega
  rw [e] at hc
  exact ⟨b, off, rfl, hb, a', c', hc, r'⟩
theorem zero_cells {z : α} {zd : List Dat} (hz : L.cells z = zd) (n : Nat) : (List.replicate n ()).flatMap (fun _ => zd) = (List.replicate n z).flatMap L.cells := by
  induction n with
  | zero => rfl
  | succ n ih => rw [List.replicate_succ, List.replicate_succ, List.flatMap_cons, List.flatMap_cons, ih, hz]
theorem put_step {ws : List α} {x : α} {k : Nat} (h : k < ws.length) : (ws.take k ++ List.replicate (ws.length - k) x).set k ws[k] = ws.take (k + 1) ++ List.replicate (ws.length - (k + 1)) x := by
  have hl : (ws.take k).length = k := by simp; omega
  have e : ws.length - k = (ws.length - (k + 1)) + 1 := by omega
  rw [List.set_append_right _ _ (by omega), hl, Nat.sub_self, e, List.replicate_succ, List.set_cons_zero, List.take_succ_eq_append_getElem h, List.append_assoc]
  rfl
/-- A list stored into a list of lists under construction. -/
theorem OL.putList {w : World} {base g n c : Nat} {e : TypeId} {M : List (List α)} {S : Nat → Prop} (h : OL w base e 1 (.slice (some ⟨g, 0, none⟩) n c) n (M.flatMap (Lay.list L).cells) S) {i : Nat} (hi : i < M.length) (u : Value) (x : List α) (T : Nat → Prop) (hu : OD w base u (slD L x) T) (hdis : ∀ k, T k → ¬ S k) :
    ∃ S', OL (w.setCell ⟨g, i, none⟩ u) base e 1 (.slice (some ⟨g, 0, none⟩) n c) n ((M.set i x).flatMap (Lay.list L).cells) S' ∧ (∀ k, S' k → S k ∨ T k) ∧ w.grownBy (w.setCell ⟨g, i, none⟩ u) (some g) ∧ S g ∧ (∃ z, w.cell? ⟨g, i, none⟩ = some z) ∧ w.frozen? ⟨g, i, none⟩ = false := by
  have hl : i < (M.flatMap (Lay.list L).cells).length := by rw [flat_length (Lay.list L).len]; show i < M.length * 1; omega
  obtain ⟨S', O1, r⟩ := h.put hl u (slD L x) T hu hdis
  have e1 := flat_set (Lay.list L).len hi (show 0 < (Lay.list L).sz from Nat.zero_lt_one) (slD L x) x rfl
  rw [show i * (Lay.list L).sz + 0 = i from (by show i * 1 + 0 = i; omega)] at e1
  rw [e1] at O1
  exact ⟨S', O1, r⟩
end

theorem bcellH {W w1 : World} (hb : Below W.heap.size W w1) : (∀ b o, b < W.heap.size → w1.cell? ⟨b, o, none⟩ = W.cell? ⟨b, o, none⟩) ∧ (∀ b o, b < W.heap.size → w1.frozen? ⟨b, o, none⟩ = W.frozen? ⟨b, o, none⟩) :=
  ⟨fun b o h => hb.cell (p := ⟨b, o, none⟩) h, fun b o h => hb.frozen (p := ⟨b, o, none⟩) h⟩

/-- Values stored into cells one behind the other. -/
def putCells (w : World) (g : Nat) : Nat → List Value → World
  | _, [] => w
  | o, u :: us => putCells (w.setCell ⟨g, o, none⟩ u) g (o + 1) us
/-- Data set one behind the other. -/
def setMany (cs : List Dat) : Nat → List Dat → List Dat
  | _, [] => cs
  | o, d :: ds => setMany (cs.set o d) (o + 1) ds
theorem setMany_length (cs : List Dat) (o : Nat) (ds : List Dat) : (setMany cs o ds).length = cs.length := by
  induction ds generalizing cs o with
  | nil => rfl
  | cons d ds ih => simp [setMany, ih]
theorem setMany_eq (ds : List Dat) : ∀ (pre mid post : List Dat), mid.length = ds.length → setMany (pre ++ (mid ++ post)) pre.length ds = pre ++ (ds ++ post) := by
  induction ds with
  | nil => intro pre mid post h; have : mid = [] := List.eq_nil_of_length_eq_zero (by simpa using h); subst this; rfl
  | cons d ds ih =>
    intro pre mid post h
    match mid, h with
    | m :: mid, h =>
      have e : (pre ++ (m :: mid ++ post)).set pre.length d = (pre ++ [d]) ++ (mid ++ post) := by
        rw [List.set_append_right _ _ (Nat.le_refl _), Nat.sub_self]; simp
      have := ih (pre ++ [d]) mid post (by simpa using h)
      rw [List.length_append] at this
      simp only [setMany, e]
      rw [show pre.length + 1 = pre.length + [d].length from rfl, this]
      simp
theorem setMany_flat {α : Type} {f : α → List Dat} {sz : Nat} (hf : ∀ x, (f x).length = sz) {M : List α} {i : Nat} (hi : i < M.length) (x : α) : setMany (M.flatMap f) (i * sz) (f x) = (M.set i x).flatMap f := by
  have hl : ((M.take i).flatMap f).length = i * sz := by rw [flat_length hf, List.length_take, Nat.min_eq_left (by omega)]
  have hs : (M.set i x) = M.take i ++ x :: M.drop (i + 1) := by rw [List.set_eq_take_append_cons_drop, if_pos hi]
  rw [flat_split hi, ← hl, setMany_eq _ _ _ _ (by rw [hf, hf]), hs, List.flatMap_append]
  rfl

theorem Cells.tail {w : World} {base : Nat} {u : Value} {us : List Value} {d : Dat} {ds : List Dat} {T : Nat → Prop} (h : Cells w base (u :: us) (d :: ds) T) :
    ∃ T0 T1, OD w base u d T0 ∧ Cells w base us ds T1 ∧ (∀ k, T0 k → ¬ T1 k) ∧ ∀ k, T k ↔ T0 k ∨ T1 k := by
  obtain ⟨G, hl, hr, hd, hT⟩ := h
  refine ⟨G 0, fun k => ∃ i, i < us.length ∧ G (i + 1) k, hr 0 (by simp) (by simp), ⟨fun i => G (i + 1), by simpa using hl, fun i hi hi' => hr (i + 1) (by simpa using hi) (by simpa using hi'), fun i j k hi hj hne => hd (i + 1) (j + 1) k (by simpa using hi) (by simpa using hj) (by omega), fun k => Iff.rfl⟩, ?_, ?_⟩
  · rintro k h0 ⟨i, hi, h1⟩
    exact hd 0 (i + 1) k (by simp) (by simpa using hi) (by omega) h0 h1
  · intro k
    rw [hT k]
    constructor
    · rintro ⟨i, hi, h⟩
      cases i with
      | zero => exact .inl h
      | succ i => exact .inr ⟨i, by simpa using hi, h⟩
    · rintro (h | ⟨i, hi, h⟩)
      · exact ⟨0, by simp, h⟩
      · exact ⟨i + 1, by simpa using hi, h⟩

/-- Values with depth stored one behind the other into a list under construction. -/
theorem OL.putMany {base g n c : Nat} {e : TypeId} {sz : Nat} : ∀ (us : List Value) (ds : List Dat) (w : World) (cs : List Dat) (S T : Nat → Prop) (o : Nat), OL w base e sz (.slice (some ⟨g, 0, none⟩) n c) n cs S → Cells w base us ds T → o + us.length ≤ cs.length → (∀ k, T k → ¬ S k) →
    ∃ S', OL (putCells w g o us) base e sz (.slice (some ⟨g, 0, none⟩) n c) n (setMany cs o ds) S' ∧ (∀ k, S' k → S k ∨ T k) ∧ w.grownBy (putCells w g o us) (some g) ∧
      ∀ j, j < us.length → (∃ z, (putCells w g o (us.take j)).cell? ⟨g, o + j, none⟩ = some z) ∧ (putCells w g o (us.take j)).frozen? ⟨g, o + j, none⟩ = false := by
  intro us
  induction us with
  | nil =>
    intro ds w cs S T o h hc ho hd
    have : ds = [] := List.eq_nil_of_length_eq_zero (by obtain ⟨G, hl, _⟩ := hc; simpa using hl.symm)
    subst this
    exact ⟨S, h, fun k hk => .inl hk, World.grownBy.refl _ _, fun j hj => by simp at hj⟩
  | cons u us ih =>
    intro ds w cs S T o h hc ho hd
    match ds, hc with
    | [], hc => obtain ⟨G, hl, _⟩ := hc; simp at hl
    | d :: ds, hc =>
      obtain ⟨T0, T1, h0, h1, hdis, hT⟩ := hc.tail
      simp only [List.length_cons] at ho
      obtain ⟨S1, O1, hS1, G1, hSg, c0, f0⟩ := h.put (i := o) (by omega) u d T0 h0 (fun k hk => hd k ((hT k).2 (.inl hk)))
      have W1 : Within w (w.setCell ⟨g, o, none⟩ u) (fun k => k = g) := Within.of_grown G1 (fun k hk => by simpa using hk.symm)
      have h1' := h1.kept W1 (fun k hk e => hd k ((hT k).2 (.inr hk)) (e ▸ hSg))
      obtain ⟨S2, O2, hS2, G2, hall⟩ := ih ds _ (cs.set o d) S1 T1 (o + 1) O1 h1' (by rw [List.length_set]; omega) (fun k hk hk2 => by
        rcases hS1 k hk2 with hk2 | hk2
        · exact hd k ((hT k).2 (.inr hk)) hk2
        · exact hdis k hk2 hk)
      refine ⟨S2, O2, ?_, grownBy_trans G1 G2, ?_⟩
      · intro k hk
        rcases hS2 k hk with hk | hk
        · rcases hS1 k hk with hk | hk
          · exact .inl hk
          · exact .inr ((hT k).2 (.inl hk))
        · exact .inr ((hT k).2 (.inr hk))
      · intro j hj
        cases j with
        | zero => exact ⟨c0, f0⟩
        | succ j =>
          have := hall j (by simpa using hj)
          simp only [List.take_succ_cons, putCells]
          rw [show o + (j + 1) = o + 1 + j by omega]
          exact this

/-- An element with depth stored, cell by cell, into a list under construction. -/
theorem OL.putElem {α : Type} {L : Lay α} {w : World} {base g n c : Nat} {e : TypeId} {M : List α} {S : Nat → Prop} (h : OL w base e L.sz (.slice (some ⟨g, 0, none⟩) n c) n (M.flatMap L.cells) S) {i : Nat} (hi : i < M.length) (us : List Value) (x : α) (T : Nat → Prop) (hu : Cells w base us (L.cells x) T) (hdis : ∀ k, T k → ¬ S k) :
    ∃ S', OL (putCells w g (i * L.sz) us) base e L.sz (.slice (some ⟨g, 0, none⟩) n c) n ((M.set i x).flatMap L.cells) S' ∧ (∀ k, S' k → S k ∨ T k) ∧ S g ∧ w.grownBy (putCells w g (i * L.sz) us) (some g) ∧
      ∀ j, j < us.length → (∃ z, (putCells w g (i * L.sz) (us.take j)).cell? ⟨g, i * L.sz + j, none⟩ = some z) ∧ (putCells w g (i * L.sz) (us.take j)).frozen? ⟨g, i * L.sz + j, none⟩ = false := by
  have hlu : us.length = L.sz := by obtain ⟨G, hl, _⟩ := hu; rw [hl, L.len]
  have hle : i * L.sz + us.length ≤ (M.flatMap L.cells).length := by
    rw [flat_length L.len, hlu]
    have : (i + 1) * L.sz ≤ M.length * L.sz := Nat.mul_le_mul_right _ hi
    rw [Nat.add_mul] at this; omega
  obtain ⟨S', O', hS', G', hall⟩ := OL.putMany us (L.cells x) w _ S T (i * L.sz) h hu hle hdis
  rw [setMany_flat L.len hi] at O'
  have hSg : S g := by
    obtain ⟨vs, F, ho, hl, hr, hd, hg, hS⟩ := h
    exact (hS g).2 (.inl rfl)
  exact ⟨S', O', hS', hSg, G', hall⟩

/-- Lists of integers, in the words of earlier texts. -/
theorem RD.reads {w : World} {a : Option Addr} {n c : Nat} {zs : List Int} (h : RD w (.slice a n c) (slD Lay.int zs)) : Reads w a zs := by
  by_cases h0 : zs = []
  · exact .inl h0
  · have hpos : 0 < zs.length := List.length_pos_iff.2 h0
    obtain ⟨b, off, rfl, hb, _⟩ := RD.cellAt h hpos (j := 0) (by decide) (by simp [Lay.int])
    refine .inr ⟨b, off, rfl, hb, fun i hi => ?_⟩
    obtain ⟨b', off', e, _, u, hc, r⟩ := RD.cellAt h hi (j := 0) (by decide) (by simp [Lay.int])
    cases e
    have hu : u = .int .i64 zs[i] := RD.val_eq r
    have e1 : off + (i * Lay.int.sz + 0) = off + i := by show off + (i * 1 + 0) = _; omega
    rw [e1, hu] at hc
    rw [hc]
    simp [List.getD, hi]
theorem ints_cells (zs : List Int) : zs.flatMap Lay.int.cells = zs.map (fun k => Dat.val (.int .i64 k)) := by
  induction zs with
  | nil => rfl
  | cons x xs ih => rw [List.flatMap_cons, ih]; rfl
theorem Reads.rd {w : World} {a : Option Addr} {zs : List Int} (h : Reads w a zs) (c : Nat) (hc0 : zs.length ≤ c) : RD w (.slice a zs.length c) (slD Lay.int zs) := by
  unfold slD
  rw [ints_cells]
  rcases h with rfl | ⟨b, off, rfl, hb, hc⟩
  · exact .empty a c
  · refine .row b off _ c _ (zs.map (Value.int .i64)) hc0 hb (by simp) (fun i hi => ?_) (fun i hi hi' => ?_)
    · have hi' : i < zs.length := by simpa using hi
      rw [hc i hi']; simp [List.getD, hi']
    · simp only [List.getElem_map]; exact .val _
theorem OwnInts.ol {w : World} {base : Nat} {e : TypeId} {v : Value} {zs : List Int} (h : OwnInts w base e v zs) : OL w base e 1 v zs.length (zs.flatMap Lay.int.cells) (fun k => v.ownBlock = some k) := by
  rw [ints_cells]
  refine ⟨zs.map (Value.int .i64), fun _ _ => False, h, by simp, fun i hi hi' => ?_, fun _ _ _ _ _ _ h => h.elim, fun _ _ _ _ h => h, fun k => by simp⟩
  simp only [List.getElem_map]; exact .val _
theorem OwnInts.od {w : World} {base : Nat} {e : TypeId} {v : Value} {zs : List Int} (h : OwnInts w base e v zs) : OD w base v (slD Lay.int zs) (fun k => v.ownBlock = some k) := h.ol.od
end Go.Proofs.Ythnppodnjokaoab
