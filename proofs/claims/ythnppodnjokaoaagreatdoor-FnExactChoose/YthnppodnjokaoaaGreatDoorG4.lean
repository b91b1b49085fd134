/-
  Contracts and plain mathematics, joined: HelpLib, Info, SpecIn, Ints, Marks, SetHas, SetAdd, SetJoin, Append1. No statement is proved here.
-/
import Derived.Test.YthnppodnjokaoaaGreatDoorG3
import Derived.Test.YthnppodnjokaoaaGreatDoorChecked
namespace Go.Proofs.YthnppodnjokaoaaGreatDoor
open Go.RowKit

/-- How a type's values lie in cells. -/
structure Lay (α : Type) where
  cells : α → List Dat
  sz : Nat
  len : ∀ x, (cells x).length = sz
  pos : 0 < sz
  wt : α → Nat
  fit : α → Prop

section
variable {α : Type} (L : Lay α)
/-- A list, read through. -/
def slD (xs : List α) : Dat := .sl xs.length (xs.flatMap L.cells)
def Lay.sumL : List α → Nat
  | [] => 0
  | x :: xs => L.wt x + Lay.sumL xs
theorem Lay.sumL_append (xs ys : List α) : L.sumL (xs ++ ys) = L.sumL xs + L.sumL ys := by
  induction xs with
  | nil => simp [Lay.sumL]
  | cons x xs ih => simp [Lay.sumL, ih]; omega
theorem Lay.sumL_take {xs : List α} {k : Nat} (h : k < xs.length) : L.sumL (xs.take (k + 1)) = L.sumL (xs.take k) + L.wt xs[k] := by
  rw [List.take_succ_eq_append_getElem h, Lay.sumL_append]; simp [Lay.sumL]
theorem Lay.sumL_take_le (xs : List α) (k : Nat) : L.sumL (xs.take k) ≤ L.sumL xs := by
  have h : L.sumL xs = L.sumL (xs.take k) + L.sumL (xs.drop k) := by rw [← Lay.sumL_append, List.take_append_drop]
  omega
theorem Lay.sumL_at {xs : List α} {k : Nat} (h : k < xs.length) : L.wt xs[k] ≤ L.sumL xs := by
  have := L.sumL_take h
  have := L.sumL_take_le xs (k + 1)
  omega
def Lay.list : Lay (List α) := { cells := fun xs => [slD L xs], sz := 1, len := fun _ => rfl, pos := by decide, wt := fun xs => xs.length + L.sumL xs, fit := fun xs => xs.length ≤ maxLen ∧ ∀ x ∈ xs, L.fit x }
theorem Lay.wt_list (xs : List α) : L.list.wt xs = xs.length + L.sumL xs := rfl
theorem Lay.cells_list (xs : List α) : L.list.cells xs = [slD L xs] := rfl
end
def Lay.int : Lay Int := { cells := fun k => [.val (.int .i64 k)], sz := 1, len := fun _ => rfl, pos := by decide, wt := fun _ => 0, fit := fun k => (Lit.int .i64 k).wf = true }
def Lay.str : Lay ByteArray := { cells := fun s => [.val (.string s)], sz := 1, len := fun _ => rfl, pos := by decide, wt := fun s => s.size, fit := fun s => s.size ≤ maxLen }
def Lay.bool : Lay Bool := { cells := fun b => [.val (.bool b)], sz := 1, len := fun _ => rfl, pos := by decide, wt := fun _ => 0, fit := fun _ => True }
theorem Lay.sumL_int (zs : List Int) : Lay.int.sumL zs = 0 := by
  induction zs with
  | nil => rfl
  | cons x xs ih => rw [Lay.sumL, ih]; rfl
theorem Lay.wt_ints (zs : List Int) : (Lay.list Lay.int).wt zs = zs.length := by rw [Lay.wt_list, Lay.sumL_int]; rfl

/-- What the measuring tells. -/
def SzE (wt : Nat) (l r : Int) : Prop := r = -1 ∨ (0 ≤ r ∧ r = l - wt)

section
variable {α : Type} {L : Lay α}
/-- Cell j of element i. -/
theorem RD.cellAt {w : World} {a : Option Addr} {n c : Nat} {xs : List α} (h : RD w (.slice a n c) (slD L xs)) {i : Nat} (hi : i < xs.length) {j : Nat} (hj : j < L.sz) (h'' : j < (L.cells xs[i]).length) :
    ∃ b off, a = some ⟨b, off, none⟩ ∧ b < w.heap.size ∧ ∃ u, w.cell? ⟨b, off + (i * L.sz + j), none⟩ = some u ∧ RD w u ((L.cells xs[i])[j]'h'') := RD.elem L.len h hi hj h''
theorem RD.capL {w : World} {a : Option Addr} {n c : Nat} {xs : List α} (h : RD w (.slice a n c) (slD L xs)) : n ≤ c := RD.cap h
theorem RD.lenL {w : World} {a : Option Addr} {n c : Nat} {xs : List α} (h : RD w (.slice a n c) (slD L xs)) : n = xs.length := RD.len h
theorem OD.shapeL {w : World} {base : Nat} {v : Value} {xs : List α} {S : Nat → Prop} (h : OD w base v (slD L xs) S) : ∃ a c, v = .slice a xs.length c ∧ (xs ≠ [] → ∃ g, a = some ⟨g, 0, none⟩) := OD.elemShape L.len L.pos h
theorem RD.shapeL {w : World} {v : Value} {xs : List α} (h : RD w v (slD L xs)) : ∃ a c, v = .slice a xs.length c := RD.slice (m := xs.length) h
/-- The one cell of element i of a list of lists. -/
theorem RD.listAt {w : World} {a : Option Addr} {n c : Nat} {xss : List (List α)} (h : RD w (.slice a n c) (slD (Lay.list L) xss)) {i : Nat} (hi : i < xss.length) :
    ∃ b off, a = some ⟨b, off, none⟩ ∧ b < w.heap.size ∧ ∃ a' c', w.cell? ⟨b, off + i, none⟩ = some (.slice a' xss[i].length c') ∧ RD w (.slice a' xss[i].length c') (slD L xss[i]) := by
  obtain ⟨b, off, rfl, hb, u, hc, r⟩ := RD.cellAt h hi (j := 0) (by show 0 < 1; decide) (by show 0 < 1; decide)
  have r' : RD w u (slD L xss[i]) := r
  obtain ⟨a', c', rfl⟩ := RD.shapeL r'
  have e : off + (i * (Lay.list L).sz + 0) = off + i := by show off + (i * 1 + 0) = _; omega
  rw [e] at hc
  exact ⟨b, off, rfl, hb, a', c', hc, r'⟩
theorem zero_cells {z : α} {zd : List Dat} (hz : L.cells z = zd) (n : Nat) : (List.replicate n ()).flatMap (fun _ => zd) = (List.replicate n z).flatMap L.cells := by
  induction n with
  | zero => rfl
  | succ n ih => rw [List.replicate_succ, List.replicate_succ, List.flatMap_cons, List.flatMap_cons, ih, hz]
theorem put_step {ws : List α} {x : α} {k : Nat} (h : k < ws.length) : (ws.take k ++ List.replicate (ws.length - k) x).set k ws[k] = ws.take (k + 1) ++ List.replicate (ws.length - (k + 1)) x := by
  have hl : (ws.take k).length = k := by simp; omega
  have e : ws.length - k = (ws.length - (k + 1)) + 1 := by omega
  rw [List.set_append_right _ _ (by omega), hl, Nat.sub_self, e, List.replicate_succ, List.set_cons_zero, List.take_succ_eq_append_getElem h, List.append_assoc]
  rfl
/-- A list stored into a list of lists under construction. -/
theorem OL.putList {w : World} {base g n c : Nat} {e : TypeId} {M : List (List α)} {S : Nat → Prop} (h : OL w base e 1 (.slice (some ⟨g, 0, none⟩) n c) n (M.flatMap (Lay.list L).cells) S) {i : Nat} (hi : i < M.length) (u : Value) (x : List α) (T : Nat → Prop) (hu : OD w base u (slD L x) T) (hdis : ∀ k, T k → ¬ S k) :
    ∃ S', OL (w.setCell ⟨g, i, none⟩ u) base e 1 (.slice (some ⟨g, 0, none⟩) n c) n ((M.set i x).flatMap (Lay.list L).cells) S' ∧ (∀ k, S' k → S k ∨ T k) ∧ w.grownBy (w.setCell ⟨g, i, none⟩ u) (some g) ∧ S g ∧ (∃ z, w.cell? ⟨g, i, none⟩ = some z) ∧ w.frozen? ⟨g, i, none⟩ = false := by
  have hl : i < (M.flatMap (Lay.list L).cells).length := by rw [flat_length (Lay.list L).len]; show i < M.length * 1; omega
  obtain ⟨S', O1, r⟩ := h.put hl u (slD L x) T hu hdis
  have e1 := flat_set (Lay.list L).len hi (show 0 < (Lay.list L).sz from Nat.zero_lt_one) (slD L x) x rfl
  rw [show i * (Lay.list L).sz + 0 = i from (by show i * 1 + 0 = i; omega)] at e1
  rw [e1] at O1
  exact ⟨S', O1, r⟩
end

theorem bcellH {W w1 : World} (hb : Below W.heap.size W w1) : (∀ b o, b < W.heap.size → w1.cell? ⟨b, o, none⟩ = W.cell? ⟨b, o, none⟩) ∧ (∀ b o, b < W.heap.size → w1.frozen? ⟨b, o, none⟩ = W.frozen? ⟨b, o, none⟩) :=
  ⟨fun b o h => hb.cell (p := ⟨b, o, none⟩) h, fun b o h => hb.frozen (p := ⟨b, o, none⟩) h⟩

/-- Values stored into cells one behind the other. -/
def putCells (w : World) (g : Nat) : Nat → List Value → World
  | _, [] => w
  | o, u :: us => putCells (w.setCell ⟨g, o, none⟩ u) g (o + 1) us
/-- Data set one behind the other. -/
def setMany (cs : List Dat) : Nat → List Dat → List Dat
  | _, [] => cs
  | o, d :: ds => setMany (cs.set o d) (o + 1) ds
theorem setMany_length (cs : List Dat) (o : Nat) (ds : List Dat) : (setMany cs o ds).length = cs.length := by
  induction ds generalizing cs o with
  | nil => rfl
  | cons d ds ih => simp [setMany, ih]
theorem setMany_eq (ds : List Dat) : ∀ (pre mid post : List Dat), mid.length = ds.length → setMany (pre ++ (mid ++ post)) pre.length ds = pre ++ (ds ++ post) := by
  induction ds with
  | nil => intro pre mid post h; have : mid = [] := List.eq_nil_of_length_eq_zero (by simpa using h); subst this; rfl
  | cons d ds ih =>
    intro pre mid post h
    match mid, h with
    | m :: mid, h =>
      have e : (pre ++ (m :: mid ++ post)).set pre.length d = (pre ++ [d]) ++ (mid ++ post) := by
        rw [List.set_append_right _ _ (Nat.le_refl _), Nat.sub_self]; simp
      have := ih (pre ++ [d]) mid post (by simpa using h)
      rw [List.length_append] at this
      simp only [setMany, e]
      rw [show pre.length + 1 = pre.length + [d].length from rfl, this]
      simp
theorem setMany_flat {α : Type} {f : α → List Dat} {sz : Nat} (hf : ∀ x, (f x).length = sz) {M : List α} {i : Nat} (hi : i < M.length) (x : α) : setMany (M.flatMap f) (i * sz) (f x) = (M.set i x).flatMap f := by
  have hl : ((M.take i).flatMap f).length = i * sz := by rw [flat_length hf, List.length_take, Nat.min_eq_left (by omega)]
  have hs : (M.set i x) = M.take i ++ x :: M.drop (i + 1) := by rw [List.set_eq_take_append_cons_drop, if_pos hi]
  rw [flat_split hi, ← hl, setMany_eq _ _ _ _ (by rw [hf, hf]), hs, List.flatMap_append]
  rfl

theorem Cells.tail {w : World} {base : Nat} {u : Value} {us : List Value} {d : Dat} {ds : List Dat} {T : Nat → Prop} (h : Cells w base (u :: us) (d :: ds) T) :
    ∃ T0 T1, OD w base u d T0 ∧ Cells w base us ds T1 ∧ (∀ k, T0 k → ¬ T1 k) ∧ ∀ k, T k ↔ T0 k ∨ T1 k := by
  obtain ⟨G, hl, hr, hd, hT⟩ := h
  refine ⟨G 0, fun k => ∃ i, i < us.length ∧ G (i + 1) k, hr 0 (by simp) (by simp), ⟨fun i => G (i + 1), by simpa using hl, fun i hi hi' => hr (i + 1) (by simpa using hi) (by simpa using hi'), fun i j k hi hj hne => hd (i + 1) (j + 1) k (by simpa using hi) (by simpa using hj) (by omega), fun k => Iff.rfl⟩, ?_, ?_⟩
  · rintro k h0 ⟨i, hi, h1⟩
    exact hd 0 (i + 1) k (by simp) (by simpa using hi) (by omega) h0 h1
  · intro k
    rw [hT k]
    constructor
    · rintro ⟨i, hi, h⟩
      cases i with
      | zero => exact .inl h
      | succ i => exact .inr ⟨i, by simpa using hi, h⟩
    · rintro (h | ⟨i, hi, h⟩)
      · exact ⟨0, by simp, h⟩
      · exact ⟨i + 1, by simpa using hi, h⟩

/-- Values with depth stored one behind the other into a list under construction. -/
theorem OL.putMany {base g n c : Nat} {e : TypeId} {sz : Nat} : ∀ (us : List Value) (ds : List Dat) (w : World) (cs : List Dat) (S T : Nat → Prop) (o : Nat), OL w base e sz (.slice (some ⟨g, 0, none⟩) n c) n cs S → Cells w base us ds T → o + us.length ≤ cs.length → (∀ k, T k → ¬ S k) →
    ∃ S', OL (putCells w g o us) base e sz (.slice (some ⟨g, 0, none⟩) n c) n (setMany cs o ds) S' ∧ (∀ k, S' k → S k ∨ T k) ∧ w.grownBy (putCells w g o us) (some g) ∧
      ∀ j, j < us.length → (∃ z, (putCells w g o (us.take j)).cell? ⟨g, o + j, none⟩ = some z) ∧ (putCells w g o (us.take j)).frozen? ⟨g, o + j, none⟩ = false := by
  intro us
  induction us with
  | nil =>
    intro ds w cs S T o h hc ho hd
    have : ds = [] := List.eq_nil_of_length_eq_zero (by obtain ⟨G, hl, _⟩ := hc; simpa using hl.symm)
    subst this
    exact ⟨S, h, fun k hk => .inl hk, World.grownBy.refl _ _, fun j hj => by simp at hj⟩
  | cons u us ih =>
    intro ds w cs S T o h hc ho hd
    match ds, hc with
    | [], hc => obtain ⟨G, hl, _⟩ := hc; simp at hl
    | d :: ds, hc =>
      obtain ⟨T0, T1, h0, h1, hdis, hT⟩ := hc.tail
      simp only [List.length_cons] at ho
      obtain ⟨S1, O1, hS1, G1, hSg, c0, f0⟩ := h.put (i := o) (by omega) u d T0 h0 (fun k hk => hd k ((hT k).2 (.inl hk)))
      have W1 : Within w (w.setCell ⟨g, o, none⟩ u) (fun k => k = g) := Within.of_grown G1 (fun k hk => by simpa using hk.symm)
      have h1' := h1.kept W1 (fun k hk e => hd k ((hT k).2 (.inr hk)) (e ▸ hSg))
      obtain ⟨S2, O2, hS2, G2, hall⟩ := ih ds _ (cs.set o d) S1 T1 (o + 1) O1 h1' (by rw [List.length_set]; omega) (fun k hk hk2 => by
        rcases hS1 k hk2 with hk2 | hk2
        · exact hd k ((hT k).2 (.inr hk)) hk2
        · exact hdis k hk2 hk)
      refine ⟨S2, O2, ?_, grownBy_trans G1 G2, ?_⟩
      · intro k hk
        rcases hS2 k hk with hk | hk
        · rcases hS1 k hk with hk | hk
          · exact .inl hk
          · exact .inr ((hT k).2 (.inl hk))
        · exact .inr ((hT k).2 (.inr hk))
      · intro j hj
        cases j with
        | zero => exact ⟨c0, f0⟩
        | succ j =>
          have := hall j (by simpa using hj)
          simp only [List.take_succ_cons, putCells]
          rw [show o + (j + 1) = o + 1 + j by omega]
          exact this

/-- An element with depth stored, cell by cell, into a list under construction. -/
theorem OL.putElem {α : Type} {L : Lay α} {w : World} {base g n c : Nat} {e : TypeId} {M : List α} {S : Nat → Prop} (h : OL w base e L.sz (.slice (some ⟨g, 0, none⟩) n c) n (M.flatMap L.cells) S) {i : Nat} (hi : i < M.length) (us : List Value) (x : α) (T : Nat → Prop) (hu : Cells w base us (L.cells x) T) (hdis : ∀ k, T k → ¬ S k) :
    ∃ S', OL (putCells w g (i * L.sz) us) base e L.sz (.slice (some ⟨g, 0, none⟩) n c) n ((M.set i x).flatMap L.cells) S' ∧ (∀ k, S' k → S k ∨ T k) ∧ S g ∧ w.grownBy (putCells w g (i * L.sz) us) (some g) ∧
      ∀ j, j < us.length → (∃ z, (putCells w g (i * L.sz) (us.take j)).cell? ⟨g, i * L.sz + j, none⟩ = some z) ∧ (putCells w g (i * L.sz) (us.take j)).frozen? ⟨g, i * L.sz + j, none⟩ = false := by
  have hlu : us.length = L.sz := by obtain ⟨G, hl, _⟩ := hu; rw [hl, L.len]
  have hle : i * L.sz + us.length ≤ (M.flatMap L.cells).length := by
    rw [flat_length L.len, hlu]
    have : (i + 1) * L.sz ≤ M.length * L.sz := Nat.mul_le_mul_right _ hi
    rw [Nat.add_mul] at this; omega
  obtain ⟨S', O', hS', G', hall⟩ := OL.putMany us (L.cells x) w _ S T (i * L.sz) h hu hle hdis
  rw [setMany_flat L.len hi] at O'
  have hSg : S g := by
    obtain ⟨vs, F, ho, hl, hr, hd, hg, hS⟩ := h
    exact (hS g).2 (.inl rfl)
  exact ⟨S', O', hS', hSg, G', hall⟩

/-- Lists of integers, in the words of earlier texts. -/
theorem RD.reads {w : World} {a : Option Addr} {n c : Nat} {zs : List Int} (h : RD w (.slice a n c) (slD Lay.int zs)) : Reads w a zs := by
  by_cases h0 : zs = []
  · exact .inl h0
  · have hpos : 0 < zs.length := List.length_pos_iff.2 h0
    obtain ⟨b, off, rfl, hb, _⟩ := RD.cellAt h hpos (j := 0) (by decide) (by simp [Lay.int])
    refine .inr ⟨b, off, rfl, hb, fun i hi => ?_⟩
    obtain ⟨b', off', e, _, u, hc, r⟩ := RD.cellAt h hi (j := 0) (by decide) (by simp [Lay.int])
    cases e
    have hu : u = .int .i64 zs[i] := RD.val_eq r
    have e1 : off + (i * Lay.int.sz + 0) = off + i := by show off + (i * 1 + 0) = _; omega
    rw [e1, hu] at hc
    rw [hc]
    simp [List.getD, hi]
theorem ints_cells (zs : List Int) : zs.flatMap Lay.int.cells = zs.map (fun k => Dat.val (.int .i64 k)) := by
  induction zs with
  | nil => rfl
  | cons x xs ih => rw [List.flatMap_cons, ih]; rfl
theorem Reads.rd {w : World} {a : Option Addr} {zs : List Int} (h : Reads w a zs) (c : Nat) (hc0 : zs.length ≤ c) : RD w (.slice a zs.length c) (slD Lay.int zs) := by
  unfold slD
  rw [ints_cells]
  rcases h with rfl | ⟨b, off, rfl, hb, hc⟩
  · exact .empty a c
  · refine .row b off _ c _ (zs.map (Value.int .i64)) hc0 hb (by simp) (fun i hi => ?_) (fun i hi hi' => ?_)
    · have hi' : i < zs.length := by simpa using hi
      rw [hc i hi']; simp [List.getD, hi']
    · simp only [List.getElem_map]; exact .val _
theorem OwnInts.ol {w : World} {base : Nat} {e : TypeId} {v : Value} {zs : List Int} (h : OwnInts w base e v zs) : OL w base e 1 v zs.length (zs.flatMap Lay.int.cells) (fun k => v.ownBlock = some k) := by
  rw [ints_cells]
  refine ⟨zs.map (Value.int .i64), fun _ _ => False, h, by simp, fun i hi hi' => ?_, fun _ _ _ _ _ _ h => h.elim, fun _ _ _ _ h => h, fun k => by simp⟩
  simp only [List.getElem_map]; exact .val _
theorem OwnInts.od {w : World} {base : Nat} {e : TypeId} {v : Value} {zs : List Int} (h : OwnInts w base e v zs) : OD w base v (slD Lay.int zs) (fun k => v.ownBlock = some k) := h.ol.od
end Go.Proofs.YthnppodnjokaoaaGreatDoor
namespace Go.Proofs.YthnppodnjokaoaaGreatDoor
theorem Tryz.infoInt : (Tryz.prog.info? 3).map (fun i => (i.zero, i.size, i.bytes)) = some (some (.int .i64 0), 1, 8) := by kernel_rfl
end Go.Proofs.YthnppodnjokaoaaGreatDoor
namespace Go.Proofs.YthnppodnjokaoaaGreatDoor
open Go.RowKit

theorem l1In_any (x lo hi : Int) (w : World) : Calls Tryz.prog 21 #[.int .i64 x, .int .i64 lo, .int .i64 hi] w fun e w' => e = .returned (.bool (inB x lo hi)) ∧ w' = w := by
  by_cases h1 : lo ≤ x
  · by_cases h2 : x ≤ hi
    · go_enter Tryz.func21, Tryz.ntmps21
      go_wp2
      go_ret
      exact ⟨ret_bool (by simp [inB, h1, h2]), rfl⟩
    · go_enter Tryz.func21, Tryz.ntmps21
      go_wp2
      go_ret
      exact ⟨ret_bool (by simp [inB, h1, h2]), rfl⟩
  · go_enter Tryz.func21, Tryz.ntmps21
    go_wp2
    go_ret
    exact ⟨ret_bool (by simp [inB]; omega), rfl⟩

end Go.Proofs.YthnppodnjokaoaaGreatDoor
namespace Go.Proofs.YthnppodnjokaoaaGreatDoor
open Go.RowKit

theorem toIntS_any (a : Option Addr) (c : Nat) (zs : List Int) (w : World) (h : Reads w a zs) (hl : zs.length ≤ 1048576) :
    Calls Tryz.prog 7 #[.slice a zs.length c] w fun e w' => ∃ b, e = .returned (.slice (some ⟨b, 0, none⟩) zs.length zs.length) ∧ w.heap.size ≤ b ∧
      w'.rowIs b 3 zs.length (fun i => .int .i64 (zs.getD i 0)) ∧ Below w.heap.size w w' := by
  have hmk := fun wx => run_make_row' (P := Tryz.prog) 25 3 (.int .i64 0) 8 Tryz.underlying25 Tryz.infoInt rfl .i64 .i64 zs.length (by omega) (by omega) wx
  go_enter Tryz.func7, Tryz.ntmps7
  go_wp2
  clear hmk
  go_loopw [4] (fun i wr => ∃ k : Nat, k ≤ zs.length ∧ i = .int .i64 k ∧ wr.rowIs w.heap.size 3 zs.length (fun j => .int .i64 (if j < k then zs.getD j 0 else 0)) ∧ Below w.heap.size w wr) (fun i _ => zs.length - (intOf i).toNat)
  case atStart => exact ⟨0, Nat.zero_le _, rfl, (World.rowIs_made _ _ _ _).congr (fun i _ => by simp), (Below.refl _ _).alloc (Nat.le_refl _) _⟩
  case round =>
    obtain ⟨k, hk, rfl, hrow, hbel⟩ := hrel
    by_cases hlt : k < zs.length
    · obtain ⟨b, off, rfl, hb, hc⟩ := h.at hlt
      have hcx := (hbel.cell (p := ⟨b, off + k, none⟩) hb).trans (hc k hlt)
      have hfr := hrow.frozen k
      have hcy := hrow.cell hlt
      go_wp2
      go_roundw
      case rel =>
        exact ⟨k + 1, by omega, by go_num, (hrow.set k _).congr (fun j hj => by
          by_cases e : j = k
          · subst e; simp [List.getD, hj]
          · by_cases e2 : j < k
            · simp [e, e2, Nat.lt_succ_of_lt e2]
            · have : ¬ j < k + 1 := by omega
              simp [e, e2, this]), hbel.setCell (Nat.le_refl _) _⟩
      case measure => simp [intOf]; omega
    · go_wp2
      go_ret
      exact ⟨_, rfl, Nat.le_refl _, hrow.congr (fun j hj => by rw [if_pos (by omega)]), hbel⟩

theorem eqIntS_any (a b : Option Addr) (c d : Nat) (xs ys : List Int) (w : World) (h : Reads w a xs) (g : Reads w b ys) (hl : xs.length ≤ 1048576 * 4) :
    Calls Tryz.prog 10 #[.slice a xs.length c, .slice b ys.length d] w fun e w' => e = .returned (.bool (eqL xs ys)) ∧ Below w.heap.size w w' := by
  by_cases he : xs.length = ys.length
  · have hne : ((xs.length : Int) != (ys.length : Int)) = false := by simp [he]
    have HE : Hid (xs.length = ys.length) := he
    clear he
    go_enter Tryz.func10, Tryz.ntmps10
    go_wp2
    go_loopw [5] (fun i wr => ∃ k : Nat, k ≤ xs.length ∧ i = .int .i64 k ∧ xs.take k = ys.take k ∧ Below w.heap.size w wr) (fun i _ => xs.length - (intOf i).toNat)
    case atStart => exact ⟨0, Nat.zero_le _, rfl, rfl, Below.refl _ _⟩
    case round =>
      obtain ⟨k, hk, rfl, heq, hbel⟩ := hrel
      have HQ : Hid (xs.take k = ys.take k) := heq
      clear heq
      by_cases hlt : k < xs.length
      · have hlt2 : k < ys.length := HE.out ▸ hlt
        obtain ⟨b1, o1, rfl, hb1, hc1⟩ := h.at hlt
        obtain ⟨b2, o2, rfl, hb2, hc2⟩ := g.at hlt2
        have hcx := (hbel.cell (p := ⟨b1, o1 + k, none⟩) hb1).trans (hc1 k hlt)
        have hcy := (hbel.cell (p := ⟨b2, o2 + k, none⟩) hb2).trans (hc2 k hlt2)
        go_wp2
        go_quiet (fail)
        go_wp2
        · go_ret
          exact ⟨ret_bool (eqL_at hlt hlt2 ‹_›).symm, below_drewN hbel _⟩
        · go_roundw
          case rel => exact ⟨k + 1, by omega, by go_num, take_step hlt hlt2 ‹_› HQ.out, below_drewN hbel _⟩
          case measure => simp [intOf]; omega
      · go_wp2
        go_ret
        exact ⟨ret_bool (eqL_end hlt HE.out HQ.out).symm, hbel⟩
  · have hne : ((xs.length : Int) != (ys.length : Int)) = true := by simp; omega
    go_enter Tryz.func10, Tryz.ntmps10
    go_wp2
    go_ret
    exact ⟨ret_bool (eqL_len he).symm, Below.refl _ _⟩
end Go.Proofs.YthnppodnjokaoaaGreatDoor
namespace Go.Proofs.YthnppodnjokaoaaGreatDoor
open Go.RowKit

theorem toIntS_own (a : Option Addr) (c : Nat) (zs : List Int) (w : World) (h : Reads w a zs) (hl : zs.length ≤ 1048576) :
    Calls Tryz.prog 7 #[.slice a zs.length c] w fun e w' => ∃ v, e = .returned v ∧ OwnInts w' w.heap.size 3 v zs ∧ Below w.heap.size w w' := by
  refine (toIntS_any a c zs w h hl).mono ?_
  rintro e w1 ⟨b, rfl, hb, hr, hl1⟩
  exact ⟨_, rfl, OwnInts.of_row hr hb (by unfold maxLen; omega), hl1⟩

theorem eqIntS_own (b1 b2 : Nat) (u v : Value) (xs ys : List Int) (w : World) (h : OwnInts w b1 3 u xs) (g : OwnInts w b2 3 v ys) (hl : xs.length ≤ 1048576 * 4) :
    Calls Tryz.prog 10 #[u, v] w fun e w' => e = .returned (.bool (eqL xs ys)) ∧ Below w.heap.size w w' := by
  obtain ⟨a, c, rfl, hr, _⟩ := h.shape
  obtain ⟨a2, c2, rfl, gr, _⟩ := g.shape
  exact eqIntS_any a a2 c c2 xs ys w hr gr hl

end Go.Proofs.YthnppodnjokaoaaGreatDoor
namespace Go.Proofs.YthnppodnjokaoaaGreatDoor
open Go.RowKit

theorem specSetHas_same (a : Option Addr) (c : Nat) (zs : List Int) (x : Int) (w : World) (h : Reads w a zs) (hl : zs.length ≤ 1048576 * 4) :
    Calls Tryz.prog 48 #[.slice a zs.length c, .int .i64 x] w fun e w' => e = .returned (.bool (hasL zs x)) ∧ w' = w := by
  go_enter Tryz.func48, Tryz.ntmps48
  go_wp2
  go_loop [5] (fun i => ∃ k : Nat, k ≤ zs.length ∧ i = .int .i64 k ∧ x ∉ zs.take k) (fun i => zs.length - (intOf i).toNat)
  case atStart => exact ⟨0, Nat.zero_le _, rfl, by simp⟩
  case round =>
    obtain ⟨k, hk, rfl, hnot⟩ := hrel
    have HN : Hid (x ∉ zs.take k) := hnot
    clear hnot
    by_cases hlt : k < zs.length
    · obtain ⟨b1, o1, rfl, hb1, hc1⟩ := h.at hlt
      have hcx := hc1 k hlt
      go_wp2
      · go_ret
        exact ⟨ret_bool (hasL_yes (in_at hlt ‹_›)).symm, rfl⟩
      · go_round
        case rel => exact ⟨k + 1, by omega, by go_num, notin_step HN.out hlt ‹_›⟩
        case measure => simp [intOf]; omega
    · go_wp2
      go_ret
      exact ⟨ret_bool (hasL_no (notin_end HN.out hlt)).symm, rfl⟩

theorem specSetHas_any (a : Option Addr) (c : Nat) (zs : List Int) (x : Int) (w : World) (h : Reads w a zs) (hl : zs.length ≤ 1048576 * 4) :
    Calls Tryz.prog 48 #[.slice a zs.length c, .int .i64 x] w fun e w' => e = .returned (.bool (hasL zs x)) ∧ Below w.heap.size w w' := by
  refine (specSetHas_same a c zs x w h hl).mono ?_
  rintro e w' ⟨rfl, rfl⟩
  exact ⟨rfl, Below.refl _ _⟩

theorem index_any (a : Option Addr) (c : Nat) (zs : List Int) (x : Int) (w : World) (h : Reads w a zs) (hl : zs.length ≤ 1048576 * 4) :
    Calls Tryz.prog 25 #[.slice a zs.length c, .int .i64 x] w fun e w' => e = .returned (.int .i64 (idxL zs x)) ∧ Below w.heap.size w w' := by
  go_enter Tryz.func25, Tryz.ntmps25
  go_wp2
  go_loop [8] (fun i => ∃ k : Nat, k ≤ zs.length ∧ i = .int .i64 k ∧ x ∉ zs.take k) (fun i => zs.length - (intOf i).toNat)
  case atStart => exact ⟨0, Nat.zero_le _, rfl, by simp⟩
  case round =>
    obtain ⟨k, hk, rfl, hnot⟩ := hrel
    have HN : Hid (x ∉ zs.take k) := hnot
    clear hnot
    by_cases hlt : k < zs.length
    · obtain ⟨b1, o1, rfl, hb1, hc1⟩ := h.at hlt
      have hcx := hc1 k hlt
      go_wp2
      · go_ret
        exact ⟨ret_int (idxL_at HN.out hlt ‹_›).symm, Below.refl _ _⟩
      · go_round
        case rel => exact ⟨k + 1, by omega, by go_num, notin_step' HN.out hlt ‹_›⟩
        case measure => simp [intOf]; omega
    · go_wp2
      go_ret
      exact ⟨ret_int (idxL_no (notin_end HN.out hlt)).symm, Below.refl _ _⟩

end Go.Proofs.YthnppodnjokaoaaGreatDoor
namespace Go.Proofs.YthnppodnjokaoaaGreatDoor
open Go.RowKit

/-- A slice of integers, nil or a whole block's beginning, with its room. -/
def PartsI (w : World) (v : Value) (xs : List Int) : Prop :=
  (v = .slice none 0 0 ∧ xs = []) ∨ ∃ g cap, v = .slice (some ⟨g, 0, none⟩) xs.length cap ∧ xs.length ≤ cap ∧ cap ≤ maxLen ∧ g < w.heap.size ∧ ∀ i, i < xs.length → w.cell? ⟨g, i, none⟩ = some (.int .i64 (xs.getD i 0))
theorem PartsI.shape {w : World} {v : Value} {xs : List Int} (h : PartsI w v xs) : ∃ a cap, v = .slice a xs.length cap ∧ Reads w a xs := by
  rcases h with ⟨rfl, rfl⟩ | ⟨g, cap, rfl, _, _, hg, hc⟩
  · exact ⟨none, 0, rfl, .inl rfl⟩
  · exact ⟨_, cap, rfl, .inr ⟨g, 0, rfl, hg, fun i hi => by simpa using hc i hi⟩⟩

theorem specSetAdd_p (v : Value) (zs : List Int) (x : Int) (w : World) (h : PartsI w v zs) (hl : zs.length ≤ 1048576 * 3) :
    Calls Tryz.prog 66 #[v, .int .i64 x] w fun e w' => ∃ v', e = .returned v' ∧ OwnInts w' w.heap.size 3 v' (addL zs x) ∧ Below w.heap.size w w' := by
  cases hh : hasL zs x
  · have hp := placeL_le zs x
    rcases h with ⟨rfl, rfl⟩ | ⟨g, cap, rfl, hnc, hcm, hgw, hcell⟩
    · have hr : Reads w none [] := .inl rfl
      go_enter Tryz.func66, Tryz.ntmps66
      go_wp2_with fail
      refine (specSetHas_any _ _ [] x _ hr (by simp)).mono ?_
      rintro e w1 ⟨rfl, hl1⟩
      rw [hh]
      go_wp2
      refine wp_loop_rounds 1 ?_
      rw [rounds_succ]
      go_wp2_with (at_builtin; refine wpList_append_ints _ rfl (.tmp 30) (.tmp 33) 25 rfl w.heap.size 3 Tryz.underlying25 Tryz.infoInt _ [] rfl (OwnInts.empty hl1.size) _ _ _ [] rfl rfl (.inl rfl) (by simp) (Nat.le_trans hl1.size (by simp)) ?_)
      intro v4 w4 hown4 hgr4
      have k4 := (hl1.alloc hl1.size _).grown hgr4 (Nat.le_trans hl1.size (by simp)) (fun k hk => by cases hk; exact hl1.size)
      go_wp2_with (at_builtin; refine wpList_append_ints _ rfl (.tmp 35) (.tmp 37) 25 rfl w.heap.size 3 Tryz.underlying25 Tryz.infoInt _ _ rfl (hown4.alloc _) _ _ _ [x] rfl rfl (Reads.new _ _ _) (by simp) (Nat.le_trans k4.size (by simp)) ?_)
      intro v5 w5 hown5 hgr5
      have k5 := (k4.alloc k4.size _).grown hgr5 (Nat.le_trans k4.size (by simp)) (fun k hk => (hown4.block k hk).1)
      go_wp2_with (at_builtin; refine wpList_append_ints _ rfl (.tmp 39) (.tmp 42) 25 rfl w.heap.size 3 Tryz.underlying25 Tryz.infoInt _ _ rfl hown5 _ _ _ [] rfl rfl (.inl rfl) (by simp) k5.size ?_)
      intro v6 w6 hown6 hgr6
      have k6 := k5.grown hgr6 k5.size (fun k hk => (hown5.block k hk).1)
      go_wp2
      go_ret
      refine ⟨v6, rfl, ?_, k6⟩
      rw [addL_no hh]
      exact hown6
    · obtain ⟨p, hP⟩ : ∃ p, placeL zs x = p := ⟨_, rfl⟩
      have HP : Hid (placeL zs x = p) := hP
      rw [hP] at hp
      have hr : Reads w (some ⟨g, 0, none⟩) zs := .inr ⟨g, 0, rfl, hgw, fun i hi => by simpa using hcell i hi⟩
      unfold maxLen at hcm
      clear hP
      go_enter Tryz.func66, Tryz.ntmps66
      go_wp2_with fail
      refine (specSetHas_any _ _ zs x _ hr (by omega)).mono ?_
      rintro e w1 ⟨rfl, hl1⟩
      rw [hh]
      have c1 : ∀ i, i < zs.length → w1.cell? ⟨g, i, none⟩ = some (.int .i64 (zs.getD i 0)) := fun i hi => (hl1.cell (p := ⟨g, i, none⟩) hgw).trans (hcell i hi)
      go_wp2
      go_loop [5, 6] (fun t i => ∃ m : Nat, m ≤ zs.length ∧ i = .int .i64 ((m : Int) - 1) ∧ t = .int .i64 (placeFrom zs x m)) (fun _ i => (intOf i + 1).toNat)
      case atStart => exact ⟨zs.length, Nat.le_refl _, rfl, by rw [placeFrom_end]⟩
      case round =>
        obtain ⟨m, hm, rfl, rfl⟩ := hrel
        have hpm := placeFrom_le zs x m hm
        cases m with
        | succ k =>
          have hlt : k < zs.length := by omega
          have hcx := c1 k hlt
          have ek : ((k + 1 : Nat) : Int) - 1 = (k : Int) := by omega
          rw [ek]
          clear ek
          go_wp2
          · go_round
            case rel => exact ⟨k, by omega, rfl, by rw [placeFrom_yes hlt ‹_›]⟩
            case measure => simp [intOf]
          · go_round
            case rel => exact ⟨k, by omega, rfl, by rw [placeFrom_no hlt (Int.not_lt.2 ‹_›)]⟩
            case measure => simp [intOf]
        | zero =>
          rw [placeFrom_zero, HP.out]
          go_wp2_with (at_builtin; refine wpList_append_ints _ rfl (.tmp 30) (.tmp 33) 25 rfl w.heap.size 3 Tryz.underlying25 Tryz.infoInt _ [] rfl (OwnInts.empty hl1.size) _ _ _ (zs.take p) rfl (by simp; omega) ((hr.below (hl1.alloc hl1.size _)).take p) (by simp; omega) (Nat.le_trans hl1.size (by simp)) ?_)
          intro v4 w4 hown4 hgr4
          have k4 := (hl1.alloc hl1.size _).grown hgr4 (Nat.le_trans hl1.size (by simp)) (fun k hk => by cases hk; exact hl1.size)
          go_wp2_with (at_builtin; refine wpList_append_ints _ rfl (.tmp 35) (.tmp 37) 25 rfl w.heap.size 3 Tryz.underlying25 Tryz.infoInt _ _ rfl (hown4.alloc _) _ _ _ [x] rfl rfl (Reads.new _ _ _) (by simp; omega) (Nat.le_trans k4.size (by simp)) ?_)
          intro v5 w5 hown5 hgr5
          have k5 := (k4.alloc k4.size _).grown hgr5 (Nat.le_trans k4.size (by simp)) (fun k hk => (hown4.block k hk).1)
          have C5 : Hid (∀ i, i < zs.length → w5.cell? ⟨g, i, none⟩ = some (.int .i64 (zs.getD i 0))) := fun i hi => (k5.cell (p := ⟨g, i, none⟩) hgw).trans (hcell i hi)
          clear c1 hcell
          have gw5 := Nat.lt_of_lt_of_le hgw k5.size
          have hlen5 : (zs.take p ++ [x]).length + (zs.drop p).length ≤ 1099511627776 := by simp; omega
          go_wp2_with (at_builtin; refine wpList_append_ints _ rfl (.tmp 39) (.tmp 42) 25 rfl w.heap.size 3 Tryz.underlying25 Tryz.infoInt _ _ rfl hown5 _ _ _ (zs.drop p) rfl (by simp) (Reads.drop gw5 C5.out (by intro hk; first | rfl | rw [if_neg (by omega)] | (exfalso; omega))) hlen5 k5.size ?_)
          all_goals
            intro v6 w6 hown6 hgr6
            have k6 := k5.grown hgr6 k5.size (fun k hk => (hown5.block k hk).1)
            go_wp2
            go_ret
            refine ⟨v6, rfl, ?_, k6⟩
            rw [addL_no hh, HP.out]
            simpa using hown6
  · obtain ⟨a, cap, rfl, hr⟩ := h.shape
    go_enter Tryz.func66, Tryz.ntmps66
    go_wp2_with fail
    refine (specSetHas_any _ _ zs x _ hr (by omega)).mono ?_
    rintro e w1 ⟨rfl, hl1⟩
    rw [hh]
    go_wp2_with (at_builtin; refine wpList_append_ints _ rfl (.tmp 11) (.tmp 12) 25 rfl w.heap.size 3 Tryz.underlying25 Tryz.infoInt _ [] rfl (OwnInts.empty hl1.size) _ _ _ zs rfl rfl (hr.below (hl1.alloc hl1.size _)) (by simp; omega) (Nat.le_trans hl1.size (by simp)) ?_)
    intro v2 w2 hown2 hgr2
    go_wp2
    go_ret
    rw [addL_yes hh]
    exact ⟨v2, rfl, by simpa using hown2, (hl1.alloc hl1.size _).grown hgr2 (Nat.le_trans hl1.size (by simp)) (fun k hk => by cases hk; exact hl1.size)⟩

theorem specSetAdd_any (base : Nat) (v : Value) (zs : List Int) (x : Int) (w : World) (h : OwnInts w base 3 v zs) (hl : zs.length ≤ 1048576 * 3) :
    Calls Tryz.prog 66 #[v, .int .i64 x] w fun e w' => ∃ v', e = .returned v' ∧ OwnInts w' w.heap.size 3 v' (addL zs x) ∧ Below w.heap.size w w' := specSetAdd_p v zs x w h.parts hl
end Go.Proofs.YthnppodnjokaoaaGreatDoor
namespace Go.Proofs.YthnppodnjokaoaaGreatDoor
open Go.RowKit

theorem specSetJoin_r (a : Option Addr) (c : Nat) (a2 : Option Addr) (c2 : Nat) (xs ys : List Int) (w : World) (hr : Reads w a xs) (gr : Reads w a2 ys) (hl : xs.length ≤ 1048576) (gl : ys.length ≤ 1048576) :
    Calls Tryz.prog 65 #[.slice a xs.length c, .slice a2 ys.length c2] w fun e w' => ∃ v', e = .returned v' ∧ OwnInts w' w.heap.size 3 v' (joinL xs ys) ∧ Below w.heap.size w w' := by
  go_enter Tryz.func65, Tryz.ntmps65
  go_wp2_with (at_builtin; refine wpList_append_ints _ rfl (.tmp 7) (.tmp 8) 25 rfl w.heap.size 3 Tryz.underlying25 Tryz.infoInt _ [] rfl (OwnInts.empty (Nat.le_refl _)) _ _ _ xs rfl rfl (hr.below ((Below.refl _ _).alloc (Nat.le_refl _) _)) (by simp; omega) (by simp) ?_)
  intro v1 w1 o1 hg1
  have hl1 := ((Below.refl w.heap.size w).alloc (Nat.le_refl _) _).grown hg1 (by simp) (fun k hk => by cases hk; exact Nat.le_refl _)
  go_wp2
  go_loopw [5, 6] (fun t i wr => ∃ k : Nat, k ≤ ys.length ∧ i = .int .i64 k ∧ OwnInts wr w.heap.size 3 t (joinL xs (ys.take k)) ∧ Below w.heap.size w wr) (fun _ i _ => ys.length - (intOf i).toNat)
  case atStart => exact ⟨0, Nat.zero_le _, rfl, by simpa [joinL] using o1, hl1⟩
  case round =>
    obtain ⟨k, hk, rfl, hown, hbel⟩ := hrel
    have hj := joinL_length_le xs (ys.take k)
    rw [List.length_take, Nat.min_eq_left hk] at hj
    by_cases hlt : k < ys.length
    · obtain ⟨b, o, rfl, hb, hc⟩ := gr.at hlt
      have hcx := (hbel.cell (p := ⟨b, o + k, none⟩) hb).trans (hc k hlt)
      go_wp2_with fail
      refine (specSetAdd_any _ _ _ _ _ hown (by omega)).mono ?_
      rintro e w2 ⟨v2, rfl, o2, hl2⟩
      go_wp2
      go_roundw
      case rel => exact ⟨k + 1, by omega, by go_num, by rw [← joinL_step hlt]; exact o2.base hbel.size, hbel.trans (hl2.mono hbel.size)⟩
      case measure => simp [intOf]; omega
    · go_wp2
      go_ret
      exact ⟨_, rfl, by rw [List.take_of_length_le (by omega)] at hown; exact hown, hbel⟩

theorem specSetJoin_any (b1 b2 : Nat) (u v : Value) (xs ys : List Int) (w : World) (h : OwnInts w b1 3 u xs) (g : OwnInts w b2 3 v ys) (hl : xs.length ≤ 1048576) (gl : ys.length ≤ 1048576) :
    Calls Tryz.prog 65 #[u, v] w fun e w' => ∃ v', e = .returned v' ∧ OwnInts w' w.heap.size 3 v' (joinL xs ys) ∧ Below w.heap.size w w' := by
  obtain ⟨a, c, rfl, hr, _⟩ := h.shape
  obtain ⟨a2, c2, rfl, gr, _⟩ := g.shape
  exact specSetJoin_r a c a2 c2 xs ys w hr gr hl gl
end Go.Proofs.YthnppodnjokaoaaGreatDoor
namespace Go.Proofs.YthnppodnjokaoaaGreatDoor
open Go.RowKit

section
variable {P : Program} (w : World)
theorem run_append_ints1 (base : Nat) (t ty e : TypeId) (ht : P.underlying t = some (.slice e)) (hinfo : (P.info? e).map (fun i => (i.zero, i.size, i.bytes)) = some (some (.int .i64 0), 1, 8))
    (v : Value) (xs : List Int) (hown : OwnInts w base e v xs) (ad : Option Addr) (c : Nat) (news : List Int) (hne : news ≠ []) (hnews : Reads w ad news) (hlen : xs.length + news.length ≤ 1099511627776) (hbase : base ≤ w.heap.size) :
    ∃ v' w', (Builtin.append_ #[t, t] ty #[v, .slice ad news.length c]).run P w = .ok v' w' ∧ OwnInts w' base e v' (xs ++ news) ∧ w.grownBy w' v.ownBlock ∧ (∀ k, v'.ownBlock = some k → v.ownBlock = some k ∨ k = w.heap.size) := by
  obtain ⟨i, hi, hz0, hz1, hz2⟩ := info_parts hinfo
  rcases hnews with h | ⟨b, off, rfl, hb, hc⟩
  · exact absurd h hne
  · have hpos : 0 < news.length := List.length_pos_iff.2 hne
    obtain ⟨v', w', h1, h2, h3, h4⟩ := run_append_where (P := P) w base t ty e i (.int .i64 0) 1 8 ht hi hz0 hz1 hz2 rfl (by decide) v _ _ hown ⟨b, off, none⟩ news.length c (news.map (Value.int .i64)) hpos (by simp)
      (by
        intro j u hu
        have hj : j < news.length := by have := (List.getElem?_eq_some_iff.1 hu).1; simpa using this
        rw [Addr.add_lit, hc j hj]
        simp [hj] at hu
        simp [hj, hu])
      (ints_oneCell _ _) (by unfold maxLen; omega) (by omega) hbase
    exact ⟨v', w', h1, by simpa [OwnInts] using h2, h3, h4⟩
theorem wpList_append_ints1 {ops : Array Oper} {rest : List Oper} {o : Oper} {a : Act} {Q : Exit → Act → World → Prop} (hgd : o.guard = none) (s x : Operand) (t : TypeId)
    (ho : o.op = .call { callee := .builtin .append, args := #[s, x], argTypes := #[t, t] })
    (base : Nat) (e : TypeId) (ht : P.underlying t = some (.slice e)) (hinfo : (P.info? e).map (fun i => (i.zero, i.size, i.bytes)) = some (some (.int .i64 0), 1, 8))
    (v : Value) (xs : List Int) (hs : a.eval s = v) (hown : OwnInts w base e v xs) (ad : Option Addr) (n c : Nat) (news : List Int) (hne : news ≠ []) (hx : a.eval x = .slice ad n c) (hn : n = news.length) (hnews : Reads w ad news)
    (hlen : xs.length + news.length ≤ 1099511627776) (hbase : base ≤ w.heap.size)
    (h : ∀ v' w', OwnInts w' base e v' (xs ++ news) → w.grownBy w' v.ownBlock → (∀ k, v'.ownBlock = some k → v.ownBlock = some k ∨ k = w.heap.size) → wpList P ops Q rest (a.put o.dst v') w') : wpList P ops Q (o :: rest) a w := by
  refine wpList_plain hgd fun K hK => ?_
  subst hn
  obtain ⟨v', w', hr, h2, h3, h4⟩ := run_append_ints1 (P := P) w base t o.type e ht hinfo v xs hown ad c news hne hnews hlen hbase
  unfold Oper.wp execOp
  simp only [ho, resolve, invoke, builtin, Sem.run_bind, Sem.run_pure, Result.andThen_ok, List.map_toArray, List.map_cons, List.map_nil, hs, hx, hr]
  exact hK _ _ (h v' w' h2 h3 h4)
end
end Go.Proofs.YthnppodnjokaoaaGreatDoor
