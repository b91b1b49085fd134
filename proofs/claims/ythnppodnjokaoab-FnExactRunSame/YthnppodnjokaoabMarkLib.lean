/-
  Marks: what the law package's mark.. leave of lists with depth, counted. Plain mathematics. And what the walks of the exact laws hold at a time: boxes and values that the call has made, no block twice. Plain laws over any program. No statement is proved here.
-/
import Derived.Test.YthnppodnjokaoabLawLib
namespace Go.Proofs.Ythnppodnjokaoab
open Go.RowKit

section
variable {α : Type} (cnt : α → Nat) (mk : Nat → α → α)
def cntL : List α → Nat
  | [] => 0
  | x :: xs => cnt x + cntL xs
def mkL : Nat → List α → List α
  | _, [] => []
  | k, x :: xs => mk k x :: mkL (k + cnt x) xs
theorem mkL_length (k : Nat) (xs : List α) : (mkL cnt mk k xs).length = xs.length := by
  induction xs generalizing k with
  | nil => rfl
  | cons x xs ih => simp [mkL, ih]
theorem cntL_append (xs ys : List α) : cntL cnt (xs ++ ys) = cntL cnt xs + cntL cnt ys := by
  induction xs with
  | nil => simp [cntL]
  | cons x xs ih => simp [cntL, ih]; omega
theorem mkL_append (k : Nat) (xs ys : List α) : mkL cnt mk k (xs ++ ys) = mkL cnt mk k xs ++ mkL cnt mk (k + cntL cnt xs) ys := by
  induction xs generalizing k with
  | nil => simp [mkL, cntL]
  | cons x xs ih => simp [mkL, cntL, ih, Nat.add_assoc]
theorem cntL_take {xs : List α} {j : Nat} (h : j < xs.length) : cntL cnt (xs.take (j + 1)) = cntL cnt (xs.take j) + cnt xs[j] := by
  rw [List.take_succ_eq_append_getElem h, cntL_append]; simp [cntL]
theorem cntL_take_le (xs : List α) (j : Nat) : cntL cnt (xs.take j) ≤ cntL cnt xs := by
  have h : cntL cnt xs = cntL cnt (xs.take j) + cntL cnt (xs.drop j) := by rw [← cntL_append, List.take_append_drop]
  omega
theorem mid_length {k j : Nat} {xs : List α} (h : j ≤ xs.length) : (mkL cnt mk k (xs.take j) ++ xs.drop j).length = xs.length := by
  rw [List.length_append, mkL_length, List.length_take, List.length_drop]; omega
theorem mid_get {k j : Nat} {xs : List α} (h : j < xs.length) (h' : j < (mkL cnt mk k (xs.take j) ++ xs.drop j).length) : (mkL cnt mk k (xs.take j) ++ xs.drop j)[j] = xs[j] := by
  have hl : (mkL cnt mk k (xs.take j)).length = j := by rw [mkL_length, List.length_take]; omega
  rw [List.getElem_append_right (by omega)]
  simp only [hl, Nat.sub_self, List.getElem_drop, Nat.add_zero]
theorem mid_set {k j : Nat} {xs : List α} (h : j < xs.length) : (mkL cnt mk k (xs.take j) ++ xs.drop j).set j (mk (k + cntL cnt (xs.take j)) xs[j]) = mkL cnt mk k (xs.take (j + 1)) ++ xs.drop (j + 1) := by
  have hl : (mkL cnt mk k (xs.take j)).length = j := by rw [mkL_length, List.length_take]; omega
  rw [List.set_append_right _ _ (by omega), hl, Nat.sub_self, List.drop_eq_getElem_cons h, List.set_cons_zero, List.take_succ_eq_append_getElem h, mkL_append]
  simp [mkL]
theorem mkL_get {k j : Nat} {xs : List α} (h : j < xs.length) (h' : j < (mkL cnt mk k xs).length) : (mkL cnt mk k xs)[j] = mk (k + cntL cnt (xs.take j)) xs[j] := by
  have hs : xs = xs.take j ++ xs[j] :: xs.drop (j + 1) := by rw [← List.drop_eq_getElem_cons h, List.take_append_drop]
  have hl : (mkL cnt mk k (xs.take j)).length = j := by rw [mkL_length, List.length_take]; omega
  have e : (mkL cnt mk k xs)[j]? = some (mk (k + cntL cnt (xs.take j)) xs[j]) := by
    conv => lhs; rw [hs]
    rw [mkL_append, List.getElem?_append_right (by omega), hl, Nat.sub_self, mkL]; rfl
  rw [List.getElem?_eq_getElem h'] at e
  exact Option.some.inj e
theorem cntL_le {L : Lay α} (h : ∀ x, cnt x ≤ L.wt x + 1) (xs : List α) : cntL cnt xs ≤ (Lay.list L).wt xs := by
  rw [Lay.wt_list]
  induction xs with
  | nil => simp [cntL]
  | cons x xs ih => have := h x; simp only [cntL, List.length_cons, Lay.sumL]; omega
end
def cntInt : Int → Nat := fun _ => 1
def mkInt : Nat → Int → Int := fun k _ => (k : Int)
def cntIntS : List Int → Nat := cntL cntInt
def mkIntS : Nat → List Int → List Int := mkL cntInt mkInt
theorem cntIntS_eq (xs : List Int) : cntIntS xs = xs.length := by
  unfold cntIntS
  induction xs with
  | nil => rfl
  | cons x xs ih => simp [cntL, cntInt, ih]; omega
theorem cntIntS_le (xs : List Int) : cntIntS xs ≤ (Lay.list Lay.int).wt xs := cntL_le _ (fun _ => by simp [cntInt]) xs
theorem mkIntS_marks (k : Nat) (xs : List Int) : mkIntS k xs = marks (k : Int) xs.length := by
  apply List.ext_getElem?
  intro i
  by_cases h : i < xs.length
  · rw [marks_get _ _ _ h, List.getElem?_eq_getElem (by rw [mkIntS, mkL_length]; exact h)]
    simp only [mkIntS]
    rw [mkL_get cntInt mkInt h]
    have : cntL cntInt (xs.take i) = i := by have := cntIntS_eq (xs.take i); rw [cntIntS] at this; rw [this, List.length_take]; omega
    simp [mkInt, this]
  · rw [List.getElem?_eq_none (by rw [mkIntS, mkL_length]; omega), List.getElem?_eq_none (by rw [marks_length]; omega)]

/-- An integer stored into an own list of integers. -/
theorem OD.intStore {w : World} {base g n c : Nat} {M : List Int} {S : Nat → Prop} (h : OD w base (.slice (some ⟨g, 0, none⟩) n c) (slD Lay.int M) S) {i : Nat} (hi : i < M.length) (x : Int) :
    OD (w.setCell ⟨g, i, none⟩ (.int .i64 x)) base (.slice (some ⟨g, 0, none⟩) n c) (slD Lay.int (M.set i x)) S ∧ Within w (w.setCell ⟨g, i, none⟩ (.int .i64 x)) S ∧ (∃ z, w.cell? ⟨g, i, none⟩ = some z) ∧ w.frozen? ⟨g, i, none⟩ = false := by
  have := OD.elemStore Lay.int.len h hi (j := 0) (by decide) (.int .i64 M[i]) (.int .i64 x) (by simp [Lay.int]) (by simp [Lay.int]) x (by simp [Lay.int])
  have e : i * Lay.int.sz + 0 = i := by show i * 1 + 0 = i; omega
  rw [e] at this
  exact this
/-- What lies behind place i of an own list of lists. -/
theorem OD.listInto {α : Type} {L : Lay α} {w : World} {base g n c : Nat} {M : List (List α)} {S : Nat → Prop} (h : OD w base (.slice (some ⟨g, 0, none⟩) n c) (slD (Lay.list L) M) S) {i : Nat} (hi : i < M.length) :
    ∃ a' c' T, w.cell? ⟨g, i, none⟩ = some (.slice a' M[i].length c') ∧ OD w base (.slice a' M[i].length c') (slD L M[i]) T ∧ (∀ k, T k → S k) ∧
      ∀ w' xs, OD w' base (.slice a' M[i].length c') (slD L xs) T → Within w w' T → OD w' base (.slice (some ⟨g, 0, none⟩) n c) (slD (Lay.list L) (M.set i xs)) S := by
  obtain ⟨u, T, hc, ho, hT, _, hput⟩ := OD.elemInto (Lay.list L).len h hi (j := 0) (by show 0 < 1; decide) (by show 0 < 1; decide)
  have e : i * (Lay.list L).sz + 0 = i := by show i * 1 + 0 = i; omega
  rw [e] at hc
  have ho' : OD w base u (slD L M[i]) T := ho
  obtain ⟨a', c', rfl, _⟩ := OD.shapeL ho'
  exact ⟨a', c', T, hc, ho', hT, fun w' xs h' hw => hput w' (slD L xs) xs rfl h' hw⟩

/-- The values of E, each a few cells, all made by the call, in the blocks S, no block twice. -/
def Ents (w : World) (base : Nat) : List (List Value × List Dat) → (Nat → Prop) → Prop
  | [], S => ∀ k, ¬ S k
  | x :: E, S => ∃ T U, Cells w base x.1 x.2 T ∧ Ents w base E U ∧ (∀ k, T k → ¬ U k) ∧ ∀ k, S k ↔ T k ∨ U k
theorem Ents.kept {w w' : World} {base : Nat} {V : Nat → Prop} (hw : Within w w' V) : ∀ {E : List (List Value × List Dat)} {S : Nat → Prop}, Ents w base E S → (∀ k, S k → ¬ V k) → Ents w' base E S
  | [], _, h, _ => h
  | _ :: _, _, ⟨T, U, hT, hU, hd, hS⟩, hn => ⟨T, U, hT.kept hw (fun k hk => hn k ((hS k).2 (.inl hk))), hU.kept hw (fun k hk => hn k ((hS k).2 (.inr hk))), hd, hS⟩
theorem Ents.lt {w : World} {base : Nat} : ∀ {E : List (List Value × List Dat)} {S : Nat → Prop}, Ents w base E S → ∀ k, S k → base ≤ k ∧ k < w.heap.size
  | [], _, h, k, hk => absurd hk (h k)
  | _ :: _, _, ⟨_, _, hT, hU, _, hS⟩, k, hk => by
    rcases (hS k).1 hk with hk | hk
    · exact hT.lt k hk
    · exact hU.lt k hk
theorem Ents.at {w : World} {base : Nat} : ∀ {E : List (List Value × List Dat)} {S : Nat → Prop}, Ents w base E S → ∀ x ∈ E, ∀ j (hj : j < x.1.length) (hj' : j < x.2.length), RD w x.1[j] x.2[j]
  | [], _, _, _, hx, _, _, _ => by simp at hx
  | y :: E, _, ⟨_, _, hT, hU, _, _⟩, x, hx, j, hj, hj' => by
    rcases List.mem_cons.1 hx with rfl | hx
    · exact hT.rdAt j hj hj'
    · exact hU.at x hx j hj hj'
/-- One of the values, and how all are put together again when it alone has turned. -/
theorem Ents.turn {w : World} {base : Nat} : ∀ {P Q : List (List Value × List Dat)} {x : List Value × List Dat} {S : Nat → Prop}, Ents w base (P ++ x :: Q) S →
    ∃ T, Cells w base x.1 x.2 T ∧ (∀ k, T k → S k) ∧ ∀ w' ds, Cells w' base x.1 ds T → Within w w' T → Ents w' base (P ++ (x.1, ds) :: Q) S
  | [], _, _, _, ⟨T, U, hT, hU, hd, hS⟩ => ⟨T, hT, fun k hk => (hS k).2 (.inl hk), fun _ _ h' hw => ⟨T, U, h', hU.kept hw (fun k hk hk2 => hd k hk2 hk), hd, hS⟩⟩
  | _ :: _, _, _, _, ⟨T, U, hT, hU, hd, hS⟩ => by
    obtain ⟨T', h1, h2, h3⟩ := hU.turn
    exact ⟨T', h1, fun k hk => (hS k).2 (.inr (h2 k hk)), fun w' ds h' hw => ⟨T, U, hT.kept hw (fun k hk hk2 => hd k hk (h2 k hk2)), h3 w' ds h' hw, hd, hS⟩⟩
/-- One of the values is let go. -/
theorem Ents.drop {w : World} {base : Nat} : ∀ {P Q : List (List Value × List Dat)} {x : List Value × List Dat} {S : Nat → Prop}, Ents w base (P ++ x :: Q) S → ∃ S', Ents w base (P ++ Q) S' ∧ ∀ k, S' k → S k
  | [], _, _, _, ⟨_, U, _, hU, _, hS⟩ => ⟨U, hU, fun k hk => (hS k).2 (.inr hk)⟩
  | _ :: _, _, _, _, ⟨T, U, hT, hU, hd, hS⟩ => by
    obtain ⟨S', h1, h2⟩ := hU.drop
    exact ⟨fun k => T k ∨ S' k, ⟨T, S', hT, h1, fun k hk hk2 => hd k hk (h2 k hk2), fun _ => Iff.rfl⟩, fun k hk => (hS k).2 (hk.imp id (h2 k))⟩

/-- What a walk holds that began at w0: nothing old has turned, the boxes B stand, the values E are as told; nothing lies in anything else. -/
structure Holds (w0 w : World) (B : List (Nat × List Value)) (E : List (List Value × List Dat)) : Prop where
  below : Below w0.heap.size w0 w
  boxes : Keeps w B
  boxlt : ∀ p ∈ B, p.1 < w.heap.size
  ents : ∃ S, Ents w w0.heap.size E S ∧ ∀ p ∈ B, ¬ S p.1
theorem Holds.start (w : World) : Holds w w [] [] := ⟨Below.refl _ _, Keeps.nil w, fun _ h => by simp at h, fun _ => False, fun _ h => h, fun _ h => by simp at h⟩
section
variable {w0 w w' : World} {B : List (Nat × List Value)} {E P Q : List (List Value × List Dat)}
theorem Holds.size (h : Holds w0 w B E) : w0.heap.size ≤ w.heap.size := h.below.size
theorem Holds.later (h : Holds w0 w B E) (hb : Below w.heap.size w w') : Holds w0 w' B E := by
  obtain ⟨S, h1, h2⟩ := h.ents
  exact ⟨h.below.trans (hb.mono h.size), h.boxes.later hb, fun p hp => Nat.lt_of_lt_of_le (h.boxlt p hp) hb.size, S, h1.kept (Within.of_below hb (fun _ => False)) (fun _ _ h => h), h2⟩
theorem Holds.drew (h : Holds w0 w B E) : Holds w0 w.drew B E := h.later (Below.drew (Below.refl _ _))
theorem Holds.box (h : Holds w0 w B E) (vs : List Value) (t : TypeId) : Holds w0 (w.alloc (.cells vs.toArray t)) ((w.heap.size, vs) :: B) E := by
  obtain ⟨S, h1, h2⟩ := h.ents
  have hb : Below w.heap.size w (w.alloc (.cells vs.toArray t)) := (Below.refl _ _).alloc (Nat.le_refl _) _
  refine ⟨h.below.trans (hb.mono h.size), h.boxes.box vs t, fun p hp => ?_, S, h1.kept (Within.of_below hb (fun _ => False)) (fun _ _ h => h), fun p hp => ?_⟩
  · rcases List.mem_cons.1 hp with rfl | hp
    · simp
    · exact Nat.lt_of_lt_of_le (h.boxlt p hp) hb.size
  · rcases List.mem_cons.1 hp with rfl | hp
    · intro hk; have := (h1.lt _ hk).2; simp at this
    · exact h2 p hp
theorem Holds.push (h : Holds w0 w B E) (hb : Below w.heap.size w w') {vs : List Value} {ds : List Dat} {T : Nat → Prop} (hc : Cells w' w.heap.size vs ds T) : Holds w0 w' B ((vs, ds) :: E) := by
  obtain ⟨S0, h10, h20⟩ := h.ents
  have hS0 : Ents w' w0.heap.size E S0 := h10.kept (Within.of_below hb (fun _ => False)) (fun _ _ h => h)
  refine ⟨(h.later hb).below, (h.later hb).boxes, (h.later hb).boxlt, fun k => T k ∨ S0 k, ⟨T, S0, hc.base h.size, hS0, fun k hk hk2 => ?_, fun _ => Iff.rfl⟩, fun p hp hk => ?_⟩
  · have := (hc.lt k hk).1; have := (h10.lt k hk2).2; omega
  · rcases hk with hk | hk
    · have := (hc.lt _ hk).1; have := h.boxlt p hp; omega
    · exact h20 p hp hk
theorem Cells.one {w : World} {base : Nat} {v : Value} {d : Dat} {T : Nat → Prop} (h : OD w base v d T) : Cells w base [v] [d] T := Cells.last [] h
theorem Cells.od {w : World} {base : Nat} {v : Value} {d : Dat} {T : Nat → Prop} (h : Cells w base [v] [d] T) : OD w base v d T := by
  obtain ⟨G, _, hr, _, hT⟩ := h
  have e : T = G 0 := by
    funext k
    apply propext
    rw [hT k]
    exact ⟨fun ⟨i, hi, hk⟩ => by have : i = 0 := by simpa using hi
                                 exact this ▸ hk, fun hk => ⟨0, by simp, hk⟩⟩
  rw [e]
  exact hr 0 (by simp) (by simp)
theorem Holds.rd (h : Holds w0 w B E) (x : List Value × List Dat) (hx : x ∈ E) (j : Nat) (hj : j < x.1.length) (hj' : j < x.2.length) : RD w x.1[j] x.2[j] := by
  obtain ⟨S, h1, _⟩ := h.ents
  exact h1.at x hx j hj hj'
/-- A value of the walk's own, handed to what turns it alone. -/
theorem Holds.turn {x : List Value × List Dat} (h : Holds w0 w B (P ++ x :: Q)) : ∃ T, Cells w w0.heap.size x.1 x.2 T ∧ ∀ w' ds, Cells w' w0.heap.size x.1 ds T → Within w w' T → Holds w0 w' B (P ++ (x.1, ds) :: Q) := by
  obtain ⟨S, h1, h2⟩ := h.ents
  obtain ⟨T, g1, g2, g3⟩ := h1.turn
  refine ⟨T, g1, fun w' ds hc hw => ⟨hw.below h.below (fun k hk => (g1.lt k hk).1), fun p hp j hj => ?_, fun p hp => Nat.lt_of_lt_of_le (h.boxlt p hp) hw.size, S, g3 w' ds hc hw, h2⟩⟩
  have c := h.boxes p hp j hj
  have e := hw.block p.1 (h.boxlt p hp) (fun hk => h2 p hp (g2 _ hk))
  rw [← c]
  simp only [World.cell?, e]
theorem Holds.drop {x : List Value × List Dat} (h : Holds w0 w B (P ++ x :: Q)) : Holds w0 w B (P ++ Q) := by
  obtain ⟨S, h1, h2⟩ := h.ents
  obtain ⟨S', g1, g2⟩ := h1.drop
  exact ⟨h.below, h.boxes, h.boxlt, S', g1, fun p hp hk => h2 p hp (g2 _ hk)⟩
theorem Holds.cell (h : Holds w0 w B E) (p : Nat × List Value) (hp : p ∈ B) (j : Nat) (hj : j < p.2.length) : w.cell? ⟨p.1, j, none⟩ = some p.2[j] := h.boxes p hp j hj
end
end Go.Proofs.Ythnppodnjokaoab
