/-
  Contracts and plain mathematics, joined: OpenD, OpenL, HGram, SpecGramOk, GramOk, SetHas, SetAdd, SpecEmpties, SetJoin, MarkLib. No statement is proved here.
-/
import Derived.Test.YthnppodnjokaoaaGreatDoorG2
import Derived.Deep.Strs
import Derived.OpenShut
import Derived.Test.YthnppodnjokaoaaGreatDoorG3
import Derived.Test.YthnppodnjokaoaaGreatDoorG4
import Derived.Deep.RegionWith
import Derived.Test.YthnppodnjokaoaaGreatDoorG1
namespace Go.Proofs.YthnppodnjokaoaaGreatDoor
open Go.RowKit

section
variable {H : Type} {enc : TypeId × Value → H} {P : Program} {w : World} {base : Nat} {spare : Nat → Bool} {held : Bool}

/-- A slice whose elements each read as f says. -/
theorem open_dat {α : Type} (f : α → List Dat) {sz : Nat} (hf : ∀ x, (f x).length = sz) (hz : 0 < sz) (good : α → Prop) {t e : TypeId} {a : Option Addr} {len cap : Nat} {x : DataW H × List MemPlace} (ht : P.underlying t = some (.slice e)) (hc : P.cellsOf e = sz)
    {fuel : Nat} (helem : ∀ n, n < fuel → ∀ cs y, DataW.trod enc P w base spare held n e cs = some y → ∃ z : α, good z ∧ ∀ j (hj : j < cs.length) (hj' : j < (f z).length), RD w cs[j] (f z)[j])
    (h : DataW.trod enc P w base spare held fuel t [.slice a len cap] = some x) :
    ∃ zs : List α, len = zs.length ∧ zs.length ≤ maxLen ∧ RD w (.slice a zs.length cap) (.sl zs.length (zs.flatMap f)) ∧ ∀ z ∈ zs, good z := by
  rcases DataW.trod_slice ht h with ⟨h0, _⟩ | ⟨a', l', c', elems, rest, n, hfu, h0, _, hb, hl, hm, hlen, hel, _, _⟩
  · simp only [List.cons.injEq, Value.slice.injEq, and_true] at h0
    obtain ⟨rfl, rfl, rfl⟩ := h0
    exact ⟨[], rfl, by simp [maxLen], .empty none 0, by simp⟩
  · simp only [List.cons.injEq, Value.slice.injEq, and_true] at h0
    obtain ⟨rfl, rfl, rfl⟩ := h0
    have each : ∀ k, k ≤ len → ∃ (zs : List α) (vs : List Value), zs.length = k ∧ vs.length = k * sz ∧ (∀ z ∈ zs, good z) ∧ (∀ i, i < vs.length → w.cell? (a'.add i) = vs[i]?) ∧ ∀ i (hi : i < vs.length) (hi' : i < (zs.flatMap f).length), RD w vs[i] (zs.flatMap f)[i] := by
      intro k
      induction k with
      | zero => intro _; exact ⟨[], [], rfl, by simp, by simp, fun i hi => by simp at hi, fun i hi => by simp at hi⟩
      | succ k ih =>
        intro hk
        obtain ⟨zs, vs, h1, h2, h3, h4, h5⟩ := ih (by omega)
        have key := hel k (by omega)
        rw [List.getElem?_eq_getElem (by omega)] at key
        obtain ⟨cs, hcs, htr⟩ := Option.bind_eq_some_iff.1 key
        obtain ⟨z, hz1, hz2⟩ := helem n (by omega) cs _ htr
        rw [hc] at hcs
        obtain ⟨_, hcl, hcell⟩ := World.cells?_some hcs
        have hfl : (zs.flatMap f).length = k * sz := by rw [flat_length hf, h1]
        refine ⟨zs ++ [z], vs ++ cs, by simp [h1], by rw [List.length_append, h2, hcl, Nat.add_mul]; omega, ?_, ?_, ?_⟩
        · intro y hy
          rcases List.mem_append.1 hy with hy | hy
          · exact h3 y hy
          · rw [List.mem_singleton.1 hy]; exact hz1
        · intro i hi
          by_cases hik : i < vs.length
          · rw [List.getElem?_append_left hik]; exact h4 i hik
          · rw [List.getElem?_append_right (by omega)]
            have hi2 : i - vs.length < sz := by rw [List.length_append, hcl] at hi; omega
            have := hcell (i - vs.length) hi2
            rw [Go.Deep.add_add] at this
            rw [← this]
            congr 2; omega
        · intro i hi hi'
          have e1 : (zs ++ [z]).flatMap f = zs.flatMap f ++ f z := by simp
          by_cases hik : i < vs.length
          · have := h5 i hik (by omega)
            simpa only [e1, List.getElem_append_left hik, List.getElem_append_left (show i < (zs.flatMap f).length by omega)] using this
          · have hi2 : i - vs.length < cs.length := by rw [List.length_append] at hi; omega
            have := hz2 (i - vs.length) hi2 (by rw [hf]; omega)
            simp only [e1, List.getElem_append_right (show vs.length ≤ i by omega), List.getElem_append_right (show (zs.flatMap f).length ≤ i by omega)]
            have e2 : i - (zs.flatMap f).length = i - vs.length := by omega
            simp only [e2]
            exact this
    obtain ⟨zs, vs, h1, h2, h3, h4, h5⟩ := each len (Nat.le_refl _)
    refine ⟨zs, h1.symm, by rw [h1]; exact Nat.le_trans hl hm, ?_, h3⟩
    by_cases h0 : zs = []
    · subst h0
      exact .empty _ _
    · have hpos : 0 < zs.length := List.length_pos_iff.2 h0
      have hv : 0 < vs.length := by rw [h2]; exact Nat.mul_pos (by omega) hz
      obtain ⟨b, off, spot⟩ := a'
      have c0 := h4 0 hv
      rw [List.getElem?_eq_getElem hv] at c0
      have hs : spot = none := by simpa [Addr.add] using World.cell?_spot c0
      subst hs
      refine .row b off _ cap _ vs (by rw [h1]; exact hl) (by simpa [Addr.add] using World.block_lt_of_cell? w _ c0) (by rw [flat_length hf, h1, h2]) (fun i hi => ?_) h5
      have := h4 i hi
      rwa [Addr.add_lit] at this

theorem open_int_cell {t : TypeId} (ht : P.underlying t = some (.int .i64)) {n : Nat} {v : Value} {y : DataW H × List MemPlace} (h : DataW.trod enc P w base spare held n t [v] = some y) : ∃ k : Int, v = .int .i64 k ∧ (Lit.int .i64 k).wf = true := by
  obtain ⟨k, e, _, hw⟩ := DataW.trod_int ht h
  exact ⟨k, by simpa using e, hw⟩
theorem open_string_cell {t : TypeId} (ht : P.underlying t = some .string) {n : Nat} {v : Value} {y : DataW H × List MemPlace} (h : DataW.trod enc P w base spare held n t [v] = some y) : ∃ s : ByteArray, v = .string s ∧ s.size ≤ maxLen := by
  obtain ⟨s, e, _, hs⟩ := DataW.trod_string ht h
  exact ⟨s, by simpa using e, hs⟩
theorem open_bool_cell {t : TypeId} (ht : P.underlying t = some .bool) {n : Nat} {v : Value} {y : DataW H × List MemPlace} (h : DataW.trod enc P w base spare held n t [v] = some y) : ∃ b : Bool, v = .bool b := by
  obtain ⟨b, e, _⟩ := DataW.trod_bool ht h
  exact ⟨b, by simpa using e⟩
theorem open_slice_cell {t e : TypeId} (ht : P.underlying t = some (.slice e)) {n : Nat} {v : Value} {y : DataW H × List MemPlace} (h : DataW.trod enc P w base spare held n t [v] = some y) : ∃ a len cap, v = .slice a len cap := by
  rcases DataW.trod_slice ht h with ⟨h0, _⟩ | ⟨a', l', c', _, _, _, _, h0, _⟩
  · exact ⟨none, 0, 0, by simpa using h0⟩
  · exact ⟨some a', l', c', by simpa using h0⟩
end
theorem agg_of1 {cs : Array Value} {n : Nat} (h : cs.size = n) (hn : n = 1) : ∃ u0, Value.agg cs = .agg #[u0] := by
  subst hn
  obtain ⟨l⟩ := cs
  match l, h with
  | [u0], _ => exact ⟨u0, rfl⟩
theorem agg_of3 {cs : Array Value} {n : Nat} (h : cs.size = n) (hn : n = 3) : ∃ u0 u1 u2, Value.agg cs = .agg #[u0, u1, u2] := by
  subst hn
  obtain ⟨l⟩ := cs
  match l, h with
  | [u0, u1, u2], _ => exact ⟨u0, u1, u2, rfl⟩
end Go.Proofs.YthnppodnjokaoaaGreatDoor
namespace Go.Proofs.YthnppodnjokaoaaGreatDoor
open Go.RowKit

section
variable {H : Type} (enc : TypeId × Value → H) (P : Program) (w : World) (base : Nat) (spare : Nat → Bool) (held : Bool)
/-- What is read at type t lies as L says. -/
def Opens {α : Type} (t : TypeId) (L : Lay α) : Prop :=
  ∀ n cs y, DataW.trod enc P w base spare held n t cs = some y → ∃ z : α, L.fit z ∧ cs.length = L.sz ∧ ∀ j (hj : j < cs.length) (hj' : j < (L.cells z).length), RD w cs[j] (L.cells z)[j]
end
section
variable {H : Type} {enc : TypeId × Value → H} {P : Program} {w : World} {base : Nat} {spare : Nat → Bool} {held : Bool}
theorem Opens.int {t : TypeId} (ht : P.underlying t = some (.int .i64)) : Opens enc P w base spare held t Lay.int := by
  intro n cs y h
  obtain ⟨k, rfl, _, hw⟩ := DataW.trod_int ht h
  refine ⟨k, hw, rfl, fun j hj hj' => ?_⟩
  match j, hj with
  | 0, _ => exact .val _
theorem Opens.str {t : TypeId} (ht : P.underlying t = some .string) : Opens enc P w base spare held t Lay.str := by
  intro n cs y h
  obtain ⟨s, rfl, _, hs⟩ := DataW.trod_string ht h
  refine ⟨s, hs, rfl, fun j hj hj' => ?_⟩
  match j, hj with
  | 0, _ => exact .val _
theorem Opens.bool {t : TypeId} (ht : P.underlying t = some .bool) : Opens enc P w base spare held t Lay.bool := by
  intro n cs y h
  obtain ⟨b, rfl, _⟩ := DataW.trod_bool ht h
  refine ⟨b, trivial, rfl, fun j hj hj' => ?_⟩
  match j, hj with
  | 0, _ => exact .val _
theorem Opens.list {α : Type} {L : Lay α} {t e : TypeId} (ht : P.underlying t = some (.slice e)) (hc : P.cellsOf e = L.sz) (he : Opens enc P w base spare held e L) : Opens enc P w base spare held t (Lay.list L) := by
  intro n cs y h
  obtain ⟨a, len, cap, rfl⟩ : ∃ a len cap, cs = [.slice a len cap] := by
    rcases DataW.trod_slice ht h with ⟨h0, _⟩ | ⟨a', l', c', _, _, _, _, h0, _⟩
    · exact ⟨none, 0, 0, h0⟩
    · exact ⟨some a', l', c', h0⟩
  obtain ⟨zs, rfl, h2, h3, h4⟩ := open_dat L.cells L.len L.pos L.fit ht hc (fun n _ cs y hy => by
    obtain ⟨z, hz, _, hr⟩ := he n cs y hy
    exact ⟨z, hz, hr⟩) h
  refine ⟨zs, ⟨h2, h4⟩, rfl, fun j hj hj' => ?_⟩
  match j, hj with
  | 0, _ => exact h3
/-- An argument that is a slice. -/
theorem Opens.slice {α : Type} {L : Lay α} {t : TypeId} (he : Opens enc P w base spare held t (Lay.list L)) {n : Nat} {a : Option Addr} {len cap : Nat} {y : DataW H × List MemPlace} (h : DataW.trod enc P w base spare held n t [.slice a len cap] = some y) :
    ∃ zs : List α, len = zs.length ∧ (Lay.list L).fit zs ∧ RD w (.slice a zs.length cap) (slD L zs) := by
  obtain ⟨zs, hf, _, hr⟩ := he n _ y h
  have r : RD w (.slice a len cap) (slD L zs) := hr 0 (by simp) (by simp [Lay.cells_list])
  have e := r.lenL
  subst e
  exact ⟨zs, rfl, hf, r⟩
end
end Go.Proofs.YthnppodnjokaoaaGreatDoor
namespace Go.Proofs.YthnppodnjokaoaaGreatDoor
open Go.RowKit

/-- As the program has it. -/
structure Gm where
  parts : (List (List (List Int)))
def Lay.gram : Lay Gm := { cells := fun x => [slD (Lay.list (Lay.list Lay.int)) x.parts], sz := 1, len := fun _ => rfl, pos := by decide, wt := fun x => (Lay.list (Lay.list (Lay.list Lay.int))).wt x.parts, fit := fun x => (Lay.list (Lay.list (Lay.list Lay.int))).fit x.parts }
theorem Lay_gram_wt (x : Gm) : Lay.gram.wt x = (Lay.list (Lay.list (Lay.list Lay.int))).wt x.parts := rfl
theorem Lay_gram_fit (x : Gm) : Lay.gram.fit x = ((Lay.list (Lay.list (Lay.list Lay.int))).fit x.parts) := rfl

section
variable {H : Type} {enc : TypeId × Value → H} {P : Program} {w : World} {base : Nat} {spare : Nat → Bool} {held : Bool}
theorem Opens.gram {t : TypeId} {f0 : Field} (hu : P.underlying t = some (.struct #[f0])) (o0 : f0.offset = 0) (s0 : P.cellsOf f0.type = 1) (h0 : Opens enc P w base spare held f0.type (Lay.list (Lay.list (Lay.list Lay.int)))) (hc : P.cellsOf t = 1) : Opens enc P w base spare held t Lay.gram := by
  intro n cs y h
  obtain ⟨xs, m, _, _, hl, hlen, hf⟩ := DataW.trod_struct hu h
  rw [hc] at hl
  match xs, hlen, cs, hl with
  | [y0], _, [v0], _ =>
    have g0 := hf 0 f0 rfl
    rw [o0, s0] at g0
    obtain ⟨z0, fit0, _, r0⟩ := h0 m _ y0 (by simpa using g0)
    refine ⟨⟨z0⟩, fit0, rfl, fun j hj hj' => ?_⟩
    match j, hj with
    | 0, _ => exact r0 0 (by simp) (by rw [(Lay.list (Lay.list (Lay.list Lay.int))).len]; decide)
end

theorem eqGram_l (x : Gm) (a0 b0 : Option Addr) (c0 d0 : Nat) (w : World) (h0 : RD w (.slice a0 x.parts.length c0) (slD (Lay.list (Lay.list Lay.int)) x.parts)) (g0 : RD w (.slice b0 x.parts.length d0) (slD (Lay.list (Lay.list Lay.int)) x.parts)) (hn : Lay.gram.wt x ≤ 4194304) :
    Calls Tryz.prog 9 #[.agg #[.slice a0 x.parts.length c0], .agg #[.slice b0 x.parts.length d0]] w fun e w' => e = .returned (.bool true) ∧ Below w.heap.size w w' := by
  rw [Lay_gram_wt] at hn
  have B := ((Below.refl w.heap.size w).alloc (Nat.le_refl _) (.cells #[.slice a0 x.parts.length c0] 29)).alloc (by simp) (.cells #[.slice b0 x.parts.length d0] 29)
  have X : Hid (∀ W : World, Below w.heap.size w W → Calls Tryz.prog 18 #[.slice a0 x.parts.length c0, .slice b0 x.parts.length d0] W fun e w' => e = .returned (.bool true) ∧ Below W.heap.size W w') :=
    fun W hW => eqIntSSS_l x.parts a0 b0 c0 d0 W (h0.later hW) (g0.later hW) hn
  clear h0 g0 hn
  generalize x.parts = y at *
  go_enter Tryz.func9, Tryz.ntmps9
  go_wp2_with fail
  refine (X.out _ B).mono ?_
  rintro e w1 ⟨rfl, hb⟩
  go_wp2
  go_ret
  exact ⟨rfl, B.trans (hb.mono B.size)⟩

set_option maxRecDepth 100000 in
theorem szGram_l (x : Gm) (a0 : Option Addr) (c0 : Nat) (l : Int) (w : World) (h0 : RD w (.slice a0 x.parts.length c0) (slD (Lay.list (Lay.list Lay.int)) x.parts)) (hf : Lay.gram.fit x) (hl0 : 0 ≤ l) (hl1 : l ≤ 1048576) :
    Calls Tryz.prog 4 #[.agg #[.slice a0 x.parts.length c0], .int .i64 l] w fun e w' => ∃ r, e = .returned (.int .i64 r) ∧ SzE (Lay.gram.wt x) l r ∧ Below w.heap.size w w' := by
  rw [Lay_gram_wt]
  rw [Lay_gram_fit] at hf
  have B := (Below.refl w.heap.size w).alloc (Nat.le_refl _) (.cells #[.slice a0 x.parts.length c0] 24)
  have X : Hid (∀ W : World, Below w.heap.size w W → Calls Tryz.prog 11 #[.slice a0 x.parts.length c0, .int .i64 l] W fun e w' => ∃ r, e = .returned (.int .i64 r) ∧ SzE ((Lay.list (Lay.list (Lay.list Lay.int))).wt x.parts) l r ∧ Below W.heap.size W w') :=
    fun W hW => szIntSSS_l x.parts a0 c0 l W (h0.later hW) hf hl0 hl1
  clear h0 hf
  generalize (Lay.list (Lay.list (Lay.list Lay.int))).wt x.parts = wk at *
  generalize x.parts = y at *
  go_enter Tryz.func4, Tryz.ntmps4
  go_wp2_with fail
  refine (X.out _ B).mono ?_
  rintro e w1 ⟨r, rfl, hr, hb⟩
  have B1 := B.trans (hb.mono B.size)
  clear X
  rcases hr with rfl | ⟨hr0, hr1⟩
  · go_wp2
    go_ret
    exact ⟨_, rfl, .inl rfl, B1⟩
  · have HR : Hid (r = l - wk) := hr1
    clear hr1
    go_wp2
    go_ret
    exact ⟨_, rfl, .inr ⟨hr0, HR.out⟩, B1⟩

set_option maxRecDepth 100000 in
theorem toGram_l (x : Gm) (a0 : Option Addr) (c0 : Nat) (w : World) (h0 : RD w (.slice a0 x.parts.length c0) (slD (Lay.list (Lay.list Lay.int)) x.parts)) (hn : Lay.gram.wt x ≤ 1048576) :
    Calls Tryz.prog 6 #[.agg #[.slice a0 x.parts.length c0]] w fun e w' => ∃ a1 c1 S, e = .returned (.agg #[.slice a1 x.parts.length c1]) ∧ Cells w' w.heap.size [.slice a1 x.parts.length c1] (Lay.gram.cells x) S ∧ Below w.heap.size w w' := by
  show Calls _ _ _ _ fun e w' => ∃ a1 c1 S, e = .returned (.agg #[.slice a1 x.parts.length c1]) ∧ Cells w' w.heap.size [.slice a1 x.parts.length c1] [slD (Lay.list (Lay.list Lay.int)) x.parts] S ∧ Below w.heap.size w w'
  rw [Lay_gram_wt] at hn
  have X : Hid (∀ W : World, Below w.heap.size w W → Calls Tryz.prog 15 #[.slice a0 x.parts.length c0] W fun e w' => ∃ v S, e = .returned v ∧ OD w' W.heap.size v (slD (Lay.list (Lay.list Lay.int)) x.parts) S ∧ Below W.heap.size W w') :=
    fun W hW => toIntSSS_l x.parts a0 c0 W (h0.later hW) hn
  clear h0 hn
  generalize x.parts = y at *
  have B : Below w.heap.size w (((w.alloc (.cells #[.slice a0 y.length c0] 24)).alloc (.cells #[.slice none 0 0] 29)).alloc (.cells #[.slice none 0 0] 29)) :=
    (((Below.refl _ _).alloc (Nat.le_refl _) _).alloc (by simp) _).alloc (by simp; omega) _
  go_enter Tryz.func6, Tryz.ntmps6
  go_wp2_with fail
  refine (X.out _ B).mono ?_
  rintro e w1 ⟨v, S, rfl, O1, hb1⟩
  obtain ⟨hc, hf⟩ := bcellH hb1
  have hz := hb1.size
  simp only [World.size_alloc] at hc hf hz
  have B1 := B.trans (hb1.mono B.size)
  obtain ⟨a1, c1, rfl, _⟩ := OD.shapeL O1
  clear X B hb1
  go_wp2
  refine bodyPost_ret (v := .agg #[.slice a1 y.length c1]) (by simp [results, Tryz.results6, go_sem, hc]) rfl ⟨a1, c1, S, rfl, ?_, ?_⟩
  · have hW : Within w1 ((w1.setCell ⟨w.heap.size + 1 + 1, 0, none⟩ (.slice a1 y.length c1)).setCell ⟨w.heap.size + 1, 0, none⟩ (.slice a1 y.length c1)) (fun k => k < w.heap.size + 1 + 1 + 1) :=
      ((Within.refl _ _).setCell _ _ (by simp)).setCell _ _ (by simp)
    refine Cells.last [] ((O1.kept hW (fun k hk hk2 => ?_)).base (by simp; omega))
    have := (O1.lt k hk).1
    simp at this
    omega
  · exact (B1.setCell (p := ⟨w.heap.size + 1 + 1, 0, none⟩) (by simp; omega) _).setCell (p := ⟨w.heap.size + 1, 0, none⟩) (by simp) _

end Go.Proofs.YthnppodnjokaoaaGreatDoor
namespace Go.Proofs.YthnppodnjokaoaaGreatDoor
open Go.RowKit

/-- What GramOk answers. -/
def resGramOk (x : Gm) : Bool := gramOkB x.parts

set_option maxHeartbeats 1000000 in
set_option maxRecDepth 100000 in
theorem specGramOk_any (x : Gm) (a0 : Option Addr) (c0 : Nat) (w : World) (h0 : RD w (.slice a0 x.parts.length c0) (slD (Lay.list (Lay.list Lay.int)) x.parts)) (hn : Lay.gram.wt x ≤ 1048576) (_ : Lay.gram.fit x) :
    Calls Tryz.prog 46 #[.agg #[.slice a0 x.parts.length c0]] w fun e w' => e = .returned (.bool (resGramOk x)) ∧ Below w.heap.size w w' := by
  unfold resGramOk
  rw [Lay_gram_wt, Lay.wt_list] at hn
  have B := (Below.refl w.heap.size w).alloc (Nat.le_refl _) (.cells #[.slice a0 x.parts.length c0] 29)
  have HR : Hid (RD (w.alloc (.cells #[.slice a0 x.parts.length c0] 29)) (.slice a0 x.parts.length c0) (slD (Lay.list (Lay.list Lay.int)) x.parts)) := h0.later B
  clear h0
  generalize x.parts = P at *
  by_cases hbig : inB P.length 1 20 = true
  · have hb2 := inB_true.1 hbig
    go_enter Tryz.func46, Tryz.ntmps46
    go_wp2_with (first | (go_at_call 21; refine (l1In_any _ _ _ _).mono ?_; rintro e w' ⟨rfl, rfl⟩))
    go_loop [4] (fun s4 => ∃ k : Nat, k ≤ P.length ∧ s4 = .int .i64 k ∧ Hid ((P.take k).all (partOk P.length) = true)) (fun s4 => P.length - (intOf s4).toNat)
    case atStart => exact ⟨0, Nat.zero_le _, rfl, by show _ = _; simp⟩
    case round =>
      obtain ⟨k, hk, rfl, HK⟩ := hrel
      by_cases hlt : k < P.length
      · obtain ⟨b1, o1, rfl, hb1, a1, c1, q0, r1⟩ := HR.out.listAt hlt
        have HR1 : Hid (RD (w.alloc (.cells #[.slice (some ⟨b1, o1, none⟩) P.length c0] 29)) (.slice a1 P[k].length c1) (slD (Lay.list Lay.int) P[k])) := r1
        have hw1 : P[k].length ≤ 4194304 := by have := Lay.sumL_at (Lay.list (Lay.list Lay.int)) hlt; rw [Lay.wt_list] at this; omega
        have HKs : Hid (partOk P.length P[k] = true → (P.take (k + 1)).all (partOk P.length) = true) := fun g => all_step HK.out hlt g
        have HKn : Hid (partOk P.length P[k] = false → gramOkB P = false) := fun g => gramOkB_no (all_no hlt g)
        clear r1 HR HK
        generalize P[k] = Q at *
        by_cases hq : inB Q.length 1 8 = true
        · have hq2 := inB_true.1 hq
          go_wp2_with (first | (go_at_call 21; refine (l1In_any _ _ _ _).mono ?_; rintro e w' ⟨rfl, rfl⟩))
          go_loop [5] (fun s5 => ∃ i : Nat, i ≤ Q.length ∧ s5 = .int .i64 i ∧ Hid ((Q.take i).all (rowOk P.length) = true)) (fun s5 => Q.length - (intOf s5).toNat)
          case atStart => exact ⟨0, Nat.zero_le _, rfl, by show _ = _; simp⟩
          case round =>
            obtain ⟨i, hi, rfl, HI⟩ := hrel
            by_cases hlt2 : i < Q.length
            · obtain ⟨b2, o2, rfl, hb2', a2, c2, q1, r2⟩ := HR1.out.listAt hlt2
              have R2 : Hid (Reads (w.alloc (.cells #[.slice (some ⟨b1, o1, none⟩) P.length c0] 29)) a2 Q[i]) := r2.reads
              have HIs : Hid (rowOk P.length Q[i] = true → (Q.take (i + 1)).all (rowOk P.length) = true) := fun g => all_step HI.out hlt2 g
              have HIn : Hid (rowOk P.length Q[i] = false → gramOkB P = false) := fun g => HKn.out (partOk_no (all_no hlt2 g))
              clear r2 HR1 HI
              generalize Q[i] = R at *
              by_cases hr : R.length ≤ 8
              · go_wp2
                go_loop [7] (fun s7 => ∃ j : Nat, j ≤ R.length ∧ s7 = .int .i64 j ∧ Hid ((R.take j).all (symOk P.length) = true)) (fun s7 => R.length - (intOf s7).toNat)
                case atStart => exact ⟨0, Nat.zero_le _, rfl, by show _ = _; simp⟩
                case round =>
                  obtain ⟨j, hj, rfl, HJ⟩ := hrel
                  by_cases hlt3 : j < R.length
                  · obtain ⟨b3, o3, rfl, hb3, q2'⟩ := R2.out.at hlt3
                    have q2 := q2' j hlt3
                    rw [List.getD_eq_getElem?_getD, List.getElem?_eq_getElem hlt3, Option.getD_some] at q2
                    have HJs : Hid (symOk P.length R[j] = true → (R.take (j + 1)).all (symOk P.length) = true) := fun g => all_step HJ.out hlt3 g
                    have HJn : Hid (symOk P.length R[j] = false → gramOkB P = false) := fun g => HIn.out (rowOk_no (all_no hlt3 g))
                    clear q2' R2 HJ
                    generalize R[j] = z at *
                    by_cases z1 : inB z 0 25 = true
                    · go_wp2_with (first | (go_at_call 21; refine (l1In_any _ _ _ _).mono ?_; rintro e w' ⟨rfl, rfl⟩))
                      go_round
                      case rel => exact ⟨j + 1, by omega, by go_num, HJs.out (by simp [symOk, z1])⟩
                      case measure => simp [intOf]; omega
                    · have z1' : inB z 0 25 = false := by simpa using z1
                      clear z1
                      by_cases z2 : inB z 100 (100 + P.length - 1) = true
                      · go_wp2_with (first | (go_at_call 21; refine (l1In_any _ _ _ _).mono ?_; rintro e w' ⟨rfl, rfl⟩))
                        go_round
                        case rel => exact ⟨j + 1, by omega, by go_num, HJs.out (by simp [symOk, z2])⟩
                        case measure => simp [intOf]; omega
                      · have z2' : inB z 100 (100 + P.length - 1) = false := by simpa using z2
                        clear z2
                        go_wp2_with (first | (go_at_call 21; refine (l1In_any _ _ _ _).mono ?_; rintro e w' ⟨rfl, rfl⟩))
                        go_ret
                        exact ⟨ret_bool (by rw [HJn.out (by simp [symOk, z1', z2'])]), B⟩
                  · have HE : Hid (R.all (symOk P.length) = true) := all_end HJ.out hlt3
                    clear R2 HJ
                    go_wp2
                    go_round
                    case rel => exact ⟨i + 1, by omega, by go_num, HIs.out (rowOk_yes hr HE.out)⟩
                    case measure => simp [intOf]; omega
              · go_wp2
                go_ret
                exact ⟨ret_bool (by rw [HIn.out (rowOk_long hr)]), B⟩
            · have HE : Hid (Q.all (rowOk P.length) = true) := all_end HI.out hlt2
              clear HR1 HI
              go_wp2
              go_round
              case rel => exact ⟨k + 1, by omega, by go_num, HKs.out (partOk_yes hq HE.out)⟩
              case measure => simp [intOf]; omega
        · have hq2 : inB Q.length 1 8 = false := by simpa using hq
          clear hq
          go_wp2_with (first | (go_at_call 21; refine (l1In_any _ _ _ _).mono ?_; rintro e w' ⟨rfl, rfl⟩))
          go_ret
          exact ⟨ret_bool (by rw [HKn.out (partOk_many hq2)]), B⟩
      · have HE : Hid (P.all (partOk P.length) = true) := all_end HK.out hlt
        clear HR HK
        go_wp2
        go_ret
        exact ⟨ret_bool (by rw [gramOkB_yes hbig HE.out]), B⟩
  · have hb2 : inB P.length 1 20 = false := by simpa using hbig
    clear hbig
    go_enter Tryz.func46, Tryz.ntmps46
    go_wp2_with (first | (go_at_call 21; refine (l1In_any _ _ _ _).mono ?_; rintro e w' ⟨rfl, rfl⟩))
    go_ret
    exact ⟨ret_bool (by rw [gramOkB_many hb2]), B⟩
end Go.Proofs.YthnppodnjokaoaaGreatDoor
namespace Go.Proofs.YthnppodnjokaoaaGreatDoor
open Go.RowKit

theorem wf_i64 {z : Int} (h : (Lit.int .i64 z).wf = true) : -9223372036854775808 ≤ z ∧ z ≤ 9223372036854775807 := bounds_i64 h
theorem fit_ints {zs : List Int} (h : (Lay.list Lay.int).fit zs) : ∀ z ∈ zs, -9223372036854775808 ≤ z ∧ z ≤ 9223372036854775807 := fun z hz => wf_i64 (h.2 z hz)
theorem part_upto {n : Nat} {x : Int} : inB x 100 (100 + n - 1) = decide (100 ≤ x ∧ x - 100 < n) := by
  rw [Bool.eq_iff_iff]; simp [inB]; omega

theorem isLetter_any (x : Int) (w : World) : Calls Tryz.prog 71 #[.int .i64 x] w fun e w' => e = .returned (.bool (inB x 0 25)) ∧ w' = w := by
  by_cases h1 : 0 ≤ x
  · by_cases h2 : x ≤ 25
    · go_enter Tryz.func71, Tryz.ntmps71
      go_wp2
      go_ret
      exact ⟨ret_bool (by simp [inB, h1, h2]), rfl⟩
    · go_enter Tryz.func71, Tryz.ntmps71
      go_wp2
      go_ret
      exact ⟨ret_bool (by simp [inB, h1, h2]), rfl⟩
  · go_enter Tryz.func71, Tryz.ntmps71
    go_wp2
    go_ret
    exact ⟨ret_bool (by simp [inB]; omega), rfl⟩

theorem isPartOf_any (n : Nat) (a : Option Addr) (c : Nat) (x : Int) (w : World) (hx : x ≤ 9223372036854775807) (_ : n ≤ 1048576) :
    Calls Tryz.prog 74 #[.agg #[.slice a n c], .int .i64 x] w fun e w' => e = .returned (.bool (inB x 100 (100 + n - 1))) ∧ Below w.heap.size w w' := by
  have B := (Below.refl w.heap.size w).alloc (Nat.le_refl _) (.cells #[.slice a n c] 29)
  rw [part_upto]
  by_cases h1 : 100 ≤ x
  · by_cases h2 : x - 100 < n
    · go_enter Tryz.func74, Tryz.ntmps74
      go_wp2
      go_ret
      exact ⟨ret_bool (decide_eq_true ⟨h1, h2⟩).symm, B⟩
    · go_enter Tryz.func74, Tryz.ntmps74
      go_wp2
      go_ret
      exact ⟨ret_bool (decide_eq_false (fun h => by omega)).symm, B⟩
  · go_enter Tryz.func74, Tryz.ntmps74
    go_wp2
    go_ret
    exact ⟨ret_bool (by simp; intro h; omega), B⟩

set_option maxRecDepth 100000 in
theorem symbolsOf_any (n : Nat) (a : Option Addr) (c : Nat) (zs : List Int) (a1 : Option Addr) (c1 : Nat) (w : World) (h : Reads w a1 zs) (hn : n ≤ 1048576) (hl : zs.length ≤ 1048576) (hz : ∀ z ∈ zs, -9223372036854775808 ≤ z ∧ z ≤ 9223372036854775807) :
    Calls Tryz.prog 61 #[.agg #[.slice a n c], .slice a1 zs.length c1] w fun e w' => e = .returned (.bool (zs.all (symOk n))) ∧ Below w.heap.size w w' := by
  have HZ : Hid (∀ z ∈ zs, -9223372036854775808 ≤ z ∧ z ≤ 9223372036854775807) := hz
  have B0 := (Below.refl w.heap.size w).alloc (Nat.le_refl _) (.cells #[.slice a n c] 29)
  have q0 : (w.alloc (.cells #[.slice a n c] 29)).cell? ⟨w.heap.size, 0, none⟩ = some (.slice a n c) := by simp
  clear hz
  go_enter Tryz.func61, Tryz.ntmps61
  go_wp2
  go_loopw [9] (fun s9 wr => ∃ k : Nat, k ≤ zs.length ∧ s9 = .int .i64 k ∧ Hid ((zs.take k).all (symOk n) = true) ∧ Below w.heap.size w wr ∧ wr.cell? ⟨w.heap.size, 0, none⟩ = some (.slice a n c)) (fun s9 _ => zs.length - (intOf s9).toNat)
  case atStart => exact ⟨0, Nat.zero_le _, rfl, by show _ = _; simp, B0, q0⟩
  case round =>
    obtain ⟨k, hk, rfl, HK, hbel, qk⟩ := hrel
    clear q0 B0
    have hwl : w.heap.size < wr.heap.size := World.block_lt_of_cell? wr _ qk
    by_cases hlt : k < zs.length
    · obtain ⟨b, off, rfl, hb, hc⟩ := (h.below hbel).at hlt
      have q1 := hc k hlt
      rw [List.getD_eq_getElem?_getD, List.getElem?_eq_getElem hlt, Option.getD_some] at q1
      have hr := (HZ.out zs[k] (List.getElem_mem hlt)).2
      have HS : Hid (symOk n zs[k] = true → (zs.take (k + 1)).all (symOk n) = true) := fun g => all_step HK.out hlt g
      have HN : Hid (symOk n zs[k] = false → zs.all (symOk n) = false) := fun g => all_no hlt g
      clear hc h HK
      generalize zs[k] = z at *
      by_cases z1 : inB z 0 25 = true
      · go_wp2_with (go_at_call 71; refine (isLetter_any _ _).mono ?_; rintro e w' ⟨rfl, rfl⟩)
        go_roundw
        case rel => exact ⟨k + 1, by omega, by go_num, HS.out (by simp [symOk, z1]), hbel, qk⟩
        case measure => simp [intOf]; omega
      · have z1' : inB z 0 25 = false := by simpa using z1
        clear z1
        by_cases z2 : inB z 100 (100 + n - 1) = true
        · go_wp2_with (first | (go_at_call 71; refine (isLetter_any _ _).mono ?_; rintro e w' ⟨rfl, rfl⟩) | (go_at_call 74; refine (isPartOf_any n a c _ _ hr hn).mono ?_; rintro e w1 ⟨rfl, hb1⟩))
          go_roundw
          case rel => exact ⟨k + 1, by omega, by go_num, HS.out (by simp [symOk, z2]), hbel.trans (hb1.mono hbel.size), (hb1.cell (p := ⟨w.heap.size, 0, none⟩) hwl).trans qk⟩
          case measure => simp [intOf]; omega
        · have z2' : inB z 100 (100 + n - 1) = false := by simpa using z2
          clear z2
          go_wp2_with (first | (go_at_call 71; refine (isLetter_any _ _).mono ?_; rintro e w' ⟨rfl, rfl⟩) | (go_at_call 74; refine (isPartOf_any n a c _ _ hr hn).mono ?_; rintro e w1 ⟨rfl, hb1⟩))
          go_ret
          exact ⟨ret_bool (by rw [HN.out (by simp [symOk, z1', z2'])]), hbel.trans (hb1.mono hbel.size)⟩
    · have HE : Hid (zs.all (symOk n) = true) := all_end HK.out hlt
      clear h HK
      go_wp2
      go_ret
      exact ⟨ret_bool (by rw [HE.out]), hbel⟩

set_option maxRecDepth 100000 in
theorem altsOk_any (n : Nat) (a : Option Addr) (c : Nat) (Q : List (List Int)) (a1 : Option Addr) (c1 : Nat) (w : World) (h : RD w (.slice a1 Q.length c1) (slD (Lay.list Lay.int) Q)) (hn : n ≤ 1048576) (hl : (Lay.list (Lay.list Lay.int)).wt Q ≤ 1048576) (hf : (Lay.list (Lay.list Lay.int)).fit Q) :
    Calls Tryz.prog 59 #[.agg #[.slice a n c], .slice a1 Q.length c1] w fun e w' => e = .returned (.bool (partOk n Q)) ∧ Below w.heap.size w w' := by
  have HF : Hid ((Lay.list (Lay.list Lay.int)).fit Q) := hf
  have HL : Hid (∀ row ∈ Q, row.length ≤ 1048576) := by
    intro row hrow
    obtain ⟨i, hi, rfl⟩ := List.getElem_of_mem hrow
    have := Lay.sumL_at (Lay.list Lay.int) hi
    rw [Lay.wt_list] at hl
    rw [Lay.wt_ints] at this
    omega
  rw [Lay.wt_list] at hl
  have hq : Q.length ≤ 1048576 := by omega
  clear hf hl
  by_cases hbig : inB Q.length 1 8 = true
  · have hb2 := inB_true.1 hbig
    have B0 := (Below.refl w.heap.size w).alloc (Nat.le_refl _) (.cells #[.slice a n c] 29)
    have q0 : (w.alloc (.cells #[.slice a n c] 29)).cell? ⟨w.heap.size, 0, none⟩ = some (.slice a n c) := by simp
    go_enter Tryz.func59, Tryz.ntmps59
    go_wp2
    go_loopw [17] (fun s wr => ∃ k : Nat, k ≤ Q.length ∧ s = .int .i64 k ∧ Hid ((Q.take k).all (rowOk n) = true) ∧ Below w.heap.size w wr ∧ wr.cell? ⟨w.heap.size, 0, none⟩ = some (.slice a n c)) (fun s _ => Q.length - (intOf s).toNat)
    case atStart => exact ⟨0, Nat.zero_le _, rfl, by show _ = _; simp, B0, q0⟩
    case round =>
      obtain ⟨k, hk, rfl, HK, hbel, qk⟩ := hrel
      clear q0 B0
      have hwl : w.heap.size < wr.heap.size := World.block_lt_of_cell? wr _ qk
      by_cases hlt : k < Q.length
      · obtain ⟨b, off, rfl, hb, a2, c2, q1, r2⟩ := (h.later hbel).listAt hlt
        have hrl := HL.out Q[k] (List.getElem_mem hlt)
        have HS : Hid (rowOk n Q[k] = true → (Q.take (k + 1)).all (rowOk n) = true) := fun g => all_step HK.out hlt g
        have HN : Hid (rowOk n Q[k] = false → partOk n Q = false) := fun g => partOk_no (all_no hlt g)
        have X : Hid (Calls Tryz.prog 61 #[.agg #[.slice a n c], .slice a2 Q[k].length c2] wr fun e w' => e = .returned (.bool (Q[k].all (symOk n))) ∧ Below wr.heap.size wr w') :=
          symbolsOf_any n a c Q[k] a2 c2 wr r2.reads hn hrl (fit_ints (HF.out.2 _ (List.getElem_mem hlt)))
        clear h r2 HK
        generalize Q[k] = R at *
        by_cases hr : R.length ≤ 8
        · by_cases hs : R.all (symOk n) = true
          · rw [hs] at X
            go_wp2_with (go_at_call 61; refine X.out.mono ?_; rintro e w1 ⟨rfl, hb1⟩)
            go_roundw
            case rel => exact ⟨k + 1, by omega, by go_num, HS.out (rowOk_yes hr hs), hbel.trans (hb1.mono hbel.size), (hb1.cell (p := ⟨w.heap.size, 0, none⟩) hwl).trans qk⟩
            case measure => simp [intOf]; omega
          · have hs' : R.all (symOk n) = false := by simpa using hs
            rw [hs'] at X
            clear hs
            go_wp2_with (go_at_call 61; refine X.out.mono ?_; rintro e w1 ⟨rfl, hb1⟩)
            go_ret
            exact ⟨ret_bool (by rw [HN.out (rowOk_no hs')]), hbel.trans (hb1.mono hbel.size)⟩
        · clear X
          go_wp2
          go_ret
          exact ⟨ret_bool (by rw [HN.out (rowOk_long hr)]), hbel⟩
      · have HE : Hid (Q.all (rowOk n) = true) := all_end HK.out hlt
        clear h HK
        go_wp2
        go_ret
        exact ⟨ret_bool (by rw [partOk_yes hbig HE.out]), hbel⟩
  · have hb2 : inB Q.length 1 8 = false := by simpa using hbig
    have hb3 := inB_false.1 hb2
    have B0 := (Below.refl w.heap.size w).alloc (Nat.le_refl _) (.cells #[.slice a n c] 29)
    clear hbig
    by_cases h1 : 1 ≤ Q.length
    · have h2 : 8 < Q.length := by omega
      go_enter Tryz.func59, Tryz.ntmps59
      go_wp2
      go_ret
      exact ⟨ret_bool (by rw [partOk_many hb2]), B0⟩
    · go_enter Tryz.func59, Tryz.ntmps59
      go_wp2
      go_ret
      exact ⟨ret_bool (by rw [partOk_many hb2]), B0⟩

set_option maxRecDepth 100000 in
theorem gramOk_any (x : Gm) (a0 : Option Addr) (c0 : Nat) (w : World) (h0 : RD w (.slice a0 x.parts.length c0) (slD (Lay.list (Lay.list Lay.int)) x.parts)) (hn : Lay.gram.wt x ≤ 1048576) (hf : Lay.gram.fit x) :
    Calls Tryz.prog 42 #[.agg #[.slice a0 x.parts.length c0]] w fun e w' => e = .returned (.bool (resGramOk x)) ∧ Below w.heap.size w w' := by
  unfold resGramOk
  rw [Lay_gram_wt, Lay.wt_list] at hn
  rw [Lay_gram_fit] at hf
  have h := h0
  have HF : Hid ((Lay.list (Lay.list (Lay.list Lay.int))).fit x.parts) := hf
  have hnl : x.parts.length ≤ 1048576 := by omega
  have HL : Hid (∀ alts ∈ x.parts, (Lay.list (Lay.list Lay.int)).wt alts ≤ 1048576) := by
    intro alts hal
    obtain ⟨i, hi, rfl⟩ := List.getElem_of_mem hal
    have := Lay.sumL_at (Lay.list (Lay.list Lay.int)) hi
    omega
  clear h0 hn hf
  generalize x.parts = P at *
  have B0 := (Below.refl w.heap.size w).alloc (Nat.le_refl _) (.cells #[.slice a0 P.length c0] 29)
  by_cases hbig : inB P.length 1 20 = true
  · have hb2 := inB_true.1 hbig
    have q0 : (w.alloc (.cells #[.slice a0 P.length c0] 29)).cell? ⟨w.heap.size, 0, none⟩ = some (.slice a0 P.length c0) := by simp
    go_enter Tryz.func42, Tryz.ntmps42
    go_wp2
    go_loopw [18] (fun s wr => ∃ k : Nat, k ≤ P.length ∧ s = .int .i64 k ∧ Hid ((P.take k).all (partOk P.length) = true) ∧ Below w.heap.size w wr ∧ wr.cell? ⟨w.heap.size, 0, none⟩ = some (.slice a0 P.length c0)) (fun s _ => P.length - (intOf s).toNat)
    case atStart => exact ⟨0, Nat.zero_le _, rfl, by show _ = _; simp, B0, q0⟩
    case round =>
      obtain ⟨k, hk, rfl, HK, hbel, qk⟩ := hrel
      clear q0 B0
      have hwl : w.heap.size < wr.heap.size := World.block_lt_of_cell? wr _ qk
      by_cases hlt : k < P.length
      · obtain ⟨b, off, rfl, hb, a2, c2, q1, r2⟩ := (h.later hbel).listAt hlt
        have HS : Hid (partOk P.length P[k] = true → (P.take (k + 1)).all (partOk P.length) = true) := fun g => all_step HK.out hlt g
        have HN : Hid (partOk P.length P[k] = false → gramOkB P = false) := fun g => gramOkB_no (all_no hlt g)
        have X : Hid (Calls Tryz.prog 59 #[.agg #[.slice (some ⟨b, off, none⟩) P.length c0], .slice a2 P[k].length c2] wr fun e w' => e = .returned (.bool (partOk P.length P[k])) ∧ Below wr.heap.size wr w') :=
          altsOk_any P.length _ c0 P[k] a2 c2 wr r2 hnl (HL.out _ (List.getElem_mem hlt)) (HF.out.2 _ (List.getElem_mem hlt))
        clear h r2 HK
        generalize P[k] = R at *
        by_cases hs : partOk P.length R = true
        · rw [hs] at X
          go_wp2_with (go_at_call 59; refine X.out.mono ?_; rintro e w1 ⟨rfl, hb1⟩)
          go_roundw
          case rel => exact ⟨k + 1, by omega, by go_num, HS.out hs, hbel.trans (hb1.mono hbel.size), (hb1.cell (p := ⟨w.heap.size, 0, none⟩) hwl).trans qk⟩
          case measure => simp [intOf]; omega
        · have hs' : partOk P.length R = false := by simpa using hs
          rw [hs'] at X
          clear hs
          go_wp2_with (go_at_call 59; refine X.out.mono ?_; rintro e w1 ⟨rfl, hb1⟩)
          go_ret
          exact ⟨ret_bool (by rw [HN.out hs']), hbel.trans (hb1.mono hbel.size)⟩
      · have HE : Hid (P.all (partOk P.length) = true) := all_end HK.out hlt
        clear h HK
        go_wp2
        go_ret
        exact ⟨ret_bool (by rw [gramOkB_yes hbig HE.out]), hbel⟩
  · have hb2 : inB P.length 1 20 = false := by simpa using hbig
    have hb3 := inB_false.1 hb2
    clear hbig
    by_cases h1 : 1 ≤ P.length
    · have h2 : 20 < P.length := by omega
      go_enter Tryz.func42, Tryz.ntmps42
      go_wp2
      go_ret
      exact ⟨ret_bool (by rw [gramOkB_many hb2]), B0⟩
    · go_enter Tryz.func42, Tryz.ntmps42
      go_wp2
      go_ret
      exact ⟨ret_bool (by rw [gramOkB_many hb2]), B0⟩
end Go.Proofs.YthnppodnjokaoaaGreatDoor
namespace Go.Proofs.YthnppodnjokaoaaGreatDoor
open Go.RowKit

theorem specSetHas_same (a : Option Addr) (c : Nat) (zs : List Int) (x : Int) (w : World) (h : Reads w a zs) (hl : zs.length ≤ 1048576 * 4) :
    Calls Tryz.prog 48 #[.slice a zs.length c, .int .i64 x] w fun e w' => e = .returned (.bool (hasL zs x)) ∧ w' = w := by
  go_enter Tryz.func48, Tryz.ntmps48
  go_wp2
  go_loop [5] (fun i => ∃ k : Nat, k ≤ zs.length ∧ i = .int .i64 k ∧ x ∉ zs.take k) (fun i => zs.length - (intOf i).toNat)
  case atStart => exact ⟨0, Nat.zero_le _, rfl, by simp⟩
  case round =>
    obtain ⟨k, hk, rfl, hnot⟩ := hrel
    have HN : Hid (x ∉ zs.take k) := hnot
    clear hnot
    by_cases hlt : k < zs.length
    · obtain ⟨b1, o1, rfl, hb1, hc1⟩ := h.at hlt
      have hcx := hc1 k hlt
      go_wp2
      · go_ret
        exact ⟨ret_bool (hasL_yes (in_at hlt ‹_›)).symm, rfl⟩
      · go_round
        case rel => exact ⟨k + 1, by omega, by go_num, notin_step HN.out hlt ‹_›⟩
        case measure => simp [intOf]; omega
    · go_wp2
      go_ret
      exact ⟨ret_bool (hasL_no (notin_end HN.out hlt)).symm, rfl⟩

theorem specSetHas_any (a : Option Addr) (c : Nat) (zs : List Int) (x : Int) (w : World) (h : Reads w a zs) (hl : zs.length ≤ 1048576 * 4) :
    Calls Tryz.prog 48 #[.slice a zs.length c, .int .i64 x] w fun e w' => e = .returned (.bool (hasL zs x)) ∧ Below w.heap.size w w' := by
  refine (specSetHas_same a c zs x w h hl).mono ?_
  rintro e w' ⟨rfl, rfl⟩
  exact ⟨rfl, Below.refl _ _⟩

theorem index_any (a : Option Addr) (c : Nat) (zs : List Int) (x : Int) (w : World) (h : Reads w a zs) (hl : zs.length ≤ 1048576 * 4) :
    Calls Tryz.prog 25 #[.slice a zs.length c, .int .i64 x] w fun e w' => e = .returned (.int .i64 (idxL zs x)) ∧ Below w.heap.size w w' := by
  go_enter Tryz.func25, Tryz.ntmps25
  go_wp2
  go_loop [8] (fun i => ∃ k : Nat, k ≤ zs.length ∧ i = .int .i64 k ∧ x ∉ zs.take k) (fun i => zs.length - (intOf i).toNat)
  case atStart => exact ⟨0, Nat.zero_le _, rfl, by simp⟩
  case round =>
    obtain ⟨k, hk, rfl, hnot⟩ := hrel
    have HN : Hid (x ∉ zs.take k) := hnot
    clear hnot
    by_cases hlt : k < zs.length
    · obtain ⟨b1, o1, rfl, hb1, hc1⟩ := h.at hlt
      have hcx := hc1 k hlt
      go_wp2
      · go_ret
        exact ⟨ret_int (idxL_at HN.out hlt ‹_›).symm, Below.refl _ _⟩
      · go_round
        case rel => exact ⟨k + 1, by omega, by go_num, notin_step' HN.out hlt ‹_›⟩
        case measure => simp [intOf]; omega
    · go_wp2
      go_ret
      exact ⟨ret_int (idxL_no (notin_end HN.out hlt)).symm, Below.refl _ _⟩

end Go.Proofs.YthnppodnjokaoaaGreatDoor
namespace Go.Proofs.YthnppodnjokaoaaGreatDoor
open Go.RowKit

/-- A slice of integers, nil or a whole block's beginning, with its room. -/
def PartsI (w : World) (v : Value) (xs : List Int) : Prop :=
  (v = .slice none 0 0 ∧ xs = []) ∨ ∃ g cap, v = .slice (some ⟨g, 0, none⟩) xs.length cap ∧ xs.length ≤ cap ∧ cap ≤ maxLen ∧ g < w.heap.size ∧ ∀ i, i < xs.length → w.cell? ⟨g, i, none⟩ = some (.int .i64 (xs.getD i 0))
theorem PartsI.shape {w : World} {v : Value} {xs : List Int} (h : PartsI w v xs) : ∃ a cap, v = .slice a xs.length cap ∧ Reads w a xs := by
  rcases h with ⟨rfl, rfl⟩ | ⟨g, cap, rfl, _, _, hg, hc⟩
  · exact ⟨none, 0, rfl, .inl rfl⟩
  · exact ⟨_, cap, rfl, .inr ⟨g, 0, rfl, hg, fun i hi => by simpa using hc i hi⟩⟩

theorem specSetAdd_p (v : Value) (zs : List Int) (x : Int) (w : World) (h : PartsI w v zs) (hl : zs.length ≤ 1048576 * 3) :
    Calls Tryz.prog 66 #[v, .int .i64 x] w fun e w' => ∃ v', e = .returned v' ∧ OwnInts w' w.heap.size 3 v' (addL zs x) ∧ Below w.heap.size w w' := by
  cases hh : hasL zs x
  · have hp := placeL_le zs x
    rcases h with ⟨rfl, rfl⟩ | ⟨g, cap, rfl, hnc, hcm, hgw, hcell⟩
    · have hr : Reads w none [] := .inl rfl
      go_enter Tryz.func66, Tryz.ntmps66
      go_wp2_with fail
      refine (specSetHas_any _ _ [] x _ hr (by simp)).mono ?_
      rintro e w1 ⟨rfl, hl1⟩
      rw [hh]
      go_wp2
      refine wp_loop_rounds 1 ?_
      rw [rounds_succ]
      go_wp2_with (at_builtin; refine wpList_append_ints _ rfl (.tmp 30) (.tmp 33) 25 rfl w.heap.size 3 Tryz.underlying25 Tryz.infoInt _ [] rfl (OwnInts.empty hl1.size) _ _ _ [] rfl rfl (.inl rfl) (by simp) (Nat.le_trans hl1.size (by simp)) ?_)
      intro v4 w4 hown4 hgr4
      have k4 := (hl1.alloc hl1.size _).grown hgr4 (Nat.le_trans hl1.size (by simp)) (fun k hk => by cases hk; exact hl1.size)
      go_wp2_with (at_builtin; refine wpList_append_ints _ rfl (.tmp 35) (.tmp 37) 25 rfl w.heap.size 3 Tryz.underlying25 Tryz.infoInt _ _ rfl (hown4.alloc _) _ _ _ [x] rfl rfl (Reads.new _ _ _) (by simp) (Nat.le_trans k4.size (by simp)) ?_)
      intro v5 w5 hown5 hgr5
      have k5 := (k4.alloc k4.size _).grown hgr5 (Nat.le_trans k4.size (by simp)) (fun k hk => (hown4.block k hk).1)
      go_wp2_with (at_builtin; refine wpList_append_ints _ rfl (.tmp 39) (.tmp 42) 25 rfl w.heap.size 3 Tryz.underlying25 Tryz.infoInt _ _ rfl hown5 _ _ _ [] rfl rfl (.inl rfl) (by simp) k5.size ?_)
      intro v6 w6 hown6 hgr6
      have k6 := k5.grown hgr6 k5.size (fun k hk => (hown5.block k hk).1)
      go_wp2
      go_ret
      refine ⟨v6, rfl, ?_, k6⟩
      rw [addL_no hh]
      exact hown6
    · obtain ⟨p, hP⟩ : ∃ p, placeL zs x = p := ⟨_, rfl⟩
      have HP : Hid (placeL zs x = p) := hP
      rw [hP] at hp
      have hr : Reads w (some ⟨g, 0, none⟩) zs := .inr ⟨g, 0, rfl, hgw, fun i hi => by simpa using hcell i hi⟩
      unfold maxLen at hcm
      clear hP
      go_enter Tryz.func66, Tryz.ntmps66
      go_wp2_with fail
      refine (specSetHas_any _ _ zs x _ hr (by omega)).mono ?_
      rintro e w1 ⟨rfl, hl1⟩
      rw [hh]
      have c1 : ∀ i, i < zs.length → w1.cell? ⟨g, i, none⟩ = some (.int .i64 (zs.getD i 0)) := fun i hi => (hl1.cell (p := ⟨g, i, none⟩) hgw).trans (hcell i hi)
      go_wp2
      go_loop [5, 6] (fun t i => ∃ m : Nat, m ≤ zs.length ∧ i = .int .i64 ((m : Int) - 1) ∧ t = .int .i64 (placeFrom zs x m)) (fun _ i => (intOf i + 1).toNat)
      case atStart => exact ⟨zs.length, Nat.le_refl _, rfl, by rw [placeFrom_end]⟩
      case round =>
        obtain ⟨m, hm, rfl, rfl⟩ := hrel
        have hpm := placeFrom_le zs x m hm
        cases m with
        | succ k =>
          have hlt : k < zs.length := by omega
          have hcx := c1 k hlt
          have ek : ((k + 1 : Nat) : Int) - 1 = (k : Int) := by omega
          rw [ek]
          clear ek
          go_wp2
          · go_round
            case rel => exact ⟨k, by omega, rfl, by rw [placeFrom_yes hlt ‹_›]⟩
            case measure => simp [intOf]
          · go_round
            case rel => exact ⟨k, by omega, rfl, by rw [placeFrom_no hlt (Int.not_lt.2 ‹_›)]⟩
            case measure => simp [intOf]
        | zero =>
          rw [placeFrom_zero, HP.out]
          go_wp2_with (at_builtin; refine wpList_append_ints _ rfl (.tmp 30) (.tmp 33) 25 rfl w.heap.size 3 Tryz.underlying25 Tryz.infoInt _ [] rfl (OwnInts.empty hl1.size) _ _ _ (zs.take p) rfl (by simp; omega) ((hr.below (hl1.alloc hl1.size _)).take p) (by simp; omega) (Nat.le_trans hl1.size (by simp)) ?_)
          intro v4 w4 hown4 hgr4
          have k4 := (hl1.alloc hl1.size _).grown hgr4 (Nat.le_trans hl1.size (by simp)) (fun k hk => by cases hk; exact hl1.size)
          go_wp2_with (at_builtin; refine wpList_append_ints _ rfl (.tmp 35) (.tmp 37) 25 rfl w.heap.size 3 Tryz.underlying25 Tryz.infoInt _ _ rfl (hown4.alloc _) _ _ _ [x] rfl rfl (Reads.new _ _ _) (by simp; omega) (Nat.le_trans k4.size (by simp)) ?_)
          intro v5 w5 hown5 hgr5
          have k5 := (k4.alloc k4.size _).grown hgr5 (Nat.le_trans k4.size (by simp)) (fun k hk => (hown4.block k hk).1)
          have C5 : Hid (∀ i, i < zs.length → w5.cell? ⟨g, i, none⟩ = some (.int .i64 (zs.getD i 0))) := fun i hi => (k5.cell (p := ⟨g, i, none⟩) hgw).trans (hcell i hi)
          clear c1 hcell
          have gw5 := Nat.lt_of_lt_of_le hgw k5.size
          have hlen5 : (zs.take p ++ [x]).length + (zs.drop p).length ≤ 1099511627776 := by simp; omega
          go_wp2_with (at_builtin; refine wpList_append_ints _ rfl (.tmp 39) (.tmp 42) 25 rfl w.heap.size 3 Tryz.underlying25 Tryz.infoInt _ _ rfl hown5 _ _ _ (zs.drop p) rfl (by simp) (Reads.drop gw5 C5.out (by intro hk; first | rfl | rw [if_neg (by omega)] | (exfalso; omega))) hlen5 k5.size ?_)
          all_goals
            intro v6 w6 hown6 hgr6
            have k6 := k5.grown hgr6 k5.size (fun k hk => (hown5.block k hk).1)
            go_wp2
            go_ret
            refine ⟨v6, rfl, ?_, k6⟩
            rw [addL_no hh, HP.out]
            simpa using hown6
  · obtain ⟨a, cap, rfl, hr⟩ := h.shape
    go_enter Tryz.func66, Tryz.ntmps66
    go_wp2_with fail
    refine (specSetHas_any _ _ zs x _ hr (by omega)).mono ?_
    rintro e w1 ⟨rfl, hl1⟩
    rw [hh]
    go_wp2_with (at_builtin; refine wpList_append_ints _ rfl (.tmp 11) (.tmp 12) 25 rfl w.heap.size 3 Tryz.underlying25 Tryz.infoInt _ [] rfl (OwnInts.empty hl1.size) _ _ _ zs rfl rfl (hr.below (hl1.alloc hl1.size _)) (by simp; omega) (Nat.le_trans hl1.size (by simp)) ?_)
    intro v2 w2 hown2 hgr2
    go_wp2
    go_ret
    rw [addL_yes hh]
    exact ⟨v2, rfl, by simpa using hown2, (hl1.alloc hl1.size _).grown hgr2 (Nat.le_trans hl1.size (by simp)) (fun k hk => by cases hk; exact hl1.size)⟩

theorem specSetAdd_any (base : Nat) (v : Value) (zs : List Int) (x : Int) (w : World) (h : OwnInts w base 3 v zs) (hl : zs.length ≤ 1048576 * 3) :
    Calls Tryz.prog 66 #[v, .int .i64 x] w fun e w' => ∃ v', e = .returned v' ∧ OwnInts w' w.heap.size 3 v' (addL zs x) ∧ Below w.heap.size w w' := specSetAdd_p v zs x w h.parts hl
end Go.Proofs.YthnppodnjokaoaaGreatDoor
namespace Go.Proofs.YthnppodnjokaoaaGreatDoor
open Go.RowKit

theorem all_next {α : Type} {p : α → Bool} {xs : List α} {k : Nat} (h : (xs.take k).all p = true) (hk : k < xs.length) (g : p xs[k] = true) : (xs.take (k + 1)).all p = true := all_step h hk g

set_option maxRecDepth 100000 in
theorem l5All_any (zs : List Int) (a : Option Addr) (c : Nat) (E : List Int) (a2 : Option Addr) (c2 : Nat) (w : World) (h : Reads w a zs) (g : Reads w a2 E) (hl : zs.length ≤ 1048576) (hE : E.length ≤ 1048576) (hz : ∀ z ∈ zs, -9223372036854775808 ≤ z ∧ z ≤ 9223372036854775807) :
    Calls Tryz.prog 77 #[.slice a zs.length c, .slice a2 E.length c2] w fun e w' => e = .returned (.bool (allE zs E)) ∧ w' = w := by
  have HZ : Hid (∀ z ∈ zs, -9223372036854775808 ≤ z ∧ z ≤ 9223372036854775807) := hz
  have HG : Hid (Reads w a2 E) := g
  clear hz g
  go_enter Tryz.func77, Tryz.ntmps77
  go_wp2
  go_loop [5] (fun s => ∃ k : Nat, k ≤ zs.length ∧ s = .int .i64 k ∧ Hid ((zs.take k).all (fun x => decide (100 ≤ x) && hasL E (x - 100)) = true)) (fun s => zs.length - (intOf s).toNat)
  case atStart => exact ⟨0, Nat.zero_le _, rfl, by show _ = _; simp⟩
  case round =>
    obtain ⟨k, hk, rfl, HK⟩ := hrel
    by_cases hlt : k < zs.length
    · obtain ⟨b, off, rfl, hb, hc⟩ := h.at hlt
      have q1 := hc k hlt
      rw [List.getD_eq_getElem?_getD, List.getElem?_eq_getElem hlt, Option.getD_some] at q1
      have hr := HZ.out zs[k] (List.getElem_mem hlt)
      have HS : Hid (100 ≤ zs[k] → hasL E (zs[k] - 100) = true → (zs.take (k + 1)).all (fun x => decide (100 ≤ x) && hasL E (x - 100)) = true) := fun g1 g2 => all_step HK.out hlt (by simp [g1, g2])
      have HN : Hid ((100 ≤ zs[k] → hasL E (zs[k] - 100) = false) → allE zs E = false) := fun g1 => by
        refine all_no hlt ?_
        by_cases g2 : 100 ≤ zs[k]
        · simp [g1 g2]
        · simp [g2]
      have X : Hid (Calls Tryz.prog 48 #[.slice a2 E.length c2, .int .i64 (zs[k] - 100)] w fun e w' => e = .returned (.bool (hasL E (zs[k] - 100))) ∧ w' = w) := specSetHas_same a2 c2 E (zs[k] - 100) w HG.out (by omega)
      clear hc h HK
      generalize zs[k] = z at *
      by_cases z1 : 100 ≤ z
      · by_cases z2 : hasL E (z - 100) = true
        · rw [z2] at X
          go_wp2_with (go_at_call 48; refine X.out.mono ?_; rintro e w' ⟨rfl, rfl⟩)
          go_round
          case rel => exact ⟨k + 1, by omega, by go_num, HS.out z1 z2⟩
          case measure => simp [intOf]; omega
        · have z3 : hasL E (z - 100) = false := by simpa using z2
          clear z2
          rw [z3] at X
          go_wp2_with (go_at_call 48; refine X.out.mono ?_; rintro e w' ⟨rfl, rfl⟩)
          go_ret
          exact ⟨ret_bool (by rw [HN.out (fun _ => z3)]), rfl⟩
      · have z2 : z < 100 := by omega
        have HF : Hid (allE zs E = false) := HN.out (fun g => absurd g z1)
        clear z1 X HN HS
        go_wp2
        go_ret
        exact ⟨ret_bool (by rw [HF.out]), rfl⟩
    · have HE : Hid (allE zs E = true) := all_end HK.out hlt
      clear h HK
      go_wp2
      go_ret
      exact ⟨ret_bool (by rw [HE.out]), rfl⟩
set_option maxHeartbeats 2000000 in
set_option maxRecDepth 100000 in
theorem l5Empties_any (P : List (List (List Int))) (a0 : Option Addr) (c0 : Nat) (w : World) (h0 : RD w (.slice a0 P.length c0) (slD (Lay.list (Lay.list Lay.int)) P)) (hok : gramOkB P = true) :
    Calls Tryz.prog 64 #[.agg #[.slice a0 P.length c0]] w fun e w' => ∃ v, e = .returned v ∧ OwnInts w' w.heap.size 3 v (emptiesL P) ∧ Below w.heap.size w w' := by
  have F := Fits.of hok
  have HF : Hid (Fits P) := F
  have hp := F.parts
  clear F hok
  have B0 := (Below.refl w.heap.size w).alloc (Nat.le_refl _) (.cells #[.slice a0 P.length c0] 29)
  have HR : Hid (RD (w.alloc (.cells #[.slice a0 P.length c0] 29)) (.slice a0 P.length c0) (slD (Lay.list (Lay.list Lay.int)) P)) := h0.later B0
  have HO0 : Hid (OwnInts ((w.alloc (.cells #[.slice a0 P.length c0] 29)).alloc (.cells #[] 3)) w.heap.size 3 (.slice (some ⟨w.heap.size + 1, 0, none⟩) 0 0) []) := by
    have := OwnInts.empty (e := 3) (B0.size)
    show OwnInts _ _ _ _ _
    simpa using this
  have HB1 : Hid (Below (w.heap.size + 1) (w.alloc (.cells #[.slice a0 P.length c0] 29)) ((w.alloc (.cells #[.slice a0 P.length c0] 29)).alloc (.cells #[] 3))) := (Below.refl _ _).alloc (by simp) _
  clear h0
  go_enter Tryz.func64, Tryz.ntmps64
  go_wp2
  go_loopw [3, 4] (fun so st wr => ∃ t : Nat, t ≤ P.length + 1 ∧ st = .int .i64 t ∧ OwnInts wr w.heap.size 3 so (growT allE P t) ∧ Below (w.heap.size + 1) (w.alloc (.cells #[.slice a0 P.length c0] 29)) wr) (fun _ st _ => P.length + 1 - (intOf st).toNat)
  case atStart => exact ⟨0, Nat.zero_le _, rfl, HO0.out, HB1.out⟩
  case round =>
    obtain ⟨t, ht, rfl, hO, hbel⟩ := hrel
    clear HO0 HB1
    have g0 : wr.cell? ⟨w.heap.size, 0, none⟩ = some (.slice a0 P.length c0) := (hbel.cell (p := ⟨w.heap.size, 0, none⟩) (by simp)).trans (by simp)
    by_cases hlt : t ≤ P.length
    · have HT : Hid (growT allE P (t + 1) = growK allE P (growT allE P t) P.length) := rfl
      have hEt := growT_le allE hp HF.out.alts t
      generalize growT allE P t = E at *
      go_wp2
      go_loopw [3, 5] (fun so sk wr => ∃ k : Nat, k ≤ P.length ∧ sk = .int .i64 k ∧ OwnInts wr w.heap.size 3 so (growK allE P E k) ∧ Below (w.heap.size + 1) (w.alloc (.cells #[.slice a0 P.length c0] 29)) wr) (fun _ sk _ => P.length - (intOf sk).toNat)
      case atStart => exact ⟨0, Nat.zero_le _, rfl, hO, hbel⟩
      case round =>
        obtain ⟨k, hk, rfl, hOk, hbk⟩ := hrel
        clear hO hbel g0
        have g0 : wr.cell? ⟨w.heap.size, 0, none⟩ = some (.slice a0 P.length c0) := (hbk.cell (p := ⟨w.heap.size, 0, none⟩) (by simp)).trans (by simp)
        by_cases hlk : k < P.length
        · have HK : Hid (growK allE P E (k + 1) = growI allE k P[k] (growK allE P E k) P[k].length) := growK_next allE hlk
          have hm := List.getElem_mem hlk
          have hEk := growK_le allE HF.out.alts E k hk
          have hQ := HF.out.alts _ hm
          have HQr : Hid (∀ row ∈ P[k], row.length ≤ 8) := HF.out.rows _ hm
          have HQs : Hid (∀ row ∈ P[k], ∀ z ∈ row, 0 ≤ z ∧ z < 120) := HF.out.syms _ hm
          obtain ⟨b1, o1, rfl, hb1, a1, c1, q0', r1⟩ := HR.out.listAt hlk
          have HR1 : Hid (RD (w.alloc (.cells #[.slice (some ⟨b1, o1, none⟩) P.length c0] 29)) (.slice a1 P[k].length c1) (slD (Lay.list Lay.int) P[k])) := r1
          have HQ0 : Hid (∀ W : World, Below (w.heap.size + 1) (w.alloc (.cells #[.slice (some ⟨b1, o1, none⟩) P.length c0] 29)) W → W.cell? ⟨b1, o1 + k, none⟩ = some (.slice a1 P[k].length c1)) := fun W hW => (hW.cell (p := ⟨b1, o1 + k, none⟩) (by simpa using hb1)).trans q0'
          clear r1 q0' hm hb1
          generalize growK allE P E k = Ek at *
          generalize P[k] = Q at *
          go_wp2
          go_loopw [3, 6] (fun so si wr => ∃ i : Nat, i ≤ Q.length ∧ si = .int .i64 i ∧ OwnInts wr w.heap.size 3 so (growI allE k Q Ek i) ∧ Below (w.heap.size + 1) (w.alloc (.cells #[.slice (some ⟨b1, o1, none⟩) P.length c0] 29)) wr) (fun _ si _ => Q.length - (intOf si).toNat)
          case atStart => exact ⟨0, Nat.zero_le _, rfl, hOk, hbk⟩
          case round =>
            obtain ⟨i, hi, rfl, hOi, hbi⟩ := hrel
            clear hOk hbk g0
            have g0 : wr.cell? ⟨w.heap.size, 0, none⟩ = some (.slice (some ⟨b1, o1, none⟩) P.length c0) := (hbi.cell (p := ⟨w.heap.size, 0, none⟩) (by simp)).trans (by simp)
            have q0 := HQ0.out wr hbi
            have hsz : w.heap.size + 1 ≤ wr.heap.size := by have := hbi.size; simpa using this
            by_cases hli : i < Q.length
            · have hm := List.getElem_mem hli
              have hr8 := HQr.out _ hm
              have HRs : Hid (∀ z ∈ Q[i], 0 ≤ z ∧ z < 120) := HQs.out _ hm
              have hEi := growI_le allE k Q Ek i
              have HY : Hid (allE Q[i] (growI allE k Q Ek i) = true → growI allE k Q Ek (i + 1) = addL (growI allE k Q Ek i) k) := growI_yes allE hli
              have HN : Hid (allE Q[i] (growI allE k Q Ek i) = false → growI allE k Q Ek (i + 1) = growI allE k Q Ek i) := growI_no allE hli
              obtain ⟨b2, o2, rfl, hb2, a2, c2, q1', r2⟩ := HR1.out.listAt hli
              have q1 := (hbi.cell (p := ⟨b2, o2 + i, none⟩) (by simpa using hb2)).trans q1'
              obtain ⟨ao, co, rfl, hro, _⟩ := hOi.shape
              have X : Hid (Calls Tryz.prog 77 #[.slice a2 Q[i].length c2, .slice ao (growI allE k Q Ek i).length co] wr fun e w' => e = .returned (.bool (allE Q[i] (growI allE k Q Ek i))) ∧ w' = wr) :=
                l5All_any Q[i] a2 c2 _ ao co wr ((r2.later (hbi.mono (by simp))).reads) hro (by omega) (by omega) (fun z hz => by have := HRs.out z hz; omega)
              clear r2 q1' hm hb2 hro
              generalize growI allE k Q Ek i = Ei at *
              generalize Q[i] = R at *
              by_cases hal : allE R Ei = true
              · rw [hal] at X
                have Y : Hid (Calls Tryz.prog 66 #[.slice ao Ei.length co, .int .i64 (k : Int)] wr fun e w' => ∃ v', e = .returned v' ∧ OwnInts w' wr.heap.size 3 v' (addL Ei k) ∧ Below wr.heap.size wr w') := specSetAdd_any _ _ Ei (k : Int) wr hOi (by omega)
                have HYe := HY.out hal
                clear HY HN
                go_wp2_with (first | (go_at_call 77; refine X.out.mono ?_; rintro e w' ⟨rfl, rfl⟩) | (go_at_call 66; refine Y.out.mono ?_; rintro e w2 ⟨v2, rfl, hO2, hb2⟩))
                go_roundw
                case rel => exact ⟨i + 1, by omega, by go_num, by rw [HYe]; exact hO2.base (by omega), hbi.trans (hb2.mono hsz)⟩
                case measure => simp [intOf]; omega
              · have hal2 : allE R Ei = false := by simpa using hal
                clear hal
                rw [hal2] at X
                have HNe := HN.out hal2
                clear HY HN
                go_wp2_with (go_at_call 77; refine X.out.mono ?_; rintro e w' ⟨rfl, rfl⟩)
                go_roundw
                case rel => exact ⟨i + 1, by omega, by go_num, by rw [HNe]; exact hOi, hbi⟩
                case measure => simp [intOf]; omega
            · have e : i = Q.length := by omega
              subst e
              have HKe := HK.out
              clear HK
              go_wp2
              go_roundw
              case rel => exact ⟨k + 1, by omega, by go_num, by rw [HKe]; exact hOi, hbi⟩
              case measure => simp [intOf]; omega
        · have e : k = P.length := by omega
          subst e
          have HTe := HT.out
          clear HT
          go_wp2
          go_roundw
          case rel => exact ⟨t + 1, by omega, by go_num, by rw [HTe]; exact hOk, hbk⟩
          case measure => simp [intOf]; omega
    · have e : t = P.length + 1 := by omega
      subst e
      go_wp2
      go_ret
      exact ⟨_, rfl, hO, B0.trans (hbel.mono (by omega))⟩

/-- What Empties and EmptyRow answer. -/
def resEmpties (x : Gm) : List Int := if gramOkB x.parts then emptiesL x.parts else []
def resEmptyRow (x : Gm) (row : List Int) : Bool := gramOkB x.parts && allE row (emptiesL x.parts)
theorem resEmpties_le (x : Gm) (_ : Lay.gram.wt x ≤ 1048576) (_ : Lay.gram.fit x) : (Lay.list Lay.int).wt (resEmpties x) ≤ 2097152 := by
  rw [Lay.wt_ints, resEmpties]
  split
  · have := emptiesL_le (Fits.of ‹_›); omega
  · simp

end Go.Proofs.YthnppodnjokaoaaGreatDoor
namespace Go.Proofs.YthnppodnjokaoaaGreatDoor
open Go.RowKit

theorem specSetJoin_r (a : Option Addr) (c : Nat) (a2 : Option Addr) (c2 : Nat) (xs ys : List Int) (w : World) (hr : Reads w a xs) (gr : Reads w a2 ys) (hl : xs.length ≤ 1048576) (gl : ys.length ≤ 1048576) :
    Calls Tryz.prog 65 #[.slice a xs.length c, .slice a2 ys.length c2] w fun e w' => ∃ v', e = .returned v' ∧ OwnInts w' w.heap.size 3 v' (joinL xs ys) ∧ Below w.heap.size w w' := by
  go_enter Tryz.func65, Tryz.ntmps65
  go_wp2_with (at_builtin; refine wpList_append_ints _ rfl (.tmp 7) (.tmp 8) 25 rfl w.heap.size 3 Tryz.underlying25 Tryz.infoInt _ [] rfl (OwnInts.empty (Nat.le_refl _)) _ _ _ xs rfl rfl (hr.below ((Below.refl _ _).alloc (Nat.le_refl _) _)) (by simp; omega) (by simp) ?_)
  intro v1 w1 o1 hg1
  have hl1 := ((Below.refl w.heap.size w).alloc (Nat.le_refl _) _).grown hg1 (by simp) (fun k hk => by cases hk; exact Nat.le_refl _)
  go_wp2
  go_loopw [5, 6] (fun t i wr => ∃ k : Nat, k ≤ ys.length ∧ i = .int .i64 k ∧ OwnInts wr w.heap.size 3 t (joinL xs (ys.take k)) ∧ Below w.heap.size w wr) (fun _ i _ => ys.length - (intOf i).toNat)
  case atStart => exact ⟨0, Nat.zero_le _, rfl, by simpa [joinL] using o1, hl1⟩
  case round =>
    obtain ⟨k, hk, rfl, hown, hbel⟩ := hrel
    have hj := joinL_length_le xs (ys.take k)
    rw [List.length_take, Nat.min_eq_left hk] at hj
    by_cases hlt : k < ys.length
    · obtain ⟨b, o, rfl, hb, hc⟩ := gr.at hlt
      have hcx := (hbel.cell (p := ⟨b, o + k, none⟩) hb).trans (hc k hlt)
      go_wp2_with fail
      refine (specSetAdd_any _ _ _ _ _ hown (by omega)).mono ?_
      rintro e w2 ⟨v2, rfl, o2, hl2⟩
      go_wp2
      go_roundw
      case rel => exact ⟨k + 1, by omega, by go_num, by rw [← joinL_step hlt]; exact o2.base hbel.size, hbel.trans (hl2.mono hbel.size)⟩
      case measure => simp [intOf]; omega
    · go_wp2
      go_ret
      exact ⟨_, rfl, by rw [List.take_of_length_le (by omega)] at hown; exact hown, hbel⟩

theorem specSetJoin_any (b1 b2 : Nat) (u v : Value) (xs ys : List Int) (w : World) (h : OwnInts w b1 3 u xs) (g : OwnInts w b2 3 v ys) (hl : xs.length ≤ 1048576) (gl : ys.length ≤ 1048576) :
    Calls Tryz.prog 65 #[u, v] w fun e w' => ∃ v', e = .returned v' ∧ OwnInts w' w.heap.size 3 v' (joinL xs ys) ∧ Below w.heap.size w w' := by
  obtain ⟨a, c, rfl, hr, _⟩ := h.shape
  obtain ⟨a2, c2, rfl, gr, _⟩ := g.shape
  exact specSetJoin_r a c a2 c2 xs ys w hr gr hl gl
end Go.Proofs.YthnppodnjokaoaaGreatDoor
namespace Go.Proofs.YthnppodnjokaoaaGreatDoor
open Go.RowKit

section
variable {α : Type} (cnt : α → Nat) (mk : Nat → α → α)
def cntL : List α → Nat
  | [] => 0
  | x :: xs => cnt x + cntL xs
def mkL : Nat → List α → List α
  | _, [] => []
  | k, x :: xs => mk k x :: mkL (k + cnt x) xs
theorem mkL_length (k : Nat) (xs : List α) : (mkL cnt mk k xs).length = xs.length := by
  induction xs generalizing k with
  | nil => rfl
  | cons x xs ih => simp [mkL, ih]
theorem cntL_append (xs ys : List α) : cntL cnt (xs ++ ys) = cntL cnt xs + cntL cnt ys := by
  induction xs with
  | nil => simp [cntL]
  | cons x xs ih => simp [cntL, ih]; omega
theorem mkL_append (k : Nat) (xs ys : List α) : mkL cnt mk k (xs ++ ys) = mkL cnt mk k xs ++ mkL cnt mk (k + cntL cnt xs) ys := by
  induction xs generalizing k with
  | nil => simp [mkL, cntL]
  | cons x xs ih => simp [mkL, cntL, ih, Nat.add_assoc]
theorem cntL_take {xs : List α} {j : Nat} (h : j < xs.length) : cntL cnt (xs.take (j + 1)) = cntL cnt (xs.take j) + cnt xs[j] := by
  rw [List.take_succ_eq_append_getElem h, cntL_append]; simp [cntL]
theorem cntL_take_le (xs : List α) (j : Nat) : cntL cnt (xs.take j) ≤ cntL cnt xs := by
  have h : cntL cnt xs = cntL cnt (xs.take j) + cntL cnt (xs.drop j) := by rw [← cntL_append, List.take_append_drop]
  omega
theorem mid_length {k j : Nat} {xs : List α} (h : j ≤ xs.length) : (mkL cnt mk k (xs.take j) ++ xs.drop j).length = xs.length := by
  rw [List.length_append, mkL_length, List.length_take, List.length_drop]; omega
theorem mid_get {k j : Nat} {xs : List α} (h : j < xs.length) (h' : j < (mkL cnt mk k (xs.take j) ++ xs.drop j).length) : (mkL cnt mk k (xs.take j) ++ xs.drop j)[j] = xs[j] := by
  have hl : (mkL cnt mk k (xs.take j)).length = j := by rw [mkL_length, List.length_take]; omega
  rw [List.getElem_append_right (by omega)]
  simp only [hl, Nat.sub_self, List.getElem_drop, Nat.add_zero]
theorem mid_set {k j : Nat} {xs : List α} (h : j < xs.length) : (mkL cnt mk k (xs.take j) ++ xs.drop j).set j (mk (k + cntL cnt (xs.take j)) xs[j]) = mkL cnt mk k (xs.take (j + 1)) ++ xs.drop (j + 1) := by
  have hl : (mkL cnt mk k (xs.take j)).length = j := by rw [mkL_length, List.length_take]; omega
  rw [List.set_append_right _ _ (by omega), hl, Nat.sub_self, List.drop_eq_getElem_cons h, List.set_cons_zero, List.take_succ_eq_append_getElem h, mkL_append]
  simp [mkL]
theorem mkL_get {k j : Nat} {xs : List α} (h : j < xs.length) (h' : j < (mkL cnt mk k xs).length) : (mkL cnt mk k xs)[j] = mk (k + cntL cnt (xs.take j)) xs[j] := by
  have hs : xs = xs.take j ++ xs[j] :: xs.drop (j + 1) := by rw [← List.drop_eq_getElem_cons h, List.take_append_drop]
  have hl : (mkL cnt mk k (xs.take j)).length = j := by rw [mkL_length, List.length_take]; omega
  have e : (mkL cnt mk k xs)[j]? = some (mk (k + cntL cnt (xs.take j)) xs[j]) := by
    conv => lhs; rw [hs]
    rw [mkL_append, List.getElem?_append_right (by omega), hl, Nat.sub_self, mkL]; rfl
  rw [List.getElem?_eq_getElem h'] at e
  exact Option.some.inj e
theorem cntL_le {L : Lay α} (h : ∀ x, cnt x ≤ L.wt x + 1) (xs : List α) : cntL cnt xs ≤ (Lay.list L).wt xs := by
  rw [Lay.wt_list]
  induction xs with
  | nil => simp [cntL]
  | cons x xs ih => have := h x; simp only [cntL, List.length_cons, Lay.sumL]; omega
end
def cntInt : Int → Nat := fun _ => 1
def mkInt : Nat → Int → Int := fun k _ => (k : Int)
def cntIntS : List Int → Nat := cntL cntInt
def mkIntS : Nat → List Int → List Int := mkL cntInt mkInt
theorem cntIntS_eq (xs : List Int) : cntIntS xs = xs.length := by
  unfold cntIntS
  induction xs with
  | nil => rfl
  | cons x xs ih => simp [cntL, cntInt, ih]; omega
theorem cntIntS_le (xs : List Int) : cntIntS xs ≤ (Lay.list Lay.int).wt xs := cntL_le _ (fun _ => by simp [cntInt]) xs
theorem mkIntS_marks (k : Nat) (xs : List Int) : mkIntS k xs = marks (k : Int) xs.length := by
  apply List.ext_getElem?
  intro i
  by_cases h : i < xs.length
  · rw [marks_get _ _ _ h, List.getElem?_eq_getElem (by rw [mkIntS, mkL_length]; exact h)]
    simp only [mkIntS]
    rw [mkL_get cntInt mkInt h]
    have : cntL cntInt (xs.take i) = i := by have := cntIntS_eq (xs.take i); rw [cntIntS] at this; rw [this, List.length_take]; omega
    simp [mkInt, this]
  · rw [List.getElem?_eq_none (by rw [mkIntS, mkL_length]; omega), List.getElem?_eq_none (by rw [marks_length]; omega)]

/-- An integer stored into an own list of integers. -/
theorem OD.intStore {w : World} {base g n c : Nat} {M : List Int} {S : Nat → Prop} (h : OD w base (.slice (some ⟨g, 0, none⟩) n c) (slD Lay.int M) S) {i : Nat} (hi : i < M.length) (x : Int) :
    OD (w.setCell ⟨g, i, none⟩ (.int .i64 x)) base (.slice (some ⟨g, 0, none⟩) n c) (slD Lay.int (M.set i x)) S ∧ Within w (w.setCell ⟨g, i, none⟩ (.int .i64 x)) S ∧ (∃ z, w.cell? ⟨g, i, none⟩ = some z) ∧ w.frozen? ⟨g, i, none⟩ = false := by
  have := OD.elemStore Lay.int.len h hi (j := 0) (by decide) (.int .i64 M[i]) (.int .i64 x) (by simp [Lay.int]) (by simp [Lay.int]) x (by simp [Lay.int])
  have e : i * Lay.int.sz + 0 = i := by show i * 1 + 0 = i; omega
  rw [e] at this
  exact this
/-- What lies behind place i of an own list of lists. -/
theorem OD.listInto {α : Type} {L : Lay α} {w : World} {base g n c : Nat} {M : List (List α)} {S : Nat → Prop} (h : OD w base (.slice (some ⟨g, 0, none⟩) n c) (slD (Lay.list L) M) S) {i : Nat} (hi : i < M.length) :
    ∃ a' c' T, w.cell? ⟨g, i, none⟩ = some (.slice a' M[i].length c') ∧ OD w base (.slice a' M[i].length c') (slD L M[i]) T ∧ (∀ k, T k → S k) ∧
      ∀ w' xs, OD w' base (.slice a' M[i].length c') (slD L xs) T → Within w w' T → OD w' base (.slice (some ⟨g, 0, none⟩) n c) (slD (Lay.list L) (M.set i xs)) S := by
  obtain ⟨u, T, hc, ho, hT, _, hput⟩ := OD.elemInto (Lay.list L).len h hi (j := 0) (by show 0 < 1; decide) (by show 0 < 1; decide)
  have e : i * (Lay.list L).sz + 0 = i := by show i * 1 + 0 = i; omega
  rw [e] at hc
  have ho' : OD w base u (slD L M[i]) T := ho
  obtain ⟨a', c', rfl, _⟩ := OD.shapeL ho'
  exact ⟨a', c', T, hc, ho', hT, fun w' xs h' hw => hput w' (slD L xs) xs rfl h' hw⟩

/-- The values of E, each a few cells, all made by the call, in the blocks S, no block twice. -/
def Ents (w : World) (base : Nat) : List (List Value × List Dat) → (Nat → Prop) → Prop
  | [], S => ∀ k, ¬ S k
  | x :: E, S => ∃ T U, Cells w base x.1 x.2 T ∧ Ents w base E U ∧ (∀ k, T k → ¬ U k) ∧ ∀ k, S k ↔ T k ∨ U k
theorem Ents.kept {w w' : World} {base : Nat} {V : Nat → Prop} (hw : Within w w' V) : ∀ {E : List (List Value × List Dat)} {S : Nat → Prop}, Ents w base E S → (∀ k, S k → ¬ V k) → Ents w' base E S
  | [], _, h, _ => h
  | _ :: _, _, ⟨T, U, hT, hU, hd, hS⟩, hn => ⟨T, U, hT.kept hw (fun k hk => hn k ((hS k).2 (.inl hk))), hU.kept hw (fun k hk => hn k ((hS k).2 (.inr hk))), hd, hS⟩
theorem Ents.lt {w : World} {base : Nat} : ∀ {E : List (List Value × List Dat)} {S : Nat → Prop}, Ents w base E S → ∀ k, S k → base ≤ k ∧ k < w.heap.size
  | [], _, h, k, hk => absurd hk (h k)
  | _ :: _, _, ⟨_, _, hT, hU, _, hS⟩, k, hk => by
    rcases (hS k).1 hk with hk | hk
    · exact hT.lt k hk
    · exact hU.lt k hk
theorem Ents.at {w : World} {base : Nat} : ∀ {E : List (List Value × List Dat)} {S : Nat → Prop}, Ents w base E S → ∀ x ∈ E, ∀ j (hj : j < x.1.length) (hj' : j < x.2.length), RD w x.1[j] x.2[j]
  | [], _, _, _, hx, _, _, _ => by simp at hx
  | y :: E, _, ⟨_, _, hT, hU, _, _⟩, x, hx, j, hj, hj' => by
    rcases List.mem_cons.1 hx with rfl | hx
    · exact hT.rdAt j hj hj'
    · exact hU.at x hx j hj hj'
/-- One of the values, and how all are put together again when it alone has turned. -/
theorem Ents.turn {w : World} {base : Nat} : ∀ {P Q : List (List Value × List Dat)} {x : List Value × List Dat} {S : Nat → Prop}, Ents w base (P ++ x :: Q) S →
    ∃ T, Cells w base x.1 x.2 T ∧ (∀ k, T k → S k) ∧ ∀ w' ds, Cells w' base x.1 ds T → Within w w' T → Ents w' base (P ++ (x.1, ds) :: Q) S
  | [], _, _, _, ⟨T, U, hT, hU, hd, hS⟩ => ⟨T, hT, fun k hk => (hS k).2 (.inl hk), fun _ _ h' hw => ⟨T, U, h', hU.kept hw (fun k hk hk2 => hd k hk2 hk), hd, hS⟩⟩
  | _ :: _, _, _, _, ⟨T, U, hT, hU, hd, hS⟩ => by
    obtain ⟨T', h1, h2, h3⟩ := hU.turn
    exact ⟨T', h1, fun k hk => (hS k).2 (.inr (h2 k hk)), fun w' ds h' hw => ⟨T, U, hT.kept hw (fun k hk hk2 => hd k hk (h2 k hk2)), h3 w' ds h' hw, hd, hS⟩⟩
/-- One of the values is let go. -/
theorem Ents.drop {w : World} {base : Nat} : ∀ {P Q : List (List Value × List Dat)} {x : List Value × List Dat} {S : Nat → Prop}, Ents w base (P ++ x :: Q) S → ∃ S', Ents w base (P ++ Q) S' ∧ ∀ k, S' k → S k
  | [], _, _, _, ⟨_, U, _, hU, _, hS⟩ => ⟨U, hU, fun k hk => (hS k).2 (.inr hk)⟩
  | _ :: _, _, _, _, ⟨T, U, hT, hU, hd, hS⟩ => by
    obtain ⟨S', h1, h2⟩ := hU.drop
    exact ⟨fun k => T k ∨ S' k, ⟨T, S', hT, h1, fun k hk hk2 => hd k hk (h2 k hk2), fun _ => Iff.rfl⟩, fun k hk => (hS k).2 (hk.imp id (h2 k))⟩

/-- What a walk holds that began at w0: nothing old has turned, the boxes B stand, the values E are as told; nothing lies in anything else. -/
structure Holds (w0 w : World) (B : List (Nat × List Value)) (E : List (List Value × List Dat)) : Prop where
  below : Below w0.heap.size w0 w
  boxes : Keeps w B
  boxlt : ∀ p ∈ B, p.1 < w.heap.size
  ents : ∃ S, Ents w w0.heap.size E S ∧ ∀ p ∈ B, ¬ S p.1
theorem Holds.start (w : World) : Holds w w [] [] := ⟨Below.refl _ _, Keeps.nil w, fun _ h => by simp at h, fun _ => False, fun _ h => h, fun _ h => by simp at h⟩
section
variable {w0 w w' : World} {B : List (Nat × List Value)} {E P Q : List (List Value × List Dat)}
theorem Holds.size (h : Holds w0 w B E) : w0.heap.size ≤ w.heap.size := h.below.size
theorem Holds.later (h : Holds w0 w B E) (hb : Below w.heap.size w w') : Holds w0 w' B E := by
  obtain ⟨S, h1, h2⟩ := h.ents
  exact ⟨h.below.trans (hb.mono h.size), h.boxes.later hb, fun p hp => Nat.lt_of_lt_of_le (h.boxlt p hp) hb.size, S, h1.kept (Within.of_below hb (fun _ => False)) (fun _ _ h => h), h2⟩
theorem Holds.drew (h : Holds w0 w B E) : Holds w0 w.drew B E := h.later (Below.drew (Below.refl _ _))
theorem Holds.box (h : Holds w0 w B E) (vs : List Value) (t : TypeId) : Holds w0 (w.alloc (.cells vs.toArray t)) ((w.heap.size, vs) :: B) E := by
  obtain ⟨S, h1, h2⟩ := h.ents
  have hb : Below w.heap.size w (w.alloc (.cells vs.toArray t)) := (Below.refl _ _).alloc (Nat.le_refl _) _
  refine ⟨h.below.trans (hb.mono h.size), h.boxes.box vs t, fun p hp => ?_, S, h1.kept (Within.of_below hb (fun _ => False)) (fun _ _ h => h), fun p hp => ?_⟩
  · rcases List.mem_cons.1 hp with rfl | hp
    · simp
    · exact Nat.lt_of_lt_of_le (h.boxlt p hp) hb.size
  · rcases List.mem_cons.1 hp with rfl | hp
    · intro hk; have := (h1.lt _ hk).2; simp at this
    · exact h2 p hp
theorem Holds.push (h : Holds w0 w B E) (hb : Below w.heap.size w w') {vs : List Value} {ds : List Dat} {T : Nat → Prop} (hc : Cells w' w.heap.size vs ds T) : Holds w0 w' B ((vs, ds) :: E) := by
  obtain ⟨S0, h10, h20⟩ := h.ents
  have hS0 : Ents w' w0.heap.size E S0 := h10.kept (Within.of_below hb (fun _ => False)) (fun _ _ h => h)
  refine ⟨(h.later hb).below, (h.later hb).boxes, (h.later hb).boxlt, fun k => T k ∨ S0 k, ⟨T, S0, hc.base h.size, hS0, fun k hk hk2 => ?_, fun _ => Iff.rfl⟩, fun p hp hk => ?_⟩
  · have := (hc.lt k hk).1; have := (h10.lt k hk2).2; omega
  · rcases hk with hk | hk
    · have := (hc.lt _ hk).1; have := h.boxlt p hp; omega
    · exact h20 p hp hk
theorem Cells.one {w : World} {base : Nat} {v : Value} {d : Dat} {T : Nat → Prop} (h : OD w base v d T) : Cells w base [v] [d] T := Cells.last [] h
theorem Cells.od {w : World} {base : Nat} {v : Value} {d : Dat} {T : Nat → Prop} (h : Cells w base [v] [d] T) : OD w base v d T := by
  obtain ⟨G, _, hr, _, hT⟩ := h
  have e : T = G 0 := by
    funext k
    apply propext
    rw [hT k]
    exact ⟨fun ⟨i, hi, hk⟩ => by have : i = 0 := by simpa using hi
                                 exact this ▸ hk, fun hk => ⟨0, by simp, hk⟩⟩
  rw [e]
  exact hr 0 (by simp) (by simp)
theorem Holds.rd (h : Holds w0 w B E) (x : List Value × List Dat) (hx : x ∈ E) (j : Nat) (hj : j < x.1.length) (hj' : j < x.2.length) : RD w x.1[j] x.2[j] := by
  obtain ⟨S, h1, _⟩ := h.ents
  exact h1.at x hx j hj hj'
/-- A value of the walk's own, handed to what turns it alone. -/
theorem Holds.turn {x : List Value × List Dat} (h : Holds w0 w B (P ++ x :: Q)) : ∃ T, Cells w w0.heap.size x.1 x.2 T ∧ ∀ w' ds, Cells w' w0.heap.size x.1 ds T → Within w w' T → Holds w0 w' B (P ++ (x.1, ds) :: Q) := by
  obtain ⟨S, h1, h2⟩ := h.ents
  obtain ⟨T, g1, g2, g3⟩ := h1.turn
  refine ⟨T, g1, fun w' ds hc hw => ⟨hw.below h.below (fun k hk => (g1.lt k hk).1), fun p hp j hj => ?_, fun p hp => Nat.lt_of_lt_of_le (h.boxlt p hp) hw.size, S, g3 w' ds hc hw, h2⟩⟩
  have c := h.boxes p hp j hj
  have e := hw.block p.1 (h.boxlt p hp) (fun hk => h2 p hp (g2 _ hk))
  rw [← c]
  simp only [World.cell?, e]
theorem Holds.drop {x : List Value × List Dat} (h : Holds w0 w B (P ++ x :: Q)) : Holds w0 w B (P ++ Q) := by
  obtain ⟨S, h1, h2⟩ := h.ents
  obtain ⟨S', g1, g2⟩ := h1.drop
  exact ⟨h.below, h.boxes, h.boxlt, S', g1, fun p hp hk => h2 p hp (g2 _ hk)⟩
theorem Holds.cell (h : Holds w0 w B E) (p : Nat × List Value) (hp : p ∈ B) (j : Nat) (hj : j < p.2.length) : w.cell? ⟨p.1, j, none⟩ = some p.2[j] := h.boxes p hp j hj
end
end Go.Proofs.YthnppodnjokaoaaGreatDoor
