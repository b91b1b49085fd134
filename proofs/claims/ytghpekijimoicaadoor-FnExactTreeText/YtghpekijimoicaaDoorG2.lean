/-
  Contracts and plain mathematics, joined: OpenD, OpenL, HNode, HNodeS, HTree, GramMath, TreeMath, VisitMath, LeafPos, SpecIn, DecMath, RowMath. No statement is proved here.
-/
import Derived.Test.YtghpekijimoicaaDoorG1
import Derived.Deep.Strs
import Derived.OpenShut
import Derived.Deep.RegionWith
import Derived.Test.YtghpekijimoicaaDoorChecked
import Derived.Lib.ItoaNum
import Derived.Laws.IdiomStrings
namespace Go.Proofs.YtghpekijimoicaaDoor
open Go.RowKit

section
variable {H : Type} {enc : TypeId × Value → H} {P : Program} {w : World} {base : Nat} {spare : Nat → Bool} {held : Bool}

/-- A slice whose elements each read as f says. -/
theorem open_dat {α : Type} (f : α → List Dat) {sz : Nat} (hf : ∀ x, (f x).length = sz) (hz : 0 < sz) (good : α → Prop) {t e : TypeId} {a : Option Addr} {len cap : Nat} {x : DataW H × List MemPlace} (ht : P.underlying t = some (.slice e)) (hc : P.cellsOf e = sz)
    {fuel : Nat} (helem : ∀ n, n < fuel → ∀ cs y, DataW.trod enc P w base spare held n e cs = some y → ∃ z : α, good z ∧ ∀ j (hj : j < cs.length) (hj' : j < (f z).length), RD w cs[j] (f z)[j])
    (h : DataW.trod enc P w base spare held fuel t [.slice a len cap] = some x) :
    ∃ zs : List α, len = zs.length ∧ zs.length ≤ maxLen ∧ RD w (.slice a zs.length cap) (.sl zs.length (zs.flatMap f)) ∧ ∀ z ∈ zs, good z := by
  rcases DataW.trod_slice ht h with ⟨h0, _⟩ | ⟨a', l', c', elems, rest, n, hfu, h0, _, hb, hl, hm, hlen, hel, _, _⟩
  · simp only [List.cons.injEq, Value.slice.injEq, and_true] at h0
    obtain ⟨rfl, rfl, rfl⟩ := h0
    exact ⟨[], rfl, by simp [maxLen], .empty none 0, by simp⟩
  · simp only [List.cons.injEq, Value.slice.injEq, and_true] at h0
    obtain ⟨rfl, rfl, rfl⟩ := h0
    have each : ∀ k, k ≤ len → ∃ (zs : List α) (vs : List Value), zs.length = k ∧ vs.length = k * sz ∧ (∀ z ∈ zs, good z) ∧ (∀ i, i < vs.length → w.cell? (a'.add i) = vs[i]?) ∧ ∀ i (hi : i < vs.length) (hi' : i < (zs.flatMap f).length), RD w vs[i] (zs.flatMap f)[i] := by
      intro k
      induction k with
      | zero => intro _; exact ⟨[], [], rfl, by simp, by simp, fun i hi => by simp at hi, fun i hi => by simp at hi⟩
      | succ k ih =>
        intro hk
        obtain ⟨zs, vs, h1, h2, h3, h4, h5⟩ := ih (by omega)
        have key := hel k (by omega)
        rw [List.getElem?_eq_getElem (by omega)] at key
        obtain ⟨cs, hcs, htr⟩ := Option.bind_eq_some_iff.1 key
        obtain ⟨z, hz1, hz2⟩ := helem n (by omega) cs _ htr
        rw [hc] at hcs
        obtain ⟨_, hcl, hcell⟩ := World.cells?_some hcs
        have hfl : (zs.flatMap f).length = k * sz := by rw [flat_length hf, h1]
        refine ⟨zs ++ [z], vs ++ cs, by simp [h1], by rw [List.length_append, h2, hcl, Nat.add_mul]; omega, ?_, ?_, ?_⟩
        · intro y hy
          rcases List.mem_append.1 hy with hy | hy
          · exact h3 y hy
          · rw [List.mem_singleton.1 hy]; exact hz1
        · intro i hi
          by_cases hik : i < vs.length
          · rw [List.getElem?_append_left hik]; exact h4 i hik
          · rw [List.getElem?_append_right (by omega)]
            have hi2 : i - vs.length < sz := by rw [List.length_append, hcl] at hi; omega
            have := hcell (i - vs.length) hi2
            rw [Go.Deep.add_add] at this
            rw [← this]
            congr 2; omega
        · intro i hi hi'
          have e1 : (zs ++ [z]).flatMap f = zs.flatMap f ++ f z := by simp
          by_cases hik : i < vs.length
          · have := h5 i hik (by omega)
            simpa only [e1, List.getElem_append_left hik, List.getElem_append_left (show i < (zs.flatMap f).length by omega)] using this
          · have hi2 : i - vs.length < cs.length := by rw [List.length_append] at hi; omega
            have := hz2 (i - vs.length) hi2 (by rw [hf]; omega)
            simp only [e1, List.getElem_append_right (show vs.length ≤ i by omega), List.getElem_append_right (show (zs.flatMap f).length ≤ i by omega)]
            have e2 : i - (zs.flatMap f).length = i - vs.length := by omega
            simp only [e2]
            exact this
    obtain ⟨zs, vs, h1, h2, h3, h4, h5⟩ := each len (Nat.le_refl _)
    refine ⟨zs, h1.symm, by rw [h1]; exact Nat.le_trans hl hm, ?_, h3⟩
    by_cases h0 : zs = []
    · subst h0
      exact .empty _ _
    · have hpos : 0 < zs.length := List.length_pos_iff.2 h0
      have hv : 0 < vs.length := by rw [h2]; exact Nat.mul_pos (by omega) hz
      obtain ⟨b, off, spot⟩ := a'
      have c0 := h4 0 hv
      rw [List.getElem?_eq_getElem hv] at c0
      have hs : spot = none := by simpa [Addr.add] using World.cell?_spot c0
      subst hs
      refine .row b off _ cap _ vs (by rw [h1]; exact hl) (by simpa [Addr.add] using World.block_lt_of_cell? w _ c0) (by rw [flat_length hf, h1, h2]) (fun i hi => ?_) h5
      have := h4 i hi
      rwa [Addr.add_lit] at this

theorem open_int_cell {t : TypeId} (ht : P.underlying t = some (.int .i64)) {n : Nat} {v : Value} {y : DataW H × List MemPlace} (h : DataW.trod enc P w base spare held n t [v] = some y) : ∃ k : Int, v = .int .i64 k ∧ (Lit.int .i64 k).wf = true := by
  obtain ⟨k, e, _, hw⟩ := DataW.trod_int ht h
  exact ⟨k, by simpa using e, hw⟩
theorem open_string_cell {t : TypeId} (ht : P.underlying t = some .string) {n : Nat} {v : Value} {y : DataW H × List MemPlace} (h : DataW.trod enc P w base spare held n t [v] = some y) : ∃ s : ByteArray, v = .string s ∧ s.size ≤ maxLen := by
  obtain ⟨s, e, _, hs⟩ := DataW.trod_string ht h
  exact ⟨s, by simpa using e, hs⟩
theorem open_bool_cell {t : TypeId} (ht : P.underlying t = some .bool) {n : Nat} {v : Value} {y : DataW H × List MemPlace} (h : DataW.trod enc P w base spare held n t [v] = some y) : ∃ b : Bool, v = .bool b := by
  obtain ⟨b, e, _⟩ := DataW.trod_bool ht h
  exact ⟨b, by simpa using e⟩
theorem open_slice_cell {t e : TypeId} (ht : P.underlying t = some (.slice e)) {n : Nat} {v : Value} {y : DataW H × List MemPlace} (h : DataW.trod enc P w base spare held n t [v] = some y) : ∃ a len cap, v = .slice a len cap := by
  rcases DataW.trod_slice ht h with ⟨h0, _⟩ | ⟨a', l', c', _, _, _, _, h0, _⟩
  · exact ⟨none, 0, 0, by simpa using h0⟩
  · exact ⟨some a', l', c', by simpa using h0⟩
end
theorem agg_of1 {cs : Array Value} {n : Nat} (h : cs.size = n) (hn : n = 1) : ∃ u0, Value.agg cs = .agg #[u0] := by
  subst hn
  obtain ⟨l⟩ := cs
  match l, h with
  | [u0], _ => exact ⟨u0, rfl⟩
theorem agg_of3 {cs : Array Value} {n : Nat} (h : cs.size = n) (hn : n = 3) : ∃ u0 u1 u2, Value.agg cs = .agg #[u0, u1, u2] := by
  subst hn
  obtain ⟨l⟩ := cs
  match l, h with
  | [u0, u1, u2], _ => exact ⟨u0, u1, u2, rfl⟩
end Go.Proofs.YtghpekijimoicaaDoor
namespace Go.Proofs.YtghpekijimoicaaDoor
open Go.RowKit

section
variable {H : Type} (enc : TypeId × Value → H) (P : Program) (w : World) (base : Nat) (spare : Nat → Bool) (held : Bool)
/-- What is read at type t lies as L says. -/
def Opens {α : Type} (t : TypeId) (L : Lay α) : Prop :=
  ∀ n cs y, DataW.trod enc P w base spare held n t cs = some y → ∃ z : α, L.fit z ∧ cs.length = L.sz ∧ ∀ j (hj : j < cs.length) (hj' : j < (L.cells z).length), RD w cs[j] (L.cells z)[j]
end
section
variable {H : Type} {enc : TypeId × Value → H} {P : Program} {w : World} {base : Nat} {spare : Nat → Bool} {held : Bool}
theorem Opens.int {t : TypeId} (ht : P.underlying t = some (.int .i64)) : Opens enc P w base spare held t Lay.int := by
  intro n cs y h
  obtain ⟨k, rfl, _, hw⟩ := DataW.trod_int ht h
  refine ⟨k, hw, rfl, fun j hj hj' => ?_⟩
  match j, hj with
  | 0, _ => exact .val _
theorem Opens.str {t : TypeId} (ht : P.underlying t = some .string) : Opens enc P w base spare held t Lay.str := by
  intro n cs y h
  obtain ⟨s, rfl, _, hs⟩ := DataW.trod_string ht h
  refine ⟨s, hs, rfl, fun j hj hj' => ?_⟩
  match j, hj with
  | 0, _ => exact .val _
theorem Opens.bool {t : TypeId} (ht : P.underlying t = some .bool) : Opens enc P w base spare held t Lay.bool := by
  intro n cs y h
  obtain ⟨b, rfl, _⟩ := DataW.trod_bool ht h
  refine ⟨b, trivial, rfl, fun j hj hj' => ?_⟩
  match j, hj with
  | 0, _ => exact .val _
theorem Opens.list {α : Type} {L : Lay α} {t e : TypeId} (ht : P.underlying t = some (.slice e)) (hc : P.cellsOf e = L.sz) (he : Opens enc P w base spare held e L) : Opens enc P w base spare held t (Lay.list L) := by
  intro n cs y h
  obtain ⟨a, len, cap, rfl⟩ : ∃ a len cap, cs = [.slice a len cap] := by
    rcases DataW.trod_slice ht h with ⟨h0, _⟩ | ⟨a', l', c', _, _, _, _, h0, _⟩
    · exact ⟨none, 0, 0, h0⟩
    · exact ⟨some a', l', c', h0⟩
  obtain ⟨zs, rfl, h2, h3, h4⟩ := open_dat L.cells L.len L.pos L.fit ht hc (fun n _ cs y hy => by
    obtain ⟨z, hz, _, hr⟩ := he n cs y hy
    exact ⟨z, hz, hr⟩) h
  refine ⟨zs, ⟨h2, h4⟩, rfl, fun j hj hj' => ?_⟩
  match j, hj with
  | 0, _ => exact h3
/-- An argument that is a slice. -/
theorem Opens.slice {α : Type} {L : Lay α} {t : TypeId} (he : Opens enc P w base spare held t (Lay.list L)) {n : Nat} {a : Option Addr} {len cap : Nat} {y : DataW H × List MemPlace} (h : DataW.trod enc P w base spare held n t [.slice a len cap] = some y) :
    ∃ zs : List α, len = zs.length ∧ (Lay.list L).fit zs ∧ RD w (.slice a zs.length cap) (slD L zs) := by
  obtain ⟨zs, hf, _, hr⟩ := he n _ y h
  have r : RD w (.slice a len cap) (slD L zs) := hr 0 (by simp) (by simp [Lay.cells_list])
  have e := r.lenL
  subst e
  exact ⟨zs, rfl, hf, r⟩
end
end Go.Proofs.YtghpekijimoicaaDoor
namespace Go.Proofs.YtghpekijimoicaaDoor
open Go.RowKit

/-- As the program has it. -/
structure Nd where
  kind : Int
  sym : Int
  alt : Int
  pl : Int
  kids : (List Int)
def Lay.node : Lay Nd := { cells := fun x => [.val (.int .i64 x.kind), .val (.int .i64 x.sym), .val (.int .i64 x.alt), .val (.int .i64 x.pl), slD Lay.int x.kids], sz := 5, len := fun _ => rfl, pos := by decide, wt := fun x => (Lay.list Lay.int).wt x.kids, fit := fun x => (Lit.int .i64 x.kind).wf = true ∧ (Lit.int .i64 x.sym).wf = true ∧ (Lit.int .i64 x.alt).wf = true ∧ (Lit.int .i64 x.pl).wf = true ∧ (Lay.list Lay.int).fit x.kids }
theorem Lay_node_wt (x : Nd) : Lay.node.wt x = (Lay.list Lay.int).wt x.kids := rfl
theorem Lay_node_fit (x : Nd) : Lay.node.fit x = ((Lit.int .i64 x.kind).wf = true ∧ (Lit.int .i64 x.sym).wf = true ∧ (Lit.int .i64 x.alt).wf = true ∧ (Lit.int .i64 x.pl).wf = true ∧ (Lay.list Lay.int).fit x.kids) := rfl

section
variable {H : Type} {enc : TypeId × Value → H} {P : Program} {w : World} {base : Nat} {spare : Nat → Bool} {held : Bool}
theorem Opens.node {t : TypeId} {f0 f1 f2 f3 f4 : Field} (hu : P.underlying t = some (.struct #[f0, f1, f2, f3, f4])) (o0 : f0.offset = 0) (s0 : P.cellsOf f0.type = 1) (h0 : Opens enc P w base spare held f0.type Lay.int) (o1 : f1.offset = 1) (s1 : P.cellsOf f1.type = 1) (h1 : Opens enc P w base spare held f1.type Lay.int) (o2 : f2.offset = 2) (s2 : P.cellsOf f2.type = 1) (h2 : Opens enc P w base spare held f2.type Lay.int) (o3 : f3.offset = 3) (s3 : P.cellsOf f3.type = 1) (h3 : Opens enc P w base spare held f3.type Lay.int) (o4 : f4.offset = 4) (s4 : P.cellsOf f4.type = 1) (h4 : Opens enc P w base spare held f4.type (Lay.list Lay.int)) (hc : P.cellsOf t = 5) : Opens enc P w base spare held t Lay.node := by
  intro n cs y h
  obtain ⟨xs, m, _, _, hl, hlen, hf⟩ := DataW.trod_struct hu h
  rw [hc] at hl
  match xs, hlen, cs, hl with
  | [y0, y1, y2, y3, y4], _, [v0, v1, v2, v3, v4], _ =>
    have g0 := hf 0 f0 rfl
    rw [o0, s0] at g0
    obtain ⟨z0, fit0, _, r0⟩ := h0 m _ y0 (by simpa using g0)
    have g1 := hf 1 f1 rfl
    rw [o1, s1] at g1
    obtain ⟨z1, fit1, _, r1⟩ := h1 m _ y1 (by simpa using g1)
    have g2 := hf 2 f2 rfl
    rw [o2, s2] at g2
    obtain ⟨z2, fit2, _, r2⟩ := h2 m _ y2 (by simpa using g2)
    have g3 := hf 3 f3 rfl
    rw [o3, s3] at g3
    obtain ⟨z3, fit3, _, r3⟩ := h3 m _ y3 (by simpa using g3)
    have g4 := hf 4 f4 rfl
    rw [o4, s4] at g4
    obtain ⟨z4, fit4, _, r4⟩ := h4 m _ y4 (by simpa using g4)
    refine ⟨⟨z0, z1, z2, z3, z4⟩, ⟨fit0, fit1, fit2, fit3, fit4⟩, rfl, fun j hj hj' => ?_⟩
    match j, hj with
    | 0, _ => exact r0 0 (by simp) (by rw [Lay.int.len]; decide)
    | 1, _ => exact r1 0 (by simp) (by rw [Lay.int.len]; decide)
    | 2, _ => exact r2 0 (by simp) (by rw [Lay.int.len]; decide)
    | 3, _ => exact r3 0 (by simp) (by rw [Lay.int.len]; decide)
    | 4, _ => exact r4 0 (by simp) (by rw [(Lay.list Lay.int).len]; decide)
end

set_option maxRecDepth 100000 in
theorem szNode_l (x : Nd) (a0 : Option Addr) (c0 : Nat) (l : Int) (w : World) (h0 : RD w (.slice a0 x.kids.length c0) (slD Lay.int x.kids)) (hf : (Lay.list Lay.int).fit x.kids) (hl0 : 0 ≤ l) (hl1 : l ≤ 1048576) :
    Calls Tryd.prog 50 #[.agg #[.int .i64 x.kind, .int .i64 x.sym, .int .i64 x.alt, .int .i64 x.pl, .slice a0 x.kids.length c0], .int .i64 l] w fun e w' => ∃ r, e = .returned (.int .i64 r) ∧ SzE (Lay.node.wt x) l r ∧ Below w.heap.size w w' := by
  rw [Lay_node_wt]
  have B := (Below.refl w.heap.size w).alloc (Nat.le_refl _) (.cells #[.int .i64 x.kind, .int .i64 x.sym, .int .i64 x.alt, .int .i64 x.pl, .slice a0 x.kids.length c0] 86)
  have X : Hid (∀ W : World, Below w.heap.size w W → Calls Tryd.prog 75 #[.slice a0 x.kids.length c0, .int .i64 l] W fun e w' => ∃ r, e = .returned (.int .i64 r) ∧ SzE ((Lay.list Lay.int).wt x.kids) l r ∧ Below W.heap.size W w') :=
    fun W hW => szIntS_l x.kids a0 c0 l W (h0.later hW) hf hl0 hl1
  clear h0 hf
  generalize (Lay.list Lay.int).wt x.kids = wk at *
  generalize x.kids = y at *
  generalize x.kind = v0 at *
  generalize x.sym = v1 at *
  generalize x.alt = v2 at *
  generalize x.pl = v3 at *
  go_enter Tryd.func50, Tryd.ntmps50
  go_wp2_with fail
  refine (X.out _ B).mono ?_
  rintro e w1 ⟨r, rfl, hr, hb⟩
  have B1 := B.trans (hb.mono B.size)
  clear X
  rcases hr with rfl | ⟨hr0, hr1⟩
  · go_wp2
    go_ret
    exact ⟨_, rfl, .inl rfl, B1⟩
  · have HR : Hid (r = l - wk) := hr1
    clear hr1
    go_wp2
    go_ret
    exact ⟨_, rfl, .inr ⟨hr0, HR.out⟩, B1⟩

set_option maxRecDepth 100000 in
theorem eqNode_l (x : Nd) (a0 b0 : Option Addr) (c0 d0 : Nat) (w : World) (h0 : RD w (.slice a0 x.kids.length c0) (slD Lay.int x.kids)) (g0 : RD w (.slice b0 x.kids.length d0) (slD Lay.int x.kids)) (hn : Lay.node.wt x ≤ 4194304) :
    Calls Tryd.prog 67 #[.agg #[.int .i64 x.kind, .int .i64 x.sym, .int .i64 x.alt, .int .i64 x.pl, .slice a0 x.kids.length c0], .agg #[.int .i64 x.kind, .int .i64 x.sym, .int .i64 x.alt, .int .i64 x.pl, .slice b0 x.kids.length d0]] w fun e w' => e = .returned (.bool true) ∧ Below w.heap.size w w' := by
  rw [Lay_node_wt] at hn
  have B := ((Below.refl w.heap.size w).alloc (Nat.le_refl _) (.cells #[.int .i64 x.kind, .int .i64 x.sym, .int .i64 x.alt, .int .i64 x.pl, .slice a0 x.kids.length c0] 54)).alloc (by simp) (.cells #[.int .i64 x.kind, .int .i64 x.sym, .int .i64 x.alt, .int .i64 x.pl, .slice b0 x.kids.length d0] 54)
  have X : Hid (∀ W : World, Below w.heap.size w W → Calls Tryd.prog 16 #[.slice a0 x.kids.length c0, .slice b0 x.kids.length d0] W fun e w' => e = .returned (.bool true) ∧ Below W.heap.size W w') :=
    fun W hW => eqIntS_l x.kids a0 b0 c0 d0 W (h0.later hW) (g0.later hW) hn
  clear h0 g0 hn
  generalize x.kids = y at *
  generalize x.kind = v0 at *
  generalize x.sym = v1 at *
  generalize x.alt = v2 at *
  generalize x.pl = v3 at *
  go_enter Tryd.func67, Tryd.ntmps67
  go_wp2_with fail
  refine (X.out _ B).mono ?_
  rintro e w1 ⟨rfl, hb⟩
  go_wp2
  go_ret
  exact ⟨rfl, B.trans (hb.mono B.size)⟩

set_option maxRecDepth 100000 in
theorem toNode_l (x : Nd) (a0 : Option Addr) (c0 : Nat) (w : World) (h0 : RD w (.slice a0 x.kids.length c0) (slD Lay.int x.kids)) (hn : Lay.node.wt x ≤ 1048576) :
    Calls Tryd.prog 59 #[.agg #[.int .i64 x.kind, .int .i64 x.sym, .int .i64 x.alt, .int .i64 x.pl, .slice a0 x.kids.length c0]] w fun e w' => ∃ a1 c1 S, e = .returned (.agg #[.int .i64 x.kind, .int .i64 x.sym, .int .i64 x.alt, .int .i64 x.pl, .slice a1 x.kids.length c1]) ∧ Cells w' w.heap.size [.int .i64 x.kind, .int .i64 x.sym, .int .i64 x.alt, .int .i64 x.pl, .slice a1 x.kids.length c1] (Lay.node.cells x) S ∧ Below w.heap.size w w' := by
  rw [Lay_node_wt] at hn
  have HC : Hid (Lay.node.cells x = List.map Dat.val [.int .i64 x.kind, .int .i64 x.sym, .int .i64 x.alt, .int .i64 x.pl] ++ [slD Lay.int x.kids]) := rfl
  have X : Hid (∀ W : World, Below w.heap.size w W → Calls Tryd.prog 12 #[.slice a0 x.kids.length c0] W fun e w' => ∃ v S, e = .returned v ∧ OD w' W.heap.size v (slD Lay.int x.kids) S ∧ Below W.heap.size W w') :=
    fun W hW => toIntS_l x.kids a0 c0 W (h0.later hW) hn
  rw [HC.out]
  clear h0 hn HC
  generalize x.kids = y at *
  generalize x.kind = v0 at *
  generalize x.sym = v1 at *
  generalize x.alt = v2 at *
  generalize x.pl = v3 at *
  have B : Below w.heap.size w (((w.alloc (.cells #[.int .i64 v0, .int .i64 v1, .int .i64 v2, .int .i64 v3, .slice a0 y.length c0] 86)).alloc (.cells #[.int .i64 0, .int .i64 0, .int .i64 0, .int .i64 0, .slice none 0 0] 54)).alloc (.cells #[.int .i64 v0, .int .i64 v1, .int .i64 v2, .int .i64 v3, .slice none 0 0] 54)) :=
    (((Below.refl _ _).alloc (Nat.le_refl _) _).alloc (by simp) _).alloc (by simp; omega) _
  go_enter Tryd.func59, Tryd.ntmps59
  go_wp2_with fail
  refine (X.out _ B).mono ?_
  rintro e w1 ⟨v, S, rfl, O1, hb1⟩
  obtain ⟨hc, hf⟩ := bcellH hb1
  have hz := hb1.size
  simp only [World.size_alloc] at hc hf hz
  have B1 := B.trans (hb1.mono B.size)
  obtain ⟨a1, c1, rfl, _⟩ := OD.shapeL O1
  clear X B hb1
  go_wp2
  refine bodyPost_ret (v := .agg #[.int .i64 v0, .int .i64 v1, .int .i64 v2, .int .i64 v3, .slice a1 y.length c1]) (by simp [results, Tryd.results59, go_sem, hc]) rfl ⟨a1, c1, S, rfl, ?_, ?_⟩
  · refine Cells.last [.int .i64 v0, .int .i64 v1, .int .i64 v2, .int .i64 v3] ((O1.kept (T := fun k => k < w.heap.size + 1 + 1 + 1) ?_ (fun k hk hk2 => ?_)).base (by simp; omega))
    · repeat refine Within.setCell ?_ _ _ (by simp)
      exact Within.refl _ _
    · have := (O1.lt k hk).1
      simp at this
      omega
  · repeat refine Below.setCell ?_ (by simp; try omega) _
    exact B1

end Go.Proofs.YtghpekijimoicaaDoor
namespace Go.Proofs.YtghpekijimoicaaDoor
open Go.RowKit

/-- The cells of place i of a slice of such structs that is read. -/
theorem RD.atNode {w : World} {a : Option Addr} {n c : Nat} {xs : List Nd} (h : RD w (.slice a n c) (slD Lay.node xs)) {i : Nat} (hi : i < xs.length) :
    ∃ b off, a = some ⟨b, off, none⟩ ∧ b < w.heap.size ∧ (w.cell? ⟨b, off + i * 5, none⟩ = some (.int .i64 xs[i].kind) ∧ w.cell? ⟨b, off + i * 5 + 1, none⟩ = some (.int .i64 xs[i].sym) ∧ w.cell? ⟨b, off + i * 5 + 2, none⟩ = some (.int .i64 xs[i].alt) ∧ w.cell? ⟨b, off + i * 5 + 3, none⟩ = some (.int .i64 xs[i].pl)) ∧ ∃ a1 c1, w.cell? ⟨b, off + i * 5 + 4, none⟩ = some (.slice a1 xs[i].kids.length c1) ∧ RD w (.slice a1 xs[i].kids.length c1) (slD Lay.int xs[i].kids) := by
  obtain ⟨b, off, rfl, hb, u0, k0, r0⟩ := RD.cellAt h hi (j := 0) (by decide) (by simp [Lay.node])
  obtain ⟨b1, off1, e1, _, u1, k1, r1⟩ := RD.cellAt h hi (j := 1) (by decide) (by simp [Lay.node])
  cases e1
  obtain ⟨b2, off2, e2, _, u2, k2, r2⟩ := RD.cellAt h hi (j := 2) (by decide) (by simp [Lay.node])
  cases e2
  obtain ⟨b3, off3, e3, _, u3, k3, r3⟩ := RD.cellAt h hi (j := 3) (by decide) (by simp [Lay.node])
  cases e3
  obtain ⟨b4, off4, e4, _, u4, k4, r4⟩ := RD.cellAt h hi (j := 4) (by decide) (by simp [Lay.node])
  cases e4
  have z0 : u0 = .int .i64 xs[i].kind := RD.val_eq r0
  subst z0
  rw [show off + (i * Lay.node.sz + 0) = off + i * 5 from rfl] at k0
  have z1 : u1 = .int .i64 xs[i].sym := RD.val_eq r1
  subst z1
  rw [show off + (i * Lay.node.sz + 1) = off + i * 5 + 1 from rfl] at k1
  have z2 : u2 = .int .i64 xs[i].alt := RD.val_eq r2
  subst z2
  rw [show off + (i * Lay.node.sz + 2) = off + i * 5 + 2 from rfl] at k2
  have z3 : u3 = .int .i64 xs[i].pl := RD.val_eq r3
  subst z3
  rw [show off + (i * Lay.node.sz + 3) = off + i * 5 + 3 from rfl] at k3
  have r4' : RD w u4 (slD Lay.int xs[i].kids) := r4
  obtain ⟨a1, c1, rfl⟩ := RD.shapeL r4'
  rw [show off + (i * Lay.node.sz + 4) = off + i * 5 + 4 from rfl] at k4
  exact ⟨b, off, rfl, hb, ⟨k0, k1, k2, k3⟩, a1, c1, k4, r4'⟩

theorem Tryd.infoNode : (Tryd.prog.info? 54).map (fun i => (i.zero, i.size, i.bytes)) = some (some (.agg #[.int .i64 0, .int .i64 0, .int .i64 0, .int .i64 0, .slice none 0 0]), 5, 56) := by kernel_rfl

set_option maxRecDepth 100000 in
theorem toNodeS_l (xs : List Nd) (a : Option Addr) (c : Nat) (w : World) (h : RD w (.slice a xs.length c) (slD Lay.node xs)) (hn : (Lay.list Lay.node).wt xs ≤ 1048576) :
    Calls Tryd.prog 31 #[.slice a xs.length c] w fun e w' => ∃ v S, e = .returned v ∧ OD w' w.heap.size v (slD Lay.node xs) S ∧ Below w.heap.size w w' := by
  rw [Lay.wt_list] at hn
  obtain ⟨W, hmk, O0, B0⟩ := make_ownL (P := Tryd.prog) w 34 54 (.agg #[.int .i64 0, .int .i64 0, .int .i64 0, .int .i64 0, .slice none 0 0]) 56 [.int .i64 0, .int .i64 0, .int .i64 0, .int .i64 0, .slice none 0 0] [.val (.int .i64 0), .val (.int .i64 0), .val (.int .i64 0), .val (.int .i64 0), .sl 0 []] xs.length Tryd.underlying34 Tryd.infoNode rfl (by decide) (by omega) (by decide) (by intro u hu; simp at hu; rcases hu with rfl | rfl <;> rfl) rfl
    (by intro W base i hi hi'; match i, hi with | 0, _ => exact .val _ | 1, _ => exact .val _ | 2, _ => exact .val _ | 3, _ => exact .val _ | 4, _ => exact .nil 0 rfl)
  rw [zero_cells (L := Lay.node) (z := (⟨0, 0, 0, 0, []⟩ : Nd)) (zd := [.val (.int .i64 0), .val (.int .i64 0), .val (.int .i64 0), .val (.int .i64 0), .sl 0 []]) rfl] at O0
  go_enter Tryd.func31, Tryd.ntmps31
  go_wp2
  go_loopw [4] (fun i wr => ∃ (k : Nat) (S : Nat → Prop), k ≤ xs.length ∧ i = .int .i64 k ∧ OL wr w.heap.size 54 5 (.slice (some ⟨w.heap.size, 0, none⟩) xs.length xs.length) xs.length ((xs.take k ++ List.replicate (xs.length - k) (⟨0, 0, 0, 0, []⟩ : Nd)).flatMap Lay.node.cells) S ∧ Below w.heap.size w wr) (fun i _ => xs.length - (intOf i).toNat)
  case atStart => exact ⟨0, _, Nat.zero_le _, rfl, by simpa using O0, B0⟩
  case round =>
    obtain ⟨k, S, hk, rfl, hown, hbel⟩ := hrel
    by_cases hlt : k < xs.length
    · obtain ⟨b1, o1, rfl, hb1, ⟨q0, q1, q2, q3⟩, a1, c1, q4, r1⟩ := (h.later hbel).atNode hlt
      have hk2 := Lay.sumL_at Lay.node hlt
      have X : Hid (Calls Tryd.prog 59 #[.agg #[.int .i64 xs[k].kind, .int .i64 xs[k].sym, .int .i64 xs[k].alt, .int .i64 xs[k].pl, .slice a1 xs[k].kids.length c1]] wr fun e w' => ∃ a2 c2 S, e = .returned (.agg #[.int .i64 xs[k].kind, .int .i64 xs[k].sym, .int .i64 xs[k].alt, .int .i64 xs[k].pl, .slice a2 xs[k].kids.length c2]) ∧ Cells w' wr.heap.size [.int .i64 xs[k].kind, .int .i64 xs[k].sym, .int .i64 xs[k].alt, .int .i64 xs[k].pl, .slice a2 xs[k].kids.length c2] (Lay.node.cells xs[k]) S ∧ Below wr.heap.size wr w') :=
        toNode_l xs[k] a1 c1 wr r1 (by omega)
      have HP : Hid ((xs.take k ++ List.replicate (xs.length - k) (⟨0, 0, 0, 0, []⟩ : Nd)).set k xs[k] = xs.take (k + 1) ++ List.replicate (xs.length - (k + 1)) (⟨0, 0, 0, 0, []⟩ : Nd)) := put_step hlt
      have hkL : k < (xs.take k ++ List.replicate (xs.length - k) ((⟨0, 0, 0, 0, []⟩ : Nd) : Nd)).length := by simp; omega
      have HPE : Hid (∀ (w1 : World) (S : Nat → Prop) (us : List Value) (T : Nat → Prop), OL w1 w.heap.size 54 5 (.slice (some ⟨w.heap.size, 0, none⟩) xs.length xs.length) xs.length ((xs.take k ++ List.replicate (xs.length - k) (⟨0, 0, 0, 0, []⟩ : Nd)).flatMap Lay.node.cells) S → Cells w1 w.heap.size us (Lay.node.cells xs[k]) T → (∀ k, T k → ¬ S k) →
          ∃ S', OL (putCells w1 w.heap.size (k * 5) us) w.heap.size 54 5 (.slice (some ⟨w.heap.size, 0, none⟩) xs.length xs.length) xs.length ((xs.take (k + 1) ++ List.replicate (xs.length - (k + 1)) (⟨0, 0, 0, 0, []⟩ : Nd)).flatMap Lay.node.cells) S' ∧ S w.heap.size ∧ w1.grownBy (putCells w1 w.heap.size (k * 5) us) (some w.heap.size) ∧
            ∀ j, j < us.length → (∃ z, (putCells w1 w.heap.size (k * 5) (us.take j)).cell? ⟨w.heap.size, k * 5 + j, none⟩ = some z) ∧ (putCells w1 w.heap.size (k * 5) (us.take j)).frozen? ⟨w.heap.size, k * 5 + j, none⟩ = false) := by
        intro w1 S us T hO hu hd
        obtain ⟨S', h1, _, h3, h4, h5⟩ := OL.putElem (L := Lay.node) hO hkL us xs[k] T hu hd
        rw [HP.out] at h1
        exact ⟨S', h1, h3, h4, h5⟩
      clear h r1 hmk O0 B0 hk2 HP hkL
      generalize Lay.node.cells xs[k] = cx at *
      generalize xs[k].kids = y at *
      generalize xs[k].kind = v0 at *
      generalize xs[k].sym = v1 at *
      generalize xs[k].alt = v2 at *
      generalize xs[k].pl = v3 at *
      generalize xs.take k ++ List.replicate (xs.length - k) ((⟨0, 0, 0, 0, []⟩ : Nd) : Nd) = M at *
      go_wp2_with fail
      refine X.out.mono ?_
      rintro e w1 ⟨a2, c2, T, rfl, O1, hb2⟩
      have B1 := hbel.trans (hb2.mono hbel.size)
      have own1 := hown.later hb2
      have hsz := hbel.size
      obtain ⟨S', O2, hSg, G2, hall⟩ := HPE.out w1 S _ T own1 (O1.base hsz) (fun k hk hk2 => by have h1 := (O1.lt k hk).1; have h2 := (hown.lt k hk2).2; omega)
      have hall' : (∃ z, (putCells w1 w.heap.size (k * 5) (List.take 0 ([.int .i64 v0, .int .i64 v1, .int .i64 v2, .int .i64 v3, .slice a2 y.length c2] : List Value))).cell? ⟨w.heap.size, k * 5 + 0, none⟩ = some z) ∧ (putCells w1 w.heap.size (k * 5) (List.take 0 ([.int .i64 v0, .int .i64 v1, .int .i64 v2, .int .i64 v3, .slice a2 y.length c2] : List Value))).frozen? ⟨w.heap.size, k * 5 + 0, none⟩ = false ∧ (∃ z, (putCells w1 w.heap.size (k * 5) (List.take 1 ([.int .i64 v0, .int .i64 v1, .int .i64 v2, .int .i64 v3, .slice a2 y.length c2] : List Value))).cell? ⟨w.heap.size, k * 5 + 1, none⟩ = some z) ∧ (putCells w1 w.heap.size (k * 5) (List.take 1 ([.int .i64 v0, .int .i64 v1, .int .i64 v2, .int .i64 v3, .slice a2 y.length c2] : List Value))).frozen? ⟨w.heap.size, k * 5 + 1, none⟩ = false ∧ (∃ z, (putCells w1 w.heap.size (k * 5) (List.take 2 ([.int .i64 v0, .int .i64 v1, .int .i64 v2, .int .i64 v3, .slice a2 y.length c2] : List Value))).cell? ⟨w.heap.size, k * 5 + 2, none⟩ = some z) ∧ (putCells w1 w.heap.size (k * 5) (List.take 2 ([.int .i64 v0, .int .i64 v1, .int .i64 v2, .int .i64 v3, .slice a2 y.length c2] : List Value))).frozen? ⟨w.heap.size, k * 5 + 2, none⟩ = false ∧ (∃ z, (putCells w1 w.heap.size (k * 5) (List.take 3 ([.int .i64 v0, .int .i64 v1, .int .i64 v2, .int .i64 v3, .slice a2 y.length c2] : List Value))).cell? ⟨w.heap.size, k * 5 + 3, none⟩ = some z) ∧ (putCells w1 w.heap.size (k * 5) (List.take 3 ([.int .i64 v0, .int .i64 v1, .int .i64 v2, .int .i64 v3, .slice a2 y.length c2] : List Value))).frozen? ⟨w.heap.size, k * 5 + 3, none⟩ = false ∧ (∃ z, (putCells w1 w.heap.size (k * 5) (List.take 4 ([.int .i64 v0, .int .i64 v1, .int .i64 v2, .int .i64 v3, .slice a2 y.length c2] : List Value))).cell? ⟨w.heap.size, k * 5 + 4, none⟩ = some z) ∧ (putCells w1 w.heap.size (k * 5) (List.take 4 ([.int .i64 v0, .int .i64 v1, .int .i64 v2, .int .i64 v3, .slice a2 y.length c2] : List Value))).frozen? ⟨w.heap.size, k * 5 + 4, none⟩ = false := by
        refine ⟨(hall 0 (by simp)).1, (hall 0 (by simp)).2, (hall 1 (by simp)).1, (hall 1 (by simp)).2, (hall 2 (by simp)).1, (hall 2 (by simp)).2, (hall 3 (by simp)).1, (hall 3 (by simp)).2, (hall 4 (by simp)).1, (hall 4 (by simp)).2⟩
      simp only [List.take_succ_cons, List.take_zero, putCells, Nat.add_zero, Nat.add_assoc, Nat.reduceAdd] at hall' O2 G2
      obtain ⟨⟨z0, d0⟩, f0, ⟨z1, d1⟩, f1, ⟨z2, d2⟩, f2, ⟨z3, d3⟩, f3, ⟨z4, d4⟩, f4⟩ := hall'
      have B2 := B1.grown G2 B1.size (fun k hk => by cases hk; exact Nat.le_refl _)
      have hz1 : w.heap.size < w1.heap.size := Nat.lt_of_lt_of_le (hown.lt _ hSg).2 hb2.size
      clear X hown own1 O1 hbel hb2 HPE G2 q0 q1 q2 q3 q4 hb1 B1 hall
      go_wp2
      go_roundw
      case rel => exact ⟨k + 1, S', by omega, by go_num, O2, B2⟩
      case measure => simp [intOf]; omega
    · have e : k = xs.length := by omega
      subst e
      go_wp2
      go_ret
      exact ⟨_, _, rfl, by simpa [slD] using hown.od, hbel⟩

theorem eqNodeS_l (xs : List Nd) (a b : Option Addr) (c d : Nat) (w : World) (h : RD w (.slice a xs.length c) (slD Lay.node xs)) (g : RD w (.slice b xs.length d) (slD Lay.node xs)) (hn : (Lay.list Lay.node).wt xs ≤ 4194304) :
    Calls Tryd.prog 37 #[.slice a xs.length c, .slice b xs.length d] w fun e w' => e = .returned (.bool true) ∧ Below w.heap.size w w' := by
  rw [Lay.wt_list] at hn
  go_enter Tryd.func37, Tryd.ntmps37
  go_wp2
  go_loopw [5] (fun i wr => ∃ k : Nat, k ≤ xs.length ∧ i = .int .i64 k ∧ Below w.heap.size w wr) (fun i _ => xs.length - (intOf i).toNat)
  case atStart => exact ⟨0, Nat.zero_le _, rfl, Below.refl _ _⟩
  case round =>
    obtain ⟨k, hk, rfl, hbel⟩ := hrel
    by_cases hlt : k < xs.length
    · obtain ⟨b1, o1, rfl, hb1, ⟨q0, q1, q2, q3⟩, a1, c1, q4, r1⟩ := (h.later hbel).atNode hlt
      obtain ⟨b2, o2, rfl, hb2, ⟨p0, p1, p2, p3⟩, a2, c2, p4, r2⟩ := (g.later hbel).atNode hlt
      have hk2 := Lay.sumL_at Lay.node hlt
      have X : Hid (Calls Tryd.prog 67 #[.agg #[.int .i64 xs[k].kind, .int .i64 xs[k].sym, .int .i64 xs[k].alt, .int .i64 xs[k].pl, .slice a1 xs[k].kids.length c1], .agg #[.int .i64 xs[k].kind, .int .i64 xs[k].sym, .int .i64 xs[k].alt, .int .i64 xs[k].pl, .slice a2 xs[k].kids.length c2]] wr.drew fun e w' => e = .returned (.bool true) ∧ Below wr.heap.size wr w') :=
        (eqNode_l xs[k] a1 a2 c1 c2 wr.drew (r1.later (below_drew 1)) (r2.later (below_drew 1)) (by omega)).mono fun e w' h => ⟨h.1, ⟨h.2.os, h.2.tape, h.2.output, h.2.size, h.2.block⟩⟩
      clear h g r1 r2 hk2
      generalize xs[k].kids = y at *
      generalize xs[k].kind = v0 at *
      generalize xs[k].sym = v1 at *
      generalize xs[k].alt = v2 at *
      generalize xs[k].pl = v3 at *
      go_wp2
      go_region_with (go_at_call 67; refine X.out.mono ?_; rintro e w1 ⟨rfl, hl1⟩)
      all_goals
        go_wp2
        go_roundw
        case rel => exact ⟨k + 1, by omega, by go_num, hbel.trans (hl1.mono hbel.size)⟩
        case measure => simp [intOf]; omega
    · go_wp2
      go_ret
      exact ⟨rfl, hbel⟩

set_option maxRecDepth 100000 in
theorem szNodeS_l (xs : List Nd) (a : Option Addr) (c : Nat) (l : Int) (w : World) (h : RD w (.slice a xs.length c) (slD Lay.node xs)) (hf : (Lay.list Lay.node).fit xs) (h0 : 0 ≤ l) (h1 : l ≤ 1048576) :
    Calls Tryd.prog 24 #[.slice a xs.length c, .int .i64 l] w fun e w' => ∃ r, e = .returned (.int .i64 r) ∧ SzE ((Lay.list Lay.node).wt xs) l r ∧ Below w.heap.size w w' := by
  obtain ⟨hm, hfe⟩ := hf
  unfold maxLen at hm
  rw [Lay.wt_list]
  by_cases hbig : l < (xs.length : Int)
  · go_enter Tryd.func24, Tryd.ntmps24
    go_wp2
    go_ret
    exact ⟨_, rfl, .inl rfl, Below.refl _ _⟩
  · go_enter Tryd.func24, Tryd.ntmps24
    go_wp2
    go_loopw [1, 5] (fun sl i wr => ∃ (k : Nat) (x : Int), k ≤ xs.length ∧ i = .int .i64 k ∧ sl = .int .i64 x ∧ 0 ≤ x ∧ Hid (x + xs.length + Lay.sumL Lay.node (xs.take k) = l) ∧ Below w.heap.size w wr) (fun _ i _ => xs.length - (intOf i).toNat)
    case atStart => exact ⟨0, l - xs.length, Nat.zero_le _, rfl, rfl, by omega, by show _ = _; simp [Lay.sumL], Below.refl _ _⟩
    case round =>
      obtain ⟨k, x, hk, rfl, rfl, hx0, HXL, hbel⟩ := hrel
      by_cases hlt : k < xs.length
      · obtain ⟨b1, o1, rfl, hb1, ⟨q0, q1, q2, q3⟩, a1, c1, q4, r1⟩ := (h.later hbel).atNode hlt
        have fe := hfe xs[k] (List.getElem_mem hlt)
        have fk : (Lay.list Lay.int).fit xs[k].kids := fe.2.2.2.2
        have HW : Hid (Lay.sumL Lay.node (xs.take (k + 1)) = Lay.sumL Lay.node (xs.take k) + Lay.node.wt xs[k]) := Lay.sumL_take _ hlt
        have hx1 : x ≤ 1048576 := by have := HXL.out; omega
        have X : Hid (Calls Tryd.prog 50 #[.agg #[.int .i64 xs[k].kind, .int .i64 xs[k].sym, .int .i64 xs[k].alt, .int .i64 xs[k].pl, .slice a1 xs[k].kids.length c1], .int .i64 x] wr fun e w' => ∃ r, e = .returned (.int .i64 r) ∧ SzE (Lay.node.wt xs[k]) x r ∧ Below wr.heap.size wr w') :=
          szNode_l xs[k] a1 c1 x wr r1 fk hx0 hx1
        clear h r1 fe fk hfe
        generalize Lay.node.wt xs[k] = wk at *
        generalize xs[k].kids = y at *
        generalize xs[k].kind = v0 at *
        generalize xs[k].sym = v1 at *
        generalize xs[k].alt = v2 at *
        generalize xs[k].pl = v3 at *
        go_wp2_with fail
        refine X.out.mono ?_
        rintro e w1 ⟨r, rfl, hr, hb2⟩
        have B2 := hbel.trans (hb2.mono hbel.size)
        clear X hb2 q0 q1 q2 q3 q4
        rcases hr with rfl | ⟨hr0, hr1⟩
        · go_wp2
          go_ret
          exact ⟨_, rfl, .inl rfl, B2⟩
        · have HR : Hid (r = x - (wk : Nat)) := hr1
          clear hr1
          go_wp2
          go_roundw
          case rel => exact ⟨k + 1, r, by omega, by go_num, rfl, hr0, by show _ = _; rw [HW.out]; have h1 := HXL.out; have h2 := HR.out; omega, B2⟩
          case measure => simp [intOf]; omega
      · have e : k = xs.length := by omega
        subst e
        have HE : Hid (x = l - (xs.length + Lay.sumL Lay.node xs : Nat)) := by have := HXL.out; rw [List.take_length] at this; show _ = _; omega
        clear HXL
        go_wp2
        go_ret
        exact ⟨_, rfl, .inr ⟨hx0, HE.out⟩, hbel⟩

end Go.Proofs.YtghpekijimoicaaDoor
namespace Go.Proofs.YtghpekijimoicaaDoor
open Go.RowKit

/-- As the program has it. -/
structure Tr where
  nodes : (List Nd)
def Lay.tree : Lay Tr := { cells := fun x => [slD Lay.node x.nodes], sz := 1, len := fun _ => rfl, pos := by decide, wt := fun x => (Lay.list Lay.node).wt x.nodes, fit := fun x => (Lay.list Lay.node).fit x.nodes }
theorem Lay_tree_wt (x : Tr) : Lay.tree.wt x = (Lay.list Lay.node).wt x.nodes := rfl
theorem Lay_tree_fit (x : Tr) : Lay.tree.fit x = ((Lay.list Lay.node).fit x.nodes) := rfl

section
variable {H : Type} {enc : TypeId × Value → H} {P : Program} {w : World} {base : Nat} {spare : Nat → Bool} {held : Bool}
theorem Opens.tree {t : TypeId} {f0 : Field} (hu : P.underlying t = some (.struct #[f0])) (o0 : f0.offset = 0) (s0 : P.cellsOf f0.type = 1) (h0 : Opens enc P w base spare held f0.type (Lay.list Lay.node)) (hc : P.cellsOf t = 1) : Opens enc P w base spare held t Lay.tree := by
  intro n cs y h
  obtain ⟨xs, m, _, _, hl, hlen, hf⟩ := DataW.trod_struct hu h
  rw [hc] at hl
  match xs, hlen, cs, hl with
  | [y0], _, [v0], _ =>
    have g0 := hf 0 f0 rfl
    rw [o0, s0] at g0
    obtain ⟨z0, fit0, _, r0⟩ := h0 m _ y0 (by simpa using g0)
    refine ⟨⟨z0⟩, fit0, rfl, fun j hj hj' => ?_⟩
    match j, hj with
    | 0, _ => exact r0 0 (by simp) (by rw [(Lay.list Lay.node).len]; decide)
end

theorem eqTree_l (x : Tr) (a0 b0 : Option Addr) (c0 d0 : Nat) (w : World) (h0 : RD w (.slice a0 x.nodes.length c0) (slD Lay.node x.nodes)) (g0 : RD w (.slice b0 x.nodes.length d0) (slD Lay.node x.nodes)) (hn : Lay.tree.wt x ≤ 4194304) :
    Calls Tryd.prog 15 #[.agg #[.slice a0 x.nodes.length c0], .agg #[.slice b0 x.nodes.length d0]] w fun e w' => e = .returned (.bool true) ∧ Below w.heap.size w w' := by
  rw [Lay_tree_wt] at hn
  have B := ((Below.refl w.heap.size w).alloc (Nat.le_refl _) (.cells #[.slice a0 x.nodes.length c0] 36)).alloc (by simp) (.cells #[.slice b0 x.nodes.length d0] 36)
  have X : Hid (∀ W : World, Below w.heap.size w W → Calls Tryd.prog 37 #[.slice a0 x.nodes.length c0, .slice b0 x.nodes.length d0] W fun e w' => e = .returned (.bool true) ∧ Below W.heap.size W w') :=
    fun W hW => eqNodeS_l x.nodes a0 b0 c0 d0 W (h0.later hW) (g0.later hW) hn
  clear h0 g0 hn
  generalize x.nodes = y at *
  go_enter Tryd.func15, Tryd.ntmps15
  go_wp2_with fail
  refine (X.out _ B).mono ?_
  rintro e w1 ⟨rfl, hb⟩
  go_wp2
  go_ret
  exact ⟨rfl, B.trans (hb.mono B.size)⟩

set_option maxRecDepth 100000 in
theorem szTree_l (x : Tr) (a0 : Option Addr) (c0 : Nat) (l : Int) (w : World) (h0 : RD w (.slice a0 x.nodes.length c0) (slD Lay.node x.nodes)) (hf : Lay.tree.fit x) (hl0 : 0 ≤ l) (hl1 : l ≤ 1048576) :
    Calls Tryd.prog 8 #[.agg #[.slice a0 x.nodes.length c0], .int .i64 l] w fun e w' => ∃ r, e = .returned (.int .i64 r) ∧ SzE (Lay.tree.wt x) l r ∧ Below w.heap.size w w' := by
  rw [Lay_tree_wt]
  rw [Lay_tree_fit] at hf
  have B := (Below.refl w.heap.size w).alloc (Nat.le_refl _) (.cells #[.slice a0 x.nodes.length c0] 27)
  have X : Hid (∀ W : World, Below w.heap.size w W → Calls Tryd.prog 24 #[.slice a0 x.nodes.length c0, .int .i64 l] W fun e w' => ∃ r, e = .returned (.int .i64 r) ∧ SzE ((Lay.list Lay.node).wt x.nodes) l r ∧ Below W.heap.size W w') :=
    fun W hW => szNodeS_l x.nodes a0 c0 l W (h0.later hW) hf hl0 hl1
  clear h0 hf
  generalize (Lay.list Lay.node).wt x.nodes = wk at *
  generalize x.nodes = y at *
  go_enter Tryd.func8, Tryd.ntmps8
  go_wp2_with fail
  refine (X.out _ B).mono ?_
  rintro e w1 ⟨r, rfl, hr, hb⟩
  have B1 := B.trans (hb.mono B.size)
  clear X
  rcases hr with rfl | ⟨hr0, hr1⟩
  · go_wp2
    go_ret
    exact ⟨_, rfl, .inl rfl, B1⟩
  · have HR : Hid (r = l - wk) := hr1
    clear hr1
    go_wp2
    go_ret
    exact ⟨_, rfl, .inr ⟨hr0, HR.out⟩, B1⟩

set_option maxRecDepth 100000 in
theorem toTree_l (x : Tr) (a0 : Option Addr) (c0 : Nat) (w : World) (h0 : RD w (.slice a0 x.nodes.length c0) (slD Lay.node x.nodes)) (hn : Lay.tree.wt x ≤ 1048576) :
    Calls Tryd.prog 11 #[.agg #[.slice a0 x.nodes.length c0]] w fun e w' => ∃ a1 c1 S, e = .returned (.agg #[.slice a1 x.nodes.length c1]) ∧ Cells w' w.heap.size [.slice a1 x.nodes.length c1] (Lay.tree.cells x) S ∧ Below w.heap.size w w' := by
  show Calls _ _ _ _ fun e w' => ∃ a1 c1 S, e = .returned (.agg #[.slice a1 x.nodes.length c1]) ∧ Cells w' w.heap.size [.slice a1 x.nodes.length c1] [slD Lay.node x.nodes] S ∧ Below w.heap.size w w'
  rw [Lay_tree_wt] at hn
  have X : Hid (∀ W : World, Below w.heap.size w W → Calls Tryd.prog 31 #[.slice a0 x.nodes.length c0] W fun e w' => ∃ v S, e = .returned v ∧ OD w' W.heap.size v (slD Lay.node x.nodes) S ∧ Below W.heap.size W w') :=
    fun W hW => toNodeS_l x.nodes a0 c0 W (h0.later hW) hn
  clear h0 hn
  generalize x.nodes = y at *
  have B : Below w.heap.size w (((w.alloc (.cells #[.slice a0 y.length c0] 27)).alloc (.cells #[.slice none 0 0] 36)).alloc (.cells #[.slice none 0 0] 36)) :=
    (((Below.refl _ _).alloc (Nat.le_refl _) _).alloc (by simp) _).alloc (by simp; omega) _
  go_enter Tryd.func11, Tryd.ntmps11
  go_wp2_with fail
  refine (X.out _ B).mono ?_
  rintro e w1 ⟨v, S, rfl, O1, hb1⟩
  obtain ⟨hc, hf⟩ := bcellH hb1
  have hz := hb1.size
  simp only [World.size_alloc] at hc hf hz
  have B1 := B.trans (hb1.mono B.size)
  obtain ⟨a1, c1, rfl, _⟩ := OD.shapeL O1
  clear X B hb1
  go_wp2
  refine bodyPost_ret (v := .agg #[.slice a1 y.length c1]) (by simp [results, Tryd.results11, go_sem, hc]) rfl ⟨a1, c1, S, rfl, ?_, ?_⟩
  · have hW : Within w1 ((w1.setCell ⟨w.heap.size + 1 + 1, 0, none⟩ (.slice a1 y.length c1)).setCell ⟨w.heap.size + 1, 0, none⟩ (.slice a1 y.length c1)) (fun k => k < w.heap.size + 1 + 1 + 1) :=
      ((Within.refl _ _).setCell _ _ (by simp)).setCell _ _ (by simp)
    refine Cells.last [] ((O1.kept hW (fun k hk hk2 => ?_)).base (by simp; omega))
    have := (O1.lt k hk).1
    simp at this
    omega
  · exact (B1.setCell (p := ⟨w.heap.size + 1 + 1, 0, none⟩) (by simp; omega) _).setCell (p := ⟨w.heap.size + 1, 0, none⟩) (by simp) _

end Go.Proofs.YtghpekijimoicaaDoor
namespace Go.Proofs.YtghpekijimoicaaDoor
open Go.RowKit

/-- From lo to hi. -/
def inB (x lo hi : Int) : Bool := decide (lo ≤ x ∧ x ≤ hi)
theorem inB_true {x lo hi : Int} : inB x lo hi = true ↔ lo ≤ x ∧ x ≤ hi := by simp [inB]
theorem inB_false {x lo hi : Int} : inB x lo hi = false ↔ ¬ (lo ≤ x ∧ x ≤ hi) := by simp [inB]
/-- A symbol of a grammar of n parts. -/
def symOk (n : Nat) (x : Int) : Bool := inB x 0 25 || inB x 100 (100 + n - 1)
def rowOk (n : Nat) (row : List Int) : Bool := decide (row.length ≤ 8) && row.all (symOk n)
def partOk (n : Nat) (alts : List (List Int)) : Bool := inB alts.length 1 8 && alts.all (rowOk n)
def gramOkB (parts : List (List (List Int))) : Bool := inB parts.length 1 20 && parts.all (partOk parts.length)

section
variable {α : Type} {p : α → Bool} {xs : List α} {k : Nat}
theorem all_step (h : (xs.take k).all p = true) (hk : k < xs.length) (g : p xs[k] = true) : (xs.take (k + 1)).all p = true := by
  rw [List.take_succ_eq_append_getElem hk, List.all_append, h]; simp [g]
theorem all_end (h : (xs.take k).all p = true) (hk : ¬ k < xs.length) : xs.all p = true := by
  rwa [List.take_of_length_le (by omega)] at h
theorem all_no (hk : k < xs.length) (g : p xs[k] = false) : xs.all p = false := by
  simp only [List.all_eq_false]; exact ⟨xs[k], List.getElem_mem hk, by simp [g]⟩
end
theorem symOk_true {n : Nat} {x : Int} : symOk n x = true ↔ (0 ≤ x ∧ x ≤ 25) ∨ (100 ≤ x ∧ x < 100 + n) := by
  simp only [symOk, Bool.or_eq_true, inB_true]; omega
theorem symOk_false {n : Nat} {x : Int} : symOk n x = false ↔ ¬ ((0 ≤ x ∧ x ≤ 25) ∨ (100 ≤ x ∧ x < 100 + n)) := by
  rw [← symOk_true]; simp
theorem rowOk_long {n : Nat} {row : List Int} (h : ¬ row.length ≤ 8) : rowOk n row = false := by simp [rowOk, h]
theorem rowOk_no {n : Nat} {row : List Int} (h : row.all (symOk n) = false) : rowOk n row = false := by simp [rowOk, h]
theorem rowOk_yes {n : Nat} {row : List Int} (h : row.length ≤ 8) (g : row.all (symOk n) = true) : rowOk n row = true := by simp [rowOk, h, g]
theorem partOk_many {n : Nat} {alts : List (List Int)} (h : inB alts.length 1 8 = false) : partOk n alts = false := by simp [partOk, h]
theorem partOk_no {n : Nat} {alts : List (List Int)} (h : alts.all (rowOk n) = false) : partOk n alts = false := by simp [partOk, h]
theorem partOk_yes {n : Nat} {alts : List (List Int)} (h : inB alts.length 1 8 = true) (g : alts.all (rowOk n) = true) : partOk n alts = true := by simp [partOk, h, g]
theorem gramOkB_many {parts : List (List (List Int))} (h : inB parts.length 1 20 = false) : gramOkB parts = false := by simp [gramOkB, h]
theorem gramOkB_no {parts : List (List (List Int))} (h : parts.all (partOk parts.length) = false) : gramOkB parts = false := by simp [gramOkB, h]
theorem gramOkB_yes {parts : List (List (List Int))} (h : inB parts.length 1 20 = true) (g : parts.all (partOk parts.length) = true) : gramOkB parts = true := by simp [gramOkB, h, g]
end Go.Proofs.YtghpekijimoicaaDoor
namespace Go.Proofs.YtghpekijimoicaaDoor
open Go.RowKit

def nd0 : Nd := ⟨0, 0, 0, 0, []⟩
/-- The Kids of the first nodes, one behind the other. -/
def kidsTo (ns : List Nd) (i : Nat) : List Int := (ns.take i).flatMap Nd.kids
/-- A node that is right by itself: its Kind, where Kids may be, where they lead. -/
def Right (n : Nat) (i : Nat) (x : Nd) : Prop := inB x.kind 0 3 = true ∧ (x.kind = 1 ∨ x.kids = []) ∧ ∀ k ∈ x.kids, (i : Int) < k ∧ k < n
def Shaped (ns : List Nd) : Prop := ns ≠ [] ∧ (∀ i (h : i < ns.length), Right ns.length i ns[i]) ∧ ∀ j, 1 ≤ j → j < ns.length → (kidsTo ns ns.length).count (j : Int) = 1
def rightB (n i : Nat) (x : Nd) : Bool := inB x.kind 0 3 && (decide (x.kind = 1) || x.kids.isEmpty) && x.kids.all (fun k => decide ((i : Int) < k ∧ k < n))
theorem rightB_iff {n i : Nat} {x : Nd} : rightB n i x = true ↔ Right n i x := by
  unfold rightB Right
  simp [and_assoc]
def shapeB (ns : List Nd) : Bool := !ns.isEmpty && (List.range ns.length).all (fun i => rightB ns.length i (ns.getD i nd0)) && (List.range ns.length).all (fun j => decide (j = 0) || decide ((kidsTo ns ns.length).count (j : Int) = 1))
theorem shapeB_true {ns : List Nd} : shapeB ns = true ↔ Shaped ns := by
  unfold shapeB Shaped
  rw [Bool.and_eq_true, Bool.and_eq_true, List.all_eq_true, List.all_eq_true, and_assoc]
  refine and_congr (by simp) (and_congr ?_ ?_)
  · constructor
    · intro h i hi
      have := h i (List.mem_range.2 hi)
      rw [rightB_iff, List.getD_eq_getElem?_getD, List.getElem?_eq_getElem hi, Option.getD_some] at this
      exact this
    · intro h i hi
      have hi2 := List.mem_range.1 hi
      rw [rightB_iff, List.getD_eq_getElem?_getD, List.getElem?_eq_getElem hi2, Option.getD_some]
      exact h i hi2
  · constructor
    · intro h j h1 h2
      have := h j (List.mem_range.2 h2)
      simp at this
      rcases this with e | e
      · omega
      · exact e
    · intro h j hj
      have hj2 := List.mem_range.1 hj
      by_cases e : j = 0
      · simp [e]
      · simp [h j (by omega) hj2]
theorem shapeB_yes {ns : List Nd} (h : Shaped ns) : shapeB ns = true := shapeB_true.2 h
theorem shapeB_false {ns : List Nd} : shapeB ns = false ↔ ¬ Shaped ns := by rw [← shapeB_true]; simp
theorem shapeB_no {ns : List Nd} (h : ¬ Shaped ns) : shapeB ns = false := shapeB_false.2 h

theorem kidsTo_zero (ns : List Nd) : kidsTo ns 0 = [] := rfl
theorem kidsTo_next {ns : List Nd} {i : Nat} (h : i < ns.length) : kidsTo ns (i + 1) = kidsTo ns i ++ ns[i].kids := by
  unfold kidsTo
  rw [List.take_succ_eq_append_getElem h, List.flatMap_append]
  simp
theorem kidsTo_all (ns : List Nd) : kidsTo ns ns.length = ns.flatMap Nd.kids := by rw [kidsTo, List.take_length]
theorem kidsTo_length {ns : List Nd} (i : Nat) : (kidsTo ns i).length ≤ Lay.node.sumL ns := by
  have h : ∀ xs : List Nd, (xs.flatMap Nd.kids).length = Lay.node.sumL xs := by
    intro xs
    induction xs with
    | nil => rfl
    | cons x xs ih => rw [List.flatMap_cons, List.length_append, ih]; show _ = Lay.node.wt x + _; rw [Lay_node_wt, Lay.wt_ints]
  unfold kidsTo
  rw [h]
  exact Lay.sumL_take_le _ _ _

/-- How often each place is among the numbers. -/
def cntRow (L : List Int) (n : Nat) : List Value := (List.range n).map fun (j : Nat) => .int .i64 ((L.count (j : Int) : Nat) : Int)
theorem cntRow_length (L : List Int) (n : Nat) : (cntRow L n).length = n := by simp [cntRow]
theorem cntRow_get {L : List Int} {n j : Nat} (h : j < n) : (cntRow L n)[j]? = some (.int .i64 ((L.count (j : Int) : Nat) : Int)) := by simp [cntRow, h]
theorem cntRow_nil (n : Nat) : cntRow [] n = List.replicate n (.int .i64 0) := by
  apply List.ext_getElem
  · simp [cntRow]
  · intro i h1 h2; simp [cntRow]
theorem cntRow_set {L : List Int} {n j : Nat} : (cntRow L n).set j (.int .i64 (((L.count (j : Int) : Nat) : Int) + 1)) = cntRow (L ++ [(j : Int)]) n := by
  apply List.ext_getElem
  · simp [cntRow]
  · intro i h1 h2
    rw [List.getElem_set]
    by_cases e : j = i
    · subst e
      simp [cntRow, List.count_append]
    · rw [if_neg e]
      have e2 : ¬ (j : Int) = (i : Int) := by omega
      simp [cntRow, List.count_append, List.count_singleton, e2]
/-- Which places are met: the first one, and those among the numbers. -/
def metRow (L : List Int) (n : Nat) : List Value := (List.range n).map fun (j : Nat) => .bool (decide (j = 0) || L.contains (j : Int))
theorem metRow_length (L : List Int) (n : Nat) : (metRow L n).length = n := by simp [metRow]
theorem metRow_get {L : List Int} {n j : Nat} (h : j < n) : (metRow L n)[j]? = some (.bool (decide (j = 0) || L.contains (j : Int))) := by simp [metRow, h]
theorem metRow_first {n : Nat} : (List.replicate n (Value.bool false)).set 0 (.bool true) = metRow [] n := by
  apply List.ext_getElem
  · simp [metRow]
  · intro i h1 h2
    rw [List.getElem_set]
    by_cases e : 0 = i
    · subst e; simp [metRow]
    · rw [if_neg e]
      have : i ≠ 0 := fun h => e h.symm
      simp [metRow, this]
theorem metRow_set {L : List Int} {n j : Nat} : (metRow L n).set j (.bool true) = metRow (L ++ [(j : Int)]) n := by
  apply List.ext_getElem
  · simp [metRow]
  · intro i h1 h2
    rw [List.getElem_set]
    by_cases e : j = i
    · subst e; simp [metRow]
    · rw [if_neg e]
      have e2 : (i : Int) ≠ (j : Int) := by omega
      simp [metRow, e2]

theorem toNat_in {k : Int} {i n : Nat} (h1 : (i : Int) < k) (h2 : k < n) : k.toNat < n ∧ ((k.toNat : Nat) : Int) = k ∧ 1 ≤ k.toNat := by omega

theorem not_shaped_at {ns : List Nd} {i : Nat} (h : i < ns.length) (g : ¬ Right ns.length i ns[i]) : ¬ Shaped ns := fun s => g (s.2.1 i h)
theorem not_right_kind {n i : Nat} {x : Nd} (h : inB x.kind 0 3 = false) : ¬ Right n i x := fun r => by rw [r.1] at h; cases h
theorem not_right_kids {n i : Nat} {x : Nd} (h : x.kind ≠ 1) (g : x.kids ≠ []) : ¬ Right n i x := fun r => r.2.1.elim h g
theorem not_right_kid {n i k : Nat} {x : Nd} (hk : k < x.kids.length) (g : ¬ ((i : Int) < x.kids[k] ∧ x.kids[k] < n)) : ¬ Right n i x := fun r => g (r.2.2 _ (List.getElem_mem hk))
theorem right_guard {x : Nd} (h : (x.kind != 1 && decide (0 < x.kids.length)) = false) : x.kind = 1 ∨ x.kids = [] := by
  by_cases e : x.kind = 1
  · exact .inl e
  · have e2 : (x.kind != 1) = true := by simpa using e
    rw [e2] at h
    simp at h
    exact .inr h
theorem not_right_guard {n i : Nat} {x : Nd} (h : (x.kind != 1 && decide (0 < x.kids.length)) = true) : ¬ Right n i x := by
  simp at h
  exact not_right_kids h.1 (fun e => by rw [e] at h; simp at h)
theorem kidsTo_prefix {ns : List Nd} {i : Nat} (h : i < ns.length) : ∃ r, kidsTo ns ns.length = kidsTo ns i ++ ns[i].kids ++ r := by
  refine ⟨(ns.drop (i + 1)).flatMap Nd.kids, ?_⟩
  rw [kidsTo_all, ← kidsTo_next h, kidsTo, ← List.flatMap_append, List.take_append_drop]
/-- A place that is met twice. -/
theorem not_shaped_dup {ns : List Nd} {i k kn : Nat} (h : i < ns.length) (hk : k < ns[i].kids.length) (e : ns[i].kids[k] = (kn : Int)) (hkn : kn < ns.length) (h1 : 1 ≤ kn) (hm : (kn : Int) ∈ kidsTo ns i ++ ns[i].kids.take k) : ¬ Shaped ns := by
  intro s
  have c := s.2.2 kn h1 hkn
  obtain ⟨r, hr⟩ := kidsTo_prefix h
  have e2 : ns[i].kids = ns[i].kids.take k ++ ns[i].kids[k] :: ns[i].kids.drop (k + 1) := by
    rw [← List.drop_eq_getElem_cons hk, List.take_append_drop]
  have c1 : 1 ≤ (kidsTo ns i ++ ns[i].kids.take k).count (kn : Int) := List.count_pos_iff.2 hm
  rw [List.count_append] at c1
  rw [hr, e2, e, List.count_append, List.count_append, List.count_append, List.count_cons] at c
  simp at c
  omega
theorem not_shaped_free {ns : List Nd} {j : Nat} (h : j < ns.length) (h1 : 1 ≤ j) (hm : (j : Int) ∉ kidsTo ns ns.length) : ¬ Shaped ns := by
  intro s
  have c := s.2.2 j h1 h
  rw [List.count_eq_zero.2 hm] at c
  omega
theorem shaped_of {ns : List Nd} (hz : ns ≠ []) (hr : ∀ i (h : i < ns.length), Right ns.length i ns[i]) (hn : (kidsTo ns ns.length).Nodup) (hm : ∀ j, 1 ≤ j → j < ns.length → (j : Int) ∈ kidsTo ns ns.length) : Shaped ns :=
  ⟨hz, hr, fun j h1 h2 => by
    have a := List.count_pos_iff.2 (hm j h1 h2)
    have b := List.nodup_iff_count.1 hn (j : Int)
    omega⟩
/-- As flags. -/
def metB (L : List Int) (n : Nat) : List Bool := (List.range n).map fun (j : Nat) => decide (j = 0) || L.contains (j : Int)
theorem metRow_bools (L : List Int) (n : Nat) : metRow L n = (metB L n).map Value.bool := by simp [metRow, metB, Function.comp_def]
theorem metB_length (L : List Int) (n : Nat) : (metB L n).length = n := by simp [metB]
theorem metB_free {L : List Int} {n : Nat} (h : (metB L n).contains false = true) : ∃ j, j < n ∧ 1 ≤ j ∧ (j : Int) ∉ L := by
  simp only [metB, List.contains_iff_mem, List.mem_map, List.mem_range] at h
  obtain ⟨j, hj, e⟩ := h
  simp at e
  exact ⟨j, hj, by omega, e.2⟩
theorem metB_all {L : List Int} {n : Nat} (h : (metB L n).contains false = false) {j : Nat} (hj : j < n) (h1 : 1 ≤ j) : (j : Int) ∈ L := by
  by_cases hm : (j : Int) ∈ L
  · exact hm
  · exfalso
    have : false ∈ metB L n := by
      simp only [metB, List.mem_map, List.mem_range]
      exact ⟨j, hj, by simp [hm]; omega⟩
    have h2 := List.contains_iff_mem.2 this
    rw [h] at h2
    cases h2
theorem nodup_snoc {L : List Int} {x : Int} (h : L.Nodup) (g : x ∉ L) : (L ++ [x]).Nodup := by
  rw [List.nodup_append]
  exact ⟨h, by simp, fun a ha b hb e => by simp at hb; subst hb; exact g (e ▸ ha)⟩
end Go.Proofs.YtghpekijimoicaaDoor
namespace Go.Proofs.YtghpekijimoicaaDoor
open Go.RowKit

def ndAt (ns : List Nd) (p : Nat) : Nd := ns.getD p nd0
theorem ndAt_get {ns : List Nd} {p : Nat} (h : p < ns.length) : ndAt ns p = ns[p] := by rw [ndAt, List.getD_eq_getElem?_getD, List.getElem?_eq_getElem h, Option.getD_some]
def kidsAt (ns : List Nd) (p : Nat) : List Nat := (ndAt ns p).kids.map Int.toNat
/-- The visits from a node on: to a node (false), to the end of a part (true). -/
def vis (ns : List Nd) : Nat → Nat → List (Nat × Bool)
  | 0, _ => []
  | f + 1, p => (p, false) :: if (ndAt ns p).kind = 1 then (kidsAt ns p).flatMap (vis ns f) ++ [(p, true)] else []
def visAt (ns : List Nd) (p : Nat) : List (Nat × Bool) := vis ns (ns.length - p) p

theorem kid_lt {ns : List Nd} (s : Shaped ns) {p : Nat} (hp : p < ns.length) {k : Nat} (hk : k ∈ kidsAt ns p) : p < k ∧ k < ns.length := by
  rw [kidsAt, ndAt_get hp, List.mem_map] at hk
  obtain ⟨z, hz, e⟩ := hk
  have := (s.2.1 p hp).2.2 z hz
  omega
theorem kid_cast {ns : List Nd} (s : Shaped ns) {p : Nat} (hp : p < ns.length) : (kidsAt ns p).map (fun (k : Nat) => (k : Int)) = (ndAt ns p).kids := by
  rw [kidsAt, ndAt_get hp, List.map_map]
  conv => rhs; rw [← List.map_id ns[p].kids]
  apply List.map_congr_left
  intro z hz
  have := (s.2.1 p hp).2.2 z hz
  simp only [Function.comp_apply, id]
  omega
theorem flatMap_congr' {β : Type} {xs : List Nat} {f g : Nat → List β} (h : ∀ x ∈ xs, f x = g x) : xs.flatMap f = xs.flatMap g := by
  induction xs with
  | nil => rfl
  | cons x xs ih => rw [List.flatMap_cons, List.flatMap_cons, h x (by simp), ih (fun y hy => h y (by simp [hy]))]
theorem vis_fuel {ns : List Nd} (s : Shaped ns) : ∀ (f g p : Nat), p < ns.length → ns.length - p ≤ f → ns.length - p ≤ g → vis ns f p = vis ns g p
  | 0, _, p, hp, hf, _ => by omega
  | _ + 1, 0, p, hp, _, hg => by omega
  | f + 1, g + 1, p, hp, hf, hg => by
    rw [vis, vis, flatMap_congr' (fun k hk => vis_fuel s f g k (kid_lt s hp hk).2 (by have := (kid_lt s hp hk).1; omega) (by have := (kid_lt s hp hk).1; omega))]
theorem visAt_eq {ns : List Nd} (s : Shaped ns) {p : Nat} (hp : p < ns.length) : visAt ns p = (p, false) :: if (ndAt ns p).kind = 1 then (kidsAt ns p).flatMap (visAt ns) ++ [(p, true)] else [] := by
  have e : ns.length - p = (ns.length - p - 1) + 1 := by omega
  rw [visAt, e, vis, flatMap_congr' (fun k hk => vis_fuel s (ns.length - p - 1) (ns.length - k) k (kid_lt s hp hk).2 (by have := (kid_lt s hp hk).1; omega) (Nat.le_refl _))]
  rfl
theorem kids_none {ns : List Nd} (s : Shaped ns) {p : Nat} (hp : p < ns.length) (h : (ndAt ns p).kind ≠ 1) : kidsAt ns p = [] := by
  rw [ndAt_get hp] at h
  rw [kidsAt, ndAt_get hp, (s.2.1 p hp).2.1.resolve_left h]; rfl
theorem visAt_length {ns : List Nd} (s : Shaped ns) {p : Nat} (hp : p < ns.length) : (visAt ns p).length ≤ 2 + ((kidsAt ns p).map (fun k => (visAt ns k).length)).sum := by
  rw [visAt_eq s hp]
  split
  · rw [List.length_cons, List.length_append, List.length_flatMap]; simp; omega
  · simp; omega
theorem mem_kids {ns : List Nd} (s : Shaped ns) {z : Int} : z ∈ kidsTo ns ns.length ↔ 1 ≤ z ∧ z < ns.length := by
  constructor
  · intro hz
    rw [kidsTo_all, List.mem_flatMap] at hz
    obtain ⟨x, hx, hz⟩ := hz
    obtain ⟨i, hi, rfl⟩ := List.mem_iff_getElem.1 hx
    have := (s.2.1 i hi).2.2 z hz
    omega
  · rintro ⟨h1, h2⟩
    have := s.2.2 z.toNat (by omega) (by omega)
    rw [show ((z.toNat : Nat) : Int) = z by omega] at this
    exact List.count_pos_iff.1 (by omega)
theorem kids_perm {ns : List Nd} (s : Shaped ns) : ((kidsTo ns ns.length).map Int.toNat).Perm (List.range' 1 (ns.length - 1)) := by
  have h : (kidsTo ns ns.length).Perm ((List.range' 1 (ns.length - 1)).map (fun (k : Nat) => (k : Int))) := by
    refine (List.perm_ext_iff_of_nodup ?_ ?_).2 fun z => ?_
    · refine List.nodup_iff_count.2 fun z => ?_
      by_cases hz : z ∈ kidsTo ns ns.length
      · have hb := (mem_kids s).1 hz
        have := s.2.2 z.toNat (by omega) (by omega)
        rw [show ((z.toNat : Nat) : Int) = z by omega] at this
        omega
      · rw [List.count_eq_zero.2 hz]; omega
    · exact List.pairwise_map.2 ((List.nodup_range' (s := 1) (n := ns.length - 1)).imp (fun h e => h (by omega)))
    · rw [mem_kids s, List.mem_map]
      constructor
      · rintro ⟨h1, h2⟩
        exact ⟨z.toNat, by rw [List.mem_range'_1]; omega, by omega⟩
      · rintro ⟨k, hk, rfl⟩
        rw [List.mem_range'_1] at hk
        omega
  have h2 := h.map Int.toNat
  rw [List.map_map] at h2
  have e : (List.range' 1 (ns.length - 1)).map (Int.toNat ∘ fun (k : Nat) => (k : Int)) = List.range' 1 (ns.length - 1) := by
    conv => rhs; rw [← List.map_id (List.range' 1 (ns.length - 1))]
    apply List.map_congr_left
    intro k _
    simp
  rw [e] at h2
  exact h2
theorem kidsTo_nat {ns : List Nd} (i : Nat) (hi : i ≤ ns.length) : (kidsTo ns i).map Int.toNat = (List.range i).flatMap (kidsAt ns) := by
  induction i with
  | zero => rfl
  | succ i ih =>
    rw [kidsTo_next (by omega), List.map_append, ih (by omega), List.range_succ, List.flatMap_append, List.flatMap_singleton]
    congr 1
    rw [kidsAt, ndAt_get (by omega)]
theorem sum_le {ns : List Nd} (L : Nat → Nat) (i : Nat) (hi : i ≤ ns.length) (h : ∀ p, p < ns.length → L p ≤ 2 + ((kidsAt ns p).map L).sum) : ((List.range i).map L).sum ≤ 2 * i + (((List.range i).flatMap (kidsAt ns)).map L).sum := by
  induction i with
  | zero => simp
  | succ i ih =>
    have h1 := ih (by omega)
    have h2 := h i (by omega)
    rw [List.range_succ, List.flatMap_append, List.flatMap_singleton, List.map_append, List.map_append, List.sum_append_nat, List.sum_append_nat]
    simp only [List.map_cons, List.map_nil, List.sum_cons, List.sum_nil]
    omega
/-- The whole tree is gone over in two steps a node at most. -/
theorem visits_le {ns : List Nd} (s : Shaped ns) : (visAt ns 0).length ≤ 2 * ns.length := by
  have hz : 0 < ns.length := List.length_pos_iff.2 s.1
  have h1 := sum_le (fun p => (visAt ns p).length) ns.length (Nat.le_refl _) (fun p hp => visAt_length s hp)
  rw [← kidsTo_nat ns.length (Nat.le_refl _)] at h1
  have h2 := ((kids_perm s).map (fun p => (visAt ns p).length)).sum_nat
  rw [h2] at h1
  have e : List.range ns.length = 0 :: List.range' 1 (ns.length - 1) := by
    rw [List.range_eq_range', show ns.length = (ns.length - 1) + 1 by omega, List.range'_succ]
    simp
  rw [e, List.map_cons, List.sum_cons] at h1
  omega
/-- What is still to come behind a stack, its top last. -/
def unfold1 (ns : List Nd) (v : Nat × Bool) : List (Nat × Bool) := if v.2 = true then [v] else visAt ns v.1
def toCome (ns : List Nd) (st : List (Nat × Bool)) : List (Nat × Bool) := st.reverse.flatMap (unfold1 ns)
/-- The stack behind a visit. -/
def pushed (ns : List Nd) (v : Nat × Bool) : List (Nat × Bool) := if v.2 = false ∧ (ndAt ns v.1).kind = 1 then (v.1, true) :: (kidsAt ns v.1).reverse.map (fun k => (k, false)) else []
theorem toCome_snoc (ns : List Nd) (st : List (Nat × Bool)) (v : Nat × Bool) : toCome ns (st ++ [v]) = unfold1 ns v ++ toCome ns st := by simp [toCome]
theorem toCome_append (ns : List Nd) (st us : List (Nat × Bool)) : toCome ns (st ++ us) = toCome ns us ++ toCome ns st := by simp [toCome]
theorem toCome_kids (ns : List Nd) (ks : List Nat) : toCome ns (ks.reverse.map (fun k => (k, false))) = ks.flatMap (visAt ns) := by
  rw [toCome, ← List.map_reverse, List.reverse_reverse]
  induction ks with
  | nil => rfl
  | cons k ks ih => rw [List.map_cons, List.flatMap_cons, List.flatMap_cons, ih]; simp [unfold1]
theorem toCome_step {ns : List Nd} (s : Shaped ns) (st : List (Nat × Bool)) (v : Nat × Bool) (hv : v.1 < ns.length) : toCome ns (st ++ [v]) = v :: toCome ns (st ++ pushed ns v) := by
  rw [toCome_snoc, toCome_append, ← List.cons_append]
  congr 1
  obtain ⟨p, b⟩ := v
  unfold unfold1 pushed
  cases b with
  | true => simp [toCome]
  | false =>
    simp only [Bool.false_eq_true, if_false]
    rw [visAt_eq s hv]
    by_cases hk : (ndAt ns p).kind = 1
    · simp only [hk, true_and, if_true]
      have := toCome_append ns [(p, true)] ((kidsAt ns p).reverse.map (fun k => (k, false)))
      rw [List.singleton_append] at this
      rw [this, toCome_kids]
      simp [toCome, unfold1]
    · simp [hk, toCome]
theorem toCome_length_ge (ns : List Nd) (st : List (Nat × Bool)) (h : ∀ v ∈ st, v.1 < ns.length) : st.length ≤ (toCome ns st).length := by
  rw [toCome, List.length_flatMap]
  have key : ∀ us : List (Nat × Bool), (∀ v ∈ us, v.1 < ns.length) → us.length ≤ (us.map (fun a => (unfold1 ns a).length)).sum := by
    intro us hu
    induction us with
    | nil => simp
    | cons u us ih =>
      have h1 := ih (fun v hv => hu v (by simp [hv]))
      have h2 : 1 ≤ (unfold1 ns u).length := by
        unfold unfold1
        split
        · simp
        · have := hu u (by simp)
          have e : ns.length - u.1 = (ns.length - u.1 - 1) + 1 := by omega
          rw [visAt, e, vis]
          simp
      simp only [List.length_cons, List.map_cons, List.sum_cons]
      omega
  have := key st.reverse (fun v hv => h v (by simpa using hv))
  simpa using this
theorem pushed_lt {ns : List Nd} (s : Shaped ns) {v : Nat × Bool} (hv : v.1 < ns.length) : ∀ u ∈ pushed ns v, u.1 < ns.length := by
  intro u hu
  unfold pushed at hu
  split at hu
  · rcases List.mem_cons.1 hu with rfl | hu
    · exact hv
    · simp only [List.mem_map, List.mem_reverse] at hu
      obtain ⟨k, hk, rfl⟩ := hu
      exact (kid_lt s hv hk).2
  · simp at hu
end Go.Proofs.YtghpekijimoicaaDoor
namespace Go.Proofs.YtghpekijimoicaaDoor
open Go.RowKit

def isLf (ns : List Nd) (v : Nat × Bool) : Option Int := if v.2 = false ∧ (ndAt ns v.1).kind = 0 then some (v.1 : Int) else none
/-- The places of the leaves below a node. -/
def leafPos (ns : List Nd) (p : Nat) : List Int := (visAt ns p).filterMap (isLf ns)
theorem leafPos_leaf {ns : List Nd} (s : Shaped ns) {p : Nat} (hp : p < ns.length) (h : (ndAt ns p).kind = 0) : leafPos ns p = [(p : Int)] := by
  rw [leafPos, visAt_eq s hp]
  simp [isLf, h]
theorem leafPos_kids {ns : List Nd} (s : Shaped ns) {p : Nat} (hp : p < ns.length) (h : (ndAt ns p).kind ≠ 0) : leafPos ns p = (kidsAt ns p).flatMap (leafPos ns) := by
  rw [leafPos, visAt_eq s hp]
  by_cases h1 : (ndAt ns p).kind = 1
  · rw [if_pos h1, List.filterMap_cons_none (by simp [isLf, h]), List.filterMap_append, List.filterMap_flatMap]
    simp [isLf]
    rfl
  · rw [if_neg h1, kids_none s hp h1]
    simp [isLf, h]
theorem leafPos_length {ns : List Nd} (s : Shaped ns) : (leafPos ns 0).length ≤ 2 * ns.length := Nat.le_trans (List.length_filterMap_le _ _) (visits_le s)
theorem leafPos_in {ns : List Nd} (s : Shaped ns) : ∀ (f p : Nat), p < ns.length → ns.length - p ≤ f → ∀ z ∈ leafPos ns p, ∃ k : Nat, z = k ∧ k < ns.length
  | 0, p, hp, hf, z, _ => by omega
  | f + 1, p, hp, hf, z, hz => by
    by_cases h : (ndAt ns p).kind = 0
    · rw [leafPos_leaf s hp h, List.mem_singleton] at hz
      exact ⟨p, hz, hp⟩
    · rw [leafPos_kids s hp h, List.mem_flatMap] at hz
      obtain ⟨k, hk, hz⟩ := hz
      have := kid_lt s hp hk
      exact leafPos_in s f k this.2 (by omega) z hz
theorem leafPos_kid_le {ns : List Nd} {ks : List Nat} {j : Nat} (hj : j < ks.length) : ((ks.take j).flatMap (leafPos ns)).length + (leafPos ns ks[j]).length ≤ (ks.flatMap (leafPos ns)).length := by
  have e : ks = ks.take j ++ ks[j] :: ks.drop (j + 1) := by rw [← List.drop_eq_getElem_cons hj, List.take_append_drop]
  conv => rhs; rw [e]
  rw [List.flatMap_append, List.flatMap_cons, List.length_append, List.length_append]
  omega
theorem leafPos_take {ns : List Nd} {ks : List Nat} {j : Nat} (hj : j < ks.length) : (ks.take (j + 1)).flatMap (leafPos ns) = (ks.take j).flatMap (leafPos ns) ++ leafPos ns ks[j] := by
  rw [List.take_succ_eq_append_getElem hj, List.flatMap_append, List.flatMap_singleton]
theorem kidsAt_length (ns : List Nd) (p : Nat) : (kidsAt ns p).length = (ndAt ns p).kids.length := by simp [kidsAt]
theorem kidsAt_get {ns : List Nd} (s : Shaped ns) {p : Nat} (hp : p < ns.length) {j : Nat} (hj : j < (kidsAt ns p).length) : (ndAt ns p).kids.getD j 0 = (((kidsAt ns p)[j] : Nat) : Int) := by
  have hj2 : j < (ndAt ns p).kids.length := by rwa [kidsAt_length] at hj
  rw [List.getD_eq_getElem?_getD, List.getElem?_eq_getElem hj2, Option.getD_some]
  have e := kid_cast s hp
  have : ((kidsAt ns p).map (fun (k : Nat) => (k : Int)))[j]? = some ((ndAt ns p).kids[j]) := by rw [e, List.getElem?_eq_getElem hj2]
  rw [List.getElem?_map, List.getElem?_eq_getElem hj, Option.map_some] at this
  exact (Option.some.inj this).symm
end Go.Proofs.YtghpekijimoicaaDoor
namespace Go.Proofs.YtghpekijimoicaaDoor
open Go.RowKit

theorem l1In_any (x lo hi : Int) (w : World) : Calls Tryd.prog 55 #[.int .i64 x, .int .i64 lo, .int .i64 hi] w fun e w' => e = .returned (.bool (inB x lo hi)) ∧ w' = w := by
  by_cases h1 : lo ≤ x
  · by_cases h2 : x ≤ hi
    · go_enter Tryd.func55, Tryd.ntmps55
      go_wp2
      go_ret
      exact ⟨ret_bool (by simp [inB, h1, h2]), rfl⟩
    · go_enter Tryd.func55, Tryd.ntmps55
      go_wp2
      go_ret
      exact ⟨ret_bool (by simp [inB, h1, h2]), rfl⟩
  · go_enter Tryd.func55, Tryd.ntmps55
    go_wp2
    go_ret
    exact ⟨ret_bool (by simp [inB]; omega), rfl⟩

end Go.Proofs.YtghpekijimoicaaDoor
namespace Go.Proofs.YtghpekijimoicaaDoor
open Go.RowKit

theorem conv_one {P : Program} (src dst e : TypeId) (hs : P.underlying src = some (.slice e)) (he : P.underlying e = some (.int .u8)) (hd : P.underlying dst = some .string) (W : World) (b : UInt8) (x : Int) (hx : x = (b.toNat : Int)) :
    (convert src dst (.slice (some ⟨W.heap.size, 0, none⟩) 1 1)).run P (W.alloc (.cells #[.int .u8 x] e)) = .ok (.string ⟨#[b]⟩) (W.alloc (.cells #[.int .u8 x] e)) := by
  have := run_convert_bytes_back (P := P) (W.alloc (.cells #[.int .u8 x] e)) src dst e ⟨W.heap.size, 0, none⟩ 1 [b] hs he hd (by
    intro j hj
    have : j = 0 := by simpa using hj
    subst this
    simp [Addr.add, hx])
  simpa using this

/-- The digits of m; nothing for 0. -/
def decD (m : Nat) : List UInt8 := if m = 0 then [] else Lib.decDigits m
theorem decD_pos {m : Nat} (h : 1 ≤ m) : decD m = Lib.decDigits m := by rw [decD, if_neg (by omega)]
theorem decD_step {m : Nat} (h : 1 ≤ m) : decD m = decD (m / 10) ++ [UInt8.ofNat (48 + m % 10)] := by
  rw [decD_pos h, Lib.decDigits]
  by_cases h2 : m < 10
  · rw [dif_pos h2, decD, if_pos (by omega), Nat.mod_eq_of_lt h2]; rfl
  · rw [dif_neg h2, decD_pos (by omega)]
theorem digit_toNat (m : Nat) : ((UInt8.ofNat (48 + m % 10)).toNat : Int) = 48 + (m : Int) % 10 := by
  have : (UInt8.ofNat (48 + m % 10)).toNat = 48 + m % 10 := by
    rw [UInt8.toNat_ofNat']; omega
  rw [this]; omega
theorem nDigits_le : ∀ (k u : Nat), u < 10 ^ (k + 1) → Lib.nDigits u ≤ k + 1
  | 0, u, h => by rw [Lib.nDigits_small (by simpa using h)]; exact Nat.le_refl _
  | k + 1, u, h => by
    by_cases hu : u < 10
    · rw [Lib.nDigits_small hu]; omega
    · rw [Lib.nDigits_big hu]
      have := nDigits_le k (u / 10) (by rw [Nat.pow_succ] at h; omega)
      omega
theorem decDigits_le {N : Nat} (h : (N : Int) ≤ 9223372036854775808) : (Lib.decDigits N).length ≤ 20 := by
  rw [Lib.decDigits_length]
  exact nDigits_le 19 N (by have : N ≤ 9223372036854775808 := by omega
                            exact Nat.lt_of_le_of_lt this (by decide))
theorem digit_is (m : Nat) : ∃ b : UInt8, (b.toNat : Int) = 48 + (m : Int) % 10 ∧ b = UInt8.ofNat (48 + m % 10) := ⟨_, digit_toNat m, rfl⟩
end Go.Proofs.YtghpekijimoicaaDoor
namespace Go.Proofs.YtghpekijimoicaaDoor
open Go.RowKit

/-- A symbol's text. -/
def symText (x : Int) : List UInt8 := if inB x 0 25 then [UInt8.ofNat (97 + x.toNat)] else if 100 ≤ x then 80 :: Lib.itoa (x - 100) else [63]
theorem symText_letter {x : Int} (h : inB x 0 25 = true) : symText x = [UInt8.ofNat (97 + x.toNat)] := by rw [symText, if_pos h]
theorem symText_part {x : Int} (h : 100 ≤ x) : symText x = 80 :: Lib.itoa (x - 100) := by
  rw [symText, if_neg (by rw [inB_true]; omega), if_pos h]
theorem symText_none {x : Int} (h : inB x 0 25 = false) (g : x < 100) : symText x = [63] := by
  rw [symText, if_neg (by rw [h]; decide), if_neg (by omega)]
theorem itoa_le {n : Int} (h0 : 0 ≤ n) (h1 : n ≤ 9223372036854775807) : (Lib.itoa n).length ≤ 20 := by
  obtain ⟨N, rfl⟩ := Int.eq_ofNat_of_zero_le h0
  have : Lib.itoa (N : Int) = Lib.decDigits N := by rw [Lib.itoa, if_neg (by omega)]; congr 1
  rw [this]; exact decDigits_le (by omega)
theorem symText_le {x : Int} (h1 : x ≤ 9223372036854775807) : (symText x).length ≤ 21 := by
  unfold symText
  split
  · simp
  · split
    · have := itoa_le (n := x - 100) (by omega) (by omega); simp; omega
    · simp
theorem letter_byte {x : Int} (h : inB x 0 25 = true) : (97 + x) = ((UInt8.ofNat (97 + x.toNat)).toNat : Int) := by
  have := inB_true.1 h
  rw [UInt8.toNat_ofNat']
  have : (97 + x.toNat) % 2 ^ 8 = 97 + x.toNat := Nat.mod_eq_of_lt (by omega)
  rw [this]; omega
/-- The text of the first k symbols, a blank between. -/
def rowTo (zs : List Int) : Nat → List UInt8
  | 0 => []
  | k + 1 => (if k = 0 then [] else rowTo zs k ++ [32]) ++ symText (zs.getD k 0)
def rowText (zs : List Int) : List UInt8 := rowTo zs zs.length
theorem rowTo_le {zs : List Int} (hz : ∀ z ∈ zs, z ≤ 9223372036854775807) (k : Nat) (hk : k ≤ zs.length) : (rowTo zs k).length ≤ 22 * k := by
  induction k with
  | zero => simp [rowTo]
  | succ k ih =>
    have := ih (by omega)
    have h2 := symText_le (hz (zs.getD k 0) (by rw [List.getD_eq_getElem?_getD, List.getElem?_eq_getElem (by omega)]; exact List.getElem_mem _))
    simp only [rowTo, List.length_append]
    generalize symText (zs.getD k 0) = t at *
    split <;> simp <;> omega
theorem rowTo_first {zs : List Int} (h : 0 < zs.length) : rowTo zs (0 + 1) = symText zs[0] := by simp [rowTo, h]
theorem rowTo_next {zs : List Int} {k : Nat} (h : k < zs.length) (hk : k ≠ 0) : rowTo zs (k + 1) = (rowTo zs k ++ [32]) ++ symText zs[k] := by simp [rowTo, hk, h]
end Go.Proofs.YtghpekijimoicaaDoor
