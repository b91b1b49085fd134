/-
  Contracts of the law package's helpers on Node over this translation. No statement is proved here.
-/
import Derived.Test.YthnppodnjokaoabHIntS
import Derived.Test.YthnppodnjokaoabOpenL
import Derived.Deep.RegionWith
namespace Go.Proofs.Ythnppodnjokaoab
open Go.RowKit

/-- As the program has it. -/
structure Nd where
  kind : Int
  sym : Int
  alt : Int
  pl : Int
  kids : (List Int)
def Lay.node : Lay Nd := { cells := fun x => [.val (.int .i64 x.kind), .val (.int .i64 x.sym), .val (.int .i64 x.alt), .val (.int .i64 x.pl), slD Lay.int x.kids], sz := 5, len := fun _ => rfl, pos := by decide, wt := fun x => (Lay.list Lay.int).wt x.kids, fit := fun x => (Lit.int .i64 x.kind).wf = true ∧ (Lit.int .i64 x.sym).wf = true ∧ (Lit.int .i64 x.alt).wf = true ∧ (Lit.int .i64 x.pl).wf = true ∧ (Lay.list Lay.int).fit x.kids }
theorem Lay_node_wt (x : Nd) : Lay.node.wt x = (Lay.list Lay.int).wt x.kids := rfl
theorem Lay_node_fit (x : Nd) : Lay.node.fit x = ((Lit.int .i64 x.kind).wf = true ∧ (Lit.int .i64 x.sym).wf = true ∧ (Lit.int .i64 x.alt).wf = true ∧ (Lit.int .i64 x.pl).wf = true ∧ (Lay.list Lay.int).fit x.kids) := rfl

section
variable {H : Type} {enc : TypeId × Value → H} {P : Program} {w : World} {base : Nat} {spare : Nat → Bool} {held : Bool}
theorem Opens.node {t : TypeId} {f0 f1 f2 f3 f4 : Field} (hu : P.underlying t = some (.struct #[f0, f1, f2, f3, f4])) (o0 : f0.offset = 0) (s0 : P.cellsOf f0.type = 1) (h0 : Opens enc P w base spare held f0.type Lay.int) (o1 : f1.offset = 1) (s1 : P.cellsOf f1.type = 1) (h1 : Opens enc P w base spare held f1.type Lay.int) (o2 : f2.offset = 2) (s2 : P.cellsOf f2.type = 1) (h2 : Opens enc P w base spare held f2.type Lay.int) (o3 : f3.offset = 3) (s3 : P.cellsOf f3.type = 1) (h3 : Opens enc P w base spare held f3.type Lay.int) (o4 : f4.offset = 4) (s4 : P.cellsOf f4.type = 1) (h4 : Opens enc P w base spare held f4.type (Lay.list Lay.int)) (hc : P.cellsOf t = 5) : Opens enc P w base spare held t Lay.node := by
  intro n cs y h
  obtain ⟨xs, m, _, _, hl, hlen, hf⟩ := DataW.trod_struct hu h
  rw [hc] at hl
  match xs, hlen, cs, hl with
  | [y0, y1, y2, y3, y4], _, [v0, v1, v2, v3, v4], _ =>
    have g0 := hf 0 f0 rfl
    rw [o0, s0] at g0
    obtain ⟨z0, fit0, _, r0⟩ := h0 m _ y0 (by simpa using g0)
    have g1 := hf 1 f1 rfl
    rw [o1, s1] at g1
    obtain ⟨z1, fit1, _, r1⟩ := h1 m _ y1 (by simpa using g1)
    have g2 := hf 2 f2 rfl
    rw [o2, s2] at g2
    obtain ⟨z2, fit2, _, r2⟩ := h2 m _ y2 (by simpa using g2)
    have g3 := hf 3 f3 rfl
    rw [o3, s3] at g3
    obtain ⟨z3, fit3, _, r3⟩ := h3 m _ y3 (by simpa using g3)
    have g4 := hf 4 f4 rfl
    rw [o4, s4] at g4
    obtain ⟨z4, fit4, _, r4⟩ := h4 m _ y4 (by simpa using g4)
    refine ⟨⟨z0, z1, z2, z3, z4⟩, ⟨fit0, fit1, fit2, fit3, fit4⟩, rfl, fun j hj hj' => ?_⟩
    match j, hj with
    | 0, _ => exact r0 0 (by simp) (by rw [Lay.int.len]; decide)
    | 1, _ => exact r1 0 (by simp) (by rw [Lay.int.len]; decide)
    | 2, _ => exact r2 0 (by simp) (by rw [Lay.int.len]; decide)
    | 3, _ => exact r3 0 (by simp) (by rw [Lay.int.len]; decide)
    | 4, _ => exact r4 0 (by simp) (by rw [(Lay.list Lay.int).len]; decide)
end

set_option maxRecDepth 100000 in
theorem szNode_l (x : Nd) (a0 : Option Addr) (c0 : Nat) (l : Int) (w : World) (h0 : RD w (.slice a0 x.kids.length c0) (slD Lay.int x.kids)) (hf : (Lay.list Lay.int).fit x.kids) (hl0 : 0 ≤ l) (hl1 : l ≤ 1048576) :
    Calls Try.prog 48 #[.agg #[.int .i64 x.kind, .int .i64 x.sym, .int .i64 x.alt, .int .i64 x.pl, .slice a0 x.kids.length c0], .int .i64 l] w fun e w' => ∃ r, e = .returned (.int .i64 r) ∧ SzE (Lay.node.wt x) l r ∧ Below w.heap.size w w' := by
  rw [Lay_node_wt]
  have B := (Below.refl w.heap.size w).alloc (Nat.le_refl _) (.cells #[.int .i64 x.kind, .int .i64 x.sym, .int .i64 x.alt, .int .i64 x.pl, .slice a0 x.kids.length c0] 77)
  have X : Hid (∀ W : World, Below w.heap.size w W → Calls Try.prog 51 #[.slice a0 x.kids.length c0, .int .i64 l] W fun e w' => ∃ r, e = .returned (.int .i64 r) ∧ SzE ((Lay.list Lay.int).wt x.kids) l r ∧ Below W.heap.size W w') :=
    fun W hW => szIntS_l x.kids a0 c0 l W (h0.later hW) hf hl0 hl1
  clear h0 hf
  generalize (Lay.list Lay.int).wt x.kids = wk at *
  generalize x.kids = y at *
  generalize x.kind = v0 at *
  generalize x.sym = v1 at *
  generalize x.alt = v2 at *
  generalize x.pl = v3 at *
  go_enter Try.func48, Try.ntmps48
  go_wp2_with fail
  refine (X.out _ B).mono ?_
  rintro e w1 ⟨r, rfl, hr, hb⟩
  have B1 := B.trans (hb.mono B.size)
  clear X
  rcases hr with rfl | ⟨hr0, hr1⟩
  · go_wp2
    go_ret
    exact ⟨_, rfl, .inl rfl, B1⟩
  · have HR : Hid (r = l - wk) := hr1
    clear hr1
    go_wp2
    go_ret
    exact ⟨_, rfl, .inr ⟨hr0, HR.out⟩, B1⟩

set_option maxRecDepth 100000 in
theorem eqNode_l (x : Nd) (a0 b0 : Option Addr) (c0 d0 : Nat) (w : World) (h0 : RD w (.slice a0 x.kids.length c0) (slD Lay.int x.kids)) (g0 : RD w (.slice b0 x.kids.length d0) (slD Lay.int x.kids)) (hn : Lay.node.wt x ≤ 4194304) :
    Calls Try.prog 45 #[.agg #[.int .i64 x.kind, .int .i64 x.sym, .int .i64 x.alt, .int .i64 x.pl, .slice a0 x.kids.length c0], .agg #[.int .i64 x.kind, .int .i64 x.sym, .int .i64 x.alt, .int .i64 x.pl, .slice b0 x.kids.length d0]] w fun e w' => e = .returned (.bool true) ∧ Below w.heap.size w w' := by
  rw [Lay_node_wt] at hn
  have B := ((Below.refl w.heap.size w).alloc (Nat.le_refl _) (.cells #[.int .i64 x.kind, .int .i64 x.sym, .int .i64 x.alt, .int .i64 x.pl, .slice a0 x.kids.length c0] 62)).alloc (by simp) (.cells #[.int .i64 x.kind, .int .i64 x.sym, .int .i64 x.alt, .int .i64 x.pl, .slice b0 x.kids.length d0] 62)
  have X : Hid (∀ W : World, Below w.heap.size w W → Calls Try.prog 50 #[.slice a0 x.kids.length c0, .slice b0 x.kids.length d0] W fun e w' => e = .returned (.bool true) ∧ Below W.heap.size W w') :=
    fun W hW => eqIntS_l x.kids a0 b0 c0 d0 W (h0.later hW) (g0.later hW) hn
  clear h0 g0 hn
  generalize x.kids = y at *
  generalize x.kind = v0 at *
  generalize x.sym = v1 at *
  generalize x.alt = v2 at *
  generalize x.pl = v3 at *
  go_enter Try.func45, Try.ntmps45
  go_wp2_with fail
  refine (X.out _ B).mono ?_
  rintro e w1 ⟨rfl, hb⟩
  go_wp2
  go_ret
  exact ⟨rfl, B.trans (hb.mono B.size)⟩

set_option maxRecDepth 100000 in
theorem toNode_l (x : Nd) (a0 : Option Addr) (c0 : Nat) (w : World) (h0 : RD w (.slice a0 x.kids.length c0) (slD Lay.int x.kids)) (hn : Lay.node.wt x ≤ 1048576) :
    Calls Try.prog 49 #[.agg #[.int .i64 x.kind, .int .i64 x.sym, .int .i64 x.alt, .int .i64 x.pl, .slice a0 x.kids.length c0]] w fun e w' => ∃ a1 c1 S, e = .returned (.agg #[.int .i64 x.kind, .int .i64 x.sym, .int .i64 x.alt, .int .i64 x.pl, .slice a1 x.kids.length c1]) ∧ Cells w' w.heap.size [.int .i64 x.kind, .int .i64 x.sym, .int .i64 x.alt, .int .i64 x.pl, .slice a1 x.kids.length c1] (Lay.node.cells x) S ∧ Below w.heap.size w w' := by
  rw [Lay_node_wt] at hn
  have HC : Hid (Lay.node.cells x = List.map Dat.val [.int .i64 x.kind, .int .i64 x.sym, .int .i64 x.alt, .int .i64 x.pl] ++ [slD Lay.int x.kids]) := rfl
  have X : Hid (∀ W : World, Below w.heap.size w W → Calls Try.prog 52 #[.slice a0 x.kids.length c0] W fun e w' => ∃ v S, e = .returned v ∧ OD w' W.heap.size v (slD Lay.int x.kids) S ∧ Below W.heap.size W w') :=
    fun W hW => toIntS_l x.kids a0 c0 W (h0.later hW) hn
  rw [HC.out]
  clear h0 hn HC
  generalize x.kids = y at *
  generalize x.kind = v0 at *
  generalize x.sym = v1 at *
  generalize x.alt = v2 at *
  generalize x.pl = v3 at *
  have B : Below w.heap.size w (((w.alloc (.cells #[.int .i64 v0, .int .i64 v1, .int .i64 v2, .int .i64 v3, .slice a0 y.length c0] 77)).alloc (.cells #[.int .i64 0, .int .i64 0, .int .i64 0, .int .i64 0, .slice none 0 0] 62)).alloc (.cells #[.int .i64 v0, .int .i64 v1, .int .i64 v2, .int .i64 v3, .slice none 0 0] 62)) :=
    (((Below.refl _ _).alloc (Nat.le_refl _) _).alloc (by simp) _).alloc (by simp; omega) _
  go_enter Try.func49, Try.ntmps49
  go_wp2_with fail
  refine (X.out _ B).mono ?_
  rintro e w1 ⟨v, S, rfl, O1, hb1⟩
  obtain ⟨hc, hf⟩ := bcellH hb1
  have hz := hb1.size
  simp only [World.size_alloc] at hc hf hz
  have B1 := B.trans (hb1.mono B.size)
  obtain ⟨a1, c1, rfl, _⟩ := OD.shapeL O1
  clear X B hb1
  go_wp2
  refine bodyPost_ret (v := .agg #[.int .i64 v0, .int .i64 v1, .int .i64 v2, .int .i64 v3, .slice a1 y.length c1]) (by simp [results, Try.results49, go_sem, hc]) rfl ⟨a1, c1, S, rfl, ?_, ?_⟩
  · refine Cells.last [.int .i64 v0, .int .i64 v1, .int .i64 v2, .int .i64 v3] ((O1.kept (T := fun k => k < w.heap.size + 1 + 1 + 1) ?_ (fun k hk hk2 => ?_)).base (by simp; omega))
    · repeat refine Within.setCell ?_ _ _ (by simp)
      exact Within.refl _ _
    · have := (O1.lt k hk).1
      simp at this
      omega
  · repeat refine Below.setCell ?_ (by simp; try omega) _
    exact B1

end Go.Proofs.Ythnppodnjokaoab
