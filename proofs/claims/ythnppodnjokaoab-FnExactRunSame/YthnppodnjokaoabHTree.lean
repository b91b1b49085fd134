/-
  Contracts of the law package's helpers on Tree over this translation. No statement is proved here.
-/
import Derived.Test.YthnppodnjokaoabHNodeS
import Derived.Test.YthnppodnjokaoabOpenL
import Derived.Deep.RegionWith
namespace Go.Proofs.Ythnppodnjokaoab
open Go.RowKit

/-- As the program has it. -/
structure Tr where
  nodes : (List Nd)
def Lay.tree : Lay Tr := { cells := fun x => [slD Lay.node x.nodes], sz := 1, len := fun _ => rfl, pos := by decide, wt := fun x => (Lay.list Lay.node).wt x.nodes, fit := fun x => (Lay.list Lay.node).fit x.nodes }
theorem Lay_tree_wt (x : Tr) : Lay.tree.wt x = (Lay.list Lay.node).wt x.nodes := rfl
theorem Lay_tree_fit (x : Tr) : Lay.tree.fit x = ((Lay.list Lay.node).fit x.nodes) := rfl

section
variable {H : Type} {enc : TypeId × Value → H} {P : Program} {w : World} {base : Nat} {spare : Nat → Bool} {held : Bool}
theorem Opens.tree {t : TypeId} {f0 : Field} (hu : P.underlying t = some (.struct #[f0])) (o0 : f0.offset = 0) (s0 : P.cellsOf f0.type = 1) (h0 : Opens enc P w base spare held f0.type (Lay.list Lay.node)) (hc : P.cellsOf t = 1) : Opens enc P w base spare held t Lay.tree := by
  intro n cs y h
  obtain ⟨xs, m, _, _, hl, hlen, hf⟩ := DataW.trod_struct hu h
  rw [hc] at hl
  match xs, hlen, cs, hl with
  | [y0], _, [v0], _ =>
    have g0 := hf 0 f0 rfl
    rw [o0, s0] at g0
    obtain ⟨z0, fit0, _, r0⟩ := h0 m _ y0 (by simpa using g0)
    refine ⟨⟨z0⟩, fit0, rfl, fun j hj hj' => ?_⟩
    match j, hj with
    | 0, _ => exact r0 0 (by simp) (by rw [(Lay.list Lay.node).len]; decide)
end

theorem eqTree_l (x : Tr) (a0 b0 : Option Addr) (c0 d0 : Nat) (w : World) (h0 : RD w (.slice a0 x.nodes.length c0) (slD Lay.node x.nodes)) (g0 : RD w (.slice b0 x.nodes.length d0) (slD Lay.node x.nodes)) (hn : Lay.tree.wt x ≤ 4194304) :
    Calls Try.prog 15 #[.agg #[.slice a0 x.nodes.length c0], .agg #[.slice b0 x.nodes.length d0]] w fun e w' => e = .returned (.bool true) ∧ Below w.heap.size w w' := by
  rw [Lay_tree_wt] at hn
  have B := ((Below.refl w.heap.size w).alloc (Nat.le_refl _) (.cells #[.slice a0 x.nodes.length c0] 25)).alloc (by simp) (.cells #[.slice b0 x.nodes.length d0] 25)
  have X : Hid (∀ W : World, Below w.heap.size w W → Calls Try.prog 35 #[.slice a0 x.nodes.length c0, .slice b0 x.nodes.length d0] W fun e w' => e = .returned (.bool true) ∧ Below W.heap.size W w') :=
    fun W hW => eqNodeS_l x.nodes a0 b0 c0 d0 W (h0.later hW) (g0.later hW) hn
  clear h0 g0 hn
  generalize x.nodes = y at *
  go_enter Try.func15, Try.ntmps15
  go_wp2_with fail
  refine (X.out _ B).mono ?_
  rintro e w1 ⟨rfl, hb⟩
  go_wp2
  go_ret
  exact ⟨rfl, B.trans (hb.mono B.size)⟩

set_option maxRecDepth 100000 in
theorem szTree_l (x : Tr) (a0 : Option Addr) (c0 : Nat) (l : Int) (w : World) (h0 : RD w (.slice a0 x.nodes.length c0) (slD Lay.node x.nodes)) (hf : Lay.tree.fit x) (hl0 : 0 ≤ l) (hl1 : l ≤ 1048576) :
    Calls Try.prog 24 #[.agg #[.slice a0 x.nodes.length c0], .int .i64 l] w fun e w' => ∃ r, e = .returned (.int .i64 r) ∧ SzE (Lay.tree.wt x) l r ∧ Below w.heap.size w w' := by
  rw [Lay_tree_wt]
  rw [Lay_tree_fit] at hf
  have B := (Below.refl w.heap.size w).alloc (Nat.le_refl _) (.cells #[.slice a0 x.nodes.length c0] 36)
  have X : Hid (∀ W : World, Below w.heap.size w W → Calls Try.prog 39 #[.slice a0 x.nodes.length c0, .int .i64 l] W fun e w' => ∃ r, e = .returned (.int .i64 r) ∧ SzE ((Lay.list Lay.node).wt x.nodes) l r ∧ Below W.heap.size W w') :=
    fun W hW => szNodeS_l x.nodes a0 c0 l W (h0.later hW) hf hl0 hl1
  clear h0 hf
  generalize (Lay.list Lay.node).wt x.nodes = wk at *
  generalize x.nodes = y at *
  go_enter Try.func24, Try.ntmps24
  go_wp2_with fail
  refine (X.out _ B).mono ?_
  rintro e w1 ⟨r, rfl, hr, hb⟩
  have B1 := B.trans (hb.mono B.size)
  clear X
  rcases hr with rfl | ⟨hr0, hr1⟩
  · go_wp2
    go_ret
    exact ⟨_, rfl, .inl rfl, B1⟩
  · have HR : Hid (r = l - wk) := hr1
    clear hr1
    go_wp2
    go_ret
    exact ⟨_, rfl, .inr ⟨hr0, HR.out⟩, B1⟩

set_option maxRecDepth 100000 in
theorem toTree_l (x : Tr) (a0 : Option Addr) (c0 : Nat) (w : World) (h0 : RD w (.slice a0 x.nodes.length c0) (slD Lay.node x.nodes)) (hn : Lay.tree.wt x ≤ 1048576) :
    Calls Try.prog 28 #[.agg #[.slice a0 x.nodes.length c0]] w fun e w' => ∃ a1 c1 S, e = .returned (.agg #[.slice a1 x.nodes.length c1]) ∧ Cells w' w.heap.size [.slice a1 x.nodes.length c1] (Lay.tree.cells x) S ∧ Below w.heap.size w w' := by
  show Calls _ _ _ _ fun e w' => ∃ a1 c1 S, e = .returned (.agg #[.slice a1 x.nodes.length c1]) ∧ Cells w' w.heap.size [.slice a1 x.nodes.length c1] [slD Lay.node x.nodes] S ∧ Below w.heap.size w w'
  rw [Lay_tree_wt] at hn
  have X : Hid (∀ W : World, Below w.heap.size w W → Calls Try.prog 42 #[.slice a0 x.nodes.length c0] W fun e w' => ∃ v S, e = .returned v ∧ OD w' W.heap.size v (slD Lay.node x.nodes) S ∧ Below W.heap.size W w') :=
    fun W hW => toNodeS_l x.nodes a0 c0 W (h0.later hW) hn
  clear h0 hn
  generalize x.nodes = y at *
  have B : Below w.heap.size w (((w.alloc (.cells #[.slice a0 y.length c0] 36)).alloc (.cells #[.slice none 0 0] 25)).alloc (.cells #[.slice none 0 0] 25)) :=
    (((Below.refl _ _).alloc (Nat.le_refl _) _).alloc (by simp) _).alloc (by simp; omega) _
  go_enter Try.func28, Try.ntmps28
  go_wp2_with fail
  refine (X.out _ B).mono ?_
  rintro e w1 ⟨v, S, rfl, O1, hb1⟩
  obtain ⟨hc, hf⟩ := bcellH hb1
  have hz := hb1.size
  simp only [World.size_alloc] at hc hf hz
  have B1 := B.trans (hb1.mono B.size)
  obtain ⟨a1, c1, rfl, _⟩ := OD.shapeL O1
  clear X B hb1
  go_wp2
  refine bodyPost_ret (v := .agg #[.slice a1 y.length c1]) (by simp [results, Try.results28, go_sem, hc]) rfl ⟨a1, c1, S, rfl, ?_, ?_⟩
  · have hW : Within w1 ((w1.setCell ⟨w.heap.size + 1 + 1, 0, none⟩ (.slice a1 y.length c1)).setCell ⟨w.heap.size + 1, 0, none⟩ (.slice a1 y.length c1)) (fun k => k < w.heap.size + 1 + 1 + 1) :=
      ((Within.refl _ _).setCell _ _ (by simp)).setCell _ _ (by simp)
    refine Cells.last [] ((O1.kept hW (fun k hk hk2 => ?_)).base (by simp; omega))
    have := (O1.lt k hk).1
    simp at this
    omega
  · exact (B1.setCell (p := ⟨w.heap.size + 1 + 1, 0, none⟩) (by simp; omega) _).setCell (p := ⟨w.heap.size + 1, 0, none⟩) (by simp) _

end Go.Proofs.Ythnppodnjokaoab
