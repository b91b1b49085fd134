/-
  Contracts of the law package's helpers on Run over this translation. No statement is proved here.
-/
import Derived.Test.YthnppodnjokaoabHSlotS
import Derived.Test.YthnppodnjokaoabHNodeS
import Derived.Test.YthnppodnjokaoabHErrS
import Derived.Test.YthnppodnjokaoabHTree
import Derived.Test.YthnppodnjokaoabOpenL
import Derived.Test.YthnppodnjokaoabCellsLib
import Derived.Deep.RegionWith
namespace Go.Proofs.Ythnppodnjokaoab
open Go.RowKit

/-- As the program has it. -/
structure Rn where
  code : Int
  pl : Int
  look : Int
  cost : Int
  slots : (List Sl)
  tree : Tr
  errs : (List Er)
def Lay.run : Lay Rn := { cells := fun x => [.val (.int .i64 x.code), .val (.int .i64 x.pl), .val (.int .i64 x.look), .val (.int .i64 x.cost), slD Lay.slot x.slots, slD Lay.node x.tree.nodes, slD Lay.err x.errs], sz := 7, len := fun _ => rfl, pos := by decide, wt := fun x => (Lay.list Lay.slot).wt x.slots + (Lay.list Lay.node).wt x.tree.nodes + (Lay.list Lay.err).wt x.errs, fit := fun x => (Lit.int .i64 x.code).wf = true ∧ (Lit.int .i64 x.pl).wf = true ∧ (Lit.int .i64 x.look).wf = true ∧ (Lit.int .i64 x.cost).wf = true ∧ (Lay.list Lay.slot).fit x.slots ∧ (Lay.list Lay.node).fit x.tree.nodes ∧ (Lay.list Lay.err).fit x.errs }
theorem Lay_run_wt (x : Rn) : Lay.run.wt x = (Lay.list Lay.slot).wt x.slots + (Lay.list Lay.node).wt x.tree.nodes + (Lay.list Lay.err).wt x.errs := rfl
theorem Lay_run_fit (x : Rn) : Lay.run.fit x = ((Lit.int .i64 x.code).wf = true ∧ (Lit.int .i64 x.pl).wf = true ∧ (Lit.int .i64 x.look).wf = true ∧ (Lit.int .i64 x.cost).wf = true ∧ (Lay.list Lay.slot).fit x.slots ∧ (Lay.list Lay.node).fit x.tree.nodes ∧ (Lay.list Lay.err).fit x.errs) := rfl

section
variable {H : Type} {enc : TypeId × Value → H} {P : Program} {w : World} {base : Nat} {spare : Nat → Bool} {held : Bool}
theorem Opens.run {t : TypeId} {f0 f1 f2 f3 f4 f5 f6 : Field} (hu : P.underlying t = some (.struct #[f0, f1, f2, f3, f4, f5, f6])) (o0 : f0.offset = 0) (s0 : P.cellsOf f0.type = 1) (h0 : Opens enc P w base spare held f0.type Lay.int) (o1 : f1.offset = 1) (s1 : P.cellsOf f1.type = 1) (h1 : Opens enc P w base spare held f1.type Lay.int) (o2 : f2.offset = 2) (s2 : P.cellsOf f2.type = 1) (h2 : Opens enc P w base spare held f2.type Lay.int) (o3 : f3.offset = 3) (s3 : P.cellsOf f3.type = 1) (h3 : Opens enc P w base spare held f3.type Lay.int) (o4 : f4.offset = 4) (s4 : P.cellsOf f4.type = 1) (h4 : Opens enc P w base spare held f4.type (Lay.list Lay.slot)) (o5 : f5.offset = 5) (s5 : P.cellsOf f5.type = 1) (h5 : Opens enc P w base spare held f5.type Lay.tree) (o6 : f6.offset = 6) (s6 : P.cellsOf f6.type = 1) (h6 : Opens enc P w base spare held f6.type (Lay.list Lay.err)) (hc : P.cellsOf t = 7) : Opens enc P w base spare held t Lay.run := by
  intro n cs y h
  obtain ⟨xs, m, _, _, hl, hlen, hf⟩ := DataW.trod_struct hu h
  rw [hc] at hl
  match xs, hlen, cs, hl with
  | [y0, y1, y2, y3, y4, y5, y6], _, [v0, v1, v2, v3, v4, v5, v6], _ =>
    have g0 := hf 0 f0 rfl
    rw [o0, s0] at g0
    obtain ⟨z0, fit0, _, r0⟩ := h0 m _ y0 (by simpa using g0)
    have g1 := hf 1 f1 rfl
    rw [o1, s1] at g1
    obtain ⟨z1, fit1, _, r1⟩ := h1 m _ y1 (by simpa using g1)
    have g2 := hf 2 f2 rfl
    rw [o2, s2] at g2
    obtain ⟨z2, fit2, _, r2⟩ := h2 m _ y2 (by simpa using g2)
    have g3 := hf 3 f3 rfl
    rw [o3, s3] at g3
    obtain ⟨z3, fit3, _, r3⟩ := h3 m _ y3 (by simpa using g3)
    have g4 := hf 4 f4 rfl
    rw [o4, s4] at g4
    obtain ⟨z4, fit4, _, r4⟩ := h4 m _ y4 (by simpa using g4)
    have g5 := hf 5 f5 rfl
    rw [o5, s5] at g5
    obtain ⟨z5, fit5, _, r5⟩ := h5 m _ y5 (by simpa using g5)
    have g6 := hf 6 f6 rfl
    rw [o6, s6] at g6
    obtain ⟨z6, fit6, _, r6⟩ := h6 m _ y6 (by simpa using g6)
    refine ⟨⟨z0, z1, z2, z3, z4, z5, z6⟩, ⟨fit0, fit1, fit2, fit3, fit4, fit5, fit6⟩, rfl, fun j hj hj' => ?_⟩
    match j, hj with
    | 0, _ => exact r0 0 (by simp) (by rw [Lay.int.len]; decide)
    | 1, _ => exact r1 0 (by simp) (by rw [Lay.int.len]; decide)
    | 2, _ => exact r2 0 (by simp) (by rw [Lay.int.len]; decide)
    | 3, _ => exact r3 0 (by simp) (by rw [Lay.int.len]; decide)
    | 4, _ => exact r4 0 (by simp) (by rw [(Lay.list Lay.slot).len]; decide)
    | 5, _ => exact r5 0 (by simp) (by rw [Lay.tree.len]; decide)
    | 6, _ => exact r6 0 (by simp) (by rw [(Lay.list Lay.err).len]; decide)
end

theorem Lay_run_split (x : Rn) : Lay.run.wt x = (Lay.list Lay.slot).wt x.slots + Lay.tree.wt x.tree + (Lay.list Lay.err).wt x.errs := by rfl
set_option maxRecDepth 100000 in
theorem szRun_l (x : Rn) (a4 : Option Addr) (c4 : Nat) (a5 : Option Addr) (c5 : Nat) (a6 : Option Addr) (c6 : Nat) (l : Int) (w : World) (h4 : RD w (.slice a4 x.slots.length c4) (slD Lay.slot x.slots)) (h5 : RD w (.slice a5 x.tree.nodes.length c5) (slD Lay.node x.tree.nodes)) (h6 : RD w (.slice a6 x.errs.length c6) (slD Lay.err x.errs)) (hf : Lay.run.fit x) (hl0 : 0 ≤ l) (hl1 : l ≤ 1048576) :
    Calls Try.prog 10 #[.agg #[.int .i64 x.code, .int .i64 x.pl, .int .i64 x.look, .int .i64 x.cost, .slice a4 x.slots.length c4, .slice a5 x.tree.nodes.length c5, .slice a6 x.errs.length c6], .int .i64 l] w fun e w' => ∃ r, e = .returned (.int .i64 r) ∧ SzE (Lay.run.wt x) l r ∧ Below w.heap.size w w' := by
  rw [Lay_run_split]
  rw [Lay_run_fit] at hf
  have B : Below w.heap.size w (w.alloc (.cells #[.int .i64 x.code, .int .i64 x.pl, .int .i64 x.look, .int .i64 x.cost, .slice a4 x.slots.length c4, .slice a5 x.tree.nodes.length c5, .slice a6 x.errs.length c6] 39)) := (Below.refl w.heap.size w).alloc (Nat.le_refl _) _
  have X0 : Hid (∀ (W : World) (m : Int), 0 ≤ m → m ≤ 1048576 → Below w.heap.size w W → Calls Try.prog 23 #[.slice a4 x.slots.length c4, .int .i64 m] W fun e w' => ∃ r, e = .returned (.int .i64 r) ∧ SzE ((Lay.list Lay.slot).wt x.slots) m r ∧ Below W.heap.size W w') :=
    fun W m hm0 hm1 hW => szSlotS_l x.slots a4 c4 m W (h4.later hW) (hf.2.2.2.2.1) hm0 hm1
  have X1 : Hid (∀ (W : World) (m : Int), 0 ≤ m → m ≤ 1048576 → Below w.heap.size w W → Calls Try.prog 24 #[.agg #[.slice a5 x.tree.nodes.length c5], .int .i64 m] W fun e w' => ∃ r, e = .returned (.int .i64 r) ∧ SzE (Lay.tree.wt x.tree) m r ∧ Below W.heap.size W w') :=
    fun W m hm0 hm1 hW => szTree_l x.tree a5 c5 m W (h5.later hW) (hf.2.2.2.2.2.1) hm0 hm1
  have X2 : Hid (∀ (W : World) (m : Int), 0 ≤ m → m ≤ 1048576 → Below w.heap.size w W → Calls Try.prog 25 #[.slice a6 x.errs.length c6, .int .i64 m] W fun e w' => ∃ r, e = .returned (.int .i64 r) ∧ SzE ((Lay.list Lay.err).wt x.errs) m r ∧ Below W.heap.size W w') :=
    fun W m hm0 hm1 hW => szErrS_l x.errs a6 c6 m W (h6.later hW) (hf.2.2.2.2.2.2) hm0 hm1
  clear h4 h5 h6 hf
  generalize (Lay.list Lay.slot).wt x.slots = k0 at *
  generalize Lay.tree.wt x.tree = k1 at *
  generalize (Lay.list Lay.err).wt x.errs = k2 at *
  generalize x.code = v0 at *
  generalize x.pl = v1 at *
  generalize x.look = v2 at *
  generalize x.cost = v3 at *
  generalize x.slots = y4 at *
  generalize x.tree.nodes = y5 at *
  generalize x.errs = y6 at *
  go_enter Try.func10, Try.ntmps10
  go_wp2_with fail
  refine (X0.out _ l hl0 hl1 B).mono ?_
  rintro e w1 ⟨r0, rfl, hr0, hb0⟩
  have B1 := B.trans (hb0.mono B.size)
  obtain ⟨hc, _⟩ := bcellH hb0
  simp only [World.size_alloc] at hc
  have q5 : w1.cell? ⟨w.heap.size, 5, none⟩ = some (.slice a5 y5.length c5) := (hc w.heap.size 5 (by omega)).trans (by simp)
  have q6 : w1.cell? ⟨w.heap.size, 6, none⟩ = some (.slice a6 y6.length c6) := (hc w.heap.size 6 (by omega)).trans (by simp)
  clear X0 hc
  rcases hr0 with rfl | ⟨hr0a, hr0b⟩
  · clear X1 X2
    go_wp2
    go_ret
    exact ⟨_, rfl, .inl rfl, B1⟩
  have hr0c : r0 ≤ 1048576 := by omega
  have HR0 : Hid (r0 = l - (k0 : Nat)) := hr0b
  clear hr0b
  go_wp2_with fail
  refine (X1.out _ r0 hr0a hr0c B1).mono ?_
  rintro e w2 ⟨r1, rfl, hr1, hb1⟩
  have B2 := B1.trans (hb1.mono B1.size)
  replace q6 := cell_kept hb1 q6
  clear X1
  rcases hr1 with rfl | ⟨hr1a, hr1b⟩
  · clear X2
    go_wp2
    go_ret
    exact ⟨_, rfl, .inl rfl, B2⟩
  have hr1c : r1 ≤ 1048576 := by omega
  have HR1 : Hid (r1 = r0 - (k1 : Nat)) := hr1b
  clear hr1b
  go_wp2_with fail
  refine (X2.out _ r1 hr1a hr1c B2).mono ?_
  rintro e w3 ⟨r2, rfl, hr2, hb2⟩
  have B3 := B2.trans (hb2.mono B2.size)
  clear X2
  rcases hr2 with rfl | ⟨hr2a, hr2b⟩
  · skip
    go_wp2
    go_ret
    exact ⟨_, rfl, .inl rfl, B3⟩
  have hr2c : r2 ≤ 1048576 := by omega
  have HR2 : Hid (r2 = r1 - (k2 : Nat)) := hr2b
  clear hr2b
  go_wp2
  go_ret
  refine ⟨_, rfl, .inr ⟨hr2a, ?_⟩, B3⟩
  have e0 := HR0.out
  have e1 := HR1.out
  have e2 := HR2.out
  omega

set_option maxRecDepth 100000 in
theorem eqRun_l (x : Rn) (a4 : Option Addr) (c4 : Nat) (a5 : Option Addr) (c5 : Nat) (a6 : Option Addr) (c6 : Nat) (b4 : Option Addr) (d4 : Nat) (b5 : Option Addr) (d5 : Nat) (b6 : Option Addr) (d6 : Nat) (w : World) (h4 : RD w (.slice a4 x.slots.length c4) (slD Lay.slot x.slots)) (h5 : RD w (.slice a5 x.tree.nodes.length c5) (slD Lay.node x.tree.nodes)) (h6 : RD w (.slice a6 x.errs.length c6) (slD Lay.err x.errs)) (g4 : RD w (.slice b4 x.slots.length d4) (slD Lay.slot x.slots)) (g5 : RD w (.slice b5 x.tree.nodes.length d5) (slD Lay.node x.tree.nodes)) (g6 : RD w (.slice b6 x.errs.length d6) (slD Lay.err x.errs)) (hn : Lay.run.wt x ≤ 4194304) :
    Calls Try.prog 7 #[.agg #[.int .i64 x.code, .int .i64 x.pl, .int .i64 x.look, .int .i64 x.cost, .slice a4 x.slots.length c4, .slice a5 x.tree.nodes.length c5, .slice a6 x.errs.length c6], .agg #[.int .i64 x.code, .int .i64 x.pl, .int .i64 x.look, .int .i64 x.cost, .slice b4 x.slots.length d4, .slice b5 x.tree.nodes.length d5, .slice b6 x.errs.length d6]] w fun e w' => e = .returned (.bool true) ∧ Below w.heap.size w w' := by
  rw [Lay_run_split] at hn
  have B : Below w.heap.size w ((w.alloc (.cells #[.int .i64 x.code, .int .i64 x.pl, .int .i64 x.look, .int .i64 x.cost, .slice a4 x.slots.length c4, .slice a5 x.tree.nodes.length c5, .slice a6 x.errs.length c6] 28)).alloc (.cells #[.int .i64 x.code, .int .i64 x.pl, .int .i64 x.look, .int .i64 x.cost, .slice b4 x.slots.length d4, .slice b5 x.tree.nodes.length d5, .slice b6 x.errs.length d6] 28)) := ((Below.refl w.heap.size w).alloc (Nat.le_refl _) _).alloc (by simp) _
  have X0 : Hid (∀ (W : World), Below w.heap.size w W → Calls Try.prog 14 #[.slice a4 x.slots.length c4, .slice b4 x.slots.length d4] W fun e w' => e = .returned (.bool true) ∧ Below W.heap.size W w') :=
    fun W hW => eqSlotS_l x.slots a4 b4 c4 d4 W (h4.later hW) (g4.later hW) (by omega)
  have X1 : Hid (∀ (W : World), Below w.heap.size w W → Calls Try.prog 15 #[.agg #[.slice a5 x.tree.nodes.length c5], .agg #[.slice b5 x.tree.nodes.length d5]] W fun e w' => e = .returned (.bool true) ∧ Below W.heap.size W w') :=
    fun W hW => eqTree_l x.tree a5 b5 c5 d5 W (h5.later hW) (g5.later hW) (by omega)
  have X2 : Hid (∀ (W : World), Below w.heap.size w W → Calls Try.prog 16 #[.slice a6 x.errs.length c6, .slice b6 x.errs.length d6] W fun e w' => e = .returned (.bool true) ∧ Below W.heap.size W w') :=
    fun W hW => eqErrS_l x.errs a6 b6 c6 d6 W (h6.later hW) (g6.later hW) (by omega)
  clear h4 h5 h6 g4 g5 g6 hn
  generalize x.code = v0 at *
  generalize x.pl = v1 at *
  generalize x.look = v2 at *
  generalize x.cost = v3 at *
  generalize x.slots = y4 at *
  generalize x.tree.nodes = y5 at *
  generalize x.errs = y6 at *
  go_enter Try.func7, Try.ntmps7
  go_wp2_with fail
  refine (X0.out _ B).mono ?_
  rintro e w1 ⟨rfl, hb0⟩
  have B1 := B.trans (hb0.mono B.size)
  obtain ⟨hc, _⟩ := bcellH hb0
  simp only [World.size_alloc] at hc
  have q5 : w1.cell? ⟨w.heap.size, 5, none⟩ = some (.slice a5 y5.length c5) := (hc (w.heap.size) 5 (by omega)).trans (by simp)
  have p5 : w1.cell? ⟨w.heap.size + 1, 5, none⟩ = some (.slice b5 y5.length d5) := (hc (w.heap.size + 1) 5 (by omega)).trans (by simp)
  have q6 : w1.cell? ⟨w.heap.size, 6, none⟩ = some (.slice a6 y6.length c6) := (hc (w.heap.size) 6 (by omega)).trans (by simp)
  have p6 : w1.cell? ⟨w.heap.size + 1, 6, none⟩ = some (.slice b6 y6.length d6) := (hc (w.heap.size + 1) 6 (by omega)).trans (by simp)
  clear X0 hc
  go_wp2_with fail
  refine (X1.out _ B1).mono ?_
  rintro e w2 ⟨rfl, hb1⟩
  have B2 := B1.trans (hb1.mono B1.size)
  replace q6 := cell_kept hb1 q6
  replace p6 := cell_kept hb1 p6
  clear X1
  go_wp2_with fail
  refine (X2.out _ B2).mono ?_
  rintro e w3 ⟨rfl, hb2⟩
  have B3 := B2.trans (hb2.mono B2.size)
  clear X2
  go_wp2
  go_ret
  exact ⟨rfl, B3⟩

set_option maxRecDepth 100000 in
theorem toRun_l (x : Rn) (a4 : Option Addr) (c4 : Nat) (a5 : Option Addr) (c5 : Nat) (a6 : Option Addr) (c6 : Nat) (w : World) (h4 : RD w (.slice a4 x.slots.length c4) (slD Lay.slot x.slots)) (h5 : RD w (.slice a5 x.tree.nodes.length c5) (slD Lay.node x.tree.nodes)) (h6 : RD w (.slice a6 x.errs.length c6) (slD Lay.err x.errs)) (hn : Lay.run.wt x ≤ 1048576) :
    Calls Try.prog 12 #[.agg #[.int .i64 x.code, .int .i64 x.pl, .int .i64 x.look, .int .i64 x.cost, .slice a4 x.slots.length c4, .slice a5 x.tree.nodes.length c5, .slice a6 x.errs.length c6]] w fun e w' => ∃ a4' c4' a5' c5' a6' c6' S, e = .returned (.agg #[.int .i64 x.code, .int .i64 x.pl, .int .i64 x.look, .int .i64 x.cost, .slice a4' x.slots.length c4', .slice a5' x.tree.nodes.length c5', .slice a6' x.errs.length c6']) ∧ Cells w' w.heap.size [.int .i64 x.code, .int .i64 x.pl, .int .i64 x.look, .int .i64 x.cost, .slice a4' x.slots.length c4', .slice a5' x.tree.nodes.length c5', .slice a6' x.errs.length c6'] (Lay.run.cells x) S ∧ Below w.heap.size w w' := by
  rw [Lay_run_split] at hn
  show Calls _ _ _ _ fun e w' => ∃ a4' c4' a5' c5' a6' c6' S, e = .returned (.agg #[.int .i64 x.code, .int .i64 x.pl, .int .i64 x.look, .int .i64 x.cost, .slice a4' x.slots.length c4', .slice a5' x.tree.nodes.length c5', .slice a6' x.errs.length c6']) ∧ Cells w' w.heap.size [.int .i64 x.code, .int .i64 x.pl, .int .i64 x.look, .int .i64 x.cost, .slice a4' x.slots.length c4', .slice a5' x.tree.nodes.length c5', .slice a6' x.errs.length c6'] [.val (.int .i64 x.code), .val (.int .i64 x.pl), .val (.int .i64 x.look), .val (.int .i64 x.cost), slD Lay.slot x.slots, slD Lay.node x.tree.nodes, slD Lay.err x.errs] S ∧ Below w.heap.size w w'
  have X0 : Hid (∀ W : World, Below w.heap.size w W → Calls Try.prog 27 #[.slice a4 x.slots.length c4] W fun e w' => ∃ v S, e = .returned v ∧ OD w' W.heap.size v (slD Lay.slot x.slots) S ∧ Below W.heap.size W w') :=
    fun W hW => toSlotS_l x.slots a4 c4 W (h4.later hW) (by omega)
  have X1 : Hid (∀ W : World, Below w.heap.size w W → Calls Try.prog 28 #[.agg #[.slice a5 x.tree.nodes.length c5]] W fun e w' => ∃ a5' c5' S, e = .returned (.agg #[.slice a5' x.tree.nodes.length c5']) ∧ Cells w' W.heap.size [.slice a5' x.tree.nodes.length c5'] [slD Lay.node x.tree.nodes] S ∧ Below W.heap.size W w') :=
    fun W hW => toTree_l x.tree a5 c5 W (h5.later hW) (by omega)
  have X2 : Hid (∀ W : World, Below w.heap.size w W → Calls Try.prog 29 #[.slice a6 x.errs.length c6] W fun e w' => ∃ v S, e = .returned v ∧ OD w' W.heap.size v (slD Lay.err x.errs) S ∧ Below W.heap.size W w') :=
    fun W hW => toErrS_l x.errs a6 c6 W (h6.later hW) (by omega)
  clear h4 h5 h6 hn
  generalize x.code = v0 at *
  generalize x.pl = v1 at *
  generalize x.look = v2 at *
  generalize x.cost = v3 at *
  generalize x.slots = y4 at *
  generalize x.tree.nodes = y5 at *
  generalize x.errs = y6 at *
  have HH : Hid (Holds w (((w.alloc (.cells #[.int .i64 v0, .int .i64 v1, .int .i64 v2, .int .i64 v3, .slice a4 y4.length c4, .slice a5 y5.length c5, .slice a6 y6.length c6] 39)).alloc (.cells #[.int .i64 0, .int .i64 0, .int .i64 0, .int .i64 0, .slice none 0 0, .slice none 0 0, .slice none 0 0] 28)).alloc (.cells #[.int .i64 v0, .int .i64 v1, .int .i64 v2, .int .i64 v3, .slice none 0 0, .slice none 0 0, .slice none 0 0] 28)) [(w.heap.size + 1, []), (w.heap.size + 1 + 1, [])] []) := by
    refine ⟨(((Below.refl _ _).alloc (Nat.le_refl _) _).alloc (by simp) _).alloc (by simp; omega) _, fun q hq j hj => ?_, fun q hq => ?_, fun _ => False, fun _ h => h, fun _ _ h => h⟩
    · simp only [List.mem_cons, List.not_mem_nil, or_false] at hq; rcases hq with rfl | rfl <;> simp at hj
    · simp only [List.mem_cons, List.not_mem_nil, or_false] at hq; rcases hq with rfl | rfl <;> simp
  have FIN : Hid (∀ (W' : World) (a4' : Option Addr) (c4' : Nat) (a5' : Option Addr) (c5' : Nat) (a6' : Option Addr) (c6' : Nat), Holds w W' [(w.heap.size + 1, []), (w.heap.size + 1 + 1, [])] [([.int .i64 v0, .int .i64 v1, .int .i64 v2, .int .i64 v3], ([.int .i64 v0, .int .i64 v1, .int .i64 v2, .int .i64 v3] : List Value).map Dat.val), ([.slice a4' y4.length c4'], [slD Lay.slot y4]), ([.slice a5' y5.length c5'], [slD Lay.node y5]), ([.slice a6' y6.length c6'], [slD Lay.err y6])] → ∃ a4 c4 a5 c5 a6 c6 S, Ending.returned (.agg #[.int .i64 v0, .int .i64 v1, .int .i64 v2, .int .i64 v3, .slice a4' y4.length c4', .slice a5' y5.length c5', .slice a6' y6.length c6']) = Ending.returned (.agg #[.int .i64 v0, .int .i64 v1, .int .i64 v2, .int .i64 v3, .slice a4 y4.length c4, .slice a5 y5.length c5, .slice a6 y6.length c6]) ∧ Cells W' w.heap.size [.int .i64 v0, .int .i64 v1, .int .i64 v2, .int .i64 v3, .slice a4 y4.length c4, .slice a5 y5.length c5, .slice a6 y6.length c6] [.val (.int .i64 v0), .val (.int .i64 v1), .val (.int .i64 v2), .val (.int .i64 v3), slD Lay.slot y4, slD Lay.node y5, slD Lay.err y6] S ∧ Below w.heap.size w W') := fun W' a4' c4' a5' c5' a6' c6' h => by
    obtain ⟨S, hS⟩ := h.cells
    exact ⟨a4', c4', a5', c5', a6', c6', S, rfl, hS, h.below⟩
  go_enter Try.func12, Try.ntmps12
  have HP0 := hid (HH.out.plain [.int .i64 v0, .int .i64 v1, .int .i64 v2, .int .i64 v3])
  clear HH
  go_wp2_with fail
  refine (X0.out _ HP0.out.below).mono ?_
  rintro e w1 ⟨u0, S0, rfl, O0, hb0⟩
  obtain ⟨a4', c4', rfl, _⟩ := OD.shapeL O0
  have HC0 := hid (HP0.out.snoc hb0 (Cells.one O0))
  have HQ0 := hid (HC0.out.poke ⟨w.heap.size + 1 + 1, 4, none⟩ (.slice a4' y4.length c4') (by simp; omega) ⟨[], by simp⟩ (fun q hq => by simp only [List.mem_cons, List.not_mem_nil, or_false] at hq; rcases hq with rfl | rfl <;> rfl))
  obtain ⟨hc0, hf0⟩ := bcellH hb0
  have hz0 := hb0.size
  simp only [World.size_alloc] at hc0 hf0 hz0
  have l0 : w.heap.size < w1.heap.size := by omega
  have m0 : w.heap.size + 1 < w1.heap.size := by omega
  have n0 : w.heap.size + 1 + 1 < w1.heap.size := by omega
  clear HP0 HC0 O0 X0 hb0
  go_wp2_with fail
  refine (X1.out _ HQ0.out.below).mono ?_
  rintro e w2 ⟨a5', c5', S1, rfl, O1, hb1⟩
  have HC1 := hid (HQ0.out.snoc hb1 O1)
  have HQ1 := hid (HC1.out.poke ⟨w.heap.size + 1 + 1, 5, none⟩ (.slice a5' y5.length c5') (by simp; omega) ⟨[], by simp⟩ (fun q hq => by simp only [List.mem_cons, List.not_mem_nil, or_false] at hq; rcases hq with rfl | rfl <;> rfl))
  obtain ⟨hc1, hf1⟩ := bcellH hb1
  have hz1 := hb1.size
  simp only [World.size_setCell] at hc1 hf1 hz1
  have l1 : w.heap.size < w2.heap.size := by omega
  have m1 : w.heap.size + 1 < w2.heap.size := by omega
  have n1 : w.heap.size + 1 + 1 < w2.heap.size := by omega
  clear HQ0 HC1 O1 X1 hb1
  go_wp2_with fail
  refine (X2.out _ HQ1.out.below).mono ?_
  rintro e w3 ⟨u2, S2, rfl, O2, hb2⟩
  obtain ⟨a6', c6', rfl, _⟩ := OD.shapeL O2
  have HC2 := hid (HQ1.out.snoc hb2 (Cells.one O2))
  have HQ2 := hid (HC2.out.poke ⟨w.heap.size + 1 + 1, 6, none⟩ (.slice a6' y6.length c6') (by simp; omega) ⟨[], by simp⟩ (fun q hq => by simp only [List.mem_cons, List.not_mem_nil, or_false] at hq; rcases hq with rfl | rfl <;> rfl))
  obtain ⟨hc2, hf2⟩ := bcellH hb2
  have hz2 := hb2.size
  simp only [World.size_setCell] at hc2 hf2 hz2
  have l2 : w.heap.size < w3.heap.size := by omega
  have m2 : w.heap.size + 1 < w3.heap.size := by omega
  have n2 : w.heap.size + 1 + 1 < w3.heap.size := by omega
  clear HQ1 HC2 O2 X2 hb2
  go_wp2
  refine bodyPost_ret (v := .agg #[.int .i64 v0, .int .i64 v1, .int .i64 v2, .int .i64 v3, .slice a4' y4.length c4', .slice a5' y5.length c5', .slice a6' y6.length c6']) (by simp [results, Try.results12, go_sem, hc0, m0, hc1, m1, hc2]) rfl (FIN.out _ a4' c4' a5' c5' a6' c6' ?_)
  refine Holds.poke ?_ _ _ (by show w.heap.size ≤ w.heap.size + 1; omega) ⟨[], by simp⟩ (fun q hq => by simp only [List.mem_cons, List.not_mem_nil, or_false] at hq; rcases hq with rfl | rfl <;> rfl)
  refine Holds.poke ?_ _ _ (by show w.heap.size ≤ w.heap.size + 1; omega) ⟨[], by simp⟩ (fun q hq => by simp only [List.mem_cons, List.not_mem_nil, or_false] at hq; rcases hq with rfl | rfl <;> rfl)
  refine Holds.poke ?_ _ _ (by show w.heap.size ≤ w.heap.size + 1; omega) ⟨[], by simp⟩ (fun q hq => by simp only [List.mem_cons, List.not_mem_nil, or_false] at hq; rcases hq with rfl | rfl <;> rfl)
  refine Holds.poke ?_ _ _ (by show w.heap.size ≤ w.heap.size + 1; omega) ⟨[], by simp⟩ (fun q hq => by simp only [List.mem_cons, List.not_mem_nil, or_false] at hq; rcases hq with rfl | rfl <;> rfl)
  refine Holds.poke ?_ _ _ (by show w.heap.size ≤ w.heap.size + 1; omega) ⟨[], by simp⟩ (fun q hq => by simp only [List.mem_cons, List.not_mem_nil, or_false] at hq; rcases hq with rfl | rfl <;> rfl)
  refine Holds.poke ?_ _ _ (by show w.heap.size ≤ w.heap.size + 1; omega) ⟨[], by simp⟩ (fun q hq => by simp only [List.mem_cons, List.not_mem_nil, or_false] at hq; rcases hq with rfl | rfl <;> rfl)
  refine Holds.poke ?_ _ _ (by show w.heap.size ≤ w.heap.size + 1; omega) ⟨[], by simp⟩ (fun q hq => by simp only [List.mem_cons, List.not_mem_nil, or_false] at hq; rcases hq with rfl | rfl <;> rfl)
  exact HQ2.out
end Go.Proofs.Ythnppodnjokaoab
