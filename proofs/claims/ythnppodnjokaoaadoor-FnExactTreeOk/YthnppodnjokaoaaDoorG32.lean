/-
  Contracts and plain mathematics, joined: TreeOk. No statement is proved here.
-/
import Derived.Test.YthnppodnjokaoaaDoorG30
import Derived.Test.YthnppodnjokaoaaDoorG31
namespace Go.Proofs.YthnppodnjokaoaaDoor
open Go.RowKit

/-- What TreeOk answers. -/
def resTreeOk (x : Gm) (t : Tr) (ws : List Int) : Bool := (inputOkB ws && decide (resCheck x = 0)) && shapeB t.nodes && ((decide ((ndAt t.nodes 0).kind = 1) && decide ((ndAt t.nodes 0).sym = 0)) && t.nodes.all (okNd x.parts t.nodes) && leafRight t.nodes ws)

set_option maxHeartbeats 1000000 in
set_option maxRecDepth 100000 in
theorem treeOk_any (x : Gm) (a0 : Option Addr) (c0 : Nat) (t : Tr) (a1 : Option Addr) (c1 : Nat) (ws : List Int) (aw : Option Addr) (cw : Nat) (w : World) (h0 : RD w (.slice a0 x.parts.length c0) (slD (Lay.list (Lay.list Lay.int)) x.parts)) (h1 : RD w (.slice a1 t.nodes.length c1) (slD Lay.node t.nodes)) (h2 : RD w (.slice aw ws.length cw) (slD Lay.int ws)) (hn : Lay.gram.wt x ≤ 1048576) (hf : Lay.gram.fit x) (hw : Lay.tree.wt t ≤ 1048576) (hft : Lay.tree.fit t) (hl : ws.length ≤ 1048576) (hz : (Lay.list Lay.int).fit ws) (hE : ErrsIs w) :
    Calls Tryd.prog 18 #[.agg #[.slice a0 x.parts.length c0], .agg #[.slice a1 t.nodes.length c1], .slice aw ws.length cw] w fun e w' => e = .returned (.bool (resTreeOk x t ws)) ∧ Below w.heap.size w w' := by
  have HC : Hid (∀ W, Below w.heap.size w W → Calls Tryd.prog 34 #[.agg #[.slice a0 x.parts.length c0], .slice aw ws.length cw] W fun e w' => e = .returned (.bool (inputOkB ws && decide (resCheck x = 0))) ∧ Below W.heap.size W w') := fun W hW => canBeAsked_any x a0 c0 ws aw cw W (h0.later hW) (h2.later hW) hn hf hl hz (hE.later hW)
  have HS : Hid (∀ W, Below w.heap.size w W → Calls Tryd.prog 35 #[.agg #[.slice a1 t.nodes.length c1]] W fun e w' => e = .returned (.bool (shapeB t.nodes)) ∧ Below W.heap.size W w') := fun W hW => treeShape_any t a1 c1 W (h1.later hW) hw hft
  rw [Lay_tree_wt, Lay.wt_list] at hw
  have hlen : t.nodes.length ≤ 1048576 := by omega
  have hsum : Lay.node.sumL t.nodes ≤ 1048576 := by omega
  unfold resTreeOk
  clear hn hf hft hz hE
  generalize x.parts = P at *
  generalize t.nodes = ns at *
  obtain ⟨wB, hwB⟩ : ∃ y, y = (w.alloc (.cells #[.slice a0 P.length c0] 28)).alloc (.cells #[.slice a1 ns.length c1] 43) := ⟨_, rfl⟩
  have e1 : (w.alloc (.cells #[.slice a0 P.length c0] 28)).heap.size = w.heap.size + 1 := by simp
  have g0 : wB.cell? ⟨w.heap.size, 0, none⟩ = some (.slice a0 P.length c0) := by
    rw [hwB]
    exact (((Below.refl (w.heap.size + 1) _).alloc (by simp) _).cell (p := ⟨w.heap.size, 0, none⟩) (by simp)).trans (by simp)
  have g1 : wB.cell? ⟨w.heap.size + 1, 0, none⟩ = some (.slice a1 ns.length c1) := by rw [hwB]; exact new_at e1 rfl
  have hsB : w.heap.size + 2 ≤ wB.heap.size := by rw [hwB]; simp
  have B0 : Below w.heap.size w wB := by rw [hwB]; exact ((Below.refl _ _).alloc (Nat.le_refl _) _).alloc (by simp) _
  clear e1
  generalize (inputOkB ws && decide (resCheck x = 0)) = ask at *
  cases ask with
  | false =>
    rw [Bool.false_and, Bool.false_and]
    clear HS h0 h1 h2
    go_enter Tryd.func18, Tryd.ntmps18
    go_wp2_with fail
    rw [← hwB]
    clear hwB
    go_wp2_with fail
    refine (HC.out _ B0).mono ?_
    rintro e w3 ⟨rfl, hb3⟩
    go_wp2
    go_ret
    exact ⟨rfl, B0.trans (hb3.mono B0.size)⟩
  | true =>
    cases hsb : shapeB ns with
    | false =>
      rw [Bool.and_false, Bool.false_and]
      rw [hsb] at HS
      clear h0 h1 h2
      go_enter Tryd.func18, Tryd.ntmps18
      go_wp2_with fail
      rw [← hwB]
      clear hwB
      go_wp2_with fail
      refine (HC.out _ B0).mono ?_
      rintro e w3 ⟨rfl, hb3⟩
      have hs3 := hb3.size
      have t1 := (hb3.cell (p := ⟨w.heap.size + 1, 0, none⟩) (by show w.heap.size + 1 < _; omega)).trans g1
      clear g0 g1
      go_wp2_with fail
      refine (HS.out _ (B0.trans (hb3.mono B0.size))).mono ?_
      rintro e w4 ⟨rfl, hb4⟩
      go_wp2
      go_ret
      exact ⟨rfl, B0.trans ((hb3.mono B0.size).trans (hb4.mono (Nat.le_trans B0.size hs3)))⟩
    | true =>
      have hs := shapeB_true.1 hsb
      have hpos : 0 < ns.length := List.length_pos_iff.2 hs.1
      have hposI : (0 : Int) < (ns.length : Int) := by omega
      rw [hsb] at HS
      rw [Bool.true_and, Bool.true_and]
      have HNO : Hid (∀ W, Below w.heap.size w W → Calls Tryd.prog 36 #[.agg #[.slice a0 P.length c0], .agg #[.slice a1 ns.length c1]] W fun e w' => e = .returned (.bool (ns.all (okNd P ns))) ∧ Below W.heap.size W w') := fun W hW => nodesOk_any P a0 c0 ns a1 c1 W (h0.later hW) (h1.later hW) hs hlen hsum
      have HLA : Hid (∀ W, Below w.heap.size w W → Calls Tryd.prog 37 #[.agg #[.slice a1 ns.length c1], .slice aw ws.length cw] W fun e w' => e = .returned (.bool (leafRight ns ws)) ∧ Below W.heap.size W w') := fun W hW => leavesAre_any ns a1 c1 ws aw cw W (h1.later hW) (h2.later hW).reads hs hlen hsum hl
      obtain ⟨b1, o1, rfl, hb1, ⟨p0, p1, p2, p3⟩, ax, cx, p4, r1⟩ := h1.atNode hpos
      simp only [Nat.zero_mul, Nat.add_zero] at p0 p1 p2 p3 p4
      rw [← ndAt_get hpos] at p0 p1 p2 p3 p4
      clear h0 h1 h2 r1 hs hlen hsum
      generalize ns.all (okNd P ns) = rn at *
      generalize leafRight ns ws = rl at *
      generalize ndAt ns 0 = y at *
      obtain ⟨RES, hres⟩ : ∃ RES, ((decide (y.kind = 1) && decide (y.sym = 0)) && rn && rl) = RES := ⟨_, rfl⟩
      rw [hres]
      have HRES : Hid (((decide (y.kind = 1) && decide (y.sym = 0)) && rn && rl) = RES) := hres
      clear hres
      have HCE : Hid (∀ (w4 : World), Below w.heap.size w w4 → w.heap.size + 2 ≤ w4.heap.size → w4.cell? ⟨w.heap.size, 0, none⟩ = some (.slice a0 P.length c0) → w4.cell? ⟨w.heap.size + 1, 0, none⟩ = some (.slice (some ⟨b1, o1, none⟩) ns.length c1) → ∀ o, (w4.alloc o).cell? ⟨w.heap.size, 0, none⟩ = some (.slice a0 P.length c0) ∧ (w4.alloc o).cell? ⟨w.heap.size + 1, 0, none⟩ = some (.slice (some ⟨b1, o1, none⟩) ns.length c1) ∧ Below w.heap.size w (w4.alloc o)) := fun w4 hb hs4 c0 c1 o => ⟨(((Below.refl w4.heap.size w4).alloc (Nat.le_refl _) o).cell (p := ⟨w.heap.size, 0, none⟩) (by show w.heap.size < _; omega)).trans c0, (((Below.refl w4.heap.size w4).alloc (Nat.le_refl _) o).cell (p := ⟨w.heap.size + 1, 0, none⟩) (by show w.heap.size + 1 < _; omega)).trans c1, hb.alloc hb.size o⟩
      go_enter Tryd.func18, Tryd.ntmps18
      go_wp2_with fail
      rw [← hwB]
      clear hwB
      go_wp2_with fail
      refine (HC.out _ B0).mono ?_
      rintro e w3 ⟨rfl, hb3⟩
      have hs3 := hb3.size
      have t0 := (hb3.cell (p := ⟨w.heap.size, 0, none⟩) (by show w.heap.size < _; omega)).trans g0
      have t1 := (hb3.cell (p := ⟨w.heap.size + 1, 0, none⟩) (by show w.heap.size + 1 < _; omega)).trans g1
      have B3 : Below w.heap.size w w3 := B0.trans (hb3.mono B0.size)
      clear g0 g1 hb3 HC
      go_wp2_with fail
      refine (HS.out _ B3).mono ?_
      rintro e w4 ⟨rfl, hb4⟩
      have hs4 := hb4.size
      have u0 := (hb4.cell (p := ⟨w.heap.size, 0, none⟩) (by show w.heap.size < _; omega)).trans t0
      have u1 := (hb4.cell (p := ⟨w.heap.size + 1, 0, none⟩) (by show w.heap.size + 1 < _; omega)).trans t1
      have B4 : Below w.heap.size w w4 := B3.trans (hb4.mono B3.size)
      have q0 := (B4.cell (p := ⟨b1, _, none⟩) hb1).trans p0
      have q1 := (B4.cell (p := ⟨b1, _, none⟩) hb1).trans p1
      have q2 := (B4.cell (p := ⟨b1, _, none⟩) hb1).trans p2
      have q3 := (B4.cell (p := ⟨b1, _, none⟩) hb1).trans p3
      have q4 := (B4.cell (p := ⟨b1, _, none⟩) hb1).trans p4
      have hz4 : w.heap.size + 2 ≤ w4.heap.size := by omega
      have hzb : b1 < w4.heap.size := by omega
      obtain ⟨v0, v1, B5⟩ := HCE.out w4 B4 hz4 u0 u1 (.cells #[.int .i64 y.kind, .int .i64 y.sym, .int .i64 y.alt, .int .i64 y.pl, .slice ax y.kids.length cx] 55)
      clear t0 t1 hb4 HS HCE
      by_cases hk1 : y.kind = 1
      · have hkb : (y.kind == 1) = true := by simpa using hk1
        by_cases hy0 : y.sym = 0
        · have hyb : (y.sym == 0) = true := by simpa using hy0
          have HR : Hid ((rn && rl) = RES) := by show _ = _; rw [← HRES.out, decide_eq_true hk1, decide_eq_true hy0, Bool.and_true, Bool.true_and]
          clear HRES
          rw [hk1] at q0 v0 v1 B5
          rw [hy0] at q1 v0 v1 B5
          clear hk1 hy0 hkb hyb
          obtain ⟨wN, hwN⟩ : ∃ z, z = w4.alloc (.cells #[.int .i64 1, .int .i64 0, .int .i64 y.alt, .int .i64 y.pl, .slice ax y.kids.length cx] 55) := ⟨_, rfl⟩
          have v1' := v1
          rw [← hwN] at v1' B5
          have hwl : w.heap.size + 2 ≤ wN.heap.size := by rw [hwN]; simp; omega
          go_wp2_with fail
          rw [← hwN]
          clear hwN v0 v1
          refine (HNO.out _ B5).mono ?_
          rintro e w6 ⟨rfl, hb6⟩
          have hs6 := hb6.size
          have x1 := (hb6.cell (p := ⟨w.heap.size + 1, 0, none⟩) (by show w.heap.size + 1 < _; omega)).trans v1'
          have B6 : Below w.heap.size w w6 := B5.trans (hb6.mono B5.size)
          clear hb6 HNO
          cases rn with
          | false =>
            go_wp2
            go_ret
            rw [← HR.out, Bool.false_and]
            exact ⟨rfl, B6⟩
          | true =>
            rw [Bool.true_and] at HR
            go_wp2_with fail
            refine (HLA.out _ B6).mono ?_
            rintro e w7 ⟨rfl, hb7⟩
            go_wp2
            go_ret
            rw [← HR.out]
            exact ⟨rfl, B6.trans (hb7.mono B6.size)⟩
        · have hyb : (y.sym == 0) = false := by simpa using hy0
          have HR : Hid (RES = false) := by show _ = _; rw [← HRES.out, decide_eq_false hy0]; simp
          rw [hk1] at q0 B5
          clear hk1 hy0 hkb HRES
          go_wp2
          go_ret
          rw [HR.out]
          exact ⟨rfl, B5⟩
      · have hkb : (y.kind == 1) = false := by simpa using hk1
        have HR : Hid (RES = false) := by show _ = _; rw [← HRES.out, decide_eq_false hk1]; simp
        clear hk1 HRES
        go_wp2
        go_ret
        rw [HR.out]
        exact ⟨rfl, B5⟩
end Go.Proofs.YthnppodnjokaoaaDoor
