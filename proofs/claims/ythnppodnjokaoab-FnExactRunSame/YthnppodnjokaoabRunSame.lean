/-
  Contract of impl.RunSame. No statement is proved here.
-/
import Derived.Test.YthnppodnjokaoabEqualS
import Derived.Test.YthnppodnjokaoabSameNode
import Derived.BigQuiet
import Derived.Deep.QuietTactic
namespace Go.Proofs.Ythnppodnjokaoab
open Go.RowKit

set_option maxHeartbeats 2000000 in
set_option maxRecDepth 100000 in
theorem runSame_any (x0 : Rn) (a0_4 : Option Addr) (c0_4 : Nat) (a0_5 : Option Addr) (c0_5 : Nat) (a0_6 : Option Addr) (c0_6 : Nat) (x1 : Rn) (a1_4 : Option Addr) (c1_4 : Nat) (a1_5 : Option Addr) (c1_5 : Nat) (a1_6 : Option Addr) (c1_6 : Nat) (w : World) (h0_4 : RD w (.slice a0_4 x0.slots.length c0_4) (slD Lay.slot x0.slots)) (h0_5 : RD w (.slice a0_5 x0.tree.nodes.length c0_5) (slD Lay.node x0.tree.nodes)) (h0_6 : RD w (.slice a0_6 x0.errs.length c0_6) (slD Lay.err x0.errs)) (h1_4 : RD w (.slice a1_4 x1.slots.length c1_4) (slD Lay.slot x1.slots)) (h1_5 : RD w (.slice a1_5 x1.tree.nodes.length c1_5) (slD Lay.node x1.tree.nodes)) (h1_6 : RD w (.slice a1_6 x1.errs.length c1_6) (slD Lay.err x1.errs)) (hn0 : Lay.run.wt x0 ≤ 1048576) (_ : Lay.run.fit x0) (_ : Lay.run.wt x1 ≤ 1048576) (_ : Lay.run.fit x1) :
    Calls Try.prog 13 #[.agg #[.int .i64 x0.code, .int .i64 x0.pl, .int .i64 x0.look, .int .i64 x0.cost, .slice a0_4 x0.slots.length c0_4, .slice a0_5 x0.tree.nodes.length c0_5, .slice a0_6 x0.errs.length c0_6], .agg #[.int .i64 x1.code, .int .i64 x1.pl, .int .i64 x1.look, .int .i64 x1.cost, .slice a1_4 x1.slots.length c1_4, .slice a1_5 x1.tree.nodes.length c1_5, .slice a1_6 x1.errs.length c1_6]] w fun e w' => e = .returned (.bool (resRunSame x0 x1)) ∧ Below w.heap.size w w' := by
  rw [Lay_run_split, Lay_tree_wt, Lay.wt_list, Lay.wt_list, Lay.wt_list] at hn0
  have hkk : ∀ j (hj : j < x0.tree.nodes.length), x0.tree.nodes[j].kids.length ≤ 1048576 := fun j hj => by
    have := Lay.sumL_at Lay.node hj
    rw [Lay_node_wt, Lay.wt_ints] at this
    omega
  have B0 : Below w.heap.size w ((w.alloc (.cells #[.int .i64 x0.code, .int .i64 x0.pl, .int .i64 x0.look, .int .i64 x0.cost, .slice a0_4 x0.slots.length c0_4, .slice a0_5 x0.tree.nodes.length c0_5, .slice a0_6 x0.errs.length c0_6] 28)).alloc (.cells #[.int .i64 x1.code, .int .i64 x1.pl, .int .i64 x1.look, .int .i64 x1.cost, .slice a1_4 x1.slots.length c1_4, .slice a1_5 x1.tree.nodes.length c1_5, .slice a1_6 x1.errs.length c1_6] 28)) := ((Below.refl _ _).alloc (Nat.le_refl _) _).alloc (by simp) _
  have XS : Hid (∀ W, Below w.heap.size w W → Calls Try.prog 30 #[.slice a0_4 x0.slots.length c0_4, .slice a1_4 x1.slots.length c1_4] W fun e w' => e = .returned (.bool (eqLB sameSl x0.slots x1.slots)) ∧ Below W.heap.size W w') := fun W hW => equalSlot_any x0.slots x1.slots a0_4 a1_4 c0_4 c1_4 W (h0_4.later hW) (h1_4.later hW) (by omega)
  have XE : Hid (∀ W, Below w.heap.size w W → Calls Try.prog 31 #[.slice a0_6 x0.errs.length c0_6, .slice a1_6 x1.errs.length c1_6] W fun e w' => e = .returned (.bool (eqLB sameEr x0.errs x1.errs)) ∧ Below W.heap.size W w') := fun W hW => equalErr_any x0.errs x1.errs a0_6 a1_6 c0_6 c1_6 W (h0_6.later hW) (h1_6.later hW) (by omega)
  have XN : Hid (∀ W, Below w.heap.size w W → Calls Try.prog 32 #[.slice a0_5 x0.tree.nodes.length c0_5, .slice a1_5 x1.tree.nodes.length c1_5, .func (.func 33) #[] #[]] W fun e w' => e = .returned (.bool (eqLB sameNd x0.tree.nodes x1.tree.nodes)) ∧ Below W.heap.size W w') := fun W hW => equalNodes_any x0.tree.nodes x1.tree.nodes a0_5 a1_5 c0_5 c1_5 W (h0_5.later hW) (h1_5.later hW) (by omega) hkk
  unfold resRunSame
  clear h0_4 h0_5 h0_6 h1_4 h1_5 h1_6 hkk hn0
  generalize eqLB sameSl x0.slots x1.slots = rs at *
  generalize eqLB sameEr x0.errs x1.errs = re at *
  generalize eqLB sameNd x0.tree.nodes x1.tree.nodes = rn at *
  generalize x0.code = v0 at *
  generalize x1.code = u0 at *
  generalize x0.pl = v1 at *
  generalize x1.pl = u1 at *
  generalize x0.look = v2 at *
  generalize x1.look = u2 at *
  generalize x0.cost = v3 at *
  generalize x1.cost = u3 at *
  generalize x0.slots = s0 at *
  generalize x1.slots = s1 at *
  generalize x0.tree.nodes = n0 at *
  generalize x1.tree.nodes = n1 at *
  generalize x0.errs = e0 at *
  generalize x1.errs = e1 at *
  by_cases he0 : v0 = u0
  · subst he0
    by_cases he1 : v1 = u1
    · subst he1
      by_cases he2 : v2 = u2
      · subst he2
        by_cases he3 : v3 = u3
        · subst he3
          simp only [decide_true, Bool.true_and]
          cases rs with
          | false =>
            rw [Bool.false_and]
            clear XE XN
            go_enter Try.func13, Try.ntmps13
            go_wp2_with (go_at_call 30; refine (XS.out _ B0).mono ?_; rintro e w3 ⟨rfl, hb3⟩; have B3 := B0.trans (hb3.mono B0.size); obtain ⟨hc, _⟩ := bcellH hb3; simp only [World.size_alloc] at hc; have p0_5 : w3.cell? ⟨w.heap.size, 5, none⟩ = some (.slice a0_5 n0.length c0_5) := (hc (w.heap.size) 5 (by omega)).trans (by simp [go_sem]); have p0_6 : w3.cell? ⟨w.heap.size, 6, none⟩ = some (.slice a0_6 e0.length c0_6) := (hc (w.heap.size) 6 (by omega)).trans (by simp [go_sem]); have p1_5 : w3.cell? ⟨w.heap.size + 1, 5, none⟩ = some (.slice a1_5 n1.length c1_5) := (hc (w.heap.size + 1) 5 (by omega)).trans (by simp [go_sem]); have p1_6 : w3.cell? ⟨w.heap.size + 1, 6, none⟩ = some (.slice a1_6 e1.length c1_6) := (hc (w.heap.size + 1) 6 (by omega)).trans (by simp [go_sem]); clear hc)
            go_ret
            exact ⟨rfl, B3⟩
          | true =>
            rw [Bool.true_and]
            cases re with
            | false =>
              rw [Bool.false_and]
              clear XN
              go_enter Try.func13, Try.ntmps13
              go_wp2_with (first | (go_at_call 30; refine (XS.out _ B0).mono ?_; rintro e w3 ⟨rfl, hb3⟩; have B3 := B0.trans (hb3.mono B0.size); obtain ⟨hc, _⟩ := bcellH hb3; simp only [World.size_alloc] at hc; have p0_5 : w3.cell? ⟨w.heap.size, 5, none⟩ = some (.slice a0_5 n0.length c0_5) := (hc (w.heap.size) 5 (by omega)).trans (by simp [go_sem]); have p0_6 : w3.cell? ⟨w.heap.size, 6, none⟩ = some (.slice a0_6 e0.length c0_6) := (hc (w.heap.size) 6 (by omega)).trans (by simp [go_sem]); have p1_5 : w3.cell? ⟨w.heap.size + 1, 5, none⟩ = some (.slice a1_5 n1.length c1_5) := (hc (w.heap.size + 1) 5 (by omega)).trans (by simp [go_sem]); have p1_6 : w3.cell? ⟨w.heap.size + 1, 6, none⟩ = some (.slice a1_6 e1.length c1_6) := (hc (w.heap.size + 1) 6 (by omega)).trans (by simp [go_sem]); clear hc) | (go_at_call 31; refine (XE.out _ B3).mono ?_; rintro e w4 ⟨rfl, hb4⟩; have B4 := B3.trans (hb4.mono B3.size); have r0_5 : w4.cell? ⟨w.heap.size, 5, none⟩ = some (.slice a0_5 n0.length c0_5) := cell_kept hb4 p0_5; have r1_5 : w4.cell? ⟨w.heap.size + 1, 5, none⟩ = some (.slice a1_5 n1.length c1_5) := cell_kept hb4 p1_5))
              go_ret
              exact ⟨rfl, B4⟩
            | true =>
              rw [Bool.true_and]
              go_enter Try.func13, Try.ntmps13
              go_wp2_with (first | (go_at_call 30; refine (XS.out _ B0).mono ?_; rintro e w3 ⟨rfl, hb3⟩; have B3 := B0.trans (hb3.mono B0.size); obtain ⟨hc, _⟩ := bcellH hb3; simp only [World.size_alloc] at hc; have p0_5 : w3.cell? ⟨w.heap.size, 5, none⟩ = some (.slice a0_5 n0.length c0_5) := (hc (w.heap.size) 5 (by omega)).trans (by simp [go_sem]); have p0_6 : w3.cell? ⟨w.heap.size, 6, none⟩ = some (.slice a0_6 e0.length c0_6) := (hc (w.heap.size) 6 (by omega)).trans (by simp [go_sem]); have p1_5 : w3.cell? ⟨w.heap.size + 1, 5, none⟩ = some (.slice a1_5 n1.length c1_5) := (hc (w.heap.size + 1) 5 (by omega)).trans (by simp [go_sem]); have p1_6 : w3.cell? ⟨w.heap.size + 1, 6, none⟩ = some (.slice a1_6 e1.length c1_6) := (hc (w.heap.size + 1) 6 (by omega)).trans (by simp [go_sem]); clear hc) | (go_at_call 31; refine (XE.out _ B3).mono ?_; rintro e w4 ⟨rfl, hb4⟩; have B4 := B3.trans (hb4.mono B3.size); have r0_5 : w4.cell? ⟨w.heap.size, 5, none⟩ = some (.slice a0_5 n0.length c0_5) := cell_kept hb4 p0_5; have r1_5 : w4.cell? ⟨w.heap.size + 1, 5, none⟩ = some (.slice a1_5 n1.length c1_5) := cell_kept hb4 p1_5) | (go_at_call 32; refine (XN.out _ B4).mono ?_; rintro e w5 ⟨rfl, hb5⟩))
              go_ret
              exact ⟨rfl, B4.trans (hb5.mono B4.size)⟩
        · have hb3 : (v3 == u3) = false := by simpa using he3
          rw [show decide (v3 = u3) = false from decide_eq_false he3]
          simp only [decide_true, Bool.true_and, Bool.false_and]
          clear XS XE XN he3
          go_enter Try.func13, Try.ntmps13
          go_wp2
          go_ret
          exact ⟨rfl, B0⟩
      · have hb2 : (v2 == u2) = false := by simpa using he2
        rw [show decide (v2 = u2) = false from decide_eq_false he2]
        simp only [decide_true, Bool.true_and, Bool.false_and]
        clear XS XE XN he2
        go_enter Try.func13, Try.ntmps13
        go_wp2
        go_ret
        exact ⟨rfl, B0⟩
    · have hb1 : (v1 == u1) = false := by simpa using he1
      rw [show decide (v1 = u1) = false from decide_eq_false he1]
      simp only [decide_true, Bool.true_and, Bool.false_and]
      clear XS XE XN he1
      go_enter Try.func13, Try.ntmps13
      go_wp2
      go_ret
      exact ⟨rfl, B0⟩
  · have hb0 : (v0 == u0) = false := by simpa using he0
    rw [show decide (v0 = u0) = false from decide_eq_false he0]
    simp only [Bool.false_and]
    clear XS XE XN he0
    go_enter Try.func13, Try.ntmps13
    go_wp2
    go_ret
    exact ⟨rfl, B0⟩
end Go.Proofs.Ythnppodnjokaoab
