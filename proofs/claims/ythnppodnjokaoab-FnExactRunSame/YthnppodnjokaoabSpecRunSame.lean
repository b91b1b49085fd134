/-
  Contract of spec.RunSame. No statement is proved here.
-/
import Derived.Test.YthnppodnjokaoabSpecNodes
import Derived.BigQuiet
import Derived.Deep.QuietTactic
namespace Go.Proofs.Ythnppodnjokaoab
open Go.RowKit

set_option maxHeartbeats 2000000 in
set_option maxRecDepth 100000 in
theorem specRunSame_any (x0 : Rn) (a0_4 : Option Addr) (c0_4 : Nat) (a0_5 : Option Addr) (c0_5 : Nat) (a0_6 : Option Addr) (c0_6 : Nat) (x1 : Rn) (a1_4 : Option Addr) (c1_4 : Nat) (a1_5 : Option Addr) (c1_5 : Nat) (a1_6 : Option Addr) (c1_6 : Nat) (w : World) (h0_4 : RD w (.slice a0_4 x0.slots.length c0_4) (slD Lay.slot x0.slots)) (h0_5 : RD w (.slice a0_5 x0.tree.nodes.length c0_5) (slD Lay.node x0.tree.nodes)) (h0_6 : RD w (.slice a0_6 x0.errs.length c0_6) (slD Lay.err x0.errs)) (h1_4 : RD w (.slice a1_4 x1.slots.length c1_4) (slD Lay.slot x1.slots)) (h1_5 : RD w (.slice a1_5 x1.tree.nodes.length c1_5) (slD Lay.node x1.tree.nodes)) (h1_6 : RD w (.slice a1_6 x1.errs.length c1_6) (slD Lay.err x1.errs)) (hn0 : Lay.run.wt x0 ≤ 1048576) (_ : Lay.run.fit x0) (_ : Lay.run.wt x1 ≤ 1048576) (_ : Lay.run.fit x1) :
    Calls Try.prog 11 #[.agg #[.int .i64 x0.code, .int .i64 x0.pl, .int .i64 x0.look, .int .i64 x0.cost, .slice a0_4 x0.slots.length c0_4, .slice a0_5 x0.tree.nodes.length c0_5, .slice a0_6 x0.errs.length c0_6], .agg #[.int .i64 x1.code, .int .i64 x1.pl, .int .i64 x1.look, .int .i64 x1.cost, .slice a1_4 x1.slots.length c1_4, .slice a1_5 x1.tree.nodes.length c1_5, .slice a1_6 x1.errs.length c1_6]] w fun e w' => e = .returned (.bool (resRunSame x0 x1)) ∧ Below w.heap.size w w' := by
  rw [Lay_run_split, Lay_tree_wt, Lay.wt_list, Lay.wt_list, Lay.wt_list] at hn0
  have hkk : ∀ j (hj : j < x0.tree.nodes.length), x0.tree.nodes[j].kids.length ≤ 1048576 := fun j hj => by
    have := Lay.sumL_at Lay.node hj
    rw [Lay_node_wt, Lay.wt_ints] at this
    omega
  have B0 : Below w.heap.size w ((w.alloc (.cells #[.int .i64 x0.code, .int .i64 x0.pl, .int .i64 x0.look, .int .i64 x0.cost, .slice a0_4 x0.slots.length c0_4, .slice a0_5 x0.tree.nodes.length c0_5, .slice a0_6 x0.errs.length c0_6] 28)).alloc (.cells #[.int .i64 x1.code, .int .i64 x1.pl, .int .i64 x1.look, .int .i64 x1.cost, .slice a1_4 x1.slots.length c1_4, .slice a1_5 x1.tree.nodes.length c1_5, .slice a1_6 x1.errs.length c1_6] 28)) := ((Below.refl _ _).alloc (Nat.le_refl _) _).alloc (by simp) _
  have XN : Hid (∀ W, Below w.heap.size w W → Calls Try.prog 26 #[.agg #[.slice a0_5 x0.tree.nodes.length c0_5], .agg #[.slice a1_5 x1.tree.nodes.length c1_5]] W fun e w' => e = .returned (.bool (eqLB sameNd x0.tree.nodes x1.tree.nodes)) ∧ Below W.heap.size W w') := fun W hW => l10Nodes_any x0.tree.nodes x1.tree.nodes a0_5 a1_5 c0_5 c1_5 W (h0_5.later hW) (h1_5.later hW) (by omega) hkk
  have HS0 : Hid (RD w (.slice a0_4 x0.slots.length c0_4) (slD Lay.slot x0.slots)) := h0_4
  have HS1 : Hid (RD w (.slice a1_4 x1.slots.length c1_4) (slD Lay.slot x1.slots)) := h1_4
  have HE0 : Hid (RD w (.slice a0_6 x0.errs.length c0_6) (slD Lay.err x0.errs)) := h0_6
  have HE1 : Hid (RD w (.slice a1_6 x1.errs.length c1_6) (slD Lay.err x1.errs)) := h1_6
  have hls : x0.slots.length ≤ 1048576 := by omega
  have hle : x0.errs.length ≤ 1048576 := by omega
  unfold resRunSame
  clear h0_4 h0_5 h0_6 h1_4 h1_5 h1_6 hkk hn0
  generalize eqLB sameNd x0.tree.nodes x1.tree.nodes = rn at *
  generalize x0.code = v0 at *
  generalize x1.code = u0 at *
  generalize x0.pl = v1 at *
  generalize x1.pl = u1 at *
  generalize x0.look = v2 at *
  generalize x1.look = u2 at *
  generalize x0.cost = v3 at *
  generalize x1.cost = u3 at *
  generalize x0.slots = s0 at *
  generalize x1.slots = s1 at *
  generalize x0.tree.nodes = n0 at *
  generalize x1.tree.nodes = n1 at *
  generalize x0.errs = e0 at *
  generalize x1.errs = e1 at *
  by_cases he0 : v0 = u0
  · subst he0
    by_cases he1 : v1 = u1
    · subst he1
      by_cases he2 : v2 = u2
      · subst he2
        by_cases he3 : v3 = u3
        · subst he3
          simp only [decide_true, Bool.true_and]
          by_cases hS : s0.length = s1.length
          · have hSI : ((s0.length : Int) != (s1.length : Int)) = false := by simp; omega
            by_cases hE : e0.length = e1.length
            · have hEI : ((e0.length : Int) != (e1.length : Int)) = false := by simp; omega
              obtain ⟨RES, hRES⟩ : ∃ R, (eqLB sameSl s0 s1 && (eqLB sameEr e0 e1 && rn)) = R := ⟨_, rfl⟩
              rw [hRES]
              have HRES0 : Hid ((eqLB sameSl s0 s1 && (eqLB sameEr e0 e1 && rn)) = RES) := hRES
              clear hRES
              cases rn with
              | false =>
                have HR : Hid (RES = false) := by show _ = _; rw [← HRES0.out, Bool.and_false, Bool.and_false]
                clear HS0 HS1 HE0 HE1 hS hE
                go_enter Try.func11, Try.ntmps11
                go_wp2_with (go_at_call 26; refine (XN.out _ B0).mono ?_; rintro e w3 ⟨rfl, hb3⟩)
                go_ret
                rw [HR.out]
                exact ⟨rfl, B0.trans (hb3.mono B0.size)⟩
              | true =>
                have HRES : Hid ((eqLB sameSl s0 s1 && eqLB sameEr e0 e1) = RES) := by show _ = _; rw [← HRES0.out, Bool.and_true]
                have HNOSlot : Hid (eqLB sameSl s0 s1 = false → RES = false) := fun h => by rw [← HRES.out, h, Bool.false_and]
                have HNOErr : Hid (eqLB sameEr e0 e1 = false → RES = false) := fun h => by rw [← HRES.out, h, Bool.and_false]
                have HLSlot : Hid (s0.length = s1.length) := hS
                have HLErr : Hid (e0.length = e1.length) := hE
                clear hS hE HRES0
                go_enter Try.func11, Try.ntmps11
                go_wp2_with (go_at_call 26; refine (XN.out _ B0).mono ?_; rintro e w3 ⟨rfl, hb3⟩)
                have B3 : Below w.heap.size w w3 := B0.trans (hb3.mono B0.size)
                have hs3 := hb3.size
                simp only [World.size_alloc] at hs3
                obtain ⟨hc, _⟩ := bcellH hb3
                simp only [World.size_alloc] at hc
                have HQ : Hid (w3.cell? ⟨w.heap.size, 4, none⟩ = some (.slice a0_4 s0.length c0_4) ∧ w3.cell? ⟨w.heap.size + 1, 4, none⟩ = some (.slice a1_4 s1.length c1_4) ∧ w3.cell? ⟨w.heap.size, 6, none⟩ = some (.slice a0_6 e0.length c0_6) ∧ w3.cell? ⟨w.heap.size + 1, 6, none⟩ = some (.slice a1_6 e1.length c1_6)) := ⟨(hc w.heap.size 4 (by omega)).trans (by simp [go_sem]), (hc (w.heap.size + 1) 4 (by omega)).trans (by simp [go_sem]), (hc w.heap.size 6 (by omega)).trans (by simp [go_sem]), (hc (w.heap.size + 1) 6 (by omega)).trans (by simp [go_sem])⟩
                have HB3 : Hid (Below w.heap.size w w3) := B3
                clear hc hb3 B3 XN B0
                go_loopw [5] (fun u5 wr => ∃ j : Nat, j ≤ s0.length ∧ u5 = .int .i64 (j : Int) ∧ Hid (Below w3.heap.size w3 wr) ∧ Hid (∀ i (h1 : i < s0.length) (h2 : i < s1.length), i < j → sameSl s0[i] s1[i] = true)) (fun u5 _ => s0.length - (intOf u5).toNat)
                case atStart => exact ⟨0, Nat.zero_le _, rfl, Below.refl _ _, fun i _ _ h => by omega⟩
                case round =>
                  obtain ⟨j, hj, rfl, HB, HI⟩ := hrel
                  obtain ⟨wA, hwA⟩ : ∃ y, y = wr := ⟨_, rfl⟩
                  subst hwA
                  have hsz := HB.out.size
                  have HBA : Hid (Below w.heap.size w wA) := HB3.out.trans (HB.out.mono HB3.out.size)
                  have q0_4 := (HB.out.cell (p := ⟨w.heap.size, 4, none⟩) (by show w.heap.size < _; omega)).trans HQ.out.1
                  have q1_4 := (HB.out.cell (p := ⟨w.heap.size + 1, 4, none⟩) (by show w.heap.size + 1 < _; omega)).trans HQ.out.2.1
                  have q0_6 := (HB.out.cell (p := ⟨w.heap.size, 6, none⟩) (by show w.heap.size < _; omega)).trans HQ.out.2.2.1
                  have q1_6 := (HB.out.cell (p := ⟨w.heap.size + 1, 6, none⟩) (by show w.heap.size + 1 < _; omega)).trans HQ.out.2.2.2
                  by_cases hlt : j < s0.length
                  · have hlt2 : j < s1.length := by have := HLSlot.out; omega
                    obtain ⟨b1, o1, rfl, hb1, ⟨y0, y1⟩⟩ := (HS0.out.later HBA.out).atSlot hlt
                    obtain ⟨b2, o2, rfl, hb2, ⟨z0, z1⟩⟩ := (HS1.out.later HBA.out).atSlot hlt2
                    have HN : Hid (sameSl s0[j] s1[j] = false → RES = false) := fun h => HNOSlot.out (eqLB_at _ j hlt hlt2 h)
                    have HST : Hid (sameSl s0[j] s1[j] = true → ∀ i (h1 : i < s0.length) (h2 : i < s1.length), i < j + 1 → sameSl s0[i] s1[i] = true) := fun h i h1 h2 hi => by
                      by_cases e : i = j
                      · subst e; exact h
                      · exact HI.out i h1 h2 (by omega)
                    have hltI : (j : Int) < (s0.length : Int) := by omega
                    have hlt2I : (j : Int) < (s1.length : Int) := by omega
                    have hl0 : w.heap.size < wA.heap.size := by omega
                    have hl1 : w.heap.size + 1 < wA.heap.size := by omega
                    have HBN : Hid (∀ nq, Below w3.heap.size w3 (wA.drewN nq)) := fun nq => HB.out.trans ((below_drew nq).mono hsz)
                    have HBN2 : Hid (∀ nq, Below w.heap.size w (wA.drewN nq)) := fun nq => HBA.out.trans ((below_drew nq).mono HBA.out.size)
                    unfold sameSl at HN
                    have HST2 : Hid ((decide (s0[j].sym = s1[j].sym) && decide (s0[j].up = s1[j].up)) = true → ∀ i (h1 : i < s0.length) (h2 : i < s1.length), i < j + 1 → sameSl s0[i] s1[i] = true) := HST.out
                    clear HST HI HB HS0 HS1 HE0 HE1 HQ HRES HNOSlot HNOErr HLSlot HLErr HB3
                    generalize s0[j].sym = m0 at *
                    generalize s1[j].sym = k0 at *
                    generalize s0[j].up = m1 at *
                    generalize s1[j].up = k1 at *
                    by_cases he0 : m0 = k0
                    · subst he0
                      by_cases he1 : m1 = k1
                      · subst he1
                        have HS3 : Hid (∀ i (h1 : i < s0.length) (h2 : i < s1.length), i < j + 1 → sameSl s0[i] s1[i] = true) := HST2.out (by simp)
                        clear HN HST2
                        go_wp2_with fail
                        go_quiet (fail)
                        go_wp2
                        go_roundw
                        case rel => exact ⟨j + 1, by omega, by go_num, HBN.out _, HS3⟩
                        case measure => simp [intOf]; omega
                      · have hb1 : (m1 == k1) = false := by simpa using he1
                        have HR : Hid (RES = false) := HN.out (by simp [he1])
                        clear HN HST2
                        go_wp2_with fail
                        go_quiet (fail)
                        go_wp2
                        go_ret
                        rw [HR.out]
                        exact ⟨rfl, HBN2.out _⟩
                    · have hb0 : (m0 == k0) = false := by simpa using he0
                      have HR : Hid (RES = false) := HN.out (by simp [he0])
                      clear HN HST2
                      go_wp2_with fail
                      go_quiet (fail)
                      go_wp2
                      go_ret
                      rw [HR.out]
                      exact ⟨rfl, HBN2.out _⟩
                  · have hltI : ¬ (j : Int) < (s0.length : Int) := by omega
                    have HT : Hid (eqLB sameSl s0 s1 = true) := eqLB_all _ HLSlot.out (fun i h1 h2 => HI.out i h1 h2 (by omega))
                    have HRE : Hid (eqLB sameEr e0 e1 = true → RES = true) := fun h => by rw [← HRES.out, HT.out, h]; rfl
                    have HQ2 : Hid (wA.cell? ⟨w.heap.size, 4, none⟩ = some (.slice a0_4 s0.length c0_4) ∧ wA.cell? ⟨w.heap.size + 1, 4, none⟩ = some (.slice a1_4 s1.length c1_4) ∧ wA.cell? ⟨w.heap.size, 6, none⟩ = some (.slice a0_6 e0.length c0_6) ∧ wA.cell? ⟨w.heap.size + 1, 6, none⟩ = some (.slice a1_6 e1.length c1_6)) := ⟨q0_4, q1_4, q0_6, q1_6⟩
                    have hlA : w.heap.size + 2 ≤ wA.heap.size := by omega
                    clear HI HQ HB hsz
                    have HQ := HQ2
                    clear HQ2
                    obtain ⟨wL, hwL⟩ : ∃ y, y = wA := ⟨_, rfl⟩
                    subst hwL
                    have HBL : Hid (Below w.heap.size w wL) := HBA.out
                    clear HBA
                    go_wp2
                    go_loopw [6] (fun u5 wr => ∃ j : Nat, j ≤ e0.length ∧ u5 = .int .i64 (j : Int) ∧ Hid (Below wL.heap.size wL wr) ∧ Hid (∀ i (h1 : i < e0.length) (h2 : i < e1.length), i < j → sameEr e0[i] e1[i] = true)) (fun u5 _ => e0.length - (intOf u5).toNat)
                    case atStart => exact ⟨0, Nat.zero_le _, rfl, Below.refl _ _, fun i _ _ h => by omega⟩
                    case round =>
                      obtain ⟨j, hj, rfl, HB, HI⟩ := hrel
                      obtain ⟨wA, hwA⟩ : ∃ y, y = wr := ⟨_, rfl⟩
                      subst hwA
                      have hsz := HB.out.size
                      have HBA : Hid (Below w.heap.size w wA) := HBL.out.trans (HB.out.mono HBL.out.size)
                      have q0_4 := (HB.out.cell (p := ⟨w.heap.size, 4, none⟩) (by show w.heap.size < _; omega)).trans HQ.out.1
                      have q1_4 := (HB.out.cell (p := ⟨w.heap.size + 1, 4, none⟩) (by show w.heap.size + 1 < _; omega)).trans HQ.out.2.1
                      have q0_6 := (HB.out.cell (p := ⟨w.heap.size, 6, none⟩) (by show w.heap.size < _; omega)).trans HQ.out.2.2.1
                      have q1_6 := (HB.out.cell (p := ⟨w.heap.size + 1, 6, none⟩) (by show w.heap.size + 1 < _; omega)).trans HQ.out.2.2.2
                      by_cases hlt : j < e0.length
                      · have hlt2 : j < e1.length := by have := HLErr.out; omega
                        obtain ⟨b1, o1, rfl, hb1, ⟨y0, y1, y2⟩⟩ := (HE0.out.later HBA.out).atErr hlt
                        obtain ⟨b2, o2, rfl, hb2, ⟨z0, z1, z2⟩⟩ := (HE1.out.later HBA.out).atErr hlt2
                        have HN : Hid (sameEr e0[j] e1[j] = false → RES = false) := fun h => HNOErr.out (eqLB_at _ j hlt hlt2 h)
                        have HST : Hid (sameEr e0[j] e1[j] = true → ∀ i (h1 : i < e0.length) (h2 : i < e1.length), i < j + 1 → sameEr e0[i] e1[i] = true) := fun h i h1 h2 hi => by
                          by_cases e : i = j
                          · subst e; exact h
                          · exact HI.out i h1 h2 (by omega)
                        have hltI : (j : Int) < (e0.length : Int) := by omega
                        have hlt2I : (j : Int) < (e1.length : Int) := by omega
                        have hl0 : w.heap.size < wA.heap.size := by omega
                        have hl1 : w.heap.size + 1 < wA.heap.size := by omega
                        have HBN : Hid (∀ nq, Below wL.heap.size wL (wA.drewN nq)) := fun nq => HB.out.trans ((below_drew nq).mono hsz)
                        have HBN2 : Hid (∀ nq, Below w.heap.size w (wA.drewN nq)) := fun nq => HBA.out.trans ((below_drew nq).mono HBA.out.size)
                        unfold sameEr at HN
                        have HST2 : Hid ((decide (e0[j].kind = e1[j].kind) && (decide (e0[j].pl = e1[j].pl) && decide (e0[j].sym = e1[j].sym))) = true → ∀ i (h1 : i < e0.length) (h2 : i < e1.length), i < j + 1 → sameEr e0[i] e1[i] = true) := HST.out
                        clear HST HI HB HE0 HE1 HS0 HS1 HQ HRE HNOErr HLErr HBL
                        generalize e0[j].kind = m0 at *
                        generalize e1[j].kind = k0 at *
                        generalize e0[j].pl = m1 at *
                        generalize e1[j].pl = k1 at *
                        generalize e0[j].sym = m2 at *
                        generalize e1[j].sym = k2 at *
                        by_cases he0 : m0 = k0
                        · subst he0
                          by_cases he1 : m1 = k1
                          · subst he1
                            by_cases he2 : m2 = k2
                            · subst he2
                              have HS3 : Hid (∀ i (h1 : i < e0.length) (h2 : i < e1.length), i < j + 1 → sameEr e0[i] e1[i] = true) := HST2.out (by simp)
                              clear HN HST2
                              go_wp2_with fail
                              go_quiet (fail)
                              go_wp2
                              go_roundw
                              case rel => exact ⟨j + 1, by omega, by go_num, HBN.out _, HS3⟩
                              case measure => simp [intOf]; omega
                            · have hb2 : (m2 == k2) = false := by simpa using he2
                              have HR : Hid (RES = false) := HN.out (by simp [he2])
                              clear HN HST2
                              go_wp2_with fail
                              go_quiet (fail)
                              go_wp2
                              go_ret
                              rw [HR.out]
                              exact ⟨rfl, HBN2.out _⟩
                          · have hb1 : (m1 == k1) = false := by simpa using he1
                            have HR : Hid (RES = false) := HN.out (by simp [he1])
                            clear HN HST2
                            go_wp2_with fail
                            go_quiet (fail)
                            go_wp2
                            go_ret
                            rw [HR.out]
                            exact ⟨rfl, HBN2.out _⟩
                        · have hb0 : (m0 == k0) = false := by simpa using he0
                          have HR : Hid (RES = false) := HN.out (by simp [he0])
                          clear HN HST2
                          go_wp2_with fail
                          go_quiet (fail)
                          go_wp2
                          go_ret
                          rw [HR.out]
                          exact ⟨rfl, HBN2.out _⟩
                      · have hltI : ¬ (j : Int) < (e0.length : Int) := by omega
                        have HT : Hid (eqLB sameEr e0 e1 = true) := eqLB_all _ HLErr.out (fun i h1 h2 => HI.out i h1 h2 (by omega))
                        clear HI
                        have HR : Hid (RES = true) := HRE.out HT.out
                        clear HS0 HS1 HE0 HE1
                        go_wp2
                        go_ret
                        rw [HR.out]
                        exact ⟨rfl, HBA.out⟩
            · have hEI : ((e0.length : Int) != (e1.length : Int)) = true := by simp; omega
              rw [eqLB_len sameEr hE, Bool.false_and, Bool.and_false]
              clear XN HS0 HS1 HE0 HE1 hE hS
              go_enter Try.func11, Try.ntmps11
              go_wp2
              go_ret
              exact ⟨rfl, B0⟩
          · have hSI : ((s0.length : Int) != (s1.length : Int)) = true := by simp; omega
            rw [eqLB_len sameSl hS, Bool.false_and]
            clear XN HS0 HS1 HE0 HE1 hS
            go_enter Try.func11, Try.ntmps11
            go_wp2
            go_ret
            exact ⟨rfl, B0⟩
        · have hb3 : (v3 != u3) = true := by simpa using he3
          rw [show decide (v3 = u3) = false from decide_eq_false he3]
          simp only [decide_true, Bool.true_and, Bool.false_and]
          clear XN HS0 HS1 HE0 HE1 he3
          go_enter Try.func11, Try.ntmps11
          go_wp2
          go_ret
          exact ⟨rfl, B0⟩
      · have hb2 : (v2 != u2) = true := by simpa using he2
        rw [show decide (v2 = u2) = false from decide_eq_false he2]
        simp only [decide_true, Bool.true_and, Bool.false_and]
        clear XN HS0 HS1 HE0 HE1 he2
        go_enter Try.func11, Try.ntmps11
        go_wp2
        go_ret
        exact ⟨rfl, B0⟩
    · have hb1 : (v1 != u1) = true := by simpa using he1
      rw [show decide (v1 = u1) = false from decide_eq_false he1]
      simp only [decide_true, Bool.true_and, Bool.false_and]
      clear XN HS0 HS1 HE0 HE1 he1
      go_enter Try.func11, Try.ntmps11
      go_wp2
      go_ret
      exact ⟨rfl, B0⟩
  · have hb0 : (v0 != u0) = true := by simpa using he0
    rw [show decide (v0 = u0) = false from decide_eq_false he0]
    simp only [Bool.false_and]
    clear XN HS0 HS1 HE0 HE1 he0
    go_enter Try.func11, Try.ntmps11
    go_wp2
    go_ret
    exact ⟨rfl, B0⟩
end Go.Proofs.Ythnppodnjokaoab
