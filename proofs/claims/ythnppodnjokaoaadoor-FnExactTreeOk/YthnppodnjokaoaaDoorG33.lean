/-
  Contracts and plain mathematics, joined: SpecTreeOk, TreeOkLaw. No statement is proved here.
-/
import Derived.Test.YthnppodnjokaoaaDoorG17
import Derived.Test.YthnppodnjokaoaaDoorG23
import Derived.Test.YthnppodnjokaoaaDoorG11
import Derived.Test.YthnppodnjokaoaaDoorG20
import Derived.Test.YthnppodnjokaoaaDoorG32
import Derived.Test.YthnppodnjokaoaaDoorG26
import Derived.Test.YthnppodnjokaoaaDoorG5
import Derived.Test.YthnppodnjokaoaaDoorG4
import Derived.Test.YthnppodnjokaoaaDoorG31
namespace Go.Proofs.YthnppodnjokaoaaDoor
open Go.RowKit

set_option maxHeartbeats 1000000 in
set_option maxRecDepth 100000 in
theorem specTreeOk_any (x : Gm) (a0 : Option Addr) (c0 : Nat) (t : Tr) (a1 : Option Addr) (c1 : Nat) (ws : List Int) (aw : Option Addr) (cw : Nat) (w : World) (h0 : RD w (.slice a0 x.parts.length c0) (slD (Lay.list (Lay.list Lay.int)) x.parts)) (h1 : RD w (.slice a1 t.nodes.length c1) (slD Lay.node t.nodes)) (h2 : RD w (.slice aw ws.length cw) (slD Lay.int ws)) (hn : Lay.gram.wt x ≤ 1048576) (hf : Lay.gram.fit x) (hw : Lay.tree.wt t ≤ 1048576) (hft : Lay.tree.fit t) (hl : ws.length ≤ 1048576) (hz : (Lay.list Lay.int).fit ws) :
    Calls Tryd.prog 16 #[.agg #[.slice a0 x.parts.length c0], .agg #[.slice a1 t.nodes.length c1], .slice aw ws.length cw] w fun e w' => e = .returned (.bool (resTreeOk x t ws)) ∧ Below w.heap.size w w' := by
  have HC : Hid (∀ W, Below w.heap.size w W → Calls Tryd.prog 28 #[.agg #[.slice a0 x.parts.length c0]] W fun e w' => e = .returned (.int .i64 (resCheck x)) ∧ Below W.heap.size W w') := fun W hW => specCheck_any x a0 c0 W (h0.later hW) hn hf
  have HI : Hid (∀ W, Below w.heap.size w W → Calls Tryd.prog 29 #[.slice aw ws.length cw] W fun e w' => e = .returned (.bool (inputOkB ws)) ∧ Below W.heap.size W w') := fun W hW => specInputOk_any ws aw cw W (h2.later hW) hl hz
  have HS : Hid (∀ W, Below w.heap.size w W → Calls Tryd.prog 30 #[.agg #[.slice a1 t.nodes.length c1]] W fun e w' => e = .returned (.bool (shapeB t.nodes)) ∧ Below W.heap.size W w') := fun W hW => specTreeShape_any t a1 c1 W (h1.later hW) hw hft
  have HFT : Hid (resCheck x = 0 → Fits x.parts) := fun h => Fits.of (resCheck_ok h).1
  rw [Lay_tree_wt, Lay.wt_list] at hw
  have hlen : t.nodes.length ≤ 1048576 := by omega
  have hsum : Lay.node.sumL t.nodes ≤ 1048576 := by omega
  unfold resTreeOk
  clear hn hf hft hz
  generalize resCheck x = rc at *
  generalize x.parts = P at *
  generalize t.nodes = ns at *
  obtain ⟨wB, hwB⟩ : ∃ y, y = (w.alloc (.cells #[.slice a0 P.length c0] 28)).alloc (.cells #[.slice a1 ns.length c1] 43) := ⟨_, rfl⟩
  have e1 : (w.alloc (.cells #[.slice a0 P.length c0] 28)).heap.size = w.heap.size + 1 := by simp
  have g0 : wB.cell? ⟨w.heap.size, 0, none⟩ = some (.slice a0 P.length c0) := by
    rw [hwB]
    exact (((Below.refl (w.heap.size + 1) _).alloc (by simp) _).cell (p := ⟨w.heap.size, 0, none⟩) (by simp)).trans (by simp)
  have g1 : wB.cell? ⟨w.heap.size + 1, 0, none⟩ = some (.slice a1 ns.length c1) := by rw [hwB]; exact new_at e1 rfl
  have hsB : w.heap.size + 2 ≤ wB.heap.size := by rw [hwB]; simp
  have B0 : Below w.heap.size w wB := by rw [hwB]; exact ((Below.refl _ _).alloc (Nat.le_refl _) _).alloc (by simp) _
  clear e1
  by_cases hrc : rc = 0
  · have hrb : (rc != 0) = false := by simpa using hrc
    have F := HFT.out hrc
    rw [decide_eq_true hrc, Bool.and_true]
    rw [hrc] at HC
    clear HFT hrc hrb rc
    generalize inputOkB ws = ib at *
    cases ib with
    | false =>
      rw [Bool.false_and, Bool.false_and]
      clear HS h0 h1 h2 F
      go_enter Tryd.func16, Tryd.ntmps16
      go_wp2_with fail
      rw [← hwB]
      clear hwB
      go_wp2_with fail
      refine (HC.out _ B0).mono ?_
      rintro e w3 ⟨rfl, hb3⟩
      have B3 : Below w.heap.size w w3 := B0.trans (hb3.mono B0.size)
      go_wp2_with fail
      refine (HI.out _ B3).mono ?_
      rintro e w4 ⟨rfl, hb4⟩
      go_wp2
      go_ret
      exact ⟨rfl, B3.trans (hb4.mono B3.size)⟩
    | true =>
      cases hsb : shapeB ns with
      | false =>
        rw [Bool.and_false, Bool.false_and]
        rw [hsb] at HS
        clear h0 h1 h2 F
        go_enter Tryd.func16, Tryd.ntmps16
        go_wp2_with fail
        rw [← hwB]
        clear hwB
        go_wp2_with fail
        refine (HC.out _ B0).mono ?_
        rintro e w3 ⟨rfl, hb3⟩
        have B3 : Below w.heap.size w w3 := B0.trans (hb3.mono B0.size)
        have t1 := (hb3.cell (p := ⟨w.heap.size + 1, 0, none⟩) (by show w.heap.size + 1 < _; omega)).trans g1
        have hs3 := hb3.size
        clear g0 g1
        go_wp2_with fail
        refine (HI.out _ B3).mono ?_
        rintro e w4 ⟨rfl, hb4⟩
        have B4 : Below w.heap.size w w4 := B3.trans (hb4.mono B3.size)
        have u1 := (hb4.cell (p := ⟨w.heap.size + 1, 0, none⟩) (by show w.heap.size + 1 < _; omega)).trans t1
        clear t1
        go_wp2_with fail
        refine (HS.out _ B4).mono ?_
        rintro e w5 ⟨rfl, hb5⟩
        go_wp2
        go_ret
        exact ⟨rfl, B4.trans (hb5.mono B4.size)⟩
      | true =>
        have hs := shapeB_true.1 hsb
        have hpos : 0 < ns.length := List.length_pos_iff.2 hs.1
        have hposI : (0 : Int) < (ns.length : Int) := by omega
        rw [hsb] at HS
        rw [Bool.true_and, Bool.true_and]
        have hLL : (leafPos ns 0).length ≤ 2097152 := by have := leafPos_length hs; omega
        have HNO : Hid (∀ (i : Nat) (hi : i < ns.length) W, Below w.heap.size w W → Calls Tryd.prog 31 #[.agg #[.slice a0 P.length c0], .agg #[.slice a1 ns.length c1], .int .i64 (i : Int)] W fun e w' => e = .returned (.bool (okNd P ns ns[i])) ∧ Below W.heap.size W w') := fun i hi W hW => l9Node_any P a0 c0 ns a1 c1 i W (h0.later hW) (h1.later hW) hs hlen hsum hi F
        have HLV : Hid (∀ W, Below w.heap.size w W → Calls Tryd.prog 32 #[.agg #[.slice a1 ns.length c1], .int .i64 0] W fun e w' => ∃ v, e = .returned v ∧ OwnInts w' W.heap.size 3 v (leafPos ns 0) ∧ Below W.heap.size W w') := fun W hW => l9Leaves_at ns hs hlen hsum ns.length 0 hpos (by omega) hLL a1 c1 W (h1.later hW)
        have HLI : Hid (∀ z ∈ leafPos ns 0, ∃ k : Nat, z = k ∧ k < ns.length) := leafPos_in hs ns.length 0 hpos (by omega)
        have HND : Hid (∀ b1 o1, a1 = some ⟨b1, o1, none⟩ → ∀ (k : Nat) (hk : k < ns.length), w.cell? ⟨b1, o1 + k * 5 + 1, none⟩ = some (.int .i64 ns[k].sym) ∧ w.cell? ⟨b1, o1 + k * 5 + 3, none⟩ = some (.int .i64 ns[k].pl)) := fun b1 o1 e0 k hk => by
          obtain ⟨b, off, e, _, ⟨_, y1, _, y3⟩, _⟩ := h1.atNode hk
          rw [e0] at e
          cases e
          exact ⟨y1, y3⟩
        have HRW : Hid (Reads w aw ws) := h2.reads
        have HLR : Hid (leafRight ns ws = (decide ((leafPos ns 0).length = ws.length) && (List.range ws.length).all (fun i => leafOk ns ws i ((leafPos ns 0).getD i 0)))) := rfl
        obtain ⟨b1, o1, rfl, hb1, ⟨p0, p1, _, _⟩, _⟩ := h1.atNode hpos
        simp only [Nat.zero_mul, Nat.add_zero] at p0 p1
        rw [← ndAt_get hpos] at p0 p1
        have HALL : Hid (∀ r, (∀ i (hi : i < ns.length), okNd P ns ns[i] = true) → ns.all (okNd P ns) = r → r = true) := fun r h e => by
          rw [← e, List.all_eq_true]
          intro y hy
          obtain ⟨i, hi, rfl⟩ := List.getElem_of_mem hy
          exact h i hi
        have HNOT : Hid (∀ i (hi : i < ns.length), okNd P ns ns[i] = false → ns.all (okNd P ns) = false) := fun i hi h => by
          rw [List.all_eq_false]
          exact ⟨_, List.getElem_mem hi, by simp [h]⟩
        clear h0 h1 h2 hs hsum F hsb
        generalize ndAt ns 0 = y at *
        obtain ⟨RES, hres⟩ : ∃ RES, ((decide (y.kind = 1) && decide (y.sym = 0)) && ns.all (okNd P ns) && leafRight ns ws) = RES := ⟨_, rfl⟩
        rw [hres]
        have HRES : Hid (((decide (y.kind = 1) && decide (y.sym = 0)) && ns.all (okNd P ns) && leafRight ns ws) = RES) := hres
        clear hres
        go_enter Tryd.func16, Tryd.ntmps16
        go_wp2_with fail
        rw [← hwB]
        clear hwB
        go_wp2_with fail
        refine (HC.out _ B0).mono ?_
        rintro e w3 ⟨rfl, hb3⟩
        have B3 : Below w.heap.size w w3 := B0.trans (hb3.mono B0.size)
        have hs3 := hb3.size
        have t0 := (hb3.cell (p := ⟨w.heap.size, 0, none⟩) (by show w.heap.size < _; omega)).trans g0
        have t1 := (hb3.cell (p := ⟨w.heap.size + 1, 0, none⟩) (by show w.heap.size + 1 < _; omega)).trans g1
        clear g0 g1 hb3 HC
        go_wp2_with fail
        refine (HI.out _ B3).mono ?_
        rintro e w4 ⟨rfl, hb4⟩
        have B4 : Below w.heap.size w w4 := B3.trans (hb4.mono B3.size)
        have hs4 := hb4.size
        have u0 := (hb4.cell (p := ⟨w.heap.size, 0, none⟩) (by show w.heap.size < _; omega)).trans t0
        have u1 := (hb4.cell (p := ⟨w.heap.size + 1, 0, none⟩) (by show w.heap.size + 1 < _; omega)).trans t1
        clear t0 t1 hb4 HI
        go_wp2_with fail
        refine (HS.out _ B4).mono ?_
        rintro e w5 ⟨rfl, hb5⟩
        have B5 : Below w.heap.size w w5 := B4.trans (hb5.mono B4.size)
        have hs5 := hb5.size
        have v0 := (hb5.cell (p := ⟨w.heap.size, 0, none⟩) (by show w.heap.size < _; omega)).trans u0
        have v1 := (hb5.cell (p := ⟨w.heap.size + 1, 0, none⟩) (by show w.heap.size + 1 < _; omega)).trans u1
        have q0 := (B5.cell (p := ⟨b1, _, none⟩) hb1).trans p0
        have q1 := (B5.cell (p := ⟨b1, _, none⟩) hb1).trans p1
        have hzb : b1 < w5.heap.size := by omega
        clear u0 u1 hb5 HS p0 p1
        by_cases hk1 : y.kind = 1
        · have hkb : (y.kind != 1) = false := by simpa using hk1
          by_cases hy0 : y.sym = 0
          · have hyb : (y.sym != 0) = false := by simpa using hy0
            have HR : Hid ((ns.all (okNd P ns) && leafRight ns ws) = RES) := by show _ = _; rw [← HRES.out, decide_eq_true hk1, decide_eq_true hy0, Bool.and_true, Bool.true_and]
            clear HRES
            rw [hk1] at q0
            rw [hy0] at q1
            clear hk1 hy0 hkb hyb
            have HV : Hid (w5.cell? ⟨w.heap.size, 0, none⟩ = some (.slice a0 P.length c0) ∧ w5.cell? ⟨w.heap.size + 1, 0, none⟩ = some (.slice (some ⟨b1, o1, none⟩) ns.length c1)) := ⟨v0, v1⟩
            have HB5 : Hid (Below w.heap.size w w5) := B5
            have hz5 : w.heap.size + 2 ≤ w5.heap.size := by omega
            go_wp2
            go_loopw [7] (fun u7 wr => ∃ i : Nat, i ≤ ns.length ∧ u7 = .int .i64 (i : Int) ∧ Hid (Below w5.heap.size w5 wr) ∧ Hid (∀ j (hj : j < ns.length), j < i → okNd P ns ns[j] = true)) (fun u7 _ => ns.length - (intOf u7).toNat)
            case atStart => exact ⟨0, Nat.zero_le _, rfl, Below.refl _ _, fun j _ h => by omega⟩
            case round =>
              obtain ⟨i, hi, rfl, HBr, HOK⟩ := hrel
              clear v0 v1 q0 q1
              obtain ⟨wA, hwA⟩ : ∃ y, y = wr := ⟨_, rfl⟩
              subst hwA
              have hsA := HBr.out.size
              have v0 := (HBr.out.cell (p := ⟨w.heap.size, 0, none⟩) (by show w.heap.size < _; omega)).trans HV.out.1
              have v1 := (HBr.out.cell (p := ⟨w.heap.size + 1, 0, none⟩) (by show w.heap.size + 1 < _; omega)).trans HV.out.2
              have HBA : Hid (Below w.heap.size w wA) := HB5.out.trans (HBr.out.mono HB5.out.size)
              by_cases hlt : i < ns.length
              · have hltI : (i : Int) < (ns.length : Int) := by omega
                have X := HNO.out i hlt wA HBA.out
                have HN : Hid (okNd P ns ns[i] = false → RES = false) := fun h => by rw [← HR.out, HNOT.out i hlt h, Bool.false_and]
                have HST : Hid (okNd P ns ns[i] = true → ∀ j (hj : j < ns.length), j < i + 1 → okNd P ns ns[j] = true) := fun h j hj hji => by
                  by_cases e : j = i
                  · subst e; exact h
                  · exact HOK.out j hj (by omega)
                clear HNO HLV HLI HND HALL HNOT HR HOK
                generalize okNd P ns ns[i] = r at *
                cases r with
                | true =>
                  have HS2 := HST.out rfl
                  have HS3 : Hid (∀ j (hj : j < ns.length), j < i + 1 → okNd P ns ns[j] = true) := HS2
                  clear HST HN HS2
                  go_wp2_with fail
                  refine X.mono ?_
                  rintro e w6 ⟨rfl, hb6⟩
                  have HB6 : Hid (Below w5.heap.size w5 w6) := HBr.out.trans (hb6.mono HBr.out.size)
                  clear hb6
                  go_wp2
                  go_roundw
                  case rel => exact ⟨i + 1, by omega, by go_num, HB6, HS3⟩
                  case measure => simp [intOf]; omega
                | false =>
                  have HF : Hid (RES = false) := HN.out rfl
                  clear HST HN
                  go_wp2_with fail
                  refine X.mono ?_
                  rintro e w6 ⟨rfl, hb6⟩
                  go_wp2
                  go_ret
                  rw [HF.out]
                  exact ⟨rfl, HBA.out.trans (hb6.mono HBA.out.size)⟩
              · have hltI : ¬ (i : Int) < (ns.length : Int) := by omega
                have HT : Hid (ns.all (okNd P ns) = true) := HALL.out _ (fun j hj => HOK.out j hj (by omega)) rfl
                have HR2 : Hid (leafRight ns ws = RES) := by show _ = _; rw [← HR.out, HT.out, Bool.true_and]
                have X := HLV.out wA HBA.out
                clear HNO HLV HALL HNOT HR HOK HT
                go_wp2_with fail
                refine X.mono ?_
                rintro e w6 ⟨v6, rfl, hO6, hb6⟩
                obtain ⟨aL, cL, rfl, hrL, _⟩ := hO6.shape
                have HRL : Hid (Reads w6 aL (leafPos ns 0)) := hrL
                have HB6 : Hid (Below w.heap.size w w6) := HBA.out.trans (hb6.mono HBA.out.size)
                have hs6 := hb6.size
                have HV6 : Hid (w6.cell? ⟨w.heap.size + 1, 0, none⟩ = some (.slice (some ⟨b1, o1, none⟩) ns.length c1)) := (hb6.cell (p := ⟨w.heap.size + 1, 0, none⟩) (by show w.heap.size + 1 < _; omega)).trans v1
                clear hO6 hrL hb6 v0 v1 HV
                have HR3 := HLR.out
                rw [HR2.out] at HR3
                have HR4 : Hid (RES = (decide ((leafPos ns 0).length = ws.length) && (List.range ws.length).all (fun i => leafOk ns ws i ((leafPos ns 0).getD i 0)))) := HR3
                clear HR3 HR2 HLR
                generalize leafPos ns 0 = L at *
                by_cases hLw : L.length = ws.length
                · have hLwb : ((L.length : Int) != (ws.length : Int)) = false := by simp; omega
                  have HLW : Hid (L.length = ws.length) := hLw
                  have HYES : Hid ((∀ j, j < L.length → leafOk ns ws j (L.getD j 0) = true) → RES = true) := fun h => by
                    rw [HR4.out, decide_eq_true hLw, Bool.true_and, List.all_eq_true]
                    intro j hj
                    exact h j (by have := List.mem_range.1 hj; omega)
                  have HNOX : Hid (∀ j, j < L.length → leafOk ns ws j (L.getD j 0) = false → RES = false) := fun j hj h => by
                    rw [HR4.out, decide_eq_true hLw, Bool.true_and, List.all_eq_false]
                    exact ⟨j, List.mem_range.2 (by omega), by rw [h]; simp⟩
                  have hls : L.length ≤ 1048576 := by omega
                  clear hLw HR4
                  go_wp2
                  go_loopw [9] (fun u9 wq => ∃ j : Nat, j ≤ L.length ∧ u9 = .int .i64 (j : Int) ∧ Hid (Below w6.heap.size w6 wq) ∧ Hid (∀ i, i < j → leafOk ns ws i (L.getD i 0) = true)) (fun u9 _ => L.length - (intOf u9).toNat)
                  case atStart => exact ⟨0, Nat.zero_le _, rfl, Below.refl _ _, fun i h => by omega⟩
                  case round =>
                    obtain ⟨j, hj, rfl, HBq, HJ⟩ := hrel
                    clear hLwb
                    obtain ⟨wQ, hwQ⟩ : ∃ y, y = wr := ⟨_, rfl⟩
                    subst hwQ
                    have hsQ := HBq.out.size
                    have HBQ : Hid (Below w.heap.size w wQ) := HB6.out.trans (HBq.out.mono HB6.out.size)
                    by_cases hltj : j < L.length
                    · have hltjI : (j : Int) < (L.length : Int) := by omega
                      have hltw : j < ws.length := by have := HLW.out; omega
                      have hltwI : (j : Int) < (ws.length : Int) := by omega
                      have v1 := (HBq.out.cell (p := ⟨w.heap.size + 1, 0, none⟩) (by show w.heap.size + 1 < _; omega)).trans HV6.out
                      obtain ⟨bL, oL, rfl, hbL, hcL⟩ := HRL.out.at hltj
                      obtain ⟨bw, ow, rfl, hbw, hcw⟩ := HRW.out.at hltw
                      have s1 := (HBq.out.cell (p := ⟨bL, oL + j, none⟩) hbL).trans (hcL j hltj)
                      have s2 := (HBQ.out.cell (p := ⟨bw, ow + j, none⟩) hbw).trans (hcw j hltw)
                      have hgd : L.getD j 0 = L[j] := by simp [List.getD, hltj]
                      obtain ⟨kd, hkd, hkdl⟩ := HLI.out L[j] (List.getElem_mem hltj)
                      obtain ⟨y1, y3⟩ := HND.out b1 o1 rfl kd hkdl
                      have s3 := (HBQ.out.cell (p := ⟨b1, o1 + kd * 5 + 1, none⟩) hb1).trans y1
                      have s4 := (HBQ.out.cell (p := ⟨b1, o1 + kd * 5 + 3, none⟩) hb1).trans y3
                      rw [hgd, hkd] at s1
                      have HNX := HNOX.out j hltj
                      have HLK : leafOk ns ws j (L.getD j 0) = (decide (ns[kd].pl = (j : Int)) && decide (ns[kd].sym = ws.getD j 0)) := by
                        rw [hgd, hkd]
                        simp only [leafOk, Int.toNat_natCast, ndAt_get hkdl]
                      rw [HLK] at HNX
                      have HNX2 : Hid ((decide (ns[kd].pl = (j : Int)) && decide (ns[kd].sym = ws.getD j 0)) = false → RES = false) := HNX
                      have HSX : Hid ((decide (ns[kd].pl = (j : Int)) && decide (ns[kd].sym = ws.getD j 0)) = true → ∀ i, i < j + 1 → leafOk ns ws i (L.getD i 0) = true) := fun h i hi => by
                        by_cases e : i = j
                        · subst e; rw [HLK]; exact h
                        · exact HJ.out i (by omega)
                      have hkdI : (kd : Int) < (ns.length : Int) := by omega
                      have hb1Q : b1 < wQ.heap.size := by omega
                      have hbLQ : bL < wQ.heap.size := by omega
                      have hbwQ : bw < wQ.heap.size := by omega
                      have HBN : Hid (∀ nq, Below w6.heap.size w6 (wQ.drewN nq)) := fun nq => HBq.out.trans ((below_drew nq).mono hsQ)
                      have HBN2 : Hid (∀ nq, Below w.heap.size w (wQ.drewN nq)) := fun nq => HBQ.out.trans ((below_drew nq).mono HBQ.out.size)
                      clear hcL hcw hgd hkd y1 y3 HNX HLK HNOX HLI HND HRL HRW HJ HYES HBq
                      generalize ws.getD j 0 = wj at *
                      generalize ns[kd].pl = pl at *
                      generalize ns[kd].sym = sy at *
                      by_cases hp : pl = (j : Int)
                      · subst hp
                        by_cases hsy : sy = wj
                        · have hsb2 : (sy != wj) = false := by simpa using hsy
                          have HS4 : Hid (∀ i, i < j + 1 → leafOk ns ws i (L.getD i 0) = true) := HSX.out (by simp [hsy])
                          clear HSX HNX2 hsy
                          go_wp2_with fail
                          go_quiet (fail)
                          go_wp2
                          go_roundw
                          case rel => exact ⟨j + 1, by omega, by go_num, HBN.out _, HS4⟩
                          case measure => simp [intOf]; omega
                        · have hsb2 : (sy != wj) = true := by simpa using hsy
                          have HF : Hid (RES = false) := HNX2.out (by simp [hsy])
                          clear HSX HNX2 hsy
                          go_wp2_with fail
                          go_quiet (fail)
                          go_wp2
                          go_ret
                          rw [HF.out]
                          exact ⟨rfl, HBN2.out _⟩
                      · have hpb : (pl != (j : Int)) = true := by simpa using hp
                        have HF : Hid (RES = false) := HNX2.out (by simp [hp])
                        clear HSX HNX2 hp
                        go_wp2_with fail
                        go_quiet (fail)
                        go_wp2
                        go_ret
                        rw [HF.out]
                        exact ⟨rfl, HBN2.out _⟩
                    · have hltjI : ¬ (j : Int) < (L.length : Int) := by omega
                      have HT : Hid (RES = true) := HYES.out (fun i hi => HJ.out i (by omega))
                      clear HYES HNOX HLI HND HRL HRW HJ
                      go_wp2
                      go_ret
                      rw [HT.out]
                      exact ⟨rfl, HBQ.out⟩
                · have hLwb : ((L.length : Int) != (ws.length : Int)) = true := by simp; omega
                  have HF : Hid (RES = false) := by show _ = _; rw [HR4.out, decide_eq_false hLw, Bool.false_and]
                  clear HR4 hLw
                  go_wp2
                  go_ret
                  rw [HF.out]
                  exact ⟨rfl, HB6.out⟩
          · have hyb : (y.sym != 0) = true := by simpa using hy0
            have HR : Hid (RES = false) := by show _ = _; rw [← HRES.out, decide_eq_false hy0]; simp
            rw [hk1] at q0
            clear hk1 hy0 hkb HRES
            go_wp2
            go_ret
            rw [HR.out]
            exact ⟨rfl, B5⟩
        · have hkb : (y.kind != 1) = true := by simpa using hk1
          have HR : Hid (RES = false) := by show _ = _; rw [← HRES.out, decide_eq_false hk1]; simp
          clear hk1 HRES
          go_wp2
          go_ret
          rw [HR.out]
          exact ⟨rfl, B5⟩
  · have hrb : (rc != 0) = true := by simpa using hrc
    rw [decide_eq_false hrc, Bool.and_false, Bool.false_and, Bool.false_and]
    clear HS h0 h1 h2 HFT HI hrc
    go_enter Tryd.func16, Tryd.ntmps16
    go_wp2_with fail
    rw [← hwB]
    clear hwB
    go_wp2_with fail
    refine (HC.out _ B0).mono ?_
    rintro e w3 ⟨rfl, hb3⟩
    go_wp2
    go_ret
    exact ⟨rfl, B0.trans (hb3.mono B0.size)⟩
end Go.Proofs.YthnppodnjokaoaaDoor
namespace Go.Proofs.YthnppodnjokaoaaDoor
open Go.RowKit

set_option maxHeartbeats 4000000 in
set_option maxRecDepth 100000 in
theorem fnExactTreeOk_law (x0 : Gm) (a0_0 : Option Addr) (c0_0 : Nat) (x1 : Tr) (a1_0 : Option Addr) (c1_0 : Nat) (x2 : (List Int)) (a2_0 : Option Addr) (c2_0 : Nat) (w : World) (h0_0 : RD w (.slice a0_0 x0.parts.length c0_0) (slD (Lay.list (Lay.list Lay.int)) x0.parts)) (h1_0 : RD w (.slice a1_0 x1.nodes.length c1_0) (slD Lay.node x1.nodes)) (h2_0 : RD w (.slice a2_0 x2.length c2_0) (slD Lay.int x2)) (hf0 : Lay.gram.fit x0) (hf1 : Lay.tree.fit x1) (hf2 : (Lay.list Lay.int).fit x2) (hT : ErrsIs w) :
    Calls Tryd.prog 4 #[.agg #[.slice a0_0 x0.parts.length c0_0], .agg #[.slice a1_0 x1.nodes.length c1_0], .slice a2_0 x2.length c2_0] w fun e w' => e = .returned (.bool true) ∧ Below w.heap.size w w' := by
  have HH0 : Hid (Holds w w [] []) := Holds.start w
  have HT : Hid (ErrsIs w) := hT
  clear hT
  have H0_0 : Hid (RD w (.slice a0_0 x0.parts.length c0_0) (slD (Lay.list (Lay.list Lay.int)) x0.parts)) := h0_0
  clear h0_0
  have HF0 : Hid (Lay.gram.fit x0) := hf0
  have H1_0 : Hid (RD w (.slice a1_0 x1.nodes.length c1_0) (slD Lay.node x1.nodes)) := h1_0
  clear h1_0
  have HF1 : Hid (Lay.tree.fit x1) := hf1
  have H2_0 : Hid (RD w (.slice a2_0 x2.length c2_0) (slD Lay.int x2)) := h2_0
  clear h2_0
  have HF2 : Hid ((Lay.list Lay.int).fit x2) := hf2
  have HH1 : Hid (Holds w (w.alloc (.cells #[.slice a0_0 x0.parts.length c0_0] 24)) [(w.heap.size, [.slice a0_0 x0.parts.length c0_0])] []) := by show Holds _ _ _ _; simpa using HH0.out.box [.slice a0_0 x0.parts.length c0_0] 24
  clear HH0
  have HH2 : Hid (Holds w ((w.alloc (.cells #[.slice a0_0 x0.parts.length c0_0] 24)).alloc (.cells #[.slice a1_0 x1.nodes.length c1_0] 38)) [((w.heap.size + 1), [.slice a1_0 x1.nodes.length c1_0]), (w.heap.size, [.slice a0_0 x0.parts.length c0_0])] []) := by show Holds _ _ _ _; simpa using HH1.out.box [.slice a1_0 x1.nodes.length c1_0] 38
  clear HH1
  clear hf0
  clear hf1
  have hm2 := hf2.1
  unfold maxLen at hm2
  clear hf2
  by_cases hl2 : 1048576 < x2.length
  · go_enter Tryd.func4, Tryd.ntmps4
    go_wp2
    go_ret
    exact ⟨rfl, HH2.out.below⟩
  have HW2 : Hid ((Lay.list Lay.int).wt x2 ≤ 1048576) := by show _ ≤ _; rw [Lay.wt_ints]; omega
  go_enter Tryd.func4, Tryd.ntmps4
  have q0_0 : ((w.alloc (.cells #[.slice a0_0 x0.parts.length c0_0] 24)).alloc (.cells #[.slice a1_0 x1.nodes.length c1_0] 38)).cell? ⟨(w.heap.size + 1), 0, none⟩ = some (.slice a1_0 x1.nodes.length c1_0) := HH2.out.cell ((w.heap.size + 1), [.slice a1_0 x1.nodes.length c1_0]) List.mem_cons_self 0 (by simp)
  have q1_0 : ((w.alloc (.cells #[.slice a0_0 x0.parts.length c0_0] 24)).alloc (.cells #[.slice a1_0 x1.nodes.length c1_0] 38)).cell? ⟨w.heap.size, 0, none⟩ = some (.slice a0_0 x0.parts.length c0_0) := HH2.out.cell (w.heap.size, [.slice a0_0 x0.parts.length c0_0]) (List.mem_cons_of_mem _ List.mem_cons_self) 0 (by simp)
  go_wp2_with fail
  refine (szGram_l x0 a0_0 c0_0 _ _ (H0_0.out.later HH2.out.below) HF0.out (by omega) (by omega)).mono ?_
  rintro e w4 ⟨r0, rfl, hr0, B3⟩
  clear q0_0 q1_0
  have HH5 : Hid (Holds w w4 [((w.heap.size + 1), [.slice a1_0 x1.nodes.length c1_0]), (w.heap.size, [.slice a0_0 x0.parts.length c0_0])] []) := HH2.out.later B3
  clear HH2
  clear B3
  rcases hr0 with rfl | ⟨hr0a, hr0b⟩
  · go_wp2
    go_ret
    exact ⟨rfl, HH5.out.below⟩
  have hr0c : r0 ≤ 1048576 := by omega
  have HS0 : Hid ((r0 : Int) = 1048576 - ((Lay.gram.wt x0 : Nat) : Int)) := by show _ = _; omega
  have HW0 : Hid (Lay.gram.wt x0 ≤ 1048576) := by show _ ≤ _; have := HS0.out; omega
  clear hr0b
  have q0_0 : w4.cell? ⟨(w.heap.size + 1), 0, none⟩ = some (.slice a1_0 x1.nodes.length c1_0) := HH5.out.cell ((w.heap.size + 1), [.slice a1_0 x1.nodes.length c1_0]) List.mem_cons_self 0 (by simp)
  have q1_0 : w4.cell? ⟨w.heap.size, 0, none⟩ = some (.slice a0_0 x0.parts.length c0_0) := HH5.out.cell (w.heap.size, [.slice a0_0 x0.parts.length c0_0]) (List.mem_cons_of_mem _ List.mem_cons_self) 0 (by simp)
  go_wp2_with fail
  refine (szTree_l x1 a1_0 c1_0 _ _ (H1_0.out.later HH5.out.below) HF1.out hr0a hr0c).mono ?_
  rintro e w7 ⟨r1, rfl, hr1, B6⟩
  clear q0_0 q1_0
  have HH8 : Hid (Holds w w7 [((w.heap.size + 1), [.slice a1_0 x1.nodes.length c1_0]), (w.heap.size, [.slice a0_0 x0.parts.length c0_0])] []) := HH5.out.later B6
  clear HH5
  clear B6
  rcases hr1 with rfl | ⟨hr1a, hr1b⟩
  · go_wp2
    go_ret
    exact ⟨rfl, HH8.out.below⟩
  have hr1c : r1 ≤ 1048576 := by omega
  have HS1 : Hid ((r1 : Int) = 1048576 - ((Lay.gram.wt x0 + Lay.tree.wt x1 : Nat) : Int)) := by show _ = _; have := HS0.out; omega
  have HW1 : Hid (Lay.tree.wt x1 ≤ 1048576) := by show _ ≤ _; have := HS1.out; omega
  clear hr1b
  have HWT : Hid (Lay.gram.wt x0 + Lay.tree.wt x1 ≤ 1048576) := by show _ ≤ _; have := HS1.out; omega
  clear HS0 HS1
  have q0_0 : w7.cell? ⟨(w.heap.size + 1), 0, none⟩ = some (.slice a1_0 x1.nodes.length c1_0) := HH8.out.cell ((w.heap.size + 1), [.slice a1_0 x1.nodes.length c1_0]) List.mem_cons_self 0 (by simp)
  have q1_0 : w7.cell? ⟨w.heap.size, 0, none⟩ = some (.slice a0_0 x0.parts.length c0_0) := HH8.out.cell (w.heap.size, [.slice a0_0 x0.parts.length c0_0]) (List.mem_cons_of_mem _ List.mem_cons_self) 0 (by simp)
  go_wp2_with fail
  refine wp_region_held_drew (S := fun w' => Keeps w' [((w.heap.size + 1), [.slice a1_0 x1.nodes.length c1_0]), (w.heap.size, [.slice a0_0 x0.parts.length c0_0])]) (by kernel_rfl) HH8.out.boxes.drew (fun hHeld => ?_)
  refine take_atL (i := 0) (d := some 26) (v := .agg #[.slice a0_0 x0.parts.length c0_0]) rfl rfl (by kernel_rfl) (by kernel_rfl) (by kernel_rfl) (fun _ _ _ h => h) (by rfl) ?_ hHeld ?_
  · intro w' hSw
    have p0 : w'.cell? ⟨w.heap.size, 0, none⟩ = some (.slice a0_0 x0.parts.length c0_0) := hSw (w.heap.size, [.slice a0_0 x0.parts.length c0_0]) (List.mem_cons_of_mem _ List.mem_cons_self) 0 (by simp)
    go_simp; try rfl
  try simp only [Act.put, List.setIfInBounds_toArray, List.set_cons_zero, List.set_cons_succ]
  refine take_atL (i := 2) (d := some 28) (v := .agg #[.slice a1_0 x1.nodes.length c1_0]) rfl rfl (by kernel_rfl) (by kernel_rfl) (by kernel_rfl) (fun _ _ _ h => h) (by rfl) ?_ hHeld ?_
  · intro w' hSw
    have p0 : w'.cell? ⟨(w.heap.size + 1), 0, none⟩ = some (.slice a1_0 x1.nodes.length c1_0) := hSw ((w.heap.size + 1), [.slice a1_0 x1.nodes.length c1_0]) List.mem_cons_self 0 (by simp)
    go_simp; try rfl
  try simp only [Act.put, List.setIfInBounds_toArray, List.set_cons_zero, List.set_cons_succ]
  refine take_atL (i := 4) (d := some 30) (v := .slice a2_0 x2.length c2_0) rfl rfl (by kernel_rfl) (by kernel_rfl) (by kernel_rfl) (fun _ _ _ h => h) (by rfl) ?_ hHeld ?_
  · intro w' hSw; go_simp; try rfl
  try simp only [Act.put, List.setIfInBounds_toArray, List.set_cons_zero, List.set_cons_succ]
  clear q0_0 q1_0
  refine wpAnyH_ready (rs := [1]) (by kernel_rfl) (by simp) ?_
  refine AllReadyH.cons (o := _) rfl (fun K hK => ?_) AllReadyH.nil
  rw [if_pos (by rfl)]
  go_simp
  refine (toGram_l x0 a0_0 c0_0 _ (H0_0.out.later (Below.drew HH8.out.below)) (by have := HW0.out; omega)).mono ?_
  rintro e w11 ⟨a0s_0, c0s_0, S0s, rfl, O10, B9d⟩
  have B9 : Below (w7).heap.size w7 w11 := Below.drewed (by simpa using B9d)
  clear B9d
  clear hHeld
  have HH12 : Hid (Holds w w11 [((w.heap.size + 1), [.slice a1_0 x1.nodes.length c1_0]), (w.heap.size, [.slice a0_0 x0.parts.length c0_0])] [([.slice a0s_0 x0.parts.length c0s_0], Lay.gram.cells x0)]) := HH8.out.push B9 O10
  clear HH8
  clear B9 O10
  go_wp2_with fail
  refine hK.out _ _ HH12.out.boxes (fun hHeld => ?_)
  clear hK K
  try simp only [Act.put, List.setIfInBounds_toArray, List.set_cons_zero, List.set_cons_succ]
  refine wpAnyH_ready (rs := [3]) (by kernel_rfl) (by simp) ?_
  refine AllReadyH.cons (o := _) rfl (fun K hK => ?_) AllReadyH.nil
  rw [if_pos (by rfl)]
  go_simp
  refine (toTree_l x1 a1_0 c1_0 _ (H1_0.out.later HH12.out.below) (by have := HW1.out; omega)).mono ?_
  rintro e w15 ⟨a1s_0, c1s_0, S1s, rfl, O14, B13⟩
  clear hHeld
  have HH16 : Hid (Holds w w15 [((w.heap.size + 1), [.slice a1_0 x1.nodes.length c1_0]), (w.heap.size, [.slice a0_0 x0.parts.length c0_0])] [([.slice a1s_0 x1.nodes.length c1s_0], Lay.tree.cells x1), ([.slice a0s_0 x0.parts.length c0s_0], Lay.gram.cells x0)]) := HH12.out.push B13 O14
  clear HH12
  clear B13 O14
  go_wp2_with fail
  refine hK.out _ _ HH16.out.boxes (fun hHeld => ?_)
  clear hK K
  try simp only [Act.put, List.setIfInBounds_toArray, List.set_cons_zero, List.set_cons_succ]
  refine wpAnyH_ready (rs := [5]) (by kernel_rfl) (by simp) ?_
  refine AllReadyH.cons (o := _) rfl (fun K hK => ?_) AllReadyH.nil
  rw [if_pos (by rfl)]
  go_simp
  refine (toIntS_l x2 a2_0 c2_0 _ (H2_0.out.later HH16.out.below) (by have := HW2.out; omega)).mono ?_
  rintro e w19 ⟨v2s, S2s, rfl, O18o, B17⟩
  obtain ⟨a2s_0, c2s_0, rfl, _⟩ := OD.shapeL O18o
  have O18 := Cells.one O18o
  clear O18o
  clear hHeld
  have HH20 : Hid (Holds w w19 [((w.heap.size + 1), [.slice a1_0 x1.nodes.length c1_0]), (w.heap.size, [.slice a0_0 x0.parts.length c0_0])] [([.slice a2s_0 x2.length c2s_0], [slD Lay.int x2]), ([.slice a1s_0 x1.nodes.length c1s_0], Lay.tree.cells x1), ([.slice a0s_0 x0.parts.length c0s_0], Lay.gram.cells x0)]) := HH16.out.push B17 O18
  clear HH16
  clear B17 O18
  go_wp2_with fail
  refine hK.out _ _ HH20.out.boxes (fun hHeld => ?_)
  clear hK K
  try simp only [Act.put, List.setIfInBounds_toArray, List.set_cons_zero, List.set_cons_succ]
  refine wpAnyH_ready (rs := [6]) (by kernel_rfl) (by simp) ?_
  refine AllReadyH.cons (o := _) rfl (fun K hK => ?_) AllReadyH.nil
  rw [if_pos (by rfl)]
  go_simp
  have R21 : Hid (RD w19 (.slice a0s_0 x0.parts.length c0s_0) (slD (Lay.list (Lay.list Lay.int)) x0.parts)) := HH20.out.rd ([.slice a0s_0 x0.parts.length c0s_0], Lay.gram.cells x0) (List.mem_cons_of_mem _ (List.mem_cons_of_mem _ List.mem_cons_self)) 0 (by simp) (by simp [Lay.gram])
  have R22 : Hid (RD w19 (.slice a1s_0 x1.nodes.length c1s_0) (slD Lay.node x1.nodes)) := HH20.out.rd ([.slice a1s_0 x1.nodes.length c1s_0], Lay.tree.cells x1) (List.mem_cons_of_mem _ List.mem_cons_self) 0 (by simp) (by simp [Lay.tree])
  have R23 : Hid (RD w19 (.slice a2s_0 x2.length c2s_0) (slD Lay.int x2)) := HH20.out.rd ([.slice a2s_0 x2.length c2s_0], [slD Lay.int x2]) List.mem_cons_self 0 (by simp) (by simp)
  refine (specTreeOk_any x0 a0s_0 c0s_0 x1 a1s_0 c1s_0 x2 a2s_0 c2s_0 _ R21.out R22.out R23.out (by have := HW0.out; omega) HF0.out (by have := HW1.out; omega) HF1.out (by omega) HF2.out).mono ?_
  rintro e w25 ⟨rfl, B24⟩
  clear hHeld R21 R22 R23
  have HH26 : Hid (Holds w w25 [((w.heap.size + 1), [.slice a1_0 x1.nodes.length c1_0]), (w.heap.size, [.slice a0_0 x0.parts.length c0_0])] [([.slice a2s_0 x2.length c2s_0], [slD Lay.int x2]), ([.slice a1s_0 x1.nodes.length c1s_0], Lay.tree.cells x1), ([.slice a0s_0 x0.parts.length c0s_0], Lay.gram.cells x0)]) := HH20.out.later B24
  clear HH20
  clear B24
  go_wp2_with fail
  refine hK.out _ _ HH26.out.boxes (fun hHeld => ?_)
  clear hK K
  try simp only [Act.put, List.setIfInBounds_toArray, List.set_cons_zero, List.set_cons_succ]
  refine take_atL (i := 7) (d := some 8) (v := .bool (resTreeOk x0 x1 x2)) rfl rfl (by kernel_rfl) (by kernel_rfl) (by kernel_rfl) (fun _ _ _ h => h) (by rfl) ?_ hHeld ?_
  · intro w' hSw; go_simp; try rfl
  try simp only [Act.put, List.setIfInBounds_toArray, List.set_cons_zero, List.set_cons_succ]
  refine wpAnyH_done (by kernel_rfl) ?_ _
  clear hHeld
  have HH27 : Hid (Holds w w25 [((w.heap.size + 1), [.slice a1_0 x1.nodes.length c1_0]), (w.heap.size, [.slice a0_0 x0.parts.length c0_0])] [([.slice a2s_0 x2.length c2s_0], [slD Lay.int x2]), ([.slice a1s_0 x1.nodes.length c1s_0], Lay.tree.cells x1)]) := Holds.drop (P := [([.slice a2s_0 x2.length c2s_0], [slD Lay.int x2]), ([.slice a1s_0 x1.nodes.length c1s_0], Lay.tree.cells x1)]) (x := ([.slice a0s_0 x0.parts.length c0s_0], Lay.gram.cells x0)) (Q := []) HH26.out
  clear HH26
  have HH28 : Hid (Holds w w25 [((w.heap.size + 1), [.slice a1_0 x1.nodes.length c1_0]), (w.heap.size, [.slice a0_0 x0.parts.length c0_0])] [([.slice a2s_0 x2.length c2s_0], [slD Lay.int x2])]) := Holds.drop (P := [([.slice a2s_0 x2.length c2s_0], [slD Lay.int x2])]) (x := ([.slice a1s_0 x1.nodes.length c1s_0], Lay.tree.cells x1)) (Q := []) HH27.out
  clear HH27
  have HH29 : Hid (Holds w w25 [((w.heap.size + 1), [.slice a1_0 x1.nodes.length c1_0]), (w.heap.size, [.slice a0_0 x0.parts.length c0_0])] []) := Holds.drop (P := []) (x := ([.slice a2s_0 x2.length c2s_0], [slD Lay.int x2])) (Q := []) HH28.out
  clear HH28
  have q0_0 : w25.cell? ⟨(w.heap.size + 1), 0, none⟩ = some (.slice a1_0 x1.nodes.length c1_0) := HH29.out.cell ((w.heap.size + 1), [.slice a1_0 x1.nodes.length c1_0]) List.mem_cons_self 0 (by simp)
  have q1_0 : w25.cell? ⟨w.heap.size, 0, none⟩ = some (.slice a0_0 x0.parts.length c0_0) := HH29.out.cell (w.heap.size, [.slice a0_0 x0.parts.length c0_0]) (List.mem_cons_of_mem _ List.mem_cons_self) 0 (by simp)
  go_wp2_with fail
  refine (toGram_l x0 a0_0 c0_0 _ (H0_0.out.later HH29.out.below) (by have := HW0.out; omega)).mono ?_
  rintro e w32 ⟨a0m_0, c0m_0, S0m, rfl, O31, B30⟩
  clear q0_0 q1_0
  have HH33 : Hid (Holds w w32 [((w.heap.size + 1), [.slice a1_0 x1.nodes.length c1_0]), (w.heap.size, [.slice a0_0 x0.parts.length c0_0])] [([.slice a0m_0 x0.parts.length c0m_0], Lay.gram.cells x0)]) := HH29.out.push B30 O31
  clear HH29
  clear B30 O31
  have HH34 : Hid (Holds w (w32.alloc (.cells #[.slice a0m_0 x0.parts.length c0m_0] 28)) [(w32.heap.size, [.slice a0m_0 x0.parts.length c0m_0]), ((w.heap.size + 1), [.slice a1_0 x1.nodes.length c1_0]), (w.heap.size, [.slice a0_0 x0.parts.length c0_0])] [([.slice a0m_0 x0.parts.length c0m_0], Lay.gram.cells x0)]) := by show Holds _ _ _ _; simpa using HH33.out.box [.slice a0m_0 x0.parts.length c0m_0] 28
  clear HH33
  have q0_0 : (w32.alloc (.cells #[.slice a0m_0 x0.parts.length c0m_0] 28)).cell? ⟨w32.heap.size, 0, none⟩ = some (.slice a0m_0 x0.parts.length c0m_0) := HH34.out.cell (w32.heap.size, [.slice a0m_0 x0.parts.length c0m_0]) List.mem_cons_self 0 (by simp)
  have q1_0 : (w32.alloc (.cells #[.slice a0m_0 x0.parts.length c0m_0] 28)).cell? ⟨(w.heap.size + 1), 0, none⟩ = some (.slice a1_0 x1.nodes.length c1_0) := HH34.out.cell ((w.heap.size + 1), [.slice a1_0 x1.nodes.length c1_0]) (List.mem_cons_of_mem _ List.mem_cons_self) 0 (by simp)
  have q2_0 : (w32.alloc (.cells #[.slice a0m_0 x0.parts.length c0m_0] 28)).cell? ⟨w.heap.size, 0, none⟩ = some (.slice a0_0 x0.parts.length c0_0) := HH34.out.cell (w.heap.size, [.slice a0_0 x0.parts.length c0_0]) (List.mem_cons_of_mem _ (List.mem_cons_of_mem _ List.mem_cons_self)) 0 (by simp)
  go_wp2_with fail
  refine (toTree_l x1 a1_0 c1_0 _ (H1_0.out.later HH34.out.below) (by have := HW1.out; omega)).mono ?_
  rintro e w37 ⟨a1m_0, c1m_0, S1m, rfl, O36, B35⟩
  clear q0_0 q1_0 q2_0
  have HH38 : Hid (Holds w w37 [(w32.heap.size, [.slice a0m_0 x0.parts.length c0m_0]), ((w.heap.size + 1), [.slice a1_0 x1.nodes.length c1_0]), (w.heap.size, [.slice a0_0 x0.parts.length c0_0])] [([.slice a1m_0 x1.nodes.length c1m_0], Lay.tree.cells x1), ([.slice a0m_0 x0.parts.length c0m_0], Lay.gram.cells x0)]) := HH34.out.push B35 O36
  clear HH34
  clear B35 O36
  have HH39 : Hid (Holds w (w37.alloc (.cells #[.slice a1m_0 x1.nodes.length c1m_0] 43)) [(w37.heap.size, [.slice a1m_0 x1.nodes.length c1m_0]), (w32.heap.size, [.slice a0m_0 x0.parts.length c0m_0]), ((w.heap.size + 1), [.slice a1_0 x1.nodes.length c1_0]), (w.heap.size, [.slice a0_0 x0.parts.length c0_0])] [([.slice a1m_0 x1.nodes.length c1m_0], Lay.tree.cells x1), ([.slice a0m_0 x0.parts.length c0m_0], Lay.gram.cells x0)]) := by show Holds _ _ _ _; simpa using HH38.out.box [.slice a1m_0 x1.nodes.length c1m_0] 43
  clear HH38
  have q0_0 : (w37.alloc (.cells #[.slice a1m_0 x1.nodes.length c1m_0] 43)).cell? ⟨w37.heap.size, 0, none⟩ = some (.slice a1m_0 x1.nodes.length c1m_0) := HH39.out.cell (w37.heap.size, [.slice a1m_0 x1.nodes.length c1m_0]) List.mem_cons_self 0 (by simp)
  have q1_0 : (w37.alloc (.cells #[.slice a1m_0 x1.nodes.length c1m_0] 43)).cell? ⟨w32.heap.size, 0, none⟩ = some (.slice a0m_0 x0.parts.length c0m_0) := HH39.out.cell (w32.heap.size, [.slice a0m_0 x0.parts.length c0m_0]) (List.mem_cons_of_mem _ List.mem_cons_self) 0 (by simp)
  have q2_0 : (w37.alloc (.cells #[.slice a1m_0 x1.nodes.length c1m_0] 43)).cell? ⟨(w.heap.size + 1), 0, none⟩ = some (.slice a1_0 x1.nodes.length c1_0) := HH39.out.cell ((w.heap.size + 1), [.slice a1_0 x1.nodes.length c1_0]) (List.mem_cons_of_mem _ (List.mem_cons_of_mem _ List.mem_cons_self)) 0 (by simp)
  have q3_0 : (w37.alloc (.cells #[.slice a1m_0 x1.nodes.length c1m_0] 43)).cell? ⟨w.heap.size, 0, none⟩ = some (.slice a0_0 x0.parts.length c0_0) := HH39.out.cell (w.heap.size, [.slice a0_0 x0.parts.length c0_0]) (List.mem_cons_of_mem _ (List.mem_cons_of_mem _ (List.mem_cons_of_mem _ List.mem_cons_self))) 0 (by simp)
  go_wp2_with fail
  refine (toIntS_l x2 a2_0 c2_0 _ (H2_0.out.later HH39.out.below) (by have := HW2.out; omega)).mono ?_
  rintro e w42 ⟨v2m, S2m, rfl, O41o, B40⟩
  clear q0_0 q1_0 q2_0 q3_0
  obtain ⟨a2m_0, c2m_0, rfl, _⟩ := OD.shapeL O41o
  have O41 := Cells.one O41o
  clear O41o
  have HH43 : Hid (Holds w w42 [(w37.heap.size, [.slice a1m_0 x1.nodes.length c1m_0]), (w32.heap.size, [.slice a0m_0 x0.parts.length c0m_0]), ((w.heap.size + 1), [.slice a1_0 x1.nodes.length c1_0]), (w.heap.size, [.slice a0_0 x0.parts.length c0_0])] [([.slice a2m_0 x2.length c2m_0], [slD Lay.int x2]), ([.slice a1m_0 x1.nodes.length c1m_0], Lay.tree.cells x1), ([.slice a0m_0 x0.parts.length c0m_0], Lay.gram.cells x0)]) := HH39.out.push B40 O41
  clear HH39
  clear B40 O41
  have R44 : Hid (RD w42 (.slice a0m_0 x0.parts.length c0m_0) (slD (Lay.list (Lay.list Lay.int)) x0.parts)) := HH43.out.rd ([.slice a0m_0 x0.parts.length c0m_0], Lay.gram.cells x0) (List.mem_cons_of_mem _ (List.mem_cons_of_mem _ List.mem_cons_self)) 0 (by simp) (by simp [Lay.gram])
  have R45 : Hid (RD w42 (.slice a1m_0 x1.nodes.length c1m_0) (slD Lay.node x1.nodes)) := HH43.out.rd ([.slice a1m_0 x1.nodes.length c1m_0], Lay.tree.cells x1) (List.mem_cons_of_mem _ List.mem_cons_self) 0 (by simp) (by simp [Lay.tree])
  have R46 : Hid (RD w42 (.slice a2m_0 x2.length c2m_0) (slD Lay.int x2)) := HH43.out.rd ([.slice a2m_0 x2.length c2m_0], [slD Lay.int x2]) List.mem_cons_self 0 (by simp) (by simp)
  have q0_0 : w42.cell? ⟨w37.heap.size, 0, none⟩ = some (.slice a1m_0 x1.nodes.length c1m_0) := HH43.out.cell (w37.heap.size, [.slice a1m_0 x1.nodes.length c1m_0]) List.mem_cons_self 0 (by simp)
  have q1_0 : w42.cell? ⟨w32.heap.size, 0, none⟩ = some (.slice a0m_0 x0.parts.length c0m_0) := HH43.out.cell (w32.heap.size, [.slice a0m_0 x0.parts.length c0m_0]) (List.mem_cons_of_mem _ List.mem_cons_self) 0 (by simp)
  have q2_0 : w42.cell? ⟨(w.heap.size + 1), 0, none⟩ = some (.slice a1_0 x1.nodes.length c1_0) := HH43.out.cell ((w.heap.size + 1), [.slice a1_0 x1.nodes.length c1_0]) (List.mem_cons_of_mem _ (List.mem_cons_of_mem _ List.mem_cons_self)) 0 (by simp)
  have q3_0 : w42.cell? ⟨w.heap.size, 0, none⟩ = some (.slice a0_0 x0.parts.length c0_0) := HH43.out.cell (w.heap.size, [.slice a0_0 x0.parts.length c0_0]) (List.mem_cons_of_mem _ (List.mem_cons_of_mem _ (List.mem_cons_of_mem _ List.mem_cons_self))) 0 (by simp)
  go_wp2_with fail
  refine (treeOk_any x0 a0m_0 c0m_0 x1 a1m_0 c1m_0 x2 a2m_0 c2m_0 _ R44.out R45.out R46.out (by have := HW0.out; omega) HF0.out (by have := HW1.out; omega) HF1.out (by omega) HF2.out (HT.out.later HH43.out.below)).mono ?_
  rintro e w48 ⟨rfl, B47⟩
  clear q0_0 q1_0 q2_0 q3_0
  have HH49 : Hid (Holds w w48 [(w37.heap.size, [.slice a1m_0 x1.nodes.length c1m_0]), (w32.heap.size, [.slice a0m_0 x0.parts.length c0m_0]), ((w.heap.size + 1), [.slice a1_0 x1.nodes.length c1_0]), (w.heap.size, [.slice a0_0 x0.parts.length c0_0])] [([.slice a2m_0 x2.length c2m_0], [slD Lay.int x2]), ([.slice a1m_0 x1.nodes.length c1m_0], Lay.tree.cells x1), ([.slice a0m_0 x0.parts.length c0m_0], Lay.gram.cells x0)]) := HH43.out.later B47
  clear HH43
  clear B47
  clear R44 R45 R46
  generalize resTreeOk x0 x1 x2 = T0 at *
  have hTT0 : (T0 != T0) = false := by simp
  have q0_0 : w48.cell? ⟨w37.heap.size, 0, none⟩ = some (.slice a1m_0 x1.nodes.length c1m_0) := HH49.out.cell (w37.heap.size, [.slice a1m_0 x1.nodes.length c1m_0]) List.mem_cons_self 0 (by simp)
  have q1_0 : w48.cell? ⟨w32.heap.size, 0, none⟩ = some (.slice a0m_0 x0.parts.length c0m_0) := HH49.out.cell (w32.heap.size, [.slice a0m_0 x0.parts.length c0m_0]) (List.mem_cons_of_mem _ List.mem_cons_self) 0 (by simp)
  have q2_0 : w48.cell? ⟨(w.heap.size + 1), 0, none⟩ = some (.slice a1_0 x1.nodes.length c1_0) := HH49.out.cell ((w.heap.size + 1), [.slice a1_0 x1.nodes.length c1_0]) (List.mem_cons_of_mem _ (List.mem_cons_of_mem _ List.mem_cons_self)) 0 (by simp)
  have q3_0 : w48.cell? ⟨w.heap.size, 0, none⟩ = some (.slice a0_0 x0.parts.length c0_0) := HH49.out.cell (w.heap.size, [.slice a0_0 x0.parts.length c0_0]) (List.mem_cons_of_mem _ (List.mem_cons_of_mem _ (List.mem_cons_of_mem _ List.mem_cons_self))) 0 (by simp)
  go_wp2_with fail
  refine wp_region_held_drew (S := fun w' => Keeps w' [(w37.heap.size, [.slice a1m_0 x1.nodes.length c1m_0]), (w32.heap.size, [.slice a0m_0 x0.parts.length c0m_0]), ((w.heap.size + 1), [.slice a1_0 x1.nodes.length c1_0]), (w.heap.size, [.slice a0_0 x0.parts.length c0_0])]) (by kernel_rfl) HH49.out.boxes.drew (fun hHeld => ?_)
  refine take_atL (i := 0) (d := some 46) (v := .agg #[.slice a0m_0 x0.parts.length c0m_0]) rfl rfl (by kernel_rfl) (by kernel_rfl) (by kernel_rfl) (fun _ _ _ h => h) (by rfl) ?_ hHeld ?_
  · intro w' hSw
    have p0 : w'.cell? ⟨w32.heap.size, 0, none⟩ = some (.slice a0m_0 x0.parts.length c0m_0) := hSw (w32.heap.size, [.slice a0m_0 x0.parts.length c0m_0]) (List.mem_cons_of_mem _ List.mem_cons_self) 0 (by simp)
    go_simp; try rfl
  try simp only [Act.put, List.setIfInBounds_toArray, List.set_cons_zero, List.set_cons_succ]
  refine take_atL (i := 1) (d := some 47) (v := .agg #[.slice a0_0 x0.parts.length c0_0]) rfl rfl (by kernel_rfl) (by kernel_rfl) (by kernel_rfl) (fun _ _ _ h => h) (by rfl) ?_ hHeld ?_
  · intro w' hSw
    have p0 : w'.cell? ⟨w.heap.size, 0, none⟩ = some (.slice a0_0 x0.parts.length c0_0) := hSw (w.heap.size, [.slice a0_0 x0.parts.length c0_0]) (List.mem_cons_of_mem _ (List.mem_cons_of_mem _ (List.mem_cons_of_mem _ List.mem_cons_self))) 0 (by simp)
    go_simp; try rfl
  try simp only [Act.put, List.setIfInBounds_toArray, List.set_cons_zero, List.set_cons_succ]
  clear q0_0 q1_0 q2_0 q3_0
  refine wpAnyH_ready (rs := [2]) (by kernel_rfl) (by simp) ?_
  refine AllReadyH.cons (o := _) rfl (fun K hK => ?_) AllReadyH.nil
  rw [if_pos (by rfl)]
  go_simp
  refine (toGram_l x0 a0_0 c0_0 _ (H0_0.out.later (Below.drew HH49.out.below)) (by have := HW0.out; omega)).mono ?_
  rintro e w50 ⟨a0e_0, c0e_0, S0e, rfl, O52, B51d⟩
  have B51 : Below (w48).heap.size w48 w50 := Below.drewed (by simpa using B51d)
  clear B51d hHeld
  have HH53 : Hid (Holds w w50 [(w37.heap.size, [.slice a1m_0 x1.nodes.length c1m_0]), (w32.heap.size, [.slice a0m_0 x0.parts.length c0m_0]), ((w.heap.size + 1), [.slice a1_0 x1.nodes.length c1_0]), (w.heap.size, [.slice a0_0 x0.parts.length c0_0])] [([.slice a0e_0 x0.parts.length c0e_0], Lay.gram.cells x0), ([.slice a2m_0 x2.length c2m_0], [slD Lay.int x2]), ([.slice a1m_0 x1.nodes.length c1m_0], Lay.tree.cells x1), ([.slice a0m_0 x0.parts.length c0m_0], Lay.gram.cells x0)]) := HH49.out.push B51 O52
  clear HH49
  clear B51 O52
  go_wp2_with fail
  refine hK.out _ _ HH53.out.boxes (fun hHeld => ?_)
  clear hK K
  try simp only [Act.put, List.setIfInBounds_toArray, List.set_cons_zero, List.set_cons_succ]
  refine wpAnyH_ready (rs := [3]) (by kernel_rfl) (by simp) ?_
  refine AllReadyH.cons (o := _) rfl (fun K hK => ?_) AllReadyH.nil
  rw [if_pos (by rfl)]
  go_simp
  have R54 : Hid (RD w50 (.slice a0m_0 x0.parts.length c0m_0) (slD (Lay.list (Lay.list Lay.int)) x0.parts)) := HH53.out.rd ([.slice a0m_0 x0.parts.length c0m_0], Lay.gram.cells x0) (List.mem_cons_of_mem _ (List.mem_cons_of_mem _ (List.mem_cons_of_mem _ List.mem_cons_self))) 0 (by simp) (by simp [Lay.gram])
  have R55 : Hid (RD w50 (.slice a0e_0 x0.parts.length c0e_0) (slD (Lay.list (Lay.list Lay.int)) x0.parts)) := HH53.out.rd ([.slice a0e_0 x0.parts.length c0e_0], Lay.gram.cells x0) List.mem_cons_self 0 (by simp) (by simp [Lay.gram])
  refine (eqGram_l x0 a0m_0 a0e_0 c0m_0 c0e_0 _ R54.out R55.out (by have := HW0.out; omega)).mono ?_
  rintro e w56 ⟨rfl, B57⟩
  clear hHeld R54 R55
  have HH58 : Hid (Holds w w56 [(w37.heap.size, [.slice a1m_0 x1.nodes.length c1m_0]), (w32.heap.size, [.slice a0m_0 x0.parts.length c0m_0]), ((w.heap.size + 1), [.slice a1_0 x1.nodes.length c1_0]), (w.heap.size, [.slice a0_0 x0.parts.length c0_0])] [([.slice a0e_0 x0.parts.length c0e_0], Lay.gram.cells x0), ([.slice a2m_0 x2.length c2m_0], [slD Lay.int x2]), ([.slice a1m_0 x1.nodes.length c1m_0], Lay.tree.cells x1), ([.slice a0m_0 x0.parts.length c0m_0], Lay.gram.cells x0)]) := HH53.out.later B57
  clear HH53
  clear B57
  have HH59 : Hid (Holds w w56 [(w37.heap.size, [.slice a1m_0 x1.nodes.length c1m_0]), (w32.heap.size, [.slice a0m_0 x0.parts.length c0m_0]), ((w.heap.size + 1), [.slice a1_0 x1.nodes.length c1_0]), (w.heap.size, [.slice a0_0 x0.parts.length c0_0])] [([.slice a2m_0 x2.length c2m_0], [slD Lay.int x2]), ([.slice a1m_0 x1.nodes.length c1m_0], Lay.tree.cells x1), ([.slice a0m_0 x0.parts.length c0m_0], Lay.gram.cells x0)]) := Holds.drop (P := []) (x := ([.slice a0e_0 x0.parts.length c0e_0], Lay.gram.cells x0)) (Q := [([.slice a2m_0 x2.length c2m_0], [slD Lay.int x2]), ([.slice a1m_0 x1.nodes.length c1m_0], Lay.tree.cells x1), ([.slice a0m_0 x0.parts.length c0m_0], Lay.gram.cells x0)]) HH58.out
  clear HH58
  go_wp2_with fail
  refine hK.out _ _ HH59.out.boxes (fun hHeld => ?_)
  clear hK K
  try simp only [Act.put, List.setIfInBounds_toArray, List.set_cons_zero, List.set_cons_succ]
  refine take_atL (i := 4) (d := some 50) (v := .bool false) rfl rfl (by kernel_rfl) (by kernel_rfl) (by kernel_rfl) (fun _ _ _ h => h) (by rfl) ?_ hHeld ?_
  · intro w' hSw; go_simp; try rfl
  try simp only [Act.put, List.setIfInBounds_toArray, List.set_cons_zero, List.set_cons_succ]
  refine wpAnyH_done (by kernel_rfl) ?_ _
  clear hHeld
  have q0_0 : w56.cell? ⟨w37.heap.size, 0, none⟩ = some (.slice a1m_0 x1.nodes.length c1m_0) := HH59.out.cell (w37.heap.size, [.slice a1m_0 x1.nodes.length c1m_0]) List.mem_cons_self 0 (by simp)
  have q1_0 : w56.cell? ⟨w32.heap.size, 0, none⟩ = some (.slice a0m_0 x0.parts.length c0m_0) := HH59.out.cell (w32.heap.size, [.slice a0m_0 x0.parts.length c0m_0]) (List.mem_cons_of_mem _ List.mem_cons_self) 0 (by simp)
  have q2_0 : w56.cell? ⟨(w.heap.size + 1), 0, none⟩ = some (.slice a1_0 x1.nodes.length c1_0) := HH59.out.cell ((w.heap.size + 1), [.slice a1_0 x1.nodes.length c1_0]) (List.mem_cons_of_mem _ (List.mem_cons_of_mem _ List.mem_cons_self)) 0 (by simp)
  have q3_0 : w56.cell? ⟨w.heap.size, 0, none⟩ = some (.slice a0_0 x0.parts.length c0_0) := HH59.out.cell (w.heap.size, [.slice a0_0 x0.parts.length c0_0]) (List.mem_cons_of_mem _ (List.mem_cons_of_mem _ (List.mem_cons_of_mem _ List.mem_cons_self))) 0 (by simp)
  go_wp2_with fail
  refine wp_region_held_drew (S := fun w' => Keeps w' [(w37.heap.size, [.slice a1m_0 x1.nodes.length c1m_0]), (w32.heap.size, [.slice a0m_0 x0.parts.length c0m_0]), ((w.heap.size + 1), [.slice a1_0 x1.nodes.length c1_0]), (w.heap.size, [.slice a0_0 x0.parts.length c0_0])]) (by kernel_rfl) HH59.out.boxes.drew (fun hHeld => ?_)
  refine take_atL (i := 0) (d := some 51) (v := .agg #[.slice a1m_0 x1.nodes.length c1m_0]) rfl rfl (by kernel_rfl) (by kernel_rfl) (by kernel_rfl) (fun _ _ _ h => h) (by rfl) ?_ hHeld ?_
  · intro w' hSw
    have p0 : w'.cell? ⟨w37.heap.size, 0, none⟩ = some (.slice a1m_0 x1.nodes.length c1m_0) := hSw (w37.heap.size, [.slice a1m_0 x1.nodes.length c1m_0]) List.mem_cons_self 0 (by simp)
    go_simp; try rfl
  try simp only [Act.put, List.setIfInBounds_toArray, List.set_cons_zero, List.set_cons_succ]
  refine take_atL (i := 1) (d := some 52) (v := .agg #[.slice a1_0 x1.nodes.length c1_0]) rfl rfl (by kernel_rfl) (by kernel_rfl) (by kernel_rfl) (fun _ _ _ h => h) (by rfl) ?_ hHeld ?_
  · intro w' hSw
    have p0 : w'.cell? ⟨(w.heap.size + 1), 0, none⟩ = some (.slice a1_0 x1.nodes.length c1_0) := hSw ((w.heap.size + 1), [.slice a1_0 x1.nodes.length c1_0]) (List.mem_cons_of_mem _ (List.mem_cons_of_mem _ List.mem_cons_self)) 0 (by simp)
    go_simp; try rfl
  try simp only [Act.put, List.setIfInBounds_toArray, List.set_cons_zero, List.set_cons_succ]
  clear q0_0 q1_0 q2_0 q3_0
  refine wpAnyH_ready (rs := [2]) (by kernel_rfl) (by simp) ?_
  refine AllReadyH.cons (o := _) rfl (fun K hK => ?_) AllReadyH.nil
  rw [if_pos (by rfl)]
  go_simp
  refine (toTree_l x1 a1_0 c1_0 _ (H1_0.out.later (Below.drew HH59.out.below)) (by have := HW1.out; omega)).mono ?_
  rintro e w60 ⟨a1e_0, c1e_0, S1e, rfl, O62, B61d⟩
  have B61 : Below (w56).heap.size w56 w60 := Below.drewed (by simpa using B61d)
  clear B61d hHeld
  have HH63 : Hid (Holds w w60 [(w37.heap.size, [.slice a1m_0 x1.nodes.length c1m_0]), (w32.heap.size, [.slice a0m_0 x0.parts.length c0m_0]), ((w.heap.size + 1), [.slice a1_0 x1.nodes.length c1_0]), (w.heap.size, [.slice a0_0 x0.parts.length c0_0])] [([.slice a1e_0 x1.nodes.length c1e_0], Lay.tree.cells x1), ([.slice a2m_0 x2.length c2m_0], [slD Lay.int x2]), ([.slice a1m_0 x1.nodes.length c1m_0], Lay.tree.cells x1), ([.slice a0m_0 x0.parts.length c0m_0], Lay.gram.cells x0)]) := HH59.out.push B61 O62
  clear HH59
  clear B61 O62
  go_wp2_with fail
  refine hK.out _ _ HH63.out.boxes (fun hHeld => ?_)
  clear hK K
  try simp only [Act.put, List.setIfInBounds_toArray, List.set_cons_zero, List.set_cons_succ]
  refine wpAnyH_ready (rs := [3]) (by kernel_rfl) (by simp) ?_
  refine AllReadyH.cons (o := _) rfl (fun K hK => ?_) AllReadyH.nil
  rw [if_pos (by rfl)]
  go_simp
  have R64 : Hid (RD w60 (.slice a1m_0 x1.nodes.length c1m_0) (slD Lay.node x1.nodes)) := HH63.out.rd ([.slice a1m_0 x1.nodes.length c1m_0], Lay.tree.cells x1) (List.mem_cons_of_mem _ (List.mem_cons_of_mem _ List.mem_cons_self)) 0 (by simp) (by simp [Lay.tree])
  have R65 : Hid (RD w60 (.slice a1e_0 x1.nodes.length c1e_0) (slD Lay.node x1.nodes)) := HH63.out.rd ([.slice a1e_0 x1.nodes.length c1e_0], Lay.tree.cells x1) List.mem_cons_self 0 (by simp) (by simp [Lay.tree])
  refine (eqTree_l x1 a1m_0 a1e_0 c1m_0 c1e_0 _ R64.out R65.out (by have := HW1.out; omega)).mono ?_
  rintro e w66 ⟨rfl, B67⟩
  clear hHeld R64 R65
  have HH68 : Hid (Holds w w66 [(w37.heap.size, [.slice a1m_0 x1.nodes.length c1m_0]), (w32.heap.size, [.slice a0m_0 x0.parts.length c0m_0]), ((w.heap.size + 1), [.slice a1_0 x1.nodes.length c1_0]), (w.heap.size, [.slice a0_0 x0.parts.length c0_0])] [([.slice a1e_0 x1.nodes.length c1e_0], Lay.tree.cells x1), ([.slice a2m_0 x2.length c2m_0], [slD Lay.int x2]), ([.slice a1m_0 x1.nodes.length c1m_0], Lay.tree.cells x1), ([.slice a0m_0 x0.parts.length c0m_0], Lay.gram.cells x0)]) := HH63.out.later B67
  clear HH63
  clear B67
  have HH69 : Hid (Holds w w66 [(w37.heap.size, [.slice a1m_0 x1.nodes.length c1m_0]), (w32.heap.size, [.slice a0m_0 x0.parts.length c0m_0]), ((w.heap.size + 1), [.slice a1_0 x1.nodes.length c1_0]), (w.heap.size, [.slice a0_0 x0.parts.length c0_0])] [([.slice a2m_0 x2.length c2m_0], [slD Lay.int x2]), ([.slice a1m_0 x1.nodes.length c1m_0], Lay.tree.cells x1), ([.slice a0m_0 x0.parts.length c0m_0], Lay.gram.cells x0)]) := Holds.drop (P := []) (x := ([.slice a1e_0 x1.nodes.length c1e_0], Lay.tree.cells x1)) (Q := [([.slice a2m_0 x2.length c2m_0], [slD Lay.int x2]), ([.slice a1m_0 x1.nodes.length c1m_0], Lay.tree.cells x1), ([.slice a0m_0 x0.parts.length c0m_0], Lay.gram.cells x0)]) HH68.out
  clear HH68
  go_wp2_with fail
  refine hK.out _ _ HH69.out.boxes (fun hHeld => ?_)
  clear hK K
  try simp only [Act.put, List.setIfInBounds_toArray, List.set_cons_zero, List.set_cons_succ]
  refine take_atL (i := 4) (d := some 55) (v := .bool false) rfl rfl (by kernel_rfl) (by kernel_rfl) (by kernel_rfl) (fun _ _ _ h => h) (by rfl) ?_ hHeld ?_
  · intro w' hSw; go_simp; try rfl
  try simp only [Act.put, List.setIfInBounds_toArray, List.set_cons_zero, List.set_cons_succ]
  refine wpAnyH_done (by kernel_rfl) ?_ _
  clear hHeld
  have q0_0 : w66.cell? ⟨w37.heap.size, 0, none⟩ = some (.slice a1m_0 x1.nodes.length c1m_0) := HH69.out.cell (w37.heap.size, [.slice a1m_0 x1.nodes.length c1m_0]) List.mem_cons_self 0 (by simp)
  have q1_0 : w66.cell? ⟨w32.heap.size, 0, none⟩ = some (.slice a0m_0 x0.parts.length c0m_0) := HH69.out.cell (w32.heap.size, [.slice a0m_0 x0.parts.length c0m_0]) (List.mem_cons_of_mem _ List.mem_cons_self) 0 (by simp)
  have q2_0 : w66.cell? ⟨(w.heap.size + 1), 0, none⟩ = some (.slice a1_0 x1.nodes.length c1_0) := HH69.out.cell ((w.heap.size + 1), [.slice a1_0 x1.nodes.length c1_0]) (List.mem_cons_of_mem _ (List.mem_cons_of_mem _ List.mem_cons_self)) 0 (by simp)
  have q3_0 : w66.cell? ⟨w.heap.size, 0, none⟩ = some (.slice a0_0 x0.parts.length c0_0) := HH69.out.cell (w.heap.size, [.slice a0_0 x0.parts.length c0_0]) (List.mem_cons_of_mem _ (List.mem_cons_of_mem _ (List.mem_cons_of_mem _ List.mem_cons_self))) 0 (by simp)
  go_wp2_with fail
  refine (toIntS_l x2 a2_0 c2_0 _ (H2_0.out.later HH69.out.below) (by have := HW2.out; omega)).mono ?_
  rintro e w72 ⟨v2e, S2e, rfl, O71o, B70⟩
  clear q0_0 q1_0 q2_0 q3_0
  obtain ⟨a2e_0, c2e_0, rfl, _⟩ := OD.shapeL O71o
  have O71 := Cells.one O71o
  clear O71o
  have HH73 : Hid (Holds w w72 [(w37.heap.size, [.slice a1m_0 x1.nodes.length c1m_0]), (w32.heap.size, [.slice a0m_0 x0.parts.length c0m_0]), ((w.heap.size + 1), [.slice a1_0 x1.nodes.length c1_0]), (w.heap.size, [.slice a0_0 x0.parts.length c0_0])] [([.slice a2e_0 x2.length c2e_0], [slD Lay.int x2]), ([.slice a2m_0 x2.length c2m_0], [slD Lay.int x2]), ([.slice a1m_0 x1.nodes.length c1m_0], Lay.tree.cells x1), ([.slice a0m_0 x0.parts.length c0m_0], Lay.gram.cells x0)]) := HH69.out.push B70 O71
  clear HH69
  clear B70 O71
  have R74 : Hid (RD w72 (.slice a2m_0 x2.length c2m_0) (slD Lay.int x2)) := HH73.out.rd ([.slice a2m_0 x2.length c2m_0], [slD Lay.int x2]) (List.mem_cons_of_mem _ List.mem_cons_self) 0 (by simp) (by simp)
  have R75 : Hid (RD w72 (.slice a2e_0 x2.length c2e_0) (slD Lay.int x2)) := HH73.out.rd ([.slice a2e_0 x2.length c2e_0], [slD Lay.int x2]) List.mem_cons_self 0 (by simp) (by simp)
  have q0_0 : w72.cell? ⟨w37.heap.size, 0, none⟩ = some (.slice a1m_0 x1.nodes.length c1m_0) := HH73.out.cell (w37.heap.size, [.slice a1m_0 x1.nodes.length c1m_0]) List.mem_cons_self 0 (by simp)
  have q1_0 : w72.cell? ⟨w32.heap.size, 0, none⟩ = some (.slice a0m_0 x0.parts.length c0m_0) := HH73.out.cell (w32.heap.size, [.slice a0m_0 x0.parts.length c0m_0]) (List.mem_cons_of_mem _ List.mem_cons_self) 0 (by simp)
  have q2_0 : w72.cell? ⟨(w.heap.size + 1), 0, none⟩ = some (.slice a1_0 x1.nodes.length c1_0) := HH73.out.cell ((w.heap.size + 1), [.slice a1_0 x1.nodes.length c1_0]) (List.mem_cons_of_mem _ (List.mem_cons_of_mem _ List.mem_cons_self)) 0 (by simp)
  have q3_0 : w72.cell? ⟨w.heap.size, 0, none⟩ = some (.slice a0_0 x0.parts.length c0_0) := HH73.out.cell (w.heap.size, [.slice a0_0 x0.parts.length c0_0]) (List.mem_cons_of_mem _ (List.mem_cons_of_mem _ (List.mem_cons_of_mem _ List.mem_cons_self))) 0 (by simp)
  go_wp2_with fail
  refine (eqIntS_l x2 a2m_0 a2e_0 c2m_0 c2e_0 _ R74.out R75.out (by have := HW2.out; omega)).mono ?_
  rintro e w77 ⟨rfl, B76⟩
  clear q0_0 q1_0 q2_0 q3_0
  clear R74 R75
  have HH78 : Hid (Holds w w77 [(w37.heap.size, [.slice a1m_0 x1.nodes.length c1m_0]), (w32.heap.size, [.slice a0m_0 x0.parts.length c0m_0]), ((w.heap.size + 1), [.slice a1_0 x1.nodes.length c1_0]), (w.heap.size, [.slice a0_0 x0.parts.length c0_0])] [([.slice a2e_0 x2.length c2e_0], [slD Lay.int x2]), ([.slice a2m_0 x2.length c2m_0], [slD Lay.int x2]), ([.slice a1m_0 x1.nodes.length c1m_0], Lay.tree.cells x1), ([.slice a0m_0 x0.parts.length c0m_0], Lay.gram.cells x0)]) := HH73.out.later B76
  clear HH73
  clear B76
  have HH79 : Hid (Holds w w77 [(w37.heap.size, [.slice a1m_0 x1.nodes.length c1m_0]), (w32.heap.size, [.slice a0m_0 x0.parts.length c0m_0]), ((w.heap.size + 1), [.slice a1_0 x1.nodes.length c1_0]), (w.heap.size, [.slice a0_0 x0.parts.length c0_0])] [([.slice a2m_0 x2.length c2m_0], [slD Lay.int x2]), ([.slice a1m_0 x1.nodes.length c1m_0], Lay.tree.cells x1), ([.slice a0m_0 x0.parts.length c0m_0], Lay.gram.cells x0)]) := Holds.drop (P := []) (x := ([.slice a2e_0 x2.length c2e_0], [slD Lay.int x2])) (Q := [([.slice a2m_0 x2.length c2m_0], [slD Lay.int x2]), ([.slice a1m_0 x1.nodes.length c1m_0], Lay.tree.cells x1), ([.slice a0m_0 x0.parts.length c0m_0], Lay.gram.cells x0)]) HH78.out
  clear HH78
  go_wp2
  go_ret
  exact ⟨rfl, HH79.out.below⟩
end Go.Proofs.YthnppodnjokaoaaDoor
