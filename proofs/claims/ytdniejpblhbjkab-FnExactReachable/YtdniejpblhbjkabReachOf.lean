/-
  Contracts of impl.reach and impl.reachableOf over this translation. No statement is proved here.
-/
import Derived.Test.YtdniejpblhbjkabReachUp
import Derived.Test.YtdniejpblhbjkabJoinB
import Derived.Test.YtdniejpblhbjkabGramOk
import Derived.Test.YtdniejpblhbjkabLawLib
namespace Go.Proofs.Ytdniejpblhbjkab
open Go.RowKit

theorem symsR {P : List (List (List Int))} (hok : gramOkB P = true) {k : Nat} (hk : k < P.length) {i : Nat} (hi : i < P[k].length) : ∀ z ∈ P[k][i], (0 ≤ z ∧ z ≤ 25) ∨ (100 ≤ z ∧ z < 100 + P.length) := by
  intro z h3
  simp only [gramOkB, Bool.and_eq_true, List.all_eq_true, partOk, rowOk, decide_eq_true_eq] at hok
  exact symOk_true.1 (((hok.2 _ (List.getElem_mem hk)).2 _ (List.getElem_mem hi)).2 z h3)
theorem grown_below {w0 w w' : World} {b : Nat} (h : Below w0.heap.size w0 w) (hb : w0.heap.size ≤ b) (hg : w.grownBy w' (some b)) : Below w0.heap.size w0 w' := h.grown hg h.size (fun j hj => by cases hj; exact hb)
theorem grown_cell {w w' : World} {b n o : Nat} (hg : w.grownBy w' (some b)) (hn : n < w.heap.size) (hne : n ≠ b) : w'.cell? ⟨n, o, none⟩ = w.cell? ⟨n, o, none⟩ := World.cell?_of_block (w := w) (w' := w') (a := ⟨n, o, none⟩) (hg.block n hn (by intro h; cases h; exact hne rfl))

set_option maxHeartbeats 4000000 in
set_option maxRecDepth 100000 in
theorem reach_go (P : List (List (List Int))) (a0 : Option Addr) (c0 : Nat) (w0 : World) (h0 : RD w0 (.slice a0 P.length c0) (slD (Lay.list (Lay.list Lay.int)) P)) (hok : gramOkB P = true) (b : Nat) (t : TypeId) (hb0 : w0.heap.size ≤ b) : ∀ (d k : Nat) (T : List Bool) (w : World), k < P.length → Bits w b t T → T.length = 27 → 27 ≤ cntB T + d → Below w0.heap.size w0 w →
    Calls Try.prog 65 #[.agg #[.slice a0 P.length c0], .int .i64 (k : Int), .pointer (some ⟨b, 0, none⟩)] w fun e w' => e = .returned (.tuple #[]) ∧ ∃ T', RPost P k T T' ∧ T'.length = 27 ∧ Bits w' b t T' ∧ w.grownBy w' (some b) := by
  intro d
  induction d with
  | zero =>
    intro k T w hk hB hT hd hw
    have hp := (Fits.of hok).parts
    have hup : T.getD k false = true := all_up (by omega) (by omega)
    have q2 := hB.cell (n := k) (by omega)
    rw [hup] at q2
    have HP : Hid (RPost P k T T) := RPost.skip hup
    have hlt := hB.lt
    have hk0 : (0 : Int) ≤ (k : Int) := by omega
    have hk1 : (k : Int) < 27 := by omega
    have hg := grownBy_of_below ((Below.refl w.heap.size w).alloc (Nat.le_refl _) (.cells #[.slice a0 P.length c0] 28)) (some b)
    have hB2 := hB.later ((Below.refl w.heap.size w).alloc (Nat.le_refl _) (.cells #[.slice a0 P.length c0] 28))
    clear hup h0 hok hd hB
    go_enter Try.func65, Try.ntmps65
    go_wp2
    exact bodyPost_ret (results_none rfl _ _ _) rfl ⟨rfl, T, HP.out, hT, hB2, hg⟩
  | succ d ih =>
    intro k T w hk hB hT hd hw
    have F := Fits.of hok
    have hp := F.parts
    have hlt := hB.lt
    have hk0 : (0 : Int) ≤ (k : Int) := by omega
    have hk1 : (k : Int) < 27 := by omega
    have bA := (Below.refl w.heap.size w).alloc (Nat.le_refl _) (.cells #[.slice a0 P.length c0] 28)
    have hg := grownBy_of_below bA (some b)
    have hB2 := hB.later bA
    have q2 := hB.cell (n := k) (by omega)
    have f2 := hB.frozen k
    by_cases hup : T.getD k false = true
    · rw [hup] at q2
      have HP : Hid (RPost P k T T) := RPost.skip hup
      clear hup h0 hok hd hB ih F
      go_enter Try.func65, Try.ntmps65
      go_wp2
      exact bodyPost_ret (results_none rfl _ _ _) rfl ⟨rfl, T, HP.out, hT, hB2, hg⟩
    · have hdn : T.getD k false = false := by simpa using hup
      rw [hdn] at q2
      have HIH : Hid (∀ (m : Nat) (T : List Bool) (w : World), m < P.length → Bits w b t T → T.length = 27 → 27 ≤ cntB T + d → Below w0.heap.size w0 w →
        Calls Try.prog 65 #[.agg #[.slice a0 P.length c0], .int .i64 (m : Int), .pointer (some ⟨b, 0, none⟩)] w fun e w' => e = .returned (.tuple #[]) ∧ ∃ T', RPost P m T T' ∧ T'.length = 27 ∧ Bits w' b t T' ∧ w.grownBy w' (some b)) := ih
      have HRJ : Hid (∀ i j T', RJ P k (T.set k true) i j T' → T'.length = 27 ∧ 27 ≤ cntB T' + d) := fun i j T' h => ⟨h.len.trans hT, RJ.cnt (by omega) hdn hd h⟩
      have HDone : Hid (∀ T', RJ P k (T.set k true) P[k].length 0 T' → RPost P k T T') := fun T' h => RJ.done hk (by omega) h
      have bS := (Below.refl (w.setCell ⟨b, k, none⟩ (.bool true)).heap.size (w.setCell ⟨b, k, none⟩ (.bool true))).alloc (Nat.le_refl _) (.cells #[.slice a0 P.length c0] 28)
      have hB3 := (hB.set k true).later bS
      have hg3 : w.grownBy ((w.setCell ⟨b, k, none⟩ (.bool true)).alloc (.cells #[.slice a0 P.length c0] 28)) (some b) := grownBy_trans (setCell_grown w b k _) (grownBy_of_below bS _)
      have hc3 : ((w.setCell ⟨b, k, none⟩ (.bool true)).alloc (.cells #[.slice a0 P.length c0] 28)).cell? ⟨w.heap.size, 0, none⟩ = some (.slice a0 P.length c0) := by
        have key : ∀ W : World, W.heap.size = w.heap.size → (W.alloc (.cells #[.slice a0 P.length c0] 28)).cell? ⟨w.heap.size, 0, none⟩ = some (.slice a0 P.length c0) := fun W h => by rw [← h]; simp
        exact key _ (World.size_setCell w _ _)
      have hs3 : w.heap.size < ((w.setCell ⟨b, k, none⟩ (.bool true)).alloc (.cells #[.slice a0 P.length c0] 28)).heap.size := by simp
      obtain ⟨b1, o1, ea0, hb1, a1, c1, q0', r1⟩ := h0.listAt hk
      have HR1 : Hid (RD w0 (.slice a1 P[k].length c1) (slD (Lay.list Lay.int) P[k])) := r1
      have hQ8 := F.alts _ (List.getElem_mem hk)
      have hw3 : Below w0.heap.size w0 ((w.setCell ⟨b, k, none⟩ (.bool true)).alloc (.cells #[.slice a0 P.length c0] 28)) := grown_below hw hb0 hg3
      have q0 := (hw.cell (p := ⟨b1, o1 + k, none⟩) hb1).trans q0'
      have hbb : b1 ≠ b := by omega
      have hb1w : b1 < w.heap.size := Nat.lt_of_lt_of_le hb1 hw.size
      have HB3 : Hid (Bits ((w.setCell ⟨b, k, none⟩ (.bool true)).alloc (.cells #[.slice a0 P.length c0] 28)) b t (T.set k true)) := hB3
      have HG3 : Hid (w.grownBy ((w.setCell ⟨b, k, none⟩ (.bool true)).alloc (.cells #[.slice a0 P.length c0] 28)) (some b)) := hg3
      have HW3 : Hid (Below w0.heap.size w0 ((w.setCell ⟨b, k, none⟩ (.bool true)).alloc (.cells #[.slice a0 P.length c0] 28))) := hw3
      have hneb : w.heap.size ≠ b := by omega
      have HQr : Hid (∀ i (hi : i < P[k].length), P[k][i].length ≤ 8 ∧ ∀ z ∈ P[k][i], (0 ≤ z ∧ z ≤ 25) ∨ (100 ≤ z ∧ z < 100 + P.length)) := fun i hi => ⟨F.rows _ (List.getElem_mem hk) _ (List.getElem_mem hi), symsR hok hk hi⟩
      have HLet : Hid (∀ i (hi : i < P[k].length) j (hj : j < P[k][i].length) T', RJ P k (T.set k true) i j T' → P[k][i][j] ≤ 25 → RJ P k (T.set k true) i (j + 1) T') := fun i hi j hj T' h g => h.letter hk hi hj g
      have HCall : Hid (∀ i (hi : i < P[k].length) j (hj : j < P[k][i].length) T' (m : Nat) T2, RJ P k (T.set k true) i j T' → P[k][i][j] = 100 + (m : Int) → RPost P m T' T2 → RJ P k (T.set k true) i (j + 1) T2) := fun i hi j hj T' m T2 h g hp => h.call hk hi hj g hp
      have HRow : Hid (∀ i (hi : i < P[k].length) T', RJ P k (T.set k true) i P[k][i].length T' → RJ P k (T.set k true) (i + 1) 0 T') := fun i hi T' h => h.row hk hi rfl
      have HRJ0 : Hid (RJ P k (T.set k true) 0 0 (T.set k true)) := RJ.start
      have HPl : Hid (P.length ≤ 20) := hp
      subst ea0
      clear bS hup hdn h0 hok hd hB ih F r1 q0' hB3 hg3 hw3 hb1 hg hB2 bA hT hw
      generalize T.set k true = T1 at *
      generalize P[k] = Q at *
      go_enter Try.func65, Try.ntmps65
      go_wp2
      generalize (w.setCell ⟨b, k, none⟩ (.bool true)).alloc (.cells #[.slice (some ⟨b1, o1, none⟩) P.length c0] 28) = w3 at *
      have HW : Hid (∀ W : World, w3.grownBy W (some b) → W.cell? ⟨w.heap.size, 0, none⟩ = some (.slice (some ⟨b1, o1, none⟩) P.length c0) ∧ Below w0.heap.size w0 W ∧ w.grownBy W (some b)) := fun W hW => ⟨(grown_cell hW hs3 hneb).trans hc3, grown_below HW3.out hb0 hW, grownBy_trans HG3.out hW⟩
      clear hc3 hs3 HG3 HW3 q0 q2 f2 hbb hb1w hneb hlt
      go_loopw [25] (fun s wr => ∃ (i : Nat) (T2 : List Bool), i ≤ Q.length ∧ s = .int .i64 i ∧ Hid (RJ P k T1 i 0 T2) ∧ Bits wr b t T2 ∧ w3.grownBy wr (some b)) (fun s _ => Q.length - (intOf s).toNat)
      case atStart => exact ⟨0, T1, Nat.zero_le _, rfl, HRJ0, HB3.out, World.grownBy.refl _ _⟩
      case round =>
        obtain ⟨i, T2, hi, rfl, HJ, hBi, hgi⟩ := hrel
        clear HRJ0 HB3
        by_cases hli : i < Q.length
        · obtain ⟨b2, o2, ea1, hb2, a2, c2, q1', r2⟩ := HR1.out.listAt hli
          have q1 := ((HW.out wr hgi).2.1.cell (p := ⟨b2, o2 + i, none⟩) hb2).trans q1'
          subst ea1
          have hR8 := (HQr.out i hli).1
          have HRs : Hid (∀ z ∈ Q[i], (0 ≤ z ∧ z ≤ 25) ∨ (100 ≤ z ∧ z < 100 + P.length)) := (HQr.out i hli).2
          have HR2 : Hid (Reads w0 a2 Q[i]) := r2.reads
          have HLet2 : Hid (∀ j (hj : j < Q[i].length) T', RJ P k T1 i j T' → Q[i][j] ≤ 25 → RJ P k T1 i (j + 1) T') := HLet.out i hli
          have HCall2 : Hid (∀ j (hj : j < Q[i].length) T' (m : Nat) T2, RJ P k T1 i j T' → Q[i][j] = 100 + (m : Int) → RPost P m T' T2 → RJ P k T1 i (j + 1) T2) := HCall.out i hli
          have HRow2 : Hid (∀ T', RJ P k T1 i Q[i].length T' → RJ P k T1 (i + 1) 0 T') := HRow.out i hli
          clear r2 q1' hb2
          generalize Q[i] = R at *
          go_wp2
          clear q1
          go_loopw [31] (fun s wr => ∃ (j : Nat) (T2 : List Bool), j ≤ R.length ∧ s = .int .i64 j ∧ Hid (RJ P k T1 i j T2) ∧ Bits wr b t T2 ∧ w3.grownBy wr (some b)) (fun s _ => R.length - (intOf s).toNat)
          case atStart => exact ⟨0, T2, Nat.zero_le _, rfl, HJ, hBi, hgi⟩
          case round =>
            clear HJ hBi hgi
            obtain ⟨j, T3, hj, rfl, HJ, hBi, hgi⟩ := hrel
            by_cases hlj : j < R.length
            · obtain ⟨g, off, rfl, hgl, hc⟩ := (HR2.out.below (HW.out wr hgi).2.1).at hlj
              have q1 := hc j hlj
              rw [List.getD_eq_getElem?_getD, List.getElem?_eq_getElem hlj, Option.getD_some] at q1
              have hzr := HRs.out _ (List.getElem_mem hlj)
              have HL3 : Hid (R[j] ≤ 25 → RJ P k T1 i (j + 1) T3) := fun h => HLet2.out j hlj T3 HJ.out h
              have HC3 : Hid (∀ (m : Nat) T4, R[j] = 100 + (m : Int) → RPost P m T3 T4 → RJ P k T1 i (j + 1) T4) := fun m T4 h1 h2 => HCall2.out j hlj T3 m T4 HJ.out h1 h2
              clear hc
              generalize R[j] = z at *
              by_cases hlet : z ≤ 25
              · have hin : inB z 0 25 = true := inB_true.2 (by omega)
                have X : Hid (∀ W : World, Calls Try.prog 58 #[.int .i64 z] W fun e w' => e = .returned (.bool true) ∧ w' = W) := fun W => by have := isLetter_any z W; rwa [hin] at this
                have HF : Hid (RJ P k T1 i (j + 1) T3) := HL3.out hlet
                clear hin HL3 HC3
                go_wp2_with (go_at_call 58; refine (X.out _).mono ?_; rintro e w' ⟨rfl, hw'⟩; have hw2 := hw'.symm; clear hw'; subst hw2)
                go_roundw
                case rel => exact ⟨j + 1, T3, by omega, by go_num, HF, hBi, hgi⟩
                case measure => simp [intOf]; omega
              · have hin : inB z 0 25 = false := inB_false.2 (by omega)
                have X : Hid (∀ W : World, Calls Try.prog 58 #[.int .i64 z] W fun e w' => e = .returned (.bool false) ∧ w' = W) := fun W => by have := isLetter_any z W; rwa [hin] at this
                obtain ⟨m, hm⟩ : ∃ m : Nat, z = 100 + (m : Int) := ⟨(z - 100).toNat, by omega⟩
                subst hm
                have HC4 : Hid (∀ T4, RPost P m T3 T4 → RJ P k T1 i (j + 1) T4) := fun T4 h => HC3.out m T4 rfl h
                have hq := (HW.out wr hgi).1
                have hml : m < P.length := by omega
                have Y : Hid (Calls Try.prog 65 #[.agg #[.slice (some ⟨b1, o1, none⟩) P.length c0], .int .i64 (m : Int), .pointer (some ⟨b, 0, none⟩)] wr fun e w' => e = .returned (.tuple #[]) ∧ ∃ T', RPost P m T3 T' ∧ T'.length = 27 ∧ Bits w' b t T' ∧ wr.grownBy w' (some b)) := HIH.out m T3 wr hml hBi (HRJ.out _ _ _ HJ.out).1 (HRJ.out _ _ _ HJ.out).2 (HW.out wr hgi).2.1
                have e1 : 100 + (m : Int) - 100 = m := by omega
                clear hin HL3 HC3 hlet hzr
                go_wp2_with (first | (go_at_call 58; refine (X.out _).mono ?_; rintro e w' ⟨rfl, hw'⟩; have hw2 := hw'.symm; clear hw'; subst hw2) | (go_at_call 65; refine Y.out.mono ?_; rintro e w5 ⟨rfl, T4, hP4, hl4, hB4, hg4⟩))
                go_roundw
                case rel => exact ⟨j + 1, T4, by omega, by go_num, HC4.out T4 hP4, hB4, grownBy_trans hgi hg4⟩
                case measure => simp [intOf]; omega
            · have e : j = R.length := by omega
              subst e
              have HF : Hid (RJ P k T1 (i + 1) 0 T3) := HRow2.out T3 HJ.out
              go_wp2
              go_roundw
              case rel => exact ⟨i + 1, T3, by omega, by go_num, HF, hBi, hgi⟩
              case measure => simp [intOf]; omega
        · have e : i = Q.length := by omega
          subst e
          have HF : Hid (RPost P k T T2) := HDone.out T2 HJ.out
          have hl2 := (HRJ.out _ _ _ HJ.out).1
          have hgw := (HW.out wr hgi).2.2
          go_wp2
          go_end0
          exact ⟨rfl, T2, HF.out, hl2, hBi, hgw⟩
end Go.Proofs.Ytdniejpblhbjkab
