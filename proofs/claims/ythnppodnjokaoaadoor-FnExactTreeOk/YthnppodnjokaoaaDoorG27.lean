/-
  Contracts and plain mathematics, joined: ReachOf, ReachableOf, StartsUp, StartsOf, CheckParts, AnyLoop. No statement is proved here.
-/
import Derived.Test.YthnppodnjokaoaaDoorG25
import Derived.Test.YthnppodnjokaoaaDoorG9
import Derived.Test.YthnppodnjokaoaaDoorG11
import Derived.Test.YthnppodnjokaoaaDoorG5
import Derived.Test.YthnppodnjokaoaaDoorG16
import Derived.Test.YthnppodnjokaoaaDoorG18
import Derived.Test.YthnppodnjokaoaaDoorG8
import Derived.Test.YthnppodnjokaoaaDoorG22
import Derived.Test.YthnppodnjokaoaaDoorG17
namespace Go.Proofs.YthnppodnjokaoaaDoor
open Go.RowKit

theorem symsR {P : List (List (List Int))} (hok : gramOkB P = true) {k : Nat} (hk : k < P.length) {i : Nat} (hi : i < P[k].length) : ∀ z ∈ P[k][i], (0 ≤ z ∧ z ≤ 25) ∨ (100 ≤ z ∧ z < 100 + P.length) := by
  intro z h3
  simp only [gramOkB, Bool.and_eq_true, List.all_eq_true, partOk, rowOk, decide_eq_true_eq] at hok
  exact symOk_true.1 (((hok.2 _ (List.getElem_mem hk)).2 _ (List.getElem_mem hi)).2 z h3)
theorem grown_below {w0 w w' : World} {b : Nat} (h : Below w0.heap.size w0 w) (hb : w0.heap.size ≤ b) (hg : w.grownBy w' (some b)) : Below w0.heap.size w0 w' := h.grown hg h.size (fun j hj => by cases hj; exact hb)
theorem grown_cell {w w' : World} {b n o : Nat} (hg : w.grownBy w' (some b)) (hn : n < w.heap.size) (hne : n ≠ b) : w'.cell? ⟨n, o, none⟩ = w.cell? ⟨n, o, none⟩ := World.cell?_of_block (w := w) (w' := w') (a := ⟨n, o, none⟩) (hg.block n hn (by intro h; cases h; exact hne rfl))

set_option maxHeartbeats 4000000 in
set_option maxRecDepth 100000 in
theorem reach_go (P : List (List (List Int))) (a0 : Option Addr) (c0 : Nat) (w0 : World) (h0 : RD w0 (.slice a0 P.length c0) (slD (Lay.list (Lay.list Lay.int)) P)) (hok : gramOkB P = true) (b : Nat) (t : TypeId) (hb0 : w0.heap.size ≤ b) : ∀ (d k : Nat) (T : List Bool) (w : World), k < P.length → Bits w b t T → T.length = 27 → 27 ≤ cntB T + d → Below w0.heap.size w0 w →
    Calls Tryd.prog 114 #[.agg #[.slice a0 P.length c0], .int .i64 (k : Int), .pointer (some ⟨b, 0, none⟩)] w fun e w' => e = .returned (.tuple #[]) ∧ ∃ T', RPost P k T T' ∧ T'.length = 27 ∧ Bits w' b t T' ∧ w.grownBy w' (some b) := by
  intro d
  induction d with
  | zero =>
    intro k T w hk hB hT hd hw
    have hp := (Fits.of hok).parts
    have hup : T.getD k false = true := all_up (by omega) (by omega)
    have q2 := hB.cell (n := k) (by omega)
    rw [hup] at q2
    have HP : Hid (RPost P k T T) := RPost.skip hup
    have hlt := hB.lt
    have hk0 : (0 : Int) ≤ (k : Int) := by omega
    have hk1 : (k : Int) < 27 := by omega
    have hg := grownBy_of_below ((Below.refl w.heap.size w).alloc (Nat.le_refl _) (.cells #[.slice a0 P.length c0] 28)) (some b)
    have hB2 := hB.later ((Below.refl w.heap.size w).alloc (Nat.le_refl _) (.cells #[.slice a0 P.length c0] 28))
    clear hup h0 hok hd hB
    go_enter Tryd.func114, Tryd.ntmps114
    go_wp2
    exact bodyPost_ret (results_none rfl _ _ _) rfl ⟨rfl, T, HP.out, hT, hB2, hg⟩
  | succ d ih =>
    intro k T w hk hB hT hd hw
    have F := Fits.of hok
    have hp := F.parts
    have hlt := hB.lt
    have hk0 : (0 : Int) ≤ (k : Int) := by omega
    have hk1 : (k : Int) < 27 := by omega
    have bA := (Below.refl w.heap.size w).alloc (Nat.le_refl _) (.cells #[.slice a0 P.length c0] 28)
    have hg := grownBy_of_below bA (some b)
    have hB2 := hB.later bA
    have q2 := hB.cell (n := k) (by omega)
    have f2 := hB.frozen k
    by_cases hup : T.getD k false = true
    · rw [hup] at q2
      have HP : Hid (RPost P k T T) := RPost.skip hup
      clear hup h0 hok hd hB ih F
      go_enter Tryd.func114, Tryd.ntmps114
      go_wp2
      exact bodyPost_ret (results_none rfl _ _ _) rfl ⟨rfl, T, HP.out, hT, hB2, hg⟩
    · have hdn : T.getD k false = false := by simpa using hup
      rw [hdn] at q2
      have HIH : Hid (∀ (m : Nat) (T : List Bool) (w : World), m < P.length → Bits w b t T → T.length = 27 → 27 ≤ cntB T + d → Below w0.heap.size w0 w →
        Calls Tryd.prog 114 #[.agg #[.slice a0 P.length c0], .int .i64 (m : Int), .pointer (some ⟨b, 0, none⟩)] w fun e w' => e = .returned (.tuple #[]) ∧ ∃ T', RPost P m T T' ∧ T'.length = 27 ∧ Bits w' b t T' ∧ w.grownBy w' (some b)) := ih
      have HRJ : Hid (∀ i j T', RJ P k (T.set k true) i j T' → T'.length = 27 ∧ 27 ≤ cntB T' + d) := fun i j T' h => ⟨h.len.trans hT, RJ.cnt (by omega) hdn hd h⟩
      have HDone : Hid (∀ T', RJ P k (T.set k true) P[k].length 0 T' → RPost P k T T') := fun T' h => RJ.done hk (by omega) h
      have bS := (Below.refl (w.setCell ⟨b, k, none⟩ (.bool true)).heap.size (w.setCell ⟨b, k, none⟩ (.bool true))).alloc (Nat.le_refl _) (.cells #[.slice a0 P.length c0] 28)
      have hB3 := (hB.set k true).later bS
      have hg3 : w.grownBy ((w.setCell ⟨b, k, none⟩ (.bool true)).alloc (.cells #[.slice a0 P.length c0] 28)) (some b) := grownBy_trans (setCell_grown w b k _) (grownBy_of_below bS _)
      have hc3 : ((w.setCell ⟨b, k, none⟩ (.bool true)).alloc (.cells #[.slice a0 P.length c0] 28)).cell? ⟨w.heap.size, 0, none⟩ = some (.slice a0 P.length c0) := by
        have key : ∀ W : World, W.heap.size = w.heap.size → (W.alloc (.cells #[.slice a0 P.length c0] 28)).cell? ⟨w.heap.size, 0, none⟩ = some (.slice a0 P.length c0) := fun W h => by rw [← h]; simp
        exact key _ (World.size_setCell w _ _)
      have hs3 : w.heap.size < ((w.setCell ⟨b, k, none⟩ (.bool true)).alloc (.cells #[.slice a0 P.length c0] 28)).heap.size := by simp
      obtain ⟨b1, o1, ea0, hb1, a1, c1, q0', r1⟩ := h0.listAt hk
      have HR1 : Hid (RD w0 (.slice a1 P[k].length c1) (slD (Lay.list Lay.int) P[k])) := r1
      have hQ8 := F.alts _ (List.getElem_mem hk)
      have hw3 : Below w0.heap.size w0 ((w.setCell ⟨b, k, none⟩ (.bool true)).alloc (.cells #[.slice a0 P.length c0] 28)) := grown_below hw hb0 hg3
      have q0 := (hw.cell (p := ⟨b1, o1 + k, none⟩) hb1).trans q0'
      have hbb : b1 ≠ b := by omega
      have hb1w : b1 < w.heap.size := Nat.lt_of_lt_of_le hb1 hw.size
      have HB3 : Hid (Bits ((w.setCell ⟨b, k, none⟩ (.bool true)).alloc (.cells #[.slice a0 P.length c0] 28)) b t (T.set k true)) := hB3
      have HG3 : Hid (w.grownBy ((w.setCell ⟨b, k, none⟩ (.bool true)).alloc (.cells #[.slice a0 P.length c0] 28)) (some b)) := hg3
      have HW3 : Hid (Below w0.heap.size w0 ((w.setCell ⟨b, k, none⟩ (.bool true)).alloc (.cells #[.slice a0 P.length c0] 28))) := hw3
      have hneb : w.heap.size ≠ b := by omega
      have HQr : Hid (∀ i (hi : i < P[k].length), P[k][i].length ≤ 8 ∧ ∀ z ∈ P[k][i], (0 ≤ z ∧ z ≤ 25) ∨ (100 ≤ z ∧ z < 100 + P.length)) := fun i hi => ⟨F.rows _ (List.getElem_mem hk) _ (List.getElem_mem hi), symsR hok hk hi⟩
      have HLet : Hid (∀ i (hi : i < P[k].length) j (hj : j < P[k][i].length) T', RJ P k (T.set k true) i j T' → P[k][i][j] ≤ 25 → RJ P k (T.set k true) i (j + 1) T') := fun i hi j hj T' h g => h.letter hk hi hj g
      have HCall : Hid (∀ i (hi : i < P[k].length) j (hj : j < P[k][i].length) T' (m : Nat) T2, RJ P k (T.set k true) i j T' → P[k][i][j] = 100 + (m : Int) → RPost P m T' T2 → RJ P k (T.set k true) i (j + 1) T2) := fun i hi j hj T' m T2 h g hp => h.call hk hi hj g hp
      have HRow : Hid (∀ i (hi : i < P[k].length) T', RJ P k (T.set k true) i P[k][i].length T' → RJ P k (T.set k true) (i + 1) 0 T') := fun i hi T' h => h.row hk hi rfl
      have HRJ0 : Hid (RJ P k (T.set k true) 0 0 (T.set k true)) := RJ.start
      have HPl : Hid (P.length ≤ 20) := hp
      subst ea0
      clear bS hup hdn h0 hok hd hB ih F r1 q0' hB3 hg3 hw3 hb1 hg hB2 bA hT hw
      generalize T.set k true = T1 at *
      generalize P[k] = Q at *
      go_enter Tryd.func114, Tryd.ntmps114
      go_wp2
      generalize (w.setCell ⟨b, k, none⟩ (.bool true)).alloc (.cells #[.slice (some ⟨b1, o1, none⟩) P.length c0] 28) = w3 at *
      have HW : Hid (∀ W : World, w3.grownBy W (some b) → W.cell? ⟨w.heap.size, 0, none⟩ = some (.slice (some ⟨b1, o1, none⟩) P.length c0) ∧ Below w0.heap.size w0 W ∧ w.grownBy W (some b)) := fun W hW => ⟨(grown_cell hW hs3 hneb).trans hc3, grown_below HW3.out hb0 hW, grownBy_trans HG3.out hW⟩
      clear hc3 hs3 HG3 HW3 q0 q2 f2 hbb hb1w hneb hlt
      go_loopw [25] (fun s wr => ∃ (i : Nat) (T2 : List Bool), i ≤ Q.length ∧ s = .int .i64 i ∧ Hid (RJ P k T1 i 0 T2) ∧ Bits wr b t T2 ∧ w3.grownBy wr (some b)) (fun s _ => Q.length - (intOf s).toNat)
      case atStart => exact ⟨0, T1, Nat.zero_le _, rfl, HRJ0, HB3.out, World.grownBy.refl _ _⟩
      case round =>
        obtain ⟨i, T2, hi, rfl, HJ, hBi, hgi⟩ := hrel
        clear HRJ0 HB3
        by_cases hli : i < Q.length
        · obtain ⟨b2, o2, ea1, hb2, a2, c2, q1', r2⟩ := HR1.out.listAt hli
          have q1 := ((HW.out wr hgi).2.1.cell (p := ⟨b2, o2 + i, none⟩) hb2).trans q1'
          subst ea1
          have hR8 := (HQr.out i hli).1
          have HRs : Hid (∀ z ∈ Q[i], (0 ≤ z ∧ z ≤ 25) ∨ (100 ≤ z ∧ z < 100 + P.length)) := (HQr.out i hli).2
          have HR2 : Hid (Reads w0 a2 Q[i]) := r2.reads
          have HLet2 : Hid (∀ j (hj : j < Q[i].length) T', RJ P k T1 i j T' → Q[i][j] ≤ 25 → RJ P k T1 i (j + 1) T') := HLet.out i hli
          have HCall2 : Hid (∀ j (hj : j < Q[i].length) T' (m : Nat) T2, RJ P k T1 i j T' → Q[i][j] = 100 + (m : Int) → RPost P m T' T2 → RJ P k T1 i (j + 1) T2) := HCall.out i hli
          have HRow2 : Hid (∀ T', RJ P k T1 i Q[i].length T' → RJ P k T1 (i + 1) 0 T') := HRow.out i hli
          clear r2 q1' hb2
          generalize Q[i] = R at *
          go_wp2
          clear q1
          go_loopw [31] (fun s wr => ∃ (j : Nat) (T2 : List Bool), j ≤ R.length ∧ s = .int .i64 j ∧ Hid (RJ P k T1 i j T2) ∧ Bits wr b t T2 ∧ w3.grownBy wr (some b)) (fun s _ => R.length - (intOf s).toNat)
          case atStart => exact ⟨0, T2, Nat.zero_le _, rfl, HJ, hBi, hgi⟩
          case round =>
            clear HJ hBi hgi
            obtain ⟨j, T3, hj, rfl, HJ, hBi, hgi⟩ := hrel
            by_cases hlj : j < R.length
            · obtain ⟨g, off, rfl, hgl, hc⟩ := (HR2.out.below (HW.out wr hgi).2.1).at hlj
              have q1 := hc j hlj
              rw [List.getD_eq_getElem?_getD, List.getElem?_eq_getElem hlj, Option.getD_some] at q1
              have hzr := HRs.out _ (List.getElem_mem hlj)
              have HL3 : Hid (R[j] ≤ 25 → RJ P k T1 i (j + 1) T3) := fun h => HLet2.out j hlj T3 HJ.out h
              have HC3 : Hid (∀ (m : Nat) T4, R[j] = 100 + (m : Int) → RPost P m T3 T4 → RJ P k T1 i (j + 1) T4) := fun m T4 h1 h2 => HCall2.out j hlj T3 m T4 HJ.out h1 h2
              clear hc
              generalize R[j] = z at *
              by_cases hlet : z ≤ 25
              · have hin : inB z 0 25 = true := inB_true.2 (by omega)
                have X : Hid (∀ W : World, Calls Tryd.prog 79 #[.int .i64 z] W fun e w' => e = .returned (.bool true) ∧ w' = W) := fun W => by have := isLetter_any z W; rwa [hin] at this
                have HF : Hid (RJ P k T1 i (j + 1) T3) := HL3.out hlet
                clear hin HL3 HC3
                go_wp2_with (go_at_call 79; refine (X.out _).mono ?_; rintro e w' ⟨rfl, hw'⟩; have hw2 := hw'.symm; clear hw'; subst hw2)
                go_roundw
                case rel => exact ⟨j + 1, T3, by omega, by go_num, HF, hBi, hgi⟩
                case measure => simp [intOf]; omega
              · have hin : inB z 0 25 = false := inB_false.2 (by omega)
                have X : Hid (∀ W : World, Calls Tryd.prog 79 #[.int .i64 z] W fun e w' => e = .returned (.bool false) ∧ w' = W) := fun W => by have := isLetter_any z W; rwa [hin] at this
                obtain ⟨m, hm⟩ : ∃ m : Nat, z = 100 + (m : Int) := ⟨(z - 100).toNat, by omega⟩
                subst hm
                have HC4 : Hid (∀ T4, RPost P m T3 T4 → RJ P k T1 i (j + 1) T4) := fun T4 h => HC3.out m T4 rfl h
                have hq := (HW.out wr hgi).1
                have hml : m < P.length := by omega
                have Y : Hid (Calls Tryd.prog 114 #[.agg #[.slice (some ⟨b1, o1, none⟩) P.length c0], .int .i64 (m : Int), .pointer (some ⟨b, 0, none⟩)] wr fun e w' => e = .returned (.tuple #[]) ∧ ∃ T', RPost P m T3 T' ∧ T'.length = 27 ∧ Bits w' b t T' ∧ wr.grownBy w' (some b)) := HIH.out m T3 wr hml hBi (HRJ.out _ _ _ HJ.out).1 (HRJ.out _ _ _ HJ.out).2 (HW.out wr hgi).2.1
                have e1 : 100 + (m : Int) - 100 = m := by omega
                clear hin HL3 HC3 hlet hzr
                go_wp2_with (first | (go_at_call 79; refine (X.out _).mono ?_; rintro e w' ⟨rfl, hw'⟩; have hw2 := hw'.symm; clear hw'; subst hw2) | (go_at_call 114; refine Y.out.mono ?_; rintro e w5 ⟨rfl, T4, hP4, hl4, hB4, hg4⟩))
                go_roundw
                case rel => exact ⟨j + 1, T4, by omega, by go_num, HC4.out T4 hP4, hB4, grownBy_trans hgi hg4⟩
                case measure => simp [intOf]; omega
            · have e : j = R.length := by omega
              subst e
              have HF : Hid (RJ P k T1 (i + 1) 0 T3) := HRow2.out T3 HJ.out
              go_wp2
              go_roundw
              case rel => exact ⟨i + 1, T3, by omega, by go_num, HF, hBi, hgi⟩
              case measure => simp [intOf]; omega
        · have e : i = Q.length := by omega
          subst e
          have HF : Hid (RPost P k T T2) := HDone.out T2 HJ.out
          have hl2 := (HRJ.out _ _ _ HJ.out).1
          have hgw := (HW.out wr hgi).2.2
          go_wp2
          go_end0
          exact ⟨rfl, T2, HF.out, hl2, hBi, hgw⟩
end Go.Proofs.YthnppodnjokaoaaDoor
namespace Go.Proofs.YthnppodnjokaoaaDoor
open Go.RowKit

set_option maxHeartbeats 4000000 in
set_option maxRecDepth 100000 in
theorem reachableOf_any (P : List (List (List Int))) (a0 : Option Addr) (c0 : Nat) (w : World) (h0 : RD w (.slice a0 P.length c0) (slD (Lay.list (Lay.list Lay.int)) P)) (hok : gramOkB P = true) :
    Calls Tryd.prog 103 #[.agg #[.slice a0 P.length c0]] w fun e w' => e = .returned (aggB (flagsOf (reachL P))) ∧ Below w.heap.size w w' := by
  have hp0 : 0 < P.length := by
    simp only [gramOkB, Bool.and_eq_true] at hok
    have := inB_true.1 hok.1
    omega
  have HX : Hid (∀ (W : World) (b : Nat), Below w.heap.size w W → w.heap.size ≤ b → Bits W b 134 (List.replicate 27 false) → Calls Tryd.prog 114 #[.agg #[.slice a0 P.length c0], .int .i64 0, .pointer (some ⟨b, 0, none⟩)] W fun e w' => e = .returned (.tuple #[]) ∧ Bits w' b 134 (flagsOf (reachL P)) ∧ W.grownBy w' (some b)) := by
    intro W b hW hb hB
    refine (reach_go P a0 c0 w h0 hok b 134 hb 27 0 (List.replicate 27 false) W hp0 hB (by simp) (by omega) hW).mono ?_
    rintro e w' ⟨rfl, T', h1, h2, h3, h4⟩
    rw [reachOf_is hok h2 h1] at h3
    exact ⟨rfl, h3, h4⟩
  have B0 := (Below.refl w.heap.size w).alloc (Nat.le_refl _) (.cells #[.slice a0 P.length c0] 28)
  have hsb : (w.alloc (.cells #[.slice a0 P.length c0] 28)).heap.size = w.heap.size + 1 := by simp
  have HQ0 : Hid ((w.alloc (.cells #[.slice a0 P.length c0] 28)).cell? ⟨w.heap.size, 0, none⟩ = some (.slice a0 P.length c0)) := by show _ = _; simp
  have hTl := flagsOf_length (reachL P)
  clear h0 hok hp0
  generalize flagsOf (reachL P) = T at *
  go_enter Tryd.func103, Tryd.ntmps103
  go_wp2_with (first | (refine wpList_allocB (w := w.alloc _) rfl 134 rfl 27 bt_flags ?_; rw [hsb]; intro w1 hB1 hb1 hs1; have q1 := (hb1.cell (p := ⟨w.heap.size, 0, none⟩) (by simp)).trans HQ0.out; have h1 : w.heap.size + 1 < w1.heap.size := (by omega); clear hs1) | (refine wpList_allocB (w := w1) rfl 134 rfl 27 bt_flags ?_; intro w2 hB2 hb2 hs2; have q2 := (hb2.cell (p := ⟨w.heap.size, 0, none⟩) (by simp; omega)).trans q1; have h2 : w1.heap.size < w2.heap.size := (by omega); clear hs2 q1) | (go_at_call 114; refine (HX.out _ w1.heap.size ((B0.trans (hb1.mono (by omega))).trans (hb2.mono (by omega))) (by omega) hB2).mono ?_; rintro e w3 ⟨rfl, hB3, hg3⟩; have hB1b := (hB1.later (w' := w2) hb2).grown hg3 (fun h => by have := Option.some.inj h; omega)) | (refine wpList_loadW (w := w3) rfl 134 _ rfl w1.heap.size 134 T rfl (at27 hTl) hB3 ?_) | (refine wpList_storeB (w := w3) rfl 134 _ _ rfl (w.heap.size + 1) 0 134 _ T rfl rfl (at27 hTl) hB1b (by simp [hTl]) ?_; intro w4 hB4 hg4))
  have e5 : putB (List.replicate 27 false) 0 T = T := putB_whole (by simp [hTl])
  rw [e5] at hB4
  have b1 : Below w.heap.size w w1 := B0.trans (hb1.mono (by omega))
  have b2 : Below w.heap.size w w2 := b1.trans (hb2.mono b1.size)
  have b3 : Below w.heap.size w w3 := b2.grown hg3 b2.size (fun j hj => by cases hj; exact b1.size)
  have b4 : Below w.heap.size w w4 := b3.grown hg4 b3.size (fun j hj => by cases hj; omega)
  exact bodyPost_ret (v := aggB T) (ret_cell 134 rfl rfl hB4 (at27 hTl)) rfl ⟨rfl, b4⟩
end Go.Proofs.YthnppodnjokaoaaDoor
namespace Go.Proofs.YthnppodnjokaoaaDoor
open Go.RowKit

/-- As it was, or with more flags. -/
def Up (A B : List Bool) : Prop := B.length = A.length ∧ (B = A ∨ cntB A < cntB B)
theorem Up.refl (A : List Bool) : Up A A := ⟨rfl, .inl rfl⟩
theorem Up.trans {A B C : List Bool} (h : Up A B) (g : Up B C) : Up A C := by
  refine ⟨by rw [g.1, h.1], ?_⟩
  rcases h.2 with rfl | h2
  · exact g.2
  · rcases g.2 with rfl | g2
    · exact .inr h2
    · exact .inr (by omega)
theorem Up.fix {A B C : List Bool} (h : Up A B) (g : Up B C) (e : C = A) : B = A := by
  rcases h.2 with h2 | h2
  · exact h2
  · rcases g.2 with g2 | g2
    · rw [← g2]; exact e
    · subst e; omega
theorem Up.bstep (A : List Bool) (s : Nat × (List Bool → Bool)) : Up A (bstep A s) := ⟨bstep_length _ _, bstep_or _ _⟩
theorem Up.set (A : List Bool) (i : Nat) : Up A (A.set i true) := by
  have := Up.bstep A (i, fun _ => true)
  simpa only [Go.Proofs.YthnppodnjokaoaaDoor.bstep, Bool.or_true] using this
theorem Up.joinTo (A : List Bool) (off : Nat) (cs : List Bool) (k : Nat) : Up A (joinTo A off cs k) := by
  induction k with
  | zero => exact Up.refl _
  | succ k ih => exact ih.trans (Up.bstep _ (off + k, fun _ => cs.getD k false))
theorem Up.joinB (A : List Bool) (off : Nat) (cs : List Bool) : Up A (joinB A off cs) := Up.joinTo _ _ _ _
theorem Up.stX (k n : Nat) (T : List Bool) : Up T (stX k n T) := (Up.set T _).trans (Up.joinB _ _ _)
theorem Up.stB (E : List Bool) (k : Nat) : ∀ (row : List Int) (T : List Bool), Up T (stB E k T row)
  | [], T => by rw [Go.Proofs.YthnppodnjokaoaaDoor.stB]; exact Up.refl _
  | x :: xs, T => by
    rw [Go.Proofs.YthnppodnjokaoaaDoor.stB]
    split
    · split
      · exact (Up.stX _ _ _).trans (Up.stB E k xs _)
      · exact Up.stX _ _ _
    · exact Up.refl _
theorem chunk_get (T : List Bool) (n c : Nat) (hc : c < 27) : ((T.drop (n * 27)).take 27).getD c false = T.getD (n * 27 + c) false := by
  simp [List.getD, hc]
theorem stX_get {k n : Nat} {T : List Bool} (hT : T.length = 540) (hk : k < 20) (hn : n < 20) {j c : Nat} (hj : j < 20) (hc : c < 27) :
    (stX k n T).getD (j * 27 + c) false = true ↔ (T.getD (j * 27 + c) false = true ∨ (j = k ∧ (c = n ∨ T.getD (n * 27 + c) false = true))) := by
  have hl : (T.set (k * 27 + n) true).length = 540 := by rw [List.length_set]; exact hT
  have g : ∀ i d, i < 20 → d < 27 → (T.set (k * 27 + n) true).getD (i * 27 + d) false = (T.getD (i * 27 + d) false || decide (i = k ∧ d = n)) := by
    intro i d hi hd
    rw [getD_setB]
    by_cases e : i = k ∧ d = n
    · rw [if_pos ⟨by rw [e.1, e.2], by omega⟩, decide_eq_true e, Bool.or_true]
    · rw [if_neg (by intro h; omega), decide_eq_false e, Bool.or_false]
  rw [stX, joinB_get (by rw [hl]; omega), g j c hj hc]
  by_cases e : j = k
  · subst e
    rw [decide_eq_true (show j * 27 ≤ j * 27 + c ∧ j * 27 + c < j * 27 + 27 by omega), Bool.true_and, show j * 27 + c - j * 27 = c by omega, chunk_get _ _ _ hc, g n c hn hc]
    simp only [Bool.or_eq_true, decide_eq_true_eq, true_and]
    constructor
    · rintro ((h | h) | (h | ⟨_, h⟩))
      · exact .inl h
      · exact .inr (.inl h)
      · exact .inr (.inr h)
      · exact .inr (.inl h)
    · rintro (h | h | h)
      · exact .inl (.inl h)
      · exact .inl (.inr h)
      · exact .inr (.inl h)
  · rw [decide_eq_false (show ¬ (k * 27 ≤ j * 27 + c ∧ j * 27 + c < k * 27 + 27) by omega), Bool.false_and, Bool.or_false, decide_eq_false (by intro h; exact e h.1), Bool.or_false]
    constructor
    · exact .inl
    · rintro (h | ⟨h, _⟩)
      · exact h
      · exact absurd h e
theorem symsOk {P : List (List (List Int))} (h : gramOkB P = true) {k i : Nat} (hk : k < P.length) (hi : i < P[k].length) : ∀ z ∈ P[k][i], (0 ≤ z ∧ z ≤ 25) ∨ (100 ≤ z ∧ z < 100 + P.length) := by
  simp only [gramOkB, Bool.and_eq_true, inB_true, List.all_eq_true, partOk, rowOk, decide_eq_true_eq] at h
  intro z hz
  have := symOk_true.1 (((h.2 _ (List.getElem_mem hk)).2 _ (List.getElem_mem hi)).2 z hz)
  omega
def stR (E : List Bool) (k : Nat) (row : List Int) (T : List Bool) : List Bool := stB E k T row
theorem stR_raises (E : List Bool) (P : List (List (List Int))) : Raises (stR E) P 540 := fun k _ i _ T hT => by
  have := Up.stB E k P[k][i] T
  exact ⟨by rw [stR, this.1]; exact hT, this.2⟩
theorem stB_fix {E : List Int} {k : Nat} (hk : k < 20) : ∀ (row : List Int) (T : List Bool), (∀ z ∈ row, (0 ≤ z ∧ z ≤ 25) ∨ (100 ≤ z ∧ z < 120)) → T.length = 540 → stB (flagsOf E) k T row = T → ∀ x ∈ lead E row, T.getD (k * 27 + (x - 100).toNat) false = true ∧ ∀ c, c < 27 → T.getD ((x - 100).toNat * 27 + c) false = true → T.getD (k * 27 + c) false = true
  | [], T, _, _, _, x, hx => by simp [lead] at hx
  | y :: ys, T, hz, hT, he, x, hx => by
    have hy := hz y List.mem_cons_self
    by_cases h100 : 100 ≤ y
    · have hn : (y - 100).toNat < 20 := by omega
      have hyn : (((y - 100).toNat : Nat) : Int) = y - 100 := by omega
      have hfl : (flagsOf E).getD (y - 100).toNat false = hasL E (y - 100) := by rw [flagsOf_get _ (by omega), hyn]
      rw [stB, if_pos h100, hfl] at he
      rw [lead, if_pos h100] at hx
      have e1 : stX k (y - 100).toNat T = T := by
        split at he
        · exact Up.fix (Up.stX _ _ _) (Up.stB _ _ _ _) he
        · exact he
      have here : T.getD (k * 27 + (y - 100).toNat) false = true ∧ ∀ c, c < 27 → T.getD ((y - 100).toNat * 27 + c) false = true → T.getD (k * 27 + c) false = true := by
        refine ⟨?_, fun c hc h => ?_⟩
        · have := (stX_get (T := T) hT hk hn hk (show (y - 100).toNat < 27 by omega)).2 (.inr ⟨rfl, .inl rfl⟩)
          rwa [e1] at this
        · have := (stX_get (T := T) hT hk hn hk hc).2 (.inr ⟨rfl, .inr h⟩)
          rwa [e1] at this
      rcases List.mem_cons.1 hx with rfl | hx
      · exact here
      · split at hx
        · rename_i hE
          rw [if_pos hE, e1] at he
          exact stB_fix hk ys T (fun z h => hz z (List.mem_cons_of_mem _ h)) hT he x hx
        · simp at hx
    · rw [lead, if_neg h100] at hx; simp at hx
theorem stB_keeps {E : List Int} {k : Nat} (hk : k < 20) {S : Nat → Int → Prop} : ∀ (row : List Int) (T : List Bool), (∀ z ∈ row, (0 ≤ z ∧ z ≤ 25) ∨ (100 ≤ z ∧ z < 120)) → T.length = 540 → (∀ x ∈ lead E row, S k (x - 100) ∧ ∀ c, S (x - 100).toNat c → S k c) → (∀ j c, j < 20 → c < 27 → T.getD (j * 27 + c) false = true → S j (c : Int)) → ∀ j c, j < 20 → c < 27 → (stB (flagsOf E) k T row).getD (j * 27 + c) false = true → S j (c : Int)
  | [], T, _, _, _, h, j, c, hj, hc, hg => by rw [stB] at hg; exact h j c hj hc hg
  | y :: ys, T, hz, hT, hS, h, j, c, hj, hc, hg => by
    have hy := hz y List.mem_cons_self
    by_cases h100 : 100 ≤ y
    · have hn : (y - 100).toNat < 20 := by omega
      have hyn : (((y - 100).toNat : Nat) : Int) = y - 100 := by omega
      have hfl : (flagsOf E).getD (y - 100).toNat false = hasL E (y - 100) := by rw [flagsOf_get _ (by omega), hyn]
      rw [stB, if_pos h100, hfl] at hg
      have hy2 := hS y (by rw [lead, if_pos h100]; exact List.mem_cons_self)
      have hX : ∀ j c, j < 20 → c < 27 → (stX k (y - 100).toNat T).getD (j * 27 + c) false = true → S j (c : Int) := by
        intro j c hj hc hg
        rcases (stX_get hT hk hn hj hc).1 hg with h1 | ⟨rfl, h1 | h1⟩
        · exact h j c hj hc h1
        · rw [h1, hyn]; exact hy2.1
        · exact hy2.2 _ (h _ c hn hc h1)
      split at hg
      · rename_i hE
        refine stB_keeps hk ys _ (fun z h => hz z (List.mem_cons_of_mem _ h)) (by rw [stX_length]; exact hT) (fun x hx => hS x ?_) hX j c hj hc hg
        rw [lead, if_pos h100, if_pos hE]; exact List.mem_cons_of_mem _ hx
      · exact hX j c hj hc hg
    · rw [stB, if_neg h100] at hg
      exact h j c hj hc hg
theorem lead_part {E : List Int} : ∀ {row : List Int}, (∀ z ∈ row, (0 ≤ z ∧ z ≤ 25) ∨ (100 ≤ z ∧ z < 120)) → ∀ {x : Int}, x ∈ lead E row → 100 ≤ x ∧ x < 120
  | [], _, x, h => by simp [lead] at h
  | y :: ys, hz, x, h => by
    rw [lead] at h
    split at h
    · rcases List.mem_cons.1 h with rfl | h
      · have := hz x List.mem_cons_self; omega
      · split at h
        · exact lead_part (fun z hz2 => hz z (List.mem_cons_of_mem _ hz2)) h
        · simp at h
    · simp at h
/-- The table that startsOf answers. -/
theorem startsOf_is {P : List (List (List Int))} (hok : gramOkB P = true) {T : List Bool} (hl : T.length = 540) (hG : Grows (stR (flagsOf (emptiesL P))) P (List.replicate 540 false) T) (hx : leK (stR (flagsOf (emptiesL P))) P T P.length = T) {k : Nat} (hk : k < P.length) :
    numsB (fun c => T.getD (k * 27 + c) false) 27 = (startsL P).getD k [] := by
  have F := Fits.of hok
  have hp := F.parts
  have sy : ∀ k (hk : k < P.length) i (hi : i < P[k].length), ∀ z ∈ P[k][i], (0 ≤ z ∧ z ≤ 25) ∨ (100 ≤ z ∧ z < 120) := fun k hk i hi z hz => by have := symsOk hok hk hi z hz; omega
  have sound := hG (fun T => T.length = 540 ∧ ∀ j c, j < 20 → c < 27 → T.getD (j * 27 + c) false = true → (c : Int) ∈ (startsL P).getD j []) ⟨List.length_replicate, fun j c _ _ h => by rw [rep_getD] at h; cases h⟩
    (fun k hk i hi T hT => ⟨by rw [stR, (Up.stB _ _ _ _).1]; exact hT.1, stB_keeps (S := fun j c => c ∈ (startsL P).getD j []) (by omega) P[k][i] T (sy k hk i hi) hT.1 (fun x hx => ⟨stT_closed hk hi hx (.inl rfl), fun c hc => stT_closed hk hi hx (.inr hc)⟩) hT.2⟩)
  have compl : ∀ c ∈ (startsL P).getD k [], T.getD (k * 27 + c.toNat) false = true := by
    have := stT_sound (E := emptiesL P) (P := P) (S := fun j c => 0 ≤ c ∧ c < 27 ∧ T.getD (j * 27 + c.toNat) false = true) (fun k hk i hi x hm => by
      have hfx := (stR_raises (flagsOf (emptiesL P)) P).fix hl hx hk hi
      have hb := stB_fix (E := emptiesL P) (k := k) (by omega) P[k][i] T (sy k hk i hi) hl hfx x hm
      have hxr : 100 ≤ x ∧ x < 120 := lead_part (sy k hk i hi) hm
      refine ⟨⟨by omega, by omega, hb.1⟩, fun c hc => ⟨hc.1, hc.2.1, hb.2 c.toNat (by omega) hc.2.2⟩⟩) (P.length + 1) k
    exact fun c hc => (this c hc).2.2
  have hset := (stT_sets (emptiesL P) F (P.length + 1)).get (k := k)
  refine nums_flags (stT_sorted _ _ _ _) (fun x h => by have := hset.lt x h; omega) (fun n hn => ?_)
  rw [Bool.eq_iff_iff]
  constructor
  · intro h; exact hasL_yes (sound.2 k n (by omega) hn h)
  · intro h
    have h2 := compl n (of_decide_eq_true h)
    simpa using h2
end Go.Proofs.YthnppodnjokaoaaDoor
namespace Go.Proofs.YthnppodnjokaoaaDoor
open Go.RowKit

set_option maxHeartbeats 2000000 in
set_option maxRecDepth 100000 in
theorem startsOf_any (P : List (List (List Int))) (a0 : Option Addr) (c0 : Nat) (w : World) (h0 : RD w (.slice a0 P.length c0) (slD (Lay.list (Lay.list Lay.int)) P)) (hok : gramOkB P = true) :
    Calls Tryd.prog 111 #[.agg #[.slice a0 P.length c0]] w fun e w' => ∃ T, e = .returned (aggB T) ∧ T.length = 540 ∧ Hid (∀ k, k < P.length → numsB (fun c => T.getD (k * 27 + c) false) 27 = (startsL P).getD k []) ∧ Below w.heap.size w w' := by
  have hfl := flagsOf_length (emptiesL P)
  have HIS : Hid (∀ T : List Bool, T.length = 540 → Grows (stR (flagsOf (emptiesL P))) P (List.replicate 540 false) T → leK (stR (flagsOf (emptiesL P))) P T P.length = T → ∀ k, k < P.length → numsB (fun c => T.getD (k * 27 + c) false) 27 = (startsL P).getD k []) := fun T h1 h2 h3 k hk => startsOf_is hok h1 h2 h3 hk
  have HE : Hid (∀ W : World, Below w.heap.size w W → Calls Tryd.prog 118 #[.agg #[.slice a0 P.length c0]] W fun e w' => e = .returned (aggB (flagsOf (emptiesL P))) ∧ Below W.heap.size W w') := fun W hW => emptiesOf_any P a0 c0 W (h0.later hW) hok
  have HRZ : Hid (Raises (stR (flagsOf (emptiesL P))) P 540) := stR_raises _ _
  have HCL : Hid (∀ (W0 : World) (bE : Nat), Bits W0 bE 134 (flagsOf (emptiesL P)) → ∀ (W : World) (b : Nat) (T : List Bool) (k : Nat) (hk : k < P.length) (i : Nat) (hi : i < P[k].length) (a : Option Addr) (c : Nat), Below W0.heap.size W0 W → W0.heap.size ≤ b → Bits W b 148 T → T.length = 540 → RD W0 (.slice a P[k][i].length c) (slD Lay.int P[k][i]) →
      Calls Tryd.prog 120 #[.pointer (some ⟨b, 0, none⟩), .int .i64 (k : Int), .slice a P[k][i].length c, .pointer (some ⟨bE, 0, none⟩)] W fun e w' => e = .returned (.tuple #[]) ∧ Bits w' b 148 (stR (flagsOf (emptiesL P)) k P[k][i] T) ∧ W.grownBy w' (some b)) := by
    intro W0 bE hE W b T k hk i hi a c hW hb hB hT hr
    have hp := (Fits.of hok).parts
    have hl8 := (Fits.of hok).rows _ (List.getElem_mem hk) _ (List.getElem_mem hi)
    have hlt := hE.lt
    exact startsStep_any b bE 134 T (flagsOf (emptiesL P)) k P[k][i] a c W hB hT (hE.later hW) (by rw [flagsOf_length]; decide) (by omega) (by omega) W0 hr.reads hW hb (fun z hz => by have := symsOk hok hk hi z hz; omega) (by omega)
  have HOK : Hid (gramOkB P = true) := hok
  have HR0 : Hid (RD w (.slice a0 P.length c0) (slD (Lay.list (Lay.list Lay.int)) P)) := h0
  have B0 := (Below.refl w.heap.size w).alloc (Nat.le_refl _) (.cells #[.slice a0 P.length c0] 28)
  have hsb : (w.alloc (.cells #[.slice a0 P.length c0] 28)).heap.size = w.heap.size + 1 := by simp
  have HQ0 : Hid ((w.alloc (.cells #[.slice a0 P.length c0] 28)).cell? ⟨w.heap.size, 0, none⟩ = some (.slice a0 P.length c0)) := by show _ = _; simp
  clear h0 hok
  generalize flagsOf (emptiesL P) = E at *
  go_enter Tryd.func111, Tryd.ntmps111
  go_wp2_with (refine wpList_allocB (w := w.alloc _) rfl 148 rfl 540 bt_table ?_; rw [hsb]; intro w1 hB1 hb1 hs1; have g1 := (hb1.cell (p := ⟨w.heap.size, 0, none⟩) (by simp)).trans HQ0.out)
  have b1 : Below w.heap.size w w1 := B0.trans (hb1.mono (by omega))
  refine (HE.out _ b1).mono ?_
  rintro e w2 ⟨rfl, hb2⟩
  have g2 := (hb2.cell (p := ⟨w.heap.size, 0, none⟩) (by simp; omega)).trans g1
  have b2 := b1.trans (hb2.mono b1.size)
  have hB2 := hB1.later hb2
  have hnr := hB2.lt
  clear HE HQ0 hB1 hb1 g1 B0 hb2 b1
  go_wp2_with (first | (refine wpList_allocB (w := w2) rfl 134 rfl 27 bt_flags ?_; intro w3 hB3 hb3 hs3) | (refine wpList_storeB (w := w3) rfl 134 _ _ rfl w2.heap.size 0 134 _ E rfl rfl (at27 hfl) hB3 (by simp [hfl]) ?_; intro w4 hB4 hg4; have g4 : w4.cell? ⟨w.heap.size, 0, none⟩ = some (.slice a0 P.length c0) := (World.cell?_of_block (w := w3) (a := ⟨w.heap.size, 0, none⟩) (hg4.block w.heap.size (by omega) (some_ne (by omega)))).trans ((hb3.cell (p := ⟨w.heap.size, 0, none⟩) (by simp; omega)).trans g2)) | (refine wpList_build0 rfl 148 134 540 20 27 rfl bt_table u_table bt_flags.size ?_))
  have e4 : putB (List.replicate 27 false) 0 E = E := putB_whole (by simp [hfl])
  rw [e4] at hB4
  have b4 : Below w.heap.size w w4 := (b2.trans (hb3.mono b2.size)).grown hg4 (by have := b2.size; omega) (fun j hj => by cases hj; exact b2.size)
  have hBR : Bits w4 (w.heap.size + 1) 148 (List.replicate 540 false) := (hB2.later hb3).grown hg4 (some_ne (by omega))
  refine (least_S (stR E) (.pointer (some ⟨w2.heap.size, 0, none⟩)) P a0 c0 (List.replicate 540 false) w4 (HR0.out.later b4) HOK.out List.length_replicate HRZ.out (fun W b T k hk i hi a c h1 h2 h3 h4 h5 => HCL.out w4 w2.heap.size hB4 W b T k hk i hi a c h1 h2 h3 h4 h5)).mono ?_
  rintro e w5 ⟨T, rfl, hTl, hG, hfx, hb5⟩
  have HI : Hid (∀ k, k < P.length → numsB (fun c => T.getD (k * 27 + c) false) 27 = (startsL P).getD k []) := HIS.out T hTl hG hfx
  have b5 := b4.trans (hb5.mono b4.size)
  have hB5 := hBR.later hb5
  clear hG hfx hb5 hBR hB4 hg4 hb3 hs3 hB3 hB2 b2 b4 HIS HCL HRZ HR0 HOK g4 e4
  go_wp2_with (refine wpList_storeB (w := w5) rfl 148 _ _ rfl (w.heap.size + 1) 0 148 _ T rfl rfl (at540S hTl) hB5 (by rw [List.length_replicate, hTl]; decide) ?_; intro w6 hB6 hg6)
  have e6 : putB (List.replicate 540 false) 0 T = T := putB_whole (by rw [List.length_replicate]; exact hTl)
  rw [e6] at hB6
  have b6 : Below w.heap.size w w6 := b5.grown hg6 b5.size (fun j hj => by cases hj; omega)
  refine bodyPost_ret (v := aggB T) (ret_cell 148 rfl rfl hB6 (at540S hTl)) rfl ⟨T, rfl, hTl, HI, b6⟩
end Go.Proofs.YthnppodnjokaoaaDoor
namespace Go.Proofs.YthnppodnjokaoaaDoor
open Go.RowKit

/-- The flags of the first n parts. -/
def parB (n : Nat) : List Bool := (List.range 27).map fun i => decide (i < n)
theorem parB_length (n : Nat) : (parB n).length = 27 := by simp [parB]
theorem parB_get {n i : Nat} (h : i < 27) : (parB n).getD i false = decide (i < n) := by simp [parB, List.getD, h]
theorem parB_zero : parB 0 = List.replicate 27 false := by
  apply list_ext_getD (by rw [parB_length, List.length_replicate])
  intro i hi
  rw [parB_length] at hi
  rw [parB_get hi, rep_getD]; simp
theorem parB_next {k : Nat} (hk : k < 27) : parB (k + 1) = (parB k).set k true := by
  apply list_ext_getD (by rw [List.length_set, parB_length, parB_length])
  intro i hi
  rw [parB_length] at hi
  rw [parB_get hi, getD_setB, parB_length, parB_get hi]
  by_cases e : i = k
  · subst e; simp [hk]
  · rw [if_neg (fun h => e h.1)]
    rw [Bool.eq_iff_iff]; simp; omega
theorem nums_par_len (n : Nat) : ∀ m, (numsB (fun i => decide (i < n)) m).length = min n m
  | 0 => by simp [numsB]
  | m + 1 => by
    rw [numsB]
    have ih := nums_par_len n m
    split
    · rename_i h
      have := of_decide_eq_true h
      rw [List.length_append, List.length_singleton]; omega
    · rename_i h
      have : ¬ m < n := fun g => h (decide_eq_true g)
      omega
/-- Flags of a set of parts are those of all just where there are as many. -/
theorem flags_all {n : Nat} (hn : n ≤ 20) {E : List Int} (hs : E.Pairwise (· < ·)) (hb : SetB (n : Int) E) : flagsOf E = parB n ↔ ¬ E.length < n := by
  constructor
  · intro h
    have e := nums_flags (E := E) hs (fun x hx => by have := hb.lt x hx; omega) (f := fun i => (flagsOf E).getD i false) (fun i hi => flagsOf_get E hi)
    have e2 : numsB (fun i => (flagsOf E).getD i false) 27 = numsB (fun i => decide (i < n)) 27 := by
      have : ∀ m, m ≤ 27 → numsB (fun i => (flagsOf E).getD i false) m = numsB (fun i => decide (i < n)) m := by
        intro m
        induction m with
        | zero => intro _; rfl
        | succ m ih =>
          intro hm
          rw [numsB, numsB, ih (by omega), h, parB_get (by omega)]
      exact this 27 (Nat.le_refl _)
    rw [← e, e2, nums_par_len]; omega
  · intro h
    apply list_ext_getD (by rw [flagsOf_length, parB_length])
    intro i hi
    rw [flagsOf_length] at hi
    rw [flagsOf_get _ hi, parB_get hi, Bool.eq_iff_iff]
    constructor
    · intro g
      have : (i : Int) ∈ E := of_decide_eq_true g
      have := hb.lt _ this
      exact decide_eq_true (by omega)
    · intro g
      have hi2 := of_decide_eq_true g
      by_cases hm : (i : Int) ∈ E
      · exact hasL_yes hm
      · exfalso
        have : ((i : Int) :: E).length ≤ n := nodup_le (List.nodup_cons.2 ⟨hm, hb.nodup⟩) (fun x hx => by
          rcases List.mem_cons.1 hx with rfl | hx
          · omega
          · exact hb.lt x hx)
        rw [List.length_cons] at this
        omega

set_option maxHeartbeats 2000000 in
set_option maxRecDepth 100000 in
theorem partsIn_any (n : Nat) (a0 : Option Addr) (c0 : Nat) (w : World) (hn : n ≤ 20) :
    Calls Tryd.prog 100 #[.agg #[.slice a0 n c0]] w fun e w' => e = .returned (aggB (parB n)) ∧ Below w.heap.size w w' := by
  have B0 := (Below.refl w.heap.size w).alloc (Nat.le_refl _) (.cells #[.slice a0 n c0] 28)
  have hsb : (w.alloc (.cells #[.slice a0 n c0] 28)).heap.size = w.heap.size + 1 := by simp
  have HQ0 : Hid ((w.alloc (.cells #[.slice a0 n c0] 28)).cell? ⟨w.heap.size, 0, none⟩ = some (.slice a0 n c0)) := by show _ = _; simp
  go_enter Tryd.func100, Tryd.ntmps100
  go_wp2_with (first | (refine wpList_allocB (w := w.alloc _) rfl 134 rfl 27 bt_flags ?_; rw [hsb]; intro w1 hB1 hb1 hs1; have q1 := (hb1.cell (p := ⟨w.heap.size, 0, none⟩) (by simp)).trans HQ0.out; have h1 : w.heap.size + 1 < w1.heap.size := (by omega); clear hs1) | (refine wpList_allocB (w := w1) rfl 134 rfl 27 bt_flags ?_; intro w2 hB2 hb2 hs2; have q2 := (hb2.cell (p := ⟨w.heap.size, 0, none⟩) (by simp; omega)).trans q1; have h2 : w1.heap.size < w2.heap.size := (by omega); clear hs2 q1))
  have hB12 := hB1.later hb2
  have b1 : Below w.heap.size w w1 := B0.trans (hb1.mono (by omega))
  have b2 : Below w.heap.size w w2 := b1.trans (hb2.mono b1.size)
  have hw1 := b1.size
  clear hB1 hb1 hb2 q2 HQ0 B0 b1
  generalize w1.heap.size = n1 at *
  go_loopw [8] (fun s wr => ∃ k : Nat, k ≤ n ∧ s = .int .i64 k ∧ Bits wr n1 134 (parB k) ∧ Bits wr (w.heap.size + 1) 134 (List.replicate 27 false) ∧ Below w.heap.size w wr) (fun s _ => n - (intOf s).toNat)
  case atStart => exact ⟨0, Nat.zero_le _, rfl, by rw [parB_zero]; exact hB2, hB12, b2⟩
  case round =>
    obtain ⟨k, hk, rfl, hBk, hBr, hbk⟩ := hrel
    clear hB2 hB12 b2
    by_cases hlt : k < n
    · have hk0 : (0 : Int) ≤ (k : Int) := by omega
      have hk1 : (k : Int) < 27 := by omega
      have q := hBk.cell (n := k) (by rw [parB_length]; omega)
      have f := hBk.frozen k
      have hBs := hBk.set k true
      have HN : Hid (parB (k + 1) = (parB k).set k true) := parB_next (by omega)
      rw [← HN.out] at hBs
      have hBrs := hBr.grown (setCell_grown wr n1 k (.bool true)) (fun h => by have := Option.some.inj h; omega)
      have hbs : Below w.heap.size w (wr.setCell ⟨n1, k, none⟩ (.bool true)) := hbk.setCell (p := ⟨n1, k, none⟩) hw1 _
      have HE : Hid (Bits (wr.setCell ⟨n1, k, none⟩ (.bool true)) n1 134 (parB (k + 1)) ∧ Bits (wr.setCell ⟨n1, k, none⟩ (.bool true)) (w.heap.size + 1) 134 (List.replicate 27 false) ∧ Below w.heap.size w (wr.setCell ⟨n1, k, none⟩ (.bool true))) := ⟨hBs, hBrs, hbs⟩
      clear hBs hBrs hbs HN hBk hBr hbk
      generalize (parB k).getD k false = y at *
      go_wp2
      go_roundw
      case rel => exact ⟨k + 1, by omega, by go_num, HE.out.1, HE.out.2.1, HE.out.2.2⟩
      case measure => simp [intOf]; omega
    · have e : k = n := by omega
      subst e
      have hl := parB_length k
      obtain ⟨T, HT⟩ : ∃ T, Hid (parB k = T) := ⟨_, rfl⟩
      rw [HT.out] at hBk hl
      go_wp2_with (first | (refine wpList_loadW rfl 134 _ rfl n1 134 T rfl (at27 hl) hBk ?_) | (refine wpList_storeB rfl 134 _ _ rfl (w.heap.size + 1) 0 134 _ T rfl rfl (at27 hl) hBr (by rw [List.length_replicate, hl]; decide) ?_; intro w5 hB5 hg5))
      rw [putB_whole (by rw [List.length_replicate]; exact hl)] at hB5
      have b5 : Below w.heap.size w w5 := hbk.grown hg5 hbk.size (fun j hj => by cases hj; omega)
      exact bodyPost_ret (v := aggB T) (ret_cell 134 rfl rfl hB5 (at27 hl)) rfl ⟨by rw [HT.out], b5⟩
end Go.Proofs.YthnppodnjokaoaaDoor
namespace Go.Proofs.YthnppodnjokaoaaDoor
open Go.RowKit

theorem any_loop {P : List (List (List Int))} {T : List Bool} (hp : P.length ≤ 20) (hM : (startsL P).length = P.length) (h : ∀ k, k < P.length → numsB (fun c => T.getD (k * 27 + c) false) 27 = (startsL P).getD k []) (k : Nat) (hk : k < P.length) : T.getD (k * 27 + k) false = hasL ((startsL P)[k]'(hM.symm ▸ hk)) (k : Int) := by
  have e : (startsL P).getD k [] = (startsL P)[k]'(hM.symm ▸ hk) := by simp [List.getD, show k < (startsL P).length by omega]
  rw [← e, ← h k hk, Bool.eq_iff_iff]
  constructor
  · intro g; exact hasL_yes (mem_numsB.2 ⟨k, by omega, rfl, g⟩)
  · intro g
    obtain ⟨n, _, e, g⟩ := mem_numsB.1 (of_decide_eq_true g)
    have : k = n := by omega
    subst this; exact g

set_option maxHeartbeats 2000000 in
set_option maxRecDepth 100000 in
theorem anyLoop_any (P : List (List (List Int))) (a0 : Option Addr) (c0 : Nat) (w : World) (h0 : RD w (.slice a0 P.length c0) (slD (Lay.list (Lay.list Lay.int)) P)) (hok : gramOkB P = true) :
    Calls Tryd.prog 101 #[.agg #[.slice a0 P.length c0]] w fun e w' => e = .returned (.bool (loopB (startsL P))) ∧ Below w.heap.size w w' := by
  have F := Fits.of hok
  have hp := F.parts
  have hM : (startsL P).length = P.length := (stT_sets (emptiesL P) F (P.length + 1)).1
  have HM : Hid ((startsL P).length = P.length) := hM
  have HS : Hid (∀ W : World, Below w.heap.size w W → Calls Tryd.prog 111 #[.agg #[.slice a0 P.length c0]] W fun e w' => ∃ T, e = .returned (aggB T) ∧ T.length = 540 ∧ Hid (∀ k, k < P.length → numsB (fun c => T.getD (k * 27 + c) false) 27 = (startsL P).getD k []) ∧ Below W.heap.size W w') := fun W hW => startsOf_any P a0 c0 W (h0.later hW) hok
  have B0 := (Below.refl w.heap.size w).alloc (Nat.le_refl _) (.cells #[.slice a0 P.length c0] 28)
  clear h0 hok F hM
  go_enter Tryd.func101, Tryd.ntmps101
  go_wp2_with fail
  refine (HS.out _ B0).mono ?_
  rintro e w1 ⟨T, rfl, hTl, HI, hb1⟩
  have g0 : w1.cell? ⟨w.heap.size, 0, none⟩ = some (.slice a0 P.length c0) := (hb1.cell (p := ⟨w.heap.size, 0, none⟩) (by simp)).trans (by simp)
  have B1 := B0.trans (hb1.mono B0.size)
  have HL : Hid (∀ (k : Nat) (hk : k < P.length), T.getD (k * 27 + k) false = hasL ((startsL P)[k]'(HM.out.symm ▸ hk)) (k : Int)) := fun k hk => any_loop hp HM.out HI.out k hk
  have HYes : Hid (∀ (k : Nat) (hk : k < P.length), T.getD (k * 27 + k) false = true → loopB (startsL P) = true) := fun k hk g => loopB_yes (HM.out.symm ▸ hk) (by rw [← HL.out k hk]; exact g)
  have HNo : Hid ((∀ k, k < P.length → T.getD (k * 27 + k) false = false) → loopB (startsL P) = false) := fun g => loopB_no (fun k hk => by rw [← HL.out k (HM.out ▸ hk)]; exact g k (HM.out ▸ hk))
  have hwl : w.heap.size < w1.heap.size := World.block_lt_of_cell? w1 _ g0
  clear HS B0 hb1 HI HL HM
  go_wp2_with (first | (refine wpList_allocB (w := w1) rfl 148 rfl 540 bt_table ?_; intro w3 hB3 hb3 hs3) | (refine wpList_storeB (w := w3) rfl 148 _ _ rfl w1.heap.size 0 148 _ T rfl rfl (at540S hTl) hB3 (by rw [List.length_replicate, hTl]; decide) ?_; intro w4 hB4 hg4; rw [putB_whole (by rw [List.length_replicate]; exact hTl)] at hB4; have g4 : w4.cell? ⟨w.heap.size, 0, none⟩ = some (.slice a0 P.length c0) := (World.cell?_of_block (w := w3) (a := ⟨w.heap.size, 0, none⟩) (hg4.block w.heap.size (by omega) (some_ne (by omega)))).trans ((hb3.cell (p := ⟨w.heap.size, 0, none⟩) (by simp; omega)).trans g0)))
  have B4 : Below w.heap.size w w4 := (B1.trans (hb3.mono B1.size)).grown hg4 (by have := B1.size; omega) (fun j hj => by cases hj; exact B1.size)
  clear hB3 hb3 hs3 hg4 g0 B1
  generalize w1.heap.size = n1 at *
  go_loop [10] (fun s => ∃ k : Nat, k ≤ P.length ∧ s = .int .i64 k ∧ Hid (∀ j, j < k → T.getD (j * 27 + j) false = false)) (fun s => P.length - (intOf s).toNat)
  case atStart => exact ⟨0, Nat.zero_le _, rfl, fun j hj => by omega⟩
  case round =>
    obtain ⟨k, hk, rfl, HK⟩ := hrel
    by_cases hlt : k < P.length
    · have hk0 : (0 : Int) ≤ (k : Int) := by omega
      have hk1 : (k : Int) < 20 := by omega
      have hk2 : (k : Int) < 27 := by omega
      have q := hB4.cell (n := k * 27 + k) (by omega)
      have HY2 : Hid (T.getD (k * 27 + k) false = true → loopB (startsL P) = true) := HYes.out k hlt
      by_cases hup : T.getD (k * 27 + k) false = true
      · rw [hup] at q
        have HF : Hid (loopB (startsL P) = true) := HY2.out hup
        clear HY2 hup HYes HNo HK
        go_wp2
        go_ret
        exact ⟨ret_bool (by rw [HF.out]), B4⟩
      · have hdn : T.getD (k * 27 + k) false = false := by simpa using hup
        rw [hdn] at q
        have HK2 : Hid (∀ j, j < k + 1 → T.getD (j * 27 + j) false = false) := fun j hj => by
          by_cases e : j = k
          · rw [e]; exact hdn
          · exact HK.out j (by omega)
        clear HY2 hup hdn HYes HNo HK
        go_wp2
        go_round
        case rel => exact ⟨k + 1, by omega, by go_num, HK2⟩
        case measure => simp [intOf]; omega
    · have e : k = P.length := by omega
      subst e
      have HF : Hid (loopB (startsL P) = false) := HNo.out HK.out
      clear HYes HNo HK
      go_wp2
      go_ret
      exact ⟨ret_bool (by rw [HF.out]), B4⟩
end Go.Proofs.YthnppodnjokaoaaDoor
