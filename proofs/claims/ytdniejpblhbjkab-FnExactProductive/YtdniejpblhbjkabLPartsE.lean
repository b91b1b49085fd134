/-
  A contract of impl.leastParts over this translation, for one of the functions that it is called with. No statement is proved here.
-/
import Derived.Test.YtdniejpblhbjkabEmBase
namespace Go.Proofs.Ytdniejpblhbjkab
open Go.RowKit

set_option maxHeartbeats 4000000 in
set_option maxRecDepth 100000 in
theorem leastParts_E (p : List Bool → List Int → Bool) (P : List (List (List Int))) (a0 : Option Addr) (c0 : Nat) (w : World) (h0 : RD w (.slice a0 P.length c0) (slD (Lay.list (Lay.list Lay.int)) P)) (hok : gramOkB P = true)
    (hcl : ∀ (W : World) (T : List Bool) (k : Nat) (hk : k < P.length) (i : Nat) (hi : i < P[k].length) (a : Option Addr) (c : Nat), Below w.heap.size w W → T.length = 27 → RD w (.slice a P[k][i].length c) (slD Lay.int P[k][i]) →
      Calls Try.prog 68 #[.slice a P[k][i].length c, aggB T] W fun e w' => e = .returned (.bool (p T P[k][i])) ∧ Below W.heap.size W w') :
    Calls Try.prog 63 #[.agg #[.slice a0 P.length c0], .func (.func 68) #[] #[]] w fun e w' => ∃ T, e = .returned (aggB T) ∧ T.length = 27 ∧ Grows (emS p) P (List.replicate 27 false) T ∧ leK (emS p) P T P.length = T ∧ Below w.heap.size w w' := by
  have F := Fits.of hok
  have HF : Hid (Fits P) := F
  have hp := F.parts
  have HRz : Hid (Raises (emS p) P 27) := emS_raises p P
  have HCL : Hid (∀ (W : World) (T : List Bool) (k : Nat) (hk : k < P.length) (i : Nat) (hi : i < P[k].length) (a : Option Addr) (c : Nat), Below w.heap.size w W → T.length = 27 → RD w (.slice a P[k][i].length c) (slD Lay.int P[k][i]) →
      Calls Try.prog 68 #[.slice a P[k][i].length c, aggB T] W fun e w' => e = .returned (.bool (p T P[k][i])) ∧ Below W.heap.size W w') := hcl
  clear F hok hcl
  have B0 := (Below.refl w.heap.size w).alloc (Nat.le_refl _) (.cells #[.slice a0 P.length c0] 28)
  have HQ0 : Hid ((w.alloc (.cells #[.slice a0 P.length c0] 28)).cell? ⟨w.heap.size, 0, none⟩ = some (.slice a0 P.length c0)) := by show _ = _; simp
  have HR0 : Hid (RD w (.slice a0 P.length c0) (slD (Lay.list (Lay.list Lay.int)) P)) := h0
  have hsb : (w.alloc (.cells #[.slice a0 P.length c0] 28)).heap.size = w.heap.size + 1 := by simp
  clear h0
  go_enter Try.func63, Try.ntmps63
  go_wp2_with (first | (refine wpList_allocB (w := w.alloc _) rfl 47 rfl 27 bt_flags ?_; rw [hsb]; intro w1 hB1 hb1 hs1) | (refine wpList_allocB (w := w1) rfl 47 rfl 27 bt_flags ?_; intro w2 hB2 hb2 hs2))
  generalize w.alloc (.cells #[.slice a0 P.length c0] 28) = wb at *
  simp only [Act.put, List.setIfInBounds_toArray, List.set_cons_zero, List.set_cons_succ]
  -- what is known below the flags
  have hs1' : w1.heap.size = w.heap.size + 2 := by omega
  have HQ : Hid (∀ W, Below w1.heap.size w2 W → W.cell? ⟨w.heap.size, 0, none⟩ = some (.slice a0 P.length c0) ∧ Below w.heap.size w W ∧ Bits W (w.heap.size + 1) 47 (List.replicate 27 false)) := by
    intro W hW
    have b1 : Below (w.heap.size + 1) wb W := hb1.trans ((hb2.mono (by omega)).trans (hW.mono (by omega)))
    refine ⟨(b1.cell (p := ⟨w.heap.size, 0, none⟩) (by simp)).trans HQ0.out, B0.trans (b1.mono (by omega)), ?_⟩
    exact (hB1.below hb2 (by omega)).below hW (by omega)
  clear HQ0 B0 hB1 hb1 hs1
  clear hb2 hs2
  generalize w1.heap.size = n1 at *
  have hn1w : w.heap.size + 1 < n1 := by omega
  clear hs1' hsb
  go_loopg [] 27 (fun g wr => ∃ T : List Bool, Aside (T.length = 27 ∧ cntB T + g = 27 ∧ Grows (emS p) P (List.replicate 27 false) T ∧ Bits wr n1 47 T ∧ Below n1 w2 wr))
  case atStart => exact ⟨List.replicate 27 false, by simp, by decide, Grows.refl _ _, hB2, Below.refl _ _⟩
  case round =>
    obtain ⟨T, A⟩ := hrel
    have hTl := A.out.1
    have HTg : Hid (cntB T + gk = 27) := A.out.2.1
    have HTG : Hid (Grows (emS p) P (List.replicate 27 false) T) := A.out.2.2.1
    have hBT := A.out.2.2.2.1
    have hbel := A.out.2.2.2.2
    clear A hB2
    have hnr := hBT.lt
    go_wp2_with (first | (refine wpList_loadW rfl 47 _ rfl n1 47 T rfl (at27 hTl) hBT ?_) | (refine wpList_allocB rfl 47 rfl 27 bt_flags ?_; intro w3 hB3 hb3 hs3) | (refine wpList_storeB rfl 47 _ _ rfl wr.heap.size 0 47 _ T rfl rfl (at27 hTl) hB3 (by simp [hTl]) ?_; intro w4 hB4 hg4; obtain ⟨hbel4, hBT4, hBA4⟩ := ahead_facts hbel hnr hBT hb3 hs3 hTl hB4 hg4; obtain ⟨q4, _, _⟩ := HQ.out w4 hbel4))
    have HA : Hid (wr.heap.size < w4.heap.size) := hBA4.lt
    have hnA : n1 < wr.heap.size := hnr
    generalize wr.heap.size = nA at *
    clear hB3 hb3 hs3 hB4 hg4 hBT hbel hnr
    go_loopw [15] (fun s13 wk => ∃ k : Nat, k ≤ P.length ∧ s13 = .int .i64 k ∧ Bits wk n1 47 (leK (emS p) P T k) ∧ Bits wk nA 47 T ∧ Below n1 w2 wk) (fun s13 _ => P.length - (intOf s13).toNat)
    case atStart => exact ⟨0, Nat.zero_le _, rfl, hBT4, hBA4, hbel4⟩
    case round =>
      obtain ⟨k, hk, rfl, hBk, hBA, hbk⟩ := hrel
      clear hBT4 hBA4 hbel4 q4 HA
      by_cases hlk : k < P.length
      · have HK : Hid (leK (emS p) P T (k + 1) = leI (emS p) k P[k] (leK (emS p) P T k) P[k].length) := leK_next hlk
        have hm := List.getElem_mem hlk
        have hQ := HF.out.alts _ hm
        have HC1 : Hid (∀ (W : World) (T : List Bool) (i : Nat) (hi : i < P[k].length) (a : Option Addr) (c : Nat), Below w.heap.size w W → T.length = 27 → RD w (.slice a P[k][i].length c) (slD Lay.int P[k][i]) →
          Calls Try.prog 68 #[.slice a P[k][i].length c, aggB T] W fun e w' => e = .returned (.bool (p T P[k][i])) ∧ Below W.heap.size W w') := fun W T i hi a c => HCL.out W T k hlk i hi a c
        have HLe : Hid (∀ i, i ≤ P[k].length → (leI (emS p) k P[k] (leK (emS p) P T k) i).length = 27) := fun i hi => (HRz.out.leI hlk (HRz.out.leK hTl k hk).1 i hi).1
        obtain ⟨b1, o1, ea0, hb1, a1, c1, q0', r1⟩ := HR0.out.listAt hlk
        have HR1 : Hid (RD w (.slice a1 P[k].length c1) (slD (Lay.list Lay.int) P[k])) := r1
        have q0 := ((HQ.out wr hbk).2.1.cell (p := ⟨b1, o1 + k, none⟩) hb1).trans q0'
        subst ea0
        have hk27 : k < 27 := by omega
        clear r1 q0' hm hb1
        generalize leK (emS p) P T k = Tk at *
        generalize P[k] = Q at *
        go_wp2
        go_loopw [22] (fun s20 wk => ∃ i : Nat, i ≤ Q.length ∧ s20 = .int .i64 i ∧ Bits wk n1 47 (leI (emS p) k Q Tk i) ∧ Bits wk nA 47 T ∧ Below n1 w2 wk) (fun s20 _ => Q.length - (intOf s20).toNat)
        case atStart => exact ⟨0, Nat.zero_le _, rfl, hBk, hBA, hbk⟩
        case round =>
          obtain ⟨i, hi, rfl, hBi, hBAi, hbi⟩ := hrel
          clear hBk hBA hbk q0
          by_cases hli : i < Q.length
          · have HE : Hid (leI (emS p) k Q Tk (i + 1) = emS p k Q[i] (leI (emS p) k Q Tk i)) := leI_next hli
            have hTi := HLe.out i hi
            obtain ⟨b2, o2, ea1, hb2, a2, c2, q1', r2⟩ := HR1.out.listAt hli
            have hbw := (HQ.out wr hbi).2.1
            have q1 := (hbw.cell (p := ⟨b2, o2 + i, none⟩) hb2).trans q1'
            subst ea1
            have q2 := hBi.cell (n := k) (by omega)
            have f2 := hBi.frozen k
            have hn1r := hBi.lt
            have HX : Hid (Calls Try.prog 68 #[.slice a2 Q[i].length c2, aggB (leI (emS p) k Q Tk i)] wr fun e w' => e = .returned (.bool (p (leI (emS p) k Q Tk i) Q[i])) ∧ Below wr.heap.size wr w') := HC1.out wr _ i hli a2 c2 hbw hTi r2
            clear r2 q1' hb2 hbw
            generalize leI (emS p) k Q Tk i = Ti at *
            generalize Q[i] = R at *
            have key : ∀ (W : World) (v : Bool), Below wr.heap.size wr W → emS p k R Ti = Ti.set k v → Bits (W.setCell ⟨n1, k, none⟩ (.bool v)) n1 47 (leI (emS p) k Q Tk (i + 1)) ∧ Bits (W.setCell ⟨n1, k, none⟩ (.bool v)) nA 47 T ∧ Below n1 w2 (W.setCell ⟨n1, k, none⟩ (.bool v)) := by
              intro W v hW he
              rw [HE.out, he]
              exact ⟨(hBi.later hW).set k v, (hBAi.later hW).grown (setCell_grown W n1 k _) (by intro h; cases h; omega), (hbi.trans (hW.mono (by omega))).setCell (Nat.le_refl _) _⟩
            have HKY : Hid (∀ (W : World) (v : Bool), Below wr.heap.size wr W → emS p k R Ti = Ti.set k v → Bits (W.setCell ⟨n1, k, none⟩ (.bool v)) n1 47 (leI (emS p) k Q Tk (i + 1)) ∧ Bits (W.setCell ⟨n1, k, none⟩ (.bool v)) nA 47 T ∧ Below n1 w2 (W.setCell ⟨n1, k, none⟩ (.bool v))) := key
            clear key
            by_cases hup : Ti.getD k false = true
            · rw [hup] at q2
              have K1 := HKY.out wr true (Below.refl _ _) (emS_yes hup)
              have HK1 : Hid _ := K1
              clear K1 hup HKY HE HX
              go_wp2
              go_roundw
              case rel => exact ⟨i + 1, by omega, by go_num, HK1.out.1, HK1.out.2.1, HK1.out.2.2⟩
              case measure => simp [intOf]; omega
            · have hdn : Ti.getD k false = false := by simpa using hup
              rw [hdn] at q2
              have HK2 : Hid (∀ W, Below wr.heap.size wr W → _) := fun W hW => HKY.out W (p Ti R) hW (emS_no hdn)
              clear hup hdn HKY HE
              go_wp2_with (first | (refine wpList_loadW rfl 47 _ rfl n1 47 Ti rfl (at27 hTi) hBi ?_) | (go_at_call 68; refine HX.out.mono ?_; rintro e w5 ⟨rfl, hb5⟩; have q5 := (hBi.later hb5).cell (n := k) (by omega); have f5 := (hBi.later hb5).frozen k))
              go_roundw
              case rel => exact ⟨i + 1, by omega, by go_num, (HK2.out w5 hb5).1, (HK2.out w5 hb5).2.1, (HK2.out w5 hb5).2.2⟩
              case measure => simp [intOf]; omega
          · have e : i = Q.length := by omega
            subst e
            have HKe := HK
            clear HK
            go_wp2
            go_roundw
            case rel => exact ⟨k + 1, by omega, by go_num, by rw [HKe.out]; exact hBi, hBAi, hbi⟩
            case measure => simp [intOf]; omega
      · have e : k = P.length := by omega
        subst e
        have hLl := (HRz.out.leK hTl P.length (Nat.le_refl _))
        have HL2 : Hid (leK (emS p) P T P.length = T ∨ cntB T < cntB (leK (emS p) P T P.length)) := hLl.2
        have hLl1 := hLl.1
        have HLG : Hid (Grows (emS p) P (List.replicate 27 false) (leK (emS p) P T P.length)) := HTG.out.leK _ (Nat.le_refl _)
        have HLc : Hid (cntB (leK (emS p) P T P.length) ≤ 27) := by show _ ≤ _; have := cntB_le (leK (emS p) P T P.length); omega
        clear hLl
        by_cases hfix : leK (emS p) P T P.length = T
        · have HX : Hid (leK (emS p) P T P.length = T) := hfix
          rw [hfix] at hBk
          clear hfix HL2 hLl1
          have hR := (HQ.out wr hbk).2.2
          have hBel := (HQ.out wr hbk).2.1
          go_wp2_with (first | (refine wpList_loadW rfl 47 _ rfl n1 47 T rfl (at27 hTl) hBk ?_) | (refine wpList_loadW rfl 47 _ rfl nA 47 T rfl (at27 hTl) hBA ?_) | (refine wpList_eqlB rfl 47 _ _ _ rfl T T rfl rfl guard_flags (eq_flags27 hTl hTl) ?_; rw [decide_eq_true (rfl : T = T)]) | (refine wpList_storeB rfl 47 _ _ rfl (w.heap.size + 1) 0 47 _ T rfl rfl (at27 hTl) hR (by simp [hTl]) ?_; intro w5 hB5 hg5))
          have e5 : putB (List.replicate 27 false) 0 T = T := putB_whole (by simp [hTl])
          rw [e5] at hB5
          have hb5 : Below w.heap.size w w5 := hBel.grown hg5 hBel.size (fun j hj => by cases hj; omega)
          refine bodyPost_ret (v := aggB T) (ret_cell 47 rfl rfl hB5 (at27 hTl)) rfl ⟨T, rfl, hTl, HTG.out, HX.out, hb5⟩
        · have hcnt : cntB T < cntB (leK (emS p) P T P.length) := HL2.out.resolve_left hfix
          have hdec : decide (leK (emS p) P T P.length = T) = false := decide_eq_false hfix
          clear hfix HL2
          generalize leK (emS p) P T P.length = T2 at *
          go_wp2_with (first | (refine wpList_loadW rfl 47 _ rfl n1 47 T2 rfl (at27 hLl1) hBk ?_) | (refine wpList_loadW rfl 47 _ rfl nA 47 T rfl (at27 hTl) hBA ?_) | (refine wpList_eqlB rfl 47 _ _ _ rfl T2 T rfl rfl guard_flags (eq_flags27 hLl1 hTl) ?_; rw [hdec]))
          go_roundg (27 - cntB T2)
          case measure => have := HTg.out; have := HLc.out; omega
          case rel => exact ⟨T2, hLl1, by have := HLc.out; omega, HLG.out, hBk, hbk⟩
end Go.Proofs.Ytdniejpblhbjkab
