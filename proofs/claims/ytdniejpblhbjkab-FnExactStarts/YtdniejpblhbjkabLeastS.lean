/-
  A contract of impl.least over this translation, for one of the functions that it is called with. No statement is proved here.
-/
import Derived.Test.YtdniejpblhbjkabEmptiesOf
namespace Go.Proofs.Ytdniejpblhbjkab
open Go.RowKit

theorem at540S {T : List Bool} (hl : T.length = 540) : BitT Try.prog 50 T.length := by rw [hl]; exact bt_table
theorem eq_table540S {w : World} {cs bs : List Bool} (h1 : cs.length = 540) (h2 : bs.length = 540) : (Op.equalIn 10000 50 (aggB cs) (aggB bs)).run Try.prog w = .ok (decide (cs = bs)) w := run_eq_table (m := 20) (n := 27) 9997 (by kernel_rfl) u_flags u_bool bt_flags.size bool_size h1 h2
theorem guard_tableS : Try.prog.eqGuardType Try.prog.depth 50 = false := by kernel_rfl
theorem ahead_tableS {n1 nR : Nat} {w2 wr w3 w4 : World} {t : TypeId} {T Z : List Bool} (hbel : Below n1 w2 wr) (hn : n1 < wr.heap.size) (hBT : Bits wr n1 t T) (hBR : Bits wr nR t Z) (hb3 : Below wr.heap.size wr w3) (hs3 : w3.heap.size = wr.heap.size + 1) (hTl : T.length = 540) (hB4 : Bits w4 wr.heap.size 50 (putB (List.replicate 540 false) 0 T)) (hg4 : w3.grownBy w4 (some wr.heap.size)) :
    Below n1 w2 w4 ∧ Bits w4 n1 t T ∧ Bits w4 wr.heap.size 50 T ∧ Bits w4 nR t Z := by
  have e : putB (List.replicate 540 false) 0 T = T := putB_whole (by rw [List.length_replicate]; exact hTl)
  rw [e] at hB4
  have hl2 := hBR.lt
  refine ⟨?_, ?_, hB4, ?_⟩
  · exact (hbel.trans (hb3.mono (by omega))).grown hg4 (by omega) (fun k hk => by cases hk; omega)
  · exact (hBT.later hb3).grown hg4 (by intro h; cases h; omega)
  · exact (hBR.later hb3).grown hg4 (by intro h; cases h; omega)

set_option maxHeartbeats 4000000 in
set_option maxRecDepth 100000 in
theorem least_S (st : Nat → List Int → List Bool → List Bool) (cap : Value) (P : List (List (List Int))) (a0 : Option Addr) (c0 : Nat) (T0 : List Bool) (w : World) (h0 : RD w (.slice a0 P.length c0) (slD (Lay.list (Lay.list Lay.int)) P)) (hok : gramOkB P = true) (hT0 : T0.length = 540) (hRz : Raises st P 540)
    (hcl : ∀ (W : World) (b : Nat) (T : List Bool) (k : Nat) (hk : k < P.length) (i : Nat) (hi : i < P[k].length) (a : Option Addr) (c : Nat), Below w.heap.size w W → w.heap.size ≤ b → Bits W b 50 T → T.length = 540 → RD w (.slice a P[k][i].length c) (slD Lay.int P[k][i]) →
      Calls Try.prog 62 #[.pointer (some ⟨b, 0, none⟩), .int .i64 (k : Int), .slice a P[k][i].length c, cap] W fun e w' => e = .returned (.tuple #[]) ∧ Bits w' b 50 (st k P[k][i] T) ∧ W.grownBy w' (some b)) :
    Calls Try.prog 55 #[.agg #[.slice a0 P.length c0], aggB T0, .func (.func 62) #[] #[cap]] w fun e w' => ∃ T, e = .returned (aggB T) ∧ T.length = 540 ∧ Grows st P T0 T ∧ leK st P T P.length = T ∧ Below w.heap.size w w' := by
  have F := Fits.of hok
  have HF : Hid (Fits P) := F
  have hp := F.parts
  have HRz : Hid (Raises st P 540) := hRz
  have HCL : Hid (∀ (W : World) (b : Nat) (T : List Bool) (k : Nat) (hk : k < P.length) (i : Nat) (hi : i < P[k].length) (a : Option Addr) (c : Nat), Below w.heap.size w W → w.heap.size ≤ b → Bits W b 50 T → T.length = 540 → RD w (.slice a P[k][i].length c) (slD Lay.int P[k][i]) →
      Calls Try.prog 62 #[.pointer (some ⟨b, 0, none⟩), .int .i64 (k : Int), .slice a P[k][i].length c, cap] W fun e w' => e = .returned (.tuple #[]) ∧ Bits w' b 50 (st k P[k][i] T) ∧ W.grownBy w' (some b)) := hcl
  clear F hok hRz hcl
  have B0 := (Below.refl w.heap.size w).alloc (Nat.le_refl _) (.cells #[.slice a0 P.length c0] 28)
  have HQ0 : Hid ((w.alloc (.cells #[.slice a0 P.length c0] 28)).cell? ⟨w.heap.size, 0, none⟩ = some (.slice a0 P.length c0)) := by show _ = _; simp
  have HR0 : Hid (RD w (.slice a0 P.length c0) (slD (Lay.list (Lay.list Lay.int)) P)) := h0
  have hsb : (w.alloc (.cells #[.slice a0 P.length c0] 28)).heap.size = w.heap.size + 1 := by simp
  clear h0
  go_enter Try.func55, Try.ntmps55
  go_wp2_with (first | (refine wpList_boxB (w := w.alloc _) rfl 50 _ rfl T0 rfl ?_; rw [hsb]; intro w1 hB1 hb1 hs1) | (refine wpList_allocB (w := w1) rfl 50 rfl 540 bt_table ?_; intro w2 hB2 hb2 hs2))
  generalize w.alloc (.cells #[.slice a0 P.length c0] 28) = wb at *
  simp only [Act.put, List.setIfInBounds_toArray, List.set_cons_zero, List.set_cons_succ]
  have hB12 := hB1.below hb2 (by omega)
  have HQ : Hid (∀ W, Below (w.heap.size + 1) w2 W → W.cell? ⟨w.heap.size, 0, none⟩ = some (.slice a0 P.length c0) ∧ Below w.heap.size w W) := by
    intro W hW
    have b1 : Below (w.heap.size + 1) wb W := hb1.trans ((hb2.mono (by omega)).trans hW)
    exact ⟨(b1.cell (p := ⟨w.heap.size, 0, none⟩) (by simp)).trans HQ0.out, B0.trans (b1.mono (by omega))⟩
  have hnR : w1.heap.size = w.heap.size + 2 := by omega
  have hwr0 : w.heap.size ≤ w1.heap.size := by omega
  have hneq : w1.heap.size ≠ w.heap.size + 1 := by omega
  clear HQ0 B0 hB1 hb1 hs1 hb2 hs2 hnR
  generalize w1.heap.size = nR at *
  have HNR : Hid (nR ≠ w.heap.size + 1) := hneq
  have HWR : Hid (w.heap.size ≤ nR) := hwr0
  have hnw : w.heap.size < w.heap.size + 1 := by omega
  obtain ⟨n1, Hn1⟩ : ∃ n1, Hid (w.heap.size + 1 = n1) := ⟨_, rfl⟩
  rw [Hn1.out] at hB12 HQ HNR hnw
  rw [Hn1.out]
  clear hneq hsb Hn1 hwr0
  go_loopg [] 540 (fun g wr => ∃ T : List Bool, Aside (T.length = 540 ∧ 540 ≤ cntB T + g ∧ Grows st P T0 T ∧ Bits wr n1 50 T ∧ Below n1 w2 wr ∧ Bits wr nR 50 (List.replicate 540 false)))
  case atStart => exact ⟨T0, hT0, by omega, Grows.refl _ _, hB12, Below.refl _ _, hB2⟩
  case round =>
    obtain ⟨T, A⟩ := hrel
    have hTl := A.out.1
    have HTg : Hid (540 ≤ cntB T + gk) := A.out.2.1
    have HTG : Hid (Grows st P T0 T) := A.out.2.2.1
    have hBT := A.out.2.2.2.1
    have hbel := A.out.2.2.2.2.1
    have hBR := A.out.2.2.2.2.2
    clear A hB2 hB12
    have hnr := hBT.lt
    go_wp2_with (first | (refine wpList_loadW rfl 50 _ rfl n1 50 T rfl (at540S hTl) hBT ?_) | (refine wpList_allocB rfl 50 rfl 540 bt_table ?_; intro w3 hB3 hb3 hs3) | (refine wpList_storeB rfl 50 _ _ rfl wr.heap.size 0 50 _ T rfl rfl (at540S hTl) hB3 (by rw [List.length_replicate, hTl]; decide) ?_; intro w4 hB4 hg4; obtain ⟨hbel4, hBT4, hBA4, hBR4⟩ := ahead_tableS hbel hnr hBT hBR hb3 hs3 hTl hB4 hg4; obtain ⟨q4, _⟩ := HQ.out w4 hbel4))
    have hnA : n1 < wr.heap.size := hnr
    have hnA2 : nR < wr.heap.size := hBR.lt
    generalize wr.heap.size = nA at *
    clear hB3 hb3 hs3 hB4 hg4 hBT hbel hnr hBR
    go_loopw [16] (fun s wk => ∃ k : Nat, k ≤ P.length ∧ s = .int .i64 k ∧ Bits wk n1 50 (leK st P T k) ∧ Bits wk nA 50 T ∧ Below n1 w2 wk ∧ Bits wk nR 50 (List.replicate 540 false)) (fun s _ => P.length - (intOf s).toNat)
    case atStart => exact ⟨0, Nat.zero_le _, rfl, hBT4, hBA4, hbel4, hBR4⟩
    case round =>
      obtain ⟨k, hk, rfl, hBk, hBA, hbk, hBR⟩ := hrel
      clear hBT4 hBA4 hbel4 q4 hBR4
      by_cases hlk : k < P.length
      · have HK : Hid (leK st P T (k + 1) = leI st k P[k] (leK st P T k) P[k].length) := leK_next hlk
        have hm := List.getElem_mem hlk
        have hQ := HF.out.alts _ hm
        have HLe : Hid (∀ i, i ≤ P[k].length → (leI st k P[k] (leK st P T k) i).length = 540) := fun i hi => (HRz.out.leI hlk (HRz.out.leK hTl k hk).1 i hi).1
        have HC1 : Hid (∀ (W : World) (b : Nat) (T : List Bool) (i : Nat) (hi : i < P[k].length) (a : Option Addr) (c : Nat), Below w.heap.size w W → w.heap.size ≤ b → Bits W b 50 T → T.length = 540 → RD w (.slice a P[k][i].length c) (slD Lay.int P[k][i]) →
          Calls Try.prog 62 #[.pointer (some ⟨b, 0, none⟩), .int .i64 (k : Int), .slice a P[k][i].length c, cap] W fun e w' => e = .returned (.tuple #[]) ∧ Bits w' b 50 (st k P[k][i] T) ∧ W.grownBy w' (some b)) := fun W b T i hi a c => HCL.out W b T k hlk i hi a c
        obtain ⟨b1, o1, ea0, hb1, a1, c1, q0', r1⟩ := HR0.out.listAt hlk
        have HR1 : Hid (RD w (.slice a1 P[k].length c1) (slD (Lay.list Lay.int) P[k])) := r1
        have q0 := ((HQ.out wr hbk).2.cell (p := ⟨b1, o1 + k, none⟩) hb1).trans q0'
        subst ea0
        clear r1 q0' hm hb1
        generalize leK st P T k = Tk at *
        generalize P[k] = Q at *
        go_wp2
        go_loopw [23] (fun s wk => ∃ i : Nat, i ≤ Q.length ∧ s = .int .i64 i ∧ Bits wk n1 50 (leI st k Q Tk i) ∧ Bits wk nA 50 T ∧ Below n1 w2 wk ∧ Bits wk nR 50 (List.replicate 540 false)) (fun s _ => Q.length - (intOf s).toNat)
        case atStart => exact ⟨0, Nat.zero_le _, rfl, hBk, hBA, hbk, hBR⟩
        case round =>
          obtain ⟨i, hi, rfl, hBi, hBAi, hbi, hBRi⟩ := hrel
          clear hBk hBA hbk q0 hBR
          by_cases hli : i < Q.length
          · have HE : Hid (leI st k Q Tk (i + 1) = st k Q[i] (leI st k Q Tk i)) := leI_next hli
            have hTi := HLe.out i hi
            obtain ⟨b2, o2, ea1, hb2, a2, c2, q1', r2⟩ := HR1.out.listAt hli
            have hbw := (HQ.out wr hbi).2
            have q1 := (hbw.cell (p := ⟨b2, o2 + i, none⟩) hb2).trans q1'
            subst ea1
            have X := HC1.out wr n1 _ i hli a2 c2 hbw (by omega) hBi hTi r2
            have HX : Hid (Calls Try.prog 62 #[.pointer (some ⟨n1, 0, none⟩), .int .i64 (k : Int), .slice a2 Q[i].length c2, cap] wr fun e w' => e = .returned (.tuple #[]) ∧ Bits w' n1 50 (st k Q[i] (leI st k Q Tk i)) ∧ wr.grownBy w' (some n1)) := X
            rw [← HE.out] at HX
            have hn1r := hBi.lt
            clear r2 q1' hb2 X HE hbw
            generalize Q[i] = R at *
            go_wp2_with (go_at_call 62; refine HX.out.mono ?_; rintro e w5 ⟨rfl, hB5, hg5⟩)
            go_roundw
            case rel => exact ⟨i + 1, by omega, by go_num, hB5, hBAi.grown hg5 (by intro h; cases h; omega), hbi.grown hg5 (by omega) (fun j hj => by cases hj; omega), hBRi.grown hg5 (by intro h; cases h; exact HNR.out rfl)⟩
            case measure => simp [intOf]; omega
          · have e : i = Q.length := by omega
            subst e
            have HKe := HK
            clear HK
            go_wp2
            go_roundw
            case rel => exact ⟨k + 1, by omega, by go_num, by rw [HKe.out]; exact hBi, hBAi, hbi, hBRi⟩
            case measure => simp [intOf]; omega
      · have e : k = P.length := by omega
        subst e
        have hLl := (HRz.out.leK hTl P.length (Nat.le_refl _))
        have HL2 : Hid (leK st P T P.length = T ∨ cntB T < cntB (leK st P T P.length)) := hLl.2
        have hLl1 := hLl.1
        have HLG : Hid (Grows st P T0 (leK st P T P.length)) := HTG.out.leK _ (Nat.le_refl _)
        have HLc : Hid (cntB (leK st P T P.length) ≤ 540) := by show _ ≤ _; have := cntB_le (leK st P T P.length); omega
        clear hLl
        by_cases hfix : leK st P T P.length = T
        · have HX : Hid (leK st P T P.length = T) := hfix
          rw [hfix] at hBk
          clear hfix HL2 hLl1
          have hBel := (HQ.out wr hbk).2
          go_wp2_with (first | (refine wpList_loadW rfl 50 _ rfl n1 50 T rfl (at540S hTl) hBk ?_) | (refine wpList_loadW rfl 50 _ rfl nA 50 T rfl (at540S hTl) hBA ?_) | (refine wpList_eqlB rfl 50 _ _ _ rfl T T rfl rfl guard_tableS (eq_table540S hTl hTl) ?_; rw [decide_eq_true (rfl : T = T)]) | (refine wpList_storeB rfl 50 _ _ rfl nR 0 50 _ T rfl rfl (at540S hTl) hBR (by rw [List.length_replicate, hTl]; decide) ?_; intro w5 hB5 hg5))
          have e5 : putB (List.replicate 540 false) 0 T = T := putB_whole (by rw [List.length_replicate]; exact hTl)
          rw [e5] at hB5
          have hb5 : Below w.heap.size w w5 := hBel.grown hg5 hBel.size (fun j hj => by cases hj; exact HWR.out)
          refine bodyPost_ret (v := aggB T) (ret_cell 50 rfl rfl hB5 (at540S hTl)) rfl ⟨T, rfl, hTl, HTG.out, HX.out, hb5⟩
        · have hcnt : cntB T < cntB (leK st P T P.length) := HL2.out.resolve_left hfix
          have hdec : decide (leK st P T P.length = T) = false := decide_eq_false hfix
          clear hfix HL2
          generalize leK st P T P.length = T2 at *
          go_wp2_with (first | (refine wpList_loadW rfl 50 _ rfl n1 50 T2 rfl (at540S hLl1) hBk ?_) | (refine wpList_loadW rfl 50 _ rfl nA 50 T rfl (at540S hTl) hBA ?_) | (refine wpList_eqlB rfl 50 _ _ _ rfl T2 T rfl rfl guard_tableS (eq_table540S hLl1 hTl) ?_; rw [hdec]))
          go_roundg (gk - 1)
          case measure => have := HTg.out; have := HLc.out; omega
          case rel => exact ⟨T2, hLl1, by have := HTg.out; have := HLc.out; omega, HLG.out, hBk, hbk, hBR⟩
end Go.Proofs.Ytdniejpblhbjkab
