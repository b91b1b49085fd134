/-
  Contracts and plain mathematics, joined: BeginsOf, LeastW, FollowsOf, FollowOf, MIntS, MIntSS, MIntSSS, MGram, FollowOfLaw. No statement is proved here.
-/
import Derived.Test.YtdniejpblhbjkabG6
import Derived.Test.YtdniejpblhbjkabG5
import Derived.Test.YtdniejpblhbjkabG4
import Derived.Test.YtdniejpblhbjkabG2
import Derived.Test.YtdniejpblhbjkabG3
namespace Go.Proofs.Ytdniejpblhbjkab
open Go.RowKit

theorem at567 {E T : List Bool} (h1 : E.length = 27) (h2 : T.length = 540) : BitT Try.prog 52 (E ++ T).length := by rw [List.length_append, h1, h2]; exact bt_begin

set_option maxHeartbeats 2000000 in
set_option maxRecDepth 100000 in
theorem beginningsOf_any (P : List (List (List Int))) (a0 : Option Addr) (c0 : Nat) (w : World) (h0 : RD w (.slice a0 P.length c0) (slD (Lay.list (Lay.list Lay.int)) P)) (hok : gramOkB P = true) :
    Calls Try.prog 33 #[.agg #[.slice a0 P.length c0]] w fun e w' => ∃ T, e = .returned (aggB (flagsOf (emptiesL P) ++ T)) ∧ T.length = 540 ∧ Hid (∀ j c, j < 20 → c < 27 → (T.getD (j * 27 + c) false = true ↔ (c : Int) ∈ (firstsL P).getD j [])) ∧ Below w.heap.size w w' := by
  have hfl := flagsOf_length (emptiesL P)
  have HIS : Hid (∀ T : List Bool, T.length = 540 → Grows (bgR (flagsOf (emptiesL P))) P (List.replicate 540 false) T → leK (bgR (flagsOf (emptiesL P))) P T P.length = T → ∀ j c, j < 20 → c < 27 → (T.getD (j * 27 + c) false = true ↔ (c : Int) ∈ (firstsL P).getD j [])) := fun T h1 h2 h3 j c hj hc => firstsOf_tab hok h1 h2 h3 hj hc
  have HE : Hid (∀ W : World, Below w.heap.size w W → Calls Try.prog 54 #[.agg #[.slice a0 P.length c0]] W fun e w' => e = .returned (aggB (flagsOf (emptiesL P))) ∧ Below W.heap.size W w') := fun W hW => emptiesOf_any P a0 c0 W (h0.later hW) hok
  have HRZ : Hid (Raises (bgR (flagsOf (emptiesL P))) P 540) := bgR_raises _ _
  have HCL : Hid (∀ (W0 : World) (bE : Nat), Bits W0 bE 52 (flagsOf (emptiesL P) ++ List.replicate 540 false) → ∀ (W : World) (b : Nat) (T : List Bool) (k : Nat) (hk : k < P.length) (i : Nat) (hi : i < P[k].length) (a : Option Addr) (c : Nat), Below W0.heap.size W0 W → W0.heap.size ≤ b → Bits W b 50 T → T.length = 540 → RD W0 (.slice a P[k][i].length c) (slD Lay.int P[k][i]) →
      Calls Try.prog 56 #[.pointer (some ⟨b, 0, none⟩), .int .i64 (k : Int), .slice a P[k][i].length c, .pointer (some ⟨bE, 0, none⟩)] W fun e w' => e = .returned (.tuple #[]) ∧ Bits w' b 50 (bgR (flagsOf (emptiesL P)) k P[k][i] T) ∧ W.grownBy w' (some b)) := by
    intro W0 bE hE W b T k hk i hi a c hW hb hB hT hr
    have hp := (Fits.of hok).parts
    have hl8 := (Fits.of hok).rows _ (List.getElem_mem hk) _ (List.getElem_mem hi)
    exact beginStep_any b bE T (flagsOf (emptiesL P)) (List.replicate 540 false) k P[k][i] a c W hB hT (hE.later hW) (flagsOf_length _) (by omega) (hr.later hW).reads (fun z hz => by have := symsOk hok hk hi z hz; omega) (by omega)
  have HOK : Hid (gramOkB P = true) := hok
  have HR0 : Hid (RD w (.slice a0 P.length c0) (slD (Lay.list (Lay.list Lay.int)) P)) := h0
  have B0 := (Below.refl w.heap.size w).alloc (Nat.le_refl _) (.cells #[.slice a0 P.length c0] 28)
  have hsb : (w.alloc (.cells #[.slice a0 P.length c0] 28)).heap.size = w.heap.size + 1 := by simp
  have HQ0 : Hid ((w.alloc (.cells #[.slice a0 P.length c0] 28)).cell? ⟨w.heap.size, 0, none⟩ = some (.slice a0 P.length c0)) := by show _ = _; simp
  clear h0 hok
  generalize flagsOf (emptiesL P) = E at *
  have hEZ : (E ++ List.replicate 540 false).length = 567 := by rw [List.length_append, hfl, List.length_replicate]
  go_enter Try.func33, Try.ntmps33
  go_wp2_with (refine wpList_allocB (w := w.alloc _) rfl 52 rfl 567 bt_begin ?_; rw [hsb]; intro w1 hB1 hb1 hs1; have g1 := (hb1.cell (p := ⟨w.heap.size, 0, none⟩) (by simp)).trans HQ0.out)
  have b1 : Below w.heap.size w w1 := B0.trans (hb1.mono (by omega))
  refine (HE.out _ b1).mono ?_
  rintro e w2 ⟨rfl, hb2⟩
  have g2 := (hb2.cell (p := ⟨w.heap.size, 0, none⟩) (by simp; omega)).trans g1
  have b2 := b1.trans (hb2.mono b1.size)
  have hB2 := hB1.later hb2
  have hnr := hB2.lt
  clear HE HQ0 hB1 hb1 g1 B0 hb2 b1
  go_wp2_with (first | (refine wpList_begin1 (w := w2) rfl _ rfl E rfl hfl ?_) | (refine wpList_allocB (w := w2) rfl 52 rfl 567 bt_begin ?_; intro w3 hB3 hb3 hs3) | (refine wpList_storeB (w := w3) rfl 52 _ _ rfl w2.heap.size 0 52 _ (E ++ List.replicate 540 false) rfl rfl (at567 hfl List.length_replicate) hB3 (by rw [List.length_replicate, hEZ]; decide) ?_; intro w4 hB4 hg4; have g4 : w4.cell? ⟨w.heap.size, 0, none⟩ = some (.slice a0 P.length c0) := (World.cell?_of_block (w := w3) (a := ⟨w.heap.size, 0, none⟩) (hg4.block w.heap.size (by omega) (some_ne (by omega)))).trans ((hb3.cell (p := ⟨w.heap.size, 0, none⟩) (by simp; omega)).trans g2)) | (refine wpList_build0 rfl 50 47 540 20 27 rfl bt_table u_table bt_flags.size ?_))
  have e4 : putB (List.replicate 567 false) 0 (E ++ List.replicate 540 false) = E ++ List.replicate 540 false := putB_whole (by rw [List.length_replicate]; exact hEZ)
  rw [e4] at hB4
  have b4 : Below w.heap.size w w4 := (b2.trans (hb3.mono b2.size)).grown hg4 (by have := b2.size; omega) (fun j hj => by cases hj; exact b2.size)
  have hBR : Bits w4 (w.heap.size + 1) 52 (List.replicate 567 false) := (hB2.later hb3).grown hg4 (some_ne (by omega))
  refine (least_B (bgR E) (.pointer (some ⟨w2.heap.size, 0, none⟩)) P a0 c0 (List.replicate 540 false) w4 (HR0.out.later b4) HOK.out List.length_replicate HRZ.out (fun W b T k hk i hi a c h1 h2 h3 h4 h5 => HCL.out w4 w2.heap.size hB4 W b T k hk i hi a c h1 h2 h3 h4 h5)).mono ?_
  rintro e w5 ⟨T, rfl, hTl, hG, hfx, hb5⟩
  have HI : Hid (∀ j c, j < 20 → c < 27 → (T.getD (j * 27 + c) false = true ↔ (c : Int) ∈ (firstsL P).getD j [])) := HIS.out T hTl hG hfx
  have b5 := b4.trans (hb5.mono b4.size)
  have hB5 := hBR.later hb5
  have hB5b := hB4.later hb5
  have hnn : w2.heap.size ≠ w.heap.size + 1 := by omega
  have hnw := b2.size
  clear hG hfx hb5 hBR hB4 hg4 hb3 hs3 hB3 hB2 b2 b4 HIS HCL HRZ HR0 HOK g4 e4
  generalize w2.heap.size = nB at *
  have hET : putB (E ++ List.replicate 540 false) 27 T = E ++ T := by
    have := @putB_tail E (List.replicate 540 false) T (by rw [List.length_replicate]; exact hTl)
    rwa [hfl] at this
  have HET : Hid (putB (E ++ List.replicate 540 false) 27 T = E ++ T) := hET
  have hETl : (E ++ T).length = 567 := by rw [List.length_append, hfl, hTl]
  have HEZ : Hid ((E ++ List.replicate 540 false).length = 567) := hEZ
  clear hET hEZ
  go_wp2_with (first | (refine wpList_storeB (w := w5) rfl 50 _ _ rfl nB 27 52 _ T rfl rfl (at540B hTl) hB5b (by rw [HEZ.out, hTl]; decide) ?_; intro w6 hB6 hg6; rw [HET.out] at hB6; have hB6r := hB5.grown hg6 (some_ne hnn)) | (refine wpList_loadW (w := w6) rfl 52 _ rfl nB 52 (E ++ T) rfl (at567 hfl hTl) hB6 ?_) | (refine wpList_storeB (w := w6) rfl 52 _ _ rfl (w.heap.size + 1) 0 52 _ (E ++ T) rfl rfl (at567 hfl hTl) hB6r (by rw [List.length_replicate, hETl]; decide) ?_; intro w7 hB7 hg7))
  have e7 : putB (List.replicate 567 false) 0 (E ++ T) = E ++ T := putB_whole (by rw [List.length_replicate]; exact hETl)
  rw [e7] at hB7
  have b6 : Below w.heap.size w w6 := b5.grown hg6 b5.size (fun j hj => by cases hj; exact hnw)
  have b7 : Below w.heap.size w w7 := b6.grown hg7 b6.size (fun j hj => by cases hj; omega)
  refine bodyPost_ret (v := aggB (E ++ T)) (ret_cell 52 rfl rfl hB7 (at567 hfl hTl)) rfl ⟨T, rfl, hTl, HI, b7⟩
end Go.Proofs.Ytdniejpblhbjkab
namespace Go.Proofs.Ytdniejpblhbjkab
open Go.RowKit

theorem at540W {T : List Bool} (hl : T.length = 540) : BitT Try.prog 50 T.length := by rw [hl]; exact bt_table
theorem eq_table540W {w : World} {cs bs : List Bool} (h1 : cs.length = 540) (h2 : bs.length = 540) : (Op.equalIn 10000 50 (aggB cs) (aggB bs)).run Try.prog w = .ok (decide (cs = bs)) w := run_eq_table (m := 20) (n := 27) 9997 (by kernel_rfl) u_flags u_bool bt_flags.size bool_size h1 h2
theorem guard_tableW : Try.prog.eqGuardType Try.prog.depth 50 = false := by kernel_rfl
theorem ahead_tableW {n1 nR : Nat} {w2 wr w3 w4 : World} {t : TypeId} {T Z : List Bool} (hbel : Below n1 w2 wr) (hn : n1 < wr.heap.size) (hBT : Bits wr n1 t T) (hBR : Bits wr nR t Z) (hb3 : Below wr.heap.size wr w3) (hs3 : w3.heap.size = wr.heap.size + 1) (hTl : T.length = 540) (hB4 : Bits w4 wr.heap.size 50 (putB (List.replicate 540 false) 0 T)) (hg4 : w3.grownBy w4 (some wr.heap.size)) :
    Below n1 w2 w4 ∧ Bits w4 n1 t T ∧ Bits w4 wr.heap.size 50 T ∧ Bits w4 nR t Z := by
  have e : putB (List.replicate 540 false) 0 T = T := putB_whole (by rw [List.length_replicate]; exact hTl)
  rw [e] at hB4
  have hl2 := hBR.lt
  refine ⟨?_, ?_, hB4, ?_⟩
  · exact (hbel.trans (hb3.mono (by omega))).grown hg4 (by omega) (fun k hk => by cases hk; omega)
  · exact (hBT.later hb3).grown hg4 (by intro h; cases h; omega)
  · exact (hBR.later hb3).grown hg4 (by intro h; cases h; omega)

set_option maxHeartbeats 4000000 in
set_option maxRecDepth 100000 in
theorem least_W (st : Nat → List Int → List Bool → List Bool) (cap : Value) (P : List (List (List Int))) (a0 : Option Addr) (c0 : Nat) (T0 : List Bool) (w : World) (h0 : RD w (.slice a0 P.length c0) (slD (Lay.list (Lay.list Lay.int)) P)) (hok : gramOkB P = true) (hT0 : T0.length = 540) (hRz : Raises st P 540)
    (hcl : ∀ (W : World) (b : Nat) (T : List Bool) (k : Nat) (hk : k < P.length) (i : Nat) (hi : i < P[k].length) (a : Option Addr) (c : Nat), Below w.heap.size w W → w.heap.size ≤ b → Bits W b 50 T → T.length = 540 → RD w (.slice a P[k][i].length c) (slD Lay.int P[k][i]) →
      Calls Try.prog 61 #[.pointer (some ⟨b, 0, none⟩), .int .i64 (k : Int), .slice a P[k][i].length c, cap] W fun e w' => e = .returned (.tuple #[]) ∧ Bits w' b 50 (st k P[k][i] T) ∧ W.grownBy w' (some b)) :
    Calls Try.prog 55 #[.agg #[.slice a0 P.length c0], aggB T0, .func (.func 61) #[] #[cap]] w fun e w' => ∃ T, e = .returned (aggB T) ∧ T.length = 540 ∧ Grows st P T0 T ∧ leK st P T P.length = T ∧ Below w.heap.size w w' := by
  have F := Fits.of hok
  have HF : Hid (Fits P) := F
  have hp := F.parts
  have HRz : Hid (Raises st P 540) := hRz
  have HCL : Hid (∀ (W : World) (b : Nat) (T : List Bool) (k : Nat) (hk : k < P.length) (i : Nat) (hi : i < P[k].length) (a : Option Addr) (c : Nat), Below w.heap.size w W → w.heap.size ≤ b → Bits W b 50 T → T.length = 540 → RD w (.slice a P[k][i].length c) (slD Lay.int P[k][i]) →
      Calls Try.prog 61 #[.pointer (some ⟨b, 0, none⟩), .int .i64 (k : Int), .slice a P[k][i].length c, cap] W fun e w' => e = .returned (.tuple #[]) ∧ Bits w' b 50 (st k P[k][i] T) ∧ W.grownBy w' (some b)) := hcl
  clear F hok hRz hcl
  have B0 := (Below.refl w.heap.size w).alloc (Nat.le_refl _) (.cells #[.slice a0 P.length c0] 28)
  have HQ0 : Hid ((w.alloc (.cells #[.slice a0 P.length c0] 28)).cell? ⟨w.heap.size, 0, none⟩ = some (.slice a0 P.length c0)) := by show _ = _; simp
  have HR0 : Hid (RD w (.slice a0 P.length c0) (slD (Lay.list (Lay.list Lay.int)) P)) := h0
  have hsb : (w.alloc (.cells #[.slice a0 P.length c0] 28)).heap.size = w.heap.size + 1 := by simp
  clear h0
  go_enter Try.func55, Try.ntmps55
  go_wp2_with (first | (refine wpList_boxB (w := w.alloc _) rfl 50 _ rfl T0 rfl ?_; rw [hsb]; intro w1 hB1 hb1 hs1) | (refine wpList_allocB (w := w1) rfl 50 rfl 540 bt_table ?_; intro w2 hB2 hb2 hs2))
  generalize w.alloc (.cells #[.slice a0 P.length c0] 28) = wb at *
  simp only [Act.put, List.setIfInBounds_toArray, List.set_cons_zero, List.set_cons_succ]
  have hB12 := hB1.below hb2 (by omega)
  have HQ : Hid (∀ W, Below (w.heap.size + 1) w2 W → W.cell? ⟨w.heap.size, 0, none⟩ = some (.slice a0 P.length c0) ∧ Below w.heap.size w W) := by
    intro W hW
    have b1 : Below (w.heap.size + 1) wb W := hb1.trans ((hb2.mono (by omega)).trans hW)
    exact ⟨(b1.cell (p := ⟨w.heap.size, 0, none⟩) (by simp)).trans HQ0.out, B0.trans (b1.mono (by omega))⟩
  have hnR : w1.heap.size = w.heap.size + 2 := by omega
  have hwr0 : w.heap.size ≤ w1.heap.size := by omega
  have hneq : w1.heap.size ≠ w.heap.size + 1 := by omega
  clear HQ0 B0 hB1 hb1 hs1 hb2 hs2 hnR
  generalize w1.heap.size = nR at *
  have HNR : Hid (nR ≠ w.heap.size + 1) := hneq
  have HWR : Hid (w.heap.size ≤ nR) := hwr0
  have hnw : w.heap.size < w.heap.size + 1 := by omega
  obtain ⟨n1, Hn1⟩ : ∃ n1, Hid (w.heap.size + 1 = n1) := ⟨_, rfl⟩
  rw [Hn1.out] at hB12 HQ HNR hnw
  rw [Hn1.out]
  clear hneq hsb Hn1 hwr0
  go_loopg [] 540 (fun g wr => ∃ T : List Bool, Aside (T.length = 540 ∧ 540 ≤ cntB T + g ∧ Grows st P T0 T ∧ Bits wr n1 50 T ∧ Below n1 w2 wr ∧ Bits wr nR 50 (List.replicate 540 false)))
  case atStart => exact ⟨T0, hT0, by omega, Grows.refl _ _, hB12, Below.refl _ _, hB2⟩
  case round =>
    obtain ⟨T, A⟩ := hrel
    have hTl := A.out.1
    have HTg : Hid (540 ≤ cntB T + gk) := A.out.2.1
    have HTG : Hid (Grows st P T0 T) := A.out.2.2.1
    have hBT := A.out.2.2.2.1
    have hbel := A.out.2.2.2.2.1
    have hBR := A.out.2.2.2.2.2
    clear A hB2 hB12
    have hnr := hBT.lt
    go_wp2_with (first | (refine wpList_loadW rfl 50 _ rfl n1 50 T rfl (at540W hTl) hBT ?_) | (refine wpList_allocB rfl 50 rfl 540 bt_table ?_; intro w3 hB3 hb3 hs3) | (refine wpList_storeB rfl 50 _ _ rfl wr.heap.size 0 50 _ T rfl rfl (at540W hTl) hB3 (by rw [List.length_replicate, hTl]; decide) ?_; intro w4 hB4 hg4; obtain ⟨hbel4, hBT4, hBA4, hBR4⟩ := ahead_tableW hbel hnr hBT hBR hb3 hs3 hTl hB4 hg4; obtain ⟨q4, _⟩ := HQ.out w4 hbel4))
    have hnA : n1 < wr.heap.size := hnr
    have hnA2 : nR < wr.heap.size := hBR.lt
    generalize wr.heap.size = nA at *
    clear hB3 hb3 hs3 hB4 hg4 hBT hbel hnr hBR
    go_loopw [16] (fun s wk => ∃ k : Nat, k ≤ P.length ∧ s = .int .i64 k ∧ Bits wk n1 50 (leK st P T k) ∧ Bits wk nA 50 T ∧ Below n1 w2 wk ∧ Bits wk nR 50 (List.replicate 540 false)) (fun s _ => P.length - (intOf s).toNat)
    case atStart => exact ⟨0, Nat.zero_le _, rfl, hBT4, hBA4, hbel4, hBR4⟩
    case round =>
      obtain ⟨k, hk, rfl, hBk, hBA, hbk, hBR⟩ := hrel
      clear hBT4 hBA4 hbel4 q4 hBR4
      by_cases hlk : k < P.length
      · have HK : Hid (leK st P T (k + 1) = leI st k P[k] (leK st P T k) P[k].length) := leK_next hlk
        have hm := List.getElem_mem hlk
        have hQ := HF.out.alts _ hm
        have HLe : Hid (∀ i, i ≤ P[k].length → (leI st k P[k] (leK st P T k) i).length = 540) := fun i hi => (HRz.out.leI hlk (HRz.out.leK hTl k hk).1 i hi).1
        have HC1 : Hid (∀ (W : World) (b : Nat) (T : List Bool) (i : Nat) (hi : i < P[k].length) (a : Option Addr) (c : Nat), Below w.heap.size w W → w.heap.size ≤ b → Bits W b 50 T → T.length = 540 → RD w (.slice a P[k][i].length c) (slD Lay.int P[k][i]) →
          Calls Try.prog 61 #[.pointer (some ⟨b, 0, none⟩), .int .i64 (k : Int), .slice a P[k][i].length c, cap] W fun e w' => e = .returned (.tuple #[]) ∧ Bits w' b 50 (st k P[k][i] T) ∧ W.grownBy w' (some b)) := fun W b T i hi a c => HCL.out W b T k hlk i hi a c
        obtain ⟨b1, o1, ea0, hb1, a1, c1, q0', r1⟩ := HR0.out.listAt hlk
        have HR1 : Hid (RD w (.slice a1 P[k].length c1) (slD (Lay.list Lay.int) P[k])) := r1
        have q0 := ((HQ.out wr hbk).2.cell (p := ⟨b1, o1 + k, none⟩) hb1).trans q0'
        subst ea0
        clear r1 q0' hm hb1
        generalize leK st P T k = Tk at *
        generalize P[k] = Q at *
        go_wp2
        go_loopw [23] (fun s wk => ∃ i : Nat, i ≤ Q.length ∧ s = .int .i64 i ∧ Bits wk n1 50 (leI st k Q Tk i) ∧ Bits wk nA 50 T ∧ Below n1 w2 wk ∧ Bits wk nR 50 (List.replicate 540 false)) (fun s _ => Q.length - (intOf s).toNat)
        case atStart => exact ⟨0, Nat.zero_le _, rfl, hBk, hBA, hbk, hBR⟩
        case round =>
          obtain ⟨i, hi, rfl, hBi, hBAi, hbi, hBRi⟩ := hrel
          clear hBk hBA hbk q0 hBR
          by_cases hli : i < Q.length
          · have HE : Hid (leI st k Q Tk (i + 1) = st k Q[i] (leI st k Q Tk i)) := leI_next hli
            have hTi := HLe.out i hi
            obtain ⟨b2, o2, ea1, hb2, a2, c2, q1', r2⟩ := HR1.out.listAt hli
            have hbw := (HQ.out wr hbi).2
            have q1 := (hbw.cell (p := ⟨b2, o2 + i, none⟩) hb2).trans q1'
            subst ea1
            have X := HC1.out wr n1 _ i hli a2 c2 hbw (by omega) hBi hTi r2
            have HX : Hid (Calls Try.prog 61 #[.pointer (some ⟨n1, 0, none⟩), .int .i64 (k : Int), .slice a2 Q[i].length c2, cap] wr fun e w' => e = .returned (.tuple #[]) ∧ Bits w' n1 50 (st k Q[i] (leI st k Q Tk i)) ∧ wr.grownBy w' (some n1)) := X
            rw [← HE.out] at HX
            have hn1r := hBi.lt
            clear r2 q1' hb2 X HE hbw
            generalize Q[i] = R at *
            go_wp2_with (go_at_call 61; refine HX.out.mono ?_; rintro e w5 ⟨rfl, hB5, hg5⟩)
            go_roundw
            case rel => exact ⟨i + 1, by omega, by go_num, hB5, hBAi.grown hg5 (by intro h; cases h; omega), hbi.grown hg5 (by omega) (fun j hj => by cases hj; omega), hBRi.grown hg5 (by intro h; cases h; exact HNR.out rfl)⟩
            case measure => simp [intOf]; omega
          · have e : i = Q.length := by omega
            subst e
            have HKe := HK
            clear HK
            go_wp2
            go_roundw
            case rel => exact ⟨k + 1, by omega, by go_num, by rw [HKe.out]; exact hBi, hBAi, hbi, hBRi⟩
            case measure => simp [intOf]; omega
      · have e : k = P.length := by omega
        subst e
        have hLl := (HRz.out.leK hTl P.length (Nat.le_refl _))
        have HL2 : Hid (leK st P T P.length = T ∨ cntB T < cntB (leK st P T P.length)) := hLl.2
        have hLl1 := hLl.1
        have HLG : Hid (Grows st P T0 (leK st P T P.length)) := HTG.out.leK _ (Nat.le_refl _)
        have HLc : Hid (cntB (leK st P T P.length) ≤ 540) := by show _ ≤ _; have := cntB_le (leK st P T P.length); omega
        clear hLl
        by_cases hfix : leK st P T P.length = T
        · have HX : Hid (leK st P T P.length = T) := hfix
          rw [hfix] at hBk
          clear hfix HL2 hLl1
          have hBel := (HQ.out wr hbk).2
          go_wp2_with (first | (refine wpList_loadW rfl 50 _ rfl n1 50 T rfl (at540W hTl) hBk ?_) | (refine wpList_loadW rfl 50 _ rfl nA 50 T rfl (at540W hTl) hBA ?_) | (refine wpList_eqlB rfl 50 _ _ _ rfl T T rfl rfl guard_tableW (eq_table540W hTl hTl) ?_; rw [decide_eq_true (rfl : T = T)]) | (refine wpList_storeB rfl 50 _ _ rfl nR 0 50 _ T rfl rfl (at540W hTl) hBR (by rw [List.length_replicate, hTl]; decide) ?_; intro w5 hB5 hg5))
          have e5 : putB (List.replicate 540 false) 0 T = T := putB_whole (by rw [List.length_replicate]; exact hTl)
          rw [e5] at hB5
          have hb5 : Below w.heap.size w w5 := hBel.grown hg5 hBel.size (fun j hj => by cases hj; exact HWR.out)
          refine bodyPost_ret (v := aggB T) (ret_cell 50 rfl rfl hB5 (at540W hTl)) rfl ⟨T, rfl, hTl, HTG.out, HX.out, hb5⟩
        · have hcnt : cntB T < cntB (leK st P T P.length) := HL2.out.resolve_left hfix
          have hdec : decide (leK st P T P.length = T) = false := decide_eq_false hfix
          clear hfix HL2
          generalize leK st P T P.length = T2 at *
          go_wp2_with (first | (refine wpList_loadW rfl 50 _ rfl n1 50 T2 rfl (at540W hLl1) hBk ?_) | (refine wpList_loadW rfl 50 _ rfl nA 50 T rfl (at540W hTl) hBA ?_) | (refine wpList_eqlB rfl 50 _ _ _ rfl T2 T rfl rfl guard_tableW (eq_table540W hLl1 hTl) ?_; rw [hdec]))
          go_roundg (gk - 1)
          case measure => have := HTg.out; have := HLc.out; omega
          case rel => exact ⟨T2, hLl1, by have := HTg.out; have := HLc.out; omega, HLG.out, hBk, hbk, hBR⟩
end Go.Proofs.Ytdniejpblhbjkab
namespace Go.Proofs.Ytdniejpblhbjkab
open Go.RowKit

set_option maxHeartbeats 2000000 in
set_option maxRecDepth 100000 in
theorem followsOf_any (P : List (List (List Int))) (a0 : Option Addr) (c0 : Nat) (w : World) (h0 : RD w (.slice a0 P.length c0) (slD (Lay.list (Lay.list Lay.int)) P)) (hok : gramOkB P = true) :
    Calls Try.prog 41 #[.agg #[.slice a0 P.length c0]] w fun e w' => ∃ T, e = .returned (aggB T) ∧ T.length = 540 ∧ Hid (∀ k, k < P.length → numsB (fun c => T.getD (k * 27 + c) false) 27 = (followsL P).getD k []) ∧ Below w.heap.size w w' := by
  have HIS : Hid (∀ TF : List Bool, TF.length = 540 → (∀ j c, j < 20 → c < 27 → (TF.getD (j * 27 + c) false = true ↔ (c : Int) ∈ (firstsL P).getD j [])) → ∀ T : List Bool, T.length = 540 → Grows (fwR (flagsOf (emptiesL P) ++ TF)) P ((List.replicate 540 false).set 26 true) T → leK (fwR (flagsOf (emptiesL P) ++ TF)) P T P.length = T → ∀ k, k < P.length → numsB (fun c => T.getD (k * 27 + c) false) 27 = (followsL P).getD k []) := fun TF _ hF T h1 h2 h3 k hk =>
    followsOf_is hok ⟨fun zs c hc => ofB_has hok hF zs hc, fun zs hz => ofB_all _ _ zs _ hz⟩ h1 h2 h3 hk
  obtain ⟨T0, HT0⟩ : ∃ T0 : List Bool, Hid ((List.replicate 540 false).set 26 true = T0) := ⟨_, rfl⟩
  have hT0l : T0.length = 540 := by rw [← HT0.out, List.length_set, List.length_replicate]
  rw [HT0.out] at HIS
  have HE : Hid (∀ W : World, Below w.heap.size w W → Calls Try.prog 33 #[.agg #[.slice a0 P.length c0]] W fun e w' => ∃ T, e = .returned (aggB (flagsOf (emptiesL P) ++ T)) ∧ T.length = 540 ∧ Hid (∀ j c, j < 20 → c < 27 → (T.getD (j * 27 + c) false = true ↔ (c : Int) ∈ (firstsL P).getD j [])) ∧ Below W.heap.size W w') := fun W hW => beginningsOf_any P a0 c0 W (h0.later hW) hok
  have HCL : Hid (∀ (B : List Bool) (W0 : World) (bE : Nat), B.length = 567 → Bits W0 bE 52 B → ∀ (W : World) (b : Nat) (T : List Bool) (k : Nat) (hk : k < P.length) (i : Nat) (hi : i < P[k].length) (a : Option Addr) (c : Nat), Below W0.heap.size W0 W → W0.heap.size ≤ b → Bits W b 50 T → T.length = 540 → RD W0 (.slice a P[k][i].length c) (slD Lay.int P[k][i]) →
      Calls Try.prog 61 #[.pointer (some ⟨b, 0, none⟩), .int .i64 (k : Int), .slice a P[k][i].length c, .pointer (some ⟨bE, 0, none⟩)] W fun e w' => e = .returned (.tuple #[]) ∧ Bits w' b 50 (fwR B k P[k][i] T) ∧ W.grownBy w' (some b)) := by
    intro B W0 bE hBl hE W b T k hk i hi a c hW hb hB hT hr
    have hp := (Fits.of hok).parts
    have hl8 := (Fits.of hok).rows _ (List.getElem_mem hk) _ (List.getElem_mem hi)
    have hlt := hE.lt
    exact followsStep_any b bE T B k P[k][i] a c W hB hT (hE.later hW) hBl (by omega) (by omega) W0 hr.reads hr.capL hW hb (fun z hz => by have := symsOk hok hk hi z hz; omega) (by omega)
  have HOK : Hid (gramOkB P = true) := hok
  have HR0 : Hid (RD w (.slice a0 P.length c0) (slD (Lay.list (Lay.list Lay.int)) P)) := h0
  have B0 := (Below.refl w.heap.size w).alloc (Nat.le_refl _) (.cells #[.slice a0 P.length c0] 28)
  have hsb : (w.alloc (.cells #[.slice a0 P.length c0] 28)).heap.size = w.heap.size + 1 := by simp
  have HQ0 : Hid ((w.alloc (.cells #[.slice a0 P.length c0] 28)).cell? ⟨w.heap.size, 0, none⟩ = some (.slice a0 P.length c0)) := by show _ = _; simp
  have hfl := flagsOf_length (emptiesL P)
  clear h0 hok
  generalize flagsOf (emptiesL P) = E at *
  go_enter Try.func41, Try.ntmps41
  go_wp2_with (refine wpList_allocB (w := w.alloc _) rfl 50 rfl 540 bt_table ?_; rw [hsb]; intro w1 hB1 hb1 hs1; have g1 := (hb1.cell (p := ⟨w.heap.size, 0, none⟩) (by simp)).trans HQ0.out)
  have b1 : Below w.heap.size w w1 := B0.trans (hb1.mono (by omega))
  refine (HE.out _ b1).mono ?_
  rintro e w2 ⟨TF, rfl, hTFl, HTF, hb2⟩
  have g2 := (hb2.cell (p := ⟨w.heap.size, 0, none⟩) (by simp; omega)).trans g1
  have b2 := b1.trans (hb2.mono b1.size)
  have hB2 := hB1.later hb2
  have hnr := hB2.lt
  have HIS2 : Hid (∀ T : List Bool, T.length = 540 → Grows (fwR (E ++ TF)) P T0 T → leK (fwR (E ++ TF)) P T P.length = T → ∀ k, k < P.length → numsB (fun c => T.getD (k * 27 + c) false) 27 = (followsL P).getD k []) := HIS.out TF hTFl HTF.out
  have hBl : (E ++ TF).length = 567 := by rw [List.length_append, hfl, hTFl]
  have hat : BitT Try.prog 52 (E ++ TF).length := at567 hfl hTFl
  clear HE HQ0 hB1 hb1 g1 B0 hb2 b1 HIS HTF hTFl hfl
  generalize E ++ TF = B at *
  have HBl : Hid (B.length = 567) := hBl
  have hnw := b2.size
  go_wp2_with (first | (refine wpList_allocB (w := w2) rfl 52 rfl 567 bt_begin ?_; intro w3 hB3 hb3 hs3) | (refine wpList_storeB (w := w3) rfl 52 _ _ rfl w2.heap.size 0 52 _ B rfl rfl hat hB3 (by rw [List.length_replicate, HBl.out]; decide) ?_; intro w4 hB4 hg4; rw [putB_whole (by rw [List.length_replicate]; exact HBl.out)] at hB4; have g4 : w4.cell? ⟨w.heap.size, 0, none⟩ = some (.slice a0 P.length c0) := (World.cell?_of_block (w := w3) (a := ⟨w.heap.size, 0, none⟩) (hg4.block w.heap.size (by omega) (some_ne (by omega)))).trans ((hb3.cell (p := ⟨w.heap.size, 0, none⟩) (by simp; omega)).trans g2); have hn4 : w2.heap.size < w4.heap.size := hB4.lt; have b4 : Below w.heap.size w w4 := (b2.trans (hb3.mono b2.size)).grown hg4 (by have := b2.size; omega) (fun j hj => by cases hj; exact b2.size); have hBR4 : Bits w4 (w.heap.size + 1) 50 (List.replicate 540 false) := (hB2.later hb3).grown hg4 (some_ne (by omega)); clear hB3 hb3 hs3 hg4) | (refine wpList_allocB (w := w4) rfl 50 rfl 540 bt_table ?_; intro w5 hB5 hb5 hs5; have q5 := hB5.cell (n := 26) (by rw [List.length_replicate]; decide); have f5 := hB5.frozen 26; have g5 : w5.cell? ⟨w.heap.size, 0, none⟩ = some (.slice a0 P.length c0) := (hb5.cell (p := ⟨w.heap.size, 0, none⟩) (by simp; omega)).trans g4; have hne : w.heap.size ≠ w4.heap.size := (by omega); have hn5 : w4.heap.size < w5.heap.size := (by omega); have hB5s := hB5.set 26 true; rw [HT0.out] at hB5s; clear hs5) | (refine wpList_loadW (w := w5.setCell _ _) rfl 50 _ rfl w4.heap.size 50 T0 rfl (at540W hT0l) hB5s ?_))
  have b5 : Below w.heap.size w w5 := b4.trans (hb5.mono b4.size)
  have b4s := b4.size
  have b6 : Below w.heap.size w (w5.setCell ⟨w4.heap.size, 26, none⟩ (.bool true)) := b5.setCell (p := ⟨w4.heap.size, 26, none⟩) b4s _
  have hBE : Bits (w5.setCell ⟨w4.heap.size, 26, none⟩ (.bool true)) w2.heap.size 52 B := (hB4.later hb5).grown (setCell_grown _ _ _ _) (some_ne (by omega))
  have hBR : Bits (w5.setCell ⟨w4.heap.size, 26, none⟩ (.bool true)) (w.heap.size + 1) 50 (List.replicate 540 false) := (hBR4.later hb5).grown (setCell_grown _ _ _ _) (some_ne (by omega))
  refine (least_W (fwR B) (.pointer (some ⟨w2.heap.size, 0, none⟩)) P a0 c0 T0 _ (HR0.out.later b6) HOK.out hT0l (fwR_raises _ _) (fun W b T k hk i hi a c h1 h2 h3 h4 h5 => HCL.out B _ w2.heap.size hBl hBE W b T k hk i hi a c h1 h2 h3 h4 h5)).mono ?_
  rintro e w7 ⟨T, rfl, hTl, hG, hfx, hb7⟩
  have HI : Hid (∀ k, k < P.length → numsB (fun c => T.getD (k * 27 + c) false) 27 = (followsL P).getD k []) := HIS2.out T hTl hG hfx
  have b7 := b6.trans (hb7.mono b6.size)
  have hB7 := hBR.later hb7
  clear hG hfx hb7 hBR hBE hB4 hB5 hB5s q5 f5 g5 g4 b4 b5 b6 hBR4 HIS2 HCL HR0 HOK
  go_wp2_with (refine wpList_storeB (w := w7) rfl 50 _ _ rfl (w.heap.size + 1) 0 50 _ T rfl rfl (at540W hTl) hB7 (by rw [List.length_replicate, hTl]; decide) ?_; intro w8 hB8 hg8)
  have e8 : putB (List.replicate 540 false) 0 T = T := putB_whole (by rw [List.length_replicate]; exact hTl)
  rw [e8] at hB8
  have b8 : Below w.heap.size w w8 := b7.grown hg8 b7.size (fun j hj => by cases hj; omega)
  refine bodyPost_ret (v := aggB T) (ret_cell 50 rfl rfl hB8 (at540W hTl)) rfl ⟨T, rfl, hTl, HI, b8⟩
end Go.Proofs.Ytdniejpblhbjkab
namespace Go.Proofs.Ytdniejpblhbjkab
open Go.RowKit

set_option maxRecDepth 100000 in
theorem followOf_any (x : Gm) (a0 : Option Addr) (c0 : Nat) (n : Int) (w : World) (h0 : RD w (.slice a0 x.parts.length c0) (slD (Lay.list (Lay.list Lay.int)) x.parts)) (hn : Lay.gram.wt x ≤ 1048576) (hf : Lay.gram.fit x) (hwf : (Lit.int .i64 n).wf = true) :
    Calls Try.prog 19 #[.agg #[.slice a0 x.parts.length c0], .int .i64 n] w fun e w' => ∃ v S, e = .returned v ∧ OD w' w.heap.size v (slD Lay.int (resFollowOf x n)) S ∧ Below w.heap.size w w' := by
  unfold resFollowOf
  have B0 := (Below.refl w.heap.size w).alloc (Nat.le_refl _) (.cells #[.slice a0 x.parts.length c0] 28)
  have HT : Hid (∀ W : World, Below w.heap.size w W → Calls Try.prog 40 #[.agg #[.slice a0 x.parts.length c0], .int .i64 n] W fun e w' => e = .returned (.bool (gramOkB x.parts && inB n 0 (x.parts.length - 1))) ∧ Below W.heap.size W w') := fun W hW => isThere_any x a0 c0 n W (h0.later hW) hn hf hwf
  have HS : Hid (gramOkB x.parts = true → ∀ W : World, Below w.heap.size w W → Calls Try.prog 41 #[.agg #[.slice a0 x.parts.length c0]] W fun e w' => ∃ T, e = .returned (aggB T) ∧ T.length = 540 ∧ Hid (∀ k, k < x.parts.length → numsB (fun c => T.getD (k * 27 + c) false) 27 = (followsL x.parts).getD k []) ∧ Below W.heap.size W w') := fun hk W hW => followsOf_any x.parts a0 c0 W (h0.later hW) hk
  have HP : Hid (gramOkB x.parts = true → x.parts.length ≤ 20) := fun h => (Fits.of h).parts
  clear h0 hn hf hwf
  generalize followsL x.parts = M at *
  generalize x.parts = P at *
  by_cases hth : (gramOkB P && inB n 0 ((P.length : Int) - 1)) = true
  · rw [if_pos hth]
    have hok : gramOkB P = true := by simp only [Bool.and_eq_true] at hth; exact hth.1
    have hin := inB_true.1 (by simp only [Bool.and_eq_true] at hth; exact hth.2)
    have hp := HP.out hok
    obtain ⟨k, rfl⟩ := Int.eq_ofNat_of_zero_le hin.1
    have hk : k < P.length := by omega
    have HS2 : Hid (∀ W : World, Below w.heap.size w W → Calls Try.prog 41 #[.agg #[.slice a0 P.length c0]] W fun e w' => ∃ T, e = .returned (aggB T) ∧ T.length = 540 ∧ Hid (∀ k, k < P.length → numsB (fun c => T.getD (k * 27 + c) false) 27 = M.getD k []) ∧ Below W.heap.size W w') := HS.out hok
    rw [hth] at HT
    have hk0 : (0 : Int) ≤ (k : Int) := by omega
    have hk1 : (k : Int) < 20 := by omega
    have HM : Hid (M.getD (k : Int).toNat [] = M.getD k []) := rfl
    rw [HM.out]
    clear HS HP hth hok hin HM
    go_enter Try.func19, Try.ntmps19
    go_wp2_with fail
    refine (HT.out _ B0).mono ?_
    rintro e w1 ⟨rfl, hb1⟩
    have g0 : w1.cell? ⟨w.heap.size, 0, none⟩ = some (.slice a0 P.length c0) := (hb1.cell (p := ⟨w.heap.size, 0, none⟩) (by simp)).trans (by simp)
    have B1 := B0.trans (hb1.mono B0.size)
    clear HT hb1
    go_wp2_with fail
    refine (HS2.out _ B1).mono ?_
    rintro e w2 ⟨T, rfl, hTl, HI, hb2⟩
    have B2 := B1.trans (hb2.mono B1.size)
    have HN : Hid (numsB (fun c => T.getD (k * 27 + c) false) 27 = M.getD k []) := HI.out k hk
    clear HS2 hb2 g0 B1 B0 HI
    go_wp2_with (first | (refine wpList_allocB (w := w2) rfl 50 rfl 540 bt_table ?_; intro w3 hB3 hb3 hs3) | (refine wpList_storeB (w := w3) rfl 50 _ _ rfl w2.heap.size 0 50 _ T rfl rfl (at540W hTl) hB3 (by rw [List.length_replicate, hTl]; decide) ?_; intro w4 hB4 hg4))
    have e4 : putB (List.replicate 540 false) 0 T = T := putB_whole (by rw [List.length_replicate]; exact hTl)
    rw [e4] at hB4
    have B4 : Below w.heap.size w w4 := (B2.trans (hb3.mono B2.size)).grown hg4 (by have := B2.size; omega) (fun j hj => by cases hj; exact B2.size)
    clear e4 hB3 hb3 hs3 hg4
    refine (numbers_any _ (k * 27) _ T _ hB4 (by omega)).mono ?_
    rintro e w5 ⟨v, rfl, hO, hb5⟩
    rw [HN.out] at hO
    have B5 := B4.trans (hb5.mono B4.size)
    have hs4 := B4.size
    have HD : Hid (OD w5 w.heap.size v (slD Lay.int (M.getD k [])) (fun j => v.ownBlock = some j)) := (hO.base hs4).od
    clear hO hb5 hB4 B4 B2
    go_wp2
    go_ret
    exact ⟨_, _, rfl, HD.out, B5⟩
  · rw [if_neg hth]
    have hth2 : (gramOkB P && inB n 0 ((P.length : Int) - 1)) = false := by simpa using hth
    rw [hth2] at HT
    clear hth HS HP hth2
    go_enter Try.func19, Try.ntmps19
    go_wp2_with (go_at_call 40; refine (HT.out _ B0).mono ?_; rintro e w1 ⟨rfl, hb1⟩)
    go_ret
    have B1 := B0.trans (hb1.mono B0.size)
    exact ⟨_, _, rfl, (OwnInts.nil w1 w.heap.size 3).od, B1⟩
end Go.Proofs.Ytdniejpblhbjkab
namespace Go.Proofs.Ytdniejpblhbjkab
open Go.RowKit

set_option maxRecDepth 100000 in
theorem markIntS_l (xs : List Int) (base : Nat) (v : Value) (S : Nat → Prop) (k : Nat) (w : World) (h : OD w base v (slD Lay.int xs) S) (hk : k + (Lay.list Lay.int).wt xs ≤ 8388608) :
    Calls Try.prog 16 #[v, .int .i64 (k : Int)] w fun e w' => e = .returned (.int .i64 ((k + cntIntS xs : Nat) : Int)) ∧ OD w' base v (slD Lay.int (mkIntS k xs)) S ∧ Within w w' S := by
  rw [Lay.wt_ints] at hk
  rw [cntIntS_eq]
  obtain ⟨a, c, rfl, hg⟩ := OD.shapeL h
  go_enter Try.func16, Try.ntmps16
  go_wp2
  go_loopw [1, 5] (fun sk i wr => ∃ j : Nat, j ≤ xs.length ∧ i = .int .i64 j ∧ sk = .int .i64 ((k : Int) + (j : Int)) ∧ OD wr base (.slice a xs.length c) (slD Lay.int (mkIntS k (xs.take j) ++ xs.drop j)) S ∧ Within w wr S) (fun _ i _ => xs.length - (intOf i).toNat)
  case atStart => exact ⟨0, Nat.zero_le _, rfl, by simp, by simpa [mkIntS, mkL] using h, Within.refl _ _⟩
  case round =>
    obtain ⟨j, hj, rfl, rfl, hown, hwi⟩ := hrel
    by_cases hlt : j < xs.length
    · obtain ⟨g, rfl⟩ := hg (by intro e; simp [e] at hlt)
      have hjL : j < (mkIntS k (xs.take j) ++ xs.drop j).length := by rw [mkIntS, mid_length _ _ hj]; exact hlt
      have HC : cntL cntInt (xs.take j) = j := by have := cntIntS_eq (xs.take j); rw [cntIntS] at this; rw [this, List.length_take]; omega
      have HS : Hid ((mkIntS k (xs.take j) ++ xs.drop j).set j ((k : Int) + (j : Int)) = mkIntS k (xs.take (j + 1)) ++ xs.drop (j + 1)) := by
        have e := mid_set cntInt mkInt (k := k) hlt
        rw [HC] at e
        show _ = _
        unfold mkIntS
        rw [← e]
        congr 1
      obtain ⟨R1, R2, ⟨u, hu⟩, hf⟩ := hown.intStore hjL ((k : Int) + (j : Int))
      rw [HS.out] at R1
      clear hg hown HC hjL
      go_wp2
      go_roundw
      case rel => exact ⟨j + 1, by omega, by go_num, by go_num, R1, hwi.trans R2⟩
      case measure => simp [intOf]; omega
    · have e : j = xs.length := by omega
      subst e
      go_wp2
      go_ret
      exact ⟨ret_int (by omega), by simpa using hown, hwi⟩

theorem markIntS_c (xs : List Int) (base : Nat) (v : Value) (S : Nat → Prop) (k : Nat) (w : World) (h : Cells w base [v] [slD Lay.int xs] S) (hk : k + (Lay.list Lay.int).wt xs ≤ 8388608) :
    Calls Try.prog 16 #[v, .int .i64 (k : Int)] w fun e w' => e = .returned (.int .i64 ((k + cntIntS xs : Nat) : Int)) ∧ Cells w' base [v] [slD Lay.int (mkIntS k xs)] S ∧ Within w w' S := by
  refine (markIntS_l xs base v S k w h.od hk).mono ?_
  rintro e w' ⟨rfl, h1, h2⟩
  exact ⟨rfl, Cells.one h1, h2⟩

theorem heldIntS_l (xs : List Int) (a : Option Addr) (n c : Nat) (k : Nat) (w : World) (h : RD w (.slice a n c) (slD Lay.int (mkIntS k xs))) (hk : k + (Lay.list Lay.int).wt xs ≤ 8388608) :
    Calls Try.prog 17 #[.slice a n c, .int .i64 (k : Int)] w fun e w' => e = .returned (.int .i64 ((k + cntIntS xs : Nat) : Int)) ∧ Below w.heap.size w w' := by
  rw [Lay.wt_ints] at hk
  rw [cntIntS_eq]
  have e := h.lenL
  rw [mkIntS, mkL_length] at e
  subst e
  have r := h.reads
  rw [mkIntS_marks] at r
  refine (heldIntS_any a xs.length c (k : Int) w r (by omega) (by omega) (by omega)).mono ?_
  rintro e w' ⟨rfl, hb⟩
  exact ⟨ret_int (by omega), hb⟩

end Go.Proofs.Ytdniejpblhbjkab
namespace Go.Proofs.Ytdniejpblhbjkab
open Go.RowKit

def cntIntSS : List (List Int) → Nat := cntL cntIntS
def mkIntSS : Nat → List (List Int) → List (List Int) := mkL cntIntS mkIntS
theorem cntIntSS_le (xs : List (List Int)) : cntIntSS xs ≤ (Lay.list (Lay.list Lay.int)).wt xs := cntL_le _ (fun x => by have := cntIntS_le x; omega) xs
theorem cntIntSS_room {xs : List (List Int)} {j k M : Nat} (hlt : j < xs.length) (hk : k + (xs.length + (Lay.list Lay.int).sumL xs) ≤ M) : k + cntIntSS (xs.take j) + (Lay.list Lay.int).wt xs[j] ≤ M := by
  have h1 := cntIntSS_le (xs.take j)
  rw [Lay.wt_list, List.length_take] at h1
  have h2 := Lay.sumL_take (Lay.list Lay.int) hlt
  have h3 := Lay.sumL_take_le (Lay.list Lay.int) xs (j + 1)
  omega

set_option maxRecDepth 100000 in
theorem markIntSS_l (xs : List (List Int)) (base : Nat) (v : Value) (S : Nat → Prop) (k : Nat) (w : World) (h : OD w base v (slD (Lay.list Lay.int) xs) S) (hk : k + (Lay.list (Lay.list Lay.int)).wt xs ≤ 8388608) :
    Calls Try.prog 60 #[v, .int .i64 (k : Int)] w fun e w' => e = .returned (.int .i64 ((k + cntIntSS xs : Nat) : Int)) ∧ OD w' base v (slD (Lay.list Lay.int) (mkIntSS k xs)) S ∧ Within w w' S := by
  rw [Lay.wt_list] at hk
  obtain ⟨a, c, rfl, hg⟩ := OD.shapeL h
  go_enter Try.func60, Try.ntmps60
  go_wp2
  go_loopw [1, 5] (fun sk i wr => ∃ j : Nat, j ≤ xs.length ∧ i = .int .i64 j ∧ sk = .int .i64 ((k + cntIntSS (xs.take j) : Nat) : Int) ∧ Hid (OD wr base (.slice a xs.length c) (slD (Lay.list Lay.int) (mkIntSS k (xs.take j) ++ xs.drop j)) S ∧ Within w wr S)) (fun _ i _ => xs.length - (intOf i).toNat)
  case atStart => exact ⟨0, Nat.zero_le _, rfl, by simp [cntIntSS, cntL], by simpa [mkIntSS, mkL] using h, Within.refl _ _⟩
  case round =>
    obtain ⟨j, hj, rfl, rfl, HO⟩ := hrel
    by_cases hlt : j < xs.length
    · obtain ⟨g, rfl⟩ := hg (by intro e; simp [e] at hlt)
      have hjL : j < (mkIntSS k (xs.take j) ++ xs.drop j).length := by rw [mkIntSS, mid_length _ _ hj]; exact hlt
      have HX : (mkIntSS k (xs.take j) ++ xs.drop j)[j] = xs[j] := mid_get cntIntS mkIntS hlt hjL
      have HS : Hid ((mkIntSS k (xs.take j) ++ xs.drop j).set j (mkIntS (k + cntIntSS (xs.take j)) xs[j]) = mkIntSS k (xs.take (j + 1)) ++ xs.drop (j + 1)) := mid_set cntIntS mkIntS hlt
      have HN : Hid (k + cntIntSS (xs.take (j + 1)) = k + cntIntSS (xs.take j) + cntIntS xs[j]) := by show _ = _; unfold cntIntSS; rw [cntL_take _ hlt]; omega
      have hle := cntIntSS_room hlt hk
      have hle2 := cntIntS_le xs[j]
      obtain ⟨a1, c1, Tj, q0, O1, hT, hput⟩ := HO.out.1.listInto hjL
      rw [HX] at q0 O1 hput
      have X : Hid (Calls Try.prog 16 #[.slice a1 xs[j].length c1, .int .i64 ((k + cntIntSS (xs.take j) : Nat) : Int)] wr fun e w' => e = .returned (.int .i64 ((k + cntIntSS (xs.take j) + cntIntS xs[j] : Nat) : Int)) ∧ OD w' base (.slice a1 xs[j].length c1) (slD Lay.int (mkIntS (k + cntIntSS (xs.take j)) xs[j])) Tj ∧ Within wr w' Tj) :=
        markIntS_l xs[j] base _ Tj (k + cntIntSS (xs.take j)) wr O1 hle
      have HP : Hid (∀ w', OD w' base (.slice a1 xs[j].length c1) (slD Lay.int (mkIntS (k + cntIntSS (xs.take j)) xs[j])) Tj ∧ Within wr w' Tj → OD w' base (.slice (some ⟨g, 0, none⟩) xs.length c) (slD (Lay.list Lay.int) (mkIntSS k (xs.take (j + 1)) ++ xs.drop (j + 1))) S ∧ Within w w' S) := by
        intro w' hx
        have := hput w' _ hx.1 hx.2
        rw [HS.out] at this
        exact ⟨this, HO.out.2.trans (hx.2.mono hT)⟩
      clear hg h HO HX HS hput O1 hjL
      generalize (Lay.list Lay.int).wt xs[j] = wk at *
      generalize k + cntIntSS (xs.take j) = m at *
      generalize mkIntS m xs[j] = mk at *
      generalize cntIntS xs[j] = ck at *
      generalize xs[j] = y at *
      have hgl : g < wr.heap.size := World.block_lt_of_cell? wr _ q0
      go_wp2_with fail
      refine X.out.mono ?_
      rintro e w1 ⟨rfl, hx⟩
      have HE : Hid (OD w1 base (.slice (some ⟨g, 0, none⟩) xs.length c) (slD (Lay.list Lay.int) (mkIntSS k (xs.take (j + 1)) ++ xs.drop (j + 1))) S ∧ Within w w1 S) := HP.out w1 hx
      clear X HP hx
      go_wp2
      go_roundw
      case rel => exact ⟨j + 1, by omega, by go_num, by rw [HN.out]; simp, HE⟩
      case measure => simp [intOf]; omega
    · have e : j = xs.length := by omega
      subst e
      have HE : Hid (OD wr base (.slice a xs.length c) (slD (Lay.list Lay.int) (mkIntSS k xs)) S ∧ Within w wr S) := by show _ ∧ _; simpa using HO.out
      have HC : Hid (cntIntSS (xs.take xs.length) = cntIntSS xs) := by show _ = _; rw [List.take_length]
      clear HO
      generalize cntIntSS (xs.take xs.length) = m at *
      go_wp2
      go_ret
      exact ⟨ret_int (by rw [HC.out]), HE.out⟩

end Go.Proofs.Ytdniejpblhbjkab
namespace Go.Proofs.Ytdniejpblhbjkab
open Go.RowKit

def cntIntSSS : List (List (List Int)) → Nat := cntL cntIntSS
def mkIntSSS : Nat → List (List (List Int)) → List (List (List Int)) := mkL cntIntSS mkIntSS
theorem cntIntSSS_le (xs : List (List (List Int))) : cntIntSSS xs ≤ (Lay.list (Lay.list (Lay.list Lay.int))).wt xs := cntL_le _ (fun x => by have := cntIntSS_le x; omega) xs
theorem cntIntSSS_room {xs : List (List (List Int))} {j k M : Nat} (hlt : j < xs.length) (hk : k + (xs.length + (Lay.list (Lay.list Lay.int)).sumL xs) ≤ M) : k + cntIntSSS (xs.take j) + (Lay.list (Lay.list Lay.int)).wt xs[j] ≤ M := by
  have h1 := cntIntSSS_le (xs.take j)
  rw [Lay.wt_list, List.length_take] at h1
  have h2 := Lay.sumL_take (Lay.list (Lay.list Lay.int)) hlt
  have h3 := Lay.sumL_take_le (Lay.list (Lay.list Lay.int)) xs (j + 1)
  omega

set_option maxRecDepth 100000 in
theorem markIntSSS_l (xs : List (List (List Int))) (base : Nat) (v : Value) (S : Nat → Prop) (k : Nat) (w : World) (h : OD w base v (slD (Lay.list (Lay.list Lay.int)) xs) S) (hk : k + (Lay.list (Lay.list (Lay.list Lay.int))).wt xs ≤ 8388608) :
    Calls Try.prog 37 #[v, .int .i64 (k : Int)] w fun e w' => e = .returned (.int .i64 ((k + cntIntSSS xs : Nat) : Int)) ∧ OD w' base v (slD (Lay.list (Lay.list Lay.int)) (mkIntSSS k xs)) S ∧ Within w w' S := by
  rw [Lay.wt_list] at hk
  obtain ⟨a, c, rfl, hg⟩ := OD.shapeL h
  go_enter Try.func37, Try.ntmps37
  go_wp2
  go_loopw [1, 5] (fun sk i wr => ∃ j : Nat, j ≤ xs.length ∧ i = .int .i64 j ∧ sk = .int .i64 ((k + cntIntSSS (xs.take j) : Nat) : Int) ∧ Hid (OD wr base (.slice a xs.length c) (slD (Lay.list (Lay.list Lay.int)) (mkIntSSS k (xs.take j) ++ xs.drop j)) S ∧ Within w wr S)) (fun _ i _ => xs.length - (intOf i).toNat)
  case atStart => exact ⟨0, Nat.zero_le _, rfl, by simp [cntIntSSS, cntL], by simpa [mkIntSSS, mkL] using h, Within.refl _ _⟩
  case round =>
    obtain ⟨j, hj, rfl, rfl, HO⟩ := hrel
    by_cases hlt : j < xs.length
    · obtain ⟨g, rfl⟩ := hg (by intro e; simp [e] at hlt)
      have hjL : j < (mkIntSSS k (xs.take j) ++ xs.drop j).length := by rw [mkIntSSS, mid_length _ _ hj]; exact hlt
      have HX : (mkIntSSS k (xs.take j) ++ xs.drop j)[j] = xs[j] := mid_get cntIntSS mkIntSS hlt hjL
      have HS : Hid ((mkIntSSS k (xs.take j) ++ xs.drop j).set j (mkIntSS (k + cntIntSSS (xs.take j)) xs[j]) = mkIntSSS k (xs.take (j + 1)) ++ xs.drop (j + 1)) := mid_set cntIntSS mkIntSS hlt
      have HN : Hid (k + cntIntSSS (xs.take (j + 1)) = k + cntIntSSS (xs.take j) + cntIntSS xs[j]) := by show _ = _; unfold cntIntSSS; rw [cntL_take _ hlt]; omega
      have hle := cntIntSSS_room hlt hk
      have hle2 := cntIntSS_le xs[j]
      obtain ⟨a1, c1, Tj, q0, O1, hT, hput⟩ := HO.out.1.listInto hjL
      rw [HX] at q0 O1 hput
      have X : Hid (Calls Try.prog 60 #[.slice a1 xs[j].length c1, .int .i64 ((k + cntIntSSS (xs.take j) : Nat) : Int)] wr fun e w' => e = .returned (.int .i64 ((k + cntIntSSS (xs.take j) + cntIntSS xs[j] : Nat) : Int)) ∧ OD w' base (.slice a1 xs[j].length c1) (slD (Lay.list Lay.int) (mkIntSS (k + cntIntSSS (xs.take j)) xs[j])) Tj ∧ Within wr w' Tj) :=
        markIntSS_l xs[j] base _ Tj (k + cntIntSSS (xs.take j)) wr O1 hle
      have HP : Hid (∀ w', OD w' base (.slice a1 xs[j].length c1) (slD (Lay.list Lay.int) (mkIntSS (k + cntIntSSS (xs.take j)) xs[j])) Tj ∧ Within wr w' Tj → OD w' base (.slice (some ⟨g, 0, none⟩) xs.length c) (slD (Lay.list (Lay.list Lay.int)) (mkIntSSS k (xs.take (j + 1)) ++ xs.drop (j + 1))) S ∧ Within w w' S) := by
        intro w' hx
        have := hput w' _ hx.1 hx.2
        rw [HS.out] at this
        exact ⟨this, HO.out.2.trans (hx.2.mono hT)⟩
      clear hg h HO HX HS hput O1 hjL
      generalize (Lay.list (Lay.list Lay.int)).wt xs[j] = wk at *
      generalize k + cntIntSSS (xs.take j) = m at *
      generalize mkIntSS m xs[j] = mk at *
      generalize cntIntSS xs[j] = ck at *
      generalize xs[j] = y at *
      have hgl : g < wr.heap.size := World.block_lt_of_cell? wr _ q0
      go_wp2_with fail
      refine X.out.mono ?_
      rintro e w1 ⟨rfl, hx⟩
      have HE : Hid (OD w1 base (.slice (some ⟨g, 0, none⟩) xs.length c) (slD (Lay.list (Lay.list Lay.int)) (mkIntSSS k (xs.take (j + 1)) ++ xs.drop (j + 1))) S ∧ Within w w1 S) := HP.out w1 hx
      clear X HP hx
      go_wp2
      go_roundw
      case rel => exact ⟨j + 1, by omega, by go_num, by rw [HN.out]; simp, HE⟩
      case measure => simp [intOf]; omega
    · have e : j = xs.length := by omega
      subst e
      have HE : Hid (OD wr base (.slice a xs.length c) (slD (Lay.list (Lay.list Lay.int)) (mkIntSSS k xs)) S ∧ Within w wr S) := by show _ ∧ _; simpa using HO.out
      have HC : Hid (cntIntSSS (xs.take xs.length) = cntIntSSS xs) := by show _ = _; rw [List.take_length]
      clear HO
      generalize cntIntSSS (xs.take xs.length) = m at *
      go_wp2
      go_ret
      exact ⟨ret_int (by rw [HC.out]), HE.out⟩

end Go.Proofs.Ytdniejpblhbjkab
namespace Go.Proofs.Ytdniejpblhbjkab
open Go.RowKit

def cntGram (x : Gm) : Nat := cntIntSSS x.parts
def mkGram (k : Nat) (x : Gm) : Gm := ⟨mkIntSSS k x.parts⟩
theorem cntGram_le (x : Gm) : cntGram x ≤ Lay.gram.wt x := cntIntSSS_le x.parts
theorem mkGram_len (k : Nat) (x : Gm) : (mkGram k x).parts.length = x.parts.length := mkL_length _ _ _ _

set_option maxRecDepth 100000 in
theorem markGram_l (x : Gm) (base : Nat) (a0 : Option Addr) (n0 c0 : Nat) (S : Nat → Prop) (k : Nat) (w : World) (h : Cells w base [.slice a0 n0 c0] (Lay.gram.cells x) S) (hk : k + Lay.gram.wt x ≤ 8388608) :
    Calls Try.prog 15 #[.agg #[.slice a0 n0 c0], .int .i64 (k : Int)] w fun e w' => e = .returned (.int .i64 ((k + cntGram x : Nat) : Int)) ∧ Cells w' base [.slice a0 n0 c0] (Lay.gram.cells (mkGram k x)) S ∧ Within w w' S := by
  have hO : OD w base (.slice a0 n0 c0) (slD (Lay.list (Lay.list Lay.int)) x.parts) S := Cells.od h
  have B := (Below.refl w.heap.size w).alloc (Nat.le_refl _) (.cells #[.slice a0 n0 c0] 28)
  have X := markIntSSS_l x.parts base _ S k _ (hO.later B) hk
  have hcnt : cntIntSSS x.parts = cntGram x := rfl
  have hmk : Hid (∀ W, OD W base (.slice a0 n0 c0) (slD (Lay.list (Lay.list Lay.int)) (mkIntSSS k x.parts)) S → Cells W base [.slice a0 n0 c0] (Lay.gram.cells (mkGram k x)) S) := fun W h => Cells.one h
  have hle := cntGram_le x
  rw [hcnt] at X
  clear h hO hcnt
  generalize cntGram x = ck at *
  go_enter Try.func15, Try.ntmps15
  go_wp2_with fail
  refine X.mono ?_
  rintro e w1 ⟨rfl, hx, hw⟩
  have HX := hmk.out _ hx
  have hW : Within w w1 S := (Within.of_below B S).trans hw
  clear X hmk hx hw
  go_wp2
  go_ret
  exact ⟨rfl, HX, hW⟩

end Go.Proofs.Ytdniejpblhbjkab
namespace Go.Proofs.Ytdniejpblhbjkab
open Go.RowKit

set_option maxHeartbeats 4000000 in
set_option maxRecDepth 100000 in
theorem fnExactFollowOf_law (x0 : Gm) (a0 : Option Addr) (c0 : Nat) (n1 : Int) (w : World) (h0 : RD w (.slice a0 x0.parts.length c0) (slD (Lay.list (Lay.list Lay.int)) x0.parts)) (hf0 : Lay.gram.fit x0) (wf1 : (Lit.int .i64 n1).wf = true) :
    Calls Try.prog 4 #[.agg #[.slice a0 x0.parts.length c0], .int .i64 n1] w fun e w' => e = .returned (.bool true) ∧ Below w.heap.size w w' := by
  have HH0 : Hid (Holds w w [] []) := Holds.start w
  have H0 : Hid (RD w (.slice a0 x0.parts.length c0) (slD (Lay.list (Lay.list Lay.int)) x0.parts)) := h0
  clear h0
  have HF0 : Hid (Lay.gram.fit x0) := hf0
  have HH1 : Hid (Holds w (w.alloc (.cells #[.slice a0 x0.parts.length c0] 24)) [(w.heap.size, [.slice a0 x0.parts.length c0])] []) := by show Holds _ _ _ _; simpa using HH0.out.box [.slice a0 x0.parts.length c0] 24
  clear HH0
  go_enter Try.func4, Try.ntmps4
  have q0 : (w.alloc (.cells #[.slice a0 x0.parts.length c0] 24)).cell? ⟨w.heap.size, 0, none⟩ = some (.slice a0 x0.parts.length c0) := HH1.out.cell (w.heap.size, [.slice a0 x0.parts.length c0]) List.mem_cons_self 0 (by simp)
  go_wp2_with fail
  refine (szGram_l x0 a0 c0 _ _ (H0.out.later HH1.out.below) HF0.out (by omega) (by omega)).mono ?_
  rintro e w3 ⟨r0, rfl, hr0, B2⟩
  clear q0
  have HH4 : Hid (Holds w w3 [(w.heap.size, [.slice a0 x0.parts.length c0])] []) := HH1.out.later B2
  clear HH1
  clear B2
  rcases hr0 with rfl | ⟨hr0a, hr0b⟩
  · go_wp2
    go_ret
    exact ⟨rfl, HH4.out.below⟩
  have HW0 : Hid (Lay.gram.wt x0 ≤ 1048576) := by show _ ≤ _; omega
  have hr0c : r0 ≤ 1048576 := by omega
  clear hr0b hf0
  have q0 : w3.cell? ⟨w.heap.size, 0, none⟩ = some (.slice a0 x0.parts.length c0) := HH4.out.cell (w.heap.size, [.slice a0 x0.parts.length c0]) List.mem_cons_self 0 (by simp)
  go_wp2_with fail
  refine (toGram_l x0 a0 c0 _ (H0.out.later HH4.out.below) (by have := HW0.out; omega)).mono ?_
  rintro e w7 ⟨a0s, c0s, S0s, rfl, O6, B5⟩
  clear q0
  have HH8 : Hid (Holds w w7 [(w.heap.size, [.slice a0 x0.parts.length c0])] [([.slice a0s x0.parts.length c0s], Lay.gram.cells x0)]) := HH4.out.push B5 O6
  clear HH4
  clear B5 O6
  have R9 : Hid (RD w7 (.slice a0s x0.parts.length c0s) (slD (Lay.list (Lay.list Lay.int)) x0.parts)) := HH8.out.rd ([.slice a0s x0.parts.length c0s], Lay.gram.cells x0) List.mem_cons_self 0 (by simp) (by simp [Lay.gram])
  have q0 : w7.cell? ⟨w.heap.size, 0, none⟩ = some (.slice a0 x0.parts.length c0) := HH8.out.cell (w.heap.size, [.slice a0 x0.parts.length c0]) List.mem_cons_self 0 (by simp)
  go_wp2_with fail
  refine (specFollowOf_any x0 a0s c0s n1 _ R9.out (by have := HW0.out; omega) HF0.out wf1).mono ?_
  rintro e w12 ⟨vW, SW, rfl, O11o, B10⟩
  clear q0
  obtain ⟨aW, cW, rfl, _⟩ := OD.shapeL O11o
  have O11 := Cells.one O11o
  clear O11o
  have HH13 : Hid (Holds w w12 [(w.heap.size, [.slice a0 x0.parts.length c0])] [([.slice aW (resFollowOf x0 n1).length cW], [slD Lay.int (resFollowOf x0 n1)]), ([.slice a0s x0.parts.length c0s], Lay.gram.cells x0)]) := HH8.out.push B10 O11
  clear HH8
  clear B10 O11
  clear R9
  have HH14 : Hid (Holds w w12 [(w.heap.size, [.slice a0 x0.parts.length c0])] [([.slice aW (resFollowOf x0 n1).length cW], [slD Lay.int (resFollowOf x0 n1)])]) := Holds.drop (P := [([.slice aW (resFollowOf x0 n1).length cW], [slD Lay.int (resFollowOf x0 n1)])]) (x := ([.slice a0s x0.parts.length c0s], Lay.gram.cells x0)) (Q := []) HH13.out
  clear HH13
  have q0 : w12.cell? ⟨w.heap.size, 0, none⟩ = some (.slice a0 x0.parts.length c0) := HH14.out.cell (w.heap.size, [.slice a0 x0.parts.length c0]) List.mem_cons_self 0 (by simp)
  go_wp2_with fail
  refine (toGram_l x0 a0 c0 _ (H0.out.later HH14.out.below) (by have := HW0.out; omega)).mono ?_
  rintro e w17 ⟨a0m, c0m, S0m, rfl, O16, B15⟩
  clear q0
  have HH18 : Hid (Holds w w17 [(w.heap.size, [.slice a0 x0.parts.length c0])] [([.slice a0m x0.parts.length c0m], Lay.gram.cells x0), ([.slice aW (resFollowOf x0 n1).length cW], [slD Lay.int (resFollowOf x0 n1)])]) := HH14.out.push B15 O16
  clear HH14
  clear B15 O16
  have HH19 : Hid (Holds w (w17.alloc (.cells #[.slice a0m x0.parts.length c0m] 28)) [(w17.heap.size, [.slice a0m x0.parts.length c0m]), (w.heap.size, [.slice a0 x0.parts.length c0])] [([.slice a0m x0.parts.length c0m], Lay.gram.cells x0), ([.slice aW (resFollowOf x0 n1).length cW], [slD Lay.int (resFollowOf x0 n1)])]) := by show Holds _ _ _ _; simpa using HH18.out.box [.slice a0m x0.parts.length c0m] 28
  clear HH18
  have R20 : Hid (RD (w17.alloc (.cells #[.slice a0m x0.parts.length c0m] 28)) (.slice a0m x0.parts.length c0m) (slD (Lay.list (Lay.list Lay.int)) x0.parts)) := HH19.out.rd ([.slice a0m x0.parts.length c0m], Lay.gram.cells x0) List.mem_cons_self 0 (by simp) (by simp [Lay.gram])
  have q0 : (w17.alloc (.cells #[.slice a0m x0.parts.length c0m] 28)).cell? ⟨w17.heap.size, 0, none⟩ = some (.slice a0m x0.parts.length c0m) := HH19.out.cell (w17.heap.size, [.slice a0m x0.parts.length c0m]) List.mem_cons_self 0 (by simp)
  have q1 : (w17.alloc (.cells #[.slice a0m x0.parts.length c0m] 28)).cell? ⟨w.heap.size, 0, none⟩ = some (.slice a0 x0.parts.length c0) := HH19.out.cell (w.heap.size, [.slice a0 x0.parts.length c0]) (List.mem_cons_of_mem _ List.mem_cons_self) 0 (by simp)
  go_wp2_with fail
  refine (followOf_any x0 a0m c0m n1 _ R20.out (by have := HW0.out; omega) HF0.out wf1).mono ?_
  rintro e w23 ⟨vG, SG, rfl, O22o, B21⟩
  clear q0 q1
  obtain ⟨aG, cG, rfl, _⟩ := OD.shapeL O22o
  have O22 := Cells.one O22o
  clear O22o
  have HH24 : Hid (Holds w w23 [(w17.heap.size, [.slice a0m x0.parts.length c0m]), (w.heap.size, [.slice a0 x0.parts.length c0])] [([.slice aG (resFollowOf x0 n1).length cG], [slD Lay.int (resFollowOf x0 n1)]), ([.slice a0m x0.parts.length c0m], Lay.gram.cells x0), ([.slice aW (resFollowOf x0 n1).length cW], [slD Lay.int (resFollowOf x0 n1)])]) := HH19.out.push B21 O22
  clear HH19
  clear B21 O22
  clear R20
  have HRw : Hid ((Lay.list Lay.int).wt (resFollowOf x0 n1) ≤ 2097152) := resFollowOf_le x0 n1 (by have := HW0.out; omega) HF0.out wf1
  obtain ⟨R, HRe⟩ : ∃ R, Hid (resFollowOf x0 n1 = R) := ⟨_, rfl⟩
  have HH25 : Hid (Holds w w23 [(w17.heap.size, [.slice a0m x0.parts.length c0m]), (w.heap.size, [.slice a0 x0.parts.length c0])] [([.slice aG R.length cG], [slD Lay.int R]), ([.slice a0m x0.parts.length c0m], Lay.gram.cells x0), ([.slice aW R.length cW], [slD Lay.int R])]) := by show Holds _ _ _ _; have := HH24.out; rw [HRe.out] at this; exact this
  clear HH24
  have HRx : Hid ((Lay.list Lay.int).wt R ≤ 2097152) := by show _ ≤ _; rw [← HRe.out]; exact HRw.out
  clear HRw
  have HRw := HRx
  clear HRx
  rw [HRe.out]
  have R26 : Hid (RD w23 (.slice aG R.length cG) (slD Lay.int R)) := HH25.out.rd ([.slice aG R.length cG], [slD Lay.int R]) List.mem_cons_self 0 (by simp) (by simp)
  have R27 : Hid (RD w23 (.slice aW R.length cW) (slD Lay.int R)) := HH25.out.rd ([.slice aW R.length cW], [slD Lay.int R]) (List.mem_cons_of_mem _ (List.mem_cons_of_mem _ List.mem_cons_self)) 0 (by simp) (by simp)
  have q0 : w23.cell? ⟨w17.heap.size, 0, none⟩ = some (.slice a0m x0.parts.length c0m) := HH25.out.cell (w17.heap.size, [.slice a0m x0.parts.length c0m]) List.mem_cons_self 0 (by simp)
  have q1 : w23.cell? ⟨w.heap.size, 0, none⟩ = some (.slice a0 x0.parts.length c0) := HH25.out.cell (w.heap.size, [.slice a0 x0.parts.length c0]) (List.mem_cons_of_mem _ List.mem_cons_self) 0 (by simp)
  go_wp2_with fail
  refine (eqIntS_l R aG aW cG cW _ R26.out R27.out (by have := HRw.out; omega)).mono ?_
  rintro e w29 ⟨rfl, B28⟩
  clear q0 q1
  clear R26 R27
  have HH30 : Hid (Holds w w29 [(w17.heap.size, [.slice a0m x0.parts.length c0m]), (w.heap.size, [.slice a0 x0.parts.length c0])] [([.slice aG R.length cG], [slD Lay.int R]), ([.slice a0m x0.parts.length c0m], Lay.gram.cells x0), ([.slice aW R.length cW], [slD Lay.int R])]) := HH25.out.later B28
  clear HH25
  clear B28
  have q0 : w29.cell? ⟨w17.heap.size, 0, none⟩ = some (.slice a0m x0.parts.length c0m) := HH30.out.cell (w17.heap.size, [.slice a0m x0.parts.length c0m]) List.mem_cons_self 0 (by simp)
  have q1 : w29.cell? ⟨w.heap.size, 0, none⟩ = some (.slice a0 x0.parts.length c0) := HH30.out.cell (w.heap.size, [.slice a0 x0.parts.length c0]) (List.mem_cons_of_mem _ List.mem_cons_self) 0 (by simp)
  go_wp2_with fail
  refine wp_region_held_drew (S := fun w' => Keeps w' [(w17.heap.size, [.slice a0m x0.parts.length c0m]), (w.heap.size, [.slice a0 x0.parts.length c0])]) (by kernel_rfl) HH30.out.boxes.drew (fun hHeld => ?_)
  refine take_atL (i := 0) (d := some 31) (v := .agg #[.slice a0m x0.parts.length c0m]) rfl rfl (by kernel_rfl) (by kernel_rfl) (by kernel_rfl) (fun _ _ _ h => h) (by rfl) ?_ hHeld ?_
  · intro w' hSw
    have p0 : w'.cell? ⟨w17.heap.size, 0, none⟩ = some (.slice a0m x0.parts.length c0m) := hSw (w17.heap.size, [.slice a0m x0.parts.length c0m]) List.mem_cons_self 0 (by simp)
    go_simp; try rfl
  try simp only [Act.put, List.setIfInBounds_toArray, List.set_cons_zero, List.set_cons_succ]
  refine take_atL (i := 1) (d := some 32) (v := .agg #[.slice a0 x0.parts.length c0]) rfl rfl (by kernel_rfl) (by kernel_rfl) (by kernel_rfl) (fun _ _ _ h => h) (by rfl) ?_ hHeld ?_
  · intro w' hSw
    have p0 : w'.cell? ⟨w.heap.size, 0, none⟩ = some (.slice a0 x0.parts.length c0) := hSw (w.heap.size, [.slice a0 x0.parts.length c0]) (List.mem_cons_of_mem _ List.mem_cons_self) 0 (by simp)
    go_simp; try rfl
  try simp only [Act.put, List.setIfInBounds_toArray, List.set_cons_zero, List.set_cons_succ]
  clear q0 q1
  refine wpAnyH_ready (rs := [2]) (by kernel_rfl) (by simp) ?_
  refine AllReadyH.cons (o := _) rfl (fun K hK => ?_) AllReadyH.nil
  rw [if_pos (by rfl)]
  go_simp
  refine (toGram_l x0 a0 c0 _ (H0.out.later (Below.drew HH30.out.below)) (by have := HW0.out; omega)).mono ?_
  rintro e w31 ⟨a0e, c0e, S0e, rfl, O33, B32d⟩
  have B32 : Below (w29).heap.size w29 w31 := Below.drewed (by simpa using B32d)
  clear B32d hHeld
  have HH34 : Hid (Holds w w31 [(w17.heap.size, [.slice a0m x0.parts.length c0m]), (w.heap.size, [.slice a0 x0.parts.length c0])] [([.slice a0e x0.parts.length c0e], Lay.gram.cells x0), ([.slice aG R.length cG], [slD Lay.int R]), ([.slice a0m x0.parts.length c0m], Lay.gram.cells x0), ([.slice aW R.length cW], [slD Lay.int R])]) := HH30.out.push B32 O33
  clear HH30
  clear B32 O33
  go_wp2_with fail
  refine hK.out _ _ HH34.out.boxes (fun hHeld => ?_)
  clear hK K
  try simp only [Act.put, List.setIfInBounds_toArray, List.set_cons_zero, List.set_cons_succ]
  refine wpAnyH_ready (rs := [3]) (by kernel_rfl) (by simp) ?_
  refine AllReadyH.cons (o := _) rfl (fun K hK => ?_) AllReadyH.nil
  rw [if_pos (by rfl)]
  go_simp
  have R35 : Hid (RD w31 (.slice a0m x0.parts.length c0m) (slD (Lay.list (Lay.list Lay.int)) x0.parts)) := HH34.out.rd ([.slice a0m x0.parts.length c0m], Lay.gram.cells x0) (List.mem_cons_of_mem _ (List.mem_cons_of_mem _ List.mem_cons_self)) 0 (by simp) (by simp [Lay.gram])
  have R36 : Hid (RD w31 (.slice a0e x0.parts.length c0e) (slD (Lay.list (Lay.list Lay.int)) x0.parts)) := HH34.out.rd ([.slice a0e x0.parts.length c0e], Lay.gram.cells x0) List.mem_cons_self 0 (by simp) (by simp [Lay.gram])
  refine (eqGram_l x0 a0m a0e c0m c0e _ R35.out R36.out (by have := HW0.out; omega)).mono ?_
  rintro e w37 ⟨rfl, B38⟩
  clear hHeld R35 R36
  have HH39 : Hid (Holds w w37 [(w17.heap.size, [.slice a0m x0.parts.length c0m]), (w.heap.size, [.slice a0 x0.parts.length c0])] [([.slice a0e x0.parts.length c0e], Lay.gram.cells x0), ([.slice aG R.length cG], [slD Lay.int R]), ([.slice a0m x0.parts.length c0m], Lay.gram.cells x0), ([.slice aW R.length cW], [slD Lay.int R])]) := HH34.out.later B38
  clear HH34
  clear B38
  have HH40 : Hid (Holds w w37 [(w17.heap.size, [.slice a0m x0.parts.length c0m]), (w.heap.size, [.slice a0 x0.parts.length c0])] [([.slice aG R.length cG], [slD Lay.int R]), ([.slice a0m x0.parts.length c0m], Lay.gram.cells x0), ([.slice aW R.length cW], [slD Lay.int R])]) := Holds.drop (P := []) (x := ([.slice a0e x0.parts.length c0e], Lay.gram.cells x0)) (Q := [([.slice aG R.length cG], [slD Lay.int R]), ([.slice a0m x0.parts.length c0m], Lay.gram.cells x0), ([.slice aW R.length cW], [slD Lay.int R])]) HH39.out
  clear HH39
  go_wp2_with fail
  refine hK.out _ _ HH40.out.boxes (fun hHeld => ?_)
  clear hK K
  try simp only [Act.put, List.setIfInBounds_toArray, List.set_cons_zero, List.set_cons_succ]
  refine take_atL (i := 4) (d := some 35) (v := .bool false) rfl rfl (by kernel_rfl) (by kernel_rfl) (by kernel_rfl) (fun _ _ _ h => h) (by rfl) ?_ hHeld ?_
  · intro w' hSw; go_simp; try rfl
  try simp only [Act.put, List.setIfInBounds_toArray, List.set_cons_zero, List.set_cons_succ]
  refine wpAnyH_done (by kernel_rfl) ?_ _
  clear hHeld
  have hcl0 := cntGram_le x0
  obtain ⟨T41, hcT41, htT41⟩ := Holds.turn (P := [([.slice aG R.length cG], [slD Lay.int R])]) (x := ([.slice a0m x0.parts.length c0m], Lay.gram.cells x0)) (Q := [([.slice aW R.length cW], [slD Lay.int R])]) HH40.out
  have q0 : w37.cell? ⟨w17.heap.size, 0, none⟩ = some (.slice a0m x0.parts.length c0m) := HH40.out.cell (w17.heap.size, [.slice a0m x0.parts.length c0m]) List.mem_cons_self 0 (by simp)
  have q1 : w37.cell? ⟨w.heap.size, 0, none⟩ = some (.slice a0 x0.parts.length c0) := HH40.out.cell (w.heap.size, [.slice a0 x0.parts.length c0]) (List.mem_cons_of_mem _ List.mem_cons_self) 0 (by simp)
  have HTT41 : Hid (∀ w' ds, Cells w' w.heap.size [.slice a0m x0.parts.length c0m] ds T41 → Within w37 w' T41 → Holds w w' [(w17.heap.size, [.slice a0m x0.parts.length c0m]), (w.heap.size, [.slice a0 x0.parts.length c0])] ([([.slice aG R.length cG], [slD Lay.int R])] ++ ([.slice a0m x0.parts.length c0m], ds) :: [([.slice aW R.length cW], [slD Lay.int R])])) := htT41
  clear htT41
  go_wp2_with fail
  refine (markGram_l x0 _ a0m x0.parts.length c0m _ 1 _ hcT41 (by have := HW0.out; omega)).mono ?_
  rintro e w42 ⟨rfl, hxT41, hwT41⟩
  have HH43 : Hid (Holds w w42 [(w17.heap.size, [.slice a0m x0.parts.length c0m]), (w.heap.size, [.slice a0 x0.parts.length c0])] [([.slice aG R.length cG], [slD Lay.int R]), ([.slice a0m x0.parts.length c0m], Lay.gram.cells (mkGram (1) x0)), ([.slice aW R.length cW], [slD Lay.int R])]) := HTT41.out _ _ hxT41 hwT41
  clear HH40
  clear q0 q1 HTT41 hxT41 hwT41 hcT41
  have hkb0 : 1 + cntGram x0 ≤ 4000000 := by have := HW0.out; omega
  clear hcl0
  have HH44 : Hid (Holds w w42 [(w17.heap.size, [.slice a0m x0.parts.length c0m]), (w.heap.size, [.slice a0 x0.parts.length c0])] [([.slice aG R.length cG], [slD Lay.int R]), ([.slice aW R.length cW], [slD Lay.int R])]) := Holds.drop (P := [([.slice aG R.length cG], [slD Lay.int R])]) (x := ([.slice a0m x0.parts.length c0m], Lay.gram.cells (mkGram (1) x0))) (Q := [([.slice aW R.length cW], [slD Lay.int R])]) HH43.out
  clear HH43
  generalize 1 + cntGram x0 = k0 at *
  have R45 : Hid (RD w42 (.slice aG R.length cG) (slD Lay.int R)) := HH44.out.rd ([.slice aG R.length cG], [slD Lay.int R]) List.mem_cons_self 0 (by simp) (by simp)
  have R46 : Hid (RD w42 (.slice aW R.length cW) (slD Lay.int R)) := HH44.out.rd ([.slice aW R.length cW], [slD Lay.int R]) (List.mem_cons_of_mem _ List.mem_cons_self) 0 (by simp) (by simp)
  have q0 : w42.cell? ⟨w17.heap.size, 0, none⟩ = some (.slice a0m x0.parts.length c0m) := HH44.out.cell (w17.heap.size, [.slice a0m x0.parts.length c0m]) List.mem_cons_self 0 (by simp)
  have q1 : w42.cell? ⟨w.heap.size, 0, none⟩ = some (.slice a0 x0.parts.length c0) := HH44.out.cell (w.heap.size, [.slice a0 x0.parts.length c0]) (List.mem_cons_of_mem _ List.mem_cons_self) 0 (by simp)
  go_wp2_with fail
  refine (eqIntS_l R aG aW cG cW _ R45.out R46.out (by have := HRw.out; omega)).mono ?_
  rintro e w48 ⟨rfl, B47⟩
  clear q0 q1
  clear R45 R46
  have HH49 : Hid (Holds w w48 [(w17.heap.size, [.slice a0m x0.parts.length c0m]), (w.heap.size, [.slice a0 x0.parts.length c0])] [([.slice aG R.length cG], [slD Lay.int R]), ([.slice aW R.length cW], [slD Lay.int R])]) := HH44.out.later B47
  clear HH44
  clear B47
  have hcR := cntIntS_le R
  have hcR2 : 1 + cntIntS R ≤ 4000000 := by have := HRw.out; omega
  obtain ⟨T50, hcT50, htT50⟩ := Holds.turn (P := []) (x := ([.slice aG R.length cG], [slD Lay.int R])) (Q := [([.slice aW R.length cW], [slD Lay.int R])]) HH49.out
  have q0 : w48.cell? ⟨w17.heap.size, 0, none⟩ = some (.slice a0m x0.parts.length c0m) := HH49.out.cell (w17.heap.size, [.slice a0m x0.parts.length c0m]) List.mem_cons_self 0 (by simp)
  have q1 : w48.cell? ⟨w.heap.size, 0, none⟩ = some (.slice a0 x0.parts.length c0) := HH49.out.cell (w.heap.size, [.slice a0 x0.parts.length c0]) (List.mem_cons_of_mem _ List.mem_cons_self) 0 (by simp)
  have HTT50 : Hid (∀ w' ds, Cells w' w.heap.size [.slice aG R.length cG] ds T50 → Within w48 w' T50 → Holds w w' [(w17.heap.size, [.slice a0m x0.parts.length c0m]), (w.heap.size, [.slice a0 x0.parts.length c0])] ([] ++ ([.slice aG R.length cG], ds) :: [([.slice aW R.length cW], [slD Lay.int R])])) := htT50
  clear htT50
  go_wp2_with fail
  refine (markIntS_c R _ _ _ 1 _ hcT50 (by have := HRw.out; omega)).mono ?_
  rintro e w51 ⟨rfl, hxT50, hwT50⟩
  have HH52 : Hid (Holds w w51 [(w17.heap.size, [.slice a0m x0.parts.length c0m]), (w.heap.size, [.slice a0 x0.parts.length c0])] [([.slice aG R.length cG], [slD Lay.int (mkIntS 1 R)]), ([.slice aW R.length cW], [slD Lay.int R])]) := HTT50.out _ _ hxT50 hwT50
  clear HH49
  clear q0 q1 HTT50 hxT50 hwT50 hcT50
  obtain ⟨m, Hm⟩ : ∃ m, Hid (1 + cntIntS R = m) := ⟨_, rfl⟩
  have hm : m ≤ 4000000 := by rw [← Hm.out]; exact hcR2
  rw [Hm.out]
  clear hcR hcR2
  have R53 : Hid (RD w51 (.slice aG R.length cG) (slD Lay.int (mkIntS 1 R))) := HH52.out.rd ([.slice aG R.length cG], [slD Lay.int (mkIntS 1 R)]) List.mem_cons_self 0 (by simp) (by simp)
  have XH : Hid (Calls Try.prog 17 #[.slice aG R.length cG, .int .i64 1] w51 fun e w' => e = .returned (.int .i64 (m : Int)) ∧ Below (w51).heap.size w51 w') := by have := heldIntS_l R aG R.length cG 1 w51 R53.out (by have := HRw.out; omega); rw [Hm.out] at this; exact this
  clear R53
  have q0 : w51.cell? ⟨w17.heap.size, 0, none⟩ = some (.slice a0m x0.parts.length c0m) := HH52.out.cell (w17.heap.size, [.slice a0m x0.parts.length c0m]) List.mem_cons_self 0 (by simp)
  have q1 : w51.cell? ⟨w.heap.size, 0, none⟩ = some (.slice a0 x0.parts.length c0) := HH52.out.cell (w.heap.size, [.slice a0 x0.parts.length c0]) (List.mem_cons_of_mem _ List.mem_cons_self) 0 (by simp)
  go_wp2_with fail
  refine (XH.out).mono ?_
  rintro e w55 ⟨rfl, B54⟩
  clear q0 q1
  clear XH
  have HH56 : Hid (Holds w w55 [(w17.heap.size, [.slice a0m x0.parts.length c0m]), (w.heap.size, [.slice a0 x0.parts.length c0])] [([.slice aG R.length cG], [slD Lay.int (mkIntS 1 R)]), ([.slice aW R.length cW], [slD Lay.int R])]) := HH52.out.later B54
  clear HH52
  clear B54
  have q0 : w55.cell? ⟨w17.heap.size, 0, none⟩ = some (.slice a0m x0.parts.length c0m) := HH56.out.cell (w17.heap.size, [.slice a0m x0.parts.length c0m]) List.mem_cons_self 0 (by simp)
  have q1 : w55.cell? ⟨w.heap.size, 0, none⟩ = some (.slice a0 x0.parts.length c0) := HH56.out.cell (w.heap.size, [.slice a0 x0.parts.length c0]) (List.mem_cons_of_mem _ List.mem_cons_self) 0 (by simp)
  go_wp2_with fail
  refine (toGram_l x0 a0 c0 _ (H0.out.later HH56.out.below) (by have := HW0.out; omega)).mono ?_
  rintro e w59 ⟨a0h, c0h, S0h, rfl, O58, B57⟩
  clear q0 q1
  have HH60 : Hid (Holds w w59 [(w17.heap.size, [.slice a0m x0.parts.length c0m]), (w.heap.size, [.slice a0 x0.parts.length c0])] [([.slice a0h x0.parts.length c0h], Lay.gram.cells x0), ([.slice aG R.length cG], [slD Lay.int (mkIntS 1 R)]), ([.slice aW R.length cW], [slD Lay.int R])]) := HH56.out.push B57 O58
  clear HH56
  clear B57 O58
  have R61 : Hid (RD w59 (.slice a0h x0.parts.length c0h) (slD (Lay.list (Lay.list Lay.int)) x0.parts)) := HH60.out.rd ([.slice a0h x0.parts.length c0h], Lay.gram.cells x0) List.mem_cons_self 0 (by simp) (by simp [Lay.gram])
  have q0 : w59.cell? ⟨w17.heap.size, 0, none⟩ = some (.slice a0m x0.parts.length c0m) := HH60.out.cell (w17.heap.size, [.slice a0m x0.parts.length c0m]) List.mem_cons_self 0 (by simp)
  have q1 : w59.cell? ⟨w.heap.size, 0, none⟩ = some (.slice a0 x0.parts.length c0) := HH60.out.cell (w.heap.size, [.slice a0 x0.parts.length c0]) (List.mem_cons_of_mem _ List.mem_cons_self) 0 (by simp)
  go_wp2_with fail
  refine (followOf_any x0 a0h c0h n1 _ R61.out (by have := HW0.out; omega) HF0.out wf1).mono ?_
  rintro e w64 ⟨vH, SH, rfl, O63o, B62⟩
  clear q0 q1
  rw [HRe.out] at O63o
  obtain ⟨aH, cH, rfl, _⟩ := OD.shapeL O63o
  have O63 := Cells.one O63o
  clear O63o
  have HH65 : Hid (Holds w w64 [(w17.heap.size, [.slice a0m x0.parts.length c0m]), (w.heap.size, [.slice a0 x0.parts.length c0])] [([.slice aH R.length cH], [slD Lay.int R]), ([.slice a0h x0.parts.length c0h], Lay.gram.cells x0), ([.slice aG R.length cG], [slD Lay.int (mkIntS 1 R)]), ([.slice aW R.length cW], [slD Lay.int R])]) := HH60.out.push B62 O63
  clear HH60
  clear B62 O63
  clear R61
  have HH66 : Hid (Holds w w64 [(w17.heap.size, [.slice a0m x0.parts.length c0m]), (w.heap.size, [.slice a0 x0.parts.length c0])] [([.slice aH R.length cH], [slD Lay.int R]), ([.slice aG R.length cG], [slD Lay.int (mkIntS 1 R)]), ([.slice aW R.length cW], [slD Lay.int R])]) := Holds.drop (P := [([.slice aH R.length cH], [slD Lay.int R])]) (x := ([.slice a0h x0.parts.length c0h], Lay.gram.cells x0)) (Q := [([.slice aG R.length cG], [slD Lay.int (mkIntS 1 R)]), ([.slice aW R.length cW], [slD Lay.int R])]) HH65.out
  clear HH65
  have R67 : Hid (RD w64 (.slice aH R.length cH) (slD Lay.int R)) := HH66.out.rd ([.slice aH R.length cH], [slD Lay.int R]) List.mem_cons_self 0 (by simp) (by simp)
  have R68 : Hid (RD w64 (.slice aW R.length cW) (slD Lay.int R)) := HH66.out.rd ([.slice aW R.length cW], [slD Lay.int R]) (List.mem_cons_of_mem _ (List.mem_cons_of_mem _ List.mem_cons_self)) 0 (by simp) (by simp)
  have q0 : w64.cell? ⟨w17.heap.size, 0, none⟩ = some (.slice a0m x0.parts.length c0m) := HH66.out.cell (w17.heap.size, [.slice a0m x0.parts.length c0m]) List.mem_cons_self 0 (by simp)
  have q1 : w64.cell? ⟨w.heap.size, 0, none⟩ = some (.slice a0 x0.parts.length c0) := HH66.out.cell (w.heap.size, [.slice a0 x0.parts.length c0]) (List.mem_cons_of_mem _ List.mem_cons_self) 0 (by simp)
  go_wp2_with fail
  refine (eqIntS_l R aH aW cH cW _ R67.out R68.out (by have := HRw.out; omega)).mono ?_
  rintro e w70 ⟨rfl, B69⟩
  clear q0 q1
  clear R67 R68
  have HH71 : Hid (Holds w w70 [(w17.heap.size, [.slice a0m x0.parts.length c0m]), (w.heap.size, [.slice a0 x0.parts.length c0])] [([.slice aH R.length cH], [slD Lay.int R]), ([.slice aG R.length cG], [slD Lay.int (mkIntS 1 R)]), ([.slice aW R.length cW], [slD Lay.int R])]) := HH66.out.later B69
  clear HH66
  clear B69
  have R72 : Hid (RD w70 (.slice aG R.length cG) (slD Lay.int (mkIntS 1 R))) := HH71.out.rd ([.slice aG R.length cG], [slD Lay.int (mkIntS 1 R)]) (List.mem_cons_of_mem _ List.mem_cons_self) 0 (by simp) (by simp)
  have XH : Hid (Calls Try.prog 17 #[.slice aG R.length cG, .int .i64 1] w70 fun e w' => e = .returned (.int .i64 (m : Int)) ∧ Below (w70).heap.size w70 w') := by have := heldIntS_l R aG R.length cG 1 w70 R72.out (by have := HRw.out; omega); rw [Hm.out] at this; exact this
  clear R72
  have q0 : w70.cell? ⟨w17.heap.size, 0, none⟩ = some (.slice a0m x0.parts.length c0m) := HH71.out.cell (w17.heap.size, [.slice a0m x0.parts.length c0m]) List.mem_cons_self 0 (by simp)
  have q1 : w70.cell? ⟨w.heap.size, 0, none⟩ = some (.slice a0 x0.parts.length c0) := HH71.out.cell (w.heap.size, [.slice a0 x0.parts.length c0]) (List.mem_cons_of_mem _ List.mem_cons_self) 0 (by simp)
  go_wp2_with fail
  refine (XH.out).mono ?_
  rintro e w74 ⟨rfl, B73⟩
  clear q0 q1
  clear XH
  have HH75 : Hid (Holds w w74 [(w17.heap.size, [.slice a0m x0.parts.length c0m]), (w.heap.size, [.slice a0 x0.parts.length c0])] [([.slice aH R.length cH], [slD Lay.int R]), ([.slice aG R.length cG], [slD Lay.int (mkIntS 1 R)]), ([.slice aW R.length cW], [slD Lay.int R])]) := HH71.out.later B73
  clear HH71
  clear B73
  go_wp2
  go_ret
  exact ⟨rfl, HH75.out.below⟩
end Go.Proofs.Ytdniejpblhbjkab
