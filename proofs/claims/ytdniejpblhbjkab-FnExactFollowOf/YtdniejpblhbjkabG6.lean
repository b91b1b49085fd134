/-
  Contracts and plain mathematics, joined: LeastB, BeginStep, FollowsB, FirstsIs, FollowsClosed, FollowsUp, IsThere. No statement is proved here.
-/
import Derived.Test.YtdniejpblhbjkabG5
import Derived.Test.YtdniejpblhbjkabG3
import Derived.Test.YtdniejpblhbjkabG4
import Derived.Test.YtdniejpblhbjkabG1
namespace Go.Proofs.Ytdniejpblhbjkab
open Go.RowKit

theorem at540B {T : List Bool} (hl : T.length = 540) : BitT Try.prog 50 T.length := by rw [hl]; exact bt_table
theorem eq_table540B {w : World} {cs bs : List Bool} (h1 : cs.length = 540) (h2 : bs.length = 540) : (Op.equalIn 10000 50 (aggB cs) (aggB bs)).run Try.prog w = .ok (decide (cs = bs)) w := run_eq_table (m := 20) (n := 27) 9997 (by kernel_rfl) u_flags u_bool bt_flags.size bool_size h1 h2
theorem guard_tableB : Try.prog.eqGuardType Try.prog.depth 50 = false := by kernel_rfl
theorem ahead_tableB {n1 nR : Nat} {w2 wr w3 w4 : World} {t : TypeId} {T Z : List Bool} (hbel : Below n1 w2 wr) (hn : n1 < wr.heap.size) (hBT : Bits wr n1 t T) (hBR : Bits wr nR t Z) (hb3 : Below wr.heap.size wr w3) (hs3 : w3.heap.size = wr.heap.size + 1) (hTl : T.length = 540) (hB4 : Bits w4 wr.heap.size 50 (putB (List.replicate 540 false) 0 T)) (hg4 : w3.grownBy w4 (some wr.heap.size)) :
    Below n1 w2 w4 ∧ Bits w4 n1 t T ∧ Bits w4 wr.heap.size 50 T ∧ Bits w4 nR t Z := by
  have e : putB (List.replicate 540 false) 0 T = T := putB_whole (by rw [List.length_replicate]; exact hTl)
  rw [e] at hB4
  have hl2 := hBR.lt
  refine ⟨?_, ?_, hB4, ?_⟩
  · exact (hbel.trans (hb3.mono (by omega))).grown hg4 (by omega) (fun k hk => by cases hk; omega)
  · exact (hBT.later hb3).grown hg4 (by intro h; cases h; omega)
  · exact (hBR.later hb3).grown hg4 (by intro h; cases h; omega)

set_option maxHeartbeats 4000000 in
set_option maxRecDepth 100000 in
theorem least_B (st : Nat → List Int → List Bool → List Bool) (cap : Value) (P : List (List (List Int))) (a0 : Option Addr) (c0 : Nat) (T0 : List Bool) (w : World) (h0 : RD w (.slice a0 P.length c0) (slD (Lay.list (Lay.list Lay.int)) P)) (hok : gramOkB P = true) (hT0 : T0.length = 540) (hRz : Raises st P 540)
    (hcl : ∀ (W : World) (b : Nat) (T : List Bool) (k : Nat) (hk : k < P.length) (i : Nat) (hi : i < P[k].length) (a : Option Addr) (c : Nat), Below w.heap.size w W → w.heap.size ≤ b → Bits W b 50 T → T.length = 540 → RD w (.slice a P[k][i].length c) (slD Lay.int P[k][i]) →
      Calls Try.prog 56 #[.pointer (some ⟨b, 0, none⟩), .int .i64 (k : Int), .slice a P[k][i].length c, cap] W fun e w' => e = .returned (.tuple #[]) ∧ Bits w' b 50 (st k P[k][i] T) ∧ W.grownBy w' (some b)) :
    Calls Try.prog 55 #[.agg #[.slice a0 P.length c0], aggB T0, .func (.func 56) #[] #[cap]] w fun e w' => ∃ T, e = .returned (aggB T) ∧ T.length = 540 ∧ Grows st P T0 T ∧ leK st P T P.length = T ∧ Below w.heap.size w w' := by
  have F := Fits.of hok
  have HF : Hid (Fits P) := F
  have hp := F.parts
  have HRz : Hid (Raises st P 540) := hRz
  have HCL : Hid (∀ (W : World) (b : Nat) (T : List Bool) (k : Nat) (hk : k < P.length) (i : Nat) (hi : i < P[k].length) (a : Option Addr) (c : Nat), Below w.heap.size w W → w.heap.size ≤ b → Bits W b 50 T → T.length = 540 → RD w (.slice a P[k][i].length c) (slD Lay.int P[k][i]) →
      Calls Try.prog 56 #[.pointer (some ⟨b, 0, none⟩), .int .i64 (k : Int), .slice a P[k][i].length c, cap] W fun e w' => e = .returned (.tuple #[]) ∧ Bits w' b 50 (st k P[k][i] T) ∧ W.grownBy w' (some b)) := hcl
  clear F hok hRz hcl
  have B0 := (Below.refl w.heap.size w).alloc (Nat.le_refl _) (.cells #[.slice a0 P.length c0] 28)
  have HQ0 : Hid ((w.alloc (.cells #[.slice a0 P.length c0] 28)).cell? ⟨w.heap.size, 0, none⟩ = some (.slice a0 P.length c0)) := by show _ = _; simp
  have HR0 : Hid (RD w (.slice a0 P.length c0) (slD (Lay.list (Lay.list Lay.int)) P)) := h0
  have hsb : (w.alloc (.cells #[.slice a0 P.length c0] 28)).heap.size = w.heap.size + 1 := by simp
  clear h0
  go_enter Try.func55, Try.ntmps55
  go_wp2_with (first | (refine wpList_boxB (w := w.alloc _) rfl 50 _ rfl T0 rfl ?_; rw [hsb]; intro w1 hB1 hb1 hs1) | (refine wpList_allocB (w := w1) rfl 50 rfl 540 bt_table ?_; intro w2 hB2 hb2 hs2))
  generalize w.alloc (.cells #[.slice a0 P.length c0] 28) = wb at *
  simp only [Act.put, List.setIfInBounds_toArray, List.set_cons_zero, List.set_cons_succ]
  have hB12 := hB1.below hb2 (by omega)
  have HQ : Hid (∀ W, Below (w.heap.size + 1) w2 W → W.cell? ⟨w.heap.size, 0, none⟩ = some (.slice a0 P.length c0) ∧ Below w.heap.size w W) := by
    intro W hW
    have b1 : Below (w.heap.size + 1) wb W := hb1.trans ((hb2.mono (by omega)).trans hW)
    exact ⟨(b1.cell (p := ⟨w.heap.size, 0, none⟩) (by simp)).trans HQ0.out, B0.trans (b1.mono (by omega))⟩
  have hnR : w1.heap.size = w.heap.size + 2 := by omega
  have hwr0 : w.heap.size ≤ w1.heap.size := by omega
  have hneq : w1.heap.size ≠ w.heap.size + 1 := by omega
  clear HQ0 B0 hB1 hb1 hs1 hb2 hs2 hnR
  generalize w1.heap.size = nR at *
  have HNR : Hid (nR ≠ w.heap.size + 1) := hneq
  have HWR : Hid (w.heap.size ≤ nR) := hwr0
  have hnw : w.heap.size < w.heap.size + 1 := by omega
  obtain ⟨n1, Hn1⟩ : ∃ n1, Hid (w.heap.size + 1 = n1) := ⟨_, rfl⟩
  rw [Hn1.out] at hB12 HQ HNR hnw
  rw [Hn1.out]
  clear hneq hsb Hn1 hwr0
  go_loopg [] 540 (fun g wr => ∃ T : List Bool, Aside (T.length = 540 ∧ 540 ≤ cntB T + g ∧ Grows st P T0 T ∧ Bits wr n1 50 T ∧ Below n1 w2 wr ∧ Bits wr nR 50 (List.replicate 540 false)))
  case atStart => exact ⟨T0, hT0, by omega, Grows.refl _ _, hB12, Below.refl _ _, hB2⟩
  case round =>
    obtain ⟨T, A⟩ := hrel
    have hTl := A.out.1
    have HTg : Hid (540 ≤ cntB T + gk) := A.out.2.1
    have HTG : Hid (Grows st P T0 T) := A.out.2.2.1
    have hBT := A.out.2.2.2.1
    have hbel := A.out.2.2.2.2.1
    have hBR := A.out.2.2.2.2.2
    clear A hB2 hB12
    have hnr := hBT.lt
    go_wp2_with (first | (refine wpList_loadW rfl 50 _ rfl n1 50 T rfl (at540B hTl) hBT ?_) | (refine wpList_allocB rfl 50 rfl 540 bt_table ?_; intro w3 hB3 hb3 hs3) | (refine wpList_storeB rfl 50 _ _ rfl wr.heap.size 0 50 _ T rfl rfl (at540B hTl) hB3 (by rw [List.length_replicate, hTl]; decide) ?_; intro w4 hB4 hg4; obtain ⟨hbel4, hBT4, hBA4, hBR4⟩ := ahead_tableB hbel hnr hBT hBR hb3 hs3 hTl hB4 hg4; obtain ⟨q4, _⟩ := HQ.out w4 hbel4))
    have hnA : n1 < wr.heap.size := hnr
    have hnA2 : nR < wr.heap.size := hBR.lt
    generalize wr.heap.size = nA at *
    clear hB3 hb3 hs3 hB4 hg4 hBT hbel hnr hBR
    go_loopw [16] (fun s wk => ∃ k : Nat, k ≤ P.length ∧ s = .int .i64 k ∧ Bits wk n1 50 (leK st P T k) ∧ Bits wk nA 50 T ∧ Below n1 w2 wk ∧ Bits wk nR 50 (List.replicate 540 false)) (fun s _ => P.length - (intOf s).toNat)
    case atStart => exact ⟨0, Nat.zero_le _, rfl, hBT4, hBA4, hbel4, hBR4⟩
    case round =>
      obtain ⟨k, hk, rfl, hBk, hBA, hbk, hBR⟩ := hrel
      clear hBT4 hBA4 hbel4 q4 hBR4
      by_cases hlk : k < P.length
      · have HK : Hid (leK st P T (k + 1) = leI st k P[k] (leK st P T k) P[k].length) := leK_next hlk
        have hm := List.getElem_mem hlk
        have hQ := HF.out.alts _ hm
        have HLe : Hid (∀ i, i ≤ P[k].length → (leI st k P[k] (leK st P T k) i).length = 540) := fun i hi => (HRz.out.leI hlk (HRz.out.leK hTl k hk).1 i hi).1
        have HC1 : Hid (∀ (W : World) (b : Nat) (T : List Bool) (i : Nat) (hi : i < P[k].length) (a : Option Addr) (c : Nat), Below w.heap.size w W → w.heap.size ≤ b → Bits W b 50 T → T.length = 540 → RD w (.slice a P[k][i].length c) (slD Lay.int P[k][i]) →
          Calls Try.prog 56 #[.pointer (some ⟨b, 0, none⟩), .int .i64 (k : Int), .slice a P[k][i].length c, cap] W fun e w' => e = .returned (.tuple #[]) ∧ Bits w' b 50 (st k P[k][i] T) ∧ W.grownBy w' (some b)) := fun W b T i hi a c => HCL.out W b T k hlk i hi a c
        obtain ⟨b1, o1, ea0, hb1, a1, c1, q0', r1⟩ := HR0.out.listAt hlk
        have HR1 : Hid (RD w (.slice a1 P[k].length c1) (slD (Lay.list Lay.int) P[k])) := r1
        have q0 := ((HQ.out wr hbk).2.cell (p := ⟨b1, o1 + k, none⟩) hb1).trans q0'
        subst ea0
        clear r1 q0' hm hb1
        generalize leK st P T k = Tk at *
        generalize P[k] = Q at *
        go_wp2
        go_loopw [23] (fun s wk => ∃ i : Nat, i ≤ Q.length ∧ s = .int .i64 i ∧ Bits wk n1 50 (leI st k Q Tk i) ∧ Bits wk nA 50 T ∧ Below n1 w2 wk ∧ Bits wk nR 50 (List.replicate 540 false)) (fun s _ => Q.length - (intOf s).toNat)
        case atStart => exact ⟨0, Nat.zero_le _, rfl, hBk, hBA, hbk, hBR⟩
        case round =>
          obtain ⟨i, hi, rfl, hBi, hBAi, hbi, hBRi⟩ := hrel
          clear hBk hBA hbk q0 hBR
          by_cases hli : i < Q.length
          · have HE : Hid (leI st k Q Tk (i + 1) = st k Q[i] (leI st k Q Tk i)) := leI_next hli
            have hTi := HLe.out i hi
            obtain ⟨b2, o2, ea1, hb2, a2, c2, q1', r2⟩ := HR1.out.listAt hli
            have hbw := (HQ.out wr hbi).2
            have q1 := (hbw.cell (p := ⟨b2, o2 + i, none⟩) hb2).trans q1'
            subst ea1
            have X := HC1.out wr n1 _ i hli a2 c2 hbw (by omega) hBi hTi r2
            have HX : Hid (Calls Try.prog 56 #[.pointer (some ⟨n1, 0, none⟩), .int .i64 (k : Int), .slice a2 Q[i].length c2, cap] wr fun e w' => e = .returned (.tuple #[]) ∧ Bits w' n1 50 (st k Q[i] (leI st k Q Tk i)) ∧ wr.grownBy w' (some n1)) := X
            rw [← HE.out] at HX
            have hn1r := hBi.lt
            clear r2 q1' hb2 X HE hbw
            generalize Q[i] = R at *
            go_wp2_with (go_at_call 56; refine HX.out.mono ?_; rintro e w5 ⟨rfl, hB5, hg5⟩)
            go_roundw
            case rel => exact ⟨i + 1, by omega, by go_num, hB5, hBAi.grown hg5 (by intro h; cases h; omega), hbi.grown hg5 (by omega) (fun j hj => by cases hj; omega), hBRi.grown hg5 (by intro h; cases h; exact HNR.out rfl)⟩
            case measure => simp [intOf]; omega
          · have e : i = Q.length := by omega
            subst e
            have HKe := HK
            clear HK
            go_wp2
            go_roundw
            case rel => exact ⟨k + 1, by omega, by go_num, by rw [HKe.out]; exact hBi, hBAi, hbi, hBRi⟩
            case measure => simp [intOf]; omega
      · have e : k = P.length := by omega
        subst e
        have hLl := (HRz.out.leK hTl P.length (Nat.le_refl _))
        have HL2 : Hid (leK st P T P.length = T ∨ cntB T < cntB (leK st P T P.length)) := hLl.2
        have hLl1 := hLl.1
        have HLG : Hid (Grows st P T0 (leK st P T P.length)) := HTG.out.leK _ (Nat.le_refl _)
        have HLc : Hid (cntB (leK st P T P.length) ≤ 540) := by show _ ≤ _; have := cntB_le (leK st P T P.length); omega
        clear hLl
        by_cases hfix : leK st P T P.length = T
        · have HX : Hid (leK st P T P.length = T) := hfix
          rw [hfix] at hBk
          clear hfix HL2 hLl1
          have hBel := (HQ.out wr hbk).2
          go_wp2_with (first | (refine wpList_loadW rfl 50 _ rfl n1 50 T rfl (at540B hTl) hBk ?_) | (refine wpList_loadW rfl 50 _ rfl nA 50 T rfl (at540B hTl) hBA ?_) | (refine wpList_eqlB rfl 50 _ _ _ rfl T T rfl rfl guard_tableB (eq_table540B hTl hTl) ?_; rw [decide_eq_true (rfl : T = T)]) | (refine wpList_storeB rfl 50 _ _ rfl nR 0 50 _ T rfl rfl (at540B hTl) hBR (by rw [List.length_replicate, hTl]; decide) ?_; intro w5 hB5 hg5))
          have e5 : putB (List.replicate 540 false) 0 T = T := putB_whole (by rw [List.length_replicate]; exact hTl)
          rw [e5] at hB5
          have hb5 : Below w.heap.size w w5 := hBel.grown hg5 hBel.size (fun j hj => by cases hj; exact HWR.out)
          refine bodyPost_ret (v := aggB T) (ret_cell 50 rfl rfl hB5 (at540B hTl)) rfl ⟨T, rfl, hTl, HTG.out, HX.out, hb5⟩
        · have hcnt : cntB T < cntB (leK st P T P.length) := HL2.out.resolve_left hfix
          have hdec : decide (leK st P T P.length = T) = false := decide_eq_false hfix
          clear hfix HL2
          generalize leK st P T P.length = T2 at *
          go_wp2_with (first | (refine wpList_loadW rfl 50 _ rfl n1 50 T2 rfl (at540B hLl1) hBk ?_) | (refine wpList_loadW rfl 50 _ rfl nA 50 T rfl (at540B hTl) hBA ?_) | (refine wpList_eqlB rfl 50 _ _ _ rfl T2 T rfl rfl guard_tableB (eq_table540B hLl1 hTl) ?_; rw [hdec]))
          go_roundg (gk - 1)
          case measure => have := HTg.out; have := HLc.out; omega
          case rel => exact ⟨T2, hLl1, by have := HTg.out; have := HLc.out; omega, HLG.out, hBk, hbk, hBR⟩
end Go.Proofs.Ytdniejpblhbjkab
namespace Go.Proofs.Ytdniejpblhbjkab
open Go.RowKit

theorem drop_take_left {E X : List Bool} {n : Nat} (h : E.length = n) : ((E ++ X).drop 0).take n = E := by rw [List.drop_zero, List.take_append_of_le_length (by omega), List.take_of_length_le (by omega)]

section
variable {P : Program}
theorem wp_allocB {o : Oper} {a : Act} {w : World} {K : Act → World → Prop} {Q : Exit → Act → World → Prop} (d : Option Tmp) (hd : o.dst = d) (ty : TypeId) (n : Nat) (ho : o.op = .alloc ty) (hT : BitT P ty n)
    (h : ∀ w', Bits w' w.heap.size ty (List.replicate n false) → Below w.heap.size w w' → w'.heap.size = w.heap.size + 1 → K (a.put d (.pointer (some ⟨w.heap.size, 0, none⟩))) w') : Oper.wp P o a w K Q := by
  subst hd
  obtain ⟨w', h1, h2, h3, h4⟩ := exec_allocB (P := P) (w := w) (ρ := a.eval) ho hT
  unfold Oper.wp
  rw [h1, Oper.upon_value]
  exact h w' h2 h3 h4
theorem wp_storeB {o : Oper} {a : Act} {w : World} {K : Act → World → Prop} {Q : Exit → Act → World → Prop} (d : Option Tmp) (hd : o.dst = d) (ty : TypeId) (x y : Operand) (b off : Nat) (t : TypeId) (bs cs : List Bool) (ho : o.op = .store ty x y) (hx : a.eval x = .pointer (some ⟨b, off, none⟩)) (hy : a.eval y = aggB cs) (hT : BitT P ty cs.length) (hB : Bits w b t bs) (hn : off + cs.length ≤ bs.length)
    (h : ∀ w', Bits w' b t (putB bs off cs) → w.grownBy w' (some b) → K (a.put d undef) w') : Oper.wp P o a w K Q := by
  subst hd
  obtain ⟨w', h1, h2, h3⟩ := exec_storeB (P := P) ho hx hy hT hB hn
  unfold Oper.wp
  rw [h1, Oper.upon_skip]
  exact h w' h2 h3
end

set_option maxHeartbeats 4000000 in
set_option maxRecDepth 100000 in
theorem beginStep_any (b bE : Nat) (T E X : List Bool) (k : Nat) (R : List Int) (a : Option Addr) (c : Nat) (w : World) (hB : Bits w b 50 T) (hT : T.length = 540) (hE : Bits w bE 52 (E ++ X)) (hEl : E.length = 27) (hk : k < 20) (hR : Reads w a R) (hz : ∀ z ∈ R, -9223372036854775808 ≤ z ∧ z ≤ 9223372036854775807) (hrl : R.length ≤ 1048576) :
    Calls Try.prog 56 #[.pointer (some ⟨b, 0, none⟩), .int .i64 (k : Int), .slice a R.length c, .pointer (some ⟨bE, 0, none⟩)] w fun e w' => e = .returned (.tuple #[]) ∧ Bits w' b 50 (bgR E k R T) ∧ w.grownBy w' (some b) := by
  have HX : Hid (∀ W : World, Below w.heap.size w W → Calls Try.prog 34 #[aggB (E ++ T), .slice a R.length c] W fun e w' => e = .returned (.tuple #[aggB (ofB (E ++ T) (List.replicate 27 false) R).1, .bool (ofB (E ++ T) (List.replicate 27 false) R).2]) ∧ Below W.heap.size W w') := fun W hW => ofRow_any (E ++ T) R a c W (by rw [List.length_append]; omega) (hR.below hW) hz hrl
  have HBg : Hid (bgR E k R T = joinB T (k * 27) (ofB (E ++ T) (List.replicate 27 false) R).1) := rfl
  have hGl : (ofB (E ++ T) (List.replicate 27 false) R).1.length = 27 := by rw [ofB_length, List.length_replicate]
  have hk0 : (0 : Int) ≤ (k : Int) := by omega
  have hk1 : (k : Int) < 20 := by omega
  have HJ : Hid (∀ (W : World) (G : List Bool), G.length = 27 → Bits W b 50 T → Calls Try.prog 57 #[.pointer (some ⟨b, k * 27, none⟩), aggB G] W fun e w' => e = .returned (.tuple #[]) ∧ Bits w' b 50 (joinB T (k * 27) G) ∧ W.grownBy w' (some b)) := fun W G hG hW => join_any b (k * 27) 50 T G W hW (by omega) hG
  have HBd : Hid (Bits w b 50 T) := hB
  have HEd : Hid (Bits w bE 52 (E ++ X)) := hE
  have hEXl : 27 ≤ (E ++ X).length := by rw [List.length_append]; omega
  have hET := drop_take_left (X := X) hEl
  have HET : Hid (((E ++ X).drop 0).take 27 = E) := hET
  clear hB hE hR hz hET
  generalize ofB (E ++ T) (List.replicate 27 false) R = GB at *
  obtain ⟨G, nb⟩ := GB
  go_enter Try.func56, Try.ntmps56
  go_wp2_with fail
  refine wp_region_held_drew (S := fun W => Bits W b 50 T ∧ Bits W bE 52 (E ++ X)) (by kernel_rfl) ⟨HBd.out.later (Below.drew (Below.refl _ _)), HEd.out.later (Below.drew (Below.refl _ _))⟩ (fun hHeld => ?_)
  refine take_atL (i := 0) (d := some 10) (v := .pointer (some ⟨bE, 0, none⟩)) rfl rfl (by kernel_rfl) (by kernel_rfl) (by kernel_rfl) (fun _ _ _ h => h) (by rfl) ?_ hHeld ?_
  · intro w' hSw; go_simp; first | done | rfl
  try simp only [Act.put, List.setIfInBounds_toArray, List.set_cons_zero, List.set_cons_succ]
  refine take_atL (i := 1) (d := some 11) (v := aggB E) rfl rfl (by kernel_rfl) (by kernel_rfl) (by kernel_rfl) (fun _ _ _ h => h) (by rfl) ?_ hHeld ?_
  · intro w' hSw; rw [exec_loadB (t := 52) (b := bE) (off := 0) (n := 27) (bs := E ++ X) rfl rfl bt_flags hSw.2 hEXl, HET.out]
  try simp only [Act.put, List.setIfInBounds_toArray, List.set_cons_zero, List.set_cons_succ]
  refine take_atL (i := 2) (d := some 12) (v := .pointer (some ⟨b, 0, none⟩)) rfl rfl (by kernel_rfl) (by kernel_rfl) (by kernel_rfl) (fun _ _ _ h => h) (by rfl) ?_ hHeld ?_
  · intro w' hSw; go_simp; first | done | rfl
  try simp only [Act.put, List.setIfInBounds_toArray, List.set_cons_zero, List.set_cons_succ]
  refine take_atL (i := 3) (d := some 13) (v := .pointer (some ⟨b, 0, none⟩)) rfl rfl (by kernel_rfl) (by kernel_rfl) (by kernel_rfl) (fun _ _ _ h => h) (by rfl) ?_ hHeld ?_
  · intro w' hSw; go_simp; first | done | rfl
  try simp only [Act.put, List.setIfInBounds_toArray, List.set_cons_zero, List.set_cons_succ]
  refine take_atL (i := 4) (d := some 14) (v := aggB T) rfl rfl (by kernel_rfl) (by kernel_rfl) (by kernel_rfl) (fun _ _ _ h => h) (by rfl) ?_ hHeld ?_
  · intro w' hSw; exact exec_loadW (t := 50) (b := b) rfl rfl (at540B hT) hSw.1
  try simp only [Act.put, List.setIfInBounds_toArray, List.set_cons_zero, List.set_cons_succ]
  refine take_atL (i := 5) (d := some 15) (v := aggB (E ++ T)) rfl rfl (by kernel_rfl) (by kernel_rfl) (by kernel_rfl) (fun _ _ _ h => h) (by rfl) ?_ hHeld ?_
  · intro w' hSw; exact exec_begin2 rfl rfl rfl hEl hT _
  try simp only [Act.put, List.setIfInBounds_toArray, List.set_cons_zero, List.set_cons_succ]
  refine take_atL (i := 6) (d := some 16) (v := .slice a R.length c) rfl rfl (by kernel_rfl) (by kernel_rfl) (by kernel_rfl) (fun _ _ _ h => h) (by rfl) ?_ hHeld ?_
  · intro w' hSw; go_simp; first | done | rfl
  try simp only [Act.put, List.setIfInBounds_toArray, List.set_cons_zero, List.set_cons_succ]
  refine wpAnyH_ready (rs := [7, 11]) (by kernel_rfl) (by simp) ?_
  refine AllReadyH.cons (o := _) rfl (fun K hK => ?_) (AllReadyH.cons (o := _) rfl (fun K hK => ?_) AllReadyH.nil)
  · rw [if_pos (by rfl)]
    go_simp
    refine (HX.out _ (Below.drew (Below.refl _ _))).mono ?_
    rintro e w5 ⟨rfl, hb5⟩
    go_wp2_with fail
    have b5 : Below w.heap.size w w5 := Below.drewed (by simpa using hb5)
    refine hK.out _ _ ⟨HBd.out.later b5, HEd.out.later b5⟩ (fun hHeld => ?_)
    clear hK K
    try simp only [Act.put, List.setIfInBounds_toArray, List.set_cons_zero, List.set_cons_succ]
    refine take_atL (i := 8) (d := some 9) (v := .tuple #[aggB G, .bool nb]) rfl rfl (by kernel_rfl) (by kernel_rfl) (by kernel_rfl) (fun _ _ _ h => h) (by rfl) ?_ hHeld ?_
    · intro w' hSw; go_simp; first | done | rfl
    try simp only [Act.put, List.setIfInBounds_toArray, List.set_cons_zero, List.set_cons_succ]
    refine take_atL (i := 9) (d := some 18) (v := aggB G) rfl rfl (by kernel_rfl) (by kernel_rfl) (by kernel_rfl) (fun _ _ _ h => h) (by rfl) ?_ hHeld ?_
    · intro w' hSw; go_simp; first | done | rfl
    try simp only [Act.put, List.setIfInBounds_toArray, List.set_cons_zero, List.set_cons_succ]
    refine take_atL (i := 10) (d := some 19) (v := .bool nb) rfl rfl (by kernel_rfl) (by kernel_rfl) (by kernel_rfl) (fun _ _ _ h => h) (by rfl) ?_ hHeld ?_
    · intro w' hSw; go_simp; first | done | rfl
    try simp only [Act.put, List.setIfInBounds_toArray, List.set_cons_zero, List.set_cons_succ]
    refine wpAnyH_ready (rs := [11]) (by kernel_rfl) (by simp) ?_
    refine AllReadyH.cons (o := _) rfl (fun K hK => ?_) AllReadyH.nil
    rw [if_pos (by rfl)]
    refine wp_allocB (some 7) rfl 47 27 rfl bt_flags ?_
    intro w6 hBA hb6 hs6
    have hn5 := b5.size
    have bA : Below w.heap.size w w6 := b5.trans (hb6.mono b5.size)
    clear hs6
    refine hK.out _ _ ⟨HBd.out.later bA, HEd.out.later bA⟩ (fun hHeld => ?_)
    clear hK K
    try simp only [Act.put, List.setIfInBounds_toArray, List.set_cons_zero, List.set_cons_succ]
    have hnA : b < w5.heap.size := by have := HBd.out.lt; omega
    have hnE : bE < w5.heap.size := by have := HEd.out.lt; omega
    have hnW : w.heap.size ≤ w5.heap.size := by omega
    refine wpAnyH_ready (rs := [12]) (by kernel_rfl) (by simp) ?_
    refine AllReadyH.cons (o := _) rfl (fun K hK => ?_) AllReadyH.nil
    rw [if_pos (by rfl)]
    refine wp_storeB none rfl 47 _ _ w5.heap.size 0 47 _ G rfl rfl rfl (at27 hGl) hBA (by rw [List.length_replicate, hGl]; decide) ?_
    intro w7 hB7 hg7
    rw [putB_whole (by rw [List.length_replicate]; exact hGl)] at hB7
    have b7 : Below w.heap.size w w7 := bA.grown hg7 bA.size (fun j hj => by cases hj; exact hnW)
    refine hK.out _ _ ⟨HBd.out.later b7, HEd.out.later b7⟩ (fun hHeld => ?_)
    clear hK K
    simp only [Act.put]
    refine take_atL (i := 13) (d := some 8) (v := .bool nb) rfl rfl (by kernel_rfl) (by kernel_rfl) (by kernel_rfl) (fun _ _ _ h => h) (by rfl) ?_ hHeld ?_
    · intro w' hSw; go_simp; first | done | rfl
    try simp only [Act.put, List.setIfInBounds_toArray, List.set_cons_zero, List.set_cons_succ]
    refine wpAnyH_done (by kernel_rfl) ?_ _
    clear hHeld hBA bA hg7
    generalize w5.heap.size = nA at *
    go_wp2_with fail
    refine wp_region_held_drew (S := fun W => Bits W nA 47 G) (by kernel_rfl) (hB7.later (Below.drew (Below.refl _ _))) (fun hHeld => ?_)
    refine take_atL (i := 0) (d := some 20) (v := .pointer (some ⟨b, 0, none⟩)) rfl rfl (by kernel_rfl) (by kernel_rfl) (by kernel_rfl) (fun _ _ _ h => h) (by rfl) ?_ hHeld ?_
    · intro w' hSw; go_simp; first | done | rfl
    try simp only [Act.put, List.setIfInBounds_toArray, List.set_cons_zero, List.set_cons_succ]
    refine take_atL (i := 1) (d := some 21) (v := .int .i64 (k : Int)) rfl rfl (by kernel_rfl) (by kernel_rfl) (by kernel_rfl) (fun _ _ _ h => h) (by rfl) ?_ hHeld ?_
    · intro w' hSw; go_simp; first | done | rfl
    try simp only [Act.put, List.setIfInBounds_toArray, List.set_cons_zero, List.set_cons_succ]
    refine take_atL (i := 2) (d := some 22) (v := .pointer (some ⟨b, 0, none⟩)) rfl rfl (by kernel_rfl) (by kernel_rfl) (by kernel_rfl) (fun _ _ _ h => h) (by rfl) ?_ hHeld ?_
    · intro w' hSw; go_simp; first | done | rfl
    try simp only [Act.put, List.setIfInBounds_toArray, List.set_cons_zero, List.set_cons_succ]
    refine take_atL (i := 3) (d := some 23) (v := .pointer (some ⟨b, k * 27, none⟩)) rfl rfl (by kernel_rfl) (by kernel_rfl) (by kernel_rfl) (fun _ _ _ h => h) (by rfl) ?_ hHeld ?_
    · intro w' hSw; go_simp; first | done | rfl
    try simp only [Act.put, List.setIfInBounds_toArray, List.set_cons_zero, List.set_cons_succ]
    refine take_atL (i := 4) (d := some 24) (v := aggB G) rfl rfl (by kernel_rfl) (by kernel_rfl) (by kernel_rfl) (fun _ _ _ h => h) (by rfl) ?_ hHeld ?_
    · intro w' hSw; exact exec_loadW (t := 47) (b := nA) rfl rfl (at27 hGl) hSw
    try simp only [Act.put, List.setIfInBounds_toArray, List.set_cons_zero, List.set_cons_succ]
    refine wpAnyH_ready (rs := [5]) (by kernel_rfl) (by simp) ?_
    refine AllReadyH.cons (o := _) rfl (fun K hK => ?_) AllReadyH.nil
    rw [if_pos (by rfl)]
    go_simp
    refine (HJ.out _ G hGl (HBd.out.later (b7.trans ((Below.drew (Below.refl _ _)).mono b7.size)))).mono ?_
    rintro e w8 ⟨rfl, hB8, hg8⟩
    have hB8A : Bits w8 nA 47 G := (hB7.later (Below.drew (Below.refl _ _))).grown hg8 (fun h => by have := Option.some.inj h; omega)
    go_wp2_with fail
    refine hK.out _ _ hB8A (fun hHeld => ?_)
    clear hK K
    try simp only [Act.put, List.setIfInBounds_toArray, List.set_cons_zero, List.set_cons_succ]
    refine wpAnyH_done (by kernel_rfl) ?_ _
    clear hHeld
    have hgw : w.grownBy w8 (some b) := grownBy_trans (grownBy_of_below (Below.drew b7) _) hg8
    rw [← HBg.out] at hB8
    go_wp2
    go_end0
    exact ⟨rfl, hB8, hgw⟩
  · rw [if_pos (by rfl)]
    refine wp_allocB (some 7) rfl 47 27 rfl bt_flags ?_
    intro w4 hB4 hb4 hs4
    have b4 : Below w.heap.size w w4 := Below.drewed (by simpa using hb4)
    obtain ⟨nA, HnA⟩ : ∃ nA, Hid (w.drew.heap.size = nA) := ⟨_, rfl⟩
    rw [HnA.out] at hB4 ⊢
    have hnB : w.heap.size ≤ nA := by have := HnA.out; simp at this; omega
    clear hs4 hb4 HnA
    refine hK.out _ _ ⟨HBd.out.later b4, HEd.out.later b4⟩ (fun hHeld => ?_)
    clear hK K
    try simp only [Act.put, List.setIfInBounds_toArray, List.set_cons_zero, List.set_cons_succ]
    refine wpAnyH_ready (rs := [7]) (by kernel_rfl) (by simp) ?_
    refine AllReadyH.cons (o := _) rfl (fun K hK => ?_) AllReadyH.nil
    rw [if_pos (by rfl)]
    go_simp
    refine (HX.out _ b4).mono ?_
    rintro e w5 ⟨rfl, hb5⟩
    go_wp2_with fail
    have b5 : Below w.heap.size w w5 := b4.trans (hb5.mono b4.size)
    have hBA : Bits w5 nA 47 (List.replicate 27 false) := hB4.later hb5
    have bA := b5
    refine hK.out _ _ ⟨HBd.out.later b5, HEd.out.later b5⟩ (fun hHeld => ?_)
    clear hK K
    try simp only [Act.put, List.setIfInBounds_toArray, List.set_cons_zero, List.set_cons_succ]
    refine take_atL (i := 8) (d := some 9) (v := .tuple #[aggB G, .bool nb]) rfl rfl (by kernel_rfl) (by kernel_rfl) (by kernel_rfl) (fun _ _ _ h => h) (by rfl) ?_ hHeld ?_
    · intro w' hSw; go_simp; first | done | rfl
    try simp only [Act.put, List.setIfInBounds_toArray, List.set_cons_zero, List.set_cons_succ]
    refine take_atL (i := 9) (d := some 18) (v := aggB G) rfl rfl (by kernel_rfl) (by kernel_rfl) (by kernel_rfl) (fun _ _ _ h => h) (by rfl) ?_ hHeld ?_
    · intro w' hSw; go_simp; first | done | rfl
    try simp only [Act.put, List.setIfInBounds_toArray, List.set_cons_zero, List.set_cons_succ]
    refine take_atL (i := 10) (d := some 19) (v := .bool nb) rfl rfl (by kernel_rfl) (by kernel_rfl) (by kernel_rfl) (fun _ _ _ h => h) (by rfl) ?_ hHeld ?_
    · intro w' hSw; go_simp; first | done | rfl
    try simp only [Act.put, List.setIfInBounds_toArray, List.set_cons_zero, List.set_cons_succ]
    have hnA : b < nA := by have := HBd.out.lt; omega
    have hnE : bE < nA := by have := HEd.out.lt; omega
    have hnW : w.heap.size ≤ nA := by omega
    refine wpAnyH_ready (rs := [12]) (by kernel_rfl) (by simp) ?_
    refine AllReadyH.cons (o := _) rfl (fun K hK => ?_) AllReadyH.nil
    rw [if_pos (by rfl)]
    refine wp_storeB none rfl 47 _ _ nA 0 47 _ G rfl rfl rfl (at27 hGl) hBA (by rw [List.length_replicate, hGl]; decide) ?_
    intro w7 hB7 hg7
    rw [putB_whole (by rw [List.length_replicate]; exact hGl)] at hB7
    have b7 : Below w.heap.size w w7 := bA.grown hg7 bA.size (fun j hj => by cases hj; exact hnW)
    refine hK.out _ _ ⟨HBd.out.later b7, HEd.out.later b7⟩ (fun hHeld => ?_)
    clear hK K
    simp only [Act.put]
    refine take_atL (i := 13) (d := some 8) (v := .bool nb) rfl rfl (by kernel_rfl) (by kernel_rfl) (by kernel_rfl) (fun _ _ _ h => h) (by rfl) ?_ hHeld ?_
    · intro w' hSw; go_simp; first | done | rfl
    try simp only [Act.put, List.setIfInBounds_toArray, List.set_cons_zero, List.set_cons_succ]
    refine wpAnyH_done (by kernel_rfl) ?_ _
    clear hHeld hBA bA hg7
    go_wp2_with fail
    refine wp_region_held_drew (S := fun W => Bits W nA 47 G) (by kernel_rfl) (hB7.later (Below.drew (Below.refl _ _))) (fun hHeld => ?_)
    refine take_atL (i := 0) (d := some 20) (v := .pointer (some ⟨b, 0, none⟩)) rfl rfl (by kernel_rfl) (by kernel_rfl) (by kernel_rfl) (fun _ _ _ h => h) (by rfl) ?_ hHeld ?_
    · intro w' hSw; go_simp; first | done | rfl
    try simp only [Act.put, List.setIfInBounds_toArray, List.set_cons_zero, List.set_cons_succ]
    refine take_atL (i := 1) (d := some 21) (v := .int .i64 (k : Int)) rfl rfl (by kernel_rfl) (by kernel_rfl) (by kernel_rfl) (fun _ _ _ h => h) (by rfl) ?_ hHeld ?_
    · intro w' hSw; go_simp; first | done | rfl
    try simp only [Act.put, List.setIfInBounds_toArray, List.set_cons_zero, List.set_cons_succ]
    refine take_atL (i := 2) (d := some 22) (v := .pointer (some ⟨b, 0, none⟩)) rfl rfl (by kernel_rfl) (by kernel_rfl) (by kernel_rfl) (fun _ _ _ h => h) (by rfl) ?_ hHeld ?_
    · intro w' hSw; go_simp; first | done | rfl
    try simp only [Act.put, List.setIfInBounds_toArray, List.set_cons_zero, List.set_cons_succ]
    refine take_atL (i := 3) (d := some 23) (v := .pointer (some ⟨b, k * 27, none⟩)) rfl rfl (by kernel_rfl) (by kernel_rfl) (by kernel_rfl) (fun _ _ _ h => h) (by rfl) ?_ hHeld ?_
    · intro w' hSw; go_simp; first | done | rfl
    try simp only [Act.put, List.setIfInBounds_toArray, List.set_cons_zero, List.set_cons_succ]
    refine take_atL (i := 4) (d := some 24) (v := aggB G) rfl rfl (by kernel_rfl) (by kernel_rfl) (by kernel_rfl) (fun _ _ _ h => h) (by rfl) ?_ hHeld ?_
    · intro w' hSw; exact exec_loadW (t := 47) (b := nA) rfl rfl (at27 hGl) hSw
    try simp only [Act.put, List.setIfInBounds_toArray, List.set_cons_zero, List.set_cons_succ]
    refine wpAnyH_ready (rs := [5]) (by kernel_rfl) (by simp) ?_
    refine AllReadyH.cons (o := _) rfl (fun K hK => ?_) AllReadyH.nil
    rw [if_pos (by rfl)]
    go_simp
    refine (HJ.out _ G hGl (HBd.out.later (b7.trans ((Below.drew (Below.refl _ _)).mono b7.size)))).mono ?_
    rintro e w8 ⟨rfl, hB8, hg8⟩
    have hB8A : Bits w8 nA 47 G := (hB7.later (Below.drew (Below.refl _ _))).grown hg8 (fun h => by have := Option.some.inj h; omega)
    go_wp2_with fail
    refine hK.out _ _ hB8A (fun hHeld => ?_)
    clear hK K
    try simp only [Act.put, List.setIfInBounds_toArray, List.set_cons_zero, List.set_cons_succ]
    refine wpAnyH_done (by kernel_rfl) ?_ _
    clear hHeld
    have hgw : w.grownBy w8 (some b) := grownBy_trans (grownBy_of_below (Below.drew b7) _) hg8
    rw [← HBg.out] at hB8
    go_wp2
    go_end0
    exact ⟨rfl, hB8, hgw⟩
end Go.Proofs.Ytdniejpblhbjkab
namespace Go.Proofs.Ytdniejpblhbjkab
open Go.RowKit

/-- One symbol's step; one row's. -/
def fwX (B : List Bool) (k n : Nat) (rest : List Int) (T : List Bool) : List Bool :=
  if (ofB B (List.replicate 27 false) rest).2 then joinB (joinB T (n * 27) (ofB B (List.replicate 27 false) rest).1) (n * 27) (((joinB T (n * 27) (ofB B (List.replicate 27 false) rest).1).drop (k * 27)).take 27) else joinB T (n * 27) (ofB B (List.replicate 27 false) rest).1
def fwB (B : List Bool) (k : Nat) : List Bool → List Int → List Bool
  | T, [] => T
  | T, x :: xs => if inB x 0 25 then fwB B k T xs else fwB B k (fwX B k (x - 100).toNat xs T) xs
theorem fwB_end {B T : List Bool} {k j : Nat} {R : List Int} (h : ¬ j < R.length) : fwB B k T (R.drop j) = T := by rw [List.drop_eq_nil_of_le (by omega), fwB]
theorem fwB_letter {B T : List Bool} {k j : Nat} {R : List Int} (h : j < R.length) (g : inB R[j] 0 25 = true) : fwB B k T (R.drop j) = fwB B k T (R.drop (j + 1)) := by rw [List.drop_eq_getElem_cons h, fwB, if_pos g]
theorem fwB_go {B T : List Bool} {k j n : Nat} {R : List Int} (h : j < R.length) (g : inB R[j] 0 25 = false) (e : R[j] = 100 + (n : Int)) : fwB B k T (R.drop j) = fwB B k (fwX B k n (R.drop (j + 1)) T) (R.drop (j + 1)) := by
  have e2 : (R[j] - 100).toNat = n := by omega
  rw [List.drop_eq_getElem_cons h, fwB, if_neg (by rw [g]; simp), e2]

set_option maxHeartbeats 8000000 in
set_option maxRecDepth 100000 in
theorem followsStep_any (b bE : Nat) (T B : List Bool) (k : Nat) (R : List Int) (a : Option Addr) (c : Nat) (w : World) (hB : Bits w b 50 T) (hT : T.length = 540) (hE : Bits w bE 52 B) (hBl : B.length = 567) (hne : bE ≠ b) (hk : k < 20) (w0 : World) (hR : Reads w0 a R) (hRc : R.length ≤ c) (hw0 : Below w0.heap.size w0 w) (hb0 : w0.heap.size ≤ b) (hz : ∀ z ∈ R, (0 ≤ z ∧ z ≤ 25) ∨ (100 ≤ z ∧ z < 120)) (hrl : R.length ≤ 1048576) :
    Calls Try.prog 61 #[.pointer (some ⟨b, 0, none⟩), .int .i64 (k : Int), .slice a R.length c, .pointer (some ⟨bE, 0, none⟩)] w fun e w' => e = .returned (.tuple #[]) ∧ Bits w' b 50 (fwB B k T R) ∧ w.grownBy w' (some b) := by
  have HZ : Hid (∀ z ∈ R, (0 ≤ z ∧ z ≤ 25) ∨ (100 ≤ z ∧ z < 120)) := hz
  have HR : Hid (∀ W : World, w.grownBy W (some b) → Reads W a R) := by
    intro W hW
    rcases hR with rfl | ⟨g, off, rfl, hlt, hc⟩
    · exact .inl rfl
    · have hgw := Nat.lt_of_lt_of_le hlt hw0.size
      refine .inr ⟨g, off, rfl, Nat.lt_of_lt_of_le hgw hW.size, fun i hi => ?_⟩
      have hgb : g ≠ b := by omega
      have := World.cell?_of_block (w := w) (w' := W) (a := ⟨g, off + i, none⟩) (hW.block g hgw (by intro h; cases h; exact hgb rfl))
      rw [this]; exact (hw0.cell (p := ⟨g, off + i, none⟩) hlt).trans (hc i hi)
  have HEE : Hid (∀ W : World, w.grownBy W (some b) → Bits W bE 52 B) := fun W hW => hE.grown hW (by intro h; cases h; exact hne rfl)
  have hk0 : (0 : Int) ≤ (k : Int) := by omega
  have hk1 : (k : Int) < 20 := by omega
  have at567B : BitT Try.prog 52 B.length := by rw [hBl]; exact bt_begin
  have HBl : Hid (B.length = 567) := hBl
  clear hz hR hw0 hE hBl
  go_enter Try.func61, Try.ntmps61
  go_wp2
  go_loopw [13] (fun s wr => ∃ (j : Nat) (Tj : List Bool), j ≤ R.length ∧ s = .int .i64 j ∧ Hid (fwB B k Tj (R.drop j) = fwB B k T R) ∧ Bits wr b 50 Tj ∧ Hid (Tj.length = 540) ∧ w.grownBy wr (some b)) (fun s _ => R.length - (intOf s).toNat)
  case atStart => exact ⟨0, T, Nat.zero_le _, rfl, by show _ = _; rw [List.drop_zero], hB, hT, World.grownBy.refl _ _⟩
  case round =>
    obtain ⟨j, Tj, hj, rfl, HJ, hBj, HTl, hgj⟩ := hrel
    clear hB hT
    by_cases hlt : j < R.length
    · obtain ⟨q1, hzr⟩ : (∃ g off, a = some ⟨g, off, none⟩ ∧ wr.cell? ⟨g, off + j, none⟩ = some (.int .i64 R[j])) ∧ ((0 ≤ R[j] ∧ R[j] ≤ 25) ∨ (100 ≤ R[j] ∧ R[j] < 120)) := by
        obtain ⟨g, off, e, hgl, hc⟩ := (HR.out wr hgj).at hlt
        have q1 := hc j hlt
        rw [List.getD_eq_getElem?_getD, List.getElem?_eq_getElem hlt, Option.getD_some] at q1
        exact ⟨⟨g, off, e, q1⟩, HZ.out _ (List.getElem_mem hlt)⟩
      have HLt : Hid (inB R[j] 0 25 = true → fwB B k Tj (R.drop j) = fwB B k Tj (R.drop (j + 1))) := fun h => fwB_letter hlt h
      have HGo : Hid (∀ n : Nat, inB R[j] 0 25 = false → R[j] = 100 + (n : Int) → fwB B k Tj (R.drop j) = fwB B k (fwX B k n (R.drop (j + 1)) Tj) (R.drop (j + 1))) := fun n h1 h2 => fwB_go hlt h1 h2
      have HRd : Hid (Reads wr (addrLo a c (j + 1)) (R.drop (j + 1))) := (HR.out wr hgj).lo hRc
      have hdl : Hid ((R.drop (j + 1)).length = R.length - (j + 1)) := by show _ = _; simp
      have HDZ : Hid (∀ z ∈ R.drop (j + 1), -9223372036854775808 ≤ z ∧ z ≤ 9223372036854775807) := fun z hz => by have := HZ.out z (List.mem_of_mem_drop hz); omega
      generalize R[j] = z at *
      by_cases hlet : z ≤ 25
      · obtain ⟨g, off, rfl, q1⟩ := q1
        have hin : inB z 0 25 = true := inB_true.2 (by omega)
        have HF : Hid (fwB B k Tj (R.drop (j + 1)) = fwB B k T R) := by show _ = _; rw [← HLt.out hin]; exact HJ.out
        have X : Hid (∀ W : World, Calls Try.prog 58 #[.int .i64 z] W fun e w' => e = .returned (.bool true) ∧ w' = W) := fun W => by have := isLetter_any z W; rwa [hin] at this
        clear hin HGo HLt HRd hdl HDZ
        go_wp2_with (go_at_call 58; refine (X.out _).mono ?_; rintro e w' ⟨rfl, hw'⟩; have hw2 := hw'.symm; clear hw'; subst hw2)
        go_roundw
        case rel => exact ⟨j + 1, Tj, by omega, by go_num, HF, hBj, HTl, hgj⟩
        case measure => simp [intOf]; omega
      · have hin : inB z 0 25 = false := inB_false.2 (by omega)
        have X : Hid (∀ W : World, Calls Try.prog 58 #[.int .i64 z] W fun e w' => e = .returned (.bool false) ∧ w' = W) := fun W => by have := isLetter_any z W; rwa [hin] at this
        obtain ⟨n, hn⟩ : ∃ n : Nat, z = 100 + (n : Int) := ⟨(z - 100).toNat, by omega⟩
        subst hn
        have hn0 : (0 : Int) ≤ (n : Int) := by omega
        have hn1 : (n : Int) < 20 := by omega
        have hn20 : n < 20 := by omega
        have HG2 : Hid (fwB B k Tj (R.drop j) = fwB B k (fwX B k n (R.drop (j + 1)) Tj) (R.drop (j + 1))) := HGo.out n hin rfl
        have HX : Hid (∀ W : World, Below wr.heap.size wr W → Calls Try.prog 34 #[aggB B, .slice (addrLo a c (j + 1)) (R.length - (j + 1)) (c - (j + 1))] W fun e w' => e = .returned (.tuple #[aggB (ofB B (List.replicate 27 false) (R.drop (j + 1))).1, .bool (ofB B (List.replicate 27 false) (R.drop (j + 1))).2]) ∧ Below W.heap.size W w') := by
          intro W hW
          have := ofRow_any B (R.drop (j + 1)) (addrLo a c (j + 1)) (c - (j + 1)) W HBl.out (HRd.out.below hW) HDZ.out (by rw [hdl.out]; omega)
          rwa [hdl.out] at this
        have HNx : Hid (∀ nb G, ofB B (List.replicate 27 false) (R.drop (j + 1)) = (G, nb) → fwX B k n (R.drop (j + 1)) Tj = if nb then joinB (joinB Tj (n * 27) G) (n * 27) (((joinB Tj (n * 27) G).drop (k * 27)).take 27) else joinB Tj (n * 27) G) := fun nb G h => by unfold fwX; rw [h]
        have hGl : (ofB B (List.replicate 27 false) (R.drop (j + 1))).1.length = 27 := by rw [ofB_length, List.length_replicate]
        have HNx2 := HNx.out _ _ (rfl : ofB B (List.replicate 27 false) (R.drop (j + 1)) = ((ofB B (List.replicate 27 false) (R.drop (j + 1))).1, (ofB B (List.replicate 27 false) (R.drop (j + 1))).2))
        have HN3 : Hid (fwB B k Tj (R.drop j) = fwB B k (if (ofB B (List.replicate 27 false) (R.drop (j + 1))).2 then joinB (joinB Tj (n * 27) (ofB B (List.replicate 27 false) (R.drop (j + 1))).1) (n * 27) (((joinB Tj (n * 27) (ofB B (List.replicate 27 false) (R.drop (j + 1))).1).drop (k * 27)).take 27) else joinB Tj (n * 27) (ofB B (List.replicate 27 false) (R.drop (j + 1))).1) (R.drop (j + 1))) := by show _ = _; rw [HG2.out, HNx2]
        clear HNx HNx2 HG2 HGo HLt HRd hdl HDZ hlet hin hzr
        generalize ofB B (List.replicate 27 false) (R.drop (j + 1)) = GB at *
        obtain ⟨G, nb⟩ := GB
        have HBd : Hid (∀ W : World, Below wr.heap.size wr W → Bits W.drew b 50 Tj) := fun W hW => (hBj.later hW).later (Below.drew (Below.refl _ _))
        have HHe : Hid (∀ W : World, Below wr.heap.size wr W → Bits W bE 52 B) := fun W hW => (HEE.out wr hgj).later hW
        have HJ1 : Hid (∀ W : World, Bits W b 50 Tj → Calls Try.prog 57 #[.pointer (some ⟨b, n * 27, none⟩), aggB G] W fun e w' => e = .returned (.tuple #[]) ∧ Bits w' b 50 (joinB Tj (n * 27) G) ∧ W.grownBy w' (some b)) := fun W hW => join_any b (n * 27) 50 Tj G W hW (by rw [HTl.out]; omega) hGl
        have HT1l : Hid ((joinB Tj (n * 27) G).length = 540) := by show _ = _; rw [joinB_length]; exact HTl.out
        have HJ2 : Hid (∀ W : World, Bits W b 50 (joinB Tj (n * 27) G) → Calls Try.prog 57 #[.pointer (some ⟨b, n * 27, none⟩), aggB (((joinB Tj (n * 27) G).drop (k * 27)).take 27)] W fun e w' => e = .returned (.tuple #[]) ∧ Bits w' b 50 (joinB (joinB Tj (n * 27) G) (n * 27) (((joinB Tj (n * 27) G).drop (k * 27)).take 27)) ∧ W.grownBy w' (some b)) := fun W hW => join_any b (n * 27) 50 _ _ W hW (by rw [HT1l.out]; omega) (chunk_length HT1l.out hk)
        have HT2l : Hid ((joinB (joinB Tj (n * 27) G) (n * 27) (((joinB Tj (n * 27) G).drop (k * 27)).take 27)).length = 540) := by show _ = _; rw [joinB_length]; exact HT1l.out
        have hT1k : k * 27 + 27 ≤ (joinB Tj (n * 27) G).length := by rw [HT1l.out]; omega
        have HNo : Hid (nb = false → fwB B k Tj (R.drop j) = fwB B k (joinB Tj (n * 27) G) (R.drop (j + 1))) := fun h => by rw [HN3.out]; simp only [h]; rfl
        have HYes : Hid (nb = true → fwB B k Tj (R.drop j) = fwB B k (joinB (joinB Tj (n * 27) G) (n * 27) (((joinB Tj (n * 27) G).drop (k * 27)).take 27)) (R.drop (j + 1))) := fun h => by rw [HN3.out]; simp only [h]; rfl
        clear HN3
        generalize joinB (joinB Tj (n * 27) G) (n * 27) (((joinB Tj (n * 27) G).drop (k * 27)).take 27) = T2 at *
        generalize joinB Tj (n * 27) G = T1 at *
        have HW : Hid (IntKind.i64.wrap (100 + (n : Int) - 100) = n) := by
          show _ = _
          rw [show (100 + (n : Int) - 100) = n by omega]
          first | exact IntKind.wrap_of_wf (by simp [Lit.wf]; omega) | (unfold IntKind.wrap; simp; omega) | (simp [IntKind.wrap, IntKind.bits]; omega) | (go_num)
        have HWj : Hid (IntKind.i64.wrap ((j : Int) + 1) = ((j + 1 : Nat) : Int)) := by
          show _ = _
          rw [IntKind.wrap_i64]; omega
        have hbl := hBj.lt
        obtain ⟨g, off, ea, q1⟩ := q1
        rw [ea]
        go_wp2_with (go_at_call 58; refine (X.out _).mono ?_; rintro e w' ⟨rfl, hw'⟩; have hw2 := hw'.symm; clear hw'; subst hw2)
        rw [← ea]
        have Hea : Hid (a = some ⟨g, off, none⟩) := ea
        clear q1 ea
        refine wp_region_held_drew (S := fun W => Bits W bE 52 B) (by kernel_rfl) (HHe.out _ (Below.drew (Below.refl _ _))) (fun hHeld => ?_)
        refine take_atL (i := 0) (d := some 21) (v := aggB B) rfl rfl (by kernel_rfl) (by kernel_rfl) (by kernel_rfl) (fun _ _ _ h => h) (by rfl) ?_ hHeld ?_
        · intro w' hSw; exact exec_loadW (t := 52) (b := bE) rfl rfl at567B hSw
        try simp only [Act.put, List.setIfInBounds_toArray, List.set_cons_zero, List.set_cons_succ]
        refine take_atL (i := 1) (d := some 22) (v := .slice a R.length c) rfl rfl (by kernel_rfl) (by kernel_rfl) (by kernel_rfl) (fun _ _ _ h => h) (by rfl) ?_ hHeld ?_
        · intro w' hSw; go_simp; first | done | rfl | exact HW.out | exact HWj.out
        try simp only [Act.put, List.setIfInBounds_toArray, List.set_cons_zero, List.set_cons_succ]
        refine take_atL (i := 2) (d := some 23) (v := .int .i64 (j : Int)) rfl rfl (by kernel_rfl) (by kernel_rfl) (by kernel_rfl) (fun _ _ _ h => h) (by rfl) ?_ hHeld ?_
        · intro w' hSw; go_simp; first | done | rfl | exact HW.out | exact HWj.out
        try simp only [Act.put, List.setIfInBounds_toArray, List.set_cons_zero, List.set_cons_succ]
        refine take_atL (i := 3) (d := some 24) (v := .int .i64 ((j + 1 : Nat) : Int)) rfl rfl (by kernel_rfl) (by kernel_rfl) (by kernel_rfl) (fun _ _ _ h => h) (by rfl) ?_ hHeld ?_
        · intro w' hSw; go_simp; first | done | rfl | exact HW.out | exact HWj.out
        try simp only [Act.put, List.setIfInBounds_toArray, List.set_cons_zero, List.set_cons_succ]
        refine take_atL (i := 4) (d := some 25) (v := .slice (addrLo a c (j + 1)) (R.length - (j + 1)) (c - (j + 1))) rfl rfl (by kernel_rfl) (by kernel_rfl) (by kernel_rfl) (fun _ _ _ h => h) (by rfl) ?_ hHeld ?_
        · intro w' hSw; exact exec_sliceLo rfl rfl rfl Try.underlying25 int_size (by omega) w'
        try simp only [Act.put, List.setIfInBounds_toArray, List.set_cons_zero, List.set_cons_succ]
        refine wpAnyH_ready (rs := [5, 9]) (by kernel_rfl) (by simp) ?_
        refine AllReadyH.cons (o := _) rfl (fun K hK => ?_) (AllReadyH.cons (o := _) rfl (fun K hK => ?_) AllReadyH.nil)
        · rw [if_pos (by rfl)]
          go_simp
          refine (HX.out _ (Below.drew (Below.refl _ _))).mono ?_
          rintro e w5 ⟨rfl, hb5⟩
          have b5 : Below wr.heap.size wr w5 := Below.drewed (by simpa using hb5)
          go_wp2_with fail
          refine hK.out _ _ (HHe.out w5 b5) (fun hHeld => ?_)
          clear hK K
          try simp only [Act.put, List.setIfInBounds_toArray, List.set_cons_zero, List.set_cons_succ]
          refine take_atL (i := 6) (d := some 20) (v := .tuple #[aggB G, .bool nb]) rfl rfl (by kernel_rfl) (by kernel_rfl) (by kernel_rfl) (fun _ _ _ h => h) (by rfl) ?_ hHeld ?_
          · intro w' hSw; go_simp; first | done | rfl | exact HW.out | exact HWj.out
          try simp only [Act.put, List.setIfInBounds_toArray, List.set_cons_zero, List.set_cons_succ]
          refine take_atL (i := 7) (d := some 27) (v := aggB G) rfl rfl (by kernel_rfl) (by kernel_rfl) (by kernel_rfl) (fun _ _ _ h => h) (by rfl) ?_ hHeld ?_
          · intro w' hSw; go_simp; first | done | rfl | exact HW.out | exact HWj.out
          try simp only [Act.put, List.setIfInBounds_toArray, List.set_cons_zero, List.set_cons_succ]
          refine take_atL (i := 8) (d := some 28) (v := .bool nb) rfl rfl (by kernel_rfl) (by kernel_rfl) (by kernel_rfl) (fun _ _ _ h => h) (by rfl) ?_ hHeld ?_
          · intro w' hSw; go_simp; first | done | rfl | exact HW.out | exact HWj.out
          try simp only [Act.put, List.setIfInBounds_toArray, List.set_cons_zero, List.set_cons_succ]
          refine wpAnyH_ready (rs := [9]) (by kernel_rfl) (by simp) ?_
          refine AllReadyH.cons (o := _) rfl (fun K hK => ?_) AllReadyH.nil
          rw [if_pos (by rfl)]
          refine wp_allocB (some 9) rfl 47 27 rfl bt_flags ?_
          intro w6 hBA hb6 hs6
          have hn5 := b5.size
          have bA : Below wr.heap.size wr w6 := b5.trans (hb6.mono b5.size)
          clear hs6
          refine hK.out _ _ (HHe.out w6 bA) (fun hHeld => ?_)
          clear hK K
          try simp only [Act.put, List.setIfInBounds_toArray, List.set_cons_zero, List.set_cons_succ]
          have hnA : b < w5.heap.size := by have := hBj.lt; omega
          have hnW : wr.heap.size ≤ w5.heap.size := by omega
          refine wpAnyH_ready (rs := [10]) (by kernel_rfl) (by simp) ?_
          refine AllReadyH.cons (o := _) rfl (fun K hK => ?_) AllReadyH.nil
          rw [if_pos (by rfl)]
          refine wp_storeB none rfl 47 _ _ w5.heap.size 0 47 _ G rfl rfl rfl (at27 hGl) hBA (by rw [List.length_replicate, hGl]; decide) ?_
          intro w7 hB7 hg7
          rw [putB_whole (by rw [List.length_replicate]; exact hGl)] at hB7
          have b7 : Below wr.heap.size wr w7 := bA.grown hg7 bA.size (fun j hj => by cases hj; exact hnW)
          refine hK.out _ _ (HHe.out w7 b7) (fun hHeld => ?_)
          clear hK K
          simp only [Act.put]
          refine take_atL (i := 11) (d := some 10) (v := .bool nb) rfl rfl (by kernel_rfl) (by kernel_rfl) (by kernel_rfl) (fun _ _ _ h => h) (by rfl) ?_ hHeld ?_
          · intro w' hSw; go_simp; first | done | rfl | exact HW.out | exact HWj.out
          try simp only [Act.put, List.setIfInBounds_toArray, List.set_cons_zero, List.set_cons_succ]
          refine wpAnyH_done (by kernel_rfl) ?_ _
          clear hHeld hBA bA hg7
          generalize w5.heap.size = nA at *
          go_wp2_with fail
          refine wp_region_held_drew (S := fun W => Bits W nA 47 G) (by kernel_rfl) (hB7.later (Below.drew (Below.refl _ _))) (fun hHeld => ?_)
          refine take_atL (i := 0) (d := some 29) (v := .pointer (some ⟨b, 0, none⟩)) rfl rfl (by kernel_rfl) (by kernel_rfl) (by kernel_rfl) (fun _ _ _ h => h) (by rfl) ?_ hHeld ?_
          · intro w' hSw; go_simp; first | done | rfl | exact HW.out | exact HWj.out
          try simp only [Act.put, List.setIfInBounds_toArray, List.set_cons_zero, List.set_cons_succ]
          refine take_atL (i := 1) (d := some 30) (v := .int .i64 (100 + (n : Int))) rfl rfl (by kernel_rfl) (by kernel_rfl) (by kernel_rfl) (fun _ _ _ h => h) (by rfl) ?_ hHeld ?_
          · intro w' hSw; go_simp; first | done | rfl | exact HW.out | exact HWj.out
          try simp only [Act.put, List.setIfInBounds_toArray, List.set_cons_zero, List.set_cons_succ]
          refine take_atL (i := 2) (d := some 31) (v := .int .i64 (n : Int)) rfl rfl (by kernel_rfl) (by kernel_rfl) (by kernel_rfl) (fun _ _ _ h => h) (by rfl) ?_ hHeld ?_
          · intro w' hSw; go_simp; first | done | rfl | exact HW.out | exact HWj.out
          try simp only [Act.put, List.setIfInBounds_toArray, List.set_cons_zero, List.set_cons_succ]
          refine take_atL (i := 3) (d := some 32) (v := .pointer (some ⟨b, 0, none⟩)) rfl rfl (by kernel_rfl) (by kernel_rfl) (by kernel_rfl) (fun _ _ _ h => h) (by rfl) ?_ hHeld ?_
          · intro w' hSw; go_simp; first | done | rfl | exact HW.out | exact HWj.out
          try simp only [Act.put, List.setIfInBounds_toArray, List.set_cons_zero, List.set_cons_succ]
          refine take_atL (i := 4) (d := some 33) (v := .pointer (some ⟨b, n * 27, none⟩)) rfl rfl (by kernel_rfl) (by kernel_rfl) (by kernel_rfl) (fun _ _ _ h => h) (by rfl) ?_ hHeld ?_
          · intro w' hSw; go_simp; first | done | rfl | exact HW.out | exact HWj.out
          try simp only [Act.put, List.setIfInBounds_toArray, List.set_cons_zero, List.set_cons_succ]
          refine take_atL (i := 5) (d := some 34) (v := aggB G) rfl rfl (by kernel_rfl) (by kernel_rfl) (by kernel_rfl) (fun _ _ _ h => h) (by rfl) ?_ hHeld ?_
          · intro w' hSw; exact exec_loadW (t := 47) (b := nA) rfl rfl (at27 hGl) hSw
          try simp only [Act.put, List.setIfInBounds_toArray, List.set_cons_zero, List.set_cons_succ]
          refine wpAnyH_ready (rs := [6]) (by kernel_rfl) (by simp) ?_
          refine AllReadyH.cons (o := _) rfl (fun K hK => ?_) AllReadyH.nil
          rw [if_pos (by rfl)]
          go_simp
          refine (HJ1.out _ (HBd.out w7 b7)).mono ?_
          rintro e w8 ⟨rfl, hB8, hg8⟩
          have hB8A : Bits w8 nA 47 G := (hB7.later (Below.drew (Below.refl _ _))).grown hg8 (fun h => by have := Option.some.inj h; omega)
          have hg8w : w.grownBy w8 (some b) := grownBy_trans hgj (grownBy_trans (grownBy_of_below (Below.drew b7) _) hg8)
          go_wp2_with fail
          refine hK.out _ _ hB8A (fun hHeld => ?_)
          clear hK K
          try simp only [Act.put, List.setIfInBounds_toArray, List.set_cons_zero, List.set_cons_succ]
          refine wpAnyH_done (by kernel_rfl) ?_ _
          clear hHeld hB8A hB7 b7
          cases nb
          · have HF : Hid (fwB B k T1 (R.drop (j + 1)) = fwB B k T R) := by show _ = _; rw [← HNo.out rfl]; exact HJ.out
            rw [Hea.out]
            go_wp2
            go_roundw
            case rel => exact ⟨j + 1, T1, by omega, by go_num, HF, hB8, HT1l, hg8w⟩
            case measure => simp [intOf]; omega
          · have HF : Hid (fwB B k T2 (R.drop (j + 1)) = fwB B k T R) := by show _ = _; rw [← HYes.out rfl]; exact HJ.out
            go_wp2
            refine wp_region_held_drew (S := fun W => True) (by kernel_rfl) trivial (fun hHeld => ?_)
            refine take_atL (i := 0) (d := some 37) (v := .pointer (some ⟨b, 0, none⟩)) rfl rfl (by kernel_rfl) (by kernel_rfl) (by kernel_rfl) (fun _ _ _ h => h) (by rfl) ?_ hHeld ?_
            · intro w' hSw; go_simp; first | done | rfl | exact HW.out | exact HWj.out
            try simp only [Act.put, List.setIfInBounds_toArray, List.set_cons_zero, List.set_cons_succ]
            refine take_atL (i := 1) (d := some 38) (v := .int .i64 (100 + (n : Int))) rfl rfl (by kernel_rfl) (by kernel_rfl) (by kernel_rfl) (fun _ _ _ h => h) (by rfl) ?_ hHeld ?_
            · intro w' hSw; go_simp; first | done | rfl | exact HW.out | exact HWj.out
            try simp only [Act.put, List.setIfInBounds_toArray, List.set_cons_zero, List.set_cons_succ]
            refine take_atL (i := 2) (d := some 39) (v := .int .i64 (n : Int)) rfl rfl (by kernel_rfl) (by kernel_rfl) (by kernel_rfl) (fun _ _ _ h => h) (by rfl) ?_ hHeld ?_
            · intro w' hSw; go_simp; first | done | rfl | exact HW.out | exact HWj.out
            try simp only [Act.put, List.setIfInBounds_toArray, List.set_cons_zero, List.set_cons_succ]
            refine take_atL (i := 3) (d := some 40) (v := .pointer (some ⟨b, 0, none⟩)) rfl rfl (by kernel_rfl) (by kernel_rfl) (by kernel_rfl) (fun _ _ _ h => h) (by rfl) ?_ hHeld ?_
            · intro w' hSw; go_simp; first | done | rfl | exact HW.out | exact HWj.out
            try simp only [Act.put, List.setIfInBounds_toArray, List.set_cons_zero, List.set_cons_succ]
            refine take_atL (i := 4) (d := some 41) (v := .pointer (some ⟨b, n * 27, none⟩)) rfl rfl (by kernel_rfl) (by kernel_rfl) (by kernel_rfl) (fun _ _ _ h => h) (by rfl) ?_ hHeld ?_
            · intro w' hSw; go_simp; first | done | rfl | exact HW.out | exact HWj.out
            try simp only [Act.put, List.setIfInBounds_toArray, List.set_cons_zero, List.set_cons_succ]
            refine take_atL (i := 5) (d := some 42) (v := .pointer (some ⟨b, 0, none⟩)) rfl rfl (by kernel_rfl) (by kernel_rfl) (by kernel_rfl) (fun _ _ _ h => h) (by rfl) ?_ hHeld ?_
            · intro w' hSw; go_simp; first | done | rfl | exact HW.out | exact HWj.out
            try simp only [Act.put, List.setIfInBounds_toArray, List.set_cons_zero, List.set_cons_succ]
            refine take_atL (i := 6) (d := some 43) (v := .int .i64 (k : Int)) rfl rfl (by kernel_rfl) (by kernel_rfl) (by kernel_rfl) (fun _ _ _ h => h) (by rfl) ?_ hHeld ?_
            · intro w' hSw; go_simp; first | done | rfl | exact HW.out | exact HWj.out
            try simp only [Act.put, List.setIfInBounds_toArray, List.set_cons_zero, List.set_cons_succ]
            refine take_atL (i := 7) (d := some 44) (v := .pointer (some ⟨b, 0, none⟩)) rfl rfl (by kernel_rfl) (by kernel_rfl) (by kernel_rfl) (fun _ _ _ h => h) (by rfl) ?_ hHeld ?_
            · intro w' hSw; go_simp; first | done | rfl | exact HW.out | exact HWj.out
            try simp only [Act.put, List.setIfInBounds_toArray, List.set_cons_zero, List.set_cons_succ]
            refine take_atL (i := 8) (d := some 45) (v := .pointer (some ⟨b, k * 27, none⟩)) rfl rfl (by kernel_rfl) (by kernel_rfl) (by kernel_rfl) (fun _ _ _ h => h) (by rfl) ?_ hHeld ?_
            · intro w' hSw; go_simp; first | done | rfl | exact HW.out | exact HWj.out
            try simp only [Act.put, List.setIfInBounds_toArray, List.set_cons_zero, List.set_cons_succ]
            have HB8d : Hid (Bits w8.drew b 50 T1) := hB8.later (Below.drew (Below.refl _ _))
            refine wpAnyH_ready (rs := [9]) (by kernel_rfl) (by simp) ?_
            refine AllReadyH.cons (o := _) rfl (fun K hK => ?_) AllReadyH.nil
            rw [if_pos (by rfl)]
            unfold Oper.wp
            rw [exec_loadB (t := 50) (b := b) (off := k * 27) (n := 27) (bs := T1) rfl rfl bt_flags HB8d.out hT1k, Oper.upon_value]
            refine hK.out _ _ trivial (fun hHeld => ?_)
            clear hK K
            simp only [Act.put, List.setIfInBounds_toArray]
            refine wpAnyH_ready (rs := [10]) (by kernel_rfl) (by simp) ?_
            refine AllReadyH.cons (o := _) rfl (fun K hK => ?_) AllReadyH.nil
            rw [if_pos (by rfl)]
            go_simp
            refine (HJ2.out _ HB8d.out).mono ?_
            rintro e w9 ⟨rfl, hB9, hg9⟩
            have hg9w : w.grownBy w9 (some b) := grownBy_trans hg8w (grownBy_trans (grownBy_of_below (Below.drew (Below.refl _ _)) _) hg9)
            go_wp2_with fail
            refine hK.out _ _ trivial (fun hHeld => ?_)
            clear hK K
            try simp only [Act.put, List.setIfInBounds_toArray, List.set_cons_zero, List.set_cons_succ]
            refine wpAnyH_done (by kernel_rfl) ?_ _
            clear hHeld HB8d hB8
            rw [Hea.out]
            go_wp2
            go_roundw
            case rel => exact ⟨j + 1, T2, by omega, by go_num, HF, hB9, HT2l, hg9w⟩
            case measure => simp [intOf]; omega
        · rw [if_pos (by rfl)]
          refine wp_allocB (some 9) rfl 47 27 rfl bt_flags ?_
          intro w4 hB4 hb4 hs4
          have b4 : Below wr.heap.size wr w4 := Below.drewed (by simpa using hb4)
          obtain ⟨nA, HnA⟩ : ∃ nA, Hid (wr.drew.heap.size = nA) := ⟨_, rfl⟩
          rw [HnA.out] at hB4 ⊢
          have hnB : wr.heap.size ≤ nA := by have := HnA.out; simp at this; omega
          clear hs4 hb4 HnA
          refine hK.out _ _ (HHe.out w4 b4) (fun hHeld => ?_)
          clear hK K
          try simp only [Act.put, List.setIfInBounds_toArray, List.set_cons_zero, List.set_cons_succ]
          refine wpAnyH_ready (rs := [5]) (by kernel_rfl) (by simp) ?_
          refine AllReadyH.cons (o := _) rfl (fun K hK => ?_) AllReadyH.nil
          rw [if_pos (by rfl)]
          go_simp
          refine (HX.out _ b4).mono ?_
          rintro e w5 ⟨rfl, hb5⟩
          have b5 : Below wr.heap.size wr w5 := b4.trans (hb5.mono b4.size)
          have hBA : Bits w5 nA 47 (List.replicate 27 false) := hB4.later hb5
          have bA := b5
          go_wp2_with fail
          refine hK.out _ _ (HHe.out w5 b5) (fun hHeld => ?_)
          clear hK K
          try simp only [Act.put, List.setIfInBounds_toArray, List.set_cons_zero, List.set_cons_succ]
          refine take_atL (i := 6) (d := some 20) (v := .tuple #[aggB G, .bool nb]) rfl rfl (by kernel_rfl) (by kernel_rfl) (by kernel_rfl) (fun _ _ _ h => h) (by rfl) ?_ hHeld ?_
          · intro w' hSw; go_simp; first | done | rfl | exact HW.out | exact HWj.out
          try simp only [Act.put, List.setIfInBounds_toArray, List.set_cons_zero, List.set_cons_succ]
          refine take_atL (i := 7) (d := some 27) (v := aggB G) rfl rfl (by kernel_rfl) (by kernel_rfl) (by kernel_rfl) (fun _ _ _ h => h) (by rfl) ?_ hHeld ?_
          · intro w' hSw; go_simp; first | done | rfl | exact HW.out | exact HWj.out
          try simp only [Act.put, List.setIfInBounds_toArray, List.set_cons_zero, List.set_cons_succ]
          refine take_atL (i := 8) (d := some 28) (v := .bool nb) rfl rfl (by kernel_rfl) (by kernel_rfl) (by kernel_rfl) (fun _ _ _ h => h) (by rfl) ?_ hHeld ?_
          · intro w' hSw; go_simp; first | done | rfl | exact HW.out | exact HWj.out
          try simp only [Act.put, List.setIfInBounds_toArray, List.set_cons_zero, List.set_cons_succ]
          have hnA : b < nA := by have := hBj.lt; omega
          have hnW : wr.heap.size ≤ nA := by omega
          refine wpAnyH_ready (rs := [10]) (by kernel_rfl) (by simp) ?_
          refine AllReadyH.cons (o := _) rfl (fun K hK => ?_) AllReadyH.nil
          rw [if_pos (by rfl)]
          refine wp_storeB none rfl 47 _ _ nA 0 47 _ G rfl rfl rfl (at27 hGl) hBA (by rw [List.length_replicate, hGl]; decide) ?_
          intro w7 hB7 hg7
          rw [putB_whole (by rw [List.length_replicate]; exact hGl)] at hB7
          have b7 : Below wr.heap.size wr w7 := bA.grown hg7 bA.size (fun j hj => by cases hj; exact hnW)
          refine hK.out _ _ (HHe.out w7 b7) (fun hHeld => ?_)
          clear hK K
          simp only [Act.put]
          refine take_atL (i := 11) (d := some 10) (v := .bool nb) rfl rfl (by kernel_rfl) (by kernel_rfl) (by kernel_rfl) (fun _ _ _ h => h) (by rfl) ?_ hHeld ?_
          · intro w' hSw; go_simp; first | done | rfl | exact HW.out | exact HWj.out
          try simp only [Act.put, List.setIfInBounds_toArray, List.set_cons_zero, List.set_cons_succ]
          refine wpAnyH_done (by kernel_rfl) ?_ _
          clear hHeld hBA bA hg7
          go_wp2_with fail
          refine wp_region_held_drew (S := fun W => Bits W nA 47 G) (by kernel_rfl) (hB7.later (Below.drew (Below.refl _ _))) (fun hHeld => ?_)
          refine take_atL (i := 0) (d := some 29) (v := .pointer (some ⟨b, 0, none⟩)) rfl rfl (by kernel_rfl) (by kernel_rfl) (by kernel_rfl) (fun _ _ _ h => h) (by rfl) ?_ hHeld ?_
          · intro w' hSw; go_simp; first | done | rfl | exact HW.out | exact HWj.out
          try simp only [Act.put, List.setIfInBounds_toArray, List.set_cons_zero, List.set_cons_succ]
          refine take_atL (i := 1) (d := some 30) (v := .int .i64 (100 + (n : Int))) rfl rfl (by kernel_rfl) (by kernel_rfl) (by kernel_rfl) (fun _ _ _ h => h) (by rfl) ?_ hHeld ?_
          · intro w' hSw; go_simp; first | done | rfl | exact HW.out | exact HWj.out
          try simp only [Act.put, List.setIfInBounds_toArray, List.set_cons_zero, List.set_cons_succ]
          refine take_atL (i := 2) (d := some 31) (v := .int .i64 (n : Int)) rfl rfl (by kernel_rfl) (by kernel_rfl) (by kernel_rfl) (fun _ _ _ h => h) (by rfl) ?_ hHeld ?_
          · intro w' hSw; go_simp; first | done | rfl | exact HW.out | exact HWj.out
          try simp only [Act.put, List.setIfInBounds_toArray, List.set_cons_zero, List.set_cons_succ]
          refine take_atL (i := 3) (d := some 32) (v := .pointer (some ⟨b, 0, none⟩)) rfl rfl (by kernel_rfl) (by kernel_rfl) (by kernel_rfl) (fun _ _ _ h => h) (by rfl) ?_ hHeld ?_
          · intro w' hSw; go_simp; first | done | rfl | exact HW.out | exact HWj.out
          try simp only [Act.put, List.setIfInBounds_toArray, List.set_cons_zero, List.set_cons_succ]
          refine take_atL (i := 4) (d := some 33) (v := .pointer (some ⟨b, n * 27, none⟩)) rfl rfl (by kernel_rfl) (by kernel_rfl) (by kernel_rfl) (fun _ _ _ h => h) (by rfl) ?_ hHeld ?_
          · intro w' hSw; go_simp; first | done | rfl | exact HW.out | exact HWj.out
          try simp only [Act.put, List.setIfInBounds_toArray, List.set_cons_zero, List.set_cons_succ]
          refine take_atL (i := 5) (d := some 34) (v := aggB G) rfl rfl (by kernel_rfl) (by kernel_rfl) (by kernel_rfl) (fun _ _ _ h => h) (by rfl) ?_ hHeld ?_
          · intro w' hSw; exact exec_loadW (t := 47) (b := nA) rfl rfl (at27 hGl) hSw
          try simp only [Act.put, List.setIfInBounds_toArray, List.set_cons_zero, List.set_cons_succ]
          refine wpAnyH_ready (rs := [6]) (by kernel_rfl) (by simp) ?_
          refine AllReadyH.cons (o := _) rfl (fun K hK => ?_) AllReadyH.nil
          rw [if_pos (by rfl)]
          go_simp
          refine (HJ1.out _ (HBd.out w7 b7)).mono ?_
          rintro e w8 ⟨rfl, hB8, hg8⟩
          have hB8A : Bits w8 nA 47 G := (hB7.later (Below.drew (Below.refl _ _))).grown hg8 (fun h => by have := Option.some.inj h; omega)
          have hg8w : w.grownBy w8 (some b) := grownBy_trans hgj (grownBy_trans (grownBy_of_below (Below.drew b7) _) hg8)
          go_wp2_with fail
          refine hK.out _ _ hB8A (fun hHeld => ?_)
          clear hK K
          try simp only [Act.put, List.setIfInBounds_toArray, List.set_cons_zero, List.set_cons_succ]
          refine wpAnyH_done (by kernel_rfl) ?_ _
          clear hHeld hB8A hB7 b7
          cases nb
          · have HF : Hid (fwB B k T1 (R.drop (j + 1)) = fwB B k T R) := by show _ = _; rw [← HNo.out rfl]; exact HJ.out
            rw [Hea.out]
            go_wp2
            go_roundw
            case rel => exact ⟨j + 1, T1, by omega, by go_num, HF, hB8, HT1l, hg8w⟩
            case measure => simp [intOf]; omega
          · have HF : Hid (fwB B k T2 (R.drop (j + 1)) = fwB B k T R) := by show _ = _; rw [← HYes.out rfl]; exact HJ.out
            go_wp2
            refine wp_region_held_drew (S := fun W => True) (by kernel_rfl) trivial (fun hHeld => ?_)
            refine take_atL (i := 0) (d := some 37) (v := .pointer (some ⟨b, 0, none⟩)) rfl rfl (by kernel_rfl) (by kernel_rfl) (by kernel_rfl) (fun _ _ _ h => h) (by rfl) ?_ hHeld ?_
            · intro w' hSw; go_simp; first | done | rfl | exact HW.out | exact HWj.out
            try simp only [Act.put, List.setIfInBounds_toArray, List.set_cons_zero, List.set_cons_succ]
            refine take_atL (i := 1) (d := some 38) (v := .int .i64 (100 + (n : Int))) rfl rfl (by kernel_rfl) (by kernel_rfl) (by kernel_rfl) (fun _ _ _ h => h) (by rfl) ?_ hHeld ?_
            · intro w' hSw; go_simp; first | done | rfl | exact HW.out | exact HWj.out
            try simp only [Act.put, List.setIfInBounds_toArray, List.set_cons_zero, List.set_cons_succ]
            refine take_atL (i := 2) (d := some 39) (v := .int .i64 (n : Int)) rfl rfl (by kernel_rfl) (by kernel_rfl) (by kernel_rfl) (fun _ _ _ h => h) (by rfl) ?_ hHeld ?_
            · intro w' hSw; go_simp; first | done | rfl | exact HW.out | exact HWj.out
            try simp only [Act.put, List.setIfInBounds_toArray, List.set_cons_zero, List.set_cons_succ]
            refine take_atL (i := 3) (d := some 40) (v := .pointer (some ⟨b, 0, none⟩)) rfl rfl (by kernel_rfl) (by kernel_rfl) (by kernel_rfl) (fun _ _ _ h => h) (by rfl) ?_ hHeld ?_
            · intro w' hSw; go_simp; first | done | rfl | exact HW.out | exact HWj.out
            try simp only [Act.put, List.setIfInBounds_toArray, List.set_cons_zero, List.set_cons_succ]
            refine take_atL (i := 4) (d := some 41) (v := .pointer (some ⟨b, n * 27, none⟩)) rfl rfl (by kernel_rfl) (by kernel_rfl) (by kernel_rfl) (fun _ _ _ h => h) (by rfl) ?_ hHeld ?_
            · intro w' hSw; go_simp; first | done | rfl | exact HW.out | exact HWj.out
            try simp only [Act.put, List.setIfInBounds_toArray, List.set_cons_zero, List.set_cons_succ]
            refine take_atL (i := 5) (d := some 42) (v := .pointer (some ⟨b, 0, none⟩)) rfl rfl (by kernel_rfl) (by kernel_rfl) (by kernel_rfl) (fun _ _ _ h => h) (by rfl) ?_ hHeld ?_
            · intro w' hSw; go_simp; first | done | rfl | exact HW.out | exact HWj.out
            try simp only [Act.put, List.setIfInBounds_toArray, List.set_cons_zero, List.set_cons_succ]
            refine take_atL (i := 6) (d := some 43) (v := .int .i64 (k : Int)) rfl rfl (by kernel_rfl) (by kernel_rfl) (by kernel_rfl) (fun _ _ _ h => h) (by rfl) ?_ hHeld ?_
            · intro w' hSw; go_simp; first | done | rfl | exact HW.out | exact HWj.out
            try simp only [Act.put, List.setIfInBounds_toArray, List.set_cons_zero, List.set_cons_succ]
            refine take_atL (i := 7) (d := some 44) (v := .pointer (some ⟨b, 0, none⟩)) rfl rfl (by kernel_rfl) (by kernel_rfl) (by kernel_rfl) (fun _ _ _ h => h) (by rfl) ?_ hHeld ?_
            · intro w' hSw; go_simp; first | done | rfl | exact HW.out | exact HWj.out
            try simp only [Act.put, List.setIfInBounds_toArray, List.set_cons_zero, List.set_cons_succ]
            refine take_atL (i := 8) (d := some 45) (v := .pointer (some ⟨b, k * 27, none⟩)) rfl rfl (by kernel_rfl) (by kernel_rfl) (by kernel_rfl) (fun _ _ _ h => h) (by rfl) ?_ hHeld ?_
            · intro w' hSw; go_simp; first | done | rfl | exact HW.out | exact HWj.out
            try simp only [Act.put, List.setIfInBounds_toArray, List.set_cons_zero, List.set_cons_succ]
            have HB8d : Hid (Bits w8.drew b 50 T1) := hB8.later (Below.drew (Below.refl _ _))
            refine wpAnyH_ready (rs := [9]) (by kernel_rfl) (by simp) ?_
            refine AllReadyH.cons (o := _) rfl (fun K hK => ?_) AllReadyH.nil
            rw [if_pos (by rfl)]
            unfold Oper.wp
            rw [exec_loadB (t := 50) (b := b) (off := k * 27) (n := 27) (bs := T1) rfl rfl bt_flags HB8d.out hT1k, Oper.upon_value]
            refine hK.out _ _ trivial (fun hHeld => ?_)
            clear hK K
            simp only [Act.put, List.setIfInBounds_toArray]
            refine wpAnyH_ready (rs := [10]) (by kernel_rfl) (by simp) ?_
            refine AllReadyH.cons (o := _) rfl (fun K hK => ?_) AllReadyH.nil
            rw [if_pos (by rfl)]
            go_simp
            refine (HJ2.out _ HB8d.out).mono ?_
            rintro e w9 ⟨rfl, hB9, hg9⟩
            have hg9w : w.grownBy w9 (some b) := grownBy_trans hg8w (grownBy_trans (grownBy_of_below (Below.drew (Below.refl _ _)) _) hg9)
            go_wp2_with fail
            refine hK.out _ _ trivial (fun hHeld => ?_)
            clear hK K
            try simp only [Act.put, List.setIfInBounds_toArray, List.set_cons_zero, List.set_cons_succ]
            refine wpAnyH_done (by kernel_rfl) ?_ _
            clear hHeld HB8d hB8
            rw [Hea.out]
            go_wp2
            go_roundw
            case rel => exact ⟨j + 1, T2, by omega, by go_num, HF, hB9, HT2l, hg9w⟩
            case measure => simp [intOf]; omega
    · have HF : Hid (fwB B k T R = Tj) := by show _ = _; rw [← HJ.out]; exact fwB_end hlt
      go_wp2
      go_end0
      exact ⟨rfl, by rw [HF.out]; exact hBj, hgj⟩
end Go.Proofs.Ytdniejpblhbjkab
namespace Go.Proofs.Ytdniejpblhbjkab
open Go.RowKit

theorem bgT_all {E : List Int} {T : List Bool} {c : Nat} {b : List Bool} (h : ∀ n, n < b.length → T.getD (n * 27 + c) false = true → b.getD n false = true) (hT : ∀ n, b.length ≤ n → n < 20 → T.getD (n * 27 + c) false = false) (hE : ∀ x ∈ E, x < b.length) : ∀ row : List Int, bgT E T c row = true → bgB E (c : Int) b row = true
  | [], g => by simp [bgT] at g
  | x :: xs, g => by
    rw [bgT] at g
    rw [bgB]
    by_cases h1 : inB x 0 25 = true
    · rw [if_pos h1] at g ⊢; exact g
    · rw [if_neg h1] at g ⊢
      split at g
      · rename_i h2
        have h2' : 100 ≤ x ∧ x - 100 < 20 := of_decide_eq_true h2
        by_cases h3 : x - 100 < b.length
        · rw [if_pos (inB_true.2 (by omega))]
          rw [Bool.or_eq_true] at g ⊢
          rcases g with g | g
          · exact .inl (h _ (by omega) g)
          · rw [Bool.and_eq_true] at g ⊢
            exact .inr ⟨g.1, bgT_all h hT hE xs g.2⟩
        · rw [hT _ (by omega) (by omega), hasL_no (fun hm => h3 (hE _ hm))] at g
          simp at g
      · cases g
theorem firstsOf_tab {P : List (List (List Int))} (hok : gramOkB P = true) {T : List Bool} (hl : T.length = 540) (hG : Grows (bgR (flagsOf (emptiesL P))) P (List.replicate 540 false) T) (hx : leK (bgR (flagsOf (emptiesL P))) P T P.length = T) {j c : Nat} (hj : j < 20) (hc : c < 27) :
    T.getD (j * 27 + c) false = true ↔ (c : Int) ∈ (firstsL P).getD j [] := by
  have F := Fits.of hok
  have hp := F.parts
  have hML := (fiT_sets (emptiesL P) P (P.length + 1)).1
  have sy : ∀ k (hk : k < P.length) i (hi : i < P[k].length), ∀ z ∈ P[k][i], (0 ≤ z ∧ z ≤ 25) ∨ (100 ≤ z ∧ z < 100 + P.length) := fun k hk i hi z hz => by have := symsOk hok hk hi z hz; omega
  constructor
  · have sound := hG (fun T => T.length = 540 ∧ ∀ j c, j < 20 → c < 27 → T.getD (j * 27 + c) false = true → (c : Int) ∈ (firstsL P).getD j []) ⟨List.length_replicate, fun j c _ _ h => by rw [rep_getD] at h; cases h⟩
      (fun k hk i hi T hT => ⟨by rw [bgR, joinB_length]; exact hT.1, fun j c hj hc h => by
        rcases (bgR_get hT.1 (by omega) hc).1 h with h | ⟨rfl, h⟩
        · exact hT.2 j c hj hc h
        · refine fiT_closed hk hi ?_
          have := bgT_of (b := proj (c : Int) (firstsL P)) (fun n hn hg => by
            rw [proj_getD]; exact hasL_yes (hT.2 n c (by rw [proj_length] at hn; unfold firstsL at hn; omega) hc hg)) P[j][i] (fun z hz => by have := sy j hk i hi z hz; rw [proj_length]; unfold firstsL; omega) h
          have e := hasL_rowF (firstsL P) (emptiesL P) (c : Int) P[j][i] []
          rw [this, Bool.or_true] at e
          exact of_decide_eq_true e⟩)
    exact sound.2 j c hj hc
  · intro h
    have := fiT_sound (E := emptiesL P) (P := P) (S := fun j c => 0 ≤ c ∧ c < 27 ∧ T.getD (j * 27 + c.toNat) false = true) (fun k hk i hi M hM hS c hc => by
      have hcr : 0 ≤ c ∧ c < 27 := by
        have key : ∀ (row out : List Int), (∀ y ∈ out, 0 ≤ y ∧ y < 27) → ∀ y ∈ rowF M (emptiesL P) out row, 0 ≤ y ∧ y < 27 := by
          intro row
          induction row with
          | nil => intro out ho y hy; rw [rowF] at hy; exact ho y hy
          | cons x xs ih =>
            intro out ho y hy
            have hjn : ∀ y ∈ joinL out (M.getD (x - 100).toNat []), 0 ≤ y ∧ y < 27 := fun y hy => by
              rcases mem_joinL.1 hy with hy | hy
              · exact ho y hy
              · have := hS _ y hy; exact ⟨this.1, this.2.1⟩
            rw [rowF] at hy
            split at hy
            · rename_i h1
              have h1' := inB_true.1 h1
              rcases mem_addL.1 hy with rfl | hy
              · omega
              · exact ho y hy
            · split at hy
              · split at hy
                · exact ih _ hjn y hy
                · exact hjn y hy
              · exact ho y hy
        exact key _ [] (by simp) c hc
      refine ⟨hcr.1, hcr.2, ?_⟩
      have hcn : ((c.toNat : Nat) : Int) = c := by omega
      have e := hasL_rowF M (emptiesL P) c P[k][i] []
      rw [hasL_yes hc] at e
      have e2 : bgB (emptiesL P) c (proj c M) P[k][i] = true := by simpa [hasL] using e.symm
      rw [← hcn] at e2
      have e3 := bgB_of (T := T) (by rw [proj_length, hM]; exact hp) (fun n hn hg => by
        rw [proj_getD] at hg
        have hm : ((c.toNat : Nat) : Int) ∈ M.getD n [] := of_decide_eq_true hg
        have := (hS n _ hm).2.2
        rw [Int.toNat_natCast] at this
        exact this) P[k][i] e2
      have hfx := (bgR_raises (flagsOf (emptiesL P)) P).fix hl hx hk hi
      have := (bgR_get (E := emptiesL P) (row := P[k][i]) hl (show k < 20 by omega) (j := k) (show c.toNat < 27 by omega)).2 (.inr ⟨rfl, e3⟩)
      rwa [hfx] at this) (P.length + 1) j (c : Int) h
    simpa using this.2.2
theorem firstOf_nums {P : List (List (List Int))} (hok : gramOkB P = true) {T : List Bool} (ht : ∀ j c, j < 20 → c < 27 → (T.getD (j * 27 + c) false = true ↔ (c : Int) ∈ (firstsL P).getD j [])) (zs : List Int) :
    numsB (fun c => (ofB (flagsOf (emptiesL P) ++ T) (List.replicate 27 false) zs).1.getD (0 + c) false) 27 = rowF (firstsL P) (emptiesL P) [] zs := by
  have F := Fits.of hok
  have hp := F.parts
  have hS : Sets P.length (firstsL P) := fiT_sets (emptiesL P) P (P.length + 1)
  refine nums_flags (E := rowF (firstsL P) (emptiesL P) [] zs) (rowF_sorted List.Pairwise.nil) (fun x hx => (rowF_setB hS.2 (SetB.nil _)).lt x hx) (fun n hn => ?_)
  rw [Nat.zero_add, ofB_get _ _ _ hn _ _ List.length_replicate, rep_getD, Bool.false_or, hasL_rowF]
  have hpl : (proj (n : Int) (firstsL P)).length = P.length := by rw [proj_length]; exact hS.1
  have e0 : hasL ([] : List Int) (n : Int) = false := by simp [hasL]
  rw [e0, Bool.false_or, Bool.eq_iff_iff]
  constructor
  · refine bgT_all (fun m hm hg => ?_) (fun m h1 h2 => ?_) (fun x hx => ?_) zs
    · rw [proj_getD]; exact hasL_yes ((ht m n (by omega) hn).1 hg)
    · rw [Bool.eq_false_iff]; intro hg
      have := (ht m n h2 hn).1 hg
      rw [List.getD_eq_getElem?_getD, List.getElem?_eq_none (by rw [hpl] at h1; rw [hS.1]; exact h1)] at this
      simp at this
    · rw [hpl]; have := (growT_setB (p := allE) P (P.length + 1)).lt x hx; omega
  · refine bgB_of (by rw [hpl]; exact hp) (fun m hm hg => ?_) zs
    rw [proj_getD] at hg
    exact (ht m n (by omega) hn).2 (of_decide_eq_true hg)
end Go.Proofs.Ytdniejpblhbjkab
namespace Go.Proofs.Ytdniejpblhbjkab
open Go.RowKit

/-- A step: what stands behind in a row is put to set n; or set k is. -/
def foApp (E : List Int) (FS : List (List Int)) (M : List (List Int)) (s : Nat × (List Int ⊕ Nat)) : List (List Int) :=
  match s.2 with
  | .inl rest => foA E FS s.1 rest M
  | .inr k => foB k s.1 M
def stepsJ (E : List Int) (k : Nat) (R : List Int) : Nat → List (Nat × (List Int ⊕ Nat))
  | 0 => []
  | j + 1 => stepsJ E k R j ++ (if 100 ≤ R.getD j 0 then ((R.getD j 0 - 100).toNat, .inl (R.drop (j + 1))) :: (if allE (R.drop (j + 1)) E then [((R.getD j 0 - 100).toNat, .inr k)] else []) else [])
theorem foJ_fold (E : List Int) (FS : List (List Int)) (k : Nat) (R : List Int) (M : List (List Int)) (j : Nat) : foJ E FS k R M j = (stepsJ E k R j).foldl (foApp E FS) M := by
  induction j with
  | zero => rfl
  | succ j ih =>
    rw [foJ, stepsJ, List.foldl_append, ← ih]
    split
    · rw [List.foldl_cons, foS]
      split
      · rfl
      · rfl
    · rfl
def stepsAll (E : List Int) (L : List (Nat × List Int)) : List (Nat × (List Int ⊕ Nat)) := L.flatMap fun s => stepsJ E s.1 s.2 s.2.length
theorem foI_fold (E : List Int) (FS : List (List Int)) (k : Nat) (Q M : List (List Int)) (i : Nat) (hi : i ≤ Q.length) : foI E FS k Q M i = (stepsAll E ((Q.take i).map fun row => (k, row))).foldl (foApp E FS) M := by
  induction i with
  | zero => simp [foI, stepsAll]
  | succ i ih =>
    have e : stepsAll E (((Q.take i).map fun row => (k, row)) ++ [(k, Q[i])]) = stepsAll E ((Q.take i).map fun row => (k, row)) ++ stepsJ E k Q[i] Q[i].length := by simp [stepsAll]
    rw [foI_next (by omega), ih (by omega), List.take_succ_eq_append_getElem (by omega), List.map_append, List.map_singleton, e, List.foldl_append, foJ_fold]
theorem foK_fold (E : List Int) (FS : List (List Int)) (P : List (List (List Int))) (M : List (List Int)) (k : Nat) : foK E FS P M k = (stepsAll E (flatP P k)).foldl (foApp E FS) M := by
  induction k with
  | zero => rfl
  | succ k ih =>
    have e := foI_fold E FS k (P.getD k []) (foK E FS P M k) (P.getD k []).length (Nat.le_refl _)
    rw [List.take_length] at e
    rw [foK, flatP, e, ih]
    simp [stepsAll, List.foldl_append]
def bitOf (E : List Int) (FS : List (List Int)) (c : Int) (s : Nat × (List Int ⊕ Nat)) : Nat × (List Bool → Bool) :=
  (s.1, match s.2 with
  | .inl rest => fun _ => hasL (rowF FS E [] rest) c
  | .inr k => fun b => b.getD k false)
theorem proj_foApp (E : List Int) (FS : List (List Int)) (c : Int) (s : Nat × (List Int ⊕ Nat)) (M : List (List Int)) : proj c (foApp E FS M s) = bstep (proj c M) (bitOf E FS c s) := by
  obtain ⟨n, s⟩ := s
  cases s with
  | inl rest => simp only [foApp, foA, bitOf, bstep, proj_set, proj_getD, hasL_joinL]
  | inr k => simp only [foApp, foB, bitOf, bstep, proj_set, proj_getD, hasL_joinL]
theorem proj_foldF (E : List Int) (FS : List (List Int)) (c : Int) (L : List (Nat × (List Int ⊕ Nat))) (M : List (List Int)) : proj c (L.foldl (foApp E FS) M) = bturn (L.map (bitOf E FS c)) (proj c M) := by
  unfold bturn
  induction L generalizing M with
  | nil => rfl
  | cons s L ih => rw [List.foldl_cons, ih, List.map_cons, List.foldl_cons, proj_foApp]
theorem foApp_length (E : List Int) (FS M : List (List Int)) (s : Nat × (List Int ⊕ Nat)) : (foApp E FS M s).length = M.length := by
  obtain ⟨n, s⟩ := s
  cases s <;> simp [foApp, foA, foB]
theorem foT_length (E : List Int) (FS : List (List Int)) (P : List (List (List Int))) (t : Nat) : (foT E FS P t).length = P.length := by
  have len : ∀ (L : List (Nat × (List Int ⊕ Nat))) (M : List (List Int)), (L.foldl (foApp E FS) M).length = M.length := by
    intro L
    induction L with
    | nil => intro M; rfl
    | cons s L ih => intro M; rw [List.foldl_cons, ih, foApp_length]
  induction t with
  | zero => simp [foT]
  | succ t ih => rw [foT, foK_fold, len, ih]
theorem foT_step {E : List Int} {FS : List (List Int)} {P : List (List (List Int))} {s : Nat × (List Int ⊕ Nat)} (hs : s ∈ stepsAll E (flatP P P.length)) (hn : s.1 < P.length) {c : Int} (ht : (bitOf E FS c s).2 (proj c (foT E FS P (27 * P.length + 1))) = true) : c ∈ (foT E FS P (27 * P.length + 1)).getD s.1 [] := by
  have hl := foT_length E FS P (27 * P.length + 1)
  have h := bturns_closed (L := (stepsAll E (flatP P P.length)).map (bitOf E FS c)) (f := fun t => proj c (foT E FS P t)) (fun t => by show proj c (foT E FS P (t + 1)) = _; rw [foT, foK_fold, proj_foldF]) (N := P.length) (T := 27 * P.length + 1)
    (by show (proj c (foT E FS P 0)).length ≤ _; rw [proj_length, foT_length]; exact Nat.le_refl _) (by omega) (s := bitOf E FS c s) (List.mem_map.2 ⟨s, hs, rfl⟩)
    (by show s.1 < (proj c _).length; rw [proj_length, hl]; exact hn) ht
  have e := proj_getD c (foT E FS P (27 * P.length + 1)) s.1
  rw [List.getD_eq_getElem?_getD, List.getElem?_eq_getElem (by rw [proj_length, hl]; exact hn), Option.getD_some] at e
  have h' : (proj c (foT E FS P (27 * P.length + 1)))[s.1]'(by rw [proj_length, hl]; exact hn) = true := h
  rw [h'] at e
  simpa [hasL] using e.symm
theorem mem_stepsJ {E : List Int} {k j : Nat} {R : List Int} (hj : j < R.length) (g : 100 ≤ R[j]) : ∀ m, j < m → ((R[j] - 100).toNat, Sum.inl (R.drop (j + 1))) ∈ stepsJ E k R m ∧ (allE (R.drop (j + 1)) E = true → ((R[j] - 100).toNat, Sum.inr k) ∈ stepsJ E k R m) := by
  intro m hm
  induction m with
  | zero => omega
  | succ m ih =>
    rw [stepsJ]
    by_cases e : j = m
    · subst e
      have e1 : R.getD j 0 = R[j] := by simp [List.getD, hj]
      rw [e1, if_pos g]
      refine ⟨List.mem_append_right _ List.mem_cons_self, fun h => List.mem_append_right _ (List.mem_cons_of_mem _ ?_)⟩
      rw [if_pos h]; exact List.mem_singleton.2 rfl
    · have := ih (by omega)
      exact ⟨List.mem_append_left _ this.1, fun h => List.mem_append_left _ (this.2 h)⟩
/-- What stands behind a part in a row can stand behind it; where that can be nothing, what can stand behind the whole. -/
theorem foT_closed {E : List Int} {FS : List (List Int)} {P : List (List (List Int))} {k i j n : Nat} (hk : k < P.length) (hi : i < P[k].length) (hj : j < P[k][i].length) (g : 100 ≤ P[k][i][j]) (en : P[k][i][j] - 100 = (n : Int)) (hn : n < P.length) {c : Int} :
    (c ∈ rowF FS E [] (P[k][i].drop (j + 1)) → c ∈ (foT E FS P (27 * P.length + 1)).getD n []) ∧ (allE (P[k][i].drop (j + 1)) E = true → c ∈ (foT E FS P (27 * P.length + 1)).getD k [] → c ∈ (foT E FS P (27 * P.length + 1)).getD n []) := by
  have m1 := mem_flatP hk hi hk
  have m2 := mem_stepsJ (E := E) (k := k) hj g _ hj
  have en2 : (P[k][i][j] - 100).toNat = n := by omega
  rw [en2] at m2
  refine ⟨fun h => ?_, fun hE h => ?_⟩
  · exact foT_step (s := (n, .inl (P[k][i].drop (j + 1)))) (List.mem_flatMap.2 ⟨_, m1, m2.1⟩) hn (hasL_yes h)
  · refine foT_step (s := (n, .inr k)) (List.mem_flatMap.2 ⟨_, m1, m2.2 hE⟩) hn ?_
    show (proj c _).getD k false = true
    rw [proj_getD]; exact hasL_yes h
theorem mem_stepsJ_inv {E : List Int} {k : Nat} {R : List Int} : ∀ m, m ≤ R.length → ∀ s ∈ stepsJ E k R m, ∃ j, ∃ hj : j < R.length, 100 ≤ R[j] ∧ s.1 = (R[j] - 100).toNat ∧ (s.2 = .inl (R.drop (j + 1)) ∨ (s.2 = .inr k ∧ allE (R.drop (j + 1)) E = true)) := by
  intro m
  induction m with
  | zero => intro _ s hs; simp [stepsJ] at hs
  | succ m ih =>
    intro hm s hs
    rw [stepsJ, List.mem_append] at hs
    rcases hs with hs | hs
    · exact ih (by omega) s hs
    · have e1 : R.getD m 0 = R[m] := by simp [List.getD, show m < R.length by omega]
      rw [e1] at hs
      by_cases g : 100 ≤ R[m]
      · rw [if_pos g] at hs
        rcases List.mem_cons.1 hs with rfl | hs
        · exact ⟨m, by omega, g, rfl, .inl rfl⟩
        · by_cases h : allE (R.drop (m + 1)) E = true
          · rw [if_pos h] at hs
            rw [List.mem_singleton.1 hs]
            exact ⟨m, by omega, g, rfl, .inr ⟨rfl, h⟩⟩
          · rw [if_neg h] at hs; simp at hs
      · rw [if_neg g] at hs; simp at hs
theorem foT_keeps {E : List Int} {FS : List (List Int)} {P : List (List (List Int))} {S : List (List Int) → Prop} (h0 : S ((List.replicate P.length []).set 0 [26]))
    (hS : ∀ k (hk : k < P.length) i (hi : i < P[k].length) j (hj : j < P[k][i].length), 100 ≤ P[k][i][j] → ∀ M, S M → S (foA E FS (P[k][i][j] - 100).toNat (P[k][i].drop (j + 1)) M) ∧ (allE (P[k][i].drop (j + 1)) E = true → S (foB k (P[k][i][j] - 100).toNat M))) (t : Nat) : S (foT E FS P t) := by
  have sL : ∀ k (hk : k < P.length) i (hi : i < P[k].length) (L : List (Nat × (List Int ⊕ Nat))), (∀ s ∈ L, s ∈ stepsJ E k P[k][i] P[k][i].length) → ∀ M, S M → S (L.foldl (foApp E FS) M) := by
    intro k hk i hi L
    induction L with
    | nil => exact fun _ M hM => hM
    | cons s L ih =>
      intro hL M hM
      rw [List.foldl_cons]
      refine ih (fun y hy => hL y (List.mem_cons_of_mem _ hy)) _ ?_
      obtain ⟨j, hj, g, e1, e2⟩ := mem_stepsJ_inv _ (Nat.le_refl _) s (hL s List.mem_cons_self)
      obtain ⟨n, s⟩ := s
      simp only at e1 e2
      have := hS k hk i hi j hj g M hM
      rcases e2 with rfl | ⟨rfl, hE⟩
      · rw [e1]; exact this.1
      · rw [e1]; exact this.2 hE
  have sI : ∀ k (hk : k < P.length) M, S M → ∀ i, i ≤ P[k].length → S (foI E FS k P[k] M i) := by
    intro k hk M hM i
    induction i with
    | zero => exact fun _ => hM
    | succ i ih => intro hi; rw [foI_next (by omega), foJ_fold]; exact sL k hk i (by omega) _ (fun _ h => h) _ (ih (by omega))
  have sK : ∀ M, S M → ∀ k, k ≤ P.length → S (foK E FS P M k) := by
    intro M hM k
    induction k with
    | zero => exact fun _ => hM
    | succ k ih => intro hk; rw [foK_next (by omega)]; exact sI k (by omega) _ (ih (by omega)) _ (Nat.le_refl _)
  induction t with
  | zero => exact h0
  | succ t ih => rw [foT]; exact sK _ ih _ (Nat.le_refl _)
theorem start_getD (n j : Nat) (c : Int) : c ∈ ((List.replicate n ([] : List Int)).set 0 [26]).getD j [] → j = 0 ∧ c = 26 := by
  intro hc
  rw [getD_set] at hc
  split at hc
  · rename_i h; exact ⟨h.1, by simpa using hc⟩
  · by_cases hj : j < n
    · simp [List.getD, hj] at hc
    · simp [List.getD, hj] at hc
theorem foT_sound {E : List Int} {FS : List (List Int)} {P : List (List (List Int))} {S : Nat → Int → Prop} (h0 : S 0 26)
    (hS : ∀ k (hk : k < P.length) i (hi : i < P[k].length) j (hj : j < P[k][i].length), 100 ≤ P[k][i][j] → (∀ c ∈ rowF FS E [] (P[k][i].drop (j + 1)), S (P[k][i][j] - 100).toNat c) ∧ (allE (P[k][i].drop (j + 1)) E = true → ∀ c, S k c → S (P[k][i][j] - 100).toNat c)) (t j : Nat) : ∀ c ∈ (foT E FS P t).getD j [], S j c := by
  have := foT_keeps (E := E) (FS := FS) (P := P) (S := fun M => ∀ j, ∀ c ∈ M.getD j [], S j c) (fun j c hc => by
      obtain ⟨rfl, rfl⟩ := start_getD _ _ _ hc
      exact h0) (fun k hk i hi j hj g M hM => ⟨fun x c hc => by
      rw [foA, getD_set] at hc
      split at hc
      · rename_i e
        rw [e.1]
        rcases mem_joinL.1 hc with hc | hc
        · exact hM _ c hc
        · exact (hS k hk i hi j hj g).1 c hc
      · exact hM x c hc, fun hE x c hc => by
      rw [foB, getD_set] at hc
      split at hc
      · rename_i e
        rw [e.1]
        rcases mem_joinL.1 hc with hc | hc
        · exact hM _ c hc
        · exact (hS k hk i hi j hj g).2 hE c (hM _ c hc)
      · exact hM x c hc⟩) t
  exact this j
theorem foT_sorted (E : List Int) (FS : List (List Int)) (P : List (List (List Int))) (t j : Nat) : ((foT E FS P t).getD j []).Pairwise (· < ·) := by
  have := foT_keeps (E := E) (FS := FS) (P := P) (S := fun M => ∀ j, (M.getD j []).Pairwise (· < ·)) (fun j => by
      rw [getD_set]
      split
      · simp
      · by_cases hj : j < P.length
        · simp [List.getD, hj]
        · simp [List.getD, hj]) (fun k hk i hi j hj g M hM => ⟨fun x => by
      rw [foA, getD_set]
      split
      · exact pair_joinL (hM _)
      · exact hM x, fun _ x => by
      rw [foB, getD_set]
      split
      · exact pair_joinL (hM _)
      · exact hM x⟩) t
  exact this j
theorem foT_end {E : List Int} {FS : List (List Int)} {P : List (List (List Int))} (hp : 0 < P.length) (t : Nat) : (26 : Int) ∈ (foT E FS P t).getD 0 [] := by
  have := foT_keeps (E := E) (FS := FS) (P := P) (S := fun M => (26 : Int) ∈ M.getD 0 []) (by simp [List.getD, hp]) (fun k hk i hi j hj g M hM => ⟨by
      rw [foA, getD_set]
      split
      · rename_i e; rw [← e.1]; exact mem_joinL.2 (.inl hM)
      · exact hM, fun _ => by
      rw [foB, getD_set]
      split
      · rename_i e; rw [← e.1]; exact mem_joinL.2 (.inl hM)
      · exact hM⟩) t
  exact this
end Go.Proofs.Ytdniejpblhbjkab
namespace Go.Proofs.Ytdniejpblhbjkab
open Go.RowKit

theorem ofB_all (E : List Int) (T : List Bool) : ∀ (row : List Int) (F : List Bool), (∀ z ∈ row, (0 ≤ z ∧ z ≤ 25) ∨ (100 ≤ z ∧ z < 120)) → (ofB (flagsOf E ++ T) F row).2 = allE row E
  | [], F, _ => by rw [ofB, allE, List.all_nil]
  | x :: xs, F, hz => by
    have hx := hz x List.mem_cons_self
    rw [ofB, allE, List.all_cons]
    by_cases h1 : inB x 0 25 = true
    · have := inB_true.1 h1
      rw [if_pos h1, decide_eq_false (by omega), Bool.false_and, Bool.false_and]
    · have h1' : ¬ (0 ≤ x ∧ x ≤ 25) := fun h => h1 (inB_true.2 h)
      have hn : (x - 100).toNat < 27 := by omega
      have e1 : (flagsOf E ++ T).getD (x - 100).toNat false = hasL E (x - 100) := by
        have := flagsOf_get E hn
        rw [show (((x - 100).toNat : Nat) : Int) = x - 100 by omega] at this
        rw [← this, List.getD_eq_getElem?_getD, List.getD_eq_getElem?_getD, List.getElem?_append_left (by rw [flagsOf_length]; exact hn)]
      rw [if_neg h1, if_pos (decide_eq_true (by omega)), e1, decide_eq_true (show 100 ≤ x by omega), Bool.true_and]
      by_cases h2 : hasL E (x - 100) = true
      · rw [if_pos h2, h2, Bool.true_and]
        exact ofB_all E T xs _ (fun z h => hz z (List.mem_cons_of_mem _ h))
      · have h2' : hasL E (x - 100) = false := by simpa using h2
        rw [if_neg h2, h2', Bool.false_and]
/-- Whether c stands in what a row can begin with, as the flags have it. -/
theorem ofB_has {P : List (List (List Int))} (hok : gramOkB P = true) {T : List Bool} (ht : ∀ j c, j < 20 → c < 27 → (T.getD (j * 27 + c) false = true ↔ (c : Int) ∈ (firstsL P).getD j [])) (zs : List Int) {c : Nat} (hc : c < 27) :
    (ofB (flagsOf (emptiesL P) ++ T) (List.replicate 27 false) zs).1.getD c false = true ↔ (c : Int) ∈ rowF (firstsL P) (emptiesL P) [] zs := by
  rw [← firstOf_nums hok ht zs, mem_numsB]
  constructor
  · intro h; exact ⟨c, hc, rfl, by rw [Nat.zero_add]; exact h⟩
  · rintro ⟨n, _, e, h⟩
    have : c = n := by omega
    rw [Nat.zero_add] at h
    rw [this]; exact h
theorem joinB_at {T cs : List Bool} (hT : T.length = 540) {n : Nat} (hn : n < 20) {j c : Nat} (hc : c < 27) : (joinB T (n * 27) cs).getD (j * 27 + c) false = true ↔ T.getD (j * 27 + c) false = true ∨ (j = n ∧ cs.getD c false = true) := by
  rw [joinB_get (by omega)]
  by_cases e : j = n
  · subst e
    rw [decide_eq_true (show j * 27 ≤ j * 27 + c ∧ j * 27 + c < j * 27 + 27 by omega), Bool.true_and, show j * 27 + c - j * 27 = c by omega, Bool.or_eq_true]
    simp
  · rw [decide_eq_false (show ¬ (n * 27 ≤ j * 27 + c ∧ j * 27 + c < n * 27 + 27) by omega), Bool.false_and, Bool.or_false]
    simp [e]
section
variable {E : List Int} {FS : List (List Int)} {B : List Bool} {k : Nat}
/-- What the flags B tell of a row. -/
structure Tells (E : List Int) (FS : List (List Int)) (B : List Bool) : Prop where
  has : ∀ (zs : List Int) (c : Nat), c < 27 → ((ofB B (List.replicate 27 false) zs).1.getD c false = true ↔ (c : Int) ∈ rowF FS E [] zs)
  all : ∀ zs : List Int, (∀ z ∈ zs, (0 ≤ z ∧ z ≤ 25) ∨ (100 ≤ z ∧ z < 120)) → (ofB B (List.replicate 27 false) zs).2 = allE zs E
theorem fwX_get (H : Tells E FS B) {T : List Bool} (hT : T.length = 540) {n : Nat} (hn : n < 20) {rest : List Int} (hz : ∀ z ∈ rest, (0 ≤ z ∧ z ≤ 25) ∨ (100 ≤ z ∧ z < 120)) {j c : Nat} (hc : c < 27) :
    (fwX B k n rest T).getD (j * 27 + c) false = true ↔ T.getD (j * 27 + c) false = true ∨ (j = n ∧ ((c : Int) ∈ rowF FS E [] rest ∨ (allE rest E = true ∧ T.getD (k * 27 + c) false = true))) := by
  have h1 : ∀ i, (joinB T (n * 27) (ofB B (List.replicate 27 false) rest).1).getD (i * 27 + c) false = true ↔ T.getD (i * 27 + c) false = true ∨ (i = n ∧ (c : Int) ∈ rowF FS E [] rest) := fun i => by rw [joinB_at hT hn hc, H.has rest c hc]
  have hl : (joinB T (n * 27) (ofB B (List.replicate 27 false) rest).1).length = 540 := by rw [joinB_length]; exact hT
  unfold fwX
  rw [H.all rest hz]
  by_cases hE : allE rest E = true
  · rw [if_pos hE, joinB_at hl hn hc, chunk_get _ _ _ hc, h1, h1]
    constructor
    · rintro ((h | ⟨h2, h⟩) | ⟨h2, h | ⟨h3, h⟩⟩)
      · exact .inl h
      · exact .inr ⟨h2, .inl h⟩
      · exact .inr ⟨h2, .inr ⟨hE, h⟩⟩
      · exact .inr ⟨h2, .inl h⟩
    · rintro (h | ⟨h2, h | ⟨_, h⟩⟩)
      · exact .inl (.inl h)
      · exact .inl (.inr ⟨h2, h⟩)
      · exact .inr ⟨h2, .inl h⟩
  · rw [if_neg hE, h1]
    constructor
    · rintro (h | ⟨h2, h⟩)
      · exact .inl h
      · exact .inr ⟨h2, .inl h⟩
    · rintro (h | ⟨h2, h | ⟨h3, _⟩⟩)
      · exact .inl h
      · exact .inr ⟨h2, h⟩
      · exact absurd h3 hE
theorem Up.fwX (k n : Nat) (rest : List Int) (T : List Bool) : Up T (fwX B k n rest T) := by
  unfold Go.Proofs.Ytdniejpblhbjkab.fwX
  split
  · exact (Up.joinB _ _ _).trans (Up.joinB _ _ _)
  · exact Up.joinB _ _ _
theorem Up.fwB (k : Nat) : ∀ (row : List Int) (T : List Bool), Up T (fwB B k T row)
  | [], T => by rw [Go.Proofs.Ytdniejpblhbjkab.fwB]; exact Up.refl _
  | x :: xs, T => by
    rw [Go.Proofs.Ytdniejpblhbjkab.fwB]
    split
    · exact Up.fwB k xs T
    · exact (Up.fwX _ _ _ _).trans (Up.fwB k xs _)
theorem fwB_fix (H : Tells E FS B) : ∀ (row : List Int) (T : List Bool), (∀ z ∈ row, (0 ≤ z ∧ z ≤ 25) ∨ (100 ≤ z ∧ z < 120)) → T.length = 540 → fwB B k T row = T → ∀ pre x xs, row = pre ++ x :: xs → 100 ≤ x →
    ∀ c : Nat, c < 27 → ((c : Int) ∈ rowF FS E [] xs ∨ (allE xs E = true ∧ T.getD (k * 27 + c) false = true)) → T.getD ((x - 100).toNat * 27 + c) false = true
  | [], T, _, _, _, pre, x, xs, e, _ => by simp at e
  | y :: ys, T, hz, hT, he, pre, x, xs, e, hx => by
    have hy := hz y List.mem_cons_self
    have hzs : ∀ z ∈ ys, (0 ≤ z ∧ z ≤ 25) ∨ (100 ≤ z ∧ z < 120) := fun z h => hz z (List.mem_cons_of_mem _ h)
    intro c hc hg
    rw [fwB] at he
    cases pre with
    | nil =>
      simp only [List.nil_append, List.cons.injEq] at e
      obtain ⟨rfl, rfl⟩ := e
      rw [if_neg (by rw [inB_false.2 (by omega)]; simp)] at he
      have e1 : fwX B k (y - 100).toNat ys T = T := Up.fix (Up.fwX _ _ _ _) (Up.fwB _ _ _) he
      have := (fwX_get H hT (n := (y - 100).toNat) (by omega) hzs (j := (y - 100).toNat) hc).2 (.inr ⟨rfl, hg⟩)
      rwa [e1] at this
    | cons p pre =>
      simp only [List.cons_append, List.cons.injEq] at e
      obtain ⟨rfl, e2⟩ := e
      split at he
      · exact fwB_fix H ys T hzs hT he pre x xs e2 hx c hc hg
      · have e1 : fwX B k (y - 100).toNat ys T = T := Up.fix (Up.fwX _ _ _ _) (Up.fwB _ _ _) he
        rw [e1] at he
        exact fwB_fix H ys T hzs hT he pre x xs e2 hx c hc hg
theorem fwB_keeps (H : Tells E FS B) (hk : k < 20) {S : Nat → Int → Prop} : ∀ (row : List Int) (T : List Bool), (∀ z ∈ row, (0 ≤ z ∧ z ≤ 25) ∨ (100 ≤ z ∧ z < 120)) → T.length = 540 →
    (∀ pre x xs, row = pre ++ x :: xs → 100 ≤ x → ∀ c, (c ∈ rowF FS E [] xs ∨ (allE xs E = true ∧ S k c)) → S (x - 100).toNat c) → (∀ j c, j < 20 → c < 27 → T.getD (j * 27 + c) false = true → S j (c : Int)) → ∀ j c, j < 20 → c < 27 → (fwB B k T row).getD (j * 27 + c) false = true → S j (c : Int)
  | [], T, _, _, _, h, j, c, hj, hc, hg => by rw [fwB] at hg; exact h j c hj hc hg
  | y :: ys, T, hz, hT, hS, h, j, c, hj, hc, hg => by
    have hy := hz y List.mem_cons_self
    have hzs : ∀ z ∈ ys, (0 ≤ z ∧ z ≤ 25) ∨ (100 ≤ z ∧ z < 120) := fun z h => hz z (List.mem_cons_of_mem _ h)
    have hS2 : ∀ pre x xs, ys = pre ++ x :: xs → 100 ≤ x → ∀ c, (c ∈ rowF FS E [] xs ∨ (allE xs E = true ∧ S k c)) → S (x - 100).toNat c := fun pre x xs e => hS (y :: pre) x xs (by rw [e]; rfl)
    rw [fwB] at hg
    split at hg
    · exact fwB_keeps H hk ys T hzs hT hS2 h j c hj hc hg
    · rename_i h1
      have h1' : ¬ (0 ≤ y ∧ y ≤ 25) := fun h => h1 (inB_true.2 h)
      refine fwB_keeps H hk ys _ hzs (by rw [(Up.fwX _ _ _ _).1]; exact hT) hS2 (fun j c hj hc hg => ?_) j c hj hc hg
      rcases (fwX_get H hT (n := (y - 100).toNat) (by omega) hzs hc).1 hg with h2 | ⟨rfl, h2 | ⟨h3, h2⟩⟩
      · exact h j c hj hc h2
      · exact hS [] y ys rfl (by omega) c (.inl h2)
      · exact hS [] y ys rfl (by omega) c (.inr ⟨h3, h k c hk hc h2⟩)
theorem fwB_mono (H : Tells E FS B) : ∀ (row : List Int) (T : List Bool), (∀ z ∈ row, (0 ≤ z ∧ z ≤ 25) ∨ (100 ≤ z ∧ z < 120)) → T.length = 540 → ∀ j c, c < 27 → T.getD (j * 27 + c) false = true → (fwB B k T row).getD (j * 27 + c) false = true
  | [], T, _, _, j, c, _, h => by rw [fwB]; exact h
  | y :: ys, T, hz, hT, j, c, hc, h => by
    have hy := hz y List.mem_cons_self
    have hzs : ∀ z ∈ ys, (0 ≤ z ∧ z ≤ 25) ∨ (100 ≤ z ∧ z < 120) := fun z h => hz z (List.mem_cons_of_mem _ h)
    rw [fwB]
    split
    · exact fwB_mono H ys T hzs hT j c hc h
    · rename_i h1
      have h1' : ¬ (0 ≤ y ∧ y ≤ 25) := fun h => h1 (inB_true.2 h)
      exact fwB_mono H ys _ hzs (by rw [(Up.fwX _ _ _ _).1]; exact hT) j c hc ((fwX_get H hT (n := (y - 100).toNat) (by omega) hzs hc).2 (.inl h))
end
/-- One row's step. -/
def fwR (B : List Bool) (k : Nat) (row : List Int) (T : List Bool) : List Bool := fwB B k T row
theorem fwR_raises (B : List Bool) (P : List (List (List Int))) : Raises (fwR B) P 540 := fun k _ i _ T hT => by
  have := Up.fwB (B := B) k P[k][i] T
  exact ⟨by rw [fwR, this.1]; exact hT, this.2⟩
theorem split_at {R : List Int} {j : Nat} (hj : j < R.length) : R = R.take j ++ R[j] :: R.drop (j + 1) := by
  rw [← List.drop_eq_getElem_cons hj, List.take_append_drop]
theorem split_inv {R pre xs : List Int} {x : Int} (e : R = pre ++ x :: xs) : ∃ (j : Nat) (hj : j < R.length), R[j] = x ∧ R.drop (j + 1) = xs := by
  subst e
  refine ⟨pre.length, by simp, by simp, ?_⟩
  rw [List.drop_append]
  simp
/-- The table that followsOf answers. -/
theorem followsOf_is {P : List (List (List Int))} (hok : gramOkB P = true) {B T : List Bool} (H : Tells (emptiesL P) (firstsL P) B) (hl : T.length = 540) (hG : Grows (fwR B) P ((List.replicate 540 false).set 26 true) T) (hx : leK (fwR B) P T P.length = T) {k : Nat} (hk : k < P.length) :
    numsB (fun c => T.getD (k * 27 + c) false) 27 = (followsL P).getD k [] := by
  have F := Fits.of hok
  have hp := F.parts
  have hFS : Sets P.length (firstsL P) := fiT_sets (emptiesL P) P (P.length + 1)
  have sy : ∀ k (hk : k < P.length) i (hi : i < P[k].length), ∀ z ∈ P[k][i], (0 ≤ z ∧ z ≤ 25) ∨ (100 ≤ z ∧ z < 120) := fun k hk i hi z hz => by have := symsOk hok hk hi z hz; omega
  have start : ∀ j c, c < 27 → (((List.replicate 540 false).set 26 true).getD (j * 27 + c) false = true ↔ j = 0 ∧ c = 26) := by
    intro j c hc
    rw [getD_setB, List.length_replicate, rep_getD]
    by_cases e : j * 27 + c = 26
    · rw [if_pos ⟨e, by decide⟩]; simp; omega
    · rw [if_neg (fun h => e h.1)]; simp; omega
  have sound := hG (fun T => T.length = 540 ∧ ∀ j c, j < 20 → c < 27 → T.getD (j * 27 + c) false = true → (c : Int) ∈ (followsL P).getD j []) ⟨by rw [List.length_set, List.length_replicate], fun j c _ hc h => by
      obtain ⟨rfl, rfl⟩ := (start j c hc).1 h
      exact foT_end (by omega) _⟩
    (fun k hk i hi T hT => ⟨by rw [fwR, (Up.fwB _ _ _).1]; exact hT.1, fwB_keeps H (S := fun j c => c ∈ (followsL P).getD j []) (by omega) P[k][i] T (sy k hk i hi) hT.1 (fun pre x xs e hx c hc => by
      obtain ⟨j, hj, e1, e2⟩ := split_inv e
      have hs := symsOk hok hk hi _ (List.getElem_mem hj)
      have := foT_closed (E := emptiesL P) (FS := firstsL P) (n := (x - 100).toNat) hk hi hj (by omega) (by omega) (by omega) (c := c)
      rw [e2] at this
      rcases hc with hc | ⟨h1, hc⟩
      · exact this.1 hc
      · exact this.2 h1 hc) hT.2⟩)
  have compl : ∀ c ∈ (followsL P).getD k [], T.getD (k * 27 + c.toNat) false = true := by
    have h26 := hG (fun T => T.length = 540 ∧ T.getD (0 * 27 + 26) false = true) ⟨by rw [List.length_set, List.length_replicate], (start 0 26 (by decide)).2 ⟨rfl, rfl⟩⟩
      (fun k hk i hi T hT => ⟨by rw [fwR, (Up.fwB _ _ _).1]; exact hT.1, fwB_mono H P[k][i] T (sy k hk i hi) hT.1 0 26 (by decide) hT.2⟩)
    have := foT_sound (E := emptiesL P) (FS := firstsL P) (P := P) (S := fun j c => 0 ≤ c ∧ c < 27 ∧ T.getD (j * 27 + c.toNat) false = true) ⟨by decide, by decide, h26.2⟩ (fun k hk i hi j hj g => by
      have hfx := (fwR_raises B P).fix hl hx hk hi
      have hb := fwB_fix H (k := k) P[k][i] T (sy k hk i hi) hl hfx _ _ _ (split_at hj) g
      refine ⟨fun c hc => ?_, fun h1 c hc => ?_⟩
      · have hcr := (rowF_setB (E := emptiesL P) hFS.2 (SetB.nil _) (zs := P[k][i].drop (j + 1))).lt c hc
        have hcn : ((c.toNat : Nat) : Int) = c := by omega
        exact ⟨hcr.1, hcr.2, hb c.toNat (by omega) (.inl (by rw [hcn]; exact hc))⟩
      · exact ⟨hc.1, hc.2.1, hb c.toNat (by omega) (.inr ⟨h1, hc.2.2⟩)⟩) (27 * P.length + 1) k
    exact fun c hc => (this c hc).2.2
  have hset := (foT_sets (E := emptiesL P) P hFS.2 (27 * P.length + 1)).get (k := k)
  refine nums_flags (foT_sorted _ _ _ _ _) (fun x h => by have := hset.lt x h; omega) (fun n hn => ?_)
  rw [Bool.eq_iff_iff]
  constructor
  · intro h; exact hasL_yes (sound.2 k n (by omega) hn h)
  · intro h
    have h2 := compl n (of_decide_eq_true h)
    simpa using h2
end Go.Proofs.Ytdniejpblhbjkab
namespace Go.Proofs.Ytdniejpblhbjkab
open Go.RowKit

theorem some_ne {a b : Nat} (h : a ≠ b) : some a ≠ some b := fun e => h (Option.some.inj e)
theorem exec_build0 {P : Program} {ρ : Operand → Value} {o : Oper} {w : World} {ty e : TypeId} {n m q : Nat} (ho : o.op = .build ty #[]) (hT : BitT P ty n) (hu : P.underlying ty = some (.array m e)) (hz : (P.info? e).map (·.size) = some q) :
    (execOp ρ o).run P w = .ok (.value (aggB (List.replicate n false))) w := by
  have hs : (sizeOf e).run P w = .ok q w := by
    cases hq : P.info? e with
    | none => simp [hq] at hz
    | some j => simp [hq] at hz; simp [sizeOf, typeInfo, hq, hz]
  unfold execOp
  simp only [ho, Instr.build, Sem.run_bind, hT.zero, Result.andThen_ok, run_underlying hu, hs, List.map_toArray, List.map_nil, Instr.fill, Value.cells]
  rw [aggB, cellsB_rep]
  rfl
theorem wpList_build0 {P : Program} {ops : Array Oper} {rest : List Oper} {o : Oper} {a : Act} {w : World} {Q : Exit → Act → World → Prop} (hgd : Region.wanted o (yielded ops a.tmps) = true) (ty e : TypeId) (n m q : Nat) (ho : o.op = .build ty #[]) (hT : BitT P ty n) (hu : P.underlying ty = some (.array m e)) (hz : (P.info? e).map (·.size) = some q)
    (h : wpList P ops Q rest (a.put o.dst (aggB (List.replicate n false))) w) : wpList P ops Q (o :: rest) a w :=
  wpList_val hgd (exec_build0 ho hT hu hz) h
theorem u_table : Try.prog.underlying 50 = some (.array 20 47) := by kernel_rfl

set_option maxRecDepth 100000 in
theorem isThere_any (x : Gm) (a0 : Option Addr) (c0 : Nat) (n : Int) (w : World) (h0 : RD w (.slice a0 x.parts.length c0) (slD (Lay.list (Lay.list Lay.int)) x.parts)) (hn : Lay.gram.wt x ≤ 1048576) (hf : Lay.gram.fit x) (_ : (Lit.int .i64 n).wf = true) :
    Calls Try.prog 40 #[.agg #[.slice a0 x.parts.length c0], .int .i64 n] w fun e w' => e = .returned (.bool (gramOkB x.parts && inB n 0 (x.parts.length - 1))) ∧ Below w.heap.size w w' := by
  have B0 := (Below.refl w.heap.size w).alloc (Nat.le_refl _) (.cells #[.slice a0 x.parts.length c0] 28)
  have HOK : Hid (∀ W : World, Below w.heap.size w W → Calls Try.prog 32 #[.agg #[.slice a0 x.parts.length c0]] W fun e w' => e = .returned (.bool (gramOkB x.parts)) ∧ Below W.heap.size W w') := fun W hW => gramOk_any x a0 c0 W (h0.later hW) hn hf
  have hpl : gramOkB x.parts = true → x.parts.length ≤ 20 := fun h => (Fits.of h).parts
  clear h0 hn hf
  generalize x.parts = P at *
  by_cases hok : gramOkB P = true
  · have hp := hpl hok
    clear hpl
    rw [hok] at HOK ⊢
    rw [Bool.true_and]
    clear hok
    by_cases h1 : 0 ≤ n
    · by_cases h2 : n < (P.length : Int)
      · have e : inB n 0 ((P.length : Int) - 1) = true := inB_true.2 (by omega)
        rw [e]
        clear e
        go_enter Try.func40, Try.ntmps40
        go_wp2_with (go_at_call 32; refine (HOK.out _ B0).mono ?_; rintro e w1 ⟨rfl, hb1⟩; have g0 : w1.cell? ⟨w.heap.size, 0, none⟩ = some (.slice a0 P.length c0) := (hb1.cell (p := ⟨w.heap.size, 0, none⟩) (by simp)).trans (by simp))
        go_ret
        exact ⟨rfl, B0.trans (hb1.mono B0.size)⟩
      · have e : inB n 0 ((P.length : Int) - 1) = false := inB_false.2 (by omega)
        rw [e]
        clear e
        go_enter Try.func40, Try.ntmps40
        go_wp2_with (go_at_call 32; refine (HOK.out _ B0).mono ?_; rintro e w1 ⟨rfl, hb1⟩; have g0 : w1.cell? ⟨w.heap.size, 0, none⟩ = some (.slice a0 P.length c0) := (hb1.cell (p := ⟨w.heap.size, 0, none⟩) (by simp)).trans (by simp))
        go_ret
        exact ⟨ret_bool (by simp; omega), B0.trans (hb1.mono B0.size)⟩
    · have e : inB n 0 ((P.length : Int) - 1) = false := inB_false.2 (by omega)
      rw [e]
      clear e
      go_enter Try.func40, Try.ntmps40
      go_wp2_with (go_at_call 32; refine (HOK.out _ B0).mono ?_; rintro e w1 ⟨rfl, hb1⟩)
      go_ret
      exact ⟨rfl, B0.trans (hb1.mono B0.size)⟩
  · have hok2 : gramOkB P = false := by simpa using hok
    rw [hok2] at HOK ⊢
    rw [Bool.false_and]
    clear hok hok2 hpl
    go_enter Try.func40, Try.ntmps40
    go_wp2_with (go_at_call 32; refine (HOK.out _ B0).mono ?_; rintro e w1 ⟨rfl, hb1⟩)
    go_ret
    exact ⟨rfl, B0.trans (hb1.mono B0.size)⟩

end Go.Proofs.Ytdniejpblhbjkab
