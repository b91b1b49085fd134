/-
  Contracts and plain mathematics, joined: EmBase, LPartsE, EmptiesOf, OfRow, StartsB, EmptiesMath, StartsMath, StartsClosed, StartsUp, FirstsUp, BuildB, BuildS. No statement is proved here.
-/
import Derived.Test.YtdniejpblhbjkabG4
import Derived.Test.YtdniejpblhbjkabG2
import Derived.Deep.LoopGhost
import Derived.Test.YtdniejpblhbjkabG3
import Derived.Test.YtdniejpblhbjkabG1
namespace Go.Proofs.Ytdniejpblhbjkab
open Go.RowKit

theorem eq_flags27 {w : World} {cs bs : List Bool} (h1 : cs.length = 27) (h2 : bs.length = 27) : (Op.equalIn 10000 47 (aggB cs) (aggB bs)).run Try.prog w = .ok (decide (cs = bs)) w := run_eq_flags 9998 u_flags u_bool bool_size h1 h2
theorem guard_flags : Try.prog.eqGuardType Try.prog.depth 47 = false := by kernel_rfl

/-- One row's step. -/
theorem emS_raises (p : List Bool → List Int → Bool) (P : List (List (List Int))) : Raises (emS p) P 27 := fun k _ i _ T hT => ⟨by rw [emS, bstep_length]; exact hT, bstep_or _ _⟩
theorem emS_yes {p : List Bool → List Int → Bool} {k : Nat} {row : List Int} {T : List Bool} (h : T.getD k false = true) : emS p k row T = T.set k true := by simp only [emS, bstep, h, Bool.true_or]
theorem emS_no {p : List Bool → List Int → Bool} {k : Nat} {row : List Int} {T : List Bool} (h : T.getD k false = false) : emS p k row T = T.set k (p T row) := by simp only [emS, bstep, h, Bool.false_or]

theorem at27 {T : List Bool} (hl : T.length = 27) : BitT Try.prog 47 T.length := by rw [hl]; exact bt_flags
theorem ahead_facts {n1 : Nat} {w2 wr w3 w4 : World} {t : TypeId} {T : List Bool} (hbel : Below n1 w2 wr) (hn : n1 < wr.heap.size) (hBT : Bits wr n1 t T) (hb3 : Below wr.heap.size wr w3) (hs3 : w3.heap.size = wr.heap.size + 1) (hTl : T.length = 27) (hB4 : Bits w4 wr.heap.size 47 (putB (List.replicate 27 false) 0 T)) (hg4 : w3.grownBy w4 (some wr.heap.size)) :
    Below n1 w2 w4 ∧ Bits w4 n1 t T ∧ Bits w4 wr.heap.size 47 T := by
  have e : putB (List.replicate 27 false) 0 T = T := putB_whole (by simp [hTl])
  rw [e] at hB4
  refine ⟨?_, ?_, hB4⟩
  · exact (hbel.trans (hb3.mono (by omega))).grown hg4 (by omega) (fun k hk => by cases hk; omega)
  · exact (hBT.later hb3).grown hg4 (by intro h; cases h; omega)
theorem ret_cell {fn : Func} {p : Tmp} {tmps : Array Value} {w : World} {g : Nat} {t : TypeId} {bs : List Bool} (ty : TypeId) (h : fn.results = #[.cell p ty]) (hp : tmps.getD p undef = .pointer (some ⟨g, 0, none⟩)) (hB : Bits w g t bs) (hT : BitT Try.prog ty bs.length) : (results fn tmps).run Try.prog w = .ok (aggB bs) w := by
  obtain ⟨d, hu, hd⟩ := hT.desc
  exact results_cell_row h tmps w g t (cellsB bs) (0, 0) d hp hB hu (by cases d <;> first | rfl | cases hd) (by rw [cellsB_size]; exact hT.size)

end Go.Proofs.Ytdniejpblhbjkab
namespace Go.Proofs.Ytdniejpblhbjkab
open Go.RowKit

set_option maxHeartbeats 4000000 in
set_option maxRecDepth 100000 in
theorem leastParts_E (p : List Bool → List Int → Bool) (P : List (List (List Int))) (a0 : Option Addr) (c0 : Nat) (w : World) (h0 : RD w (.slice a0 P.length c0) (slD (Lay.list (Lay.list Lay.int)) P)) (hok : gramOkB P = true)
    (hcl : ∀ (W : World) (T : List Bool) (k : Nat) (hk : k < P.length) (i : Nat) (hi : i < P[k].length) (a : Option Addr) (c : Nat), Below w.heap.size w W → T.length = 27 → RD w (.slice a P[k][i].length c) (slD Lay.int P[k][i]) →
      Calls Try.prog 68 #[.slice a P[k][i].length c, aggB T] W fun e w' => e = .returned (.bool (p T P[k][i])) ∧ Below W.heap.size W w') :
    Calls Try.prog 63 #[.agg #[.slice a0 P.length c0], .func (.func 68) #[] #[]] w fun e w' => ∃ T, e = .returned (aggB T) ∧ T.length = 27 ∧ Grows (emS p) P (List.replicate 27 false) T ∧ leK (emS p) P T P.length = T ∧ Below w.heap.size w w' := by
  have F := Fits.of hok
  have HF : Hid (Fits P) := F
  have hp := F.parts
  have HRz : Hid (Raises (emS p) P 27) := emS_raises p P
  have HCL : Hid (∀ (W : World) (T : List Bool) (k : Nat) (hk : k < P.length) (i : Nat) (hi : i < P[k].length) (a : Option Addr) (c : Nat), Below w.heap.size w W → T.length = 27 → RD w (.slice a P[k][i].length c) (slD Lay.int P[k][i]) →
      Calls Try.prog 68 #[.slice a P[k][i].length c, aggB T] W fun e w' => e = .returned (.bool (p T P[k][i])) ∧ Below W.heap.size W w') := hcl
  clear F hok hcl
  have B0 := (Below.refl w.heap.size w).alloc (Nat.le_refl _) (.cells #[.slice a0 P.length c0] 28)
  have HQ0 : Hid ((w.alloc (.cells #[.slice a0 P.length c0] 28)).cell? ⟨w.heap.size, 0, none⟩ = some (.slice a0 P.length c0)) := by show _ = _; simp
  have HR0 : Hid (RD w (.slice a0 P.length c0) (slD (Lay.list (Lay.list Lay.int)) P)) := h0
  have hsb : (w.alloc (.cells #[.slice a0 P.length c0] 28)).heap.size = w.heap.size + 1 := by simp
  clear h0
  go_enter Try.func63, Try.ntmps63
  go_wp2_with (first | (refine wpList_allocB (w := w.alloc _) rfl 47 rfl 27 bt_flags ?_; rw [hsb]; intro w1 hB1 hb1 hs1) | (refine wpList_allocB (w := w1) rfl 47 rfl 27 bt_flags ?_; intro w2 hB2 hb2 hs2))
  generalize w.alloc (.cells #[.slice a0 P.length c0] 28) = wb at *
  simp only [Act.put, List.setIfInBounds_toArray, List.set_cons_zero, List.set_cons_succ]
  -- what is known below the flags
  have hs1' : w1.heap.size = w.heap.size + 2 := by omega
  have HQ : Hid (∀ W, Below w1.heap.size w2 W → W.cell? ⟨w.heap.size, 0, none⟩ = some (.slice a0 P.length c0) ∧ Below w.heap.size w W ∧ Bits W (w.heap.size + 1) 47 (List.replicate 27 false)) := by
    intro W hW
    have b1 : Below (w.heap.size + 1) wb W := hb1.trans ((hb2.mono (by omega)).trans (hW.mono (by omega)))
    refine ⟨(b1.cell (p := ⟨w.heap.size, 0, none⟩) (by simp)).trans HQ0.out, B0.trans (b1.mono (by omega)), ?_⟩
    exact (hB1.below hb2 (by omega)).below hW (by omega)
  clear HQ0 B0 hB1 hb1 hs1
  clear hb2 hs2
  generalize w1.heap.size = n1 at *
  have hn1w : w.heap.size + 1 < n1 := by omega
  clear hs1' hsb
  go_loopg [] 27 (fun g wr => ∃ T : List Bool, Aside (T.length = 27 ∧ cntB T + g = 27 ∧ Grows (emS p) P (List.replicate 27 false) T ∧ Bits wr n1 47 T ∧ Below n1 w2 wr))
  case atStart => exact ⟨List.replicate 27 false, by simp, by decide, Grows.refl _ _, hB2, Below.refl _ _⟩
  case round =>
    obtain ⟨T, A⟩ := hrel
    have hTl := A.out.1
    have HTg : Hid (cntB T + gk = 27) := A.out.2.1
    have HTG : Hid (Grows (emS p) P (List.replicate 27 false) T) := A.out.2.2.1
    have hBT := A.out.2.2.2.1
    have hbel := A.out.2.2.2.2
    clear A hB2
    have hnr := hBT.lt
    go_wp2_with (first | (refine wpList_loadW rfl 47 _ rfl n1 47 T rfl (at27 hTl) hBT ?_) | (refine wpList_allocB rfl 47 rfl 27 bt_flags ?_; intro w3 hB3 hb3 hs3) | (refine wpList_storeB rfl 47 _ _ rfl wr.heap.size 0 47 _ T rfl rfl (at27 hTl) hB3 (by simp [hTl]) ?_; intro w4 hB4 hg4; obtain ⟨hbel4, hBT4, hBA4⟩ := ahead_facts hbel hnr hBT hb3 hs3 hTl hB4 hg4; obtain ⟨q4, _, _⟩ := HQ.out w4 hbel4))
    have HA : Hid (wr.heap.size < w4.heap.size) := hBA4.lt
    have hnA : n1 < wr.heap.size := hnr
    generalize wr.heap.size = nA at *
    clear hB3 hb3 hs3 hB4 hg4 hBT hbel hnr
    go_loopw [15] (fun s13 wk => ∃ k : Nat, k ≤ P.length ∧ s13 = .int .i64 k ∧ Bits wk n1 47 (leK (emS p) P T k) ∧ Bits wk nA 47 T ∧ Below n1 w2 wk) (fun s13 _ => P.length - (intOf s13).toNat)
    case atStart => exact ⟨0, Nat.zero_le _, rfl, hBT4, hBA4, hbel4⟩
    case round =>
      obtain ⟨k, hk, rfl, hBk, hBA, hbk⟩ := hrel
      clear hBT4 hBA4 hbel4 q4 HA
      by_cases hlk : k < P.length
      · have HK : Hid (leK (emS p) P T (k + 1) = leI (emS p) k P[k] (leK (emS p) P T k) P[k].length) := leK_next hlk
        have hm := List.getElem_mem hlk
        have hQ := HF.out.alts _ hm
        have HC1 : Hid (∀ (W : World) (T : List Bool) (i : Nat) (hi : i < P[k].length) (a : Option Addr) (c : Nat), Below w.heap.size w W → T.length = 27 → RD w (.slice a P[k][i].length c) (slD Lay.int P[k][i]) →
          Calls Try.prog 68 #[.slice a P[k][i].length c, aggB T] W fun e w' => e = .returned (.bool (p T P[k][i])) ∧ Below W.heap.size W w') := fun W T i hi a c => HCL.out W T k hlk i hi a c
        have HLe : Hid (∀ i, i ≤ P[k].length → (leI (emS p) k P[k] (leK (emS p) P T k) i).length = 27) := fun i hi => (HRz.out.leI hlk (HRz.out.leK hTl k hk).1 i hi).1
        obtain ⟨b1, o1, ea0, hb1, a1, c1, q0', r1⟩ := HR0.out.listAt hlk
        have HR1 : Hid (RD w (.slice a1 P[k].length c1) (slD (Lay.list Lay.int) P[k])) := r1
        have q0 := ((HQ.out wr hbk).2.1.cell (p := ⟨b1, o1 + k, none⟩) hb1).trans q0'
        subst ea0
        have hk27 : k < 27 := by omega
        clear r1 q0' hm hb1
        generalize leK (emS p) P T k = Tk at *
        generalize P[k] = Q at *
        go_wp2
        go_loopw [22] (fun s20 wk => ∃ i : Nat, i ≤ Q.length ∧ s20 = .int .i64 i ∧ Bits wk n1 47 (leI (emS p) k Q Tk i) ∧ Bits wk nA 47 T ∧ Below n1 w2 wk) (fun s20 _ => Q.length - (intOf s20).toNat)
        case atStart => exact ⟨0, Nat.zero_le _, rfl, hBk, hBA, hbk⟩
        case round =>
          obtain ⟨i, hi, rfl, hBi, hBAi, hbi⟩ := hrel
          clear hBk hBA hbk q0
          by_cases hli : i < Q.length
          · have HE : Hid (leI (emS p) k Q Tk (i + 1) = emS p k Q[i] (leI (emS p) k Q Tk i)) := leI_next hli
            have hTi := HLe.out i hi
            obtain ⟨b2, o2, ea1, hb2, a2, c2, q1', r2⟩ := HR1.out.listAt hli
            have hbw := (HQ.out wr hbi).2.1
            have q1 := (hbw.cell (p := ⟨b2, o2 + i, none⟩) hb2).trans q1'
            subst ea1
            have q2 := hBi.cell (n := k) (by omega)
            have f2 := hBi.frozen k
            have hn1r := hBi.lt
            have HX : Hid (Calls Try.prog 68 #[.slice a2 Q[i].length c2, aggB (leI (emS p) k Q Tk i)] wr fun e w' => e = .returned (.bool (p (leI (emS p) k Q Tk i) Q[i])) ∧ Below wr.heap.size wr w') := HC1.out wr _ i hli a2 c2 hbw hTi r2
            clear r2 q1' hb2 hbw
            generalize leI (emS p) k Q Tk i = Ti at *
            generalize Q[i] = R at *
            have key : ∀ (W : World) (v : Bool), Below wr.heap.size wr W → emS p k R Ti = Ti.set k v → Bits (W.setCell ⟨n1, k, none⟩ (.bool v)) n1 47 (leI (emS p) k Q Tk (i + 1)) ∧ Bits (W.setCell ⟨n1, k, none⟩ (.bool v)) nA 47 T ∧ Below n1 w2 (W.setCell ⟨n1, k, none⟩ (.bool v)) := by
              intro W v hW he
              rw [HE.out, he]
              exact ⟨(hBi.later hW).set k v, (hBAi.later hW).grown (setCell_grown W n1 k _) (by intro h; cases h; omega), (hbi.trans (hW.mono (by omega))).setCell (Nat.le_refl _) _⟩
            have HKY : Hid (∀ (W : World) (v : Bool), Below wr.heap.size wr W → emS p k R Ti = Ti.set k v → Bits (W.setCell ⟨n1, k, none⟩ (.bool v)) n1 47 (leI (emS p) k Q Tk (i + 1)) ∧ Bits (W.setCell ⟨n1, k, none⟩ (.bool v)) nA 47 T ∧ Below n1 w2 (W.setCell ⟨n1, k, none⟩ (.bool v))) := key
            clear key
            by_cases hup : Ti.getD k false = true
            · rw [hup] at q2
              have K1 := HKY.out wr true (Below.refl _ _) (emS_yes hup)
              have HK1 : Hid _ := K1
              clear K1 hup HKY HE HX
              go_wp2
              go_roundw
              case rel => exact ⟨i + 1, by omega, by go_num, HK1.out.1, HK1.out.2.1, HK1.out.2.2⟩
              case measure => simp [intOf]; omega
            · have hdn : Ti.getD k false = false := by simpa using hup
              rw [hdn] at q2
              have HK2 : Hid (∀ W, Below wr.heap.size wr W → _) := fun W hW => HKY.out W (p Ti R) hW (emS_no hdn)
              clear hup hdn HKY HE
              go_wp2_with (first | (refine wpList_loadW rfl 47 _ rfl n1 47 Ti rfl (at27 hTi) hBi ?_) | (go_at_call 68; refine HX.out.mono ?_; rintro e w5 ⟨rfl, hb5⟩; have q5 := (hBi.later hb5).cell (n := k) (by omega); have f5 := (hBi.later hb5).frozen k))
              go_roundw
              case rel => exact ⟨i + 1, by omega, by go_num, (HK2.out w5 hb5).1, (HK2.out w5 hb5).2.1, (HK2.out w5 hb5).2.2⟩
              case measure => simp [intOf]; omega
          · have e : i = Q.length := by omega
            subst e
            have HKe := HK
            clear HK
            go_wp2
            go_roundw
            case rel => exact ⟨k + 1, by omega, by go_num, by rw [HKe.out]; exact hBi, hBAi, hbi⟩
            case measure => simp [intOf]; omega
      · have e : k = P.length := by omega
        subst e
        have hLl := (HRz.out.leK hTl P.length (Nat.le_refl _))
        have HL2 : Hid (leK (emS p) P T P.length = T ∨ cntB T < cntB (leK (emS p) P T P.length)) := hLl.2
        have hLl1 := hLl.1
        have HLG : Hid (Grows (emS p) P (List.replicate 27 false) (leK (emS p) P T P.length)) := HTG.out.leK _ (Nat.le_refl _)
        have HLc : Hid (cntB (leK (emS p) P T P.length) ≤ 27) := by show _ ≤ _; have := cntB_le (leK (emS p) P T P.length); omega
        clear hLl
        by_cases hfix : leK (emS p) P T P.length = T
        · have HX : Hid (leK (emS p) P T P.length = T) := hfix
          rw [hfix] at hBk
          clear hfix HL2 hLl1
          have hR := (HQ.out wr hbk).2.2
          have hBel := (HQ.out wr hbk).2.1
          go_wp2_with (first | (refine wpList_loadW rfl 47 _ rfl n1 47 T rfl (at27 hTl) hBk ?_) | (refine wpList_loadW rfl 47 _ rfl nA 47 T rfl (at27 hTl) hBA ?_) | (refine wpList_eqlB rfl 47 _ _ _ rfl T T rfl rfl guard_flags (eq_flags27 hTl hTl) ?_; rw [decide_eq_true (rfl : T = T)]) | (refine wpList_storeB rfl 47 _ _ rfl (w.heap.size + 1) 0 47 _ T rfl rfl (at27 hTl) hR (by simp [hTl]) ?_; intro w5 hB5 hg5))
          have e5 : putB (List.replicate 27 false) 0 T = T := putB_whole (by simp [hTl])
          rw [e5] at hB5
          have hb5 : Below w.heap.size w w5 := hBel.grown hg5 hBel.size (fun j hj => by cases hj; omega)
          refine bodyPost_ret (v := aggB T) (ret_cell 47 rfl rfl hB5 (at27 hTl)) rfl ⟨T, rfl, hTl, HTG.out, HX.out, hb5⟩
        · have hcnt : cntB T < cntB (leK (emS p) P T P.length) := HL2.out.resolve_left hfix
          have hdec : decide (leK (emS p) P T P.length = T) = false := decide_eq_false hfix
          clear hfix HL2
          generalize leK (emS p) P T P.length = T2 at *
          go_wp2_with (first | (refine wpList_loadW rfl 47 _ rfl n1 47 T2 rfl (at27 hLl1) hBk ?_) | (refine wpList_loadW rfl 47 _ rfl nA 47 T rfl (at27 hTl) hBA ?_) | (refine wpList_eqlB rfl 47 _ _ _ rfl T2 T rfl rfl guard_flags (eq_flags27 hLl1 hTl) ?_; rw [hdec]))
          go_roundg (27 - cntB T2)
          case measure => have := HTg.out; have := HLc.out; omega
          case rel => exact ⟨T2, hLl1, by have := HLc.out; omega, HLG.out, hBk, hbk⟩
end Go.Proofs.Ytdniejpblhbjkab
namespace Go.Proofs.Ytdniejpblhbjkab
open Go.RowKit

/-- One row's step. -/
def eS (k : Nat) (row : List Int) (T : List Bool) : List Bool := bstep T (k, fun b => allB b row)
theorem eS_raises (P : List (List (List Int))) : Raises eS P 27 := fun k _ i _ T hT => ⟨by rw [eS, bstep_length]; exact hT, bstep_or _ _⟩

set_option maxHeartbeats 4000000 in
set_option maxRecDepth 100000 in
theorem emptiesOf_grow (P : List (List (List Int))) (a0 : Option Addr) (c0 : Nat) (w : World) (h0 : RD w (.slice a0 P.length c0) (slD (Lay.list (Lay.list Lay.int)) P)) (hok : gramOkB P = true) :
    Calls Try.prog 54 #[.agg #[.slice a0 P.length c0]] w fun e w' => ∃ T, e = .returned (aggB T) ∧ T.length = 27 ∧ Grows eS P (List.replicate 27 false) T ∧ leK eS P T P.length = T ∧ Below w.heap.size w w' := by
  have HX : Hid (∀ W : World, Below w.heap.size w W → Calls Try.prog 63 #[.agg #[.slice a0 P.length c0], .func (.func 68) #[] #[]] W fun e w' => ∃ T, e = .returned (aggB T) ∧ T.length = 27 ∧ Grows eS P (List.replicate 27 false) T ∧ leK eS P T P.length = T ∧ Below W.heap.size W w') := by
    intro W hW
    have F := Fits.of hok
    refine leastParts_E allB P a0 c0 W (h0.later hW) hok (fun W2 T k hk i hi a c hb hT hr => ?_)
    have hm := List.getElem_mem hk
    have hm2 := List.getElem_mem hi
    have h8 := F.rows _ hm _ hm2
    exact allOf_any _ a c T W2 (hr.later hb).reads (by omega) (fun z hz => by have := F.syms _ hm _ hm2 z hz; omega) hT
  have B0 := (Below.refl w.heap.size w).alloc (Nat.le_refl _) (.cells #[.slice a0 P.length c0] 28)
  have hsb : (w.alloc (.cells #[.slice a0 P.length c0] 28)).heap.size = w.heap.size + 1 := by simp
  have HQ0 : Hid ((w.alloc (.cells #[.slice a0 P.length c0] 28)).cell? ⟨w.heap.size, 0, none⟩ = some (.slice a0 P.length c0)) := by show _ = _; simp
  clear h0 hok
  go_enter Try.func54, Try.ntmps54
  go_wp2_with (first | (refine wpList_allocB (w := w.alloc _) rfl 47 rfl 27 bt_flags ?_; rw [hsb]; intro w1 hB1 hb1 hs1; have q1 := (hb1.cell (p := ⟨w.heap.size, 0, none⟩) (by simp)).trans HQ0.out) | (go_at_call 63; refine (HX.out _ (B0.trans (hb1.mono (by omega)))).mono ?_; rintro e w2 ⟨T, rfl, hTl, hG, hF, hb2⟩; have hB2 := hB1.later hb2) | (refine wpList_storeB (w := w2) rfl 47 _ _ rfl (w.heap.size + 1) 0 47 _ T rfl rfl (at27 hTl) hB2 (by simp [hTl]) ?_; intro w3 hB3 hg3))
  have e5 : putB (List.replicate 27 false) 0 T = T := putB_whole (by simp [hTl])
  rw [e5] at hB3
  have b1 : Below w.heap.size w w1 := B0.trans (hb1.mono (by omega))
  have b2 : Below w.heap.size w w2 := b1.trans (hb2.mono b1.size)
  have b3 : Below w.heap.size w w3 := b2.grown hg3 b2.size (fun j hj => by cases hj; omega)
  exact bodyPost_ret (v := aggB T) (ret_cell 47 rfl rfl hB3 (at27 hTl)) rfl ⟨T, rfl, hTl, hG, hF, b3⟩
end Go.Proofs.Ytdniejpblhbjkab
namespace Go.Proofs.Ytdniejpblhbjkab
open Go.RowKit

/-- What a row can begin with, put to the flags F, by the flags B (which parts can become nothing; what each can begin with); and whether it can become nothing. -/
def ofB (B : List Bool) : List Bool → List Int → List Bool × Bool
  | F, [] => (F, true)
  | F, x :: xs => if inB x 0 25 then (F.set x.toNat true, false) else if decide (100 ≤ x ∧ x - 100 < 20) then (if B.getD (x - 100).toNat false then ofB B (joinB F 0 ((B.drop (27 + (x - 100).toNat * 27)).take 27)) xs else (joinB F 0 ((B.drop (27 + (x - 100).toNat * 27)).take 27), false)) else (F, false)
theorem ofB_length (B : List Bool) (R : List Int) : ∀ F : List Bool, (ofB B F R).1.length = F.length := by
  induction R with
  | nil => intro F; rfl
  | cons x xs ih =>
    intro F
    have hj := joinB_length F 0 ((B.drop (27 + (x - 100).toNat * 27)).take 27)
    rw [ofB]
    generalize joinB F 0 ((B.drop (27 + (x - 100).toNat * 27)).take 27) = G at *
    split
    · exact List.length_set
    · split
      · split
        · rw [ih, hj]
        · exact hj
      · rfl
section
variable {B F : List Bool} {R : List Int} {j : Nat}
theorem ofB_end (h : ¬ j < R.length) : ofB B F (R.drop j) = (F, true) := by rw [List.drop_eq_nil_of_le (by omega), ofB]
theorem ofB_letter (h : j < R.length) (g : inB R[j] 0 25 = true) : ofB B F (R.drop j) = (F.set R[j].toNat true, false) := by rw [List.drop_eq_getElem_cons h, ofB, if_pos g]
theorem ofB_none (h : j < R.length) (g : inB R[j] 0 25 = false) (g2 : ¬ (100 ≤ R[j] ∧ R[j] - 100 < 20)) : ofB B F (R.drop j) = (F, false) := by rw [List.drop_eq_getElem_cons h, ofB, if_neg (by simp [g]), if_neg (by simpa using g2)]
theorem ofB_go {n : Nat} (h : j < R.length) (g : inB R[j] 0 25 = false) (e : R[j] = 100 + (n : Int)) (hn : n < 20) (g3 : B.getD n false = true) : ofB B F (R.drop j) = ofB B (joinB F 0 ((B.drop (27 + n * 27)).take 27)) (R.drop (j + 1)) := by
  have e2 : (R[j] - 100).toNat = n := by omega
  rw [List.drop_eq_getElem_cons h, ofB, if_neg (by simp [g]), if_pos (by simp; omega), e2, if_pos g3]
theorem ofB_stop {n : Nat} (h : j < R.length) (g : inB R[j] 0 25 = false) (e : R[j] = 100 + (n : Int)) (hn : n < 20) (g3 : B.getD n false = false) : ofB B F (R.drop j) = (joinB F 0 ((B.drop (27 + n * 27)).take 27), false) := by
  have e2 : (R[j] - 100).toNat = n := by omega
  rw [List.drop_eq_getElem_cons h, ofB, if_neg (by simp [g]), if_pos (by simp; omega), e2, if_neg (by rw [g3]; simp)]
end
theorem ret_pair {fn : Func} {p q : Tmp} {tmps : Array Value} {w : World} {g : Nat} {t : TypeId} {bs : List Bool} {v : Bool} (ty : TypeId) (h : fn.results = #[.cell p ty, .tmp q]) (hp : tmps.getD p undef = .pointer (some ⟨g, 0, none⟩)) (hq : tmps.getD q undef = .bool v) (hB : Bits w g t bs) (hT : BitT Try.prog ty bs.length) : (results fn tmps).run Try.prog w = .ok (.tuple #[aggB bs, .bool v]) w := by
  obtain ⟨d, hu, hd⟩ := hT.desc
  have hl := run_loadVar_row (P := Try.prog) w g t ty (cellsB bs) (0, 0) d hB hu (by cases d <;> first | rfl | cases hd) (by rw [cellsB_size]; exact hT.size)
  have hp' : tmps[p]?.getD undef = .pointer (some ⟨g, 0, none⟩) := by simpa using hp
  have hq' : tmps[q]?.getD undef = .bool v := by simpa using hq
  simp [results, h, hp', hq', asAddr, hl, aggB]

set_option maxHeartbeats 4000000 in
set_option maxRecDepth 100000 in
theorem ofRow_any (B : List Bool) (R : List Int) (a : Option Addr) (c : Nat) (w : World) (hBl : B.length = 567) (hR : Reads w a R) (hz : ∀ z ∈ R, -9223372036854775808 ≤ z ∧ z ≤ 9223372036854775807) (hrl : R.length ≤ 1048576) :
    Calls Try.prog 34 #[aggB B, .slice a R.length c] w fun e w' => e = .returned (.tuple #[aggB (ofB B (List.replicate 27 false) R).1, .bool (ofB B (List.replicate 27 false) R).2]) ∧ Below w.heap.size w w' := by
  have HZ : Hid (∀ z ∈ R, -9223372036854775808 ≤ z ∧ z ≤ 9223372036854775807) := hz
  have HBl : Hid (B.length = 567) := hBl
  have HR : Hid (∀ W : World, Below w.heap.size w W → Reads W a R) := fun W hW => hR.below hW
  clear hz hBl hR
  go_enter Try.func34, Try.ntmps34
  go_wp2_with (first | (refine wpList_boxB (w := w) rfl 52 _ rfl B rfl ?_; intro w1 hB1 hb1 hs1; have HS1 : Hid (w1.heap.size = w.heap.size + 1) := hs1; clear hs1) | (refine wpList_allocB (w := w1) rfl 47 rfl 27 bt_flags ?_; intro w2 hB2 hb2 hs2))
  have hs1 := HS1.out
  clear HS1
  have HBB : Hid (∀ W : World, Below w1.heap.size w2 W → Bits W w.heap.size 52 B ∧ Below w.heap.size w W) := fun W hW => ⟨(hB1.below hb2 (by omega)).below hW (by omega), hb1.trans ((hb2.mono (by omega)).trans (hW.mono (by omega)))⟩
  have hnn : w.heap.size < w1.heap.size := by omega
  clear hB1 hb1 hb2 hs1 hs2
  generalize w1.heap.size = n1 at *
  go_loopw [10] (fun s wr => ∃ (j : Nat) (F : List Bool), j ≤ R.length ∧ s = .int .i64 j ∧ Hid (ofB B F (R.drop j) = ofB B (List.replicate 27 false) R) ∧ Bits wr n1 47 F ∧ Hid (F.length = 27) ∧ Below n1 w2 wr) (fun s _ => R.length - (intOf s).toNat)
  case atStart => exact ⟨0, List.replicate 27 false, Nat.zero_le _, rfl, by show _ = _; rw [List.drop_zero], hB2, List.length_replicate, Below.refl _ _⟩
  case round =>
    obtain ⟨j, F, hj, rfl, HJ, hBj, HFl, hbj⟩ := hrel
    clear hB2
    have hFl := HFl.out
    have hbw := (HBB.out wr hbj).2
    have hBB := (HBB.out wr hbj).1
    have hn1r := hBj.lt
    by_cases hlt : j < R.length
    · obtain ⟨g, off, rfl, hgl, hc⟩ := (HR.out wr hbw).at hlt
      have q1 := hc j hlt
      rw [List.getD_eq_getElem?_getD, List.getElem?_eq_getElem hlt, Option.getD_some] at q1
      have hzr := HZ.out _ (List.getElem_mem hlt)
      have HLt : Hid (inB R[j] 0 25 = true → ofB B F (R.drop j) = (F.set R[j].toNat true, false)) := fun h => ofB_letter hlt h
      have HNo : Hid (inB R[j] 0 25 = false → ¬ (100 ≤ R[j] ∧ R[j] - 100 < 20) → ofB B F (R.drop j) = (F, false)) := fun h h2 => ofB_none hlt h h2
      have HGo : Hid (∀ n : Nat, inB R[j] 0 25 = false → R[j] = 100 + (n : Int) → n < 20 → B.getD n false = true → ofB B F (R.drop j) = ofB B (joinB F 0 ((B.drop (27 + n * 27)).take 27)) (R.drop (j + 1))) := fun n h1 h2 h3 h4 => ofB_go hlt h1 h2 h3 h4
      have HSt : Hid (∀ n : Nat, inB R[j] 0 25 = false → R[j] = 100 + (n : Int) → n < 20 → B.getD n false = false → ofB B F (R.drop j) = (joinB F 0 ((B.drop (27 + n * 27)).take 27), false)) := fun n h1 h2 h3 h4 => ofB_stop hlt h1 h2 h3 h4
      clear hc
      generalize R[j] = z at *
      by_cases hin : inB z 0 25 = true
      · have hz2 := inB_true.1 hin
        obtain ⟨n, rfl⟩ := Int.eq_ofNat_of_zero_le hz2.1
        have X : Hid (∀ W : World, Calls Try.prog 58 #[.int .i64 (n : Int)] W fun e w' => e = .returned (.bool true) ∧ w' = W) := fun W => by have := isLetter_any (n : Int) W; rwa [hin] at this
        have HF : Hid (ofB B (List.replicate 27 false) R = (F.set n true, false)) := by show _ = _; rw [← HJ.out]; exact HLt.out hin
        have hn27 : (n : Int) < 27 := by omega
        have q2 := hBj.cell (n := n) (by omega)
        have f2 := hBj.frozen n
        have hBs := hBj.set n true
        have hbs : Below n1 w2 (wr.setCell ⟨n1, n, none⟩ (.bool true)) := hbj.setCell (Nat.le_refl _) _
        have hFs : (F.set n true).length = 27 := by rw [List.length_set]; exact hFl
        generalize F.getD n false = y at *
        generalize F.set n true = F2 at *
        have HBS : Hid (Bits (wr.setCell ⟨n1, n, none⟩ (.bool true)) n1 47 F2) := hBs
        clear HLt HNo HGo HSt hin hBs
        go_wp2_with (first | (go_at_call 58; refine (X.out _).mono ?_; rintro e w' ⟨rfl, hw'⟩; have hw2 := hw'.symm; clear hw'; subst hw2) | (refine wpList_loadW rfl 47 _ rfl n1 47 F2 rfl (at27 hFs) HBS.out ?_) | (refine wpList_storeB rfl 47 _ _ rfl n1 0 47 F2 F2 rfl rfl (at27 hFs) HBS.out (by omega) ?_; intro w4 hB4 hg4))
        rw [putB_whole rfl] at hB4
        have b4 : Below w.heap.size w w4 := (HBB.out _ hbs).2.grown hg4 ((HBB.out _ hbs).2.size) (fun i hi => by cases hi; omega)
        refine bodyPost_ret (v := .tuple #[aggB F2, .bool false]) (ret_pair 47 rfl rfl rfl hB4 (at27 hFs)) rfl ⟨by rw [HF.out], b4⟩
      · have hin2 : inB z 0 25 = false := by simpa using hin
        have X : Hid (∀ W : World, Calls Try.prog 58 #[.int .i64 z] W fun e w' => e = .returned (.bool false) ∧ w' = W) := fun W => by have := isLetter_any z W; rwa [hin2] at this
        clear HLt hin
        by_cases hpart : 100 ≤ z ∧ z - 100 < 20
        · obtain ⟨n, hn⟩ : ∃ n : Nat, z = 100 + (n : Int) := ⟨(z - 100).toNat, by omega⟩
          subst hn
          have hn20 : n < 20 := by omega
          have hp1 : (100 : Int) ≤ 100 + (n : Int) := hpart.1
          have hp2 : 100 + (n : Int) - 100 < 20 := hpart.2
          have hn0 : (0 : Int) ≤ (n : Int) := by omega
          have hn1 : (n : Int) < 20 := by omega
          have hn2 : (n : Int) < 27 := by omega
          have hBl := HBl.out
          have hch : ((B.drop (27 + n * 27)).take 27).length = 27 := by rw [List.length_take, List.length_drop]; omega
          have XJ : Hid (∀ W : World, Bits W n1 47 F → Calls Try.prog 57 #[.pointer (some ⟨n1, 0, none⟩), aggB ((B.drop (27 + n * 27)).take 27)] W fun e w' => e = .returned (.tuple #[]) ∧ Bits w' n1 47 (joinB F 0 ((B.drop (27 + n * 27)).take 27)) ∧ W.grownBy w' (some n1)) := fun W hW => join_any n1 0 47 F _ W hW (by omega) hch
          have HJl : Hid ((joinB F 0 ((B.drop (27 + n * 27)).take 27)).length = 27) := by show _ = _; rw [joinB_length]; exact hFl
          have HGo2 : Hid (B.getD n false = true → ofB B F (R.drop j) = ofB B (joinB F 0 ((B.drop (27 + n * 27)).take 27)) (R.drop (j + 1))) := HGo.out n hin2 rfl hn20
          have HSt2 : Hid (B.getD n false = false → ofB B F (R.drop j) = (joinB F 0 ((B.drop (27 + n * 27)).take 27), false)) := HSt.out n hin2 rfl hn20
          have hb27 : 27 + n * 27 + 27 ≤ B.length := by omega
          clear HNo HGo HSt hpart hin2 hzr hBl
          generalize hGe : joinB F 0 ((B.drop (27 + n * 27)).take 27) = G at *
          clear hGe
          have facts : ∀ w5 : World, wr.grownBy w5 (some n1) → Below n1 w2 w5 ∧ w5.cell? ⟨w.heap.size, n, none⟩ = some (.bool (B.getD n false)) := fun w5 hg => by
            have b5 : Below n1 w2 w5 := hbj.grown hg (by omega) (fun i hi => by cases hi; omega)
            exact ⟨b5, (HBB.out w5 b5).1.cell (by omega)⟩
          have HFA : Hid (∀ w5 : World, wr.grownBy w5 (some n1) → Below n1 w2 w5 ∧ w5.cell? ⟨w.heap.size, n, none⟩ = some (.bool (B.getD n false))) := facts
          clear facts
          by_cases hup : B.getD n false = true
          · rw [hup] at HFA
            have HF : Hid (ofB B G (R.drop (j + 1)) = ofB B (List.replicate 27 false) R) := by show _ = _; rw [← HGo2.out hup]; exact HJ.out
            clear HGo2 HSt2 hup HJ
            go_wp2_with (first | (go_at_call 58; refine (X.out _).mono ?_; rintro e w' ⟨rfl, hw'⟩; have hw2 := hw'.symm; clear hw'; subst hw2) | (refine wpList_loadB rfl 47 _ rfl w.heap.size _ 27 52 B rfl bt_flags hBB (by first | exact hb27 | (simp; omega) | omega) ?_; (try simp only [Int.add_sub_cancel_left, Int.toNat_natCast])) | (go_at_call 57; refine (XJ.out _ hBj).mono ?_; rintro e w5 ⟨rfl, hB5, hg5⟩; have q5 := (HFA.out w5 hg5).2))
            go_roundw
            case rel => exact ⟨j + 1, G, by omega, by go_num, HF, hB5, HJl, (HFA.out _ hg5).1⟩
            case measure => simp [intOf]; omega
          · have hdn : B.getD n false = false := by simpa using hup
            rw [hdn] at HFA
            have HF : Hid (ofB B (List.replicate 27 false) R = (G, false)) := by show _ = _; rw [← HJ.out]; exact HSt2.out hdn
            have hGl := HJl.out
            clear HGo2 HSt2 hup hdn HJ
            go_wp2_with (first | (go_at_call 58; refine (X.out _).mono ?_; rintro e w' ⟨rfl, hw'⟩; have hw2 := hw'.symm; clear hw'; subst hw2) | (refine wpList_loadB rfl 47 _ rfl w.heap.size _ 27 52 B rfl bt_flags hBB (by first | exact hb27 | (simp; omega) | omega) ?_; (try simp only [Int.add_sub_cancel_left, Int.toNat_natCast])) | (go_at_call 57; refine (XJ.out _ hBj).mono ?_; rintro e w5 ⟨rfl, hB5, hg5⟩; have q5 := (HFA.out w5 hg5).2) | (refine wpList_loadW (w := w5) rfl 47 _ rfl n1 47 G rfl (at27 hGl) hB5 ?_) | (refine wpList_storeB (w := w5) rfl 47 _ _ rfl n1 0 47 G G rfl rfl (at27 hGl) hB5 (by omega) ?_; intro w6 hB6 hg6))
            rw [putB_whole rfl] at hB6
            have b5 := (HBB.out _ (HFA.out _ hg5).1).2
            have b6 : Below w.heap.size w w6 := b5.grown hg6 b5.size (fun i hi => by cases hi; omega)
            refine bodyPost_ret (v := .tuple #[aggB G, .bool false]) (ret_pair 47 rfl rfl rfl hB6 (at27 hGl)) rfl ⟨by rw [HF.out], b6⟩
        · have HF : Hid (ofB B (List.replicate 27 false) R = (F, false)) := by show _ = _; rw [← HJ.out]; exact HNo.out hin2 hpart
          clear HNo HGo HSt hin2
          by_cases h100 : 100 ≤ z
          · have h20 : ¬ z - 100 < 20 := fun h => hpart ⟨h100, h⟩
            clear hpart
            go_wp2_with (first | (go_at_call 58; refine (X.out _).mono ?_; rintro e w' ⟨rfl, hw'⟩; have hw2 := hw'.symm; clear hw'; subst hw2) | (refine wpList_loadW rfl 47 _ rfl n1 47 F rfl (at27 hFl) hBj ?_) | (refine wpList_storeB rfl 47 _ _ rfl n1 0 47 F F rfl rfl (at27 hFl) hBj (by omega) ?_; intro w4 hB4 hg4))
            rw [putB_whole rfl] at hB4
            have b4 : Below w.heap.size w w4 := hbw.grown hg4 hbw.size (fun i hi => by cases hi; omega)
            refine bodyPost_ret (v := .tuple #[aggB F, .bool false]) (ret_pair 47 rfl rfl rfl hB4 (at27 hFl)) rfl ⟨by rw [HF.out], b4⟩
          · clear hpart
            go_wp2_with (first | (go_at_call 58; refine (X.out _).mono ?_; rintro e w' ⟨rfl, hw'⟩; have hw2 := hw'.symm; clear hw'; subst hw2) | (refine wpList_loadW rfl 47 _ rfl n1 47 F rfl (at27 hFl) hBj ?_) | (refine wpList_storeB rfl 47 _ _ rfl n1 0 47 F F rfl rfl (at27 hFl) hBj (by omega) ?_; intro w4 hB4 hg4))
            rw [putB_whole rfl] at hB4
            have b4 : Below w.heap.size w w4 := hbw.grown hg4 hbw.size (fun i hi => by cases hi; omega)
            refine bodyPost_ret (v := .tuple #[aggB F, .bool false]) (ret_pair 47 rfl rfl rfl hB4 (at27 hFl)) rfl ⟨by rw [HF.out], b4⟩
    · have HF : Hid (ofB B (List.replicate 27 false) R = (F, true)) := by show _ = _; rw [← HJ.out]; exact ofB_end hlt
      go_wp2_with (first | (refine wpList_loadW rfl 47 _ rfl n1 47 F rfl (at27 hFl) hBj ?_) | (refine wpList_storeB rfl 47 _ _ rfl n1 0 47 F F rfl rfl (at27 hFl) hBj (by omega) ?_; intro w4 hB4 hg4))
      rw [putB_whole rfl] at hB4
      have b4 : Below w.heap.size w w4 := hbw.grown hg4 hbw.size (fun i hi => by cases hi; omega)
      refine bodyPost_ret (v := .tuple #[aggB F, .bool true]) (ret_pair 47 rfl rfl rfl hB4 (at27 hFl)) rfl ⟨by rw [HF.out], b4⟩
end Go.Proofs.Ytdniejpblhbjkab
namespace Go.Proofs.Ytdniejpblhbjkab
open Go.RowKit

/-- One symbol's step; one row's. -/
def stX (k n : Nat) (T : List Bool) : List Bool := joinB (T.set (k * 27 + n) true) (k * 27) (((T.set (k * 27 + n) true).drop (n * 27)).take 27)
def stB (E : List Bool) (k : Nat) : List Bool → List Int → List Bool
  | T, [] => T
  | T, x :: xs => if 100 ≤ x then (if E.getD (x - 100).toNat false then stB E k (stX k (x - 100).toNat T) xs else stX k (x - 100).toNat T) else T
theorem stX_length (k n : Nat) (T : List Bool) : (stX k n T).length = T.length := by rw [stX, joinB_length, List.length_set]
theorem stB_end {E T : List Bool} {k j : Nat} {R : List Int} (h : ¬ j < R.length) : stB E k T (R.drop j) = T := by rw [List.drop_eq_nil_of_le (by omega), stB]
theorem stB_letter {E T : List Bool} {k j : Nat} {R : List Int} (h : j < R.length) (g : R[j] ≤ 25) : stB E k T (R.drop j) = T := by rw [List.drop_eq_getElem_cons h, stB, if_neg (by omega)]
theorem stB_go {E T : List Bool} {k j n : Nat} {R : List Int} (h : j < R.length) (e : R[j] = 100 + (n : Int)) (g : E.getD n false = true) : stB E k T (R.drop j) = stB E k (stX k n T) (R.drop (j + 1)) := by
  have e2 : (R[j] - 100).toNat = n := by omega
  rw [List.drop_eq_getElem_cons h, stB, if_pos (by omega), e2, if_pos g]
theorem stB_stop {E T : List Bool} {k j n : Nat} {R : List Int} (h : j < R.length) (e : R[j] = 100 + (n : Int)) (g : E.getD n false = false) : stB E k T (R.drop j) = stX k n T := by
  have e2 : (R[j] - 100).toNat = n := by omega
  rw [List.drop_eq_getElem_cons h, stB, if_pos (by omega), e2, if_neg (by rw [g]; simp)]
theorem chunk_length {T : List Bool} {n : Nat} (h : T.length = 540) (hn : n < 20) : ((T.drop (n * 27)).take 27).length = 27 := by rw [List.length_take, List.length_drop]; omega

set_option maxHeartbeats 4000000 in
set_option maxRecDepth 100000 in
theorem startsStep_any (b bE : Nat) (tE : TypeId) (T E : List Bool) (k : Nat) (R : List Int) (a : Option Addr) (c : Nat) (w : World) (hB : Bits w b 50 T) (hT : T.length = 540) (hE : Bits w bE tE E) (hEl : 20 ≤ E.length) (hne : bE ≠ b) (hk : k < 20) (w0 : World) (hR : Reads w0 a R) (hw0 : Below w0.heap.size w0 w) (hb0 : w0.heap.size ≤ b) (hz : ∀ z ∈ R, (0 ≤ z ∧ z ≤ 25) ∨ (100 ≤ z ∧ z < 120)) (hrl : R.length ≤ 1048576) :
    Calls Try.prog 62 #[.pointer (some ⟨b, 0, none⟩), .int .i64 (k : Int), .slice a R.length c, .pointer (some ⟨bE, 0, none⟩)] w fun e w' => e = .returned (.tuple #[]) ∧ Bits w' b 50 (stB E k T R) ∧ w.grownBy w' (some b) := by
  have HZ : Hid (∀ z ∈ R, (0 ≤ z ∧ z ≤ 25) ∨ (100 ≤ z ∧ z < 120)) := hz
  have HR : Hid (∀ W : World, w.grownBy W (some b) → Reads W a R) := by
    intro W hW
    rcases hR with rfl | ⟨g, off, rfl, hlt, hc⟩
    · exact .inl rfl
    · have hgw := Nat.lt_of_lt_of_le hlt hw0.size
      refine .inr ⟨g, off, rfl, Nat.lt_of_lt_of_le hgw hW.size, fun i hi => ?_⟩
      have hgb : g ≠ b := by omega
      have := World.cell?_of_block (w := w) (w' := W) (a := ⟨g, off + i, none⟩) (hW.block g hgw (by intro h; cases h; exact hgb rfl))
      rw [this]; exact (hw0.cell (p := ⟨g, off + i, none⟩) hlt).trans (hc i hi)
  have HEE : Hid (∀ W : World, w.grownBy W (some b) → Bits W bE tE E) := fun W hW => hE.grown hW (by intro h; cases h; exact hne rfl)
  have hk0 : (0 : Int) ≤ (k : Int) := by omega
  have hk1 : (k : Int) < 20 := by omega
  clear hz hR hw0 hE
  go_enter Try.func62, Try.ntmps62
  go_wp2
  go_loopw [11] (fun s wr => ∃ (j : Nat) (Tj : List Bool), j ≤ R.length ∧ s = .int .i64 j ∧ Hid (stB E k Tj (R.drop j) = stB E k T R) ∧ Bits wr b 50 Tj ∧ Hid (Tj.length = 540) ∧ w.grownBy wr (some b)) (fun s _ => R.length - (intOf s).toNat)
  case atStart => exact ⟨0, T, Nat.zero_le _, rfl, by show _ = _; rw [List.drop_zero], hB, hT, World.grownBy.refl _ _⟩
  case round =>
    obtain ⟨j, Tj, hj, rfl, HJ0, hBj, HTl, hgj⟩ := hrel
    clear hB hT
    by_cases hlt : j < R.length
    · obtain ⟨g, off, rfl, hgl, hc⟩ := (HR.out wr hgj).at hlt
      have q1 := hc j hlt
      rw [List.getD_eq_getElem?_getD, List.getElem?_eq_getElem hlt, Option.getD_some] at q1
      have hzr := HZ.out _ (List.getElem_mem hlt)
      have HLt : Hid (R[j] ≤ 25 → stB E k Tj (R.drop j) = Tj) := fun h => stB_letter hlt h
      have HGo : Hid (∀ n : Nat, R[j] = 100 + (n : Int) → E.getD n false = true → stB E k Tj (R.drop j) = stB E k (stX k n Tj) (R.drop (j + 1))) := fun n h1 h2 => stB_go hlt h1 h2
      have HSt : Hid (∀ n : Nat, R[j] = 100 + (n : Int) → E.getD n false = false → stB E k Tj (R.drop j) = stX k n Tj) := fun n h1 h2 => stB_stop hlt h1 h2
      clear hc
      generalize R[j] = z at *
      by_cases hlet : z ≤ 25
      · have hin : inB z 0 25 = true := inB_true.2 (by omega)
        have HF : Hid (stB E k T R = Tj) := by show _ = _; rw [← HJ0.out]; exact HLt.out hlet
        have X : Hid (∀ W : World, Calls Try.prog 58 #[.int .i64 z] W fun e w' => e = .returned (.bool true) ∧ w' = W) := fun W => by have := isLetter_any z W; rwa [hin] at this
        clear hin HGo HSt HLt
        go_wp2_with (go_at_call 58; refine (X.out _).mono ?_; rintro e w' ⟨rfl, hw'⟩; have hw2 := hw'.symm; clear hw'; subst hw2)
        exact bodyPost_ret (results_none rfl _ _ _) rfl ⟨rfl, by rw [HF.out]; exact hBj, hgj⟩
      · have hin : inB z 0 25 = false := inB_false.2 (by omega)
        have X : Hid (∀ W : World, Calls Try.prog 58 #[.int .i64 z] W fun e w' => e = .returned (.bool false) ∧ w' = W) := fun W => by have := isLetter_any z W; rwa [hin] at this
        obtain ⟨n, hn⟩ : ∃ n : Nat, z = 100 + (n : Int) := ⟨(z - 100).toNat, by omega⟩
        subst hn
        have hn0 : (0 : Int) ≤ (n : Int) := by omega
        have hn1 : (n : Int) < 20 := by omega
        have hn2 : (n : Int) < 27 := by omega
        have q2 := hBj.cell (n := k * 27 + n) (by rw [HTl.out]; omega)
        have f2 := hBj.frozen (k * 27 + n)
        have hBs := hBj.set (k * 27 + n) true
        have hgs : w.grownBy (wr.setCell ⟨b, k * 27 + n, none⟩ (.bool true)) (some b) := grownBy_trans hgj (setCell_grown wr b _ _)
        have HT1 : Hid ((Tj.set (k * 27 + n) true).length = 540) := by show _ = _; rw [List.length_set]; exact HTl.out
        have HX2 : Hid (joinB (Tj.set (k * 27 + n) true) (k * 27) (((Tj.set (k * 27 + n) true).drop (n * 27)).take 27) = stX k n Tj) := rfl
        have HXl : Hid ((stX k n Tj).length = 540) := by show _ = _; rw [stX_length]; exact HTl.out
        generalize Tj.getD (k * 27 + n) false = y at *
        clear hin HLt hlet hzr
        generalize hT1e : Tj.set (k * 27 + n) true = T1 at *
        clear hT1e
        have HD : Hid (∀ W : World, Bits W b 50 T1 → Calls Try.prog 57 #[.pointer (some ⟨b, k * 27, none⟩), aggB ((T1.drop (n * 27)).take 27)] W fun e w' => e = .returned (.tuple #[]) ∧ Bits w' b 50 (stX k n Tj) ∧ W.grownBy w' (some b)) := fun W hW => by
          have := join_any b (k * 27) 50 T1 ((T1.drop (n * 27)).take 27) W hW (by rw [HT1.out]; omega) (chunk_length HT1.out (by omega))
          rwa [HX2.out] at this
        have HBS : Hid (Bits (wr.setCell ⟨b, k * 27 + n, none⟩ (.bool true)) b 50 T1) := hBs
        have HGS : Hid (w.grownBy (wr.setCell ⟨b, k * 27 + n, none⟩ (.bool true)) (some b)) := hgs
        clear hBs hgs hBj hgj HX2
        go_wp2_with (go_at_call 58; refine (X.out _).mono ?_; rintro e w' ⟨rfl, hw'⟩; have hw2 := hw'.symm; clear hw'; subst hw2)
        clear q2 f2 q1
        generalize wr.setCell ⟨b, k * 27 + n, none⟩ (.bool true) = ws at *
        have HBd : Hid (Bits ws.drew b 50 T1) := HBS.out.later (Below.drew (Below.refl _ _))
        have HJ : Hid (Calls Try.prog 57 #[.pointer (some ⟨b, k * 27, none⟩), aggB ((T1.drop (n * 27)).take 27)] ws.drew fun e w' => e = .returned (.tuple #[]) ∧ Bits w' b 50 (stX k n Tj) ∧ ws.drew.grownBy w' (some b)) := HD.out ws.drew HBd.out
        have HW : Hid (IntKind.i64.wrap (100 + (n : Int) - 100) = n) := by
          show _ = _
          rw [show (100 + (n : Int) - 100) = n by omega]
          first | exact IntKind.wrap_of_wf (by simp [Lit.wf]; omega) | (unfold IntKind.wrap; simp; omega) | (simp [IntKind.wrap, IntKind.bits]; omega) | (go_num)
        have hT1b : n * 27 + 27 ≤ T1.length := by rw [HT1.out]; omega
        refine wp_region_held_drew (S := fun _ => True) (by kernel_rfl) trivial (fun hHeld => ?_)
        refine take_atL (i := 0) (d := some 24) (v := .pointer (some ⟨b, 0, none⟩)) rfl rfl (by kernel_rfl) (by kernel_rfl) (by kernel_rfl) (fun _ _ _ h => h) (by rfl) ?_ hHeld ?_
        · intro w' _; go_simp; first | done | rfl | exact HW.out
        try simp only [Act.put, List.setIfInBounds_toArray, List.set_cons_zero, List.set_cons_succ]
        refine take_atL (i := 1) (d := some 25) (v := .int .i64 (k : Int)) rfl rfl (by kernel_rfl) (by kernel_rfl) (by kernel_rfl) (fun _ _ _ h => h) (by rfl) ?_ hHeld ?_
        · intro w' _; go_simp; first | done | rfl | exact HW.out
        try simp only [Act.put, List.setIfInBounds_toArray, List.set_cons_zero, List.set_cons_succ]
        refine take_atL (i := 2) (d := some 26) (v := .pointer (some ⟨b, 0, none⟩)) rfl rfl (by kernel_rfl) (by kernel_rfl) (by kernel_rfl) (fun _ _ _ h => h) (by rfl) ?_ hHeld ?_
        · intro w' _; go_simp; first | done | rfl | exact HW.out
        try simp only [Act.put, List.setIfInBounds_toArray, List.set_cons_zero, List.set_cons_succ]
        refine take_atL (i := 3) (d := some 27) (v := .pointer (some ⟨b, k * 27, none⟩)) rfl rfl (by kernel_rfl) (by kernel_rfl) (by kernel_rfl) (fun _ _ _ h => h) (by rfl) ?_ hHeld ?_
        · intro w' _; go_simp; first | done | rfl | exact HW.out
        try simp only [Act.put, List.setIfInBounds_toArray, List.set_cons_zero, List.set_cons_succ]
        refine take_atL (i := 4) (d := some 28) (v := .pointer (some ⟨b, 0, none⟩)) rfl rfl (by kernel_rfl) (by kernel_rfl) (by kernel_rfl) (fun _ _ _ h => h) (by rfl) ?_ hHeld ?_
        · intro w' _; go_simp; first | done | rfl | exact HW.out
        try simp only [Act.put, List.setIfInBounds_toArray, List.set_cons_zero, List.set_cons_succ]
        refine take_atL (i := 5) (d := some 29) (v := .int .i64 (100 + (n : Int))) rfl rfl (by kernel_rfl) (by kernel_rfl) (by kernel_rfl) (fun _ _ _ h => h) (by rfl) ?_ hHeld ?_
        · intro w' _; go_simp; first | done | rfl | exact HW.out
        try simp only [Act.put, List.setIfInBounds_toArray, List.set_cons_zero, List.set_cons_succ]
        refine take_atL (i := 6) (d := some 30) (v := .int .i64 (n : Int)) rfl rfl (by kernel_rfl) (by kernel_rfl) (by kernel_rfl) (fun _ _ _ h => h) (by rfl) ?_ hHeld ?_
        · intro w' _; go_simp; first | done | rfl | exact HW.out
        try simp only [Act.put, List.setIfInBounds_toArray, List.set_cons_zero, List.set_cons_succ]
        refine take_atL (i := 7) (d := some 31) (v := .pointer (some ⟨b, 0, none⟩)) rfl rfl (by kernel_rfl) (by kernel_rfl) (by kernel_rfl) (fun _ _ _ h => h) (by rfl) ?_ hHeld ?_
        · intro w' _; go_simp; first | done | rfl | exact HW.out
        try simp only [Act.put, List.setIfInBounds_toArray, List.set_cons_zero, List.set_cons_succ]
        refine take_atL (i := 8) (d := some 32) (v := .pointer (some ⟨b, n * 27, none⟩)) rfl rfl (by kernel_rfl) (by kernel_rfl) (by kernel_rfl) (fun _ _ _ h => h) (by rfl) ?_ hHeld ?_
        · intro w' _; go_simp; first | done | rfl | exact HW.out
        try simp only [Act.put, List.setIfInBounds_toArray, List.set_cons_zero, List.set_cons_succ]
        refine wpAnyH_ready (rs := [9]) (by kernel_rfl) (by simp) ?_
        refine AllReadyH.cons (o := _) rfl (fun K hK => ?_) AllReadyH.nil
        rw [if_pos (by rfl)]
        unfold Oper.wp
        rw [exec_loadB (t := 50) (b := b) (off := n * 27) (n := 27) (bs := T1) rfl rfl bt_flags HBd.out (by omega), Oper.upon_value]
        refine hK.out _ _ trivial (fun hHeld => ?_)
        clear hK K
        simp only [Act.put, List.setIfInBounds_toArray]
        refine wpAnyH_ready (rs := [10]) (by kernel_rfl) (by simp) ?_
        refine AllReadyH.cons (o := _) rfl (fun K hK => ?_) AllReadyH.nil
        rw [if_pos (by rfl)]
        go_simp
        refine (HJ.out).mono ?_
        rintro e w5 ⟨rfl, hB5, hg5⟩
        go_wp2_with fail
        refine hK.out _ _ trivial (fun hHeld => ?_)
        clear hK K
        try simp only [Act.put, List.setIfInBounds_toArray, List.set_cons_zero, List.set_cons_succ]
        refine wpAnyH_done (by kernel_rfl) ?_ _
        clear hHeld
        have hg6 : w.grownBy w5 (some b) := grownBy_trans HGS.out (grownBy_trans (grownBy_of_below (Below.drew (Below.refl _ _)) _) hg5)
        have q6 := (HEE.out w5 hg6).cell (n := n) (by omega)
        clear HBS HGS HBd HJ hg5 HD HT1 hT1b
        by_cases hup : E.getD n false = true
        · rw [hup] at q6
          have HF : Hid (stB E k (stX k n Tj) (R.drop (j + 1)) = stB E k T R) := by show _ = _; rw [← HGo.out n rfl hup]; exact HJ0.out
          clear HGo HSt hup HJ0
          go_wp2
          go_roundw
          case rel => exact ⟨j + 1, stX k n Tj, by omega, by go_num, HF, hB5, HXl, hg6⟩
          case measure => simp [intOf]; omega
        · have hdn : E.getD n false = false := by simpa using hup
          rw [hdn] at q6
          have HF : Hid (stX k n Tj = stB E k T R) := by show _ = _; rw [← HSt.out n rfl hdn]; exact HJ0.out
          clear HGo HSt hup hdn HJ0
          go_wp2
          exact bodyPost_ret (results_none rfl _ _ _) rfl ⟨rfl, by rw [← HF.out]; exact hB5, hg6⟩
    · have HF : Hid (stB E k T R = Tj) := by show _ = _; rw [← HJ0.out]; exact stB_end hlt
      go_wp2
      go_end0
      exact ⟨rfl, by rw [HF.out]; exact hBj, hgj⟩
end Go.Proofs.Ytdniejpblhbjkab
namespace Go.Proofs.Ytdniejpblhbjkab
open Go.RowKit

theorem emptiesL_mem {P : List (List (List Int))} (F : Fits P) {x : Int} (h : x ∈ emptiesL P) : 0 ≤ x ∧ x < 20 := by
  have := (growT_setB (p := allE) P (P.length + 1)).lt x h
  have := F.parts
  omega
theorem rep_getD (m n : Nat) : (List.replicate m false).getD n false = false := by
  rw [List.getD_eq_getElem?_getD, List.getElem?_replicate]
  split <;> rfl
theorem getD_setB (T : List Bool) (k n : Nat) (v : Bool) : (T.set k v).getD n false = if n = k ∧ k < T.length then v else T.getD n false := by
  by_cases e : n = k
  · subst e
    by_cases h : n < T.length
    · simp [List.getD, h]
    · simp [List.getD, h]
  · simp [List.getD, e, Ne.symm e]
theorem allB_of {T : List Bool} {E row : List Int} (hz : ∀ z ∈ row, 0 ≤ z ∧ z < 120) (h : ∀ n : Nat, (n : Int) ∈ E → T.getD n false = true) (g : allE row E = true) : allB T row = true := by
  unfold allE at g
  unfold allB
  rw [List.all_eq_true] at g ⊢
  intro x hx
  have h1 := g x hx
  have h2 := hz x hx
  simp only [Bool.and_eq_true, decide_eq_true_eq] at h1 ⊢
  refine ⟨⟨h1.1, by omega⟩, h _ ?_⟩
  have h3 : x - 100 ∈ E := by simpa [hasL] using h1.2
  rwa [show (((x - 100).toNat : Nat) : Int) = x - 100 by omega]
theorem allE_of {T : List Bool} {E row : List Int} (h : ∀ n : Nat, T.getD n false = true → (n : Int) ∈ E) (g : allB T row = true) : allE row E = true := by
  unfold allB at g
  unfold allE
  rw [List.all_eq_true] at g ⊢
  intro x hx
  have h1 := g x hx
  simp only [Bool.and_eq_true, decide_eq_true_eq] at h1 ⊢
  refine ⟨h1.1.1, ?_⟩
  have h3 := h _ h1.2
  rw [show (((x - 100).toNat : Nat) : Int) = x - 100 by omega] at h3
  exact hasL_yes h3
theorem emptiesOf_is {P : List (List (List Int))} (F : Fits P) {T : List Bool} (hl : T.length = 27) (hG : Grows eS P (List.replicate 27 false) T) (hx : leK eS P T P.length = T) : T = flagsOf (emptiesL P) := by
  have sound : ∀ n : Nat, T.getD n false = true → (n : Int) ∈ emptiesL P := by
    refine hG (fun T => ∀ n : Nat, T.getD n false = true → (n : Int) ∈ emptiesL P) (fun n hn => ?_) (fun k hk i hi T hT n hn => ?_)
    · rw [rep_getD] at hn; cases hn
    · simp only [eS, bstep] at hn
      rw [getD_setB] at hn
      split at hn
      · rename_i e
        rw [Bool.or_eq_true] at hn
        rcases hn with hn | hn
        · rw [e.1]; exact hT k hn
        · rw [e.1]; exact growT_closed hk hi (allE_of hT hn)
      · exact hT n hn
  have fix : ∀ k (hk : k < P.length) i (hi : i < P[k].length), allB T P[k][i] = true → T.getD k false = true := by
    intro k hk i hi ha
    have e := (eS_raises P).fix hl hx hk hi
    have h20 := F.parts
    have := bstep_fix (s := (k, fun b => allB b P[k][i])) e (by show k < T.length; omega) ha
    simp only [List.getD, List.getElem?_eq_getElem (show k < T.length by omega), Option.getD_some]
    exact this
  have compl : ∀ x ∈ emptiesL P, ∃ n : Nat, x = n ∧ T.getD n false = true := by
    refine growT_sound (p := allE) (S := fun x => ∃ n : Nat, x = n ∧ T.getD n false = true) (fun k hk i hi E hE ha => ⟨k, rfl, fix k hk i hi ?_⟩) _
    refine allB_of (E := E) (F.syms _ (List.getElem_mem hk) _ (List.getElem_mem hi)) (fun n hn => ?_) ha
    obtain ⟨m, hm, h⟩ := hE _ hn
    rwa [show n = m by omega]
  apply list_ext_getD (by rw [hl, flagsOf_length])
  intro n hn
  rw [flagsOf_get _ (by omega), Bool.eq_iff_iff]
  constructor
  · intro h; exact hasL_yes (sound n h)
  · intro h
    obtain ⟨m, hm, h2⟩ := compl n (by simpa [hasL] using h)
    rwa [show n = m by omega]
theorem nums_flags {E : List Int} (hs : E.Pairwise (· < ·)) (hb : ∀ x ∈ E, 0 ≤ x ∧ x < 27) {f : Nat → Bool} (hf : ∀ n, n < 27 → f n = hasL E (n : Int)) : numsB f 27 = E := by
  refine eq_of_pair (numsB_sorted _ _) hs fun z => ?_
  rw [mem_numsB]
  constructor
  · rintro ⟨n, h1, rfl, h2⟩
    rw [hf n h1] at h2
    simpa [hasL] using h2
  · intro h
    have hz := hb z h
    refine ⟨z.toNat, by omega, by omega, ?_⟩
    rw [hf _ (by omega), show ((z.toNat : Nat) : Int) = z by omega]
    exact hasL_yes h
theorem allB_flags {E : List Int} (hb : ∀ x ∈ E, 0 ≤ x ∧ x < 20) (row : List Int) : allB (flagsOf E) row = allE row E := by
  unfold allB allE
  congr 1
  funext x
  by_cases h1 : 100 ≤ x
  · by_cases h2 : x - 100 < 20
    · rw [flagsOf_get _ (by omega), show (((x - 100).toNat : Nat) : Int) = x - 100 by omega]
      simp [h1, h2]
    · have : hasL E (x - 100) = false := hasL_no (fun h => by have := hb _ h; omega)
      simp [h2, this]
  · simp [h1]

set_option maxRecDepth 100000 in
theorem emptiesOf_any (P : List (List (List Int))) (a0 : Option Addr) (c0 : Nat) (w : World) (h0 : RD w (.slice a0 P.length c0) (slD (Lay.list (Lay.list Lay.int)) P)) (hok : gramOkB P = true) :
    Calls Try.prog 54 #[.agg #[.slice a0 P.length c0]] w fun e w' => e = .returned (aggB (flagsOf (emptiesL P))) ∧ Below w.heap.size w w' := by
  refine (emptiesOf_grow P a0 c0 w h0 hok).mono ?_
  rintro e w' ⟨T, rfl, h1, h2, h3, h4⟩
  exact ⟨by rw [emptiesOf_is (Fits.of hok) h1 h2 h3], h4⟩
end Go.Proofs.Ytdniejpblhbjkab
namespace Go.Proofs.Ytdniejpblhbjkab
open Go.RowKit

/-- One symbol's part of a turn. -/
def stS (k : Nat) (x : Int) (M : List (List Int)) : List (List Int) := M.set k (joinL (addL (M.getD k []) (x - 100)) (M.getD (x - 100).toNat []))
def stRow (E : List Int) (k : Nat) : List (List Int) → List Int → List (List Int)
  | M, [] => M
  | M, x :: xs => if 100 ≤ x then (if hasL E (x - 100) then stRow E k (stS k x M) xs else stS k x M) else M
def stI (E : List Int) (k : Nat) (Q : List (List Int)) (M : List (List Int)) : Nat → List (List Int)
  | 0 => M
  | i + 1 => stRow E k (stI E k Q M i) (Q.getD i [])
def stK (E : List Int) (P : List (List (List Int))) (M : List (List Int)) : Nat → List (List Int)
  | 0 => M
  | k + 1 => stI E k (P.getD k []) (stK E P M k) (P.getD k []).length
def stT (E : List Int) (P : List (List (List Int))) : Nat → List (List Int)
  | 0 => List.replicate P.length []
  | t + 1 => stK E P (stT E P t) P.length
theorem stRow_end {E : List Int} {k j : Nat} {M : List (List Int)} {R : List Int} (h : ¬ j < R.length) : stRow E k M (R.drop j) = M := by rw [List.drop_eq_nil_of_le (by omega), stRow]
theorem stRow_letter {E : List Int} {k j : Nat} {M : List (List Int)} {R : List Int} (h : j < R.length) (g : ¬ 100 ≤ R[j]) : stRow E k M (R.drop j) = M := by rw [List.drop_eq_getElem_cons h, stRow, if_neg g]
theorem stRow_go {E : List Int} {k j : Nat} {M : List (List Int)} {R : List Int} (h : j < R.length) (g : 100 ≤ R[j]) (g2 : hasL E (R[j] - 100) = true) : stRow E k M (R.drop j) = stRow E k (stS k R[j] M) (R.drop (j + 1)) := by rw [List.drop_eq_getElem_cons h, stRow, if_pos g, if_pos g2]
theorem stRow_stop {E : List Int} {k j : Nat} {M : List (List Int)} {R : List Int} (h : j < R.length) (g : 100 ≤ R[j]) (g2 : hasL E (R[j] - 100) = false) : stRow E k M (R.drop j) = stS k R[j] M := by rw [List.drop_eq_getElem_cons h, stRow, if_pos g, if_neg (by simp [g2])]
theorem stS_sets {k n : Nat} {x : Int} {M : List (List Int)} (h : Sets n M) (h0 : 100 ≤ x) (h1 : x < 120) : Sets n (stS k x M) := h.set ((h.get.add (by omega) (by omega)).join h.get)
theorem stRow_sets {E : List Int} {k n : Nat} : ∀ {R : List Int} {M : List (List Int)}, Sets n M → (∀ z ∈ R, 0 ≤ z ∧ z < 120) → Sets n (stRow E k M R)
  | [], M, h, _ => by rw [stRow]; exact h
  | x :: xs, M, h, hz => by
    rw [stRow]
    split
    · have hx := hz x List.mem_cons_self
      have hs := stS_sets (k := k) h ‹_› hx.2
      split
      · exact stRow_sets hs (fun z hz2 => hz z (List.mem_cons_of_mem _ hz2))
      · exact hs
    · exact h
theorem stI_next {E : List Int} {k i : Nat} {Q M : List (List Int)} (h : i < Q.length) : stI E k Q M (i + 1) = stRow E k (stI E k Q M i) Q[i] := by
  have e : Q.getD i [] = Q[i] := by simp [List.getD, h]
  rw [stI, e]
theorem stK_next {E : List Int} {k : Nat} {P : List (List (List Int))} {M : List (List Int)} (h : k < P.length) : stK E P M (k + 1) = stI E k P[k] (stK E P M k) P[k].length := by
  have e : P.getD k [] = P[k] := by simp [List.getD, h]
  rw [stK, e]
theorem stI_sets {E : List Int} {k n : Nat} {Q : List (List Int)} {M : List (List Int)} (h : Sets n M) (hq : ∀ row ∈ Q, ∀ z ∈ row, 0 ≤ z ∧ z < 120) (i : Nat) (hi : i ≤ Q.length) : Sets n (stI E k Q M i) := by
  induction i with
  | zero => exact h
  | succ i ih => rw [stI_next (by omega)]; exact stRow_sets (ih (by omega)) (hq _ (List.getElem_mem _))
theorem stK_sets {E : List Int} {n : Nat} {P : List (List (List Int))} {M : List (List Int)} (h : Sets n M) (F : Fits P) (k : Nat) (hk : k ≤ P.length) : Sets n (stK E P M k) := by
  induction k with
  | zero => exact h
  | succ k ih => rw [stK_next (by omega)]; exact stI_sets (ih (by omega)) (F.syms _ (List.getElem_mem _)) _ (Nat.le_refl _)
theorem stT_sets (E : List Int) {P : List (List (List Int))} (F : Fits P) : ∀ t, Sets P.length (stT E P t)
  | 0 => ⟨by simp [stT], fun m hm => by rw [(List.mem_replicate.1 hm).2]; exact SetB.nil _⟩
  | t + 1 => stK_sets (stT_sets E F t) F _ (Nat.le_refl _)
theorem stS_at {k n : Nat} {x : Int} {M : List (List Int)} (hk : k < M.length) (hx : x - 100 = (n : Int)) (hn : n < M.length) : stS k x M = M.set k (joinL (addL M[k] (n : Int)) M[n]) := by
  have e1 : M.getD k [] = M[k] := by simp [List.getD, hk]
  have e2 : M.getD (x - 100).toNat [] = M[n] := by rw [hx]; simp [List.getD, hn]
  rw [stS, e1, e2, hx]
def startsL (P : List (List (List Int))) : List (List Int) := stT (emptiesL P) P (P.length + 1)
end Go.Proofs.Ytdniejpblhbjkab
namespace Go.Proofs.Ytdniejpblhbjkab
open Go.RowKit

/-- The parts at the front of a row: all ahead of which only what can be nothing stands. -/
def lead (E : List Int) : List Int → List Int
  | [] => []
  | x :: xs => if 100 ≤ x then x :: (if hasL E (x - 100) then lead E xs else []) else []
theorem stRow_fold (E : List Int) (k : Nat) : ∀ (row : List Int) (M : List (List Int)), stRow E k M row = (lead E row).foldl (fun M x => stS k x M) M
  | [], M => by simp [stRow, lead]
  | x :: xs, M => by
    rw [stRow, lead]
    split
    · rw [List.foldl_cons]
      split
      · exact stRow_fold E k xs _
      · rfl
    · rfl
def leads (E : List Int) (L : List (Nat × List Int)) : List (Nat × Int) := L.flatMap fun s => (lead E s.2).map fun x => (s.1, x)
theorem stI_fold (E : List Int) (k : Nat) (Q M : List (List Int)) (i : Nat) (hi : i ≤ Q.length) : stI E k Q M i = (leads E ((Q.take i).map fun row => (k, row))).foldl (fun M s => stS s.1 s.2 M) M := by
  induction i with
  | zero => simp [stI, leads]
  | succ i ih =>
    have e : leads E (((Q.take i).map fun row => (k, row)) ++ [(k, Q[i])]) = leads E ((Q.take i).map fun row => (k, row)) ++ (lead E Q[i]).map (fun x => (k, x)) := by simp [leads]
    rw [stI_next (by omega), ih (by omega), List.take_succ_eq_append_getElem (by omega), List.map_append, List.map_singleton, e, List.foldl_append, stRow_fold, List.foldl_map]
theorem stK_fold (E : List Int) (P : List (List (List Int))) (M : List (List Int)) (k : Nat) : stK E P M k = (leads E (flatP P k)).foldl (fun M s => stS s.1 s.2 M) M := by
  induction k with
  | zero => rfl
  | succ k ih =>
    rw [stK, flatP, leads, List.flatMap_append, List.foldl_append]
    have e := stI_fold E k (P.getD k []) (stK E P M k) (P.getD k []).length (Nat.le_refl _)
    rw [List.take_length] at e
    rw [e, ih]; rfl
theorem proj_stS (c : Int) (k : Nat) (x : Int) (M : List (List Int)) : proj c (stS k x M) = bstep (proj c M) (k, fun b => decide (c = x - 100) || b.getD (x - 100).toNat false) := by
  rw [stS, proj_set, hasL_joinL, hasL_addL, bstep, proj_getD]
  simp only [proj_getD]
  congr 1
  cases hasL (M.getD k []) c <;> cases decide (c = x - 100) <;> simp
theorem proj_foldS (c : Int) (L : List (Nat × Int)) (M : List (List Int)) : proj c (L.foldl (fun M s => stS s.1 s.2 M) M) = bturn (L.map fun s => (s.1, fun b => decide (c = s.2 - 100) || b.getD (s.2 - 100).toNat false)) (proj c M) := by
  unfold bturn
  induction L generalizing M with
  | nil => rfl
  | cons s L ih => rw [List.foldl_cons, ih, List.map_cons, List.foldl_cons, proj_stS]
theorem stT_length (E : List Int) (P : List (List (List Int))) (t : Nat) : (stT E P t).length = P.length := by
  have len : ∀ (L : List (Nat × Int)) (M : List (List Int)), (L.foldl (fun M s => stS s.1 s.2 M) M).length = M.length := by
    intro L
    induction L with
    | nil => intro M; rfl
    | cons s L ih => intro M; rw [List.foldl_cons, ih, stS, List.length_set]
  induction t with
  | zero => simp [stT]
  | succ t ih => rw [stT, stK_fold, len, ih]
/-- A part at the front of a row of part k, and what that begins with, k begins with. -/
theorem stT_closed {E : List Int} {P : List (List (List Int))} {k i : Nat} (hk : k < P.length) (hi : i < P[k].length) {x : Int} (hx : x ∈ lead E P[k][i]) {c : Int} (hc : c = x - 100 ∨ c ∈ (stT E P (P.length + 1)).getD (x - 100).toNat []) : c ∈ (stT E P (P.length + 1)).getD k [] := by
  have hl := stT_length E P (P.length + 1)
  have h := bturns_closed (L := (leads E (flatP P P.length)).map fun s => (s.1, fun b => decide (c = s.2 - 100) || b.getD (s.2 - 100).toNat false)) (f := fun t => proj c (stT E P t)) (fun t => by show proj c (stT E P (t + 1)) = _; rw [stT, stK_fold, proj_foldS]) (N := P.length) (T := P.length + 1)
    (by show (proj c (stT E P 0)).length ≤ _; rw [proj_length, stT_length]; exact Nat.le_refl _) (Nat.le_refl _) (s := (k, fun b => decide (c = x - 100) || b.getD (x - 100).toNat false))
    (List.mem_map.2 ⟨(k, x), List.mem_flatMap.2 ⟨_, mem_flatP hk hi hk, List.mem_map.2 ⟨x, hx, rfl⟩⟩, rfl⟩)
    (by show k < (proj c _).length; rw [proj_length, hl]; exact hk)
    (by
      show (decide (c = x - 100) || (proj c (stT E P (P.length + 1))).getD (x - 100).toNat false) = true
      rw [proj_getD, Bool.or_eq_true]
      exact hc.imp (fun h => by simpa using h) (fun h => hasL_yes h))
  have e := proj_getD c (stT E P (P.length + 1)) k
  rw [List.getD_eq_getElem?_getD, List.getElem?_eq_getElem (by rw [proj_length, hl]; exact hk), Option.getD_some] at e
  rw [h] at e
  simpa [hasL] using e.symm
theorem stT_keeps {E : List Int} {P : List (List (List Int))} {S : List (List Int) → Prop} (h0 : S (List.replicate P.length [])) (hS : ∀ k (hk : k < P.length) i (hi : i < P[k].length) x, x ∈ lead E P[k][i] → ∀ M, S M → S (stS k x M)) (t : Nat) : S (stT E P t) := by
  have sF : ∀ k (hk : k < P.length) i (hi : i < P[k].length) (L : List Int), (∀ x ∈ L, x ∈ lead E P[k][i]) → ∀ M, S M → S (L.foldl (fun M x => stS k x M) M) := by
    intro k hk i hi L
    induction L with
    | nil => exact fun _ M hM => hM
    | cons x L ih => intro hL M hM; rw [List.foldl_cons]; exact ih (fun y hy => hL y (List.mem_cons_of_mem _ hy)) _ (hS k hk i hi x (hL x List.mem_cons_self) M hM)
  have sI : ∀ k (hk : k < P.length) M, S M → ∀ i, i ≤ P[k].length → S (stI E k P[k] M i) := by
    intro k hk M hM i
    induction i with
    | zero => exact fun _ => hM
    | succ i ih => intro hi; rw [stI_next (by omega), stRow_fold]; exact sF k hk i (by omega) _ (fun _ h => h) _ (ih (by omega))
  have sK : ∀ M, S M → ∀ k, k ≤ P.length → S (stK E P M k) := by
    intro M hM k
    induction k with
    | zero => exact fun _ => hM
    | succ k ih => intro hk; rw [stK_next (by omega)]; exact sI k (by omega) _ (ih (by omega)) _ (Nat.le_refl _)
  induction t with
  | zero => exact h0
  | succ t ih => rw [stT]; exact sK _ ih _ (Nat.le_refl _)
theorem stT_sound {E : List Int} {P : List (List (List Int))} {S : Nat → Int → Prop} (hS : ∀ k (hk : k < P.length) i (hi : i < P[k].length) x, x ∈ lead E P[k][i] → S k (x - 100) ∧ ∀ c, S (x - 100).toNat c → S k c) (t j : Nat) : ∀ c ∈ (stT E P t).getD j [], S j c := by
  have := stT_keeps (E := E) (P := P) (S := fun M => ∀ j, ∀ c ∈ M.getD j [], S j c) (fun j c hc => by
      by_cases hj : j < P.length
      · simp [List.getD, hj] at hc
      · simp [List.getD, hj] at hc) (fun k hk i hi x hx M hM j c hc => by
      rw [stS, getD_set] at hc
      split at hc
      · rename_i hj
        rw [hj.1]
        rcases mem_joinL.1 hc with hc | hc
        · rcases mem_addL.1 hc with rfl | hc
          · exact (hS k hk i hi x hx).1
          · exact hM k c hc
        · exact (hS k hk i hi x hx).2 c (hM _ c hc)
      · exact hM j c hc) t
  exact this j
theorem stT_sorted (E : List Int) (P : List (List (List Int))) (t j : Nat) : ((stT E P t).getD j []).Pairwise (· < ·) := by
  have := stT_keeps (E := E) (P := P) (S := fun M => ∀ j, (M.getD j []).Pairwise (· < ·)) (fun j => by
      by_cases hj : j < P.length
      · simp [List.getD, hj]
      · simp [List.getD, hj]) (fun k hk i hi x hx M hM j => by
      rw [stS, getD_set]
      split
      · exact pair_joinL (pair_addL (hM k))
      · exact hM j) t
  exact this j
end Go.Proofs.Ytdniejpblhbjkab
namespace Go.Proofs.Ytdniejpblhbjkab
open Go.RowKit

/-- As it was, or with more flags. -/
def Up (A B : List Bool) : Prop := B.length = A.length ∧ (B = A ∨ cntB A < cntB B)
theorem Up.refl (A : List Bool) : Up A A := ⟨rfl, .inl rfl⟩
theorem Up.trans {A B C : List Bool} (h : Up A B) (g : Up B C) : Up A C := by
  refine ⟨by rw [g.1, h.1], ?_⟩
  rcases h.2 with rfl | h2
  · exact g.2
  · rcases g.2 with rfl | g2
    · exact .inr h2
    · exact .inr (by omega)
theorem Up.fix {A B C : List Bool} (h : Up A B) (g : Up B C) (e : C = A) : B = A := by
  rcases h.2 with h2 | h2
  · exact h2
  · rcases g.2 with g2 | g2
    · rw [← g2]; exact e
    · subst e; omega
theorem Up.bstep (A : List Bool) (s : Nat × (List Bool → Bool)) : Up A (bstep A s) := ⟨bstep_length _ _, bstep_or _ _⟩
theorem Up.set (A : List Bool) (i : Nat) : Up A (A.set i true) := by
  have := Up.bstep A (i, fun _ => true)
  simpa only [Go.Proofs.Ytdniejpblhbjkab.bstep, Bool.or_true] using this
theorem Up.joinTo (A : List Bool) (off : Nat) (cs : List Bool) (k : Nat) : Up A (joinTo A off cs k) := by
  induction k with
  | zero => exact Up.refl _
  | succ k ih => exact ih.trans (Up.bstep _ (off + k, fun _ => cs.getD k false))
theorem Up.joinB (A : List Bool) (off : Nat) (cs : List Bool) : Up A (joinB A off cs) := Up.joinTo _ _ _ _
theorem Up.stX (k n : Nat) (T : List Bool) : Up T (stX k n T) := (Up.set T _).trans (Up.joinB _ _ _)
theorem Up.stB (E : List Bool) (k : Nat) : ∀ (row : List Int) (T : List Bool), Up T (stB E k T row)
  | [], T => by rw [Go.Proofs.Ytdniejpblhbjkab.stB]; exact Up.refl _
  | x :: xs, T => by
    rw [Go.Proofs.Ytdniejpblhbjkab.stB]
    split
    · split
      · exact (Up.stX _ _ _).trans (Up.stB E k xs _)
      · exact Up.stX _ _ _
    · exact Up.refl _
theorem chunk_get (T : List Bool) (n c : Nat) (hc : c < 27) : ((T.drop (n * 27)).take 27).getD c false = T.getD (n * 27 + c) false := by
  simp [List.getD, hc]
theorem stX_get {k n : Nat} {T : List Bool} (hT : T.length = 540) (hk : k < 20) (hn : n < 20) {j c : Nat} (hj : j < 20) (hc : c < 27) :
    (stX k n T).getD (j * 27 + c) false = true ↔ (T.getD (j * 27 + c) false = true ∨ (j = k ∧ (c = n ∨ T.getD (n * 27 + c) false = true))) := by
  have hl : (T.set (k * 27 + n) true).length = 540 := by rw [List.length_set]; exact hT
  have g : ∀ i d, i < 20 → d < 27 → (T.set (k * 27 + n) true).getD (i * 27 + d) false = (T.getD (i * 27 + d) false || decide (i = k ∧ d = n)) := by
    intro i d hi hd
    rw [getD_setB]
    by_cases e : i = k ∧ d = n
    · rw [if_pos ⟨by rw [e.1, e.2], by omega⟩, decide_eq_true e, Bool.or_true]
    · rw [if_neg (by intro h; omega), decide_eq_false e, Bool.or_false]
  rw [stX, joinB_get (by rw [hl]; omega), g j c hj hc]
  by_cases e : j = k
  · subst e
    rw [decide_eq_true (show j * 27 ≤ j * 27 + c ∧ j * 27 + c < j * 27 + 27 by omega), Bool.true_and, show j * 27 + c - j * 27 = c by omega, chunk_get _ _ _ hc, g n c hn hc]
    simp only [Bool.or_eq_true, decide_eq_true_eq, true_and]
    constructor
    · rintro ((h | h) | (h | ⟨_, h⟩))
      · exact .inl h
      · exact .inr (.inl h)
      · exact .inr (.inr h)
      · exact .inr (.inl h)
    · rintro (h | h | h)
      · exact .inl (.inl h)
      · exact .inl (.inr h)
      · exact .inr (.inl h)
  · rw [decide_eq_false (show ¬ (k * 27 ≤ j * 27 + c ∧ j * 27 + c < k * 27 + 27) by omega), Bool.false_and, Bool.or_false, decide_eq_false (by intro h; exact e h.1), Bool.or_false]
    constructor
    · exact .inl
    · rintro (h | ⟨h, _⟩)
      · exact h
      · exact absurd h e
theorem symsOk {P : List (List (List Int))} (h : gramOkB P = true) {k i : Nat} (hk : k < P.length) (hi : i < P[k].length) : ∀ z ∈ P[k][i], (0 ≤ z ∧ z ≤ 25) ∨ (100 ≤ z ∧ z < 100 + P.length) := by
  simp only [gramOkB, Bool.and_eq_true, inB_true, List.all_eq_true, partOk, rowOk, decide_eq_true_eq] at h
  intro z hz
  have := symOk_true.1 (((h.2 _ (List.getElem_mem hk)).2 _ (List.getElem_mem hi)).2 z hz)
  omega
def stR (E : List Bool) (k : Nat) (row : List Int) (T : List Bool) : List Bool := stB E k T row
theorem stR_raises (E : List Bool) (P : List (List (List Int))) : Raises (stR E) P 540 := fun k _ i _ T hT => by
  have := Up.stB E k P[k][i] T
  exact ⟨by rw [stR, this.1]; exact hT, this.2⟩
theorem stB_fix {E : List Int} {k : Nat} (hk : k < 20) : ∀ (row : List Int) (T : List Bool), (∀ z ∈ row, (0 ≤ z ∧ z ≤ 25) ∨ (100 ≤ z ∧ z < 120)) → T.length = 540 → stB (flagsOf E) k T row = T → ∀ x ∈ lead E row, T.getD (k * 27 + (x - 100).toNat) false = true ∧ ∀ c, c < 27 → T.getD ((x - 100).toNat * 27 + c) false = true → T.getD (k * 27 + c) false = true
  | [], T, _, _, _, x, hx => by simp [lead] at hx
  | y :: ys, T, hz, hT, he, x, hx => by
    have hy := hz y List.mem_cons_self
    by_cases h100 : 100 ≤ y
    · have hn : (y - 100).toNat < 20 := by omega
      have hyn : (((y - 100).toNat : Nat) : Int) = y - 100 := by omega
      have hfl : (flagsOf E).getD (y - 100).toNat false = hasL E (y - 100) := by rw [flagsOf_get _ (by omega), hyn]
      rw [stB, if_pos h100, hfl] at he
      rw [lead, if_pos h100] at hx
      have e1 : stX k (y - 100).toNat T = T := by
        split at he
        · exact Up.fix (Up.stX _ _ _) (Up.stB _ _ _ _) he
        · exact he
      have here : T.getD (k * 27 + (y - 100).toNat) false = true ∧ ∀ c, c < 27 → T.getD ((y - 100).toNat * 27 + c) false = true → T.getD (k * 27 + c) false = true := by
        refine ⟨?_, fun c hc h => ?_⟩
        · have := (stX_get (T := T) hT hk hn hk (show (y - 100).toNat < 27 by omega)).2 (.inr ⟨rfl, .inl rfl⟩)
          rwa [e1] at this
        · have := (stX_get (T := T) hT hk hn hk hc).2 (.inr ⟨rfl, .inr h⟩)
          rwa [e1] at this
      rcases List.mem_cons.1 hx with rfl | hx
      · exact here
      · split at hx
        · rename_i hE
          rw [if_pos hE, e1] at he
          exact stB_fix hk ys T (fun z h => hz z (List.mem_cons_of_mem _ h)) hT he x hx
        · simp at hx
    · rw [lead, if_neg h100] at hx; simp at hx
theorem stB_keeps {E : List Int} {k : Nat} (hk : k < 20) {S : Nat → Int → Prop} : ∀ (row : List Int) (T : List Bool), (∀ z ∈ row, (0 ≤ z ∧ z ≤ 25) ∨ (100 ≤ z ∧ z < 120)) → T.length = 540 → (∀ x ∈ lead E row, S k (x - 100) ∧ ∀ c, S (x - 100).toNat c → S k c) → (∀ j c, j < 20 → c < 27 → T.getD (j * 27 + c) false = true → S j (c : Int)) → ∀ j c, j < 20 → c < 27 → (stB (flagsOf E) k T row).getD (j * 27 + c) false = true → S j (c : Int)
  | [], T, _, _, _, h, j, c, hj, hc, hg => by rw [stB] at hg; exact h j c hj hc hg
  | y :: ys, T, hz, hT, hS, h, j, c, hj, hc, hg => by
    have hy := hz y List.mem_cons_self
    by_cases h100 : 100 ≤ y
    · have hn : (y - 100).toNat < 20 := by omega
      have hyn : (((y - 100).toNat : Nat) : Int) = y - 100 := by omega
      have hfl : (flagsOf E).getD (y - 100).toNat false = hasL E (y - 100) := by rw [flagsOf_get _ (by omega), hyn]
      rw [stB, if_pos h100, hfl] at hg
      have hy2 := hS y (by rw [lead, if_pos h100]; exact List.mem_cons_self)
      have hX : ∀ j c, j < 20 → c < 27 → (stX k (y - 100).toNat T).getD (j * 27 + c) false = true → S j (c : Int) := by
        intro j c hj hc hg
        rcases (stX_get hT hk hn hj hc).1 hg with h1 | ⟨rfl, h1 | h1⟩
        · exact h j c hj hc h1
        · rw [h1, hyn]; exact hy2.1
        · exact hy2.2 _ (h _ c hn hc h1)
      split at hg
      · rename_i hE
        refine stB_keeps hk ys _ (fun z h => hz z (List.mem_cons_of_mem _ h)) (by rw [stX_length]; exact hT) (fun x hx => hS x ?_) hX j c hj hc hg
        rw [lead, if_pos h100, if_pos hE]; exact List.mem_cons_of_mem _ hx
      · exact hX j c hj hc hg
    · rw [stB, if_neg h100] at hg
      exact h j c hj hc hg
theorem lead_part {E : List Int} : ∀ {row : List Int}, (∀ z ∈ row, (0 ≤ z ∧ z ≤ 25) ∨ (100 ≤ z ∧ z < 120)) → ∀ {x : Int}, x ∈ lead E row → 100 ≤ x ∧ x < 120
  | [], _, x, h => by simp [lead] at h
  | y :: ys, hz, x, h => by
    rw [lead] at h
    split at h
    · rcases List.mem_cons.1 h with rfl | h
      · have := hz x List.mem_cons_self; omega
      · split at h
        · exact lead_part (fun z hz2 => hz z (List.mem_cons_of_mem _ hz2)) h
        · simp at h
    · simp at h
/-- The table that startsOf answers. -/
theorem startsOf_is {P : List (List (List Int))} (hok : gramOkB P = true) {T : List Bool} (hl : T.length = 540) (hG : Grows (stR (flagsOf (emptiesL P))) P (List.replicate 540 false) T) (hx : leK (stR (flagsOf (emptiesL P))) P T P.length = T) {k : Nat} (hk : k < P.length) :
    numsB (fun c => T.getD (k * 27 + c) false) 27 = (startsL P).getD k [] := by
  have F := Fits.of hok
  have hp := F.parts
  have sy : ∀ k (hk : k < P.length) i (hi : i < P[k].length), ∀ z ∈ P[k][i], (0 ≤ z ∧ z ≤ 25) ∨ (100 ≤ z ∧ z < 120) := fun k hk i hi z hz => by have := symsOk hok hk hi z hz; omega
  have sound := hG (fun T => T.length = 540 ∧ ∀ j c, j < 20 → c < 27 → T.getD (j * 27 + c) false = true → (c : Int) ∈ (startsL P).getD j []) ⟨List.length_replicate, fun j c _ _ h => by rw [rep_getD] at h; cases h⟩
    (fun k hk i hi T hT => ⟨by rw [stR, (Up.stB _ _ _ _).1]; exact hT.1, stB_keeps (S := fun j c => c ∈ (startsL P).getD j []) (by omega) P[k][i] T (sy k hk i hi) hT.1 (fun x hx => ⟨stT_closed hk hi hx (.inl rfl), fun c hc => stT_closed hk hi hx (.inr hc)⟩) hT.2⟩)
  have compl : ∀ c ∈ (startsL P).getD k [], T.getD (k * 27 + c.toNat) false = true := by
    have := stT_sound (E := emptiesL P) (P := P) (S := fun j c => 0 ≤ c ∧ c < 27 ∧ T.getD (j * 27 + c.toNat) false = true) (fun k hk i hi x hm => by
      have hfx := (stR_raises (flagsOf (emptiesL P)) P).fix hl hx hk hi
      have hb := stB_fix (E := emptiesL P) (k := k) (by omega) P[k][i] T (sy k hk i hi) hl hfx x hm
      have hxr : 100 ≤ x ∧ x < 120 := lead_part (sy k hk i hi) hm
      refine ⟨⟨by omega, by omega, hb.1⟩, fun c hc => ⟨hc.1, hc.2.1, hb.2 c.toNat (by omega) hc.2.2⟩⟩) (P.length + 1) k
    exact fun c hc => (this c hc).2.2
  have hset := (stT_sets (emptiesL P) F (P.length + 1)).get (k := k)
  refine nums_flags (stT_sorted _ _ _ _) (fun x h => by have := hset.lt x h; omega) (fun n hn => ?_)
  rw [Bool.eq_iff_iff]
  constructor
  · intro h; exact hasL_yes (sound.2 k n (by omega) hn h)
  · intro h
    have h2 := compl n (of_decide_eq_true h)
    simpa using h2
end Go.Proofs.Ytdniejpblhbjkab
namespace Go.Proofs.Ytdniejpblhbjkab
open Go.RowKit

/-- Whether a row can begin with c, by a table. -/
def bgT (E : List Int) (T : List Bool) (c : Nat) : List Int → Bool
  | [] => false
  | x :: xs => if inB x 0 25 then decide ((c : Int) = x) else if decide (100 ≤ x ∧ x - 100 < 20) then (T.getD ((x - 100).toNat * 27 + c) false || (hasL E (x - 100) && bgT E T c xs)) else false
theorem joinB0_get {F cs : List Bool} (hF : F.length = 27) {c : Nat} (hc : c < 27) : (joinB F 0 cs).getD c false = (F.getD c false || cs.getD c false) := by
  rw [joinB_get (by omega), decide_eq_true (show 0 ≤ c ∧ c < 0 + 27 by omega), Bool.true_and, Nat.sub_zero]
theorem ofB_get (E : List Int) (T : List Bool) (c : Nat) (hc : c < 27) (row : List Int) : ∀ F : List Bool, F.length = 27 → (ofB (flagsOf E ++ T) F row).1.getD c false = (F.getD c false || bgT E T c row) := by
  induction row with
  | nil => intro F _; rw [ofB, bgT, Bool.or_false]
  | cons x xs ih =>
    intro F hF
    rw [ofB, bgT]
    by_cases h1 : inB x 0 25 = true
    · have hx := inB_true.1 h1
      rw [if_pos h1, if_pos h1, getD_setB]
      by_cases e : c = x.toNat
      · rw [if_pos ⟨e, by omega⟩, decide_eq_true (by omega), Bool.or_true]
      · rw [if_neg (fun h => e h.1), decide_eq_false (by omega), Bool.or_false]
    · rw [if_neg h1, if_neg h1]
      by_cases h2 : 100 ≤ x ∧ x - 100 < 20
      · rw [if_pos (decide_eq_true h2), if_pos (decide_eq_true h2)]
        have hn : (x - 100).toNat < 27 := by omega
        have e1 : (flagsOf E ++ T).getD (x - 100).toNat false = hasL E (x - 100) := by
          have := flagsOf_get E hn
          rw [show (((x - 100).toNat : Nat) : Int) = x - 100 by omega] at this
          rw [← this, List.getD_eq_getElem?_getD, List.getD_eq_getElem?_getD, List.getElem?_append_left (by rw [flagsOf_length]; exact hn)]
        have e2 : (flagsOf E ++ T).drop (27 + (x - 100).toNat * 27) = T.drop ((x - 100).toNat * 27) := by
          rw [List.drop_append, flagsOf_length, List.drop_eq_nil_of_le (by rw [flagsOf_length]; omega), List.nil_append, show 27 + (x - 100).toNat * 27 - 27 = (x - 100).toNat * 27 by omega]
        rw [e1, e2]
        have hj := joinB0_get (F := F) (cs := (T.drop ((x - 100).toNat * 27)).take 27) hF hc
        rw [chunk_get _ _ _ hc] at hj
        have hl := joinB_length F 0 ((T.drop ((x - 100).toNat * 27)).take 27)
        generalize joinB F 0 ((T.drop ((x - 100).toNat * 27)).take 27) = G at *
        by_cases h3 : hasL E (x - 100) = true
        · rw [if_pos h3, ih G (by omega), hj, h3, Bool.true_and, Bool.or_assoc]
        · have h3' : hasL E (x - 100) = false := by simpa using h3
          rw [if_neg h3, hj, h3', Bool.false_and, Bool.or_false]
      · rw [if_neg (by simpa using h2), if_neg (by simpa using h2), Bool.or_false]
/-- One row's step. -/
def bgR (E : List Bool) (k : Nat) (row : List Int) (T : List Bool) : List Bool := joinB T (k * 27) (ofB (E ++ T) (List.replicate 27 false) row).1
theorem bgR_raises (E : List Bool) (P : List (List (List Int))) : Raises (bgR E) P 540 := fun k _ i _ T hT => by
  have := Up.joinB T (k * 27) (ofB (E ++ T) (List.replicate 27 false) P[k][i]).1
  exact ⟨by rw [bgR, this.1]; exact hT, this.2⟩
theorem bgR_get {E : List Int} {k : Nat} {row : List Int} {T : List Bool} (hT : T.length = 540) (hk : k < 20) {j c : Nat} (hc : c < 27) :
    (bgR (flagsOf E) k row T).getD (j * 27 + c) false = true ↔ (T.getD (j * 27 + c) false = true ∨ (j = k ∧ bgT E T c row = true)) := by
  rw [bgR, joinB_get (by omega)]
  by_cases e : j = k
  · subst e
    rw [decide_eq_true (show j * 27 ≤ j * 27 + c ∧ j * 27 + c < j * 27 + 27 by omega), Bool.true_and, show j * 27 + c - j * 27 = c by omega, ofB_get E T c hc row _ List.length_replicate, rep_getD, Bool.false_or]
    simp
  · rw [decide_eq_false (show ¬ (k * 27 ≤ j * 27 + c ∧ j * 27 + c < k * 27 + 27) by omega), Bool.false_and, Bool.or_false]
    simp [e]
theorem bgT_of {E : List Int} {T : List Bool} {c : Nat} {b : List Bool} (h : ∀ n, n < b.length → T.getD (n * 27 + c) false = true → b.getD n false = true) : ∀ row : List Int, (∀ z ∈ row, (0 ≤ z ∧ z ≤ 25) ∨ (100 ≤ z ∧ z < 100 + b.length)) → bgT E T c row = true → bgB E (c : Int) b row = true
  | [], _, g => by simp [bgT] at g
  | x :: xs, hz, g => by
    have hx := hz x List.mem_cons_self
    rw [bgT] at g
    rw [bgB]
    by_cases h1 : inB x 0 25 = true
    · rw [if_pos h1] at g ⊢; exact g
    · rw [if_neg h1] at g ⊢
      have h1' : ¬ (0 ≤ x ∧ x ≤ 25) := fun h => h1 (inB_true.2 h)
      rw [if_pos (inB_true.2 (by omega))]
      split at g
      · rw [Bool.or_eq_true] at g ⊢
        rcases g with g | g
        · exact .inl (h _ (by omega) g)
        · rw [Bool.and_eq_true] at g ⊢
          exact .inr ⟨g.1, bgT_of h xs (fun z hz2 => hz z (List.mem_cons_of_mem _ hz2)) g.2⟩
      · cases g
theorem bgB_of {E : List Int} {T : List Bool} {c : Nat} {b : List Bool} (hb : b.length ≤ 20) (h : ∀ n, n < b.length → b.getD n false = true → T.getD (n * 27 + c) false = true) : ∀ row : List Int, bgB E (c : Int) b row = true → bgT E T c row = true
  | [], g => by simp [bgB] at g
  | x :: xs, g => by
    rw [bgB] at g
    rw [bgT]
    by_cases h1 : inB x 0 25 = true
    · rw [if_pos h1] at g ⊢; exact g
    · rw [if_neg h1] at g ⊢
      split at g
      · rename_i h2
        have h2' := inB_true.1 h2
        rw [if_pos (decide_eq_true (by omega))]
        rw [Bool.or_eq_true] at g ⊢
        rcases g with g | g
        · exact .inl (h _ (by omega) g)
        · rw [Bool.and_eq_true] at g ⊢
          exact .inr ⟨g.1, bgB_of hb h xs g.2⟩
      · cases g
end Go.Proofs.Ytdniejpblhbjkab
namespace Go.Proofs.Ytdniejpblhbjkab
open Go.RowKit

theorem fill_two {place : Nat → Option (Nat × Nat)} {E T : List Bool} (h0 : place 0 = some (0, E.length)) (h1 : place 1 = some (E.length, T.length)) : Instr.fill place (cellsB (List.replicate (E.length + T.length) false)) [(0, aggB E), (1, aggB T)] = some (cellsB (E ++ T)) := by
  have e : List.replicate (E.length + T.length) false = List.replicate E.length false ++ List.replicate T.length false := by rw [List.replicate_append_replicate]
  have p1 : putB (List.replicate E.length false ++ List.replicate T.length false) 0 E = E ++ List.replicate T.length false := by
    apply list_ext_getD (by rw [putB_length]; simp)
    intro i hi
    rw [putB_length] at hi
    rw [putB_get _ _ _ _ (by simp)]
    by_cases g : i < E.length
    · rw [if_pos ⟨Nat.zero_le _, by omega⟩, Nat.sub_zero, List.getD_eq_getElem?_getD, List.getD_eq_getElem?_getD, List.getElem?_append_left g]
    · rw [if_neg (by omega), List.getD_eq_getElem?_getD, List.getD_eq_getElem?_getD, List.getElem?_append_right (by simp; omega), List.getElem?_append_right (by omega)]
      simp
  rw [e, fill_put h0 (by simp), p1, fill_put h1 (by simp), putB_tail (by simp), Instr.fill]
theorem fill_one {place : Nat → Option (Nat × Nat)} {E : List Bool} {m : Nat} (h0 : place 0 = some (0, E.length)) : Instr.fill place (cellsB (List.replicate (E.length + m) false)) [(0, aggB E)] = some (cellsB (E ++ List.replicate m false)) := by
  have e : List.replicate (E.length + m) false = List.replicate E.length false ++ List.replicate m false := by rw [List.replicate_append_replicate]
  have p1 : putB (List.replicate E.length false ++ List.replicate m false) 0 E = E ++ List.replicate m false := by
    apply list_ext_getD (by rw [putB_length]; simp)
    intro i hi
    rw [putB_length] at hi
    rw [putB_get _ _ _ _ (by simp)]
    by_cases g : i < E.length
    · rw [if_pos ⟨Nat.zero_le _, by omega⟩, Nat.sub_zero, List.getD_eq_getElem?_getD, List.getD_eq_getElem?_getD, List.getElem?_append_left g]
    · rw [if_neg (by omega), List.getD_eq_getElem?_getD, List.getD_eq_getElem?_getD, List.getElem?_append_right (by simp; omega), List.getElem?_append_right (by omega)]
      simp
  rw [e, fill_put h0 (by simp), p1, Instr.fill]
end Go.Proofs.Ytdniejpblhbjkab
namespace Go.Proofs.Ytdniejpblhbjkab
open Go.RowKit

set_option maxRecDepth 100000 in
theorem exec_begin2 {ρ : Operand → Value} {o : Oper} {x y : Operand} {E T : List Bool} (ho : o.op = .build 52 #[(0, x), (1, y)]) (hx : ρ x = aggB E) (hy : ρ y = aggB T) (hE : E.length = 27) (hT : T.length = 540) (w : World) :
    (execOp ρ o).run Try.prog w = .ok (.value (aggB (E ++ T))) w := by
  have hf := fill_two (place := fun x => ([((0 : Nat), (27 : Nat)), (27, 540)] : List (Nat × Nat))[x]?) (E := E) (T := T) (by rw [hE]; rfl) (by rw [hE, hT]; rfl)
  rw [hE, hT, cellsB_rep] at hf
  unfold execOp
  simp [ho, Instr.build, bt_begin.zero, run_underlying Try.underlying52, hx, hy, Value.cells]
  simp only [show (27 + 540 : Nat) = 567 from rfl] at hf
  rw [hf]
  rfl
set_option maxRecDepth 100000 in
theorem exec_begin1 {ρ : Operand → Value} {o : Oper} {x : Operand} {E : List Bool} (ho : o.op = .build 52 #[(0, x)]) (hx : ρ x = aggB E) (hE : E.length = 27) (w : World) :
    (execOp ρ o).run Try.prog w = .ok (.value (aggB (E ++ List.replicate 540 false))) w := by
  have hf := fill_one (place := fun x => ([((0 : Nat), (27 : Nat)), (27, 540)] : List (Nat × Nat))[x]?) (E := E) (m := 540) (by rw [hE]; rfl)
  rw [hE, cellsB_rep] at hf
  generalize List.replicate 540 false = Z at *
  unfold execOp
  simp [ho, Instr.build, bt_begin.zero, run_underlying Try.underlying52, hx, Value.cells]
  simp only [show (27 + 540 : Nat) = 567 from rfl] at hf
  rw [hf]
  rfl
theorem wpList_begin1 {ops : Array Oper} {rest : List Oper} {o : Oper} {a : Act} {w : World} {Q : Exit → Act → World → Prop} (hgd : Region.wanted o (yielded ops a.tmps) = true) (x : Operand) (ho : o.op = .build 52 #[(0, x)]) (E : List Bool) (hx : a.eval x = aggB E) (hE : E.length = 27)
    (h : wpList Try.prog ops Q rest (a.put o.dst (aggB (E ++ List.replicate 540 false))) w) : wpList Try.prog ops Q (o :: rest) a w :=
  wpList_val hgd (exec_begin1 ho hx hE w) h
end Go.Proofs.Ytdniejpblhbjkab
