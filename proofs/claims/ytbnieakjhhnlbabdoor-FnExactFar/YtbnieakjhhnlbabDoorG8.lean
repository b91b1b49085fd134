/-
  Contracts and plain mathematics, joined: L8Go, SpecFar, FlagsEq, FlagT, LeastMath, EmBase, LPartsP, LPartsE, EmptiesOf, EmptiesMath, ProductiveOf, ReachMath. No statement is proved here.
-/
import Derived.Test.YtbnieakjhhnlbabDoorG7
import Derived.Test.YtbnieakjhhnlbabDoorG2
import Derived.Test.YtbnieakjhhnlbabDoorG3
import Derived.Test.YtbnieakjhhnlbabDoorG1
import Derived.Test.YtbnieakjhhnlbabDoorG5
import Derived.Deep.LoopGhost
import Derived.Test.YtbnieakjhhnlbabDoorG6
namespace Go.Proofs.YtbnieakjhhnlbabDoor
open Go.RowKit

theorem New8In.two {P : List (List (List Int))} {ws : List Int} {w0 : World} {t : TP} {aP : Option Addr} {cP : Nat} {aw : Option Addr} {cw : Nat} {w2 wr : World} {vF vD : Value} {bF bD τ : Nat → Nat} (h : New8In (ws.length + 1) t.bT w2 vF vD bF bD τ P.length P.length wr)
    (hT : Tab P ws w0 t aP cP aw cw (fun _ => False) w2) (hp : 0 < P.length) : ∃ f : FP, f.bS = w2.heap.size ∧ Two P ws w0 t f aP cP aw cw wr := by
  obtain ⟨HF, HD, t1, hb, hl, c0, hf⟩ := h
  obtain ⟨oF, cF, rfl, lF1, lF2⟩ := HF.own.form hp
  obtain ⟨oD, cD, rfl, lD1, lD2⟩ := HD.own.form hp
  have tF := HF.tagV oF rfl
  have tD := HD.tagV oD rfl
  have fF := HF.tagF
  have fD := HD.tagF
  have lF : ∀ k, k < P.length → bF k < wr.heap.size := fun k hk => (HF.rows k hk).lt
  have lD : ∀ k, k < P.length → bD k < wr.heap.size := fun k hk => (HD.rows k hk).lt
  have hlow := hT.low.size
  obtain ⟨m1, m2, m3, m4⟩ := hT.lt
  have ge : ∀ b k, k < P.length → (b = bF k ∨ b = bD k) → w2.heap.size ≤ b := fun b k hk e => by
    rcases e with e | e
    · rw [e]; exact HF.low k hk
    · rw [e]; exact HD.low k hk
  refine ⟨⟨w2.heap.size, oF, oD, cF, cD, bF, bD⟩, rfl, ⟨(hT.turn (fun b ⟨k, hk, e⟩ => .inr (ge b k hk e))).later hb, ⟨⟨fun i j hi hj e => ?_, fun i j hi hj e => ?_, fun i j hi hj e => ?_, fun ⟨k, hk, e⟩ => ?_, fun ⟨k, hk, e⟩ => ?_, fun ⟨k, hk, e⟩ => ?_, fun b ⟨k, hk, e⟩ => ?_, fun b hb2 => ⟨fun ⟨k, hk, e⟩ => ?_, ?_, ?_, ?_⟩, fun b ⟨k, hk, e⟩ => ?_⟩, ⟨hl, lF2, lD2, fun b ⟨k, hk, e⟩ => ?_⟩, c0, HF.cell, HD.cell, fun k hk => ?_, fun k hk => ?_, fun b ⟨k, hk, e⟩ i => ?_, fun _ _ => false, fun _ _ => 0, fun k i hk hi => ⟨?_, ?_, fun e => by cases e⟩⟩⟩⟩
  · have h1 := fF i hi; have h2 := fF j hj; dsimp only at e; rw [e] at h1; omega
  · have h1 := fD i hi; have h2 := fD j hj; dsimp only at e; rw [e] at h1; omega
  · have h1 := fF i hi; have h2 := fD j hj; dsimp only at e; rw [e] at h1; omega
  · dsimp only at e
    rcases e with e | e
    · have h1 := fF k hk; rw [← e] at h1; omega
    · have h1 := fD k hk; rw [← e] at h1; omega
  · dsimp only at e
    rcases e with e | e
    · have h1 := fF k hk; rw [← e] at h1; omega
    · have h1 := fD k hk; rw [← e] at h1; omega
  · dsimp only at e
    rcases e with e | e
    · have h1 := fF k hk; rw [← e] at h1; omega
    · have h1 := fD k hk; rw [← e] at h1; omega
  · have := ge b k hk e; omega
  · have := ge b k hk e; have := m4 b hb2; omega
  · show b ≠ w2.heap.size; have := m4 b hb2; omega
  · show b ≠ oF; have := m4 b hb2; omega
  · show b ≠ oD; have := m4 b hb2; omega
  · have := ge b k hk e; exact ⟨by omega, by omega, by omega⟩
  · dsimp only at e
    rcases e with e | e
    · rw [e]; exact lF k hk
    · rw [e]; exact lD k hk
  · have := HF.own.cellAt k (by omega)
    rw [this, rowsAt_get _ _ hk]
  · have := HD.own.cellAt k (by omega)
    rw [this, rowsAt_get _ _ hk]
  · dsimp only at e
    rcases e with e | e
    · rw [e]; exact (HF.rows k hk).frozen i
    · rw [e]; exact (HD.rows k hk).frozen i
  · exact (HD.rows k hk).cell (by omega)
  · exact (HF.rows k hk).cell (by omega)

set_option maxHeartbeats 8000000 in
set_option maxRecDepth 100000 in
theorem l8Go_any (P : List (List (List Int))) (row ws : List Int) (aP : Option Addr) (cP : Nat) (ar : Option Addr) (cr : Nat) (aw : Option Addr) (cw : Nat) (i : Nat) (w : World) (h0 : RD w (.slice aP P.length cP) (slD (Lay.list (Lay.list Lay.int)) P)) (hr : Reads w ar row) (hws : Reads w aw ws)
    (hok : gramOkB P = true) (hL : NoLoop P) (hn : ws.length ≤ 10) (hi : i ≤ ws.length) (hrl : row.length ≤ 1048576) (hcr : row.length ≤ cr) (hrow : ∀ x ∈ row, symOk P.length x = true) :
    Calls Tryd.prog 14 #[.agg #[.slice aP P.length cP], .slice ar row.length cr, .slice aw ws.length cw, .int .i64 (i : Int)] w fun e w' => e = .returned (.int .i64 (farOf P row ws i : Int)) ∧ Below w.heap.size w w' := by
  have F := Fits.of hok
  have hp0 : 0 < P.length := by simp only [gramOkB, Bool.and_eq_true, inB_true] at hok; omega
  have hbG : Below w.heap.size w (w.alloc (.cells #[.slice aP P.length cP] 28)) := (Below.refl _ _).alloc (Nat.le_refl _) _
  have hb0 : Below w.heap.size w ((w.alloc (.cells #[.slice aP P.length cP] 28)).alloc (.cells #[.slice aP P.length cP] 28)) := hbG.alloc hbG.size _
  have X : Hid (Calls Tryd.prog 24 #[.agg #[.slice aP P.length cP], .slice aw ws.length cw] (w.alloc (.cells #[.slice aP P.length cP] 28)) fun e w' => ∃ (t : TP) (f : FP), e = .returned (.pointer (some ⟨f.bS, 0, none⟩)) ∧ Two P ws ((w.alloc (.cells #[.slice aP P.length cP] 28)).alloc (.cells #[.slice aP P.length cP] 28)) t f aP cP aw cw w') := by
    refine (l8New_any P ws aP cP aw cw _ hn F.parts hp0).mono ?_
    rintro e w' ⟨t, w2, fb, rfl, _, hT, hN⟩
    obtain ⟨vF, vD, bF, bD, τ, HI⟩ := hN.out
    obtain ⟨f, hf, hTwo⟩ := HI.two hT.out hp0
    exact ⟨t, f, by rw [hf], hTwo⟩
  have HB0 : Hid (Below w.heap.size w ((w.alloc (.cells #[.slice aP P.length cP] 28)).alloc (.cells #[.slice aP P.length cP] 28))) := hb0
  have Y : Hid (∀ (t : TP) (f : FP) (W : World), Two P ws ((w.alloc (.cells #[.slice aP P.length cP] 28)).alloc (.cells #[.slice aP P.length cP] 28)) t f aP cP aw cw W → Calls Tryd.prog 25 #[.pointer (some ⟨f.bS, 0, none⟩), .slice ar row.length cr, .int .i64 (i : Int)] W (FarPost P ws ((w.alloc (.cells #[.slice aP P.length cP] 28)).alloc (.cells #[.slice aP P.length cP] 28)) t f aP cP aw cw W (farRow ws (way P ws) (farP P ws) i row))) := fun t f W hT =>
    l8Row_any row ar cr i W hT (hws.below hb0) hn hi (hr.below hb0) hrl hcr hrow hok hL (h0.later hb0) F.parts (fun s hs hx j hj _ => by
      have := symOk_true.1 (hrow row[s] (List.getElem_mem hs))
      exact l8Part_ok hok hL (hws.below hb0) hn (h0.later hb0) F.parts _ _ j (by omega) hj (Nat.lt_succ_self _))
  have Z : Hid (∀ (t : TP) (f : FP) (W : World) (b0 : Nat), Two P ws ((w.alloc (.cells #[.slice aP P.length cP] 28)).alloc (.cells #[.slice aP P.length cP] 28)) t f aP cP aw cw W → Reads W (some ⟨b0, 0, none⟩) (vecL (deltaV i) ws.length) →
      Calls Tryd.prog 26 #[.pointer (some ⟨t.bT, 0, none⟩), .slice ar row.length cr, .slice (some ⟨b0, 0, none⟩) (ws.length + 1) (ws.length + 1)] W (GoPost P ws ((w.alloc (.cells #[.slice aP P.length cP] 28)).alloc (.cells #[.slice aP P.length cP] 28)) t aP cP aw cw (f.M P.length) W (rowNx ws (way P ws) (deltaV i) row))) := fun t f W b0 h1 h2 =>
    l7Go_ok hok hL (hws.below hb0) hn (h0.later hb0) row ar cr (deltaV i) b0 (ws.length + 1) _ W h1.far.lt.2.2.2 h1.tab (hr.below hb0) hrl h2 (deltaV_le i) hrow F.parts
  have hge : i ≤ farRow ws (way P ws) (farP P ws) i row := farRow_ge _ _ _ _ _
  have hle : farRow ws (way P ws) (farP P ws) i row ≤ ws.length := farRow_le hi (fun k j hj => farP_le P ws k j hj)
  have HE : Hid (farOf P row ws i = farRow ws (way P ws) (farP P ws) i row - i + (if rowNx ws (way P ws) (deltaV i) row ws.length = 0 then 0 else 1)) := rfl
  generalize farRow ws (way P ws) (farP P ws) i row = n at *
  generalize farOf P row ws i = r at *
  obtain ⟨v, HV⟩ : ∃ v, Hid (rowNx ws (way P ws) (deltaV i) row = v) := ⟨_, rfl⟩
  rw [HV.out] at Z HE
  clear hrow hL h0 hr hws hbG hb0 hok F hp0 HV
  have hgeI : (i : Int) ≤ (n : Int) := by omega
  have hleI : (n : Int) ≤ 10 := by omega
  have X2 : Hid (∀ (t : TP) (W : World), W.cell? ⟨t.bT, 1, none⟩ = some (.slice aw ws.length cw) → Calls Tryd.prog 27 #[.pointer (some ⟨t.bT, 0, none⟩), .int .i64 (i : Int)] W fun e w' => ∃ g5, e = .returned (.slice (some ⟨g5, 0, none⟩) (ws.length + 1) (ws.length + 1)) ∧ Reads w' (some ⟨g5, 0, none⟩) (vecL (deltaV i) ws.length) ∧ Below W.heap.size W w') := fun t W h => (l7At_any t.bT aw cw ws.length i W hn hi h).mono (fun e w' h => ⟨_, h.1, h.2.2.1, h.2.2.2⟩)
  generalize hw0 : (w.alloc (.cells #[.slice aP P.length cP] 28)).alloc (.cells #[.slice aP P.length cP] 28) = w0 at *
  clear hw0
  go_enter Tryd.func14, Tryd.ntmps14
  go_wp2_with fail
  refine X.out.mono ?_
  rintro e w1 ⟨t, f, rfl, hT1⟩
  have Y1 := Y.out t f w1 hT1
  clear X Y hT1
  go_wp2_with fail
  refine Y1.mono ?_
  rintro e w2 ⟨rfl, hT2, hW2⟩
  have HT2 : Hid (Two P ws w0 t f aP cP aw cw w2) := hT2
  have q0 := hT2.far.c0
  clear Y1 hT2 hW2
  by_cases hv0 : v ws.length = 0
  · have HR : Hid (r = n - i) := by show _ = _; rw [HE.out, if_pos hv0]; rfl
    clear HE
    go_wp2
    refine wp_region_held_drew (S := (fun w' => w'.cell? ⟨f.bS, 0, none⟩ = some (.pointer (some ⟨t.bT, 0, none⟩)) ∧ True)) (by kernel_rfl) ⟨q0, trivial⟩ (fun hHeld => ?_)
    refine take_atL (i := 0) (d := some 20) (v := .pointer (some ⟨f.bS, 0, none⟩)) rfl rfl (by kernel_rfl) (by kernel_rfl) (by kernel_rfl) (fun _ _ _ h => h) (by rfl) ?_ hHeld ?_
    · intro w' hSw; obtain ⟨s0, _⟩ := hSw; go_simp; first | done | rfl | (refine wrap_in ?_ ?_ <;> omega) | (intro hbad; exfalso; omega) | omega
    try simp only [Act.put, List.setIfInBounds_toArray, List.set_cons_zero, List.set_cons_succ]
    refine take_atL (i := 1) (d := some 21) (v := .pointer (some ⟨f.bS, 0, none⟩)) rfl rfl (by kernel_rfl) (by kernel_rfl) (by kernel_rfl) (fun _ _ _ h => h) (by rfl) ?_ hHeld ?_
    · intro w' hSw; obtain ⟨s0, _⟩ := hSw; go_simp; first | done | rfl | (refine wrap_in ?_ ?_ <;> omega) | (intro hbad; exfalso; omega) | omega
    try simp only [Act.put, List.setIfInBounds_toArray, List.set_cons_zero, List.set_cons_succ]
    refine take_atL (i := 2) (d := some 22) (v := .pointer (some ⟨f.bS, 0, none⟩)) rfl rfl (by kernel_rfl) (by kernel_rfl) (by kernel_rfl) (fun _ _ _ h => h) (by rfl) ?_ hHeld ?_
    · intro w' hSw; obtain ⟨s0, _⟩ := hSw; go_simp; first | done | rfl | (refine wrap_in ?_ ?_ <;> omega) | (intro hbad; exfalso; omega) | omega
    try simp only [Act.put, List.setIfInBounds_toArray, List.set_cons_zero, List.set_cons_succ]
    refine take_atL (i := 3) (d := some 23) (v := .pointer (some ⟨t.bT, 0, none⟩)) rfl rfl (by kernel_rfl) (by kernel_rfl) (by kernel_rfl) (fun _ _ _ h => h) (by rfl) ?_ hHeld ?_
    · intro w' hSw; obtain ⟨s0, _⟩ := hSw; go_simp; first | done | rfl | (refine wrap_in ?_ ?_ <;> omega) | (intro hbad; exfalso; omega) | omega
    try simp only [Act.put, List.setIfInBounds_toArray, List.set_cons_zero, List.set_cons_succ]
    refine take_atL (i := 4) (d := some 24) (v := .slice ar row.length cr) rfl rfl (by kernel_rfl) (by kernel_rfl) (by kernel_rfl) (fun _ _ _ h => h) (by rfl) ?_ hHeld ?_
    · intro w' hSw; obtain ⟨s0, _⟩ := hSw; go_simp; first | done | rfl | (refine wrap_in ?_ ?_ <;> omega) | (intro hbad; exfalso; omega) | omega
    try simp only [Act.put, List.setIfInBounds_toArray, List.set_cons_zero, List.set_cons_succ]
    refine take_atL (i := 5) (d := some 25) (v := .pointer (some ⟨f.bS, 0, none⟩)) rfl rfl (by kernel_rfl) (by kernel_rfl) (by kernel_rfl) (fun _ _ _ h => h) (by rfl) ?_ hHeld ?_
    · intro w' hSw; obtain ⟨s0, _⟩ := hSw; go_simp; first | done | rfl | (refine wrap_in ?_ ?_ <;> omega) | (intro hbad; exfalso; omega) | omega
    try simp only [Act.put, List.setIfInBounds_toArray, List.set_cons_zero, List.set_cons_succ]
    refine take_atL (i := 6) (d := some 26) (v := .pointer (some ⟨f.bS, 0, none⟩)) rfl rfl (by kernel_rfl) (by kernel_rfl) (by kernel_rfl) (fun _ _ _ h => h) (by rfl) ?_ hHeld ?_
    · intro w' hSw; obtain ⟨s0, _⟩ := hSw; go_simp; first | done | rfl | (refine wrap_in ?_ ?_ <;> omega) | (intro hbad; exfalso; omega) | omega
    try simp only [Act.put, List.setIfInBounds_toArray, List.set_cons_zero, List.set_cons_succ]
    refine take_atL (i := 7) (d := some 27) (v := .pointer (some ⟨f.bS, 0, none⟩)) rfl rfl (by kernel_rfl) (by kernel_rfl) (by kernel_rfl) (fun _ _ _ h => h) (by rfl) ?_ hHeld ?_
    · intro w' hSw; obtain ⟨s0, _⟩ := hSw; go_simp; first | done | rfl | (refine wrap_in ?_ ?_ <;> omega) | (intro hbad; exfalso; omega) | omega
    try simp only [Act.put, List.setIfInBounds_toArray, List.set_cons_zero, List.set_cons_succ]
    refine take_atL (i := 8) (d := some 28) (v := .pointer (some ⟨t.bT, 0, none⟩)) rfl rfl (by kernel_rfl) (by kernel_rfl) (by kernel_rfl) (fun _ _ _ h => h) (by rfl) ?_ hHeld ?_
    · intro w' hSw; obtain ⟨s0, _⟩ := hSw; go_simp; first | done | rfl | (refine wrap_in ?_ ?_ <;> omega) | (intro hbad; exfalso; omega) | omega
    try simp only [Act.put, List.setIfInBounds_toArray, List.set_cons_zero, List.set_cons_succ]
    refine take_atL (i := 9) (d := some 29) (v := .int .i64 ((i : Int))) rfl rfl (by kernel_rfl) (by kernel_rfl) (by kernel_rfl) (fun _ _ _ h => h) (by rfl) ?_ hHeld ?_
    · intro w' hSw; obtain ⟨s0, _⟩ := hSw; go_simp; first | done | rfl | (refine wrap_in ?_ ?_ <;> omega) | (intro hbad; exfalso; omega) | omega
    try simp only [Act.put, List.setIfInBounds_toArray, List.set_cons_zero, List.set_cons_succ]
    refine take_atL (i := 12) (d := some 32) (v := .slice aw ws.length cw) rfl rfl (by kernel_rfl) (by kernel_rfl) (by kernel_rfl) (fun _ _ _ h => h) (by rfl) ?_ hHeld ?_
    · intro w' hSw; obtain ⟨s0, _⟩ := hSw; go_simp; first | done | rfl | (refine wrap_in ?_ ?_ <;> omega) | (intro hbad; exfalso; omega) | omega
    try simp only [Act.put, List.setIfInBounds_toArray, List.set_cons_zero, List.set_cons_succ]
    refine take_atL (i := 13) (d := some 33) (v := .int .i64 ((ws.length : Int))) rfl rfl (by kernel_rfl) (by kernel_rfl) (by kernel_rfl) (fun _ _ _ h => h) (by rfl) ?_ hHeld ?_
    · intro w' hSw; obtain ⟨s0, _⟩ := hSw; go_simp; first | done | rfl | (refine wrap_in ?_ ?_ <;> omega) | (intro hbad; exfalso; omega) | omega
    try simp only [Act.put, List.setIfInBounds_toArray, List.set_cons_zero, List.set_cons_succ]
    refine wpAnyH_ready (rs := [10]) (by kernel_rfl) (by simp) ?_
    refine AllReadyH.cons (o := _) rfl (fun K hK => ?_) AllReadyH.nil
    rw [if_pos (by rfl)]
    go_simp
    have hd2 := Below.drew (Below.refl w2.heap.size w2)
    refine (X2.out t _ (HT2.out.later hd2).tab.c1).mono ?_
    rintro e w5 ⟨g5, rfl, hR5, hb5⟩
    have HT5 : Hid (Two P ws w0 t f aP cP aw cw w5) := (HT2.out.later hd2).later hb5
    have s0 := HT5.out.far.c0
    have Z5 := Z.out t f w5 g5 HT5.out hR5
    clear X2 Z hR5 hb5 hd2
    go_wp2_with fail
    refine hK.out _ _ ⟨s0, trivial⟩ (fun hHeld => ?_)
    clear hK K
    try simp only [Act.put, List.setIfInBounds_toArray, List.set_cons_zero, List.set_cons_succ]
    refine wpAnyH_ready (rs := [11]) (by kernel_rfl) (by simp) ?_
    refine AllReadyH.cons (o := _) rfl (fun K hK => ?_) AllReadyH.nil
    rw [if_pos (by rfl)]
    go_simp
    refine Z5.mono ?_
    rintro e w6 ⟨g6, c6, rfl, h6M, h6N, h6l, h6R, h6T, h6W⟩
    have HT6 : Hid (Two P ws w0 t f aP cP aw cw w6) := HT5.out.ways h6T h6W
    have s0 := HT6.out.far.c0
    have q6 := reads_vec h6R (Nat.le_refl _)
    have HB9 : Hid (Below w.heap.size w w6) := HB0.out.trans (h6T.low.mono HB0.out.size)
    rw [hv0] at q6
    have hyI : ¬ (0 : Int) < 0 := by decide
    clear Z5 h6M h6N h6R h6T h6W
    go_wp2_with fail
    refine hK.out _ _ ⟨s0, trivial⟩ (fun hHeld => ?_)
    clear hK K
    try simp only [Act.put, List.setIfInBounds_toArray, List.set_cons_zero, List.set_cons_succ]
    refine take_atL (i := 14) (d := some 34) (v := .pointer (some ⟨g6, ws.length, none⟩)) rfl rfl (by kernel_rfl) (by kernel_rfl) (by kernel_rfl) (fun _ _ _ h => h) (by rfl) ?_ hHeld ?_
    · intro w' hSw; obtain ⟨s0, _⟩ := hSw; go_simp; first | done | rfl | (refine wrap_in ?_ ?_ <;> omega) | (intro hbad; exfalso; omega) | omega
    try simp only [Act.put, List.setIfInBounds_toArray, List.set_cons_zero, List.set_cons_succ]
    refine wpAnyH_ready (rs := [15]) (by kernel_rfl) (by simp) ?_
    refine AllReadyH.cons (o := _) rfl (fun K hK => ?_) AllReadyH.nil
    rw [if_pos (by rfl)]
    go_simp
    refine hK.out _ _ ⟨s0, trivial⟩ (fun hHeld => ?_)
    clear hK K
    try simp only [Act.put, List.setIfInBounds_toArray, List.set_cons_zero, List.set_cons_succ]
    refine take_atL (i := 16) (d := some 36) (v := .bool (false)) rfl rfl (by kernel_rfl) (by kernel_rfl) (by kernel_rfl) (fun _ _ _ h => h) (by rfl) ?_ hHeld ?_
    · intro w' hSw; obtain ⟨s0, _⟩ := hSw; go_simp; first | done | rfl | (refine wrap_in ?_ ?_ <;> omega) | (intro hbad; exfalso; omega) | omega
    try simp only [Act.put, List.setIfInBounds_toArray, List.set_cons_zero, List.set_cons_succ]
    refine wpAnyH_done (by kernel_rfl) ?_ _
    clear hHeld
    go_wp2
    go_ret
    exact ⟨ret_int (by have := HR.out; omega), HB9.out⟩
  · have HR : Hid (r = n - i + 1) := by show _ = _; rw [HE.out, if_neg hv0]
    clear HE
    go_wp2
    refine wp_region_held_drew (S := (fun w' => w'.cell? ⟨f.bS, 0, none⟩ = some (.pointer (some ⟨t.bT, 0, none⟩)) ∧ True)) (by kernel_rfl) ⟨q0, trivial⟩ (fun hHeld => ?_)
    refine take_atL (i := 0) (d := some 20) (v := .pointer (some ⟨f.bS, 0, none⟩)) rfl rfl (by kernel_rfl) (by kernel_rfl) (by kernel_rfl) (fun _ _ _ h => h) (by rfl) ?_ hHeld ?_
    · intro w' hSw; obtain ⟨s0, _⟩ := hSw; go_simp; first | done | rfl | (refine wrap_in ?_ ?_ <;> omega) | (intro hbad; exfalso; omega) | omega
    try simp only [Act.put, List.setIfInBounds_toArray, List.set_cons_zero, List.set_cons_succ]
    refine take_atL (i := 1) (d := some 21) (v := .pointer (some ⟨f.bS, 0, none⟩)) rfl rfl (by kernel_rfl) (by kernel_rfl) (by kernel_rfl) (fun _ _ _ h => h) (by rfl) ?_ hHeld ?_
    · intro w' hSw; obtain ⟨s0, _⟩ := hSw; go_simp; first | done | rfl | (refine wrap_in ?_ ?_ <;> omega) | (intro hbad; exfalso; omega) | omega
    try simp only [Act.put, List.setIfInBounds_toArray, List.set_cons_zero, List.set_cons_succ]
    refine take_atL (i := 2) (d := some 22) (v := .pointer (some ⟨f.bS, 0, none⟩)) rfl rfl (by kernel_rfl) (by kernel_rfl) (by kernel_rfl) (fun _ _ _ h => h) (by rfl) ?_ hHeld ?_
    · intro w' hSw; obtain ⟨s0, _⟩ := hSw; go_simp; first | done | rfl | (refine wrap_in ?_ ?_ <;> omega) | (intro hbad; exfalso; omega) | omega
    try simp only [Act.put, List.setIfInBounds_toArray, List.set_cons_zero, List.set_cons_succ]
    refine take_atL (i := 3) (d := some 23) (v := .pointer (some ⟨t.bT, 0, none⟩)) rfl rfl (by kernel_rfl) (by kernel_rfl) (by kernel_rfl) (fun _ _ _ h => h) (by rfl) ?_ hHeld ?_
    · intro w' hSw; obtain ⟨s0, _⟩ := hSw; go_simp; first | done | rfl | (refine wrap_in ?_ ?_ <;> omega) | (intro hbad; exfalso; omega) | omega
    try simp only [Act.put, List.setIfInBounds_toArray, List.set_cons_zero, List.set_cons_succ]
    refine take_atL (i := 4) (d := some 24) (v := .slice ar row.length cr) rfl rfl (by kernel_rfl) (by kernel_rfl) (by kernel_rfl) (fun _ _ _ h => h) (by rfl) ?_ hHeld ?_
    · intro w' hSw; obtain ⟨s0, _⟩ := hSw; go_simp; first | done | rfl | (refine wrap_in ?_ ?_ <;> omega) | (intro hbad; exfalso; omega) | omega
    try simp only [Act.put, List.setIfInBounds_toArray, List.set_cons_zero, List.set_cons_succ]
    refine take_atL (i := 5) (d := some 25) (v := .pointer (some ⟨f.bS, 0, none⟩)) rfl rfl (by kernel_rfl) (by kernel_rfl) (by kernel_rfl) (fun _ _ _ h => h) (by rfl) ?_ hHeld ?_
    · intro w' hSw; obtain ⟨s0, _⟩ := hSw; go_simp; first | done | rfl | (refine wrap_in ?_ ?_ <;> omega) | (intro hbad; exfalso; omega) | omega
    try simp only [Act.put, List.setIfInBounds_toArray, List.set_cons_zero, List.set_cons_succ]
    refine take_atL (i := 6) (d := some 26) (v := .pointer (some ⟨f.bS, 0, none⟩)) rfl rfl (by kernel_rfl) (by kernel_rfl) (by kernel_rfl) (fun _ _ _ h => h) (by rfl) ?_ hHeld ?_
    · intro w' hSw; obtain ⟨s0, _⟩ := hSw; go_simp; first | done | rfl | (refine wrap_in ?_ ?_ <;> omega) | (intro hbad; exfalso; omega) | omega
    try simp only [Act.put, List.setIfInBounds_toArray, List.set_cons_zero, List.set_cons_succ]
    refine take_atL (i := 7) (d := some 27) (v := .pointer (some ⟨f.bS, 0, none⟩)) rfl rfl (by kernel_rfl) (by kernel_rfl) (by kernel_rfl) (fun _ _ _ h => h) (by rfl) ?_ hHeld ?_
    · intro w' hSw; obtain ⟨s0, _⟩ := hSw; go_simp; first | done | rfl | (refine wrap_in ?_ ?_ <;> omega) | (intro hbad; exfalso; omega) | omega
    try simp only [Act.put, List.setIfInBounds_toArray, List.set_cons_zero, List.set_cons_succ]
    refine take_atL (i := 8) (d := some 28) (v := .pointer (some ⟨t.bT, 0, none⟩)) rfl rfl (by kernel_rfl) (by kernel_rfl) (by kernel_rfl) (fun _ _ _ h => h) (by rfl) ?_ hHeld ?_
    · intro w' hSw; obtain ⟨s0, _⟩ := hSw; go_simp; first | done | rfl | (refine wrap_in ?_ ?_ <;> omega) | (intro hbad; exfalso; omega) | omega
    try simp only [Act.put, List.setIfInBounds_toArray, List.set_cons_zero, List.set_cons_succ]
    refine take_atL (i := 9) (d := some 29) (v := .int .i64 ((i : Int))) rfl rfl (by kernel_rfl) (by kernel_rfl) (by kernel_rfl) (fun _ _ _ h => h) (by rfl) ?_ hHeld ?_
    · intro w' hSw; obtain ⟨s0, _⟩ := hSw; go_simp; first | done | rfl | (refine wrap_in ?_ ?_ <;> omega) | (intro hbad; exfalso; omega) | omega
    try simp only [Act.put, List.setIfInBounds_toArray, List.set_cons_zero, List.set_cons_succ]
    refine take_atL (i := 12) (d := some 32) (v := .slice aw ws.length cw) rfl rfl (by kernel_rfl) (by kernel_rfl) (by kernel_rfl) (fun _ _ _ h => h) (by rfl) ?_ hHeld ?_
    · intro w' hSw; obtain ⟨s0, _⟩ := hSw; go_simp; first | done | rfl | (refine wrap_in ?_ ?_ <;> omega) | (intro hbad; exfalso; omega) | omega
    try simp only [Act.put, List.setIfInBounds_toArray, List.set_cons_zero, List.set_cons_succ]
    refine take_atL (i := 13) (d := some 33) (v := .int .i64 ((ws.length : Int))) rfl rfl (by kernel_rfl) (by kernel_rfl) (by kernel_rfl) (fun _ _ _ h => h) (by rfl) ?_ hHeld ?_
    · intro w' hSw; obtain ⟨s0, _⟩ := hSw; go_simp; first | done | rfl | (refine wrap_in ?_ ?_ <;> omega) | (intro hbad; exfalso; omega) | omega
    try simp only [Act.put, List.setIfInBounds_toArray, List.set_cons_zero, List.set_cons_succ]
    refine wpAnyH_ready (rs := [10]) (by kernel_rfl) (by simp) ?_
    refine AllReadyH.cons (o := _) rfl (fun K hK => ?_) AllReadyH.nil
    rw [if_pos (by rfl)]
    go_simp
    have hd2 := Below.drew (Below.refl w2.heap.size w2)
    refine (X2.out t _ (HT2.out.later hd2).tab.c1).mono ?_
    rintro e w5 ⟨g5, rfl, hR5, hb5⟩
    have HT5 : Hid (Two P ws w0 t f aP cP aw cw w5) := (HT2.out.later hd2).later hb5
    have s0 := HT5.out.far.c0
    have Z5 := Z.out t f w5 g5 HT5.out hR5
    clear X2 Z hR5 hb5 hd2
    go_wp2_with fail
    refine hK.out _ _ ⟨s0, trivial⟩ (fun hHeld => ?_)
    clear hK K
    try simp only [Act.put, List.setIfInBounds_toArray, List.set_cons_zero, List.set_cons_succ]
    refine wpAnyH_ready (rs := [11]) (by kernel_rfl) (by simp) ?_
    refine AllReadyH.cons (o := _) rfl (fun K hK => ?_) AllReadyH.nil
    rw [if_pos (by rfl)]
    go_simp
    refine Z5.mono ?_
    rintro e w6 ⟨g6, c6, rfl, h6M, h6N, h6l, h6R, h6T, h6W⟩
    have HT6 : Hid (Two P ws w0 t f aP cP aw cw w6) := HT5.out.ways h6T h6W
    have s0 := HT6.out.far.c0
    have q6 := reads_vec h6R (Nat.le_refl _)
    have HB9 : Hid (Below w.heap.size w w6) := HB0.out.trans (h6T.low.mono HB0.out.size)
    generalize v ws.length = y at *
    have hyI : (0 : Int) < (y : Int) := by omega
    clear Z5 h6M h6N h6R h6T h6W
    go_wp2_with fail
    refine hK.out _ _ ⟨s0, trivial⟩ (fun hHeld => ?_)
    clear hK K
    try simp only [Act.put, List.setIfInBounds_toArray, List.set_cons_zero, List.set_cons_succ]
    refine take_atL (i := 14) (d := some 34) (v := .pointer (some ⟨g6, ws.length, none⟩)) rfl rfl (by kernel_rfl) (by kernel_rfl) (by kernel_rfl) (fun _ _ _ h => h) (by rfl) ?_ hHeld ?_
    · intro w' hSw; obtain ⟨s0, _⟩ := hSw; go_simp; first | done | rfl | (refine wrap_in ?_ ?_ <;> omega) | (intro hbad; exfalso; omega) | omega
    try simp only [Act.put, List.setIfInBounds_toArray, List.set_cons_zero, List.set_cons_succ]
    refine wpAnyH_ready (rs := [15]) (by kernel_rfl) (by simp) ?_
    refine AllReadyH.cons (o := _) rfl (fun K hK => ?_) AllReadyH.nil
    rw [if_pos (by rfl)]
    go_simp
    refine hK.out _ _ ⟨s0, trivial⟩ (fun hHeld => ?_)
    clear hK K
    try simp only [Act.put, List.setIfInBounds_toArray, List.set_cons_zero, List.set_cons_succ]
    refine take_atL (i := 16) (d := some 36) (v := .bool (true)) rfl rfl (by kernel_rfl) (by kernel_rfl) (by kernel_rfl) (fun _ _ _ h => h) (by rfl) ?_ hHeld ?_
    · intro w' hSw; obtain ⟨s0, _⟩ := hSw; go_simp; first | done | rfl | (refine wrap_in ?_ ?_ <;> omega) | (intro hbad; exfalso; omega) | omega
    try simp only [Act.put, List.setIfInBounds_toArray, List.set_cons_zero, List.set_cons_succ]
    refine wpAnyH_done (by kernel_rfl) ?_ _
    clear hHeld
    go_wp2
    go_ret
    exact ⟨ret_int (by have := HR.out; omega), HB9.out⟩
end Go.Proofs.YtbnieakjhhnlbabDoor
namespace Go.Proofs.YtbnieakjhhnlbabDoor
open Go.RowKit

set_option maxHeartbeats 1000000 in
set_option maxRecDepth 100000 in
theorem specFar_any (x : Gm) (a0 : Option Addr) (c0 : Nat) (z1 : List Int) (a1 : Option Addr) (c1 : Nat) (z2 : List Int) (a2 : Option Addr) (c2 : Nat) (n : Int) (w : World) (h0 : RD w (.slice a0 x.parts.length c0) (slD (Lay.list (Lay.list Lay.int)) x.parts)) (h1 : RD w (.slice a1 z1.length c1) (slD Lay.int z1)) (h2 : RD w (.slice a2 z2.length c2) (slD Lay.int z2)) (hn : Lay.gram.wt x ≤ 1048576) (hf : Lay.gram.fit x) (hl1 : z1.length ≤ 1048576) (_ : (Lay.list Lay.int).fit z1) (hl2 : z2.length ≤ 1048576) (hz2 : (Lay.list Lay.int).fit z2) (_ : (Lit.int .i64 n).wf = true) :
    Calls Tryd.prog 5 #[.agg #[.slice a0 x.parts.length c0], .slice a1 z1.length c1, .slice a2 z2.length c2, .int .i64 n] w fun e w' => e = .returned (.int .i64 (resFar x z1 z2 n)) ∧ Below w.heap.size w w' := by
  have B0 := (Below.refl w.heap.size w).alloc (Nat.le_refl _) (.cells #[.slice a0 x.parts.length c0] 28)
  have HK : Hid (∀ W : World, Below w.heap.size w W → Calls Tryd.prog 12 #[.agg #[.slice a0 x.parts.length c0], .slice a2 z2.length c2, .int .i64 n] W fun e w' => e = .returned (.bool (rightAt x z2 n)) ∧ Below W.heap.size W w') := fun W hW => l8Ok_any x a0 c0 z2 a2 c2 n W (h0.later hW) (h2.later hW) hn hf hl2 hz2
  have HR : Hid (rightAt x z2 n = true → ∀ W : World, Below w.heap.size w W → Calls Tryd.prog 13 #[.agg #[.slice a0 x.parts.length c0], .slice a1 z1.length c1] W fun e w' => e = .returned (.bool (knownB x.parts.length z1)) ∧ Below W.heap.size W w') := fun hr W hW => l8Known_any x.parts z1 a0 c0 a1 c1 W (h1.later hW).reads (Fits.of (resCheck_ok (rightAt_yes hr).1).1).parts (by omega)
  have hlc := h1.capL
  have HW : Hid (rightAt x z2 n = true → knownB x.parts.length z1 = true → ∀ W : World, Below w.heap.size w W → Calls Tryd.prog 14 #[.agg #[.slice a0 x.parts.length c0], .slice a1 z1.length c1, .slice a2 z2.length c2, .int .i64 n] W fun e w' => e = .returned (.int .i64 (farOf x.parts z1 z2 n.toNat : Int)) ∧ Below W.heap.size W w') := fun hr hk W hW => by
    obtain ⟨r1, r2, r3, r4⟩ := rightAt_yes hr
    have := l8Go_any x.parts z1 z2 a0 c0 a1 c1 a2 c2 n.toNat W (h0.later hW) (h1.later hW).reads (h2.later hW).reads (resCheck_ok r1).1 (resCheck_ok r1).2 (inputOkB_len r2) (by omega) hl1 hlc (knownB_sym hk)
    rw [nat_of r3] at this
    exact this
  have D1 : Hid (rightAt x z2 n = false → resFar x z1 z2 n = -1) := resFar_wrong
  have D2 : Hid (knownB x.parts.length z1 = false → resFar x z1 z2 n = -1) := resFar_row
  have D3 : Hid (rightAt x z2 n = true → knownB x.parts.length z1 = true → resFar x z1 z2 n = (farOf x.parts z1 z2 n.toNat : Int)) := resFar_all
  have hgl : w.heap.size < (w.alloc (.cells #[.slice a0 x.parts.length c0] 28)).heap.size := by simp
  have qg : (w.alloc (.cells #[.slice a0 x.parts.length c0] 28)).cell? ⟨w.heap.size, 0, none⟩ = some (.slice a0 x.parts.length c0) := by simp
  clear h0 h1 h2 hn hf hl1 hl2 hz2 hlc 
  generalize resFar x z1 z2 n = R at *
  generalize farOf x.parts z1 z2 n.toNat = r at *
  generalize knownB x.parts.length z1 = kb at *
  generalize rightAt x z2 n = ra at *
  generalize x.parts = P at *
  cases ra
  · have E : Hid (R = -1) := D1.out rfl
    clear HR HW D1 D2 D3
    go_enter Tryd.func5, Tryd.ntmps5
    go_wp2_with (go_at_call 12; refine (HK.out _ B0).mono ?_; rintro e w1 ⟨rfl, hb1⟩; have g1 := (hb1.cell (p := ⟨w.heap.size, 0, none⟩) hgl).trans qg; have B1 := B0.trans (hb1.mono B0.size); have l1 := Nat.lt_of_lt_of_le hgl hb1.size)
    go_ret
    exact ⟨ret_int E.out.symm, B1⟩
  · cases kb
    · have HRr : Hid _ := HR.out rfl
      have E : Hid (R = -1) := D2.out rfl
      clear HR HW D1 D2 D3
      go_enter Tryd.func5, Tryd.ntmps5
      go_wp2_with (first | (go_at_call 12; refine (HK.out _ B0).mono ?_; rintro e w1 ⟨rfl, hb1⟩; have g1 := (hb1.cell (p := ⟨w.heap.size, 0, none⟩) hgl).trans qg; have B1 := B0.trans (hb1.mono B0.size); have l1 := Nat.lt_of_lt_of_le hgl hb1.size) | (go_at_call 13; refine (HRr.out _ B1).mono ?_; rintro e w2 ⟨rfl, hb2⟩; have g2 := (hb2.cell (p := ⟨w.heap.size, 0, none⟩) l1).trans g1; have B2 := B1.trans (hb2.mono B1.size)))
      go_ret
      exact ⟨ret_int E.out.symm, B2⟩
    · have HRr : Hid _ := HR.out rfl
      have HWr : Hid _ := HW.out rfl rfl
      have E : Hid (R = (r : Int)) := D3.out rfl rfl
      clear HR HW D1 D2 D3
      go_enter Tryd.func5, Tryd.ntmps5
      go_wp2_with (first | (go_at_call 12; refine (HK.out _ B0).mono ?_; rintro e w1 ⟨rfl, hb1⟩; have g1 := (hb1.cell (p := ⟨w.heap.size, 0, none⟩) hgl).trans qg; have B1 := B0.trans (hb1.mono B0.size); have l1 := Nat.lt_of_lt_of_le hgl hb1.size) | (go_at_call 13; refine (HRr.out _ B1).mono ?_; rintro e w2 ⟨rfl, hb2⟩; have g2 := (hb2.cell (p := ⟨w.heap.size, 0, none⟩) l1).trans g1; have B2 := B1.trans (hb2.mono B1.size)) | (go_at_call 14; refine (HWr.out _ B2).mono ?_; rintro e w3 ⟨rfl, hb3⟩; have B3 := B2.trans (hb3.mono B2.size)))
      go_ret
      exact ⟨ret_int E.out.symm, B3⟩
end Go.Proofs.YtbnieakjhhnlbabDoor
namespace Go.Proofs.YtbnieakjhhnlbabDoor
open Go.RowKit
section
variable {P : Program}
theorem run_items_of {e : TypeId} {c d : Nat} {xs ys : Array Value} {w : World} {r : Nat → Bool} : ∀ is : List Nat, (∀ i ∈ is, ∃ x y, (part e xs (i * c)).run P w = .ok x w ∧ (part e ys (i * c)).run P w = .ok y w ∧ (Op.equalIn d e x y).run P w = .ok (r i) w) → (Op.eqItems d e c xs ys is).run P w = .ok (is.all r) w
  | [], _ => by simp [Op.eqItems]
  | i :: is, h => by
    obtain ⟨x, y, h1, h2, h3⟩ := h i List.mem_cons_self
    have ih := run_items_of is (fun j hj => h j (List.mem_cons_of_mem _ hj))
    rw [Op.eqItems]
    simp only [Sem.run_bind, h1, h2, h3, Result.andThen_ok, List.all_cons]
    cases r i
    · simp
    · simp only [Bool.not_true, Bool.false_eq_true, if_false, Bool.true_and]; exact ih
theorem all_range_eq {us bs : List Bool} {n : Nat} (ha : us.length = n) (hb : bs.length = n) : ((List.range n).all fun i => us.getD i false == bs.getD i false) = decide (us = bs) := by
  rw [Bool.eq_iff_iff]
  simp only [List.all_eq_true, List.mem_range, beq_iff_eq, decide_eq_true_eq]
  constructor
  · intro h; exact list_ext_getD (by omega) (fun i hi => h i (by omega))
  · rintro rfl; exact fun _ _ => rfl
/-- Arrays of bools. -/
theorem run_eq_flags {ty e : TypeId} {n : Nat} {w : World} (d : Nat) (hu : P.underlying ty = some (.array n e)) (he : P.underlying e = some .bool) (hz : (P.info? e).map (·.size) = some 1) {us bs : List Bool} (ha : us.length = n) (hb : bs.length = n) :
    (Op.equalIn (d + 2) ty (aggB us) (aggB bs)).run P w = .ok (decide (us = bs)) w := by
  cases hq : P.info? e with
  | none => simp [hq] at hz
  | some j =>
    have hc : P.cellsOf e = 1 := by rw [Program.cellsOf, hz]; rfl
    unfold aggB
    rw [run_equalIn_array w (d + 1) _ _ hu hq, hc, run_items_of (r := fun i => us.getD i false == bs.getD i false), all_range_eq ha hb]
    intro i hi
    rw [List.mem_range] at hi
    have hx : (cellsB us)[i]? = some (.bool (us.getD i false)) := by rw [cellsB_get]; simp [List.getD, ha, hi]
    have hy : (cellsB bs)[i]? = some (.bool (bs.getD i false)) := by rw [cellsB_get]; simp [List.getD, hb, hi]
    have hg : (isAgg e).run P w = .ok false w := by simp [isAgg, run_underlying he]
    refine ⟨.bool (us.getD i false), .bool (bs.getD i false), ?_, ?_, run_equalIn_bool w d e _ _ he⟩
    · simp only [part, Sem.run_bind, hg, Result.andThen_ok, Nat.mul_one, hx]; rfl
    · simp only [part, Sem.run_bind, hg, Result.andThen_ok, Nat.mul_one, hy]; rfl
theorem chunks_eq {us bs : List Bool} {n m : Nat} (ha : us.length = m * n) (hb : bs.length = m * n) : ((List.range m).all fun i => decide ((us.drop (i * n)).take n = (bs.drop (i * n)).take n)) = decide (us = bs) := by
  rw [Bool.eq_iff_iff]
  simp only [List.all_eq_true, List.mem_range, decide_eq_true_eq]
  constructor
  · intro h
    apply list_ext_getD (by omega)
    intro i hi
    have hn : 0 < n := by
      rcases Nat.eq_zero_or_pos n with e | e
      · subst e; omega
      · exact e
    have h1 : i / n < m := by
      rw [Nat.div_lt_iff_lt_mul hn]; omega
    have h2 := h (i / n) h1
    have h3 := congrArg (fun l : List Bool => l.getD (i % n) false) h2
    have h4 := Nat.mod_lt i hn
    have h5 : i / n * n + i % n = i := by rw [Nat.mul_comm]; exact Nat.div_add_mod i n
    simpa [List.getD, List.getElem?_take, h4, h5] using h3
  · rintro rfl; exact fun _ _ => rfl
/-- Arrays of arrays of bools. -/
theorem run_eq_table {ty e e2 : TypeId} {n m : Nat} {w : World} (d : Nat) (hu : P.underlying ty = some (.array m e)) (he : P.underlying e = some (.array n e2)) (he2 : P.underlying e2 = some .bool) (hz : (P.info? e).map (·.size) = some n) (hz2 : (P.info? e2).map (·.size) = some 1) {us bs : List Bool} (ha : us.length = m * n) (hb : bs.length = m * n) :
    (Op.equalIn (d + 3) ty (aggB us) (aggB bs)).run P w = .ok (decide (us = bs)) w := by
  cases hq : P.info? e with
  | none => simp [hq] at hz
  | some j =>
    have hc : P.cellsOf e = n := by rw [Program.cellsOf, hz]; rfl
    have hs : (sizeOf e).run P w = .ok n w := by rw [run_sizeOf w hq, hc]
    have hg : (isAgg e).run P w = .ok true w := by simp [isAgg, run_underlying he]
    have hp : ∀ (cs : List Bool) (i : Nat), (part e (cellsB cs) (i * n)).run P w = .ok (aggB ((cs.drop (i * n)).take n)) w := by
      intro cs i
      have hx : (cellsB cs).extract (i * n) (i * n + n) = cellsB ((cs.drop (i * n)).take n) := by
        apply Array.ext_getElem?
        intro k
        rw [cellsB_get, Array.getElem?_extract]
        simp only [List.getElem?_take, List.getElem?_drop, cellsB_get]
        rw [cellsB_size]
        by_cases g : k < n
        · by_cases g2 : i * n + k < cs.length
          · rw [if_pos (by omega), if_pos g]
          · rw [if_neg (by omega), if_pos g, List.getElem?_eq_none (by omega)]; rfl
        · rw [if_neg (by omega), if_neg g]; rfl
      simp only [part, Sem.run_bind, hg, Result.andThen_ok, if_true, hs, hx]
      rfl
    unfold aggB
    rw [run_equalIn_array w (d + 2) _ _ hu hq, hc, run_items_of (r := fun i => decide ((us.drop (i * n)).take n = (bs.drop (i * n)).take n)), chunks_eq ha hb]
    intro i hi
    rw [List.mem_range] at hi
    have hin : i * n + n ≤ m * n := by
      have := Nat.mul_le_mul_right n (show i + 1 ≤ m by omega)
      rw [Nat.succ_mul] at this; exact this
    refine ⟨_, _, hp us i, hp bs i, run_eq_flags d he he2 hz2 ?_ ?_⟩
    · rw [List.length_take, List.length_drop]; omega
    · rw [List.length_take, List.length_drop]; omega
theorem exec_eqlB {ρ : Operand → Value} {o : Oper} {w : World} {ty rt : TypeId} {x y : Operand} {us bs : List Bool} (ho : o.op = .binOp .eql ty x y rt) (hx : ρ x = aggB us) (hy : ρ y = aggB bs) (hg : P.eqGuardType P.depth ty = false) (he : (Op.equalIn 10000 ty (aggB us) (aggB bs)).run P w = .ok (decide (us = bs)) w) :
    (execOp ρ o).run P w = .ok (.value (.bool (decide (us = bs)))) w := by
  unfold execOp
  unfold aggB at *
  simp only [ho, hx, hy, Sem.run_bind, run_eqGuard_agg w _ _ _ _ _ _ hg, Result.andThen_ok, run_eql_struct, he, Sem.run_pure]
/-- Parts are put together. -/
theorem zip_putL (cs : List Bool) : ∀ (bs : List Bool) (o k : Nat), ((cs.map Value.bool).zipIdx k).foldl (fun (ys : Array Value) (p : Value × Nat) => ys.setIfInBounds (o + p.2) p.1) (cellsB bs) = cellsB (putB bs (o + k) cs) := by
  induction cs with
  | nil => intro bs o k; rfl
  | cons v r ih =>
    intro bs o k
    have h := ih (bs.set (o + k) v) o (k + 1)
    have e : cellsB (bs.set (o + k) v) = (cellsB bs).setIfInBounds (o + k) (.bool v) := by simp [cellsB, List.map_set]
    rw [putB, show o + k + 1 = o + (k + 1) by omega, ← h, List.map_cons, List.zipIdx_cons, List.foldl_cons, e]
theorem zip_put (cs bs : List Bool) (o k : Nat) : ((cellsB cs).zipIdx k).foldl (fun (ys : Array Value) (p : Value × Nat) => ys.setIfInBounds (o + p.2) p.1) (cellsB bs) = cellsB (putB bs (o + k) cs) := by
  rw [← zip_putL cs bs o k, ← Array.foldl_toList]
  congr 1
  simp [cellsB]
theorem fill_put {place : Nat → Option (Nat × Nat)} {bs cs : List Bool} {i off : Nat} {rest : List (Nat × Value)} (h : place i = some (off, cs.length)) (hn : off + cs.length ≤ bs.length) : Instr.fill place (cellsB bs) ((i, aggB cs) :: rest) = Instr.fill place (cellsB (putB bs off cs)) rest := by
  have z := zip_put cs bs off 0
  rw [Instr.fill, h]
  simp only [aggB, Value.cells, cellsB_size]
  rw [if_neg (by simp; omega)]
  congr 1
end
end Go.Proofs.YtbnieakjhhnlbabDoor
namespace Go.Proofs.YtbnieakjhhnlbabDoor
open Go.RowKit

section
variable {P : Program}
theorem wpList_boxB {ops : Array Oper} {rest : List Oper} {o : Oper} {a : Act} {w : World} {Q : Exit → Act → World → Prop} (hgd : Region.wanted o (yielded ops a.tmps) = true) (ty : TypeId) (x : Operand) (ho : o.op = .box ty x) (bs : List Bool) (hx : a.eval x = aggB bs)
    (h : ∀ w', Bits w' w.heap.size ty bs → Below w.heap.size w w' → w'.heap.size = w.heap.size + 1 → wpList P ops Q rest (a.put o.dst (.pointer (some ⟨w.heap.size, 0, none⟩))) w') : wpList P ops Q (o :: rest) a w := by
  obtain ⟨w', h1, h2, h3, h4⟩ := exec_boxB (P := P) (w := w) ho hx
  exact wpList_val hgd h1 (h w' h2 h3 h4)
theorem wpList_allocB {ops : Array Oper} {rest : List Oper} {o : Oper} {a : Act} {w : World} {Q : Exit → Act → World → Prop} (hgd : Region.wanted o (yielded ops a.tmps) = true) (ty : TypeId) (ho : o.op = .alloc ty) (n : Nat) (hT : BitT P ty n)
    (h : ∀ w', Bits w' w.heap.size ty (List.replicate n false) → Below w.heap.size w w' → w'.heap.size = w.heap.size + 1 → wpList P ops Q rest (a.put o.dst (.pointer (some ⟨w.heap.size, 0, none⟩))) w') : wpList P ops Q (o :: rest) a w := by
  obtain ⟨w', h1, h2, h3, h4⟩ := exec_allocB (P := P) (w := w) (ρ := a.eval) ho hT
  exact wpList_val hgd h1 (h w' h2 h3 h4)
theorem wpList_loadB {ops : Array Oper} {rest : List Oper} {o : Oper} {a : Act} {w : World} {Q : Exit → Act → World → Prop} (hgd : Region.wanted o (yielded ops a.tmps) = true) (ty : TypeId) (x : Operand) (ho : o.op = .load ty x) (b off n : Nat) (t : TypeId) (bs : List Bool) (hx : a.eval x = .pointer (some ⟨b, off, none⟩)) (hT : BitT P ty n) (hB : Bits w b t bs) (hn : off + n ≤ bs.length)
    (h : wpList P ops Q rest (a.put o.dst (aggB ((bs.drop off).take n))) w) : wpList P ops Q (o :: rest) a w :=
  wpList_val hgd (exec_loadB ho hx hT hB hn) h
theorem wpList_loadW {ops : Array Oper} {rest : List Oper} {o : Oper} {a : Act} {w : World} {Q : Exit → Act → World → Prop} (hgd : Region.wanted o (yielded ops a.tmps) = true) (ty : TypeId) (x : Operand) (ho : o.op = .load ty x) (b : Nat) (t : TypeId) (bs : List Bool) (hx : a.eval x = .pointer (some ⟨b, 0, none⟩)) (hT : BitT P ty bs.length) (hB : Bits w b t bs)
    (h : wpList P ops Q rest (a.put o.dst (aggB bs)) w) : wpList P ops Q (o :: rest) a w :=
  wpList_val hgd (exec_loadW ho hx hT hB) h
theorem wpList_storeB {ops : Array Oper} {rest : List Oper} {o : Oper} {a : Act} {w : World} {Q : Exit → Act → World → Prop} (hgd : Region.wanted o (yielded ops a.tmps) = true) (ty : TypeId) (x y : Operand) (ho : o.op = .store ty x y) (b off : Nat) (t : TypeId) (bs cs : List Bool) (hx : a.eval x = .pointer (some ⟨b, off, none⟩)) (hy : a.eval y = aggB cs) (hT : BitT P ty cs.length) (hB : Bits w b t bs) (hn : off + cs.length ≤ bs.length)
    (h : ∀ w', Bits w' b t (putB bs off cs) → w.grownBy w' (some b) → wpList P ops Q rest (a.put o.dst undef) w') : wpList P ops Q (o :: rest) a w := by
  obtain ⟨w', h1, h2, h3⟩ := exec_storeB (P := P) ho hx hy hT hB hn
  exact wpList_unit hgd h1 (h w' h2 h3)
theorem wpList_eqlB {ops : Array Oper} {rest : List Oper} {o : Oper} {a : Act} {w : World} {Q : Exit → Act → World → Prop} (hgd : Region.wanted o (yielded ops a.tmps) = true) (ty rt : TypeId) (x y : Operand) (ho : o.op = .binOp .eql ty x y rt) (cs bs : List Bool) (hx : a.eval x = aggB cs) (hy : a.eval y = aggB bs) (hg : P.eqGuardType P.depth ty = false) (he : (Op.equalIn 10000 ty (aggB cs) (aggB bs)).run P w = .ok (decide (cs = bs)) w)
    (h : wpList P ops Q rest (a.put o.dst (.bool (decide (cs = bs)))) w) : wpList P ops Q (o :: rest) a w :=
  wpList_val hgd (exec_eqlB ho hx hy hg he) h
theorem wpList_indexB {ops : Array Oper} {rest : List Oper} {o : Oper} {a : Act} {w : World} {Q : Exit → Act → World → Prop} (hgd : Region.wanted o (yielded ops a.tmps) = true) (ty e : TypeId) (x y : Operand) (ho : o.op = .index ty x y) (bs : List Bool) (i : Nat) (hx : a.eval x = aggB bs) (hy : a.eval y = .int .i64 i) (hu : P.underlying ty = some (.array bs.length e)) (he : P.underlying e = some .bool) (hz : (P.info? e).map (·.size) = some 1) (hi : i < bs.length)
    (h : wpList P ops Q rest (a.put o.dst (.bool (bs.getD i false))) w) : wpList P ops Q (o :: rest) a w :=
  wpList_val hgd (exec_indexB ho hx hy hu he hz hi) h
end

theorem row_of {P : Program} {ty : TypeId} (h : (P.underlying ty).map TypeDesc.isRow = some true) : ∃ d, P.underlying ty = some d ∧ d.isRow = true := by
  cases hq : P.underlying ty with
  | none => simp [hq] at h
  | some d => exact ⟨d, rfl, by simpa [hq] using h⟩
set_option maxRecDepth 100000 in
theorem bt_flags : BitT Tryd.prog 91 27 := ⟨by kernel_rfl, row_of (by kernel_rfl)⟩
set_option maxRecDepth 100000 in
theorem bt_table : BitT Tryd.prog 100 540 := ⟨by kernel_rfl, row_of (by kernel_rfl)⟩
theorem bool_size : (Tryd.prog.info? 4).map (·.size) = some 1 := by kernel_rfl
theorem u_flags : Tryd.prog.underlying 91 = some (.array 27 4) := by kernel_rfl
theorem u_bool : Tryd.prog.underlying 4 = some .bool := by kernel_rfl

/-- The numbers below k whose flag is up. -/
def numsB (f : Nat → Bool) : Nat → List Int
  | 0 => []
  | k + 1 => if f k then numsB f k ++ [(k : Int)] else numsB f k
theorem numsB_len (f : Nat → Bool) (k : Nat) : (numsB f k).length ≤ k := by
  induction k with
  | zero => simp [numsB]
  | succ k ih =>
    rw [numsB]
    split
    · rw [List.length_append, List.length_singleton]; omega
    · omega
theorem mem_numsB {f : Nat → Bool} {k : Nat} {x : Int} : x ∈ numsB f k ↔ ∃ n : Nat, n < k ∧ x = n ∧ f n = true := by
  induction k with
  | zero => simp [numsB]
  | succ k ih =>
    rw [numsB]
    split
    · rename_i h
      rw [List.mem_append, ih, List.mem_singleton]
      constructor
      · rintro (⟨n, h1, h2, h3⟩ | rfl)
        · exact ⟨n, by omega, h2, h3⟩
        · exact ⟨k, by omega, rfl, h⟩
      · rintro ⟨n, h1, h2, h3⟩
        by_cases e : n = k
        · subst e; exact .inr h2
        · exact .inl ⟨n, by omega, h2, h3⟩
    · rename_i h
      rw [ih]
      constructor
      · rintro ⟨n, h1, h2, h3⟩; exact ⟨n, by omega, h2, h3⟩
      · rintro ⟨n, h1, h2, h3⟩
        refine ⟨n, ?_, h2, h3⟩
        by_cases e : n = k
        · subst e; exact absurd h3 h
        · omega
theorem numsB_sorted (f : Nat → Bool) (k : Nat) : (numsB f k).Pairwise (· < ·) := by
  induction k with
  | zero => exact List.Pairwise.nil
  | succ k ih =>
    rw [numsB]
    split
    · rw [List.pairwise_append]
      refine ⟨ih, List.pairwise_singleton _ _, fun x hx y hy => ?_⟩
      obtain ⟨n, h1, rfl, _⟩ := mem_numsB.1 hx
      rw [List.mem_singleton] at hy
      omega
    · exact ih

/-- All symbols of the row are of parts whose flag is up. -/
def allB (bs : List Bool) (row : List Int) : Bool := row.all fun x => decide (100 ≤ x ∧ x - 100 < 20) && bs.getD (x - 100).toNat false
theorem allB_step {p : Int → Bool} {xs : List Int} {k : Nat} (h : (xs.take k).all p = true) (hk : k < xs.length) (g : p xs[k] = true) : (xs.take (k + 1)).all p = true := by
  rw [List.take_succ_eq_append_getElem hk, List.all_append, h]; simp [g]
theorem allB_no {p : Int → Bool} {xs : List Int} {k : Nat} (hk : k < xs.length) (g : p xs[k] = false) : xs.all p = false := by
  rw [Bool.eq_false_iff]; intro h
  rw [List.all_eq_true] at h
  have := h _ (List.getElem_mem hk)
  rw [g] at this; cases this
theorem allB_end {p : Int → Bool} {xs : List Int} {k : Nat} (h : (xs.take k).all p = true) (hk : ¬ k < xs.length) : xs.all p = true := by
  rwa [List.take_of_length_le (by omega)] at h

set_option maxRecDepth 100000 in
theorem allOf_any (zs : List Int) (a : Option Addr) (c : Nat) (bs : List Bool) (w : World) (h : Reads w a zs) (hl : zs.length ≤ 1048576) (hz : ∀ z ∈ zs, -9223372036854775808 ≤ z ∧ z ≤ 9223372036854775807) (hb : bs.length = 27) :
    Calls Tryd.prog 77 #[.slice a zs.length c, aggB bs] w fun e w' => e = .returned (.bool (allB bs zs)) ∧ Below w.heap.size w w' := by
  have HZ : Hid (∀ z ∈ zs, -9223372036854775808 ≤ z ∧ z ≤ 9223372036854775807) := hz
  clear hz
  go_enter Tryd.func77, Tryd.ntmps77
  go_wp2_with (refine wpList_boxB rfl 91 _ rfl bs rfl ?_; intro w1 hB1 hb1 hs1)
  go_loop [9] (fun s => ∃ k : Nat, k ≤ zs.length ∧ s = .int .i64 k ∧ Hid ((zs.take k).all (fun x => decide (100 ≤ x ∧ x - 100 < 20) && bs.getD (x - 100).toNat false) = true)) (fun s => zs.length - (intOf s).toNat)
  case atStart => exact ⟨0, Nat.zero_le _, rfl, by show _ = _; simp⟩
  case round =>
    obtain ⟨k, hk, rfl, HK⟩ := hrel
    have h1 := h.below hb1
    by_cases hlt : k < zs.length
    · obtain ⟨b, off, rfl, hbb, hc⟩ := h1.at hlt
      have q1 := hc k hlt
      rw [List.getD_eq_getElem?_getD, List.getElem?_eq_getElem hlt, Option.getD_some] at q1
      have hr := HZ.out zs[k] (List.getElem_mem hlt)
      have HS : Hid (100 ≤ zs[k] ∧ zs[k] - 100 < 20 → bs.getD (zs[k] - 100).toNat false = true → (zs.take (k + 1)).all (fun x => decide (100 ≤ x ∧ x - 100 < 20) && bs.getD (x - 100).toNat false) = true) := fun g1 g2 => allB_step HK.out hlt (by simp only [decide_eq_true g1, Bool.true_and]; exact g2)
      have HN : Hid ((100 ≤ zs[k] ∧ zs[k] - 100 < 20 → bs.getD (zs[k] - 100).toNat false = false) → allB bs zs = false) := fun g1 => by
        refine allB_no hlt ?_
        by_cases g2 : 100 ≤ zs[k] ∧ zs[k] - 100 < 20
        · simp only [g1 g2, Bool.and_false]
        · simp only [decide_eq_false g2, Bool.false_and]
      clear hc h h1 HK
      generalize zs[k] = z at *
      by_cases z1 : 100 ≤ z
      · by_cases z2 : z - 100 < 20
        · obtain ⟨n, hn⟩ : ∃ n : Nat, z = 100 + (n : Int) := ⟨(z - 100).toNat, by omega⟩
          subst hn
          have hn2 : n < 27 := by omega
          have q2 := hB1.cell (n := n) (by omega)
          have e1 : (100 + (n : Int) - 100).toNat = n := by omega
          have e2 : (100 + (n : Int) - 100) = n := by omega
          rw [e1] at HS HN
          by_cases z3 : bs.getD n false = true
          · rw [z3] at q2
            have HSS : Hid _ := HS.out ⟨z1, z2⟩ z3
            clear HS HN z3
            go_wp2
            go_round
            case rel => exact ⟨k + 1, by omega, by go_num, HSS.out⟩
            case measure => simp [intOf]; omega
          · have z4 : bs.getD n false = false := by simpa using z3
            rw [z4] at q2
            have HNN : Hid (allB bs zs = false) := HN.out (fun _ => z4)
            clear HS HN z3 z4
            go_wp2
            go_ret
            exact ⟨ret_bool (by rw [HNN.out]), hb1⟩
        · have HNN : Hid (allB bs zs = false) := HN.out (fun g => absurd g.2 z2)
          clear HS HN
          go_wp2
          go_ret
          exact ⟨ret_bool (by rw [HNN.out]), hb1⟩
      · have HNN : Hid (allB bs zs = false) := HN.out (fun g => absurd g.1 z1)
        clear HS HN
        go_wp2
        go_ret
        exact ⟨ret_bool (by rw [HNN.out]), hb1⟩
    · have HE : Hid (allB bs zs = true) := allB_end HK.out hlt
      clear h h1 HK
      go_wp2
      go_ret
      exact ⟨ret_bool (by rw [HE.out]), hb1⟩
end Go.Proofs.YtbnieakjhhnlbabDoor
namespace Go.Proofs.YtbnieakjhhnlbabDoor
open Go.RowKit

section
variable (st : Nat → List Int → List Bool → List Bool)
def leI (k : Nat) (Q : List (List Int)) (T : List Bool) : Nat → List Bool
  | 0 => T
  | i + 1 => st k (Q.getD i []) (leI k Q T i)
def leK (P : List (List (List Int))) (T : List Bool) : Nat → List Bool
  | 0 => T
  | k + 1 => leI st k (P.getD k []) (leK P T k) (P.getD k []).length
/-- What holds at the start and is kept by each row's step holds of T. -/
def Grows (P : List (List (List Int))) (T0 T : List Bool) : Prop := ∀ I : List Bool → Prop, I T0 → (∀ k (hk : k < P.length) i (hi : i < P[k].length) T, I T → I (st k P[k][i] T)) → I T
end
variable {st : Nat → List Int → List Bool → List Bool}
theorem leI_next {k i : Nat} {Q : List (List Int)} {T : List Bool} (h : i < Q.length) : leI st k Q T (i + 1) = st k Q[i] (leI st k Q T i) := by
  have e : Q.getD i [] = Q[i] := by simp [List.getD, h]
  rw [leI, e]
theorem leK_next {P : List (List (List Int))} {T : List Bool} {k : Nat} (h : k < P.length) : leK st P T (k + 1) = leI st k P[k] (leK st P T k) P[k].length := by
  have e : P.getD k [] = P[k] := by simp [List.getD, h]
  rw [leK, e]
theorem Grows.refl (P : List (List (List Int))) (T : List Bool) : Grows st P T T := fun _ h _ => h
theorem Grows.leI {P : List (List (List Int))} {T0 T : List Bool} (h : Grows st P T0 T) {k : Nat} (hk : k < P.length) (i : Nat) (hi : i ≤ P[k].length) : Grows st P T0 (leI st k P[k] T i) := by
  intro I h0 hS
  induction i with
  | zero => exact h I h0 hS
  | succ i ih => rw [leI_next (by omega)]; exact hS k hk i (by omega) _ (ih (by omega))
theorem Grows.leK {P : List (List (List Int))} {T0 T : List Bool} (h : Grows st P T0 T) (k : Nat) (hk : k ≤ P.length) : Grows st P T0 (leK st P T k) := by
  induction k with
  | zero => exact h
  | succ k ih => rw [leK_next (by omega)]; exact (ih (by omega)).leI (by omega) _ (Nat.le_refl _)
/-- Steps that leave as it was or raise a flag. -/
def Raises (st : Nat → List Int → List Bool → List Bool) (P : List (List (List Int))) (n : Nat) : Prop := ∀ k (hk : k < P.length) i (hi : i < P[k].length) (T : List Bool), T.length = n → (st k P[k][i] T).length = n ∧ (st k P[k][i] T = T ∨ cntB T < cntB (st k P[k][i] T))
theorem Raises.leI {P : List (List (List Int))} {n : Nat} (h : Raises st P n) {k : Nat} (hk : k < P.length) {T : List Bool} (hT : T.length = n) (i : Nat) (hi : i ≤ P[k].length) : (leI st k P[k] T i).length = n ∧ (leI st k P[k] T i = T ∨ cntB T < cntB (leI st k P[k] T i)) := by
  induction i with
  | zero => exact ⟨hT, .inl rfl⟩
  | succ i ih =>
    have h1 := ih (by omega)
    have h2 := h k hk i (by omega) _ h1.1
    rw [leI_next (by omega)]
    refine ⟨h2.1, ?_⟩
    rcases h1.2 with e1 | e1
    · rcases h2.2 with e2 | e2
      · left; rw [e2]; exact e1
      · right; rw [e1] at e2 ⊢; exact e2
    · rcases h2.2 with e2 | e2
      · right; rw [e2]; exact e1
      · right; omega
theorem Raises.leK {P : List (List (List Int))} {n : Nat} (h : Raises st P n) {T : List Bool} (hT : T.length = n) (k : Nat) (hk : k ≤ P.length) : (leK st P T k).length = n ∧ (leK st P T k = T ∨ cntB T < cntB (leK st P T k)) := by
  induction k with
  | zero => exact ⟨hT, .inl rfl⟩
  | succ k ih =>
    have h1 := ih (by omega)
    have h2 := h.leI (k := k) (by omega) h1.1 _ (Nat.le_refl _)
    rw [leK_next (by omega)]
    refine ⟨h2.1, ?_⟩
    rcases h1.2 with e1 | e1
    · rcases h2.2 with e2 | e2
      · left; rw [e2]; exact e1
      · right; rw [e1] at e2 ⊢; exact e2
    · rcases h2.2 with e2 | e2
      · right; rw [e2]; exact e1
      · right; omega
/-- Where a round brings nothing new, no row's step does. -/
theorem Raises.fix {P : List (List (List Int))} {n : Nat} (h : Raises st P n) {T : List Bool} (hT : T.length = n) (e : Go.Proofs.YtbnieakjhhnlbabDoor.leK st P T P.length = T) {k : Nat} (hk : k < P.length) {i : Nat} (hi : i < P[k].length) : st k P[k][i] T = T := by
  have stepK : ∀ j, j < P.length → Go.Proofs.YtbnieakjhhnlbabDoor.leK st P T (j + 1) = Go.Proofs.YtbnieakjhhnlbabDoor.leK st P T j ∨ cntB (Go.Proofs.YtbnieakjhhnlbabDoor.leK st P T j) < cntB (Go.Proofs.YtbnieakjhhnlbabDoor.leK st P T (j + 1)) := by
    intro j hj
    rw [leK_next hj]
    exact (h.leI hj (h.leK hT j (by omega)).1 _ (Nat.le_refl _)).2
  have hK := steps_fix (m := cntB) (f := fun j => Go.Proofs.YtbnieakjhhnlbabDoor.leK st P T (min j P.length)) (fun j => by
    by_cases hj : j < P.length
    · have e1 : min (j + 1) P.length = j + 1 := by omega
      have e2 : min j P.length = j := by omega
      show Go.Proofs.YtbnieakjhhnlbabDoor.leK st P T (min (j + 1) P.length) = _ ∨ _
      rw [e1, e2]; exact stepK j hj
    · left
      have e1 : min (j + 1) P.length = P.length := by omega
      have e2 : min j P.length = P.length := by omega
      show Go.Proofs.YtbnieakjhhnlbabDoor.leK st P T (min (j + 1) P.length) = _
      rw [e1, e2]) (n := P.length) (by
      show Go.Proofs.YtbnieakjhhnlbabDoor.leK st P T (min P.length P.length) = Go.Proofs.YtbnieakjhhnlbabDoor.leK st P T (min 0 P.length)
      rw [Nat.min_self, Nat.zero_min]; exact e)
  have kk : ∀ j, j ≤ P.length → Go.Proofs.YtbnieakjhhnlbabDoor.leK st P T j = T := by
    intro j hj
    have := hK j hj
    have e1 : min j P.length = j := by omega
    have e2 : min 0 P.length = 0 := by omega
    simp only [e1, e2] at this
    exact this
  have e1 : Go.Proofs.YtbnieakjhhnlbabDoor.leI st k P[k] T P[k].length = T := by
    have := leK_next (st := st) (T := T) hk
    rw [kk (k + 1) (by omega), kk k (by omega)] at this
    exact this.symm
  have hI := steps_fix (m := cntB) (f := fun j => Go.Proofs.YtbnieakjhhnlbabDoor.leI st k P[k] T (min j P[k].length)) (fun j => by
    by_cases hj : j < P[k].length
    · have e1 : min (j + 1) P[k].length = j + 1 := by omega
      have e2 : min j P[k].length = j := by omega
      show Go.Proofs.YtbnieakjhhnlbabDoor.leI st k P[k] T (min (j + 1) P[k].length) = _ ∨ _
      rw [e1, e2, leI_next hj]; exact (h k hk j hj _ (h.leI hk hT j (by omega)).1).2
    · left
      have e1 : min (j + 1) P[k].length = P[k].length := by omega
      have e2 : min j P[k].length = P[k].length := by omega
      show Go.Proofs.YtbnieakjhhnlbabDoor.leI st k P[k] T (min (j + 1) P[k].length) = _
      rw [e1, e2]) (n := P[k].length) (by
      show Go.Proofs.YtbnieakjhhnlbabDoor.leI st k P[k] T (min P[k].length P[k].length) = Go.Proofs.YtbnieakjhhnlbabDoor.leI st k P[k] T (min 0 P[k].length)
      rw [Nat.min_self, Nat.zero_min]; exact e1)
  have ii : ∀ j, j ≤ P[k].length → Go.Proofs.YtbnieakjhhnlbabDoor.leI st k P[k] T j = T := by
    intro j hj
    have := hI j hj
    have e1 : min j P[k].length = j := by omega
    have e2 : min 0 P[k].length = 0 := by omega
    simp only [e1, e2] at this
    exact this
  have := ii (i + 1) (by omega)
  rw [leI_next hi, ii i (by omega)] at this
  exact this
/-- The flags of a set of numbers; of sets of such. -/
def flagsOf (E : List Int) : List Bool := (List.range 27).map fun (n : Nat) => hasL E (n : Int)
theorem flagsOf_length (E : List Int) : (flagsOf E).length = 27 := by simp [flagsOf]
theorem flagsOf_get (E : List Int) {n : Nat} (h : n < 27) : (flagsOf E).getD n false = hasL E (n : Int) := by simp [flagsOf, List.getD, h]
/-- One row's step of emptiesOf. -/
def emS (allB : List Bool → List Int → Bool) (k : Nat) (row : List Int) (T : List Bool) : List Bool := bstep T (k, fun b => allB b row)
end Go.Proofs.YtbnieakjhhnlbabDoor
namespace Go.Proofs.YtbnieakjhhnlbabDoor
open Go.RowKit

theorem eq_flags27 {w : World} {cs bs : List Bool} (h1 : cs.length = 27) (h2 : bs.length = 27) : (Op.equalIn 10000 91 (aggB cs) (aggB bs)).run Tryd.prog w = .ok (decide (cs = bs)) w := run_eq_flags 9998 u_flags u_bool bool_size h1 h2
theorem guard_flags : Tryd.prog.eqGuardType Tryd.prog.depth 91 = false := by kernel_rfl

/-- One row's step. -/
theorem emS_raises (p : List Bool → List Int → Bool) (P : List (List (List Int))) : Raises (emS p) P 27 := fun k _ i _ T hT => ⟨by rw [emS, bstep_length]; exact hT, bstep_or _ _⟩
theorem emS_yes {p : List Bool → List Int → Bool} {k : Nat} {row : List Int} {T : List Bool} (h : T.getD k false = true) : emS p k row T = T.set k true := by simp only [emS, bstep, h, Bool.true_or]
theorem emS_no {p : List Bool → List Int → Bool} {k : Nat} {row : List Int} {T : List Bool} (h : T.getD k false = false) : emS p k row T = T.set k (p T row) := by simp only [emS, bstep, h, Bool.false_or]

theorem at27 {T : List Bool} (hl : T.length = 27) : BitT Tryd.prog 91 T.length := by rw [hl]; exact bt_flags
theorem ahead_facts {n1 : Nat} {w2 wr w3 w4 : World} {t : TypeId} {T : List Bool} (hbel : Below n1 w2 wr) (hn : n1 < wr.heap.size) (hBT : Bits wr n1 t T) (hb3 : Below wr.heap.size wr w3) (hs3 : w3.heap.size = wr.heap.size + 1) (hTl : T.length = 27) (hB4 : Bits w4 wr.heap.size 91 (putB (List.replicate 27 false) 0 T)) (hg4 : w3.grownBy w4 (some wr.heap.size)) :
    Below n1 w2 w4 ∧ Bits w4 n1 t T ∧ Bits w4 wr.heap.size 91 T := by
  have e : putB (List.replicate 27 false) 0 T = T := putB_whole (by simp [hTl])
  rw [e] at hB4
  refine ⟨?_, ?_, hB4⟩
  · exact (hbel.trans (hb3.mono (by omega))).grown hg4 (by omega) (fun k hk => by cases hk; omega)
  · exact (hBT.later hb3).grown hg4 (by intro h; cases h; omega)
theorem ret_cell {fn : Func} {p : Tmp} {tmps : Array Value} {w : World} {g : Nat} {t : TypeId} {bs : List Bool} (ty : TypeId) (h : fn.results = #[.cell p ty]) (hp : tmps.getD p undef = .pointer (some ⟨g, 0, none⟩)) (hB : Bits w g t bs) (hT : BitT Tryd.prog ty bs.length) : (results fn tmps).run Tryd.prog w = .ok (aggB bs) w := by
  obtain ⟨d, hu, hd⟩ := hT.desc
  exact results_cell_row h tmps w g t (cellsB bs) (0, 0) d hp hB hu (by cases d <;> first | rfl | cases hd) (by rw [cellsB_size]; exact hT.size)

end Go.Proofs.YtbnieakjhhnlbabDoor
namespace Go.Proofs.YtbnieakjhhnlbabDoor
open Go.RowKit

set_option maxHeartbeats 4000000 in
set_option maxRecDepth 100000 in
theorem leastParts_P (p : List Bool → List Int → Bool) (P : List (List (List Int))) (a0 : Option Addr) (c0 : Nat) (w : World) (h0 : RD w (.slice a0 P.length c0) (slD (Lay.list (Lay.list Lay.int)) P)) (hok : gramOkB P = true)
    (hcl : ∀ (W : World) (T : List Bool) (k : Nat) (hk : k < P.length) (i : Nat) (hi : i < P[k].length) (a : Option Addr) (c : Nat), Below w.heap.size w W → T.length = 27 → RD w (.slice a P[k][i].length c) (slD Lay.int P[k][i]) →
      Calls Tryd.prog 71 #[.slice a P[k][i].length c, aggB T] W fun e w' => e = .returned (.bool (p T P[k][i])) ∧ Below W.heap.size W w') :
    Calls Tryd.prog 70 #[.agg #[.slice a0 P.length c0], .func (.func 71) #[] #[]] w fun e w' => ∃ T, e = .returned (aggB T) ∧ T.length = 27 ∧ Grows (emS p) P (List.replicate 27 false) T ∧ leK (emS p) P T P.length = T ∧ Below w.heap.size w w' := by
  have F := Fits.of hok
  have HF : Hid (Fits P) := F
  have hp := F.parts
  have HRz : Hid (Raises (emS p) P 27) := emS_raises p P
  have HCL : Hid (∀ (W : World) (T : List Bool) (k : Nat) (hk : k < P.length) (i : Nat) (hi : i < P[k].length) (a : Option Addr) (c : Nat), Below w.heap.size w W → T.length = 27 → RD w (.slice a P[k][i].length c) (slD Lay.int P[k][i]) →
      Calls Tryd.prog 71 #[.slice a P[k][i].length c, aggB T] W fun e w' => e = .returned (.bool (p T P[k][i])) ∧ Below W.heap.size W w') := hcl
  clear F hok hcl
  have B0 := (Below.refl w.heap.size w).alloc (Nat.le_refl _) (.cells #[.slice a0 P.length c0] 28)
  have HQ0 : Hid ((w.alloc (.cells #[.slice a0 P.length c0] 28)).cell? ⟨w.heap.size, 0, none⟩ = some (.slice a0 P.length c0)) := by show _ = _; simp
  have HR0 : Hid (RD w (.slice a0 P.length c0) (slD (Lay.list (Lay.list Lay.int)) P)) := h0
  have hsb : (w.alloc (.cells #[.slice a0 P.length c0] 28)).heap.size = w.heap.size + 1 := by simp
  clear h0
  go_enter Tryd.func70, Tryd.ntmps70
  go_wp2_with (first | (refine wpList_allocB (w := w.alloc _) rfl 91 rfl 27 bt_flags ?_; rw [hsb]; intro w1 hB1 hb1 hs1) | (refine wpList_allocB (w := w1) rfl 91 rfl 27 bt_flags ?_; intro w2 hB2 hb2 hs2))
  generalize w.alloc (.cells #[.slice a0 P.length c0] 28) = wb at *
  simp only [Act.put, List.setIfInBounds_toArray, List.set_cons_zero, List.set_cons_succ]
  -- what is known below the flags
  have hs1' : w1.heap.size = w.heap.size + 2 := by omega
  have HQ : Hid (∀ W, Below w1.heap.size w2 W → W.cell? ⟨w.heap.size, 0, none⟩ = some (.slice a0 P.length c0) ∧ Below w.heap.size w W ∧ Bits W (w.heap.size + 1) 91 (List.replicate 27 false)) := by
    intro W hW
    have b1 : Below (w.heap.size + 1) wb W := hb1.trans ((hb2.mono (by omega)).trans (hW.mono (by omega)))
    refine ⟨(b1.cell (p := ⟨w.heap.size, 0, none⟩) (by simp)).trans HQ0.out, B0.trans (b1.mono (by omega)), ?_⟩
    exact (hB1.below hb2 (by omega)).below hW (by omega)
  clear HQ0 B0 hB1 hb1 hs1
  clear hb2 hs2
  generalize w1.heap.size = n1 at *
  have hn1w : w.heap.size + 1 < n1 := by omega
  clear hs1' hsb
  go_loopg [] 27 (fun g wr => ∃ T : List Bool, Aside (T.length = 27 ∧ cntB T + g = 27 ∧ Grows (emS p) P (List.replicate 27 false) T ∧ Bits wr n1 91 T ∧ Below n1 w2 wr))
  case atStart => exact ⟨List.replicate 27 false, by simp, by decide, Grows.refl _ _, hB2, Below.refl _ _⟩
  case round =>
    obtain ⟨T, A⟩ := hrel
    have hTl := A.out.1
    have HTg : Hid (cntB T + gk = 27) := A.out.2.1
    have HTG : Hid (Grows (emS p) P (List.replicate 27 false) T) := A.out.2.2.1
    have hBT := A.out.2.2.2.1
    have hbel := A.out.2.2.2.2
    clear A hB2
    have hnr := hBT.lt
    go_wp2_with (first | (refine wpList_loadW rfl 91 _ rfl n1 91 T rfl (at27 hTl) hBT ?_) | (refine wpList_allocB rfl 91 rfl 27 bt_flags ?_; intro w3 hB3 hb3 hs3) | (refine wpList_storeB rfl 91 _ _ rfl wr.heap.size 0 91 _ T rfl rfl (at27 hTl) hB3 (by simp [hTl]) ?_; intro w4 hB4 hg4; obtain ⟨hbel4, hBT4, hBA4⟩ := ahead_facts hbel hnr hBT hb3 hs3 hTl hB4 hg4; obtain ⟨q4, _, _⟩ := HQ.out w4 hbel4))
    have HA : Hid (wr.heap.size < w4.heap.size) := hBA4.lt
    have hnA : n1 < wr.heap.size := hnr
    generalize wr.heap.size = nA at *
    clear hB3 hb3 hs3 hB4 hg4 hBT hbel hnr
    go_loopw [15] (fun s13 wk => ∃ k : Nat, k ≤ P.length ∧ s13 = .int .i64 k ∧ Bits wk n1 91 (leK (emS p) P T k) ∧ Bits wk nA 91 T ∧ Below n1 w2 wk) (fun s13 _ => P.length - (intOf s13).toNat)
    case atStart => exact ⟨0, Nat.zero_le _, rfl, hBT4, hBA4, hbel4⟩
    case round =>
      obtain ⟨k, hk, rfl, hBk, hBA, hbk⟩ := hrel
      clear hBT4 hBA4 hbel4 q4 HA
      by_cases hlk : k < P.length
      · have HK : Hid (leK (emS p) P T (k + 1) = leI (emS p) k P[k] (leK (emS p) P T k) P[k].length) := leK_next hlk
        have hm := List.getElem_mem hlk
        have hQ := HF.out.alts _ hm
        have HC1 : Hid (∀ (W : World) (T : List Bool) (i : Nat) (hi : i < P[k].length) (a : Option Addr) (c : Nat), Below w.heap.size w W → T.length = 27 → RD w (.slice a P[k][i].length c) (slD Lay.int P[k][i]) →
          Calls Tryd.prog 71 #[.slice a P[k][i].length c, aggB T] W fun e w' => e = .returned (.bool (p T P[k][i])) ∧ Below W.heap.size W w') := fun W T i hi a c => HCL.out W T k hlk i hi a c
        have HLe : Hid (∀ i, i ≤ P[k].length → (leI (emS p) k P[k] (leK (emS p) P T k) i).length = 27) := fun i hi => (HRz.out.leI hlk (HRz.out.leK hTl k hk).1 i hi).1
        obtain ⟨b1, o1, ea0, hb1, a1, c1, q0', r1⟩ := HR0.out.listAt hlk
        have HR1 : Hid (RD w (.slice a1 P[k].length c1) (slD (Lay.list Lay.int) P[k])) := r1
        have q0 := ((HQ.out wr hbk).2.1.cell (p := ⟨b1, o1 + k, none⟩) hb1).trans q0'
        subst ea0
        have hk27 : k < 27 := by omega
        clear r1 q0' hm hb1
        generalize leK (emS p) P T k = Tk at *
        generalize P[k] = Q at *
        go_wp2
        go_loopw [22] (fun s20 wk => ∃ i : Nat, i ≤ Q.length ∧ s20 = .int .i64 i ∧ Bits wk n1 91 (leI (emS p) k Q Tk i) ∧ Bits wk nA 91 T ∧ Below n1 w2 wk) (fun s20 _ => Q.length - (intOf s20).toNat)
        case atStart => exact ⟨0, Nat.zero_le _, rfl, hBk, hBA, hbk⟩
        case round =>
          obtain ⟨i, hi, rfl, hBi, hBAi, hbi⟩ := hrel
          clear hBk hBA hbk q0
          by_cases hli : i < Q.length
          · have HE : Hid (leI (emS p) k Q Tk (i + 1) = emS p k Q[i] (leI (emS p) k Q Tk i)) := leI_next hli
            have hTi := HLe.out i hi
            obtain ⟨b2, o2, ea1, hb2, a2, c2, q1', r2⟩ := HR1.out.listAt hli
            have hbw := (HQ.out wr hbi).2.1
            have q1 := (hbw.cell (p := ⟨b2, o2 + i, none⟩) hb2).trans q1'
            subst ea1
            have q2 := hBi.cell (n := k) (by omega)
            have f2 := hBi.frozen k
            have hn1r := hBi.lt
            have HX : Hid (Calls Tryd.prog 71 #[.slice a2 Q[i].length c2, aggB (leI (emS p) k Q Tk i)] wr fun e w' => e = .returned (.bool (p (leI (emS p) k Q Tk i) Q[i])) ∧ Below wr.heap.size wr w') := HC1.out wr _ i hli a2 c2 hbw hTi r2
            clear r2 q1' hb2 hbw
            generalize leI (emS p) k Q Tk i = Ti at *
            generalize Q[i] = R at *
            have key : ∀ (W : World) (v : Bool), Below wr.heap.size wr W → emS p k R Ti = Ti.set k v → Bits (W.setCell ⟨n1, k, none⟩ (.bool v)) n1 91 (leI (emS p) k Q Tk (i + 1)) ∧ Bits (W.setCell ⟨n1, k, none⟩ (.bool v)) nA 91 T ∧ Below n1 w2 (W.setCell ⟨n1, k, none⟩ (.bool v)) := by
              intro W v hW he
              rw [HE.out, he]
              exact ⟨(hBi.later hW).set k v, (hBAi.later hW).grown (setCell_grown W n1 k _) (by intro h; cases h; omega), (hbi.trans (hW.mono (by omega))).setCell (Nat.le_refl _) _⟩
            have HKY : Hid (∀ (W : World) (v : Bool), Below wr.heap.size wr W → emS p k R Ti = Ti.set k v → Bits (W.setCell ⟨n1, k, none⟩ (.bool v)) n1 91 (leI (emS p) k Q Tk (i + 1)) ∧ Bits (W.setCell ⟨n1, k, none⟩ (.bool v)) nA 91 T ∧ Below n1 w2 (W.setCell ⟨n1, k, none⟩ (.bool v))) := key
            clear key
            by_cases hup : Ti.getD k false = true
            · rw [hup] at q2
              have K1 := HKY.out wr true (Below.refl _ _) (emS_yes hup)
              have HK1 : Hid _ := K1
              clear K1 hup HKY HE HX
              go_wp2
              go_roundw
              case rel => exact ⟨i + 1, by omega, by go_num, HK1.out.1, HK1.out.2.1, HK1.out.2.2⟩
              case measure => simp [intOf]; omega
            · have hdn : Ti.getD k false = false := by simpa using hup
              rw [hdn] at q2
              have HK2 : Hid (∀ W, Below wr.heap.size wr W → _) := fun W hW => HKY.out W (p Ti R) hW (emS_no hdn)
              clear hup hdn HKY HE
              go_wp2_with (first | (refine wpList_loadW rfl 91 _ rfl n1 91 Ti rfl (at27 hTi) hBi ?_) | (go_at_call 71; refine HX.out.mono ?_; rintro e w5 ⟨rfl, hb5⟩; have q5 := (hBi.later hb5).cell (n := k) (by omega); have f5 := (hBi.later hb5).frozen k))
              go_roundw
              case rel => exact ⟨i + 1, by omega, by go_num, (HK2.out w5 hb5).1, (HK2.out w5 hb5).2.1, (HK2.out w5 hb5).2.2⟩
              case measure => simp [intOf]; omega
          · have e : i = Q.length := by omega
            subst e
            have HKe := HK
            clear HK
            go_wp2
            go_roundw
            case rel => exact ⟨k + 1, by omega, by go_num, by rw [HKe.out]; exact hBi, hBAi, hbi⟩
            case measure => simp [intOf]; omega
      · have e : k = P.length := by omega
        subst e
        have hLl := (HRz.out.leK hTl P.length (Nat.le_refl _))
        have HL2 : Hid (leK (emS p) P T P.length = T ∨ cntB T < cntB (leK (emS p) P T P.length)) := hLl.2
        have hLl1 := hLl.1
        have HLG : Hid (Grows (emS p) P (List.replicate 27 false) (leK (emS p) P T P.length)) := HTG.out.leK _ (Nat.le_refl _)
        have HLc : Hid (cntB (leK (emS p) P T P.length) ≤ 27) := by show _ ≤ _; have := cntB_le (leK (emS p) P T P.length); omega
        clear hLl
        by_cases hfix : leK (emS p) P T P.length = T
        · have HX : Hid (leK (emS p) P T P.length = T) := hfix
          rw [hfix] at hBk
          clear hfix HL2 hLl1
          have hR := (HQ.out wr hbk).2.2
          have hBel := (HQ.out wr hbk).2.1
          go_wp2_with (first | (refine wpList_loadW rfl 91 _ rfl n1 91 T rfl (at27 hTl) hBk ?_) | (refine wpList_loadW rfl 91 _ rfl nA 91 T rfl (at27 hTl) hBA ?_) | (refine wpList_eqlB rfl 91 _ _ _ rfl T T rfl rfl guard_flags (eq_flags27 hTl hTl) ?_; rw [decide_eq_true (rfl : T = T)]) | (refine wpList_storeB rfl 91 _ _ rfl (w.heap.size + 1) 0 91 _ T rfl rfl (at27 hTl) hR (by simp [hTl]) ?_; intro w5 hB5 hg5))
          have e5 : putB (List.replicate 27 false) 0 T = T := putB_whole (by simp [hTl])
          rw [e5] at hB5
          have hb5 : Below w.heap.size w w5 := hBel.grown hg5 hBel.size (fun j hj => by cases hj; omega)
          refine bodyPost_ret (v := aggB T) (ret_cell 91 rfl rfl hB5 (at27 hTl)) rfl ⟨T, rfl, hTl, HTG.out, HX.out, hb5⟩
        · have hcnt : cntB T < cntB (leK (emS p) P T P.length) := HL2.out.resolve_left hfix
          have hdec : decide (leK (emS p) P T P.length = T) = false := decide_eq_false hfix
          clear hfix HL2
          generalize leK (emS p) P T P.length = T2 at *
          go_wp2_with (first | (refine wpList_loadW rfl 91 _ rfl n1 91 T2 rfl (at27 hLl1) hBk ?_) | (refine wpList_loadW rfl 91 _ rfl nA 91 T rfl (at27 hTl) hBA ?_) | (refine wpList_eqlB rfl 91 _ _ _ rfl T2 T rfl rfl guard_flags (eq_flags27 hLl1 hTl) ?_; rw [hdec]))
          go_roundg (27 - cntB T2)
          case measure => have := HTg.out; have := HLc.out; omega
          case rel => exact ⟨T2, hLl1, by have := HLc.out; omega, HLG.out, hBk, hbk⟩
end Go.Proofs.YtbnieakjhhnlbabDoor
namespace Go.Proofs.YtbnieakjhhnlbabDoor
open Go.RowKit

set_option maxHeartbeats 4000000 in
set_option maxRecDepth 100000 in
theorem leastParts_E (p : List Bool → List Int → Bool) (P : List (List (List Int))) (a0 : Option Addr) (c0 : Nat) (w : World) (h0 : RD w (.slice a0 P.length c0) (slD (Lay.list (Lay.list Lay.int)) P)) (hok : gramOkB P = true)
    (hcl : ∀ (W : World) (T : List Bool) (k : Nat) (hk : k < P.length) (i : Nat) (hi : i < P[k].length) (a : Option Addr) (c : Nat), Below w.heap.size w W → T.length = 27 → RD w (.slice a P[k][i].length c) (slD Lay.int P[k][i]) →
      Calls Tryd.prog 77 #[.slice a P[k][i].length c, aggB T] W fun e w' => e = .returned (.bool (p T P[k][i])) ∧ Below W.heap.size W w') :
    Calls Tryd.prog 70 #[.agg #[.slice a0 P.length c0], .func (.func 77) #[] #[]] w fun e w' => ∃ T, e = .returned (aggB T) ∧ T.length = 27 ∧ Grows (emS p) P (List.replicate 27 false) T ∧ leK (emS p) P T P.length = T ∧ Below w.heap.size w w' := by
  have F := Fits.of hok
  have HF : Hid (Fits P) := F
  have hp := F.parts
  have HRz : Hid (Raises (emS p) P 27) := emS_raises p P
  have HCL : Hid (∀ (W : World) (T : List Bool) (k : Nat) (hk : k < P.length) (i : Nat) (hi : i < P[k].length) (a : Option Addr) (c : Nat), Below w.heap.size w W → T.length = 27 → RD w (.slice a P[k][i].length c) (slD Lay.int P[k][i]) →
      Calls Tryd.prog 77 #[.slice a P[k][i].length c, aggB T] W fun e w' => e = .returned (.bool (p T P[k][i])) ∧ Below W.heap.size W w') := hcl
  clear F hok hcl
  have B0 := (Below.refl w.heap.size w).alloc (Nat.le_refl _) (.cells #[.slice a0 P.length c0] 28)
  have HQ0 : Hid ((w.alloc (.cells #[.slice a0 P.length c0] 28)).cell? ⟨w.heap.size, 0, none⟩ = some (.slice a0 P.length c0)) := by show _ = _; simp
  have HR0 : Hid (RD w (.slice a0 P.length c0) (slD (Lay.list (Lay.list Lay.int)) P)) := h0
  have hsb : (w.alloc (.cells #[.slice a0 P.length c0] 28)).heap.size = w.heap.size + 1 := by simp
  clear h0
  go_enter Tryd.func70, Tryd.ntmps70
  go_wp2_with (first | (refine wpList_allocB (w := w.alloc _) rfl 91 rfl 27 bt_flags ?_; rw [hsb]; intro w1 hB1 hb1 hs1) | (refine wpList_allocB (w := w1) rfl 91 rfl 27 bt_flags ?_; intro w2 hB2 hb2 hs2))
  generalize w.alloc (.cells #[.slice a0 P.length c0] 28) = wb at *
  simp only [Act.put, List.setIfInBounds_toArray, List.set_cons_zero, List.set_cons_succ]
  -- what is known below the flags
  have hs1' : w1.heap.size = w.heap.size + 2 := by omega
  have HQ : Hid (∀ W, Below w1.heap.size w2 W → W.cell? ⟨w.heap.size, 0, none⟩ = some (.slice a0 P.length c0) ∧ Below w.heap.size w W ∧ Bits W (w.heap.size + 1) 91 (List.replicate 27 false)) := by
    intro W hW
    have b1 : Below (w.heap.size + 1) wb W := hb1.trans ((hb2.mono (by omega)).trans (hW.mono (by omega)))
    refine ⟨(b1.cell (p := ⟨w.heap.size, 0, none⟩) (by simp)).trans HQ0.out, B0.trans (b1.mono (by omega)), ?_⟩
    exact (hB1.below hb2 (by omega)).below hW (by omega)
  clear HQ0 B0 hB1 hb1 hs1
  clear hb2 hs2
  generalize w1.heap.size = n1 at *
  have hn1w : w.heap.size + 1 < n1 := by omega
  clear hs1' hsb
  go_loopg [] 27 (fun g wr => ∃ T : List Bool, Aside (T.length = 27 ∧ cntB T + g = 27 ∧ Grows (emS p) P (List.replicate 27 false) T ∧ Bits wr n1 91 T ∧ Below n1 w2 wr))
  case atStart => exact ⟨List.replicate 27 false, by simp, by decide, Grows.refl _ _, hB2, Below.refl _ _⟩
  case round =>
    obtain ⟨T, A⟩ := hrel
    have hTl := A.out.1
    have HTg : Hid (cntB T + gk = 27) := A.out.2.1
    have HTG : Hid (Grows (emS p) P (List.replicate 27 false) T) := A.out.2.2.1
    have hBT := A.out.2.2.2.1
    have hbel := A.out.2.2.2.2
    clear A hB2
    have hnr := hBT.lt
    go_wp2_with (first | (refine wpList_loadW rfl 91 _ rfl n1 91 T rfl (at27 hTl) hBT ?_) | (refine wpList_allocB rfl 91 rfl 27 bt_flags ?_; intro w3 hB3 hb3 hs3) | (refine wpList_storeB rfl 91 _ _ rfl wr.heap.size 0 91 _ T rfl rfl (at27 hTl) hB3 (by simp [hTl]) ?_; intro w4 hB4 hg4; obtain ⟨hbel4, hBT4, hBA4⟩ := ahead_facts hbel hnr hBT hb3 hs3 hTl hB4 hg4; obtain ⟨q4, _, _⟩ := HQ.out w4 hbel4))
    have HA : Hid (wr.heap.size < w4.heap.size) := hBA4.lt
    have hnA : n1 < wr.heap.size := hnr
    generalize wr.heap.size = nA at *
    clear hB3 hb3 hs3 hB4 hg4 hBT hbel hnr
    go_loopw [15] (fun s13 wk => ∃ k : Nat, k ≤ P.length ∧ s13 = .int .i64 k ∧ Bits wk n1 91 (leK (emS p) P T k) ∧ Bits wk nA 91 T ∧ Below n1 w2 wk) (fun s13 _ => P.length - (intOf s13).toNat)
    case atStart => exact ⟨0, Nat.zero_le _, rfl, hBT4, hBA4, hbel4⟩
    case round =>
      obtain ⟨k, hk, rfl, hBk, hBA, hbk⟩ := hrel
      clear hBT4 hBA4 hbel4 q4 HA
      by_cases hlk : k < P.length
      · have HK : Hid (leK (emS p) P T (k + 1) = leI (emS p) k P[k] (leK (emS p) P T k) P[k].length) := leK_next hlk
        have hm := List.getElem_mem hlk
        have hQ := HF.out.alts _ hm
        have HC1 : Hid (∀ (W : World) (T : List Bool) (i : Nat) (hi : i < P[k].length) (a : Option Addr) (c : Nat), Below w.heap.size w W → T.length = 27 → RD w (.slice a P[k][i].length c) (slD Lay.int P[k][i]) →
          Calls Tryd.prog 77 #[.slice a P[k][i].length c, aggB T] W fun e w' => e = .returned (.bool (p T P[k][i])) ∧ Below W.heap.size W w') := fun W T i hi a c => HCL.out W T k hlk i hi a c
        have HLe : Hid (∀ i, i ≤ P[k].length → (leI (emS p) k P[k] (leK (emS p) P T k) i).length = 27) := fun i hi => (HRz.out.leI hlk (HRz.out.leK hTl k hk).1 i hi).1
        obtain ⟨b1, o1, ea0, hb1, a1, c1, q0', r1⟩ := HR0.out.listAt hlk
        have HR1 : Hid (RD w (.slice a1 P[k].length c1) (slD (Lay.list Lay.int) P[k])) := r1
        have q0 := ((HQ.out wr hbk).2.1.cell (p := ⟨b1, o1 + k, none⟩) hb1).trans q0'
        subst ea0
        have hk27 : k < 27 := by omega
        clear r1 q0' hm hb1
        generalize leK (emS p) P T k = Tk at *
        generalize P[k] = Q at *
        go_wp2
        go_loopw [22] (fun s20 wk => ∃ i : Nat, i ≤ Q.length ∧ s20 = .int .i64 i ∧ Bits wk n1 91 (leI (emS p) k Q Tk i) ∧ Bits wk nA 91 T ∧ Below n1 w2 wk) (fun s20 _ => Q.length - (intOf s20).toNat)
        case atStart => exact ⟨0, Nat.zero_le _, rfl, hBk, hBA, hbk⟩
        case round =>
          obtain ⟨i, hi, rfl, hBi, hBAi, hbi⟩ := hrel
          clear hBk hBA hbk q0
          by_cases hli : i < Q.length
          · have HE : Hid (leI (emS p) k Q Tk (i + 1) = emS p k Q[i] (leI (emS p) k Q Tk i)) := leI_next hli
            have hTi := HLe.out i hi
            obtain ⟨b2, o2, ea1, hb2, a2, c2, q1', r2⟩ := HR1.out.listAt hli
            have hbw := (HQ.out wr hbi).2.1
            have q1 := (hbw.cell (p := ⟨b2, o2 + i, none⟩) hb2).trans q1'
            subst ea1
            have q2 := hBi.cell (n := k) (by omega)
            have f2 := hBi.frozen k
            have hn1r := hBi.lt
            have HX : Hid (Calls Tryd.prog 77 #[.slice a2 Q[i].length c2, aggB (leI (emS p) k Q Tk i)] wr fun e w' => e = .returned (.bool (p (leI (emS p) k Q Tk i) Q[i])) ∧ Below wr.heap.size wr w') := HC1.out wr _ i hli a2 c2 hbw hTi r2
            clear r2 q1' hb2 hbw
            generalize leI (emS p) k Q Tk i = Ti at *
            generalize Q[i] = R at *
            have key : ∀ (W : World) (v : Bool), Below wr.heap.size wr W → emS p k R Ti = Ti.set k v → Bits (W.setCell ⟨n1, k, none⟩ (.bool v)) n1 91 (leI (emS p) k Q Tk (i + 1)) ∧ Bits (W.setCell ⟨n1, k, none⟩ (.bool v)) nA 91 T ∧ Below n1 w2 (W.setCell ⟨n1, k, none⟩ (.bool v)) := by
              intro W v hW he
              rw [HE.out, he]
              exact ⟨(hBi.later hW).set k v, (hBAi.later hW).grown (setCell_grown W n1 k _) (by intro h; cases h; omega), (hbi.trans (hW.mono (by omega))).setCell (Nat.le_refl _) _⟩
            have HKY : Hid (∀ (W : World) (v : Bool), Below wr.heap.size wr W → emS p k R Ti = Ti.set k v → Bits (W.setCell ⟨n1, k, none⟩ (.bool v)) n1 91 (leI (emS p) k Q Tk (i + 1)) ∧ Bits (W.setCell ⟨n1, k, none⟩ (.bool v)) nA 91 T ∧ Below n1 w2 (W.setCell ⟨n1, k, none⟩ (.bool v))) := key
            clear key
            by_cases hup : Ti.getD k false = true
            · rw [hup] at q2
              have K1 := HKY.out wr true (Below.refl _ _) (emS_yes hup)
              have HK1 : Hid _ := K1
              clear K1 hup HKY HE HX
              go_wp2
              go_roundw
              case rel => exact ⟨i + 1, by omega, by go_num, HK1.out.1, HK1.out.2.1, HK1.out.2.2⟩
              case measure => simp [intOf]; omega
            · have hdn : Ti.getD k false = false := by simpa using hup
              rw [hdn] at q2
              have HK2 : Hid (∀ W, Below wr.heap.size wr W → _) := fun W hW => HKY.out W (p Ti R) hW (emS_no hdn)
              clear hup hdn HKY HE
              go_wp2_with (first | (refine wpList_loadW rfl 91 _ rfl n1 91 Ti rfl (at27 hTi) hBi ?_) | (go_at_call 77; refine HX.out.mono ?_; rintro e w5 ⟨rfl, hb5⟩; have q5 := (hBi.later hb5).cell (n := k) (by omega); have f5 := (hBi.later hb5).frozen k))
              go_roundw
              case rel => exact ⟨i + 1, by omega, by go_num, (HK2.out w5 hb5).1, (HK2.out w5 hb5).2.1, (HK2.out w5 hb5).2.2⟩
              case measure => simp [intOf]; omega
          · have e : i = Q.length := by omega
            subst e
            have HKe := HK
            clear HK
            go_wp2
            go_roundw
            case rel => exact ⟨k + 1, by omega, by go_num, by rw [HKe.out]; exact hBi, hBAi, hbi⟩
            case measure => simp [intOf]; omega
      · have e : k = P.length := by omega
        subst e
        have hLl := (HRz.out.leK hTl P.length (Nat.le_refl _))
        have HL2 : Hid (leK (emS p) P T P.length = T ∨ cntB T < cntB (leK (emS p) P T P.length)) := hLl.2
        have hLl1 := hLl.1
        have HLG : Hid (Grows (emS p) P (List.replicate 27 false) (leK (emS p) P T P.length)) := HTG.out.leK _ (Nat.le_refl _)
        have HLc : Hid (cntB (leK (emS p) P T P.length) ≤ 27) := by show _ ≤ _; have := cntB_le (leK (emS p) P T P.length); omega
        clear hLl
        by_cases hfix : leK (emS p) P T P.length = T
        · have HX : Hid (leK (emS p) P T P.length = T) := hfix
          rw [hfix] at hBk
          clear hfix HL2 hLl1
          have hR := (HQ.out wr hbk).2.2
          have hBel := (HQ.out wr hbk).2.1
          go_wp2_with (first | (refine wpList_loadW rfl 91 _ rfl n1 91 T rfl (at27 hTl) hBk ?_) | (refine wpList_loadW rfl 91 _ rfl nA 91 T rfl (at27 hTl) hBA ?_) | (refine wpList_eqlB rfl 91 _ _ _ rfl T T rfl rfl guard_flags (eq_flags27 hTl hTl) ?_; rw [decide_eq_true (rfl : T = T)]) | (refine wpList_storeB rfl 91 _ _ rfl (w.heap.size + 1) 0 91 _ T rfl rfl (at27 hTl) hR (by simp [hTl]) ?_; intro w5 hB5 hg5))
          have e5 : putB (List.replicate 27 false) 0 T = T := putB_whole (by simp [hTl])
          rw [e5] at hB5
          have hb5 : Below w.heap.size w w5 := hBel.grown hg5 hBel.size (fun j hj => by cases hj; omega)
          refine bodyPost_ret (v := aggB T) (ret_cell 91 rfl rfl hB5 (at27 hTl)) rfl ⟨T, rfl, hTl, HTG.out, HX.out, hb5⟩
        · have hcnt : cntB T < cntB (leK (emS p) P T P.length) := HL2.out.resolve_left hfix
          have hdec : decide (leK (emS p) P T P.length = T) = false := decide_eq_false hfix
          clear hfix HL2
          generalize leK (emS p) P T P.length = T2 at *
          go_wp2_with (first | (refine wpList_loadW rfl 91 _ rfl n1 91 T2 rfl (at27 hLl1) hBk ?_) | (refine wpList_loadW rfl 91 _ rfl nA 91 T rfl (at27 hTl) hBA ?_) | (refine wpList_eqlB rfl 91 _ _ _ rfl T2 T rfl rfl guard_flags (eq_flags27 hLl1 hTl) ?_; rw [hdec]))
          go_roundg (27 - cntB T2)
          case measure => have := HTg.out; have := HLc.out; omega
          case rel => exact ⟨T2, hLl1, by have := HLc.out; omega, HLG.out, hBk, hbk⟩
end Go.Proofs.YtbnieakjhhnlbabDoor
namespace Go.Proofs.YtbnieakjhhnlbabDoor
open Go.RowKit

/-- One row's step. -/
def eS (k : Nat) (row : List Int) (T : List Bool) : List Bool := bstep T (k, fun b => allB b row)
theorem eS_raises (P : List (List (List Int))) : Raises eS P 27 := fun k _ i _ T hT => ⟨by rw [eS, bstep_length]; exact hT, bstep_or _ _⟩

set_option maxHeartbeats 4000000 in
set_option maxRecDepth 100000 in
theorem emptiesOf_grow (P : List (List (List Int))) (a0 : Option Addr) (c0 : Nat) (w : World) (h0 : RD w (.slice a0 P.length c0) (slD (Lay.list (Lay.list Lay.int)) P)) (hok : gramOkB P = true) :
    Calls Tryd.prog 73 #[.agg #[.slice a0 P.length c0]] w fun e w' => ∃ T, e = .returned (aggB T) ∧ T.length = 27 ∧ Grows eS P (List.replicate 27 false) T ∧ leK eS P T P.length = T ∧ Below w.heap.size w w' := by
  have HX : Hid (∀ W : World, Below w.heap.size w W → Calls Tryd.prog 70 #[.agg #[.slice a0 P.length c0], .func (.func 77) #[] #[]] W fun e w' => ∃ T, e = .returned (aggB T) ∧ T.length = 27 ∧ Grows eS P (List.replicate 27 false) T ∧ leK eS P T P.length = T ∧ Below W.heap.size W w') := by
    intro W hW
    have F := Fits.of hok
    refine leastParts_E allB P a0 c0 W (h0.later hW) hok (fun W2 T k hk i hi a c hb hT hr => ?_)
    have hm := List.getElem_mem hk
    have hm2 := List.getElem_mem hi
    have h8 := F.rows _ hm _ hm2
    exact allOf_any _ a c T W2 (hr.later hb).reads (by omega) (fun z hz => by have := F.syms _ hm _ hm2 z hz; omega) hT
  have B0 := (Below.refl w.heap.size w).alloc (Nat.le_refl _) (.cells #[.slice a0 P.length c0] 28)
  have hsb : (w.alloc (.cells #[.slice a0 P.length c0] 28)).heap.size = w.heap.size + 1 := by simp
  have HQ0 : Hid ((w.alloc (.cells #[.slice a0 P.length c0] 28)).cell? ⟨w.heap.size, 0, none⟩ = some (.slice a0 P.length c0)) := by show _ = _; simp
  clear h0 hok
  go_enter Tryd.func73, Tryd.ntmps73
  go_wp2_with (first | (refine wpList_allocB (w := w.alloc _) rfl 91 rfl 27 bt_flags ?_; rw [hsb]; intro w1 hB1 hb1 hs1; have q1 := (hb1.cell (p := ⟨w.heap.size, 0, none⟩) (by simp)).trans HQ0.out) | (go_at_call 70; refine (HX.out _ (B0.trans (hb1.mono (by omega)))).mono ?_; rintro e w2 ⟨T, rfl, hTl, hG, hF, hb2⟩; have hB2 := hB1.later hb2) | (refine wpList_storeB (w := w2) rfl 91 _ _ rfl (w.heap.size + 1) 0 91 _ T rfl rfl (at27 hTl) hB2 (by simp [hTl]) ?_; intro w3 hB3 hg3))
  have e5 : putB (List.replicate 27 false) 0 T = T := putB_whole (by simp [hTl])
  rw [e5] at hB3
  have b1 : Below w.heap.size w w1 := B0.trans (hb1.mono (by omega))
  have b2 : Below w.heap.size w w2 := b1.trans (hb2.mono b1.size)
  have b3 : Below w.heap.size w w3 := b2.grown hg3 b2.size (fun j hj => by cases hj; omega)
  exact bodyPost_ret (v := aggB T) (ret_cell 91 rfl rfl hB3 (at27 hTl)) rfl ⟨T, rfl, hTl, hG, hF, b3⟩
end Go.Proofs.YtbnieakjhhnlbabDoor
namespace Go.Proofs.YtbnieakjhhnlbabDoor
open Go.RowKit

theorem emptiesL_mem {P : List (List (List Int))} (F : Fits P) {x : Int} (h : x ∈ emptiesL P) : 0 ≤ x ∧ x < 20 := by
  have := (growT_setB (p := allE) P (P.length + 1)).lt x h
  have := F.parts
  omega
theorem rep_getD (m n : Nat) : (List.replicate m false).getD n false = false := by
  rw [List.getD_eq_getElem?_getD, List.getElem?_replicate]
  split <;> rfl
theorem getD_setB (T : List Bool) (k n : Nat) (v : Bool) : (T.set k v).getD n false = if n = k ∧ k < T.length then v else T.getD n false := by
  by_cases e : n = k
  · subst e
    by_cases h : n < T.length
    · simp [List.getD, h]
    · simp [List.getD, h]
  · simp [List.getD, e, Ne.symm e]
theorem allB_of {T : List Bool} {E row : List Int} (hz : ∀ z ∈ row, 0 ≤ z ∧ z < 120) (h : ∀ n : Nat, (n : Int) ∈ E → T.getD n false = true) (g : allE row E = true) : allB T row = true := by
  unfold allE at g
  unfold allB
  rw [List.all_eq_true] at g ⊢
  intro x hx
  have h1 := g x hx
  have h2 := hz x hx
  simp only [Bool.and_eq_true, decide_eq_true_eq] at h1 ⊢
  refine ⟨⟨h1.1, by omega⟩, h _ ?_⟩
  have h3 : x - 100 ∈ E := by simpa [hasL] using h1.2
  rwa [show (((x - 100).toNat : Nat) : Int) = x - 100 by omega]
theorem allE_of {T : List Bool} {E row : List Int} (h : ∀ n : Nat, T.getD n false = true → (n : Int) ∈ E) (g : allB T row = true) : allE row E = true := by
  unfold allB at g
  unfold allE
  rw [List.all_eq_true] at g ⊢
  intro x hx
  have h1 := g x hx
  simp only [Bool.and_eq_true, decide_eq_true_eq] at h1 ⊢
  refine ⟨h1.1.1, ?_⟩
  have h3 := h _ h1.2
  rw [show (((x - 100).toNat : Nat) : Int) = x - 100 by omega] at h3
  exact hasL_yes h3
theorem emptiesOf_is {P : List (List (List Int))} (F : Fits P) {T : List Bool} (hl : T.length = 27) (hG : Grows eS P (List.replicate 27 false) T) (hx : leK eS P T P.length = T) : T = flagsOf (emptiesL P) := by
  have sound : ∀ n : Nat, T.getD n false = true → (n : Int) ∈ emptiesL P := by
    refine hG (fun T => ∀ n : Nat, T.getD n false = true → (n : Int) ∈ emptiesL P) (fun n hn => ?_) (fun k hk i hi T hT n hn => ?_)
    · rw [rep_getD] at hn; cases hn
    · simp only [eS, bstep] at hn
      rw [getD_setB] at hn
      split at hn
      · rename_i e
        rw [Bool.or_eq_true] at hn
        rcases hn with hn | hn
        · rw [e.1]; exact hT k hn
        · rw [e.1]; exact growT_closed hk hi (allE_of hT hn)
      · exact hT n hn
  have fix : ∀ k (hk : k < P.length) i (hi : i < P[k].length), allB T P[k][i] = true → T.getD k false = true := by
    intro k hk i hi ha
    have e := (eS_raises P).fix hl hx hk hi
    have h20 := F.parts
    have := bstep_fix (s := (k, fun b => allB b P[k][i])) e (by show k < T.length; omega) ha
    simp only [List.getD, List.getElem?_eq_getElem (show k < T.length by omega), Option.getD_some]
    exact this
  have compl : ∀ x ∈ emptiesL P, ∃ n : Nat, x = n ∧ T.getD n false = true := by
    refine growT_sound (p := allE) (S := fun x => ∃ n : Nat, x = n ∧ T.getD n false = true) (fun k hk i hi E hE ha => ⟨k, rfl, fix k hk i hi ?_⟩) _
    refine allB_of (E := E) (F.syms _ (List.getElem_mem hk) _ (List.getElem_mem hi)) (fun n hn => ?_) ha
    obtain ⟨m, hm, h⟩ := hE _ hn
    rwa [show n = m by omega]
  apply list_ext_getD (by rw [hl, flagsOf_length])
  intro n hn
  rw [flagsOf_get _ (by omega), Bool.eq_iff_iff]
  constructor
  · intro h; exact hasL_yes (sound n h)
  · intro h
    obtain ⟨m, hm, h2⟩ := compl n (by simpa [hasL] using h)
    rwa [show n = m by omega]
theorem nums_flags {E : List Int} (hs : E.Pairwise (· < ·)) (hb : ∀ x ∈ E, 0 ≤ x ∧ x < 27) {f : Nat → Bool} (hf : ∀ n, n < 27 → f n = hasL E (n : Int)) : numsB f 27 = E := by
  refine eq_of_pair (numsB_sorted _ _) hs fun z => ?_
  rw [mem_numsB]
  constructor
  · rintro ⟨n, h1, rfl, h2⟩
    rw [hf n h1] at h2
    simpa [hasL] using h2
  · intro h
    have hz := hb z h
    refine ⟨z.toNat, by omega, by omega, ?_⟩
    rw [hf _ (by omega), show ((z.toNat : Nat) : Int) = z by omega]
    exact hasL_yes h
theorem allB_flags {E : List Int} (hb : ∀ x ∈ E, 0 ≤ x ∧ x < 20) (row : List Int) : allB (flagsOf E) row = allE row E := by
  unfold allB allE
  congr 1
  funext x
  by_cases h1 : 100 ≤ x
  · by_cases h2 : x - 100 < 20
    · rw [flagsOf_get _ (by omega), show (((x - 100).toNat : Nat) : Int) = x - 100 by omega]
      simp [h1, h2]
    · have : hasL E (x - 100) = false := hasL_no (fun h => by have := hb _ h; omega)
      simp [h2, this]
  · simp [h1]

set_option maxRecDepth 100000 in
theorem emptiesOf_any (P : List (List (List Int))) (a0 : Option Addr) (c0 : Nat) (w : World) (h0 : RD w (.slice a0 P.length c0) (slD (Lay.list (Lay.list Lay.int)) P)) (hok : gramOkB P = true) :
    Calls Tryd.prog 73 #[.agg #[.slice a0 P.length c0]] w fun e w' => e = .returned (aggB (flagsOf (emptiesL P))) ∧ Below w.heap.size w w' := by
  refine (emptiesOf_grow P a0 c0 w h0 hok).mono ?_
  rintro e w' ⟨T, rfl, h1, h2, h3, h4⟩
  exact ⟨by rw [emptiesOf_is (Fits.of hok) h1 h2 h3], h4⟩
end Go.Proofs.YtbnieakjhhnlbabDoor
namespace Go.Proofs.YtbnieakjhhnlbabDoor
open Go.RowKit

/-- All parts of the row are those whose flag is up. -/
def liveB (bs : List Bool) (row : List Int) : Bool := row.all fun x => inB x 0 25 || bs.getD (x - 100).toNat false

set_option maxRecDepth 100000 in
theorem becomesLetters_any (zs : List Int) (a : Option Addr) (c : Nat) (bs : List Bool) (w : World) (h : Reads w a zs) (hl : zs.length ≤ 1048576) (hz : ∀ z ∈ zs, (0 ≤ z ∧ z ≤ 25) ∨ (100 ≤ z ∧ z < 120)) (hb : bs.length = 27) :
    Calls Tryd.prog 71 #[.slice a zs.length c, aggB bs] w fun e w' => e = .returned (.bool (liveB bs zs)) ∧ Below w.heap.size w w' := by
  have HZ : Hid (∀ z ∈ zs, (0 ≤ z ∧ z ≤ 25) ∨ (100 ≤ z ∧ z < 120)) := hz
  clear hz
  go_enter Tryd.func71, Tryd.ntmps71
  go_wp2_with (refine wpList_boxB rfl 91 _ rfl bs rfl ?_; intro w1 hB1 hb1 hs1)
  go_loop [9] (fun s => ∃ k : Nat, k ≤ zs.length ∧ s = .int .i64 k ∧ Hid ((zs.take k).all (fun x => inB x 0 25 || bs.getD (x - 100).toNat false) = true)) (fun s => zs.length - (intOf s).toNat)
  case atStart => exact ⟨0, Nat.zero_le _, rfl, by show _ = _; simp⟩
  case round =>
    obtain ⟨k, hk, rfl, HK⟩ := hrel
    have h1 := h.below hb1
    by_cases hlt : k < zs.length
    · obtain ⟨b, off, rfl, hbb, hc⟩ := h1.at hlt
      have q1 := hc k hlt
      rw [List.getD_eq_getElem?_getD, List.getElem?_eq_getElem hlt, Option.getD_some] at q1
      have hr := HZ.out zs[k] (List.getElem_mem hlt)
      have HS : Hid ((inB zs[k] 0 25 || bs.getD (zs[k] - 100).toNat false) = true → (zs.take (k + 1)).all (fun x => inB x 0 25 || bs.getD (x - 100).toNat false) = true) := fun g => allB_step HK.out hlt g
      have HN : Hid ((inB zs[k] 0 25 || bs.getD (zs[k] - 100).toNat false) = false → liveB bs zs = false) := fun g => allB_no hlt g
      clear hc h h1 HK
      generalize zs[k] = z at *
      by_cases hlet : z ≤ 25
      · have hin : inB z 0 25 = true := inB_true.2 (by omega)
        have X : Hid (∀ W : World, Calls Tryd.prog 47 #[.int .i64 z] W fun e w' => e = .returned (.bool true) ∧ w' = W) := fun W => by have := isLetter_any z W; rwa [hin] at this
        have HSS : Hid _ := HS.out (by rw [hin, Bool.true_or])
        clear HS HN hin
        go_wp2_with (go_at_call 47; refine (X.out _).mono ?_; rintro e w' ⟨rfl, hw'⟩; have hw2 := hw'.symm; clear hw'; subst hw2)
        go_round
        case rel => exact ⟨k + 1, by omega, by go_num, HSS.out⟩
        case measure => simp [intOf]; omega
      · have hin : inB z 0 25 = false := inB_false.2 (by omega)
        have X : Hid (∀ W : World, Calls Tryd.prog 47 #[.int .i64 z] W fun e w' => e = .returned (.bool false) ∧ w' = W) := fun W => by have := isLetter_any z W; rwa [hin] at this
        obtain ⟨n, hn⟩ : ∃ n : Nat, z = 100 + (n : Int) := ⟨(z - 100).toNat, by omega⟩
        subst hn
        have hn2 : n < 27 := by omega
        have q2 := hB1.cell (n := n) (by omega)
        have e1 : (100 + (n : Int) - 100).toNat = n := by omega
        have hn0 : (0 : Int) ≤ (n : Int) := by omega
        have hn1 : (n : Int) < 27 := by omega
        rw [e1, hin, Bool.false_or] at HS HN
        clear hin e1 hlet hr
        by_cases z3 : bs.getD n false = true
        · rw [z3] at q2
          have HSS : Hid _ := HS.out z3
          clear HS HN z3
          go_wp2_with (go_at_call 47; refine (X.out _).mono ?_; rintro e w' ⟨rfl, hw'⟩; have hw2 := hw'.symm; clear hw'; subst hw2)
          go_round
          case rel => exact ⟨k + 1, by omega, by go_num, HSS.out⟩
          case measure => simp [intOf]; omega
        · have z4 : bs.getD n false = false := by simpa using z3
          rw [z4] at q2
          have HNN : Hid (liveB bs zs = false) := HN.out z4
          clear HS HN z3 z4
          go_wp2_with (go_at_call 47; refine (X.out _).mono ?_; rintro e w' ⟨rfl, hw'⟩; have hw2 := hw'.symm; clear hw'; subst hw2)
          go_ret
          exact ⟨ret_bool (by rw [HNN.out]), hb1⟩
    · have HE : Hid (liveB bs zs = true) := allB_end HK.out hlt
      clear h h1 HK
      go_wp2
      go_ret
      exact ⟨ret_bool (by rw [HE.out]), hb1⟩

theorem symsLet {P : List (List (List Int))} (hok : gramOkB P = true) {k : Nat} (hk : k < P.length) {i : Nat} (hi : i < P[k].length) : ∀ z ∈ P[k][i], (0 ≤ z ∧ z ≤ 25) ∨ (100 ≤ z ∧ z < 100 + P.length) := by
  intro z h3
  simp only [gramOkB, Bool.and_eq_true, List.all_eq_true, partOk, rowOk, decide_eq_true_eq] at hok
  exact symOk_true.1 (((hok.2 _ (List.getElem_mem hk)).2 _ (List.getElem_mem hi)).2 z h3)
/-- The flags that are found are those of the set that is grown, where the tests are one. -/
theorem leastParts_is {pB : List Bool → List Int → Bool} {pE : List Int → List Int → Bool} {P : List (List (List Int))} (F : Fits P)
    (hs : ∀ k (hk : k < P.length) i (hi : i < P[k].length) T E, (∀ n : Nat, T.getD n false = true → (n : Int) ∈ E) → pB T P[k][i] = true → pE P[k][i] E = true)
    (hc : ∀ k (hk : k < P.length) i (hi : i < P[k].length) T E, (∀ n : Nat, (n : Int) ∈ E → T.getD n false = true) → pE P[k][i] E = true → pB T P[k][i] = true)
    {T : List Bool} (hl : T.length = 27) (hG : Grows (emS pB) P (List.replicate 27 false) T) (hx : leK (emS pB) P T P.length = T) : T = flagsOf (growT pE P (P.length + 1)) := by
  have sound : ∀ n : Nat, T.getD n false = true → (n : Int) ∈ growT pE P (P.length + 1) := by
    refine hG (fun T => ∀ n : Nat, T.getD n false = true → (n : Int) ∈ growT pE P (P.length + 1)) (fun n hn => ?_) (fun k hk i hi T hT n hn => ?_)
    · rw [rep_getD] at hn; cases hn
    · simp only [emS, bstep] at hn
      rw [getD_setB] at hn
      split at hn
      · rename_i e
        rw [Bool.or_eq_true] at hn
        rcases hn with hn | hn
        · rw [e.1]; exact hT k hn
        · rw [e.1]; exact growT_closed hk hi (hs k hk i hi T _ hT hn)
      · exact hT n hn
  have fix : ∀ k (hk : k < P.length) i (hi : i < P[k].length), pB T P[k][i] = true → T.getD k false = true := by
    intro k hk i hi ha
    have e := (emS_raises pB P).fix hl hx hk hi
    have h20 := F.parts
    have := bstep_fix (s := (k, fun b => pB b P[k][i])) e (by show k < T.length; omega) ha
    simp only [List.getD, List.getElem?_eq_getElem (show k < T.length by omega), Option.getD_some]
    exact this
  have compl : ∀ x ∈ growT pE P (P.length + 1), ∃ n : Nat, x = n ∧ T.getD n false = true := by
    refine growT_sound (p := pE) (S := fun x => ∃ n : Nat, x = n ∧ T.getD n false = true) (fun k hk i hi E hE ha => ⟨k, rfl, fix k hk i hi ?_⟩) _
    refine hc k hk i hi T E (fun n hn => ?_) ha
    obtain ⟨m, hm, h⟩ := hE _ hn
    rwa [show n = m by omega]
  apply list_ext_getD (by rw [hl, flagsOf_length])
  intro n hn
  rw [flagsOf_get _ (by omega), Bool.eq_iff_iff]
  constructor
  · intro h; exact hasL_yes (sound n h)
  · intro h
    obtain ⟨m, hm, h2⟩ := compl n (by simpa [hasL] using h)
    rwa [show n = m by omega]
theorem liveB_all {bs : List Bool} {row : List Int} : liveB bs row = true ↔ ∀ x ∈ row, inB x 0 25 = true ∨ bs.getD (x - 100).toNat false = true := by
  unfold liveB
  rw [List.all_eq_true]
  exact ⟨fun h x hx => by have := h x hx; rwa [Bool.or_eq_true] at this, fun h x hx => by have := h x hx; rwa [Bool.or_eq_true]⟩
theorem aliveE_all {E row : List Int} : aliveE row E = true ↔ ∀ x ∈ row, ¬ 100 ≤ x ∨ x - 100 ∈ E := by
  unfold aliveE
  rw [List.all_eq_true]
  exact ⟨fun h x hx => by have := h x hx; simpa [hasL] using this, fun h x hx => by have := h x hx; simpa [hasL] using this⟩
theorem productiveOf_is {P : List (List (List Int))} (hok : gramOkB P = true) {T : List Bool} (hl : T.length = 27) (hG : Grows (emS liveB) P (List.replicate 27 false) T) (hx : leK (emS liveB) P T P.length = T) : T = flagsOf (aliveL P) := by
  refine leastParts_is (Fits.of hok) (pE := aliveE) (fun k hk i hi T E hT h => ?_) (fun k hk i hi T E hE h => ?_) hl hG hx
  · rw [liveB_all] at h
    rw [aliveE_all]
    intro x hx
    have hz := symsLet hok hk hi x hx
    rcases h x hx with h1 | h1
    · left; have := inB_true.1 h1; omega
    · by_cases g : 100 ≤ x
      · right; have := hT _ h1; rwa [show (((x - 100).toNat : Nat) : Int) = x - 100 by omega] at this
      · exact .inl g
  · rw [aliveE_all] at h
    rw [liveB_all]
    intro x hx
    have hz := symsLet hok hk hi x hx
    rcases h x hx with h1 | h1
    · left; exact inB_true.2 (by omega)
    · by_cases g : 100 ≤ x
      · right; exact hE _ (by rwa [show (((x - 100).toNat : Nat) : Int) = x - 100 by omega])
      · left; exact inB_true.2 (by omega)

set_option maxHeartbeats 4000000 in
set_option maxRecDepth 100000 in
theorem productiveOf_any (P : List (List (List Int))) (a0 : Option Addr) (c0 : Nat) (w : World) (h0 : RD w (.slice a0 P.length c0) (slD (Lay.list (Lay.list Lay.int)) P)) (hok : gramOkB P = true) :
    Calls Tryd.prog 64 #[.agg #[.slice a0 P.length c0]] w fun e w' => e = .returned (aggB (flagsOf (aliveL P))) ∧ Below w.heap.size w w' := by
  have HX : Hid (∀ W : World, Below w.heap.size w W → Calls Tryd.prog 70 #[.agg #[.slice a0 P.length c0], .func (.func 71) #[] #[]] W fun e w' => e = .returned (aggB (flagsOf (aliveL P))) ∧ Below W.heap.size W w') := by
    intro W hW
    have F := Fits.of hok
    have := leastParts_P liveB P a0 c0 W (h0.later hW) hok (fun W2 T k hk i hi a c hb hT hr => by
      have hm := List.getElem_mem hk
      have hm2 := List.getElem_mem hi
      have h8 := F.rows _ hm _ hm2
      have hp := F.parts
      exact becomesLetters_any _ a c T W2 (hr.later hb).reads (by omega) (fun z hz => by have := symsLet hok hk hi z hz; omega) hT)
    refine this.mono ?_
    rintro e w' ⟨T, rfl, h1, h2, h3, h4⟩
    exact ⟨by rw [productiveOf_is hok h1 h2 h3], h4⟩
  have B0 := (Below.refl w.heap.size w).alloc (Nat.le_refl _) (.cells #[.slice a0 P.length c0] 28)
  have hsb : (w.alloc (.cells #[.slice a0 P.length c0] 28)).heap.size = w.heap.size + 1 := by simp
  have HQ0 : Hid ((w.alloc (.cells #[.slice a0 P.length c0] 28)).cell? ⟨w.heap.size, 0, none⟩ = some (.slice a0 P.length c0)) := by show _ = _; simp
  have hTl := flagsOf_length (aliveL P)
  clear h0 hok
  generalize flagsOf (aliveL P) = T at *
  go_enter Tryd.func64, Tryd.ntmps64
  go_wp2_with (first | (refine wpList_allocB (w := w.alloc _) rfl 91 rfl 27 bt_flags ?_; rw [hsb]; intro w1 hB1 hb1 hs1; have q1 := (hb1.cell (p := ⟨w.heap.size, 0, none⟩) (by simp)).trans HQ0.out) | (go_at_call 70; refine (HX.out _ (B0.trans (hb1.mono (by omega)))).mono ?_; rintro e w2 ⟨rfl, hb2⟩; have hB2 := hB1.later hb2) | (refine wpList_storeB (w := w2) rfl 91 _ _ rfl (w.heap.size + 1) 0 91 _ T rfl rfl (at27 hTl) hB2 (by simp [hTl]) ?_; intro w3 hB3 hg3))
  have e5 : putB (List.replicate 27 false) 0 T = T := putB_whole (by simp [hTl])
  rw [e5] at hB3
  have b1 : Below w.heap.size w w1 := B0.trans (hb1.mono (by omega))
  have b2 : Below w.heap.size w w2 := b1.trans (hb2.mono b1.size)
  have b3 : Below w.heap.size w w3 := b2.grown hg3 b2.size (fun j hj => by cases hj; omega)
  exact bodyPost_ret (v := aggB T) (ret_cell 91 rfl rfl hB3 (at27 hTl)) rfl ⟨rfl, b3⟩
end Go.Proofs.YtbnieakjhhnlbabDoor
namespace Go.Proofs.YtbnieakjhhnlbabDoor
open Go.RowKit

/-- The parts that stand in a grammar are its own. -/
def SymsIn (P : List (List (List Int))) : Prop := ∀ alts ∈ P, ∀ row ∈ alts, ∀ z ∈ row, 100 ≤ z → z - 100 < P.length
theorem SymsIn.of {P : List (List (List Int))} (hok : gramOkB P = true) : SymsIn P := by
  intro alts h1 row h2 z h3 h4
  simp only [gramOkB, Bool.and_eq_true, List.all_eq_true, partOk, rowOk, decide_eq_true_eq] at hok
  have := symOk_true.1 (((hok.2 alts h1).2 row h2).2 z h3)
  omega
theorem all_steps {f : Nat → List Int} (h : ∀ i, f (i + 1) = f i ∨ (f i).length < (f (i + 1)).length) (i : Nat) : f i = f 0 ∨ (f 0).length < (f i).length := by
  induction i with
  | zero => exact .inl rfl
  | succ i ih =>
    rcases h i with h1 | h1
    · rw [h1]; exact ih
    · rcases ih with ih | ih
      · rw [ih] at h1; exact .inr h1
      · exact .inr (by omega)
theorem reachJ_step (R E : List Int) (j : Nat) : reachJ R E (j + 1) = reachJ R E j ∨ (reachJ R E j).length < (reachJ R E (j + 1)).length := by
  rw [reachJ]
  split
  · exact addL_same_or _ _
  · exact .inl rfl
theorem reachI_step (Q : List (List Int)) (E : List Int) (i : Nat) : reachI Q E (i + 1) = reachI Q E i ∨ (reachI Q E i).length < (reachI Q E (i + 1)).length := by
  rw [reachI]; exact all_steps (f := reachJ _ (reachI Q E i)) (reachJ_step _ _) _
theorem reachK_step (P : List (List (List Int))) (E : List Int) (k : Nat) : reachK P E (k + 1) = reachK P E k ∨ (reachK P E k).length < (reachK P E (k + 1)).length := by
  rw [reachK]
  split
  · exact all_steps (f := reachI _ (reachK P E k)) (reachI_step _ _) _
  · exact .inl rfl
theorem reachT_step (P : List (List (List Int))) (t : Nat) : reachT P (t + 1) = reachT P t ∨ (reachT P t).length < (reachT P (t + 1)).length := by
  rw [reachT]; exact all_steps (f := reachK P (reachT P t)) (reachK_step _ _) _
section
variable {P : List (List (List Int))} {S : List Int → Prop}
/-- What holds of the beginning and is kept where a part that may be reached is put in, holds at the end. -/
theorem reachT_keeps (h0 : S [0]) (hS : ∀ k (hk : k < P.length) i (hi : i < P[k].length) j (hj : j < P[k][i].length) (E : List Int), S E → (k : Int) ∈ E → 100 ≤ P[k][i][j] → S (addL E (P[k][i][j] - 100))) (t : Nat) : S (reachT P t) := by
  have sJ : ∀ k (hk : k < P.length) i (hi : i < P[k].length) E, S E → (k : Int) ∈ E → ∀ j, j ≤ P[k][i].length → S (reachJ P[k][i] E j) ∧ (k : Int) ∈ reachJ P[k][i] E j := by
    intro k hk i hi E hE hm j
    induction j with
    | zero => exact fun _ => ⟨hE, hm⟩
    | succ j ih =>
      intro hj
      obtain ⟨h1, h2⟩ := ih (by omega)
      by_cases g : 100 ≤ P[k][i][j]
      · rw [reachJ_yes (by omega) g]
        exact ⟨hS k hk i hi j (by omega) _ h1 h2 g, mem_addL.2 (.inr h2)⟩
      · rw [reachJ_no (by omega) g]; exact ⟨h1, h2⟩
  have sI : ∀ k (hk : k < P.length) E, S E → (k : Int) ∈ E → ∀ i, i ≤ P[k].length → S (reachI P[k] E i) ∧ (k : Int) ∈ reachI P[k] E i := by
    intro k hk E hE hm i
    induction i with
    | zero => exact fun _ => ⟨hE, hm⟩
    | succ i ih =>
      intro hi
      obtain ⟨h1, h2⟩ := ih (by omega)
      rw [reachI_next (by omega)]
      exact sJ k hk i (by omega) _ h1 h2 _ (Nat.le_refl _)
  have sK : ∀ E, S E → ∀ k, k ≤ P.length → S (reachK P E k) := by
    intro E hE k
    induction k with
    | zero => exact fun _ => hE
    | succ k ih =>
      intro hk
      have h1 := ih (by omega)
      cases g : hasL (reachK P E k) k
      · rw [reachK_no g]; exact h1
      · rw [reachK_yes (by omega) g]
        exact (sI k (by omega) _ h1 (by simpa [hasL] using g) _ (Nat.le_refl _)).1
  induction t with
  | zero => exact h0
  | succ t ih => rw [reachT]; exact sK _ ih _ (Nat.le_refl _)
end
theorem reachT_setB {P : List (List (List Int))} (h : SymsIn P) (hp : 0 < P.length) (t : Nat) : SetB (P.length : Int) (reachT P t) := by
  refine reachT_keeps (S := SetB (P.length : Int)) ⟨by simp, fun x hx => by simp at hx; subst hx; omega⟩ (fun k hk i hi j hj E hE _ g => hE.add (by omega) ?_) t
  exact h _ (List.getElem_mem hk) _ (List.getElem_mem hi) _ (List.getElem_mem hj) g
theorem reachT_sorted (P : List (List (List Int))) (t : Nat) : (reachT P t).Pairwise (· < ·) :=
  reachT_keeps (S := List.Pairwise (· < ·)) (by simp) (fun _ _ _ _ _ _ _ hE _ _ => pair_addL hE) t
theorem reachT_sound {P : List (List (List Int))} {S : Int → Prop} (h0 : S 0) (hS : ∀ k (hk : k < P.length) i (hi : i < P[k].length) j (hj : j < P[k][i].length), S k → 100 ≤ P[k][i][j] → S (P[k][i][j] - 100)) (t : Nat) : ∀ x ∈ reachT P t, S x :=
  reachT_keeps (S := fun E => ∀ x ∈ E, S x) (fun x hx => by simp at hx; subst hx; exact h0) (fun k hk i hi j hj E hE hm g x hx => by
    rcases mem_addL.1 hx with rfl | hx
    · exact hS k hk i hi j hj (hE _ hm) g
    · exact hE x hx) t
theorem reachT_zero (P : List (List (List Int))) (t : Nat) : (0 : Int) ∈ reachT P t :=
  reachT_keeps (S := fun E => (0 : Int) ∈ E) (by simp) (fun _ _ _ _ _ _ _ hE _ _ => mem_addL.2 (.inr hE)) t
theorem reachT_closed {P : List (List (List Int))} (h : SymsIn P) (hp : 0 < P.length) {k i j : Nat} (hk : k < P.length) (hi : i < P[k].length) (hj : j < P[k][i].length) (hm : (k : Int) ∈ reachT P (P.length + 1)) (g : 100 ≤ P[k][i][j]) : P[k][i][j] - 100 ∈ reachT P (P.length + 1) := by
  have fx : reachK P (reachT P (P.length + 1)) P.length = reachT P (P.length + 1) :=
    turns_fix (F := fun E => reachK P E P.length) (f := reachT P) (m := List.length) (fun t => rfl) (reachT_step P) (fun t => (reachT_setB h hp t).len)
  generalize reachT P (P.length + 1) = E at *
  have hK := steps_fix (f := reachK P E) (m := List.length) (reachK_step P E) fx
  have e1 : reachI P[k] E P[k].length = E := by
    have := reachK_yes (E := E) hk (by rw [hK k (by omega)]; exact hasL_yes hm)
    rw [hK (k + 1) (by omega), hK k (by omega)] at this
    exact this.symm
  have hI := steps_fix (f := reachI P[k] E) (m := List.length) (reachI_step P[k] E) e1
  have e2 : reachJ P[k][i] E P[k][i].length = E := by
    have := reachI_next (E := E) hi
    rw [hI (i + 1) (by omega), hI i (by omega)] at this
    exact this.symm
  have hJ := steps_fix (f := reachJ P[k][i] E) (m := List.length) (reachJ_step P[k][i] E) e2
  have e3 := hJ (j + 1) (by omega)
  have e4 : reachJ P[k][i] E j = E := hJ j (by omega)
  rw [reachJ_yes hj g, e4] at e3
  exact addL_fix e3
end Go.Proofs.YtbnieakjhhnlbabDoor
