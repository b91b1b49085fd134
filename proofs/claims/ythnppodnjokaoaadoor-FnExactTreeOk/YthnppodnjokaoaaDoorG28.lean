/-
  Contracts and plain mathematics, joined: Check. No statement is proved here.
-/
import Derived.Test.YthnppodnjokaoaaDoorG27
import Derived.Test.YthnppodnjokaoaaDoorG14
namespace Go.Proofs.YthnppodnjokaoaaDoor
open Go.RowKit

section
variable {P : Program}
theorem exec_neqB {ρ : Operand → Value} {o : Oper} {w : World} {ty rt : TypeId} {x y : Operand} {us bs : List Bool} (ho : o.op = .binOp .neq ty x y rt) (hx : ρ x = aggB us) (hy : ρ y = aggB bs) (hg : P.eqGuardType P.depth ty = false) (he : (Op.equalIn 10000 ty (aggB us) (aggB bs)).run P w = .ok (decide (us = bs)) w) :
    (execOp ρ o).run P w = .ok (.value (.bool (!decide (us = bs)))) w := by
  unfold execOp
  unfold aggB at *
  simp only [ho, hx, hy, Sem.run_bind, run_eqGuard_agg w _ _ _ _ _ _ hg, Result.andThen_ok, run_neq_struct, he, Sem.run_pure]
end

/-- What is refused. -/
def refV (a0 a1 a2 a3 : Addr) (P : List (List (List Int))) : Value :=
  if gramOkB P then (if loopB (startsL P) then errV a1 else if decide (flagsOf (aliveL P) = parB P.length) then (if decide (flagsOf (reachL P) = parB P.length) then .nilIface else errV a3) else errV a2) else errV a0

set_option maxHeartbeats 4000000 in
set_option maxRecDepth 100000 in
theorem refusalOf_any (x : Gm) (a0 : Option Addr) (c0 : Nat) (e0 e1 e2 e3 : Addr) (w : World) (h0 : RD w (.slice a0 x.parts.length c0) (slD (Lay.list (Lay.list Lay.int)) x.parts)) (hn : Lay.gram.wt x ≤ 1048576) (hf : Lay.gram.fit x) (hE : Errs w e0 e1 e2 e3) :
    Calls Tryd.prog 81 #[.agg #[.slice a0 x.parts.length c0]] w fun e w' => e = .returned (refV e0 e1 e2 e3 x.parts) ∧ Below w.heap.size w w' := by
  have B0 := (Below.refl w.heap.size w).alloc (Nat.le_refl _) (.cells #[.slice a0 x.parts.length c0] 28)
  have HOK : Hid (∀ W : World, Below w.heap.size w W → Calls Tryd.prog 71 #[.agg #[.slice a0 x.parts.length c0]] W fun e w' => e = .returned (.bool (gramOkB x.parts)) ∧ Below W.heap.size W w') := fun W hW => gramOk_any x a0 c0 W (h0.later hW) hn hf
  have HPI : Hid (gramOkB x.parts = true → ∀ W : World, Calls Tryd.prog 100 #[.agg #[.slice a0 x.parts.length c0]] W fun e w' => e = .returned (aggB (parB x.parts.length)) ∧ Below W.heap.size W w') := fun hk W => partsIn_any x.parts.length a0 c0 W (Fits.of hk).parts
  have HAL : Hid (gramOkB x.parts = true → ∀ W : World, Below w.heap.size w W → Calls Tryd.prog 101 #[.agg #[.slice a0 x.parts.length c0]] W fun e w' => e = .returned (.bool (loopB (startsL x.parts))) ∧ Below W.heap.size W w') := fun hk W hW => anyLoop_any x.parts a0 c0 W (h0.later hW) hk
  have HPR : Hid (gramOkB x.parts = true → ∀ W : World, Below w.heap.size w W → Calls Tryd.prog 102 #[.agg #[.slice a0 x.parts.length c0]] W fun e w' => e = .returned (aggB (flagsOf (aliveL x.parts))) ∧ Below W.heap.size W w') := fun hk W hW => productiveOf_any x.parts a0 c0 W (h0.later hW) hk
  have HRE : Hid (gramOkB x.parts = true → ∀ W : World, Below w.heap.size w W → Calls Tryd.prog 103 #[.agg #[.slice a0 x.parts.length c0]] W fun e w' => e = .returned (aggB (flagsOf (reachL x.parts))) ∧ Below W.heap.size W w') := fun hk W hW => reachableOf_any x.parts a0 c0 W (h0.later hW) hk
  have HEE : Hid (∀ W : World, Below w.heap.size w W → Errs W e0 e1 e2 e3) := fun W hW => hE.later hW
  have hPl := parB_length x.parts.length
  have hAl := flagsOf_length (aliveL x.parts)
  have hRl := flagsOf_length (reachL x.parts)
  obtain ⟨rv, HRV⟩ : ∃ rv, Hid (refV e0 e1 e2 e3 x.parts = rv) := ⟨_, rfl⟩
  have HR2 : Hid (refV e0 e1 e2 e3 x.parts = if gramOkB x.parts then (if loopB (startsL x.parts) then errV e1 else if decide (flagsOf (aliveL x.parts) = parB x.parts.length) then (if decide (flagsOf (reachL x.parts) = parB x.parts.length) then .nilIface else errV e3) else errV e2) else errV e0) := rfl
  rw [HRV.out] at HR2 ⊢
  clear HRV
  clear h0 hn hf hE
  generalize loopB (startsL x.parts) = lp at *
  generalize flagsOf (aliveL x.parts) = TA at *
  generalize flagsOf (reachL x.parts) = TR at *
  generalize gramOkB x.parts = ok at *
  generalize x.parts = P at *
  cases ok
  · have HF : Hid (rv = errV e0) := HR2.out
    clear HPI HAL HPR HRE HR2
    go_enter Tryd.func81, Tryd.ntmps81
    go_wp2_with fail
    refine (HOK.out _ B0).mono ?_
    rintro e w1 ⟨rfl, hb1⟩
    have B1 := B0.trans (hb1.mono B0.size)
    have q := (HEE.out w1 B1).g0
    clear HOK HEE B0 hb1
    go_wp2
    go_ret
    exact ⟨by rw [HF.out]; rfl, B1⟩
  · have HF : Hid (rv = if lp then errV e1 else if decide (TA = parB P.length) then (if decide (TR = parB P.length) then .nilIface else errV e3) else errV e2) := HR2.out
    have HPI2 : Hid (∀ W : World, Calls Tryd.prog 100 #[.agg #[.slice a0 P.length c0]] W fun e w' => e = .returned (aggB (parB P.length)) ∧ Below W.heap.size W w') := HPI.out rfl
    have HAL2 : Hid (∀ W : World, Below w.heap.size w W → Calls Tryd.prog 101 #[.agg #[.slice a0 P.length c0]] W fun e w' => e = .returned (.bool lp) ∧ Below W.heap.size W w') := HAL.out rfl
    have HPR2 : Hid (∀ W : World, Below w.heap.size w W → Calls Tryd.prog 102 #[.agg #[.slice a0 P.length c0]] W fun e w' => e = .returned (aggB TA) ∧ Below W.heap.size W w') := HPR.out rfl
    have HRE2 : Hid (∀ W : World, Below w.heap.size w W → Calls Tryd.prog 103 #[.agg #[.slice a0 P.length c0]] W fun e w' => e = .returned (aggB TR) ∧ Below W.heap.size W w') := HRE.out rfl
    clear HPI HAL HPR HRE HR2
    obtain ⟨PB, HPB⟩ : ∃ PB, Hid (parB P.length = PB) := ⟨_, rfl⟩
    rw [HPB.out] at HF HPI2 hPl
    clear HPB
    go_enter Tryd.func81, Tryd.ntmps81
    go_wp2_with fail
    refine (HOK.out _ B0).mono ?_
    rintro e w1 ⟨rfl, hb1⟩
    have g1 : w1.cell? ⟨w.heap.size, 0, none⟩ = some (.slice a0 P.length c0) := (hb1.cell (p := ⟨w.heap.size, 0, none⟩) (by simp)).trans (by simp)
    have b1 := B0.trans (hb1.mono B0.size)
    clear HOK B0 hb1
    go_wp2_with fail
    refine (HPI2.out _).mono ?_
    rintro e w2 ⟨rfl, hb2⟩
    have hl1 : w.heap.size < w1.heap.size := World.block_lt_of_cell? _ _ g1
    have g2 := (hb2.cell (p := ⟨w.heap.size, 0, none⟩) hl1).trans g1
    have b2 := b1.trans (hb2.mono b1.size)
    have hl2 : w.heap.size < w2.heap.size := World.block_lt_of_cell? _ _ g2
    clear HPI2 hb2 g1 b1 hl1
    go_wp2_with (first | (refine wpList_allocB (w := w2) rfl 134 rfl 27 bt_flags ?_; intro w3 hB3 hb3 hs3) | (refine wpList_storeB (w := w3) rfl 134 _ _ rfl w2.heap.size 0 134 _ PB rfl rfl (at27 hPl) hB3 (by rw [List.length_replicate, hPl]; decide) ?_; intro w4 hB4 hg4; rw [putB_whole (by rw [List.length_replicate]; exact hPl)] at hB4; have g4 : w4.cell? ⟨w.heap.size, 0, none⟩ = some (.slice a0 P.length c0) := (World.cell?_of_block (w := w3) (a := ⟨w.heap.size, 0, none⟩) (hg4.block w.heap.size (by omega) (some_ne (by omega)))).trans ((hb3.cell (p := ⟨w.heap.size, 0, none⟩) hl2).trans g2)))
    have b4 : Below w.heap.size w w4 := (b2.trans (hb3.mono b2.size)).grown hg4 (by have := b2.size; omega) (fun j hj => by cases hj; exact b2.size)
    clear hB3 hb3 hs3 hg4 g2 b2
    have hl4 : w.heap.size < w4.heap.size := World.block_lt_of_cell? _ _ g4
    generalize w2.heap.size = nA at *
    refine (HAL2.out _ b4).mono ?_
    rintro e w5 ⟨rfl, hb5⟩
    have b5 := b4.trans (hb5.mono b4.size)
    have g5 := (hb5.cell (p := ⟨w.heap.size, 0, none⟩) hl4).trans g4
    have hB5 := hB4.later hb5
    have hl5 : w.heap.size < w5.heap.size := World.block_lt_of_cell? _ _ g5
    clear HAL2 hb5 g4 b4 hB4 hl4 hl2
    cases lp
    · have HF2 : Hid (rv = if decide (TA = PB) then (if decide (TR = PB) then .nilIface else errV e3) else errV e2) := HF.out
      clear HF
      go_wp2_with fail
      refine wp_region_held_drew (S := fun X => X.cell? ⟨w.heap.size, 0, none⟩ = some (.slice a0 P.length c0) ∧ Bits X nA 134 PB) (by kernel_rfl) ⟨by rw [World.cell?_drew]; exact g5, hB5.later (Below.drew (Below.refl _ _))⟩ (fun hHeld => ?_)
      refine take_atL (i := 0) (d := some 15) (v := .agg #[.slice a0 P.length c0]) rfl rfl (by kernel_rfl) (by kernel_rfl) (by kernel_rfl) (fun _ _ _ h => h) (by rfl) ?_ hHeld ?_
      · intro w' hSw; obtain ⟨s0, _⟩ := hSw; go_simp; try rfl
      try simp only [Act.put, List.setIfInBounds_toArray, List.set_cons_zero, List.set_cons_succ]
      refine take_atL (i := 2) (d := some 17) (v := aggB PB) rfl rfl (by kernel_rfl) (by kernel_rfl) (by kernel_rfl) (fun _ _ _ h => h) (by rfl) ?_ hHeld ?_
      · intro w' hSw; exact exec_loadW (t := 134) (b := nA) rfl rfl (at27 hPl) hSw.2
      try simp only [Act.put, List.setIfInBounds_toArray, List.set_cons_zero, List.set_cons_succ]
      refine wpAnyH_ready (rs := [1]) (by kernel_rfl) (by simp) ?_
      refine AllReadyH.cons (o := _) rfl (fun K hK => ?_) AllReadyH.nil
      rw [if_pos (by rfl)]
      go_simp
      refine (HPR2.out _ (Below.drew b5)).mono ?_
      rintro e w6 ⟨rfl, hb6⟩
      have b6 : Below w.heap.size w w6 := (Below.drew b5).trans (hb6.mono (Below.drew b5).size)
      have k6 : Below w5.heap.size w5 w6 := Below.drewed (by simpa using hb6)
      have g6 := (k6.cell (p := ⟨w.heap.size, 0, none⟩) hl5).trans g5
      have hB6 := hB5.later k6
      have hl6 : w.heap.size < w6.heap.size := World.block_lt_of_cell? _ _ g6
      go_wp2_with fail
      refine hK.out _ _ ⟨g6, hB6⟩ (fun hHeld => ?_)
      clear hK K
      try simp only [Act.put, List.setIfInBounds_toArray, List.set_cons_zero, List.set_cons_succ]
      refine take_atL (i := 3) (d := some 18) (v := .bool (!decide (TA = PB))) rfl rfl (by kernel_rfl) (by kernel_rfl) (by kernel_rfl) (fun _ _ _ h => h) (by rfl) ?_ hHeld ?_
      · intro w' hSw; exact exec_neqB rfl rfl rfl guard_flags (eq_flags27 hAl hPl)
      try simp only [Act.put, List.setIfInBounds_toArray, List.set_cons_zero, List.set_cons_succ]
      refine take_atL (i := 4) (d := some 14) (v := .bool (!decide (TA = PB))) rfl rfl (by kernel_rfl) (by kernel_rfl) (by kernel_rfl) (fun _ _ _ h => h) (by rfl) ?_ hHeld ?_
      · intro w' hSw; go_simp; try rfl
      try simp only [Act.put, List.setIfInBounds_toArray, List.set_cons_zero, List.set_cons_succ]
      refine wpAnyH_done (by kernel_rfl) ?_ _
      clear hHeld
      by_cases hA : TA = PB
      · have dA : decide (TA = PB) = true := decide_eq_true hA
        have HF3 : Hid (rv = if decide (TR = PB) then .nilIface else errV e3) := by show _ = _; rw [HF2.out, if_pos dA]
        rw [dA]
        clear HF2 dA hA
        go_wp2_with fail
        refine wp_region_held_drew (S := fun X => X.cell? ⟨w.heap.size, 0, none⟩ = some (.slice a0 P.length c0) ∧ Bits X nA 134 PB) (by kernel_rfl) ⟨by rw [World.cell?_drew]; exact g6, hB6.later (Below.drew (Below.refl _ _))⟩ (fun hHeld => ?_)
        refine take_atL (i := 0) (d := some 21) (v := .agg #[.slice a0 P.length c0]) rfl rfl (by kernel_rfl) (by kernel_rfl) (by kernel_rfl) (fun _ _ _ h => h) (by rfl) ?_ hHeld ?_
        · intro w' hSw; obtain ⟨s0, _⟩ := hSw; go_simp; try rfl
        try simp only [Act.put, List.setIfInBounds_toArray, List.set_cons_zero, List.set_cons_succ]
        refine take_atL (i := 2) (d := some 23) (v := aggB PB) rfl rfl (by kernel_rfl) (by kernel_rfl) (by kernel_rfl) (fun _ _ _ h => h) (by rfl) ?_ hHeld ?_
        · intro w' hSw; exact exec_loadW (t := 134) (b := nA) rfl rfl (at27 hPl) hSw.2
        try simp only [Act.put, List.setIfInBounds_toArray, List.set_cons_zero, List.set_cons_succ]
        refine wpAnyH_ready (rs := [1]) (by kernel_rfl) (by simp) ?_
        refine AllReadyH.cons (o := _) rfl (fun K hK => ?_) AllReadyH.nil
        rw [if_pos (by rfl)]
        go_simp
        refine (HRE2.out _ (Below.drew b6)).mono ?_
        rintro e w7 ⟨rfl, hb7⟩
        have b7 : Below w.heap.size w w7 := (Below.drew b6).trans (hb7.mono (Below.drew b6).size)
        have k7 : Below w6.heap.size w6 w7 := Below.drewed (by simpa using hb7)
        have g7 := (k7.cell (p := ⟨w.heap.size, 0, none⟩) hl6).trans g6
        have hB7 := hB6.later k7
        have hl7 : w.heap.size < w7.heap.size := World.block_lt_of_cell? _ _ g7
        go_wp2_with fail
        refine hK.out _ _ ⟨g7, hB7⟩ (fun hHeld => ?_)
        clear hK K
        try simp only [Act.put, List.setIfInBounds_toArray, List.set_cons_zero, List.set_cons_succ]
        refine take_atL (i := 3) (d := some 24) (v := .bool (!decide (TR = PB))) rfl rfl (by kernel_rfl) (by kernel_rfl) (by kernel_rfl) (fun _ _ _ h => h) (by rfl) ?_ hHeld ?_
        · intro w' hSw; exact exec_neqB rfl rfl rfl guard_flags (eq_flags27 hRl hPl)
        try simp only [Act.put, List.setIfInBounds_toArray, List.set_cons_zero, List.set_cons_succ]
        refine take_atL (i := 4) (d := some 20) (v := .bool (!decide (TR = PB))) rfl rfl (by kernel_rfl) (by kernel_rfl) (by kernel_rfl) (fun _ _ _ h => h) (by rfl) ?_ hHeld ?_
        · intro w' hSw; go_simp; try rfl
        try simp only [Act.put, List.setIfInBounds_toArray, List.set_cons_zero, List.set_cons_succ]
        refine wpAnyH_done (by kernel_rfl) ?_ _
        clear hHeld
        by_cases hR : TR = PB
        · have dR : decide (TR = PB) = true := decide_eq_true hR
          have HF4 : Hid (rv = .nilIface) := by show _ = _; rw [HF3.out, if_pos dR]
          rw [dR]
          clear HF3 dR hR
          go_wp2
          go_ret
          exact ⟨by rw [HF4.out]; rfl, b7⟩
        · have dR : decide (TR = PB) = false := decide_eq_false hR
          have HF4 : Hid (rv = errV e3) := by show _ = _; rw [HF3.out, if_neg (by rw [dR]; simp)]
          rw [dR]
          have q := (HEE.out w7 b7).g3
          clear HF3 dR hR HEE
          go_wp2
          go_ret
          exact ⟨by rw [HF4.out]; rfl, b7⟩
      · have dA : decide (TA = PB) = false := decide_eq_false hA
        have HF3 : Hid (rv = errV e2) := by show _ = _; rw [HF2.out, if_neg (by rw [dA]; simp)]
        rw [dA]
        have q := (HEE.out w6 b6).g2
        clear HF2 dA hA HEE
        go_wp2
        go_ret
        exact ⟨by rw [HF3.out]; rfl, b6⟩
    · have HF2 : Hid (rv = errV e1) := HF.out
      have q := (HEE.out w5 b5).g1
      clear HF HEE
      go_wp2
      go_ret
      exact ⟨by rw [HF2.out]; rfl, b5⟩

set_option maxRecDepth 100000 in
theorem codeOf_ref {w : World} {e0 e1 e2 e3 : Addr} (E : Errs w e0 e1 e2 e3) (x : Gm) (hok : gramOkB x.parts = true → x.parts.length ≤ 20) :
    Calls Tryd.prog 80 #[refV e0 e1 e2 e3 x.parts] w fun e w' => e = .returned (.int .i64 (resCheck x)) ∧ w' = w := by
  unfold refV resCheck
  by_cases h1 : gramOkB x.parts = true
  · rw [if_pos h1, if_pos h1]
    have F := Fits.of h1
    have hp := hok h1
    have h0 : 0 < x.parts.length := by
      simp only [gramOkB, Bool.and_eq_true] at h1
      have := inB_true.1 h1.1
      omega
    by_cases h2 : loopB (startsL x.parts) = true
    · rw [if_pos h2, if_pos h2]; exact codeOf_loop E
    · rw [if_neg h2, if_neg h2]
      have hA : flagsOf (aliveL x.parts) = parB x.parts.length ↔ ¬ (aliveL x.parts).length < x.parts.length := flags_all hp (growT_sorted (p := aliveE) x.parts (x.parts.length + 1)) (growT_setB (p := aliveE) x.parts (x.parts.length + 1))
      have hR : flagsOf (reachL x.parts) = parB x.parts.length ↔ ¬ (reachL x.parts).length < x.parts.length := flags_all hp (reachT_sorted x.parts (x.parts.length + 1)) (reachT_setB (SymsIn.of h1) h0 (x.parts.length + 1))
      by_cases h3 : flagsOf (aliveL x.parts) = parB x.parts.length
      · rw [if_pos (decide_eq_true h3), if_neg (hA.1 h3)]
        by_cases h4 : flagsOf (reachL x.parts) = parB x.parts.length
        · rw [if_pos (decide_eq_true h4), if_neg (hR.1 h4)]; exact codeOf_nil E
        · rw [if_neg (by simpa using h4), if_pos (Decidable.not_not.1 (fun h => h4 (hR.2 h)))]; exact codeOf_far E
      · rw [if_neg (by simpa using h3), if_pos (Decidable.not_not.1 (fun h => h3 (hA.2 h)))]; exact codeOf_dead E
  · rw [if_neg h1, if_neg h1]; exact codeOf_bad E
set_option maxRecDepth 100000 in
theorem check_at (x : Gm) (a0 : Option Addr) (c0 : Nat) (e0 e1 e2 e3 : Addr) (w : World) (h0 : RD w (.slice a0 x.parts.length c0) (slD (Lay.list (Lay.list Lay.int)) x.parts)) (hn : Lay.gram.wt x ≤ 1048576) (hf : Lay.gram.fit x) (hE : Errs w e0 e1 e2 e3) :
    Calls Tryd.prog 60 #[.agg #[.slice a0 x.parts.length c0]] w fun e w' => e = .returned (.int .i64 (resCheck x)) ∧ Below w.heap.size w w' := by
  have B0 := (Below.refl w.heap.size w).alloc (Nat.le_refl _) (.cells #[.slice a0 x.parts.length c0] 28)
  have HRF : Hid (∀ W : World, Below w.heap.size w W → Calls Tryd.prog 81 #[.agg #[.slice a0 x.parts.length c0]] W fun e w' => e = .returned (refV e0 e1 e2 e3 x.parts) ∧ Below W.heap.size W w') := fun W hW => refusalOf_any x a0 c0 e0 e1 e2 e3 W (h0.later hW) hn hf (hE.later hW)
  have HCO : Hid (∀ W : World, Below w.heap.size w W → Calls Tryd.prog 80 #[refV e0 e1 e2 e3 x.parts] W fun e w' => e = .returned (.int .i64 (resCheck x)) ∧ w' = W) := fun W hW => codeOf_ref (hE.later hW) x (fun h => (Fits.of h).parts)
  clear h0 hn hf hE
  generalize refV e0 e1 e2 e3 x.parts = rv at *
  obtain ⟨rc, Hrc⟩ : ∃ rc, Hid (resCheck x = rc) := ⟨_, rfl⟩
  rw [Hrc.out] at HCO ⊢
  clear Hrc
  generalize x.parts.length = n at *
  go_enter Tryd.func60, Tryd.ntmps60
  go_wp2_with fail
  refine (HRF.out _ B0).mono ?_
  rintro e w1 ⟨rfl, hb1⟩
  have B1 := B0.trans (hb1.mono B0.size)
  clear HRF hb1 B0
  go_wp2_with fail
  refine (HCO.out _ B1).mono ?_
  rintro e w' ⟨rfl, hw'⟩
  have hw2 := hw'.symm
  clear hw'
  subst hw2
  go_wp2
  go_ret
  exact ⟨rfl, B1⟩
end Go.Proofs.YthnppodnjokaoaaDoor
