/-
  Contracts and plain mathematics, joined: L8New, L8Go, SpecFars, SpecChoose, MaxIdx, SecMath. No statement is proved here.
-/
import Derived.Test.YthnppodnjokaoaaGreatDoorG20
import Derived.Test.YthnppodnjokaoaaGreatDoorG26
import Derived.Deep.CutRange
import Derived.Test.YthnppodnjokaoaaGreatDoorG8
namespace Go.Proofs.YthnppodnjokaoaaGreatDoor
open Go.RowKit

/-- The table of how far, while it is made at block b (w: the world in which it has been laid down): kF rows of the one list, kD of the other. -/
def New8In (n bT : Nat) (w : World) (vF vD : Value) (bF bD τ : Nat → Nat) (kF kD : Nat) (wr : World) : Prop :=
  Half w.heap.size w.heap.size 1 25 3 n (.int .i64 0) 1 τ vF bF kF wr ∧ Half w.heap.size w.heap.size 2 80 4 n (.bool false) 2 τ vD bD kD wr ∧ τ w.heap.size = 0 ∧
    Below w.heap.size w wr ∧ w.heap.size < wr.heap.size ∧ wr.cell? ⟨w.heap.size, 0, none⟩ = some (.pointer (some ⟨bT, 0, none⟩)) ∧ ∀ i, wr.frozen? ⟨w.heap.size, i, none⟩ = false
section
variable {n bT : Nat} {w : World} {vF vD : Value} {bF bD τ : Nat → Nat} {kF kD : Nat} {wr w1 w3 : World} {g3 cap3 : Nat}
theorem New8In.start {tT : TypeId} : New8In n bT w (.slice none 0 0) (.slice none 0 0) (fun _ => 0) (fun _ => 0) (fun _ => 0) 0 0 (w.alloc (.cells #[.pointer (some ⟨bT, 0, none⟩), .slice none 0 0, .slice none 0 0] tT)) := by
  have hb : Below w.heap.size w (w.alloc (.cells #[.pointer (some ⟨bT, 0, none⟩), .slice none 0 0, .slice none 0 0] tT)) := (Below.refl _ _).alloc (Nat.le_refl _) _
  have key : ∀ (W : World) (cs : Array Value) (t : TypeId) (i : Nat), (W.alloc (.cells cs t)).cell? ⟨W.heap.size, i, none⟩ = cs[i]? := fun W cs t i => by simp
  have k2 := fun i => key w #[.pointer (some ⟨bT, 0, none⟩), .slice none 0 0, .slice none 0 0] tT i
  refine ⟨⟨k2 1, World.ownsRow_nil _ _ _ _, fun i h => by omega, fun i h => by omega, fun g h => by simp [Value.ownBlock] at h, fun i h => by omega⟩, ⟨k2 2, World.ownsRow_nil _ _ _ _, fun i h => by omega, fun i h => by omega, fun g h => by simp [Value.ownBlock] at h, fun i h => by omega⟩, rfl, hb, by simp, k2 0, fun i => ?_⟩
  rw [frozen?_alloc_cells]; simp [World.frozen?]
theorem New8In.stepF (h : New8In n bT w vF vD bF bD τ kF kD wr) (hb1 : Below wr.heap.size wr w1) (hs1 : w1.heap.size = wr.heap.size + 2) (hrow : w1.rowIs wr.heap.size 3 n (fun _ => .int .i64 0))
    (hown : w3.ownsRow w.heap.size 25 1 (.slice (some ⟨g3, 0, none⟩) (kF + 1) cap3) (kF + 1) (rowsAt bF n kF ++ [.slice (some ⟨wr.heap.size, 0, none⟩) n n])) (hgr : w1.grownBy w3 vF.ownBlock) (hat : vF.ownBlock = some g3 ∨ g3 = wr.heap.size + 2) :
    (w3.cell? ⟨w.heap.size, 1, none⟩ = some vF ∧ w3.frozen? ⟨w.heap.size, 1, none⟩ = false) ∧ ∃ v' b' τ', New8In n bT w v' vD b' bD τ' (kF + 1) kD (w3.setCell ⟨w.heap.size, 1, none⟩ (.slice (some ⟨g3, 0, none⟩) (kF + 1) cap3)) := by
  obtain ⟨HW, HD, t1, hb, hl, c0, hf⟩ := h
  have hgw : wr.grownBy w3 vF.ownBlock := grownBy_trans (grownBy_of_below hb1 _) hgr
  have nT : ∀ b, τ b = 0 → some b ≠ vF.ownBlock := fun b e e2 => by have := HW.tagV b e2.symm; omega
  have k1 := hgw.block w.heap.size hl (nT _ t1)
  refine ⟨⟨by rw [blk_cell k1]; exact HW.cell, by rw [blk_frozen k1]; exact hf 1⟩, ?_⟩
  obtain ⟨τ', e1, H'⟩ := HW.grown (.inl rfl) hb1 (Nat.le_refl _) hb.size hrow hown hgr (hat.imp id (fun e => by omega)) rfl hl t1
  have t1' : τ' w.heap.size = 0 := by rw [e1 _ hl]; exact t1
  have D1 := HD.kept (τ' := τ') (blk_cell k1) hgw (fun b e => by
    have := HW.tagV b e
    exact ⟨by omega, fun i _ => by omega⟩) e1
  have D2 := D1.kept (τ' := τ') (cell_set_off (x := .slice (some ⟨g3, 0, none⟩) (kF + 1) cap3) (.inr (by decide))) (setCell_grows w3 w.heap.size 1 (.slice (some ⟨g3, 0, none⟩) (kF + 1) cap3)) (fun b e => by
    obtain rfl := Option.some.inj e
    exact ⟨by omega, fun i _ => by omega⟩) (fun _ _ => rfl)
  refine ⟨_, _, τ', H', D2, t1', ?_, ?_, ?_, fun i => ?_⟩
  · exact (hb.grown hgw hb.size (fun k hk => (HW.own.lt k hk).1)).setCell (Nat.le_refl _) _
  · have := hgw.size; simp; omega
  · rw [cell_set_off (.inr (by decide)), blk_cell k1]; exact c0
  · rw [World.frozen?_setCell, blk_frozen k1]; exact hf i
theorem New8In.stepD (h : New8In n bT w vF vD bF bD τ kF kD wr) (hb1 : Below wr.heap.size wr w1) (hs1 : w1.heap.size = wr.heap.size + 2) (hrow : w1.rowIs wr.heap.size 4 n (fun _ => .bool false))
    (hown : w3.ownsRow w.heap.size 80 1 (.slice (some ⟨g3, 0, none⟩) (kD + 1) cap3) (kD + 1) (rowsAt bD n kD ++ [.slice (some ⟨wr.heap.size, 0, none⟩) n n])) (hgr : w1.grownBy w3 vD.ownBlock) (hat : vD.ownBlock = some g3 ∨ g3 = wr.heap.size + 2) :
    (w3.cell? ⟨w.heap.size, 2, none⟩ = some vD ∧ w3.frozen? ⟨w.heap.size, 2, none⟩ = false) ∧ ∃ v' b' τ', New8In n bT w vF v' bF b' τ' kF (kD + 1) (w3.setCell ⟨w.heap.size, 2, none⟩ (.slice (some ⟨g3, 0, none⟩) (kD + 1) cap3)) := by
  obtain ⟨HY, HX, t1, hb, hl, c0, hf⟩ := h
  have hgw : wr.grownBy w3 vD.ownBlock := grownBy_trans (grownBy_of_below hb1 _) hgr
  have nT : ∀ b, τ b = 0 → some b ≠ vD.ownBlock := fun b e e2 => by have := HX.tagV b e2.symm; omega
  have k1 := hgw.block w.heap.size hl (nT _ t1)
  refine ⟨⟨by rw [blk_cell k1]; exact HX.cell, by rw [blk_frozen k1]; exact hf 2⟩, ?_⟩
  obtain ⟨τ', e1, H'⟩ := HX.grown (.inr rfl) hb1 (Nat.le_refl _) hb.size hrow hown hgr (hat.imp id (fun e => by omega)) rfl hl t1
  have t1' : τ' w.heap.size = 0 := by rw [e1 _ hl]; exact t1
  have D1 := HY.kept (τ' := τ') (blk_cell k1) hgw (fun b e => by
    have := HX.tagV b e
    exact ⟨by omega, fun i _ => by omega⟩) e1
  have D2 := D1.kept (τ' := τ') (cell_set_off (x := .slice (some ⟨g3, 0, none⟩) (kD + 1) cap3) (.inr (by decide))) (setCell_grows w3 w.heap.size 2 (.slice (some ⟨g3, 0, none⟩) (kD + 1) cap3)) (fun b e => by
    obtain rfl := Option.some.inj e
    exact ⟨by omega, fun i _ => by omega⟩) (fun _ _ => rfl)
  refine ⟨_, _, τ', D2, H', t1', ?_, ?_, ?_, fun i => ?_⟩
  · exact (hb.grown hgw hb.size (fun k hk => (HX.own.lt k hk).1)).setCell (Nat.le_refl _) _
  · have := hgw.size; simp; omega
  · rw [cell_set_off (.inr (by decide)), blk_cell k1]; exact c0
  · rw [World.frozen?_setCell, blk_frozen k1]; exact hf i
end
set_option maxHeartbeats 8000000 in
set_option maxRecDepth 100000 in
theorem l8New_any (P : List (List (List Int))) (ws : List Int) (aP : Option Addr) (cP : Nat) (aw : Option Addr) (cw : Nat) (wz : World) (hn : ws.length ≤ 10) (hp : P.length ≤ 20) (hp0 : 0 < P.length) :
    Calls Tryz.prog 35 #[.agg #[.slice aP P.length cP], .slice aw ws.length cw] wz fun e w' => ∃ (t : TP) (w2 : World) (f : Nat), e = .returned (.pointer (some ⟨w2.heap.size, 0, none⟩)) ∧ f = w2.heap.size ∧ Hid (Tab P ws (wz.alloc (.cells #[.slice aP P.length cP] 29)) t aP cP aw cw (fun _ => False) w2) ∧ Hid (∃ vF vD bF bD τ, New8In (ws.length + 1) t.bT w2 vF vD bF bD τ P.length P.length w') := by
  have X : Hid (Calls Tryz.prog 51 #[.agg #[.slice aP P.length cP], .slice aw ws.length cw] (wz.alloc (.cells #[.slice aP P.length cP] 29)) fun e w' => ∃ t : TP, e = .returned (.pointer (some ⟨t.bT, 0, none⟩)) ∧ Tab P ws (wz.alloc (.cells #[.slice aP P.length cP] 29)) t aP cP aw cw (fun _ => False) w') := by
    refine (l7New_any P ws aP cP aw cw _ hn hp).mono ?_
    rintro e w' ⟨rfl, H⟩
    obtain ⟨vW, vD, bW, bD, τ, HI⟩ := H.out
    obtain ⟨t, ht, hT⟩ := HI.tab hp0
    exact ⟨t, by rw [ht], hT⟩
  have qG : (wz.alloc (.cells #[.slice aP P.length cP] 29)).cell? ⟨wz.heap.size, 0, none⟩ = some (.slice aP P.length cP) := by simp
  have hGs : wz.heap.size < (wz.alloc (.cells #[.slice aP P.length cP] 29)).heap.size := by simp
  go_enter Tryz.func35, Tryz.ntmps35
  go_wp2_with fail
  refine X.out.mono ?_
  rintro e w ⟨t, rfl, hT⟩
  have HT : Hid (Tab P ws (wz.alloc (.cells #[.slice aP P.length cP] 29)) t aP cP aw cw (fun _ => False) w) := hT
  have hwG : wz.heap.size < w.heap.size := Nat.lt_of_lt_of_le hGs hT.low.size
  have qW : w.cell? ⟨wz.heap.size, 0, none⟩ = some (.slice aP P.length cP) := (hT.low.cell (p := ⟨wz.heap.size, 0, none⟩) hGs).trans qG
  clear X qG hGs hT
  go_wp2
  go_loopw [6] (fun sk wr => ∃ k : Nat, k ≤ P.length ∧ sk = .int .i64 (k : Int) ∧ Hid (∃ vF vD bF bD τ, New8In (ws.length + 1) t.bT w vF vD bF bD τ k k wr)) (fun sk _ => P.length - (intOf sk).toNat)
  case atStart =>
    exact ⟨0, Nat.zero_le _, rfl, _, _, _, _, _, New8In.start⟩
  case round =>
    obtain ⟨wA, hwA⟩ : ∃ y, y = wr := ⟨_, rfl⟩
    subst hwA
    obtain ⟨k, hk, rfl, HK⟩ := hrel
    obtain ⟨vW, vD, bW, bD, τ, HI⟩ := HK.out
    have q0 := (HI.2.2.2.1.cell (p := ⟨wz.heap.size, 0, none⟩) hwG).trans qW
    by_cases hlt : k < P.length
    · have hmk5 := fun wx => run_make_row' (P := Tryz.prog) 25 3 (.int .i64 0) 8 Tryz.underlying25 Tryz.infoInt rfl .i64 .i64 (ws.length + 1) (by omega) (by omega) wx
      have hmk6 := fun wx => run_make_row' (P := Tryz.prog) 80 4 (.bool false) 1 Tryz.underlying80 Tryz.infoBool rfl .i64 .i64 (ws.length + 1) (by omega) (by omega) wx
      rw [show ((ws.length + 1 : Nat) : Int) = (ws.length : Int) + 1 from rfl] at hmk5 hmk6
      go_upto_region 5 with fail
      go_cut [] from 12 to 44 (fun wx => Hid (∃ vF vD bF bD τ, New8In (ws.length + 1) t.bT w vF vD bF bD τ (k + 1) k wx))
      case first =>
        have qc := HI.1.cell
        have hlA := HI.2.2.2.2.1
        have n1 : w.heap.size ≠ wA.heap.size := by omega
        have HBN : Hid (Below wA.heap.size wA (((wA.alloc (.cells (madeCells #[.int .i64 0] (ws.length + 1)) 3)).alloc (.cells #[.slice (some ⟨wA.heap.size, 0, none⟩) (ws.length + 1) (ws.length + 1)] 25))).drew) := (((Below.refl _ _).alloc (Nat.le_refl _) _).alloc (by simp) _).drew
        have HRN : Hid (((wA.alloc (.cells (madeCells #[.int .i64 0] (ws.length + 1)) 3)).alloc (.cells #[.slice (some ⟨wA.heap.size, 0, none⟩) (ws.length + 1) (ws.length + 1)] 25)).drew.rowIs wA.heap.size 3 (ws.length + 1) (fun _ => .int .i64 0)) := rowIs_below (World.rowIs_made wA (.int .i64 0) (ws.length + 1) 3) ((Below.refl _ _).alloc (Nat.le_refl _) _).drew
        have HOWN : Hid (((wA.alloc (.cells (madeCells #[.int .i64 0] (ws.length + 1)) 3)).alloc (.cells #[.slice (some ⟨wA.heap.size, 0, none⟩) (ws.length + 1) (ws.length + 1)] 25)).drew.ownsRow w.heap.size 25 1 vW k (rowsAt bW (ws.length + 1) k)) := HI.1.own.kept (grownBy_of_below HBN.out none) (by cases vW.ownBlock <;> simp)
        have HNEW : Hid (∀ (j : Nat) (u : Value), ([.slice (some ⟨wA.heap.size, 0, none⟩) (ws.length + 1) (ws.length + 1)] : List Value)[j]? = some u → ((wA.alloc (.cells (madeCells #[.int .i64 0] (ws.length + 1)) 3)).alloc (.cells #[.slice (some ⟨wA.heap.size, 0, none⟩) (ws.length + 1) (ws.length + 1)] 25)).drew.cell? ((⟨wA.heap.size + 1, 0, none⟩ : Addr).add j) = some u) := fun j u hu => new_one wA _ _ _ 0 j u hu
        have qc2 : ((wA.alloc (.cells (madeCells #[.int .i64 0] (ws.length + 1)) 3)).alloc (.cells #[.slice (some ⟨wA.heap.size, 0, none⟩) (ws.length + 1) (ws.length + 1)] 25)).cell? ⟨w.heap.size, 1, none⟩ = some vW := (HBN.out.cell (p := ⟨w.heap.size, 1, none⟩) hlA).trans qc
        have HBAS : Hid (w.heap.size ≤ ((wA.alloc (.cells (madeCells #[.int .i64 0] (ws.length + 1)) 3)).alloc (.cells #[.slice (some ⟨wA.heap.size, 0, none⟩) (ws.length + 1) (ws.length + 1)] 25)).drew.heap.size) := by have := HBN.out.size; have := HI.2.2.2.1.size; show _ ≤ _; omega
        have HFIN : Hid (∀ g3 cap3 w3, w3.ownsRow w.heap.size 25 1 (.slice (some ⟨g3, 0, none⟩) (k + 1) cap3) (k + 1) (rowsAt bW (ws.length + 1) k ++ [.slice (some ⟨wA.heap.size, 0, none⟩) (ws.length + 1) (ws.length + 1)]) → ((wA.alloc (.cells (madeCells #[.int .i64 0] (ws.length + 1)) 3)).alloc (.cells #[.slice (some ⟨wA.heap.size, 0, none⟩) (ws.length + 1) (ws.length + 1)] 25)).drew.grownBy w3 vW.ownBlock → (vW.ownBlock = some g3 ∨ g3 = wA.heap.size + 2) →
          w3.cell? ⟨w.heap.size, 1, none⟩ = some vW ∧ w3.frozen? ⟨w.heap.size, 1, none⟩ = false ∧ Hid (∃ vF vD bF bD τ, New8In (ws.length + 1) t.bT w vF vD bF bD τ (k + 1) k (w3.setCell ⟨w.heap.size, 1, none⟩ (.slice (some ⟨g3, 0, none⟩) (k + 1) cap3)))) := fun g3 cap3 w3 h1 h2 h3 => by
            obtain ⟨⟨r1, r2⟩, v', b', τ', r3⟩ := HI.stepF HBN.out (by simp) HRN.out h1 h2 h3
            exact ⟨r1, r2, ⟨v', vD, b', bD, τ', r3⟩⟩
        clear HI HK HBN HRN
        refine wp_region_held_drew (S := (fun w' => True)) (by kernel_rfl) trivial (fun hHeld => ?_)
        refine take_atL (i := 0) (d := some 19) (v := .pointer (some ⟨w.heap.size, 0, none⟩)) rfl rfl (by kernel_rfl) (by kernel_rfl) (by kernel_rfl) (fun _ _ _ h => h) (by rfl) ?_ hHeld ?_
        · intro w' hSw; clear hSw; go_simp; first | done | rfl | (refine wrap_in ?_ ?_ <;> omega) | (intro hbad; exfalso; omega)
        try simp only [Act.put, List.setIfInBounds_toArray, List.set_cons_zero, List.set_cons_succ]
        refine take_atL (i := 1) (d := some 20) (v := .pointer (some ⟨w.heap.size, 0, none⟩)) rfl rfl (by kernel_rfl) (by kernel_rfl) (by kernel_rfl) (fun _ _ _ h => h) (by rfl) ?_ hHeld ?_
        · intro w' hSw; clear hSw; go_simp; first | done | rfl | (refine wrap_in ?_ ?_ <;> omega) | (intro hbad; exfalso; omega)
        try simp only [Act.put, List.setIfInBounds_toArray, List.set_cons_zero, List.set_cons_succ]
        refine take_atL (i := 2) (d := some 21) (v := .pointer (some ⟨w.heap.size, 0, none⟩)) rfl rfl (by kernel_rfl) (by kernel_rfl) (by kernel_rfl) (fun _ _ _ h => h) (by rfl) ?_ hHeld ?_
        · intro w' hSw; clear hSw; go_simp; first | done | rfl | (refine wrap_in ?_ ?_ <;> omega) | (intro hbad; exfalso; omega)
        try simp only [Act.put, List.setIfInBounds_toArray, List.set_cons_zero, List.set_cons_succ]
        refine take_atL (i := 3) (d := some 22) (v := .pointer (some ⟨w.heap.size, 1, none⟩)) rfl rfl (by kernel_rfl) (by kernel_rfl) (by kernel_rfl) (fun _ _ _ h => h) (by rfl) ?_ hHeld ?_
        · intro w' hSw; clear hSw; go_simp; first | done | rfl | (refine wrap_in ?_ ?_ <;> omega) | (intro hbad; exfalso; omega)
        try simp only [Act.put, List.setIfInBounds_toArray, List.set_cons_zero, List.set_cons_succ]
        refine take_atL (i := 5) (d := some 24) (v := .slice aw ws.length cw) rfl rfl (by kernel_rfl) (by kernel_rfl) (by kernel_rfl) (fun _ _ _ h => h) (by rfl) ?_ hHeld ?_
        · intro w' hSw; clear hSw; go_simp; first | done | rfl | (refine wrap_in ?_ ?_ <;> omega) | (intro hbad; exfalso; omega)
        try simp only [Act.put, List.setIfInBounds_toArray, List.set_cons_zero, List.set_cons_succ]
        refine take_atL (i := 6) (d := some 25) (v := .int .i64 ((ws.length : Int))) rfl rfl (by kernel_rfl) (by kernel_rfl) (by kernel_rfl) (fun _ _ _ h => h) (by rfl) ?_ hHeld ?_
        · intro w' hSw; clear hSw; go_simp; first | done | rfl | (refine wrap_in ?_ ?_ <;> omega) | (intro hbad; exfalso; omega)
        try simp only [Act.put, List.setIfInBounds_toArray, List.set_cons_zero, List.set_cons_succ]
        refine take_atL (i := 7) (d := some 26) (v := .int .i64 ((ws.length : Int) + 1)) rfl rfl (by kernel_rfl) (by kernel_rfl) (by kernel_rfl) (fun _ _ _ h => h) (by rfl) ?_ hHeld ?_
        · intro w' hSw; clear hSw; go_simp; first | done | rfl | (refine wrap_in ?_ ?_ <;> omega) | (intro hbad; exfalso; omega)
        try simp only [Act.put, List.setIfInBounds_toArray, List.set_cons_zero, List.set_cons_succ]
        refine wpAnyH_ready (rs := [4, 8]) (by kernel_rfl) (by simp) ?_
        refine AllReadyH.cons (o := _) rfl (fun K hK => ?_) (AllReadyH.cons (o := _) rfl (fun K hK => ?_) AllReadyH.nil)
        · rw [if_pos (by rfl)]
          go_simp
          refine hK.out _ _ trivial (fun hHeld => ?_)
          clear hK K
          try simp only [Act.put, List.setIfInBounds_toArray, List.set_cons_zero, List.set_cons_succ]
          refine wpAnyH_ready (rs := [8]) (by kernel_rfl) (by simp) ?_
          refine AllReadyH.cons (o := _) rfl (fun K hK => ?_) AllReadyH.nil
          rw [if_pos (by rfl)]
          go_simp
          refine hK.out _ _ trivial (fun hHeld => ?_)
          clear hK K
          try simp only [Act.put, List.setIfInBounds_toArray, List.set_cons_zero, List.set_cons_succ]
          refine wpAnyH_ready (rs := [9]) (by kernel_rfl) (by simp) ?_
          refine AllReadyH.cons (o := _) rfl (fun K hK => ?_) AllReadyH.nil
          rw [if_pos (by rfl)]
          go_simp
          refine hK.out _ _ trivial (fun hHeld => ?_)
          clear hK K
          try simp only [Act.put, List.setIfInBounds_toArray, List.set_cons_zero, List.set_cons_succ]
          refine wpAnyH_ready (rs := [10]) (by kernel_rfl) (by simp) ?_
          refine AllReadyH.cons (o := _) rfl (fun K hK => ?_) AllReadyH.nil
          obtain ⟨i0, hi0, hz0, hz1, hz2⟩ := info_parts Tryz.infoIntS
          refine step_append_lies _ (by rfl) _ _ 42 (by rfl) w.heap.size 25 i0 (.slice none 0 0) 1 24 Tryz.underlying42 hi0 hz0 hz1 hz2 rfl (by decide) vW k (rowsAt bW (ws.length + 1) k) (by rfl) HOWN.out ⟨wA.heap.size + 1, 0, none⟩ 1 1 [.slice (some ⟨wA.heap.size, 0, none⟩) (ws.length + 1) (ws.length + 1)] (by rfl) rfl (fun j u hu => HNEW.out j u hu) (by intro u hu; simp at hu; subst hu; rfl) (by decide) (by unfold maxLen; omega) (by omega) HBAS.out (wA.heap.size + 2) (by simp) ?_
          intro g3 cap3 w3 hown3 hgr3 hat3 hlt3
          have HF := HFIN.out g3 cap3 w3 hown3 hgr3 hat3
          clear HFIN
          refine hK.out _ _ trivial (fun hHeld => ?_)
          clear hK K
          try simp only [Act.put, List.setIfInBounds_toArray]
          refine take_atL (i := 11) (d := some 30) (v := .pointer (some ⟨w.heap.size, 0, none⟩)) rfl rfl (by kernel_rfl) (by kernel_rfl) (by kernel_rfl) (fun _ _ _ h => h) (by rfl) ?_ hHeld ?_
          · intro w' hSw; clear hSw; go_simp; first | done | rfl | (refine wrap_in ?_ ?_ <;> omega) | (intro hbad; exfalso; omega)
          try simp only [Act.put]
          refine take_atL (i := 12) (d := some 31) (v := .pointer (some ⟨w.heap.size, 1, none⟩)) rfl rfl (by kernel_rfl) (by kernel_rfl) (by kernel_rfl) (fun _ _ _ h => h) (by rfl) ?_ hHeld ?_
          · intro w' hSw; clear hSw; go_simp; first | done | rfl | (refine wrap_in ?_ ?_ <;> omega) | (intro hbad; exfalso; omega)
          try simp only [Act.put]
          have hc3 := HF.1
          have hf3 := HF.2.1
          refine wpAnyH_ready (rs := [13]) (by kernel_rfl) (by simp) ?_
          refine AllReadyH.cons (o := _) rfl (fun K hK => ?_) AllReadyH.nil
          rw [if_pos (by rfl)]
          go_simp
          refine hK.out _ _ trivial (fun hHeld => ?_)
          clear hK K
          try simp only [Act.put, List.setIfInBounds_toArray, List.set_cons_zero, List.set_cons_succ]
          refine wpAnyH_done (by kernel_rfl) ?_ _
          clear hHeld
          go_wp2_with fail
          go_meet
          case rel => exact HF.2.2
        · rw [if_pos (by rfl)]
          go_simp
          refine hK.out _ _ trivial (fun hHeld => ?_)
          clear hK K
          try simp only [Act.put, List.setIfInBounds_toArray, List.set_cons_zero, List.set_cons_succ]
          refine wpAnyH_ready (rs := [4, 9]) (by kernel_rfl) (by simp) ?_
          refine AllReadyH.cons (o := _) rfl (fun K hK => ?_) (AllReadyH.cons (o := _) rfl (fun K hK => ?_) AllReadyH.nil)
          · rw [if_pos (by rfl)]
            go_simp
            refine hK.out _ _ trivial (fun hHeld => ?_)
            clear hK K
            try simp only [Act.put, List.setIfInBounds_toArray, List.set_cons_zero, List.set_cons_succ]
            refine wpAnyH_ready (rs := [9]) (by kernel_rfl) (by simp) ?_
            refine AllReadyH.cons (o := _) rfl (fun K hK => ?_) AllReadyH.nil
            rw [if_pos (by rfl)]
            go_simp
            refine hK.out _ _ trivial (fun hHeld => ?_)
            clear hK K
            try simp only [Act.put, List.setIfInBounds_toArray, List.set_cons_zero, List.set_cons_succ]
            refine wpAnyH_ready (rs := [10]) (by kernel_rfl) (by simp) ?_
            refine AllReadyH.cons (o := _) rfl (fun K hK => ?_) AllReadyH.nil
            obtain ⟨i0, hi0, hz0, hz1, hz2⟩ := info_parts Tryz.infoIntS
            refine step_append_lies _ (by rfl) _ _ 42 (by rfl) w.heap.size 25 i0 (.slice none 0 0) 1 24 Tryz.underlying42 hi0 hz0 hz1 hz2 rfl (by decide) vW k (rowsAt bW (ws.length + 1) k) (by rfl) HOWN.out ⟨wA.heap.size + 1, 0, none⟩ 1 1 [.slice (some ⟨wA.heap.size, 0, none⟩) (ws.length + 1) (ws.length + 1)] (by rfl) rfl (fun j u hu => HNEW.out j u hu) (by intro u hu; simp at hu; subst hu; rfl) (by decide) (by unfold maxLen; omega) (by omega) HBAS.out (wA.heap.size + 2) (by simp) ?_
            intro g3 cap3 w3 hown3 hgr3 hat3 hlt3
            have HF := HFIN.out g3 cap3 w3 hown3 hgr3 hat3
            clear HFIN
            refine hK.out _ _ trivial (fun hHeld => ?_)
            clear hK K
            try simp only [Act.put, List.setIfInBounds_toArray]
            refine take_atL (i := 11) (d := some 30) (v := .pointer (some ⟨w.heap.size, 0, none⟩)) rfl rfl (by kernel_rfl) (by kernel_rfl) (by kernel_rfl) (fun _ _ _ h => h) (by rfl) ?_ hHeld ?_
            · intro w' hSw; clear hSw; go_simp; first | done | rfl | (refine wrap_in ?_ ?_ <;> omega) | (intro hbad; exfalso; omega)
            try simp only [Act.put]
            refine take_atL (i := 12) (d := some 31) (v := .pointer (some ⟨w.heap.size, 1, none⟩)) rfl rfl (by kernel_rfl) (by kernel_rfl) (by kernel_rfl) (fun _ _ _ h => h) (by rfl) ?_ hHeld ?_
            · intro w' hSw; clear hSw; go_simp; first | done | rfl | (refine wrap_in ?_ ?_ <;> omega) | (intro hbad; exfalso; omega)
            try simp only [Act.put]
            have hc3 := HF.1
            have hf3 := HF.2.1
            refine wpAnyH_ready (rs := [13]) (by kernel_rfl) (by simp) ?_
            refine AllReadyH.cons (o := _) rfl (fun K hK => ?_) AllReadyH.nil
            rw [if_pos (by rfl)]
            go_simp
            refine hK.out _ _ trivial (fun hHeld => ?_)
            clear hK K
            try simp only [Act.put, List.setIfInBounds_toArray, List.set_cons_zero, List.set_cons_succ]
            refine wpAnyH_done (by kernel_rfl) ?_ _
            clear hHeld
            go_wp2_with fail
            go_meet
            case rel => exact HF.2.2
          · rw [if_pos (by rfl)]
            go_simp
            refine hK.out _ _ trivial (fun hHeld => ?_)
            clear hK K
            try simp only [Act.put, List.setIfInBounds_toArray, List.set_cons_zero, List.set_cons_succ]
            refine wpAnyH_ready (rs := [4]) (by kernel_rfl) (by simp) ?_
            refine AllReadyH.cons (o := _) rfl (fun K hK => ?_) AllReadyH.nil
            rw [if_pos (by rfl)]
            go_simp
            refine hK.out _ _ trivial (fun hHeld => ?_)
            clear hK K
            try simp only [Act.put, List.setIfInBounds_toArray, List.set_cons_zero, List.set_cons_succ]
            refine wpAnyH_ready (rs := [10]) (by kernel_rfl) (by simp) ?_
            refine AllReadyH.cons (o := _) rfl (fun K hK => ?_) AllReadyH.nil
            obtain ⟨i0, hi0, hz0, hz1, hz2⟩ := info_parts Tryz.infoIntS
            refine step_append_lies _ (by rfl) _ _ 42 (by rfl) w.heap.size 25 i0 (.slice none 0 0) 1 24 Tryz.underlying42 hi0 hz0 hz1 hz2 rfl (by decide) vW k (rowsAt bW (ws.length + 1) k) (by rfl) HOWN.out ⟨wA.heap.size + 1, 0, none⟩ 1 1 [.slice (some ⟨wA.heap.size, 0, none⟩) (ws.length + 1) (ws.length + 1)] (by rfl) rfl (fun j u hu => HNEW.out j u hu) (by intro u hu; simp at hu; subst hu; rfl) (by decide) (by unfold maxLen; omega) (by omega) HBAS.out (wA.heap.size + 2) (by simp) ?_
            intro g3 cap3 w3 hown3 hgr3 hat3 hlt3
            have HF := HFIN.out g3 cap3 w3 hown3 hgr3 hat3
            clear HFIN
            refine hK.out _ _ trivial (fun hHeld => ?_)
            clear hK K
            try simp only [Act.put, List.setIfInBounds_toArray]
            refine take_atL (i := 11) (d := some 30) (v := .pointer (some ⟨w.heap.size, 0, none⟩)) rfl rfl (by kernel_rfl) (by kernel_rfl) (by kernel_rfl) (fun _ _ _ h => h) (by rfl) ?_ hHeld ?_
            · intro w' hSw; clear hSw; go_simp; first | done | rfl | (refine wrap_in ?_ ?_ <;> omega) | (intro hbad; exfalso; omega)
            try simp only [Act.put]
            refine take_atL (i := 12) (d := some 31) (v := .pointer (some ⟨w.heap.size, 1, none⟩)) rfl rfl (by kernel_rfl) (by kernel_rfl) (by kernel_rfl) (fun _ _ _ h => h) (by rfl) ?_ hHeld ?_
            · intro w' hSw; clear hSw; go_simp; first | done | rfl | (refine wrap_in ?_ ?_ <;> omega) | (intro hbad; exfalso; omega)
            try simp only [Act.put]
            have hc3 := HF.1
            have hf3 := HF.2.1
            refine wpAnyH_ready (rs := [13]) (by kernel_rfl) (by simp) ?_
            refine AllReadyH.cons (o := _) rfl (fun K hK => ?_) AllReadyH.nil
            rw [if_pos (by rfl)]
            go_simp
            refine hK.out _ _ trivial (fun hHeld => ?_)
            clear hK K
            try simp only [Act.put, List.setIfInBounds_toArray, List.set_cons_zero, List.set_cons_succ]
            refine wpAnyH_done (by kernel_rfl) ?_ _
            clear hHeld
            go_wp2_with fail
            go_meet
            case rel => exact HF.2.2
      case rest =>
        clear HI HK q0
        obtain ⟨wA2, hwA⟩ : ∃ y, y = wc := ⟨_, rfl⟩
        subst hwA
        have HK2 : Hid (∃ vF vD bF bD τ, New8In (ws.length + 1) t.bT w vF vD bF bD τ (k + 1) k wA2) := hcut
        clear hcut hmk5
        obtain ⟨vW, vD, bW, bD, τ, HI⟩ := HK2.out
        obtain ⟨wA, hwA⟩ : ∃ y, y = wA2 := ⟨_, rfl⟩
        subst hwA
        go_upto_region 6 with fail
        have qc := HI.2.1.cell
        have hlA := HI.2.2.2.2.1
        have n1 : w.heap.size ≠ wA.heap.size := by omega
        have HBN : Hid (Below wA.heap.size wA (((wA.alloc (.cells (madeCells #[.bool false] (ws.length + 1)) 4)).alloc (.cells #[.slice (some ⟨wA.heap.size, 0, none⟩) (ws.length + 1) (ws.length + 1)] 80))).drew) := (((Below.refl _ _).alloc (Nat.le_refl _) _).alloc (by simp) _).drew
        have HRN : Hid (((wA.alloc (.cells (madeCells #[.bool false] (ws.length + 1)) 4)).alloc (.cells #[.slice (some ⟨wA.heap.size, 0, none⟩) (ws.length + 1) (ws.length + 1)] 80)).drew.rowIs wA.heap.size 4 (ws.length + 1) (fun _ => .bool false)) := rowIs_below (World.rowIs_made wA (.bool false) (ws.length + 1) 4) ((Below.refl _ _).alloc (Nat.le_refl _) _).drew
        have HOWN : Hid (((wA.alloc (.cells (madeCells #[.bool false] (ws.length + 1)) 4)).alloc (.cells #[.slice (some ⟨wA.heap.size, 0, none⟩) (ws.length + 1) (ws.length + 1)] 80)).drew.ownsRow w.heap.size 80 1 vD k (rowsAt bD (ws.length + 1) k)) := HI.2.1.own.kept (grownBy_of_below HBN.out none) (by cases vD.ownBlock <;> simp)
        have HNEW : Hid (∀ (j : Nat) (u : Value), ([.slice (some ⟨wA.heap.size, 0, none⟩) (ws.length + 1) (ws.length + 1)] : List Value)[j]? = some u → ((wA.alloc (.cells (madeCells #[.bool false] (ws.length + 1)) 4)).alloc (.cells #[.slice (some ⟨wA.heap.size, 0, none⟩) (ws.length + 1) (ws.length + 1)] 80)).drew.cell? ((⟨wA.heap.size + 1, 0, none⟩ : Addr).add j) = some u) := fun j u hu => new_one wA _ _ _ 0 j u hu
        have qc2 : ((wA.alloc (.cells (madeCells #[.bool false] (ws.length + 1)) 4)).alloc (.cells #[.slice (some ⟨wA.heap.size, 0, none⟩) (ws.length + 1) (ws.length + 1)] 80)).cell? ⟨w.heap.size, 2, none⟩ = some vD := (HBN.out.cell (p := ⟨w.heap.size, 2, none⟩) hlA).trans qc
        have HBAS : Hid (w.heap.size ≤ ((wA.alloc (.cells (madeCells #[.bool false] (ws.length + 1)) 4)).alloc (.cells #[.slice (some ⟨wA.heap.size, 0, none⟩) (ws.length + 1) (ws.length + 1)] 80)).drew.heap.size) := by have := HBN.out.size; have := HI.2.2.2.1.size; show _ ≤ _; omega
        have HFIN : Hid (∀ g3 cap3 w3, w3.ownsRow w.heap.size 80 1 (.slice (some ⟨g3, 0, none⟩) (k + 1) cap3) (k + 1) (rowsAt bD (ws.length + 1) k ++ [.slice (some ⟨wA.heap.size, 0, none⟩) (ws.length + 1) (ws.length + 1)]) → ((wA.alloc (.cells (madeCells #[.bool false] (ws.length + 1)) 4)).alloc (.cells #[.slice (some ⟨wA.heap.size, 0, none⟩) (ws.length + 1) (ws.length + 1)] 80)).drew.grownBy w3 vD.ownBlock → (vD.ownBlock = some g3 ∨ g3 = wA.heap.size + 2) →
          w3.cell? ⟨w.heap.size, 2, none⟩ = some vD ∧ w3.frozen? ⟨w.heap.size, 2, none⟩ = false ∧ Hid (∃ vF vD bF bD τ, New8In (ws.length + 1) t.bT w vF vD bF bD τ (k + 1) (k + 1) (w3.setCell ⟨w.heap.size, 2, none⟩ (.slice (some ⟨g3, 0, none⟩) (k + 1) cap3)))) := fun g3 cap3 w3 h1 h2 h3 => by
            obtain ⟨⟨r1, r2⟩, v', b', τ', r3⟩ := HI.stepD HBN.out (by simp) HRN.out h1 h2 h3
            exact ⟨r1, r2, ⟨vW, v', bW, b', τ', r3⟩⟩
        clear HI HK2 HBN HRN
        refine wp_region_held_drew (S := (fun w' => True)) (by kernel_rfl) trivial (fun hHeld => ?_)
        refine take_atL (i := 0) (d := some 32) (v := .pointer (some ⟨w.heap.size, 0, none⟩)) rfl rfl (by kernel_rfl) (by kernel_rfl) (by kernel_rfl) (fun _ _ _ h => h) (by rfl) ?_ hHeld ?_
        · intro w' hSw; clear hSw; go_simp; first | done | rfl | (refine wrap_in ?_ ?_ <;> omega) | (intro hbad; exfalso; omega)
        try simp only [Act.put, List.setIfInBounds_toArray, List.set_cons_zero, List.set_cons_succ]
        refine take_atL (i := 1) (d := some 33) (v := .pointer (some ⟨w.heap.size, 0, none⟩)) rfl rfl (by kernel_rfl) (by kernel_rfl) (by kernel_rfl) (fun _ _ _ h => h) (by rfl) ?_ hHeld ?_
        · intro w' hSw; clear hSw; go_simp; first | done | rfl | (refine wrap_in ?_ ?_ <;> omega) | (intro hbad; exfalso; omega)
        try simp only [Act.put, List.setIfInBounds_toArray, List.set_cons_zero, List.set_cons_succ]
        refine take_atL (i := 2) (d := some 34) (v := .pointer (some ⟨w.heap.size, 0, none⟩)) rfl rfl (by kernel_rfl) (by kernel_rfl) (by kernel_rfl) (fun _ _ _ h => h) (by rfl) ?_ hHeld ?_
        · intro w' hSw; clear hSw; go_simp; first | done | rfl | (refine wrap_in ?_ ?_ <;> omega) | (intro hbad; exfalso; omega)
        try simp only [Act.put, List.setIfInBounds_toArray, List.set_cons_zero, List.set_cons_succ]
        refine take_atL (i := 3) (d := some 35) (v := .pointer (some ⟨w.heap.size, 2, none⟩)) rfl rfl (by kernel_rfl) (by kernel_rfl) (by kernel_rfl) (fun _ _ _ h => h) (by rfl) ?_ hHeld ?_
        · intro w' hSw; clear hSw; go_simp; first | done | rfl | (refine wrap_in ?_ ?_ <;> omega) | (intro hbad; exfalso; omega)
        try simp only [Act.put, List.setIfInBounds_toArray, List.set_cons_zero, List.set_cons_succ]
        refine take_atL (i := 5) (d := some 37) (v := .slice aw ws.length cw) rfl rfl (by kernel_rfl) (by kernel_rfl) (by kernel_rfl) (fun _ _ _ h => h) (by rfl) ?_ hHeld ?_
        · intro w' hSw; clear hSw; go_simp; first | done | rfl | (refine wrap_in ?_ ?_ <;> omega) | (intro hbad; exfalso; omega)
        try simp only [Act.put, List.setIfInBounds_toArray, List.set_cons_zero, List.set_cons_succ]
        refine take_atL (i := 6) (d := some 38) (v := .int .i64 ((ws.length : Int))) rfl rfl (by kernel_rfl) (by kernel_rfl) (by kernel_rfl) (fun _ _ _ h => h) (by rfl) ?_ hHeld ?_
        · intro w' hSw; clear hSw; go_simp; first | done | rfl | (refine wrap_in ?_ ?_ <;> omega) | (intro hbad; exfalso; omega)
        try simp only [Act.put, List.setIfInBounds_toArray, List.set_cons_zero, List.set_cons_succ]
        refine take_atL (i := 7) (d := some 39) (v := .int .i64 ((ws.length : Int) + 1)) rfl rfl (by kernel_rfl) (by kernel_rfl) (by kernel_rfl) (fun _ _ _ h => h) (by rfl) ?_ hHeld ?_
        · intro w' hSw; clear hSw; go_simp; first | done | rfl | (refine wrap_in ?_ ?_ <;> omega) | (intro hbad; exfalso; omega)
        try simp only [Act.put, List.setIfInBounds_toArray, List.set_cons_zero, List.set_cons_succ]
        refine wpAnyH_ready (rs := [4, 8]) (by kernel_rfl) (by simp) ?_
        refine AllReadyH.cons (o := _) rfl (fun K hK => ?_) (AllReadyH.cons (o := _) rfl (fun K hK => ?_) AllReadyH.nil)
        · rw [if_pos (by rfl)]
          go_simp
          refine hK.out _ _ trivial (fun hHeld => ?_)
          clear hK K
          try simp only [Act.put, List.setIfInBounds_toArray, List.set_cons_zero, List.set_cons_succ]
          refine wpAnyH_ready (rs := [8]) (by kernel_rfl) (by simp) ?_
          refine AllReadyH.cons (o := _) rfl (fun K hK => ?_) AllReadyH.nil
          rw [if_pos (by rfl)]
          go_simp
          refine hK.out _ _ trivial (fun hHeld => ?_)
          clear hK K
          try simp only [Act.put, List.setIfInBounds_toArray, List.set_cons_zero, List.set_cons_succ]
          refine wpAnyH_ready (rs := [9]) (by kernel_rfl) (by simp) ?_
          refine AllReadyH.cons (o := _) rfl (fun K hK => ?_) AllReadyH.nil
          rw [if_pos (by rfl)]
          go_simp
          refine hK.out _ _ trivial (fun hHeld => ?_)
          clear hK K
          try simp only [Act.put, List.setIfInBounds_toArray, List.set_cons_zero, List.set_cons_succ]
          refine wpAnyH_ready (rs := [10]) (by kernel_rfl) (by simp) ?_
          refine AllReadyH.cons (o := _) rfl (fun K hK => ?_) AllReadyH.nil
          obtain ⟨i0, hi0, hz0, hz1, hz2⟩ := info_parts Tryz.infoBoolS
          refine step_append_lies _ (by rfl) _ _ 65 (by rfl) w.heap.size 80 i0 (.slice none 0 0) 1 24 Tryz.underlying65 hi0 hz0 hz1 hz2 rfl (by decide) vD k (rowsAt bD (ws.length + 1) k) (by rfl) HOWN.out ⟨wA.heap.size + 1, 0, none⟩ 1 1 [.slice (some ⟨wA.heap.size, 0, none⟩) (ws.length + 1) (ws.length + 1)] (by rfl) rfl (fun j u hu => HNEW.out j u hu) (by intro u hu; simp at hu; subst hu; rfl) (by decide) (by unfold maxLen; omega) (by omega) HBAS.out (wA.heap.size + 2) (by simp) ?_
          intro g3 cap3 w3 hown3 hgr3 hat3 hlt3
          have HF := HFIN.out g3 cap3 w3 hown3 hgr3 hat3
          clear HFIN
          refine hK.out _ _ trivial (fun hHeld => ?_)
          clear hK K
          try simp only [Act.put, List.setIfInBounds_toArray]
          refine take_atL (i := 11) (d := some 43) (v := .pointer (some ⟨w.heap.size, 0, none⟩)) rfl rfl (by kernel_rfl) (by kernel_rfl) (by kernel_rfl) (fun _ _ _ h => h) (by rfl) ?_ hHeld ?_
          · intro w' hSw; clear hSw; go_simp; first | done | rfl | (refine wrap_in ?_ ?_ <;> omega) | (intro hbad; exfalso; omega)
          try simp only [Act.put]
          refine take_atL (i := 12) (d := some 44) (v := .pointer (some ⟨w.heap.size, 2, none⟩)) rfl rfl (by kernel_rfl) (by kernel_rfl) (by kernel_rfl) (fun _ _ _ h => h) (by rfl) ?_ hHeld ?_
          · intro w' hSw; clear hSw; go_simp; first | done | rfl | (refine wrap_in ?_ ?_ <;> omega) | (intro hbad; exfalso; omega)
          try simp only [Act.put]
          have hc3 := HF.1
          have hf3 := HF.2.1
          refine wpAnyH_ready (rs := [13]) (by kernel_rfl) (by simp) ?_
          refine AllReadyH.cons (o := _) rfl (fun K hK => ?_) AllReadyH.nil
          rw [if_pos (by rfl)]
          go_simp
          refine hK.out _ _ trivial (fun hHeld => ?_)
          clear hK K
          try simp only [Act.put, List.setIfInBounds_toArray, List.set_cons_zero, List.set_cons_succ]
          refine wpAnyH_done (by kernel_rfl) ?_ _
          clear hHeld
          go_wp2
          go_roundw
          case rel => exact ⟨k + 1, by omega, by go_num, HF.2.2⟩
          case measure => simp [intOf]; omega
        · rw [if_pos (by rfl)]
          go_simp
          refine hK.out _ _ trivial (fun hHeld => ?_)
          clear hK K
          try simp only [Act.put, List.setIfInBounds_toArray, List.set_cons_zero, List.set_cons_succ]
          refine wpAnyH_ready (rs := [4, 9]) (by kernel_rfl) (by simp) ?_
          refine AllReadyH.cons (o := _) rfl (fun K hK => ?_) (AllReadyH.cons (o := _) rfl (fun K hK => ?_) AllReadyH.nil)
          · rw [if_pos (by rfl)]
            go_simp
            refine hK.out _ _ trivial (fun hHeld => ?_)
            clear hK K
            try simp only [Act.put, List.setIfInBounds_toArray, List.set_cons_zero, List.set_cons_succ]
            refine wpAnyH_ready (rs := [9]) (by kernel_rfl) (by simp) ?_
            refine AllReadyH.cons (o := _) rfl (fun K hK => ?_) AllReadyH.nil
            rw [if_pos (by rfl)]
            go_simp
            refine hK.out _ _ trivial (fun hHeld => ?_)
            clear hK K
            try simp only [Act.put, List.setIfInBounds_toArray, List.set_cons_zero, List.set_cons_succ]
            refine wpAnyH_ready (rs := [10]) (by kernel_rfl) (by simp) ?_
            refine AllReadyH.cons (o := _) rfl (fun K hK => ?_) AllReadyH.nil
            obtain ⟨i0, hi0, hz0, hz1, hz2⟩ := info_parts Tryz.infoBoolS
            refine step_append_lies _ (by rfl) _ _ 65 (by rfl) w.heap.size 80 i0 (.slice none 0 0) 1 24 Tryz.underlying65 hi0 hz0 hz1 hz2 rfl (by decide) vD k (rowsAt bD (ws.length + 1) k) (by rfl) HOWN.out ⟨wA.heap.size + 1, 0, none⟩ 1 1 [.slice (some ⟨wA.heap.size, 0, none⟩) (ws.length + 1) (ws.length + 1)] (by rfl) rfl (fun j u hu => HNEW.out j u hu) (by intro u hu; simp at hu; subst hu; rfl) (by decide) (by unfold maxLen; omega) (by omega) HBAS.out (wA.heap.size + 2) (by simp) ?_
            intro g3 cap3 w3 hown3 hgr3 hat3 hlt3
            have HF := HFIN.out g3 cap3 w3 hown3 hgr3 hat3
            clear HFIN
            refine hK.out _ _ trivial (fun hHeld => ?_)
            clear hK K
            try simp only [Act.put, List.setIfInBounds_toArray]
            refine take_atL (i := 11) (d := some 43) (v := .pointer (some ⟨w.heap.size, 0, none⟩)) rfl rfl (by kernel_rfl) (by kernel_rfl) (by kernel_rfl) (fun _ _ _ h => h) (by rfl) ?_ hHeld ?_
            · intro w' hSw; clear hSw; go_simp; first | done | rfl | (refine wrap_in ?_ ?_ <;> omega) | (intro hbad; exfalso; omega)
            try simp only [Act.put]
            refine take_atL (i := 12) (d := some 44) (v := .pointer (some ⟨w.heap.size, 2, none⟩)) rfl rfl (by kernel_rfl) (by kernel_rfl) (by kernel_rfl) (fun _ _ _ h => h) (by rfl) ?_ hHeld ?_
            · intro w' hSw; clear hSw; go_simp; first | done | rfl | (refine wrap_in ?_ ?_ <;> omega) | (intro hbad; exfalso; omega)
            try simp only [Act.put]
            have hc3 := HF.1
            have hf3 := HF.2.1
            refine wpAnyH_ready (rs := [13]) (by kernel_rfl) (by simp) ?_
            refine AllReadyH.cons (o := _) rfl (fun K hK => ?_) AllReadyH.nil
            rw [if_pos (by rfl)]
            go_simp
            refine hK.out _ _ trivial (fun hHeld => ?_)
            clear hK K
            try simp only [Act.put, List.setIfInBounds_toArray, List.set_cons_zero, List.set_cons_succ]
            refine wpAnyH_done (by kernel_rfl) ?_ _
            clear hHeld
            go_wp2
            go_roundw
            case rel => exact ⟨k + 1, by omega, by go_num, HF.2.2⟩
            case measure => simp [intOf]; omega
          · rw [if_pos (by rfl)]
            go_simp
            refine hK.out _ _ trivial (fun hHeld => ?_)
            clear hK K
            try simp only [Act.put, List.setIfInBounds_toArray, List.set_cons_zero, List.set_cons_succ]
            refine wpAnyH_ready (rs := [4]) (by kernel_rfl) (by simp) ?_
            refine AllReadyH.cons (o := _) rfl (fun K hK => ?_) AllReadyH.nil
            rw [if_pos (by rfl)]
            go_simp
            refine hK.out _ _ trivial (fun hHeld => ?_)
            clear hK K
            try simp only [Act.put, List.setIfInBounds_toArray, List.set_cons_zero, List.set_cons_succ]
            refine wpAnyH_ready (rs := [10]) (by kernel_rfl) (by simp) ?_
            refine AllReadyH.cons (o := _) rfl (fun K hK => ?_) AllReadyH.nil
            obtain ⟨i0, hi0, hz0, hz1, hz2⟩ := info_parts Tryz.infoBoolS
            refine step_append_lies _ (by rfl) _ _ 65 (by rfl) w.heap.size 80 i0 (.slice none 0 0) 1 24 Tryz.underlying65 hi0 hz0 hz1 hz2 rfl (by decide) vD k (rowsAt bD (ws.length + 1) k) (by rfl) HOWN.out ⟨wA.heap.size + 1, 0, none⟩ 1 1 [.slice (some ⟨wA.heap.size, 0, none⟩) (ws.length + 1) (ws.length + 1)] (by rfl) rfl (fun j u hu => HNEW.out j u hu) (by intro u hu; simp at hu; subst hu; rfl) (by decide) (by unfold maxLen; omega) (by omega) HBAS.out (wA.heap.size + 2) (by simp) ?_
            intro g3 cap3 w3 hown3 hgr3 hat3 hlt3
            have HF := HFIN.out g3 cap3 w3 hown3 hgr3 hat3
            clear HFIN
            refine hK.out _ _ trivial (fun hHeld => ?_)
            clear hK K
            try simp only [Act.put, List.setIfInBounds_toArray]
            refine take_atL (i := 11) (d := some 43) (v := .pointer (some ⟨w.heap.size, 0, none⟩)) rfl rfl (by kernel_rfl) (by kernel_rfl) (by kernel_rfl) (fun _ _ _ h => h) (by rfl) ?_ hHeld ?_
            · intro w' hSw; clear hSw; go_simp; first | done | rfl | (refine wrap_in ?_ ?_ <;> omega) | (intro hbad; exfalso; omega)
            try simp only [Act.put]
            refine take_atL (i := 12) (d := some 44) (v := .pointer (some ⟨w.heap.size, 2, none⟩)) rfl rfl (by kernel_rfl) (by kernel_rfl) (by kernel_rfl) (fun _ _ _ h => h) (by rfl) ?_ hHeld ?_
            · intro w' hSw; clear hSw; go_simp; first | done | rfl | (refine wrap_in ?_ ?_ <;> omega) | (intro hbad; exfalso; omega)
            try simp only [Act.put]
            have hc3 := HF.1
            have hf3 := HF.2.1
            refine wpAnyH_ready (rs := [13]) (by kernel_rfl) (by simp) ?_
            refine AllReadyH.cons (o := _) rfl (fun K hK => ?_) AllReadyH.nil
            rw [if_pos (by rfl)]
            go_simp
            refine hK.out _ _ trivial (fun hHeld => ?_)
            clear hK K
            try simp only [Act.put, List.setIfInBounds_toArray, List.set_cons_zero, List.set_cons_succ]
            refine wpAnyH_done (by kernel_rfl) ?_ _
            clear hHeld
            go_wp2
            go_roundw
            case rel => exact ⟨k + 1, by omega, by go_num, HF.2.2⟩
            case measure => simp [intOf]; omega
    · have e : k = P.length := by omega
      subst e
      clear HI
      go_wp2
      go_ret
      exact ⟨t, w, _, rfl, rfl, HT, HK⟩
end Go.Proofs.YthnppodnjokaoaaGreatDoor
namespace Go.Proofs.YthnppodnjokaoaaGreatDoor
open Go.RowKit

theorem New8In.two {P : List (List (List Int))} {ws : List Int} {w0 : World} {t : TP} {aP : Option Addr} {cP : Nat} {aw : Option Addr} {cw : Nat} {w2 wr : World} {vF vD : Value} {bF bD τ : Nat → Nat} (h : New8In (ws.length + 1) t.bT w2 vF vD bF bD τ P.length P.length wr)
    (hT : Tab P ws w0 t aP cP aw cw (fun _ => False) w2) (hp : 0 < P.length) : ∃ f : FP, f.bS = w2.heap.size ∧ Two P ws w0 t f aP cP aw cw wr := by
  obtain ⟨HF, HD, t1, hb, hl, c0, hf⟩ := h
  obtain ⟨oF, cF, rfl, lF1, lF2⟩ := HF.own.form hp
  obtain ⟨oD, cD, rfl, lD1, lD2⟩ := HD.own.form hp
  have tF := HF.tagV oF rfl
  have tD := HD.tagV oD rfl
  have fF := HF.tagF
  have fD := HD.tagF
  have lF : ∀ k, k < P.length → bF k < wr.heap.size := fun k hk => (HF.rows k hk).lt
  have lD : ∀ k, k < P.length → bD k < wr.heap.size := fun k hk => (HD.rows k hk).lt
  have hlow := hT.low.size
  obtain ⟨m1, m2, m3, m4⟩ := hT.lt
  have ge : ∀ b k, k < P.length → (b = bF k ∨ b = bD k) → w2.heap.size ≤ b := fun b k hk e => by
    rcases e with e | e
    · rw [e]; exact HF.low k hk
    · rw [e]; exact HD.low k hk
  refine ⟨⟨w2.heap.size, oF, oD, cF, cD, bF, bD⟩, rfl, ⟨(hT.turn (fun b ⟨k, hk, e⟩ => .inr (ge b k hk e))).later hb, ⟨⟨fun i j hi hj e => ?_, fun i j hi hj e => ?_, fun i j hi hj e => ?_, fun ⟨k, hk, e⟩ => ?_, fun ⟨k, hk, e⟩ => ?_, fun ⟨k, hk, e⟩ => ?_, fun b ⟨k, hk, e⟩ => ?_, fun b hb2 => ⟨fun ⟨k, hk, e⟩ => ?_, ?_, ?_, ?_⟩, fun b ⟨k, hk, e⟩ => ?_⟩, ⟨hl, lF2, lD2, fun b ⟨k, hk, e⟩ => ?_⟩, c0, HF.cell, HD.cell, fun k hk => ?_, fun k hk => ?_, fun b ⟨k, hk, e⟩ i => ?_, fun _ _ => false, fun _ _ => 0, fun k i hk hi => ⟨?_, ?_, fun e => by cases e⟩⟩⟩⟩
  · have h1 := fF i hi; have h2 := fF j hj; dsimp only at e; rw [e] at h1; omega
  · have h1 := fD i hi; have h2 := fD j hj; dsimp only at e; rw [e] at h1; omega
  · have h1 := fF i hi; have h2 := fD j hj; dsimp only at e; rw [e] at h1; omega
  · dsimp only at e
    rcases e with e | e
    · have h1 := fF k hk; rw [← e] at h1; omega
    · have h1 := fD k hk; rw [← e] at h1; omega
  · dsimp only at e
    rcases e with e | e
    · have h1 := fF k hk; rw [← e] at h1; omega
    · have h1 := fD k hk; rw [← e] at h1; omega
  · dsimp only at e
    rcases e with e | e
    · have h1 := fF k hk; rw [← e] at h1; omega
    · have h1 := fD k hk; rw [← e] at h1; omega
  · have := ge b k hk e; omega
  · have := ge b k hk e; have := m4 b hb2; omega
  · show b ≠ w2.heap.size; have := m4 b hb2; omega
  · show b ≠ oF; have := m4 b hb2; omega
  · show b ≠ oD; have := m4 b hb2; omega
  · have := ge b k hk e; exact ⟨by omega, by omega, by omega⟩
  · dsimp only at e
    rcases e with e | e
    · rw [e]; exact lF k hk
    · rw [e]; exact lD k hk
  · have := HF.own.cellAt k (by omega)
    rw [this, rowsAt_get _ _ hk]
  · have := HD.own.cellAt k (by omega)
    rw [this, rowsAt_get _ _ hk]
  · dsimp only at e
    rcases e with e | e
    · rw [e]; exact (HF.rows k hk).frozen i
    · rw [e]; exact (HD.rows k hk).frozen i
  · exact (HD.rows k hk).cell (by omega)
  · exact (HF.rows k hk).cell (by omega)

set_option maxHeartbeats 8000000 in
set_option maxRecDepth 100000 in
theorem l8Go_any (P : List (List (List Int))) (row ws : List Int) (aP : Option Addr) (cP : Nat) (ar : Option Addr) (cr : Nat) (aw : Option Addr) (cw : Nat) (i : Nat) (w : World) (h0 : RD w (.slice aP P.length cP) (slD (Lay.list (Lay.list Lay.int)) P)) (hr : Reads w ar row) (hws : Reads w aw ws)
    (hok : gramOkB P = true) (hL : NoLoop P) (hn : ws.length ≤ 10) (hi : i ≤ ws.length) (hrl : row.length ≤ 1048576) (hcr : row.length ≤ cr) (hrow : ∀ x ∈ row, symOk P.length x = true) :
    Calls Tryz.prog 23 #[.agg #[.slice aP P.length cP], .slice ar row.length cr, .slice aw ws.length cw, .int .i64 (i : Int)] w fun e w' => e = .returned (.int .i64 (farOf P row ws i : Int)) ∧ Below w.heap.size w w' := by
  have F := Fits.of hok
  have hp0 : 0 < P.length := by simp only [gramOkB, Bool.and_eq_true, inB_true] at hok; omega
  have hbG : Below w.heap.size w (w.alloc (.cells #[.slice aP P.length cP] 29)) := (Below.refl _ _).alloc (Nat.le_refl _) _
  have hb0 : Below w.heap.size w ((w.alloc (.cells #[.slice aP P.length cP] 29)).alloc (.cells #[.slice aP P.length cP] 29)) := hbG.alloc hbG.size _
  have X : Hid (Calls Tryz.prog 35 #[.agg #[.slice aP P.length cP], .slice aw ws.length cw] (w.alloc (.cells #[.slice aP P.length cP] 29)) fun e w' => ∃ (t : TP) (f : FP), e = .returned (.pointer (some ⟨f.bS, 0, none⟩)) ∧ Two P ws ((w.alloc (.cells #[.slice aP P.length cP] 29)).alloc (.cells #[.slice aP P.length cP] 29)) t f aP cP aw cw w') := by
    refine (l8New_any P ws aP cP aw cw _ hn F.parts hp0).mono ?_
    rintro e w' ⟨t, w2, fb, rfl, _, hT, hN⟩
    obtain ⟨vF, vD, bF, bD, τ, HI⟩ := hN.out
    obtain ⟨f, hf, hTwo⟩ := HI.two hT.out hp0
    exact ⟨t, f, by rw [hf], hTwo⟩
  have HB0 : Hid (Below w.heap.size w ((w.alloc (.cells #[.slice aP P.length cP] 29)).alloc (.cells #[.slice aP P.length cP] 29))) := hb0
  have Y : Hid (∀ (t : TP) (f : FP) (W : World), Two P ws ((w.alloc (.cells #[.slice aP P.length cP] 29)).alloc (.cells #[.slice aP P.length cP] 29)) t f aP cP aw cw W → Calls Tryz.prog 36 #[.pointer (some ⟨f.bS, 0, none⟩), .slice ar row.length cr, .int .i64 (i : Int)] W (FarPost P ws ((w.alloc (.cells #[.slice aP P.length cP] 29)).alloc (.cells #[.slice aP P.length cP] 29)) t f aP cP aw cw W (farRow ws (way P ws) (farP P ws) i row))) := fun t f W hT =>
    l8Row_any row ar cr i W hT (hws.below hb0) hn hi (hr.below hb0) hrl hcr hrow hok hL (h0.later hb0) F.parts (fun s hs hx j hj _ => by
      have := symOk_true.1 (hrow row[s] (List.getElem_mem hs))
      exact l8Part_ok hok hL (hws.below hb0) hn (h0.later hb0) F.parts _ _ j (by omega) hj (Nat.lt_succ_self _))
  have Z : Hid (∀ (t : TP) (f : FP) (W : World) (b0 : Nat), Two P ws ((w.alloc (.cells #[.slice aP P.length cP] 29)).alloc (.cells #[.slice aP P.length cP] 29)) t f aP cP aw cw W → Reads W (some ⟨b0, 0, none⟩) (vecL (deltaV i) ws.length) →
      Calls Tryz.prog 37 #[.pointer (some ⟨t.bT, 0, none⟩), .slice ar row.length cr, .slice (some ⟨b0, 0, none⟩) (ws.length + 1) (ws.length + 1)] W (GoPost P ws ((w.alloc (.cells #[.slice aP P.length cP] 29)).alloc (.cells #[.slice aP P.length cP] 29)) t aP cP aw cw (f.M P.length) W (rowNx ws (way P ws) (deltaV i) row))) := fun t f W b0 h1 h2 =>
    l7Go_ok hok hL (hws.below hb0) hn (h0.later hb0) row ar cr (deltaV i) b0 (ws.length + 1) _ W h1.far.lt.2.2.2 h1.tab (hr.below hb0) hrl h2 (deltaV_le i) hrow F.parts
  have hge : i ≤ farRow ws (way P ws) (farP P ws) i row := farRow_ge _ _ _ _ _
  have hle : farRow ws (way P ws) (farP P ws) i row ≤ ws.length := farRow_le hi (fun k j hj => farP_le P ws k j hj)
  have HE : Hid (farOf P row ws i = farRow ws (way P ws) (farP P ws) i row - i + (if rowNx ws (way P ws) (deltaV i) row ws.length = 0 then 0 else 1)) := rfl
  generalize farRow ws (way P ws) (farP P ws) i row = n at *
  generalize farOf P row ws i = r at *
  obtain ⟨v, HV⟩ : ∃ v, Hid (rowNx ws (way P ws) (deltaV i) row = v) := ⟨_, rfl⟩
  rw [HV.out] at Z HE
  clear hrow hL h0 hr hws hbG hb0 hok F hp0 HV
  have hgeI : (i : Int) ≤ (n : Int) := by omega
  have hleI : (n : Int) ≤ 10 := by omega
  have X2 : Hid (∀ (t : TP) (W : World), W.cell? ⟨t.bT, 1, none⟩ = some (.slice aw ws.length cw) → Calls Tryz.prog 38 #[.pointer (some ⟨t.bT, 0, none⟩), .int .i64 (i : Int)] W fun e w' => ∃ g5, e = .returned (.slice (some ⟨g5, 0, none⟩) (ws.length + 1) (ws.length + 1)) ∧ Reads w' (some ⟨g5, 0, none⟩) (vecL (deltaV i) ws.length) ∧ Below W.heap.size W w') := fun t W h => (l7At_any t.bT aw cw ws.length i W hn hi h).mono (fun e w' h => ⟨_, h.1, h.2.2.1, h.2.2.2⟩)
  generalize hw0 : (w.alloc (.cells #[.slice aP P.length cP] 29)).alloc (.cells #[.slice aP P.length cP] 29) = w0 at *
  clear hw0
  go_enter Tryz.func23, Tryz.ntmps23
  go_wp2_with fail
  refine X.out.mono ?_
  rintro e w1 ⟨t, f, rfl, hT1⟩
  have Y1 := Y.out t f w1 hT1
  clear X Y hT1
  go_wp2_with fail
  refine Y1.mono ?_
  rintro e w2 ⟨rfl, hT2, hW2⟩
  have HT2 : Hid (Two P ws w0 t f aP cP aw cw w2) := hT2
  have q0 := hT2.far.c0
  clear Y1 hT2 hW2
  by_cases hv0 : v ws.length = 0
  · have HR : Hid (r = n - i) := by show _ = _; rw [HE.out, if_pos hv0]; rfl
    clear HE
    go_wp2
    refine wp_region_held_drew (S := (fun w' => w'.cell? ⟨f.bS, 0, none⟩ = some (.pointer (some ⟨t.bT, 0, none⟩)) ∧ True)) (by kernel_rfl) ⟨q0, trivial⟩ (fun hHeld => ?_)
    refine take_atL (i := 0) (d := some 20) (v := .pointer (some ⟨f.bS, 0, none⟩)) rfl rfl (by kernel_rfl) (by kernel_rfl) (by kernel_rfl) (fun _ _ _ h => h) (by rfl) ?_ hHeld ?_
    · intro w' hSw; obtain ⟨s0, _⟩ := hSw; go_simp; first | done | rfl | (refine wrap_in ?_ ?_ <;> omega) | (intro hbad; exfalso; omega) | omega
    try simp only [Act.put, List.setIfInBounds_toArray, List.set_cons_zero, List.set_cons_succ]
    refine take_atL (i := 1) (d := some 21) (v := .pointer (some ⟨f.bS, 0, none⟩)) rfl rfl (by kernel_rfl) (by kernel_rfl) (by kernel_rfl) (fun _ _ _ h => h) (by rfl) ?_ hHeld ?_
    · intro w' hSw; obtain ⟨s0, _⟩ := hSw; go_simp; first | done | rfl | (refine wrap_in ?_ ?_ <;> omega) | (intro hbad; exfalso; omega) | omega
    try simp only [Act.put, List.setIfInBounds_toArray, List.set_cons_zero, List.set_cons_succ]
    refine take_atL (i := 2) (d := some 22) (v := .pointer (some ⟨f.bS, 0, none⟩)) rfl rfl (by kernel_rfl) (by kernel_rfl) (by kernel_rfl) (fun _ _ _ h => h) (by rfl) ?_ hHeld ?_
    · intro w' hSw; obtain ⟨s0, _⟩ := hSw; go_simp; first | done | rfl | (refine wrap_in ?_ ?_ <;> omega) | (intro hbad; exfalso; omega) | omega
    try simp only [Act.put, List.setIfInBounds_toArray, List.set_cons_zero, List.set_cons_succ]
    refine take_atL (i := 3) (d := some 23) (v := .pointer (some ⟨t.bT, 0, none⟩)) rfl rfl (by kernel_rfl) (by kernel_rfl) (by kernel_rfl) (fun _ _ _ h => h) (by rfl) ?_ hHeld ?_
    · intro w' hSw; obtain ⟨s0, _⟩ := hSw; go_simp; first | done | rfl | (refine wrap_in ?_ ?_ <;> omega) | (intro hbad; exfalso; omega) | omega
    try simp only [Act.put, List.setIfInBounds_toArray, List.set_cons_zero, List.set_cons_succ]
    refine take_atL (i := 4) (d := some 24) (v := .slice ar row.length cr) rfl rfl (by kernel_rfl) (by kernel_rfl) (by kernel_rfl) (fun _ _ _ h => h) (by rfl) ?_ hHeld ?_
    · intro w' hSw; obtain ⟨s0, _⟩ := hSw; go_simp; first | done | rfl | (refine wrap_in ?_ ?_ <;> omega) | (intro hbad; exfalso; omega) | omega
    try simp only [Act.put, List.setIfInBounds_toArray, List.set_cons_zero, List.set_cons_succ]
    refine take_atL (i := 5) (d := some 25) (v := .pointer (some ⟨f.bS, 0, none⟩)) rfl rfl (by kernel_rfl) (by kernel_rfl) (by kernel_rfl) (fun _ _ _ h => h) (by rfl) ?_ hHeld ?_
    · intro w' hSw; obtain ⟨s0, _⟩ := hSw; go_simp; first | done | rfl | (refine wrap_in ?_ ?_ <;> omega) | (intro hbad; exfalso; omega) | omega
    try simp only [Act.put, List.setIfInBounds_toArray, List.set_cons_zero, List.set_cons_succ]
    refine take_atL (i := 6) (d := some 26) (v := .pointer (some ⟨f.bS, 0, none⟩)) rfl rfl (by kernel_rfl) (by kernel_rfl) (by kernel_rfl) (fun _ _ _ h => h) (by rfl) ?_ hHeld ?_
    · intro w' hSw; obtain ⟨s0, _⟩ := hSw; go_simp; first | done | rfl | (refine wrap_in ?_ ?_ <;> omega) | (intro hbad; exfalso; omega) | omega
    try simp only [Act.put, List.setIfInBounds_toArray, List.set_cons_zero, List.set_cons_succ]
    refine take_atL (i := 7) (d := some 27) (v := .pointer (some ⟨f.bS, 0, none⟩)) rfl rfl (by kernel_rfl) (by kernel_rfl) (by kernel_rfl) (fun _ _ _ h => h) (by rfl) ?_ hHeld ?_
    · intro w' hSw; obtain ⟨s0, _⟩ := hSw; go_simp; first | done | rfl | (refine wrap_in ?_ ?_ <;> omega) | (intro hbad; exfalso; omega) | omega
    try simp only [Act.put, List.setIfInBounds_toArray, List.set_cons_zero, List.set_cons_succ]
    refine take_atL (i := 8) (d := some 28) (v := .pointer (some ⟨t.bT, 0, none⟩)) rfl rfl (by kernel_rfl) (by kernel_rfl) (by kernel_rfl) (fun _ _ _ h => h) (by rfl) ?_ hHeld ?_
    · intro w' hSw; obtain ⟨s0, _⟩ := hSw; go_simp; first | done | rfl | (refine wrap_in ?_ ?_ <;> omega) | (intro hbad; exfalso; omega) | omega
    try simp only [Act.put, List.setIfInBounds_toArray, List.set_cons_zero, List.set_cons_succ]
    refine take_atL (i := 9) (d := some 29) (v := .int .i64 ((i : Int))) rfl rfl (by kernel_rfl) (by kernel_rfl) (by kernel_rfl) (fun _ _ _ h => h) (by rfl) ?_ hHeld ?_
    · intro w' hSw; obtain ⟨s0, _⟩ := hSw; go_simp; first | done | rfl | (refine wrap_in ?_ ?_ <;> omega) | (intro hbad; exfalso; omega) | omega
    try simp only [Act.put, List.setIfInBounds_toArray, List.set_cons_zero, List.set_cons_succ]
    refine take_atL (i := 12) (d := some 32) (v := .slice aw ws.length cw) rfl rfl (by kernel_rfl) (by kernel_rfl) (by kernel_rfl) (fun _ _ _ h => h) (by rfl) ?_ hHeld ?_
    · intro w' hSw; obtain ⟨s0, _⟩ := hSw; go_simp; first | done | rfl | (refine wrap_in ?_ ?_ <;> omega) | (intro hbad; exfalso; omega) | omega
    try simp only [Act.put, List.setIfInBounds_toArray, List.set_cons_zero, List.set_cons_succ]
    refine take_atL (i := 13) (d := some 33) (v := .int .i64 ((ws.length : Int))) rfl rfl (by kernel_rfl) (by kernel_rfl) (by kernel_rfl) (fun _ _ _ h => h) (by rfl) ?_ hHeld ?_
    · intro w' hSw; obtain ⟨s0, _⟩ := hSw; go_simp; first | done | rfl | (refine wrap_in ?_ ?_ <;> omega) | (intro hbad; exfalso; omega) | omega
    try simp only [Act.put, List.setIfInBounds_toArray, List.set_cons_zero, List.set_cons_succ]
    refine wpAnyH_ready (rs := [10]) (by kernel_rfl) (by simp) ?_
    refine AllReadyH.cons (o := _) rfl (fun K hK => ?_) AllReadyH.nil
    rw [if_pos (by rfl)]
    go_simp
    have hd2 := Below.drew (Below.refl w2.heap.size w2)
    refine (X2.out t _ (HT2.out.later hd2).tab.c1).mono ?_
    rintro e w5 ⟨g5, rfl, hR5, hb5⟩
    have HT5 : Hid (Two P ws w0 t f aP cP aw cw w5) := (HT2.out.later hd2).later hb5
    have s0 := HT5.out.far.c0
    have Z5 := Z.out t f w5 g5 HT5.out hR5
    clear X2 Z hR5 hb5 hd2
    go_wp2_with fail
    refine hK.out _ _ ⟨s0, trivial⟩ (fun hHeld => ?_)
    clear hK K
    try simp only [Act.put, List.setIfInBounds_toArray, List.set_cons_zero, List.set_cons_succ]
    refine wpAnyH_ready (rs := [11]) (by kernel_rfl) (by simp) ?_
    refine AllReadyH.cons (o := _) rfl (fun K hK => ?_) AllReadyH.nil
    rw [if_pos (by rfl)]
    go_simp
    refine Z5.mono ?_
    rintro e w6 ⟨g6, c6, rfl, h6M, h6N, h6l, h6R, h6T, h6W⟩
    have HT6 : Hid (Two P ws w0 t f aP cP aw cw w6) := HT5.out.ways h6T h6W
    have s0 := HT6.out.far.c0
    have q6 := reads_vec h6R (Nat.le_refl _)
    have HB9 : Hid (Below w.heap.size w w6) := HB0.out.trans (h6T.low.mono HB0.out.size)
    rw [hv0] at q6
    have hyI : ¬ (0 : Int) < 0 := by decide
    clear Z5 h6M h6N h6R h6T h6W
    go_wp2_with fail
    refine hK.out _ _ ⟨s0, trivial⟩ (fun hHeld => ?_)
    clear hK K
    try simp only [Act.put, List.setIfInBounds_toArray, List.set_cons_zero, List.set_cons_succ]
    refine take_atL (i := 14) (d := some 34) (v := .pointer (some ⟨g6, ws.length, none⟩)) rfl rfl (by kernel_rfl) (by kernel_rfl) (by kernel_rfl) (fun _ _ _ h => h) (by rfl) ?_ hHeld ?_
    · intro w' hSw; obtain ⟨s0, _⟩ := hSw; go_simp; first | done | rfl | (refine wrap_in ?_ ?_ <;> omega) | (intro hbad; exfalso; omega) | omega
    try simp only [Act.put, List.setIfInBounds_toArray, List.set_cons_zero, List.set_cons_succ]
    refine wpAnyH_ready (rs := [15]) (by kernel_rfl) (by simp) ?_
    refine AllReadyH.cons (o := _) rfl (fun K hK => ?_) AllReadyH.nil
    rw [if_pos (by rfl)]
    go_simp
    refine hK.out _ _ ⟨s0, trivial⟩ (fun hHeld => ?_)
    clear hK K
    try simp only [Act.put, List.setIfInBounds_toArray, List.set_cons_zero, List.set_cons_succ]
    refine take_atL (i := 16) (d := some 36) (v := .bool (false)) rfl rfl (by kernel_rfl) (by kernel_rfl) (by kernel_rfl) (fun _ _ _ h => h) (by rfl) ?_ hHeld ?_
    · intro w' hSw; obtain ⟨s0, _⟩ := hSw; go_simp; first | done | rfl | (refine wrap_in ?_ ?_ <;> omega) | (intro hbad; exfalso; omega) | omega
    try simp only [Act.put, List.setIfInBounds_toArray, List.set_cons_zero, List.set_cons_succ]
    refine wpAnyH_done (by kernel_rfl) ?_ _
    clear hHeld
    go_wp2
    go_ret
    exact ⟨ret_int (by have := HR.out; omega), HB9.out⟩
  · have HR : Hid (r = n - i + 1) := by show _ = _; rw [HE.out, if_neg hv0]
    clear HE
    go_wp2
    refine wp_region_held_drew (S := (fun w' => w'.cell? ⟨f.bS, 0, none⟩ = some (.pointer (some ⟨t.bT, 0, none⟩)) ∧ True)) (by kernel_rfl) ⟨q0, trivial⟩ (fun hHeld => ?_)
    refine take_atL (i := 0) (d := some 20) (v := .pointer (some ⟨f.bS, 0, none⟩)) rfl rfl (by kernel_rfl) (by kernel_rfl) (by kernel_rfl) (fun _ _ _ h => h) (by rfl) ?_ hHeld ?_
    · intro w' hSw; obtain ⟨s0, _⟩ := hSw; go_simp; first | done | rfl | (refine wrap_in ?_ ?_ <;> omega) | (intro hbad; exfalso; omega) | omega
    try simp only [Act.put, List.setIfInBounds_toArray, List.set_cons_zero, List.set_cons_succ]
    refine take_atL (i := 1) (d := some 21) (v := .pointer (some ⟨f.bS, 0, none⟩)) rfl rfl (by kernel_rfl) (by kernel_rfl) (by kernel_rfl) (fun _ _ _ h => h) (by rfl) ?_ hHeld ?_
    · intro w' hSw; obtain ⟨s0, _⟩ := hSw; go_simp; first | done | rfl | (refine wrap_in ?_ ?_ <;> omega) | (intro hbad; exfalso; omega) | omega
    try simp only [Act.put, List.setIfInBounds_toArray, List.set_cons_zero, List.set_cons_succ]
    refine take_atL (i := 2) (d := some 22) (v := .pointer (some ⟨f.bS, 0, none⟩)) rfl rfl (by kernel_rfl) (by kernel_rfl) (by kernel_rfl) (fun _ _ _ h => h) (by rfl) ?_ hHeld ?_
    · intro w' hSw; obtain ⟨s0, _⟩ := hSw; go_simp; first | done | rfl | (refine wrap_in ?_ ?_ <;> omega) | (intro hbad; exfalso; omega) | omega
    try simp only [Act.put, List.setIfInBounds_toArray, List.set_cons_zero, List.set_cons_succ]
    refine take_atL (i := 3) (d := some 23) (v := .pointer (some ⟨t.bT, 0, none⟩)) rfl rfl (by kernel_rfl) (by kernel_rfl) (by kernel_rfl) (fun _ _ _ h => h) (by rfl) ?_ hHeld ?_
    · intro w' hSw; obtain ⟨s0, _⟩ := hSw; go_simp; first | done | rfl | (refine wrap_in ?_ ?_ <;> omega) | (intro hbad; exfalso; omega) | omega
    try simp only [Act.put, List.setIfInBounds_toArray, List.set_cons_zero, List.set_cons_succ]
    refine take_atL (i := 4) (d := some 24) (v := .slice ar row.length cr) rfl rfl (by kernel_rfl) (by kernel_rfl) (by kernel_rfl) (fun _ _ _ h => h) (by rfl) ?_ hHeld ?_
    · intro w' hSw; obtain ⟨s0, _⟩ := hSw; go_simp; first | done | rfl | (refine wrap_in ?_ ?_ <;> omega) | (intro hbad; exfalso; omega) | omega
    try simp only [Act.put, List.setIfInBounds_toArray, List.set_cons_zero, List.set_cons_succ]
    refine take_atL (i := 5) (d := some 25) (v := .pointer (some ⟨f.bS, 0, none⟩)) rfl rfl (by kernel_rfl) (by kernel_rfl) (by kernel_rfl) (fun _ _ _ h => h) (by rfl) ?_ hHeld ?_
    · intro w' hSw; obtain ⟨s0, _⟩ := hSw; go_simp; first | done | rfl | (refine wrap_in ?_ ?_ <;> omega) | (intro hbad; exfalso; omega) | omega
    try simp only [Act.put, List.setIfInBounds_toArray, List.set_cons_zero, List.set_cons_succ]
    refine take_atL (i := 6) (d := some 26) (v := .pointer (some ⟨f.bS, 0, none⟩)) rfl rfl (by kernel_rfl) (by kernel_rfl) (by kernel_rfl) (fun _ _ _ h => h) (by rfl) ?_ hHeld ?_
    · intro w' hSw; obtain ⟨s0, _⟩ := hSw; go_simp; first | done | rfl | (refine wrap_in ?_ ?_ <;> omega) | (intro hbad; exfalso; omega) | omega
    try simp only [Act.put, List.setIfInBounds_toArray, List.set_cons_zero, List.set_cons_succ]
    refine take_atL (i := 7) (d := some 27) (v := .pointer (some ⟨f.bS, 0, none⟩)) rfl rfl (by kernel_rfl) (by kernel_rfl) (by kernel_rfl) (fun _ _ _ h => h) (by rfl) ?_ hHeld ?_
    · intro w' hSw; obtain ⟨s0, _⟩ := hSw; go_simp; first | done | rfl | (refine wrap_in ?_ ?_ <;> omega) | (intro hbad; exfalso; omega) | omega
    try simp only [Act.put, List.setIfInBounds_toArray, List.set_cons_zero, List.set_cons_succ]
    refine take_atL (i := 8) (d := some 28) (v := .pointer (some ⟨t.bT, 0, none⟩)) rfl rfl (by kernel_rfl) (by kernel_rfl) (by kernel_rfl) (fun _ _ _ h => h) (by rfl) ?_ hHeld ?_
    · intro w' hSw; obtain ⟨s0, _⟩ := hSw; go_simp; first | done | rfl | (refine wrap_in ?_ ?_ <;> omega) | (intro hbad; exfalso; omega) | omega
    try simp only [Act.put, List.setIfInBounds_toArray, List.set_cons_zero, List.set_cons_succ]
    refine take_atL (i := 9) (d := some 29) (v := .int .i64 ((i : Int))) rfl rfl (by kernel_rfl) (by kernel_rfl) (by kernel_rfl) (fun _ _ _ h => h) (by rfl) ?_ hHeld ?_
    · intro w' hSw; obtain ⟨s0, _⟩ := hSw; go_simp; first | done | rfl | (refine wrap_in ?_ ?_ <;> omega) | (intro hbad; exfalso; omega) | omega
    try simp only [Act.put, List.setIfInBounds_toArray, List.set_cons_zero, List.set_cons_succ]
    refine take_atL (i := 12) (d := some 32) (v := .slice aw ws.length cw) rfl rfl (by kernel_rfl) (by kernel_rfl) (by kernel_rfl) (fun _ _ _ h => h) (by rfl) ?_ hHeld ?_
    · intro w' hSw; obtain ⟨s0, _⟩ := hSw; go_simp; first | done | rfl | (refine wrap_in ?_ ?_ <;> omega) | (intro hbad; exfalso; omega) | omega
    try simp only [Act.put, List.setIfInBounds_toArray, List.set_cons_zero, List.set_cons_succ]
    refine take_atL (i := 13) (d := some 33) (v := .int .i64 ((ws.length : Int))) rfl rfl (by kernel_rfl) (by kernel_rfl) (by kernel_rfl) (fun _ _ _ h => h) (by rfl) ?_ hHeld ?_
    · intro w' hSw; obtain ⟨s0, _⟩ := hSw; go_simp; first | done | rfl | (refine wrap_in ?_ ?_ <;> omega) | (intro hbad; exfalso; omega) | omega
    try simp only [Act.put, List.setIfInBounds_toArray, List.set_cons_zero, List.set_cons_succ]
    refine wpAnyH_ready (rs := [10]) (by kernel_rfl) (by simp) ?_
    refine AllReadyH.cons (o := _) rfl (fun K hK => ?_) AllReadyH.nil
    rw [if_pos (by rfl)]
    go_simp
    have hd2 := Below.drew (Below.refl w2.heap.size w2)
    refine (X2.out t _ (HT2.out.later hd2).tab.c1).mono ?_
    rintro e w5 ⟨g5, rfl, hR5, hb5⟩
    have HT5 : Hid (Two P ws w0 t f aP cP aw cw w5) := (HT2.out.later hd2).later hb5
    have s0 := HT5.out.far.c0
    have Z5 := Z.out t f w5 g5 HT5.out hR5
    clear X2 Z hR5 hb5 hd2
    go_wp2_with fail
    refine hK.out _ _ ⟨s0, trivial⟩ (fun hHeld => ?_)
    clear hK K
    try simp only [Act.put, List.setIfInBounds_toArray, List.set_cons_zero, List.set_cons_succ]
    refine wpAnyH_ready (rs := [11]) (by kernel_rfl) (by simp) ?_
    refine AllReadyH.cons (o := _) rfl (fun K hK => ?_) AllReadyH.nil
    rw [if_pos (by rfl)]
    go_simp
    refine Z5.mono ?_
    rintro e w6 ⟨g6, c6, rfl, h6M, h6N, h6l, h6R, h6T, h6W⟩
    have HT6 : Hid (Two P ws w0 t f aP cP aw cw w6) := HT5.out.ways h6T h6W
    have s0 := HT6.out.far.c0
    have q6 := reads_vec h6R (Nat.le_refl _)
    have HB9 : Hid (Below w.heap.size w w6) := HB0.out.trans (h6T.low.mono HB0.out.size)
    generalize v ws.length = y at *
    have hyI : (0 : Int) < (y : Int) := by omega
    clear Z5 h6M h6N h6R h6T h6W
    go_wp2_with fail
    refine hK.out _ _ ⟨s0, trivial⟩ (fun hHeld => ?_)
    clear hK K
    try simp only [Act.put, List.setIfInBounds_toArray, List.set_cons_zero, List.set_cons_succ]
    refine take_atL (i := 14) (d := some 34) (v := .pointer (some ⟨g6, ws.length, none⟩)) rfl rfl (by kernel_rfl) (by kernel_rfl) (by kernel_rfl) (fun _ _ _ h => h) (by rfl) ?_ hHeld ?_
    · intro w' hSw; obtain ⟨s0, _⟩ := hSw; go_simp; first | done | rfl | (refine wrap_in ?_ ?_ <;> omega) | (intro hbad; exfalso; omega) | omega
    try simp only [Act.put, List.setIfInBounds_toArray, List.set_cons_zero, List.set_cons_succ]
    refine wpAnyH_ready (rs := [15]) (by kernel_rfl) (by simp) ?_
    refine AllReadyH.cons (o := _) rfl (fun K hK => ?_) AllReadyH.nil
    rw [if_pos (by rfl)]
    go_simp
    refine hK.out _ _ ⟨s0, trivial⟩ (fun hHeld => ?_)
    clear hK K
    try simp only [Act.put, List.setIfInBounds_toArray, List.set_cons_zero, List.set_cons_succ]
    refine take_atL (i := 16) (d := some 36) (v := .bool (true)) rfl rfl (by kernel_rfl) (by kernel_rfl) (by kernel_rfl) (fun _ _ _ h => h) (by rfl) ?_ hHeld ?_
    · intro w' hSw; obtain ⟨s0, _⟩ := hSw; go_simp; first | done | rfl | (refine wrap_in ?_ ?_ <;> omega) | (intro hbad; exfalso; omega) | omega
    try simp only [Act.put, List.setIfInBounds_toArray, List.set_cons_zero, List.set_cons_succ]
    refine wpAnyH_done (by kernel_rfl) ?_ _
    clear hHeld
    go_wp2
    go_ret
    exact ⟨ret_int (by have := HR.out; omega), HB9.out⟩
end Go.Proofs.YthnppodnjokaoaaGreatDoor
namespace Go.Proofs.YthnppodnjokaoaaGreatDoor
open Go.RowKit

set_option maxHeartbeats 4000000 in
set_option maxRecDepth 100000 in
theorem l8Fars_any (x : Gm) (a0 : Option Addr) (c0 : Nat) (k : Int) (z2 : List Int) (a2 : Option Addr) (c2 : Nat) (z3 : List Int) (a3 : Option Addr) (c3 : Nat) (n : Int) (w : World) (h0 : RD w (.slice a0 x.parts.length c0) (slD (Lay.list (Lay.list Lay.int)) x.parts)) (h2 : RD w (.slice a2 z2.length c2) (slD Lay.int z2)) (h3 : RD w (.slice a3 z3.length c3) (slD Lay.int z3)) (hn : Lay.gram.wt x ≤ 1048576) (hf : Lay.gram.fit x) (hl2 : z2.length ≤ 1048576) (hl3 : z3.length ≤ 1048576) (hz3 : (Lay.list Lay.int).fit z3) :
    Calls Tryz.prog 12 #[.agg #[.slice a0 x.parts.length c0], .int .i64 k, .slice a2 z2.length c2, .slice a3 z3.length c3, .int .i64 n] w fun e w' => ∃ v, e = .returned v ∧ OwnInts w' w.heap.size 3 v (farsL x k z2 z3 n) ∧ Below w.heap.size w w' := by
  have BG : Below w.heap.size w (w.alloc (.cells #[.slice a0 x.parts.length c0] 29)) := (Below.refl w.heap.size w).alloc (Nat.le_refl _) _
  have hGs : (w.alloc (.cells #[.slice a0 x.parts.length c0] 29)).heap.size = w.heap.size + 1 := by simp
  have qG : (w.alloc (.cells #[.slice a0 x.parts.length c0] 29)).cell? ⟨w.heap.size, 0, none⟩ = some (.slice a0 x.parts.length c0) := by simp
  have HK : Hid (∀ W : World, Below w.heap.size w W → Calls Tryz.prog 20 #[.agg #[.slice a0 x.parts.length c0], .slice a3 z3.length c3, .int .i64 n] W fun e w' => e = .returned (.bool (rightAt x z3 n)) ∧ Below W.heap.size W w') := fun W hW => l8Ok_any x a0 c0 z3 a3 c3 n W (h0.later hW) (h3.later hW) hn hf hl3 hz3
  obtain ⟨wG, hwG⟩ : ∃ wG, wG = w.alloc (.cells #[.slice a0 x.parts.length c0] 29) := ⟨_, rfl⟩
  rw [← hwG] at BG hGs qG
  have HBG : Hid (Below w.heap.size w wG) := BG
  have B1 : Below wG.heap.size wG (wG.alloc (.cells #[] 3)) := (Below.refl _ _).alloc (Nat.le_refl _) _
  have HO0 : Hid (OwnInts (wG.alloc (.cells #[] 3)) (w.heap.size + 1) 3 (.slice (some ⟨w.heap.size + 1, 0, none⟩) 0 0) []) := by rw [← hGs]; exact OwnInts.empty (Nat.le_refl _)
  have HB1 : Hid (Below wG.heap.size wG (wG.alloc (.cells #[] 3))) := B1
  have HQ : Hid (∀ W, Below wG.heap.size wG W → W.cell? ⟨w.heap.size, 0, none⟩ = some (.slice a0 x.parts.length c0)) := fun W hW => (hW.cell (p := ⟨w.heap.size, 0, none⟩) (by show w.heap.size < _; omega)).trans qG
  by_cases hr : rightAt x z3 n = true
  · rw [hr] at HK
    obtain ⟨r1, r2, r3, r4⟩ := rightAt_yes hr
    have hok := (resCheck_ok r1).1
    have F := Fits.of hok
    have hp20 : x.parts.length ≤ 20 := F.parts
    by_cases hk : inB k 0 (x.parts.length - 1) = true
    · obtain ⟨k1, k2⟩ := inB_true.1 hk
      obtain ⟨kn, rfl⟩ : ∃ m : Nat, k = m := ⟨k.toNat, by omega⟩
      have hkn : kn < x.parts.length := by omega
      have HALL : Hid ((∀ a (ha : a < x.parts[kn].length), knownB x.parts.length (x.parts[kn][a] ++ z2) = true) → farsL x (kn : Int) z2 z3 n = altFars x.parts kn z2 z3 n.toNat) := farsL_all hr hkn
      have HNO : Hid (∀ a (ha : a < x.parts[kn].length), knownB x.parts.length (x.parts[kn][a] ++ z2) = false → farsL x (kn : Int) z2 z3 n = []) := fun a ha h => farsL_row hkn ha h
      have hp8 := F.alts _ (List.getElem_mem hkn)
      obtain ⟨b1, o1, rfl, hb1, a1, ca1, p1, q1⟩ := h0.listAt hkn
      have HR1 : Hid (RD w (.slice a1 x.parts[kn].length ca1) (slD (Lay.list Lay.int) x.parts[kn])) := q1
      have HP1 : Hid (∀ W, Below wG.heap.size wG W → W.cell? ⟨b1, o1 + kn, none⟩ = some (.slice a1 x.parts[kn].length ca1)) := fun W hW => ((BG.trans (hW.mono BG.size)).cell (p := ⟨b1, o1 + kn, none⟩) hb1).trans p1
      have HTK : Hid (∀ a (ha : a < x.parts[kn].length), (altFars x.parts kn z2 z3 n.toNat).take (a + 1) = (altFars x.parts kn z2 z3 n.toNat).take a ++ [(farOf x.parts (x.parts[kn][a] ++ z2) z3 n.toNat : Int)]) := fun a ha => altFars_take hkn ha z2 z3 n.toNat
      have HLN : Hid ((altFars x.parts kn z2 z3 n.toNat).length = x.parts[kn].length) := altFars_length hkn z2 z3 n.toNat
      have HRE : Hid (Reads w a2 z2) := h2.reads
      have HKN : Hid (∀ (row : List Int) (ar : Option Addr) (cr : Nat) (W : World), Reads W ar row → row.length ≤ 4194304 → Calls Tryz.prog 22 #[.agg #[.slice (some ⟨b1, o1, none⟩) x.parts.length c0], .slice ar row.length cr] W fun e w' => e = .returned (.bool (knownB x.parts.length row)) ∧ Below W.heap.size W w') := fun row ar cr W h1 h2 => l8Known_any x.parts row _ c0 ar cr W h1 F.parts h2
      have HGO : Hid (∀ (row : List Int) (ar : Option Addr) (cr : Nat) (W : World), Below w.heap.size w W → RD W (.slice ar row.length cr) (slD Lay.int row) → knownB x.parts.length row = true → Calls Tryz.prog 23 #[.agg #[.slice (some ⟨b1, o1, none⟩) x.parts.length c0], .slice ar row.length cr, .slice a3 z3.length c3, .int .i64 n] W fun e w' => e = .returned (.int .i64 (farOf x.parts row z3 n.toNat : Int)) ∧ Below W.heap.size W w') := fun row ar cr W hW h1 hk => by
        have := l8Go_any x.parts row z3 (some ⟨b1, o1, none⟩) c0 ar cr a3 c3 n.toNat W (h0.later hW) h1.reads (h3.later hW).reads hok (resCheck_ok r1).2 (inputOkB_len r2) (by omega) (by have := knownB_len hk; omega) h1.capL (knownB_sym hk)
        rw [nat_of r3] at this
        exact this
      have hr8 : ∀ a (ha : a < x.parts[kn].length), x.parts[kn][a].length ≤ 8 := fun a ha => F.rows _ (List.getElem_mem hkn) _ (List.getElem_mem ha)
      have HR8 : Hid (∀ a (ha : a < x.parts[kn].length), x.parts[kn][a].length ≤ 8) := hr8
      have hkI : (kn : Int) < (x.parts.length : Int) := by omega
      have HKB0 : Hid (∀ a (ha : a < x.parts[kn].length), a < 0 → knownB x.parts.length (x.parts[kn][a] ++ z2) = true) := fun a _ h => by omega
      clear hok F h0 h2 h3 hn hf hz3 hr hk q1 p1 hr8 r1 r2
      have HOX : Hid (OwnInts (wG.alloc (.cells #[] 3)) (w.heap.size + 1) 3 (.slice (some ⟨w.heap.size + 1, 0, none⟩) 0 0) ((altFars x.parts kn z2 z3 n.toNat).take 0)) := HO0.out
      generalize altFars x.parts kn z2 z3 n.toNat = L at *
      go_enter Tryz.func12, Tryz.ntmps12
      go_wp2_with (first
        | (go_at_call 20; rw [← hwG]; have hB1 := HB1.out; refine (HK.out _ (HBG.out.trans (hB1.mono HBG.out.size))).mono ?_; rintro e w1 ⟨rfl, hb1w⟩; have hBw1 : Below wG.heap.size wG w1 := hB1.trans (hb1w.mono hB1.size); have qg1 := HQ.out w1 hBw1)
        | (go_at_call 21; refine (l1In_any _ _ _ _).mono ?_; rintro e w3 ⟨rfl, h3w⟩; replace h3w := h3w.symm; subst h3w; rw [inB_true.2 ⟨k1, k2⟩]))
      have HO1 : Hid (OwnInts w1 (w.heap.size + 1) 3 (.slice (some ⟨w.heap.size + 1, 0, none⟩) 0 0) (L.take 0)) := HOX.out.below hb1w
      have HBw1 : Hid (Below wG.heap.size wG w1) := hBw1
      clear hB1 hb1w hBw1 qg1 HK HO0 HB1 B1 HOX qG BG
      go_loopw [11, 12] (fun s11 s12 wr => ∃ (a : Nat) (vo : Value), a ≤ x.parts[kn].length ∧ s12 = .int .i64 (a : Int) ∧ s11 = vo ∧ OwnInts wr (w.heap.size + 1) 3 vo (L.take a) ∧ Hid (Below wG.heap.size wG wr) ∧ Hid (∀ b (hb : b < x.parts[kn].length), b < a → knownB x.parts.length (x.parts[kn][b] ++ z2) = true)) (fun _ s12 _ => x.parts[kn].length - (intOf s12).toNat)
      case atStart => exact ⟨0, _, Nat.zero_le _, rfl, rfl, HO1.out, HBw1, HKB0⟩
      case round =>
        obtain ⟨a, vo, ha, rfl, hvo, hO, HBr, HKB⟩ := hrel
        replace hvo := hvo.symm
        subst hvo
        obtain ⟨wA, hwA⟩ : ∃ y, y = wr := ⟨_, rfl⟩
        subst hwA
        clear HO1 HBw1 HKB0
        have qg := HQ.out wA HBr.out
        have p1 := HP1.out wA HBr.out
        have HO : Hid (OwnInts wA (w.heap.size + 1) 3 vo (L.take a)) := hO
        have hbw : Below w.heap.size w wA := HBG.out.trans (HBr.out.mono HBG.out.size)
        have HBW : Hid (Below w.heap.size w wA) := hbw
        have hszw := hbw.size
        by_cases hlt : a < x.parts[kn].length
        · obtain ⟨b2, o2, rfl, hb2, a5, c5, p2, q2⟩ := HR1.out.listAt hlt
          have p2a := (hbw.cell (p := ⟨b2, o2 + a, none⟩) hb2).trans p2
          have HRa : Hid (Reads w a5 x.parts[kn][a]) := q2.reads
          have hl8 := HR8.out a hlt
          have HNa := HNO.out a hlt
          have HNa' : Hid (knownB x.parts.length (x.parts[kn][a] ++ z2) = false → farsL x (kn : Int) z2 z3 n = []) := HNa
          have HTa : Hid (L.take (a + 1) = L.take a ++ [(farOf x.parts (x.parts[kn][a] ++ z2) z3 n.toNat : Int)]) := HTK.out a hlt
          have HKB2 : Hid (knownB x.parts.length (x.parts[kn][a] ++ z2) = true → ∀ b (hb : b < x.parts[kn].length), b < a + 1 → knownB x.parts.length (x.parts[kn][b] ++ z2) = true) := fun h b hb hlt2 => by
            by_cases e : b = a
            · subst e; exact h
            · exact HKB.out b hb (by omega)
          have haI : (a : Int) < (x.parts[kn].length : Int) := by omega
          have hbx : w.heap.size < wA.heap.size := by have := HBr.out.size; omega
          have hb1A : b1 < wA.heap.size := by omega
          have hb2A : b2 < wA.heap.size := by omega
          clear hO hbw p2 q2 HKB HNa HALL HNO HTK
          generalize x.parts[kn][a] = alt at *
          go_wp2_with (at_builtin; refine wpList_append_ints _ rfl (.tmp 40) (.tmp 48) 25 rfl wA.heap.size 3 Tryz.underlying25 Tryz.infoInt _ [] rfl (OwnInts.empty (Nat.le_refl _)) a5 alt.length c5 alt rfl rfl (HRa.out.below (HBW.out.alloc HBW.out.size _)) (by simp; omega) (by simp) ?_)
          intro v5 w5 hO5 hg5
          have hb5 : Below wA.heap.size wA w5 := ((Below.refl _ _).alloc (Nat.le_refl _) _).grown hg5 (by simp) (fun j hj => by simp [Value.ownBlock] at hj; omega)
          go_wp2_with (at_builtin; refine wpList_append_ints _ rfl (.tmp 49) (.tmp 50) 25 rfl wA.heap.size 3 Tryz.underlying25 Tryz.infoInt _ _ rfl hO5 a2 z2.length c2 z2 rfl rfl (HRE.out.below (HBW.out.trans (hb5.mono HBW.out.size))) (by omega) hb5.size ?_)
          intro v6 w6 hO6 hg6
          have hb6 : Below wA.heap.size wA w6 := hb5.grown hg6 hb5.size (fun j hj => (hO5.block j hj).1)
          obtain ⟨a6, c6, rfl, hr6, _⟩ := hO6.shape
          have HR6 : Hid (RD w6 (.slice a6 (alt ++ z2).length c6) (slD Lay.int (alt ++ z2))) := hO6.od.rd
          have hl6 : (alt ++ z2).length ≤ 4194304 := by rw [List.length_append]; omega
          have HB6 : Hid (Below wG.heap.size wG w6) := HBr.out.trans (hb6.mono HBr.out.size)
          have HBW6 : Hid (Below w.heap.size w w6) := HBW.out.trans (hb6.mono HBW.out.size)
          have qg6 := HQ.out w6 HB6.out
          have HOut6 : Hid (OwnInts w6 (w.heap.size + 1) 3 vo (L.take a)) := HO.out.below hb6
          have X := HKN.out (alt ++ z2) a6 c6 w6 hr6 hl6
          have HGO6 : Hid (knownB x.parts.length (alt ++ z2) = true → ∀ W, Below w6.heap.size w6 W → Calls Tryz.prog 23 #[.agg #[.slice (some ⟨b1, o1, none⟩) x.parts.length c0], .slice a6 (alt ++ z2).length c6, .slice a3 z3.length c3, .int .i64 n] W fun e w' => e = .returned (.int .i64 (farOf x.parts (alt ++ z2) z3 n.toNat : Int)) ∧ Below W.heap.size W w') := fun hk W hW => HGO.out (alt ++ z2) a6 c6 W (HBW6.out.trans (hW.mono HBW6.out.size)) (HR6.out.later hW) hk
          clear hO5 hg5 hb5 hO6 hg6 hb6 hr6 HGO HKN HRa HO HR6 qg p1 p2a
          generalize farOf x.parts (alt ++ z2) z3 n.toNat = fo at *
          generalize (alt ++ z2).length = l6 at *
          cases hkb : knownB x.parts.length (alt ++ z2)
          · rw [hkb] at X
            have E : Hid (farsL x (kn : Int) z2 z3 n = []) := HNa'.out hkb
            clear HGO6 HKB2 HTa HNa' hkb
            go_wp2_with (go_at_call 22; refine X.mono ?_; rintro e w7 ⟨rfl, hb7⟩)
            go_ret
            exact ⟨_, rfl, by rw [E.out]; exact OwnInts.empty (HBW6.out.trans (hb7.mono HBW6.out.size)).size, (HBW6.out.trans (hb7.mono HBW6.out.size)).alloc (HBW6.out.trans (hb7.mono HBW6.out.size)).size _⟩
          · rw [hkb] at X
            have HG7 := HGO6.out hkb
            have HG7h : Hid (∀ W, Below w6.heap.size w6 W → Calls Tryz.prog 23 #[.agg #[.slice (some ⟨b1, o1, none⟩) x.parts.length c0], .slice a6 l6 c6, .slice a3 z3.length c3, .int .i64 n] W fun e w' => e = .returned (.int .i64 (fo : Int)) ∧ Below W.heap.size W w') := HG7
            have HK2 := HKB2.out hkb
            have HK2h : Hid (∀ b (hb : b < x.parts[kn].length), b < a + 1 → knownB x.parts.length (x.parts[kn][b] ++ z2) = true) := HK2
            have hLl : (L.take a).length ≤ 1048576 := by rw [List.length_take, HLN.out]; omega
            clear HG7 HK2 HGO6 HKB2 HNa' hkb
            go_wp2_with (first
              | (go_at_call 22; refine X.mono ?_; rintro e w7 ⟨rfl, hb7⟩; have qg7 := HQ.out w7 (HB6.out.trans (hb7.mono HB6.out.size)))
              | (go_at_call 23; refine (HG7h.out w7 hb7).mono ?_; rintro e w8 ⟨rfl, hb8⟩; have hb68 : Below w6.heap.size w6 w8 := hb7.trans (hb8.mono hb7.size))
              | (at_builtin; refine wpList_append_ints _ rfl (.tmp 57) (.tmp 63) 25 rfl (w.heap.size + 1) 3 Tryz.underlying25 Tryz.infoInt _ _ rfl ((HOut6.out.below hb68).alloc _) _ _ _ [(fo : Int)] rfl rfl (Reads.new _ _ _) (by simp; omega) (by have := (HB6.out.trans (hb68.mono HB6.out.size)).size; simp; omega) ?_))
            intro v9 w9 hO9 hg9
            have hB8 := HB6.out.trans (hb68.mono HB6.out.size)
            have HO9 : Hid (OwnInts w9 (w.heap.size + 1) 3 v9 (L.take (a + 1))) := by show OwnInts _ _ _ _ _; rw [HTa.out]; exact hO9
            have hOb := (HOut6.out.below hb68).block
            have HB9 : Hid (Below wG.heap.size wG w9) := (hB8.alloc hB8.size _).grown hg9 (by have := hB8.size; simp; omega) (fun j hj => by have := (hOb j hj).1; omega)
            clear hB8 hOb hO9 hg9 hb68 hb8 hb7 X HG7h HTa HOut6
            go_wp2
            go_roundw
            case rel => exact ⟨a + 1, v9, by omega, by go_num, rfl, HO9.out, HB9, HK2h⟩
            case measure => simp [intOf]; omega
        · have e : a = x.parts[kn].length := by omega
          have E : Hid (farsL x (kn : Int) z2 z3 n = L) := HALL.out (fun b hb => HKB.out b hb (by omega))
          have HOL : Hid (OwnInts wA (w.heap.size + 1) 3 vo L) := by
            have := HO.out
            rw [e, List.take_of_length_le (by rw [HLN.out]; omega)] at this
            exact this
          clear hO HALL HNO HKB HTK
          go_wp2
          go_ret
          exact ⟨_, rfl, by rw [E.out]; exact HOL.out.base (Nat.le_succ _), HBW.out⟩
    · have hk' : inB k 0 (x.parts.length - 1) = false := by simpa using hk
      have E : Hid (farsL x k z2 z3 n = []) := farsL_part hk'
      clear h0 h2 h3 hn hf hz3 hr hk
      generalize farsL x k z2 z3 n = R at *
      go_enter Tryz.func12, Tryz.ntmps12
      go_wp2_with (first
        | (go_at_call 20; rw [← hwG]; have hB1 := HB1.out; refine (HK.out _ (HBG.out.trans (hB1.mono HBG.out.size))).mono ?_; rintro e w1 ⟨rfl, hb1w⟩; have hBw1 : Below wG.heap.size wG w1 := hB1.trans (hb1w.mono hB1.size); have qg1 := HQ.out w1 hBw1)
        | (go_at_call 21; refine (l1In_any _ _ _ _).mono ?_; rintro e w3 ⟨rfl, h3w⟩; replace h3w := h3w.symm; subst h3w; rw [hk']))
      go_ret
      exact ⟨_, rfl, by rw [E.out]; exact (HO0.out.below hb1w).base (Nat.le_succ _), HBG.out.trans (hBw1.mono HBG.out.size)⟩
  · have hr' : rightAt x z3 n = false := by simpa using hr
    have E : Hid (farsL x k z2 z3 n = []) := farsL_wrong hr'
    rw [hr'] at HK
    clear h0 h2 h3 hn hf hz3 hr
    generalize farsL x k z2 z3 n = R at *
    go_enter Tryz.func12, Tryz.ntmps12
    go_wp2_with (go_at_call 20; rw [← hwG]; have hB1 := HB1.out; refine (HK.out _ (HBG.out.trans (hB1.mono HBG.out.size))).mono ?_; rintro e w1 ⟨rfl, hb1w⟩; have hBw1 : Below wG.heap.size wG w1 := hB1.trans (hb1w.mono hB1.size))
    go_ret
    exact ⟨_, rfl, by rw [E.out]; exact (HO0.out.below hb1w).base (Nat.le_succ _), HBG.out.trans (hBw1.mono HBG.out.size)⟩
end Go.Proofs.YthnppodnjokaoaaGreatDoor
namespace Go.Proofs.YthnppodnjokaoaaGreatDoor
open Go.RowKit

set_option maxHeartbeats 2000000 in
set_option maxRecDepth 100000 in
theorem specChoose_any (x : Gm) (a0 : Option Addr) (c0 : Nat) (n1 : Int) (z2 : List Int) (a2 : Option Addr) (c2 : Nat) (z3 : List Int) (a3 : Option Addr) (c3 : Nat) (n4 : Int) (w : World) (h0 : RD w (.slice a0 x.parts.length c0) (slD (Lay.list (Lay.list Lay.int)) x.parts)) (h2 : RD w (.slice a2 z2.length c2) (slD Lay.int z2)) (h3 : RD w (.slice a3 z3.length c3) (slD Lay.int z3)) (hn : Lay.gram.wt x ≤ 1048576) (hf : Lay.gram.fit x) (_ : (Lit.int .i64 n1).wf = true) (hl2 : z2.length ≤ 1048576) (_ : (Lay.list Lay.int).fit z2) (hl3 : z3.length ≤ 1048576) (hz3 : (Lay.list Lay.int).fit z3) (_ : (Lit.int .i64 n4).wf = true) :
    Calls Tryz.prog 5 #[.agg #[.slice a0 x.parts.length c0], .int .i64 n1, .slice a2 z2.length c2, .slice a3 z3.length c3, .int .i64 n4] w fun e w' => e = .returned (.tuple #[.int .i64 (resChoose x n1 z2 z3 n4).1, .int .i64 (resChoose x n1 z2 z3 n4).2]) ∧ Below w.heap.size w w' := by
  have B0 : Below w.heap.size w (w.alloc (.cells #[.slice a0 x.parts.length c0] 29)) := (Below.refl w.heap.size w).alloc (Nat.le_refl _) _
  have HX : Hid (Calls Tryz.prog 12 #[.agg #[.slice a0 x.parts.length c0], .int .i64 n1, .slice a2 z2.length c2, .slice a3 z3.length c3, .int .i64 n4] (w.alloc (.cells #[.slice a0 x.parts.length c0] 29)) fun e w' => ∃ v, e = .returned v ∧ OwnInts w' (w.alloc (.cells #[.slice a0 x.parts.length c0] 29)).heap.size 3 v (farsL x n1 z2 z3 n4) ∧ Below (w.alloc (.cells #[.slice a0 x.parts.length c0] 29)).heap.size (w.alloc (.cells #[.slice a0 x.parts.length c0] 29)) w') := l8Fars_any x a0 c0 n1 z2 a2 c2 z3 a3 c3 n4 _ (h0.later B0) (h2.later B0) (h3.later B0) hn hf hl2 hl3 hz3
  have HB0 : Hid (Below w.heap.size w (w.alloc (.cells #[.slice a0 x.parts.length c0] 29))) := B0
  have HRI : Hid (farsL x n1 z2 z3 n4 ≠ [] → 0 ≤ n4 ∧ n4 ≤ z3.length ∧ z3.length ≤ 10) := farsL_right
  have hlen : (farsL x n1 z2 z3 n4).length ≤ 8 := farsL_len
  have HRES1 : Hid (farsL x n1 z2 z3 n4 = [] → resChoose x n1 z2 z3 n4 = (-1, 0)) := fun h => by unfold resChoose; rw [if_pos h]
  have HRES2 : Hid (farsL x n1 z2 z3 n4 ≠ [] → resChoose x n1 z2 z3 n4 = ((bestTo (farsL x n1 z2 z3 n4) (farsL x n1 z2 z3 n4).length : Int), min (z3.length - n4) (secTo (farsL x n1 z2 z3 n4) (bestTo (farsL x n1 z2 z3 n4) (farsL x n1 z2 z3 n4).length) (farsL x n1 z2 z3 n4).length + 1))) := fun h => by unfold resChoose; rw [if_neg h]
  generalize resChoose x n1 z2 z3 n4 = R at *
  have HRG : Hid (∀ y ∈ farsL x n1 z2 z3 n4, 0 ≤ y ∧ y ≤ 11) := farsL_range
  generalize farsL x n1 z2 z3 n4 = L at *
  clear h0 h2 h3 hn hf hz3 B0
  generalize x.parts = P at *
  go_enter Tryz.func5, Tryz.ntmps5
  by_cases hne : L = []
  · have HR := HRES1.out hne
    rw [hne] at HX
    clear HRES1 HRES2 HRG HRI hlen
    rw [HR]
    clear HR
    go_wp2_with (go_at_call 12; refine HX.out.mono ?_; rintro e w2 ⟨v2, rfl, hO2, hb2⟩; obtain ⟨a5, c5, rfl, hr2, _⟩ := hO2.shape)
    refine bodyPost_ret (results_tmp2 rfl _ _ _) rfl ?_
    exact ⟨rfl, HB0.out.trans (hb2.mono HB0.out.size)⟩
  have hpos : 0 < L.length := List.length_pos_iff.2 hne
  have hne0 : ((L.length : Int) == 0) = false := by simp; omega
  have HR : Hid (R = ((bestTo L L.length : Int), min (z3.length - n4) (secTo L (bestTo L L.length) L.length + 1))) := HRES2.out hne
  obtain ⟨i1, i2, i3⟩ := HRI.out hne
  have HNE : Hid (L ≠ []) := hne
  clear HRES1 HRES2 HRI hne
  obtain ⟨m, hm⟩ : ∃ m : Nat, n4 = m := ⟨n4.toNat, by omega⟩
  subst hm
  go_wp2_with (go_at_call 12; refine HX.out.mono ?_; rintro e w2 ⟨v2, rfl, hO2, hb2⟩; obtain ⟨a5, c5, rfl, hr2, _⟩ := hO2.shape)
  obtain ⟨b5, o5, rfl, hb5, hcell⟩ := hr2.at hpos
  have HC : Hid (∀ W, Below w2.heap.size w2 W → ∀ a (ha : a < L.length), W.cell? ⟨b5, o5 + a, none⟩ = some (.int .i64 L[a])) := fun W hW a ha => by
    have := (hW.cell (p := ⟨b5, o5 + a, none⟩) hb5).trans (hcell a ha)
    rw [List.getD_eq_getElem?_getD, List.getElem?_eq_getElem ha, Option.getD_some] at this
    exact this
  have HB2 : Hid (Below w.heap.size w w2) := HB0.out.trans (hb2.mono HB0.out.size)
  clear hO2 hb2 hr2 HB0 HX hcell hb5
  have HBR : Hid (Below w2.heap.size w2 w2) := Below.refl _ _
  go_loopw [13, 14] (fun u1 u2 wr => ∃ (a : Nat), 1 ≤ a ∧ a ≤ L.length ∧ u2 = .int .i64 (a : Int) ∧ u1 = .int .i64 (bestTo L a : Int) ∧ Hid (Below w2.heap.size w2 wr)) (fun _ u2 _ => L.length - (intOf u2).toNat)
  case atStart => exact ⟨1, Nat.le_refl _, hpos, rfl, by rw [bestTo_one]; rfl, HBR⟩
  case round =>
    obtain ⟨a, ha1, ha, rfl, rfl, HB⟩ := hrel
    clear HBR
    by_cases hlt : a < L.length
    · have hbl := bestTo_lt L a
      have hb : bestTo L a < L.length := by omega
      have q1 := HC.out wr HB.out a hlt
      have q2 := HC.out wr HB.out (bestTo L a) hb
      have HST : Hid (bestTo L (a + 1) = if L[a] > L[bestTo L a] then a else bestTo L a) := by show _ = _; rw [bestTo]; simp only [List.getD_eq_getElem?_getD, List.getElem?_eq_getElem hlt, List.getElem?_eq_getElem hb, Option.getD_some]
      obtain ⟨g1, g2⟩ := HRG.out L[a] (List.getElem_mem hlt)
      obtain ⟨g3, g4⟩ := HRG.out L[bestTo L a] (List.getElem_mem hb)
      generalize L[a] = y at *
      generalize L[bestTo L a] = z at *
      go_wp2
      go_quiet (fail)
      go_wp2
      · go_roundw
        case rel => exact ⟨a + 1, by omega, by omega, by go_num, by rw [HST.out, if_pos (by omega)], below_drewN HB.out _⟩
        case measure => simp [intOf]; omega
      · go_roundw
        case rel => exact ⟨a + 1, by omega, by omega, by go_num, by rw [HST.out, if_neg (by omega)], below_drewN HB.out _⟩
        case measure => simp [intOf]; omega
    · have e : a = L.length := by omega
      subst e
      have hb : bestTo L L.length < L.length := by have := bestTo_lt L L.length; omega
      have HSR : Hid (∀ a, -1 ≤ secTo L (bestTo L L.length) a ∧ secTo L (bestTo L L.length) a ≤ 11) := fun a => secTo_range L _ HRG.out a
      have HS0 : Hid (secTo L (bestTo L L.length) 0 = -1) := by show _ = _; rw [secTo]
      have HSS : Hid (∀ b (hb : b < L.length), secTo L (bestTo L L.length) (b + 1) = if b = bestTo L L.length then secTo L (bestTo L L.length) b else max (secTo L (bestTo L L.length) b) L[b]) := fun b hb => by rw [secTo]; simp only [List.getD_eq_getElem?_getD, List.getElem?_eq_getElem hb, Option.getD_some]
      generalize secTo L (bestTo L L.length) = sec at *
      generalize bestTo L L.length = best at *
      obtain ⟨wA, hwA⟩ : ∃ y, y = wr := ⟨_, rfl⟩
      subst hwA
      go_wp2
      go_loopw [15, 16] (fun u1 u2 wr => ∃ (b : Nat), b ≤ L.length ∧ u2 = .int .i64 (b : Int) ∧ u1 = .int .i64 (sec b) ∧ Hid (Below w2.heap.size w2 wr)) (fun _ u2 _ => L.length - (intOf u2).toNat)
      case atStart => exact ⟨0, Nat.zero_le _, rfl, by rw [HS0.out], HB⟩
      case round =>
        obtain ⟨b, hbl, rfl, rfl, HB'⟩ := hrel
        clear HB
        obtain ⟨j1, j2⟩ := HSR.out b
        by_cases hlt : b < L.length
        · have HN := HSS.out b hlt
          have q1 := HC.out wr HB'.out b hlt
          obtain ⟨g1, g2⟩ := HRG.out L[b] (List.getElem_mem hlt)
          generalize L[b] = y at *
          by_cases hbb : b = best
          · have HN' : Hid (sec (b + 1) = sec b) := by show _ = _; rw [HN, if_pos hbb]
            clear HN q1
            subst hbb
            go_wp2
            go_roundw
            case rel => exact ⟨b + 1, by omega, by go_num, by rw [HN'.out], HB'⟩
            case measure => simp [intOf]; omega
          · have HN' : Hid (sec (b + 1) = max (sec b) y) := by show _ = _; rw [HN, if_neg hbb]
            clear HN
            have hbI : ((b : Int) != (best : Int)) = true := by simp; omega
            go_wp2_with (go_at_call 13; refine (l8Max_any _ _ _).mono ?_; rintro e w6 ⟨rfl, h6⟩; replace h6 := h6.symm; subst h6)
            go_roundw
            case rel => exact ⟨b + 1, by omega, by go_num, by rw [HN'.out], HB'⟩
            case measure => simp [intOf]; omega
        · have e : b = L.length := by omega
          subst e
          have HRR : Hid (R = ((best : Int), min (z3.length - (m : Int)) (sec L.length + 1))) := HR.out
          clear HR
          go_wp2_with (go_at_call 14; refine (l1Min_any _ _ _).mono ?_; rintro e w6 ⟨rfl, h6⟩; replace h6 := h6.symm; subst h6)
          refine bodyPost_ret (results_tmp2 rfl _ _ _) rfl ?_
          exact ⟨by rw [HRR.out]; rfl, HB2.out.trans (HB'.out.mono HB2.out.size)⟩
end Go.Proofs.YthnppodnjokaoaaGreatDoor
namespace Go.Proofs.YthnppodnjokaoaaGreatDoor
open Go.RowKit

theorem getD_lt {L : List Int} {a : Nat} (h : a < L.length) : L.getD a 0 = L[a] := by rw [List.getD_eq_getElem?_getD, List.getElem?_eq_getElem h, Option.getD_some]
theorem bestTo_first (L : List Int) (a : Nat) (ha : a ≤ L.length) : (∀ j, j < a → L.getD j 0 ≤ L.getD (bestTo L a) 0) ∧ ∀ j, j < bestTo L a → L.getD j 0 ≠ L.getD (bestTo L a) 0 := by
  induction a with
  | zero => exact ⟨fun j hj => by omega, fun j hj => by simp [bestTo] at hj⟩
  | succ a ih =>
    obtain ⟨i1, i2⟩ := ih (by omega)
    rw [bestTo]
    split
    · rename_i h
      refine ⟨fun j hj => ?_, fun j hj e => ?_⟩
      · by_cases e : j = a
        · rw [e]; exact Int.le_refl _
        · have := i1 j (by omega); omega
      · have := i1 j hj; omega
    · rename_i h
      refine ⟨fun j hj => ?_, i2⟩
      by_cases e : j = a
      · rw [e]; omega
      · exact i1 j (by omega)

set_option maxHeartbeats 1000000 in
theorem maxS_any (L : List Int) (a0 : Option Addr) (c0 : Nat) (w : World) (h : Reads w a0 L) (hp : 0 < L.length) (hl : L.length ≤ 1048576) :
    Calls Tryz.prog 26 #[.slice a0 L.length c0] w fun e w' => e = .returned (.int .i64 (L.getD (bestTo L L.length) 0)) ∧ w' = w := by
  obtain ⟨b, o, rfl, hb, hc⟩ := h.at hp
  have HC : Hid (∀ j (hj : j < L.length), w.cell? ⟨b, o + j, none⟩ = some (.int .i64 L[j])) := fun j hj => by rw [← getD_lt hj]; exact hc j hj
  have q0 := HC.out 0 hp
  simp only [Nat.add_zero] at q0
  have HR0 : Hid (L[0] = L.getD (bestTo L 1) 0) := by show _ = _; rw [bestTo_one, getD_lt hp]
  clear hc h
  generalize L[0] = y0 at *
  go_enter Tryz.func26, Tryz.ntmps26
  go_wp2
  go_loopw [3, 4] (fun u1 u2 wr => ∃ (a : Nat), 1 ≤ a ∧ a ≤ L.length ∧ u2 = .int .i64 (a : Int) ∧ u1 = .int .i64 (L.getD (bestTo L a) 0) ∧ wr = w) (fun _ u2 _ => L.length - (intOf u2).toNat)
  case atStart => exact ⟨1, Nat.le_refl _, hp, rfl, by rw [← HR0.out], rfl⟩
  case round =>
    obtain ⟨a, ha1, ha, rfl, rfl, hw⟩ := hrel
    replace hw := hw.symm
    subst hw
    by_cases hlt : a < L.length
    · have q := HC.out a hlt
      have HST : Hid (L.getD (bestTo L (a + 1)) 0 = if L.getD (bestTo L a) 0 < L[a] then L[a] else L.getD (bestTo L a) 0) := by
        show _ = _
        rw [bestTo, ← getD_lt hlt]
        split <;> rfl
      generalize L[a] = y at *
      generalize L.getD (bestTo L a) 0 = x at *
      go_wp2
      go_roundw
      case rel => exact ⟨a + 1, by omega, by omega, by go_num, by rw [HST.out], trivial⟩
      case measure => simp [intOf]; omega
    · have e : a = L.length := by omega
      subst e
      go_wp2
      go_ret
      exact ⟨rfl, rfl⟩

set_option maxHeartbeats 1000000 in
theorem indexS_any (L : List Int) (a0 : Option Addr) (c0 : Nat) (v : Int) (k : Nat) (w : World) (h : Reads w a0 L) (hk : k < L.length) (hv : L.getD k 0 = v) (hf : ∀ j, j < k → L.getD j 0 ≠ v) (hl : L.length ≤ 1048576) :
    Calls Tryz.prog 25 #[.slice a0 L.length c0, .int .i64 v] w fun e w' => e = .returned (.int .i64 (k : Int)) ∧ w' = w := by
  obtain ⟨b, o, rfl, hb, hc⟩ := h.at (Nat.lt_of_le_of_lt (Nat.zero_le _) hk)
  have HC : Hid (∀ j (hj : j < L.length), w.cell? ⟨b, o + j, none⟩ = some (.int .i64 (L.getD j 0))) := fun j hj => hc j hj
  have HV : Hid (L.getD k 0 = v) := hv
  have HF : Hid (∀ j, j < k → L.getD j 0 ≠ v) := hf
  clear hc h hv hf
  go_enter Tryz.func25, Tryz.ntmps25
  go_wp2
  go_loopw [8] (fun u1 wr => ∃ (a : Nat), a ≤ k ∧ u1 = .int .i64 (a : Int) ∧ wr = w) (fun u1 _ => L.length - (intOf u1).toNat)
  case atStart => exact ⟨0, Nat.zero_le _, rfl, rfl⟩
  case round =>
    obtain ⟨a, ha, rfl, hw⟩ := hrel
    replace hw := hw.symm
    subst hw
    have hlt : a < L.length := by omega
    have q := HC.out a hlt
    by_cases e : a = k
    · subst e
      rw [HV.out] at q
      go_wp2
      go_ret
      exact ⟨rfl, rfl⟩
    · have hne : L.getD a 0 ≠ v := HF.out a (by omega)
      generalize L.getD a 0 = y at *
      have hn2 : (v == y) = false := by simp; exact fun h => hne h.symm
      go_wp2
      go_roundw
      case rel => exact ⟨a + 1, by omega, by go_num, trivial⟩
      case measure => simp [intOf]; omega
end Go.Proofs.YthnppodnjokaoaaGreatDoor
namespace Go.Proofs.YthnppodnjokaoaaGreatDoor
open Go.RowKit

theorem secTo_up (L : List Int) (b a : Nat) : ∀ j, j < a → j ≠ b → L.getD j 0 ≤ secTo L b a := by
  induction a with
  | zero => intro j hj; omega
  | succ a ih =>
    intro j hj hjb
    rw [secTo]
    by_cases e : j = a
    · subst e
      rw [if_neg hjb]; omega
    · have := ih j (by omega) hjb
      split <;> omega
theorem secTo_in (L : List Int) (b a : Nat) : secTo L b a = -1 ∨ ∃ j, j < a ∧ j ≠ b ∧ L.getD j 0 = secTo L b a := by
  induction a with
  | zero => exact .inl rfl
  | succ a ih =>
    rw [secTo]
    split
    · rcases ih with h | ⟨j, h1, h2, h3⟩
      · exact .inl h
      · exact .inr ⟨j, by omega, h2, h3⟩
    · rename_i hb
      by_cases hm : secTo L b a ≤ L.getD a 0
      · exact .inr ⟨a, by omega, hb, by omega⟩
      · rw [show max (secTo L b a) (L.getD a 0) = secTo L b a by omega]
        rcases ih with h | ⟨j, h1, h2, h3⟩
        · exact .inl h
        · exact .inr ⟨j, by omega, h2, h3⟩
theorem perm_erase : ∀ (L : List Int) (b : Nat) (hb : b < L.length), L.Perm (L[b] :: L.eraseIdx b)
  | x :: l, 0, _ => by simp
  | x :: l, b + 1, hb => by
    have := perm_erase l b (by simpa using hb)
    simp only [List.getElem_cons_succ, List.eraseIdx_cons_succ]
    exact (List.Perm.cons x this).trans (List.Perm.swap _ _ _)
theorem mem_erase {L : List Int} {b : Nat} {y : Int} : y ∈ L.eraseIdx b ↔ ∃ j, j < L.length ∧ j ≠ b ∧ L.getD j 0 = y := by
  rw [List.mem_eraseIdx_iff_getElem]
  constructor
  · rintro ⟨j, hj, hjb, e⟩
    exact ⟨j, hj, hjb, by rw [getD_lt hj]; exact e⟩
  · rintro ⟨j, hj, hjb, e⟩
    exact ⟨j, hj, hjb, by rw [getD_lt hj] at e; exact e⟩
theorem second_sorted (L : List Int) (h : 2 ≤ L.length) (hr : ∀ y ∈ L, 0 ≤ y) : (L.mergeSort (fun x y => decide (x ≤ y))).getD (L.length - 2) 0 = secTo L (bestTo L L.length) L.length := by
  have hp := List.mergeSort_perm L (fun x y => decide (x ≤ y))
  have hs := List.pairwise_mergeSort (le := fun (x y : Int) => decide (x ≤ y)) (fun a b c h1 h2 => by simp at *; omega) (fun a b => by simp; omega) L
  generalize L.mergeSort (fun x y => decide (x ≤ y)) = S at *
  have hl : S.length = L.length := hp.length_eq
  have hb : bestTo L L.length < L.length := by have := bestTo_lt L L.length; omega
  obtain ⟨f1, _⟩ := bestTo_first L L.length (Nat.le_refl _)
  rw [getD_lt hb] at f1
  have hord : ∀ i j (hi : i < S.length) (hj : j < S.length), i < j → S[i] ≤ S[j] := fun i j hi hj hij => by
    have := List.pairwise_iff_getElem.1 hs i j hi hj hij
    simpa using this
  have hgt : ∀ y ∈ L, y ≤ L[bestTo L L.length] := fun y hy => by
    obtain ⟨j, hj, e⟩ := List.mem_iff_getElem.1 hy
    have := f1 j hj
    rw [getD_lt hj, e] at this
    exact this
  have hlast : S[S.length - 1] = L[bestTo L L.length] := by
    have h1 : S[S.length - 1] ≤ L[bestTo L L.length] := hgt _ (hp.mem_iff.1 (List.getElem_mem _))
    obtain ⟨j, hj, e⟩ := List.mem_iff_getElem.1 (hp.mem_iff.2 (List.getElem_mem hb))
    have h2 : S[j] ≤ S[S.length - 1] := by
      by_cases e2 : j = S.length - 1
      · subst e2; exact Int.le_refl _
      · exact hord j (S.length - 1) hj (by omega) (by omega)
    omega
  have hpe : (S.eraseIdx (S.length - 1)).Perm (L.eraseIdx (bestTo L L.length)) := by
    have h1 := (perm_erase S (S.length - 1) (by omega)).symm.trans (hp.trans (perm_erase L _ hb))
    rw [hlast] at h1
    exact List.Perm.cons_inv h1
  have hmem : ∀ y, y ∈ S.eraseIdx (S.length - 1) ↔ ∃ j, j < L.length ∧ j ≠ bestTo L L.length ∧ L.getD j 0 = y := fun y => hpe.mem_iff.trans mem_erase
  have hup : S.getD (L.length - 2) 0 ≤ secTo L (bestTo L L.length) L.length := by
    have h2 : S.getD (L.length - 2) 0 ∈ S.eraseIdx (S.length - 1) := mem_erase.2 ⟨L.length - 2, by omega, by omega, rfl⟩
    obtain ⟨j, hj, hjb, e⟩ := (hmem _).1 h2
    rw [← e]
    exact secTo_up L _ _ j hj hjb
  rcases secTo_in L (bestTo L L.length) L.length with e | ⟨j, hj, hjb, e⟩
  · have h2 : S.getD (L.length - 2) 0 ∈ S.eraseIdx (S.length - 1) := mem_erase.2 ⟨L.length - 2, by omega, by omega, rfl⟩
    have := hr _ (hp.mem_iff.1 ((List.eraseIdx_sublist S (S.length - 1)).subset h2))
    omega
  · obtain ⟨i, hi, hib, e2⟩ := mem_erase.1 ((hmem _).2 ⟨j, hj, hjb, e⟩)
    rw [getD_lt hi] at e2
    have : S[i] ≤ S[L.length - 2] := by
      by_cases e3 : i = L.length - 2
      · subst e3; exact Int.le_refl _
      · exact hord i (L.length - 2) hi (by omega) (by omega)
    rw [getD_lt (by omega : L.length - 2 < S.length)] at hup ⊢
    omega
end Go.Proofs.YthnppodnjokaoaaGreatDoor
