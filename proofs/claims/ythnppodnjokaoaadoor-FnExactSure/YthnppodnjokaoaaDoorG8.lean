/-
  Contracts and plain mathematics, joined: L8New, L8Go, SpecFars, Append1, SpecSure, Concat, FlagsEq. No statement is proved here.
-/
import Derived.Test.YthnppodnjokaoaaDoorG7
import Derived.Test.YthnppodnjokaoaaDoorG6
import Derived.Deep.CutRange
import Derived.Test.YthnppodnjokaoaaDoorG2
import Derived.Test.YthnppodnjokaoaaDoorG3
import Derived.Test.YthnppodnjokaoaaDoorChecked
import Derived.Lib.AppendZeros
namespace Go.Proofs.YthnppodnjokaoaaDoor
open Go.RowKit

/-- The table of how far, while it is made at block b (w: the world in which it has been laid down): kF rows of the one list, kD of the other. -/
def New8In (n bT : Nat) (w : World) (vF vD : Value) (bF bD τ : Nat → Nat) (kF kD : Nat) (wr : World) : Prop :=
  Half w.heap.size w.heap.size 1 25 3 n (.int .i64 0) 1 τ vF bF kF wr ∧ Half w.heap.size w.heap.size 2 85 4 n (.bool false) 2 τ vD bD kD wr ∧ τ w.heap.size = 0 ∧
    Below w.heap.size w wr ∧ w.heap.size < wr.heap.size ∧ wr.cell? ⟨w.heap.size, 0, none⟩ = some (.pointer (some ⟨bT, 0, none⟩)) ∧ ∀ i, wr.frozen? ⟨w.heap.size, i, none⟩ = false
section
variable {n bT : Nat} {w : World} {vF vD : Value} {bF bD τ : Nat → Nat} {kF kD : Nat} {wr w1 w3 : World} {g3 cap3 : Nat}
theorem New8In.start {tT : TypeId} : New8In n bT w (.slice none 0 0) (.slice none 0 0) (fun _ => 0) (fun _ => 0) (fun _ => 0) 0 0 (w.alloc (.cells #[.pointer (some ⟨bT, 0, none⟩), .slice none 0 0, .slice none 0 0] tT)) := by
  have hb : Below w.heap.size w (w.alloc (.cells #[.pointer (some ⟨bT, 0, none⟩), .slice none 0 0, .slice none 0 0] tT)) := (Below.refl _ _).alloc (Nat.le_refl _) _
  have key : ∀ (W : World) (cs : Array Value) (t : TypeId) (i : Nat), (W.alloc (.cells cs t)).cell? ⟨W.heap.size, i, none⟩ = cs[i]? := fun W cs t i => by simp
  have k2 := fun i => key w #[.pointer (some ⟨bT, 0, none⟩), .slice none 0 0, .slice none 0 0] tT i
  refine ⟨⟨k2 1, World.ownsRow_nil _ _ _ _, fun i h => by omega, fun i h => by omega, fun g h => by simp [Value.ownBlock] at h, fun i h => by omega⟩, ⟨k2 2, World.ownsRow_nil _ _ _ _, fun i h => by omega, fun i h => by omega, fun g h => by simp [Value.ownBlock] at h, fun i h => by omega⟩, rfl, hb, by simp, k2 0, fun i => ?_⟩
  rw [frozen?_alloc_cells]; simp [World.frozen?]
theorem New8In.stepF (h : New8In n bT w vF vD bF bD τ kF kD wr) (hb1 : Below wr.heap.size wr w1) (hs1 : w1.heap.size = wr.heap.size + 2) (hrow : w1.rowIs wr.heap.size 3 n (fun _ => .int .i64 0))
    (hown : w3.ownsRow w.heap.size 25 1 (.slice (some ⟨g3, 0, none⟩) (kF + 1) cap3) (kF + 1) (rowsAt bF n kF ++ [.slice (some ⟨wr.heap.size, 0, none⟩) n n])) (hgr : w1.grownBy w3 vF.ownBlock) (hat : vF.ownBlock = some g3 ∨ g3 = wr.heap.size + 2) :
    (w3.cell? ⟨w.heap.size, 1, none⟩ = some vF ∧ w3.frozen? ⟨w.heap.size, 1, none⟩ = false) ∧ ∃ v' b' τ', New8In n bT w v' vD b' bD τ' (kF + 1) kD (w3.setCell ⟨w.heap.size, 1, none⟩ (.slice (some ⟨g3, 0, none⟩) (kF + 1) cap3)) := by
  obtain ⟨HW, HD, t1, hb, hl, c0, hf⟩ := h
  have hgw : wr.grownBy w3 vF.ownBlock := grownBy_trans (grownBy_of_below hb1 _) hgr
  have nT : ∀ b, τ b = 0 → some b ≠ vF.ownBlock := fun b e e2 => by have := HW.tagV b e2.symm; omega
  have k1 := hgw.block w.heap.size hl (nT _ t1)
  refine ⟨⟨by rw [blk_cell k1]; exact HW.cell, by rw [blk_frozen k1]; exact hf 1⟩, ?_⟩
  obtain ⟨τ', e1, H'⟩ := HW.grown (.inl rfl) hb1 (Nat.le_refl _) hb.size hrow hown hgr (hat.imp id (fun e => by omega)) rfl hl t1
  have t1' : τ' w.heap.size = 0 := by rw [e1 _ hl]; exact t1
  have D1 := HD.kept (τ' := τ') (blk_cell k1) hgw (fun b e => by
    have := HW.tagV b e
    exact ⟨by omega, fun i _ => by omega⟩) e1
  have D2 := D1.kept (τ' := τ') (cell_set_off (x := .slice (some ⟨g3, 0, none⟩) (kF + 1) cap3) (.inr (by decide))) (setCell_grows w3 w.heap.size 1 (.slice (some ⟨g3, 0, none⟩) (kF + 1) cap3)) (fun b e => by
    obtain rfl := Option.some.inj e
    exact ⟨by omega, fun i _ => by omega⟩) (fun _ _ => rfl)
  refine ⟨_, _, τ', H', D2, t1', ?_, ?_, ?_, fun i => ?_⟩
  · exact (hb.grown hgw hb.size (fun k hk => (HW.own.lt k hk).1)).setCell (Nat.le_refl _) _
  · have := hgw.size; simp; omega
  · rw [cell_set_off (.inr (by decide)), blk_cell k1]; exact c0
  · rw [World.frozen?_setCell, blk_frozen k1]; exact hf i
theorem New8In.stepD (h : New8In n bT w vF vD bF bD τ kF kD wr) (hb1 : Below wr.heap.size wr w1) (hs1 : w1.heap.size = wr.heap.size + 2) (hrow : w1.rowIs wr.heap.size 4 n (fun _ => .bool false))
    (hown : w3.ownsRow w.heap.size 85 1 (.slice (some ⟨g3, 0, none⟩) (kD + 1) cap3) (kD + 1) (rowsAt bD n kD ++ [.slice (some ⟨wr.heap.size, 0, none⟩) n n])) (hgr : w1.grownBy w3 vD.ownBlock) (hat : vD.ownBlock = some g3 ∨ g3 = wr.heap.size + 2) :
    (w3.cell? ⟨w.heap.size, 2, none⟩ = some vD ∧ w3.frozen? ⟨w.heap.size, 2, none⟩ = false) ∧ ∃ v' b' τ', New8In n bT w vF v' bF b' τ' kF (kD + 1) (w3.setCell ⟨w.heap.size, 2, none⟩ (.slice (some ⟨g3, 0, none⟩) (kD + 1) cap3)) := by
  obtain ⟨HY, HX, t1, hb, hl, c0, hf⟩ := h
  have hgw : wr.grownBy w3 vD.ownBlock := grownBy_trans (grownBy_of_below hb1 _) hgr
  have nT : ∀ b, τ b = 0 → some b ≠ vD.ownBlock := fun b e e2 => by have := HX.tagV b e2.symm; omega
  have k1 := hgw.block w.heap.size hl (nT _ t1)
  refine ⟨⟨by rw [blk_cell k1]; exact HX.cell, by rw [blk_frozen k1]; exact hf 2⟩, ?_⟩
  obtain ⟨τ', e1, H'⟩ := HX.grown (.inr rfl) hb1 (Nat.le_refl _) hb.size hrow hown hgr (hat.imp id (fun e => by omega)) rfl hl t1
  have t1' : τ' w.heap.size = 0 := by rw [e1 _ hl]; exact t1
  have D1 := HY.kept (τ' := τ') (blk_cell k1) hgw (fun b e => by
    have := HX.tagV b e
    exact ⟨by omega, fun i _ => by omega⟩) e1
  have D2 := D1.kept (τ' := τ') (cell_set_off (x := .slice (some ⟨g3, 0, none⟩) (kD + 1) cap3) (.inr (by decide))) (setCell_grows w3 w.heap.size 2 (.slice (some ⟨g3, 0, none⟩) (kD + 1) cap3)) (fun b e => by
    obtain rfl := Option.some.inj e
    exact ⟨by omega, fun i _ => by omega⟩) (fun _ _ => rfl)
  refine ⟨_, _, τ', D2, H', t1', ?_, ?_, ?_, fun i => ?_⟩
  · exact (hb.grown hgw hb.size (fun k hk => (HX.own.lt k hk).1)).setCell (Nat.le_refl _) _
  · have := hgw.size; simp; omega
  · rw [cell_set_off (.inr (by decide)), blk_cell k1]; exact c0
  · rw [World.frozen?_setCell, blk_frozen k1]; exact hf i
end
set_option maxHeartbeats 8000000 in
set_option maxRecDepth 100000 in
theorem l8New_any (P : List (List (List Int))) (ws : List Int) (aP : Option Addr) (cP : Nat) (aw : Option Addr) (cw : Nat) (wz : World) (hn : ws.length ≤ 10) (hp : P.length ≤ 20) (hp0 : 0 < P.length) :
    Calls Tryd.prog 67 #[.agg #[.slice aP P.length cP], .slice aw ws.length cw] wz fun e w' => ∃ (t : TP) (w2 : World) (f : Nat), e = .returned (.pointer (some ⟨w2.heap.size, 0, none⟩)) ∧ f = w2.heap.size ∧ Hid (Tab P ws (wz.alloc (.cells #[.slice aP P.length cP] 28)) t aP cP aw cw (fun _ => False) w2) ∧ Hid (∃ vF vD bF bD τ, New8In (ws.length + 1) t.bT w2 vF vD bF bD τ P.length P.length w') := by
  have X : Hid (Calls Tryd.prog 89 #[.agg #[.slice aP P.length cP], .slice aw ws.length cw] (wz.alloc (.cells #[.slice aP P.length cP] 28)) fun e w' => ∃ t : TP, e = .returned (.pointer (some ⟨t.bT, 0, none⟩)) ∧ Tab P ws (wz.alloc (.cells #[.slice aP P.length cP] 28)) t aP cP aw cw (fun _ => False) w') := by
    refine (l7New_any P ws aP cP aw cw _ hn hp).mono ?_
    rintro e w' ⟨rfl, H⟩
    obtain ⟨vW, vD, bW, bD, τ, HI⟩ := H.out
    obtain ⟨t, ht, hT⟩ := HI.tab hp0
    exact ⟨t, by rw [ht], hT⟩
  have qG : (wz.alloc (.cells #[.slice aP P.length cP] 28)).cell? ⟨wz.heap.size, 0, none⟩ = some (.slice aP P.length cP) := by simp
  have hGs : wz.heap.size < (wz.alloc (.cells #[.slice aP P.length cP] 28)).heap.size := by simp
  go_enter Tryd.func67, Tryd.ntmps67
  go_wp2_with fail
  refine X.out.mono ?_
  rintro e w ⟨t, rfl, hT⟩
  have HT : Hid (Tab P ws (wz.alloc (.cells #[.slice aP P.length cP] 28)) t aP cP aw cw (fun _ => False) w) := hT
  have hwG : wz.heap.size < w.heap.size := Nat.lt_of_lt_of_le hGs hT.low.size
  have qW : w.cell? ⟨wz.heap.size, 0, none⟩ = some (.slice aP P.length cP) := (hT.low.cell (p := ⟨wz.heap.size, 0, none⟩) hGs).trans qG
  clear X qG hGs hT
  go_wp2
  go_loopw [6] (fun sk wr => ∃ k : Nat, k ≤ P.length ∧ sk = .int .i64 (k : Int) ∧ Hid (∃ vF vD bF bD τ, New8In (ws.length + 1) t.bT w vF vD bF bD τ k k wr)) (fun sk _ => P.length - (intOf sk).toNat)
  case atStart =>
    exact ⟨0, Nat.zero_le _, rfl, _, _, _, _, _, New8In.start⟩
  case round =>
    obtain ⟨wA, hwA⟩ : ∃ y, y = wr := ⟨_, rfl⟩
    subst hwA
    obtain ⟨k, hk, rfl, HK⟩ := hrel
    obtain ⟨vW, vD, bW, bD, τ, HI⟩ := HK.out
    have q0 := (HI.2.2.2.1.cell (p := ⟨wz.heap.size, 0, none⟩) hwG).trans qW
    by_cases hlt : k < P.length
    · have hmk5 := fun wx => run_make_row' (P := Tryd.prog) 25 3 (.int .i64 0) 8 Tryd.underlying25 Tryd.infoInt rfl .i64 .i64 (ws.length + 1) (by omega) (by omega) wx
      have hmk6 := fun wx => run_make_row' (P := Tryd.prog) 85 4 (.bool false) 1 Tryd.underlying85 Tryd.infoBool rfl .i64 .i64 (ws.length + 1) (by omega) (by omega) wx
      rw [show ((ws.length + 1 : Nat) : Int) = (ws.length : Int) + 1 from rfl] at hmk5 hmk6
      go_upto_region 5 with fail
      go_cut [] from 12 to 44 (fun wx => Hid (∃ vF vD bF bD τ, New8In (ws.length + 1) t.bT w vF vD bF bD τ (k + 1) k wx))
      case first =>
        have qc := HI.1.cell
        have hlA := HI.2.2.2.2.1
        have n1 : w.heap.size ≠ wA.heap.size := by omega
        have HBN : Hid (Below wA.heap.size wA (((wA.alloc (.cells (madeCells #[.int .i64 0] (ws.length + 1)) 3)).alloc (.cells #[.slice (some ⟨wA.heap.size, 0, none⟩) (ws.length + 1) (ws.length + 1)] 25))).drew) := (((Below.refl _ _).alloc (Nat.le_refl _) _).alloc (by simp) _).drew
        have HRN : Hid (((wA.alloc (.cells (madeCells #[.int .i64 0] (ws.length + 1)) 3)).alloc (.cells #[.slice (some ⟨wA.heap.size, 0, none⟩) (ws.length + 1) (ws.length + 1)] 25)).drew.rowIs wA.heap.size 3 (ws.length + 1) (fun _ => .int .i64 0)) := rowIs_below (World.rowIs_made wA (.int .i64 0) (ws.length + 1) 3) ((Below.refl _ _).alloc (Nat.le_refl _) _).drew
        have HOWN : Hid (((wA.alloc (.cells (madeCells #[.int .i64 0] (ws.length + 1)) 3)).alloc (.cells #[.slice (some ⟨wA.heap.size, 0, none⟩) (ws.length + 1) (ws.length + 1)] 25)).drew.ownsRow w.heap.size 25 1 vW k (rowsAt bW (ws.length + 1) k)) := HI.1.own.kept (grownBy_of_below HBN.out none) (by cases vW.ownBlock <;> simp)
        have HNEW : Hid (∀ (j : Nat) (u : Value), ([.slice (some ⟨wA.heap.size, 0, none⟩) (ws.length + 1) (ws.length + 1)] : List Value)[j]? = some u → ((wA.alloc (.cells (madeCells #[.int .i64 0] (ws.length + 1)) 3)).alloc (.cells #[.slice (some ⟨wA.heap.size, 0, none⟩) (ws.length + 1) (ws.length + 1)] 25)).drew.cell? ((⟨wA.heap.size + 1, 0, none⟩ : Addr).add j) = some u) := fun j u hu => new_one wA _ _ _ 0 j u hu
        have qc2 : ((wA.alloc (.cells (madeCells #[.int .i64 0] (ws.length + 1)) 3)).alloc (.cells #[.slice (some ⟨wA.heap.size, 0, none⟩) (ws.length + 1) (ws.length + 1)] 25)).cell? ⟨w.heap.size, 1, none⟩ = some vW := (HBN.out.cell (p := ⟨w.heap.size, 1, none⟩) hlA).trans qc
        have HBAS : Hid (w.heap.size ≤ ((wA.alloc (.cells (madeCells #[.int .i64 0] (ws.length + 1)) 3)).alloc (.cells #[.slice (some ⟨wA.heap.size, 0, none⟩) (ws.length + 1) (ws.length + 1)] 25)).drew.heap.size) := by have := HBN.out.size; have := HI.2.2.2.1.size; show _ ≤ _; omega
        have HFIN : Hid (∀ g3 cap3 w3, w3.ownsRow w.heap.size 25 1 (.slice (some ⟨g3, 0, none⟩) (k + 1) cap3) (k + 1) (rowsAt bW (ws.length + 1) k ++ [.slice (some ⟨wA.heap.size, 0, none⟩) (ws.length + 1) (ws.length + 1)]) → ((wA.alloc (.cells (madeCells #[.int .i64 0] (ws.length + 1)) 3)).alloc (.cells #[.slice (some ⟨wA.heap.size, 0, none⟩) (ws.length + 1) (ws.length + 1)] 25)).drew.grownBy w3 vW.ownBlock → (vW.ownBlock = some g3 ∨ g3 = wA.heap.size + 2) →
          w3.cell? ⟨w.heap.size, 1, none⟩ = some vW ∧ w3.frozen? ⟨w.heap.size, 1, none⟩ = false ∧ Hid (∃ vF vD bF bD τ, New8In (ws.length + 1) t.bT w vF vD bF bD τ (k + 1) k (w3.setCell ⟨w.heap.size, 1, none⟩ (.slice (some ⟨g3, 0, none⟩) (k + 1) cap3)))) := fun g3 cap3 w3 h1 h2 h3 => by
            obtain ⟨⟨r1, r2⟩, v', b', τ', r3⟩ := HI.stepF HBN.out (by simp) HRN.out h1 h2 h3
            exact ⟨r1, r2, ⟨v', vD, b', bD, τ', r3⟩⟩
        clear HI HK HBN HRN
        refine wp_region_held_drew (S := (fun w' => True)) (by kernel_rfl) trivial (fun hHeld => ?_)
        refine take_atL (i := 0) (d := some 19) (v := .pointer (some ⟨w.heap.size, 0, none⟩)) rfl rfl (by kernel_rfl) (by kernel_rfl) (by kernel_rfl) (fun _ _ _ h => h) (by rfl) ?_ hHeld ?_
        · intro w' hSw; clear hSw; go_simp; first | done | rfl | (refine wrap_in ?_ ?_ <;> omega) | (intro hbad; exfalso; omega)
        try simp only [Act.put, List.setIfInBounds_toArray, List.set_cons_zero, List.set_cons_succ]
        refine take_atL (i := 1) (d := some 20) (v := .pointer (some ⟨w.heap.size, 0, none⟩)) rfl rfl (by kernel_rfl) (by kernel_rfl) (by kernel_rfl) (fun _ _ _ h => h) (by rfl) ?_ hHeld ?_
        · intro w' hSw; clear hSw; go_simp; first | done | rfl | (refine wrap_in ?_ ?_ <;> omega) | (intro hbad; exfalso; omega)
        try simp only [Act.put, List.setIfInBounds_toArray, List.set_cons_zero, List.set_cons_succ]
        refine take_atL (i := 2) (d := some 21) (v := .pointer (some ⟨w.heap.size, 0, none⟩)) rfl rfl (by kernel_rfl) (by kernel_rfl) (by kernel_rfl) (fun _ _ _ h => h) (by rfl) ?_ hHeld ?_
        · intro w' hSw; clear hSw; go_simp; first | done | rfl | (refine wrap_in ?_ ?_ <;> omega) | (intro hbad; exfalso; omega)
        try simp only [Act.put, List.setIfInBounds_toArray, List.set_cons_zero, List.set_cons_succ]
        refine take_atL (i := 3) (d := some 22) (v := .pointer (some ⟨w.heap.size, 1, none⟩)) rfl rfl (by kernel_rfl) (by kernel_rfl) (by kernel_rfl) (fun _ _ _ h => h) (by rfl) ?_ hHeld ?_
        · intro w' hSw; clear hSw; go_simp; first | done | rfl | (refine wrap_in ?_ ?_ <;> omega) | (intro hbad; exfalso; omega)
        try simp only [Act.put, List.setIfInBounds_toArray, List.set_cons_zero, List.set_cons_succ]
        refine take_atL (i := 5) (d := some 24) (v := .slice aw ws.length cw) rfl rfl (by kernel_rfl) (by kernel_rfl) (by kernel_rfl) (fun _ _ _ h => h) (by rfl) ?_ hHeld ?_
        · intro w' hSw; clear hSw; go_simp; first | done | rfl | (refine wrap_in ?_ ?_ <;> omega) | (intro hbad; exfalso; omega)
        try simp only [Act.put, List.setIfInBounds_toArray, List.set_cons_zero, List.set_cons_succ]
        refine take_atL (i := 6) (d := some 25) (v := .int .i64 ((ws.length : Int))) rfl rfl (by kernel_rfl) (by kernel_rfl) (by kernel_rfl) (fun _ _ _ h => h) (by rfl) ?_ hHeld ?_
        · intro w' hSw; clear hSw; go_simp; first | done | rfl | (refine wrap_in ?_ ?_ <;> omega) | (intro hbad; exfalso; omega)
        try simp only [Act.put, List.setIfInBounds_toArray, List.set_cons_zero, List.set_cons_succ]
        refine take_atL (i := 7) (d := some 26) (v := .int .i64 ((ws.length : Int) + 1)) rfl rfl (by kernel_rfl) (by kernel_rfl) (by kernel_rfl) (fun _ _ _ h => h) (by rfl) ?_ hHeld ?_
        · intro w' hSw; clear hSw; go_simp; first | done | rfl | (refine wrap_in ?_ ?_ <;> omega) | (intro hbad; exfalso; omega)
        try simp only [Act.put, List.setIfInBounds_toArray, List.set_cons_zero, List.set_cons_succ]
        refine wpAnyH_ready (rs := [4, 8]) (by kernel_rfl) (by simp) ?_
        refine AllReadyH.cons (o := _) rfl (fun K hK => ?_) (AllReadyH.cons (o := _) rfl (fun K hK => ?_) AllReadyH.nil)
        · rw [if_pos (by rfl)]
          go_simp
          refine hK.out _ _ trivial (fun hHeld => ?_)
          clear hK K
          try simp only [Act.put, List.setIfInBounds_toArray, List.set_cons_zero, List.set_cons_succ]
          refine wpAnyH_ready (rs := [8]) (by kernel_rfl) (by simp) ?_
          refine AllReadyH.cons (o := _) rfl (fun K hK => ?_) AllReadyH.nil
          rw [if_pos (by rfl)]
          go_simp
          refine hK.out _ _ trivial (fun hHeld => ?_)
          clear hK K
          try simp only [Act.put, List.setIfInBounds_toArray, List.set_cons_zero, List.set_cons_succ]
          refine wpAnyH_ready (rs := [9]) (by kernel_rfl) (by simp) ?_
          refine AllReadyH.cons (o := _) rfl (fun K hK => ?_) AllReadyH.nil
          rw [if_pos (by rfl)]
          go_simp
          refine hK.out _ _ trivial (fun hHeld => ?_)
          clear hK K
          try simp only [Act.put, List.setIfInBounds_toArray, List.set_cons_zero, List.set_cons_succ]
          refine wpAnyH_ready (rs := [10]) (by kernel_rfl) (by simp) ?_
          refine AllReadyH.cons (o := _) rfl (fun K hK => ?_) AllReadyH.nil
          obtain ⟨i0, hi0, hz0, hz1, hz2⟩ := info_parts Tryd.infoIntS
          refine step_append_lies _ (by rfl) _ _ 64 (by rfl) w.heap.size 25 i0 (.slice none 0 0) 1 24 Tryd.underlying64 hi0 hz0 hz1 hz2 rfl (by decide) vW k (rowsAt bW (ws.length + 1) k) (by rfl) HOWN.out ⟨wA.heap.size + 1, 0, none⟩ 1 1 [.slice (some ⟨wA.heap.size, 0, none⟩) (ws.length + 1) (ws.length + 1)] (by rfl) rfl (fun j u hu => HNEW.out j u hu) (by intro u hu; simp at hu; subst hu; rfl) (by decide) (by unfold maxLen; omega) (by omega) HBAS.out (wA.heap.size + 2) (by simp) ?_
          intro g3 cap3 w3 hown3 hgr3 hat3 hlt3
          have HF := HFIN.out g3 cap3 w3 hown3 hgr3 hat3
          clear HFIN
          refine hK.out _ _ trivial (fun hHeld => ?_)
          clear hK K
          try simp only [Act.put, List.setIfInBounds_toArray]
          refine take_atL (i := 11) (d := some 30) (v := .pointer (some ⟨w.heap.size, 0, none⟩)) rfl rfl (by kernel_rfl) (by kernel_rfl) (by kernel_rfl) (fun _ _ _ h => h) (by rfl) ?_ hHeld ?_
          · intro w' hSw; clear hSw; go_simp; first | done | rfl | (refine wrap_in ?_ ?_ <;> omega) | (intro hbad; exfalso; omega)
          try simp only [Act.put]
          refine take_atL (i := 12) (d := some 31) (v := .pointer (some ⟨w.heap.size, 1, none⟩)) rfl rfl (by kernel_rfl) (by kernel_rfl) (by kernel_rfl) (fun _ _ _ h => h) (by rfl) ?_ hHeld ?_
          · intro w' hSw; clear hSw; go_simp; first | done | rfl | (refine wrap_in ?_ ?_ <;> omega) | (intro hbad; exfalso; omega)
          try simp only [Act.put]
          have hc3 := HF.1
          have hf3 := HF.2.1
          refine wpAnyH_ready (rs := [13]) (by kernel_rfl) (by simp) ?_
          refine AllReadyH.cons (o := _) rfl (fun K hK => ?_) AllReadyH.nil
          rw [if_pos (by rfl)]
          go_simp
          refine hK.out _ _ trivial (fun hHeld => ?_)
          clear hK K
          try simp only [Act.put, List.setIfInBounds_toArray, List.set_cons_zero, List.set_cons_succ]
          refine wpAnyH_done (by kernel_rfl) ?_ _
          clear hHeld
          go_wp2_with fail
          go_meet
          case rel => exact HF.2.2
        · rw [if_pos (by rfl)]
          go_simp
          refine hK.out _ _ trivial (fun hHeld => ?_)
          clear hK K
          try simp only [Act.put, List.setIfInBounds_toArray, List.set_cons_zero, List.set_cons_succ]
          refine wpAnyH_ready (rs := [4, 9]) (by kernel_rfl) (by simp) ?_
          refine AllReadyH.cons (o := _) rfl (fun K hK => ?_) (AllReadyH.cons (o := _) rfl (fun K hK => ?_) AllReadyH.nil)
          · rw [if_pos (by rfl)]
            go_simp
            refine hK.out _ _ trivial (fun hHeld => ?_)
            clear hK K
            try simp only [Act.put, List.setIfInBounds_toArray, List.set_cons_zero, List.set_cons_succ]
            refine wpAnyH_ready (rs := [9]) (by kernel_rfl) (by simp) ?_
            refine AllReadyH.cons (o := _) rfl (fun K hK => ?_) AllReadyH.nil
            rw [if_pos (by rfl)]
            go_simp
            refine hK.out _ _ trivial (fun hHeld => ?_)
            clear hK K
            try simp only [Act.put, List.setIfInBounds_toArray, List.set_cons_zero, List.set_cons_succ]
            refine wpAnyH_ready (rs := [10]) (by kernel_rfl) (by simp) ?_
            refine AllReadyH.cons (o := _) rfl (fun K hK => ?_) AllReadyH.nil
            obtain ⟨i0, hi0, hz0, hz1, hz2⟩ := info_parts Tryd.infoIntS
            refine step_append_lies _ (by rfl) _ _ 64 (by rfl) w.heap.size 25 i0 (.slice none 0 0) 1 24 Tryd.underlying64 hi0 hz0 hz1 hz2 rfl (by decide) vW k (rowsAt bW (ws.length + 1) k) (by rfl) HOWN.out ⟨wA.heap.size + 1, 0, none⟩ 1 1 [.slice (some ⟨wA.heap.size, 0, none⟩) (ws.length + 1) (ws.length + 1)] (by rfl) rfl (fun j u hu => HNEW.out j u hu) (by intro u hu; simp at hu; subst hu; rfl) (by decide) (by unfold maxLen; omega) (by omega) HBAS.out (wA.heap.size + 2) (by simp) ?_
            intro g3 cap3 w3 hown3 hgr3 hat3 hlt3
            have HF := HFIN.out g3 cap3 w3 hown3 hgr3 hat3
            clear HFIN
            refine hK.out _ _ trivial (fun hHeld => ?_)
            clear hK K
            try simp only [Act.put, List.setIfInBounds_toArray]
            refine take_atL (i := 11) (d := some 30) (v := .pointer (some ⟨w.heap.size, 0, none⟩)) rfl rfl (by kernel_rfl) (by kernel_rfl) (by kernel_rfl) (fun _ _ _ h => h) (by rfl) ?_ hHeld ?_
            · intro w' hSw; clear hSw; go_simp; first | done | rfl | (refine wrap_in ?_ ?_ <;> omega) | (intro hbad; exfalso; omega)
            try simp only [Act.put]
            refine take_atL (i := 12) (d := some 31) (v := .pointer (some ⟨w.heap.size, 1, none⟩)) rfl rfl (by kernel_rfl) (by kernel_rfl) (by kernel_rfl) (fun _ _ _ h => h) (by rfl) ?_ hHeld ?_
            · intro w' hSw; clear hSw; go_simp; first | done | rfl | (refine wrap_in ?_ ?_ <;> omega) | (intro hbad; exfalso; omega)
            try simp only [Act.put]
            have hc3 := HF.1
            have hf3 := HF.2.1
            refine wpAnyH_ready (rs := [13]) (by kernel_rfl) (by simp) ?_
            refine AllReadyH.cons (o := _) rfl (fun K hK => ?_) AllReadyH.nil
            rw [if_pos (by rfl)]
            go_simp
            refine hK.out _ _ trivial (fun hHeld => ?_)
            clear hK K
            try simp only [Act.put, List.setIfInBounds_toArray, List.set_cons_zero, List.set_cons_succ]
            refine wpAnyH_done (by kernel_rfl) ?_ _
            clear hHeld
            go_wp2_with fail
            go_meet
            case rel => exact HF.2.2
          · rw [if_pos (by rfl)]
            go_simp
            refine hK.out _ _ trivial (fun hHeld => ?_)
            clear hK K
            try simp only [Act.put, List.setIfInBounds_toArray, List.set_cons_zero, List.set_cons_succ]
            refine wpAnyH_ready (rs := [4]) (by kernel_rfl) (by simp) ?_
            refine AllReadyH.cons (o := _) rfl (fun K hK => ?_) AllReadyH.nil
            rw [if_pos (by rfl)]
            go_simp
            refine hK.out _ _ trivial (fun hHeld => ?_)
            clear hK K
            try simp only [Act.put, List.setIfInBounds_toArray, List.set_cons_zero, List.set_cons_succ]
            refine wpAnyH_ready (rs := [10]) (by kernel_rfl) (by simp) ?_
            refine AllReadyH.cons (o := _) rfl (fun K hK => ?_) AllReadyH.nil
            obtain ⟨i0, hi0, hz0, hz1, hz2⟩ := info_parts Tryd.infoIntS
            refine step_append_lies _ (by rfl) _ _ 64 (by rfl) w.heap.size 25 i0 (.slice none 0 0) 1 24 Tryd.underlying64 hi0 hz0 hz1 hz2 rfl (by decide) vW k (rowsAt bW (ws.length + 1) k) (by rfl) HOWN.out ⟨wA.heap.size + 1, 0, none⟩ 1 1 [.slice (some ⟨wA.heap.size, 0, none⟩) (ws.length + 1) (ws.length + 1)] (by rfl) rfl (fun j u hu => HNEW.out j u hu) (by intro u hu; simp at hu; subst hu; rfl) (by decide) (by unfold maxLen; omega) (by omega) HBAS.out (wA.heap.size + 2) (by simp) ?_
            intro g3 cap3 w3 hown3 hgr3 hat3 hlt3
            have HF := HFIN.out g3 cap3 w3 hown3 hgr3 hat3
            clear HFIN
            refine hK.out _ _ trivial (fun hHeld => ?_)
            clear hK K
            try simp only [Act.put, List.setIfInBounds_toArray]
            refine take_atL (i := 11) (d := some 30) (v := .pointer (some ⟨w.heap.size, 0, none⟩)) rfl rfl (by kernel_rfl) (by kernel_rfl) (by kernel_rfl) (fun _ _ _ h => h) (by rfl) ?_ hHeld ?_
            · intro w' hSw; clear hSw; go_simp; first | done | rfl | (refine wrap_in ?_ ?_ <;> omega) | (intro hbad; exfalso; omega)
            try simp only [Act.put]
            refine take_atL (i := 12) (d := some 31) (v := .pointer (some ⟨w.heap.size, 1, none⟩)) rfl rfl (by kernel_rfl) (by kernel_rfl) (by kernel_rfl) (fun _ _ _ h => h) (by rfl) ?_ hHeld ?_
            · intro w' hSw; clear hSw; go_simp; first | done | rfl | (refine wrap_in ?_ ?_ <;> omega) | (intro hbad; exfalso; omega)
            try simp only [Act.put]
            have hc3 := HF.1
            have hf3 := HF.2.1
            refine wpAnyH_ready (rs := [13]) (by kernel_rfl) (by simp) ?_
            refine AllReadyH.cons (o := _) rfl (fun K hK => ?_) AllReadyH.nil
            rw [if_pos (by rfl)]
            go_simp
            refine hK.out _ _ trivial (fun hHeld => ?_)
            clear hK K
            try simp only [Act.put, List.setIfInBounds_toArray, List.set_cons_zero, List.set_cons_succ]
            refine wpAnyH_done (by kernel_rfl) ?_ _
            clear hHeld
            go_wp2_with fail
            go_meet
            case rel => exact HF.2.2
      case rest =>
        clear HI HK q0
        obtain ⟨wA2, hwA⟩ : ∃ y, y = wc := ⟨_, rfl⟩
        subst hwA
        have HK2 : Hid (∃ vF vD bF bD τ, New8In (ws.length + 1) t.bT w vF vD bF bD τ (k + 1) k wA2) := hcut
        clear hcut hmk5
        obtain ⟨vW, vD, bW, bD, τ, HI⟩ := HK2.out
        obtain ⟨wA, hwA⟩ : ∃ y, y = wA2 := ⟨_, rfl⟩
        subst hwA
        go_upto_region 6 with fail
        have qc := HI.2.1.cell
        have hlA := HI.2.2.2.2.1
        have n1 : w.heap.size ≠ wA.heap.size := by omega
        have HBN : Hid (Below wA.heap.size wA (((wA.alloc (.cells (madeCells #[.bool false] (ws.length + 1)) 4)).alloc (.cells #[.slice (some ⟨wA.heap.size, 0, none⟩) (ws.length + 1) (ws.length + 1)] 85))).drew) := (((Below.refl _ _).alloc (Nat.le_refl _) _).alloc (by simp) _).drew
        have HRN : Hid (((wA.alloc (.cells (madeCells #[.bool false] (ws.length + 1)) 4)).alloc (.cells #[.slice (some ⟨wA.heap.size, 0, none⟩) (ws.length + 1) (ws.length + 1)] 85)).drew.rowIs wA.heap.size 4 (ws.length + 1) (fun _ => .bool false)) := rowIs_below (World.rowIs_made wA (.bool false) (ws.length + 1) 4) ((Below.refl _ _).alloc (Nat.le_refl _) _).drew
        have HOWN : Hid (((wA.alloc (.cells (madeCells #[.bool false] (ws.length + 1)) 4)).alloc (.cells #[.slice (some ⟨wA.heap.size, 0, none⟩) (ws.length + 1) (ws.length + 1)] 85)).drew.ownsRow w.heap.size 85 1 vD k (rowsAt bD (ws.length + 1) k)) := HI.2.1.own.kept (grownBy_of_below HBN.out none) (by cases vD.ownBlock <;> simp)
        have HNEW : Hid (∀ (j : Nat) (u : Value), ([.slice (some ⟨wA.heap.size, 0, none⟩) (ws.length + 1) (ws.length + 1)] : List Value)[j]? = some u → ((wA.alloc (.cells (madeCells #[.bool false] (ws.length + 1)) 4)).alloc (.cells #[.slice (some ⟨wA.heap.size, 0, none⟩) (ws.length + 1) (ws.length + 1)] 85)).drew.cell? ((⟨wA.heap.size + 1, 0, none⟩ : Addr).add j) = some u) := fun j u hu => new_one wA _ _ _ 0 j u hu
        have qc2 : ((wA.alloc (.cells (madeCells #[.bool false] (ws.length + 1)) 4)).alloc (.cells #[.slice (some ⟨wA.heap.size, 0, none⟩) (ws.length + 1) (ws.length + 1)] 85)).cell? ⟨w.heap.size, 2, none⟩ = some vD := (HBN.out.cell (p := ⟨w.heap.size, 2, none⟩) hlA).trans qc
        have HBAS : Hid (w.heap.size ≤ ((wA.alloc (.cells (madeCells #[.bool false] (ws.length + 1)) 4)).alloc (.cells #[.slice (some ⟨wA.heap.size, 0, none⟩) (ws.length + 1) (ws.length + 1)] 85)).drew.heap.size) := by have := HBN.out.size; have := HI.2.2.2.1.size; show _ ≤ _; omega
        have HFIN : Hid (∀ g3 cap3 w3, w3.ownsRow w.heap.size 85 1 (.slice (some ⟨g3, 0, none⟩) (k + 1) cap3) (k + 1) (rowsAt bD (ws.length + 1) k ++ [.slice (some ⟨wA.heap.size, 0, none⟩) (ws.length + 1) (ws.length + 1)]) → ((wA.alloc (.cells (madeCells #[.bool false] (ws.length + 1)) 4)).alloc (.cells #[.slice (some ⟨wA.heap.size, 0, none⟩) (ws.length + 1) (ws.length + 1)] 85)).drew.grownBy w3 vD.ownBlock → (vD.ownBlock = some g3 ∨ g3 = wA.heap.size + 2) →
          w3.cell? ⟨w.heap.size, 2, none⟩ = some vD ∧ w3.frozen? ⟨w.heap.size, 2, none⟩ = false ∧ Hid (∃ vF vD bF bD τ, New8In (ws.length + 1) t.bT w vF vD bF bD τ (k + 1) (k + 1) (w3.setCell ⟨w.heap.size, 2, none⟩ (.slice (some ⟨g3, 0, none⟩) (k + 1) cap3)))) := fun g3 cap3 w3 h1 h2 h3 => by
            obtain ⟨⟨r1, r2⟩, v', b', τ', r3⟩ := HI.stepD HBN.out (by simp) HRN.out h1 h2 h3
            exact ⟨r1, r2, ⟨vW, v', bW, b', τ', r3⟩⟩
        clear HI HK2 HBN HRN
        refine wp_region_held_drew (S := (fun w' => True)) (by kernel_rfl) trivial (fun hHeld => ?_)
        refine take_atL (i := 0) (d := some 32) (v := .pointer (some ⟨w.heap.size, 0, none⟩)) rfl rfl (by kernel_rfl) (by kernel_rfl) (by kernel_rfl) (fun _ _ _ h => h) (by rfl) ?_ hHeld ?_
        · intro w' hSw; clear hSw; go_simp; first | done | rfl | (refine wrap_in ?_ ?_ <;> omega) | (intro hbad; exfalso; omega)
        try simp only [Act.put, List.setIfInBounds_toArray, List.set_cons_zero, List.set_cons_succ]
        refine take_atL (i := 1) (d := some 33) (v := .pointer (some ⟨w.heap.size, 0, none⟩)) rfl rfl (by kernel_rfl) (by kernel_rfl) (by kernel_rfl) (fun _ _ _ h => h) (by rfl) ?_ hHeld ?_
        · intro w' hSw; clear hSw; go_simp; first | done | rfl | (refine wrap_in ?_ ?_ <;> omega) | (intro hbad; exfalso; omega)
        try simp only [Act.put, List.setIfInBounds_toArray, List.set_cons_zero, List.set_cons_succ]
        refine take_atL (i := 2) (d := some 34) (v := .pointer (some ⟨w.heap.size, 0, none⟩)) rfl rfl (by kernel_rfl) (by kernel_rfl) (by kernel_rfl) (fun _ _ _ h => h) (by rfl) ?_ hHeld ?_
        · intro w' hSw; clear hSw; go_simp; first | done | rfl | (refine wrap_in ?_ ?_ <;> omega) | (intro hbad; exfalso; omega)
        try simp only [Act.put, List.setIfInBounds_toArray, List.set_cons_zero, List.set_cons_succ]
        refine take_atL (i := 3) (d := some 35) (v := .pointer (some ⟨w.heap.size, 2, none⟩)) rfl rfl (by kernel_rfl) (by kernel_rfl) (by kernel_rfl) (fun _ _ _ h => h) (by rfl) ?_ hHeld ?_
        · intro w' hSw; clear hSw; go_simp; first | done | rfl | (refine wrap_in ?_ ?_ <;> omega) | (intro hbad; exfalso; omega)
        try simp only [Act.put, List.setIfInBounds_toArray, List.set_cons_zero, List.set_cons_succ]
        refine take_atL (i := 5) (d := some 37) (v := .slice aw ws.length cw) rfl rfl (by kernel_rfl) (by kernel_rfl) (by kernel_rfl) (fun _ _ _ h => h) (by rfl) ?_ hHeld ?_
        · intro w' hSw; clear hSw; go_simp; first | done | rfl | (refine wrap_in ?_ ?_ <;> omega) | (intro hbad; exfalso; omega)
        try simp only [Act.put, List.setIfInBounds_toArray, List.set_cons_zero, List.set_cons_succ]
        refine take_atL (i := 6) (d := some 38) (v := .int .i64 ((ws.length : Int))) rfl rfl (by kernel_rfl) (by kernel_rfl) (by kernel_rfl) (fun _ _ _ h => h) (by rfl) ?_ hHeld ?_
        · intro w' hSw; clear hSw; go_simp; first | done | rfl | (refine wrap_in ?_ ?_ <;> omega) | (intro hbad; exfalso; omega)
        try simp only [Act.put, List.setIfInBounds_toArray, List.set_cons_zero, List.set_cons_succ]
        refine take_atL (i := 7) (d := some 39) (v := .int .i64 ((ws.length : Int) + 1)) rfl rfl (by kernel_rfl) (by kernel_rfl) (by kernel_rfl) (fun _ _ _ h => h) (by rfl) ?_ hHeld ?_
        · intro w' hSw; clear hSw; go_simp; first | done | rfl | (refine wrap_in ?_ ?_ <;> omega) | (intro hbad; exfalso; omega)
        try simp only [Act.put, List.setIfInBounds_toArray, List.set_cons_zero, List.set_cons_succ]
        refine wpAnyH_ready (rs := [4, 8]) (by kernel_rfl) (by simp) ?_
        refine AllReadyH.cons (o := _) rfl (fun K hK => ?_) (AllReadyH.cons (o := _) rfl (fun K hK => ?_) AllReadyH.nil)
        · rw [if_pos (by rfl)]
          go_simp
          refine hK.out _ _ trivial (fun hHeld => ?_)
          clear hK K
          try simp only [Act.put, List.setIfInBounds_toArray, List.set_cons_zero, List.set_cons_succ]
          refine wpAnyH_ready (rs := [8]) (by kernel_rfl) (by simp) ?_
          refine AllReadyH.cons (o := _) rfl (fun K hK => ?_) AllReadyH.nil
          rw [if_pos (by rfl)]
          go_simp
          refine hK.out _ _ trivial (fun hHeld => ?_)
          clear hK K
          try simp only [Act.put, List.setIfInBounds_toArray, List.set_cons_zero, List.set_cons_succ]
          refine wpAnyH_ready (rs := [9]) (by kernel_rfl) (by simp) ?_
          refine AllReadyH.cons (o := _) rfl (fun K hK => ?_) AllReadyH.nil
          rw [if_pos (by rfl)]
          go_simp
          refine hK.out _ _ trivial (fun hHeld => ?_)
          clear hK K
          try simp only [Act.put, List.setIfInBounds_toArray, List.set_cons_zero, List.set_cons_succ]
          refine wpAnyH_ready (rs := [10]) (by kernel_rfl) (by simp) ?_
          refine AllReadyH.cons (o := _) rfl (fun K hK => ?_) AllReadyH.nil
          obtain ⟨i0, hi0, hz0, hz1, hz2⟩ := info_parts Tryd.infoBoolS
          refine step_append_lies _ (by rfl) _ _ 98 (by rfl) w.heap.size 85 i0 (.slice none 0 0) 1 24 Tryd.underlying98 hi0 hz0 hz1 hz2 rfl (by decide) vD k (rowsAt bD (ws.length + 1) k) (by rfl) HOWN.out ⟨wA.heap.size + 1, 0, none⟩ 1 1 [.slice (some ⟨wA.heap.size, 0, none⟩) (ws.length + 1) (ws.length + 1)] (by rfl) rfl (fun j u hu => HNEW.out j u hu) (by intro u hu; simp at hu; subst hu; rfl) (by decide) (by unfold maxLen; omega) (by omega) HBAS.out (wA.heap.size + 2) (by simp) ?_
          intro g3 cap3 w3 hown3 hgr3 hat3 hlt3
          have HF := HFIN.out g3 cap3 w3 hown3 hgr3 hat3
          clear HFIN
          refine hK.out _ _ trivial (fun hHeld => ?_)
          clear hK K
          try simp only [Act.put, List.setIfInBounds_toArray]
          refine take_atL (i := 11) (d := some 43) (v := .pointer (some ⟨w.heap.size, 0, none⟩)) rfl rfl (by kernel_rfl) (by kernel_rfl) (by kernel_rfl) (fun _ _ _ h => h) (by rfl) ?_ hHeld ?_
          · intro w' hSw; clear hSw; go_simp; first | done | rfl | (refine wrap_in ?_ ?_ <;> omega) | (intro hbad; exfalso; omega)
          try simp only [Act.put]
          refine take_atL (i := 12) (d := some 44) (v := .pointer (some ⟨w.heap.size, 2, none⟩)) rfl rfl (by kernel_rfl) (by kernel_rfl) (by kernel_rfl) (fun _ _ _ h => h) (by rfl) ?_ hHeld ?_
          · intro w' hSw; clear hSw; go_simp; first | done | rfl | (refine wrap_in ?_ ?_ <;> omega) | (intro hbad; exfalso; omega)
          try simp only [Act.put]
          have hc3 := HF.1
          have hf3 := HF.2.1
          refine wpAnyH_ready (rs := [13]) (by kernel_rfl) (by simp) ?_
          refine AllReadyH.cons (o := _) rfl (fun K hK => ?_) AllReadyH.nil
          rw [if_pos (by rfl)]
          go_simp
          refine hK.out _ _ trivial (fun hHeld => ?_)
          clear hK K
          try simp only [Act.put, List.setIfInBounds_toArray, List.set_cons_zero, List.set_cons_succ]
          refine wpAnyH_done (by kernel_rfl) ?_ _
          clear hHeld
          go_wp2
          go_roundw
          case rel => exact ⟨k + 1, by omega, by go_num, HF.2.2⟩
          case measure => simp [intOf]; omega
        · rw [if_pos (by rfl)]
          go_simp
          refine hK.out _ _ trivial (fun hHeld => ?_)
          clear hK K
          try simp only [Act.put, List.setIfInBounds_toArray, List.set_cons_zero, List.set_cons_succ]
          refine wpAnyH_ready (rs := [4, 9]) (by kernel_rfl) (by simp) ?_
          refine AllReadyH.cons (o := _) rfl (fun K hK => ?_) (AllReadyH.cons (o := _) rfl (fun K hK => ?_) AllReadyH.nil)
          · rw [if_pos (by rfl)]
            go_simp
            refine hK.out _ _ trivial (fun hHeld => ?_)
            clear hK K
            try simp only [Act.put, List.setIfInBounds_toArray, List.set_cons_zero, List.set_cons_succ]
            refine wpAnyH_ready (rs := [9]) (by kernel_rfl) (by simp) ?_
            refine AllReadyH.cons (o := _) rfl (fun K hK => ?_) AllReadyH.nil
            rw [if_pos (by rfl)]
            go_simp
            refine hK.out _ _ trivial (fun hHeld => ?_)
            clear hK K
            try simp only [Act.put, List.setIfInBounds_toArray, List.set_cons_zero, List.set_cons_succ]
            refine wpAnyH_ready (rs := [10]) (by kernel_rfl) (by simp) ?_
            refine AllReadyH.cons (o := _) rfl (fun K hK => ?_) AllReadyH.nil
            obtain ⟨i0, hi0, hz0, hz1, hz2⟩ := info_parts Tryd.infoBoolS
            refine step_append_lies _ (by rfl) _ _ 98 (by rfl) w.heap.size 85 i0 (.slice none 0 0) 1 24 Tryd.underlying98 hi0 hz0 hz1 hz2 rfl (by decide) vD k (rowsAt bD (ws.length + 1) k) (by rfl) HOWN.out ⟨wA.heap.size + 1, 0, none⟩ 1 1 [.slice (some ⟨wA.heap.size, 0, none⟩) (ws.length + 1) (ws.length + 1)] (by rfl) rfl (fun j u hu => HNEW.out j u hu) (by intro u hu; simp at hu; subst hu; rfl) (by decide) (by unfold maxLen; omega) (by omega) HBAS.out (wA.heap.size + 2) (by simp) ?_
            intro g3 cap3 w3 hown3 hgr3 hat3 hlt3
            have HF := HFIN.out g3 cap3 w3 hown3 hgr3 hat3
            clear HFIN
            refine hK.out _ _ trivial (fun hHeld => ?_)
            clear hK K
            try simp only [Act.put, List.setIfInBounds_toArray]
            refine take_atL (i := 11) (d := some 43) (v := .pointer (some ⟨w.heap.size, 0, none⟩)) rfl rfl (by kernel_rfl) (by kernel_rfl) (by kernel_rfl) (fun _ _ _ h => h) (by rfl) ?_ hHeld ?_
            · intro w' hSw; clear hSw; go_simp; first | done | rfl | (refine wrap_in ?_ ?_ <;> omega) | (intro hbad; exfalso; omega)
            try simp only [Act.put]
            refine take_atL (i := 12) (d := some 44) (v := .pointer (some ⟨w.heap.size, 2, none⟩)) rfl rfl (by kernel_rfl) (by kernel_rfl) (by kernel_rfl) (fun _ _ _ h => h) (by rfl) ?_ hHeld ?_
            · intro w' hSw; clear hSw; go_simp; first | done | rfl | (refine wrap_in ?_ ?_ <;> omega) | (intro hbad; exfalso; omega)
            try simp only [Act.put]
            have hc3 := HF.1
            have hf3 := HF.2.1
            refine wpAnyH_ready (rs := [13]) (by kernel_rfl) (by simp) ?_
            refine AllReadyH.cons (o := _) rfl (fun K hK => ?_) AllReadyH.nil
            rw [if_pos (by rfl)]
            go_simp
            refine hK.out _ _ trivial (fun hHeld => ?_)
            clear hK K
            try simp only [Act.put, List.setIfInBounds_toArray, List.set_cons_zero, List.set_cons_succ]
            refine wpAnyH_done (by kernel_rfl) ?_ _
            clear hHeld
            go_wp2
            go_roundw
            case rel => exact ⟨k + 1, by omega, by go_num, HF.2.2⟩
            case measure => simp [intOf]; omega
          · rw [if_pos (by rfl)]
            go_simp
            refine hK.out _ _ trivial (fun hHeld => ?_)
            clear hK K
            try simp only [Act.put, List.setIfInBounds_toArray, List.set_cons_zero, List.set_cons_succ]
            refine wpAnyH_ready (rs := [4]) (by kernel_rfl) (by simp) ?_
            refine AllReadyH.cons (o := _) rfl (fun K hK => ?_) AllReadyH.nil
            rw [if_pos (by rfl)]
            go_simp
            refine hK.out _ _ trivial (fun hHeld => ?_)
            clear hK K
            try simp only [Act.put, List.setIfInBounds_toArray, List.set_cons_zero, List.set_cons_succ]
            refine wpAnyH_ready (rs := [10]) (by kernel_rfl) (by simp) ?_
            refine AllReadyH.cons (o := _) rfl (fun K hK => ?_) AllReadyH.nil
            obtain ⟨i0, hi0, hz0, hz1, hz2⟩ := info_parts Tryd.infoBoolS
            refine step_append_lies _ (by rfl) _ _ 98 (by rfl) w.heap.size 85 i0 (.slice none 0 0) 1 24 Tryd.underlying98 hi0 hz0 hz1 hz2 rfl (by decide) vD k (rowsAt bD (ws.length + 1) k) (by rfl) HOWN.out ⟨wA.heap.size + 1, 0, none⟩ 1 1 [.slice (some ⟨wA.heap.size, 0, none⟩) (ws.length + 1) (ws.length + 1)] (by rfl) rfl (fun j u hu => HNEW.out j u hu) (by intro u hu; simp at hu; subst hu; rfl) (by decide) (by unfold maxLen; omega) (by omega) HBAS.out (wA.heap.size + 2) (by simp) ?_
            intro g3 cap3 w3 hown3 hgr3 hat3 hlt3
            have HF := HFIN.out g3 cap3 w3 hown3 hgr3 hat3
            clear HFIN
            refine hK.out _ _ trivial (fun hHeld => ?_)
            clear hK K
            try simp only [Act.put, List.setIfInBounds_toArray]
            refine take_atL (i := 11) (d := some 43) (v := .pointer (some ⟨w.heap.size, 0, none⟩)) rfl rfl (by kernel_rfl) (by kernel_rfl) (by kernel_rfl) (fun _ _ _ h => h) (by rfl) ?_ hHeld ?_
            · intro w' hSw; clear hSw; go_simp; first | done | rfl | (refine wrap_in ?_ ?_ <;> omega) | (intro hbad; exfalso; omega)
            try simp only [Act.put]
            refine take_atL (i := 12) (d := some 44) (v := .pointer (some ⟨w.heap.size, 2, none⟩)) rfl rfl (by kernel_rfl) (by kernel_rfl) (by kernel_rfl) (fun _ _ _ h => h) (by rfl) ?_ hHeld ?_
            · intro w' hSw; clear hSw; go_simp; first | done | rfl | (refine wrap_in ?_ ?_ <;> omega) | (intro hbad; exfalso; omega)
            try simp only [Act.put]
            have hc3 := HF.1
            have hf3 := HF.2.1
            refine wpAnyH_ready (rs := [13]) (by kernel_rfl) (by simp) ?_
            refine AllReadyH.cons (o := _) rfl (fun K hK => ?_) AllReadyH.nil
            rw [if_pos (by rfl)]
            go_simp
            refine hK.out _ _ trivial (fun hHeld => ?_)
            clear hK K
            try simp only [Act.put, List.setIfInBounds_toArray, List.set_cons_zero, List.set_cons_succ]
            refine wpAnyH_done (by kernel_rfl) ?_ _
            clear hHeld
            go_wp2
            go_roundw
            case rel => exact ⟨k + 1, by omega, by go_num, HF.2.2⟩
            case measure => simp [intOf]; omega
    · have e : k = P.length := by omega
      subst e
      clear HI
      go_wp2
      go_ret
      exact ⟨t, w, _, rfl, rfl, HT, HK⟩
end Go.Proofs.YthnppodnjokaoaaDoor
namespace Go.Proofs.YthnppodnjokaoaaDoor
open Go.RowKit

theorem New8In.two {P : List (List (List Int))} {ws : List Int} {w0 : World} {t : TP} {aP : Option Addr} {cP : Nat} {aw : Option Addr} {cw : Nat} {w2 wr : World} {vF vD : Value} {bF bD τ : Nat → Nat} (h : New8In (ws.length + 1) t.bT w2 vF vD bF bD τ P.length P.length wr)
    (hT : Tab P ws w0 t aP cP aw cw (fun _ => False) w2) (hp : 0 < P.length) : ∃ f : FP, f.bS = w2.heap.size ∧ Two P ws w0 t f aP cP aw cw wr := by
  obtain ⟨HF, HD, t1, hb, hl, c0, hf⟩ := h
  obtain ⟨oF, cF, rfl, lF1, lF2⟩ := HF.own.form hp
  obtain ⟨oD, cD, rfl, lD1, lD2⟩ := HD.own.form hp
  have tF := HF.tagV oF rfl
  have tD := HD.tagV oD rfl
  have fF := HF.tagF
  have fD := HD.tagF
  have lF : ∀ k, k < P.length → bF k < wr.heap.size := fun k hk => (HF.rows k hk).lt
  have lD : ∀ k, k < P.length → bD k < wr.heap.size := fun k hk => (HD.rows k hk).lt
  have hlow := hT.low.size
  obtain ⟨m1, m2, m3, m4⟩ := hT.lt
  have ge : ∀ b k, k < P.length → (b = bF k ∨ b = bD k) → w2.heap.size ≤ b := fun b k hk e => by
    rcases e with e | e
    · rw [e]; exact HF.low k hk
    · rw [e]; exact HD.low k hk
  refine ⟨⟨w2.heap.size, oF, oD, cF, cD, bF, bD⟩, rfl, ⟨(hT.turn (fun b ⟨k, hk, e⟩ => .inr (ge b k hk e))).later hb, ⟨⟨fun i j hi hj e => ?_, fun i j hi hj e => ?_, fun i j hi hj e => ?_, fun ⟨k, hk, e⟩ => ?_, fun ⟨k, hk, e⟩ => ?_, fun ⟨k, hk, e⟩ => ?_, fun b ⟨k, hk, e⟩ => ?_, fun b hb2 => ⟨fun ⟨k, hk, e⟩ => ?_, ?_, ?_, ?_⟩, fun b ⟨k, hk, e⟩ => ?_⟩, ⟨hl, lF2, lD2, fun b ⟨k, hk, e⟩ => ?_⟩, c0, HF.cell, HD.cell, fun k hk => ?_, fun k hk => ?_, fun b ⟨k, hk, e⟩ i => ?_, fun _ _ => false, fun _ _ => 0, fun k i hk hi => ⟨?_, ?_, fun e => by cases e⟩⟩⟩⟩
  · have h1 := fF i hi; have h2 := fF j hj; dsimp only at e; rw [e] at h1; omega
  · have h1 := fD i hi; have h2 := fD j hj; dsimp only at e; rw [e] at h1; omega
  · have h1 := fF i hi; have h2 := fD j hj; dsimp only at e; rw [e] at h1; omega
  · dsimp only at e
    rcases e with e | e
    · have h1 := fF k hk; rw [← e] at h1; omega
    · have h1 := fD k hk; rw [← e] at h1; omega
  · dsimp only at e
    rcases e with e | e
    · have h1 := fF k hk; rw [← e] at h1; omega
    · have h1 := fD k hk; rw [← e] at h1; omega
  · dsimp only at e
    rcases e with e | e
    · have h1 := fF k hk; rw [← e] at h1; omega
    · have h1 := fD k hk; rw [← e] at h1; omega
  · have := ge b k hk e; omega
  · have := ge b k hk e; have := m4 b hb2; omega
  · show b ≠ w2.heap.size; have := m4 b hb2; omega
  · show b ≠ oF; have := m4 b hb2; omega
  · show b ≠ oD; have := m4 b hb2; omega
  · have := ge b k hk e; exact ⟨by omega, by omega, by omega⟩
  · dsimp only at e
    rcases e with e | e
    · rw [e]; exact lF k hk
    · rw [e]; exact lD k hk
  · have := HF.own.cellAt k (by omega)
    rw [this, rowsAt_get _ _ hk]
  · have := HD.own.cellAt k (by omega)
    rw [this, rowsAt_get _ _ hk]
  · dsimp only at e
    rcases e with e | e
    · rw [e]; exact (HF.rows k hk).frozen i
    · rw [e]; exact (HD.rows k hk).frozen i
  · exact (HD.rows k hk).cell (by omega)
  · exact (HF.rows k hk).cell (by omega)

set_option maxHeartbeats 8000000 in
set_option maxRecDepth 100000 in
theorem l8Go_any (P : List (List (List Int))) (row ws : List Int) (aP : Option Addr) (cP : Nat) (ar : Option Addr) (cr : Nat) (aw : Option Addr) (cw : Nat) (i : Nat) (w : World) (h0 : RD w (.slice aP P.length cP) (slD (Lay.list (Lay.list Lay.int)) P)) (hr : Reads w ar row) (hws : Reads w aw ws)
    (hok : gramOkB P = true) (hL : NoLoop P) (hn : ws.length ≤ 10) (hi : i ≤ ws.length) (hrl : row.length ≤ 1048576) (hcr : row.length ≤ cr) (hrow : ∀ x ∈ row, symOk P.length x = true) :
    Calls Tryd.prog 43 #[.agg #[.slice aP P.length cP], .slice ar row.length cr, .slice aw ws.length cw, .int .i64 (i : Int)] w fun e w' => e = .returned (.int .i64 (farOf P row ws i : Int)) ∧ Below w.heap.size w w' := by
  have F := Fits.of hok
  have hp0 : 0 < P.length := by simp only [gramOkB, Bool.and_eq_true, inB_true] at hok; omega
  have hbG : Below w.heap.size w (w.alloc (.cells #[.slice aP P.length cP] 28)) := (Below.refl _ _).alloc (Nat.le_refl _) _
  have hb0 : Below w.heap.size w ((w.alloc (.cells #[.slice aP P.length cP] 28)).alloc (.cells #[.slice aP P.length cP] 28)) := hbG.alloc hbG.size _
  have X : Hid (Calls Tryd.prog 67 #[.agg #[.slice aP P.length cP], .slice aw ws.length cw] (w.alloc (.cells #[.slice aP P.length cP] 28)) fun e w' => ∃ (t : TP) (f : FP), e = .returned (.pointer (some ⟨f.bS, 0, none⟩)) ∧ Two P ws ((w.alloc (.cells #[.slice aP P.length cP] 28)).alloc (.cells #[.slice aP P.length cP] 28)) t f aP cP aw cw w') := by
    refine (l8New_any P ws aP cP aw cw _ hn F.parts hp0).mono ?_
    rintro e w' ⟨t, w2, fb, rfl, _, hT, hN⟩
    obtain ⟨vF, vD, bF, bD, τ, HI⟩ := hN.out
    obtain ⟨f, hf, hTwo⟩ := HI.two hT.out hp0
    exact ⟨t, f, by rw [hf], hTwo⟩
  have HB0 : Hid (Below w.heap.size w ((w.alloc (.cells #[.slice aP P.length cP] 28)).alloc (.cells #[.slice aP P.length cP] 28))) := hb0
  have Y : Hid (∀ (t : TP) (f : FP) (W : World), Two P ws ((w.alloc (.cells #[.slice aP P.length cP] 28)).alloc (.cells #[.slice aP P.length cP] 28)) t f aP cP aw cw W → Calls Tryd.prog 68 #[.pointer (some ⟨f.bS, 0, none⟩), .slice ar row.length cr, .int .i64 (i : Int)] W (FarPost P ws ((w.alloc (.cells #[.slice aP P.length cP] 28)).alloc (.cells #[.slice aP P.length cP] 28)) t f aP cP aw cw W (farRow ws (way P ws) (farP P ws) i row))) := fun t f W hT =>
    l8Row_any row ar cr i W hT (hws.below hb0) hn hi (hr.below hb0) hrl hcr hrow hok hL (h0.later hb0) F.parts (fun s hs hx j hj _ => by
      have := symOk_true.1 (hrow row[s] (List.getElem_mem hs))
      exact l8Part_ok hok hL (hws.below hb0) hn (h0.later hb0) F.parts _ _ j (by omega) hj (Nat.lt_succ_self _))
  have Z : Hid (∀ (t : TP) (f : FP) (W : World) (b0 : Nat), Two P ws ((w.alloc (.cells #[.slice aP P.length cP] 28)).alloc (.cells #[.slice aP P.length cP] 28)) t f aP cP aw cw W → Reads W (some ⟨b0, 0, none⟩) (vecL (deltaV i) ws.length) →
      Calls Tryd.prog 69 #[.pointer (some ⟨t.bT, 0, none⟩), .slice ar row.length cr, .slice (some ⟨b0, 0, none⟩) (ws.length + 1) (ws.length + 1)] W (GoPost P ws ((w.alloc (.cells #[.slice aP P.length cP] 28)).alloc (.cells #[.slice aP P.length cP] 28)) t aP cP aw cw (f.M P.length) W (rowNx ws (way P ws) (deltaV i) row))) := fun t f W b0 h1 h2 =>
    l7Go_ok hok hL (hws.below hb0) hn (h0.later hb0) row ar cr (deltaV i) b0 (ws.length + 1) _ W h1.far.lt.2.2.2 h1.tab (hr.below hb0) hrl h2 (deltaV_le i) hrow F.parts
  have hge : i ≤ farRow ws (way P ws) (farP P ws) i row := farRow_ge _ _ _ _ _
  have hle : farRow ws (way P ws) (farP P ws) i row ≤ ws.length := farRow_le hi (fun k j hj => farP_le P ws k j hj)
  have HE : Hid (farOf P row ws i = farRow ws (way P ws) (farP P ws) i row - i + (if rowNx ws (way P ws) (deltaV i) row ws.length = 0 then 0 else 1)) := rfl
  generalize farRow ws (way P ws) (farP P ws) i row = n at *
  generalize farOf P row ws i = r at *
  obtain ⟨v, HV⟩ : ∃ v, Hid (rowNx ws (way P ws) (deltaV i) row = v) := ⟨_, rfl⟩
  rw [HV.out] at Z HE
  clear hrow hL h0 hr hws hbG hb0 hok F hp0 HV
  have hgeI : (i : Int) ≤ (n : Int) := by omega
  have hleI : (n : Int) ≤ 10 := by omega
  have X2 : Hid (∀ (t : TP) (W : World), W.cell? ⟨t.bT, 1, none⟩ = some (.slice aw ws.length cw) → Calls Tryd.prog 70 #[.pointer (some ⟨t.bT, 0, none⟩), .int .i64 (i : Int)] W fun e w' => ∃ g5, e = .returned (.slice (some ⟨g5, 0, none⟩) (ws.length + 1) (ws.length + 1)) ∧ Reads w' (some ⟨g5, 0, none⟩) (vecL (deltaV i) ws.length) ∧ Below W.heap.size W w') := fun t W h => (l7At_any t.bT aw cw ws.length i W hn hi h).mono (fun e w' h => ⟨_, h.1, h.2.2.1, h.2.2.2⟩)
  generalize hw0 : (w.alloc (.cells #[.slice aP P.length cP] 28)).alloc (.cells #[.slice aP P.length cP] 28) = w0 at *
  clear hw0
  go_enter Tryd.func43, Tryd.ntmps43
  go_wp2_with fail
  refine X.out.mono ?_
  rintro e w1 ⟨t, f, rfl, hT1⟩
  have Y1 := Y.out t f w1 hT1
  clear X Y hT1
  go_wp2_with fail
  refine Y1.mono ?_
  rintro e w2 ⟨rfl, hT2, hW2⟩
  have HT2 : Hid (Two P ws w0 t f aP cP aw cw w2) := hT2
  have q0 := hT2.far.c0
  clear Y1 hT2 hW2
  by_cases hv0 : v ws.length = 0
  · have HR : Hid (r = n - i) := by show _ = _; rw [HE.out, if_pos hv0]; rfl
    clear HE
    go_wp2
    refine wp_region_held_drew (S := (fun w' => w'.cell? ⟨f.bS, 0, none⟩ = some (.pointer (some ⟨t.bT, 0, none⟩)) ∧ True)) (by kernel_rfl) ⟨q0, trivial⟩ (fun hHeld => ?_)
    refine take_atL (i := 0) (d := some 20) (v := .pointer (some ⟨f.bS, 0, none⟩)) rfl rfl (by kernel_rfl) (by kernel_rfl) (by kernel_rfl) (fun _ _ _ h => h) (by rfl) ?_ hHeld ?_
    · intro w' hSw; obtain ⟨s0, _⟩ := hSw; go_simp; first | done | rfl | (refine wrap_in ?_ ?_ <;> omega) | (intro hbad; exfalso; omega) | omega
    try simp only [Act.put, List.setIfInBounds_toArray, List.set_cons_zero, List.set_cons_succ]
    refine take_atL (i := 1) (d := some 21) (v := .pointer (some ⟨f.bS, 0, none⟩)) rfl rfl (by kernel_rfl) (by kernel_rfl) (by kernel_rfl) (fun _ _ _ h => h) (by rfl) ?_ hHeld ?_
    · intro w' hSw; obtain ⟨s0, _⟩ := hSw; go_simp; first | done | rfl | (refine wrap_in ?_ ?_ <;> omega) | (intro hbad; exfalso; omega) | omega
    try simp only [Act.put, List.setIfInBounds_toArray, List.set_cons_zero, List.set_cons_succ]
    refine take_atL (i := 2) (d := some 22) (v := .pointer (some ⟨f.bS, 0, none⟩)) rfl rfl (by kernel_rfl) (by kernel_rfl) (by kernel_rfl) (fun _ _ _ h => h) (by rfl) ?_ hHeld ?_
    · intro w' hSw; obtain ⟨s0, _⟩ := hSw; go_simp; first | done | rfl | (refine wrap_in ?_ ?_ <;> omega) | (intro hbad; exfalso; omega) | omega
    try simp only [Act.put, List.setIfInBounds_toArray, List.set_cons_zero, List.set_cons_succ]
    refine take_atL (i := 3) (d := some 23) (v := .pointer (some ⟨t.bT, 0, none⟩)) rfl rfl (by kernel_rfl) (by kernel_rfl) (by kernel_rfl) (fun _ _ _ h => h) (by rfl) ?_ hHeld ?_
    · intro w' hSw; obtain ⟨s0, _⟩ := hSw; go_simp; first | done | rfl | (refine wrap_in ?_ ?_ <;> omega) | (intro hbad; exfalso; omega) | omega
    try simp only [Act.put, List.setIfInBounds_toArray, List.set_cons_zero, List.set_cons_succ]
    refine take_atL (i := 4) (d := some 24) (v := .slice ar row.length cr) rfl rfl (by kernel_rfl) (by kernel_rfl) (by kernel_rfl) (fun _ _ _ h => h) (by rfl) ?_ hHeld ?_
    · intro w' hSw; obtain ⟨s0, _⟩ := hSw; go_simp; first | done | rfl | (refine wrap_in ?_ ?_ <;> omega) | (intro hbad; exfalso; omega) | omega
    try simp only [Act.put, List.setIfInBounds_toArray, List.set_cons_zero, List.set_cons_succ]
    refine take_atL (i := 5) (d := some 25) (v := .pointer (some ⟨f.bS, 0, none⟩)) rfl rfl (by kernel_rfl) (by kernel_rfl) (by kernel_rfl) (fun _ _ _ h => h) (by rfl) ?_ hHeld ?_
    · intro w' hSw; obtain ⟨s0, _⟩ := hSw; go_simp; first | done | rfl | (refine wrap_in ?_ ?_ <;> omega) | (intro hbad; exfalso; omega) | omega
    try simp only [Act.put, List.setIfInBounds_toArray, List.set_cons_zero, List.set_cons_succ]
    refine take_atL (i := 6) (d := some 26) (v := .pointer (some ⟨f.bS, 0, none⟩)) rfl rfl (by kernel_rfl) (by kernel_rfl) (by kernel_rfl) (fun _ _ _ h => h) (by rfl) ?_ hHeld ?_
    · intro w' hSw; obtain ⟨s0, _⟩ := hSw; go_simp; first | done | rfl | (refine wrap_in ?_ ?_ <;> omega) | (intro hbad; exfalso; omega) | omega
    try simp only [Act.put, List.setIfInBounds_toArray, List.set_cons_zero, List.set_cons_succ]
    refine take_atL (i := 7) (d := some 27) (v := .pointer (some ⟨f.bS, 0, none⟩)) rfl rfl (by kernel_rfl) (by kernel_rfl) (by kernel_rfl) (fun _ _ _ h => h) (by rfl) ?_ hHeld ?_
    · intro w' hSw; obtain ⟨s0, _⟩ := hSw; go_simp; first | done | rfl | (refine wrap_in ?_ ?_ <;> omega) | (intro hbad; exfalso; omega) | omega
    try simp only [Act.put, List.setIfInBounds_toArray, List.set_cons_zero, List.set_cons_succ]
    refine take_atL (i := 8) (d := some 28) (v := .pointer (some ⟨t.bT, 0, none⟩)) rfl rfl (by kernel_rfl) (by kernel_rfl) (by kernel_rfl) (fun _ _ _ h => h) (by rfl) ?_ hHeld ?_
    · intro w' hSw; obtain ⟨s0, _⟩ := hSw; go_simp; first | done | rfl | (refine wrap_in ?_ ?_ <;> omega) | (intro hbad; exfalso; omega) | omega
    try simp only [Act.put, List.setIfInBounds_toArray, List.set_cons_zero, List.set_cons_succ]
    refine take_atL (i := 9) (d := some 29) (v := .int .i64 ((i : Int))) rfl rfl (by kernel_rfl) (by kernel_rfl) (by kernel_rfl) (fun _ _ _ h => h) (by rfl) ?_ hHeld ?_
    · intro w' hSw; obtain ⟨s0, _⟩ := hSw; go_simp; first | done | rfl | (refine wrap_in ?_ ?_ <;> omega) | (intro hbad; exfalso; omega) | omega
    try simp only [Act.put, List.setIfInBounds_toArray, List.set_cons_zero, List.set_cons_succ]
    refine take_atL (i := 12) (d := some 32) (v := .slice aw ws.length cw) rfl rfl (by kernel_rfl) (by kernel_rfl) (by kernel_rfl) (fun _ _ _ h => h) (by rfl) ?_ hHeld ?_
    · intro w' hSw; obtain ⟨s0, _⟩ := hSw; go_simp; first | done | rfl | (refine wrap_in ?_ ?_ <;> omega) | (intro hbad; exfalso; omega) | omega
    try simp only [Act.put, List.setIfInBounds_toArray, List.set_cons_zero, List.set_cons_succ]
    refine take_atL (i := 13) (d := some 33) (v := .int .i64 ((ws.length : Int))) rfl rfl (by kernel_rfl) (by kernel_rfl) (by kernel_rfl) (fun _ _ _ h => h) (by rfl) ?_ hHeld ?_
    · intro w' hSw; obtain ⟨s0, _⟩ := hSw; go_simp; first | done | rfl | (refine wrap_in ?_ ?_ <;> omega) | (intro hbad; exfalso; omega) | omega
    try simp only [Act.put, List.setIfInBounds_toArray, List.set_cons_zero, List.set_cons_succ]
    refine wpAnyH_ready (rs := [10]) (by kernel_rfl) (by simp) ?_
    refine AllReadyH.cons (o := _) rfl (fun K hK => ?_) AllReadyH.nil
    rw [if_pos (by rfl)]
    go_simp
    have hd2 := Below.drew (Below.refl w2.heap.size w2)
    refine (X2.out t _ (HT2.out.later hd2).tab.c1).mono ?_
    rintro e w5 ⟨g5, rfl, hR5, hb5⟩
    have HT5 : Hid (Two P ws w0 t f aP cP aw cw w5) := (HT2.out.later hd2).later hb5
    have s0 := HT5.out.far.c0
    have Z5 := Z.out t f w5 g5 HT5.out hR5
    clear X2 Z hR5 hb5 hd2
    go_wp2_with fail
    refine hK.out _ _ ⟨s0, trivial⟩ (fun hHeld => ?_)
    clear hK K
    try simp only [Act.put, List.setIfInBounds_toArray, List.set_cons_zero, List.set_cons_succ]
    refine wpAnyH_ready (rs := [11]) (by kernel_rfl) (by simp) ?_
    refine AllReadyH.cons (o := _) rfl (fun K hK => ?_) AllReadyH.nil
    rw [if_pos (by rfl)]
    go_simp
    refine Z5.mono ?_
    rintro e w6 ⟨g6, c6, rfl, h6M, h6N, h6l, h6R, h6T, h6W⟩
    have HT6 : Hid (Two P ws w0 t f aP cP aw cw w6) := HT5.out.ways h6T h6W
    have s0 := HT6.out.far.c0
    have q6 := reads_vec h6R (Nat.le_refl _)
    have HB9 : Hid (Below w.heap.size w w6) := HB0.out.trans (h6T.low.mono HB0.out.size)
    rw [hv0] at q6
    have hyI : ¬ (0 : Int) < 0 := by decide
    clear Z5 h6M h6N h6R h6T h6W
    go_wp2_with fail
    refine hK.out _ _ ⟨s0, trivial⟩ (fun hHeld => ?_)
    clear hK K
    try simp only [Act.put, List.setIfInBounds_toArray, List.set_cons_zero, List.set_cons_succ]
    refine take_atL (i := 14) (d := some 34) (v := .pointer (some ⟨g6, ws.length, none⟩)) rfl rfl (by kernel_rfl) (by kernel_rfl) (by kernel_rfl) (fun _ _ _ h => h) (by rfl) ?_ hHeld ?_
    · intro w' hSw; obtain ⟨s0, _⟩ := hSw; go_simp; first | done | rfl | (refine wrap_in ?_ ?_ <;> omega) | (intro hbad; exfalso; omega) | omega
    try simp only [Act.put, List.setIfInBounds_toArray, List.set_cons_zero, List.set_cons_succ]
    refine wpAnyH_ready (rs := [15]) (by kernel_rfl) (by simp) ?_
    refine AllReadyH.cons (o := _) rfl (fun K hK => ?_) AllReadyH.nil
    rw [if_pos (by rfl)]
    go_simp
    refine hK.out _ _ ⟨s0, trivial⟩ (fun hHeld => ?_)
    clear hK K
    try simp only [Act.put, List.setIfInBounds_toArray, List.set_cons_zero, List.set_cons_succ]
    refine take_atL (i := 16) (d := some 36) (v := .bool (false)) rfl rfl (by kernel_rfl) (by kernel_rfl) (by kernel_rfl) (fun _ _ _ h => h) (by rfl) ?_ hHeld ?_
    · intro w' hSw; obtain ⟨s0, _⟩ := hSw; go_simp; first | done | rfl | (refine wrap_in ?_ ?_ <;> omega) | (intro hbad; exfalso; omega) | omega
    try simp only [Act.put, List.setIfInBounds_toArray, List.set_cons_zero, List.set_cons_succ]
    refine wpAnyH_done (by kernel_rfl) ?_ _
    clear hHeld
    go_wp2
    go_ret
    exact ⟨ret_int (by have := HR.out; omega), HB9.out⟩
  · have HR : Hid (r = n - i + 1) := by show _ = _; rw [HE.out, if_neg hv0]
    clear HE
    go_wp2
    refine wp_region_held_drew (S := (fun w' => w'.cell? ⟨f.bS, 0, none⟩ = some (.pointer (some ⟨t.bT, 0, none⟩)) ∧ True)) (by kernel_rfl) ⟨q0, trivial⟩ (fun hHeld => ?_)
    refine take_atL (i := 0) (d := some 20) (v := .pointer (some ⟨f.bS, 0, none⟩)) rfl rfl (by kernel_rfl) (by kernel_rfl) (by kernel_rfl) (fun _ _ _ h => h) (by rfl) ?_ hHeld ?_
    · intro w' hSw; obtain ⟨s0, _⟩ := hSw; go_simp; first | done | rfl | (refine wrap_in ?_ ?_ <;> omega) | (intro hbad; exfalso; omega) | omega
    try simp only [Act.put, List.setIfInBounds_toArray, List.set_cons_zero, List.set_cons_succ]
    refine take_atL (i := 1) (d := some 21) (v := .pointer (some ⟨f.bS, 0, none⟩)) rfl rfl (by kernel_rfl) (by kernel_rfl) (by kernel_rfl) (fun _ _ _ h => h) (by rfl) ?_ hHeld ?_
    · intro w' hSw; obtain ⟨s0, _⟩ := hSw; go_simp; first | done | rfl | (refine wrap_in ?_ ?_ <;> omega) | (intro hbad; exfalso; omega) | omega
    try simp only [Act.put, List.setIfInBounds_toArray, List.set_cons_zero, List.set_cons_succ]
    refine take_atL (i := 2) (d := some 22) (v := .pointer (some ⟨f.bS, 0, none⟩)) rfl rfl (by kernel_rfl) (by kernel_rfl) (by kernel_rfl) (fun _ _ _ h => h) (by rfl) ?_ hHeld ?_
    · intro w' hSw; obtain ⟨s0, _⟩ := hSw; go_simp; first | done | rfl | (refine wrap_in ?_ ?_ <;> omega) | (intro hbad; exfalso; omega) | omega
    try simp only [Act.put, List.setIfInBounds_toArray, List.set_cons_zero, List.set_cons_succ]
    refine take_atL (i := 3) (d := some 23) (v := .pointer (some ⟨t.bT, 0, none⟩)) rfl rfl (by kernel_rfl) (by kernel_rfl) (by kernel_rfl) (fun _ _ _ h => h) (by rfl) ?_ hHeld ?_
    · intro w' hSw; obtain ⟨s0, _⟩ := hSw; go_simp; first | done | rfl | (refine wrap_in ?_ ?_ <;> omega) | (intro hbad; exfalso; omega) | omega
    try simp only [Act.put, List.setIfInBounds_toArray, List.set_cons_zero, List.set_cons_succ]
    refine take_atL (i := 4) (d := some 24) (v := .slice ar row.length cr) rfl rfl (by kernel_rfl) (by kernel_rfl) (by kernel_rfl) (fun _ _ _ h => h) (by rfl) ?_ hHeld ?_
    · intro w' hSw; obtain ⟨s0, _⟩ := hSw; go_simp; first | done | rfl | (refine wrap_in ?_ ?_ <;> omega) | (intro hbad; exfalso; omega) | omega
    try simp only [Act.put, List.setIfInBounds_toArray, List.set_cons_zero, List.set_cons_succ]
    refine take_atL (i := 5) (d := some 25) (v := .pointer (some ⟨f.bS, 0, none⟩)) rfl rfl (by kernel_rfl) (by kernel_rfl) (by kernel_rfl) (fun _ _ _ h => h) (by rfl) ?_ hHeld ?_
    · intro w' hSw; obtain ⟨s0, _⟩ := hSw; go_simp; first | done | rfl | (refine wrap_in ?_ ?_ <;> omega) | (intro hbad; exfalso; omega) | omega
    try simp only [Act.put, List.setIfInBounds_toArray, List.set_cons_zero, List.set_cons_succ]
    refine take_atL (i := 6) (d := some 26) (v := .pointer (some ⟨f.bS, 0, none⟩)) rfl rfl (by kernel_rfl) (by kernel_rfl) (by kernel_rfl) (fun _ _ _ h => h) (by rfl) ?_ hHeld ?_
    · intro w' hSw; obtain ⟨s0, _⟩ := hSw; go_simp; first | done | rfl | (refine wrap_in ?_ ?_ <;> omega) | (intro hbad; exfalso; omega) | omega
    try simp only [Act.put, List.setIfInBounds_toArray, List.set_cons_zero, List.set_cons_succ]
    refine take_atL (i := 7) (d := some 27) (v := .pointer (some ⟨f.bS, 0, none⟩)) rfl rfl (by kernel_rfl) (by kernel_rfl) (by kernel_rfl) (fun _ _ _ h => h) (by rfl) ?_ hHeld ?_
    · intro w' hSw; obtain ⟨s0, _⟩ := hSw; go_simp; first | done | rfl | (refine wrap_in ?_ ?_ <;> omega) | (intro hbad; exfalso; omega) | omega
    try simp only [Act.put, List.setIfInBounds_toArray, List.set_cons_zero, List.set_cons_succ]
    refine take_atL (i := 8) (d := some 28) (v := .pointer (some ⟨t.bT, 0, none⟩)) rfl rfl (by kernel_rfl) (by kernel_rfl) (by kernel_rfl) (fun _ _ _ h => h) (by rfl) ?_ hHeld ?_
    · intro w' hSw; obtain ⟨s0, _⟩ := hSw; go_simp; first | done | rfl | (refine wrap_in ?_ ?_ <;> omega) | (intro hbad; exfalso; omega) | omega
    try simp only [Act.put, List.setIfInBounds_toArray, List.set_cons_zero, List.set_cons_succ]
    refine take_atL (i := 9) (d := some 29) (v := .int .i64 ((i : Int))) rfl rfl (by kernel_rfl) (by kernel_rfl) (by kernel_rfl) (fun _ _ _ h => h) (by rfl) ?_ hHeld ?_
    · intro w' hSw; obtain ⟨s0, _⟩ := hSw; go_simp; first | done | rfl | (refine wrap_in ?_ ?_ <;> omega) | (intro hbad; exfalso; omega) | omega
    try simp only [Act.put, List.setIfInBounds_toArray, List.set_cons_zero, List.set_cons_succ]
    refine take_atL (i := 12) (d := some 32) (v := .slice aw ws.length cw) rfl rfl (by kernel_rfl) (by kernel_rfl) (by kernel_rfl) (fun _ _ _ h => h) (by rfl) ?_ hHeld ?_
    · intro w' hSw; obtain ⟨s0, _⟩ := hSw; go_simp; first | done | rfl | (refine wrap_in ?_ ?_ <;> omega) | (intro hbad; exfalso; omega) | omega
    try simp only [Act.put, List.setIfInBounds_toArray, List.set_cons_zero, List.set_cons_succ]
    refine take_atL (i := 13) (d := some 33) (v := .int .i64 ((ws.length : Int))) rfl rfl (by kernel_rfl) (by kernel_rfl) (by kernel_rfl) (fun _ _ _ h => h) (by rfl) ?_ hHeld ?_
    · intro w' hSw; obtain ⟨s0, _⟩ := hSw; go_simp; first | done | rfl | (refine wrap_in ?_ ?_ <;> omega) | (intro hbad; exfalso; omega) | omega
    try simp only [Act.put, List.setIfInBounds_toArray, List.set_cons_zero, List.set_cons_succ]
    refine wpAnyH_ready (rs := [10]) (by kernel_rfl) (by simp) ?_
    refine AllReadyH.cons (o := _) rfl (fun K hK => ?_) AllReadyH.nil
    rw [if_pos (by rfl)]
    go_simp
    have hd2 := Below.drew (Below.refl w2.heap.size w2)
    refine (X2.out t _ (HT2.out.later hd2).tab.c1).mono ?_
    rintro e w5 ⟨g5, rfl, hR5, hb5⟩
    have HT5 : Hid (Two P ws w0 t f aP cP aw cw w5) := (HT2.out.later hd2).later hb5
    have s0 := HT5.out.far.c0
    have Z5 := Z.out t f w5 g5 HT5.out hR5
    clear X2 Z hR5 hb5 hd2
    go_wp2_with fail
    refine hK.out _ _ ⟨s0, trivial⟩ (fun hHeld => ?_)
    clear hK K
    try simp only [Act.put, List.setIfInBounds_toArray, List.set_cons_zero, List.set_cons_succ]
    refine wpAnyH_ready (rs := [11]) (by kernel_rfl) (by simp) ?_
    refine AllReadyH.cons (o := _) rfl (fun K hK => ?_) AllReadyH.nil
    rw [if_pos (by rfl)]
    go_simp
    refine Z5.mono ?_
    rintro e w6 ⟨g6, c6, rfl, h6M, h6N, h6l, h6R, h6T, h6W⟩
    have HT6 : Hid (Two P ws w0 t f aP cP aw cw w6) := HT5.out.ways h6T h6W
    have s0 := HT6.out.far.c0
    have q6 := reads_vec h6R (Nat.le_refl _)
    have HB9 : Hid (Below w.heap.size w w6) := HB0.out.trans (h6T.low.mono HB0.out.size)
    generalize v ws.length = y at *
    have hyI : (0 : Int) < (y : Int) := by omega
    clear Z5 h6M h6N h6R h6T h6W
    go_wp2_with fail
    refine hK.out _ _ ⟨s0, trivial⟩ (fun hHeld => ?_)
    clear hK K
    try simp only [Act.put, List.setIfInBounds_toArray, List.set_cons_zero, List.set_cons_succ]
    refine take_atL (i := 14) (d := some 34) (v := .pointer (some ⟨g6, ws.length, none⟩)) rfl rfl (by kernel_rfl) (by kernel_rfl) (by kernel_rfl) (fun _ _ _ h => h) (by rfl) ?_ hHeld ?_
    · intro w' hSw; obtain ⟨s0, _⟩ := hSw; go_simp; first | done | rfl | (refine wrap_in ?_ ?_ <;> omega) | (intro hbad; exfalso; omega) | omega
    try simp only [Act.put, List.setIfInBounds_toArray, List.set_cons_zero, List.set_cons_succ]
    refine wpAnyH_ready (rs := [15]) (by kernel_rfl) (by simp) ?_
    refine AllReadyH.cons (o := _) rfl (fun K hK => ?_) AllReadyH.nil
    rw [if_pos (by rfl)]
    go_simp
    refine hK.out _ _ ⟨s0, trivial⟩ (fun hHeld => ?_)
    clear hK K
    try simp only [Act.put, List.setIfInBounds_toArray, List.set_cons_zero, List.set_cons_succ]
    refine take_atL (i := 16) (d := some 36) (v := .bool (true)) rfl rfl (by kernel_rfl) (by kernel_rfl) (by kernel_rfl) (fun _ _ _ h => h) (by rfl) ?_ hHeld ?_
    · intro w' hSw; obtain ⟨s0, _⟩ := hSw; go_simp; first | done | rfl | (refine wrap_in ?_ ?_ <;> omega) | (intro hbad; exfalso; omega) | omega
    try simp only [Act.put, List.setIfInBounds_toArray, List.set_cons_zero, List.set_cons_succ]
    refine wpAnyH_done (by kernel_rfl) ?_ _
    clear hHeld
    go_wp2
    go_ret
    exact ⟨ret_int (by have := HR.out; omega), HB9.out⟩
end Go.Proofs.YthnppodnjokaoaaDoor
namespace Go.Proofs.YthnppodnjokaoaaDoor
open Go.RowKit

set_option maxHeartbeats 4000000 in
set_option maxRecDepth 100000 in
theorem l8Fars_any (x : Gm) (a0 : Option Addr) (c0 : Nat) (k : Int) (z2 : List Int) (a2 : Option Addr) (c2 : Nat) (z3 : List Int) (a3 : Option Addr) (c3 : Nat) (n : Int) (w : World) (h0 : RD w (.slice a0 x.parts.length c0) (slD (Lay.list (Lay.list Lay.int)) x.parts)) (h2 : RD w (.slice a2 z2.length c2) (slD Lay.int z2)) (h3 : RD w (.slice a3 z3.length c3) (slD Lay.int z3)) (hn : Lay.gram.wt x ≤ 1048576) (hf : Lay.gram.fit x) (hl2 : z2.length ≤ 1048576) (hl3 : z3.length ≤ 1048576) (hz3 : (Lay.list Lay.int).fit z3) :
    Calls Tryd.prog 21 #[.agg #[.slice a0 x.parts.length c0], .int .i64 k, .slice a2 z2.length c2, .slice a3 z3.length c3, .int .i64 n] w fun e w' => ∃ v, e = .returned v ∧ OwnInts w' w.heap.size 3 v (farsL x k z2 z3 n) ∧ Below w.heap.size w w' := by
  have BG : Below w.heap.size w (w.alloc (.cells #[.slice a0 x.parts.length c0] 28)) := (Below.refl w.heap.size w).alloc (Nat.le_refl _) _
  have hGs : (w.alloc (.cells #[.slice a0 x.parts.length c0] 28)).heap.size = w.heap.size + 1 := by simp
  have qG : (w.alloc (.cells #[.slice a0 x.parts.length c0] 28)).cell? ⟨w.heap.size, 0, none⟩ = some (.slice a0 x.parts.length c0) := by simp
  have HK : Hid (∀ W : World, Below w.heap.size w W → Calls Tryd.prog 40 #[.agg #[.slice a0 x.parts.length c0], .slice a3 z3.length c3, .int .i64 n] W fun e w' => e = .returned (.bool (rightAt x z3 n)) ∧ Below W.heap.size W w') := fun W hW => l8Ok_any x a0 c0 z3 a3 c3 n W (h0.later hW) (h3.later hW) hn hf hl3 hz3
  obtain ⟨wG, hwG⟩ : ∃ wG, wG = w.alloc (.cells #[.slice a0 x.parts.length c0] 28) := ⟨_, rfl⟩
  rw [← hwG] at BG hGs qG
  have HBG : Hid (Below w.heap.size w wG) := BG
  have B1 : Below wG.heap.size wG (wG.alloc (.cells #[] 3)) := (Below.refl _ _).alloc (Nat.le_refl _) _
  have HO0 : Hid (OwnInts (wG.alloc (.cells #[] 3)) (w.heap.size + 1) 3 (.slice (some ⟨w.heap.size + 1, 0, none⟩) 0 0) []) := by rw [← hGs]; exact OwnInts.empty (Nat.le_refl _)
  have HB1 : Hid (Below wG.heap.size wG (wG.alloc (.cells #[] 3))) := B1
  have HQ : Hid (∀ W, Below wG.heap.size wG W → W.cell? ⟨w.heap.size, 0, none⟩ = some (.slice a0 x.parts.length c0)) := fun W hW => (hW.cell (p := ⟨w.heap.size, 0, none⟩) (by show w.heap.size < _; omega)).trans qG
  by_cases hr : rightAt x z3 n = true
  · rw [hr] at HK
    obtain ⟨r1, r2, r3, r4⟩ := rightAt_yes hr
    have hok := (resCheck_ok r1).1
    have F := Fits.of hok
    have hp20 : x.parts.length ≤ 20 := F.parts
    by_cases hk : inB k 0 (x.parts.length - 1) = true
    · obtain ⟨k1, k2⟩ := inB_true.1 hk
      obtain ⟨kn, rfl⟩ : ∃ m : Nat, k = m := ⟨k.toNat, by omega⟩
      have hkn : kn < x.parts.length := by omega
      have HALL : Hid ((∀ a (ha : a < x.parts[kn].length), knownB x.parts.length (x.parts[kn][a] ++ z2) = true) → farsL x (kn : Int) z2 z3 n = altFars x.parts kn z2 z3 n.toNat) := farsL_all hr hkn
      have HNO : Hid (∀ a (ha : a < x.parts[kn].length), knownB x.parts.length (x.parts[kn][a] ++ z2) = false → farsL x (kn : Int) z2 z3 n = []) := fun a ha h => farsL_row hkn ha h
      have hp8 := F.alts _ (List.getElem_mem hkn)
      obtain ⟨b1, o1, rfl, hb1, a1, ca1, p1, q1⟩ := h0.listAt hkn
      have HR1 : Hid (RD w (.slice a1 x.parts[kn].length ca1) (slD (Lay.list Lay.int) x.parts[kn])) := q1
      have HP1 : Hid (∀ W, Below wG.heap.size wG W → W.cell? ⟨b1, o1 + kn, none⟩ = some (.slice a1 x.parts[kn].length ca1)) := fun W hW => ((BG.trans (hW.mono BG.size)).cell (p := ⟨b1, o1 + kn, none⟩) hb1).trans p1
      have HTK : Hid (∀ a (ha : a < x.parts[kn].length), (altFars x.parts kn z2 z3 n.toNat).take (a + 1) = (altFars x.parts kn z2 z3 n.toNat).take a ++ [(farOf x.parts (x.parts[kn][a] ++ z2) z3 n.toNat : Int)]) := fun a ha => altFars_take hkn ha z2 z3 n.toNat
      have HLN : Hid ((altFars x.parts kn z2 z3 n.toNat).length = x.parts[kn].length) := altFars_length hkn z2 z3 n.toNat
      have HRE : Hid (Reads w a2 z2) := h2.reads
      have HKN : Hid (∀ (row : List Int) (ar : Option Addr) (cr : Nat) (W : World), Reads W ar row → row.length ≤ 4194304 → Calls Tryd.prog 42 #[.agg #[.slice (some ⟨b1, o1, none⟩) x.parts.length c0], .slice ar row.length cr] W fun e w' => e = .returned (.bool (knownB x.parts.length row)) ∧ Below W.heap.size W w') := fun row ar cr W h1 h2 => l8Known_any x.parts row _ c0 ar cr W h1 F.parts h2
      have HGO : Hid (∀ (row : List Int) (ar : Option Addr) (cr : Nat) (W : World), Below w.heap.size w W → RD W (.slice ar row.length cr) (slD Lay.int row) → knownB x.parts.length row = true → Calls Tryd.prog 43 #[.agg #[.slice (some ⟨b1, o1, none⟩) x.parts.length c0], .slice ar row.length cr, .slice a3 z3.length c3, .int .i64 n] W fun e w' => e = .returned (.int .i64 (farOf x.parts row z3 n.toNat : Int)) ∧ Below W.heap.size W w') := fun row ar cr W hW h1 hk => by
        have := l8Go_any x.parts row z3 (some ⟨b1, o1, none⟩) c0 ar cr a3 c3 n.toNat W (h0.later hW) h1.reads (h3.later hW).reads hok (resCheck_ok r1).2 (inputOkB_len r2) (by omega) (by have := knownB_len hk; omega) h1.capL (knownB_sym hk)
        rw [nat_of r3] at this
        exact this
      have hr8 : ∀ a (ha : a < x.parts[kn].length), x.parts[kn][a].length ≤ 8 := fun a ha => F.rows _ (List.getElem_mem hkn) _ (List.getElem_mem ha)
      have HR8 : Hid (∀ a (ha : a < x.parts[kn].length), x.parts[kn][a].length ≤ 8) := hr8
      have hkI : (kn : Int) < (x.parts.length : Int) := by omega
      have HKB0 : Hid (∀ a (ha : a < x.parts[kn].length), a < 0 → knownB x.parts.length (x.parts[kn][a] ++ z2) = true) := fun a _ h => by omega
      clear hok F h0 h2 h3 hn hf hz3 hr hk q1 p1 hr8 r1 r2
      have HOX : Hid (OwnInts (wG.alloc (.cells #[] 3)) (w.heap.size + 1) 3 (.slice (some ⟨w.heap.size + 1, 0, none⟩) 0 0) ((altFars x.parts kn z2 z3 n.toNat).take 0)) := HO0.out
      generalize altFars x.parts kn z2 z3 n.toNat = L at *
      go_enter Tryd.func21, Tryd.ntmps21
      go_wp2_with (first
        | (go_at_call 40; rw [← hwG]; have hB1 := HB1.out; refine (HK.out _ (HBG.out.trans (hB1.mono HBG.out.size))).mono ?_; rintro e w1 ⟨rfl, hb1w⟩; have hBw1 : Below wG.heap.size wG w1 := hB1.trans (hb1w.mono hB1.size); have qg1 := HQ.out w1 hBw1)
        | (go_at_call 41; refine (l1In_any _ _ _ _).mono ?_; rintro e w3 ⟨rfl, h3w⟩; replace h3w := h3w.symm; subst h3w; rw [inB_true.2 ⟨k1, k2⟩]))
      have HO1 : Hid (OwnInts w1 (w.heap.size + 1) 3 (.slice (some ⟨w.heap.size + 1, 0, none⟩) 0 0) (L.take 0)) := HOX.out.below hb1w
      have HBw1 : Hid (Below wG.heap.size wG w1) := hBw1
      clear hB1 hb1w hBw1 qg1 HK HO0 HB1 B1 HOX qG BG
      go_loopw [11, 12] (fun s11 s12 wr => ∃ (a : Nat) (vo : Value), a ≤ x.parts[kn].length ∧ s12 = .int .i64 (a : Int) ∧ s11 = vo ∧ OwnInts wr (w.heap.size + 1) 3 vo (L.take a) ∧ Hid (Below wG.heap.size wG wr) ∧ Hid (∀ b (hb : b < x.parts[kn].length), b < a → knownB x.parts.length (x.parts[kn][b] ++ z2) = true)) (fun _ s12 _ => x.parts[kn].length - (intOf s12).toNat)
      case atStart => exact ⟨0, _, Nat.zero_le _, rfl, rfl, HO1.out, HBw1, HKB0⟩
      case round =>
        obtain ⟨a, vo, ha, rfl, hvo, hO, HBr, HKB⟩ := hrel
        replace hvo := hvo.symm
        subst hvo
        obtain ⟨wA, hwA⟩ : ∃ y, y = wr := ⟨_, rfl⟩
        subst hwA
        clear HO1 HBw1 HKB0
        have qg := HQ.out wA HBr.out
        have p1 := HP1.out wA HBr.out
        have HO : Hid (OwnInts wA (w.heap.size + 1) 3 vo (L.take a)) := hO
        have hbw : Below w.heap.size w wA := HBG.out.trans (HBr.out.mono HBG.out.size)
        have HBW : Hid (Below w.heap.size w wA) := hbw
        have hszw := hbw.size
        by_cases hlt : a < x.parts[kn].length
        · obtain ⟨b2, o2, rfl, hb2, a5, c5, p2, q2⟩ := HR1.out.listAt hlt
          have p2a := (hbw.cell (p := ⟨b2, o2 + a, none⟩) hb2).trans p2
          have HRa : Hid (Reads w a5 x.parts[kn][a]) := q2.reads
          have hl8 := HR8.out a hlt
          have HNa := HNO.out a hlt
          have HNa' : Hid (knownB x.parts.length (x.parts[kn][a] ++ z2) = false → farsL x (kn : Int) z2 z3 n = []) := HNa
          have HTa : Hid (L.take (a + 1) = L.take a ++ [(farOf x.parts (x.parts[kn][a] ++ z2) z3 n.toNat : Int)]) := HTK.out a hlt
          have HKB2 : Hid (knownB x.parts.length (x.parts[kn][a] ++ z2) = true → ∀ b (hb : b < x.parts[kn].length), b < a + 1 → knownB x.parts.length (x.parts[kn][b] ++ z2) = true) := fun h b hb hlt2 => by
            by_cases e : b = a
            · subst e; exact h
            · exact HKB.out b hb (by omega)
          have haI : (a : Int) < (x.parts[kn].length : Int) := by omega
          have hbx : w.heap.size < wA.heap.size := by have := HBr.out.size; omega
          have hb1A : b1 < wA.heap.size := by omega
          have hb2A : b2 < wA.heap.size := by omega
          clear hO hbw p2 q2 HKB HNa HALL HNO HTK
          generalize x.parts[kn][a] = alt at *
          go_wp2_with (at_builtin; refine wpList_append_ints _ rfl (.tmp 40) (.tmp 48) 25 rfl wA.heap.size 3 Tryd.underlying25 Tryd.infoInt _ [] rfl (OwnInts.empty (Nat.le_refl _)) a5 alt.length c5 alt rfl rfl (HRa.out.below (HBW.out.alloc HBW.out.size _)) (by simp; omega) (by simp) ?_)
          intro v5 w5 hO5 hg5
          have hb5 : Below wA.heap.size wA w5 := ((Below.refl _ _).alloc (Nat.le_refl _) _).grown hg5 (by simp) (fun j hj => by simp [Value.ownBlock] at hj; omega)
          go_wp2_with (at_builtin; refine wpList_append_ints _ rfl (.tmp 49) (.tmp 50) 25 rfl wA.heap.size 3 Tryd.underlying25 Tryd.infoInt _ _ rfl hO5 a2 z2.length c2 z2 rfl rfl (HRE.out.below (HBW.out.trans (hb5.mono HBW.out.size))) (by omega) hb5.size ?_)
          intro v6 w6 hO6 hg6
          have hb6 : Below wA.heap.size wA w6 := hb5.grown hg6 hb5.size (fun j hj => (hO5.block j hj).1)
          obtain ⟨a6, c6, rfl, hr6, _⟩ := hO6.shape
          have HR6 : Hid (RD w6 (.slice a6 (alt ++ z2).length c6) (slD Lay.int (alt ++ z2))) := hO6.od.rd
          have hl6 : (alt ++ z2).length ≤ 4194304 := by rw [List.length_append]; omega
          have HB6 : Hid (Below wG.heap.size wG w6) := HBr.out.trans (hb6.mono HBr.out.size)
          have HBW6 : Hid (Below w.heap.size w w6) := HBW.out.trans (hb6.mono HBW.out.size)
          have qg6 := HQ.out w6 HB6.out
          have HOut6 : Hid (OwnInts w6 (w.heap.size + 1) 3 vo (L.take a)) := HO.out.below hb6
          have X := HKN.out (alt ++ z2) a6 c6 w6 hr6 hl6
          have HGO6 : Hid (knownB x.parts.length (alt ++ z2) = true → ∀ W, Below w6.heap.size w6 W → Calls Tryd.prog 43 #[.agg #[.slice (some ⟨b1, o1, none⟩) x.parts.length c0], .slice a6 (alt ++ z2).length c6, .slice a3 z3.length c3, .int .i64 n] W fun e w' => e = .returned (.int .i64 (farOf x.parts (alt ++ z2) z3 n.toNat : Int)) ∧ Below W.heap.size W w') := fun hk W hW => HGO.out (alt ++ z2) a6 c6 W (HBW6.out.trans (hW.mono HBW6.out.size)) (HR6.out.later hW) hk
          clear hO5 hg5 hb5 hO6 hg6 hb6 hr6 HGO HKN HRa HO HR6 qg p1 p2a
          generalize farOf x.parts (alt ++ z2) z3 n.toNat = fo at *
          generalize (alt ++ z2).length = l6 at *
          cases hkb : knownB x.parts.length (alt ++ z2)
          · rw [hkb] at X
            have E : Hid (farsL x (kn : Int) z2 z3 n = []) := HNa'.out hkb
            clear HGO6 HKB2 HTa HNa' hkb
            go_wp2_with (go_at_call 42; refine X.mono ?_; rintro e w7 ⟨rfl, hb7⟩)
            go_ret
            exact ⟨_, rfl, by rw [E.out]; exact OwnInts.empty (HBW6.out.trans (hb7.mono HBW6.out.size)).size, (HBW6.out.trans (hb7.mono HBW6.out.size)).alloc (HBW6.out.trans (hb7.mono HBW6.out.size)).size _⟩
          · rw [hkb] at X
            have HG7 := HGO6.out hkb
            have HG7h : Hid (∀ W, Below w6.heap.size w6 W → Calls Tryd.prog 43 #[.agg #[.slice (some ⟨b1, o1, none⟩) x.parts.length c0], .slice a6 l6 c6, .slice a3 z3.length c3, .int .i64 n] W fun e w' => e = .returned (.int .i64 (fo : Int)) ∧ Below W.heap.size W w') := HG7
            have HK2 := HKB2.out hkb
            have HK2h : Hid (∀ b (hb : b < x.parts[kn].length), b < a + 1 → knownB x.parts.length (x.parts[kn][b] ++ z2) = true) := HK2
            have hLl : (L.take a).length ≤ 1048576 := by rw [List.length_take, HLN.out]; omega
            clear HG7 HK2 HGO6 HKB2 HNa' hkb
            go_wp2_with (first
              | (go_at_call 42; refine X.mono ?_; rintro e w7 ⟨rfl, hb7⟩; have qg7 := HQ.out w7 (HB6.out.trans (hb7.mono HB6.out.size)))
              | (go_at_call 43; refine (HG7h.out w7 hb7).mono ?_; rintro e w8 ⟨rfl, hb8⟩; have hb68 : Below w6.heap.size w6 w8 := hb7.trans (hb8.mono hb7.size))
              | (at_builtin; refine wpList_append_ints _ rfl (.tmp 57) (.tmp 63) 25 rfl (w.heap.size + 1) 3 Tryd.underlying25 Tryd.infoInt _ _ rfl ((HOut6.out.below hb68).alloc _) _ _ _ [(fo : Int)] rfl rfl (Reads.new _ _ _) (by simp; omega) (by have := (HB6.out.trans (hb68.mono HB6.out.size)).size; simp; omega) ?_))
            intro v9 w9 hO9 hg9
            have hB8 := HB6.out.trans (hb68.mono HB6.out.size)
            have HO9 : Hid (OwnInts w9 (w.heap.size + 1) 3 v9 (L.take (a + 1))) := by show OwnInts _ _ _ _ _; rw [HTa.out]; exact hO9
            have hOb := (HOut6.out.below hb68).block
            have HB9 : Hid (Below wG.heap.size wG w9) := (hB8.alloc hB8.size _).grown hg9 (by have := hB8.size; simp; omega) (fun j hj => by have := (hOb j hj).1; omega)
            clear hB8 hOb hO9 hg9 hb68 hb8 hb7 X HG7h HTa HOut6
            go_wp2
            go_roundw
            case rel => exact ⟨a + 1, v9, by omega, by go_num, rfl, HO9.out, HB9, HK2h⟩
            case measure => simp [intOf]; omega
        · have e : a = x.parts[kn].length := by omega
          have E : Hid (farsL x (kn : Int) z2 z3 n = L) := HALL.out (fun b hb => HKB.out b hb (by omega))
          have HOL : Hid (OwnInts wA (w.heap.size + 1) 3 vo L) := by
            have := HO.out
            rw [e, List.take_of_length_le (by rw [HLN.out]; omega)] at this
            exact this
          clear hO HALL HNO HKB HTK
          go_wp2
          go_ret
          exact ⟨_, rfl, by rw [E.out]; exact HOL.out.base (Nat.le_succ _), HBW.out⟩
    · have hk' : inB k 0 (x.parts.length - 1) = false := by simpa using hk
      have E : Hid (farsL x k z2 z3 n = []) := farsL_part hk'
      clear h0 h2 h3 hn hf hz3 hr hk
      generalize farsL x k z2 z3 n = R at *
      go_enter Tryd.func21, Tryd.ntmps21
      go_wp2_with (first
        | (go_at_call 40; rw [← hwG]; have hB1 := HB1.out; refine (HK.out _ (HBG.out.trans (hB1.mono HBG.out.size))).mono ?_; rintro e w1 ⟨rfl, hb1w⟩; have hBw1 : Below wG.heap.size wG w1 := hB1.trans (hb1w.mono hB1.size); have qg1 := HQ.out w1 hBw1)
        | (go_at_call 41; refine (l1In_any _ _ _ _).mono ?_; rintro e w3 ⟨rfl, h3w⟩; replace h3w := h3w.symm; subst h3w; rw [hk']))
      go_ret
      exact ⟨_, rfl, by rw [E.out]; exact (HO0.out.below hb1w).base (Nat.le_succ _), HBG.out.trans (hBw1.mono HBG.out.size)⟩
  · have hr' : rightAt x z3 n = false := by simpa using hr
    have E : Hid (farsL x k z2 z3 n = []) := farsL_wrong hr'
    rw [hr'] at HK
    clear h0 h2 h3 hn hf hz3 hr
    generalize farsL x k z2 z3 n = R at *
    go_enter Tryd.func21, Tryd.ntmps21
    go_wp2_with (go_at_call 40; rw [← hwG]; have hB1 := HB1.out; refine (HK.out _ (HBG.out.trans (hB1.mono HBG.out.size))).mono ?_; rintro e w1 ⟨rfl, hb1w⟩; have hBw1 : Below wG.heap.size wG w1 := hB1.trans (hb1w.mono hB1.size))
    go_ret
    exact ⟨_, rfl, by rw [E.out]; exact (HO0.out.below hb1w).base (Nat.le_succ _), HBG.out.trans (hBw1.mono HBG.out.size)⟩
end Go.Proofs.YthnppodnjokaoaaDoor
namespace Go.Proofs.YthnppodnjokaoaaDoor
open Go.RowKit

section
variable {P : Program} (w : World)
theorem run_append_ints1 (base : Nat) (t ty e : TypeId) (ht : P.underlying t = some (.slice e)) (hinfo : (P.info? e).map (fun i => (i.zero, i.size, i.bytes)) = some (some (.int .i64 0), 1, 8))
    (v : Value) (xs : List Int) (hown : OwnInts w base e v xs) (ad : Option Addr) (c : Nat) (news : List Int) (hne : news ≠ []) (hnews : Reads w ad news) (hlen : xs.length + news.length ≤ 1099511627776) (hbase : base ≤ w.heap.size) :
    ∃ v' w', (Builtin.append_ #[t, t] ty #[v, .slice ad news.length c]).run P w = .ok v' w' ∧ OwnInts w' base e v' (xs ++ news) ∧ w.grownBy w' v.ownBlock ∧ (∀ k, v'.ownBlock = some k → v.ownBlock = some k ∨ k = w.heap.size) := by
  obtain ⟨i, hi, hz0, hz1, hz2⟩ := info_parts hinfo
  rcases hnews with h | ⟨b, off, rfl, hb, hc⟩
  · exact absurd h hne
  · have hpos : 0 < news.length := List.length_pos_iff.2 hne
    obtain ⟨v', w', h1, h2, h3, h4⟩ := run_append_where (P := P) w base t ty e i (.int .i64 0) 1 8 ht hi hz0 hz1 hz2 rfl (by decide) v _ _ hown ⟨b, off, none⟩ news.length c (news.map (Value.int .i64)) hpos (by simp)
      (by
        intro j u hu
        have hj : j < news.length := by have := (List.getElem?_eq_some_iff.1 hu).1; simpa using this
        rw [Addr.add_lit, hc j hj]
        simp [hj] at hu
        simp [hj, hu])
      (ints_oneCell _ _) (by unfold maxLen; omega) (by omega) hbase
    exact ⟨v', w', h1, by simpa [OwnInts] using h2, h3, h4⟩
theorem wpList_append_ints1 {ops : Array Oper} {rest : List Oper} {o : Oper} {a : Act} {Q : Exit → Act → World → Prop} (hgd : o.guard = none) (s x : Operand) (t : TypeId)
    (ho : o.op = .call { callee := .builtin .append, args := #[s, x], argTypes := #[t, t] })
    (base : Nat) (e : TypeId) (ht : P.underlying t = some (.slice e)) (hinfo : (P.info? e).map (fun i => (i.zero, i.size, i.bytes)) = some (some (.int .i64 0), 1, 8))
    (v : Value) (xs : List Int) (hs : a.eval s = v) (hown : OwnInts w base e v xs) (ad : Option Addr) (n c : Nat) (news : List Int) (hne : news ≠ []) (hx : a.eval x = .slice ad n c) (hn : n = news.length) (hnews : Reads w ad news)
    (hlen : xs.length + news.length ≤ 1099511627776) (hbase : base ≤ w.heap.size)
    (h : ∀ v' w', OwnInts w' base e v' (xs ++ news) → w.grownBy w' v.ownBlock → (∀ k, v'.ownBlock = some k → v.ownBlock = some k ∨ k = w.heap.size) → wpList P ops Q rest (a.put o.dst v') w') : wpList P ops Q (o :: rest) a w := by
  refine wpList_plain hgd fun K hK => ?_
  subst hn
  obtain ⟨v', w', hr, h2, h3, h4⟩ := run_append_ints1 (P := P) w base t o.type e ht hinfo v xs hown ad c news hne hnews hlen hbase
  unfold Oper.wp execOp
  simp only [ho, resolve, invoke, builtin, Sem.run_bind, Sem.run_pure, Result.andThen_ok, List.map_toArray, List.map_cons, List.map_nil, hs, hx, hr]
  exact hK _ _ (h v' w' h2 h3 h4)
end
end Go.Proofs.YthnppodnjokaoaaDoor
namespace Go.Proofs.YthnppodnjokaoaaDoor
open Go.RowKit

set_option maxHeartbeats 2000000 in
set_option maxRecDepth 100000 in
theorem specSure_any (x : Gm) (a0 : Option Addr) (c0 : Nat) (n1 : Int) (z2 : List Int) (a2 : Option Addr) (c2 : Nat) (z3 : List Int) (a3 : Option Addr) (c3 : Nat) (n4 : Int) (w : World) (h0 : RD w (.slice a0 x.parts.length c0) (slD (Lay.list (Lay.list Lay.int)) x.parts)) (h2 : RD w (.slice a2 z2.length c2) (slD Lay.int z2)) (h3 : RD w (.slice a3 z3.length c3) (slD Lay.int z3)) (hn : Lay.gram.wt x ≤ 1048576) (hf : Lay.gram.fit x) (_ : (Lit.int .i64 n1).wf = true) (hl2 : z2.length ≤ 1048576) (_ : (Lay.list Lay.int).fit z2) (hl3 : z3.length ≤ 1048576) (hz3 : (Lay.list Lay.int).fit z3) (_ : (Lit.int .i64 n4).wf = true) :
    Calls Tryd.prog 6 #[.agg #[.slice a0 x.parts.length c0], .int .i64 n1, .slice a2 z2.length c2, .slice a3 z3.length c3, .int .i64 n4] w fun e w' => ∃ v S, e = .returned v ∧ OD w' w.heap.size v (slD Lay.int (resSure x n1 z2 z3 n4)) S ∧ Below w.heap.size w w' := by
  have B0 : Below w.heap.size w ((w.alloc (.cells #[.slice a0 x.parts.length c0] 28)).alloc (.cells #[] 3)) := ((Below.refl w.heap.size w).alloc (Nat.le_refl _) _).alloc (by simp) _
  have hO0 : OwnInts ((w.alloc (.cells #[.slice a0 x.parts.length c0] 28)).alloc (.cells #[] 3)) w.heap.size 3 (.slice (some ⟨w.heap.size + 1, 0, none⟩) 0 0) [] := by
    have := OwnInts.empty (w := w.alloc (.cells #[.slice a0 x.parts.length c0] 28)) (base := w.heap.size) (e := 3) (by simp)
    rw [show (w.alloc (.cells #[.slice a0 x.parts.length c0] 28)).heap.size = w.heap.size + 1 by simp] at this
    exact this
  have HX : Hid (Calls Tryd.prog 21 #[.agg #[.slice a0 x.parts.length c0], .int .i64 n1, .slice a2 z2.length c2, .slice a3 z3.length c3, .int .i64 n4] ((w.alloc (.cells #[.slice a0 x.parts.length c0] 28)).alloc (.cells #[] 3)) fun e w' => ∃ v, e = .returned v ∧ OwnInts w' ((w.alloc (.cells #[.slice a0 x.parts.length c0] 28)).alloc (.cells #[] 3)).heap.size 3 v (farsL x n1 z2 z3 n4) ∧ Below ((w.alloc (.cells #[.slice a0 x.parts.length c0] 28)).alloc (.cells #[] 3)).heap.size ((w.alloc (.cells #[.slice a0 x.parts.length c0] 28)).alloc (.cells #[] 3)) w') := l8Fars_any x a0 c0 n1 z2 a2 c2 z3 a3 c3 n4 _ (h0.later B0) (h2.later B0) (h3.later B0) hn hf hl2 hl3 hz3
  have HO0 : Hid (OwnInts ((w.alloc (.cells #[.slice a0 x.parts.length c0] 28)).alloc (.cells #[] 3)) w.heap.size 3 (.slice (some ⟨w.heap.size + 1, 0, none⟩) 0 0) []) := hO0
  have HB0 : Hid (Below w.heap.size w ((w.alloc (.cells #[.slice a0 x.parts.length c0] 28)).alloc (.cells #[] 3))) := B0
  have HRI : Hid (farsL x n1 z2 z3 n4 ≠ [] → 0 ≤ n4 ∧ n4 ≤ z3.length ∧ z3.length ≤ 10) := farsL_right
  have hlen : (farsL x n1 z2 z3 n4).length ≤ 8 := farsL_len
  have HRES : Hid (resSure x n1 z2 z3 n4 = sureTo (farsL x n1 z2 z3 n4) (z3.length - n4 + 1) (farsL x n1 z2 z3 n4).length) := rfl
  generalize resSure x n1 z2 z3 n4 = R at *
  have HRG : Hid (∀ y ∈ farsL x n1 z2 z3 n4, 0 ≤ y ∧ y ≤ 11) := farsL_range
  generalize farsL x n1 z2 z3 n4 = L at *
  clear h0 h2 h3 hn hf hz3 B0 hO0
  generalize x.parts = P at *
  go_enter Tryd.func6, Tryd.ntmps6
  go_wp2_with (go_at_call 21; refine HX.out.mono ?_; rintro e w2 ⟨v2, rfl, hO2, hb2⟩; obtain ⟨a5, c5, rfl, hr2, _⟩ := hO2.shape)
  have HR2 : Hid (Reads w2 a5 L) := hr2
  have HS0 : Hid (OwnInts w2 w.heap.size 3 (.slice (some ⟨w.heap.size + 1, 0, none⟩) 0 0) (sureTo L (z3.length - n4 + 1) 0)) := HO0.out.below hb2
  have HB2 : Hid (Below w.heap.size w w2) := HB0.out.trans (hb2.mono HB0.out.size)
  have HAP : Hid (∀ b off, L ≠ [] → a5 = some ⟨b, off, none⟩ → w.heap.size + 2 ≤ b) := fun b off hne e => by
    have := (hO2.block b (by rw [e]; simp only [Value.ownBlock])).1
    simp at this
    omega
  clear hO2 hb2 hr2 HO0 HB0 HX
  have hszb := HB2.out.size
  have HG0 : Hid (Within w2 w2 (fun b => b = w.heap.size + 1)) := Within.refl _ _
  have HOB0 : Hid (∀ b, (.slice (some ⟨w.heap.size + 1, 0, none⟩) 0 0 : Value).ownBlock = some b → b = w.heap.size + 1 ∨ w2.heap.size ≤ b) := fun b e => by simp [Value.ownBlock] at e; exact .inl e.symm
  go_loopw [11, 13] (fun u1 u2 wr => ∃ (a : Nat) (vo : Value), a ≤ L.length ∧ u2 = .int .i64 (a : Int) ∧ u1 = vo ∧ Hid (OwnInts wr w.heap.size 3 vo (sureTo L (z3.length - n4 + 1) a)) ∧ Hid (Below w.heap.size w wr) ∧ Hid (Within w2 wr (fun b => b = w.heap.size + 1)) ∧ Hid (∀ b, vo.ownBlock = some b → b = w.heap.size + 1 ∨ w2.heap.size ≤ b)) (fun _ u2 _ => L.length - (intOf u2).toNat)
  case atStart => exact ⟨0, _, Nat.zero_le _, rfl, rfl, HS0, HB2, HG0, HOB0⟩
  case round =>
    obtain ⟨a, vo, ha, rfl, hvo, HO, HB, HG, HOB⟩ := hrel
    replace hvo := hvo.symm
    subst hvo
    obtain ⟨wA, hwA⟩ : ∃ y, y = wr := ⟨_, rfl⟩
    subst hwA
    clear HS0 HB2 HG0 HOB0
    by_cases hlt : a < L.length
    · obtain ⟨b5, o5, rfl, hb5, hcell⟩ := HR2.out.at hlt
      have hne : L ≠ [] := fun e => by rw [e] at hlt; simp at hlt
      obtain ⟨i1, i2, i3⟩ := HRI.out hne
      have hap : ¬ (b5 = w.heap.size + 1) := fun e => by have := HAP.out b5 o5 hne rfl; omega
      have qr := (blk_cell (o := o5 + a) (HG.out.block b5 hb5 hap)).trans (hcell a hlt)
      rw [List.getD_eq_getElem?_getD, List.getElem?_eq_getElem hlt, Option.getD_some] at qr
      obtain ⟨g1, g2⟩ := HRG.out L[a] (List.getElem_mem hlt)
      have hgd : L.getD a 0 = L[a] := by simp [List.getD, hlt]
      have HST : Hid (sureTo L (z3.length - n4 + 1) (a + 1) = if L[a] = z3.length - n4 + 1 then sureTo L (z3.length - n4 + 1) a ++ [(a : Int)] else sureTo L (z3.length - n4 + 1) a) := by show _ = _; rw [sureTo, hgd]
      have haI : (a : Int) < (L.length : Int) := by omega
      have hsl := sureTo_len L (z3.length - n4 + 1) a
      have hszA := HB.out.size
      have hszG := HG.out.size
      clear hcell hgd
      obtain ⟨m, hm⟩ : ∃ m : Nat, n4 = m := ⟨n4.toNat, by omega⟩
      subst hm
      by_cases hy : L[a] = z3.length - (m : Int) + 1
      · have HN : Hid (sureTo L (z3.length - (m : Int) + 1) (a + 1) = sureTo L (z3.length - (m : Int) + 1) a ++ [(a : Int)]) := by show _ = _; rw [HST.out, if_pos hy]
        clear HST
        generalize L[a] = y at *
        go_wp2_with (at_builtin; refine wpList_append_ints1 _ rfl (.tmp 37) (.tmp 39) 25 rfl w.heap.size 3 Tryd.underlying25 Tryd.infoInt _ _ rfl (HO.out.alloc _) _ _ _ [(a : Int)] (by simp) rfl rfl (Reads.new _ _ _) (by simp; omega) (by simp; omega) ?_)
        intro v9 w9 hO9 hg9 hat9
        have HO9 : Hid (OwnInts w9 w.heap.size 3 v9 (sureTo L (z3.length - (m : Int) + 1) (a + 1))) := by show OwnInts _ _ _ _ _; rw [HN.out]; exact hO9
        have hOb := HO.out.block
        have hbA : Below wA.heap.size wA (wA.alloc (.cells #[.int .i64 (a : Int)] 3)) := (Below.refl _ _).alloc (Nat.le_refl _) _
        have HB9 : Hid (Below w.heap.size w w9) := (HB.out.alloc HB.out.size _).grown hg9 (by simp; omega) (fun j hj => (hOb j hj).1)
        have hWn : Within (wA.alloc (.cells #[.int .i64 (a : Int)] 3)) w9 (fun b => vo.ownBlock = some b) := Within.of_grown hg9 (fun k e => e)
        have HG9 : Hid (Within w2 w9 (fun b => b = w.heap.size + 1)) := (HG.out.trans (Within.of_below hbA _)).comp hWn (fun b e => HOB.out b e)
        have HOB9 : Hid (∀ b, v9.ownBlock = some b → b = w.heap.size + 1 ∨ w2.heap.size ≤ b) := fun b e => by
          rcases hat9 b e with e | e
          · exact HOB.out b e
          · right; first | omega | (simp at e; omega)
        clear hO9 hg9 hat9 hWn hOb hbA HN HO HB HG HOB
        go_wp2
        go_roundw
        case rel => exact ⟨a + 1, v9, by omega, by go_num, rfl, HO9, HB9, HG9, HOB9⟩
        case measure => simp [intOf]; omega
      · have HO9 : Hid (OwnInts wA w.heap.size 3 vo (sureTo L (z3.length - (m : Int) + 1) (a + 1))) := by show OwnInts _ _ _ _ _; rw [HST.out, if_neg hy]; exact HO.out
        clear HST HO
        generalize L[a] = y at *
        go_wp2
        go_roundw
        case rel => exact ⟨a + 1, vo, by omega, by go_num, rfl, HO9, HB, HG, HOB⟩
        case measure => simp [intOf]; omega
    · have e : a = L.length := by omega
      have HF : Hid (OwnInts wA w.heap.size 3 vo R) := by show OwnInts _ _ _ _ _; rw [HRES.out]; rw [e] at HO; exact HO.out
      clear HO HRES
      go_wp2
      go_ret
      exact ⟨_, _, rfl, HF.out.od, HB.out⟩
end Go.Proofs.YthnppodnjokaoaaDoor
namespace Go.Proofs.YthnppodnjokaoaaDoor
open Go.RowKit

set_option maxHeartbeats 2000000 in
set_option maxRecDepth 100000 in
theorem growNil_any (n : Nat) (w : World) (hn : n ≤ 8388608) :
    Calls Tryd.prog 95 #[.slice none 0 0, .int .i64 (n : Int)] w fun e w' => ∃ v, e = .returned v ∧ OwnInts w' w.heap.size 3 v [] ∧ Below w.heap.size w w' := by
  by_cases h0 : n = 0
  · subst h0
    go_enter Tryd.func95, Tryd.ntmps95
    go_wp2
    go_ret
    exact ⟨_, rfl, OwnInts.nil _ _ _, Below.refl _ _⟩
  · have hpos : 0 < n := by omega
    have hI : (0 : Int) < (n : Int) := by omega
    obtain ⟨i, hi, hz0, hz1, hz2⟩ := info_parts Tryd.infoInt
    have hrun := fun ty => Go.Lib.run_append_nil_zeros (P := Tryd.prog) w 25 3 ty 3 i (.int .i64 0) .i64 .i64 Tryd.underlying25 Tryd.underlying3 hi hz0 n hpos (by omega) (by omega) (by rw [hz2]; omega)
    have hge := grownCap_ge w n 0 3
    have hle := grownCap_le_maxLen w n 0 3 (by unfold maxLen; omega)
    have HO : Hid (OwnInts (w.drew.alloc (.cells (Builtin.zeroCells (Value.int .i64 0).cells n ++ Builtin.zeroCells (Value.int .i64 0).cells (grownCap w n 0 3 - n)) 3)) w.heap.size 3 (.slice (some ⟨w.drew.heap.size, 0, none⟩) 0 (grownCap w n 0 3)) []) := World.ownsRow_made w.drew _ _ (by simp) hle (by simp [Builtin.zeroCells, Value.cells]; omega)
    have HB : Hid (Below w.heap.size w (w.drew.alloc (.cells (Builtin.zeroCells (Value.int .i64 0).cells n ++ Builtin.zeroCells (Value.int .i64 0).cells (grownCap w n 0 3 - n)) 3))) := (Below.refl _ _).drew.alloc (by simp) _
    generalize w.drew.alloc (.cells (Builtin.zeroCells (Value.int .i64 0).cells n ++ Builtin.zeroCells (Value.int .i64 0).cells (grownCap w n 0 3 - n)) 3) = w2 at *
    generalize grownCap w n 0 3 = cap at *
    unfold maxLen at hle
    go_enter Tryd.func95, Tryd.ntmps95
    go_wp2_with (at_builtin; refine Go.Lib.wpList_append_run _ rfl (.tmp 20) (.tmp 21) 25 3 rfl (.slice none 0 0) (.int .i64 (n : Int)) rfl rfl _ _ (hrun _) ?_)
    go_ret
    exact ⟨_, rfl, HO.out, HB.out⟩
set_option maxHeartbeats 4000000 in
set_option maxRecDepth 100000 in
theorem concat_any (b : Nat) (xs ys : List Int) (a5 : Option Addr) (c5 : Nat) (a6 : Option Addr) (c6 : Nat) (w : World) (q0 : w.cell? ⟨b, 0, none⟩ = some (.slice a5 xs.length c5)) (q1 : w.cell? ⟨b, 1, none⟩ = some (.slice a6 ys.length c6)) (hx : Reads w a5 xs) (hy : Reads w a6 ys) (hlx : xs.length ≤ 4194304) (hly : ys.length ≤ 4194304) :
    Calls Tryd.prog 72 #[.slice (some ⟨b, 0, none⟩) 2 2] w fun e w' => ∃ v, e = .returned v ∧ OwnInts w' w.heap.size 3 v (xs ++ ys) ∧ Below w.heap.size w w' := by
  have hbl := World.block_lt_of_cell? w _ q0
  have HQ0 : Hid (w.cell? ⟨b, 0, none⟩ = some (.slice a5 xs.length c5)) := q0
  have HQ1 : Hid (w.cell? ⟨b, 1, none⟩ = some (.slice a6 ys.length c6)) := q1
  have HX : Hid (Reads w a5 xs) := hx
  have HY : Hid (Reads w a6 ys) := hy
  clear hx hy q0 q1
  go_enter Tryd.func72, Tryd.ntmps72
  go_wp2
  go_loopw [3, 11] (fun s3 s11 wr => ∃ k m : Nat, s11 = .int .i64 (k : Int) ∧ s3 = .int .i64 (m : Int) ∧ ((k = 0 ∧ m = 0) ∨ (k = 1 ∧ m = xs.length) ∨ (k = 2 ∧ m = xs.length + ys.length)) ∧ wr = w) (fun _ s11 _ => 2 - (intOf s11).toNat)
  case atStart => exact ⟨0, 0, rfl, rfl, .inl ⟨rfl, rfl⟩, rfl⟩
  case round =>
    obtain ⟨k, m, rfl, rfl, hk, hwr⟩ := hrel
    replace hwr := hwr.symm
    subst hwr
    rcases hk with ⟨rfl, rfl⟩ | ⟨rfl, rfl⟩ | ⟨rfl, rfl⟩
    · have q0 := HQ0.out
      go_wp2
      go_roundw
      case rel => exact ⟨1, xs.length, by go_num, by go_num, .inr (.inl ⟨rfl, rfl⟩), trivial⟩
      case measure => simp [intOf]
    · have q1 := HQ1.out
      go_wp2
      go_roundw
      case rel => exact ⟨2, xs.length + ys.length, by go_num, by go_num, .inr (.inr ⟨rfl, rfl⟩), trivial⟩
      case measure => simp [intOf]
    · have X := growNil_any (xs.length + ys.length) w (by omega)
      have hsI : ¬ ((xs.length : Int) + (ys.length : Int)) < 0 := by omega
      rw [Int.natCast_add] at X
      go_wp2_with (go_at_call 95; refine X.mono ?_; rintro e w1 ⟨v1, rfl, hO1, hb1⟩)
      have HO1 : Hid (OwnInts w1 w.heap.size 3 v1 []) := hO1
      have HB1 : Hid (Below w.heap.size w w1) := hb1
      clear hO1 hb1 X
      go_loopw [6, 27] (fun s6 s27 wr => ∃ (k : Nat) (v : Value), s27 = .int .i64 (k : Int) ∧ s6 = v ∧ Hid ((k = 0 ∧ OwnInts wr w.heap.size 3 v []) ∨ (k = 1 ∧ OwnInts wr w.heap.size 3 v xs) ∨ (k = 2 ∧ OwnInts wr w.heap.size 3 v (xs ++ ys))) ∧ Hid (Below w.heap.size w wr)) (fun _ s27 _ => 2 - (intOf s27).toNat)
      case atStart => exact ⟨0, _, rfl, rfl, .inl ⟨rfl, HO1.out⟩, HB1⟩
      case round =>
        obtain ⟨k, v, rfl, hv, HK, HB⟩ := hrel
        replace hv := hv.symm
        subst hv
        obtain ⟨wA, hwA⟩ : ∃ y, y = wr := ⟨_, rfl⟩
        subst hwA
        clear HO1 HB1
        rcases HK.out with ⟨rfl, hO⟩ | ⟨rfl, hO⟩ | ⟨rfl, hO⟩
        · have q0 := (HB.out.cell (p := ⟨b, 0, none⟩) hbl).trans HQ0.out
          clear HK
          go_wp2_with (at_builtin; refine wpList_append_ints _ rfl (.tmp 31) (.tmp 32) 25 rfl w.heap.size 3 Tryd.underlying25 Tryd.infoInt _ _ rfl hO a5 xs.length c5 xs rfl rfl (HX.out.below HB.out) (by simp; omega) HB.out.size ?_)
          intro v5 w5 hO5 hg5
          have HB5 : Hid (Below w.heap.size w w5) := HB.out.grown hg5 HB.out.size (fun j hj => (hO.block j hj).1)
          have HK5 : Hid ((1 = 0 ∧ OwnInts w5 w.heap.size 3 v5 []) ∨ (1 = 1 ∧ OwnInts w5 w.heap.size 3 v5 xs) ∨ (1 = 2 ∧ OwnInts w5 w.heap.size 3 v5 (xs ++ ys))) := .inr (.inl ⟨rfl, by simpa using hO5⟩)
          clear hO hO5 hg5 q0
          go_wp2
          go_roundw
          case rel => exact ⟨1, v5, by go_num, rfl, HK5, HB5⟩
          case measure => simp [intOf]
        · have q1 := (HB.out.cell (p := ⟨b, 1, none⟩) hbl).trans HQ1.out
          clear HK
          go_wp2_with (at_builtin; refine wpList_append_ints _ rfl (.tmp 31) (.tmp 32) 25 rfl w.heap.size 3 Tryd.underlying25 Tryd.infoInt _ _ rfl hO a6 ys.length c6 ys rfl rfl (HY.out.below HB.out) (by omega) HB.out.size ?_)
          intro v5 w5 hO5 hg5
          have HB5 : Hid (Below w.heap.size w w5) := HB.out.grown hg5 HB.out.size (fun j hj => (hO.block j hj).1)
          have HK5 : Hid ((2 = 0 ∧ OwnInts w5 w.heap.size 3 v5 []) ∨ (2 = 1 ∧ OwnInts w5 w.heap.size 3 v5 xs) ∨ (2 = 2 ∧ OwnInts w5 w.heap.size 3 v5 (xs ++ ys))) := .inr (.inr ⟨rfl, hO5⟩)
          clear hO hO5 hg5 q1
          go_wp2
          go_roundw
          case rel => exact ⟨2, v5, by go_num, rfl, HK5, HB5⟩
          case measure => simp [intOf]
        · have HO : Hid (OwnInts wA w.heap.size 3 v (xs ++ ys)) := hO
          clear HK hO
          go_wp2
          go_ret
          exact ⟨_, rfl, HO.out, HB.out⟩
end Go.Proofs.YthnppodnjokaoaaDoor
namespace Go.Proofs.YthnppodnjokaoaaDoor
open Go.RowKit
section
variable {P : Program}
theorem run_items_of {e : TypeId} {c d : Nat} {xs ys : Array Value} {w : World} {r : Nat → Bool} : ∀ is : List Nat, (∀ i ∈ is, ∃ x y, (part e xs (i * c)).run P w = .ok x w ∧ (part e ys (i * c)).run P w = .ok y w ∧ (Op.equalIn d e x y).run P w = .ok (r i) w) → (Op.eqItems d e c xs ys is).run P w = .ok (is.all r) w
  | [], _ => by simp [Op.eqItems]
  | i :: is, h => by
    obtain ⟨x, y, h1, h2, h3⟩ := h i List.mem_cons_self
    have ih := run_items_of is (fun j hj => h j (List.mem_cons_of_mem _ hj))
    rw [Op.eqItems]
    simp only [Sem.run_bind, h1, h2, h3, Result.andThen_ok, List.all_cons]
    cases r i
    · simp
    · simp only [Bool.not_true, Bool.false_eq_true, if_false, Bool.true_and]; exact ih
theorem all_range_eq {us bs : List Bool} {n : Nat} (ha : us.length = n) (hb : bs.length = n) : ((List.range n).all fun i => us.getD i false == bs.getD i false) = decide (us = bs) := by
  rw [Bool.eq_iff_iff]
  simp only [List.all_eq_true, List.mem_range, beq_iff_eq, decide_eq_true_eq]
  constructor
  · intro h; exact list_ext_getD (by omega) (fun i hi => h i (by omega))
  · rintro rfl; exact fun _ _ => rfl
/-- Arrays of bools. -/
theorem run_eq_flags {ty e : TypeId} {n : Nat} {w : World} (d : Nat) (hu : P.underlying ty = some (.array n e)) (he : P.underlying e = some .bool) (hz : (P.info? e).map (·.size) = some 1) {us bs : List Bool} (ha : us.length = n) (hb : bs.length = n) :
    (Op.equalIn (d + 2) ty (aggB us) (aggB bs)).run P w = .ok (decide (us = bs)) w := by
  cases hq : P.info? e with
  | none => simp [hq] at hz
  | some j =>
    have hc : P.cellsOf e = 1 := by rw [Program.cellsOf, hz]; rfl
    unfold aggB
    rw [run_equalIn_array w (d + 1) _ _ hu hq, hc, run_items_of (r := fun i => us.getD i false == bs.getD i false), all_range_eq ha hb]
    intro i hi
    rw [List.mem_range] at hi
    have hx : (cellsB us)[i]? = some (.bool (us.getD i false)) := by rw [cellsB_get]; simp [List.getD, ha, hi]
    have hy : (cellsB bs)[i]? = some (.bool (bs.getD i false)) := by rw [cellsB_get]; simp [List.getD, hb, hi]
    have hg : (isAgg e).run P w = .ok false w := by simp [isAgg, run_underlying he]
    refine ⟨.bool (us.getD i false), .bool (bs.getD i false), ?_, ?_, run_equalIn_bool w d e _ _ he⟩
    · simp only [part, Sem.run_bind, hg, Result.andThen_ok, Nat.mul_one, hx]; rfl
    · simp only [part, Sem.run_bind, hg, Result.andThen_ok, Nat.mul_one, hy]; rfl
theorem chunks_eq {us bs : List Bool} {n m : Nat} (ha : us.length = m * n) (hb : bs.length = m * n) : ((List.range m).all fun i => decide ((us.drop (i * n)).take n = (bs.drop (i * n)).take n)) = decide (us = bs) := by
  rw [Bool.eq_iff_iff]
  simp only [List.all_eq_true, List.mem_range, decide_eq_true_eq]
  constructor
  · intro h
    apply list_ext_getD (by omega)
    intro i hi
    have hn : 0 < n := by
      rcases Nat.eq_zero_or_pos n with e | e
      · subst e; omega
      · exact e
    have h1 : i / n < m := by
      rw [Nat.div_lt_iff_lt_mul hn]; omega
    have h2 := h (i / n) h1
    have h3 := congrArg (fun l : List Bool => l.getD (i % n) false) h2
    have h4 := Nat.mod_lt i hn
    have h5 : i / n * n + i % n = i := by rw [Nat.mul_comm]; exact Nat.div_add_mod i n
    simpa [List.getD, List.getElem?_take, h4, h5] using h3
  · rintro rfl; exact fun _ _ => rfl
/-- Arrays of arrays of bools. -/
theorem run_eq_table {ty e e2 : TypeId} {n m : Nat} {w : World} (d : Nat) (hu : P.underlying ty = some (.array m e)) (he : P.underlying e = some (.array n e2)) (he2 : P.underlying e2 = some .bool) (hz : (P.info? e).map (·.size) = some n) (hz2 : (P.info? e2).map (·.size) = some 1) {us bs : List Bool} (ha : us.length = m * n) (hb : bs.length = m * n) :
    (Op.equalIn (d + 3) ty (aggB us) (aggB bs)).run P w = .ok (decide (us = bs)) w := by
  cases hq : P.info? e with
  | none => simp [hq] at hz
  | some j =>
    have hc : P.cellsOf e = n := by rw [Program.cellsOf, hz]; rfl
    have hs : (sizeOf e).run P w = .ok n w := by rw [run_sizeOf w hq, hc]
    have hg : (isAgg e).run P w = .ok true w := by simp [isAgg, run_underlying he]
    have hp : ∀ (cs : List Bool) (i : Nat), (part e (cellsB cs) (i * n)).run P w = .ok (aggB ((cs.drop (i * n)).take n)) w := by
      intro cs i
      have hx : (cellsB cs).extract (i * n) (i * n + n) = cellsB ((cs.drop (i * n)).take n) := by
        apply Array.ext_getElem?
        intro k
        rw [cellsB_get, Array.getElem?_extract]
        simp only [List.getElem?_take, List.getElem?_drop, cellsB_get]
        rw [cellsB_size]
        by_cases g : k < n
        · by_cases g2 : i * n + k < cs.length
          · rw [if_pos (by omega), if_pos g]
          · rw [if_neg (by omega), if_pos g, List.getElem?_eq_none (by omega)]; rfl
        · rw [if_neg (by omega), if_neg g]; rfl
      simp only [part, Sem.run_bind, hg, Result.andThen_ok, if_true, hs, hx]
      rfl
    unfold aggB
    rw [run_equalIn_array w (d + 2) _ _ hu hq, hc, run_items_of (r := fun i => decide ((us.drop (i * n)).take n = (bs.drop (i * n)).take n)), chunks_eq ha hb]
    intro i hi
    rw [List.mem_range] at hi
    have hin : i * n + n ≤ m * n := by
      have := Nat.mul_le_mul_right n (show i + 1 ≤ m by omega)
      rw [Nat.succ_mul] at this; exact this
    refine ⟨_, _, hp us i, hp bs i, run_eq_flags d he he2 hz2 ?_ ?_⟩
    · rw [List.length_take, List.length_drop]; omega
    · rw [List.length_take, List.length_drop]; omega
theorem exec_eqlB {ρ : Operand → Value} {o : Oper} {w : World} {ty rt : TypeId} {x y : Operand} {us bs : List Bool} (ho : o.op = .binOp .eql ty x y rt) (hx : ρ x = aggB us) (hy : ρ y = aggB bs) (hg : P.eqGuardType P.depth ty = false) (he : (Op.equalIn 10000 ty (aggB us) (aggB bs)).run P w = .ok (decide (us = bs)) w) :
    (execOp ρ o).run P w = .ok (.value (.bool (decide (us = bs)))) w := by
  unfold execOp
  unfold aggB at *
  simp only [ho, hx, hy, Sem.run_bind, run_eqGuard_agg w _ _ _ _ _ _ hg, Result.andThen_ok, run_eql_struct, he, Sem.run_pure]
/-- Parts are put together. -/
theorem zip_putL (cs : List Bool) : ∀ (bs : List Bool) (o k : Nat), ((cs.map Value.bool).zipIdx k).foldl (fun (ys : Array Value) (p : Value × Nat) => ys.setIfInBounds (o + p.2) p.1) (cellsB bs) = cellsB (putB bs (o + k) cs) := by
  induction cs with
  | nil => intro bs o k; rfl
  | cons v r ih =>
    intro bs o k
    have h := ih (bs.set (o + k) v) o (k + 1)
    have e : cellsB (bs.set (o + k) v) = (cellsB bs).setIfInBounds (o + k) (.bool v) := by simp [cellsB, List.map_set]
    rw [putB, show o + k + 1 = o + (k + 1) by omega, ← h, List.map_cons, List.zipIdx_cons, List.foldl_cons, e]
theorem zip_put (cs bs : List Bool) (o k : Nat) : ((cellsB cs).zipIdx k).foldl (fun (ys : Array Value) (p : Value × Nat) => ys.setIfInBounds (o + p.2) p.1) (cellsB bs) = cellsB (putB bs (o + k) cs) := by
  rw [← zip_putL cs bs o k, ← Array.foldl_toList]
  congr 1
  simp [cellsB]
theorem fill_put {place : Nat → Option (Nat × Nat)} {bs cs : List Bool} {i off : Nat} {rest : List (Nat × Value)} (h : place i = some (off, cs.length)) (hn : off + cs.length ≤ bs.length) : Instr.fill place (cellsB bs) ((i, aggB cs) :: rest) = Instr.fill place (cellsB (putB bs off cs)) rest := by
  have z := zip_put cs bs off 0
  rw [Instr.fill, h]
  simp only [aggB, Value.cells, cellsB_size]
  rw [if_neg (by simp; omega)]
  congr 1
end
end Go.Proofs.YthnppodnjokaoaaDoor
