/-
  Contracts and plain mathematics, joined: L7New. No statement is proved here.
-/
import Derived.Test.YthnppodnjokaoaaDoorG15
import Derived.Test.YthnppodnjokaoaaDoorG4
import Derived.Deep.CutRange
namespace Go.Proofs.YthnppodnjokaoaaDoor
open Go.RowKit

theorem Tryd.infoBool : (Tryd.prog.info? 4).map (fun i => (i.zero, i.size, i.bytes)) = some (some (.bool false), 1, 1) := by kernel_rfl
theorem Tryd.infoBoolS : (Tryd.prog.info? 85).map (fun i => (i.zero, i.size, i.bytes)) = some (some (.slice none 0 0), 1, 24) := by kernel_rfl

/-- The table while it is made: kW rows of the one list, kD of the other. -/
def NewIn (ws : List Int) (aP : Option Addr) (cP lP : Nat) (aw : Option Addr) (cw : Nat) (w : World) (vW vD : Value) (bW bD τ : Nat → Nat) (kW kD : Nat) (wr : World) : Prop :=
  Half w.heap.size (w.heap.size + 1) 2 64 25 (ws.length + 1) (.slice none 0 0) 1 τ vW bW kW wr ∧ Half w.heap.size (w.heap.size + 1) 3 85 4 (ws.length + 1) (.bool false) 2 τ vD bD kD wr ∧ τ w.heap.size = 0 ∧ τ (w.heap.size + 1) = 0 ∧
    Below w.heap.size w wr ∧ w.heap.size + 1 < wr.heap.size ∧ wr.cell? ⟨w.heap.size, 0, none⟩ = some (.slice aP lP cP) ∧ wr.cell? ⟨w.heap.size + 1, 0, none⟩ = some (.slice aP lP cP) ∧ wr.cell? ⟨w.heap.size + 1, 1, none⟩ = some (.slice aw ws.length cw) ∧ ∀ i, wr.frozen? ⟨w.heap.size + 1, i, none⟩ = false
section
variable {ws : List Int} {aP : Option Addr} {cP lP : Nat} {aw : Option Addr} {cw : Nat} {w : World} {vW vD : Value} {bW bD τ : Nat → Nat} {kW kD : Nat} {wr w1 w3 : World} {g3 cap3 : Nat}
theorem NewIn.start {tG tT : TypeId} : NewIn ws aP cP lP aw cw w (.slice none 0 0) (.slice none 0 0) (fun _ => 0) (fun _ => 0) (fun _ => 0) 0 0 ((w.alloc (.cells #[.slice aP lP cP] tG)).alloc (.cells #[.slice aP lP cP, .slice aw ws.length cw, .slice none 0 0, .slice none 0 0] tT)) := by
  have hb : Below w.heap.size w ((w.alloc (.cells #[.slice aP lP cP] tG)).alloc (.cells #[.slice aP lP cP, .slice aw ws.length cw, .slice none 0 0, .slice none 0 0] tT)) := ((Below.refl _ _).alloc (Nat.le_refl _) _).alloc (by simp) _
  have hs : (w.alloc (.cells #[.slice aP lP cP] tG)).heap.size = w.heap.size + 1 := by simp
  have key : ∀ (W : World) (cs : Array Value) (t : TypeId) (i : Nat), (W.alloc (.cells cs t)).cell? ⟨W.heap.size, i, none⟩ = cs[i]? := fun W cs t i => by simp
  have k2 := fun i => key (w.alloc (.cells #[.slice aP lP cP] tG)) #[.slice aP lP cP, .slice aw ws.length cw, .slice none 0 0, .slice none 0 0] tT i
  rw [hs] at k2
  refine ⟨⟨k2 2, World.ownsRow_nil _ _ _ _, fun i h => by omega, fun i h => by omega, fun g h => by simp [Value.ownBlock] at h, fun i h => by omega⟩, ⟨k2 3, World.ownsRow_nil _ _ _ _, fun i h => by omega, fun i h => by omega, fun g h => by simp [Value.ownBlock] at h, fun i h => by omega⟩, rfl, rfl, hb, by simp, ?_, k2 0, k2 1, fun i => ?_⟩
  · rw [World.cell?_alloc_lt _ _ _ (by simp)]; exact key w _ _ 0
  · rw [frozen?_alloc_cells, frozen?_alloc_cells]; simp [World.frozen?]
theorem NewIn.stepW (h : NewIn ws aP cP lP aw cw w vW vD bW bD τ kW kD wr) (hb1 : Below wr.heap.size wr w1) (hs1 : w1.heap.size = wr.heap.size + 2) (hrow : w1.rowIs wr.heap.size 25 (ws.length + 1) (fun _ => .slice none 0 0))
    (hown : w3.ownsRow w.heap.size 64 1 (.slice (some ⟨g3, 0, none⟩) (kW + 1) cap3) (kW + 1) (rowsAt bW (ws.length + 1) kW ++ [.slice (some ⟨wr.heap.size, 0, none⟩) (ws.length + 1) (ws.length + 1)])) (hgr : w1.grownBy w3 vW.ownBlock) (hat : vW.ownBlock = some g3 ∨ g3 = wr.heap.size + 2) :
    (w3.cell? ⟨w.heap.size + 1, 2, none⟩ = some vW ∧ w3.frozen? ⟨w.heap.size + 1, 2, none⟩ = false) ∧ ∃ v' b' τ', NewIn ws aP cP lP aw cw w v' vD b' bD τ' (kW + 1) kD (w3.setCell ⟨w.heap.size + 1, 2, none⟩ (.slice (some ⟨g3, 0, none⟩) (kW + 1) cap3)) := by
  obtain ⟨HW, HD, t0, t1, hb, hl, c0, c1, c2, hf⟩ := h
  have hgw : wr.grownBy w3 vW.ownBlock := grownBy_trans (grownBy_of_below hb1 _) hgr
  have nT : ∀ b, τ b = 0 → some b ≠ vW.ownBlock := fun b e e2 => by have := HW.tagV b e2.symm; omega
  have k0 := hgw.block w.heap.size (by omega) (nT _ t0)
  have k1 := hgw.block (w.heap.size + 1) hl (nT _ t1)
  refine ⟨⟨by rw [blk_cell k1]; exact HW.cell, by rw [blk_frozen k1]; exact hf 2⟩, ?_⟩
  obtain ⟨τ', e1, H'⟩ := HW.grown (.inl rfl) hb1 (Nat.le_refl _) hb.size hrow hown hgr (hat.imp id (fun e => by omega)) rfl hl t1
  have t0' : τ' w.heap.size = 0 := by rw [e1 _ (by omega)]; exact t0
  have t1' : τ' (w.heap.size + 1) = 0 := by rw [e1 _ hl]; exact t1
  have D1 := HD.kept (τ' := τ') (blk_cell k1) hgw (fun b e => by
    have := HW.tagV b e
    exact ⟨by omega, fun i _ => by omega⟩) e1
  have D2 := D1.kept (τ' := τ') (cell_set_off (x := .slice (some ⟨g3, 0, none⟩) (kW + 1) cap3) (.inr (by decide))) (setCell_grows w3 (w.heap.size + 1) 2 (.slice (some ⟨g3, 0, none⟩) (kW + 1) cap3)) (fun b e => by
    obtain rfl := Option.some.inj e
    exact ⟨by omega, fun i _ => by omega⟩) (fun _ _ => rfl)
  refine ⟨_, _, τ', H', D2, t0', t1', ?_, ?_, ?_, ?_, ?_, fun i => ?_⟩
  · exact (hb.grown hgw hb.size (fun k hk => (HW.own.lt k hk).1)).setCell (Nat.le_succ _) _
  · have := hgw.size; simp; omega
  · rw [cell_set_off (.inl (by omega)), blk_cell k0]; exact c0
  · rw [cell_set_off (.inr (by decide)), blk_cell k1]; exact c1
  · rw [cell_set_off (.inr (by decide)), blk_cell k1]; exact c2
  · rw [World.frozen?_setCell, blk_frozen k1]; exact hf i
theorem NewIn.stepD (h : NewIn ws aP cP lP aw cw w vW vD bW bD τ kW kD wr) (hb1 : Below wr.heap.size wr w1) (hs1 : w1.heap.size = wr.heap.size + 2) (hrow : w1.rowIs wr.heap.size 4 (ws.length + 1) (fun _ => .bool false))
    (hown : w3.ownsRow w.heap.size 85 1 (.slice (some ⟨g3, 0, none⟩) (kD + 1) cap3) (kD + 1) (rowsAt bD (ws.length + 1) kD ++ [.slice (some ⟨wr.heap.size, 0, none⟩) (ws.length + 1) (ws.length + 1)])) (hgr : w1.grownBy w3 vD.ownBlock) (hat : vD.ownBlock = some g3 ∨ g3 = wr.heap.size + 2) :
    (w3.cell? ⟨w.heap.size + 1, 3, none⟩ = some vD ∧ w3.frozen? ⟨w.heap.size + 1, 3, none⟩ = false) ∧ ∃ v' b' τ', NewIn ws aP cP lP aw cw w vW v' bW b' τ' kW (kD + 1) (w3.setCell ⟨w.heap.size + 1, 3, none⟩ (.slice (some ⟨g3, 0, none⟩) (kD + 1) cap3)) := by
  obtain ⟨HY, HX, t0, t1, hb, hl, c0, c1, c2, hf⟩ := h
  have hgw : wr.grownBy w3 vD.ownBlock := grownBy_trans (grownBy_of_below hb1 _) hgr
  have nT : ∀ b, τ b = 0 → some b ≠ vD.ownBlock := fun b e e2 => by have := HX.tagV b e2.symm; omega
  have k0 := hgw.block w.heap.size (by omega) (nT _ t0)
  have k1 := hgw.block (w.heap.size + 1) hl (nT _ t1)
  refine ⟨⟨by rw [blk_cell k1]; exact HX.cell, by rw [blk_frozen k1]; exact hf 3⟩, ?_⟩
  obtain ⟨τ', e1, H'⟩ := HX.grown (.inr rfl) hb1 (Nat.le_refl _) hb.size hrow hown hgr (hat.imp id (fun e => by omega)) rfl hl t1
  have t0' : τ' w.heap.size = 0 := by rw [e1 _ (by omega)]; exact t0
  have t1' : τ' (w.heap.size + 1) = 0 := by rw [e1 _ hl]; exact t1
  have D1 := HY.kept (τ' := τ') (blk_cell k1) hgw (fun b e => by
    have := HX.tagV b e
    exact ⟨by omega, fun i _ => by omega⟩) e1
  have D2 := D1.kept (τ' := τ') (cell_set_off (x := .slice (some ⟨g3, 0, none⟩) (kD + 1) cap3) (.inr (by decide))) (setCell_grows w3 (w.heap.size + 1) 3 (.slice (some ⟨g3, 0, none⟩) (kD + 1) cap3)) (fun b e => by
    obtain rfl := Option.some.inj e
    exact ⟨by omega, fun i _ => by omega⟩) (fun _ _ => rfl)
  refine ⟨_, _, τ', D2, H', t0', t1', ?_, ?_, ?_, ?_, ?_, fun i => ?_⟩
  · exact (hb.grown hgw hb.size (fun k hk => (HX.own.lt k hk).1)).setCell (Nat.le_succ _) _
  · have := hgw.size; simp; omega
  · rw [cell_set_off (.inl (by omega)), blk_cell k0]; exact c0
  · rw [cell_set_off (.inr (by decide)), blk_cell k1]; exact c1
  · rw [cell_set_off (.inr (by decide)), blk_cell k1]; exact c2
  · rw [World.frozen?_setCell, blk_frozen k1]; exact hf i
end

theorem new_one (w : World) (o : Obj) (v : Value) (t : TypeId) (h : Nat) (j : Nat) (u : Value) (hu : ([v] : List Value)[j]? = some u) : ((w.alloc o).alloc (.cells #[v] t)).drew.cell? ((⟨w.heap.size + 1, h * 0, none⟩ : Addr).add j) = some u := by
  cases j with
  | zero =>
    simp at hu
    subst hu
    simp [Addr.add]
  | succ j => simp at hu
set_option maxHeartbeats 8000000 in
set_option maxRecDepth 100000 in
theorem l7New_any (P : List (List (List Int))) (ws : List Int) (aP : Option Addr) (cP : Nat) (aw : Option Addr) (cw : Nat) (w : World) (hn : ws.length ≤ 10) (hp : P.length ≤ 20) :
    Calls Tryd.prog 89 #[.agg #[.slice aP P.length cP], .slice aw ws.length cw] w fun e w' => e = .returned (.pointer (some ⟨w.heap.size + 1, 0, none⟩)) ∧ Hid (∃ vW vD bW bD τ, NewIn ws aP cP P.length aw cw w vW vD bW bD τ P.length P.length w') := by
  go_enter Tryd.func89, Tryd.ntmps89
  go_wp2
  go_loopw [6] (fun sk wr => ∃ k : Nat, k ≤ P.length ∧ sk = .int .i64 (k : Int) ∧ Hid (∃ vW vD bW bD τ, NewIn ws aP cP P.length aw cw w vW vD bW bD τ k k wr)) (fun sk _ => P.length - (intOf sk).toNat)
  case atStart =>
    exact ⟨0, Nat.zero_le _, rfl, _, _, _, _, _, NewIn.start⟩
  case round =>
    obtain ⟨wA, hwA⟩ : ∃ y, y = wr := ⟨_, rfl⟩
    subst hwA
    obtain ⟨k, hk, rfl, HK⟩ := hrel
    obtain ⟨vW, vD, bW, bD, τ, HI⟩ := HK.out
    have q0 := HI.2.2.2.2.2.2.1
    by_cases hlt : k < P.length
    · have hmk5 := fun wx => run_make_row' (P := Tryd.prog) 64 25 (.slice none 0 0) 24 Tryd.underlying64 Tryd.infoIntS rfl .i64 .i64 (ws.length + 1) (by omega) (by omega) wx
      have hmk6 := fun wx => run_make_row' (P := Tryd.prog) 85 4 (.bool false) 1 Tryd.underlying85 Tryd.infoBool rfl .i64 .i64 (ws.length + 1) (by omega) (by omega) wx
      rw [show ((ws.length + 1 : Nat) : Int) = (ws.length : Int) + 1 from rfl] at hmk5 hmk6
      go_upto_region 5 with fail
      go_cut [] from 11 to 43 (fun wx => Hid (∃ vW vD bW bD τ, NewIn ws aP cP P.length aw cw w vW vD bW bD τ (k + 1) k wx))
      case first =>
        have qc := HI.1.cell
        have hlA := HI.2.2.2.2.2.1
        have n1 : w.heap.size + 1 ≠ wA.heap.size := by omega
        have n2 : w.heap.size ≠ wA.heap.size := by omega
        have HBN : Hid (Below wA.heap.size wA ((wA.alloc (.cells (madeCells #[.slice none 0 0] (ws.length + 1)) 25)).alloc (.cells #[.slice (some ⟨wA.heap.size, 0, none⟩) (ws.length + 1) (ws.length + 1)] 64)).drew) := (((Below.refl _ _).alloc (Nat.le_refl _) _).alloc (by simp) _).drew
        have HRN : Hid (((wA.alloc (.cells (madeCells #[.slice none 0 0] (ws.length + 1)) 25)).alloc (.cells #[.slice (some ⟨wA.heap.size, 0, none⟩) (ws.length + 1) (ws.length + 1)] 64)).drew.rowIs wA.heap.size 25 (ws.length + 1) (fun _ => .slice none 0 0)) := rowIs_below (World.rowIs_made wA (.slice none 0 0) (ws.length + 1) 25) ((Below.refl _ _).alloc (Nat.le_refl _) _).drew
        have HOWN : Hid (((wA.alloc (.cells (madeCells #[.slice none 0 0] (ws.length + 1)) 25)).alloc (.cells #[.slice (some ⟨wA.heap.size, 0, none⟩) (ws.length + 1) (ws.length + 1)] 64)).drew.ownsRow w.heap.size 64 1 vW k (rowsAt bW (ws.length + 1) k)) := HI.1.own.kept (grownBy_of_below HBN.out none) (by cases vW.ownBlock <;> simp)
        have HNEW : Hid (∀ (j : Nat) (u : Value), ([.slice (some ⟨wA.heap.size, 0, none⟩) (ws.length + 1) (ws.length + 1)] : List Value)[j]? = some u → ((wA.alloc (.cells (madeCells #[.slice none 0 0] (ws.length + 1)) 25)).alloc (.cells #[.slice (some ⟨wA.heap.size, 0, none⟩) (ws.length + 1) (ws.length + 1)] 64)).drew.cell? ((⟨wA.heap.size + 1, 0, none⟩ : Addr).add j) = some u) := fun j u hu => new_one wA _ _ _ 0 j u hu
        have qc2 : ((wA.alloc (.cells (madeCells #[.slice none 0 0] (ws.length + 1)) 25)).alloc (.cells #[.slice (some ⟨wA.heap.size, 0, none⟩) (ws.length + 1) (ws.length + 1)] 64)).cell? ⟨w.heap.size + 1, 2, none⟩ = some vW := (HBN.out.cell (p := ⟨w.heap.size + 1, 2, none⟩) hlA).trans qc
        have HBAS : Hid (w.heap.size ≤ ((wA.alloc (.cells (madeCells #[.slice none 0 0] (ws.length + 1)) 25)).alloc (.cells #[.slice (some ⟨wA.heap.size, 0, none⟩) (ws.length + 1) (ws.length + 1)] 64)).drew.heap.size) := by have := HBN.out.size; have := HI.2.2.2.2.1.size; show _ ≤ _; omega
        have HFIN : Hid (∀ g3 cap3 w3, w3.ownsRow w.heap.size 64 1 (.slice (some ⟨g3, 0, none⟩) (k + 1) cap3) (k + 1) (rowsAt bW (ws.length + 1) k ++ [.slice (some ⟨wA.heap.size, 0, none⟩) (ws.length + 1) (ws.length + 1)]) → ((wA.alloc (.cells (madeCells #[.slice none 0 0] (ws.length + 1)) 25)).alloc (.cells #[.slice (some ⟨wA.heap.size, 0, none⟩) (ws.length + 1) (ws.length + 1)] 64)).drew.grownBy w3 vW.ownBlock → (vW.ownBlock = some g3 ∨ g3 = wA.heap.size + 2) →
          w3.cell? ⟨w.heap.size + 1, 2, none⟩ = some vW ∧ w3.frozen? ⟨w.heap.size + 1, 2, none⟩ = false ∧ Hid (∃ vW vD bW bD τ, NewIn ws aP cP P.length aw cw w vW vD bW bD τ (k + 1) k (w3.setCell ⟨w.heap.size + 1, 2, none⟩ (.slice (some ⟨g3, 0, none⟩) (k + 1) cap3)))) := fun g3 cap3 w3 h1 h2 h3 => by
            obtain ⟨⟨r1, r2⟩, v', b', τ', r3⟩ := HI.stepW HBN.out (by simp) HRN.out h1 h2 h3
            exact ⟨r1, r2, ⟨v', vD, b', bD, τ', r3⟩⟩
        clear HI HK HBN HRN
        refine wp_region_held_drew (S := (fun w' => True)) (by kernel_rfl) trivial (fun hHeld => ?_)
        refine take_atL (i := 0) (d := some 18) (v := .pointer (some ⟨w.heap.size + 1, 0, none⟩)) rfl rfl (by kernel_rfl) (by kernel_rfl) (by kernel_rfl) (fun _ _ _ h => h) (by rfl) ?_ hHeld ?_
        · intro w' hSw; clear hSw; go_simp; first | done | rfl | (refine wrap_in ?_ ?_ <;> omega) | (intro hbad; exfalso; omega)
        try simp only [Act.put, List.setIfInBounds_toArray, List.set_cons_zero, List.set_cons_succ]
        refine take_atL (i := 1) (d := some 19) (v := .pointer (some ⟨w.heap.size + 1, 0, none⟩)) rfl rfl (by kernel_rfl) (by kernel_rfl) (by kernel_rfl) (fun _ _ _ h => h) (by rfl) ?_ hHeld ?_
        · intro w' hSw; clear hSw; go_simp; first | done | rfl | (refine wrap_in ?_ ?_ <;> omega) | (intro hbad; exfalso; omega)
        try simp only [Act.put, List.setIfInBounds_toArray, List.set_cons_zero, List.set_cons_succ]
        refine take_atL (i := 2) (d := some 20) (v := .pointer (some ⟨w.heap.size + 1, 0, none⟩)) rfl rfl (by kernel_rfl) (by kernel_rfl) (by kernel_rfl) (fun _ _ _ h => h) (by rfl) ?_ hHeld ?_
        · intro w' hSw; clear hSw; go_simp; first | done | rfl | (refine wrap_in ?_ ?_ <;> omega) | (intro hbad; exfalso; omega)
        try simp only [Act.put, List.setIfInBounds_toArray, List.set_cons_zero, List.set_cons_succ]
        refine take_atL (i := 3) (d := some 21) (v := .pointer (some ⟨w.heap.size + 1, 2, none⟩)) rfl rfl (by kernel_rfl) (by kernel_rfl) (by kernel_rfl) (fun _ _ _ h => h) (by rfl) ?_ hHeld ?_
        · intro w' hSw; clear hSw; go_simp; first | done | rfl | (refine wrap_in ?_ ?_ <;> omega) | (intro hbad; exfalso; omega)
        try simp only [Act.put, List.setIfInBounds_toArray, List.set_cons_zero, List.set_cons_succ]
        refine take_atL (i := 5) (d := some 23) (v := .slice aw ws.length cw) rfl rfl (by kernel_rfl) (by kernel_rfl) (by kernel_rfl) (fun _ _ _ h => h) (by rfl) ?_ hHeld ?_
        · intro w' hSw; clear hSw; go_simp; first | done | rfl | (refine wrap_in ?_ ?_ <;> omega) | (intro hbad; exfalso; omega)
        try simp only [Act.put, List.setIfInBounds_toArray, List.set_cons_zero, List.set_cons_succ]
        refine take_atL (i := 6) (d := some 24) (v := .int .i64 ((ws.length : Int))) rfl rfl (by kernel_rfl) (by kernel_rfl) (by kernel_rfl) (fun _ _ _ h => h) (by rfl) ?_ hHeld ?_
        · intro w' hSw; clear hSw; go_simp; first | done | rfl | (refine wrap_in ?_ ?_ <;> omega) | (intro hbad; exfalso; omega)
        try simp only [Act.put, List.setIfInBounds_toArray, List.set_cons_zero, List.set_cons_succ]
        refine take_atL (i := 7) (d := some 25) (v := .int .i64 ((ws.length : Int) + 1)) rfl rfl (by kernel_rfl) (by kernel_rfl) (by kernel_rfl) (fun _ _ _ h => h) (by rfl) ?_ hHeld ?_
        · intro w' hSw; clear hSw; go_simp; first | done | rfl | (refine wrap_in ?_ ?_ <;> omega) | (intro hbad; exfalso; omega)
        try simp only [Act.put, List.setIfInBounds_toArray, List.set_cons_zero, List.set_cons_succ]
        refine wpAnyH_ready (rs := [4, 8]) (by kernel_rfl) (by simp) ?_
        refine AllReadyH.cons (o := _) rfl (fun K hK => ?_) (AllReadyH.cons (o := _) rfl (fun K hK => ?_) AllReadyH.nil)
        · rw [if_pos (by rfl)]
          go_simp
          refine hK.out _ _ trivial (fun hHeld => ?_)
          clear hK K
          try simp only [Act.put, List.setIfInBounds_toArray, List.set_cons_zero, List.set_cons_succ]
          refine wpAnyH_ready (rs := [8]) (by kernel_rfl) (by simp) ?_
          refine AllReadyH.cons (o := _) rfl (fun K hK => ?_) AllReadyH.nil
          rw [if_pos (by rfl)]
          go_simp
          refine hK.out _ _ trivial (fun hHeld => ?_)
          clear hK K
          try simp only [Act.put, List.setIfInBounds_toArray, List.set_cons_zero, List.set_cons_succ]
          refine wpAnyH_ready (rs := [9]) (by kernel_rfl) (by simp) ?_
          refine AllReadyH.cons (o := _) rfl (fun K hK => ?_) AllReadyH.nil
          rw [if_pos (by rfl)]
          go_simp
          refine hK.out _ _ trivial (fun hHeld => ?_)
          clear hK K
          try simp only [Act.put, List.setIfInBounds_toArray, List.set_cons_zero, List.set_cons_succ]
          refine wpAnyH_ready (rs := [10]) (by kernel_rfl) (by simp) ?_
          refine AllReadyH.cons (o := _) rfl (fun K hK => ?_) AllReadyH.nil
          obtain ⟨i0, hi0, hz0, hz1, hz2⟩ := info_parts Tryd.infoIntSS
          refine step_append_lies _ (by rfl) _ _ 22 (by rfl) w.heap.size 64 i0 (.slice none 0 0) 1 24 Tryd.underlying22 hi0 hz0 hz1 hz2 rfl (by decide) vW k (rowsAt bW (ws.length + 1) k) (by rfl) HOWN.out ⟨wA.heap.size + 1, 0, none⟩ 1 1 [.slice (some ⟨wA.heap.size, 0, none⟩) (ws.length + 1) (ws.length + 1)] (by rfl) rfl (fun j u hu => HNEW.out j u hu) (by intro u hu; simp at hu; subst hu; rfl) (by decide) (by unfold maxLen; omega) (by omega) HBAS.out (wA.heap.size + 2) (by simp) ?_
          intro g3 cap3 w3 hown3 hgr3 hat3 hlt3
          have HF := HFIN.out g3 cap3 w3 hown3 hgr3 hat3
          clear HFIN
          refine hK.out _ _ trivial (fun hHeld => ?_)
          clear hK K
          try simp only [Act.put, List.setIfInBounds_toArray]
          refine take_atL (i := 11) (d := some 29) (v := .pointer (some ⟨w.heap.size + 1, 0, none⟩)) rfl rfl (by kernel_rfl) (by kernel_rfl) (by kernel_rfl) (fun _ _ _ h => h) (by rfl) ?_ hHeld ?_
          · intro w' hSw; clear hSw; go_simp; first | done | rfl | (refine wrap_in ?_ ?_ <;> omega) | (intro hbad; exfalso; omega)
          try simp only [Act.put]
          refine take_atL (i := 12) (d := some 30) (v := .pointer (some ⟨w.heap.size + 1, 2, none⟩)) rfl rfl (by kernel_rfl) (by kernel_rfl) (by kernel_rfl) (fun _ _ _ h => h) (by rfl) ?_ hHeld ?_
          · intro w' hSw; clear hSw; go_simp; first | done | rfl | (refine wrap_in ?_ ?_ <;> omega) | (intro hbad; exfalso; omega)
          try simp only [Act.put]
          have hc3 := HF.1
          have hf3 := HF.2.1
          refine wpAnyH_ready (rs := [13]) (by kernel_rfl) (by simp) ?_
          refine AllReadyH.cons (o := _) rfl (fun K hK => ?_) AllReadyH.nil
          rw [if_pos (by rfl)]
          go_simp
          refine hK.out _ _ trivial (fun hHeld => ?_)
          clear hK K
          try simp only [Act.put, List.setIfInBounds_toArray, List.set_cons_zero, List.set_cons_succ]
          refine wpAnyH_done (by kernel_rfl) ?_ _
          clear hHeld
          go_wp2_with fail
          go_meet
          case rel => exact HF.2.2
        · rw [if_pos (by rfl)]
          go_simp
          refine hK.out _ _ trivial (fun hHeld => ?_)
          clear hK K
          try simp only [Act.put, List.setIfInBounds_toArray, List.set_cons_zero, List.set_cons_succ]
          refine wpAnyH_ready (rs := [4, 9]) (by kernel_rfl) (by simp) ?_
          refine AllReadyH.cons (o := _) rfl (fun K hK => ?_) (AllReadyH.cons (o := _) rfl (fun K hK => ?_) AllReadyH.nil)
          · rw [if_pos (by rfl)]
            go_simp
            refine hK.out _ _ trivial (fun hHeld => ?_)
            clear hK K
            try simp only [Act.put, List.setIfInBounds_toArray, List.set_cons_zero, List.set_cons_succ]
            refine wpAnyH_ready (rs := [9]) (by kernel_rfl) (by simp) ?_
            refine AllReadyH.cons (o := _) rfl (fun K hK => ?_) AllReadyH.nil
            rw [if_pos (by rfl)]
            go_simp
            refine hK.out _ _ trivial (fun hHeld => ?_)
            clear hK K
            try simp only [Act.put, List.setIfInBounds_toArray, List.set_cons_zero, List.set_cons_succ]
            refine wpAnyH_ready (rs := [10]) (by kernel_rfl) (by simp) ?_
            refine AllReadyH.cons (o := _) rfl (fun K hK => ?_) AllReadyH.nil
            obtain ⟨i0, hi0, hz0, hz1, hz2⟩ := info_parts Tryd.infoIntSS
            refine step_append_lies _ (by rfl) _ _ 22 (by rfl) w.heap.size 64 i0 (.slice none 0 0) 1 24 Tryd.underlying22 hi0 hz0 hz1 hz2 rfl (by decide) vW k (rowsAt bW (ws.length + 1) k) (by rfl) HOWN.out ⟨wA.heap.size + 1, 0, none⟩ 1 1 [.slice (some ⟨wA.heap.size, 0, none⟩) (ws.length + 1) (ws.length + 1)] (by rfl) rfl (fun j u hu => HNEW.out j u hu) (by intro u hu; simp at hu; subst hu; rfl) (by decide) (by unfold maxLen; omega) (by omega) HBAS.out (wA.heap.size + 2) (by simp) ?_
            intro g3 cap3 w3 hown3 hgr3 hat3 hlt3
            have HF := HFIN.out g3 cap3 w3 hown3 hgr3 hat3
            clear HFIN
            refine hK.out _ _ trivial (fun hHeld => ?_)
            clear hK K
            try simp only [Act.put, List.setIfInBounds_toArray]
            refine take_atL (i := 11) (d := some 29) (v := .pointer (some ⟨w.heap.size + 1, 0, none⟩)) rfl rfl (by kernel_rfl) (by kernel_rfl) (by kernel_rfl) (fun _ _ _ h => h) (by rfl) ?_ hHeld ?_
            · intro w' hSw; clear hSw; go_simp; first | done | rfl | (refine wrap_in ?_ ?_ <;> omega) | (intro hbad; exfalso; omega)
            try simp only [Act.put]
            refine take_atL (i := 12) (d := some 30) (v := .pointer (some ⟨w.heap.size + 1, 2, none⟩)) rfl rfl (by kernel_rfl) (by kernel_rfl) (by kernel_rfl) (fun _ _ _ h => h) (by rfl) ?_ hHeld ?_
            · intro w' hSw; clear hSw; go_simp; first | done | rfl | (refine wrap_in ?_ ?_ <;> omega) | (intro hbad; exfalso; omega)
            try simp only [Act.put]
            have hc3 := HF.1
            have hf3 := HF.2.1
            refine wpAnyH_ready (rs := [13]) (by kernel_rfl) (by simp) ?_
            refine AllReadyH.cons (o := _) rfl (fun K hK => ?_) AllReadyH.nil
            rw [if_pos (by rfl)]
            go_simp
            refine hK.out _ _ trivial (fun hHeld => ?_)
            clear hK K
            try simp only [Act.put, List.setIfInBounds_toArray, List.set_cons_zero, List.set_cons_succ]
            refine wpAnyH_done (by kernel_rfl) ?_ _
            clear hHeld
            go_wp2_with fail
            go_meet
            case rel => exact HF.2.2
          · rw [if_pos (by rfl)]
            go_simp
            refine hK.out _ _ trivial (fun hHeld => ?_)
            clear hK K
            try simp only [Act.put, List.setIfInBounds_toArray, List.set_cons_zero, List.set_cons_succ]
            refine wpAnyH_ready (rs := [4]) (by kernel_rfl) (by simp) ?_
            refine AllReadyH.cons (o := _) rfl (fun K hK => ?_) AllReadyH.nil
            rw [if_pos (by rfl)]
            go_simp
            refine hK.out _ _ trivial (fun hHeld => ?_)
            clear hK K
            try simp only [Act.put, List.setIfInBounds_toArray, List.set_cons_zero, List.set_cons_succ]
            refine wpAnyH_ready (rs := [10]) (by kernel_rfl) (by simp) ?_
            refine AllReadyH.cons (o := _) rfl (fun K hK => ?_) AllReadyH.nil
            obtain ⟨i0, hi0, hz0, hz1, hz2⟩ := info_parts Tryd.infoIntSS
            refine step_append_lies _ (by rfl) _ _ 22 (by rfl) w.heap.size 64 i0 (.slice none 0 0) 1 24 Tryd.underlying22 hi0 hz0 hz1 hz2 rfl (by decide) vW k (rowsAt bW (ws.length + 1) k) (by rfl) HOWN.out ⟨wA.heap.size + 1, 0, none⟩ 1 1 [.slice (some ⟨wA.heap.size, 0, none⟩) (ws.length + 1) (ws.length + 1)] (by rfl) rfl (fun j u hu => HNEW.out j u hu) (by intro u hu; simp at hu; subst hu; rfl) (by decide) (by unfold maxLen; omega) (by omega) HBAS.out (wA.heap.size + 2) (by simp) ?_
            intro g3 cap3 w3 hown3 hgr3 hat3 hlt3
            have HF := HFIN.out g3 cap3 w3 hown3 hgr3 hat3
            clear HFIN
            refine hK.out _ _ trivial (fun hHeld => ?_)
            clear hK K
            try simp only [Act.put, List.setIfInBounds_toArray]
            refine take_atL (i := 11) (d := some 29) (v := .pointer (some ⟨w.heap.size + 1, 0, none⟩)) rfl rfl (by kernel_rfl) (by kernel_rfl) (by kernel_rfl) (fun _ _ _ h => h) (by rfl) ?_ hHeld ?_
            · intro w' hSw; clear hSw; go_simp; first | done | rfl | (refine wrap_in ?_ ?_ <;> omega) | (intro hbad; exfalso; omega)
            try simp only [Act.put]
            refine take_atL (i := 12) (d := some 30) (v := .pointer (some ⟨w.heap.size + 1, 2, none⟩)) rfl rfl (by kernel_rfl) (by kernel_rfl) (by kernel_rfl) (fun _ _ _ h => h) (by rfl) ?_ hHeld ?_
            · intro w' hSw; clear hSw; go_simp; first | done | rfl | (refine wrap_in ?_ ?_ <;> omega) | (intro hbad; exfalso; omega)
            try simp only [Act.put]
            have hc3 := HF.1
            have hf3 := HF.2.1
            refine wpAnyH_ready (rs := [13]) (by kernel_rfl) (by simp) ?_
            refine AllReadyH.cons (o := _) rfl (fun K hK => ?_) AllReadyH.nil
            rw [if_pos (by rfl)]
            go_simp
            refine hK.out _ _ trivial (fun hHeld => ?_)
            clear hK K
            try simp only [Act.put, List.setIfInBounds_toArray, List.set_cons_zero, List.set_cons_succ]
            refine wpAnyH_done (by kernel_rfl) ?_ _
            clear hHeld
            go_wp2_with fail
            go_meet
            case rel => exact HF.2.2
      case rest =>
        clear HI HK q0
        obtain ⟨wA2, hwA⟩ : ∃ y, y = wc := ⟨_, rfl⟩
        subst hwA
        have HK2 : Hid (∃ vW vD bW bD τ, NewIn ws aP cP P.length aw cw w vW vD bW bD τ (k + 1) k wA2) := hcut
        clear hcut hmk5
        obtain ⟨vW, vD, bW, bD, τ, HI⟩ := HK2.out
        obtain ⟨wA, hwA⟩ : ∃ y, y = wA2 := ⟨_, rfl⟩
        subst hwA
        go_upto_region 6 with fail
        have qc := HI.2.1.cell
        have hlA := HI.2.2.2.2.2.1
        have n1 : w.heap.size + 1 ≠ wA.heap.size := by omega
        have n2 : w.heap.size ≠ wA.heap.size := by omega
        have HBN : Hid (Below wA.heap.size wA ((wA.alloc (.cells (madeCells #[.bool false] (ws.length + 1)) 4)).alloc (.cells #[.slice (some ⟨wA.heap.size, 0, none⟩) (ws.length + 1) (ws.length + 1)] 85)).drew) := (((Below.refl _ _).alloc (Nat.le_refl _) _).alloc (by simp) _).drew
        have HRN : Hid (((wA.alloc (.cells (madeCells #[.bool false] (ws.length + 1)) 4)).alloc (.cells #[.slice (some ⟨wA.heap.size, 0, none⟩) (ws.length + 1) (ws.length + 1)] 85)).drew.rowIs wA.heap.size 4 (ws.length + 1) (fun _ => .bool false)) := rowIs_below (World.rowIs_made wA (.bool false) (ws.length + 1) 4) ((Below.refl _ _).alloc (Nat.le_refl _) _).drew
        have HOWN : Hid (((wA.alloc (.cells (madeCells #[.bool false] (ws.length + 1)) 4)).alloc (.cells #[.slice (some ⟨wA.heap.size, 0, none⟩) (ws.length + 1) (ws.length + 1)] 85)).drew.ownsRow w.heap.size 85 1 vD k (rowsAt bD (ws.length + 1) k)) := HI.2.1.own.kept (grownBy_of_below HBN.out none) (by cases vD.ownBlock <;> simp)
        have HNEW : Hid (∀ (j : Nat) (u : Value), ([.slice (some ⟨wA.heap.size, 0, none⟩) (ws.length + 1) (ws.length + 1)] : List Value)[j]? = some u → ((wA.alloc (.cells (madeCells #[.bool false] (ws.length + 1)) 4)).alloc (.cells #[.slice (some ⟨wA.heap.size, 0, none⟩) (ws.length + 1) (ws.length + 1)] 85)).drew.cell? ((⟨wA.heap.size + 1, 0, none⟩ : Addr).add j) = some u) := fun j u hu => new_one wA _ _ _ 0 j u hu
        have qc2 : ((wA.alloc (.cells (madeCells #[.bool false] (ws.length + 1)) 4)).alloc (.cells #[.slice (some ⟨wA.heap.size, 0, none⟩) (ws.length + 1) (ws.length + 1)] 85)).cell? ⟨w.heap.size + 1, 3, none⟩ = some vD := (HBN.out.cell (p := ⟨w.heap.size + 1, 3, none⟩) hlA).trans qc
        have HBAS : Hid (w.heap.size ≤ ((wA.alloc (.cells (madeCells #[.bool false] (ws.length + 1)) 4)).alloc (.cells #[.slice (some ⟨wA.heap.size, 0, none⟩) (ws.length + 1) (ws.length + 1)] 85)).drew.heap.size) := by have := HBN.out.size; have := HI.2.2.2.2.1.size; show _ ≤ _; omega
        have HFIN : Hid (∀ g3 cap3 w3, w3.ownsRow w.heap.size 85 1 (.slice (some ⟨g3, 0, none⟩) (k + 1) cap3) (k + 1) (rowsAt bD (ws.length + 1) k ++ [.slice (some ⟨wA.heap.size, 0, none⟩) (ws.length + 1) (ws.length + 1)]) → ((wA.alloc (.cells (madeCells #[.bool false] (ws.length + 1)) 4)).alloc (.cells #[.slice (some ⟨wA.heap.size, 0, none⟩) (ws.length + 1) (ws.length + 1)] 85)).drew.grownBy w3 vD.ownBlock → (vD.ownBlock = some g3 ∨ g3 = wA.heap.size + 2) →
          w3.cell? ⟨w.heap.size + 1, 3, none⟩ = some vD ∧ w3.frozen? ⟨w.heap.size + 1, 3, none⟩ = false ∧ Hid (∃ vW vD bW bD τ, NewIn ws aP cP P.length aw cw w vW vD bW bD τ (k + 1) (k + 1) (w3.setCell ⟨w.heap.size + 1, 3, none⟩ (.slice (some ⟨g3, 0, none⟩) (k + 1) cap3)))) := fun g3 cap3 w3 h1 h2 h3 => by
            obtain ⟨⟨r1, r2⟩, v', b', τ', r3⟩ := HI.stepD HBN.out (by simp) HRN.out h1 h2 h3
            exact ⟨r1, r2, ⟨vW, v', bW, b', τ', r3⟩⟩
        clear HI HK2 HBN HRN
        refine wp_region_held_drew (S := (fun w' => True)) (by kernel_rfl) trivial (fun hHeld => ?_)
        refine take_atL (i := 0) (d := some 31) (v := .pointer (some ⟨w.heap.size + 1, 0, none⟩)) rfl rfl (by kernel_rfl) (by kernel_rfl) (by kernel_rfl) (fun _ _ _ h => h) (by rfl) ?_ hHeld ?_
        · intro w' hSw; clear hSw; go_simp; first | done | rfl | (refine wrap_in ?_ ?_ <;> omega) | (intro hbad; exfalso; omega)
        try simp only [Act.put, List.setIfInBounds_toArray, List.set_cons_zero, List.set_cons_succ]
        refine take_atL (i := 1) (d := some 32) (v := .pointer (some ⟨w.heap.size + 1, 0, none⟩)) rfl rfl (by kernel_rfl) (by kernel_rfl) (by kernel_rfl) (fun _ _ _ h => h) (by rfl) ?_ hHeld ?_
        · intro w' hSw; clear hSw; go_simp; first | done | rfl | (refine wrap_in ?_ ?_ <;> omega) | (intro hbad; exfalso; omega)
        try simp only [Act.put, List.setIfInBounds_toArray, List.set_cons_zero, List.set_cons_succ]
        refine take_atL (i := 2) (d := some 33) (v := .pointer (some ⟨w.heap.size + 1, 0, none⟩)) rfl rfl (by kernel_rfl) (by kernel_rfl) (by kernel_rfl) (fun _ _ _ h => h) (by rfl) ?_ hHeld ?_
        · intro w' hSw; clear hSw; go_simp; first | done | rfl | (refine wrap_in ?_ ?_ <;> omega) | (intro hbad; exfalso; omega)
        try simp only [Act.put, List.setIfInBounds_toArray, List.set_cons_zero, List.set_cons_succ]
        refine take_atL (i := 3) (d := some 34) (v := .pointer (some ⟨w.heap.size + 1, 3, none⟩)) rfl rfl (by kernel_rfl) (by kernel_rfl) (by kernel_rfl) (fun _ _ _ h => h) (by rfl) ?_ hHeld ?_
        · intro w' hSw; clear hSw; go_simp; first | done | rfl | (refine wrap_in ?_ ?_ <;> omega) | (intro hbad; exfalso; omega)
        try simp only [Act.put, List.setIfInBounds_toArray, List.set_cons_zero, List.set_cons_succ]
        refine take_atL (i := 5) (d := some 36) (v := .slice aw ws.length cw) rfl rfl (by kernel_rfl) (by kernel_rfl) (by kernel_rfl) (fun _ _ _ h => h) (by rfl) ?_ hHeld ?_
        · intro w' hSw; clear hSw; go_simp; first | done | rfl | (refine wrap_in ?_ ?_ <;> omega) | (intro hbad; exfalso; omega)
        try simp only [Act.put, List.setIfInBounds_toArray, List.set_cons_zero, List.set_cons_succ]
        refine take_atL (i := 6) (d := some 37) (v := .int .i64 ((ws.length : Int))) rfl rfl (by kernel_rfl) (by kernel_rfl) (by kernel_rfl) (fun _ _ _ h => h) (by rfl) ?_ hHeld ?_
        · intro w' hSw; clear hSw; go_simp; first | done | rfl | (refine wrap_in ?_ ?_ <;> omega) | (intro hbad; exfalso; omega)
        try simp only [Act.put, List.setIfInBounds_toArray, List.set_cons_zero, List.set_cons_succ]
        refine take_atL (i := 7) (d := some 38) (v := .int .i64 ((ws.length : Int) + 1)) rfl rfl (by kernel_rfl) (by kernel_rfl) (by kernel_rfl) (fun _ _ _ h => h) (by rfl) ?_ hHeld ?_
        · intro w' hSw; clear hSw; go_simp; first | done | rfl | (refine wrap_in ?_ ?_ <;> omega) | (intro hbad; exfalso; omega)
        try simp only [Act.put, List.setIfInBounds_toArray, List.set_cons_zero, List.set_cons_succ]
        refine wpAnyH_ready (rs := [4, 8]) (by kernel_rfl) (by simp) ?_
        refine AllReadyH.cons (o := _) rfl (fun K hK => ?_) (AllReadyH.cons (o := _) rfl (fun K hK => ?_) AllReadyH.nil)
        · rw [if_pos (by rfl)]
          go_simp
          refine hK.out _ _ trivial (fun hHeld => ?_)
          clear hK K
          try simp only [Act.put, List.setIfInBounds_toArray, List.set_cons_zero, List.set_cons_succ]
          refine wpAnyH_ready (rs := [8]) (by kernel_rfl) (by simp) ?_
          refine AllReadyH.cons (o := _) rfl (fun K hK => ?_) AllReadyH.nil
          rw [if_pos (by rfl)]
          go_simp
          refine hK.out _ _ trivial (fun hHeld => ?_)
          clear hK K
          try simp only [Act.put, List.setIfInBounds_toArray, List.set_cons_zero, List.set_cons_succ]
          refine wpAnyH_ready (rs := [9]) (by kernel_rfl) (by simp) ?_
          refine AllReadyH.cons (o := _) rfl (fun K hK => ?_) AllReadyH.nil
          rw [if_pos (by rfl)]
          go_simp
          refine hK.out _ _ trivial (fun hHeld => ?_)
          clear hK K
          try simp only [Act.put, List.setIfInBounds_toArray, List.set_cons_zero, List.set_cons_succ]
          refine wpAnyH_ready (rs := [10]) (by kernel_rfl) (by simp) ?_
          refine AllReadyH.cons (o := _) rfl (fun K hK => ?_) AllReadyH.nil
          obtain ⟨i0, hi0, hz0, hz1, hz2⟩ := info_parts Tryd.infoBoolS
          refine step_append_lies _ (by rfl) _ _ 98 (by rfl) w.heap.size 85 i0 (.slice none 0 0) 1 24 Tryd.underlying98 hi0 hz0 hz1 hz2 rfl (by decide) vD k (rowsAt bD (ws.length + 1) k) (by rfl) HOWN.out ⟨wA.heap.size + 1, 0, none⟩ 1 1 [.slice (some ⟨wA.heap.size, 0, none⟩) (ws.length + 1) (ws.length + 1)] (by rfl) rfl (fun j u hu => HNEW.out j u hu) (by intro u hu; simp at hu; subst hu; rfl) (by decide) (by unfold maxLen; omega) (by omega) HBAS.out (wA.heap.size + 2) (by simp) ?_
          intro g3 cap3 w3 hown3 hgr3 hat3 hlt3
          have HF := HFIN.out g3 cap3 w3 hown3 hgr3 hat3
          clear HFIN
          refine hK.out _ _ trivial (fun hHeld => ?_)
          clear hK K
          try simp only [Act.put, List.setIfInBounds_toArray]
          refine take_atL (i := 11) (d := some 42) (v := .pointer (some ⟨w.heap.size + 1, 0, none⟩)) rfl rfl (by kernel_rfl) (by kernel_rfl) (by kernel_rfl) (fun _ _ _ h => h) (by rfl) ?_ hHeld ?_
          · intro w' hSw; clear hSw; go_simp; first | done | rfl | (refine wrap_in ?_ ?_ <;> omega) | (intro hbad; exfalso; omega)
          try simp only [Act.put]
          refine take_atL (i := 12) (d := some 43) (v := .pointer (some ⟨w.heap.size + 1, 3, none⟩)) rfl rfl (by kernel_rfl) (by kernel_rfl) (by kernel_rfl) (fun _ _ _ h => h) (by rfl) ?_ hHeld ?_
          · intro w' hSw; clear hSw; go_simp; first | done | rfl | (refine wrap_in ?_ ?_ <;> omega) | (intro hbad; exfalso; omega)
          try simp only [Act.put]
          have hc3 := HF.1
          have hf3 := HF.2.1
          refine wpAnyH_ready (rs := [13]) (by kernel_rfl) (by simp) ?_
          refine AllReadyH.cons (o := _) rfl (fun K hK => ?_) AllReadyH.nil
          rw [if_pos (by rfl)]
          go_simp
          refine hK.out _ _ trivial (fun hHeld => ?_)
          clear hK K
          try simp only [Act.put, List.setIfInBounds_toArray, List.set_cons_zero, List.set_cons_succ]
          refine wpAnyH_done (by kernel_rfl) ?_ _
          clear hHeld
          go_wp2
          go_roundw
          case rel => exact ⟨k + 1, by omega, by go_num, HF.2.2⟩
          case measure => simp [intOf]; omega
        · rw [if_pos (by rfl)]
          go_simp
          refine hK.out _ _ trivial (fun hHeld => ?_)
          clear hK K
          try simp only [Act.put, List.setIfInBounds_toArray, List.set_cons_zero, List.set_cons_succ]
          refine wpAnyH_ready (rs := [4, 9]) (by kernel_rfl) (by simp) ?_
          refine AllReadyH.cons (o := _) rfl (fun K hK => ?_) (AllReadyH.cons (o := _) rfl (fun K hK => ?_) AllReadyH.nil)
          · rw [if_pos (by rfl)]
            go_simp
            refine hK.out _ _ trivial (fun hHeld => ?_)
            clear hK K
            try simp only [Act.put, List.setIfInBounds_toArray, List.set_cons_zero, List.set_cons_succ]
            refine wpAnyH_ready (rs := [9]) (by kernel_rfl) (by simp) ?_
            refine AllReadyH.cons (o := _) rfl (fun K hK => ?_) AllReadyH.nil
            rw [if_pos (by rfl)]
            go_simp
            refine hK.out _ _ trivial (fun hHeld => ?_)
            clear hK K
            try simp only [Act.put, List.setIfInBounds_toArray, List.set_cons_zero, List.set_cons_succ]
            refine wpAnyH_ready (rs := [10]) (by kernel_rfl) (by simp) ?_
            refine AllReadyH.cons (o := _) rfl (fun K hK => ?_) AllReadyH.nil
            obtain ⟨i0, hi0, hz0, hz1, hz2⟩ := info_parts Tryd.infoBoolS
            refine step_append_lies _ (by rfl) _ _ 98 (by rfl) w.heap.size 85 i0 (.slice none 0 0) 1 24 Tryd.underlying98 hi0 hz0 hz1 hz2 rfl (by decide) vD k (rowsAt bD (ws.length + 1) k) (by rfl) HOWN.out ⟨wA.heap.size + 1, 0, none⟩ 1 1 [.slice (some ⟨wA.heap.size, 0, none⟩) (ws.length + 1) (ws.length + 1)] (by rfl) rfl (fun j u hu => HNEW.out j u hu) (by intro u hu; simp at hu; subst hu; rfl) (by decide) (by unfold maxLen; omega) (by omega) HBAS.out (wA.heap.size + 2) (by simp) ?_
            intro g3 cap3 w3 hown3 hgr3 hat3 hlt3
            have HF := HFIN.out g3 cap3 w3 hown3 hgr3 hat3
            clear HFIN
            refine hK.out _ _ trivial (fun hHeld => ?_)
            clear hK K
            try simp only [Act.put, List.setIfInBounds_toArray]
            refine take_atL (i := 11) (d := some 42) (v := .pointer (some ⟨w.heap.size + 1, 0, none⟩)) rfl rfl (by kernel_rfl) (by kernel_rfl) (by kernel_rfl) (fun _ _ _ h => h) (by rfl) ?_ hHeld ?_
            · intro w' hSw; clear hSw; go_simp; first | done | rfl | (refine wrap_in ?_ ?_ <;> omega) | (intro hbad; exfalso; omega)
            try simp only [Act.put]
            refine take_atL (i := 12) (d := some 43) (v := .pointer (some ⟨w.heap.size + 1, 3, none⟩)) rfl rfl (by kernel_rfl) (by kernel_rfl) (by kernel_rfl) (fun _ _ _ h => h) (by rfl) ?_ hHeld ?_
            · intro w' hSw; clear hSw; go_simp; first | done | rfl | (refine wrap_in ?_ ?_ <;> omega) | (intro hbad; exfalso; omega)
            try simp only [Act.put]
            have hc3 := HF.1
            have hf3 := HF.2.1
            refine wpAnyH_ready (rs := [13]) (by kernel_rfl) (by simp) ?_
            refine AllReadyH.cons (o := _) rfl (fun K hK => ?_) AllReadyH.nil
            rw [if_pos (by rfl)]
            go_simp
            refine hK.out _ _ trivial (fun hHeld => ?_)
            clear hK K
            try simp only [Act.put, List.setIfInBounds_toArray, List.set_cons_zero, List.set_cons_succ]
            refine wpAnyH_done (by kernel_rfl) ?_ _
            clear hHeld
            go_wp2
            go_roundw
            case rel => exact ⟨k + 1, by omega, by go_num, HF.2.2⟩
            case measure => simp [intOf]; omega
          · rw [if_pos (by rfl)]
            go_simp
            refine hK.out _ _ trivial (fun hHeld => ?_)
            clear hK K
            try simp only [Act.put, List.setIfInBounds_toArray, List.set_cons_zero, List.set_cons_succ]
            refine wpAnyH_ready (rs := [4]) (by kernel_rfl) (by simp) ?_
            refine AllReadyH.cons (o := _) rfl (fun K hK => ?_) AllReadyH.nil
            rw [if_pos (by rfl)]
            go_simp
            refine hK.out _ _ trivial (fun hHeld => ?_)
            clear hK K
            try simp only [Act.put, List.setIfInBounds_toArray, List.set_cons_zero, List.set_cons_succ]
            refine wpAnyH_ready (rs := [10]) (by kernel_rfl) (by simp) ?_
            refine AllReadyH.cons (o := _) rfl (fun K hK => ?_) AllReadyH.nil
            obtain ⟨i0, hi0, hz0, hz1, hz2⟩ := info_parts Tryd.infoBoolS
            refine step_append_lies _ (by rfl) _ _ 98 (by rfl) w.heap.size 85 i0 (.slice none 0 0) 1 24 Tryd.underlying98 hi0 hz0 hz1 hz2 rfl (by decide) vD k (rowsAt bD (ws.length + 1) k) (by rfl) HOWN.out ⟨wA.heap.size + 1, 0, none⟩ 1 1 [.slice (some ⟨wA.heap.size, 0, none⟩) (ws.length + 1) (ws.length + 1)] (by rfl) rfl (fun j u hu => HNEW.out j u hu) (by intro u hu; simp at hu; subst hu; rfl) (by decide) (by unfold maxLen; omega) (by omega) HBAS.out (wA.heap.size + 2) (by simp) ?_
            intro g3 cap3 w3 hown3 hgr3 hat3 hlt3
            have HF := HFIN.out g3 cap3 w3 hown3 hgr3 hat3
            clear HFIN
            refine hK.out _ _ trivial (fun hHeld => ?_)
            clear hK K
            try simp only [Act.put, List.setIfInBounds_toArray]
            refine take_atL (i := 11) (d := some 42) (v := .pointer (some ⟨w.heap.size + 1, 0, none⟩)) rfl rfl (by kernel_rfl) (by kernel_rfl) (by kernel_rfl) (fun _ _ _ h => h) (by rfl) ?_ hHeld ?_
            · intro w' hSw; clear hSw; go_simp; first | done | rfl | (refine wrap_in ?_ ?_ <;> omega) | (intro hbad; exfalso; omega)
            try simp only [Act.put]
            refine take_atL (i := 12) (d := some 43) (v := .pointer (some ⟨w.heap.size + 1, 3, none⟩)) rfl rfl (by kernel_rfl) (by kernel_rfl) (by kernel_rfl) (fun _ _ _ h => h) (by rfl) ?_ hHeld ?_
            · intro w' hSw; clear hSw; go_simp; first | done | rfl | (refine wrap_in ?_ ?_ <;> omega) | (intro hbad; exfalso; omega)
            try simp only [Act.put]
            have hc3 := HF.1
            have hf3 := HF.2.1
            refine wpAnyH_ready (rs := [13]) (by kernel_rfl) (by simp) ?_
            refine AllReadyH.cons (o := _) rfl (fun K hK => ?_) AllReadyH.nil
            rw [if_pos (by rfl)]
            go_simp
            refine hK.out _ _ trivial (fun hHeld => ?_)
            clear hK K
            try simp only [Act.put, List.setIfInBounds_toArray, List.set_cons_zero, List.set_cons_succ]
            refine wpAnyH_done (by kernel_rfl) ?_ _
            clear hHeld
            go_wp2
            go_roundw
            case rel => exact ⟨k + 1, by omega, by go_num, HF.2.2⟩
            case measure => simp [intOf]; omega
    · have e : k = P.length := by omega
      subst e
      clear HI
      go_wp2
      go_ret
      exact ⟨rfl, HK⟩
end Go.Proofs.YthnppodnjokaoaaDoor
