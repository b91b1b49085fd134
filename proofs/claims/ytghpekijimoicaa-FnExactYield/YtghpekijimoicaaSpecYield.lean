/-
  The contract of spec.Yield over this translation. No statement is proved here.
-/
import Derived.Test.YtghpekijimoicaaSpecLeaves
import Derived.Test.YtghpekijimoicaaYield
namespace Go.Proofs.Ytghpekijimoicaa
open Go.RowKit

theorem leafPos_syms (ns : List Nd) : (leafPos ns 0).map (fun z => (ndAt ns z.toNat).sym) = leafSyms ns := by
  unfold leafPos leafSyms
  rw [List.map_filterMap]
  congr 1
  funext v
  unfold isLf
  split <;> simp

theorem within_below2 {w w' : World} {M : Nat → Prop} {n : Nat} (h : Within w w' M) (hM : ∀ k, M k → n ≤ k) (hw : n ≤ w.heap.size) : Below n w w' :=
  ⟨h.os, h.tape, h.output, h.size, fun k hk => h.block k (Nat.lt_of_lt_of_le hk hw) (fun ht => by have := hM k ht; omega)⟩
theorem Within.compY {w W W' : World} {P T : Nat → Prop} (h : Within w W P) (g : Within W W' T) (hT : ∀ k, T k → P k ∨ w.heap.size ≤ k) : Within w W' P :=
  ⟨g.os.trans h.os, g.tape.trans h.tape, g.output.trans h.output, Nat.le_trans h.size g.size, fun k hk hn => by
    rw [g.block k (Nat.lt_of_lt_of_le hk h.size) (fun e => by
      rcases hT k e with e | e
      · exact hn e
      · omega)]
    exact h.block k hk hn⟩

set_option maxHeartbeats 400000 in
set_option maxRecDepth 100000 in
theorem specYield_own (x : Tr) (a0 : Option Addr) (c0 : Nat) (w : World) (h0 : RD w (.slice a0 x.nodes.length c0) (slD Lay.node x.nodes)) (hw : Lay.tree.wt x ≤ 1048576) (hf : Lay.tree.fit x) :
    Calls Try.prog 10 #[.agg #[.slice a0 x.nodes.length c0]] w fun e w' => ∃ v, e = .returned v ∧ OwnInts w' w.heap.size 3 v (resYield x) ∧ Below w.heap.size w w' := by
  have HT : Hid (∀ W : World, Below w.heap.size w W → Calls Try.prog 6 #[.agg #[.slice a0 x.nodes.length c0]] W fun e w' => e = .returned (.bool (resTreeShape x)) ∧ Below W.heap.size W w') := fun W hW => specTreeShape_any x a0 c0 W (h0.later hW) hw hf
  rw [Lay_tree_wt, Lay.wt_list] at hw
  have hn : x.nodes.length ≤ 1048576 := by omega
  have hsum : Lay.node.sumL x.nodes ≤ 1048576 := by omega
  unfold resYield
  unfold resTreeShape at HT
  clear hw hf
  generalize x.nodes = ns at *
  have B0 : Below w.heap.size w (w.alloc (.cells #[.slice a0 ns.length c0] 29)) := (Below.refl _ _).alloc (Nat.le_refl _) _
  have qG : (w.alloc (.cells #[.slice a0 ns.length c0] 29)).cell? ⟨w.heap.size, 0, none⟩ = some (.slice a0 ns.length c0) := by simp
  have HO0 : Hid (OwnInts ((w.alloc (.cells #[.slice a0 ns.length c0] 29)).alloc (.cells #[] 3)) (w.heap.size + 1) 3 (.slice (some ⟨w.heap.size + 1, 0, none⟩) 0 0) []) := by
    have := OwnInts.empty (w := w.alloc (.cells #[.slice a0 ns.length c0] 29)) (base := w.heap.size + 1) (e := 3) (by simp)
    show OwnInts _ _ _ _ _
    simpa using this
  have B1 : Below w.heap.size w ((w.alloc (.cells #[.slice a0 ns.length c0] 29)).alloc (.cells #[] 3)) := B0.alloc (by simp) _
  have X := HT.out _ B1
  obtain ⟨w1, hw1⟩ : ∃ w1, w1 = (w.alloc (.cells #[.slice a0 ns.length c0] 29)).alloc (.cells #[] 3) := ⟨_, rfl⟩
  have q1 : w1.cell? ⟨w.heap.size, 0, none⟩ = some (.slice a0 ns.length c0) := by rw [hw1]; exact (((Below.refl (w.heap.size + 1) _).alloc (by simp) _).cell (p := ⟨w.heap.size, 0, none⟩) (by simp)).trans qG
  rw [← hw1] at HO0 B1 X
  have hs1 : w.heap.size + 2 ≤ w1.heap.size := by rw [hw1]; simp
  cases hsb : shapeB ns with
  | false =>
    rw [hsb] at X
    rw [if_neg (by simp)]
    clear h0 HT
    go_enter Try.func10, Try.ntmps10
    go_wp2_with (go_at_call 6; rw [← hw1]; refine X.mono ?_; rintro e w2 ⟨rfl, hb2⟩)
    go_ret
    exact ⟨_, rfl, (HO0.out.below hb2).base (Nat.le_succ _), B1.trans (hb2.mono (by omega))⟩
  | true =>
    rw [hsb] at X
    rw [if_pos rfl]
    have hs := shapeB_true.1 hsb
    have hpos : 0 < ns.length := List.length_pos_iff.2 hs.1
    have HLP : Hid (∀ W : World, Below w.heap.size w W → Calls Try.prog 22 #[.agg #[.slice a0 ns.length c0], .int .i64 ((0 : Nat) : Int)] W fun e w' => ∃ v, e = .returned v ∧ OwnInts w' W.heap.size 3 v (leafPos ns 0) ∧ Below W.heap.size W w') := fun W hW => l9Leaves_at ns hs hn hsum ns.length 0 hpos (by omega) (by have := leafPos_length hs; omega) a0 c0 W (h0.later hW)
    have HLL : Hid ((leafPos ns 0).length ≤ 2097152) := by have := leafPos_length hs; show _ ≤ _; omega
    have HLI : Hid (∀ z ∈ leafPos ns 0, ∃ k : Nat, z = k ∧ k < ns.length) := leafPos_in hs ns.length 0 hpos (by omega)
    have HN : Hid (∀ k (hk : k < ns.length), ∃ b off, a0 = some ⟨b, off, none⟩ ∧ b < w.heap.size ∧ w.cell? ⟨b, off + k * 5 + 1, none⟩ = some (.int .i64 (ndAt ns k).sym)) := fun k hk => by
      obtain ⟨b, off, e, hb, ⟨_, p1, _, _⟩, _⟩ := h0.atNode hk
      rw [← ndAt_get hk] at p1
      exact ⟨b, off, e, hb, p1⟩
    have HRES : Hid ((leafPos ns 0).map (fun z => (ndAt ns z.toNat).sym) = leafSyms ns) := leafPos_syms ns
    rw [← HRES.out]
    clear h0 HT hs hsum HRES
    generalize leafPos ns 0 = L at *
    go_enter Try.func10, Try.ntmps10
    go_wp2_with (first
      | (go_at_call 6; rw [← hw1]; refine X.mono ?_; rintro e w2 ⟨rfl, hb2⟩; have q2 := (hb2.cell (p := ⟨w.heap.size, 0, none⟩) (by show w.heap.size < _; omega)).trans q1)
      | (go_at_call 22; refine (HLP.out _ (B1.trans (hb2.mono (by omega)))).mono ?_; rintro e w3 ⟨v3, rfl, hO3, hb3⟩; obtain ⟨a3, c3, rfl, hr3, _⟩ := hO3.shape; have q3 := (hb3.cell (p := ⟨w.heap.size, 0, none⟩) (by show w.heap.size < _; have := hb2.size; omega)).trans q2))
    have hb23 : Below w1.heap.size w1 w3 := hb2.trans (hb3.mono hb2.size)
    have HO3 : Hid (OwnInts w3 (w.heap.size + 1) 3 (.slice (some ⟨w.heap.size + 1, 0, none⟩) 0 0) ((L.take 0).map (fun z => (ndAt ns z.toNat).sym))) := HO0.out.below hb23
    have HB3 : Hid (Below w.heap.size w w3) := B1.trans (hb23.mono (by omega))
    have hs3 : w1.heap.size ≤ w3.heap.size := hb23.size
    have HR3 : Hid (Reads w3 a3 L) := hr3
    have HA3 : Hid (∀ b off, a3 = some ⟨b, off, none⟩ → w1.heap.size ≤ b ∧ b < w3.heap.size) := fun b off e => by
      subst e
      rcases hO3.2 with ⟨e2, _⟩ | ⟨g, cap, cur, e2, hb, hg, _⟩
      · cases e2
      · cases e2
        exact ⟨Nat.le_trans hb2.size hb, (Array.getElem?_eq_some_iff.1 hg).1⟩
    clear HO0 hb23 hb2 hb3 q1 q2 hO3 hr3 X HLP
    go_loopw [3, 5] (fun u3 u5 wr => ∃ j : Nat, ∃ vo, j ≤ L.length ∧ u5 = .int .i64 (j : Int) ∧ u3 = vo ∧ Hid (OwnInts wr (w.heap.size + 1) 3 vo ((L.take j).map (fun z => (ndAt ns z.toNat).sym))) ∧ Hid (Within w3 wr (fun k => k = w.heap.size + 1)) ∧ Hid (∀ k, vo.ownBlock = some k → k = w.heap.size + 1 ∨ w3.heap.size ≤ k)) (fun _ u5 _ => L.length - (intOf u5).toNat)
    case atStart => exact ⟨0, _, Nat.zero_le _, rfl, rfl, HO3, Within.refl _ _, fun k hk => by simp [Value.ownBlock] at hk; omega⟩
    case round =>
      obtain ⟨j, vo, hj, rfl, hvo, HO, HB⟩ := hrel
      replace hvo := hvo.symm
      subst hvo
      obtain ⟨HW, HOB⟩ := HB
      obtain ⟨wA, hwA⟩ : ∃ y, y = wr := ⟨_, rfl⟩
      subst hwA
      clear HO3
      have hsA := HW.out.size
      by_cases hlt : j < L.length
      · obtain ⟨b3, o3, rfl, hb3, hc3⟩ := HR3.out.at hlt
        have hA3 := HA3.out b3 o3 rfl
        have q5' := hc3 j hlt
        rw [List.getD_eq_getElem?_getD, List.getElem?_eq_getElem hlt, Option.getD_some] at q5'
        obtain ⟨k, hk, hkn⟩ := HLI.out L[j] (List.getElem_mem hlt)
        obtain ⟨b1, o1, rfl, hb1, p6⟩ := HN.out k hkn
        have g0 := (World.cell?_of_block (a := ⟨w.heap.size, 0, none⟩) (HW.out.block w.heap.size (by omega) (by omega))).trans q3
        have q5 := (World.cell?_of_block (a := ⟨b3, o3 + j, none⟩) (HW.out.block b3 hb3 (by omega))).trans q5'
        have q6' := (HB3.out.cell (p := ⟨b1, o1 + k * 5 + 1, none⟩) hb1).trans p6
        have q6 := (World.cell?_of_block (a := ⟨b1, o1 + k * 5 + 1, none⟩) (HW.out.block b1 (by omega) (by omega))).trans q6'
        have HTK : Hid ((L.take (j + 1)).map (fun z => (ndAt ns z.toNat).sym) = (L.take j).map (fun z => (ndAt ns z.toNat).sym) ++ [(ndAt ns k).sym]) := by
          show _ = _
          rw [List.take_succ_eq_append_getElem hlt, List.map_append, hk]
          simp
        rw [hk] at q5
        have HLT : Hid (((L.take j).map (fun z => (ndAt ns z.toNat).sym)).length ≤ 2097152) := by have := HLL.out; show _ ≤ _; rw [List.length_map, List.length_take]; omega
        have hll := HLL.out
        have hltI : (j : Int) < (L.length : Int) := by omega
        have hkI : (k : Int) < (ns.length : Int) := by omega
        clear q5' hc3 p6 q6' HLI HN HR3 HA3 q3 HLL hk
        generalize (ndAt ns k).sym = sy at *
        generalize (L.take j).map (fun z => (ndAt ns z.toNat).sym) = O at *
        go_wp2_with fail
        refine wp_region_held_drew (S := (fun w' => w'.cell? ⟨w.heap.size, 0, none⟩ = some (.slice (some ⟨b1, o1, none⟩) ns.length c0) ∧ w'.cell? ⟨b3, o3 + j, none⟩ = some (.int .i64 (k : Int)) ∧ w'.cell? ⟨b1, o1 + k * 5 + 1, none⟩ = some (.int .i64 sy))) (by kernel_rfl) ⟨g0, q5, q6⟩ (fun hHeld => ?_)
        refine take_atL (i := 0) (d := some 19) (v := vo) rfl rfl (by kernel_rfl) (by kernel_rfl) (by kernel_rfl) (fun _ _ _ h => h) (by rfl) ?_ hHeld ?_
        · intro w' hSw; obtain ⟨s0, s1, s2⟩ := hSw; go_simp; first | done | rfl | (intro hbad; exfalso; omega)
        try simp only [Act.put, List.setIfInBounds_toArray, List.set_cons_zero, List.set_cons_succ]
        refine take_atL (i := 1) (d := some 20) (v := .pointer (some ⟨w.heap.size, 0, none⟩)) rfl rfl (by kernel_rfl) (by kernel_rfl) (by kernel_rfl) (fun _ _ _ h => h) (by rfl) ?_ hHeld ?_
        · intro w' hSw; obtain ⟨s0, s1, s2⟩ := hSw; go_simp; first | done | rfl | (intro hbad; exfalso; omega)
        try simp only [Act.put, List.setIfInBounds_toArray, List.set_cons_zero, List.set_cons_succ]
        refine take_atL (i := 2) (d := some 21) (v := .slice (some ⟨b1, o1, none⟩) ns.length c0) rfl rfl (by kernel_rfl) (by kernel_rfl) (by kernel_rfl) (fun _ _ _ h => h) (by rfl) ?_ hHeld ?_
        · intro w' hSw; obtain ⟨s0, s1, s2⟩ := hSw; go_simp; first | done | rfl | (intro hbad; exfalso; omega)
        try simp only [Act.put, List.setIfInBounds_toArray, List.set_cons_zero, List.set_cons_succ]
        refine take_atL (i := 3) (d := some 22) (v := .slice (some ⟨b3, o3, none⟩) L.length c3) rfl rfl (by kernel_rfl) (by kernel_rfl) (by kernel_rfl) (fun _ _ _ h => h) (by rfl) ?_ hHeld ?_
        · intro w' hSw; obtain ⟨s0, s1, s2⟩ := hSw; go_simp; first | done | rfl | (intro hbad; exfalso; omega)
        try simp only [Act.put, List.setIfInBounds_toArray, List.set_cons_zero, List.set_cons_succ]
        refine take_atL (i := 4) (d := some 23) (v := .int .i64 ((j : Int))) rfl rfl (by kernel_rfl) (by kernel_rfl) (by kernel_rfl) (fun _ _ _ h => h) (by rfl) ?_ hHeld ?_
        · intro w' hSw; obtain ⟨s0, s1, s2⟩ := hSw; go_simp; first | done | rfl | (intro hbad; exfalso; omega)
        try simp only [Act.put, List.setIfInBounds_toArray, List.set_cons_zero, List.set_cons_succ]
        refine take_atL (i := 5) (d := some 24) (v := .pointer (some ⟨b3, o3 + j, none⟩)) rfl rfl (by kernel_rfl) (by kernel_rfl) (by kernel_rfl) (fun _ _ _ h => h) (by rfl) ?_ hHeld ?_
        · intro w' hSw; obtain ⟨s0, s1, s2⟩ := hSw; go_simp; first | done | rfl | (intro hbad; exfalso; omega)
        try simp only [Act.put, List.setIfInBounds_toArray, List.set_cons_zero, List.set_cons_succ]
        refine take_atL (i := 6) (d := some 25) (v := .int .i64 ((k : Int))) rfl rfl (by kernel_rfl) (by kernel_rfl) (by kernel_rfl) (fun _ _ _ h => h) (by rfl) ?_ hHeld ?_
        · intro w' hSw; obtain ⟨s0, s1, s2⟩ := hSw; go_simp; first | done | rfl | (intro hbad; exfalso; omega)
        try simp only [Act.put, List.setIfInBounds_toArray, List.set_cons_zero, List.set_cons_succ]
        refine take_atL (i := 7) (d := some 26) (v := .pointer (some ⟨b1, o1 + k * 5, none⟩)) rfl rfl (by kernel_rfl) (by kernel_rfl) (by kernel_rfl) (fun _ _ _ h => h) (by rfl) ?_ hHeld ?_
        · intro w' hSw; obtain ⟨s0, s1, s2⟩ := hSw; go_simp; first | done | rfl | (intro hbad; exfalso; omega)
        try simp only [Act.put, List.setIfInBounds_toArray, List.set_cons_zero, List.set_cons_succ]
        refine take_atL (i := 8) (d := some 27) (v := .pointer (some ⟨b1, o1 + k * 5 + 1, none⟩)) rfl rfl (by kernel_rfl) (by kernel_rfl) (by kernel_rfl) (fun _ _ _ h => h) (by rfl) ?_ hHeld ?_
        · intro w' hSw; obtain ⟨s0, s1, s2⟩ := hSw; go_simp; first | done | rfl | (intro hbad; exfalso; omega)
        try simp only [Act.put, List.setIfInBounds_toArray, List.set_cons_zero, List.set_cons_succ]
        refine take_atL (i := 9) (d := some 28) (v := .int .i64 (sy)) rfl rfl (by kernel_rfl) (by kernel_rfl) (by kernel_rfl) (fun _ _ _ h => h) (by rfl) ?_ hHeld ?_
        · intro w' hSw; obtain ⟨s0, s1, s2⟩ := hSw; go_simp; first | done | rfl | (intro hbad; exfalso; omega)
        try simp only [Act.put, List.setIfInBounds_toArray, List.set_cons_zero, List.set_cons_succ]
        refine wpAnyH_ready (rs := [10]) (by kernel_rfl) (by simp) ?_
        refine AllReadyH.cons (o := _) rfl (fun K hK => ?_) AllReadyH.nil
        rw [if_pos (by rfl)]
        go_simp
        have s0 := (((Below.refl wA.heap.size wA).alloc (Nat.le_refl _) (.cells #[.int .i64 sy] 3)).cell (p := ⟨w.heap.size, 0, none⟩) (by show w.heap.size < _; omega)).trans g0
        have s1 := (((Below.refl wA.heap.size wA).alloc (Nat.le_refl _) (.cells #[.int .i64 sy] 3)).cell (p := ⟨b3, o3 + j, none⟩) (by show b3 < _; omega)).trans q5
        have s2 := (((Below.refl wA.heap.size wA).alloc (Nat.le_refl _) (.cells #[.int .i64 sy] 3)).cell (p := ⟨b1, o1 + k * 5 + 1, none⟩) (by show b1 < _; omega)).trans q6
        refine hK.out _ _ ⟨s0, s1, s2⟩ (fun hHeld => ?_)
        clear hK K
        try simp only [Act.put, List.setIfInBounds_toArray, List.set_cons_zero, List.set_cons_succ]
        refine wpAnyH_ready (rs := [11]) (by kernel_rfl) (by simp) ?_
        refine AllReadyH.cons (o := _) rfl (fun K hK => ?_) AllReadyH.nil
        rw [if_pos (by rfl)]
        refine oper_append_ints1 (.tmp 19) (.tmp 29) 33 rfl (w.heap.size + 1) 3 Try.underlying33 Try.infoInt vo O rfl (HO.out.alloc _) _ _ _ [sy] (by simp) rfl rfl (Reads.new _ _ _) (by have := HLT.out; simp; omega) (by simp; omega) ?_
        intro v6 w6 hO6 hg6 hat6
        have hbA : Below wA.heap.size wA (wA.alloc (.cells #[.int .i64 sy] 3)) := (Below.refl _ _).alloc (Nat.le_refl _) _
        have hw6 : Within (wA.alloc (.cells #[.int .i64 sy] 3)) w6 (fun k => vo.ownBlock = some k) := (Within.of_below (Below.drew (Below.refl _ _)) _).trans (Within.of_grown hg6 (fun k e => e))
        have HW6 : Hid (Within w3 w6 (fun k => k = w.heap.size + 1)) := (HW.out.trans (Within.of_below hbA _)).compY hw6 (fun b e => HOB.out b e)
        have HOB6 : Hid (∀ k, v6.ownBlock = some k → k = w.heap.size + 1 ∨ w3.heap.size ≤ k) := fun k e => by
          rcases hat6 k e with e | e
          · exact HOB.out k e
          · right; simp at e; omega
        have HO6 : Hid (OwnInts w6 (w.heap.size + 1) 3 v6 ((L.take (j + 1)).map (fun z => (ndAt ns z.toNat).sym))) := by rw [HTK.out]; exact hO6
        have hlt0 : ¬ vo.ownBlock = some w.heap.size := fun e => by have := HOB.out _ e; omega
        have hlt1 : ¬ vo.ownBlock = some b1 := fun e => by have := HOB.out _ e; omega
        have hlt3 : ¬ vo.ownBlock = some b3 := fun e => by have := HOB.out _ e; omega
        have t0 := (World.cell?_of_block (a := ⟨w.heap.size, 0, none⟩) (hw6.block w.heap.size (by simp; omega) hlt0)).trans s0
        have t1 := (World.cell?_of_block (a := ⟨b3, o3 + j, none⟩) (hw6.block b3 (by simp; omega) hlt3)).trans s1
        have t2 := (World.cell?_of_block (a := ⟨b1, o1 + k * 5 + 1, none⟩) (hw6.block b1 (by simp; omega) hlt1)).trans s2
        clear hO6 hg6 hat6 hbA hw6 s0 s1 s2 HO HW HOB HTK
        refine hK.out _ _ ⟨t0, t1, t2⟩ (fun hHeld => ?_)
        clear hK K
        try simp only [Act.put, List.setIfInBounds_toArray]
        refine take_atL (i := 12) (d := some 3) (v := v6) rfl rfl (by kernel_rfl) (by kernel_rfl) (by kernel_rfl) (fun _ _ _ h => h) (by rfl) ?_ hHeld ?_
        · intro w' hSw; obtain ⟨s0, s1, s2⟩ := hSw; go_simp; first | done | rfl | (intro hbad; exfalso; omega)
        try simp only [Act.put]
        refine wpAnyH_done (by kernel_rfl) ?_ _
        clear hHeld
        go_wp2
        go_roundw
        case rel => exact ⟨j + 1, v6, by omega, by go_num, rfl, HO6, HW6, HOB6⟩
        case measure => simp [intOf]; omega
      · have hj2 : j = L.length := by omega
        have HO2 : Hid (OwnInts wA (w.heap.size + 1) 3 vo (L.map (fun z => (ndAt ns z.toNat).sym))) := by
          have := HO.out
          rw [hj2, List.take_length] at this
          exact this
        have HBE : Hid (Below w.heap.size w wA) := HB3.out.trans (within_below2 HW.out (fun k hk => by rw [hk]; omega) (by omega))
        clear HO HR3 HLI HN q3 HW
        go_wp2
        go_ret
        exact ⟨_, rfl, HO2.out.base (Nat.le_succ _), HBE.out⟩
theorem specYield_any (x : Tr) (a0 : Option Addr) (c0 : Nat) (w : World) (h0 : RD w (.slice a0 x.nodes.length c0) (slD Lay.node x.nodes)) (hw : Lay.tree.wt x ≤ 1048576) (hf : Lay.tree.fit x) :
    Calls Try.prog 10 #[.agg #[.slice a0 x.nodes.length c0]] w fun e w' => ∃ v S, e = .returned v ∧ OD w' w.heap.size v (slD Lay.int (resYield x)) S ∧ Below w.heap.size w w' := by
  refine (specYield_own x a0 c0 w h0 hw hf).mono ?_
  rintro e w' ⟨v, rfl, ho, hb⟩
  exact ⟨v, _, rfl, ho.od, hb⟩
end Go.Proofs.Ytghpekijimoicaa
