/-
  Contracts and plain mathematics, joined: SpecLeaves. No statement is proved here.
-/
import Derived.Test.YthnppodnjokaoaaDoorG11
import Derived.Test.YthnppodnjokaoaaDoorG20
import Derived.Test.YthnppodnjokaoaaDoorG5
import Derived.Test.YthnppodnjokaoaaDoorG3
namespace Go.Proofs.YthnppodnjokaoaaDoor
open Go.RowKit

theorem OwnInts.oneY {w : World} {base : Nat} {e : TypeId} (x : Int) (h : base ≤ w.heap.size) : OwnInts (w.alloc (.cells #[.int .i64 x] e)) base e (.slice (some ⟨w.heap.size, 0, none⟩) 1 1) [x] :=
  World.ownsRow_lit w #[.int .i64 x] 1 h (by simp [maxLen]) rfl

set_option maxHeartbeats 400000 in
set_option maxRecDepth 100000 in
theorem l9Leaves_at (ns : List Nd) (hs : Shaped ns) (hn : ns.length ≤ 1048576) (hsum : Lay.node.sumL ns ≤ 1048576) : ∀ (f p : Nat), p < ns.length → ns.length - p ≤ f → (leafPos ns p).length ≤ 2097152 → ∀ (a0 : Option Addr) (c0 : Nat) (w : World), RD w (.slice a0 ns.length c0) (slD Lay.node ns) →
    Calls Tryd.prog 32 #[.agg #[.slice a0 ns.length c0], .int .i64 (p : Int)] w fun e w' => ∃ v, e = .returned v ∧ OwnInts w' w.heap.size 3 v (leafPos ns p) ∧ Below w.heap.size w w'
  | 0, p, hp, hf, _, _, _, _, _ => by omega
  | f + 1, p, hp, hf, hl, a0, c0, w, h0 => by
    have HREC : Hid (∀ k, k ∈ kidsAt ns p → (leafPos ns k).length ≤ 2097152 → ∀ (W : World), Below w.heap.size w W → Calls Tryd.prog 32 #[.agg #[.slice a0 ns.length c0], .int .i64 (k : Int)] W fun e w' => ∃ v, e = .returned v ∧ OwnInts w' W.heap.size 3 v (leafPos ns k) ∧ Below W.heap.size W w') := fun k hk hl2 W hW => by
      have := kid_lt hs hp hk
      exact l9Leaves_at ns hs hn hsum f k this.2 (by omega) hl2 a0 c0 W (h0.later hW)
    obtain ⟨b1, o1, rfl, hb1, ⟨p0, _, _, _⟩, a1, c1, p4, r1⟩ := h0.atNode hp
    have HRK : Hid (Reads w a1 ns[p].kids) := r1.reads
    have B0 : Below w.heap.size w (w.alloc (.cells #[.slice (some ⟨b1, o1, none⟩) ns.length c0] 43)) := (Below.refl _ _).alloc (Nat.le_refl _) _
    have p0' := (B0.cell (p := ⟨b1, _, none⟩) hb1).trans p0
    have p4' := (B0.cell (p := ⟨b1, _, none⟩) hb1).trans p4
    have hpI : (p : Int) < (ns.length : Int) := by omega
    rw [← ndAt_get hp] at p0' p4' HRK
    have hkl := kidsAt_length ns p
    have hkb : (kidsAt ns p).length ≤ 1048576 := by
      have h1 := kidsTo_length (ns := ns) (p + 1)
      rw [kidsTo_next hp, List.length_append] at h1
      rw [hkl, ndAt_get hp]
      omega
    by_cases h : (ndAt ns p).kind = 0
    · have HL : Hid (leafPos ns p = [(p : Int)]) := leafPos_leaf hs hp h
      rw [h] at p0'
      clear h0 HREC p0 p4 p4' r1 HRK hkl h hl
      go_enter Tryd.func32, Tryd.ntmps32
      go_wp2
      go_ret
      refine ⟨_, rfl, ?_, B0.alloc (by simp) _⟩
      rw [HL.out]
      have := OwnInts.oneY (w := w.alloc (.cells #[.slice (some ⟨b1, o1, none⟩) ns.length c0] 43)) (base := w.heap.size) (e := 3) (p : Int) (by simp)
      simpa using this
    · have HL : Hid (leafPos ns p = (kidsAt ns p).flatMap (leafPos ns)) := leafPos_kids hs hp h
      have HKG : Hid (∀ j (hj : j < (kidsAt ns p).length), (ndAt ns p).kids.getD j 0 = (((kidsAt ns p)[j] : Nat) : Int)) := fun j hj => kidsAt_get hs hp hj
      rw [HL.out] at hl
      have hk0 : ((ndAt ns p).kind == 0) = false := by simpa using h
      rw [← hkl] at p4'
      have HRK2 : Hid (∀ j (hj : j < (kidsAt ns p).length), ∃ b off, a1 = some ⟨b, off, none⟩ ∧ b < w.heap.size ∧ w.cell? ⟨b, off + j, none⟩ = some (.int .i64 (((kidsAt ns p)[j] : Nat) : Int))) := fun j hj => by
        obtain ⟨b, off, e, hb, hc⟩ := HRK.out.at (i := j) (by omega)
        exact ⟨b, off, e, hb, by rw [hc j (by omega), HKG.out j hj]⟩
      clear h0 p0 p4 r1 HRK HKG hkl
      rw [HL.out]
      clear HL
      generalize (ndAt ns p).kind = kd at *
      generalize kidsAt ns p = ks at *
      have HO0 : Hid (OwnInts ((w.alloc (.cells #[.slice (some ⟨b1, o1, none⟩) ns.length c0] 43)).alloc (.cells #[] 3)) (w.heap.size + 1) 3 (.slice (some ⟨w.heap.size + 1, 0, none⟩) 0 0) []) := by
        have := OwnInts.empty (w := w.alloc (.cells #[.slice (some ⟨b1, o1, none⟩) ns.length c0] 43)) (base := w.heap.size + 1) (e := 3) (by simp)
        show OwnInts _ _ _ _ _
        simpa using this
      have HB0 : Hid (Below (w.heap.size + 1) (w.alloc (.cells #[.slice (some ⟨b1, o1, none⟩) ns.length c0] 43)) ((w.alloc (.cells #[.slice (some ⟨b1, o1, none⟩) ns.length c0] 43)).alloc (.cells #[] 3))) := (Below.refl _ _).alloc (by simp) _
      go_enter Tryd.func32, Tryd.ntmps32
      go_wp2
      go_loopw [5, 6] (fun u5 u6 wr => ∃ j : Nat, ∃ vo, j ≤ ks.length ∧ u6 = .int .i64 (j : Int) ∧ u5 = vo ∧ Hid (OwnInts wr (w.heap.size + 1) 3 vo ((ks.take j).flatMap (leafPos ns))) ∧ Hid (Below (w.heap.size + 1) (w.alloc (.cells #[.slice (some ⟨b1, o1, none⟩) ns.length c0] 43)) wr)) (fun _ u6 _ => ks.length - (intOf u6).toNat)
      case atStart => exact ⟨0, _, Nat.zero_le _, rfl, rfl, HO0, HB0⟩
      case round =>
        obtain ⟨j, vo, hj, rfl, hvo, HO, HB⟩ := hrel
        replace hvo := hvo.symm
        subst hvo
        clear HO0 HB0
        obtain ⟨wA, hwA⟩ : ∃ y, y = wr := ⟨_, rfl⟩
        subst hwA
        have g0 : wA.cell? ⟨w.heap.size, 0, none⟩ = some (.slice (some ⟨b1, o1, none⟩) ns.length c0) := (HB.out.cell (p := ⟨w.heap.size, 0, none⟩) (by simp)).trans (by simp)
        have hsz : w.heap.size + 1 ≤ wA.heap.size := by have := HB.out.size; simpa using this
        have q4 := (HB.out.cell (p := ⟨b1, _, none⟩) (by simp; omega)).trans p4'
        have HBw : Hid (Below w.heap.size w wA) := B0.trans (HB.out.mono (by simp))
        by_cases hlt : j < ks.length
        · obtain ⟨b2, o2, rfl, hb2, p5⟩ := HRK2.out j hlt
          have q5 := (HBw.out.cell (p := ⟨b2, _, none⟩) hb2).trans p5
          have HLE : Hid (((ks.take j).flatMap (leafPos ns)).length + (leafPos ns ks[j]).length ≤ 2097152) := by have := leafPos_kid_le (ns := ns) hlt; show _ ≤ _; omega
          have X : Hid (∀ W, Below wA.heap.size wA W → Calls Tryd.prog 32 #[.agg #[.slice (some ⟨b1, o1, none⟩) ns.length c0], .int .i64 ((ks[j] : Nat) : Int)] W fun e w' => ∃ v, e = .returned v ∧ OwnInts w' W.heap.size 3 v (leafPos ns ks[j]) ∧ Below W.heap.size W w') := fun W hW => HREC.out ks[j] (List.getElem_mem hlt) (by have := HLE.out; omega) W (HBw.out.trans (hW.mono HBw.out.size))
          have HTK : Hid ((ks.take (j + 1)).flatMap (leafPos ns) = (ks.take j).flatMap (leafPos ns) ++ leafPos ns ks[j]) := leafPos_take hlt
          have hltI : (j : Int) < (ks.length : Int) := by omega
          clear p4' p5 hl HREC HRK2 p0' hk0 h
          generalize ks[j] = kd2 at *
          generalize leafPos ns kd2 = L at *
          generalize (ks.take j).flatMap (leafPos ns) = O at *
          go_wp2_with fail
          refine wp_region_held_drew (S := (fun w' => w'.cell? ⟨w.heap.size, 0, none⟩ = some (.slice (some ⟨b1, o1, none⟩) ns.length c0) ∧ w'.cell? ⟨b1, o1 + p * 5 + 4, none⟩ = some (.slice (some ⟨b2, o2, none⟩) ks.length c1) ∧ w'.cell? ⟨b2, o2 + j, none⟩ = some (.int .i64 (kd2 : Int)))) (by kernel_rfl) ⟨g0, q4, q5⟩ (fun hHeld => ?_)
          refine take_atL (i := 0) (d := some 28) (v := vo) rfl rfl (by kernel_rfl) (by kernel_rfl) (by kernel_rfl) (fun _ _ _ h => h) (by rfl) ?_ hHeld ?_
          · intro w' hSw; obtain ⟨s0, s1, s2⟩ := hSw; go_simp; first | done | rfl | (intro hbad; exfalso; omega)
          try simp only [Act.put, List.setIfInBounds_toArray, List.set_cons_zero, List.set_cons_succ]
          refine take_atL (i := 1) (d := some 29) (v := .agg #[.slice (some ⟨b1, o1, none⟩) ns.length c0]) rfl rfl (by kernel_rfl) (by kernel_rfl) (by kernel_rfl) (fun _ _ _ h => h) (by rfl) ?_ hHeld ?_
          · intro w' hSw; obtain ⟨s0, s1, s2⟩ := hSw; go_simp; first | done | rfl | (intro hbad; exfalso; omega)
          try simp only [Act.put, List.setIfInBounds_toArray, List.set_cons_zero, List.set_cons_succ]
          refine take_atL (i := 2) (d := some 30) (v := .pointer (some ⟨w.heap.size, 0, none⟩)) rfl rfl (by kernel_rfl) (by kernel_rfl) (by kernel_rfl) (fun _ _ _ h => h) (by rfl) ?_ hHeld ?_
          · intro w' hSw; obtain ⟨s0, s1, s2⟩ := hSw; go_simp; first | done | rfl | (intro hbad; exfalso; omega)
          try simp only [Act.put, List.setIfInBounds_toArray, List.set_cons_zero, List.set_cons_succ]
          refine take_atL (i := 3) (d := some 31) (v := .slice (some ⟨b1, o1, none⟩) ns.length c0) rfl rfl (by kernel_rfl) (by kernel_rfl) (by kernel_rfl) (fun _ _ _ h => h) (by rfl) ?_ hHeld ?_
          · intro w' hSw; obtain ⟨s0, s1, s2⟩ := hSw; go_simp; first | done | rfl | (intro hbad; exfalso; omega)
          try simp only [Act.put, List.setIfInBounds_toArray, List.set_cons_zero, List.set_cons_succ]
          refine take_atL (i := 4) (d := some 32) (v := .int .i64 ((p : Int))) rfl rfl (by kernel_rfl) (by kernel_rfl) (by kernel_rfl) (fun _ _ _ h => h) (by rfl) ?_ hHeld ?_
          · intro w' hSw; obtain ⟨s0, s1, s2⟩ := hSw; go_simp; first | done | rfl | (intro hbad; exfalso; omega)
          try simp only [Act.put, List.setIfInBounds_toArray, List.set_cons_zero, List.set_cons_succ]
          refine take_atL (i := 5) (d := some 33) (v := .pointer (some ⟨b1, o1 + p * 5, none⟩)) rfl rfl (by kernel_rfl) (by kernel_rfl) (by kernel_rfl) (fun _ _ _ h => h) (by rfl) ?_ hHeld ?_
          · intro w' hSw; obtain ⟨s0, s1, s2⟩ := hSw; go_simp; first | done | rfl | (intro hbad; exfalso; omega)
          try simp only [Act.put, List.setIfInBounds_toArray, List.set_cons_zero, List.set_cons_succ]
          refine take_atL (i := 6) (d := some 34) (v := .pointer (some ⟨b1, o1 + p * 5 + 4, none⟩)) rfl rfl (by kernel_rfl) (by kernel_rfl) (by kernel_rfl) (fun _ _ _ h => h) (by rfl) ?_ hHeld ?_
          · intro w' hSw; obtain ⟨s0, s1, s2⟩ := hSw; go_simp; first | done | rfl | (intro hbad; exfalso; omega)
          try simp only [Act.put, List.setIfInBounds_toArray, List.set_cons_zero, List.set_cons_succ]
          refine take_atL (i := 7) (d := some 35) (v := .slice (some ⟨b2, o2, none⟩) ks.length c1) rfl rfl (by kernel_rfl) (by kernel_rfl) (by kernel_rfl) (fun _ _ _ h => h) (by rfl) ?_ hHeld ?_
          · intro w' hSw; obtain ⟨s0, s1, s2⟩ := hSw; go_simp; first | done | rfl | (intro hbad; exfalso; omega)
          try simp only [Act.put, List.setIfInBounds_toArray, List.set_cons_zero, List.set_cons_succ]
          refine take_atL (i := 8) (d := some 36) (v := .int .i64 ((j : Int))) rfl rfl (by kernel_rfl) (by kernel_rfl) (by kernel_rfl) (fun _ _ _ h => h) (by rfl) ?_ hHeld ?_
          · intro w' hSw; obtain ⟨s0, s1, s2⟩ := hSw; go_simp; first | done | rfl | (intro hbad; exfalso; omega)
          try simp only [Act.put, List.setIfInBounds_toArray, List.set_cons_zero, List.set_cons_succ]
          refine take_atL (i := 9) (d := some 37) (v := .pointer (some ⟨b2, o2 + j, none⟩)) rfl rfl (by kernel_rfl) (by kernel_rfl) (by kernel_rfl) (fun _ _ _ h => h) (by rfl) ?_ hHeld ?_
          · intro w' hSw; obtain ⟨s0, s1, s2⟩ := hSw; go_simp; first | done | rfl | (intro hbad; exfalso; omega)
          try simp only [Act.put, List.setIfInBounds_toArray, List.set_cons_zero, List.set_cons_succ]
          refine take_atL (i := 10) (d := some 38) (v := .int .i64 ((kd2 : Int))) rfl rfl (by kernel_rfl) (by kernel_rfl) (by kernel_rfl) (fun _ _ _ h => h) (by rfl) ?_ hHeld ?_
          · intro w' hSw; obtain ⟨s0, s1, s2⟩ := hSw; go_simp; first | done | rfl | (intro hbad; exfalso; omega)
          try simp only [Act.put, List.setIfInBounds_toArray, List.set_cons_zero, List.set_cons_succ]
          refine wpAnyH_ready (rs := [11]) (by kernel_rfl) (by simp) ?_
          refine AllReadyH.cons (o := _) rfl (fun K hK => ?_) AllReadyH.nil
          rw [if_pos (by rfl)]
          go_simp
          refine (X.out _ (Below.drew (Below.refl _ _))).mono ?_
          rintro e w5 ⟨v5, rfl, hO5, hb5'⟩
          have hb5 : Below wA.heap.size wA w5 := Below.drewed (by simpa using hb5')
          replace hO5 : OwnInts w5 wA.heap.size 3 v5 L := by simpa using hO5
          obtain ⟨a5, c5, rfl, hr5, _⟩ := hO5.shape
          have s0 := (hb5.cell (p := ⟨w.heap.size, 0, none⟩) (by show w.heap.size < _; omega)).trans g0
          have s1 := (hb5.cell (p := ⟨b1, o1 + p * 5 + 4, none⟩) (by show b1 < _; omega)).trans q4
          have s2 := (hb5.cell (p := ⟨b2, o2 + j, none⟩) (by show b2 < _; omega)).trans q5
          go_wp2_with fail
          refine hK.out _ _ ⟨s0, s1, s2⟩ (fun hHeld => ?_)
          clear hK K
          try simp only [Act.put, List.setIfInBounds_toArray, List.set_cons_zero, List.set_cons_succ]
          refine wpAnyH_ready (rs := [12]) (by kernel_rfl) (by simp) ?_
          refine AllReadyH.cons (o := _) rfl (fun K hK => ?_) AllReadyH.nil
          rw [if_pos (by rfl)]
          refine oper_append_ints (.tmp 28) (.tmp 39) 25 rfl (w.heap.size + 1) 3 Tryd.underlying25 Tryd.infoInt vo O rfl (HO.out.below hb5) a5 _ c5 L rfl rfl hr5 (by have := HLE.out; omega) (Nat.le_trans hsz hb5.size) ?_
          intro v6 w6 hO6 hg6
          have hw6 : Within w5 w6 (fun k => vo.ownBlock = some k) := Within.of_grown hg6 (fun k e => e)
          have HOB : Hid (∀ k, vo.ownBlock = some k → w.heap.size + 1 ≤ k) := fun k e => (HO.out.block k e).1
          have t0 := (World.cell?_of_block (a := ⟨w.heap.size, 0, none⟩) (hw6.block w.heap.size (by have := hb5.size; omega) (fun e => by have := HOB.out _ e; omega))).trans s0
          have t1 := (World.cell?_of_block (a := ⟨b1, o1 + p * 5 + 4, none⟩) (hw6.block b1 (by have := hb5.size; omega) (fun e => by have := HOB.out _ e; omega))).trans s1
          have t2 := (World.cell?_of_block (a := ⟨b2, o2 + j, none⟩) (hw6.block b2 (by have := hb5.size; omega) (fun e => by have := HOB.out _ e; omega))).trans s2
          have HO6 : Hid (OwnInts w6 (w.heap.size + 1) 3 v6 ((ks.take (j + 1)).flatMap (leafPos ns))) := by rw [HTK.out]; exact hO6
          have HB6 : Hid (Below (w.heap.size + 1) (w.alloc (.cells #[.slice (some ⟨b1, o1, none⟩) ns.length c0] 43)) w6) := (HB.out.trans (hb5.mono (by have := HB.out.size; simpa using hsz))).grown hg6 (by have := hb5.size; omega) (fun k e => HOB.out k e)
          clear hO5 hb5 hr5 hO6 hg6 hw6 s0 s1 s2 HO HB HTK X hb5'
          refine hK.out _ _ ⟨t0, t1, t2⟩ (fun hHeld => ?_)
          clear hK K
          try simp only [Act.put, List.setIfInBounds_toArray]
          refine take_atL (i := 13) (d := some 5) (v := v6) rfl rfl (by kernel_rfl) (by kernel_rfl) (by kernel_rfl) (fun _ _ _ h => h) (by rfl) ?_ hHeld ?_
          · intro w' hSw; obtain ⟨s0, s1, s2⟩ := hSw; go_simp; first | done | rfl | (intro hbad; exfalso; omega)
          try simp only [Act.put]
          refine wpAnyH_done (by kernel_rfl) ?_ _
          clear hHeld
          go_wp2
          go_roundw
          case rel => exact ⟨j + 1, v6, by omega, by go_num, rfl, HO6, HB6⟩
          case measure => simp [intOf]; omega
        · have hj2 : j = ks.length := by omega
          have HO2 : Hid (OwnInts wA (w.heap.size + 1) 3 vo (ks.flatMap (leafPos ns))) := by
            have := HO.out
            rw [hj2, List.take_length] at this
            exact this
          clear HO HREC HRK2 p4' p0'
          go_wp2
          go_ret
          exact ⟨_, rfl, HO2.out.base (Nat.le_succ _), HBw.out⟩
end Go.Proofs.YthnppodnjokaoaaDoor
