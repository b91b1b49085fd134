/-
  Contracts and plain mathematics, joined: SpecL5Starts, SpecStarts, SpecCheck. No statement is proved here.
-/
import Derived.Test.YthnppodnjokaoaaGreatDoorG8
import Derived.Test.YthnppodnjokaoaaGreatDoorG19
import Derived.Test.YthnppodnjokaoaaGreatDoorG4
import Derived.Test.YthnppodnjokaoaaGreatDoorG5
namespace Go.Proofs.YthnppodnjokaoaaGreatDoor
open Go.RowKit

theorem OD.partsI {w : World} {base : Nat} {v : Value} {xs : List Int} {S : Nat → Prop} (h : OD w base v (slD Lay.int xs) S) : PartsI w v xs := by
  have r := h.rd
  obtain ⟨a, c, rfl, _⟩ := OD.shapeL h
  have rr := r.reads
  unfold slD at h
  generalize hd : Dat.sl xs.length (xs.flatMap Lay.int.cells) = d at h
  generalize hv : Value.slice a xs.length c = v at h
  cases h with
  | val u => cases hd
  | nil n h0 =>
    injection hv with e1 e2 e3
    subst e1
    subst e3
    have e4 : xs = [] := List.eq_nil_of_length_eq_zero e2
    subst e4
    exact .inl ⟨rfl, rfl⟩
  | row e sz g n c' cs vs F S ho hl hr hdj hg hS =>
    injection hv with e1 e2 e3
    subst e1
    subst e3
    obtain hx | ⟨g', cap, cur, he, hb, hgb, hnc, hcm, _⟩ := ho.2
    · cases hx.1
    · cases he
      refine .inr ⟨g, c, by rw [e2], by rw [e2]; exact hnc, hcm, (Array.getElem?_eq_some_iff.1 hgb).1, fun i hi => ?_⟩
      obtain ⟨b, off, e5, _, hc⟩ := rr.at hi
      cases e5
      simpa using hc i hi

set_option maxHeartbeats 8000000 in
set_option maxRecDepth 100000 in
theorem l5Starts_any (P : List (List (List Int))) (a0 : Option Addr) (c0 : Nat) (w : World) (h0 : RD w (.slice a0 P.length c0) (slD (Lay.list (Lay.list Lay.int)) P)) (hok : gramOkB P = true) :
    Calls Tryz.prog 47 #[.agg #[.slice a0 P.length c0]] w fun e w' => ∃ v S, e = .returned v ∧ OD w' w.heap.size v (slD (Lay.list Lay.int) (startsL P)) S ∧ Below w.heap.size w w' := by
  have F := Fits.of hok
  have HF : Hid (Fits P) := F
  have HSY : Hid (∀ alts ∈ P, ∀ row ∈ alts, ∀ z ∈ row, 100 ≤ z → z - 100 < P.length) := by
    intro alts h1 row h2 z h3 h4
    simp only [gramOkB, Bool.and_eq_true, List.all_eq_true, partOk, rowOk, decide_eq_true_eq] at hok
    have := symOk_true.1 (((hok.2 alts h1).2 row h2).2 z h3)
    omega
  have hp := F.parts
  have hEl := emptiesL_le F
  have B0 := (Below.refl w.heap.size w).alloc (Nat.le_refl _) (.cells #[.slice a0 P.length c0] 29)
  have HE0 : Hid (Calls Tryz.prog 64 #[.agg #[.slice a0 P.length c0]] (w.alloc (.cells #[.slice a0 P.length c0] 29)) fun e w' => ∃ v, e = .returned v ∧ OwnInts w' (w.heap.size + 1) 3 v (emptiesL P) ∧ Below (w.heap.size + 1) (w.alloc (.cells #[.slice a0 P.length c0] 29)) w') := by
    have := l5Empties_any P a0 c0 (w.alloc (.cells #[.slice a0 P.length c0] 29)) (h0.later B0) hok
    show Calls _ _ _ _ _
    simpa using this
  have HR0 : Hid (RD w (.slice a0 P.length c0) (slD (Lay.list (Lay.list Lay.int)) P)) := h0
  have HFL : Hid (startsL P = stT (emptiesL P) P (P.length + 1)) := rfl
  clear F hok h0
  generalize emptiesL P = E at *
  go_enter Tryz.func47, Tryz.ntmps47
  go_wp2_with fail
  refine HE0.out.mono ?_
  rintro e w2 ⟨vE, rfl, hOE, hb2⟩
  have hb2' : Below w.heap.size w w2 := B0.trans (hb2.mono (by omega))
  have g2 : w2.cell? ⟨w.heap.size, 0, none⟩ = some (.slice a0 P.length c0) := (hb2.cell (p := ⟨w.heap.size, 0, none⟩) (by simp)).trans (by simp)
  have hwl : w.heap.size < w2.heap.size := World.block_lt_of_cell? w2 _ g2
  obtain ⟨aE, cE, rfl, hrE, _⟩ := hOE.shape
  have HRE : Hid (Reads w2 aE E) := hrE
  have HR : Hid (RD w2 (.slice a0 P.length c0) (slD (Lay.list (Lay.list Lay.int)) P)) := HR0.out.later hb2'
  obtain ⟨W, hmk, O0, BW⟩ := make_ownL (P := Tryz.prog) w2 42 25 (.slice none 0 0) 24 [.slice none 0 0] [.sl 0 []] P.length Tryz.underlying42 Tryz.infoIntS rfl (by decide) (by omega) (by decide) (by intro u hu; simp at hu; subst hu; rfl) rfl
    (by intro W base i hi hi'; match i, hi with | 0, _ => exact .nil 0 rfl)
  rw [zero_cells (L := Lay.list Lay.int) (z := []) (zd := [.sl 0 []]) rfl] at O0
  have HO0 : Hid (∃ S, OL W w2.heap.size 25 1 (.slice (some ⟨w2.heap.size, 0, none⟩) P.length P.length) P.length ((stT E P 0).flatMap (Lay.list Lay.int).cells) S) := ⟨_, O0⟩
  have HBW : Hid (Below w2.heap.size w2 W) := BW
  clear HE0 HR0 hOE hb2 hrE O0 BW B0
  go_wp2
  clear hmk
  go_loopw [5] (fun st wr => ∃ t : Nat, t ≤ P.length + 1 ∧ st = .int .i64 t ∧ Hid (∃ S, OL wr w2.heap.size 25 1 (.slice (some ⟨w2.heap.size, 0, none⟩) P.length P.length) P.length ((stT E P t).flatMap (Lay.list Lay.int).cells) S) ∧ Below w2.heap.size w2 wr) (fun st _ => P.length + 1 - (intOf st).toNat)
  case atStart => exact ⟨0, Nat.zero_le _, rfl, HO0, HBW.out⟩
  case round =>
    obtain ⟨t, ht, rfl, HO, hbel⟩ := hrel
    clear HO0 HBW
    have g0 := (hbel.cell (p := ⟨w.heap.size, 0, none⟩) hwl).trans g2
    have hgl : w.heap.size < wr.heap.size := Nat.lt_of_lt_of_le hwl hbel.size
    by_cases hlt : t ≤ P.length
    · have HT : Hid (stT E P (t + 1) = stK E P (stT E P t) P.length) := rfl
      have HSt : Hid (Sets P.length (stT E P t)) := stT_sets E HF.out t
      generalize stT E P t = M at *
      go_wp2
      go_loopw [6] (fun sk wr => ∃ k : Nat, k ≤ P.length ∧ sk = .int .i64 k ∧ Hid (∃ S, OL wr w2.heap.size 25 1 (.slice (some ⟨w2.heap.size, 0, none⟩) P.length P.length) P.length ((stK E P M k).flatMap (Lay.list Lay.int).cells) S) ∧ Below w2.heap.size w2 wr) (fun sk _ => P.length - (intOf sk).toNat)
      case atStart => exact ⟨0, Nat.zero_le _, rfl, HO, hbel⟩
      case round =>
        obtain ⟨k, hk, rfl, HOk, hbk⟩ := hrel
        clear HO hbel g0 hgl
        have g0 := (hbk.cell (p := ⟨w.heap.size, 0, none⟩) hwl).trans g2
        have hgl : w.heap.size < wr.heap.size := Nat.lt_of_lt_of_le hwl hbk.size
        by_cases hlk : k < P.length
        · have HK : Hid (stK E P M (k + 1) = stI E k P[k] (stK E P M k) P[k].length) := stK_next hlk
          have HSk : Hid (Sets P.length (stK E P M k)) := stK_sets HSt.out HF.out k hk
          have hm := List.getElem_mem hlk
          have hQ := HF.out.alts _ hm
          have HQr : Hid (∀ row ∈ P[k], row.length ≤ 8) := HF.out.rows _ hm
          have HQs : Hid (∀ row ∈ P[k], ∀ z ∈ row, 0 ≤ z ∧ z < 120) := HF.out.syms _ hm
          have HQy : Hid (∀ row ∈ P[k], ∀ z ∈ row, 100 ≤ z → z - 100 < P.length) := HSY.out _ hm
          obtain ⟨b1, o1, rfl, hb1, a1, c1, q0', r1⟩ := HR.out.listAt hlk
          have HR1 : Hid (RD w2 (.slice a1 P[k].length c1) (slD (Lay.list Lay.int) P[k])) := r1
          have q0 := (hbk.cell (p := ⟨b1, o1 + k, none⟩) hb1).trans q0'
          clear r1 hm
          generalize stK E P M k = Mk0 at *
          generalize P[k] = Q at *
          go_wp2
          clear q0
          go_loopw [7] (fun si wr => ∃ i : Nat, i ≤ Q.length ∧ si = .int .i64 i ∧ Hid (∃ S, OL wr w2.heap.size 25 1 (.slice (some ⟨w2.heap.size, 0, none⟩) P.length P.length) P.length ((stI E k Q Mk0 i).flatMap (Lay.list Lay.int).cells) S) ∧ Below w2.heap.size w2 wr) (fun si _ => Q.length - (intOf si).toNat)
          case atStart => exact ⟨0, Nat.zero_le _, rfl, HOk, hbk⟩
          case round =>
            obtain ⟨i, hi, rfl, HOi, hbi⟩ := hrel
            clear HOk hbk g0 hgl
            have g0 := (hbi.cell (p := ⟨w.heap.size, 0, none⟩) hwl).trans g2
            have hgl : w.heap.size < wr.heap.size := Nat.lt_of_lt_of_le hwl hbi.size
            have q0 := (hbi.cell (p := ⟨b1, o1 + k, none⟩) hb1).trans q0'
            by_cases hli : i < Q.length
            · have hm := List.getElem_mem hli
              have hr8 := HQr.out _ hm
              have HRs : Hid (∀ z ∈ Q[i], 0 ≤ z ∧ z < 120) := HQs.out _ hm
              have HRy : Hid (∀ z ∈ Q[i], 100 ≤ z → z - 100 < P.length) := HQy.out _ hm
              have HSi : Hid (Sets P.length (stI E k Q Mk0 i)) := stI_sets HSk.out HQs.out i hi
              have HN : Hid (stI E k Q Mk0 (i + 1) = stRow E k (stI E k Q Mk0 i) Q[i]) := stI_next hli
              obtain ⟨b2, o2, rfl, hb2, a2, c2, q1', r2⟩ := HR1.out.listAt hli
              have q1 := (hbi.cell (p := ⟨b2, o2 + i, none⟩) hb2).trans q1'
              have HRR : Hid (Reads w2 a2 Q[i]) := r2.reads
              clear r2 q1' hm
              generalize stI E k Q Mk0 i = M1 at *
              generalize Q[i] = R at *
              go_wp2
              clear q0 q1
              go_loopw [9] (fun sj wr => ∃ (j : Nat) (M2 : List (List Int)), j ≤ R.length ∧ sj = .int .i64 j ∧ Hid (Sets P.length M2 ∧ stRow E k M1 R = stRow E k M2 (R.drop j)) ∧ Hid (∃ S, OL wr w2.heap.size 25 1 (.slice (some ⟨w2.heap.size, 0, none⟩) P.length P.length) P.length ((M2).flatMap (Lay.list Lay.int).cells) S) ∧ Below w2.heap.size w2 wr) (fun sj _ => R.length - (intOf sj).toNat)
              case atStart => exact ⟨0, M1, Nat.zero_le _, rfl, ⟨HSi.out, rfl⟩, HOi, hbi⟩
              case round =>
                obtain ⟨j, M2, hj, rfl, HM, HOj, hbj⟩ := hrel
                clear HOi hbi g0 hgl
                have g0 := (hbj.cell (p := ⟨w.heap.size, 0, none⟩) hwl).trans g2
                have hgl : w.heap.size < wr.heap.size := Nat.lt_of_lt_of_le hwl hbj.size
                by_cases hlj : j < R.length
                · obtain ⟨b3, o3, rfl, hb3, hc3⟩ := (HRR.out.below hbj).at hlj
                  have q4 := hc3 j hlj
                  rw [List.getD_eq_getElem?_getD, List.getElem?_eq_getElem hlj, Option.getD_some] at q4
                  have hz := HRs.out _ (List.getElem_mem hlj)
                  have hy := HRy.out _ (List.getElem_mem hlj)
                  have L0 : Hid (¬ 100 ≤ R[j] → stRow E k M1 R = M2) := fun g => HM.out.2.trans (stRow_letter hlj g)
                  have L1 : Hid (100 ≤ R[j] → hasL E (R[j] - 100) = true → stRow E k M1 R = stRow E k (stS k R[j] M2) (R.drop (j + 1))) := fun g g2 => HM.out.2.trans (stRow_go hlj g g2)
                  have L2 : Hid (100 ≤ R[j] → hasL E (R[j] - 100) = false → stRow E k M1 R = stS k R[j] M2) := fun g g2 => HM.out.2.trans (stRow_stop hlj g g2)
                  have HM1 : Hid (Sets P.length M2) := HM.out.1
                  clear hc3 HM
                  generalize R[j] = z at *
                  by_cases z1 : 100 ≤ z
                  · obtain ⟨n, hn⟩ : ∃ n : Nat, z - 100 = (n : Int) := ⟨(z - 100).toNat, by omega⟩
                    have hnP : n < P.length := by have := hy z1; omega
                    have hM2 : M2.length = P.length := HM1.out.1
                    have hkM : k < M2.length := by omega
                    have hnM : n < M2.length := by omega
                    have HSS : Hid (Sets P.length (stS k z M2)) := stS_sets HM1.out z1 hz.2
                    have HAT : Hid (stS k z M2 = M2.set k (joinL (addL M2[k] (n : Int)) M2[n])) := stS_at hkM hn hnM
                    obtain ⟨S, HOL⟩ := HOj.out
                    have hOD : OD wr w2.heap.size (.slice (some ⟨w2.heap.size, 0, none⟩) P.length P.length) (slD (Lay.list Lay.int) M2) S := by
                      have := HOL.od; unfold slD; rw [hM2]; exact this
                    obtain ⟨a3, c3, T3, q2, O3, _, _⟩ := hOD.listInto hkM
                    obtain ⟨a6, c6, T6, q3, O6, _, _⟩ := hOD.listInto hnM
                    have hw2r : w2.heap.size < wr.heap.size := World.block_lt_of_cell? wr _ q2
                    have hMk27 : M2[k].length ≤ 27 := (HM1.out.2 _ (List.getElem_mem hkM)).len (n := 27)
                    have hMn27 : M2[n].length ≤ 27 := (HM1.out.2 _ (List.getElem_mem hnM)).len (n := 27)
                    have hadd := addL_length_le M2[k] (n : Int)
                    have XA : Hid (∀ W : World, Below wr.heap.size wr W → Calls Tryz.prog 66 #[.slice a3 M2[k].length c3, .int .i64 (n : Int)] W fun e w' => ∃ v', e = .returned v' ∧ OwnInts w' W.heap.size 3 v' (addL M2[k] (n : Int)) ∧ Below W.heap.size W w') := fun W hW => specSetAdd_p _ M2[k] (n : Int) W (O3.later hW).partsI (by omega)
                    have YY : Hid (∀ (W : World) (a4 : Option Addr) (c4 : Nat), Below wr.heap.size wr W → Reads W a4 (addL M2[k] (n : Int)) → Calls Tryz.prog 65 #[.slice a4 (addL M2[k] (n : Int)).length c4, .slice a6 M2[n].length c6] W fun e w' => ∃ v', e = .returned v' ∧ OwnInts w' W.heap.size 3 v' (joinL (addL M2[k] (n : Int)) M2[n]) ∧ Below W.heap.size W w') := fun W a4 c4 hW hr => specSetJoin_r a4 c4 a6 c6 _ _ W hr ((O6.rd.later hW).reads) (by omega) (by omega)
                    have HPUT : Hid (∀ (W : World) (v : Value), Below wr.heap.size wr W → OwnInts W wr.heap.size 3 v (joinL (addL M2[k] (n : Int)) M2[n]) → ∃ S', OL (W.setCell ⟨w2.heap.size, k, none⟩ v) w2.heap.size 25 1 (.slice (some ⟨w2.heap.size, 0, none⟩) P.length P.length) P.length ((stS k z M2).flatMap (Lay.list Lay.int).cells) S' ∧ W.frozen? ⟨w2.heap.size, k, none⟩ = false ∧ ∃ z, W.cell? ⟨w2.heap.size, k, none⟩ = some z) := by
                      intro W v hW hO
                      obtain ⟨S', h1, _, _, _, h5, h6⟩ := (HOL.later hW).putList hkM v (joinL (addL M2[k] (n : Int)) M2[n]) _ ((hO.od).base (by omega)) (fun x hx hx2 => by
                        have l1 := (hO.od.lt x hx).1; have l2 := (HOL.lt x hx2).2; omega)
                      refine ⟨S', ?_, h6, h5⟩
                      rw [HAT.out]
                      exact h1
                    have XH : Hid (∀ W : World, Below w2.heap.size w2 W → Calls Tryz.prog 48 #[.slice aE E.length cE, .int .i64 (n : Int)] W fun e w' => e = .returned (.bool (hasL E n)) ∧ w' = W) := fun W hW => specSetHas_same aE cE E (n : Int) W (HRE.out.below hW) (by omega)
                    have L1' := L1.out z1
                    have L2' := L2.out z1
                    rw [hn] at L1' L2'
                    have L3 : Hid (hasL E (n : Int) = true → stRow E k M1 R = stRow E k (stS k z M2) (R.drop (j + 1))) := L1'
                    have L4 : Hid (hasL E (n : Int) = false → stRow E k M1 R = stS k z M2) := L2'
                    clear HOj HOL hOD O3 O6 HM1 L0 L1 L2 L1' L2' HAT hy hM2
                    generalize joinL (addL M2[k] (n : Int)) M2[n] = jn at *
                    generalize addL M2[k] (n : Int) = ad at *
                    generalize M2[k] = Mk at *
                    generalize M2[n] = Mn at *
                    by_cases z3 : hasL E (n : Int) = true
                    · have HE6 : Hid (Sets P.length (stS k z M2) ∧ stRow E k M1 R = stRow E k (stS k z M2) (R.drop (j + 1))) := ⟨HSS.out, L3.out z3⟩
                      clear L3 L4 HSS
                      go_wp2
                      refine wp_region_held_drew (S := (fun w' => w'.cell? ⟨w.heap.size, 0, none⟩ = some (.slice (some ⟨b1, o1, none⟩) P.length c0) ∧ True)) (by kernel_rfl) ⟨g0, trivial⟩ (fun hHeld => ?_)
                      refine take_atL (i := 0) (d := some 67) (v := .slice (some ⟨w2.heap.size, 0, none⟩) P.length P.length) rfl rfl (by kernel_rfl) (by kernel_rfl) (by kernel_rfl) (fun _ _ _ h => h) (by rfl) ?_ hHeld ?_
                      · intro w' hSw; obtain ⟨s0, _⟩ := hSw; go_simp; try rfl
                      try simp only [Act.put, List.setIfInBounds_toArray, List.set_cons_zero, List.set_cons_succ]
                      refine take_atL (i := 1) (d := some 68) (v := .int .i64 (k : Int)) rfl rfl (by kernel_rfl) (by kernel_rfl) (by kernel_rfl) (fun _ _ _ h => h) (by rfl) ?_ hHeld ?_
                      · intro w' hSw; obtain ⟨s0, _⟩ := hSw; go_simp; try rfl
                      try simp only [Act.put, List.setIfInBounds_toArray, List.set_cons_zero, List.set_cons_succ]
                      refine take_atL (i := 2) (d := some 69) (v := .slice (some ⟨w2.heap.size, 0, none⟩) P.length P.length) rfl rfl (by kernel_rfl) (by kernel_rfl) (by kernel_rfl) (fun _ _ _ h => h) (by rfl) ?_ hHeld ?_
                      · intro w' hSw; obtain ⟨s0, _⟩ := hSw; go_simp; try rfl
                      try simp only [Act.put, List.setIfInBounds_toArray, List.set_cons_zero, List.set_cons_succ]
                      refine take_atL (i := 3) (d := some 70) (v := .int .i64 (k : Int)) rfl rfl (by kernel_rfl) (by kernel_rfl) (by kernel_rfl) (fun _ _ _ h => h) (by rfl) ?_ hHeld ?_
                      · intro w' hSw; obtain ⟨s0, _⟩ := hSw; go_simp; try rfl
                      try simp only [Act.put, List.setIfInBounds_toArray, List.set_cons_zero, List.set_cons_succ]
                      refine take_atL (i := 4) (d := some 71) (v := .pointer (some ⟨w2.heap.size, k, none⟩)) rfl rfl (by kernel_rfl) (by kernel_rfl) (by kernel_rfl) (fun _ _ _ h => h) (by rfl) ?_ hHeld ?_
                      · intro w' hSw; obtain ⟨s0, _⟩ := hSw; go_simp; try rfl
                      try simp only [Act.put, List.setIfInBounds_toArray, List.set_cons_zero, List.set_cons_succ]
                      refine take_atL (i := 6) (d := some 73) (v := .int .i64 (n : Int)) rfl rfl (by kernel_rfl) (by kernel_rfl) (by kernel_rfl) (fun _ _ _ h => h) (by rfl) ?_ hHeld ?_
                      · intro w' hSw; obtain ⟨s0, _⟩ := hSw; go_simp; try rfl
                      try simp only [Act.put, List.setIfInBounds_toArray, List.set_cons_zero, List.set_cons_succ]
                      refine take_atL (i := 8) (d := some 75) (v := .slice (some ⟨w2.heap.size, 0, none⟩) P.length P.length) rfl rfl (by kernel_rfl) (by kernel_rfl) (by kernel_rfl) (fun _ _ _ h => h) (by rfl) ?_ hHeld ?_
                      · intro w' hSw; obtain ⟨s0, _⟩ := hSw; go_simp; try rfl
                      try simp only [Act.put, List.setIfInBounds_toArray, List.set_cons_zero, List.set_cons_succ]
                      refine take_atL (i := 9) (d := some 76) (v := .int .i64 (n : Int)) rfl rfl (by kernel_rfl) (by kernel_rfl) (by kernel_rfl) (fun _ _ _ h => h) (by rfl) ?_ hHeld ?_
                      · intro w' hSw; obtain ⟨s0, _⟩ := hSw; go_simp; try rfl
                      try simp only [Act.put, List.setIfInBounds_toArray, List.set_cons_zero, List.set_cons_succ]
                      refine take_atL (i := 10) (d := some 77) (v := .pointer (some ⟨w2.heap.size, n, none⟩)) rfl rfl (by kernel_rfl) (by kernel_rfl) (by kernel_rfl) (fun _ _ _ h => h) (by rfl) ?_ hHeld ?_
                      · intro w' hSw; obtain ⟨s0, _⟩ := hSw; go_simp; try rfl
                      try simp only [Act.put, List.setIfInBounds_toArray, List.set_cons_zero, List.set_cons_succ]
                      refine wpAnyH_ready (rs := [5, 11]) (by kernel_rfl) (by simp) ?_
                      refine AllReadyH.cons (o := _) rfl (fun K hK => ?_) (AllReadyH.cons (o := _) rfl (fun K hK => ?_) AllReadyH.nil)
                      · rw [if_pos (by rfl)]
                        go_simp
                        refine hK.out _ _ hHeld (fun hHeld => ?_)
                        clear hK K
                        try simp only [Act.put, List.setIfInBounds_toArray, List.set_cons_zero, List.set_cons_succ]
                        refine wpAnyH_ready (rs := [7, 11]) (by kernel_rfl) (by simp) ?_
                        refine AllReadyH.cons (o := _) rfl (fun K hK => ?_) (AllReadyH.cons (o := _) rfl (fun K hK => ?_) AllReadyH.nil)
                        · rw [if_pos (by rfl)]
                          go_simp
                          refine (XA.out _ (Below.drew (Below.refl _ _))).mono ?_
                          rintro e w3 ⟨v3, rfl, hO3, hb3⟩
                          obtain ⟨a4, c4, rfl, hr4, _⟩ := hO3.shape
                          have hb3r : Below wr.heap.size wr w3 := Below.drewed (by simpa using hb3)
                          have g03 := (hb3r.cell (p := ⟨w.heap.size, 0, none⟩) hgl).trans g0
                          have q23 := (hb3r.cell (p := ⟨w2.heap.size, k, none⟩) hw2r).trans q2
                          have q33 := (hb3r.cell (p := ⟨w2.heap.size, n, none⟩) hw2r).trans q3
                          have Y := YY.out w3 a4 c4 hb3r hr4
                          clear XA hO3 hr4 hb3 YY hHeld
                          go_wp2_with fail
                          refine hK.out _ _ ⟨g03, trivial⟩ (fun hHeld => ?_)
                          clear hK K
                          try simp only [Act.put, List.setIfInBounds_toArray, List.set_cons_zero, List.set_cons_succ]
                          refine wpAnyH_ready (rs := [11]) (by kernel_rfl) (by simp) ?_
                          refine AllReadyH.cons (o := _) rfl (fun K hK => ?_) AllReadyH.nil
                          rw [if_pos (by rfl)]
                          go_simp
                          refine hK.out _ _ hHeld (fun hHeld => ?_)
                          clear hK K
                          try simp only [Act.put, List.setIfInBounds_toArray, List.set_cons_zero, List.set_cons_succ]
                          refine wpAnyH_ready (rs := [12]) (by kernel_rfl) (by simp) ?_
                          refine AllReadyH.cons (o := _) rfl (fun K hK => ?_) AllReadyH.nil
                          rw [if_pos (by rfl)]
                          go_simp
                          refine Y.mono ?_
                          rintro e w4 ⟨v4, rfl, hO4, hb4⟩
                          have hb4r : Below wr.heap.size wr w4 := hb3r.trans (hb4.mono hb3r.size)
                          have g04 := (hb4r.cell (p := ⟨w.heap.size, 0, none⟩) hgl).trans g0
                          obtain ⟨S5, HO5, hf5, z5, hz5⟩ := HPUT.out w4 v4 hb4r (hO4.base hb3r.size)
                          obtain ⟨a5, c5, rfl, _, _⟩ := hO4.shape
                          have HE5 : Hid (∃ S, OL (w4.setCell ⟨w2.heap.size, k, none⟩ (.slice a5 jn.length c5)) w2.heap.size 25 1 (.slice (some ⟨w2.heap.size, 0, none⟩) P.length P.length) P.length ((stS k z M2).flatMap (Lay.list Lay.int).cells) S) := ⟨S5, HO5⟩
                          have HB5 : Hid (Below w2.heap.size w2 (w4.setCell ⟨w2.heap.size, k, none⟩ (.slice a5 jn.length c5))) := (hbj.trans (hb4r.mono hbj.size)).setCell (p := ⟨w2.heap.size, k, none⟩) (Nat.le_refl _) _
                          clear Y g03 q23 q33 HPUT HO5 hO4 hHeld
                          go_wp2_with fail
                          refine hK.out _ _ ⟨g04, trivial⟩ (fun hHeld => ?_)
                          clear hK K
                          try simp only [Act.put, List.setIfInBounds_toArray, List.set_cons_zero, List.set_cons_succ]
                          refine take_atL (i := 13) (d := some 80) (v := .pointer (some ⟨w2.heap.size, k, none⟩)) rfl rfl (by kernel_rfl) (by kernel_rfl) (by kernel_rfl) (fun _ _ _ h => h) (by rfl) ?_ hHeld ?_
                          · intro w' hSw; obtain ⟨s0, _⟩ := hSw; go_simp; try rfl
                          try simp only [Act.put, List.setIfInBounds_toArray, List.set_cons_zero, List.set_cons_succ]
                          refine wpAnyH_ready (rs := [14]) (by kernel_rfl) (by simp) ?_
                          refine AllReadyH.cons (o := _) rfl (fun K hK => ?_) AllReadyH.nil
                          rw [if_pos (by rfl)]
                          go_simp
                          refine hK.out _ _ ⟨by rw [World.cell?_setCell_far _ _ _ _ (by show w2.heap.size ≠ w.heap.size; omega)]; exact g04, trivial⟩ (fun hHeld => ?_)
                          clear hK K
                          try simp only [Act.put, List.setIfInBounds_toArray, List.set_cons_zero, List.set_cons_succ]
                          refine wpAnyH_done (by kernel_rfl) ?_ _
                          clear hHeld g04 hf5 hz5 q2 q3
                          go_wp2_with (go_at_call 48; refine (XH.out _ HB5.out).mono ?_; rintro e w6 ⟨rfl, rfl⟩)
                          go_roundw
                          case rel => exact ⟨j + 1, stS k z M2, by omega, by go_num, HE6, HE5, HB5.out⟩
                          case measure => simp [intOf]; omega
                        · rw [if_pos (by rfl)]
                          go_simp
                          refine hK.out _ _ hHeld (fun hHeld => ?_)
                          clear hK K
                          try simp only [Act.put, List.setIfInBounds_toArray, List.set_cons_zero, List.set_cons_succ]
                          refine wpAnyH_ready (rs := [7]) (by kernel_rfl) (by simp) ?_
                          refine AllReadyH.cons (o := _) rfl (fun K hK => ?_) AllReadyH.nil
                          rw [if_pos (by rfl)]
                          go_simp
                          refine (XA.out _ (Below.drew (Below.refl _ _))).mono ?_
                          rintro e w3 ⟨v3, rfl, hO3, hb3⟩
                          obtain ⟨a4, c4, rfl, hr4, _⟩ := hO3.shape
                          have hb3r : Below wr.heap.size wr w3 := Below.drewed (by simpa using hb3)
                          have g03 := (hb3r.cell (p := ⟨w.heap.size, 0, none⟩) hgl).trans g0
                          have q23 := (hb3r.cell (p := ⟨w2.heap.size, k, none⟩) hw2r).trans q2
                          have q33 := (hb3r.cell (p := ⟨w2.heap.size, n, none⟩) hw2r).trans q3
                          have Y := YY.out w3 a4 c4 hb3r hr4
                          clear XA hO3 hr4 hb3 YY hHeld
                          go_wp2_with fail
                          refine hK.out _ _ ⟨g03, trivial⟩ (fun hHeld => ?_)
                          clear hK K
                          try simp only [Act.put, List.setIfInBounds_toArray, List.set_cons_zero, List.set_cons_succ]
                          refine wpAnyH_ready (rs := [12]) (by kernel_rfl) (by simp) ?_
                          refine AllReadyH.cons (o := _) rfl (fun K hK => ?_) AllReadyH.nil
                          rw [if_pos (by rfl)]
                          go_simp
                          refine Y.mono ?_
                          rintro e w4 ⟨v4, rfl, hO4, hb4⟩
                          have hb4r : Below wr.heap.size wr w4 := hb3r.trans (hb4.mono hb3r.size)
                          have g04 := (hb4r.cell (p := ⟨w.heap.size, 0, none⟩) hgl).trans g0
                          obtain ⟨S5, HO5, hf5, z5, hz5⟩ := HPUT.out w4 v4 hb4r (hO4.base hb3r.size)
                          obtain ⟨a5, c5, rfl, _, _⟩ := hO4.shape
                          have HE5 : Hid (∃ S, OL (w4.setCell ⟨w2.heap.size, k, none⟩ (.slice a5 jn.length c5)) w2.heap.size 25 1 (.slice (some ⟨w2.heap.size, 0, none⟩) P.length P.length) P.length ((stS k z M2).flatMap (Lay.list Lay.int).cells) S) := ⟨S5, HO5⟩
                          have HB5 : Hid (Below w2.heap.size w2 (w4.setCell ⟨w2.heap.size, k, none⟩ (.slice a5 jn.length c5))) := (hbj.trans (hb4r.mono hbj.size)).setCell (p := ⟨w2.heap.size, k, none⟩) (Nat.le_refl _) _
                          clear Y g03 q23 q33 HPUT HO5 hO4 hHeld
                          go_wp2_with fail
                          refine hK.out _ _ ⟨g04, trivial⟩ (fun hHeld => ?_)
                          clear hK K
                          try simp only [Act.put, List.setIfInBounds_toArray, List.set_cons_zero, List.set_cons_succ]
                          refine take_atL (i := 13) (d := some 80) (v := .pointer (some ⟨w2.heap.size, k, none⟩)) rfl rfl (by kernel_rfl) (by kernel_rfl) (by kernel_rfl) (fun _ _ _ h => h) (by rfl) ?_ hHeld ?_
                          · intro w' hSw; obtain ⟨s0, _⟩ := hSw; go_simp; try rfl
                          try simp only [Act.put, List.setIfInBounds_toArray, List.set_cons_zero, List.set_cons_succ]
                          refine wpAnyH_ready (rs := [14]) (by kernel_rfl) (by simp) ?_
                          refine AllReadyH.cons (o := _) rfl (fun K hK => ?_) AllReadyH.nil
                          rw [if_pos (by rfl)]
                          go_simp
                          refine hK.out _ _ ⟨by rw [World.cell?_setCell_far _ _ _ _ (by show w2.heap.size ≠ w.heap.size; omega)]; exact g04, trivial⟩ (fun hHeld => ?_)
                          clear hK K
                          try simp only [Act.put, List.setIfInBounds_toArray, List.set_cons_zero, List.set_cons_succ]
                          refine wpAnyH_done (by kernel_rfl) ?_ _
                          clear hHeld g04 hf5 hz5 q2 q3
                          go_wp2_with (go_at_call 48; refine (XH.out _ HB5.out).mono ?_; rintro e w6 ⟨rfl, rfl⟩)
                          go_roundw
                          case rel => exact ⟨j + 1, stS k z M2, by omega, by go_num, HE6, HE5, HB5.out⟩
                          case measure => simp [intOf]; omega
                      · rw [if_pos (by rfl)]
                        go_simp
                        refine hK.out _ _ hHeld (fun hHeld => ?_)
                        clear hK K
                        try simp only [Act.put, List.setIfInBounds_toArray, List.set_cons_zero, List.set_cons_succ]
                        refine wpAnyH_ready (rs := [5]) (by kernel_rfl) (by simp) ?_
                        refine AllReadyH.cons (o := _) rfl (fun K hK => ?_) AllReadyH.nil
                        rw [if_pos (by rfl)]
                        go_simp
                        refine hK.out _ _ hHeld (fun hHeld => ?_)
                        clear hK K
                        try simp only [Act.put, List.setIfInBounds_toArray, List.set_cons_zero, List.set_cons_succ]
                        refine wpAnyH_ready (rs := [7]) (by kernel_rfl) (by simp) ?_
                        refine AllReadyH.cons (o := _) rfl (fun K hK => ?_) AllReadyH.nil
                        rw [if_pos (by rfl)]
                        go_simp
                        refine (XA.out _ (Below.drew (Below.refl _ _))).mono ?_
                        rintro e w3 ⟨v3, rfl, hO3, hb3⟩
                        obtain ⟨a4, c4, rfl, hr4, _⟩ := hO3.shape
                        have hb3r : Below wr.heap.size wr w3 := Below.drewed (by simpa using hb3)
                        have g03 := (hb3r.cell (p := ⟨w.heap.size, 0, none⟩) hgl).trans g0
                        have q23 := (hb3r.cell (p := ⟨w2.heap.size, k, none⟩) hw2r).trans q2
                        have q33 := (hb3r.cell (p := ⟨w2.heap.size, n, none⟩) hw2r).trans q3
                        have Y := YY.out w3 a4 c4 hb3r hr4
                        clear XA hO3 hr4 hb3 YY hHeld
                        go_wp2_with fail
                        refine hK.out _ _ ⟨g03, trivial⟩ (fun hHeld => ?_)
                        clear hK K
                        try simp only [Act.put, List.setIfInBounds_toArray, List.set_cons_zero, List.set_cons_succ]
                        refine wpAnyH_ready (rs := [12]) (by kernel_rfl) (by simp) ?_
                        refine AllReadyH.cons (o := _) rfl (fun K hK => ?_) AllReadyH.nil
                        rw [if_pos (by rfl)]
                        go_simp
                        refine Y.mono ?_
                        rintro e w4 ⟨v4, rfl, hO4, hb4⟩
                        have hb4r : Below wr.heap.size wr w4 := hb3r.trans (hb4.mono hb3r.size)
                        have g04 := (hb4r.cell (p := ⟨w.heap.size, 0, none⟩) hgl).trans g0
                        obtain ⟨S5, HO5, hf5, z5, hz5⟩ := HPUT.out w4 v4 hb4r (hO4.base hb3r.size)
                        obtain ⟨a5, c5, rfl, _, _⟩ := hO4.shape
                        have HE5 : Hid (∃ S, OL (w4.setCell ⟨w2.heap.size, k, none⟩ (.slice a5 jn.length c5)) w2.heap.size 25 1 (.slice (some ⟨w2.heap.size, 0, none⟩) P.length P.length) P.length ((stS k z M2).flatMap (Lay.list Lay.int).cells) S) := ⟨S5, HO5⟩
                        have HB5 : Hid (Below w2.heap.size w2 (w4.setCell ⟨w2.heap.size, k, none⟩ (.slice a5 jn.length c5))) := (hbj.trans (hb4r.mono hbj.size)).setCell (p := ⟨w2.heap.size, k, none⟩) (Nat.le_refl _) _
                        clear Y g03 q23 q33 HPUT HO5 hO4 hHeld
                        go_wp2_with fail
                        refine hK.out _ _ ⟨g04, trivial⟩ (fun hHeld => ?_)
                        clear hK K
                        try simp only [Act.put, List.setIfInBounds_toArray, List.set_cons_zero, List.set_cons_succ]
                        refine take_atL (i := 13) (d := some 80) (v := .pointer (some ⟨w2.heap.size, k, none⟩)) rfl rfl (by kernel_rfl) (by kernel_rfl) (by kernel_rfl) (fun _ _ _ h => h) (by rfl) ?_ hHeld ?_
                        · intro w' hSw; obtain ⟨s0, _⟩ := hSw; go_simp; try rfl
                        try simp only [Act.put, List.setIfInBounds_toArray, List.set_cons_zero, List.set_cons_succ]
                        refine wpAnyH_ready (rs := [14]) (by kernel_rfl) (by simp) ?_
                        refine AllReadyH.cons (o := _) rfl (fun K hK => ?_) AllReadyH.nil
                        rw [if_pos (by rfl)]
                        go_simp
                        refine hK.out _ _ ⟨by rw [World.cell?_setCell_far _ _ _ _ (by show w2.heap.size ≠ w.heap.size; omega)]; exact g04, trivial⟩ (fun hHeld => ?_)
                        clear hK K
                        try simp only [Act.put, List.setIfInBounds_toArray, List.set_cons_zero, List.set_cons_succ]
                        refine wpAnyH_done (by kernel_rfl) ?_ _
                        clear hHeld g04 hf5 hz5 q2 q3
                        go_wp2_with (go_at_call 48; refine (XH.out _ HB5.out).mono ?_; rintro e w6 ⟨rfl, rfl⟩)
                        go_roundw
                        case rel => exact ⟨j + 1, stS k z M2, by omega, by go_num, HE6, HE5, HB5.out⟩
                        case measure => simp [intOf]; omega
                    · have z3' : hasL E (n : Int) = false := by simpa using z3
                      have HNx : Hid (stI E k Q Mk0 (i + 1) = stS k z M2) := HN.out.trans (L4.out z3')
                      clear L3 L4 HSS z3
                      go_wp2
                      refine wp_region_held_drew (S := (fun w' => w'.cell? ⟨w.heap.size, 0, none⟩ = some (.slice (some ⟨b1, o1, none⟩) P.length c0) ∧ True)) (by kernel_rfl) ⟨g0, trivial⟩ (fun hHeld => ?_)
                      refine take_atL (i := 0) (d := some 67) (v := .slice (some ⟨w2.heap.size, 0, none⟩) P.length P.length) rfl rfl (by kernel_rfl) (by kernel_rfl) (by kernel_rfl) (fun _ _ _ h => h) (by rfl) ?_ hHeld ?_
                      · intro w' hSw; obtain ⟨s0, _⟩ := hSw; go_simp; try rfl
                      try simp only [Act.put, List.setIfInBounds_toArray, List.set_cons_zero, List.set_cons_succ]
                      refine take_atL (i := 1) (d := some 68) (v := .int .i64 (k : Int)) rfl rfl (by kernel_rfl) (by kernel_rfl) (by kernel_rfl) (fun _ _ _ h => h) (by rfl) ?_ hHeld ?_
                      · intro w' hSw; obtain ⟨s0, _⟩ := hSw; go_simp; try rfl
                      try simp only [Act.put, List.setIfInBounds_toArray, List.set_cons_zero, List.set_cons_succ]
                      refine take_atL (i := 2) (d := some 69) (v := .slice (some ⟨w2.heap.size, 0, none⟩) P.length P.length) rfl rfl (by kernel_rfl) (by kernel_rfl) (by kernel_rfl) (fun _ _ _ h => h) (by rfl) ?_ hHeld ?_
                      · intro w' hSw; obtain ⟨s0, _⟩ := hSw; go_simp; try rfl
                      try simp only [Act.put, List.setIfInBounds_toArray, List.set_cons_zero, List.set_cons_succ]
                      refine take_atL (i := 3) (d := some 70) (v := .int .i64 (k : Int)) rfl rfl (by kernel_rfl) (by kernel_rfl) (by kernel_rfl) (fun _ _ _ h => h) (by rfl) ?_ hHeld ?_
                      · intro w' hSw; obtain ⟨s0, _⟩ := hSw; go_simp; try rfl
                      try simp only [Act.put, List.setIfInBounds_toArray, List.set_cons_zero, List.set_cons_succ]
                      refine take_atL (i := 4) (d := some 71) (v := .pointer (some ⟨w2.heap.size, k, none⟩)) rfl rfl (by kernel_rfl) (by kernel_rfl) (by kernel_rfl) (fun _ _ _ h => h) (by rfl) ?_ hHeld ?_
                      · intro w' hSw; obtain ⟨s0, _⟩ := hSw; go_simp; try rfl
                      try simp only [Act.put, List.setIfInBounds_toArray, List.set_cons_zero, List.set_cons_succ]
                      refine take_atL (i := 6) (d := some 73) (v := .int .i64 (n : Int)) rfl rfl (by kernel_rfl) (by kernel_rfl) (by kernel_rfl) (fun _ _ _ h => h) (by rfl) ?_ hHeld ?_
                      · intro w' hSw; obtain ⟨s0, _⟩ := hSw; go_simp; try rfl
                      try simp only [Act.put, List.setIfInBounds_toArray, List.set_cons_zero, List.set_cons_succ]
                      refine take_atL (i := 8) (d := some 75) (v := .slice (some ⟨w2.heap.size, 0, none⟩) P.length P.length) rfl rfl (by kernel_rfl) (by kernel_rfl) (by kernel_rfl) (fun _ _ _ h => h) (by rfl) ?_ hHeld ?_
                      · intro w' hSw; obtain ⟨s0, _⟩ := hSw; go_simp; try rfl
                      try simp only [Act.put, List.setIfInBounds_toArray, List.set_cons_zero, List.set_cons_succ]
                      refine take_atL (i := 9) (d := some 76) (v := .int .i64 (n : Int)) rfl rfl (by kernel_rfl) (by kernel_rfl) (by kernel_rfl) (fun _ _ _ h => h) (by rfl) ?_ hHeld ?_
                      · intro w' hSw; obtain ⟨s0, _⟩ := hSw; go_simp; try rfl
                      try simp only [Act.put, List.setIfInBounds_toArray, List.set_cons_zero, List.set_cons_succ]
                      refine take_atL (i := 10) (d := some 77) (v := .pointer (some ⟨w2.heap.size, n, none⟩)) rfl rfl (by kernel_rfl) (by kernel_rfl) (by kernel_rfl) (fun _ _ _ h => h) (by rfl) ?_ hHeld ?_
                      · intro w' hSw; obtain ⟨s0, _⟩ := hSw; go_simp; try rfl
                      try simp only [Act.put, List.setIfInBounds_toArray, List.set_cons_zero, List.set_cons_succ]
                      refine wpAnyH_ready (rs := [5, 11]) (by kernel_rfl) (by simp) ?_
                      refine AllReadyH.cons (o := _) rfl (fun K hK => ?_) (AllReadyH.cons (o := _) rfl (fun K hK => ?_) AllReadyH.nil)
                      · rw [if_pos (by rfl)]
                        go_simp
                        refine hK.out _ _ hHeld (fun hHeld => ?_)
                        clear hK K
                        try simp only [Act.put, List.setIfInBounds_toArray, List.set_cons_zero, List.set_cons_succ]
                        refine wpAnyH_ready (rs := [7, 11]) (by kernel_rfl) (by simp) ?_
                        refine AllReadyH.cons (o := _) rfl (fun K hK => ?_) (AllReadyH.cons (o := _) rfl (fun K hK => ?_) AllReadyH.nil)
                        · rw [if_pos (by rfl)]
                          go_simp
                          refine (XA.out _ (Below.drew (Below.refl _ _))).mono ?_
                          rintro e w3 ⟨v3, rfl, hO3, hb3⟩
                          obtain ⟨a4, c4, rfl, hr4, _⟩ := hO3.shape
                          have hb3r : Below wr.heap.size wr w3 := Below.drewed (by simpa using hb3)
                          have g03 := (hb3r.cell (p := ⟨w.heap.size, 0, none⟩) hgl).trans g0
                          have q23 := (hb3r.cell (p := ⟨w2.heap.size, k, none⟩) hw2r).trans q2
                          have q33 := (hb3r.cell (p := ⟨w2.heap.size, n, none⟩) hw2r).trans q3
                          have Y := YY.out w3 a4 c4 hb3r hr4
                          clear XA hO3 hr4 hb3 YY hHeld
                          go_wp2_with fail
                          refine hK.out _ _ ⟨g03, trivial⟩ (fun hHeld => ?_)
                          clear hK K
                          try simp only [Act.put, List.setIfInBounds_toArray, List.set_cons_zero, List.set_cons_succ]
                          refine wpAnyH_ready (rs := [11]) (by kernel_rfl) (by simp) ?_
                          refine AllReadyH.cons (o := _) rfl (fun K hK => ?_) AllReadyH.nil
                          rw [if_pos (by rfl)]
                          go_simp
                          refine hK.out _ _ hHeld (fun hHeld => ?_)
                          clear hK K
                          try simp only [Act.put, List.setIfInBounds_toArray, List.set_cons_zero, List.set_cons_succ]
                          refine wpAnyH_ready (rs := [12]) (by kernel_rfl) (by simp) ?_
                          refine AllReadyH.cons (o := _) rfl (fun K hK => ?_) AllReadyH.nil
                          rw [if_pos (by rfl)]
                          go_simp
                          refine Y.mono ?_
                          rintro e w4 ⟨v4, rfl, hO4, hb4⟩
                          have hb4r : Below wr.heap.size wr w4 := hb3r.trans (hb4.mono hb3r.size)
                          have g04 := (hb4r.cell (p := ⟨w.heap.size, 0, none⟩) hgl).trans g0
                          obtain ⟨S5, HO5, hf5, z5, hz5⟩ := HPUT.out w4 v4 hb4r (hO4.base hb3r.size)
                          obtain ⟨a5, c5, rfl, _, _⟩ := hO4.shape
                          have HE5 : Hid (∃ S, OL (w4.setCell ⟨w2.heap.size, k, none⟩ (.slice a5 jn.length c5)) w2.heap.size 25 1 (.slice (some ⟨w2.heap.size, 0, none⟩) P.length P.length) P.length ((stS k z M2).flatMap (Lay.list Lay.int).cells) S) := ⟨S5, HO5⟩
                          have HB5 : Hid (Below w2.heap.size w2 (w4.setCell ⟨w2.heap.size, k, none⟩ (.slice a5 jn.length c5))) := (hbj.trans (hb4r.mono hbj.size)).setCell (p := ⟨w2.heap.size, k, none⟩) (Nat.le_refl _) _
                          clear Y g03 q23 q33 HPUT HO5 hO4 hHeld
                          go_wp2_with fail
                          refine hK.out _ _ ⟨g04, trivial⟩ (fun hHeld => ?_)
                          clear hK K
                          try simp only [Act.put, List.setIfInBounds_toArray, List.set_cons_zero, List.set_cons_succ]
                          refine take_atL (i := 13) (d := some 80) (v := .pointer (some ⟨w2.heap.size, k, none⟩)) rfl rfl (by kernel_rfl) (by kernel_rfl) (by kernel_rfl) (fun _ _ _ h => h) (by rfl) ?_ hHeld ?_
                          · intro w' hSw; obtain ⟨s0, _⟩ := hSw; go_simp; try rfl
                          try simp only [Act.put, List.setIfInBounds_toArray, List.set_cons_zero, List.set_cons_succ]
                          refine wpAnyH_ready (rs := [14]) (by kernel_rfl) (by simp) ?_
                          refine AllReadyH.cons (o := _) rfl (fun K hK => ?_) AllReadyH.nil
                          rw [if_pos (by rfl)]
                          go_simp
                          refine hK.out _ _ ⟨by rw [World.cell?_setCell_far _ _ _ _ (by show w2.heap.size ≠ w.heap.size; omega)]; exact g04, trivial⟩ (fun hHeld => ?_)
                          clear hK K
                          try simp only [Act.put, List.setIfInBounds_toArray, List.set_cons_zero, List.set_cons_succ]
                          refine wpAnyH_done (by kernel_rfl) ?_ _
                          clear hHeld g04 hf5 hz5 q2 q3
                          go_wp2_with (go_at_call 48; refine (XH.out _ HB5.out).mono ?_; rintro e w6 ⟨rfl, rfl⟩)
                          go_roundw
                          case rel => exact ⟨i + 1, by omega, by go_num, by rw [HNx.out]; exact HE5, HB5.out⟩
                          case measure => simp [intOf]; omega
                        · rw [if_pos (by rfl)]
                          go_simp
                          refine hK.out _ _ hHeld (fun hHeld => ?_)
                          clear hK K
                          try simp only [Act.put, List.setIfInBounds_toArray, List.set_cons_zero, List.set_cons_succ]
                          refine wpAnyH_ready (rs := [7]) (by kernel_rfl) (by simp) ?_
                          refine AllReadyH.cons (o := _) rfl (fun K hK => ?_) AllReadyH.nil
                          rw [if_pos (by rfl)]
                          go_simp
                          refine (XA.out _ (Below.drew (Below.refl _ _))).mono ?_
                          rintro e w3 ⟨v3, rfl, hO3, hb3⟩
                          obtain ⟨a4, c4, rfl, hr4, _⟩ := hO3.shape
                          have hb3r : Below wr.heap.size wr w3 := Below.drewed (by simpa using hb3)
                          have g03 := (hb3r.cell (p := ⟨w.heap.size, 0, none⟩) hgl).trans g0
                          have q23 := (hb3r.cell (p := ⟨w2.heap.size, k, none⟩) hw2r).trans q2
                          have q33 := (hb3r.cell (p := ⟨w2.heap.size, n, none⟩) hw2r).trans q3
                          have Y := YY.out w3 a4 c4 hb3r hr4
                          clear XA hO3 hr4 hb3 YY hHeld
                          go_wp2_with fail
                          refine hK.out _ _ ⟨g03, trivial⟩ (fun hHeld => ?_)
                          clear hK K
                          try simp only [Act.put, List.setIfInBounds_toArray, List.set_cons_zero, List.set_cons_succ]
                          refine wpAnyH_ready (rs := [12]) (by kernel_rfl) (by simp) ?_
                          refine AllReadyH.cons (o := _) rfl (fun K hK => ?_) AllReadyH.nil
                          rw [if_pos (by rfl)]
                          go_simp
                          refine Y.mono ?_
                          rintro e w4 ⟨v4, rfl, hO4, hb4⟩
                          have hb4r : Below wr.heap.size wr w4 := hb3r.trans (hb4.mono hb3r.size)
                          have g04 := (hb4r.cell (p := ⟨w.heap.size, 0, none⟩) hgl).trans g0
                          obtain ⟨S5, HO5, hf5, z5, hz5⟩ := HPUT.out w4 v4 hb4r (hO4.base hb3r.size)
                          obtain ⟨a5, c5, rfl, _, _⟩ := hO4.shape
                          have HE5 : Hid (∃ S, OL (w4.setCell ⟨w2.heap.size, k, none⟩ (.slice a5 jn.length c5)) w2.heap.size 25 1 (.slice (some ⟨w2.heap.size, 0, none⟩) P.length P.length) P.length ((stS k z M2).flatMap (Lay.list Lay.int).cells) S) := ⟨S5, HO5⟩
                          have HB5 : Hid (Below w2.heap.size w2 (w4.setCell ⟨w2.heap.size, k, none⟩ (.slice a5 jn.length c5))) := (hbj.trans (hb4r.mono hbj.size)).setCell (p := ⟨w2.heap.size, k, none⟩) (Nat.le_refl _) _
                          clear Y g03 q23 q33 HPUT HO5 hO4 hHeld
                          go_wp2_with fail
                          refine hK.out _ _ ⟨g04, trivial⟩ (fun hHeld => ?_)
                          clear hK K
                          try simp only [Act.put, List.setIfInBounds_toArray, List.set_cons_zero, List.set_cons_succ]
                          refine take_atL (i := 13) (d := some 80) (v := .pointer (some ⟨w2.heap.size, k, none⟩)) rfl rfl (by kernel_rfl) (by kernel_rfl) (by kernel_rfl) (fun _ _ _ h => h) (by rfl) ?_ hHeld ?_
                          · intro w' hSw; obtain ⟨s0, _⟩ := hSw; go_simp; try rfl
                          try simp only [Act.put, List.setIfInBounds_toArray, List.set_cons_zero, List.set_cons_succ]
                          refine wpAnyH_ready (rs := [14]) (by kernel_rfl) (by simp) ?_
                          refine AllReadyH.cons (o := _) rfl (fun K hK => ?_) AllReadyH.nil
                          rw [if_pos (by rfl)]
                          go_simp
                          refine hK.out _ _ ⟨by rw [World.cell?_setCell_far _ _ _ _ (by show w2.heap.size ≠ w.heap.size; omega)]; exact g04, trivial⟩ (fun hHeld => ?_)
                          clear hK K
                          try simp only [Act.put, List.setIfInBounds_toArray, List.set_cons_zero, List.set_cons_succ]
                          refine wpAnyH_done (by kernel_rfl) ?_ _
                          clear hHeld g04 hf5 hz5 q2 q3
                          go_wp2_with (go_at_call 48; refine (XH.out _ HB5.out).mono ?_; rintro e w6 ⟨rfl, rfl⟩)
                          go_roundw
                          case rel => exact ⟨i + 1, by omega, by go_num, by rw [HNx.out]; exact HE5, HB5.out⟩
                          case measure => simp [intOf]; omega
                      · rw [if_pos (by rfl)]
                        go_simp
                        refine hK.out _ _ hHeld (fun hHeld => ?_)
                        clear hK K
                        try simp only [Act.put, List.setIfInBounds_toArray, List.set_cons_zero, List.set_cons_succ]
                        refine wpAnyH_ready (rs := [5]) (by kernel_rfl) (by simp) ?_
                        refine AllReadyH.cons (o := _) rfl (fun K hK => ?_) AllReadyH.nil
                        rw [if_pos (by rfl)]
                        go_simp
                        refine hK.out _ _ hHeld (fun hHeld => ?_)
                        clear hK K
                        try simp only [Act.put, List.setIfInBounds_toArray, List.set_cons_zero, List.set_cons_succ]
                        refine wpAnyH_ready (rs := [7]) (by kernel_rfl) (by simp) ?_
                        refine AllReadyH.cons (o := _) rfl (fun K hK => ?_) AllReadyH.nil
                        rw [if_pos (by rfl)]
                        go_simp
                        refine (XA.out _ (Below.drew (Below.refl _ _))).mono ?_
                        rintro e w3 ⟨v3, rfl, hO3, hb3⟩
                        obtain ⟨a4, c4, rfl, hr4, _⟩ := hO3.shape
                        have hb3r : Below wr.heap.size wr w3 := Below.drewed (by simpa using hb3)
                        have g03 := (hb3r.cell (p := ⟨w.heap.size, 0, none⟩) hgl).trans g0
                        have q23 := (hb3r.cell (p := ⟨w2.heap.size, k, none⟩) hw2r).trans q2
                        have q33 := (hb3r.cell (p := ⟨w2.heap.size, n, none⟩) hw2r).trans q3
                        have Y := YY.out w3 a4 c4 hb3r hr4
                        clear XA hO3 hr4 hb3 YY hHeld
                        go_wp2_with fail
                        refine hK.out _ _ ⟨g03, trivial⟩ (fun hHeld => ?_)
                        clear hK K
                        try simp only [Act.put, List.setIfInBounds_toArray, List.set_cons_zero, List.set_cons_succ]
                        refine wpAnyH_ready (rs := [12]) (by kernel_rfl) (by simp) ?_
                        refine AllReadyH.cons (o := _) rfl (fun K hK => ?_) AllReadyH.nil
                        rw [if_pos (by rfl)]
                        go_simp
                        refine Y.mono ?_
                        rintro e w4 ⟨v4, rfl, hO4, hb4⟩
                        have hb4r : Below wr.heap.size wr w4 := hb3r.trans (hb4.mono hb3r.size)
                        have g04 := (hb4r.cell (p := ⟨w.heap.size, 0, none⟩) hgl).trans g0
                        obtain ⟨S5, HO5, hf5, z5, hz5⟩ := HPUT.out w4 v4 hb4r (hO4.base hb3r.size)
                        obtain ⟨a5, c5, rfl, _, _⟩ := hO4.shape
                        have HE5 : Hid (∃ S, OL (w4.setCell ⟨w2.heap.size, k, none⟩ (.slice a5 jn.length c5)) w2.heap.size 25 1 (.slice (some ⟨w2.heap.size, 0, none⟩) P.length P.length) P.length ((stS k z M2).flatMap (Lay.list Lay.int).cells) S) := ⟨S5, HO5⟩
                        have HB5 : Hid (Below w2.heap.size w2 (w4.setCell ⟨w2.heap.size, k, none⟩ (.slice a5 jn.length c5))) := (hbj.trans (hb4r.mono hbj.size)).setCell (p := ⟨w2.heap.size, k, none⟩) (Nat.le_refl _) _
                        clear Y g03 q23 q33 HPUT HO5 hO4 hHeld
                        go_wp2_with fail
                        refine hK.out _ _ ⟨g04, trivial⟩ (fun hHeld => ?_)
                        clear hK K
                        try simp only [Act.put, List.setIfInBounds_toArray, List.set_cons_zero, List.set_cons_succ]
                        refine take_atL (i := 13) (d := some 80) (v := .pointer (some ⟨w2.heap.size, k, none⟩)) rfl rfl (by kernel_rfl) (by kernel_rfl) (by kernel_rfl) (fun _ _ _ h => h) (by rfl) ?_ hHeld ?_
                        · intro w' hSw; obtain ⟨s0, _⟩ := hSw; go_simp; try rfl
                        try simp only [Act.put, List.setIfInBounds_toArray, List.set_cons_zero, List.set_cons_succ]
                        refine wpAnyH_ready (rs := [14]) (by kernel_rfl) (by simp) ?_
                        refine AllReadyH.cons (o := _) rfl (fun K hK => ?_) AllReadyH.nil
                        rw [if_pos (by rfl)]
                        go_simp
                        refine hK.out _ _ ⟨by rw [World.cell?_setCell_far _ _ _ _ (by show w2.heap.size ≠ w.heap.size; omega)]; exact g04, trivial⟩ (fun hHeld => ?_)
                        clear hK K
                        try simp only [Act.put, List.setIfInBounds_toArray, List.set_cons_zero, List.set_cons_succ]
                        refine wpAnyH_done (by kernel_rfl) ?_ _
                        clear hHeld g04 hf5 hz5 q2 q3
                        go_wp2_with (go_at_call 48; refine (XH.out _ HB5.out).mono ?_; rintro e w6 ⟨rfl, rfl⟩)
                        go_roundw
                        case rel => exact ⟨i + 1, by omega, by go_num, by rw [HNx.out]; exact HE5, HB5.out⟩
                        case measure => simp [intOf]; omega
                  · have HNx : Hid (stI E k Q Mk0 (i + 1) = M2) := HN.out.trans (L0.out z1)
                    have z2 : z < 100 := by omega
                    clear L0 L1 L2 hy z1
                    go_wp2
                    go_roundw
                    case rel => exact ⟨i + 1, by omega, by go_num, by rw [HNx.out]; exact HOj, hbj⟩
                    case measure => simp [intOf]; omega
                · have HNx : Hid (stI E k Q Mk0 (i + 1) = M2) := HN.out.trans (HM.out.2.trans (stRow_end hlj))
                  clear HM
                  go_wp2
                  go_roundw
                  case rel => exact ⟨i + 1, by omega, by go_num, by rw [HNx.out]; exact HOj, hbj⟩
                  case measure => simp [intOf]; omega
            · have e : i = Q.length := by omega
              subst e
              have HKe := HK.out
              clear HK
              go_wp2
              go_roundw
              case rel => exact ⟨k + 1, by omega, by go_num, by rw [HKe]; exact HOi, hbi⟩
              case measure => simp [intOf]; omega
        · have e : k = P.length := by omega
          subst e
          have HTe := HT.out
          clear HT
          go_wp2
          go_roundw
          case rel => exact ⟨t + 1, by omega, by go_num, by rw [HTe]; exact HOk, hbk⟩
          case measure => simp [intOf]; omega
    · have e : t = P.length + 1 := by omega
      subst e
      obtain ⟨S, HOL⟩ := HO.out
      have hfl : (startsL P).length = P.length := by rw [HFL.out]; exact (stT_sets E HF.out _).1
      have HD : Hid (OD wr w.heap.size (.slice (some ⟨w2.heap.size, 0, none⟩) P.length P.length) (slD (Lay.list Lay.int) (startsL P)) S) := by
        have := HOL.od.base (b' := w.heap.size) (by omega)
        show OD _ _ _ _ _
        unfold slD; rw [hfl, HFL.out]; exact this
      clear HOL HO HFL hfl
      go_wp2
      go_ret
      exact ⟨_, _, rfl, HD.out, hb2'.trans (hbel.mono (by omega))⟩
end Go.Proofs.YthnppodnjokaoaaGreatDoor
namespace Go.Proofs.YthnppodnjokaoaaGreatDoor
open Go.RowKit

/-- What Starts answers. -/
def resStarts (x : Gm) (n : Int) : List Int := if gramOkB x.parts && inB n 0 (x.parts.length - 1) then (startsL x.parts).getD n.toNat [] else []
theorem resStarts_le (x : Gm) (n : Int) (_ : Lay.gram.wt x ≤ 1048576) (_ : Lay.gram.fit x) (_ : (Lit.int .i64 n).wf = true) : (Lay.list Lay.int).wt (resStarts x n) ≤ 2097152 := by
  rw [Lay.wt_ints, resStarts]
  split
  · have hok : gramOkB x.parts = true := by rename_i h; simp only [Bool.and_eq_true] at h; exact h.1
    have := ((stT_sets (emptiesL x.parts) (Fits.of hok) (x.parts.length + 1)).get (k := n.toNat)).len (n := 27)
    unfold startsL; omega
  · simp

end Go.Proofs.YthnppodnjokaoaaGreatDoor
namespace Go.Proofs.YthnppodnjokaoaaGreatDoor
open Go.RowKit

/-- A part is among its own Starts. -/
def loopB (M : List (List Int)) : Bool := (List.range M.length).any fun k => hasL (M.getD k []) k
theorem loopB_yes {M : List (List Int)} {k : Nat} (h : k < M.length) (g : hasL M[k] k = true) : loopB M = true := by
  simp only [loopB, List.any_eq_true, List.mem_range]
  exact ⟨k, h, by simpa [List.getD, h] using g⟩
theorem loopB_no {M : List (List Int)} (h : ∀ k (hk : k < M.length), hasL M[k] k = false) : loopB M = false := by
  simp only [loopB, List.any_eq_false, List.mem_range]
  intro k hk
  have := h k hk
  simpa [List.getD, hk] using this
/-- What Check answers. -/
def resCheck (x : Gm) : Int := if gramOkB x.parts then (if loopB (startsL x.parts) then 2 else if (aliveL x.parts).length < x.parts.length then 3 else if (reachL x.parts).length < x.parts.length then 4 else 0) else 1

set_option maxHeartbeats 1000000 in
set_option maxRecDepth 100000 in
theorem specCheck_any (x : Gm) (a0 : Option Addr) (c0 : Nat) (w : World) (h0 : RD w (.slice a0 x.parts.length c0) (slD (Lay.list (Lay.list Lay.int)) x.parts)) (hn : Lay.gram.wt x ≤ 1048576) (hf : Lay.gram.fit x) :
    Calls Tryz.prog 33 #[.agg #[.slice a0 x.parts.length c0]] w fun e w' => e = .returned (.int .i64 (resCheck x)) ∧ Below w.heap.size w w' := by
  unfold resCheck
  have B0 := (Below.refl w.heap.size w).alloc (Nat.le_refl _) (.cells #[.slice a0 x.parts.length c0] 29)
  have HOK : Hid (∀ W : World, Below w.heap.size w W → Calls Tryz.prog 46 #[.agg #[.slice a0 x.parts.length c0]] W fun e w' => e = .returned (.bool (gramOkB x.parts)) ∧ Below W.heap.size W w') := fun W hW => specGramOk_any x a0 c0 W (h0.later hW) hn hf
  by_cases hok : gramOkB x.parts = true
  · have HST : Hid (∀ W : World, Below w.heap.size w W → Calls Tryz.prog 47 #[.agg #[.slice a0 x.parts.length c0]] W fun e w' => ∃ v S, e = .returned v ∧ OD w' W.heap.size v (slD (Lay.list Lay.int) (startsL x.parts)) S ∧ Below W.heap.size W w') := fun W hW => l5Starts_any x.parts a0 c0 W (h0.later hW) hok
    have HPR : Hid (∀ W : World, Below w.heap.size w W → Calls Tryz.prog 49 #[.agg #[.slice a0 x.parts.length c0]] W fun e w' => ∃ v S, e = .returned v ∧ OD w' W.heap.size v (slD Lay.int (aliveL x.parts)) S ∧ Below W.heap.size W w') := fun W hW => by
      have := specProductive_any x a0 c0 W (h0.later hW) hn hf
      rwa [resProductive, if_pos hok] at this
    have HRE : Hid (∀ W : World, Below w.heap.size w W → Calls Tryz.prog 50 #[.agg #[.slice a0 x.parts.length c0]] W fun e w' => ∃ v S, e = .returned v ∧ OD w' W.heap.size v (slD Lay.int (reachL x.parts)) S ∧ Below W.heap.size W w') := fun W hW => by
      have := specReachable_any x a0 c0 W (h0.later hW) hn hf
      rwa [resReachable, if_pos hok] at this
    have HS : Hid (Sets x.parts.length (startsL x.parts)) := stT_sets _ (Fits.of hok) _
    have hp := (Fits.of hok).parts
    have hal := aliveL_le (Fits.of hok)
    have hrl := reachL_le (Fits.of hok)
    rw [if_pos hok]
    rw [hok] at HOK
    clear h0 hn hf hok
    generalize startsL x.parts = M at *
    generalize aliveL x.parts = AL at *
    generalize reachL x.parts = RL at *
    generalize x.parts = P at *
    obtain ⟨C, HC⟩ : ∃ C : Int, Hid ((if loopB M then (2 : Int) else if AL.length < P.length then 3 else if RL.length < P.length then 4 else 0) = C) := ⟨_, rfl⟩
    rw [HC.out]
    go_enter Tryz.func33, Tryz.ntmps33
    go_wp2_with fail
    refine (HOK.out _ B0).mono ?_
    rintro e w1 ⟨rfl, hb1⟩
    have g1 : w1.cell? ⟨w.heap.size, 0, none⟩ = some (.slice a0 P.length c0) := (hb1.cell (p := ⟨w.heap.size, 0, none⟩) (by simp)).trans (by simp)
    have B1 := B0.trans (hb1.mono B0.size)
    clear HOK hb1 B0
    go_wp2_with fail
    refine (HST.out _ B1).mono ?_
    rintro e w2 ⟨v2, S2, rfl, hO2, hb2⟩
    obtain ⟨a2, c2, rfl, _⟩ := OD.shapeL hO2
    have B2 := B1.trans (hb2.mono B1.size)
    have g2 := (hb2.cell (p := ⟨w.heap.size, 0, none⟩) (World.block_lt_of_cell? w1 _ g1)).trans g1
    have HRD : Hid (RD w2 (.slice a2 M.length c2) (slD (Lay.list Lay.int) M)) := hO2.rd
    have hMl20 : M.length ≤ 20 := by rw [HS.out.1]; exact hp
    clear HST hO2 hb2 g1
    go_wp2
    go_loop [4] (fun s => ∃ k : Nat, k ≤ M.length ∧ s = .int .i64 k ∧ Hid (∀ j (hj : j < M.length), j < k → hasL M[j] j = false)) (fun s => M.length - (intOf s).toNat)
    case atStart => exact ⟨0, Nat.zero_le _, rfl, fun j hj hk => by omega⟩
    case round =>
      obtain ⟨k, hk, rfl, HK⟩ := hrel
      by_cases hlt : k < M.length
      · obtain ⟨b3, o3, rfl, hb3, a3, c3, q3, r3⟩ := HRD.out.listAt hlt
        have h27 : M[k].length ≤ 27 := (HS.out.2 _ (List.getElem_mem hlt)).len (n := 27)
        have X : Hid (Calls Tryz.prog 48 #[.slice a3 M[k].length c3, .int .i64 (k : Int)] w2 fun e w' => e = .returned (.bool (hasL M[k] k)) ∧ w' = w2) := specSetHas_same a3 c3 M[k] (k : Int) w2 r3.reads (by omega)
        have LY : Hid (hasL M[k] k = true → loopB M = true) := loopB_yes hlt
        have LN : Hid (hasL M[k] k = false → ∀ j (hj : j < M.length), j < k + 1 → hasL M[j] j = false) := fun g j hj hjk => by
          by_cases e : j = k
          · subst e; exact g
          · exact HK.out j hj (by omega)
        clear r3 HK
        generalize hgk : hasL M[k] k = T at *
        clear hgk
        generalize M[k] = m at *
        cases T
        · have LNo : Hid (∀ j (hj : j < M.length), j < k + 1 → hasL M[j] j = false) := LN.out rfl
          clear LY LN
          go_wp2_with (go_at_call 48; refine X.out.mono ?_; rintro e w' ⟨rfl, rfl⟩)
          go_round
          case rel => exact ⟨k + 1, by omega, by go_num, LNo⟩
          case measure => simp [intOf]; omega
        · have HL : Hid (loopB M = true) := LY.out rfl
          clear LY LN
          go_wp2_with (go_at_call 48; refine X.out.mono ?_; rintro e w' ⟨rfl, rfl⟩)
          go_ret
          exact ⟨ret_int (by rw [← HC.out, HL.out, if_pos rfl]), B2⟩
      · have HL : Hid (loopB M = false) := loopB_no (fun j hj => HK.out j hj (by omega))
        clear HK HRD HS
        go_wp2
        refine wp_region_held_drew (S := (fun w' => w'.cell? ⟨w.heap.size, 0, none⟩ = some (.slice a0 P.length c0) ∧ True)) (by kernel_rfl) ⟨g2, trivial⟩ (fun hHeld => ?_)
        refine take_atL (i := 0) (d := some 22) (v := .agg #[.slice a0 P.length c0]) rfl rfl (by kernel_rfl) (by kernel_rfl) (by kernel_rfl) (fun _ _ _ h => h) (by rfl) ?_ hHeld ?_
        · intro w' hSw; obtain ⟨s0, _⟩ := hSw; go_simp; try rfl
        try simp only [Act.put, List.setIfInBounds_toArray, List.set_cons_zero, List.set_cons_succ]
        refine take_atL (i := 3) (d := some 25) (v := .pointer (some ⟨w.heap.size, 0, none⟩)) rfl rfl (by kernel_rfl) (by kernel_rfl) (by kernel_rfl) (fun _ _ _ h => h) (by rfl) ?_ hHeld ?_
        · intro w' hSw; obtain ⟨s0, _⟩ := hSw; go_simp; try rfl
        try simp only [Act.put, List.setIfInBounds_toArray, List.set_cons_zero, List.set_cons_succ]
        refine take_atL (i := 4) (d := some 26) (v := .slice a0 P.length c0) rfl rfl (by kernel_rfl) (by kernel_rfl) (by kernel_rfl) (fun _ _ _ h => h) (by rfl) ?_ hHeld ?_
        · intro w' hSw; obtain ⟨s0, _⟩ := hSw; go_simp; try rfl
        try simp only [Act.put, List.setIfInBounds_toArray, List.set_cons_zero, List.set_cons_succ]
        refine take_atL (i := 5) (d := some 27) (v := .int .i64 (P.length : Int)) rfl rfl (by kernel_rfl) (by kernel_rfl) (by kernel_rfl) (fun _ _ _ h => h) (by rfl) ?_ hHeld ?_
        · intro w' hSw; obtain ⟨s0, _⟩ := hSw; go_simp; try rfl
        try simp only [Act.put, List.setIfInBounds_toArray, List.set_cons_zero, List.set_cons_succ]
        refine wpAnyH_ready (rs := [1]) (by kernel_rfl) (by simp) ?_
        refine AllReadyH.cons (o := _) rfl (fun K hK => ?_) AllReadyH.nil
        rw [if_pos (by rfl)]
        go_simp
        refine (HPR.out _ (B2.drew)).mono ?_
        rintro e w3 ⟨v3, S3, rfl, hO3, hb3⟩
        obtain ⟨a3, c3, rfl, _⟩ := OD.shapeL hO3
        have hb3r : Below w2.heap.size w2 w3 := Below.drewed (by simpa using hb3)
        have B3 := B2.trans (hb3r.mono B2.size)
        have g3 := (hb3r.cell (p := ⟨w.heap.size, 0, none⟩) (World.block_lt_of_cell? w2 _ g2)).trans g2
        clear hO3 hb3 HPR hHeld hb3r
        go_wp2_with fail
        refine hK.out _ _ ⟨g3, trivial⟩ (fun hHeld => ?_)
        clear hK K
        try simp only [Act.put, List.setIfInBounds_toArray, List.set_cons_zero, List.set_cons_succ]
        refine take_atL (i := 2) (d := some 24) (v := .int .i64 (AL.length : Int)) rfl rfl (by kernel_rfl) (by kernel_rfl) (by kernel_rfl) (fun _ _ _ h => h) (by rfl) ?_ hHeld ?_
        · intro w' hSw; obtain ⟨s0, _⟩ := hSw; go_simp; try rfl
        try simp only [Act.put, List.setIfInBounds_toArray, List.set_cons_zero, List.set_cons_succ]
        by_cases h3 : AL.length < P.length
        · have HN3 : Hid (AL.length < P.length) := h3
          have h3' : (AL.length : Int) < (P.length : Int) := by omega
          refine take_atL (i := 6) (d := some 28) (v := .bool true) rfl rfl (by kernel_rfl) (by kernel_rfl) (by kernel_rfl) (fun _ _ _ h => h) (by rfl) ?_ hHeld ?_
          · intro w' hSw; obtain ⟨s0, _⟩ := hSw; go_simp; first | done | rfl | omega
          try simp only [Act.put, List.setIfInBounds_toArray, List.set_cons_zero, List.set_cons_succ]
          refine wpAnyH_done (by kernel_rfl) ?_ _
          clear hHeld
          go_wp2
          go_ret
          exact ⟨ret_int (by rw [← HC.out, HL.out, if_neg (by decide), if_pos HN3.out]), B3⟩
        · have HN3 : Hid (¬ AL.length < P.length) := h3
          have h3' : (P.length : Int) ≤ (AL.length : Int) := by omega
          clear h3
          refine take_atL (i := 6) (d := some 28) (v := .bool false) rfl rfl (by kernel_rfl) (by kernel_rfl) (by kernel_rfl) (fun _ _ _ h => h) (by rfl) ?_ hHeld ?_
          · intro w' hSw; obtain ⟨s0, _⟩ := hSw; go_simp; first | done | rfl | omega
          try simp only [Act.put, List.setIfInBounds_toArray, List.set_cons_zero, List.set_cons_succ]
          refine wpAnyH_done (by kernel_rfl) ?_ _
          clear hHeld
          go_wp2
          refine wp_region_held_drew (S := (fun w' => w'.cell? ⟨w.heap.size, 0, none⟩ = some (.slice a0 P.length c0) ∧ True)) (by kernel_rfl) ⟨g3, trivial⟩ (fun hHeld => ?_)
          refine take_atL (i := 0) (d := some 29) (v := .agg #[.slice a0 P.length c0]) rfl rfl (by kernel_rfl) (by kernel_rfl) (by kernel_rfl) (fun _ _ _ h => h) (by rfl) ?_ hHeld ?_
          · intro w' hSw; obtain ⟨s0, _⟩ := hSw; go_simp; try rfl
          try simp only [Act.put, List.setIfInBounds_toArray, List.set_cons_zero, List.set_cons_succ]
          refine take_atL (i := 3) (d := some 32) (v := .pointer (some ⟨w.heap.size, 0, none⟩)) rfl rfl (by kernel_rfl) (by kernel_rfl) (by kernel_rfl) (fun _ _ _ h => h) (by rfl) ?_ hHeld ?_
          · intro w' hSw; obtain ⟨s0, _⟩ := hSw; go_simp; try rfl
          try simp only [Act.put, List.setIfInBounds_toArray, List.set_cons_zero, List.set_cons_succ]
          refine take_atL (i := 4) (d := some 33) (v := .slice a0 P.length c0) rfl rfl (by kernel_rfl) (by kernel_rfl) (by kernel_rfl) (fun _ _ _ h => h) (by rfl) ?_ hHeld ?_
          · intro w' hSw; obtain ⟨s0, _⟩ := hSw; go_simp; try rfl
          try simp only [Act.put, List.setIfInBounds_toArray, List.set_cons_zero, List.set_cons_succ]
          refine take_atL (i := 5) (d := some 34) (v := .int .i64 (P.length : Int)) rfl rfl (by kernel_rfl) (by kernel_rfl) (by kernel_rfl) (fun _ _ _ h => h) (by rfl) ?_ hHeld ?_
          · intro w' hSw; obtain ⟨s0, _⟩ := hSw; go_simp; try rfl
          try simp only [Act.put, List.setIfInBounds_toArray, List.set_cons_zero, List.set_cons_succ]
          refine wpAnyH_ready (rs := [1]) (by kernel_rfl) (by simp) ?_
          refine AllReadyH.cons (o := _) rfl (fun K hK => ?_) AllReadyH.nil
          rw [if_pos (by rfl)]
          go_simp
          refine (HRE.out _ (B3.drew)).mono ?_
          rintro e w4 ⟨v4, S4, rfl, hO4, hb4⟩
          obtain ⟨a4, c4, rfl, _⟩ := OD.shapeL hO4
          have hb4r : Below w3.heap.size w3 w4 := Below.drewed (by simpa using hb4)
          have B4 := B3.trans (hb4r.mono B3.size)
          have g4 := (hb4r.cell (p := ⟨w.heap.size, 0, none⟩) (World.block_lt_of_cell? w3 _ g3)).trans g3
          clear hO4 hb4 HRE hHeld hb4r
          go_wp2_with fail
          refine hK.out _ _ ⟨g4, trivial⟩ (fun hHeld => ?_)
          clear hK K
          try simp only [Act.put, List.setIfInBounds_toArray, List.set_cons_zero, List.set_cons_succ]
          refine take_atL (i := 2) (d := some 31) (v := .int .i64 (RL.length : Int)) rfl rfl (by kernel_rfl) (by kernel_rfl) (by kernel_rfl) (fun _ _ _ h => h) (by rfl) ?_ hHeld ?_
          · intro w' hSw; obtain ⟨s0, _⟩ := hSw; go_simp; try rfl
          try simp only [Act.put, List.setIfInBounds_toArray, List.set_cons_zero, List.set_cons_succ]
          by_cases h4 : RL.length < P.length
          · have HN4 : Hid (RL.length < P.length) := h4
            have h4' : (RL.length : Int) < (P.length : Int) := by omega
            refine take_atL (i := 6) (d := some 35) (v := .bool true) rfl rfl (by kernel_rfl) (by kernel_rfl) (by kernel_rfl) (fun _ _ _ h => h) (by rfl) ?_ hHeld ?_
            · intro w' hSw; obtain ⟨s0, _⟩ := hSw; go_simp; first | done | rfl | omega
            try simp only [Act.put, List.setIfInBounds_toArray, List.set_cons_zero, List.set_cons_succ]
            refine wpAnyH_done (by kernel_rfl) ?_ _
            clear hHeld
            go_wp2
            go_ret
            exact ⟨ret_int (by rw [← HC.out, HL.out, if_neg (by decide), if_neg HN3.out, if_pos HN4.out]), B4⟩
          · have HN4 : Hid (¬ RL.length < P.length) := h4
            have h4' : (P.length : Int) ≤ (RL.length : Int) := by omega
            clear h4
            refine take_atL (i := 6) (d := some 35) (v := .bool false) rfl rfl (by kernel_rfl) (by kernel_rfl) (by kernel_rfl) (fun _ _ _ h => h) (by rfl) ?_ hHeld ?_
            · intro w' hSw; obtain ⟨s0, _⟩ := hSw; go_simp; first | done | rfl | omega
            try simp only [Act.put, List.setIfInBounds_toArray, List.set_cons_zero, List.set_cons_succ]
            refine wpAnyH_done (by kernel_rfl) ?_ _
            clear hHeld
            go_wp2
            go_ret
            exact ⟨ret_int (by rw [← HC.out, HL.out, if_neg (by decide), if_neg HN3.out, if_neg HN4.out]), B4⟩
  · have hok2 : gramOkB x.parts = false := by simpa using hok
    rw [if_neg hok]
    rw [hok2] at HOK
    clear hok h0 hn hf hok2
    generalize x.parts = P at *
    go_enter Tryz.func33, Tryz.ntmps33
    go_wp2_with (go_at_call 46; refine (HOK.out _ B0).mono ?_; rintro e w1 ⟨rfl, hb1⟩)
    go_ret
    exact ⟨rfl, B0.trans (hb1.mono B0.size)⟩
end Go.Proofs.YthnppodnjokaoaaGreatDoor
