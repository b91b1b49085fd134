/-
  Contracts and plain mathematics, joined: SpecFollows, SpecFollowOf, FlagsEq, FlagT, JoinB, GrowMath, BitMath, FirstsClosed, LeastMath. No statement is proved here.
-/
import Derived.Test.YtdniejpblhbjkabG1
import Derived.Test.YtdniejpblhbjkabG3
import Derived.Deep.DeepCutAuto
import Derived.Test.YtdniejpblhbjkabG2
namespace Go.Proofs.Ytdniejpblhbjkab
open Go.RowKit

theorem OL.setsAt {W : World} {base g n : Nat} {e : TypeId} {M : List (List Int)} {S : Nat → Prop} (h : OL W base e 1 (.slice (some ⟨g, 0, none⟩) n n) n (M.flatMap (Lay.list Lay.int).cells) S) (hM : Sets n M) {i : Nat} (hi : i < n) :
    ∃ a c T, W.cell? ⟨g, i, none⟩ = some (.slice a (M[i]'(hM.1.symm ▸ hi)).length c) ∧ OD W base (.slice a (M[i]'(hM.1.symm ▸ hi)).length c) (slD Lay.int (M[i]'(hM.1.symm ▸ hi))) T := by
  have hOD : OD W base (.slice (some ⟨g, 0, none⟩) n n) (slD (Lay.list Lay.int) M) S := by
    have := h.od; unfold slD; rw [hM.1]; exact this
  obtain ⟨a, c, T, h1, h2, _⟩ := hOD.listInto (hM.1.symm ▸ hi)
  exact ⟨a, c, T, h1, h2⟩
theorem OL.setsPut {W0 W : World} {base g n : Nat} {e t : TypeId} {M : List (List Int)} {S : Nat → Prop} (h : OL W0 base e 1 (.slice (some ⟨g, 0, none⟩) n n) n (M.flatMap (Lay.list Lay.int).cells) S) (hM : Sets n M) {i : Nat} (hi : i < n) (hb : base ≤ W0.heap.size) (hW : Below W0.heap.size W0 W) {v : Value} {m : List Int} (hO : OwnInts W W0.heap.size t v m) :
    ∃ S', OL (W.setCell ⟨g, i, none⟩ v) base e 1 (.slice (some ⟨g, 0, none⟩) n n) n ((M.set i m).flatMap (Lay.list Lay.int).cells) S' ∧ W.frozen? ⟨g, i, none⟩ = false ∧ ∃ z, W.cell? ⟨g, i, none⟩ = some z := by
  obtain ⟨S', h1, _, _, _, h5, h6⟩ := (h.later hW).putList (hM.1.symm ▸ hi) v m _ ((hO.od).base hb) (fun x hx hx2 => by
    have l1 := (hO.od.lt x hx).1; have l2 := (h.lt x hx2).2; omega)
  exact ⟨S', h1, h6, h5⟩
theorem OwnInts.lit1F {w : World} {base : Nat} {e : TypeId} (x : Int) (h : base ≤ w.heap.size) : OwnInts (w.alloc (.cells #[.int .i64 x] e)) base e (.slice (some ⟨w.heap.size, 0, none⟩) 1 1) [x] :=
  World.ownsRow_lit w #[.int .i64 x] 1 h (by simp [maxLen]) rfl

set_option maxHeartbeats 16000000 in
set_option maxRecDepth 100000 in
theorem l5Follows_any (P : List (List (List Int))) (a0 : Option Addr) (c0 : Nat) (w : World) (h0 : RD w (.slice a0 P.length c0) (slD (Lay.list (Lay.list Lay.int)) P)) (hok : gramOkB P = true) :
    Calls Try.prog 39 #[.agg #[.slice a0 P.length c0]] w fun e w' => ∃ v S, e = .returned v ∧ OD w' w.heap.size v (slD (Lay.list Lay.int) (followsL P)) S ∧ Below w.heap.size w w' := by
  have F := Fits.of hok
  have HF : Hid (Fits P) := F
  have HSY : Hid (∀ alts ∈ P, ∀ row ∈ alts, ∀ z ∈ row, 100 ≤ z → z - 100 < P.length) := by
    intro alts h1 row h2 z h3 h4
    simp only [gramOkB, Bool.and_eq_true, List.all_eq_true, partOk, rowOk, decide_eq_true_eq] at hok
    have := symOk_true.1 (((hok.2 alts h1).2 row h2).2 z h3)
    omega
  have hp := F.parts
  have hp1 : 1 ≤ P.length := by
    simp only [gramOkB, Bool.and_eq_true, inB_true] at hok; omega
  have hEl := emptiesL_le F
  have B0 := (Below.refl w.heap.size w).alloc (Nat.le_refl _) (.cells #[.slice a0 P.length c0] 28)
  have HE0 : Hid (∀ W : World, Below w.heap.size w W → Calls Try.prog 30 #[.agg #[.slice a0 P.length c0]] W fun e w' => ∃ v, e = .returned v ∧ OwnInts w' W.heap.size 3 v (emptiesL P) ∧ Below W.heap.size W w') := fun W hW => l5Empties_any P a0 c0 W (h0.later hW) hok
  have HFI : Hid (∀ W : World, Below w.heap.size w W → Calls Try.prog 29 #[.agg #[.slice a0 P.length c0]] W fun e w' => ∃ v S, e = .returned v ∧ OD w' W.heap.size v (slD (Lay.list Lay.int) (firstsL P)) S ∧ Below W.heap.size W w') := fun W hW => l5Firsts_any P a0 c0 W (h0.later hW) hok
  have HR0 : Hid (RD w (.slice a0 P.length c0) (slD (Lay.list (Lay.list Lay.int)) P)) := h0
  have HFS : Hid (Sets P.length (firstsL P)) := fiT_sets _ P _
  have HFL : Hid (followsL P = foT (emptiesL P) (firstsL P) P (27 * P.length + 1)) := rfl
  clear F hok h0
  generalize firstsL P = FS at *
  generalize emptiesL P = E at *
  go_enter Try.func39, Try.ntmps39
  go_wp2_with fail
  refine (HE0.out _ B0).mono ?_
  rintro e w1 ⟨vE, rfl, hOE, hb1⟩
  have B1 := B0.trans (hb1.mono B0.size)
  have g1 : w1.cell? ⟨w.heap.size, 0, none⟩ = some (.slice a0 P.length c0) := (hb1.cell (p := ⟨w.heap.size, 0, none⟩) (by simp)).trans (by simp)
  obtain ⟨aE, cE, rfl, hrE, _⟩ := hOE.shape
  clear HE0 hOE hb1 B0
  go_wp2_with fail
  refine (HFI.out _ B1).mono ?_
  rintro e w2 ⟨vF, SF, rfl, hOF, hb2⟩
  obtain ⟨aF, cF, rfl, _⟩ := OD.shapeL hOF
  have hb2' : Below w.heap.size w w2 := B1.trans (hb2.mono B1.size)
  have g2 := (hb2.cell (p := ⟨w.heap.size, 0, none⟩) (World.block_lt_of_cell? w1 _ g1)).trans g1
  have hwl : w.heap.size < w2.heap.size := World.block_lt_of_cell? w2 _ g2
  have HRE : Hid (Reads w2 aE E) := hrE.below hb2
  have HRF0 : Hid (RD w2 (.slice aF FS.length cF) (slD (Lay.list Lay.int) FS)) := hOF.rd
  obtain ⟨FL, HFLen⟩ : ∃ FL, Hid (FS.length = FL) := ⟨_, rfl⟩
  have HRF : Hid (RD w2 (.slice aF FL cF) (slD (Lay.list Lay.int) FS)) := by have := HRF0.out; rw [HFLen.out] at this; exact this
  have HR : Hid (RD w2 (.slice a0 P.length c0) (slD (Lay.list (Lay.list Lay.int)) P)) := HR0.out.later hb2'
  rw [HFLen.out]
  obtain ⟨W, hmk, O0, BW⟩ := make_ownL (P := Try.prog) w2 43 25 (.slice none 0 0) 24 [.slice none 0 0] [.sl 0 []] P.length Try.underlying43 Try.infoIntS rfl (by decide) (by omega) (by decide) (by intro u hu; simp at hu; subst hu; rfl) rfl
    (by intro W base i hi hi'; match i, hi with | 0, _ => exact .nil 0 rfl)
  rw [zero_cells (L := Lay.list Lay.int) (z := []) (zd := [.sl 0 []]) rfl] at O0
  have hS0 : Sets P.length (List.replicate P.length ([] : List Int)) := ⟨by simp, fun m hm => by rw [(List.mem_replicate.1 hm).2]; exact SetB.nil _⟩
  obtain ⟨S1, O1, fz1, z1, hz1⟩ := O0.setsPut hS0 (i := 0) (by omega) BW.size ((Below.refl _ _).alloc (Nat.le_refl _) _) (OwnInts.lit1F (e := 3) 26 (Nat.le_refl W.heap.size))
  have HO0 : Hid (∃ S, OL ((W.alloc (.cells #[.int .i64 26] 3)).setCell ⟨w2.heap.size, 0, none⟩ (.slice (some ⟨W.heap.size, 0, none⟩) 1 1)) w2.heap.size 25 1 (.slice (some ⟨w2.heap.size, 0, none⟩) P.length P.length) P.length ((foT E FS P 0).flatMap (Lay.list Lay.int).cells) S) := ⟨S1, O1⟩
  have HBW : Hid (Below w2.heap.size w2 ((W.alloc (.cells #[.int .i64 26] 3)).setCell ⟨w2.heap.size, 0, none⟩ (.slice (some ⟨W.heap.size, 0, none⟩) 1 1))) := (BW.alloc BW.size _).setCell (p := ⟨w2.heap.size, 0, none⟩) (Nat.le_refl _) _
  clear HR0 HFI hOF hb2 hrE O0 BW B1 g1 HRF0 O1 hS0
  go_wp2
  clear hmk fz1 hz1
  go_loopw [6] (fun st wr => ∃ t : Nat, t ≤ 27 * P.length + 1 ∧ st = .int .i64 t ∧ Hid (∃ S, OL wr w2.heap.size 25 1 (.slice (some ⟨w2.heap.size, 0, none⟩) P.length P.length) P.length ((foT E FS P t).flatMap (Lay.list Lay.int).cells) S) ∧ Below w2.heap.size w2 wr) (fun st _ => 27 * P.length + 1 - (intOf st).toNat)
  case atStart => exact ⟨0, Nat.zero_le _, rfl, HO0, HBW.out⟩
  case round =>
    obtain ⟨t, ht, rfl, HO, hbel⟩ := hrel
    clear HO0 HBW
    have g0 := (hbel.cell (p := ⟨w.heap.size, 0, none⟩) hwl).trans g2
    have hgl : w.heap.size < wr.heap.size := Nat.lt_of_lt_of_le hwl hbel.size
    by_cases hlt : t ≤ 27 * P.length
    · have HT : Hid (foT E FS P (t + 1) = foK E FS P (foT E FS P t) P.length) := rfl
      have HSt : Hid (Sets P.length (foT E FS P t)) := foT_sets P HFS.out.2 t
      generalize foT E FS P t = M at *
      go_wp2
      have hdt : decide ((t : Int) ≤ 27 * (P.length : Int)) = true := decide_eq_true (by omega)
      rw [hdt]
      have Hlt : Hid (t ≤ 27 * P.length) := hlt
      clear hlt hdt
      go_loopw [7] (fun sk wr => ∃ k : Nat, k ≤ P.length ∧ sk = .int .i64 k ∧ Hid (∃ S, OL wr w2.heap.size 25 1 (.slice (some ⟨w2.heap.size, 0, none⟩) P.length P.length) P.length ((foK E FS P M k).flatMap (Lay.list Lay.int).cells) S) ∧ Below w2.heap.size w2 wr) (fun sk _ => P.length - (intOf sk).toNat)
      case atStart => exact ⟨0, Nat.zero_le _, rfl, HO, hbel⟩
      case round =>
        obtain ⟨k, hk, rfl, HOk, hbk⟩ := hrel
        clear HO hbel g0 hgl
        have g0 := (hbk.cell (p := ⟨w.heap.size, 0, none⟩) hwl).trans g2
        have hgl : w.heap.size < wr.heap.size := Nat.lt_of_lt_of_le hwl hbk.size
        by_cases hlk : k < P.length
        · have HK : Hid (foK E FS P M (k + 1) = foI E FS k P[k] (foK E FS P M k) P[k].length) := foK_next hlk
          have HSk : Hid (Sets P.length (foK E FS P M k)) := foK_sets HFS.out.2 HSt.out k
          have hm := List.getElem_mem hlk
          have hQ := HF.out.alts _ hm
          have HQr : Hid (∀ row ∈ P[k], row.length ≤ 8) := HF.out.rows _ hm
          have HQs : Hid (∀ row ∈ P[k], ∀ z ∈ row, 0 ≤ z ∧ z < 120) := HF.out.syms _ hm
          have HQy : Hid (∀ row ∈ P[k], ∀ z ∈ row, 100 ≤ z → z - 100 < P.length) := HSY.out _ hm
          obtain ⟨b1, o1, rfl, hb1, a1, c1, q0', r1⟩ := HR.out.listAt hlk
          have HR1 : Hid (RD w2 (.slice a1 P[k].length c1) (slD (Lay.list Lay.int) P[k])) := r1
          have q0 := (hbk.cell (p := ⟨b1, o1 + k, none⟩) hb1).trans q0'
          clear r1 hm
          generalize foK E FS P M k = Mk0 at *
          generalize P[k] = Q at *
          go_wp2
          clear q0
          go_loopw [8] (fun si wr => ∃ i : Nat, i ≤ Q.length ∧ si = .int .i64 i ∧ Hid (∃ S, OL wr w2.heap.size 25 1 (.slice (some ⟨w2.heap.size, 0, none⟩) P.length P.length) P.length ((foI E FS k Q Mk0 i).flatMap (Lay.list Lay.int).cells) S) ∧ Below w2.heap.size w2 wr) (fun si _ => Q.length - (intOf si).toNat)
          case atStart => exact ⟨0, Nat.zero_le _, rfl, HOk, hbk⟩
          case round =>
            obtain ⟨i, hi, rfl, HOi, hbi⟩ := hrel
            clear HOk hbk g0 hgl
            have g0 := (hbi.cell (p := ⟨w.heap.size, 0, none⟩) hwl).trans g2
            have hgl : w.heap.size < wr.heap.size := Nat.lt_of_lt_of_le hwl hbi.size
            have q0 := (hbi.cell (p := ⟨b1, o1 + k, none⟩) hb1).trans q0'
            by_cases hli : i < Q.length
            · have hm := List.getElem_mem hli
              have hr8 := HQr.out _ hm
              have HRs : Hid (∀ z ∈ Q[i], 0 ≤ z ∧ z < 120) := HQs.out _ hm
              have HRy : Hid (∀ z ∈ Q[i], 100 ≤ z → z - 100 < P.length) := HQy.out _ hm
              have HSi : Hid (Sets P.length (foI E FS k Q Mk0 i)) := foI_sets HFS.out.2 HSk.out i
              have HN : Hid (foI E FS k Q Mk0 (i + 1) = foJ E FS k Q[i] (foI E FS k Q Mk0 i) Q[i].length) := foI_next hli
              obtain ⟨b2, o2, rfl, hb2, a2, c2, q1', r2⟩ := HR1.out.listAt hli
              have q1 := (hbi.cell (p := ⟨b2, o2 + i, none⟩) hb2).trans q1'
              have HRR : Hid (Reads w2 a2 Q[i]) := r2.reads
              have hcap := r2.capL
              clear r2 q1' hm
              generalize foI E FS k Q Mk0 i = M1 at *
              generalize Q[i] = R at *
              go_wp2
              clear q0 q1
              go_loopw [10] (fun sj wr => ∃ j : Nat, j ≤ R.length ∧ sj = .int .i64 j ∧ Hid (∃ S, OL wr w2.heap.size 25 1 (.slice (some ⟨w2.heap.size, 0, none⟩) P.length P.length) P.length ((foJ E FS k R M1 j).flatMap (Lay.list Lay.int).cells) S) ∧ Below w2.heap.size w2 wr) (fun sj _ => R.length - (intOf sj).toNat)
              case atStart => exact ⟨0, Nat.zero_le _, rfl, HOi, hbi⟩
              case round =>
                obtain ⟨j, hj, rfl, HOj, hbj⟩ := hrel
                clear HOi hbi g0 hgl
                have g0 := (hbj.cell (p := ⟨w.heap.size, 0, none⟩) hwl).trans g2
                have hgl : w.heap.size < wr.heap.size := Nat.lt_of_lt_of_le hwl hbj.size
                by_cases hlj : j < R.length
                · obtain ⟨b3, o3, rfl, hb3, hc3⟩ := HRR.out.at hlj
                  have q4' := hc3 j hlj
                  rw [List.getD_eq_getElem?_getD, List.getElem?_eq_getElem hlj, Option.getD_some] at q4'
                  have q4 := (hbj.cell (p := ⟨b3, o3 + j, none⟩) hb3).trans q4'
                  have hz := HRs.out _ (List.getElem_mem hlj)
                  have hy := HRy.out _ (List.getElem_mem hlj)
                  have HSj : Hid (Sets P.length (foJ E FS k R M1 j)) := foJ_sets HFS.out.2 HSi.out j
                  have L0 : Hid (¬ 100 ≤ R[j] → foJ E FS k R M1 (j + 1) = foJ E FS k R M1 j) := foJ_no hlj
                  have L1 : Hid (∀ n : Nat, 100 ≤ R[j] → R[j] - 100 = (n : Int) → foJ E FS k R M1 (j + 1) = foS E FS k n (R.drop (j + 1)) (foJ E FS k R M1 j)) := fun n g hn => foJ_yes hlj g hn
                  have HDZ : Hid (∀ z ∈ R.drop (j + 1), 0 ≤ z ∧ z < 120) := fun z hz => HRs.out z (List.mem_of_mem_drop hz)
                  have hdl : Hid ((R.drop (j + 1)).length = R.length - (j + 1)) := by show _ = _; simp
                  have HRd0 : Hid (Reads w2 (addrLo (some ⟨b3, o3, none⟩) c2 (j + 1)) (R.drop (j + 1))) := HRR.out.lo hcap
                  obtain ⟨aR, HaR⟩ : ∃ aR : Option Addr, Hid (addrLo (some ⟨b3, o3, none⟩) c2 (j + 1) = aR) := ⟨_, rfl⟩
                  have HRd : Hid (Reads w2 aR (R.drop (j + 1))) := by have := HRd0.out; rwa [HaR.out] at this
                  clear hc3 q4' HRd0
                  generalize foJ E FS k R M1 j = M2 at *
                  generalize R[j] = z at *
                  by_cases z1 : 100 ≤ z
                  · obtain ⟨n, hn⟩ : ∃ n : Nat, z - 100 = (n : Int) := ⟨(z - 100).toNat, by omega⟩
                    have hnP : n < P.length := by have := hy z1; omega
                    have hkM : n < M2.length := by rw [HSj.out.1]; exact hnP
                    have LS := L1.out n z1 hn
                    have hMA : Hid (Sets P.length (foA E FS n (R.drop (j + 1)) M2)) := foA_sets HFS.out.2 HSj.out
                    have HAT : Hid (foA E FS n (R.drop (j + 1)) M2 = M2.set n (joinL M2[n] (rowF FS E [] (R.drop (j + 1))))) := foA_at hkM
                    obtain ⟨S, HOL⟩ := HOj.out
                    obtain ⟨a3, c3, T3, q2, O3⟩ := HOL.setsAt HSj.out hnP
                    have hw2r : w2.heap.size < wr.heap.size := World.block_lt_of_cell? wr _ q2
                    have hMn27 : M2[n].length ≤ 27 := (HSj.out.2 _ (List.getElem_mem hkM)).len (n := 27)
                    have hrow27 : (rowF FS E [] (R.drop (j + 1))).length ≤ 27 := (rowF_setB HFS.out.2 (SetB.nil _)).len (n := 27)
                    have X : Hid (∀ W : World, Below wr.heap.size wr W → Calls Try.prog 28 #[.slice aR (R.length - (j + 1)) (c2 - (j + 1)), .slice aF FL cF, .slice aE E.length cE] W fun e w' => ∃ v, e = .returned v ∧ OwnInts w' W.heap.size 3 v (rowF FS E [] (R.drop (j + 1))) ∧ Below W.heap.size W w') := by
                      intro W hW
                      have := l5Row_any (R.drop (j + 1)) aR (c2 - (j + 1)) FS aF cF E aE cE W ((HRd.out.below hbj).below hW) (by have := (HRF.out.later hbj).later hW; rw [HFLen.out]; exact this) ((HRE.out.below hbj).below hW) (by rw [hdl.out]; omega) (by omega) (by rw [HFS.out.1]; exact hp) HFS.out.2 (fun z hz => by have := HDZ.out z hz; omega)
                      rw [hdl.out, HFLen.out] at this
                      exact this
                    have YY : Hid (∀ (W : World) (a4 : Option Addr) (c4 : Nat), Below wr.heap.size wr W → Reads W a4 (rowF FS E [] (R.drop (j + 1))) → Calls Try.prog 50 #[.slice a3 M2[n].length c3, .slice a4 (rowF FS E [] (R.drop (j + 1))).length c4] W fun e w' => ∃ v', e = .returned v' ∧ OwnInts w' W.heap.size 3 v' (joinL M2[n] (rowF FS E [] (R.drop (j + 1)))) ∧ Below W.heap.size W w') := fun W a4 c4 hW hr => specSetJoin_r a3 c3 a4 c4 _ _ W ((O3.rd.later hW).reads) hr (by omega) (by omega)
                    have HPUT : Hid (∀ (W : World) (v : Value), Below wr.heap.size wr W → OwnInts W wr.heap.size 3 v (joinL M2[n] (rowF FS E [] (R.drop (j + 1)))) → ∃ S', OL (W.setCell ⟨w2.heap.size, n, none⟩ v) w2.heap.size 25 1 (.slice (some ⟨w2.heap.size, 0, none⟩) P.length P.length) P.length ((foA E FS n (R.drop (j + 1)) M2).flatMap (Lay.list Lay.int).cells) S' ∧ W.frozen? ⟨w2.heap.size, n, none⟩ = false ∧ ∃ z, W.cell? ⟨w2.heap.size, n, none⟩ = some z) := by
                      intro W v hW hO
                      rw [HAT.out]
                      exact HOL.setsPut HSj.out hnP hbj.size hW hO
                    have XA : Hid (∀ W : World, Below w2.heap.size w2 W → Calls Try.prog 51 #[.slice aR (R.length - (j + 1)) (c2 - (j + 1)), .slice aE E.length cE] W fun e w' => e = .returned (.bool (allE (R.drop (j + 1)) E)) ∧ w' = W) := by
                      intro W hW
                      have := l5All_any (R.drop (j + 1)) aR (c2 - (j + 1)) E aE cE W (HRd.out.below hW) (HRE.out.below hW) (by rw [hdl.out]; omega) (by omega) (fun z hz => by have := HDZ.out z hz; omega)
                      rw [hdl.out] at this
                      exact this
                    have HNxY : Hid (allE (R.drop (j + 1)) E = true → foJ E FS k R M1 (j + 1) = foB k n (foA E FS n (R.drop (j + 1)) M2)) := fun zA => by rw [LS, foS, if_pos zA]
                    have HNxN : Hid (allE (R.drop (j + 1)) E = false → foJ E FS k R M1 (j + 1) = foA E FS n (R.drop (j + 1)) M2) := fun zA => by rw [LS, foS, if_neg (by rw [zA]; simp)]
                    clear HOj HOL O3 L0 L1 HAT hy LS HRd HDZ hdl
                    generalize foA E FS n (R.drop (j + 1)) M2 = MA at *
                    generalize rowF FS E [] (R.drop (j + 1)) = rw1 at *
                    generalize joinL M2[n] rw1 = jn at *
                    generalize M2[n].length = ln at *
                    generalize allE (R.drop (j + 1)) E = al at *
                    have hwj : IntKind.i64.wrap ((j : Int) + 1) = (j : Int) + 1 := by rw [IntKind.wrap_i64]; omega
                    have HWj : Hid (IntKind.i64.wrap ((j : Int) + 1) = ((j + 1 : Nat) : Int)) := by show _ = _; rw [hwj]; omega
                    clear hwj
                    go_upto_region 20 with fail
                    clear q4 g0
                    go_cut [] from 56 to 104 (fun wx => Hid (∃ S, OL wx w2.heap.size 25 1 (.slice (some ⟨w2.heap.size, 0, none⟩) P.length P.length) P.length ((MA).flatMap (Lay.list Lay.int).cells) S) ∧ Hid (Below w2.heap.size w2 wx))
                    case first =>
                      refine wp_region_held_drew (S := (fun _ => True)) (by kernel_rfl) trivial (fun hHeld => ?_)
                      refine take_atL (i := 0) (d := some 72) (v := .slice (some ⟨w2.heap.size, 0, none⟩) P.length P.length) rfl rfl (by kernel_rfl) (by kernel_rfl) (by kernel_rfl) (fun _ _ _ h => h) (by rfl) ?_ hHeld ?_
                      · intro w' _; go_simp; first | done | rfl | exact HWj.out
                      try simp only [Act.put, List.setIfInBounds_toArray, List.set_cons_zero, List.set_cons_succ]
                      refine take_atL (i := 1) (d := some 73) (v := .int .i64 (n : Int)) rfl rfl (by kernel_rfl) (by kernel_rfl) (by kernel_rfl) (fun _ _ _ h => h) (by rfl) ?_ hHeld ?_
                      · intro w' _; go_simp; first | done | rfl | exact HWj.out
                      try simp only [Act.put, List.setIfInBounds_toArray, List.set_cons_zero, List.set_cons_succ]
                      refine take_atL (i := 2) (d := some 74) (v := .slice (some ⟨w2.heap.size, 0, none⟩) P.length P.length) rfl rfl (by kernel_rfl) (by kernel_rfl) (by kernel_rfl) (fun _ _ _ h => h) (by rfl) ?_ hHeld ?_
                      · intro w' _; go_simp; first | done | rfl | exact HWj.out
                      try simp only [Act.put, List.setIfInBounds_toArray, List.set_cons_zero, List.set_cons_succ]
                      refine take_atL (i := 3) (d := some 75) (v := .int .i64 (n : Int)) rfl rfl (by kernel_rfl) (by kernel_rfl) (by kernel_rfl) (fun _ _ _ h => h) (by rfl) ?_ hHeld ?_
                      · intro w' _; go_simp; first | done | rfl | exact HWj.out
                      try simp only [Act.put, List.setIfInBounds_toArray, List.set_cons_zero, List.set_cons_succ]
                      refine take_atL (i := 4) (d := some 76) (v := .pointer (some ⟨w2.heap.size, n, none⟩)) rfl rfl (by kernel_rfl) (by kernel_rfl) (by kernel_rfl) (fun _ _ _ h => h) (by rfl) ?_ hHeld ?_
                      · intro w' _; go_simp; first | done | rfl | exact HWj.out
                      try simp only [Act.put, List.setIfInBounds_toArray, List.set_cons_zero, List.set_cons_succ]
                      refine take_atL (i := 6) (d := some 78) (v := .slice (some ⟨b3, o3, none⟩) R.length c2) rfl rfl (by kernel_rfl) (by kernel_rfl) (by kernel_rfl) (fun _ _ _ h => h) (by rfl) ?_ hHeld ?_
                      · intro w' _; go_simp; first | done | rfl | exact HWj.out
                      try simp only [Act.put, List.setIfInBounds_toArray, List.set_cons_zero, List.set_cons_succ]
                      refine take_atL (i := 7) (d := some 79) (v := .int .i64 (j : Int)) rfl rfl (by kernel_rfl) (by kernel_rfl) (by kernel_rfl) (fun _ _ _ h => h) (by rfl) ?_ hHeld ?_
                      · intro w' _; go_simp; first | done | rfl | exact HWj.out
                      try simp only [Act.put, List.setIfInBounds_toArray, List.set_cons_zero, List.set_cons_succ]
                      refine take_atL (i := 8) (d := some 80) (v := .int .i64 ((j + 1 : Nat) : Int)) rfl rfl (by kernel_rfl) (by kernel_rfl) (by kernel_rfl) (fun _ _ _ h => h) (by rfl) ?_ hHeld ?_
                      · intro w' _; go_simp; first | done | rfl | exact HWj.out
                      try simp only [Act.put, List.setIfInBounds_toArray, List.set_cons_zero, List.set_cons_succ]
                      refine take_atL (i := 9) (d := some 81) (v := .slice aR (R.length - (j + 1)) (c2 - (j + 1))) rfl rfl (by kernel_rfl) (by kernel_rfl) (by kernel_rfl) (fun _ _ _ h => h) (by rfl) ?_ hHeld ?_
                      · intro w' _; rw [exec_sliceLo (a := some ⟨b3, o3, none⟩) (len := R.length) (cap := c2) (lo := j + 1) rfl rfl rfl Try.underlying25 int_size (by omega) w', HaR.out]
                      try simp only [Act.put, List.setIfInBounds_toArray, List.set_cons_zero, List.set_cons_succ]
                      refine take_atL (i := 10) (d := some 82) (v := .slice aF FL cF) rfl rfl (by kernel_rfl) (by kernel_rfl) (by kernel_rfl) (fun _ _ _ h => h) (by rfl) ?_ hHeld ?_
                      · intro w' _; go_simp; try rfl
                      try simp only [Act.put, List.setIfInBounds_toArray, List.set_cons_zero, List.set_cons_succ]
                      refine take_atL (i := 11) (d := some 83) (v := .slice aE E.length cE) rfl rfl (by kernel_rfl) (by kernel_rfl) (by kernel_rfl) (fun _ _ _ h => h) (by rfl) ?_ hHeld ?_
                      · intro w' _; go_simp; try rfl
                      try simp only [Act.put, List.setIfInBounds_toArray, List.set_cons_zero, List.set_cons_succ]
                      refine wpAnyH_ready (rs := [5, 12]) (by kernel_rfl) (by simp) ?_
                      refine AllReadyH.cons (o := _) rfl (fun K hK => ?_) (AllReadyH.cons (o := _) rfl (fun K hK => ?_) AllReadyH.nil)
                      · rw [if_pos (by rfl)]
                        go_simp
                        refine hK.out _ _ trivial (fun hHeld => ?_)
                        clear hK K
                        try simp only [Act.put, List.setIfInBounds_toArray, List.set_cons_zero, List.set_cons_succ]
                        refine wpAnyH_ready (rs := [12]) (by kernel_rfl) (by simp) ?_
                        refine AllReadyH.cons (o := _) rfl (fun K hK => ?_) AllReadyH.nil
                        rw [if_pos (by rfl)]
                        go_simp
                        refine (X.out _ (Below.drew (Below.refl _ _))).mono ?_
                        rintro e w3 ⟨v3, rfl, hO3, hb3⟩
                        obtain ⟨a4, c4, rfl, hr4, _⟩ := hO3.shape
                        have hb3r : Below wr.heap.size wr w3 := Below.drewed (by simpa using hb3)
                        have q23 := (hb3r.cell (p := ⟨w2.heap.size, n, none⟩) hw2r).trans q2
                        have Y := YY.out w3 a4 c4 hb3r hr4
                        clear hO3 hr4 hb3 hHeld
                        go_wp2_with fail
                        refine hK.out _ _ trivial (fun hHeld => ?_)
                        clear hK K
                        try simp only [Act.put, List.setIfInBounds_toArray, List.set_cons_zero, List.set_cons_succ]
                        refine wpAnyH_ready (rs := [13]) (by kernel_rfl) (by simp) ?_
                        refine AllReadyH.cons (o := _) rfl (fun K hK => ?_) AllReadyH.nil
                        rw [if_pos (by rfl)]
                        go_simp
                        refine Y.mono ?_
                        rintro e w4 ⟨v4, rfl, hO4, hb4⟩
                        have hb4r : Below wr.heap.size wr w4 := hb3r.trans (hb4.mono hb3r.size)
                        obtain ⟨S5, HO5, hf5, z5, hz5⟩ := HPUT.out w4 v4 hb4r (hO4.base hb3r.size)
                        obtain ⟨a5, c5, rfl, _, _⟩ := hO4.shape
                        have HE5 : Hid (∃ S, OL (w4.setCell ⟨w2.heap.size, n, none⟩ (.slice a5 jn.length c5)) w2.heap.size 25 1 (.slice (some ⟨w2.heap.size, 0, none⟩) P.length P.length) P.length ((MA).flatMap (Lay.list Lay.int).cells) S) := ⟨S5, HO5⟩
                        have HB5 : Hid (Below w2.heap.size w2 (w4.setCell ⟨w2.heap.size, n, none⟩ (.slice a5 jn.length c5))) := (hbj.trans (hb4r.mono hbj.size)).setCell (p := ⟨w2.heap.size, n, none⟩) (Nat.le_refl _) _
                        clear Y q23 HO5 hO4 hHeld
                        go_wp2_with fail
                        refine hK.out _ _ trivial (fun hHeld => ?_)
                        clear hK K
                        try simp only [Act.put, List.setIfInBounds_toArray, List.set_cons_zero, List.set_cons_succ]
                        refine take_atL (i := 14) (d := some 86) (v := .pointer (some ⟨w2.heap.size, n, none⟩)) rfl rfl (by kernel_rfl) (by kernel_rfl) (by kernel_rfl) (fun _ _ _ h => h) (by rfl) ?_ hHeld ?_
                        · intro w' _; go_simp; try rfl
                        try simp only [Act.put, List.setIfInBounds_toArray, List.set_cons_zero, List.set_cons_succ]
                        refine wpAnyH_ready (rs := [15]) (by kernel_rfl) (by simp) ?_
                        refine AllReadyH.cons (o := _) rfl (fun K hK => ?_) AllReadyH.nil
                        rw [if_pos (by rfl)]
                        go_simp
                        refine hK.out _ _ trivial (fun hHeld => ?_)
                        clear hK K
                        try simp only [Act.put, List.setIfInBounds_toArray, List.set_cons_zero, List.set_cons_succ]
                        refine wpAnyH_done (by kernel_rfl) ?_ _
                        clear hHeld hf5 hz5
                        go_wp2_with fail
                        go_meet
                        exact ⟨HE5, HB5⟩
                      · rw [if_pos (by rfl)]
                        go_simp
                        refine (X.out _ (Below.drew (Below.refl _ _))).mono ?_
                        rintro e w3 ⟨v3, rfl, hO3, hb3⟩
                        obtain ⟨a4, c4, rfl, hr4, _⟩ := hO3.shape
                        have hb3r : Below wr.heap.size wr w3 := Below.drewed (by simpa using hb3)
                        have q23 := (hb3r.cell (p := ⟨w2.heap.size, n, none⟩) hw2r).trans q2
                        have Y := YY.out w3 a4 c4 hb3r hr4
                        clear hO3 hr4 hb3 hHeld
                        go_wp2_with fail
                        refine hK.out _ _ trivial (fun hHeld => ?_)
                        clear hK K
                        try simp only [Act.put, List.setIfInBounds_toArray, List.set_cons_zero, List.set_cons_succ]
                        refine wpAnyH_ready (rs := [5]) (by kernel_rfl) (by simp) ?_
                        refine AllReadyH.cons (o := _) rfl (fun K hK => ?_) AllReadyH.nil
                        rw [if_pos (by rfl)]
                        go_simp
                        refine hK.out _ _ trivial (fun hHeld => ?_)
                        clear hK K
                        try simp only [Act.put, List.setIfInBounds_toArray, List.set_cons_zero, List.set_cons_succ]
                        refine wpAnyH_ready (rs := [13]) (by kernel_rfl) (by simp) ?_
                        refine AllReadyH.cons (o := _) rfl (fun K hK => ?_) AllReadyH.nil
                        rw [if_pos (by rfl)]
                        go_simp
                        refine Y.mono ?_
                        rintro e w4 ⟨v4, rfl, hO4, hb4⟩
                        have hb4r : Below wr.heap.size wr w4 := hb3r.trans (hb4.mono hb3r.size)
                        obtain ⟨S5, HO5, hf5, z5, hz5⟩ := HPUT.out w4 v4 hb4r (hO4.base hb3r.size)
                        obtain ⟨a5, c5, rfl, _, _⟩ := hO4.shape
                        have HE5 : Hid (∃ S, OL (w4.setCell ⟨w2.heap.size, n, none⟩ (.slice a5 jn.length c5)) w2.heap.size 25 1 (.slice (some ⟨w2.heap.size, 0, none⟩) P.length P.length) P.length ((MA).flatMap (Lay.list Lay.int).cells) S) := ⟨S5, HO5⟩
                        have HB5 : Hid (Below w2.heap.size w2 (w4.setCell ⟨w2.heap.size, n, none⟩ (.slice a5 jn.length c5))) := (hbj.trans (hb4r.mono hbj.size)).setCell (p := ⟨w2.heap.size, n, none⟩) (Nat.le_refl _) _
                        clear Y q23 HO5 hO4 hHeld
                        go_wp2_with fail
                        refine hK.out _ _ trivial (fun hHeld => ?_)
                        clear hK K
                        try simp only [Act.put, List.setIfInBounds_toArray, List.set_cons_zero, List.set_cons_succ]
                        refine take_atL (i := 14) (d := some 86) (v := .pointer (some ⟨w2.heap.size, n, none⟩)) rfl rfl (by kernel_rfl) (by kernel_rfl) (by kernel_rfl) (fun _ _ _ h => h) (by rfl) ?_ hHeld ?_
                        · intro w' _; go_simp; try rfl
                        try simp only [Act.put, List.setIfInBounds_toArray, List.set_cons_zero, List.set_cons_succ]
                        refine wpAnyH_ready (rs := [15]) (by kernel_rfl) (by simp) ?_
                        refine AllReadyH.cons (o := _) rfl (fun K hK => ?_) AllReadyH.nil
                        rw [if_pos (by rfl)]
                        go_simp
                        refine hK.out _ _ trivial (fun hHeld => ?_)
                        clear hK K
                        try simp only [Act.put, List.setIfInBounds_toArray, List.set_cons_zero, List.set_cons_succ]
                        refine wpAnyH_done (by kernel_rfl) ?_ _
                        clear hHeld hf5 hz5
                        go_wp2_with fail
                        go_meet
                        exact ⟨HE5, HB5⟩
                    case rest =>
                      obtain ⟨HE5, HB5⟩ := hcut
                      clear q2 X YY HPUT HSj hw2r
                      have XA2 : Hid (Calls Try.prog 51 #[.slice aR (R.length - (j + 1)) (c2 - (j + 1)), .slice aE E.length cE] wc fun e w' => e = .returned (.bool al) ∧ w' = wc) := XA.out wc HB5.out
                      clear XA
                      cases al
                      · have HNx : Hid (foJ E FS k R M1 (j + 1) = MA) := HNxN.out rfl
                        clear HNxN HNxY
                        go_wp2_with (first | (refine wpList_sliceLo rfl 25 3 _ _ (some ⟨b3, o3, none⟩) R.length c2 (j + 1) rfl rfl (by first | rfl | (simp only [Nat.cast_add]; rfl) | go_num) Try.underlying25 int_size (by omega) ?_; rw [HaR.out]) | (go_at_call 51; refine XA2.out.mono ?_; rintro e w' ⟨rfl, hw'⟩; have hw2 := hw'.symm; clear hw'; subst hw2))
                        go_roundw
                        case rel => exact ⟨j + 1, by omega, by go_num, by rw [HNx.out]; exact HE5, HB5.out⟩
                        case measure => simp [intOf]; omega
                      · have HNx : Hid (foJ E FS k R M1 (j + 1) = foB k n MA) := HNxY.out rfl
                        clear HNxN HNxY
                        obtain ⟨S6, HOL6⟩ := HE5.out
                        obtain ⟨a7, c7, T7, q7, O7⟩ := HOL6.setsAt hMA.out hnP
                        obtain ⟨a8, c8, T8, q8, O8⟩ := HOL6.setsAt hMA.out hlk
                        have YB : Hid (∀ W : World, Below wc.heap.size wc W → Calls Try.prog 50 #[.slice a7 (MA[n]'(hMA.out.1.symm ▸ hnP)).length c7, .slice a8 (MA[k]'(hMA.out.1.symm ▸ hlk)).length c8] W fun e w' => ∃ v', e = .returned v' ∧ OwnInts w' W.heap.size 3 v' (joinL (MA[n]'(hMA.out.1.symm ▸ hnP)) (MA[k]'(hMA.out.1.symm ▸ hlk))) ∧ Below W.heap.size W w') := fun W hW => specSetJoin_r a7 c7 a8 c8 _ _ W ((O7.rd.later hW).reads) ((O8.rd.later hW).reads) (by have := (hMA.out.2 _ (List.getElem_mem (hMA.out.1.symm ▸ hnP))).len (n := 27); omega) (by have := (hMA.out.2 _ (List.getElem_mem (hMA.out.1.symm ▸ hlk))).len (n := 27); omega)
                        have HPUTB : Hid (∀ (W : World) (v : Value), Below wc.heap.size wc W → OwnInts W wc.heap.size 3 v (joinL (MA[n]'(hMA.out.1.symm ▸ hnP)) (MA[k]'(hMA.out.1.symm ▸ hlk))) → ∃ S', OL (W.setCell ⟨w2.heap.size, n, none⟩ v) w2.heap.size 25 1 (.slice (some ⟨w2.heap.size, 0, none⟩) P.length P.length) P.length ((foB k n MA).flatMap (Lay.list Lay.int).cells) S' ∧ W.frozen? ⟨w2.heap.size, n, none⟩ = false ∧ ∃ z, W.cell? ⟨w2.heap.size, n, none⟩ = some z) := by
                          intro W v hW hO
                          rw [foB_at (hMA.out.1.symm ▸ hnP) (hMA.out.1.symm ▸ hlk)]
                          exact HOL6.setsPut hMA.out hnP HB5.out.size hW hO
                        clear O7 O8 HE5 HOL6
                        generalize joinL (MA[n]'(hMA.out.1.symm ▸ hnP)) (MA[k]'(hMA.out.1.symm ▸ hlk)) = jB at *
                        generalize (MA[n]'(hMA.out.1.symm ▸ hnP)).length = l7 at *
                        generalize (MA[k]'(hMA.out.1.symm ▸ hlk)).length = l8 at *
                        go_wp2_with (first | (refine wpList_sliceLo rfl 25 3 _ _ (some ⟨b3, o3, none⟩) R.length c2 (j + 1) rfl rfl (by first | rfl | (simp only [Nat.cast_add]; rfl) | go_num) Try.underlying25 int_size (by omega) ?_; rw [HaR.out]) | (go_at_call 51; refine XA2.out.mono ?_; rintro e w' ⟨rfl, hw'⟩; have hw2 := hw'.symm; clear hw'; subst hw2))
                        clear XA2
                        refine wp_region_held_drew (S := (fun _ => True)) (by kernel_rfl) trivial (fun hHeld => ?_)
                        refine take_atL (i := 0) (d := some 93) (v := .slice (some ⟨w2.heap.size, 0, none⟩) P.length P.length) rfl rfl (by kernel_rfl) (by kernel_rfl) (by kernel_rfl) (fun _ _ _ h => h) (by rfl) ?_ hHeld ?_
                        · intro w' _; go_simp; try rfl
                        try simp only [Act.put, List.setIfInBounds_toArray, List.set_cons_zero, List.set_cons_succ]
                        refine take_atL (i := 1) (d := some 94) (v := .int .i64 (n : Int)) rfl rfl (by kernel_rfl) (by kernel_rfl) (by kernel_rfl) (fun _ _ _ h => h) (by rfl) ?_ hHeld ?_
                        · intro w' _; go_simp; try rfl
                        try simp only [Act.put, List.setIfInBounds_toArray, List.set_cons_zero, List.set_cons_succ]
                        refine take_atL (i := 2) (d := some 95) (v := .slice (some ⟨w2.heap.size, 0, none⟩) P.length P.length) rfl rfl (by kernel_rfl) (by kernel_rfl) (by kernel_rfl) (fun _ _ _ h => h) (by rfl) ?_ hHeld ?_
                        · intro w' _; go_simp; try rfl
                        try simp only [Act.put, List.setIfInBounds_toArray, List.set_cons_zero, List.set_cons_succ]
                        refine take_atL (i := 3) (d := some 96) (v := .int .i64 (n : Int)) rfl rfl (by kernel_rfl) (by kernel_rfl) (by kernel_rfl) (fun _ _ _ h => h) (by rfl) ?_ hHeld ?_
                        · intro w' _; go_simp; try rfl
                        try simp only [Act.put, List.setIfInBounds_toArray, List.set_cons_zero, List.set_cons_succ]
                        refine take_atL (i := 4) (d := some 97) (v := .pointer (some ⟨w2.heap.size, n, none⟩)) rfl rfl (by kernel_rfl) (by kernel_rfl) (by kernel_rfl) (fun _ _ _ h => h) (by rfl) ?_ hHeld ?_
                        · intro w' _; go_simp; try rfl
                        try simp only [Act.put, List.setIfInBounds_toArray, List.set_cons_zero, List.set_cons_succ]
                        refine take_atL (i := 6) (d := some 99) (v := .slice (some ⟨w2.heap.size, 0, none⟩) P.length P.length) rfl rfl (by kernel_rfl) (by kernel_rfl) (by kernel_rfl) (fun _ _ _ h => h) (by rfl) ?_ hHeld ?_
                        · intro w' _; go_simp; try rfl
                        try simp only [Act.put, List.setIfInBounds_toArray, List.set_cons_zero, List.set_cons_succ]
                        refine take_atL (i := 7) (d := some 100) (v := .int .i64 (k : Int)) rfl rfl (by kernel_rfl) (by kernel_rfl) (by kernel_rfl) (fun _ _ _ h => h) (by rfl) ?_ hHeld ?_
                        · intro w' _; go_simp; try rfl
                        try simp only [Act.put, List.setIfInBounds_toArray, List.set_cons_zero, List.set_cons_succ]
                        refine take_atL (i := 8) (d := some 101) (v := .pointer (some ⟨w2.heap.size, k, none⟩)) rfl rfl (by kernel_rfl) (by kernel_rfl) (by kernel_rfl) (fun _ _ _ h => h) (by rfl) ?_ hHeld ?_
                        · intro w' _; go_simp; try rfl
                        try simp only [Act.put, List.setIfInBounds_toArray, List.set_cons_zero, List.set_cons_succ]
                        refine wpAnyH_ready (rs := [5, 9]) (by kernel_rfl) (by simp) ?_
                        refine AllReadyH.cons (o := _) rfl (fun K hK => ?_) (AllReadyH.cons (o := _) rfl (fun K hK => ?_) AllReadyH.nil)
                        · rw [if_pos (by rfl)]
                          go_simp
                          refine hK.out _ _ trivial (fun hHeld => ?_)
                          clear hK K
                          try simp only [Act.put, List.setIfInBounds_toArray, List.set_cons_zero, List.set_cons_succ]
                          refine wpAnyH_ready (rs := [9]) (by kernel_rfl) (by simp) ?_
                          refine AllReadyH.cons (o := _) rfl (fun K hK => ?_) AllReadyH.nil
                          rw [if_pos (by rfl)]
                          go_simp
                          refine hK.out _ _ trivial (fun hHeld => ?_)
                          clear hK K
                          try simp only [Act.put, List.setIfInBounds_toArray, List.set_cons_zero, List.set_cons_succ]
                          refine wpAnyH_ready (rs := [10]) (by kernel_rfl) (by simp) ?_
                          refine AllReadyH.cons (o := _) rfl (fun K hK => ?_) AllReadyH.nil
                          rw [if_pos (by rfl)]
                          go_simp
                          refine (YB.out _ (Below.drew (Below.refl _ _))).mono ?_
                          rintro e w7 ⟨v7, rfl, hO7, hb7⟩
                          have hb7r : Below wc.heap.size wc w7 := Below.drewed (by simpa using hb7)
                          have hO7r : OwnInts w7 wc.heap.size 3 v7 jB := by simpa using hO7
                          obtain ⟨S8, HO8, hf8, z8, hz8⟩ := HPUTB.out w7 v7 hb7r hO7r
                          obtain ⟨a9, c9, rfl, _, _⟩ := hO7r.shape
                          have HE8 : Hid (∃ S, OL (w7.setCell ⟨w2.heap.size, n, none⟩ (.slice a9 jB.length c9)) w2.heap.size 25 1 (.slice (some ⟨w2.heap.size, 0, none⟩) P.length P.length) P.length ((foB k n MA).flatMap (Lay.list Lay.int).cells) S) := ⟨S8, HO8⟩
                          have HB8 : Hid (Below w2.heap.size w2 (w7.setCell ⟨w2.heap.size, n, none⟩ (.slice a9 jB.length c9))) := (HB5.out.trans (hb7r.mono HB5.out.size)).setCell (p := ⟨w2.heap.size, n, none⟩) (Nat.le_refl _) _
                          clear HO8 hO7 hO7r hb7 hHeld
                          go_wp2_with fail
                          refine hK.out _ _ trivial (fun hHeld => ?_)
                          clear hK K
                          try simp only [Act.put, List.setIfInBounds_toArray, List.set_cons_zero, List.set_cons_succ]
                          refine take_atL (i := 11) (d := some 104) (v := .pointer (some ⟨w2.heap.size, n, none⟩)) rfl rfl (by kernel_rfl) (by kernel_rfl) (by kernel_rfl) (fun _ _ _ h => h) (by rfl) ?_ hHeld ?_
                          · intro w' _; go_simp; try rfl
                          try simp only [Act.put, List.setIfInBounds_toArray, List.set_cons_zero, List.set_cons_succ]
                          refine wpAnyH_ready (rs := [12]) (by kernel_rfl) (by simp) ?_
                          refine AllReadyH.cons (o := _) rfl (fun K hK => ?_) AllReadyH.nil
                          rw [if_pos (by rfl)]
                          go_simp
                          refine hK.out _ _ trivial (fun hHeld => ?_)
                          clear hK K
                          try simp only [Act.put, List.setIfInBounds_toArray, List.set_cons_zero, List.set_cons_succ]
                          refine wpAnyH_done (by kernel_rfl) ?_ _
                          clear hHeld hf8 hz8
                          go_wp2
                          go_roundw
                          case rel => exact ⟨j + 1, by omega, by go_num, by rw [HNx.out]; exact HE8, HB8.out⟩
                          case measure => simp [intOf]; omega
                        · rw [if_pos (by rfl)]
                          go_simp
                          refine hK.out _ _ trivial (fun hHeld => ?_)
                          clear hK K
                          try simp only [Act.put, List.setIfInBounds_toArray, List.set_cons_zero, List.set_cons_succ]
                          refine wpAnyH_ready (rs := [5]) (by kernel_rfl) (by simp) ?_
                          refine AllReadyH.cons (o := _) rfl (fun K hK => ?_) AllReadyH.nil
                          rw [if_pos (by rfl)]
                          go_simp
                          refine hK.out _ _ trivial (fun hHeld => ?_)
                          clear hK K
                          try simp only [Act.put, List.setIfInBounds_toArray, List.set_cons_zero, List.set_cons_succ]
                          refine wpAnyH_ready (rs := [10]) (by kernel_rfl) (by simp) ?_
                          refine AllReadyH.cons (o := _) rfl (fun K hK => ?_) AllReadyH.nil
                          rw [if_pos (by rfl)]
                          go_simp
                          refine (YB.out _ (Below.drew (Below.refl _ _))).mono ?_
                          rintro e w7 ⟨v7, rfl, hO7, hb7⟩
                          have hb7r : Below wc.heap.size wc w7 := Below.drewed (by simpa using hb7)
                          have hO7r : OwnInts w7 wc.heap.size 3 v7 jB := by simpa using hO7
                          obtain ⟨S8, HO8, hf8, z8, hz8⟩ := HPUTB.out w7 v7 hb7r hO7r
                          obtain ⟨a9, c9, rfl, _, _⟩ := hO7r.shape
                          have HE8 : Hid (∃ S, OL (w7.setCell ⟨w2.heap.size, n, none⟩ (.slice a9 jB.length c9)) w2.heap.size 25 1 (.slice (some ⟨w2.heap.size, 0, none⟩) P.length P.length) P.length ((foB k n MA).flatMap (Lay.list Lay.int).cells) S) := ⟨S8, HO8⟩
                          have HB8 : Hid (Below w2.heap.size w2 (w7.setCell ⟨w2.heap.size, n, none⟩ (.slice a9 jB.length c9))) := (HB5.out.trans (hb7r.mono HB5.out.size)).setCell (p := ⟨w2.heap.size, n, none⟩) (Nat.le_refl _) _
                          clear HO8 hO7 hO7r hb7 hHeld
                          go_wp2_with fail
                          refine hK.out _ _ trivial (fun hHeld => ?_)
                          clear hK K
                          try simp only [Act.put, List.setIfInBounds_toArray, List.set_cons_zero, List.set_cons_succ]
                          refine take_atL (i := 11) (d := some 104) (v := .pointer (some ⟨w2.heap.size, n, none⟩)) rfl rfl (by kernel_rfl) (by kernel_rfl) (by kernel_rfl) (fun _ _ _ h => h) (by rfl) ?_ hHeld ?_
                          · intro w' _; go_simp; try rfl
                          try simp only [Act.put, List.setIfInBounds_toArray, List.set_cons_zero, List.set_cons_succ]
                          refine wpAnyH_ready (rs := [12]) (by kernel_rfl) (by simp) ?_
                          refine AllReadyH.cons (o := _) rfl (fun K hK => ?_) AllReadyH.nil
                          rw [if_pos (by rfl)]
                          go_simp
                          refine hK.out _ _ trivial (fun hHeld => ?_)
                          clear hK K
                          try simp only [Act.put, List.setIfInBounds_toArray, List.set_cons_zero, List.set_cons_succ]
                          refine wpAnyH_done (by kernel_rfl) ?_ _
                          clear hHeld hf8 hz8
                          go_wp2
                          go_roundw
                          case rel => exact ⟨j + 1, by omega, by go_num, by rw [HNx.out]; exact HE8, HB8.out⟩
                          case measure => simp [intOf]; omega
                  · have HNx := L0.out z1
                    have z2 : z < 100 := by omega
                    clear L0 L1 hy z1 HaR HRd
                    go_wp2
                    go_roundw
                    case rel => exact ⟨j + 1, by omega, by go_num, by rw [HNx]; exact HOj, hbj⟩
                    case measure => simp [intOf]; omega
                · have e : j = R.length := by omega
                  subst e
                  have HNe := HN.out
                  clear HN
                  go_wp2
                  go_roundw
                  case rel => exact ⟨i + 1, by omega, by go_num, by rw [HNe]; exact HOj, hbj⟩
                  case measure => simp [intOf]; omega
            · have e : i = Q.length := by omega
              subst e
              have HKe := HK.out
              clear HK
              go_wp2
              go_roundw
              case rel => exact ⟨k + 1, by omega, by go_num, by rw [HKe]; exact HOi, hbi⟩
              case measure => simp [intOf]; omega
        · have e : k = P.length := by omega
          subst e
          have HTe := HT.out
          clear HT
          go_wp2
          have hlt := Hlt.out
          go_roundw
          case rel => exact ⟨t + 1, by omega, by go_num, by rw [HTe]; exact HOk, hbk⟩
          case measure => simp [intOf]; omega
    · have e : t = 27 * P.length + 1 := by omega
      subst e
      obtain ⟨S, HOL⟩ := HO.out
      have hfl : (followsL P).length = P.length := by rw [HFL.out]; exact (foT_sets P HFS.out.2 _).1
      have HD : Hid (OD wr w.heap.size (.slice (some ⟨w2.heap.size, 0, none⟩) P.length P.length) (slD (Lay.list Lay.int) (followsL P)) S) := by
        have := HOL.od.base (b' := w.heap.size) (by omega)
        show OD _ _ _ _ _
        unfold slD; rw [hfl, HFL.out]; exact this
      clear HOL HO HFL hfl
      go_wp2
      go_ret
      exact ⟨_, _, rfl, HD.out, hb2'.trans (hbel.mono (by omega))⟩
end Go.Proofs.Ytdniejpblhbjkab
namespace Go.Proofs.Ytdniejpblhbjkab
open Go.RowKit

theorem firstsL_setsF (P : List (List (List Int))) : Sets P.length (firstsL P) := fiT_sets _ P _
/-- What FollowOf answers. -/
def resFollowOf (x : Gm) (n : Int) : List Int := if gramOkB x.parts && inB n 0 (x.parts.length - 1) then (followsL x.parts).getD n.toNat [] else []
theorem resFollowOf_le (x : Gm) (n : Int) (_ : Lay.gram.wt x ≤ 1048576) (_ : Lay.gram.fit x) (_ : (Lit.int .i64 n).wf = true) : (Lay.list Lay.int).wt (resFollowOf x n) ≤ 2097152 := by
  rw [Lay.wt_ints, resFollowOf]
  split
  · have := ((foT_sets (E := emptiesL x.parts) x.parts (firstsL_setsF x.parts).2 (27 * x.parts.length + 1)).get (k := n.toNat)).len (n := 27)
    unfold followsL; omega
  · simp

set_option maxHeartbeats 1000000 in
set_option maxRecDepth 100000 in
theorem specFollowOf_any (x : Gm) (a0 : Option Addr) (c0 : Nat) (n : Int) (w : World) (h0 : RD w (.slice a0 x.parts.length c0) (slD (Lay.list (Lay.list Lay.int)) x.parts)) (hn : Lay.gram.wt x ≤ 1048576) (hf : Lay.gram.fit x) (hwf : (Lit.int .i64 n).wf = true) :
    Calls Try.prog 18 #[.agg #[.slice a0 x.parts.length c0], .int .i64 n] w fun e w' => ∃ v S, e = .returned v ∧ OD w' w.heap.size v (slD Lay.int (resFollowOf x n)) S ∧ Below w.heap.size w w' := by
  unfold resFollowOf
  have B0 := (Below.refl w.heap.size w).alloc (Nat.le_refl _) (.cells #[.slice a0 x.parts.length c0] 28)
  have HOK : Hid (∀ W : World, Below w.heap.size w W → Calls Try.prog 27 #[.agg #[.slice a0 x.parts.length c0]] W fun e w' => e = .returned (.bool (gramOkB x.parts)) ∧ Below W.heap.size W w') := fun W hW => specGramOk_any x a0 c0 W (h0.later hW) hn hf
  have hnb := wf_i64 hwf
  by_cases hok : gramOkB x.parts = true
  · have HFO : Hid (∀ W : World, Below w.heap.size w W → Calls Try.prog 39 #[.agg #[.slice a0 x.parts.length c0]] W fun e w' => ∃ v S, e = .returned v ∧ OD w' W.heap.size v (slD (Lay.list Lay.int) (followsL x.parts)) S ∧ Below W.heap.size W w') := fun W hW => l5Follows_any x.parts a0 c0 W (h0.later hW) hok
    have HS : Hid (Sets x.parts.length (followsL x.parts)) := foT_sets _ (firstsL_setsF x.parts).2 _
    have hp := (Fits.of hok).parts
    rw [hok] at HOK ⊢
    rw [Bool.true_and]
    clear h0 hn hf hok hwf
    generalize followsL x.parts = M at *
    generalize x.parts = P at *
    by_cases hin : inB n 0 ((P.length : Int) - 1) = true
    · have hi2 := inB_true.1 hin
      obtain ⟨k, rfl⟩ := Int.eq_ofNat_of_zero_le hi2.1
      have hkP : k < P.length := by omega
      have hkM : k < M.length := by rw [HS.out.1]; exact hkP
      have eM : M.getD (k : Int).toNat [] = M[k] := by simp [List.getD, hkM]
      have h27 : M[k].length ≤ 27 := (HS.out.2 _ (List.getElem_mem hkM)).len (n := 27)
      rw [if_pos hin, eM]
      clear eM
      go_enter Try.func18, Try.ntmps18
      go_wp2_with fail
      refine (HOK.out _ B0).mono ?_
      rintro e w1 ⟨rfl, hb1⟩
      have g0 : w1.cell? ⟨w.heap.size, 0, none⟩ = some (.slice a0 P.length c0) := (hb1.cell (p := ⟨w.heap.size, 0, none⟩) (by simp)).trans (by simp)
      have B1 := B0.trans (hb1.mono B0.size)
      have hgl : w.heap.size < w1.heap.size := World.block_lt_of_cell? w1 _ g0
      clear HOK hb1 B0
      go_wp2_with fail
      refine (l1In_any _ _ _ _).mono ?_
      rintro e w' ⟨rfl, rfl⟩
      go_wp2_with fail
      refine (HFO.out _ B1).mono ?_
      rintro e w2 ⟨v2, S2, rfl, hO2, hb2⟩
      obtain ⟨a2, c2, rfl, hg2⟩ := OD.shapeL hO2
      obtain ⟨g, rfl⟩ := hg2 (by intro e; rw [e] at hkM; simp at hkM)
      obtain ⟨a3, c3, T3, q3, O3, _, _⟩ := hO2.listInto hkM
      have B2 := B1.trans (hb2.mono B1.size)
      have HD : Hid (OD w2 w.heap.size (.slice a3 M[k].length c3) (slD Lay.int M[k]) T3) := O3.base B1.size
      have hMl := HS.out.1
      clear HFO hb2 HS hO2 O3 g0
      go_wp2
      go_ret
      exact ⟨_, _, rfl, HD.out, B2⟩
    · have hin2 : inB n 0 ((P.length : Int) - 1) = false := by simpa using hin
      rw [if_neg hin]
      clear hin HFO HS
      go_enter Try.func18, Try.ntmps18
      go_wp2_with fail
      refine (HOK.out _ B0).mono ?_
      rintro e w1 ⟨rfl, hb1⟩
      have g0 : w1.cell? ⟨w.heap.size, 0, none⟩ = some (.slice a0 P.length c0) := (hb1.cell (p := ⟨w.heap.size, 0, none⟩) (by simp)).trans (by simp)
      have B1 := B0.trans (hb1.mono B0.size)
      have hgl : w.heap.size < w1.heap.size := World.block_lt_of_cell? w1 _ g0
      clear HOK hb1 B0
      go_wp2_with (go_at_call 38; refine (l1In_any _ _ _ _).mono ?_; rintro e w' ⟨rfl, rfl⟩)
      go_ret
      exact ⟨_, _, rfl, (OwnInts.empty B1.size).od, B1.trans ((Below.refl _ _).alloc B1.size _)⟩
  · have hok2 : gramOkB x.parts = false := by simpa using hok
    rw [hok2] at HOK ⊢
    rw [Bool.false_and, if_neg (by decide)]
    clear hok h0 hn hf hok2 hwf
    generalize x.parts = P at *
    go_enter Try.func18, Try.ntmps18
    go_wp2_with (go_at_call 27; refine (HOK.out _ B0).mono ?_; rintro e w1 ⟨rfl, hb1⟩)
    go_ret
    have B1 := B0.trans (hb1.mono B0.size)
    exact ⟨_, _, rfl, (OwnInts.empty (w := w1) B1.size).od, B1.trans ((Below.refl _ _).alloc B1.size _)⟩
end Go.Proofs.Ytdniejpblhbjkab
namespace Go.Proofs.Ytdniejpblhbjkab
open Go.RowKit
section
variable {P : Program}
theorem run_items_of {e : TypeId} {c d : Nat} {xs ys : Array Value} {w : World} {r : Nat → Bool} : ∀ is : List Nat, (∀ i ∈ is, ∃ x y, (part e xs (i * c)).run P w = .ok x w ∧ (part e ys (i * c)).run P w = .ok y w ∧ (Op.equalIn d e x y).run P w = .ok (r i) w) → (Op.eqItems d e c xs ys is).run P w = .ok (is.all r) w
  | [], _ => by simp [Op.eqItems]
  | i :: is, h => by
    obtain ⟨x, y, h1, h2, h3⟩ := h i List.mem_cons_self
    have ih := run_items_of is (fun j hj => h j (List.mem_cons_of_mem _ hj))
    rw [Op.eqItems]
    simp only [Sem.run_bind, h1, h2, h3, Result.andThen_ok, List.all_cons]
    cases r i
    · simp
    · simp only [Bool.not_true, Bool.false_eq_true, if_false, Bool.true_and]; exact ih
theorem all_range_eq {us bs : List Bool} {n : Nat} (ha : us.length = n) (hb : bs.length = n) : ((List.range n).all fun i => us.getD i false == bs.getD i false) = decide (us = bs) := by
  rw [Bool.eq_iff_iff]
  simp only [List.all_eq_true, List.mem_range, beq_iff_eq, decide_eq_true_eq]
  constructor
  · intro h; exact list_ext_getD (by omega) (fun i hi => h i (by omega))
  · rintro rfl; exact fun _ _ => rfl
/-- Arrays of bools. -/
theorem run_eq_flags {ty e : TypeId} {n : Nat} {w : World} (d : Nat) (hu : P.underlying ty = some (.array n e)) (he : P.underlying e = some .bool) (hz : (P.info? e).map (·.size) = some 1) {us bs : List Bool} (ha : us.length = n) (hb : bs.length = n) :
    (Op.equalIn (d + 2) ty (aggB us) (aggB bs)).run P w = .ok (decide (us = bs)) w := by
  cases hq : P.info? e with
  | none => simp [hq] at hz
  | some j =>
    have hc : P.cellsOf e = 1 := by rw [Program.cellsOf, hz]; rfl
    unfold aggB
    rw [run_equalIn_array w (d + 1) _ _ hu hq, hc, run_items_of (r := fun i => us.getD i false == bs.getD i false), all_range_eq ha hb]
    intro i hi
    rw [List.mem_range] at hi
    have hx : (cellsB us)[i]? = some (.bool (us.getD i false)) := by rw [cellsB_get]; simp [List.getD, ha, hi]
    have hy : (cellsB bs)[i]? = some (.bool (bs.getD i false)) := by rw [cellsB_get]; simp [List.getD, hb, hi]
    have hg : (isAgg e).run P w = .ok false w := by simp [isAgg, run_underlying he]
    refine ⟨.bool (us.getD i false), .bool (bs.getD i false), ?_, ?_, run_equalIn_bool w d e _ _ he⟩
    · simp only [part, Sem.run_bind, hg, Result.andThen_ok, Nat.mul_one, hx]; rfl
    · simp only [part, Sem.run_bind, hg, Result.andThen_ok, Nat.mul_one, hy]; rfl
theorem chunks_eq {us bs : List Bool} {n m : Nat} (ha : us.length = m * n) (hb : bs.length = m * n) : ((List.range m).all fun i => decide ((us.drop (i * n)).take n = (bs.drop (i * n)).take n)) = decide (us = bs) := by
  rw [Bool.eq_iff_iff]
  simp only [List.all_eq_true, List.mem_range, decide_eq_true_eq]
  constructor
  · intro h
    apply list_ext_getD (by omega)
    intro i hi
    have hn : 0 < n := by
      rcases Nat.eq_zero_or_pos n with e | e
      · subst e; omega
      · exact e
    have h1 : i / n < m := by
      rw [Nat.div_lt_iff_lt_mul hn]; omega
    have h2 := h (i / n) h1
    have h3 := congrArg (fun l : List Bool => l.getD (i % n) false) h2
    have h4 := Nat.mod_lt i hn
    have h5 : i / n * n + i % n = i := by rw [Nat.mul_comm]; exact Nat.div_add_mod i n
    simpa [List.getD, List.getElem?_take, h4, h5] using h3
  · rintro rfl; exact fun _ _ => rfl
/-- Arrays of arrays of bools. -/
theorem run_eq_table {ty e e2 : TypeId} {n m : Nat} {w : World} (d : Nat) (hu : P.underlying ty = some (.array m e)) (he : P.underlying e = some (.array n e2)) (he2 : P.underlying e2 = some .bool) (hz : (P.info? e).map (·.size) = some n) (hz2 : (P.info? e2).map (·.size) = some 1) {us bs : List Bool} (ha : us.length = m * n) (hb : bs.length = m * n) :
    (Op.equalIn (d + 3) ty (aggB us) (aggB bs)).run P w = .ok (decide (us = bs)) w := by
  cases hq : P.info? e with
  | none => simp [hq] at hz
  | some j =>
    have hc : P.cellsOf e = n := by rw [Program.cellsOf, hz]; rfl
    have hs : (sizeOf e).run P w = .ok n w := by rw [run_sizeOf w hq, hc]
    have hg : (isAgg e).run P w = .ok true w := by simp [isAgg, run_underlying he]
    have hp : ∀ (cs : List Bool) (i : Nat), (part e (cellsB cs) (i * n)).run P w = .ok (aggB ((cs.drop (i * n)).take n)) w := by
      intro cs i
      have hx : (cellsB cs).extract (i * n) (i * n + n) = cellsB ((cs.drop (i * n)).take n) := by
        apply Array.ext_getElem?
        intro k
        rw [cellsB_get, Array.getElem?_extract]
        simp only [List.getElem?_take, List.getElem?_drop, cellsB_get]
        rw [cellsB_size]
        by_cases g : k < n
        · by_cases g2 : i * n + k < cs.length
          · rw [if_pos (by omega), if_pos g]
          · rw [if_neg (by omega), if_pos g, List.getElem?_eq_none (by omega)]; rfl
        · rw [if_neg (by omega), if_neg g]; rfl
      simp only [part, Sem.run_bind, hg, Result.andThen_ok, if_true, hs, hx]
      rfl
    unfold aggB
    rw [run_equalIn_array w (d + 2) _ _ hu hq, hc, run_items_of (r := fun i => decide ((us.drop (i * n)).take n = (bs.drop (i * n)).take n)), chunks_eq ha hb]
    intro i hi
    rw [List.mem_range] at hi
    have hin : i * n + n ≤ m * n := by
      have := Nat.mul_le_mul_right n (show i + 1 ≤ m by omega)
      rw [Nat.succ_mul] at this; exact this
    refine ⟨_, _, hp us i, hp bs i, run_eq_flags d he he2 hz2 ?_ ?_⟩
    · rw [List.length_take, List.length_drop]; omega
    · rw [List.length_take, List.length_drop]; omega
theorem exec_eqlB {ρ : Operand → Value} {o : Oper} {w : World} {ty rt : TypeId} {x y : Operand} {us bs : List Bool} (ho : o.op = .binOp .eql ty x y rt) (hx : ρ x = aggB us) (hy : ρ y = aggB bs) (hg : P.eqGuardType P.depth ty = false) (he : (Op.equalIn 10000 ty (aggB us) (aggB bs)).run P w = .ok (decide (us = bs)) w) :
    (execOp ρ o).run P w = .ok (.value (.bool (decide (us = bs)))) w := by
  unfold execOp
  unfold aggB at *
  simp only [ho, hx, hy, Sem.run_bind, run_eqGuard_agg w _ _ _ _ _ _ hg, Result.andThen_ok, run_eql_struct, he, Sem.run_pure]
/-- Parts are put together. -/
theorem zip_putL (cs : List Bool) : ∀ (bs : List Bool) (o k : Nat), ((cs.map Value.bool).zipIdx k).foldl (fun (ys : Array Value) (p : Value × Nat) => ys.setIfInBounds (o + p.2) p.1) (cellsB bs) = cellsB (putB bs (o + k) cs) := by
  induction cs with
  | nil => intro bs o k; rfl
  | cons v r ih =>
    intro bs o k
    have h := ih (bs.set (o + k) v) o (k + 1)
    have e : cellsB (bs.set (o + k) v) = (cellsB bs).setIfInBounds (o + k) (.bool v) := by simp [cellsB, List.map_set]
    rw [putB, show o + k + 1 = o + (k + 1) by omega, ← h, List.map_cons, List.zipIdx_cons, List.foldl_cons, e]
theorem zip_put (cs bs : List Bool) (o k : Nat) : ((cellsB cs).zipIdx k).foldl (fun (ys : Array Value) (p : Value × Nat) => ys.setIfInBounds (o + p.2) p.1) (cellsB bs) = cellsB (putB bs (o + k) cs) := by
  rw [← zip_putL cs bs o k, ← Array.foldl_toList]
  congr 1
  simp [cellsB]
theorem fill_put {place : Nat → Option (Nat × Nat)} {bs cs : List Bool} {i off : Nat} {rest : List (Nat × Value)} (h : place i = some (off, cs.length)) (hn : off + cs.length ≤ bs.length) : Instr.fill place (cellsB bs) ((i, aggB cs) :: rest) = Instr.fill place (cellsB (putB bs off cs)) rest := by
  have z := zip_put cs bs off 0
  rw [Instr.fill, h]
  simp only [aggB, Value.cells, cellsB_size]
  rw [if_neg (by simp; omega)]
  congr 1
end
end Go.Proofs.Ytdniejpblhbjkab
namespace Go.Proofs.Ytdniejpblhbjkab
open Go.RowKit

section
variable {P : Program}
theorem wpList_boxB {ops : Array Oper} {rest : List Oper} {o : Oper} {a : Act} {w : World} {Q : Exit → Act → World → Prop} (hgd : Region.wanted o (yielded ops a.tmps) = true) (ty : TypeId) (x : Operand) (ho : o.op = .box ty x) (bs : List Bool) (hx : a.eval x = aggB bs)
    (h : ∀ w', Bits w' w.heap.size ty bs → Below w.heap.size w w' → w'.heap.size = w.heap.size + 1 → wpList P ops Q rest (a.put o.dst (.pointer (some ⟨w.heap.size, 0, none⟩))) w') : wpList P ops Q (o :: rest) a w := by
  obtain ⟨w', h1, h2, h3, h4⟩ := exec_boxB (P := P) (w := w) ho hx
  exact wpList_val hgd h1 (h w' h2 h3 h4)
theorem wpList_allocB {ops : Array Oper} {rest : List Oper} {o : Oper} {a : Act} {w : World} {Q : Exit → Act → World → Prop} (hgd : Region.wanted o (yielded ops a.tmps) = true) (ty : TypeId) (ho : o.op = .alloc ty) (n : Nat) (hT : BitT P ty n)
    (h : ∀ w', Bits w' w.heap.size ty (List.replicate n false) → Below w.heap.size w w' → w'.heap.size = w.heap.size + 1 → wpList P ops Q rest (a.put o.dst (.pointer (some ⟨w.heap.size, 0, none⟩))) w') : wpList P ops Q (o :: rest) a w := by
  obtain ⟨w', h1, h2, h3, h4⟩ := exec_allocB (P := P) (w := w) (ρ := a.eval) ho hT
  exact wpList_val hgd h1 (h w' h2 h3 h4)
theorem wpList_loadB {ops : Array Oper} {rest : List Oper} {o : Oper} {a : Act} {w : World} {Q : Exit → Act → World → Prop} (hgd : Region.wanted o (yielded ops a.tmps) = true) (ty : TypeId) (x : Operand) (ho : o.op = .load ty x) (b off n : Nat) (t : TypeId) (bs : List Bool) (hx : a.eval x = .pointer (some ⟨b, off, none⟩)) (hT : BitT P ty n) (hB : Bits w b t bs) (hn : off + n ≤ bs.length)
    (h : wpList P ops Q rest (a.put o.dst (aggB ((bs.drop off).take n))) w) : wpList P ops Q (o :: rest) a w :=
  wpList_val hgd (exec_loadB ho hx hT hB hn) h
theorem wpList_loadW {ops : Array Oper} {rest : List Oper} {o : Oper} {a : Act} {w : World} {Q : Exit → Act → World → Prop} (hgd : Region.wanted o (yielded ops a.tmps) = true) (ty : TypeId) (x : Operand) (ho : o.op = .load ty x) (b : Nat) (t : TypeId) (bs : List Bool) (hx : a.eval x = .pointer (some ⟨b, 0, none⟩)) (hT : BitT P ty bs.length) (hB : Bits w b t bs)
    (h : wpList P ops Q rest (a.put o.dst (aggB bs)) w) : wpList P ops Q (o :: rest) a w :=
  wpList_val hgd (exec_loadW ho hx hT hB) h
theorem wpList_storeB {ops : Array Oper} {rest : List Oper} {o : Oper} {a : Act} {w : World} {Q : Exit → Act → World → Prop} (hgd : Region.wanted o (yielded ops a.tmps) = true) (ty : TypeId) (x y : Operand) (ho : o.op = .store ty x y) (b off : Nat) (t : TypeId) (bs cs : List Bool) (hx : a.eval x = .pointer (some ⟨b, off, none⟩)) (hy : a.eval y = aggB cs) (hT : BitT P ty cs.length) (hB : Bits w b t bs) (hn : off + cs.length ≤ bs.length)
    (h : ∀ w', Bits w' b t (putB bs off cs) → w.grownBy w' (some b) → wpList P ops Q rest (a.put o.dst undef) w') : wpList P ops Q (o :: rest) a w := by
  obtain ⟨w', h1, h2, h3⟩ := exec_storeB (P := P) ho hx hy hT hB hn
  exact wpList_unit hgd h1 (h w' h2 h3)
theorem wpList_eqlB {ops : Array Oper} {rest : List Oper} {o : Oper} {a : Act} {w : World} {Q : Exit → Act → World → Prop} (hgd : Region.wanted o (yielded ops a.tmps) = true) (ty rt : TypeId) (x y : Operand) (ho : o.op = .binOp .eql ty x y rt) (cs bs : List Bool) (hx : a.eval x = aggB cs) (hy : a.eval y = aggB bs) (hg : P.eqGuardType P.depth ty = false) (he : (Op.equalIn 10000 ty (aggB cs) (aggB bs)).run P w = .ok (decide (cs = bs)) w)
    (h : wpList P ops Q rest (a.put o.dst (.bool (decide (cs = bs)))) w) : wpList P ops Q (o :: rest) a w :=
  wpList_val hgd (exec_eqlB ho hx hy hg he) h
theorem wpList_indexB {ops : Array Oper} {rest : List Oper} {o : Oper} {a : Act} {w : World} {Q : Exit → Act → World → Prop} (hgd : Region.wanted o (yielded ops a.tmps) = true) (ty e : TypeId) (x y : Operand) (ho : o.op = .index ty x y) (bs : List Bool) (i : Nat) (hx : a.eval x = aggB bs) (hy : a.eval y = .int .i64 i) (hu : P.underlying ty = some (.array bs.length e)) (he : P.underlying e = some .bool) (hz : (P.info? e).map (·.size) = some 1) (hi : i < bs.length)
    (h : wpList P ops Q rest (a.put o.dst (.bool (bs.getD i false))) w) : wpList P ops Q (o :: rest) a w :=
  wpList_val hgd (exec_indexB ho hx hy hu he hz hi) h
end

theorem row_of {P : Program} {ty : TypeId} (h : (P.underlying ty).map TypeDesc.isRow = some true) : ∃ d, P.underlying ty = some d ∧ d.isRow = true := by
  cases hq : P.underlying ty with
  | none => simp [hq] at h
  | some d => exact ⟨d, rfl, by simpa [hq] using h⟩
set_option maxRecDepth 100000 in
theorem bt_flags : BitT Try.prog 47 27 := ⟨by kernel_rfl, row_of (by kernel_rfl)⟩
set_option maxRecDepth 100000 in
theorem bt_table : BitT Try.prog 50 540 := ⟨by kernel_rfl, row_of (by kernel_rfl)⟩
set_option maxRecDepth 100000 in
theorem bt_begin : BitT Try.prog 52 567 := ⟨by kernel_rfl, row_of (by kernel_rfl)⟩
theorem bool_size : (Try.prog.info? 4).map (·.size) = some 1 := by kernel_rfl
theorem u_flags : Try.prog.underlying 47 = some (.array 27 4) := by kernel_rfl
theorem u_bool : Try.prog.underlying 4 = some .bool := by kernel_rfl

/-- The numbers below k whose flag is up. -/
def numsB (f : Nat → Bool) : Nat → List Int
  | 0 => []
  | k + 1 => if f k then numsB f k ++ [(k : Int)] else numsB f k
theorem numsB_len (f : Nat → Bool) (k : Nat) : (numsB f k).length ≤ k := by
  induction k with
  | zero => simp [numsB]
  | succ k ih =>
    rw [numsB]
    split
    · rw [List.length_append, List.length_singleton]; omega
    · omega
theorem mem_numsB {f : Nat → Bool} {k : Nat} {x : Int} : x ∈ numsB f k ↔ ∃ n : Nat, n < k ∧ x = n ∧ f n = true := by
  induction k with
  | zero => simp [numsB]
  | succ k ih =>
    rw [numsB]
    split
    · rename_i h
      rw [List.mem_append, ih, List.mem_singleton]
      constructor
      · rintro (⟨n, h1, h2, h3⟩ | rfl)
        · exact ⟨n, by omega, h2, h3⟩
        · exact ⟨k, by omega, rfl, h⟩
      · rintro ⟨n, h1, h2, h3⟩
        by_cases e : n = k
        · subst e; exact .inr h2
        · exact .inl ⟨n, by omega, h2, h3⟩
    · rename_i h
      rw [ih]
      constructor
      · rintro ⟨n, h1, h2, h3⟩; exact ⟨n, by omega, h2, h3⟩
      · rintro ⟨n, h1, h2, h3⟩
        refine ⟨n, ?_, h2, h3⟩
        by_cases e : n = k
        · subst e; exact absurd h3 h
        · omega
theorem numsB_sorted (f : Nat → Bool) (k : Nat) : (numsB f k).Pairwise (· < ·) := by
  induction k with
  | zero => exact List.Pairwise.nil
  | succ k ih =>
    rw [numsB]
    split
    · rw [List.pairwise_append]
      refine ⟨ih, List.pairwise_singleton _ _, fun x hx y hy => ?_⟩
      obtain ⟨n, h1, rfl, _⟩ := mem_numsB.1 hx
      rw [List.mem_singleton] at hy
      omega
    · exact ih

set_option maxRecDepth 100000 in
theorem numbers_any (b off : Nat) (t : TypeId) (bs : List Bool) (w : World) (hB : Bits w b t bs) (hl : off + 27 ≤ bs.length) :
    Calls Try.prog 35 #[.pointer (some ⟨b, off, none⟩)] w fun e w' => ∃ v, e = .returned v ∧ OwnInts w' w.heap.size 3 v (numsB (fun n => bs.getD (off + n) false) 27) ∧ Below w.heap.size w w' := by
  obtain ⟨f, Hf⟩ : ∃ f : Nat → Bool, Hid (f = fun n => bs.getD (off + n) false) := ⟨_, rfl⟩
  rw [← Hf.out]
  have HC : Hid (∀ W : World, Below w.heap.size w W → ∀ n, n < 27 → W.cell? ⟨b, off + n, none⟩ = some (.bool (f n))) := by
    intro W hW n hn
    rw [Hf.out]
    exact (hB.later hW).cell (by omega)
  clear Hf hB hl
  go_enter Try.func35, Try.ntmps35
  go_wp2
  go_loopw [3, 7] (fun so sk wr => ∃ k : Nat, k ≤ 27 ∧ sk = .int .i64 k ∧ OwnInts wr w.heap.size 3 so (numsB f k) ∧ Below w.heap.size w wr) (fun _ sk _ => 27 - (intOf sk).toNat)
  case atStart => exact ⟨0, Nat.zero_le _, rfl, OwnInts.nil _ _ _, Below.refl _ _⟩
  case round =>
    obtain ⟨k, hk, rfl, hO, hbel⟩ := hrel
    by_cases hlt : k < 27
    · have q0 := HC.out wr hbel k hlt
      have HN : Hid (numsB f (k + 1) = if f k then numsB f k ++ [(k : Int)] else numsB f k) := rfl
      have hln := numsB_len f k
      generalize numsB f k = ns at *
      go_wp2
      go_quiet (fail)
      have hb2 := hbel.trans ((below_drew (w := wr) nq).mono hbel.size)
      have hO2 := hO.below (below_drew nq)
      clear hbel hO q0
      generalize wr.drewN nq = wq at *
      by_cases hf : f k = true
      · rw [hf] at HN
        rw [hf]
        rw [if_pos rfl] at HN
        go_wp2_with (at_builtin; refine wpList_append_ints _ rfl (.tmp 14) (.tmp 16) 25 rfl w.heap.size 3 Try.underlying25 Try.infoInt _ _ rfl (hO2.alloc _) _ _ _ [(k : Int)] rfl rfl (Reads.new _ _ _) (by simp; omega) (Nat.le_trans hb2.size (by simp)) ?_)
        intro v3 w3 hO3 hg3
        have hb3 : Below w.heap.size w w3 := (hb2.alloc hb2.size _).grown hg3 (Nat.le_trans hb2.size (by simp)) (fun j hj => (hO2.block j hj).1)
        clear hO2 hb2 hg3
        go_wp2
        go_roundw
        case rel => exact ⟨k + 1, by omega, by go_num, by rw [HN.out]; exact hO3, hb3⟩
        case measure => simp [intOf]; omega
      · have hf2 : f k = false := by simpa using hf
        clear hf
        rw [hf2] at HN
        rw [hf2]
        rw [if_neg (by simp)] at HN
        go_wp2
        go_roundw
        case rel => exact ⟨k + 1, by omega, by go_num, by rw [HN.out]; exact hO2, hb2⟩
        case measure => simp [intOf]; omega
    · have e : k = 27 := by omega
      subst e
      clear HC
      go_wp2
      go_ret
      exact ⟨_, rfl, hO, hbel⟩

/-- All symbols of the row are of parts whose flag is up. -/
def allB (bs : List Bool) (row : List Int) : Bool := row.all fun x => decide (100 ≤ x ∧ x - 100 < 20) && bs.getD (x - 100).toNat false
theorem allB_step {p : Int → Bool} {xs : List Int} {k : Nat} (h : (xs.take k).all p = true) (hk : k < xs.length) (g : p xs[k] = true) : (xs.take (k + 1)).all p = true := by
  rw [List.take_succ_eq_append_getElem hk, List.all_append, h]; simp [g]
theorem allB_no {p : Int → Bool} {xs : List Int} {k : Nat} (hk : k < xs.length) (g : p xs[k] = false) : xs.all p = false := by
  rw [Bool.eq_false_iff]; intro h
  rw [List.all_eq_true] at h
  have := h _ (List.getElem_mem hk)
  rw [g] at this; cases this
theorem allB_end {p : Int → Bool} {xs : List Int} {k : Nat} (h : (xs.take k).all p = true) (hk : ¬ k < xs.length) : xs.all p = true := by
  rwa [List.take_of_length_le (by omega)] at h

set_option maxRecDepth 100000 in
theorem allOf_any (zs : List Int) (a : Option Addr) (c : Nat) (bs : List Bool) (w : World) (h : Reads w a zs) (hl : zs.length ≤ 1048576) (hz : ∀ z ∈ zs, -9223372036854775808 ≤ z ∧ z ≤ 9223372036854775807) (hb : bs.length = 27) :
    Calls Try.prog 68 #[.slice a zs.length c, aggB bs] w fun e w' => e = .returned (.bool (allB bs zs)) ∧ Below w.heap.size w w' := by
  have HZ : Hid (∀ z ∈ zs, -9223372036854775808 ≤ z ∧ z ≤ 9223372036854775807) := hz
  clear hz
  go_enter Try.func68, Try.ntmps68
  go_wp2_with (refine wpList_boxB rfl 47 _ rfl bs rfl ?_; intro w1 hB1 hb1 hs1)
  go_loop [9] (fun s => ∃ k : Nat, k ≤ zs.length ∧ s = .int .i64 k ∧ Hid ((zs.take k).all (fun x => decide (100 ≤ x ∧ x - 100 < 20) && bs.getD (x - 100).toNat false) = true)) (fun s => zs.length - (intOf s).toNat)
  case atStart => exact ⟨0, Nat.zero_le _, rfl, by show _ = _; simp⟩
  case round =>
    obtain ⟨k, hk, rfl, HK⟩ := hrel
    have h1 := h.below hb1
    by_cases hlt : k < zs.length
    · obtain ⟨b, off, rfl, hbb, hc⟩ := h1.at hlt
      have q1 := hc k hlt
      rw [List.getD_eq_getElem?_getD, List.getElem?_eq_getElem hlt, Option.getD_some] at q1
      have hr := HZ.out zs[k] (List.getElem_mem hlt)
      have HS : Hid (100 ≤ zs[k] ∧ zs[k] - 100 < 20 → bs.getD (zs[k] - 100).toNat false = true → (zs.take (k + 1)).all (fun x => decide (100 ≤ x ∧ x - 100 < 20) && bs.getD (x - 100).toNat false) = true) := fun g1 g2 => allB_step HK.out hlt (by simp only [decide_eq_true g1, Bool.true_and]; exact g2)
      have HN : Hid ((100 ≤ zs[k] ∧ zs[k] - 100 < 20 → bs.getD (zs[k] - 100).toNat false = false) → allB bs zs = false) := fun g1 => by
        refine allB_no hlt ?_
        by_cases g2 : 100 ≤ zs[k] ∧ zs[k] - 100 < 20
        · simp only [g1 g2, Bool.and_false]
        · simp only [decide_eq_false g2, Bool.false_and]
      clear hc h h1 HK
      generalize zs[k] = z at *
      by_cases z1 : 100 ≤ z
      · by_cases z2 : z - 100 < 20
        · obtain ⟨n, hn⟩ : ∃ n : Nat, z = 100 + (n : Int) := ⟨(z - 100).toNat, by omega⟩
          subst hn
          have hn2 : n < 27 := by omega
          have q2 := hB1.cell (n := n) (by omega)
          have e1 : (100 + (n : Int) - 100).toNat = n := by omega
          have e2 : (100 + (n : Int) - 100) = n := by omega
          rw [e1] at HS HN
          by_cases z3 : bs.getD n false = true
          · rw [z3] at q2
            have HSS : Hid _ := HS.out ⟨z1, z2⟩ z3
            clear HS HN z3
            go_wp2
            go_round
            case rel => exact ⟨k + 1, by omega, by go_num, HSS.out⟩
            case measure => simp [intOf]; omega
          · have z4 : bs.getD n false = false := by simpa using z3
            rw [z4] at q2
            have HNN : Hid (allB bs zs = false) := HN.out (fun _ => z4)
            clear HS HN z3 z4
            go_wp2
            go_ret
            exact ⟨ret_bool (by rw [HNN.out]), hb1⟩
        · have HNN : Hid (allB bs zs = false) := HN.out (fun g => absurd g.2 z2)
          clear HS HN
          go_wp2
          go_ret
          exact ⟨ret_bool (by rw [HNN.out]), hb1⟩
      · have HNN : Hid (allB bs zs = false) := HN.out (fun g => absurd g.1 z1)
        clear HS HN
        go_wp2
        go_ret
        exact ⟨ret_bool (by rw [HNN.out]), hb1⟩
    · have HE : Hid (allB bs zs = true) := allB_end HK.out hlt
      clear h h1 HK
      go_wp2
      go_ret
      exact ⟨ret_bool (by rw [HE.out]), hb1⟩
end Go.Proofs.Ytdniejpblhbjkab
namespace Go.Proofs.Ytdniejpblhbjkab
open Go.RowKit

/-- The first k flags of cs are put to those of bs from off on. -/
def joinTo (bs : List Bool) (off : Nat) (cs : List Bool) : Nat → List Bool
  | 0 => bs
  | k + 1 => (joinTo bs off cs k).set (off + k) ((joinTo bs off cs k).getD (off + k) false || cs.getD k false)
def joinB (bs : List Bool) (off : Nat) (cs : List Bool) : List Bool := joinTo bs off cs 27
theorem joinTo_length (bs : List Bool) (off : Nat) (cs : List Bool) (k : Nat) : (joinTo bs off cs k).length = bs.length := by
  induction k with
  | zero => rfl
  | succ k ih => rw [joinTo, List.length_set]; exact ih
theorem joinB_length (bs : List Bool) (off : Nat) (cs : List Bool) : (joinB bs off cs).length = bs.length := joinTo_length _ _ _ _
theorem joinTo_get (bs : List Bool) (off : Nat) (cs : List Bool) (k : Nat) (h : off + k ≤ bs.length) (i : Nat) : (joinTo bs off cs k).getD i false = (bs.getD i false || (decide (off ≤ i ∧ i < off + k) && cs.getD (i - off) false)) := by
  induction k with
  | zero => simp [joinTo]; omega
  | succ k ih =>
    have ih := ih (by omega)
    rw [joinTo]
    by_cases e : i = off + k
    · subst e
      have hl : off + k < (joinTo bs off cs k).length := by rw [joinTo_length]; omega
      have e1 : ((joinTo bs off cs k).set (off + k) ((joinTo bs off cs k).getD (off + k) false || cs.getD k false)).getD (off + k) false = ((joinTo bs off cs k).getD (off + k) false || cs.getD k false) := by
        generalize ((joinTo bs off cs k).getD (off + k) false || cs.getD k false) = v
        simp [List.getD, hl]
      rw [e1, ih, show off + k - off = k by omega]
      simp
    · have e1 : ∀ v, ((joinTo bs off cs k).set (off + k) v).getD i false = (joinTo bs off cs k).getD i false := by
        intro v
        simp [List.getD, Ne.symm e]
      rw [e1, ih]
      congr 2
      rw [Bool.eq_iff_iff]; simp; omega
theorem joinB_get {bs : List Bool} {off : Nat} {cs : List Bool} (h : off + 27 ≤ bs.length) (i : Nat) : (joinB bs off cs).getD i false = (bs.getD i false || (decide (off ≤ i ∧ i < off + 27) && cs.getD (i - off) false)) := joinTo_get bs off cs 27 h i

set_option maxHeartbeats 2000000 in
set_option maxRecDepth 100000 in
theorem join_any (b off : Nat) (t : TypeId) (bs cs : List Bool) (w : World) (hB : Bits w b t bs) (hl : off + 27 ≤ bs.length) (hc : cs.length = 27) :
    Calls Try.prog 57 #[.pointer (some ⟨b, off, none⟩), aggB cs] w fun e w' => e = .returned (.tuple #[]) ∧ Bits w' b t (joinB bs off cs) ∧ w.grownBy w' (some b) := by
  go_enter Try.func57, Try.ntmps57
  go_wp2_with (first | (refine wpList_boxB rfl 47 _ rfl cs rfl ?_; intro w1 hB1 hb1 hs1) | (refine wpList_loadW rfl 47 _ rfl w.heap.size 47 cs rfl (by rw [hc]; exact bt_flags) hB1 ?_))
  have HB0 : Hid (Bits w1 b t (joinTo bs off cs 0)) := hB.later hb1
  have HG0 : Hid (w.grownBy w1 (some b)) := grownBy_of_below hb1 _
  have HL : Hid (off + 27 ≤ bs.length) := hl
  clear hB hB1 hb1 hs1 hl
  go_loopw [7] (fun s7 wr => ∃ k : Nat, k ≤ 27 ∧ s7 = .int .i64 k ∧ Bits wr b t (joinTo bs off cs k) ∧ w.grownBy wr (some b)) (fun s7 _ => 27 - (intOf s7).toNat)
  case atStart => exact ⟨0, Nat.zero_le _, rfl, HB0.out, HG0.out⟩
  case round =>
    obtain ⟨k, hk, rfl, hBk, hgk⟩ := hrel
    clear HB0 HG0
    by_cases hlt : k < 27
    · have q0 := hBk.cell (n := off + k) (by rw [joinTo_length]; have := HL.out; omega)
      have f0 := hBk.frozen (off + k)
      have hk0 : (0 : Int) ≤ (k : Int) := by omega
      have hk1 : (k : Int) < 27 := by omega
      have HN : Hid (joinTo bs off cs (k + 1) = (joinTo bs off cs k).set (off + k) ((joinTo bs off cs k).getD (off + k) false || cs.getD k false)) := rfl
      have HC : Hid (cs.length = 27) := hc
      have HB : Hid (Bits wr b t (joinTo bs off cs k)) := hBk
      generalize joinTo bs off cs k = Tk at *
      generalize Tk.getD (off + k) false = x at *
      clear hc hBk
      obtain ⟨y, Hy⟩ : ∃ y, Hid (cs.getD k false = y) := ⟨_, rfl⟩
      rw [Hy.out] at HN
      go_wp2_with (refine wpList_indexB rfl 47 4 _ _ rfl cs k rfl rfl (by rw [HC.out]; exact u_flags) u_bool bool_size (by rw [HC.out]; exact hlt) ?_; rw [Hy.out])
      have key : ∀ (v : Bool) (W : World), (x || y) = v → Below wr.heap.size (wr.setCell ⟨b, off + k, none⟩ (.bool v)) W → Bits W b t (joinTo bs off cs (k + 1)) ∧ w.grownBy W (some b) := by
        intro v W hv hW
        rw [HN.out, hv]
        have hlt2 := HB.out.lt
        exact ⟨(HB.out.set (off + k) v).below hW hlt2, grownBy_trans (grownBy_trans hgk (setCell_grown wr b (off + k) _)) (grownBy_of_below (by simpa using hW) _)⟩
      have HK : Hid (∀ (v : Bool) (W : World), (x || y) = v → Below wr.heap.size (wr.setCell ⟨b, off + k, none⟩ (.bool v)) W → Bits W b t (joinTo bs off cs (k + 1)) ∧ w.grownBy W (some b)) := key
      clear key HN Hy HB
      cases x
      · have HK1 : Hid (∀ W : World, Below wr.heap.size (wr.setCell ⟨b, off + k, none⟩ (.bool y)) W → Bits W b t (joinTo bs off cs (k + 1)) ∧ w.grownBy W (some b)) := fun W hW => HK.out y W (by simp) hW
        clear HK
        go_region
        all_goals
          go_wp2
          go_roundw
          case rel => exact ⟨k + 1, by omega, by go_num, (HK1.out _ (by first | exact Below.refl _ _ | exact Below.drew (Below.refl _ _))).1, (HK1.out _ (by first | exact Below.refl _ _ | exact Below.drew (Below.refl _ _))).2⟩
          case measure => simp [intOf]; omega
      · have HK1 : Hid (∀ W : World, Below wr.heap.size (wr.setCell ⟨b, off + k, none⟩ (.bool true)) W → Bits W b t (joinTo bs off cs (k + 1)) ∧ w.grownBy W (some b)) := fun W hW => HK.out true W (by simp) hW
        clear HK
        go_region
        all_goals
          go_wp2
          go_roundw
          case rel => exact ⟨k + 1, by omega, by go_num, (HK1.out _ (by first | exact Below.refl _ _ | exact Below.drew (Below.refl _ _))).1, (HK1.out _ (by first | exact Below.refl _ _ | exact Below.drew (Below.refl _ _))).2⟩
          case measure => simp [intOf]; omega
    · have e : k = 27 := by omega
      subst e
      go_wp2
      go_end0
      exact ⟨rfl, hBk, hgk⟩
end Go.Proofs.Ytdniejpblhbjkab
namespace Go.Proofs.Ytdniejpblhbjkab
open Go.RowKit

theorem addL_same_or (zs : List Int) (x : Int) : addL zs x = zs ∨ zs.length < (addL zs x).length := by
  by_cases h : x ∈ zs
  · exact .inl (by simp [addL, h])
  · right
    have := placeL_le zs x
    simp only [addL, h, if_false, List.length_append, List.length_cons, List.length_nil, List.length_take, List.length_drop]
    omega
theorem addL_fix {zs : List Int} {x : Int} (h : addL zs x = zs) : x ∈ zs := by
  have : x ∈ addL zs x := mem_addL.2 (.inl rfl)
  rwa [h] at this

/-- Steps that leave as it was or make longer: where all together leave as it was, each does. -/
theorem steps_fix {α : Type} {m : α → Nat} {f : Nat → α} (h : ∀ i, f (i + 1) = f i ∨ m (f i) < m (f (i + 1))) {n : Nat} (e : f n = f 0) : ∀ i, i ≤ n → f i = f 0 := by
  have mono : ∀ i j, i ≤ j → m (f i) ≤ m (f j) := by
    intro i j hij
    induction j with
    | zero => have : i = 0 := by omega
              subst this; exact Nat.le_refl _
    | succ j ih =>
      by_cases e1 : i = j + 1
      · subst e1; exact Nat.le_refl _
      · have := ih (by omega)
        rcases h j with h1 | h1
        · rw [h1]; exact this
        · omega
  intro i hi
  induction i with
  | zero => rfl
  | succ i ih =>
    have h1 := ih (by omega)
    rcases h i with h2 | h2
    · rw [h2, h1]
    · have h3 := mono (i + 1) n hi
      rw [e] at h3
      rw [h1] at h2
      omega
/-- Turns that leave as it was or make longer, within N: behind N + 1 of them nothing turns any more. -/
theorem turns_fix {α : Type} {m : α → Nat} {F : α → α} {f : Nat → α} (hf : ∀ t, f (t + 1) = F (f t)) (h : ∀ t, f (t + 1) = f t ∨ m (f t) < m (f (t + 1))) {N : Nat} (hN : ∀ t, m (f t) ≤ N) : F (f (N + 1)) = f (N + 1) := by
  have key : ∀ t, t ≤ m (f t) ∨ ∃ s, s < t ∧ f (s + 1) = f s := by
    intro t
    induction t with
    | zero => exact .inl (Nat.zero_le _)
    | succ t ih =>
      rcases ih with ih | ⟨s, hs, e⟩
      · rcases h t with h1 | h1
        · exact .inr ⟨t, by omega, h1⟩
        · exact .inl (by omega)
      · exact .inr ⟨s, by omega, e⟩
  rcases key (N + 1) with h1 | ⟨s, hs, e⟩
  · have := hN (N + 1); omega
  · have all : ∀ d, f (s + d) = f s := by
      intro d
      induction d with
      | zero => rfl
      | succ d ih => rw [← Nat.add_assoc, hf, ih, ← hf, e]
    have e1 : f (N + 1) = f s := by have := all (N + 1 - s); rwa [show s + (N + 1 - s) = N + 1 by omega] at this
    rw [e1, ← hf, e]

section
variable {p : List Int → List Int → Bool}
theorem growI_step (k : Nat) (Q : List (List Int)) (E : List Int) (i : Nat) : growI p k Q E (i + 1) = growI p k Q E i ∨ (growI p k Q E i).length < (growI p k Q E (i + 1)).length := by
  rw [growI]
  split
  · exact addL_same_or _ _
  · exact .inl rfl
theorem growI_all (k : Nat) (Q : List (List Int)) (E : List Int) (i : Nat) : growI p k Q E i = E ∨ E.length < (growI p k Q E i).length := by
  induction i with
  | zero => exact .inl rfl
  | succ i ih =>
    rcases growI_step (p := p) k Q E i with h | h
    · rw [h]; exact ih
    · rcases ih with ih | ih
      · rw [ih] at h; exact .inr h
      · exact .inr (by omega)
theorem growK_step (P : List (List (List Int))) (E : List Int) (k : Nat) : growK p P E (k + 1) = growK p P E k ∨ (growK p P E k).length < (growK p P E (k + 1)).length := by
  rw [growK]; exact growI_all _ _ _ _
theorem growK_all (P : List (List (List Int))) (E : List Int) (k : Nat) : growK p P E k = E ∨ E.length < (growK p P E k).length := by
  induction k with
  | zero => exact .inl rfl
  | succ k ih =>
    rcases growK_step (p := p) P E k with h | h
    · rw [h]; exact ih
    · rcases ih with ih | ih
      · rw [ih] at h; exact .inr h
      · exact .inr (by omega)
/-- What is grown is a set of parts. -/
theorem growI_setB {k n : Nat} (hk : k < n) {Q : List (List Int)} {E : List Int} (h : SetB (n : Int) E) : ∀ i, SetB (n : Int) (growI p k Q E i)
  | 0 => h
  | i + 1 => by
    rw [growI]
    split
    · exact (growI_setB hk h i).add (by omega) (by omega)
    · exact growI_setB hk h i
theorem growK_setB {n : Nat} {P : List (List (List Int))} {E : List Int} (h : SetB (n : Int) E) : ∀ k, k ≤ n → SetB (n : Int) (growK p P E k)
  | 0, _ => h
  | k + 1, hk => by rw [growK]; exact growI_setB (by omega) (growK_setB h k (by omega)) _
theorem growT_setB (P : List (List (List Int))) : ∀ t, SetB (P.length : Int) (growT p P t)
  | 0 => SetB.nil _
  | t + 1 => by rw [growT]; exact growK_setB (growT_setB P t) _ (Nat.le_refl _)
/-- What is grown is closed. -/
theorem growT_closed {P : List (List (List Int))} {k i : Nat} (hk : k < P.length) (hi : i < P[k].length) (h : p P[k][i] (growT p P (P.length + 1)) = true) : (k : Int) ∈ growT p P (P.length + 1) := by
  have fx : growK p P (growT p P (P.length + 1)) P.length = growT p P (P.length + 1) :=
    turns_fix (F := fun E => growK p P E P.length) (f := growT p P) (m := List.length) (fun t => rfl) (fun t => growK_all P _ _) (fun t => (growT_setB P t).len)
  generalize growT p P (P.length + 1) = E at *
  have hK := steps_fix (f := growK p P E) (m := List.length) (growK_step P E) fx
  have e1 : growI p k P[k] E P[k].length = E := by
    have := growK_next p (E := E) hk
    rw [hK (k + 1) (by omega), hK k (by omega)] at this
    exact this.symm
  have hI := steps_fix (f := growI p k P[k] E) (m := List.length) (growI_step k P[k] E) e1
  have e2 := hI (i + 1) (by omega)
  have e3 : growI p k P[k] E i = E := hI i (by omega)
  rw [growI_yes p hi (by rw [e3]; exact h), e3] at e2
  exact addL_fix e2
/-- Nothing is grown that a closed set has not. -/
theorem growT_sound {P : List (List (List Int))} {S : Int → Prop} (hS : ∀ k (hk : k < P.length) i (hi : i < P[k].length) (E : List Int), (∀ x ∈ E, S x) → p P[k][i] E = true → S k) (t : Nat) : ∀ x ∈ growT p P t, S x := by
  have sI : ∀ k (hk : k < P.length) E, (∀ x ∈ E, S x) → ∀ i, i ≤ P[k].length → ∀ x ∈ growI p k P[k] E i, S x := by
    intro k hk E hE i
    induction i with
    | zero => exact fun _ => hE
    | succ i ih =>
      intro hi x hx
      by_cases g : p P[k][i] (growI p k P[k] E i) = true
      · rw [growI_yes p (by omega) g] at hx
        rcases mem_addL.1 hx with rfl | hx
        · exact hS k hk i (by omega) _ (ih (by omega)) g
        · exact ih (by omega) x hx
      · rw [growI_no p (by omega) (by simpa using g)] at hx
        exact ih (by omega) x hx
  have sK : ∀ E, (∀ x ∈ E, S x) → ∀ k, k ≤ P.length → ∀ x ∈ growK p P E k, S x := by
    intro E hE k
    induction k with
    | zero => exact fun _ => hE
    | succ k ih =>
      intro hk
      rw [growK_next p (by omega)]
      exact sI k (by omega) _ (ih (by omega)) _ (Nat.le_refl _)
  induction t with
  | zero => intro x hx; simp [growT] at hx
  | succ t ih => rw [growT]; exact sK _ ih _ (Nat.le_refl _)
end
theorem growT_sorted {p : List Int → List Int → Bool} (P : List (List (List Int))) (t : Nat) : (growT p P t).Pairwise (· < ·) := by
  have sI : ∀ k Q (E : List Int), E.Pairwise (· < ·) → ∀ i, (growI p k Q E i).Pairwise (· < ·) := by
    intro k Q E hE i
    induction i with
    | zero => exact hE
    | succ i ih =>
      rw [growI]
      split
      · exact pair_addL ih
      · exact ih
  have sK : ∀ (E : List Int), E.Pairwise (· < ·) → ∀ k, (growK p P E k).Pairwise (· < ·) := by
    intro E hE k
    induction k with
    | zero => exact hE
    | succ k ih => rw [growK]; exact sI _ _ _ ih _
  induction t with
  | zero => exact List.Pairwise.nil
  | succ t ih => rw [growT]; exact sK _ ih _
end Go.Proofs.Ytdniejpblhbjkab
namespace Go.Proofs.Ytdniejpblhbjkab
open Go.RowKit

/-- One step: flag s.1 is raised where the test says so. -/
def bstep (b : List Bool) (s : Nat × (List Bool → Bool)) : List Bool := b.set s.1 (b.getD s.1 false || s.2 b)
def bturn (L : List (Nat × (List Bool → Bool))) (b : List Bool) : List Bool := L.foldl bstep b
def cntB : List Bool → Nat
  | [] => 0
  | b :: bs => (if b then 1 else 0) + cntB bs
theorem cntB_le (b : List Bool) : cntB b ≤ b.length := by
  induction b with
  | nil => simp [cntB]
  | cons x xs ih => simp only [cntB, List.length_cons]; split <;> omega
theorem cntB_set {b : List Bool} {k : Nat} (h : k < b.length) (g : b[k] = false) : cntB (b.set k true) = cntB b + 1 := by
  induction b generalizing k with
  | nil => simp at h
  | cons x xs ih =>
    cases k with
    | zero => simp at g; subst g; simp [cntB]; omega
    | succ k =>
      have := ih (k := k) (by simpa using h) (by simpa using g)
      simp only [List.set_cons_succ, cntB, this]; omega
theorem bstep_length (b : List Bool) (s : Nat × (List Bool → Bool)) : (bstep b s).length = b.length := by simp [bstep]
theorem bstep_or (b : List Bool) (s : Nat × (List Bool → Bool)) : bstep b s = b ∨ cntB b < cntB (bstep b s) := by
  unfold bstep
  by_cases h : s.1 < b.length
  · have e : b.getD s.1 false = b[s.1] := by simp [List.getD, h]
    rw [e]
    by_cases g : b[s.1] = true
    · left; rw [g, Bool.true_or]
      conv => lhs; rw [← g]
      exact List.set_getElem_self h
    · have g' : b[s.1] = false := by simpa using g
      rw [g', Bool.false_or]
      by_cases t : s.2 b = true
      · right; rw [t, cntB_set h g']; omega
      · have t' : s.2 b = false := by simpa using t
        left; rw [t']
        conv => lhs; rw [← g']
        exact List.set_getElem_self h
  · left; exact List.set_eq_of_length_le (by omega)
theorem bstep_fix {b : List Bool} {s : Nat × (List Bool → Bool)} (h : bstep b s = b) (hk : s.1 < b.length) (ht : s.2 b = true) : b[s.1] = true := by
  have e : (bstep b s)[s.1]? = some (b.getD s.1 false || s.2 b) := by simp [bstep, hk]
  rw [h, List.getElem?_eq_getElem hk, ht, Bool.or_true] at e
  exact Option.some.inj e
theorem fold_or (L : List (Nat × (List Bool → Bool))) (b : List Bool) (i : Nat) : (L.take (i + 1)).foldl bstep b = (L.take i).foldl bstep b ∨ cntB ((L.take i).foldl bstep b) < cntB ((L.take (i + 1)).foldl bstep b) := by
  by_cases h : i < L.length
  · rw [List.take_succ_eq_append_getElem h, List.foldl_append]
    exact bstep_or _ _
  · left; rw [List.take_of_length_le (by omega), List.take_of_length_le (by omega)]
theorem bturn_or (L : List (Nat × (List Bool → Bool))) (b : List Bool) : bturn L b = b ∨ cntB b < cntB (bturn L b) := by
  have key : ∀ i, (L.take i).foldl bstep b = b ∨ cntB b < cntB ((L.take i).foldl bstep b) := by
    intro i
    induction i with
    | zero => exact .inl rfl
    | succ i ih =>
      rcases fold_or L b i with h | h
      · rw [h]; exact ih
      · rcases ih with ih | ih
        · rw [ih] at h; exact .inr h
        · exact .inr (by omega)
  have := key L.length
  rwa [List.take_length] at this
theorem bturn_fix {L : List (Nat × (List Bool → Bool))} {b : List Bool} (h : bturn L b = b) {s : Nat × (List Bool → Bool)} (hs : s ∈ L) (hk : s.1 < b.length) (ht : s.2 b = true) : b[s.1] = true := by
  obtain ⟨i, hi, rfl⟩ := List.getElem_of_mem hs
  have all := steps_fix (f := fun i => (L.take i).foldl bstep b) (m := cntB) (fold_or L b) (n := L.length) (by rw [List.take_length]; exact h)
  have e1 : (L.take i).foldl bstep b = b := all i (by omega)
  have e2 : (L.take (i + 1)).foldl bstep b = b := all (i + 1) (by omega)
  rw [List.take_succ_eq_append_getElem hi, List.foldl_append, e1] at e2
  exact bstep_fix e2 hk ht
theorem bturn_length (L : List (Nat × (List Bool → Bool))) (b : List Bool) : (bturn L b).length = b.length := by
  unfold bturn
  induction L generalizing b with
  | nil => rfl
  | cons s L ih => rw [List.foldl_cons, ih, bstep_length]
/-- Behind N + 1 turns, where there are N flags at most, each flag is up that a test asks for. -/
theorem bturns_closed {L : List (Nat × (List Bool → Bool))} {f : Nat → List Bool} (hf : ∀ t, f (t + 1) = bturn L (f t)) {N T : Nat} (hN : (f 0).length ≤ N) (hT : N + 1 ≤ T) {s : Nat × (List Bool → Bool)} (hs : s ∈ L) (hk : s.1 < (f T).length) (ht : s.2 (f T) = true) : (f T)[s.1] = true := by
  have hl : ∀ t, (f t).length = (f 0).length := by
    intro t
    induction t with
    | zero => rfl
    | succ t ih => rw [hf, bturn_length, ih]
  have fx : bturn L (f (N + 1)) = f (N + 1) := turns_fix (F := bturn L) (f := f) (m := cntB) hf (fun t => by rw [hf]; exact bturn_or L (f t)) (fun t => by have := cntB_le (f t); rw [hl t] at this; omega)
  have all : ∀ d, f (N + 1 + d) = f (N + 1) := by
    intro d
    induction d with
    | zero => rfl
    | succ d ih => rw [← Nat.add_assoc, hf, ih, fx]
  have e : f T = f (N + 1) := by have := all (T - (N + 1)); rwa [show N + 1 + (T - (N + 1)) = T by omega] at this
  have fx2 : bturn L (f T) = f T := by rw [e]; exact fx
  exact bturn_fix fx2 hs hk ht

/-- Whether a number is in each of the sets. -/
def proj (c : Int) (M : List (List Int)) : List Bool := M.map fun m => hasL m c
theorem proj_length (c : Int) (M : List (List Int)) : (proj c M).length = M.length := by simp [proj]
theorem proj_getD (c : Int) (M : List (List Int)) (k : Nat) : (proj c M).getD k false = hasL (M.getD k []) c := by
  by_cases h : k < M.length
  · simp [proj, List.getD, h]
  · rw [List.getD_eq_getElem?_getD, List.getElem?_eq_none (by rw [proj_length]; omega), List.getD_eq_getElem?_getD, List.getElem?_eq_none (by omega)]; rfl
theorem proj_set (c : Int) (M : List (List Int)) (k : Nat) (m : List Int) : proj c (M.set k m) = (proj c M).set k (hasL m c) := by
  simp [proj, List.map_set]
theorem hasL_joinL (xs ys : List Int) (c : Int) : hasL (joinL xs ys) c = (hasL xs c || hasL ys c) := by
  rw [Bool.eq_iff_iff, Bool.or_eq_true]; simp only [hasL, decide_eq_true_eq]; exact mem_joinL
theorem hasL_addL (xs : List Int) (x c : Int) : hasL (addL xs x) c = (decide (c = x) || hasL xs c) := by
  rw [Bool.eq_iff_iff, Bool.or_eq_true]; simp only [hasL, decide_eq_true_eq]; exact mem_addL
/-- The rows of a grammar, each with its part's number, in order. -/
def flatP (P : List (List (List Int))) : Nat → List (Nat × List Int)
  | 0 => []
  | k + 1 => flatP P k ++ (P.getD k []).map fun row => (k, row)
theorem mem_flatP {P : List (List (List Int))} {k i n : Nat} (hk : k < P.length) (hi : i < P[k].length) (hn : k < n) : (k, P[k][i]) ∈ flatP P n := by
  induction n with
  | zero => omega
  | succ n ih =>
    rw [flatP, List.mem_append]
    by_cases e : k = n
    · subst e
      right
      have e1 : P.getD k [] = P[k] := by simp [List.getD, hk]
      rw [e1, List.mem_map]
      exact ⟨_, List.getElem_mem hi, rfl⟩
    · exact .inl (ih (by omega))
end Go.Proofs.Ytdniejpblhbjkab
namespace Go.Proofs.Ytdniejpblhbjkab
open Go.RowKit

/-- Whether a row can begin with c, by the flags of c. -/
def bgB (E : List Int) (c : Int) (b : List Bool) : List Int → Bool
  | [] => false
  | x :: xs => if inB x 0 25 then decide (c = x) else if inB x 100 (100 + b.length - 1) then (b.getD (x - 100).toNat false || (hasL E (x - 100) && bgB E c b xs)) else false
theorem hasL_rowF (M : List (List Int)) (E : List Int) (c : Int) : ∀ (row out : List Int), hasL (rowF M E out row) c = (hasL out c || bgB E c (proj c M) row)
  | [], out => by simp [rowF, bgB]
  | x :: xs, out => by
    rw [rowF, bgB, proj_length]
    split
    · rw [hasL_addL, Bool.or_comm]
    · split
      · rw [proj_getD]
        by_cases g : hasL E (x - 100) = true
        · rw [if_pos g, hasL_rowF M E c xs, hasL_joinL, g, Bool.true_and, Bool.or_assoc]
        · have g' : hasL E (x - 100) = false := by simpa using g
          rw [if_neg g, hasL_joinL, g', Bool.false_and, Bool.or_false]
      · simp
theorem fiI_fold (E : List Int) (k : Nat) (Q M : List (List Int)) (i : Nat) (hi : i ≤ Q.length) : fiI E k Q M i = ((Q.take i).map fun row => (k, row)).foldl (fun M s => fiS E s.1 s.2 M) M := by
  induction i with
  | zero => simp [fiI]
  | succ i ih => rw [fiI_next (by omega), ih (by omega), List.take_succ_eq_append_getElem (by omega), List.map_append, List.foldl_append]; rfl
theorem fiK_fold (E : List Int) (P : List (List (List Int))) (M : List (List Int)) (k : Nat) : fiK E P M k = (flatP P k).foldl (fun M s => fiS E s.1 s.2 M) M := by
  induction k with
  | zero => rfl
  | succ k ih => rw [fiK, flatP, List.foldl_append, ← ih, fiI_fold _ _ _ _ _ (Nat.le_refl _), List.take_length]
theorem proj_fiS (E : List Int) (c : Int) (k : Nat) (row : List Int) (M : List (List Int)) : proj c (fiS E k row M) = bstep (proj c M) (k, fun b => bgB E c b row) := by
  rw [fiS, proj_set, hasL_joinL, hasL_rowF, bstep, proj_getD]
  simp [hasL]
theorem proj_fold (E : List Int) (c : Int) (L : List (Nat × List Int)) (M : List (List Int)) : proj c (L.foldl (fun M s => fiS E s.1 s.2 M) M) = bturn (L.map fun s => (s.1, fun b => bgB E c b s.2)) (proj c M) := by
  unfold bturn
  induction L generalizing M with
  | nil => rfl
  | cons s L ih => rw [List.foldl_cons, ih, List.map_cons, List.foldl_cons, proj_fiS]
/-- What a row of a part can begin with, the part can. -/
theorem fiT_closed {E : List Int} {P : List (List (List Int))} {k i : Nat} (hk : k < P.length) (hi : i < P[k].length) {c : Int} (hc : c ∈ rowF (fiT E P (P.length + 1)) E [] P[k][i]) : c ∈ (fiT E P (P.length + 1)).getD k [] := by
  have hl := (fiT_sets E P (P.length + 1)).1
  have h := bturns_closed (L := (flatP P P.length).map fun s => (s.1, fun b => bgB E c b s.2)) (f := fun t => proj c (fiT E P t)) (fun t => by show proj c (fiT E P (t + 1)) = _; rw [fiT, fiK_fold, proj_fold]) (N := P.length) (T := P.length + 1)
    (by show (proj c (fiT E P 0)).length ≤ _; rw [proj_length, (fiT_sets E P 0).1]; exact Nat.le_refl _) (Nat.le_refl _) (s := (k, fun b => bgB E c b P[k][i])) (List.mem_map.2 ⟨_, mem_flatP hk hi hk, rfl⟩)
    (by show k < (proj c _).length; rw [proj_length, hl]; exact hk)
    (by
      have := hasL_rowF (fiT E P (P.length + 1)) E c P[k][i] []
      rw [hasL_yes hc] at this
      simpa [hasL] using this.symm)
  have e := proj_getD c (fiT E P (P.length + 1)) k
  rw [List.getD_eq_getElem?_getD, List.getElem?_eq_getElem (by rw [proj_length, hl]; exact hk), Option.getD_some] at e
  rw [h] at e
  simpa [hasL] using e.symm
/-- What is kept step by step holds at the end. -/
theorem fiT_keeps {E : List Int} {P : List (List (List Int))} {S : List (List Int) → Prop} (h0 : S (List.replicate P.length [])) (hS : ∀ k (hk : k < P.length) i (hi : i < P[k].length) M, S M → S (fiS E k P[k][i] M)) (t : Nat) : S (fiT E P t) := by
  have sI : ∀ k (hk : k < P.length) M, S M → ∀ i, i ≤ P[k].length → S (fiI E k P[k] M i) := by
    intro k hk M hM i
    induction i with
    | zero => exact fun _ => hM
    | succ i ih => intro hi; rw [fiI_next (by omega)]; exact hS k hk i (by omega) _ (ih (by omega))
  have sK : ∀ M, S M → ∀ k, k ≤ P.length → S (fiK E P M k) := by
    intro M hM k
    induction k with
    | zero => exact fun _ => hM
    | succ k ih => intro hk; rw [fiK_next (by omega)]; exact sI k (by omega) _ (ih (by omega)) _ (Nat.le_refl _)
  induction t with
  | zero => exact h0
  | succ t ih => rw [fiT]; exact sK _ ih _ (Nat.le_refl _)
theorem getD_set (M : List (List Int)) (k j : Nat) (m : List Int) : (M.set k m).getD j [] = if j = k ∧ k < M.length then m else M.getD j [] := by
  by_cases e : j = k
  · subst e
    by_cases h : j < M.length
    · simp [List.getD, h]
    · simp [List.getD, h]
  · simp [List.getD, e, Ne.symm e]
/-- Nothing is there that closed sets have not. -/
theorem fiT_sound {E : List Int} {P : List (List (List Int))} {S : Nat → Int → Prop} (hS : ∀ k (hk : k < P.length) i (hi : i < P[k].length) (M : List (List Int)), M.length = P.length → (∀ j, ∀ c ∈ M.getD j [], S j c) → ∀ c ∈ rowF M E [] P[k][i], S k c) (t j : Nat) : ∀ c ∈ (fiT E P t).getD j [], S j c := by
  have := fiT_keeps (E := E) (P := P) (S := fun M => M.length = P.length ∧ ∀ j, ∀ c ∈ M.getD j [], S j c) ⟨by simp, fun j c hc => by
      by_cases hj : j < P.length
      · simp [List.getD, hj] at hc
      · simp [List.getD, hj] at hc⟩ (fun k hk i hi M hM => ⟨by rw [fiS, List.length_set]; exact hM.1, fun j c hc => by
      rw [fiS, getD_set] at hc
      split at hc
      · rename_i hj
        rcases mem_joinL.1 hc with hc | hc
        · rw [hj.1]; exact hM.2 k c hc
        · rw [hj.1]; exact hS k hk i hi M hM.1 hM.2 c hc
      · exact hM.2 j c hc⟩) t
  exact this.2 j
theorem rowF_sorted {M : List (List Int)} {E : List Int} : ∀ {zs out : List Int}, out.Pairwise (· < ·) → (rowF M E out zs).Pairwise (· < ·)
  | [], out, h => by rw [rowF]; exact h
  | x :: xs, out, h => by
    rw [rowF]
    split
    · exact pair_addL h
    · split
      · split
        · exact rowF_sorted (pair_joinL h)
        · exact pair_joinL h
      · exact h
theorem fiT_sorted (E : List Int) (P : List (List (List Int))) (t j : Nat) : ((fiT E P t).getD j []).Pairwise (· < ·) := by
  have := fiT_keeps (E := E) (P := P) (S := fun M => ∀ j, (M.getD j []).Pairwise (· < ·)) (fun j => by
      by_cases hj : j < P.length
      · simp [List.getD, hj]
      · simp [List.getD, hj]) (fun k hk i hi M hM j => by
      rw [fiS, getD_set]
      split
      · exact pair_joinL (hM k)
      · exact hM j) t
  exact this j
end Go.Proofs.Ytdniejpblhbjkab
namespace Go.Proofs.Ytdniejpblhbjkab
open Go.RowKit

section
variable (st : Nat → List Int → List Bool → List Bool)
def leI (k : Nat) (Q : List (List Int)) (T : List Bool) : Nat → List Bool
  | 0 => T
  | i + 1 => st k (Q.getD i []) (leI k Q T i)
def leK (P : List (List (List Int))) (T : List Bool) : Nat → List Bool
  | 0 => T
  | k + 1 => leI st k (P.getD k []) (leK P T k) (P.getD k []).length
/-- What holds at the start and is kept by each row's step holds of T. -/
def Grows (P : List (List (List Int))) (T0 T : List Bool) : Prop := ∀ I : List Bool → Prop, I T0 → (∀ k (hk : k < P.length) i (hi : i < P[k].length) T, I T → I (st k P[k][i] T)) → I T
end
variable {st : Nat → List Int → List Bool → List Bool}
theorem leI_next {k i : Nat} {Q : List (List Int)} {T : List Bool} (h : i < Q.length) : leI st k Q T (i + 1) = st k Q[i] (leI st k Q T i) := by
  have e : Q.getD i [] = Q[i] := by simp [List.getD, h]
  rw [leI, e]
theorem leK_next {P : List (List (List Int))} {T : List Bool} {k : Nat} (h : k < P.length) : leK st P T (k + 1) = leI st k P[k] (leK st P T k) P[k].length := by
  have e : P.getD k [] = P[k] := by simp [List.getD, h]
  rw [leK, e]
theorem Grows.refl (P : List (List (List Int))) (T : List Bool) : Grows st P T T := fun _ h _ => h
theorem Grows.leI {P : List (List (List Int))} {T0 T : List Bool} (h : Grows st P T0 T) {k : Nat} (hk : k < P.length) (i : Nat) (hi : i ≤ P[k].length) : Grows st P T0 (leI st k P[k] T i) := by
  intro I h0 hS
  induction i with
  | zero => exact h I h0 hS
  | succ i ih => rw [leI_next (by omega)]; exact hS k hk i (by omega) _ (ih (by omega))
theorem Grows.leK {P : List (List (List Int))} {T0 T : List Bool} (h : Grows st P T0 T) (k : Nat) (hk : k ≤ P.length) : Grows st P T0 (leK st P T k) := by
  induction k with
  | zero => exact h
  | succ k ih => rw [leK_next (by omega)]; exact (ih (by omega)).leI (by omega) _ (Nat.le_refl _)
/-- Steps that leave as it was or raise a flag. -/
def Raises (st : Nat → List Int → List Bool → List Bool) (P : List (List (List Int))) (n : Nat) : Prop := ∀ k (hk : k < P.length) i (hi : i < P[k].length) (T : List Bool), T.length = n → (st k P[k][i] T).length = n ∧ (st k P[k][i] T = T ∨ cntB T < cntB (st k P[k][i] T))
theorem Raises.leI {P : List (List (List Int))} {n : Nat} (h : Raises st P n) {k : Nat} (hk : k < P.length) {T : List Bool} (hT : T.length = n) (i : Nat) (hi : i ≤ P[k].length) : (leI st k P[k] T i).length = n ∧ (leI st k P[k] T i = T ∨ cntB T < cntB (leI st k P[k] T i)) := by
  induction i with
  | zero => exact ⟨hT, .inl rfl⟩
  | succ i ih =>
    have h1 := ih (by omega)
    have h2 := h k hk i (by omega) _ h1.1
    rw [leI_next (by omega)]
    refine ⟨h2.1, ?_⟩
    rcases h1.2 with e1 | e1
    · rcases h2.2 with e2 | e2
      · left; rw [e2]; exact e1
      · right; rw [e1] at e2 ⊢; exact e2
    · rcases h2.2 with e2 | e2
      · right; rw [e2]; exact e1
      · right; omega
theorem Raises.leK {P : List (List (List Int))} {n : Nat} (h : Raises st P n) {T : List Bool} (hT : T.length = n) (k : Nat) (hk : k ≤ P.length) : (leK st P T k).length = n ∧ (leK st P T k = T ∨ cntB T < cntB (leK st P T k)) := by
  induction k with
  | zero => exact ⟨hT, .inl rfl⟩
  | succ k ih =>
    have h1 := ih (by omega)
    have h2 := h.leI (k := k) (by omega) h1.1 _ (Nat.le_refl _)
    rw [leK_next (by omega)]
    refine ⟨h2.1, ?_⟩
    rcases h1.2 with e1 | e1
    · rcases h2.2 with e2 | e2
      · left; rw [e2]; exact e1
      · right; rw [e1] at e2 ⊢; exact e2
    · rcases h2.2 with e2 | e2
      · right; rw [e2]; exact e1
      · right; omega
/-- Where a round brings nothing new, no row's step does. -/
theorem Raises.fix {P : List (List (List Int))} {n : Nat} (h : Raises st P n) {T : List Bool} (hT : T.length = n) (e : Go.Proofs.Ytdniejpblhbjkab.leK st P T P.length = T) {k : Nat} (hk : k < P.length) {i : Nat} (hi : i < P[k].length) : st k P[k][i] T = T := by
  have stepK : ∀ j, j < P.length → Go.Proofs.Ytdniejpblhbjkab.leK st P T (j + 1) = Go.Proofs.Ytdniejpblhbjkab.leK st P T j ∨ cntB (Go.Proofs.Ytdniejpblhbjkab.leK st P T j) < cntB (Go.Proofs.Ytdniejpblhbjkab.leK st P T (j + 1)) := by
    intro j hj
    rw [leK_next hj]
    exact (h.leI hj (h.leK hT j (by omega)).1 _ (Nat.le_refl _)).2
  have hK := steps_fix (m := cntB) (f := fun j => Go.Proofs.Ytdniejpblhbjkab.leK st P T (min j P.length)) (fun j => by
    by_cases hj : j < P.length
    · have e1 : min (j + 1) P.length = j + 1 := by omega
      have e2 : min j P.length = j := by omega
      show Go.Proofs.Ytdniejpblhbjkab.leK st P T (min (j + 1) P.length) = _ ∨ _
      rw [e1, e2]; exact stepK j hj
    · left
      have e1 : min (j + 1) P.length = P.length := by omega
      have e2 : min j P.length = P.length := by omega
      show Go.Proofs.Ytdniejpblhbjkab.leK st P T (min (j + 1) P.length) = _
      rw [e1, e2]) (n := P.length) (by
      show Go.Proofs.Ytdniejpblhbjkab.leK st P T (min P.length P.length) = Go.Proofs.Ytdniejpblhbjkab.leK st P T (min 0 P.length)
      rw [Nat.min_self, Nat.zero_min]; exact e)
  have kk : ∀ j, j ≤ P.length → Go.Proofs.Ytdniejpblhbjkab.leK st P T j = T := by
    intro j hj
    have := hK j hj
    have e1 : min j P.length = j := by omega
    have e2 : min 0 P.length = 0 := by omega
    simp only [e1, e2] at this
    exact this
  have e1 : Go.Proofs.Ytdniejpblhbjkab.leI st k P[k] T P[k].length = T := by
    have := leK_next (st := st) (T := T) hk
    rw [kk (k + 1) (by omega), kk k (by omega)] at this
    exact this.symm
  have hI := steps_fix (m := cntB) (f := fun j => Go.Proofs.Ytdniejpblhbjkab.leI st k P[k] T (min j P[k].length)) (fun j => by
    by_cases hj : j < P[k].length
    · have e1 : min (j + 1) P[k].length = j + 1 := by omega
      have e2 : min j P[k].length = j := by omega
      show Go.Proofs.Ytdniejpblhbjkab.leI st k P[k] T (min (j + 1) P[k].length) = _ ∨ _
      rw [e1, e2, leI_next hj]; exact (h k hk j hj _ (h.leI hk hT j (by omega)).1).2
    · left
      have e1 : min (j + 1) P[k].length = P[k].length := by omega
      have e2 : min j P[k].length = P[k].length := by omega
      show Go.Proofs.Ytdniejpblhbjkab.leI st k P[k] T (min (j + 1) P[k].length) = _
      rw [e1, e2]) (n := P[k].length) (by
      show Go.Proofs.Ytdniejpblhbjkab.leI st k P[k] T (min P[k].length P[k].length) = Go.Proofs.Ytdniejpblhbjkab.leI st k P[k] T (min 0 P[k].length)
      rw [Nat.min_self, Nat.zero_min]; exact e1)
  have ii : ∀ j, j ≤ P[k].length → Go.Proofs.Ytdniejpblhbjkab.leI st k P[k] T j = T := by
    intro j hj
    have := hI j hj
    have e1 : min j P[k].length = j := by omega
    have e2 : min 0 P[k].length = 0 := by omega
    simp only [e1, e2] at this
    exact this
  have := ii (i + 1) (by omega)
  rw [leI_next hi, ii i (by omega)] at this
  exact this
/-- The flags of a set of numbers; of sets of such. -/
def flagsOf (E : List Int) : List Bool := (List.range 27).map fun (n : Nat) => hasL E (n : Int)
theorem flagsOf_length (E : List Int) : (flagsOf E).length = 27 := by simp [flagsOf]
theorem flagsOf_get (E : List Int) {n : Nat} (h : n < 27) : (flagsOf E).getD n false = hasL E (n : Int) := by simp [flagsOf, List.getD, h]
/-- One row's step of emptiesOf. -/
def emS (allB : List Bool → List Int → Bool) (k : Nat) (row : List Int) (T : List Bool) : List Bool := bstep T (k, fun b => allB b row)
end Go.Proofs.Ytdniejpblhbjkab
