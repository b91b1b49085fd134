/-
  Contract of spec.GramOk over this translation. No statement is proved here.
-/
import Derived.Test.YtghpekijimoicaaDoorHGram
import Derived.Test.YtghpekijimoicaaDoorSpecIn
namespace Go.Proofs.YtghpekijimoicaaDoor
open Go.RowKit

/-- What GramOk answers. -/
def resGramOk (x : Gm) : Bool := gramOkB x.parts

set_option maxHeartbeats 1000000 in
set_option maxRecDepth 100000 in
theorem specGramOk_any (x : Gm) (a0 : Option Addr) (c0 : Nat) (w : World) (h0 : RD w (.slice a0 x.parts.length c0) (slD (Lay.list (Lay.list Lay.int)) x.parts)) (hn : Lay.gram.wt x ≤ 1048576) (_ : Lay.gram.fit x) :
    Calls Tryd.prog 44 #[.agg #[.slice a0 x.parts.length c0]] w fun e w' => e = .returned (.bool (resGramOk x)) ∧ Below w.heap.size w w' := by
  unfold resGramOk
  rw [Lay_gram_wt, Lay.wt_list] at hn
  have B := (Below.refl w.heap.size w).alloc (Nat.le_refl _) (.cells #[.slice a0 x.parts.length c0] 32)
  have HR : Hid (RD (w.alloc (.cells #[.slice a0 x.parts.length c0] 32)) (.slice a0 x.parts.length c0) (slD (Lay.list (Lay.list Lay.int)) x.parts)) := h0.later B
  clear h0
  generalize x.parts = P at *
  by_cases hbig : inB P.length 1 20 = true
  · have hb2 := inB_true.1 hbig
    go_enter Tryd.func44, Tryd.ntmps44
    go_wp2_with (first | (go_at_call 55; refine (l1In_any _ _ _ _).mono ?_; rintro e w' ⟨rfl, rfl⟩))
    go_loop [4] (fun s4 => ∃ k : Nat, k ≤ P.length ∧ s4 = .int .i64 k ∧ Hid ((P.take k).all (partOk P.length) = true)) (fun s4 => P.length - (intOf s4).toNat)
    case atStart => exact ⟨0, Nat.zero_le _, rfl, by show _ = _; simp⟩
    case round =>
      obtain ⟨k, hk, rfl, HK⟩ := hrel
      by_cases hlt : k < P.length
      · obtain ⟨b1, o1, rfl, hb1, a1, c1, q0, r1⟩ := HR.out.listAt hlt
        have HR1 : Hid (RD (w.alloc (.cells #[.slice (some ⟨b1, o1, none⟩) P.length c0] 32)) (.slice a1 P[k].length c1) (slD (Lay.list Lay.int) P[k])) := r1
        have hw1 : P[k].length ≤ 4194304 := by have := Lay.sumL_at (Lay.list (Lay.list Lay.int)) hlt; rw [Lay.wt_list] at this; omega
        have HKs : Hid (partOk P.length P[k] = true → (P.take (k + 1)).all (partOk P.length) = true) := fun g => all_step HK.out hlt g
        have HKn : Hid (partOk P.length P[k] = false → gramOkB P = false) := fun g => gramOkB_no (all_no hlt g)
        clear r1 HR HK
        generalize P[k] = Q at *
        by_cases hq : inB Q.length 1 8 = true
        · have hq2 := inB_true.1 hq
          go_wp2_with (first | (go_at_call 55; refine (l1In_any _ _ _ _).mono ?_; rintro e w' ⟨rfl, rfl⟩))
          go_loop [5] (fun s5 => ∃ i : Nat, i ≤ Q.length ∧ s5 = .int .i64 i ∧ Hid ((Q.take i).all (rowOk P.length) = true)) (fun s5 => Q.length - (intOf s5).toNat)
          case atStart => exact ⟨0, Nat.zero_le _, rfl, by show _ = _; simp⟩
          case round =>
            obtain ⟨i, hi, rfl, HI⟩ := hrel
            by_cases hlt2 : i < Q.length
            · obtain ⟨b2, o2, rfl, hb2', a2, c2, q1, r2⟩ := HR1.out.listAt hlt2
              have R2 : Hid (Reads (w.alloc (.cells #[.slice (some ⟨b1, o1, none⟩) P.length c0] 32)) a2 Q[i]) := r2.reads
              have HIs : Hid (rowOk P.length Q[i] = true → (Q.take (i + 1)).all (rowOk P.length) = true) := fun g => all_step HI.out hlt2 g
              have HIn : Hid (rowOk P.length Q[i] = false → gramOkB P = false) := fun g => HKn.out (partOk_no (all_no hlt2 g))
              clear r2 HR1 HI
              generalize Q[i] = R at *
              by_cases hr : R.length ≤ 8
              · go_wp2
                go_loop [7] (fun s7 => ∃ j : Nat, j ≤ R.length ∧ s7 = .int .i64 j ∧ Hid ((R.take j).all (symOk P.length) = true)) (fun s7 => R.length - (intOf s7).toNat)
                case atStart => exact ⟨0, Nat.zero_le _, rfl, by show _ = _; simp⟩
                case round =>
                  obtain ⟨j, hj, rfl, HJ⟩ := hrel
                  by_cases hlt3 : j < R.length
                  · obtain ⟨b3, o3, rfl, hb3, q2'⟩ := R2.out.at hlt3
                    have q2 := q2' j hlt3
                    rw [List.getD_eq_getElem?_getD, List.getElem?_eq_getElem hlt3, Option.getD_some] at q2
                    have HJs : Hid (symOk P.length R[j] = true → (R.take (j + 1)).all (symOk P.length) = true) := fun g => all_step HJ.out hlt3 g
                    have HJn : Hid (symOk P.length R[j] = false → gramOkB P = false) := fun g => HIn.out (rowOk_no (all_no hlt3 g))
                    clear q2' R2 HJ
                    generalize R[j] = z at *
                    by_cases z1 : inB z 0 25 = true
                    · go_wp2_with (first | (go_at_call 55; refine (l1In_any _ _ _ _).mono ?_; rintro e w' ⟨rfl, rfl⟩))
                      go_round
                      case rel => exact ⟨j + 1, by omega, by go_num, HJs.out (by simp [symOk, z1])⟩
                      case measure => simp [intOf]; omega
                    · have z1' : inB z 0 25 = false := by simpa using z1
                      clear z1
                      by_cases z2 : inB z 100 (100 + P.length - 1) = true
                      · go_wp2_with (first | (go_at_call 55; refine (l1In_any _ _ _ _).mono ?_; rintro e w' ⟨rfl, rfl⟩))
                        go_round
                        case rel => exact ⟨j + 1, by omega, by go_num, HJs.out (by simp [symOk, z2])⟩
                        case measure => simp [intOf]; omega
                      · have z2' : inB z 100 (100 + P.length - 1) = false := by simpa using z2
                        clear z2
                        go_wp2_with (first | (go_at_call 55; refine (l1In_any _ _ _ _).mono ?_; rintro e w' ⟨rfl, rfl⟩))
                        go_ret
                        exact ⟨ret_bool (by rw [HJn.out (by simp [symOk, z1', z2'])]), B⟩
                  · have HE : Hid (R.all (symOk P.length) = true) := all_end HJ.out hlt3
                    clear R2 HJ
                    go_wp2
                    go_round
                    case rel => exact ⟨i + 1, by omega, by go_num, HIs.out (rowOk_yes hr HE.out)⟩
                    case measure => simp [intOf]; omega
              · go_wp2
                go_ret
                exact ⟨ret_bool (by rw [HIn.out (rowOk_long hr)]), B⟩
            · have HE : Hid (Q.all (rowOk P.length) = true) := all_end HI.out hlt2
              clear HR1 HI
              go_wp2
              go_round
              case rel => exact ⟨k + 1, by omega, by go_num, HKs.out (partOk_yes hq HE.out)⟩
              case measure => simp [intOf]; omega
        · have hq2 : inB Q.length 1 8 = false := by simpa using hq
          clear hq
          go_wp2_with (first | (go_at_call 55; refine (l1In_any _ _ _ _).mono ?_; rintro e w' ⟨rfl, rfl⟩))
          go_ret
          exact ⟨ret_bool (by rw [HKn.out (partOk_many hq2)]), B⟩
      · have HE : Hid (P.all (partOk P.length) = true) := all_end HK.out hlt
        clear HR HK
        go_wp2
        go_ret
        exact ⟨ret_bool (by rw [gramOkB_yes hbig HE.out]), B⟩
  · have hb2 : inB P.length 1 20 = false := by simpa using hbig
    clear hbig
    go_enter Tryd.func44, Tryd.ntmps44
    go_wp2_with (first | (go_at_call 55; refine (l1In_any _ _ _ _).mono ?_; rintro e w' ⟨rfl, rfl⟩))
    go_ret
    exact ⟨ret_bool (by rw [gramOkB_many hb2]), B⟩
end Go.Proofs.YtghpekijimoicaaDoor
