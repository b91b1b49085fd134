/-
  The walk of the exact law of SetJoin over this translation, out of the contracts. No statement is proved here (the frame is in the text that imports this one).
-/
import Derived.Test.YthnppodnjokaoaaSetJoin
import Derived.Test.YthnppodnjokaoaaMarks
namespace Go.Proofs.Ythnppodnjokaoaa
open Go.RowKit

theorem setJoin_law (a b : Option Addr) (c d : Nat) (xs ys : List Int) (w : World) (h : Reads w a xs) (g : Reads w b ys) (hm : xs.length ≤ 9223372036854775807) (gm : ys.length ≤ 9223372036854775807) :
    Calls Try.prog 5 #[.slice a xs.length c, .slice b ys.length d] w fun e w' => e = .returned (.bool true) ∧ Below w.heap.size w w' := by
  by_cases hbig : 1048576 < xs.length
  · go_enter Try.func5, Try.ntmps5
    go_wp2
    go_ret
    exact ⟨rfl, Below.refl _ _⟩
  by_cases gbig : 1048576 < ys.length
  · go_enter Try.func5, Try.ntmps5
    go_wp2
    go_ret
    exact ⟨rfl, Below.refl _ _⟩
  · have hle : xs.length ≤ 1048576 := by omega
    have gle : ys.length ≤ 1048576 := by omega
    have hj := joinL_length_le xs ys
    go_enter Try.func5, Try.ntmps5
    have k0 := Below.refl w.heap.size w
    go_wp2_with fail
    refine (toIntS_own _ _ xs _ (h.below k0) hle).mono ?_
    rintro e w1 ⟨vA, rfl, oA_1, hl1⟩
    have k1 := k0.trans (hl1.mono k0.size)
    have s1 := hl1.size
    go_wp2_with fail
    refine (toIntS_own _ _ ys _ (g.below k1) gle).mono ?_
    rintro e w2 ⟨vB, rfl, oB_2, hl2⟩
    have k2 := k1.trans (hl2.mono k1.size)
    have s2 := hl2.size
    have oA_2 := oA_1.below hl2
    go_wp2_with fail
    refine (specSetJoin_any _ _ _ _ xs ys _ oA_2 oB_2 hle gle).mono ?_
    rintro e w3 ⟨vR, rfl, oR_3, hl3⟩
    have k3 := k2.trans (hl3.mono k2.size)
    have s3 := hl3.size
    have oA_3 := oA_2.below hl3
    have oB_3 := oB_2.below hl3
    go_wp2_with fail
    refine (toIntS_own _ _ xs _ (h.below k3) hle).mono ?_
    rintro e w4 ⟨vC, rfl, oC_4, hl4⟩
    have k4 := k3.trans (hl4.mono k3.size)
    have s4 := hl4.size
    have oR_4 := oR_3.below hl4
    go_wp2_with fail
    refine (toIntS_own _ _ ys _ (g.below k4) gle).mono ?_
    rintro e w5 ⟨vD, rfl, oD_5, hl5⟩
    have k5 := k4.trans (hl5.mono k4.size)
    have s5 := hl5.size
    have oR_5 := oR_4.below hl5
    have oC_5 := oC_4.below hl5
    go_wp2_with fail
    refine (implSetJoin_any _ _ _ _ xs ys _ oC_5 oD_5 hle gle).mono ?_
    rintro e w6 ⟨vG, rfl, oG_6, hl6⟩
    have k6 := k5.trans (hl6.mono k5.size)
    have s6 := hl6.size
    have oR_6 := oR_5.below hl6
    have oC_6 := oC_5.below hl6
    have oD_6 := oD_5.below hl6
    go_wp2_with fail
    refine (eqIntS_own _ _ _ _ _ _ _ oG_6 oR_6 (by omega)).mono ?_
    rintro e w7 ⟨rfl, hl7⟩
    have k7 := k6.trans (hl7.mono k6.size)
    have s7 := hl7.size
    have oR_7 := oR_6.below hl7
    have oC_7 := oC_6.below hl7
    have oD_7 := oD_6.below hl7
    have oG_7 := oG_6.below hl7
    rw [eqL_self]
    go_wp2_with fail
    refine (toIntS_own _ _ xs _ (h.below k7) hle).mono ?_
    rintro e w8 ⟨vE, rfl, oE_8, hl8⟩
    have k8 := k7.trans (hl8.mono k7.size)
    have s8 := hl8.size
    have oR_8 := oR_7.below hl8
    have oC_8 := oC_7.below hl8
    have oD_8 := oD_7.below hl8
    have oG_8 := oG_7.below hl8
    go_wp2_with fail
    refine (eqIntS_own _ _ _ _ _ _ _ oC_8 oE_8 (by omega)).mono ?_
    rintro e w9 ⟨rfl, hl9⟩
    have k9 := k8.trans (hl9.mono k8.size)
    have s9 := hl9.size
    have oR_9 := oR_8.below hl9
    have oC_9 := oC_8.below hl9
    have oD_9 := oD_8.below hl9
    have oG_9 := oG_8.below hl9
    have oE_9 := oE_8.below hl9
    rw [eqL_self]
    go_wp2_with fail
    refine (toIntS_own _ _ ys _ (g.below k9) gle).mono ?_
    rintro e w10 ⟨vF, rfl, oF_10, hl10⟩
    have k10 := k9.trans (hl10.mono k9.size)
    have s10 := hl10.size
    have oR_10 := oR_9.below hl10
    have oC_10 := oC_9.below hl10
    have oD_10 := oD_9.below hl10
    have oG_10 := oG_9.below hl10
    go_wp2_with fail
    refine (eqIntS_own _ _ _ _ _ _ _ oD_10 oF_10 (by omega)).mono ?_
    rintro e w11 ⟨rfl, hl11⟩
    have k11 := k10.trans (hl11.mono k10.size)
    have s11 := hl11.size
    have oR_11 := oR_10.below hl11
    have oC_11 := oC_10.below hl11
    have oD_11 := oD_10.below hl11
    have oG_11 := oG_10.below hl11
    have oF_11 := oF_10.below hl11
    rw [eqL_self]
    go_wp2_with fail
    refine (markIntS_any _ _ _ 1 _ oC_11 (by omega) (by omega) (by omega)).mono ?_
    rintro e w12 ⟨rfl, oC_12, hg12⟩
    have k12 := k11.grown hg12 k11.size (fun k hk => Nat.le_trans k3.size (oC_11.block k hk).1)
    have s12 := hg12.size
    have oR_12 := oR_11.kept hg12 (oR_3.apart oC_4 (by omega)).1
    have oD_12 := oD_11.kept hg12 (oC_4.apart oD_5 (by omega)).2
    have oG_12 := oG_11.kept hg12 (oC_4.apart oG_6 (by omega)).2
    go_wp2_with fail
    refine (markIntS_any _ _ _ (1 + (xs.length : Int)) _ oD_12 (by omega) (by omega) (by omega)).mono ?_
    rintro e w13 ⟨rfl, oD_13, hg13⟩
    have k13 := k12.grown hg13 k12.size (fun k hk => Nat.le_trans k4.size (oD_12.block k hk).1)
    have s13 := hg13.size
    have oR_13 := oR_12.kept hg13 (oR_3.apart oD_5 (by omega)).1
    have oG_13 := oG_12.kept hg13 (oD_5.apart oG_6 (by omega)).2
    go_wp2_with fail
    refine (eqIntS_own _ _ _ _ _ _ _ oG_13 oR_13 (by omega)).mono ?_
    rintro e w14 ⟨rfl, hl14⟩
    have k14 := k13.trans (hl14.mono k13.size)
    have s14 := hl14.size
    have oR_14 := oR_13.below hl14
    have oG_14 := oG_13.below hl14
    rw [eqL_self]
    go_wp2_with fail
    refine (markIntS_any _ _ _ 1 _ oG_14 (by omega) (by omega) (by omega)).mono ?_
    rintro e w15 ⟨rfl, oG_15, hg15⟩
    have k15 := k14.grown hg15 k14.size (fun k hk => Nat.le_trans k5.size (oG_14.block k hk).1)
    have s15 := hg15.size
    have oR_15 := oR_14.kept hg15 (oR_3.apart oG_6 (by omega)).1
    go_wp2_with fail
    refine (heldIntS_own _ _ _ 1 _ oG_15 (by omega) (by omega) (by omega)).mono ?_
    rintro e w16 ⟨rfl, hl16⟩
    have k16 := k15.trans (hl16.mono k15.size)
    have s16 := hl16.size
    have oR_16 := oR_15.below hl16
    have oG_16 := oG_15.below hl16
    go_wp2_with fail
    refine (toIntS_own _ _ xs _ (h.below k16) hle).mono ?_
    rintro e w17 ⟨vH, rfl, oH_17, hl17⟩
    have k17 := k16.trans (hl17.mono k16.size)
    have s17 := hl17.size
    have oR_17 := oR_16.below hl17
    have oG_17 := oG_16.below hl17
    go_wp2_with fail
    refine (toIntS_own _ _ ys _ (g.below k17) gle).mono ?_
    rintro e w18 ⟨vI, rfl, oI_18, hl18⟩
    have k18 := k17.trans (hl18.mono k17.size)
    have s18 := hl18.size
    have oR_18 := oR_17.below hl18
    have oG_18 := oG_17.below hl18
    have oH_18 := oH_17.below hl18
    go_wp2_with fail
    refine (implSetJoin_any _ _ _ _ xs ys _ oH_18 oI_18 hle gle).mono ?_
    rintro e w19 ⟨vJ, rfl, oJ_19, hl19⟩
    have k19 := k18.trans (hl19.mono k18.size)
    have s19 := hl19.size
    have oR_19 := oR_18.below hl19
    have oG_19 := oG_18.below hl19
    have oH_19 := oH_18.below hl19
    have oI_19 := oI_18.below hl19
    go_wp2_with fail
    refine (eqIntS_own _ _ _ _ _ _ _ oJ_19 oR_19 (by omega)).mono ?_
    rintro e w20 ⟨rfl, hl20⟩
    have k20 := k19.trans (hl20.mono k19.size)
    have s20 := hl20.size
    have oR_20 := oR_19.below hl20
    have oG_20 := oG_19.below hl20
    have oJ_20 := oJ_19.below hl20
    rw [eqL_self]
    go_wp2_with fail
    refine (heldIntS_own _ _ _ 1 _ oG_20 (by omega) (by omega) (by omega)).mono ?_
    rintro e w21 ⟨rfl, hl21⟩
    have k21 := k20.trans (hl21.mono k20.size)
    have s21 := hl21.size
    have oR_21 := oR_20.below hl21
    have oG_21 := oG_20.below hl21
    have oJ_21 := oJ_20.below hl21
    go_wp2
    go_ret
    exact ⟨rfl, k21⟩
end Go.Proofs.Ythnppodnjokaoaa
