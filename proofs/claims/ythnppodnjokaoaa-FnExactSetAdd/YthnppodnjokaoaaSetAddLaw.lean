/-
  The walk of the exact law of SetAdd over this translation, out of the contracts. No statement is proved here (the frame is in the text that imports this one).
-/
import Derived.Test.YthnppodnjokaoaaSetAdd
import Derived.Test.YthnppodnjokaoaaMarks
namespace Go.Proofs.Ythnppodnjokaoaa
open Go.RowKit

theorem setAdd_law (a : Option Addr) (c : Nat) (zs : List Int) (x : Int) (w : World) (h : Reads w a zs) (hm : zs.length ≤ 9223372036854775807) :
    Calls Try.prog 4 #[.slice a zs.length c, .int .i64 x] w fun e w' => e = .returned (.bool true) ∧ Below w.heap.size w w' := by
  by_cases hbig : 1048576 < zs.length
  · go_enter Try.func4, Try.ntmps4
    go_wp2
    go_ret
    exact ⟨rfl, Below.refl _ _⟩
  · have hle : zs.length ≤ 1048576 := by omega
    have hadd := addL_length_le zs x
    go_enter Try.func4, Try.ntmps4
    have k0 := Below.refl w.heap.size w
    go_wp2_with fail
    refine (toIntS_own _ _ zs _ (h.below k0) hle).mono ?_
    rintro e w1 ⟨vA, rfl, oA_1, hl1⟩
    have k1 := k0.trans (hl1.mono k0.size)
    have s1 := hl1.size
    go_wp2_with fail
    refine (specSetAdd_any _ _ zs x _ oA_1 (by omega)).mono ?_
    rintro e w2 ⟨vB, rfl, oB_2, hl2⟩
    have k2 := k1.trans (hl2.mono k1.size)
    have s2 := hl2.size
    have oA_2 := oA_1.below hl2
    go_wp2_with fail
    refine (toIntS_own _ _ zs _ (h.below k2) hle).mono ?_
    rintro e w3 ⟨vC, rfl, oC_3, hl3⟩
    have k3 := k2.trans (hl3.mono k2.size)
    have s3 := hl3.size
    have oB_3 := oB_2.below hl3
    go_wp2_with fail
    refine (implSetAdd_any _ _ zs x _ oC_3 (by omega)).mono ?_
    rintro e w4 ⟨vD, rfl, oD_4, hl4⟩
    have k4 := k3.trans (hl4.mono k3.size)
    have s4 := hl4.size
    have oB_4 := oB_3.below hl4
    have oC_4 := oC_3.below hl4
    go_wp2_with fail
    refine (eqIntS_own _ _ _ _ _ _ _ oD_4 oB_4 (by omega)).mono ?_
    rintro e w5 ⟨rfl, hl5⟩
    have k5 := k4.trans (hl5.mono k4.size)
    have s5 := hl5.size
    have oB_5 := oB_4.below hl5
    have oC_5 := oC_4.below hl5
    have oD_5 := oD_4.below hl5
    rw [eqL_self]
    go_wp2_with fail
    refine (toIntS_own _ _ zs _ (h.below k5) hle).mono ?_
    rintro e w6 ⟨vE, rfl, oE_6, hl6⟩
    have k6 := k5.trans (hl6.mono k5.size)
    have s6 := hl6.size
    have oB_6 := oB_5.below hl6
    have oC_6 := oC_5.below hl6
    have oD_6 := oD_5.below hl6
    go_wp2_with fail
    refine (eqIntS_own _ _ _ _ _ _ _ oC_6 oE_6 (by omega)).mono ?_
    rintro e w7 ⟨rfl, hl7⟩
    have k7 := k6.trans (hl7.mono k6.size)
    have s7 := hl7.size
    have oB_7 := oB_6.below hl7
    have oC_7 := oC_6.below hl7
    have oD_7 := oD_6.below hl7
    have oE_7 := oE_6.below hl7
    rw [eqL_self]
    go_wp2_with fail
    refine (markIntS_any _ _ _ 1 _ oC_7 (by omega) (by omega) (by omega)).mono ?_
    rintro e w8 ⟨rfl, oC_8, hg8⟩
    have k8 := k7.grown hg8 k7.size (fun k hk => Nat.le_trans k2.size (oC_7.block k hk).1)
    have s8 := hg8.size
    have oB_8 := oB_7.kept hg8 (oB_2.apart oC_3 (by omega)).1
    have oD_8 := oD_7.kept hg8 (oC_3.apart oD_4 (by omega)).2
    go_wp2_with fail
    refine (eqIntS_own _ _ _ _ _ _ _ oD_8 oB_8 (by omega)).mono ?_
    rintro e w9 ⟨rfl, hl9⟩
    have k9 := k8.trans (hl9.mono k8.size)
    have s9 := hl9.size
    have oB_9 := oB_8.below hl9
    have oD_9 := oD_8.below hl9
    rw [eqL_self]
    go_wp2_with fail
    refine (markIntS_any _ _ _ 1 _ oD_9 (by omega) (by omega) (by omega)).mono ?_
    rintro e w10 ⟨rfl, oD_10, hg10⟩
    have k10 := k9.grown hg10 k9.size (fun k hk => Nat.le_trans k3.size (oD_9.block k hk).1)
    have s10 := hg10.size
    have oB_10 := oB_9.kept hg10 (oB_2.apart oD_4 (by omega)).1
    go_wp2_with fail
    refine (heldIntS_own _ _ _ 1 _ oD_10 (by omega) (by omega) (by omega)).mono ?_
    rintro e w11 ⟨rfl, hl11⟩
    have k11 := k10.trans (hl11.mono k10.size)
    have s11 := hl11.size
    have oB_11 := oB_10.below hl11
    have oD_11 := oD_10.below hl11
    go_wp2_with fail
    refine (toIntS_own _ _ zs _ (h.below k11) hle).mono ?_
    rintro e w12 ⟨vF, rfl, oF_12, hl12⟩
    have k12 := k11.trans (hl12.mono k11.size)
    have s12 := hl12.size
    have oB_12 := oB_11.below hl12
    have oD_12 := oD_11.below hl12
    go_wp2_with fail
    refine (implSetAdd_any _ _ zs x _ oF_12 (by omega)).mono ?_
    rintro e w13 ⟨vG, rfl, oG_13, hl13⟩
    have k13 := k12.trans (hl13.mono k12.size)
    have s13 := hl13.size
    have oB_13 := oB_12.below hl13
    have oD_13 := oD_12.below hl13
    have oF_13 := oF_12.below hl13
    go_wp2_with fail
    refine (eqIntS_own _ _ _ _ _ _ _ oG_13 oB_13 (by omega)).mono ?_
    rintro e w14 ⟨rfl, hl14⟩
    have k14 := k13.trans (hl14.mono k13.size)
    have s14 := hl14.size
    have oB_14 := oB_13.below hl14
    have oD_14 := oD_13.below hl14
    have oG_14 := oG_13.below hl14
    rw [eqL_self]
    go_wp2_with fail
    refine (heldIntS_own _ _ _ 1 _ oD_14 (by omega) (by omega) (by omega)).mono ?_
    rintro e w15 ⟨rfl, hl15⟩
    have k15 := k14.trans (hl15.mono k14.size)
    have s15 := hl15.size
    have oB_15 := oB_14.below hl15
    have oD_15 := oD_14.below hl15
    have oG_15 := oG_14.below hl15
    go_wp2
    go_ret
    exact ⟨rfl, k15⟩
end Go.Proofs.Ythnppodnjokaoaa
