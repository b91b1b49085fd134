/-
  The walk of the exact law of ListCmp over this translation, out of the contracts. No statement is proved here (the frame is in the text that imports this one).
-/
import Derived.Test.YtkbnafmkgiknbabListCmp
import Derived.Test.YtkbnafmkgiknbabInts
namespace Go.Proofs.Ytkbnafmkgiknbab
open Go.RowKit

theorem listCmp_law (a b : Option Addr) (c d : Nat) (xs ys : List Int) (w : World) (h : Reads w a xs) (g : Reads w b ys) (hm : xs.length ≤ 9223372036854775807) (gm : ys.length ≤ 9223372036854775807) :
    Calls Try.prog 7 #[.slice a xs.length c, .slice b ys.length d] w fun e w' => e = .returned (.bool true) ∧ Below w.heap.size w w' := by
  by_cases hbig : 1048576 < xs.length
  · go_enter Try.func7, Try.ntmps7
    go_wp2
    go_ret
    exact ⟨rfl, Below.refl _ _⟩
  by_cases gbig : 1048576 < ys.length
  · go_enter Try.func7, Try.ntmps7
    go_wp2
    go_ret
    exact ⟨rfl, Below.refl _ _⟩
  · have hle : xs.length ≤ 1048576 := by omega
    have gle : ys.length ≤ 1048576 := by omega
    go_enter Try.func7, Try.ntmps7
    have k0 := Below.refl w.heap.size w
    go_wp2_with fail
    refine (toIntS_any _ _ xs _ (h.below k0) hle).mono ?_
    rintro e w1 ⟨b1, rfl, hn1, hr1, hl1⟩
    have k1 := k0.trans (hl1.mono k0.size)
    go_wp2_with fail
    refine (toIntS_any _ _ ys _ (g.below k1) gle).mono ?_
    rintro e w2 ⟨b2, rfl, hn2, hr2, hl2⟩
    have k2 := k1.trans (hl2.mono k1.size)
    have ra_2 := rowIs_below hr1 hl2
    go_wp2_with fail
    refine (specListCmp_any _ _ _ _ xs ys _ (Reads.of_row ra_2) (Reads.of_row hr2) (by omega) (by omega)).mono ?_
    rintro e w3 ⟨rfl, hl3⟩
    have k3 := k2.trans (hl3.mono k2.size)
    have ra_3 := rowIs_below ra_2 hl3
    have rb_3 := rowIs_below hr2 hl3
    go_wp2_with fail
    refine (toIntS_any _ _ xs _ (h.below k3) hle).mono ?_
    rintro e w4 ⟨b4, rfl, hn4, hr4, hl4⟩
    have k4 := k3.trans (hl4.mono k3.size)
    go_wp2_with fail
    refine (toIntS_any _ _ ys _ (g.below k4) gle).mono ?_
    rintro e w5 ⟨b5, rfl, hn5, hr5, hl5⟩
    have k5 := k4.trans (hl5.mono k4.size)
    have ra_5 := rowIs_below hr4 hl5
    go_wp2_with fail
    refine (implListCmp_any _ _ _ _ xs ys _ (Reads.of_row ra_5) (Reads.of_row hr5) (by omega) (by omega)).mono ?_
    rintro e w6 ⟨rfl, hl6⟩
    have k6 := k5.trans (hl6.mono k5.size)
    have ra_6 := rowIs_below ra_5 hl6
    have rb_6 := rowIs_below hr5 hl6
    go_wp2_with fail
    refine (toIntS_any _ _ xs _ (h.below k6) hle).mono ?_
    rintro e w7 ⟨b7, rfl, hn7, hr7, hl7⟩
    have k7 := k6.trans (hl7.mono k6.size)
    have ra_7 := rowIs_below ra_6 hl7
    have rb_7 := rowIs_below rb_6 hl7
    go_wp2_with fail
    refine (eqIntS_any _ _ _ _ xs xs _ (Reads.of_row ra_7) (Reads.of_row hr7) (by omega)).mono ?_
    rintro e w8 ⟨rfl, hl8⟩
    have k8 := k7.trans (hl8.mono k7.size)
    have ra_8 := rowIs_below ra_7 hl8
    have rb_8 := rowIs_below rb_7 hl8
    have rc_8 := rowIs_below hr7 hl8
    rw [eqL_self]
    go_wp2_with fail
    refine (toIntS_any _ _ ys _ (g.below k8) gle).mono ?_
    rintro e w9 ⟨b9, rfl, hn9, hr9, hl9⟩
    have k9 := k8.trans (hl9.mono k8.size)
    have rb_9 := rowIs_below rb_8 hl9
    go_wp2_with fail
    refine (eqIntS_any _ _ _ _ ys ys _ (Reads.of_row rb_9) (Reads.of_row hr9) (by omega)).mono ?_
    rintro e w10 ⟨rfl, hl10⟩
    have k10 := k9.trans (hl10.mono k9.size)
    have rb_10 := rowIs_below rb_9 hl10
    have rd_10 := rowIs_below hr9 hl10
    rw [eqL_self]
    go_wp2
    go_ret
    exact ⟨rfl, k10⟩
end Go.Proofs.Ytkbnafmkgiknbab
