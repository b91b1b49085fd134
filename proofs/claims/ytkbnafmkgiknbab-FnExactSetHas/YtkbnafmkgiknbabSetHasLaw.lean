/-
  The walk of the exact law of SetHas over this translation, out of the contracts. No statement is proved here (the frame is in the text that imports this one).
-/
import Derived.Test.YtkbnafmkgiknbabSetHas
import Derived.Test.YtkbnafmkgiknbabInts
namespace Go.Proofs.Ytkbnafmkgiknbab
open Go.RowKit

theorem setHas_law (a : Option Addr) (c : Nat) (zs : List Int) (x : Int) (w : World) (h : Reads w a zs) (hm : zs.length ≤ 9223372036854775807) :
    Calls Try.prog 4 #[.slice a zs.length c, .int .i64 x] w fun e w' => e = .returned (.bool true) ∧ Below w.heap.size w w' := by
  by_cases hbig : 1048576 < zs.length
  · have hb : (1048576 : Int) < (zs.length : Int) := by omega
    go_enter Try.func4, Try.ntmps4
    go_wp2
    go_ret
    exact ⟨rfl, Below.refl _ _⟩
  · have hb : ¬ (1048576 : Int) < (zs.length : Int) := by omega
    have hle : zs.length ≤ 1048576 := by omega
    go_enter Try.func4, Try.ntmps4
    go_wp2_with fail
    refine (toIntS_any _ _ zs _ h hle).mono ?_
    rintro e w1 ⟨b1, rfl, hn1, hr1, hl1⟩
    go_wp2_with fail
    refine (specSetHas_any _ _ zs x _ (Reads.of_row hr1) (by omega)).mono ?_
    rintro e w2 ⟨rfl, hl2⟩
    have k2 := hl1.trans (hl2.mono hl1.size)
    go_wp2_with fail
    refine (toIntS_any _ _ zs _ (h.below k2) hle).mono ?_
    rintro e w3 ⟨b3, rfl, hn3, hr3, hl3⟩
    have k3 := k2.trans (hl3.mono k2.size)
    go_wp2_with fail
    refine (implSetHas_any _ _ zs x _ (Reads.of_row hr3) (by omega)).mono ?_
    rintro e w4 ⟨rfl, hl4⟩
    have k4 := k3.trans (hl4.mono k3.size)
    have hr4 := rowIs_below hr3 hl4
    go_wp2_with fail
    refine (toIntS_any _ _ zs _ (h.below k4) hle).mono ?_
    rintro e w5 ⟨b5, rfl, hn5, hr5, hl5⟩
    have k5 := k4.trans (hl5.mono k4.size)
    have hr5' := rowIs_below hr4 hl5
    go_wp2_with fail
    refine (eqIntS_any _ _ _ _ zs zs _ (Reads.of_row hr5') (Reads.of_row hr5) (by omega)).mono ?_
    rintro e w6 ⟨rfl, hl6⟩
    have k6 := k5.trans (hl6.mono k5.size)
    rw [eqL_self]
    go_wp2
    go_ret
    exact ⟨rfl, k6⟩
end Go.Proofs.Ytkbnafmkgiknbab
