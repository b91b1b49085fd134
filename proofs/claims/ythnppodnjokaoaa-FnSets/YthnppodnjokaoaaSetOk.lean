/-
  Contracts of the two SetOk (the program's and the specification's) over this translation. No statement is proved here.
-/
import Derived.Test.YthnppodnjokaoaaInfo
namespace Go.Proofs.Ythnppodnjokaoaa
open Go.RowKit

theorem implSetOk_any (a : Option Addr) (c : Nat) (zs : List Int) (w : World) (h : Reads w a zs) (hl : zs.length ≤ 1048576 * 4) :
    Calls Try.prog 15 #[.slice a zs.length c] w fun e w' => e = .returned (.bool (okL zs)) ∧ Below w.heap.size w w' := by
  go_enter Try.func15, Try.ntmps15
  go_wp2
  go_loopw [3] (fun i wr => ∃ k : Nat, 1 ≤ k ∧ k ≤ zs.length + 1 ∧ i = .int .i64 k ∧ okTo zs k ∧ Below w.heap.size w wr) (fun i _ => zs.length - (intOf i).toNat)
  case atStart => exact ⟨1, Nat.le_refl _, by omega, rfl, okTo_one zs, Below.refl _ _⟩
  case round =>
    obtain ⟨k, hk, hk2, rfl, hok, hbel⟩ := hrel
    by_cases hlt : k < zs.length
    · obtain ⟨b1, o1, rfl, hb1, hc1⟩ := h.at hlt
      have hcx := (hbel.cell (p := ⟨b1, o1 + k, none⟩) hb1).trans (hc1 k hlt)
      have hcy := (hbel.cell (p := ⟨b1, o1 + (k - 1), none⟩) hb1).trans (hc1 (k - 1) (by omega))
      go_wp2
      go_quiet (fail)
      go_wp2
      · go_ret
        exact ⟨ret_bool (okL_no' hk hlt ‹_›).symm, below_drewN hbel _⟩
      · go_roundw
        case rel => exact ⟨k + 1, by omega, by omega, by go_num, okTo_step' hok hk hlt ‹_›, below_drewN hbel _⟩
        case measure => simp [intOf]; omega
    · go_wp2
      go_ret
      exact ⟨ret_bool (okL_end hok hlt).symm, hbel⟩
end Go.Proofs.Ythnppodnjokaoaa
