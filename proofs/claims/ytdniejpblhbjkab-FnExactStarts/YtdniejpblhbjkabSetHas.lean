/-
  Contracts of SetHas (the program's, the specification's, and the two library functions under it) over this translation, and the walk of its exact law. No statement is proved here.
-/
import Derived.Test.YtdniejpblhbjkabInfo
namespace Go.Proofs.Ytdniejpblhbjkab
open Go.RowKit

theorem specSetHas_same (a : Option Addr) (c : Nat) (zs : List Int) (x : Int) (w : World) (h : Reads w a zs) (hl : zs.length ≤ 1048576 * 4) :
    Calls Try.prog 47 #[.slice a zs.length c, .int .i64 x] w fun e w' => e = .returned (.bool (hasL zs x)) ∧ w' = w := by
  go_enter Try.func47, Try.ntmps47
  go_wp2
  go_loop [5] (fun i => ∃ k : Nat, k ≤ zs.length ∧ i = .int .i64 k ∧ x ∉ zs.take k) (fun i => zs.length - (intOf i).toNat)
  case atStart => exact ⟨0, Nat.zero_le _, rfl, by simp⟩
  case round =>
    obtain ⟨k, hk, rfl, hnot⟩ := hrel
    have HN : Hid (x ∉ zs.take k) := hnot
    clear hnot
    by_cases hlt : k < zs.length
    · obtain ⟨b1, o1, rfl, hb1, hc1⟩ := h.at hlt
      have hcx := hc1 k hlt
      go_wp2
      · go_ret
        exact ⟨ret_bool (hasL_yes (in_at hlt ‹_›)).symm, rfl⟩
      · go_round
        case rel => exact ⟨k + 1, by omega, by go_num, notin_step HN.out hlt ‹_›⟩
        case measure => simp [intOf]; omega
    · go_wp2
      go_ret
      exact ⟨ret_bool (hasL_no (notin_end HN.out hlt)).symm, rfl⟩

theorem specSetHas_any (a : Option Addr) (c : Nat) (zs : List Int) (x : Int) (w : World) (h : Reads w a zs) (hl : zs.length ≤ 1048576 * 4) :
    Calls Try.prog 47 #[.slice a zs.length c, .int .i64 x] w fun e w' => e = .returned (.bool (hasL zs x)) ∧ Below w.heap.size w w' := by
  refine (specSetHas_same a c zs x w h hl).mono ?_
  rintro e w' ⟨rfl, rfl⟩
  exact ⟨rfl, Below.refl _ _⟩

end Go.Proofs.Ytdniejpblhbjkab
