/-
  The walk of the exact law of Digits over this translation, out of the contracts. No statement is proved here (the frame is in the text that imports this one).
-/
import Derived.Test.YtkbnafmkgiknbaaDoorLaid
namespace Go.Proofs.YtkbnafmkgiknbaaDoor
open Go.RowKit

theorem digits_law (n : Int) (w : World) (h0 : -9223372036854775808 ≤ n) (h1 : n ≤ 9223372036854775807) (htab : Lib.TabIs Tryd.prog w "internal/strconv.uint64pow10" .u64 Lib.pow10Tab) :
    Calls Tryd.prog 3 #[.int .i64 n] w fun e w' => e = .returned (.bool true) ∧ Below w.heap.size w w' := by
  have HT : Hid (Lib.TabIs Tryd.prog w "internal/strconv.uint64pow10" .u64 Lib.pow10Tab) := htab
  clear htab
  go_enter Tryd.func3, Tryd.ntmps3
  go_wp2_with fail
  refine (specDigits_any n _ h0 h1).mono ?_
  rintro e w1 ⟨rfl, hl1⟩
  go_wp2_with fail
  refine (implDigits_any n _ h0 h1 (Go.Joins.tab_stays gPow HT.out hl1 (Nat.le_refl _))).mono ?_
  rintro e w2 ⟨rfl, hl2⟩
  have k2 := hl1.trans (hl2.mono hl1.size)
  go_wp2
  go_ret
  exact ⟨rfl, k2⟩
end Go.Proofs.YtkbnafmkgiknbaaDoor
