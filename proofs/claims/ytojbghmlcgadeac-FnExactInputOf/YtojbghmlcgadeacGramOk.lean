/-
  Contracts of impl.GramOk and what it calls over this translation. No statement is proved here.
-/
import Derived.Test.YtojbghmlcgadeacSpecGramOk
namespace Go.Proofs.Ytojbghmlcgadeac
open Go.RowKit

theorem wf_i64 {z : Int} (h : (Lit.int .i64 z).wf = true) : -9223372036854775808 ≤ z ∧ z ≤ 9223372036854775807 := bounds_i64 h
theorem fit_ints {zs : List Int} (h : (Lay.list Lay.int).fit zs) : ∀ z ∈ zs, -9223372036854775808 ≤ z ∧ z ≤ 9223372036854775807 := fun z hz => wf_i64 (h.2 z hz)
theorem part_upto {n : Nat} {x : Int} : inB x 100 (100 + n - 1) = decide (100 ≤ x ∧ x - 100 < n) := by
  rw [Bool.eq_iff_iff]; simp [inB]; omega

theorem isLetter_any (x : Int) (w : World) : Calls Try.prog 12 #[.int .i64 x] w fun e w' => e = .returned (.bool (inB x 0 25)) ∧ w' = w := by
  by_cases h1 : 0 ≤ x
  · by_cases h2 : x ≤ 25
    · go_enter Try.func12, Try.ntmps12
      go_wp2
      go_ret
      exact ⟨ret_bool (by simp [inB, h1, h2]), rfl⟩
    · go_enter Try.func12, Try.ntmps12
      go_wp2
      go_ret
      exact ⟨ret_bool (by simp [inB, h1, h2]), rfl⟩
  · go_enter Try.func12, Try.ntmps12
    go_wp2
    go_ret
    exact ⟨ret_bool (by simp [inB]; omega), rfl⟩

end Go.Proofs.Ytojbghmlcgadeac
