/-
  Contracts of the functions that tell a byte's kind (impl.kindOf, spec.l2Kind) and of impl.firstNoWord over this translation. No statement is proved here.
-/
import Derived.Test.YtkbnafmkgiknbabWordsMath
import Derived.Test.YtkbnafmkgiknbabShelf
import Derived.Test.YtkbnafmkgiknbabChecked
import Derived.Handy
namespace Go.Proofs.Ytkbnafmkgiknbab
open Go.RowKit

/-- The signs. -/
def signB : ByteArray := ⟨#[61, 124, 59, 40, 41, 42, 43, 63]⟩
/-- A byte is one of the signs. -/
def isSign (c : Int) : Bool := decide (c = 61 ∨ c = 124 ∨ c = 59 ∨ c = 40 ∨ c = 41 ∨ c = 42 ∨ c = 43 ∨ c = 63)
set_option maxRecDepth 100000 in
theorem sign_all : ∀ n : Fin 256, decide (0 ≤ Lib.indexByte [61, 124, 59, 40, 41, 42, 43, 63] n.val.toUInt8) = isSign (n.val : Int) := by decide
theorem sign_any (c : Int) (h0 : 0 ≤ c) (h1 : c ≤ 255) : decide (0 ≤ Lib.indexByte signB.data.toList c.toNat.toUInt8) = isSign c := by
  have := sign_all ⟨c.toNat, by omega⟩
  simp only [Int.toNat_of_nonneg h0] at this
  exact this

theorem isSign_yes {c : Int} {b : Prop} [Decidable b] (h : decide b = isSign c) (g : b) : c = 61 ∨ c = 124 ∨ c = 59 ∨ c = 40 ∨ c = 41 ∨ c = 42 ∨ c = 43 ∨ c = 63 := by
  have : isSign c = true := by rw [← h]; exact decide_eq_true g
  simpa only [isSign, decide_eq_true_eq] using this
theorem isSign_no {c : Int} {b : Prop} [Decidable b] (h : decide b = isSign c) (g : ¬ b) : ¬ (c = 61 ∨ c = 124 ∨ c = 59 ∨ c = 40 ∨ c = 41 ∨ c = 42 ∨ c = 43 ∨ c = 63) := by
  have : isSign c = false := by rw [← h]; exact decide_eq_false g
  simpa only [isSign, decide_eq_false_iff_not] using this

theorem kindOf_any (c : Int) (w : World) (h0 : 0 ≤ c) (h1 : c ≤ 255) : Calls Try.prog 40 #[.int .u8 c] w fun e w' => e = .returned (.int .i64 (kindI c)) ∧ w' = w := by
  have HS : Hid (decide (0 ≤ Lib.indexByte signB.data.toList c.toNat.toUInt8) = isSign c) := sign_any c h0 h1
  go_enter Try.func40, Try.ntmps40
  go_wp2_with (go_at_call 43; refine (Try.strings_IndexByte _ _ _).mono ?_; rintro e w' ⟨rfl, rfl⟩)
  all_goals
    go_ret
    refine ⟨ret_int ?_, rfl⟩
    try simp only [beq_iff_eq, beq_eq_false_iff_ne, ne_eq] at *
    first
    | exact (kindI_between (by omega)).symm
    | exact (kindI_name (by omega)).symm
    | exact (kindI_letter (by omega)).symm
    | exact (kindI_sign (isSign_yes HS.out (by assumption))).symm
    | exact (kindI_none (by omega) (by omega) (by omega) (isSign_no HS.out (by first | assumption | (refine Int.not_le.2 ?_; assumption)))).symm

theorem l2Kind_any (c : Int) (w : World) (h0 : 0 ≤ c) (h1 : c ≤ 255) : Calls Try.prog 33 #[.int .u8 c] w fun e w' => e = .returned (.int .i64 (kindI c)) ∧ w' = w := by
  by_cases hk : (c = 32 ∨ c = 10) ∨ (65 ≤ c ∧ c ≤ 90) ∨ (97 ≤ c ∧ c ≤ 122)
  · go_enter Try.func33, Try.ntmps33
    go_wp2
    all_goals try simp only [beq_iff_eq, beq_eq_false_iff_ne, ne_eq] at *
    all_goals try (exfalso; omega)
    all_goals
      go_ret
      refine ⟨ret_int ?_, rfl⟩
      first
      | exact (kindI_between (by omega)).symm
      | exact (kindI_name (by omega)).symm
      | exact (kindI_letter (by omega)).symm
  · have e0 : (c == 32) = false := by simp; omega
    have e1 : (c == 10) = false := by simp; omega
    have HK : Hid (¬ ((c = 32 ∨ c = 10) ∨ (65 ≤ c ∧ c ≤ 90) ∨ (97 ≤ c ∧ c ≤ 122))) := hk
    go_enter Try.func33, Try.ntmps33
    go_wp2
    all_goals go_rounds 9
    all_goals
      go_ret
      refine ⟨ret_int ?_, rfl⟩
      try simp only [beq_iff_eq, beq_eq_false_iff_ne, ne_eq, ByteArray.getElem_eq_getElem_data, List.getElem_toArray, List.getElem_cons_succ, List.getElem_cons_zero, UInt8.reduceToNat] at *
      have hk := HK.out
      first
      | exact (kindI_sign (by omega)).symm
      | exact (kindI_none (by omega) (by omega) (by omega) (by omega)).symm
end Go.Proofs.Ytkbnafmkgiknbab
