/-
  Contract of the law package's markText over this translation. No statement is proved here.
-/
import Derived.Test.YtkbnafmkgiknbacDecMath
import Derived.Test.YtkbnafmkgiknbacChecked
namespace Go.Proofs.Ytkbnafmkgiknbac
open Go.RowKit

/-- The text that stands for the mark N. -/
def markB (N : Nat) : ByteArray := ⟨(109 :: Lib.decDigits N).toArray⟩

set_option maxRecDepth 100000 in
theorem markText_any (N : Nat) (w : World) (h0 : 1 ≤ N) (h1 : (N : Int) ≤ 9223372036854775807) :
    Calls Try.prog 41 #[.int .i64 (N : Int)] w fun e w' => e = .returned (.string (markB N)) ∧ Below w.heap.size w w' := by
  go_enter Try.func41, Try.ntmps41
  go_wp2
  go_loopw [0, 3] (fun t o wr => ∃ (m : Nat) (s : List UInt8), m ≤ N ∧ t = .int .i64 m ∧ o = .string ⟨s.toArray⟩ ∧ Hid (decD m ++ s = Lib.decDigits N) ∧ Below w.heap.size w wr) (fun t _ _ => (intOf t).toNat)
  case atStart => exact ⟨N, [], Nat.le_refl _, rfl, rfl, by show decD N ++ [] = _; rw [decD_pos h0]; simp, Below.refl _ _⟩
  case round =>
    obtain ⟨m, s, hm, rfl, rfl, HS, hbel⟩ := hrel
    have hsl : s.length ≤ 20 := by
      have h2 := decDigits_le (N := N) (by omega)
      rw [← HS.out, List.length_append] at h2
      omega
    by_cases hz : m = 0
    · subst hz
      have e : s = Lib.decDigits N := by rw [← HS.out]; rfl
      have E : Hid (s = Lib.decDigits N) := e
      clear e
      go_wp2
      go_ret
      refine ⟨?_, hbel⟩
      rw [markB, ← E.out]
      exact congrArg (fun x => Ending.returned (Value.string x)) (by apply ByteArray.ext; simp)
    · have hm1 : 1 ≤ m := by omega
      obtain ⟨b, hb, hb2⟩ := digit_is m
      have hcv := conv_one (P := Try.prog) 57 9 5 Try.underlying57 Try.underlying5 Try.underlying9 wr b _ hb.symm
      have FIN : Hid (Hid (decD (m / 10) ++ (b :: s) = Lib.decDigits N)) := by
        show decD (m / 10) ++ (b :: s) = _
        rw [← HS.out, decD_step hm1, hb2]; simp
      clear hz hb hb2
      go_wp2
      go_roundw
      case rel =>
        refine ⟨m / 10, b :: s, by omega, by go_num, ?_, FIN.out, hbel.alloc hbel.size _⟩
        exact congrArg Value.string (by apply ByteArray.ext; simp)
      case measure => simp [intOf]; omega
end Go.Proofs.Ytkbnafmkgiknbac
