/-
  Decimal digits as bytes, and one byte turned into a text: plain laws over any program. No statement is proved here.
-/
import Derived.Test.YtghpekijimoicaaDoorBase
import Derived.Lib.ItoaNum
import Derived.Laws.IdiomStrings
namespace Go.Proofs.YtghpekijimoicaaDoor
open Go.RowKit

theorem conv_one {P : Program} (src dst e : TypeId) (hs : P.underlying src = some (.slice e)) (he : P.underlying e = some (.int .u8)) (hd : P.underlying dst = some .string) (W : World) (b : UInt8) (x : Int) (hx : x = (b.toNat : Int)) :
    (convert src dst (.slice (some ⟨W.heap.size, 0, none⟩) 1 1)).run P (W.alloc (.cells #[.int .u8 x] e)) = .ok (.string ⟨#[b]⟩) (W.alloc (.cells #[.int .u8 x] e)) := by
  have := run_convert_bytes_back (P := P) (W.alloc (.cells #[.int .u8 x] e)) src dst e ⟨W.heap.size, 0, none⟩ 1 [b] hs he hd (by
    intro j hj
    have : j = 0 := by simpa using hj
    subst this
    simp [Addr.add, hx])
  simpa using this

/-- The digits of m; nothing for 0. -/
def decD (m : Nat) : List UInt8 := if m = 0 then [] else Lib.decDigits m
theorem decD_pos {m : Nat} (h : 1 ≤ m) : decD m = Lib.decDigits m := by rw [decD, if_neg (by omega)]
theorem decD_step {m : Nat} (h : 1 ≤ m) : decD m = decD (m / 10) ++ [UInt8.ofNat (48 + m % 10)] := by
  rw [decD_pos h, Lib.decDigits]
  by_cases h2 : m < 10
  · rw [dif_pos h2, decD, if_pos (by omega), Nat.mod_eq_of_lt h2]; rfl
  · rw [dif_neg h2, decD_pos (by omega)]
theorem digit_toNat (m : Nat) : ((UInt8.ofNat (48 + m % 10)).toNat : Int) = 48 + (m : Int) % 10 := by
  have : (UInt8.ofNat (48 + m % 10)).toNat = 48 + m % 10 := by
    rw [UInt8.toNat_ofNat']; omega
  rw [this]; omega
theorem nDigits_le : ∀ (k u : Nat), u < 10 ^ (k + 1) → Lib.nDigits u ≤ k + 1
  | 0, u, h => by rw [Lib.nDigits_small (by simpa using h)]; exact Nat.le_refl _
  | k + 1, u, h => by
    by_cases hu : u < 10
    · rw [Lib.nDigits_small hu]; omega
    · rw [Lib.nDigits_big hu]
      have := nDigits_le k (u / 10) (by rw [Nat.pow_succ] at h; omega)
      omega
theorem decDigits_le {N : Nat} (h : (N : Int) ≤ 9223372036854775808) : (Lib.decDigits N).length ≤ 20 := by
  rw [Lib.decDigits_length]
  exact nDigits_le 19 N (by have : N ≤ 9223372036854775808 := by omega
                            exact Nat.lt_of_le_of_lt this (by decide))
theorem digit_is (m : Nat) : ∃ b : UInt8, (b.toNat : Int) = 48 + (m : Int) % 10 ∧ b = UInt8.ofNat (48 + m % 10) := ⟨_, digit_toNat m, rfl⟩
end Go.Proofs.YtghpekijimoicaaDoor
