/-
  Contracts of Digits (the program's, by the library's Itoa, and the specification's) over this translation. No statement is proved here.
-/
import Derived.Test.YtghpekijimoicaaDoorDecMath
import Derived.Test.YtghpekijimoicaaDoorShelf
import Derived.Test.YtghpekijimoicaaDoorChecked
import Derived.Lib.ItoaNum
import Derived.Laws.IdiomStrings
import Derived.Lib.SmallJoins
namespace Go.Proofs.YtghpekijimoicaaDoor
open Go.RowKit

set_option maxRecDepth 100000 in
theorem specDigits_pos (N : Nat) (w : World) (h0 : 1 ≤ N) (h1 : (N : Int) ≤ 9223372036854775807) :
    Calls Tryd.prog 45 #[.int .i64 (N : Int)] w fun e w' => e = .returned (.string ⟨(Lib.decDigits N).toArray⟩) ∧ Below w.heap.size w w' := by
  have hne : ((N : Int) == 0) = false := by simp; omega
  go_enter Tryd.func45, Tryd.ntmps45
  go_wp2
  go_loopw [0, 4] (fun t o wr => ∃ (m : Nat) (s : List UInt8), m ≤ N ∧ t = .int .i64 m ∧ o = .string ⟨s.toArray⟩ ∧ Hid (decD m ++ s = Lib.decDigits N) ∧ Below w.heap.size w wr) (fun t _ _ => (intOf t).toNat)
  case atStart => exact ⟨N, [], Nat.le_refl _, rfl, rfl, by show decD N ++ [] = _; rw [decD_pos h0]; simp, Below.refl _ _⟩
  case round =>
    obtain ⟨m, s, hm, rfl, rfl, HS, hbel⟩ := hrel
    by_cases hz : m = 0
    · subst hz
      go_wp2
      go_ret
      exact ⟨by rw [← HS.out]; rfl, hbel⟩
    · have hm1 : 1 ≤ m := by omega
      have hmz : ((m : Int) != 0) = true := by simp; omega
      obtain ⟨b, hb, hb2⟩ := digit_is m
      have hcv := conv_one (P := Tryd.prog) 66 9 5 Tryd.underlying66 Tryd.underlying5 Tryd.underlying9 wr b _ hb.symm
      have HB : Hid (b = UInt8.ofNat (48 + m % 10)) := hb2
      have hsl : s.length ≤ 20 := by
        have h2 := decDigits_le (N := N) (by omega)
        rw [← HS.out, List.length_append] at h2
        omega
      clear hz hb hb2
      go_wp2
      go_roundw
      case rel =>
        refine ⟨m / 10, b :: s, by omega, by go_num, ?_, ?_, hbel.alloc hbel.size _⟩
        · exact congrArg Value.string (by apply ByteArray.ext; simp)
        · show decD (m / 10) ++ (b :: s) = _
          rw [← HS.out, decD_step hm1, HB.out]; simp
      case measure => simp [intOf]; omega

set_option maxRecDepth 100000 in
theorem specDigits_neg (N : Nat) (w : World) (h0 : 1 ≤ N) (h1 : (N : Int) ≤ 9223372036854775808) :
    Calls Tryd.prog 45 #[.int .i64 (-(N : Int))] w fun e w' => e = .returned (.string ⟨(45 :: Lib.decDigits N).toArray⟩) ∧ Below w.heap.size w w' := by
  have hne : ((-(N : Int)) == 0) = false := by simp; omega
  go_enter Tryd.func45, Tryd.ntmps45
  go_wp2
  go_loopw [0, 4] (fun t o wr => ∃ (m : Nat) (s : List UInt8), m ≤ N ∧ t = .int .i64 (-(m : Int)) ∧ o = .string ⟨s.toArray⟩ ∧ Hid (decD m ++ s = Lib.decDigits N) ∧ Below w.heap.size w wr) (fun t _ _ => (- intOf t).toNat)
  case atStart => exact ⟨N, [], Nat.le_refl _, rfl, rfl, by show decD N ++ [] = _; rw [decD_pos h0]; simp, Below.refl _ _⟩
  case round =>
    obtain ⟨m, s, hm, rfl, rfl, HS, hbel⟩ := hrel
    have hsl : s.length ≤ 20 := by
      have h2 := decDigits_le (N := N) (by omega)
      rw [← HS.out, List.length_append] at h2
      omega
    by_cases hz : m = 0
    · subst hz
      have e : s = Lib.decDigits N := by rw [← HS.out]; rfl
      have E : Hid (s = Lib.decDigits N) := e
      clear e
      go_wp2
      go_ret
      refine ⟨?_, hbel⟩
      rw [← E.out]
      exact congrArg (fun x => Ending.returned (Value.string x)) (by apply ByteArray.ext; simp)
    · have hm1 : 1 ≤ m := by omega
      have hmz : ((-(m : Int)) != 0) = true := by simp; omega
      obtain ⟨b, hb, hb2⟩ := digit_is m
      have FIN : Hid (Hid (decD (m / 10) ++ (b :: s) = Lib.decDigits N)) := by
        show decD (m / 10) ++ (b :: s) = _
        rw [← HS.out, decD_step hm1, hb2]; simp
      clear hb2 hz
      by_cases hd : 0 < (m : Int) % 10
      · have hcv := conv_one (P := Tryd.prog) 66 9 5 Tryd.underlying66 Tryd.underlying5 Tryd.underlying9 wr b _ hb.symm
        clear hb
        go_wp2
        go_roundw
        case rel =>
          refine ⟨m / 10, b :: s, by omega, by go_num, ?_, FIN.out, hbel.alloc hbel.size _⟩
          exact congrArg Value.string (by apply ByteArray.ext; simp)
        case measure => simp [intOf]; omega
      · have hcv := conv_one (P := Tryd.prog) 66 9 5 Tryd.underlying66 Tryd.underlying5 Tryd.underlying9 wr b (48 + -((m : Int) % 10)) (by omega)
        clear hb
        go_wp2
        go_roundw
        case rel =>
          refine ⟨m / 10, b :: s, by omega, by go_num, ?_, FIN.out, hbel.alloc hbel.size _⟩
          exact congrArg Value.string (by apply ByteArray.ext; simp)
        case measure => simp [intOf]; omega

set_option maxRecDepth 100000 in
theorem specDigits_any (n : Int) (w : World) (h0 : -9223372036854775808 ≤ n) (h1 : n ≤ 9223372036854775807) :
    Calls Tryd.prog 45 #[.int .i64 n] w fun e w' => e = .returned (.string ⟨(Lib.itoa n).toArray⟩) ∧ Below w.heap.size w w' := by
  rcases Int.lt_trichotomy n 0 with hn | rfl | hn
  · obtain ⟨N, hN⟩ := Int.eq_ofNat_of_zero_le (show 0 ≤ -n by omega)
    have e : n = -(N : Int) := by omega
    subst e
    have : Lib.itoa (-(N : Int)) = 45 :: Lib.decDigits N := by
      rw [Lib.itoa, if_pos hn]; congr 2; omega
    rw [this]
    exact specDigits_neg N w (by omega) (by omega)
  · go_enter Tryd.func45, Tryd.ntmps45
    go_wp2
    go_ret
    refine ⟨?_, Below.refl _ _⟩
    have : Lib.itoa 0 = [48] := by rw [Lib.itoa, if_neg (by omega)]; show Lib.decDigits 0 = _; rw [Lib.decDigits_one (by omega)]; rfl
    rw [this]; rfl
  · obtain ⟨N, rfl⟩ := Int.eq_ofNat_of_zero_le (show 0 ≤ n by omega)
    have : Lib.itoa (N : Int) = Lib.decDigits N := by
      rw [Lib.itoa, if_neg (by omega)]; congr 1
    rw [this]
    exact specDigits_pos N w (by omega) h1

theorem gPow : Tryd.prog.globalNamed "internal/strconv.uint64pow10" = some 4 := by kernel_rfl

theorem below_grow (w : World) (k : Nat) (os : Array Obj) : Below w.heap.size w (Go.Sort.grow (w.drewN k) os) := by
  refine ⟨rfl, rfl, rfl, ?_, fun j hj => ?_⟩
  · show w.heap.size ≤ (w.heap ++ os).size
    rw [Array.size_append]; omega
  · show (w.heap ++ os)[j]? = _
    rw [Array.getElem?_append_left hj]

set_option maxRecDepth 100000 in
theorem implDigits_any (n : Int) (w : World) (h0 : -9223372036854775808 ≤ n) (h1 : n ≤ 9223372036854775807) (htab : Lib.TabIs Tryd.prog w "internal/strconv.uint64pow10" .u64 Lib.pow10Tab) :
    Calls Tryd.prog 72 #[.int .i64 n] w fun e w' => e = .returned (.string ⟨(Lib.itoa n).toArray⟩) ∧ Below w.heap.size w w' := by
  go_enter Tryd.func72, Tryd.ntmps72
  go_wp2_with fail
  refine (Tryd.strconv_Itoa n h0 h1 _ htab).mono ?_
  rintro e w1 ⟨rfl, k, os, rfl⟩
  have hb := below_grow w k os
  go_wp2
  go_ret
  exact ⟨rfl, hb⟩
end Go.Proofs.YtghpekijimoicaaDoor
