/-
  Contracts of spec.l4Symbol and spec.RowText over this translation. No statement is proved here.
-/
import Derived.Test.YtghpekijimoicaaDoorSpecIn
import Derived.Test.YtghpekijimoicaaDoorRowMath
import Derived.Test.YtghpekijimoicaaDoorDigits
import Derived.Test.YtghpekijimoicaaDoorHelpLib
namespace Go.Proofs.YtghpekijimoicaaDoor
open Go.RowKit

theorem ret_strL {l m : List UInt8} (h : l = m) : Ending.returned (.string ⟨l.toArray⟩) = .returned (.string ⟨m.toArray⟩) := by rw [h]
theorem ret_strB {s : ByteArray} {m : List UInt8} (h : s.data.toList = m) : Ending.returned (.string s) = .returned (.string ⟨m.toArray⟩) := by
  rw [← h]

set_option maxRecDepth 100000 in
theorem specSymbol_any (x : Int) (w : World) (h0 : -9223372036854775808 ≤ x) (h1 : x ≤ 9223372036854775807) :
    Calls Tryd.prog 48 #[.int .i64 x] w fun e w' => e = .returned (.string ⟨(symText x).toArray⟩) ∧ Below w.heap.size w w' := by
  by_cases hl : inB x 0 25 = true
  · have hx := inB_true.1 hl
    have hcv := conv_one (P := Tryd.prog) 66 9 5 Tryd.underlying66 Tryd.underlying5 Tryd.underlying9 w (UInt8.ofNat (97 + x.toNat)) (97 + x) (letter_byte hl)
    rw [symText_letter hl]
    generalize UInt8.ofNat (97 + x.toNat) = b at *
    go_enter Tryd.func48, Tryd.ntmps48
    go_wp2_with (go_at_call 55; refine (l1In_any _ _ _ _).mono ?_; rintro e w' ⟨rfl, rfl⟩)
    go_ret
    exact ⟨rfl, (Below.refl _ _).alloc (Nat.le_refl _) _⟩
  · have hl2 : inB x 0 25 = false := by simpa using hl
    clear hl
    by_cases hp : 100 ≤ x
    · rw [symText_part hp]
      have hi := itoa_le (n := x - 100) (by omega) (by omega)
      have X : Hid (∀ W : World, Calls Tryd.prog 45 #[.int .i64 (x - 100)] W fun e w' => e = .returned (.string ⟨(Lib.itoa (x - 100)).toArray⟩) ∧ Below W.heap.size W w') := fun W => specDigits_any (x - 100) W (by omega) (by omega)
      generalize Lib.itoa (x - 100) = ds at *
      go_enter Tryd.func48, Tryd.ntmps48
      go_wp2_with (first | (go_at_call 55; refine (l1In_any _ _ _ _).mono ?_; rintro e w' ⟨rfl, rfl⟩) | (go_at_call 45; refine (X.out _).mono ?_; rintro e w1 ⟨rfl, hb1⟩))
      go_ret
      exact ⟨ret_strB (by simp), hb1⟩
    · rw [symText_none hl2 (by omega)]
      go_enter Tryd.func48, Tryd.ntmps48
      go_wp2_with (go_at_call 55; refine (l1In_any _ _ _ _).mono ?_; rintro e w' ⟨rfl, rfl⟩)
      go_ret
      exact ⟨rfl, Below.refl _ _⟩

/-- The numbers fit. -/
def fitZ (zs : List Int) : Prop := ∀ z ∈ zs, -9223372036854775808 ≤ z ∧ z ≤ 9223372036854775807

set_option maxHeartbeats 1000000 in
set_option maxRecDepth 100000 in
theorem specRow_p (zs : List Int) (a : Option Addr) (c : Nat) (w : World) (h : Reads w a zs) (hl : zs.length ≤ 1048576) (hz : fitZ zs) :
    Calls Tryd.prog 21 #[.slice a zs.length c] w fun e w' => e = .returned (.string ⟨(rowText zs).toArray⟩) ∧ Below w.heap.size w w' := by
  have HZ : Hid (fitZ zs) := hz
  have HZ2 : Hid (∀ z ∈ zs, z ≤ 9223372036854775807) := fun z h => (hz z h).2
  clear hz
  go_enter Tryd.func21, Tryd.ntmps21
  go_wp2
  go_loopw [3, 4] (fun s i wr => ∃ k : Nat, k ≤ zs.length ∧ i = .int .i64 k ∧ s = .string ⟨(rowTo zs k).toArray⟩ ∧ Below w.heap.size w wr) (fun _ i _ => zs.length - (intOf i).toNat)
  case atStart => exact ⟨0, Nat.zero_le _, rfl, rfl, Below.refl _ _⟩
  case round =>
    obtain ⟨k, hk, rfl, rfl, hbel⟩ := hrel
    by_cases hlt : k < zs.length
    · obtain ⟨b, off, rfl, hb, hc⟩ := (h.below hbel).at hlt
      have q0 := hc k hlt
      rw [List.getD_eq_getElem?_getD, List.getElem?_eq_getElem hlt, Option.getD_some] at q0
      have hlen := rowTo_le HZ2.out k hk
      have hr := HZ.out zs[k] (List.getElem_mem hlt)
      have hsl := symText_le hr.2
      have X : Hid (Calls Tryd.prog 48 #[.int .i64 zs[k]] wr fun e w' => e = .returned (.string ⟨(symText zs[k]).toArray⟩) ∧ Below wr.heap.size wr w') := specSymbol_any zs[k] wr hr.1 hr.2
      by_cases h0 : k = 0
      · subst h0
        have HE : Hid (rowTo zs (0 + 1) = symText zs[0]) := rowTo_first hlt
        generalize symText zs[0] = ts at *
        generalize zs[0] = z at *
        have e0 : rowTo zs 0 = [] := rfl
        rw [e0]
        rw [Nat.add_zero] at q0
        clear hc h hlen
        go_wp2_with (go_at_call 48; refine X.out.mono ?_; rintro e w1 ⟨rfl, hb1⟩)
        go_roundw
        case rel => exact ⟨0 + 1, by omega, by go_num, by rw [HE.out]; exact congrArg Value.string (by apply ByteArray.ext; simp), hbel.trans (hb1.mono hbel.size)⟩
        case measure => simp [intOf]; omega
      · have HE : Hid (rowTo zs (k + 1) = (rowTo zs k ++ [32]) ++ symText zs[k]) := rowTo_next hlt h0
        have hk0 : 0 < (k : Int) := by omega
        generalize symText zs[k] = ts at *
        generalize zs[k] = z at *
        generalize rowTo zs k = pre at *
        clear hc h
        go_wp2_with (go_at_call 48; refine X.out.mono ?_; rintro e w1 ⟨rfl, hb1⟩)
        go_roundw
        case rel => exact ⟨k + 1, by omega, by go_num, by rw [HE.out]; exact congrArg Value.string (by apply ByteArray.ext; simp), hbel.trans (hb1.mono hbel.size)⟩
        case measure => simp [intOf]; omega
    · have e : k = zs.length := by omega
      subst e
      clear h
      go_wp2
      go_ret
      exact ⟨rfl, hbel⟩
end Go.Proofs.YtghpekijimoicaaDoor
