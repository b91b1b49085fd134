/-
  Contracts and plain mathematics, joined: Shelf, Digits, SpecRowText, HIntSS, HIntSSS, HGram, SpecGramOk, GramOk, Builder, RowText, TreeTextMath, Flags. No statement is proved here.
-/
import Derived.Shelf.Strings.Builder1
import Derived.Shelf.Strings.BuilderF
import Derived.Shelf.Strings.BuilderK
import Derived.Shelf.Strconv.Itoa0
import Derived.Shelf.Strconv.Itoa1
import Derived.Shelf.LaysM
import Derived.Shelf.Strconv.Itoa2
import Derived.Shelf.Strconv.Itoa3
import Derived.Shelf.Strings.BuilderCap
import Derived.Test.YtghpekijimoicaaDoorProg
import Derived.Test.YtghpekijimoicaaDoorG2
import Derived.Test.YtghpekijimoicaaDoorChecked
import Derived.Lib.ItoaNum
import Derived.Laws.IdiomStrings
import Derived.Lib.SmallJoins
import Derived.Test.YtghpekijimoicaaDoorG1
import Derived.Deep.RegionWith
import Derived.Lib.FrozenHead2
import Derived.Lib.OthersKept
import Derived.Deep.MidRow
import Derived.ChangeKeysEq
namespace Go.Proofs
open Go.Shelf
def Tryd.lays169_ren : Go.Shelf.Ren := ⟨fun | 169 => 43 | n => n, fun | 70 => 65 | 9 => 9 | 0 => 0 | 72 => 68 | 37 => 66 | 127 => 108 | 3 => 3 | 5 => 5 | n => n, fun | n => n⟩
theorem Tryd.lays169 : Go.Proofs.Lays.n169 Tryd.prog Tryd.lays169_ren := {
  mixed := by kernel_rfl
  f169 := Tryd.func43.trans (congrArg some (by kernel_rfl))
  t0 := Tryd.underlying0
  a0 := Tryd.isAgg0
  z0 := Tryd.sizeOf0
  v0 := Tryd.zeroValue0
  t3 := Tryd.underlying3
  a3 := Tryd.isAgg3
  z3 := Tryd.sizeOf3
  v3 := Tryd.zeroValue3
  t9 := Tryd.underlying9
  a9 := Tryd.isAgg9
  z9 := Tryd.sizeOf9
  v9 := Tryd.zeroValue9
  t37 := Tryd.underlying66
  a37 := Tryd.isAgg66
  z37 := Tryd.sizeOf66
  v37 := Tryd.zeroValue66
  t70 := Tryd.underlying65
  a70 := Tryd.isAgg65
  z70 := Tryd.sizeOf65
  v70 := Tryd.zeroValue65
  t72 := Tryd.underlying68
  a72 := Tryd.isAgg68
  z72 := Tryd.sizeOf68
  v72 := Tryd.zeroValue68
  t127 := Tryd.underlying108
  a127 := Tryd.isAgg108
  z127 := Tryd.sizeOf108
  v127 := Tryd.zeroValue108 }
theorem Tryd.Builder_Extra_169 : Builder.Extra Tryd.prog Tryd.lays169_ren := {
  sizeBuilder := by kernel_rfl
  liesBuilder := by kernel_rfl
  t5 := Tryd.underlying5
  a5 := Tryd.isAgg5
  z5 := Tryd.sizeOf5
  v5 := Tryd.zeroValue5
  infoByte := by kernel_rfl
  cellsByte := by kernel_rfl
  sizeByte := by kernel_rfl
  neB5 := by decide }
open Go.RowKit in
theorem Tryd.Builder_String_any_k (B b : Nat) (l : List UInt8) (w : World) (h : Lib.IsBuilderF 68 5 B b (Lib.byteCells l) w) (hBw : B ≤ w.heap.size) :
    Calls Tryd.prog 43 #[.pointer (some ⟨b, 0, none⟩)] w fun e w' => e = .returned (.string ⟨l.toArray⟩) ∧ (Lib.IsBuilderF 68 5 B b (Lib.byteCells l) w' ∧ Below B w w' ∧ Lib.OthersKept 5 (some b) w w') := Any.Builder_String_any_k Tryd.lays169 Tryd.Builder_Extra_169 B b l w h hBw
def Tryd.laysM171_ren : Go.Shelf.Ren := ⟨fun | 171 => 91 | 243 => 99 | 246 => 107 | 283 => 112 | 284 => 113 | 285 => 114 | 286 => 115 | 129 => 118 | 317 => 117 | 318 => 119 | 319 => 120 | 320 => 121 | 337 => 122 | 338 => 123 | n => n, fun | 3 => 3 | 9 => 9 | 2 => 2 | 4 => 4 | 171 => 155 | 0 => 0 | 53 => 156 | 37 => 66 | 5 => 5 | 173 => 159 | 212 => 163 | 51 => 164 | 20 => 20 | 213 => 165 | 46 => 166 | 232 => 169 | 233 => 170 | n => n, fun | 17 => 4 | 18 => 5 | 19 => 6 | n => n⟩
theorem Tryd.laysM171 : Go.Proofs.LaysM.n171 Tryd.prog Tryd.laysM171_ren := {
  mixed := by kernel_rfl
  f129 := Tryd.func118.trans (congrArg some (by kernel_rfl))
  f171 := Tryd.func91.trans (congrArg some (by kernel_rfl))
  f243 := Tryd.func99.trans (congrArg some (by kernel_rfl))
  f246 := Tryd.func107.trans (congrArg some (by kernel_rfl))
  f283 := Tryd.func112.trans (congrArg some (by kernel_rfl))
  f284 := Tryd.func113.trans (congrArg some (by kernel_rfl))
  f285 := Tryd.func114.trans (congrArg some (by kernel_rfl))
  f286 := Tryd.func115.trans (congrArg some (by kernel_rfl))
  f317 := Tryd.func117.trans (congrArg some (by kernel_rfl))
  f318 := Tryd.func119.trans (congrArg some (by kernel_rfl))
  f319 := Tryd.func120.trans (congrArg some (by kernel_rfl))
  f320 := Tryd.func121.trans (congrArg some (by kernel_rfl))
  f337 := Tryd.func122.trans (congrArg some (by kernel_rfl))
  f338 := Tryd.func123.trans (congrArg some (by kernel_rfl))
  t0 := Tryd.underlying0
  a0 := Tryd.isAgg0
  z0 := Tryd.sizeOf0
  v0 := Tryd.zeroValue0
  t2 := Tryd.underlying2
  a2 := Tryd.isAgg2
  z2 := Tryd.sizeOf2
  v2 := Tryd.zeroValue2
  t3 := Tryd.underlying3
  a3 := Tryd.isAgg3
  z3 := Tryd.sizeOf3
  v3 := Tryd.zeroValue3
  t4 := Tryd.underlying4
  a4 := Tryd.isAgg4
  z4 := Tryd.sizeOf4
  v4 := Tryd.zeroValue4
  t5 := Tryd.underlying5
  a5 := Tryd.isAgg5
  z5 := Tryd.sizeOf5
  v5 := Tryd.zeroValue5
  t9 := Tryd.underlying9
  a9 := Tryd.isAgg9
  z9 := Tryd.sizeOf9
  v9 := Tryd.zeroValue9
  t20 := Tryd.underlying20
  a20 := Tryd.isAgg20
  z20 := Tryd.sizeOf20
  v20 := Tryd.zeroValue20
  t37 := Tryd.underlying66
  a37 := Tryd.isAgg66
  z37 := Tryd.sizeOf66
  v37 := Tryd.zeroValue66
  t46 := Tryd.underlying166
  a46 := Tryd.isAgg166
  z46 := Tryd.sizeOf166
  v46 := Tryd.zeroValue166
  t51 := Tryd.underlying164
  a51 := Tryd.isAgg164
  z51 := Tryd.sizeOf164
  v51 := Tryd.zeroValue164
  t53 := Tryd.underlying156
  a53 := Tryd.isAgg156
  z53 := Tryd.sizeOf156
  v53 := Tryd.zeroValue156
  t171 := Tryd.underlying155
  a171 := Tryd.isAgg155
  z171 := Tryd.sizeOf155
  v171 := Tryd.zeroValue155
  t173 := Tryd.underlying159
  a173 := Tryd.isAgg159
  z173 := Tryd.sizeOf159
  v173 := Tryd.zeroValue159
  t212 := Tryd.underlying163
  a212 := Tryd.isAgg163
  z212 := Tryd.sizeOf163
  v212 := Tryd.zeroValue163
  t213 := Tryd.underlying165
  a213 := Tryd.isAgg165
  z213 := Tryd.sizeOf165
  t232 := Tryd.underlying169
  a232 := Tryd.isAgg169
  z232 := Tryd.sizeOf169
  v232 := Tryd.zeroValue169
  t233 := Tryd.underlying170
  a233 := Tryd.isAgg170
  z233 := Tryd.sizeOf170
  v233 := Tryd.zeroValue170
  g17 := by kernel_rfl
  g18 := by kernel_rfl
  g19 := by kernel_rfl
  i0 := by kernel_rfl
  i2 := by kernel_rfl
  i3 := by kernel_rfl
  i4 := by kernel_rfl
  i5 := by kernel_rfl
  i9 := by kernel_rfl
  i20 := by kernel_rfl
  i37 := by kernel_rfl
  i46 := by kernel_rfl
  i51 := by kernel_rfl
  i53 := by kernel_rfl
  i171 := by kernel_rfl
  i173 := by kernel_rfl
  i212 := by kernel_rfl
  i232 := by kernel_rfl
  i233 := by kernel_rfl
  m17 := by kernel_rfl
  m18 := by kernel_rfl
  m19 := by kernel_rfl }
open Go.RowKit Go.Sort Go.Lib in
theorem Tryd.strconv_Itoa (n : Int) (h0 : -9223372036854775808 ≤ n) (h1 : n ≤ 9223372036854775807) (w : World) (htab : Lib.TabIs Tryd.prog w "internal/strconv.uint64pow10" .u64 Lib.pow10Tab) :
    Calls Tryd.prog 91 #[.int .i64 n] w fun e w' => e = .returned (.string ⟨(Lib.itoa n).toArray⟩) ∧ ∃ k os, w' = grow (w.drewN k) os := Any.strconv_Itoa Tryd.laysM171 n h0 h1 w htab
end Go.Proofs
namespace Go.Proofs.YtghpekijimoicaaDoor
open Go.RowKit

set_option maxRecDepth 100000 in
theorem specDigits_pos (N : Nat) (w : World) (h0 : 1 ≤ N) (h1 : (N : Int) ≤ 9223372036854775807) :
    Calls Tryd.prog 45 #[.int .i64 (N : Int)] w fun e w' => e = .returned (.string ⟨(Lib.decDigits N).toArray⟩) ∧ Below w.heap.size w w' := by
  have hne : ((N : Int) == 0) = false := by simp; omega
  go_enter Tryd.func45, Tryd.ntmps45
  go_wp2
  go_loopw [0, 4] (fun t o wr => ∃ (m : Nat) (s : List UInt8), m ≤ N ∧ t = .int .i64 m ∧ o = .string ⟨s.toArray⟩ ∧ Hid (decD m ++ s = Lib.decDigits N) ∧ Below w.heap.size w wr) (fun t _ _ => (intOf t).toNat)
  case atStart => exact ⟨N, [], Nat.le_refl _, rfl, rfl, by show decD N ++ [] = _; rw [decD_pos h0]; simp, Below.refl _ _⟩
  case round =>
    obtain ⟨m, s, hm, rfl, rfl, HS, hbel⟩ := hrel
    by_cases hz : m = 0
    · subst hz
      go_wp2
      go_ret
      exact ⟨by rw [← HS.out]; rfl, hbel⟩
    · have hm1 : 1 ≤ m := by omega
      have hmz : ((m : Int) != 0) = true := by simp; omega
      obtain ⟨b, hb, hb2⟩ := digit_is m
      have hcv := conv_one (P := Tryd.prog) 66 9 5 Tryd.underlying66 Tryd.underlying5 Tryd.underlying9 wr b _ hb.symm
      have HB : Hid (b = UInt8.ofNat (48 + m % 10)) := hb2
      have hsl : s.length ≤ 20 := by
        have h2 := decDigits_le (N := N) (by omega)
        rw [← HS.out, List.length_append] at h2
        omega
      clear hz hb hb2
      go_wp2
      go_roundw
      case rel =>
        refine ⟨m / 10, b :: s, by omega, by go_num, ?_, ?_, hbel.alloc hbel.size _⟩
        · exact congrArg Value.string (by apply ByteArray.ext; simp)
        · show decD (m / 10) ++ (b :: s) = _
          rw [← HS.out, decD_step hm1, HB.out]; simp
      case measure => simp [intOf]; omega

set_option maxRecDepth 100000 in
theorem specDigits_neg (N : Nat) (w : World) (h0 : 1 ≤ N) (h1 : (N : Int) ≤ 9223372036854775808) :
    Calls Tryd.prog 45 #[.int .i64 (-(N : Int))] w fun e w' => e = .returned (.string ⟨(45 :: Lib.decDigits N).toArray⟩) ∧ Below w.heap.size w w' := by
  have hne : ((-(N : Int)) == 0) = false := by simp; omega
  go_enter Tryd.func45, Tryd.ntmps45
  go_wp2
  go_loopw [0, 4] (fun t o wr => ∃ (m : Nat) (s : List UInt8), m ≤ N ∧ t = .int .i64 (-(m : Int)) ∧ o = .string ⟨s.toArray⟩ ∧ Hid (decD m ++ s = Lib.decDigits N) ∧ Below w.heap.size w wr) (fun t _ _ => (- intOf t).toNat)
  case atStart => exact ⟨N, [], Nat.le_refl _, rfl, rfl, by show decD N ++ [] = _; rw [decD_pos h0]; simp, Below.refl _ _⟩
  case round =>
    obtain ⟨m, s, hm, rfl, rfl, HS, hbel⟩ := hrel
    have hsl : s.length ≤ 20 := by
      have h2 := decDigits_le (N := N) (by omega)
      rw [← HS.out, List.length_append] at h2
      omega
    by_cases hz : m = 0
    · subst hz
      have e : s = Lib.decDigits N := by rw [← HS.out]; rfl
      have E : Hid (s = Lib.decDigits N) := e
      clear e
      go_wp2
      go_ret
      refine ⟨?_, hbel⟩
      rw [← E.out]
      exact congrArg (fun x => Ending.returned (Value.string x)) (by apply ByteArray.ext; simp)
    · have hm1 : 1 ≤ m := by omega
      have hmz : ((-(m : Int)) != 0) = true := by simp; omega
      obtain ⟨b, hb, hb2⟩ := digit_is m
      have FIN : Hid (Hid (decD (m / 10) ++ (b :: s) = Lib.decDigits N)) := by
        show decD (m / 10) ++ (b :: s) = _
        rw [← HS.out, decD_step hm1, hb2]; simp
      clear hb2 hz
      by_cases hd : 0 < (m : Int) % 10
      · have hcv := conv_one (P := Tryd.prog) 66 9 5 Tryd.underlying66 Tryd.underlying5 Tryd.underlying9 wr b _ hb.symm
        clear hb
        go_wp2
        go_roundw
        case rel =>
          refine ⟨m / 10, b :: s, by omega, by go_num, ?_, FIN.out, hbel.alloc hbel.size _⟩
          exact congrArg Value.string (by apply ByteArray.ext; simp)
        case measure => simp [intOf]; omega
      · have hcv := conv_one (P := Tryd.prog) 66 9 5 Tryd.underlying66 Tryd.underlying5 Tryd.underlying9 wr b (48 + -((m : Int) % 10)) (by omega)
        clear hb
        go_wp2
        go_roundw
        case rel =>
          refine ⟨m / 10, b :: s, by omega, by go_num, ?_, FIN.out, hbel.alloc hbel.size _⟩
          exact congrArg Value.string (by apply ByteArray.ext; simp)
        case measure => simp [intOf]; omega

set_option maxRecDepth 100000 in
theorem specDigits_any (n : Int) (w : World) (h0 : -9223372036854775808 ≤ n) (h1 : n ≤ 9223372036854775807) :
    Calls Tryd.prog 45 #[.int .i64 n] w fun e w' => e = .returned (.string ⟨(Lib.itoa n).toArray⟩) ∧ Below w.heap.size w w' := by
  rcases Int.lt_trichotomy n 0 with hn | rfl | hn
  · obtain ⟨N, hN⟩ := Int.eq_ofNat_of_zero_le (show 0 ≤ -n by omega)
    have e : n = -(N : Int) := by omega
    subst e
    have : Lib.itoa (-(N : Int)) = 45 :: Lib.decDigits N := by
      rw [Lib.itoa, if_pos hn]; congr 2; omega
    rw [this]
    exact specDigits_neg N w (by omega) (by omega)
  · go_enter Tryd.func45, Tryd.ntmps45
    go_wp2
    go_ret
    refine ⟨?_, Below.refl _ _⟩
    have : Lib.itoa 0 = [48] := by rw [Lib.itoa, if_neg (by omega)]; show Lib.decDigits 0 = _; rw [Lib.decDigits_one (by omega)]; rfl
    rw [this]; rfl
  · obtain ⟨N, rfl⟩ := Int.eq_ofNat_of_zero_le (show 0 ≤ n by omega)
    have : Lib.itoa (N : Int) = Lib.decDigits N := by
      rw [Lib.itoa, if_neg (by omega)]; congr 1
    rw [this]
    exact specDigits_pos N w (by omega) h1

theorem gPow : Tryd.prog.globalNamed "internal/strconv.uint64pow10" = some 4 := by kernel_rfl

theorem below_grow (w : World) (k : Nat) (os : Array Obj) : Below w.heap.size w (Go.Sort.grow (w.drewN k) os) := by
  refine ⟨rfl, rfl, rfl, ?_, fun j hj => ?_⟩
  · show w.heap.size ≤ (w.heap ++ os).size
    rw [Array.size_append]; omega
  · show (w.heap ++ os)[j]? = _
    rw [Array.getElem?_append_left hj]

set_option maxRecDepth 100000 in
theorem implDigits_any (n : Int) (w : World) (h0 : -9223372036854775808 ≤ n) (h1 : n ≤ 9223372036854775807) (htab : Lib.TabIs Tryd.prog w "internal/strconv.uint64pow10" .u64 Lib.pow10Tab) :
    Calls Tryd.prog 72 #[.int .i64 n] w fun e w' => e = .returned (.string ⟨(Lib.itoa n).toArray⟩) ∧ Below w.heap.size w w' := by
  go_enter Tryd.func72, Tryd.ntmps72
  go_wp2_with fail
  refine (Tryd.strconv_Itoa n h0 h1 _ htab).mono ?_
  rintro e w1 ⟨rfl, k, os, rfl⟩
  have hb := below_grow w k os
  go_wp2
  go_ret
  exact ⟨rfl, hb⟩
end Go.Proofs.YtghpekijimoicaaDoor
namespace Go.Proofs.YtghpekijimoicaaDoor
open Go.RowKit

theorem ret_strL {l m : List UInt8} (h : l = m) : Ending.returned (.string ⟨l.toArray⟩) = .returned (.string ⟨m.toArray⟩) := by rw [h]
theorem ret_strB {s : ByteArray} {m : List UInt8} (h : s.data.toList = m) : Ending.returned (.string s) = .returned (.string ⟨m.toArray⟩) := by
  rw [← h]

set_option maxRecDepth 100000 in
theorem specSymbol_any (x : Int) (w : World) (h0 : -9223372036854775808 ≤ x) (h1 : x ≤ 9223372036854775807) :
    Calls Tryd.prog 48 #[.int .i64 x] w fun e w' => e = .returned (.string ⟨(symText x).toArray⟩) ∧ Below w.heap.size w w' := by
  by_cases hl : inB x 0 25 = true
  · have hx := inB_true.1 hl
    have hcv := conv_one (P := Tryd.prog) 66 9 5 Tryd.underlying66 Tryd.underlying5 Tryd.underlying9 w (UInt8.ofNat (97 + x.toNat)) (97 + x) (letter_byte hl)
    rw [symText_letter hl]
    generalize UInt8.ofNat (97 + x.toNat) = b at *
    go_enter Tryd.func48, Tryd.ntmps48
    go_wp2_with (go_at_call 55; refine (l1In_any _ _ _ _).mono ?_; rintro e w' ⟨rfl, rfl⟩)
    go_ret
    exact ⟨rfl, (Below.refl _ _).alloc (Nat.le_refl _) _⟩
  · have hl2 : inB x 0 25 = false := by simpa using hl
    clear hl
    by_cases hp : 100 ≤ x
    · rw [symText_part hp]
      have hi := itoa_le (n := x - 100) (by omega) (by omega)
      have X : Hid (∀ W : World, Calls Tryd.prog 45 #[.int .i64 (x - 100)] W fun e w' => e = .returned (.string ⟨(Lib.itoa (x - 100)).toArray⟩) ∧ Below W.heap.size W w') := fun W => specDigits_any (x - 100) W (by omega) (by omega)
      generalize Lib.itoa (x - 100) = ds at *
      go_enter Tryd.func48, Tryd.ntmps48
      go_wp2_with (first | (go_at_call 55; refine (l1In_any _ _ _ _).mono ?_; rintro e w' ⟨rfl, rfl⟩) | (go_at_call 45; refine (X.out _).mono ?_; rintro e w1 ⟨rfl, hb1⟩))
      go_ret
      exact ⟨ret_strB (by simp), hb1⟩
    · rw [symText_none hl2 (by omega)]
      go_enter Tryd.func48, Tryd.ntmps48
      go_wp2_with (go_at_call 55; refine (l1In_any _ _ _ _).mono ?_; rintro e w' ⟨rfl, rfl⟩)
      go_ret
      exact ⟨rfl, Below.refl _ _⟩

/-- The numbers fit. -/
def fitZ (zs : List Int) : Prop := ∀ z ∈ zs, -9223372036854775808 ≤ z ∧ z ≤ 9223372036854775807

set_option maxHeartbeats 1000000 in
set_option maxRecDepth 100000 in
theorem specRow_p (zs : List Int) (a : Option Addr) (c : Nat) (w : World) (h : Reads w a zs) (hl : zs.length ≤ 1048576) (hz : fitZ zs) :
    Calls Tryd.prog 21 #[.slice a zs.length c] w fun e w' => e = .returned (.string ⟨(rowText zs).toArray⟩) ∧ Below w.heap.size w w' := by
  have HZ : Hid (fitZ zs) := hz
  have HZ2 : Hid (∀ z ∈ zs, z ≤ 9223372036854775807) := fun z h => (hz z h).2
  clear hz
  go_enter Tryd.func21, Tryd.ntmps21
  go_wp2
  go_loopw [3, 4] (fun s i wr => ∃ k : Nat, k ≤ zs.length ∧ i = .int .i64 k ∧ s = .string ⟨(rowTo zs k).toArray⟩ ∧ Below w.heap.size w wr) (fun _ i _ => zs.length - (intOf i).toNat)
  case atStart => exact ⟨0, Nat.zero_le _, rfl, rfl, Below.refl _ _⟩
  case round =>
    obtain ⟨k, hk, rfl, rfl, hbel⟩ := hrel
    by_cases hlt : k < zs.length
    · obtain ⟨b, off, rfl, hb, hc⟩ := (h.below hbel).at hlt
      have q0 := hc k hlt
      rw [List.getD_eq_getElem?_getD, List.getElem?_eq_getElem hlt, Option.getD_some] at q0
      have hlen := rowTo_le HZ2.out k hk
      have hr := HZ.out zs[k] (List.getElem_mem hlt)
      have hsl := symText_le hr.2
      have X : Hid (Calls Tryd.prog 48 #[.int .i64 zs[k]] wr fun e w' => e = .returned (.string ⟨(symText zs[k]).toArray⟩) ∧ Below wr.heap.size wr w') := specSymbol_any zs[k] wr hr.1 hr.2
      by_cases h0 : k = 0
      · subst h0
        have HE : Hid (rowTo zs (0 + 1) = symText zs[0]) := rowTo_first hlt
        generalize symText zs[0] = ts at *
        generalize zs[0] = z at *
        have e0 : rowTo zs 0 = [] := rfl
        rw [e0]
        rw [Nat.add_zero] at q0
        clear hc h hlen
        go_wp2_with (go_at_call 48; refine X.out.mono ?_; rintro e w1 ⟨rfl, hb1⟩)
        go_roundw
        case rel => exact ⟨0 + 1, by omega, by go_num, by rw [HE.out]; exact congrArg Value.string (by apply ByteArray.ext; simp), hbel.trans (hb1.mono hbel.size)⟩
        case measure => simp [intOf]; omega
      · have HE : Hid (rowTo zs (k + 1) = (rowTo zs k ++ [32]) ++ symText zs[k]) := rowTo_next hlt h0
        have hk0 : 0 < (k : Int) := by omega
        generalize symText zs[k] = ts at *
        generalize zs[k] = z at *
        generalize rowTo zs k = pre at *
        clear hc h
        go_wp2_with (go_at_call 48; refine X.out.mono ?_; rintro e w1 ⟨rfl, hb1⟩)
        go_roundw
        case rel => exact ⟨k + 1, by omega, by go_num, by rw [HE.out]; exact congrArg Value.string (by apply ByteArray.ext; simp), hbel.trans (hb1.mono hbel.size)⟩
        case measure => simp [intOf]; omega
    · have e : k = zs.length := by omega
      subst e
      clear h
      go_wp2
      go_ret
      exact ⟨rfl, hbel⟩
end Go.Proofs.YtghpekijimoicaaDoor
namespace Go.Proofs.YtghpekijimoicaaDoor
open Go.RowKit

theorem Tryd.infoIntS : (Tryd.prog.info? 28).map (fun i => (i.zero, i.size, i.bytes)) = some (some (.slice none 0 0), 1, 24) := by kernel_rfl

set_option maxRecDepth 100000 in
theorem toIntSS_l (xs : List (List Int)) (a : Option Addr) (c : Nat) (w : World) (h : RD w (.slice a xs.length c) (slD (Lay.list Lay.int) xs)) (hn : (Lay.list (Lay.list Lay.int)).wt xs ≤ 1048576) :
    Calls Tryd.prog 58 #[.slice a xs.length c] w fun e w' => ∃ v S, e = .returned v ∧ OD w' w.heap.size v (slD (Lay.list Lay.int) xs) S ∧ Below w.heap.size w w' := by
  rw [Lay.wt_list] at hn
  obtain ⟨W, hmk, O0, B0⟩ := make_ownL (P := Tryd.prog) w 83 28 (.slice none 0 0) 24 [.slice none 0 0] [.sl 0 []] xs.length Tryd.underlying83 Tryd.infoIntS rfl (by decide) (by omega) (by decide) (by intro u hu; simp at hu; subst hu; rfl) rfl
    (by intro W base i hi hi'; match i, hi with | 0, _ => exact .nil 0 rfl)
  rw [zero_cells (L := (Lay.list Lay.int)) (z := []) (zd := [.sl 0 []]) rfl] at O0
  go_enter Tryd.func58, Tryd.ntmps58
  go_wp2
  go_loopw [4] (fun i wr => ∃ (k : Nat) (S : Nat → Prop), k ≤ xs.length ∧ i = .int .i64 k ∧ OL wr w.heap.size 28 1 (.slice (some ⟨w.heap.size, 0, none⟩) xs.length xs.length) xs.length ((xs.take k ++ List.replicate (xs.length - k) []).flatMap (Lay.list Lay.int).cells) S ∧ Below w.heap.size w wr) (fun i _ => xs.length - (intOf i).toNat)
  case atStart => exact ⟨0, _, Nat.zero_le _, rfl, by simpa using O0, B0⟩
  case round =>
    obtain ⟨k, S, hk, rfl, hown, hbel⟩ := hrel
    by_cases hlt : k < xs.length
    · obtain ⟨b1, o1, rfl, hb1, a1, c1, q0, r1⟩ := (h.later hbel).listAt hlt
      have hk2 := Lay.sumL_at (Lay.list Lay.int) hlt
      have X : Hid (Calls Tryd.prog 12 #[.slice a1 xs[k].length c1] wr fun e w' => ∃ v S, e = .returned v ∧ OD w' wr.heap.size v (slD Lay.int xs[k]) S ∧ Below wr.heap.size wr w') :=
        toIntS_l xs[k] a1 c1 wr r1 (by omega)
      have HP : Hid ((xs.take k ++ List.replicate (xs.length - k) []).set k xs[k] = xs.take (k + 1) ++ List.replicate (xs.length - (k + 1)) []) := put_step hlt
      have hkL : k < (xs.take k ++ List.replicate (xs.length - k) []).length := by simp; omega
      generalize xs.take k ++ List.replicate (xs.length - k) [] = M at *
      generalize xs[k] = y at *
      clear h r1 hmk O0 B0 hk2
      go_wp2_with fail
      refine X.out.mono ?_
      rintro e w1 ⟨v, T, rfl, O1, hb2⟩
      obtain ⟨av, cv, rfl, _⟩ := OD.shapeL O1
      have B1 := hbel.trans (hb2.mono hbel.size)
      have own1 := hown.later hb2
      have hsz := hbel.size
      obtain ⟨S', O2, hS', G2, hSg, ⟨z0, c0⟩, f0⟩ := own1.putList hkL (.slice av y.length cv) y T (O1.base hsz) (fun k hk hk2 => by have h1 := (O1.lt k hk).1; have h2 := (hown.lt k hk2).2; omega)
      rw [HP.out] at O2
      have B2 := B1.grown G2 B1.size (fun k hk => by cases hk; exact Nat.le_refl _)
      have hz1 : w.heap.size < w1.heap.size := Nat.lt_of_lt_of_le (hown.lt _ hSg).2 hb2.size
      clear X hown own1 O1 hbel hb2 HP G2 q0 hb1 hkL B1
      go_wp2
      go_roundw
      case rel => exact ⟨k + 1, S', by omega, by go_num, O2, B2⟩
      case measure => simp [intOf]; omega
    · have e : k = xs.length := by omega
      subst e
      go_wp2
      go_ret
      exact ⟨_, _, rfl, by simpa [slD] using hown.od, hbel⟩

theorem eqIntSS_l (xs : List (List Int)) (a b : Option Addr) (c d : Nat) (w : World) (h : RD w (.slice a xs.length c) (slD (Lay.list Lay.int) xs)) (g : RD w (.slice b xs.length d) (slD (Lay.list Lay.int) xs)) (hn : (Lay.list (Lay.list Lay.int)).wt xs ≤ 4194304) :
    Calls Tryd.prog 66 #[.slice a xs.length c, .slice b xs.length d] w fun e w' => e = .returned (.bool true) ∧ Below w.heap.size w w' := by
  rw [Lay.wt_list] at hn
  go_enter Tryd.func66, Tryd.ntmps66
  go_wp2
  go_loopw [5] (fun i wr => ∃ k : Nat, k ≤ xs.length ∧ i = .int .i64 k ∧ Below w.heap.size w wr) (fun i _ => xs.length - (intOf i).toNat)
  case atStart => exact ⟨0, Nat.zero_le _, rfl, Below.refl _ _⟩
  case round =>
    obtain ⟨k, hk, rfl, hbel⟩ := hrel
    by_cases hlt : k < xs.length
    · obtain ⟨b1, o1, rfl, hb1, a1, c1, q0, r1⟩ := (h.later hbel).listAt hlt
      obtain ⟨b2, o2, rfl, hb2, a2, c2, p0, r2⟩ := (g.later hbel).listAt hlt
      have hk2 := Lay.sumL_at (Lay.list Lay.int) hlt
      have X : Hid (Calls Tryd.prog 16 #[.slice a1 xs[k].length c1, .slice a2 xs[k].length c2] wr.drew fun e w' => e = .returned (.bool true) ∧ Below wr.heap.size wr w') :=
        (eqIntS_l xs[k] a1 a2 c1 c2 wr.drew (r1.later (below_drew 1)) (r2.later (below_drew 1)) (by omega)).mono fun e w' h => ⟨h.1, ⟨h.2.os, h.2.tape, h.2.output, h.2.size, h.2.block⟩⟩
      clear h g r1 r2 hk2
      generalize xs[k] = y at *
      go_wp2
      go_region_with (go_at_call 16; refine X.out.mono ?_; rintro e w1 ⟨rfl, hl1⟩)
      all_goals
        go_wp2
        go_roundw
        case rel => exact ⟨k + 1, by omega, by go_num, hbel.trans (hl1.mono hbel.size)⟩
        case measure => simp [intOf]; omega
    · go_wp2
      go_ret
      exact ⟨rfl, hbel⟩

set_option maxRecDepth 100000 in
theorem szIntSS_l (xs : List (List Int)) (a : Option Addr) (c : Nat) (l : Int) (w : World) (h : RD w (.slice a xs.length c) (slD (Lay.list Lay.int) xs)) (hf : (Lay.list (Lay.list Lay.int)).fit xs) (h0 : 0 ≤ l) (h1 : l ≤ 1048576) :
    Calls Tryd.prog 49 #[.slice a xs.length c, .int .i64 l] w fun e w' => ∃ r, e = .returned (.int .i64 r) ∧ SzE ((Lay.list (Lay.list Lay.int)).wt xs) l r ∧ Below w.heap.size w w' := by
  obtain ⟨hm, hfe⟩ := hf
  unfold maxLen at hm
  rw [Lay.wt_list]
  by_cases hbig : l < (xs.length : Int)
  · go_enter Tryd.func49, Tryd.ntmps49
    go_wp2
    go_ret
    exact ⟨_, rfl, .inl rfl, Below.refl _ _⟩
  · go_enter Tryd.func49, Tryd.ntmps49
    go_wp2
    go_loopw [1, 5] (fun sl i wr => ∃ (k : Nat) (x : Int), k ≤ xs.length ∧ i = .int .i64 k ∧ sl = .int .i64 x ∧ 0 ≤ x ∧ Hid (x + xs.length + Lay.sumL (Lay.list Lay.int) (xs.take k) = l) ∧ Below w.heap.size w wr) (fun _ i _ => xs.length - (intOf i).toNat)
    case atStart => exact ⟨0, l - xs.length, Nat.zero_le _, rfl, rfl, by omega, by show _ = _; simp [Lay.sumL], Below.refl _ _⟩
    case round =>
      obtain ⟨k, x, hk, rfl, rfl, hx0, HXL, hbel⟩ := hrel
      by_cases hlt : k < xs.length
      · obtain ⟨b1, o1, rfl, hb1, a1, c1, q0, r1⟩ := (h.later hbel).listAt hlt
        have fe := hfe xs[k] (List.getElem_mem hlt)
        have HW : Hid (Lay.sumL (Lay.list Lay.int) (xs.take (k + 1)) = Lay.sumL (Lay.list Lay.int) (xs.take k) + (Lay.list Lay.int).wt xs[k]) := Lay.sumL_take _ hlt
        have hx1 : x ≤ 1048576 := by have := HXL.out; omega
        have X : Hid (Calls Tryd.prog 75 #[.slice a1 xs[k].length c1, .int .i64 x] wr fun e w' => ∃ r, e = .returned (.int .i64 r) ∧ SzE ((Lay.list Lay.int).wt xs[k]) x r ∧ Below wr.heap.size wr w') :=
          szIntS_l xs[k] a1 c1 x wr r1 fe hx0 hx1
        clear h r1 fe hfe
        generalize (Lay.list Lay.int).wt xs[k] = wk at *
        generalize xs[k] = y at *
        go_wp2_with fail
        refine X.out.mono ?_
        rintro e w1 ⟨r, rfl, hr, hb2⟩
        have B2 := hbel.trans (hb2.mono hbel.size)
        clear X hb2 q0
        rcases hr with rfl | ⟨hr0, hr1⟩
        · go_wp2
          go_ret
          exact ⟨_, rfl, .inl rfl, B2⟩
        · have HR : Hid (r = x - (wk : Nat)) := hr1
          clear hr1
          go_wp2
          go_roundw
          case rel => exact ⟨k + 1, r, by omega, by go_num, rfl, hr0, by show _ = _; rw [HW.out]; have h1 := HXL.out; have h2 := HR.out; omega, B2⟩
          case measure => simp [intOf]; omega
      · have e : k = xs.length := by omega
        subst e
        have HE : Hid (x = l - (xs.length + Lay.sumL (Lay.list Lay.int) xs : Nat)) := by have := HXL.out; rw [List.take_length] at this; show _ = _; omega
        clear HXL
        go_wp2
        go_ret
        exact ⟨_, rfl, .inr ⟨hx0, HE.out⟩, hbel⟩

end Go.Proofs.YtghpekijimoicaaDoor
namespace Go.Proofs.YtghpekijimoicaaDoor
open Go.RowKit

theorem Tryd.infoIntSS : (Tryd.prog.info? 83).map (fun i => (i.zero, i.size, i.bytes)) = some (some (.slice none 0 0), 1, 24) := by kernel_rfl

set_option maxRecDepth 100000 in
theorem toIntSSS_l (xs : List (List (List Int))) (a : Option Addr) (c : Nat) (w : World) (h : RD w (.slice a xs.length c) (slD (Lay.list (Lay.list Lay.int)) xs)) (hn : (Lay.list (Lay.list (Lay.list Lay.int))).wt xs ≤ 1048576) :
    Calls Tryd.prog 30 #[.slice a xs.length c] w fun e w' => ∃ v S, e = .returned v ∧ OD w' w.heap.size v (slD (Lay.list (Lay.list Lay.int)) xs) S ∧ Below w.heap.size w w' := by
  rw [Lay.wt_list] at hn
  obtain ⟨W, hmk, O0, B0⟩ := make_ownL (P := Tryd.prog) w 22 83 (.slice none 0 0) 24 [.slice none 0 0] [.sl 0 []] xs.length Tryd.underlying22 Tryd.infoIntSS rfl (by decide) (by omega) (by decide) (by intro u hu; simp at hu; subst hu; rfl) rfl
    (by intro W base i hi hi'; match i, hi with | 0, _ => exact .nil 0 rfl)
  rw [zero_cells (L := (Lay.list (Lay.list Lay.int))) (z := []) (zd := [.sl 0 []]) rfl] at O0
  go_enter Tryd.func30, Tryd.ntmps30
  go_wp2
  go_loopw [4] (fun i wr => ∃ (k : Nat) (S : Nat → Prop), k ≤ xs.length ∧ i = .int .i64 k ∧ OL wr w.heap.size 83 1 (.slice (some ⟨w.heap.size, 0, none⟩) xs.length xs.length) xs.length ((xs.take k ++ List.replicate (xs.length - k) []).flatMap (Lay.list (Lay.list Lay.int)).cells) S ∧ Below w.heap.size w wr) (fun i _ => xs.length - (intOf i).toNat)
  case atStart => exact ⟨0, _, Nat.zero_le _, rfl, by simpa using O0, B0⟩
  case round =>
    obtain ⟨k, S, hk, rfl, hown, hbel⟩ := hrel
    by_cases hlt : k < xs.length
    · obtain ⟨b1, o1, rfl, hb1, a1, c1, q0, r1⟩ := (h.later hbel).listAt hlt
      have hk2 := Lay.sumL_at (Lay.list (Lay.list Lay.int)) hlt
      have X : Hid (Calls Tryd.prog 58 #[.slice a1 xs[k].length c1] wr fun e w' => ∃ v S, e = .returned v ∧ OD w' wr.heap.size v (slD (Lay.list Lay.int) xs[k]) S ∧ Below wr.heap.size wr w') :=
        toIntSS_l xs[k] a1 c1 wr r1 (by omega)
      have HP : Hid ((xs.take k ++ List.replicate (xs.length - k) []).set k xs[k] = xs.take (k + 1) ++ List.replicate (xs.length - (k + 1)) []) := put_step hlt
      have hkL : k < (xs.take k ++ List.replicate (xs.length - k) []).length := by simp; omega
      generalize xs.take k ++ List.replicate (xs.length - k) [] = M at *
      generalize xs[k] = y at *
      clear h r1 hmk O0 B0 hk2
      go_wp2_with fail
      refine X.out.mono ?_
      rintro e w1 ⟨v, T, rfl, O1, hb2⟩
      obtain ⟨av, cv, rfl, _⟩ := OD.shapeL O1
      have B1 := hbel.trans (hb2.mono hbel.size)
      have own1 := hown.later hb2
      have hsz := hbel.size
      obtain ⟨S', O2, hS', G2, hSg, ⟨z0, c0⟩, f0⟩ := own1.putList hkL (.slice av y.length cv) y T (O1.base hsz) (fun k hk hk2 => by have h1 := (O1.lt k hk).1; have h2 := (hown.lt k hk2).2; omega)
      rw [HP.out] at O2
      have B2 := B1.grown G2 B1.size (fun k hk => by cases hk; exact Nat.le_refl _)
      have hz1 : w.heap.size < w1.heap.size := Nat.lt_of_lt_of_le (hown.lt _ hSg).2 hb2.size
      clear X hown own1 O1 hbel hb2 HP G2 q0 hb1 hkL B1
      go_wp2
      go_roundw
      case rel => exact ⟨k + 1, S', by omega, by go_num, O2, B2⟩
      case measure => simp [intOf]; omega
    · have e : k = xs.length := by omega
      subst e
      go_wp2
      go_ret
      exact ⟨_, _, rfl, by simpa [slD] using hown.od, hbel⟩

theorem eqIntSSS_l (xs : List (List (List Int))) (a b : Option Addr) (c d : Nat) (w : World) (h : RD w (.slice a xs.length c) (slD (Lay.list (Lay.list Lay.int)) xs)) (g : RD w (.slice b xs.length d) (slD (Lay.list (Lay.list Lay.int)) xs)) (hn : (Lay.list (Lay.list (Lay.list Lay.int))).wt xs ≤ 4194304) :
    Calls Tryd.prog 36 #[.slice a xs.length c, .slice b xs.length d] w fun e w' => e = .returned (.bool true) ∧ Below w.heap.size w w' := by
  rw [Lay.wt_list] at hn
  go_enter Tryd.func36, Tryd.ntmps36
  go_wp2
  go_loopw [5] (fun i wr => ∃ k : Nat, k ≤ xs.length ∧ i = .int .i64 k ∧ Below w.heap.size w wr) (fun i _ => xs.length - (intOf i).toNat)
  case atStart => exact ⟨0, Nat.zero_le _, rfl, Below.refl _ _⟩
  case round =>
    obtain ⟨k, hk, rfl, hbel⟩ := hrel
    by_cases hlt : k < xs.length
    · obtain ⟨b1, o1, rfl, hb1, a1, c1, q0, r1⟩ := (h.later hbel).listAt hlt
      obtain ⟨b2, o2, rfl, hb2, a2, c2, p0, r2⟩ := (g.later hbel).listAt hlt
      have hk2 := Lay.sumL_at (Lay.list (Lay.list Lay.int)) hlt
      have X : Hid (Calls Tryd.prog 66 #[.slice a1 xs[k].length c1, .slice a2 xs[k].length c2] wr.drew fun e w' => e = .returned (.bool true) ∧ Below wr.heap.size wr w') :=
        (eqIntSS_l xs[k] a1 a2 c1 c2 wr.drew (r1.later (below_drew 1)) (r2.later (below_drew 1)) (by omega)).mono fun e w' h => ⟨h.1, ⟨h.2.os, h.2.tape, h.2.output, h.2.size, h.2.block⟩⟩
      clear h g r1 r2 hk2
      generalize xs[k] = y at *
      go_wp2
      go_region_with (go_at_call 66; refine X.out.mono ?_; rintro e w1 ⟨rfl, hl1⟩)
      all_goals
        go_wp2
        go_roundw
        case rel => exact ⟨k + 1, by omega, by go_num, hbel.trans (hl1.mono hbel.size)⟩
        case measure => simp [intOf]; omega
    · go_wp2
      go_ret
      exact ⟨rfl, hbel⟩

set_option maxRecDepth 100000 in
theorem szIntSSS_l (xs : List (List (List Int))) (a : Option Addr) (c : Nat) (l : Int) (w : World) (h : RD w (.slice a xs.length c) (slD (Lay.list (Lay.list Lay.int)) xs)) (hf : (Lay.list (Lay.list (Lay.list Lay.int))).fit xs) (h0 : 0 ≤ l) (h1 : l ≤ 1048576) :
    Calls Tryd.prog 23 #[.slice a xs.length c, .int .i64 l] w fun e w' => ∃ r, e = .returned (.int .i64 r) ∧ SzE ((Lay.list (Lay.list (Lay.list Lay.int))).wt xs) l r ∧ Below w.heap.size w w' := by
  obtain ⟨hm, hfe⟩ := hf
  unfold maxLen at hm
  rw [Lay.wt_list]
  by_cases hbig : l < (xs.length : Int)
  · go_enter Tryd.func23, Tryd.ntmps23
    go_wp2
    go_ret
    exact ⟨_, rfl, .inl rfl, Below.refl _ _⟩
  · go_enter Tryd.func23, Tryd.ntmps23
    go_wp2
    go_loopw [1, 5] (fun sl i wr => ∃ (k : Nat) (x : Int), k ≤ xs.length ∧ i = .int .i64 k ∧ sl = .int .i64 x ∧ 0 ≤ x ∧ Hid (x + xs.length + Lay.sumL (Lay.list (Lay.list Lay.int)) (xs.take k) = l) ∧ Below w.heap.size w wr) (fun _ i _ => xs.length - (intOf i).toNat)
    case atStart => exact ⟨0, l - xs.length, Nat.zero_le _, rfl, rfl, by omega, by show _ = _; simp [Lay.sumL], Below.refl _ _⟩
    case round =>
      obtain ⟨k, x, hk, rfl, rfl, hx0, HXL, hbel⟩ := hrel
      by_cases hlt : k < xs.length
      · obtain ⟨b1, o1, rfl, hb1, a1, c1, q0, r1⟩ := (h.later hbel).listAt hlt
        have fe := hfe xs[k] (List.getElem_mem hlt)
        have HW : Hid (Lay.sumL (Lay.list (Lay.list Lay.int)) (xs.take (k + 1)) = Lay.sumL (Lay.list (Lay.list Lay.int)) (xs.take k) + (Lay.list (Lay.list Lay.int)).wt xs[k]) := Lay.sumL_take _ hlt
        have hx1 : x ≤ 1048576 := by have := HXL.out; omega
        have X : Hid (Calls Tryd.prog 49 #[.slice a1 xs[k].length c1, .int .i64 x] wr fun e w' => ∃ r, e = .returned (.int .i64 r) ∧ SzE ((Lay.list (Lay.list Lay.int)).wt xs[k]) x r ∧ Below wr.heap.size wr w') :=
          szIntSS_l xs[k] a1 c1 x wr r1 fe hx0 hx1
        clear h r1 fe hfe
        generalize (Lay.list (Lay.list Lay.int)).wt xs[k] = wk at *
        generalize xs[k] = y at *
        go_wp2_with fail
        refine X.out.mono ?_
        rintro e w1 ⟨r, rfl, hr, hb2⟩
        have B2 := hbel.trans (hb2.mono hbel.size)
        clear X hb2 q0
        rcases hr with rfl | ⟨hr0, hr1⟩
        · go_wp2
          go_ret
          exact ⟨_, rfl, .inl rfl, B2⟩
        · have HR : Hid (r = x - (wk : Nat)) := hr1
          clear hr1
          go_wp2
          go_roundw
          case rel => exact ⟨k + 1, r, by omega, by go_num, rfl, hr0, by show _ = _; rw [HW.out]; have h1 := HXL.out; have h2 := HR.out; omega, B2⟩
          case measure => simp [intOf]; omega
      · have e : k = xs.length := by omega
        subst e
        have HE : Hid (x = l - (xs.length + Lay.sumL (Lay.list (Lay.list Lay.int)) xs : Nat)) := by have := HXL.out; rw [List.take_length] at this; show _ = _; omega
        clear HXL
        go_wp2
        go_ret
        exact ⟨_, rfl, .inr ⟨hx0, HE.out⟩, hbel⟩

end Go.Proofs.YtghpekijimoicaaDoor
namespace Go.Proofs.YtghpekijimoicaaDoor
open Go.RowKit

/-- As the program has it. -/
structure Gm where
  parts : (List (List (List Int)))
def Lay.gram : Lay Gm := { cells := fun x => [slD (Lay.list (Lay.list Lay.int)) x.parts], sz := 1, len := fun _ => rfl, pos := by decide, wt := fun x => (Lay.list (Lay.list (Lay.list Lay.int))).wt x.parts, fit := fun x => (Lay.list (Lay.list (Lay.list Lay.int))).fit x.parts }
theorem Lay_gram_wt (x : Gm) : Lay.gram.wt x = (Lay.list (Lay.list (Lay.list Lay.int))).wt x.parts := rfl
theorem Lay_gram_fit (x : Gm) : Lay.gram.fit x = ((Lay.list (Lay.list (Lay.list Lay.int))).fit x.parts) := rfl

section
variable {H : Type} {enc : TypeId × Value → H} {P : Program} {w : World} {base : Nat} {spare : Nat → Bool} {held : Bool}
theorem Opens.gram {t : TypeId} {f0 : Field} (hu : P.underlying t = some (.struct #[f0])) (o0 : f0.offset = 0) (s0 : P.cellsOf f0.type = 1) (h0 : Opens enc P w base spare held f0.type (Lay.list (Lay.list (Lay.list Lay.int)))) (hc : P.cellsOf t = 1) : Opens enc P w base spare held t Lay.gram := by
  intro n cs y h
  obtain ⟨xs, m, _, _, hl, hlen, hf⟩ := DataW.trod_struct hu h
  rw [hc] at hl
  match xs, hlen, cs, hl with
  | [y0], _, [v0], _ =>
    have g0 := hf 0 f0 rfl
    rw [o0, s0] at g0
    obtain ⟨z0, fit0, _, r0⟩ := h0 m _ y0 (by simpa using g0)
    refine ⟨⟨z0⟩, fit0, rfl, fun j hj hj' => ?_⟩
    match j, hj with
    | 0, _ => exact r0 0 (by simp) (by rw [(Lay.list (Lay.list (Lay.list Lay.int))).len]; decide)
end

theorem eqGram_l (x : Gm) (a0 b0 : Option Addr) (c0 d0 : Nat) (w : World) (h0 : RD w (.slice a0 x.parts.length c0) (slD (Lay.list (Lay.list Lay.int)) x.parts)) (g0 : RD w (.slice b0 x.parts.length d0) (slD (Lay.list (Lay.list Lay.int)) x.parts)) (hn : Lay.gram.wt x ≤ 4194304) :
    Calls Tryd.prog 14 #[.agg #[.slice a0 x.parts.length c0], .agg #[.slice b0 x.parts.length d0]] w fun e w' => e = .returned (.bool true) ∧ Below w.heap.size w w' := by
  rw [Lay_gram_wt] at hn
  have B := ((Below.refl w.heap.size w).alloc (Nat.le_refl _) (.cells #[.slice a0 x.parts.length c0] 32)).alloc (by simp) (.cells #[.slice b0 x.parts.length d0] 32)
  have X : Hid (∀ W : World, Below w.heap.size w W → Calls Tryd.prog 36 #[.slice a0 x.parts.length c0, .slice b0 x.parts.length d0] W fun e w' => e = .returned (.bool true) ∧ Below W.heap.size W w') :=
    fun W hW => eqIntSSS_l x.parts a0 b0 c0 d0 W (h0.later hW) (g0.later hW) hn
  clear h0 g0 hn
  generalize x.parts = y at *
  go_enter Tryd.func14, Tryd.ntmps14
  go_wp2_with fail
  refine (X.out _ B).mono ?_
  rintro e w1 ⟨rfl, hb⟩
  go_wp2
  go_ret
  exact ⟨rfl, B.trans (hb.mono B.size)⟩

set_option maxRecDepth 100000 in
theorem szGram_l (x : Gm) (a0 : Option Addr) (c0 : Nat) (l : Int) (w : World) (h0 : RD w (.slice a0 x.parts.length c0) (slD (Lay.list (Lay.list Lay.int)) x.parts)) (hf : Lay.gram.fit x) (hl0 : 0 ≤ l) (hl1 : l ≤ 1048576) :
    Calls Tryd.prog 7 #[.agg #[.slice a0 x.parts.length c0], .int .i64 l] w fun e w' => ∃ r, e = .returned (.int .i64 r) ∧ SzE (Lay.gram.wt x) l r ∧ Below w.heap.size w w' := by
  rw [Lay_gram_wt]
  rw [Lay_gram_fit] at hf
  have B := (Below.refl w.heap.size w).alloc (Nat.le_refl _) (.cells #[.slice a0 x.parts.length c0] 24)
  have X : Hid (∀ W : World, Below w.heap.size w W → Calls Tryd.prog 23 #[.slice a0 x.parts.length c0, .int .i64 l] W fun e w' => ∃ r, e = .returned (.int .i64 r) ∧ SzE ((Lay.list (Lay.list (Lay.list Lay.int))).wt x.parts) l r ∧ Below W.heap.size W w') :=
    fun W hW => szIntSSS_l x.parts a0 c0 l W (h0.later hW) hf hl0 hl1
  clear h0 hf
  generalize (Lay.list (Lay.list (Lay.list Lay.int))).wt x.parts = wk at *
  generalize x.parts = y at *
  go_enter Tryd.func7, Tryd.ntmps7
  go_wp2_with fail
  refine (X.out _ B).mono ?_
  rintro e w1 ⟨r, rfl, hr, hb⟩
  have B1 := B.trans (hb.mono B.size)
  clear X
  rcases hr with rfl | ⟨hr0, hr1⟩
  · go_wp2
    go_ret
    exact ⟨_, rfl, .inl rfl, B1⟩
  · have HR : Hid (r = l - wk) := hr1
    clear hr1
    go_wp2
    go_ret
    exact ⟨_, rfl, .inr ⟨hr0, HR.out⟩, B1⟩

set_option maxRecDepth 100000 in
theorem toGram_l (x : Gm) (a0 : Option Addr) (c0 : Nat) (w : World) (h0 : RD w (.slice a0 x.parts.length c0) (slD (Lay.list (Lay.list Lay.int)) x.parts)) (hn : Lay.gram.wt x ≤ 1048576) :
    Calls Tryd.prog 10 #[.agg #[.slice a0 x.parts.length c0]] w fun e w' => ∃ a1 c1 S, e = .returned (.agg #[.slice a1 x.parts.length c1]) ∧ Cells w' w.heap.size [.slice a1 x.parts.length c1] (Lay.gram.cells x) S ∧ Below w.heap.size w w' := by
  show Calls _ _ _ _ fun e w' => ∃ a1 c1 S, e = .returned (.agg #[.slice a1 x.parts.length c1]) ∧ Cells w' w.heap.size [.slice a1 x.parts.length c1] [slD (Lay.list (Lay.list Lay.int)) x.parts] S ∧ Below w.heap.size w w'
  rw [Lay_gram_wt] at hn
  have X : Hid (∀ W : World, Below w.heap.size w W → Calls Tryd.prog 30 #[.slice a0 x.parts.length c0] W fun e w' => ∃ v S, e = .returned v ∧ OD w' W.heap.size v (slD (Lay.list (Lay.list Lay.int)) x.parts) S ∧ Below W.heap.size W w') :=
    fun W hW => toIntSSS_l x.parts a0 c0 W (h0.later hW) hn
  clear h0 hn
  generalize x.parts = y at *
  have B : Below w.heap.size w (((w.alloc (.cells #[.slice a0 y.length c0] 24)).alloc (.cells #[.slice none 0 0] 32)).alloc (.cells #[.slice none 0 0] 32)) :=
    (((Below.refl _ _).alloc (Nat.le_refl _) _).alloc (by simp) _).alloc (by simp; omega) _
  go_enter Tryd.func10, Tryd.ntmps10
  go_wp2_with fail
  refine (X.out _ B).mono ?_
  rintro e w1 ⟨v, S, rfl, O1, hb1⟩
  obtain ⟨hc, hf⟩ := bcellH hb1
  have hz := hb1.size
  simp only [World.size_alloc] at hc hf hz
  have B1 := B.trans (hb1.mono B.size)
  obtain ⟨a1, c1, rfl, _⟩ := OD.shapeL O1
  clear X B hb1
  go_wp2
  refine bodyPost_ret (v := .agg #[.slice a1 y.length c1]) (by simp [results, Tryd.results10, go_sem, hc]) rfl ⟨a1, c1, S, rfl, ?_, ?_⟩
  · have hW : Within w1 ((w1.setCell ⟨w.heap.size + 1 + 1, 0, none⟩ (.slice a1 y.length c1)).setCell ⟨w.heap.size + 1, 0, none⟩ (.slice a1 y.length c1)) (fun k => k < w.heap.size + 1 + 1 + 1) :=
      ((Within.refl _ _).setCell _ _ (by simp)).setCell _ _ (by simp)
    refine Cells.last [] ((O1.kept hW (fun k hk hk2 => ?_)).base (by simp; omega))
    have := (O1.lt k hk).1
    simp at this
    omega
  · exact (B1.setCell (p := ⟨w.heap.size + 1 + 1, 0, none⟩) (by simp; omega) _).setCell (p := ⟨w.heap.size + 1, 0, none⟩) (by simp) _

end Go.Proofs.YtghpekijimoicaaDoor
namespace Go.Proofs.YtghpekijimoicaaDoor
open Go.RowKit

/-- What GramOk answers. -/
def resGramOk (x : Gm) : Bool := gramOkB x.parts

set_option maxHeartbeats 1000000 in
set_option maxRecDepth 100000 in
theorem specGramOk_any (x : Gm) (a0 : Option Addr) (c0 : Nat) (w : World) (h0 : RD w (.slice a0 x.parts.length c0) (slD (Lay.list (Lay.list Lay.int)) x.parts)) (hn : Lay.gram.wt x ≤ 1048576) (_ : Lay.gram.fit x) :
    Calls Tryd.prog 44 #[.agg #[.slice a0 x.parts.length c0]] w fun e w' => e = .returned (.bool (resGramOk x)) ∧ Below w.heap.size w w' := by
  unfold resGramOk
  rw [Lay_gram_wt, Lay.wt_list] at hn
  have B := (Below.refl w.heap.size w).alloc (Nat.le_refl _) (.cells #[.slice a0 x.parts.length c0] 32)
  have HR : Hid (RD (w.alloc (.cells #[.slice a0 x.parts.length c0] 32)) (.slice a0 x.parts.length c0) (slD (Lay.list (Lay.list Lay.int)) x.parts)) := h0.later B
  clear h0
  generalize x.parts = P at *
  by_cases hbig : inB P.length 1 20 = true
  · have hb2 := inB_true.1 hbig
    go_enter Tryd.func44, Tryd.ntmps44
    go_wp2_with (first | (go_at_call 55; refine (l1In_any _ _ _ _).mono ?_; rintro e w' ⟨rfl, rfl⟩))
    go_loop [4] (fun s4 => ∃ k : Nat, k ≤ P.length ∧ s4 = .int .i64 k ∧ Hid ((P.take k).all (partOk P.length) = true)) (fun s4 => P.length - (intOf s4).toNat)
    case atStart => exact ⟨0, Nat.zero_le _, rfl, by show _ = _; simp⟩
    case round =>
      obtain ⟨k, hk, rfl, HK⟩ := hrel
      by_cases hlt : k < P.length
      · obtain ⟨b1, o1, rfl, hb1, a1, c1, q0, r1⟩ := HR.out.listAt hlt
        have HR1 : Hid (RD (w.alloc (.cells #[.slice (some ⟨b1, o1, none⟩) P.length c0] 32)) (.slice a1 P[k].length c1) (slD (Lay.list Lay.int) P[k])) := r1
        have hw1 : P[k].length ≤ 4194304 := by have := Lay.sumL_at (Lay.list (Lay.list Lay.int)) hlt; rw [Lay.wt_list] at this; omega
        have HKs : Hid (partOk P.length P[k] = true → (P.take (k + 1)).all (partOk P.length) = true) := fun g => all_step HK.out hlt g
        have HKn : Hid (partOk P.length P[k] = false → gramOkB P = false) := fun g => gramOkB_no (all_no hlt g)
        clear r1 HR HK
        generalize P[k] = Q at *
        by_cases hq : inB Q.length 1 8 = true
        · have hq2 := inB_true.1 hq
          go_wp2_with (first | (go_at_call 55; refine (l1In_any _ _ _ _).mono ?_; rintro e w' ⟨rfl, rfl⟩))
          go_loop [5] (fun s5 => ∃ i : Nat, i ≤ Q.length ∧ s5 = .int .i64 i ∧ Hid ((Q.take i).all (rowOk P.length) = true)) (fun s5 => Q.length - (intOf s5).toNat)
          case atStart => exact ⟨0, Nat.zero_le _, rfl, by show _ = _; simp⟩
          case round =>
            obtain ⟨i, hi, rfl, HI⟩ := hrel
            by_cases hlt2 : i < Q.length
            · obtain ⟨b2, o2, rfl, hb2', a2, c2, q1, r2⟩ := HR1.out.listAt hlt2
              have R2 : Hid (Reads (w.alloc (.cells #[.slice (some ⟨b1, o1, none⟩) P.length c0] 32)) a2 Q[i]) := r2.reads
              have HIs : Hid (rowOk P.length Q[i] = true → (Q.take (i + 1)).all (rowOk P.length) = true) := fun g => all_step HI.out hlt2 g
              have HIn : Hid (rowOk P.length Q[i] = false → gramOkB P = false) := fun g => HKn.out (partOk_no (all_no hlt2 g))
              clear r2 HR1 HI
              generalize Q[i] = R at *
              by_cases hr : R.length ≤ 8
              · go_wp2
                go_loop [7] (fun s7 => ∃ j : Nat, j ≤ R.length ∧ s7 = .int .i64 j ∧ Hid ((R.take j).all (symOk P.length) = true)) (fun s7 => R.length - (intOf s7).toNat)
                case atStart => exact ⟨0, Nat.zero_le _, rfl, by show _ = _; simp⟩
                case round =>
                  obtain ⟨j, hj, rfl, HJ⟩ := hrel
                  by_cases hlt3 : j < R.length
                  · obtain ⟨b3, o3, rfl, hb3, q2'⟩ := R2.out.at hlt3
                    have q2 := q2' j hlt3
                    rw [List.getD_eq_getElem?_getD, List.getElem?_eq_getElem hlt3, Option.getD_some] at q2
                    have HJs : Hid (symOk P.length R[j] = true → (R.take (j + 1)).all (symOk P.length) = true) := fun g => all_step HJ.out hlt3 g
                    have HJn : Hid (symOk P.length R[j] = false → gramOkB P = false) := fun g => HIn.out (rowOk_no (all_no hlt3 g))
                    clear q2' R2 HJ
                    generalize R[j] = z at *
                    by_cases z1 : inB z 0 25 = true
                    · go_wp2_with (first | (go_at_call 55; refine (l1In_any _ _ _ _).mono ?_; rintro e w' ⟨rfl, rfl⟩))
                      go_round
                      case rel => exact ⟨j + 1, by omega, by go_num, HJs.out (by simp [symOk, z1])⟩
                      case measure => simp [intOf]; omega
                    · have z1' : inB z 0 25 = false := by simpa using z1
                      clear z1
                      by_cases z2 : inB z 100 (100 + P.length - 1) = true
                      · go_wp2_with (first | (go_at_call 55; refine (l1In_any _ _ _ _).mono ?_; rintro e w' ⟨rfl, rfl⟩))
                        go_round
                        case rel => exact ⟨j + 1, by omega, by go_num, HJs.out (by simp [symOk, z2])⟩
                        case measure => simp [intOf]; omega
                      · have z2' : inB z 100 (100 + P.length - 1) = false := by simpa using z2
                        clear z2
                        go_wp2_with (first | (go_at_call 55; refine (l1In_any _ _ _ _).mono ?_; rintro e w' ⟨rfl, rfl⟩))
                        go_ret
                        exact ⟨ret_bool (by rw [HJn.out (by simp [symOk, z1', z2'])]), B⟩
                  · have HE : Hid (R.all (symOk P.length) = true) := all_end HJ.out hlt3
                    clear R2 HJ
                    go_wp2
                    go_round
                    case rel => exact ⟨i + 1, by omega, by go_num, HIs.out (rowOk_yes hr HE.out)⟩
                    case measure => simp [intOf]; omega
              · go_wp2
                go_ret
                exact ⟨ret_bool (by rw [HIn.out (rowOk_long hr)]), B⟩
            · have HE : Hid (Q.all (rowOk P.length) = true) := all_end HI.out hlt2
              clear HR1 HI
              go_wp2
              go_round
              case rel => exact ⟨k + 1, by omega, by go_num, HKs.out (partOk_yes hq HE.out)⟩
              case measure => simp [intOf]; omega
        · have hq2 : inB Q.length 1 8 = false := by simpa using hq
          clear hq
          go_wp2_with (first | (go_at_call 55; refine (l1In_any _ _ _ _).mono ?_; rintro e w' ⟨rfl, rfl⟩))
          go_ret
          exact ⟨ret_bool (by rw [HKn.out (partOk_many hq2)]), B⟩
      · have HE : Hid (P.all (partOk P.length) = true) := all_end HK.out hlt
        clear HR HK
        go_wp2
        go_ret
        exact ⟨ret_bool (by rw [gramOkB_yes hbig HE.out]), B⟩
  · have hb2 : inB P.length 1 20 = false := by simpa using hbig
    clear hbig
    go_enter Tryd.func44, Tryd.ntmps44
    go_wp2_with (first | (go_at_call 55; refine (l1In_any _ _ _ _).mono ?_; rintro e w' ⟨rfl, rfl⟩))
    go_ret
    exact ⟨ret_bool (by rw [gramOkB_many hb2]), B⟩
end Go.Proofs.YtghpekijimoicaaDoor
namespace Go.Proofs.YtghpekijimoicaaDoor
open Go.RowKit

theorem wf_i64 {z : Int} (h : (Lit.int .i64 z).wf = true) : -9223372036854775808 ≤ z ∧ z ≤ 9223372036854775807 := bounds_i64 h
theorem fit_ints {zs : List Int} (h : (Lay.list Lay.int).fit zs) : ∀ z ∈ zs, -9223372036854775808 ≤ z ∧ z ≤ 9223372036854775807 := fun z hz => wf_i64 (h.2 z hz)
theorem part_upto {n : Nat} {x : Int} : inB x 100 (100 + n - 1) = decide (100 ≤ x ∧ x - 100 < n) := by
  rw [Bool.eq_iff_iff]; simp [inB]; omega

theorem isLetter_any (x : Int) (w : World) : Calls Tryd.prog 80 #[.int .i64 x] w fun e w' => e = .returned (.bool (inB x 0 25)) ∧ w' = w := by
  by_cases h1 : 0 ≤ x
  · by_cases h2 : x ≤ 25
    · go_enter Tryd.func80, Tryd.ntmps80
      go_wp2
      go_ret
      exact ⟨ret_bool (by simp [inB, h1, h2]), rfl⟩
    · go_enter Tryd.func80, Tryd.ntmps80
      go_wp2
      go_ret
      exact ⟨ret_bool (by simp [inB, h1, h2]), rfl⟩
  · go_enter Tryd.func80, Tryd.ntmps80
    go_wp2
    go_ret
    exact ⟨ret_bool (by simp [inB]; omega), rfl⟩

theorem isPartOf_any (n : Nat) (a : Option Addr) (c : Nat) (x : Int) (w : World) (hx : x ≤ 9223372036854775807) (_ : n ≤ 1048576) :
    Calls Tryd.prog 100 #[.agg #[.slice a n c], .int .i64 x] w fun e w' => e = .returned (.bool (inB x 100 (100 + n - 1))) ∧ Below w.heap.size w w' := by
  have B := (Below.refl w.heap.size w).alloc (Nat.le_refl _) (.cells #[.slice a n c] 32)
  rw [part_upto]
  by_cases h1 : 100 ≤ x
  · by_cases h2 : x - 100 < n
    · go_enter Tryd.func100, Tryd.ntmps100
      go_wp2
      go_ret
      exact ⟨ret_bool (decide_eq_true ⟨h1, h2⟩).symm, B⟩
    · go_enter Tryd.func100, Tryd.ntmps100
      go_wp2
      go_ret
      exact ⟨ret_bool (decide_eq_false (fun h => by omega)).symm, B⟩
  · go_enter Tryd.func100, Tryd.ntmps100
    go_wp2
    go_ret
    exact ⟨ret_bool (by simp; intro h; omega), B⟩

set_option maxRecDepth 100000 in
theorem symbolsOf_any (n : Nat) (a : Option Addr) (c : Nat) (zs : List Int) (a1 : Option Addr) (c1 : Nat) (w : World) (h : Reads w a1 zs) (hn : n ≤ 1048576) (hl : zs.length ≤ 1048576) (hz : ∀ z ∈ zs, -9223372036854775808 ≤ z ∧ z ≤ 9223372036854775807) :
    Calls Tryd.prog 92 #[.agg #[.slice a n c], .slice a1 zs.length c1] w fun e w' => e = .returned (.bool (zs.all (symOk n))) ∧ Below w.heap.size w w' := by
  have HZ : Hid (∀ z ∈ zs, -9223372036854775808 ≤ z ∧ z ≤ 9223372036854775807) := hz
  have B0 := (Below.refl w.heap.size w).alloc (Nat.le_refl _) (.cells #[.slice a n c] 32)
  have q0 : (w.alloc (.cells #[.slice a n c] 32)).cell? ⟨w.heap.size, 0, none⟩ = some (.slice a n c) := by simp
  clear hz
  go_enter Tryd.func92, Tryd.ntmps92
  go_wp2
  go_loopw [9] (fun s9 wr => ∃ k : Nat, k ≤ zs.length ∧ s9 = .int .i64 k ∧ Hid ((zs.take k).all (symOk n) = true) ∧ Below w.heap.size w wr ∧ wr.cell? ⟨w.heap.size, 0, none⟩ = some (.slice a n c)) (fun s9 _ => zs.length - (intOf s9).toNat)
  case atStart => exact ⟨0, Nat.zero_le _, rfl, by show _ = _; simp, B0, q0⟩
  case round =>
    obtain ⟨k, hk, rfl, HK, hbel, qk⟩ := hrel
    clear q0 B0
    have hwl : w.heap.size < wr.heap.size := World.block_lt_of_cell? wr _ qk
    by_cases hlt : k < zs.length
    · obtain ⟨b, off, rfl, hb, hc⟩ := (h.below hbel).at hlt
      have q1 := hc k hlt
      rw [List.getD_eq_getElem?_getD, List.getElem?_eq_getElem hlt, Option.getD_some] at q1
      have hr := (HZ.out zs[k] (List.getElem_mem hlt)).2
      have HS : Hid (symOk n zs[k] = true → (zs.take (k + 1)).all (symOk n) = true) := fun g => all_step HK.out hlt g
      have HN : Hid (symOk n zs[k] = false → zs.all (symOk n) = false) := fun g => all_no hlt g
      clear hc h HK
      generalize zs[k] = z at *
      by_cases z1 : inB z 0 25 = true
      · go_wp2_with (go_at_call 80; refine (isLetter_any _ _).mono ?_; rintro e w' ⟨rfl, rfl⟩)
        go_roundw
        case rel => exact ⟨k + 1, by omega, by go_num, HS.out (by simp [symOk, z1]), hbel, qk⟩
        case measure => simp [intOf]; omega
      · have z1' : inB z 0 25 = false := by simpa using z1
        clear z1
        by_cases z2 : inB z 100 (100 + n - 1) = true
        · go_wp2_with (first | (go_at_call 80; refine (isLetter_any _ _).mono ?_; rintro e w' ⟨rfl, rfl⟩) | (go_at_call 100; refine (isPartOf_any n a c _ _ hr hn).mono ?_; rintro e w1 ⟨rfl, hb1⟩))
          go_roundw
          case rel => exact ⟨k + 1, by omega, by go_num, HS.out (by simp [symOk, z2]), hbel.trans (hb1.mono hbel.size), (hb1.cell (p := ⟨w.heap.size, 0, none⟩) hwl).trans qk⟩
          case measure => simp [intOf]; omega
        · have z2' : inB z 100 (100 + n - 1) = false := by simpa using z2
          clear z2
          go_wp2_with (first | (go_at_call 80; refine (isLetter_any _ _).mono ?_; rintro e w' ⟨rfl, rfl⟩) | (go_at_call 100; refine (isPartOf_any n a c _ _ hr hn).mono ?_; rintro e w1 ⟨rfl, hb1⟩))
          go_ret
          exact ⟨ret_bool (by rw [HN.out (by simp [symOk, z1', z2'])]), hbel.trans (hb1.mono hbel.size)⟩
    · have HE : Hid (zs.all (symOk n) = true) := all_end HK.out hlt
      clear h HK
      go_wp2
      go_ret
      exact ⟨ret_bool (by rw [HE.out]), hbel⟩

set_option maxRecDepth 100000 in
theorem altsOk_any (n : Nat) (a : Option Addr) (c : Nat) (Q : List (List Int)) (a1 : Option Addr) (c1 : Nat) (w : World) (h : RD w (.slice a1 Q.length c1) (slD (Lay.list Lay.int) Q)) (hn : n ≤ 1048576) (hl : (Lay.list (Lay.list Lay.int)).wt Q ≤ 1048576) (hf : (Lay.list (Lay.list Lay.int)).fit Q) :
    Calls Tryd.prog 74 #[.agg #[.slice a n c], .slice a1 Q.length c1] w fun e w' => e = .returned (.bool (partOk n Q)) ∧ Below w.heap.size w w' := by
  have HF : Hid ((Lay.list (Lay.list Lay.int)).fit Q) := hf
  have HL : Hid (∀ row ∈ Q, row.length ≤ 1048576) := by
    intro row hrow
    obtain ⟨i, hi, rfl⟩ := List.getElem_of_mem hrow
    have := Lay.sumL_at (Lay.list Lay.int) hi
    rw [Lay.wt_list] at hl
    rw [Lay.wt_ints] at this
    omega
  rw [Lay.wt_list] at hl
  have hq : Q.length ≤ 1048576 := by omega
  clear hf hl
  by_cases hbig : inB Q.length 1 8 = true
  · have hb2 := inB_true.1 hbig
    have B0 := (Below.refl w.heap.size w).alloc (Nat.le_refl _) (.cells #[.slice a n c] 32)
    have q0 : (w.alloc (.cells #[.slice a n c] 32)).cell? ⟨w.heap.size, 0, none⟩ = some (.slice a n c) := by simp
    go_enter Tryd.func74, Tryd.ntmps74
    go_wp2
    go_loopw [17] (fun s wr => ∃ k : Nat, k ≤ Q.length ∧ s = .int .i64 k ∧ Hid ((Q.take k).all (rowOk n) = true) ∧ Below w.heap.size w wr ∧ wr.cell? ⟨w.heap.size, 0, none⟩ = some (.slice a n c)) (fun s _ => Q.length - (intOf s).toNat)
    case atStart => exact ⟨0, Nat.zero_le _, rfl, by show _ = _; simp, B0, q0⟩
    case round =>
      obtain ⟨k, hk, rfl, HK, hbel, qk⟩ := hrel
      clear q0 B0
      have hwl : w.heap.size < wr.heap.size := World.block_lt_of_cell? wr _ qk
      by_cases hlt : k < Q.length
      · obtain ⟨b, off, rfl, hb, a2, c2, q1, r2⟩ := (h.later hbel).listAt hlt
        have hrl := HL.out Q[k] (List.getElem_mem hlt)
        have HS : Hid (rowOk n Q[k] = true → (Q.take (k + 1)).all (rowOk n) = true) := fun g => all_step HK.out hlt g
        have HN : Hid (rowOk n Q[k] = false → partOk n Q = false) := fun g => partOk_no (all_no hlt g)
        have X : Hid (Calls Tryd.prog 92 #[.agg #[.slice a n c], .slice a2 Q[k].length c2] wr fun e w' => e = .returned (.bool (Q[k].all (symOk n))) ∧ Below wr.heap.size wr w') :=
          symbolsOf_any n a c Q[k] a2 c2 wr r2.reads hn hrl (fit_ints (HF.out.2 _ (List.getElem_mem hlt)))
        clear h r2 HK
        generalize Q[k] = R at *
        by_cases hr : R.length ≤ 8
        · by_cases hs : R.all (symOk n) = true
          · rw [hs] at X
            go_wp2_with (go_at_call 92; refine X.out.mono ?_; rintro e w1 ⟨rfl, hb1⟩)
            go_roundw
            case rel => exact ⟨k + 1, by omega, by go_num, HS.out (rowOk_yes hr hs), hbel.trans (hb1.mono hbel.size), (hb1.cell (p := ⟨w.heap.size, 0, none⟩) hwl).trans qk⟩
            case measure => simp [intOf]; omega
          · have hs' : R.all (symOk n) = false := by simpa using hs
            rw [hs'] at X
            clear hs
            go_wp2_with (go_at_call 92; refine X.out.mono ?_; rintro e w1 ⟨rfl, hb1⟩)
            go_ret
            exact ⟨ret_bool (by rw [HN.out (rowOk_no hs')]), hbel.trans (hb1.mono hbel.size)⟩
        · clear X
          go_wp2
          go_ret
          exact ⟨ret_bool (by rw [HN.out (rowOk_long hr)]), hbel⟩
      · have HE : Hid (Q.all (rowOk n) = true) := all_end HK.out hlt
        clear h HK
        go_wp2
        go_ret
        exact ⟨ret_bool (by rw [partOk_yes hbig HE.out]), hbel⟩
  · have hb2 : inB Q.length 1 8 = false := by simpa using hbig
    have hb3 := inB_false.1 hb2
    have B0 := (Below.refl w.heap.size w).alloc (Nat.le_refl _) (.cells #[.slice a n c] 32)
    clear hbig
    by_cases h1 : 1 ≤ Q.length
    · have h2 : 8 < Q.length := by omega
      go_enter Tryd.func74, Tryd.ntmps74
      go_wp2
      go_ret
      exact ⟨ret_bool (by rw [partOk_many hb2]), B0⟩
    · go_enter Tryd.func74, Tryd.ntmps74
      go_wp2
      go_ret
      exact ⟨ret_bool (by rw [partOk_many hb2]), B0⟩

set_option maxRecDepth 100000 in
theorem gramOk_any (x : Gm) (a0 : Option Addr) (c0 : Nat) (w : World) (h0 : RD w (.slice a0 x.parts.length c0) (slD (Lay.list (Lay.list Lay.int)) x.parts)) (hn : Lay.gram.wt x ≤ 1048576) (hf : Lay.gram.fit x) :
    Calls Tryd.prog 46 #[.agg #[.slice a0 x.parts.length c0]] w fun e w' => e = .returned (.bool (resGramOk x)) ∧ Below w.heap.size w w' := by
  unfold resGramOk
  rw [Lay_gram_wt, Lay.wt_list] at hn
  rw [Lay_gram_fit] at hf
  have h := h0
  have HF : Hid ((Lay.list (Lay.list (Lay.list Lay.int))).fit x.parts) := hf
  have hnl : x.parts.length ≤ 1048576 := by omega
  have HL : Hid (∀ alts ∈ x.parts, (Lay.list (Lay.list Lay.int)).wt alts ≤ 1048576) := by
    intro alts hal
    obtain ⟨i, hi, rfl⟩ := List.getElem_of_mem hal
    have := Lay.sumL_at (Lay.list (Lay.list Lay.int)) hi
    omega
  clear h0 hn hf
  generalize x.parts = P at *
  have B0 := (Below.refl w.heap.size w).alloc (Nat.le_refl _) (.cells #[.slice a0 P.length c0] 32)
  by_cases hbig : inB P.length 1 20 = true
  · have hb2 := inB_true.1 hbig
    have q0 : (w.alloc (.cells #[.slice a0 P.length c0] 32)).cell? ⟨w.heap.size, 0, none⟩ = some (.slice a0 P.length c0) := by simp
    go_enter Tryd.func46, Tryd.ntmps46
    go_wp2
    go_loopw [18] (fun s wr => ∃ k : Nat, k ≤ P.length ∧ s = .int .i64 k ∧ Hid ((P.take k).all (partOk P.length) = true) ∧ Below w.heap.size w wr ∧ wr.cell? ⟨w.heap.size, 0, none⟩ = some (.slice a0 P.length c0)) (fun s _ => P.length - (intOf s).toNat)
    case atStart => exact ⟨0, Nat.zero_le _, rfl, by show _ = _; simp, B0, q0⟩
    case round =>
      obtain ⟨k, hk, rfl, HK, hbel, qk⟩ := hrel
      clear q0 B0
      have hwl : w.heap.size < wr.heap.size := World.block_lt_of_cell? wr _ qk
      by_cases hlt : k < P.length
      · obtain ⟨b, off, rfl, hb, a2, c2, q1, r2⟩ := (h.later hbel).listAt hlt
        have HS : Hid (partOk P.length P[k] = true → (P.take (k + 1)).all (partOk P.length) = true) := fun g => all_step HK.out hlt g
        have HN : Hid (partOk P.length P[k] = false → gramOkB P = false) := fun g => gramOkB_no (all_no hlt g)
        have X : Hid (Calls Tryd.prog 74 #[.agg #[.slice (some ⟨b, off, none⟩) P.length c0], .slice a2 P[k].length c2] wr fun e w' => e = .returned (.bool (partOk P.length P[k])) ∧ Below wr.heap.size wr w') :=
          altsOk_any P.length _ c0 P[k] a2 c2 wr r2 hnl (HL.out _ (List.getElem_mem hlt)) (HF.out.2 _ (List.getElem_mem hlt))
        clear h r2 HK
        generalize P[k] = R at *
        by_cases hs : partOk P.length R = true
        · rw [hs] at X
          go_wp2_with (go_at_call 74; refine X.out.mono ?_; rintro e w1 ⟨rfl, hb1⟩)
          go_roundw
          case rel => exact ⟨k + 1, by omega, by go_num, HS.out hs, hbel.trans (hb1.mono hbel.size), (hb1.cell (p := ⟨w.heap.size, 0, none⟩) hwl).trans qk⟩
          case measure => simp [intOf]; omega
        · have hs' : partOk P.length R = false := by simpa using hs
          rw [hs'] at X
          clear hs
          go_wp2_with (go_at_call 74; refine X.out.mono ?_; rintro e w1 ⟨rfl, hb1⟩)
          go_ret
          exact ⟨ret_bool (by rw [HN.out hs']), hbel.trans (hb1.mono hbel.size)⟩
      · have HE : Hid (P.all (partOk P.length) = true) := all_end HK.out hlt
        clear h HK
        go_wp2
        go_ret
        exact ⟨ret_bool (by rw [gramOkB_yes hbig HE.out]), hbel⟩
  · have hb2 : inB P.length 1 20 = false := by simpa using hbig
    have hb3 := inB_false.1 hb2
    clear hbig
    by_cases h1 : 1 ≤ P.length
    · have h2 : 20 < P.length := by omega
      go_enter Tryd.func46, Tryd.ntmps46
      go_wp2
      go_ret
      exact ⟨ret_bool (by rw [gramOkB_many hb2]), B0⟩
    · go_enter Tryd.func46, Tryd.ntmps46
      go_wp2
      go_ret
      exact ⟨ret_bool (by rw [gramOkB_many hb2]), B0⟩
end Go.Proofs.YtghpekijimoicaaDoor
namespace Go.Proofs.YtghpekijimoicaaDoor
open Go.RowKit

theorem Tryd.sizeBuilder : (Tryd.prog.info? 68).map (·.size) = some 2 := by kernel_rfl
theorem Tryd.liesBuilder : liesAt Tryd.prog Tryd.prog.depth 68 (2 / Tryd.prog.cellsOf 68) 0 68 1 = true := by kernel_rfl
theorem Tryd.infoByte : (Tryd.prog.info? 5).map (fun i => (i.zero, i.size, i.bytes)) = some (some (.int .u8 0), 1, 1) := by kernel_rfl

/-- A builder in block b, made by the call (from B on), that holds the bytes bs. -/
abbrev IsB (B b : Nat) (bs : List Value) (w : World) : Prop := Lib.IsBuilderF 68 5 B b bs w
abbrev UsedB (B b : Nat) (bs : List Value) (w : World) : Prop := Lib.BuilderAtF 68 5 B b (.pointer (some ⟨b, 0, none⟩)) bs w
abbrev KeptB (b : Nat) (w w' : World) : Prop := Lib.OthersKept 5 (some b) w w'

set_option maxRecDepth 100000 in
theorem copyCheck_any (B b : Nat) (bs : List Value) (w : World) (h : IsB B b bs w) :
    Calls Tryd.prog 71 #[.pointer (some ⟨b, 0, none⟩)] w fun e w' => e = .returned (.tuple #[]) ∧ (UsedB B b bs w' ∧ Below B w w' ∧ KeptB b w w') := by
  obtain ⟨j, hj, hjs⟩ := Option.map_eq_some_iff.1 Tryd.sizeBuilder
  rcases h with h | h
  · have h0 := h.cell0
    have hsh := h.shape
    have hfz := h.frozen0
    have END : Hid (UsedB B b bs (w.setCell ⟨b, 0, none⟩ (.pointer (some ⟨b, 0, none⟩))) ∧ Below B w (w.setCell ⟨b, 0, none⟩ (.pointer (some ⟨b, 0, none⟩))) ∧ KeptB b w (w.setCell ⟨b, 0, none⟩ (.pointer (some ⟨b, 0, none⟩)))) :=
      ⟨h.used _, (Below.refl B w).setCell (p := ⟨b, 0, none⟩) h.1 _, (Lib.OthersKept.refl _ _ w).setCell ⟨b, 0, none⟩ rfl _⟩
    clear h
    go_enter Tryd.func71, Tryd.ntmps71
    go_wp2
    rw [Lib.run_to_unsafe w ⟨b, 0, none⟩ Tryd.underlying65 Tryd.underlying120 hj (by rw [hjs]; decide) hsh (Nat.zero_lt_succ 1)]
    simp only [Result.andThen]
    rw [Oper.upon_value]
    go_wp2
    rw [run_callFunc_extern Tryd.func90 (by kernel_rfl) (by kernel_rfl) (by kernel_rfl) (e := Extern.AbiNoEscape.same) (by kernel_rfl)]
    rw [Lib.run_noEscape]
    simp only [Result.andThen]
    rw [Oper.upon_value]
    go_wp2
    rw [Lib.run_from_unsafe w ⟨b, 0, none⟩ Tryd.underlying120 Tryd.underlying65 hj hsh Tryd.liesBuilder]
    simp only [Result.andThen]
    rw [Oper.upon_value]
    go_wp2
    go_end0
    exact ⟨rfl, END.out⟩
  · have h0 := h.cell0
    have hne := Lib.run_neq_ptr_same (P := Tryd.prog) w ⟨b, 0, none⟩ Tryd.underlying65 hj
    have END : Hid (UsedB B b bs w) := h
    clear h
    go_enter Tryd.func71, Tryd.ntmps71
    go_wp2
    go_end0
    exact ⟨rfl, END.out, Below.refl B _, Lib.OthersKept.refl _ _ _⟩

set_option maxRecDepth 100000 in
theorem writeByte_any (B b : Nat) (bs : List Value) (c : Int) (w : World) (h : IsB B b bs w) (hlen : bs.length + 1 ≤ 140737488355328) (hBw : B ≤ w.heap.size) :
    Calls Tryd.prog 40 #[.pointer (some ⟨b, 0, none⟩), .int .u8 c] w fun e w' => e = .returned .nilIface ∧ (UsedB B b (bs ++ [.int .u8 c]) w' ∧ Below B w w' ∧ KeptB b w w') := by
  obtain ⟨i0, hi, hz0, hz1, hz2⟩ := info_parts Tryd.infoByte
  go_enter Tryd.func40, Tryd.ntmps40
  go_wp2_with (go_at_call 71; refine (copyCheck_any B b bs _ h).mono ?_)
  rintro e w1 ⟨rfl, h1, hb1, hk1⟩
  obtain ⟨hB, v, hbk, hown, hne⟩ := h1
  have c0 : w1.cell? ⟨b, 0, none⟩ = some (.pointer (some ⟨b, 0, none⟩)) := by rw [Lib.cell_of_heap hbk]; rfl
  have c1 : w1.cell? ⟨b, 1, none⟩ = some v := by rw [Lib.cell_of_heap hbk]; rfl
  go_wp2_with (at_builtin; refine wpList_append_ownF _ rfl _ _ 66 rfl B 5 i0 (.int .u8 0) 1 1 Tryd.underlying66 hi hz0 hz1 hz2 rfl (by decide) _ _ _ rfl (hown.alloc _) ⟨w1.heap.size, 0, none⟩ 1 1 [.int .u8 c] rfl rfl ?c1 ?c2 ?c3 ?c4 ?c5 ?_)
  case c1 =>
    intro j u hj
    match j, hj with
    | 0, hj => simp at hj; subst hj; simp [Addr.add]
  case c2 => intro u hu; simp at hu; subst hu; rfl
  case c3 => unfold maxLen; omega
  case c4 => omega
  case c5 => have := hb1.size; simp; omega
  intro v' w2 hown' hgrow _
  have hlt : b < w1.heap.size := (Array.getElem?_eq_some_iff.1 hbk).1
  have hb2 : w2.heap[b]? = some (.cells #[.pointer (some ⟨b, 0, none⟩), v] 68 (0, 0)) := by
    rw [hgrow.block b (by simp; omega) (fun e => hne e.symm), Lib.alloc_old w1 _ b hlt]
    exact hbk
  have d0 : w2.cell? ⟨b, 0, none⟩ = some (.pointer (some ⟨b, 0, none⟩)) := by rw [Lib.cell_of_heap hb2]; rfl
  have d1 : w2.cell? ⟨b, 1, none⟩ = some v := by rw [Lib.cell_of_heap hb2]; rfl
  have f1 : w2.frozen? ⟨b, 1, none⟩ = false := Lib.frozen_of_heap hb2 1
  obtain ⟨g, cap, rfl⟩ : ∃ g cap, v' = .slice (some ⟨g, 0, none⟩) (bs.length + 1) cap := by
    rcases hown'.2 with ⟨_, h0⟩ | ⟨g, cap, cur, fz, hv, _⟩
    · omega
    · exact ⟨g, cap, hv⟩
  go_wp2
  go_ret
  refine ⟨rfl, ?_, ?_, ((hk1.alloc _).grown hgrow (Lib.ownsRowF_kind (hown.alloc _))).setCell ⟨b, 1, none⟩ rfl _⟩
  · exact Lib.BuilderAtF.put (T := 68) (e := 5) hB hb2 (bs' := bs ++ [.int .u8 c]) (by simpa using hown') (by decide)
  · exact ((hb1.alloc (by have := hb1.size; omega) _).grown hgrow (by have := hb1.size; simp; omega) (fun k hk => (hown.lt k hk).1)).setCell (p := ⟨b, 1, none⟩) hB _

set_option maxRecDepth 100000 in
theorem writeString_any (B b : Nat) (bs : List Value) (s : ByteArray) (w : World) (h : IsB B b bs w) (hlen : bs.length + s.size ≤ 140737488355328) (hBw : B ≤ w.heap.size) :
    Calls Tryd.prog 41 #[.pointer (some ⟨b, 0, none⟩), .string s] w fun e w' => e = .returned (.tuple #[.int .i64 s.size, .nilIface]) ∧ (UsedB B b (bs ++ Lib.strCells s) w' ∧ Below B w w' ∧ KeptB b w w') := by
  obtain ⟨i0, hi, hz0, hz1, hz2⟩ := info_parts Tryd.infoByte
  go_enter Tryd.func41, Tryd.ntmps41
  go_wp2_with (go_at_call 71; refine (copyCheck_any B b bs _ h).mono ?_)
  rintro e w1 ⟨rfl, h1, hb1, hk1⟩
  obtain ⟨hB, v, hbk, hown, hne⟩ := h1
  have c0 : w1.cell? ⟨b, 0, none⟩ = some (.pointer (some ⟨b, 0, none⟩)) := by rw [Lib.cell_of_heap hbk]; rfl
  have c1 : w1.cell? ⟨b, 1, none⟩ = some v := by rw [Lib.cell_of_heap hbk]; rfl
  go_wp2_with (at_builtin; refine Lib.wpList_append_own_stringF _ rfl _ _ 66 9 rfl B 5 i0 Tryd.underlying66 Tryd.underlying9 hi hz0 hz1 hz2 _ _ _ rfl hown s rfl ?c3 ?c4 ?c5 ?_)
  case c3 => unfold maxLen; omega
  case c4 => omega
  case c5 => have := hb1.size; omega
  intro v' w2 hown' hgrow _
  have hlt : b < w1.heap.size := (Array.getElem?_eq_some_iff.1 hbk).1
  have hb2 : w2.heap[b]? = some (.cells #[.pointer (some ⟨b, 0, none⟩), v] 68 (0, 0)) := by
    rw [hgrow.block b hlt (fun e => hne e.symm)]
    exact hbk
  have d0 : w2.cell? ⟨b, 0, none⟩ = some (.pointer (some ⟨b, 0, none⟩)) := by rw [Lib.cell_of_heap hb2]; rfl
  have d1 : w2.cell? ⟨b, 1, none⟩ = some v := by rw [Lib.cell_of_heap hb2]; rfl
  have f1 : w2.frozen? ⟨b, 1, none⟩ = false := Lib.frozen_of_heap hb2 1
  obtain ⟨ao, n', cap, rfl⟩ : ∃ ao n' cap, v' = .slice ao n' cap := by
    rcases hown'.2 with ⟨hv, _⟩ | ⟨g, cap, cur, fz, hv, _⟩
    · exact ⟨_, _, _, hv⟩
    · exact ⟨_, _, _, hv⟩
  go_wp2
  go_ret2
  refine ⟨rfl, ?_, ?_, (hk1.grown hgrow (Lib.ownsRowF_kind hown)).setCell ⟨b, 1, none⟩ rfl _⟩
  · exact Lib.BuilderAtF.put (T := 68) (e := 5) hB hb2 (bs' := bs ++ Lib.strCells s) (by simpa [Lib.strCells_length] using hown') (by decide)
  · exact (hb1.grown hgrow (by have := hb1.size; omega) (fun k hk => (hown.lt k hk).1)).setCell (p := ⟨b, 1, none⟩) hB _
end Go.Proofs.YtghpekijimoicaaDoor
namespace Go.Proofs.YtghpekijimoicaaDoor
open Go.RowKit

/-- The library's table that Digits reads. -/
abbrev PowIs (w : World) : Prop := Lib.TabIs Tryd.prog w "internal/strconv.uint64pow10" .u64 Lib.pow10Tab
theorem PowIs.later {w w' : World} (h : PowIs w) (hb : Below w.heap.size w w') : PowIs w' := Go.Joins.tab_stays gPow h hb (Nat.le_refl _)
theorem isB_ltR {B b : Nat} {bs : List Value} {w : World} (h : IsB B b bs w) : b < w.heap.size := by
  rcases h with h | h <;> exact h.lt
/-- A builder below memory that nobody has touched. -/
theorem IsB.keptR {B b : Nat} {bs : List Value} {w w' : World} (h : IsB B b bs w) (hb : Below w.heap.size w w') : IsB B b bs w' := by
  have key : ∀ p, Lib.BuilderAtF 68 5 B b p bs w → Lib.BuilderAtF 68 5 B b p bs w' := by
    rintro p ⟨hB, v, hbk, hown, hne⟩
    exact ⟨hB, v, (hb.block b (Array.getElem?_eq_some_iff.1 hbk).1).trans hbk, hown.kept (grownBy_of_below hb none) (by cases v.ownBlock <;> simp), hne⟩
  rcases h with h | h
  · exact .inl (key _ h)
  · exact .inr (key _ h)
theorem sizeL (l : List UInt8) : (⟨l.toArray⟩ : ByteArray).size = l.length := by simp [ByteArray.size]
theorem strCells_list (l : List UInt8) : Lib.strCells ⟨l.toArray⟩ = Lib.byteCells l := by simp [Lib.strCells, Lib.byteCells]

/-- A letter, or ?. -/
def letText (x : Int) : List UInt8 := if inB x 0 25 then [UInt8.ofNat (97 + x.toNat)] else [63]
theorem letText_sym {x : Int} (h : x < 100) : symText x = letText x := by
  unfold symText letText
  split
  · rfl
  · rw [if_neg (by omega)]

set_option maxRecDepth 100000 in
theorem letterText_any (x : Int) (w : World) (h0 : -9223372036854775808 ≤ x) (h1 : x ≤ 9223372036854775807) :
    Calls Tryd.prog 73 #[.int .i64 x] w fun e w' => e = .returned (.string ⟨(letText x).toArray⟩) ∧ Below w.heap.size w w' := by
  by_cases hl : inB x 0 25 = true
  · have hx := inB_true.1 hl
    have hcv := conv_one (P := Tryd.prog) 66 9 5 Tryd.underlying66 Tryd.underlying5 Tryd.underlying9 w (UInt8.ofNat (97 + x.toNat)) (97 + x) (letter_byte hl)
    rw [letText, if_pos hl]
    generalize UInt8.ofNat (97 + x.toNat) = b at *
    go_enter Tryd.func73, Tryd.ntmps73
    go_wp2_with (go_at_call 80; refine (isLetter_any _ _).mono ?_; rintro e w' ⟨rfl, rfl⟩)
    go_ret
    exact ⟨rfl, (Below.refl _ _).alloc (Nat.le_refl _) _⟩
  · have hl2 : inB x 0 25 = false := by simpa using hl
    rw [letText, if_neg hl]
    clear hl
    go_enter Tryd.func73, Tryd.ntmps73
    go_wp2_with (go_at_call 80; refine (isLetter_any _ _).mono ?_; rintro e w' ⟨rfl, rfl⟩)
    go_ret
    exact ⟨rfl, Below.refl _ _⟩

set_option maxRecDepth 100000 in
theorem symbolText_any (x : Int) (w : World) (h0 : -9223372036854775808 ≤ x) (h1 : x ≤ 9223372036854775807) (ht : PowIs w) :
    Calls Tryd.prog 47 #[.int .i64 x] w fun e w' => e = .returned (.string ⟨(symText x).toArray⟩) ∧ Below w.heap.size w w' := by
  by_cases hp : 100 ≤ x
  · rw [symText_part hp]
    have hi := itoa_le (n := x - 100) (by omega) (by omega)
    have X : Hid (Calls Tryd.prog 72 #[.int .i64 (x - 100)] w fun e w' => e = .returned (.string ⟨(Lib.itoa (x - 100)).toArray⟩) ∧ Below w.heap.size w w') := implDigits_any (x - 100) w (by omega) (by omega) ht
    clear ht
    generalize Lib.itoa (x - 100) = ds at *
    go_enter Tryd.func47, Tryd.ntmps47
    go_wp2_with (go_at_call 72; refine X.out.mono ?_; rintro e w1 ⟨rfl, hb1⟩)
    go_ret
    exact ⟨ret_strB (by simp), hb1⟩
  · have X : Hid (Calls Tryd.prog 73 #[.int .i64 x] w fun e w' => e = .returned (.string ⟨(symText x).toArray⟩) ∧ Below w.heap.size w w') := by rw [letText_sym (by omega)]; exact letterText_any x w h0 h1
    clear ht
    go_enter Tryd.func47, Tryd.ntmps47
    go_wp2_with (go_at_call 73; refine X.out.mono ?_; rintro e w1 ⟨rfl, hb1⟩)
    go_ret
    exact ⟨rfl, hb1⟩

/-- What RowText answers. -/
def resRowText (zs : List Int) : ByteArray := ⟨(rowText zs).toArray⟩

theorem specRowText_any (zs : List Int) (a : Option Addr) (c : Nat) (w : World) (h : RD w (.slice a zs.length c) (slD Lay.int zs)) (hl : zs.length ≤ 1048576) (hf : (Lay.list Lay.int).fit zs) :
    Calls Tryd.prog 21 #[.slice a zs.length c] w fun e w' => e = .returned (.string (resRowText zs)) ∧ Below w.heap.size w w' := specRow_p zs a c w h.reads hl (fit_ints hf)

set_option maxHeartbeats 1000000 in
set_option maxRecDepth 100000 in
theorem rowText_any (zs : List Int) (a : Option Addr) (c : Nat) (w : World) (h : RD w (.slice a zs.length c) (slD Lay.int zs)) (hl : zs.length ≤ 1048576) (hf : (Lay.list Lay.int).fit zs) (ht : PowIs w) :
    Calls Tryd.prog 22 #[.slice a zs.length c] w fun e w' => e = .returned (.string (resRowText zs)) ∧ Below w.heap.size w w' := by
  have HR : Hid (Reads w a zs) := h.reads
  have HT : Hid (PowIs w) := ht
  have HZ : Hid (∀ z ∈ zs, -9223372036854775808 ≤ z ∧ z ≤ 9223372036854775807) := fit_ints hf
  have HZ2 : Hid (∀ z ∈ zs, z ≤ 9223372036854775807) := fun z h => (fit_ints hf z h).2
  clear h ht hf
  go_enter Tryd.func22, Tryd.ntmps22
  go_wp2
  go_loopw [8] (fun i wr => ∃ k : Nat, k ≤ zs.length ∧ i = .int .i64 k ∧ Hid (IsB w.heap.size w.heap.size (Lib.byteCells (rowTo zs k)) wr) ∧ Below w.heap.size w wr) (fun i _ => zs.length - (intOf i).toNat)
  case atStart => exact ⟨0, Nat.zero_le _, rfl, .of (Lib.fresh_isBuilder _ _ w), (Below.refl _ _).alloc (Nat.le_refl _) _⟩
  case round =>
    obtain ⟨k, hk, rfl, HB, hbel⟩ := hrel
    have hsz := hbel.size
    by_cases hlt : k < zs.length
    · obtain ⟨b, off, rfl, hb, hc⟩ := (HR.out.below hbel).at hlt
      have q0 := hc k hlt
      rw [List.getD_eq_getElem?_getD, List.getElem?_eq_getElem hlt, Option.getD_some] at q0
      have hlen := rowTo_le HZ2.out k hk
      have hr := HZ.out zs[k] (List.getElem_mem hlt)
      have hsl := symText_le hr.2
      have X : Hid (∀ W : World, Below w.heap.size w W → Calls Tryd.prog 47 #[.int .i64 zs[k]] W fun e w' => e = .returned (.string ⟨(symText zs[k]).toArray⟩) ∧ Below W.heap.size W w') := fun W hW => symbolText_any zs[k] W hr.1 hr.2 (HT.out.later hW)
      clear hc HR
      by_cases h0 : k = 0
      · subst h0
        have HE : Hid (rowTo zs (0 + 1) = symText zs[0]) := rowTo_first hlt
        have HB0 : Hid (IsB w.heap.size w.heap.size (Lib.byteCells []) wr) := HB.out
        generalize symText zs[0] = ts at *
        generalize zs[0] = z at *
        rw [Nat.add_zero] at q0
        clear hlen HB
        go_wp2_with fail
        refine (X.out _ hbel).mono ?_
        rintro e w1 ⟨rfl, hb1⟩
        have B1 := hbel.trans (hb1.mono hsz)
        go_wp2_with fail
        refine (writeString_any w.heap.size w.heap.size _ ⟨ts.toArray⟩ _ (HB0.out.keptR hb1) (by rw [Lib.byteCells_length, sizeL]; simp; omega) B1.size).mono ?_
        rintro e w3 ⟨rfl, hU3, hb3, _⟩
        have HU : Hid (UsedB w.heap.size w.heap.size (Lib.byteCells ts) w3) := by
          have := hU3; rw [strCells_list] at this; exact this
        clear hU3
        go_wp2
        go_roundw
        case rel => exact ⟨0 + 1, by omega, by go_num, by rw [HE.out]; exact .inr HU.out, B1.trans hb3⟩
        case measure => simp [intOf]; omega
      · have HE : Hid (rowTo zs (k + 1) = (rowTo zs k ++ [32]) ++ symText zs[k]) := rowTo_next hlt h0
        have hk0 : 0 < (k : Int) := by omega
        generalize symText zs[k] = ts at *
        generalize zs[k] = z at *
        generalize rowTo zs k = pre at *
        go_wp2_with fail
        refine (writeString_any w.heap.size w.heap.size _ ⟨[32].toArray⟩ _ HB.out (by rw [Lib.byteCells_length, sizeL]; simp; omega) hsz).mono ?_
        rintro e w0 ⟨rfl, hU0, hb0, _⟩
        have B0 := hbel.trans hb0
        go_wp2_with fail
        refine (X.out _ B0).mono ?_
        rintro e w1 ⟨rfl, hb1⟩
        have B1 := B0.trans (hb1.mono B0.size)
        go_wp2_with fail
        refine (writeString_any w.heap.size w.heap.size _ ⟨ts.toArray⟩ _ (IsB.keptR (.inr hU0) hb1) (by rw [strCells_list, List.length_append, Lib.byteCells_length, Lib.byteCells_length, sizeL]; simp; omega) B1.size).mono ?_
        rintro e w3 ⟨rfl, hU3, hb3, _⟩
        have HU : Hid (UsedB w.heap.size w.heap.size (Lib.byteCells ((pre ++ [32]) ++ ts)) w3) := by
          have := hU3; rw [strCells_list, strCells_list] at this
          show UsedB _ _ _ _
          rw [Lib.byteCells_append, Lib.byteCells_append]; exact this
        clear hU3 hU0
        go_wp2
        go_roundw
        case rel => exact ⟨k + 1, by omega, by go_num, by rw [HE.out]; exact .inr HU.out, B1.trans hb3⟩
        case measure => simp [intOf]; omega
    · have e : k = zs.length := by omega
      subst e
      clear HR
      go_wp2_with fail
      refine (Tryd.Builder_String_any_k w.heap.size w.heap.size _ _ HB.out hsz).mono ?_
      rintro e w2 ⟨rfl, _, hb2, _⟩
      go_wp2
      go_ret
      exact ⟨rfl, hbel.trans hb2⟩
end Go.Proofs.YtghpekijimoicaaDoor
namespace Go.Proofs.YtghpekijimoicaaDoor
open Go.RowKit

/-- What stands of a node ahead of its Kids. -/
def headT (x : Nd) : List UInt8 := if x.kind = 1 then (40 :: 80 :: Lib.itoa x.sym) ++ (47 :: Lib.itoa x.alt) else if x.kind = 2 then 45 :: letText x.sym else if x.kind = 3 then 33 :: 80 :: Lib.itoa x.sym else letText x.sym
/-- What a visit writes. -/
def ndT (ns : List Nd) (v : Nat × Bool) : List UInt8 := if v.2 = true then [41] else (if 0 < v.1 then [32] else []) ++ headT (ndAt ns v.1)
def txtAt (ns : List Nd) (p : Nat) : List UInt8 := (visAt ns p).flatMap (ndT ns)
theorem txtAt_eq {ns : List Nd} (s : Shaped ns) {p : Nat} (hp : p < ns.length) : txtAt ns p = (if 0 < p then [32] else []) ++ (headT (ndAt ns p) ++ if (ndAt ns p).kind = 1 then (kidsAt ns p).flatMap (txtAt ns) ++ [41] else []) := by
  rw [txtAt, visAt_eq s hp, List.flatMap_cons]
  by_cases h1 : (ndAt ns p).kind = 1
  · rw [if_pos h1, if_pos h1, List.flatMap_append, List.flatMap_assoc]
    simp [ndT]
    rfl
  · rw [if_neg h1, if_neg h1]
    simp [ndT]
/-- The text of the first k Kids. -/
def ownT (ns : List Nd) (p : Nat) : List UInt8 := headT (ndAt ns p) ++ if (ndAt ns p).kind = 1 then (kidsAt ns p).flatMap (txtAt ns) ++ [41] else []
theorem txtAt_zero {ns : List Nd} (s : Shaped ns) : txtAt ns 0 = ownT ns 0 := by
  rw [txtAt_eq s (List.length_pos_iff.2 s.1)]; rfl
theorem txtAt_own {ns : List Nd} (s : Shaped ns) {p : Nat} (hp : p < ns.length) (h0 : 0 < p) : txtAt ns p = 32 :: ownT ns p := by
  rw [txtAt_eq s hp, if_pos h0]; rfl
theorem ownT_part {ns : List Nd} {p : Nat} (h : (ndAt ns p).kind = 1) : ownT ns p = (40 :: 80 :: Lib.itoa (ndAt ns p).sym) ++ (47 :: Lib.itoa (ndAt ns p).alt) ++ (kidsAt ns p).flatMap (txtAt ns) ++ [41] := by
  rw [ownT, if_pos h, headT, if_pos h]
  simp only [List.append_assoc]
theorem ownT_other {ns : List Nd} {p : Nat} (h : (ndAt ns p).kind ≠ 1) : ownT ns p = headT (ndAt ns p) := by
  rw [ownT, if_neg h, List.append_nil]
theorem itoa_le2 (n : Int) (h0 : -9223372036854775808 ≤ n) (h1 : n ≤ 9223372036854775807) : (Lib.itoa n).length ≤ 21 := by
  by_cases h : 0 ≤ n
  · have := itoa_le h h1; omega
  · have e : Lib.itoa n = 45 :: Lib.decDigits n.natAbs := by rw [Lib.itoa, if_pos (by omega)]
    rw [e, List.length_cons]
    have := decDigits_le (N := n.natAbs) (by omega)
    omega
theorem letText_len (x : Int) : (letText x).length = 1 := by
  unfold letText
  split <;> rfl
/-- The numbers of a node are 64 bits wide. -/
def NumIn (x : Nd) : Prop := (-9223372036854775808 ≤ x.sym ∧ x.sym ≤ 9223372036854775807) ∧ -9223372036854775808 ≤ x.alt ∧ x.alt ≤ 9223372036854775807
theorem NumIn.of {x : Nd} (h : Lay.node.fit x) : NumIn x := ⟨wf_i64 h.2.1, wf_i64 h.2.2.1⟩
theorem headT_le {x : Nd} (h : NumIn x) : (headT x).length ≤ 46 := by
  have h1 := itoa_le2 x.sym h.1.1 h.1.2
  have h2 := itoa_le2 x.alt h.2.1 h.2.2
  have h3 := letText_len x.sym
  unfold headT
  split
  · simp; omega
  · split
    · simp; omega
    · split
      · simp; omega
      · omega
theorem numIn_at {ns : List Nd} (hf : (Lay.list Lay.node).fit ns) (p : Nat) : NumIn (ndAt ns p) := by
  by_cases hp : p < ns.length
  · rw [ndAt_get hp]
    exact NumIn.of (hf.2 _ (List.getElem_mem hp))
  · rw [ndAt, List.getD_eq_getElem?_getD, List.getElem?_eq_none (by omega), Option.getD_none]
    exact ⟨⟨by decide, by decide⟩, by decide, by decide⟩
theorem ndT_le {ns : List Nd} (hf : (Lay.list Lay.node).fit ns) (v : Nat × Bool) : (ndT ns v).length ≤ 47 := by
  have := headT_le (numIn_at hf v.1)
  unfold ndT
  split
  · simp
  · rw [List.length_append]
    split
    · simp; omega
    · simp; omega
theorem flatMap_le {ns : List Nd} (hf : (Lay.list Lay.node).fit ns) : ∀ vs : List (Nat × Bool), (vs.flatMap (ndT ns)).length ≤ 47 * vs.length
  | [] => by simp
  | v :: vs => by
    have h1 := flatMap_le hf vs
    have h2 := ndT_le hf v
    rw [List.flatMap_cons, List.length_append, List.length_cons]
    omega
theorem txtAt_le {ns : List Nd} (hf : (Lay.list Lay.node).fit ns) (s : Shaped ns) : (txtAt ns 0).length ≤ 94 * ns.length := by
  have h1 := flatMap_le hf (visAt ns 0)
  have h2 := visits_le s
  unfold txtAt
  omega
/-- What TreeText answers. -/
def resTreeText (x : Tr) : ByteArray := if shapeB x.nodes = true then ⟨(txtAt x.nodes 0).toArray⟩ else ByteArray.empty
end Go.Proofs.YtghpekijimoicaaDoor
namespace Go.Proofs.YtghpekijimoicaaDoor
open Go.RowKit

def cellsB (bs : List Bool) : Array Value := (bs.map Value.bool).toArray
/-- The value of such an array. -/
def aggB (bs : List Bool) : Value := .agg (cellsB bs)
/-- Block b is such an array. -/
def Bits (w : World) (b : Nat) (t : TypeId) (bs : List Bool) : Prop := w.heap[b]? = some (.cells (cellsB bs) t)

theorem cellsB_size (bs : List Bool) : (cellsB bs).size = bs.length := by simp [cellsB]
theorem cellsB_get (bs : List Bool) (i : Nat) : (cellsB bs)[i]? = bs[i]?.map Value.bool := by simp [cellsB]
theorem cellsB_one (bs : List Bool) : (cellsB bs).all (·.oneCell') = true := by
  refine Array.all_eq_true_iff_forall_mem.2 fun v hv => ?_
  simp only [cellsB, List.mem_toArray, List.mem_map] at hv
  obtain ⟨x, _, rfl⟩ := hv
  rfl
section
variable {w w' : World} {b : Nat} {t : TypeId} {bs : List Bool}
theorem Bits.lt (h : Bits w b t bs) : b < w.heap.size := (Array.getElem?_eq_some_iff.1 h).1
theorem Bits.cell (h : Bits w b t bs) {n : Nat} (hn : n < bs.length) : w.cell? ⟨b, n, none⟩ = some (.bool (bs.getD n false)) := by
  rw [cell_of_row w b n _ t (0, 0) h, cellsB_get]
  simp [List.getD, hn]
theorem Bits.frozen (h : Bits w b t bs) (n : Nat) : w.frozen? ⟨b, n, none⟩ = false := by
  unfold Bits at h
  simp [World.frozen?, h]
theorem Bits.kept (h : Bits w b t bs) (hb : w'.heap[b]? = w.heap[b]?) : Bits w' b t bs := by unfold Bits at *; rw [hb]; exact h
theorem Bits.below (h : Bits w b t bs) {N : Nat} (hb : Below N w w') (hN : b < N) : Bits w' b t bs := h.kept (hb.block b hN)
theorem Bits.later (h : Bits w b t bs) (hb : Below w.heap.size w w') : Bits w' b t bs := h.below hb h.lt
theorem Bits.grown (h : Bits w b t bs) {row : Option Nat} (hg : w.grownBy w' row) (hne : row ≠ some b) : Bits w' b t bs := h.kept (hg.block b h.lt (fun e => hne e.symm))
theorem Bits.set (h : Bits w b t bs) (n : Nat) (v : Bool) : Bits (w.setCell ⟨b, n, none⟩ (.bool v)) b t (bs.set n v) := by
  unfold Bits at *
  have e : cellsB (bs.set n v) = (cellsB bs).setIfInBounds n (.bool v) := by
    simp [cellsB, List.map_set]
  rw [e]
  simp [World.setCell, Array.getElem?_modify, h]
theorem Bits.range (h : Bits w b t bs) (o n : Nat) : w.rangeAt b o (((bs.drop o).take n).map Value.bool) := by
  intro j v hv
  rw [cell_of_row w b (o + j) _ t (0, 0) h, cellsB_get]
  rw [List.getElem?_map, List.getElem?_take] at hv
  split at hv
  · rw [List.getElem?_drop] at hv; exact hv
  · simp at hv
theorem Bits.there (h : Bits w b t bs) (o n : Nat) (hn : o + n ≤ bs.length) : w.there b o n := fun j hj => ⟨by rw [h.cell (by omega)]; rfl, h.frozen _⟩
end
theorem Bits.new (w : World) (t : TypeId) (bs : List Bool) : Bits (w.alloc (.cells (cellsB bs) t)) w.heap.size t bs := by
  exact heap_alloc_new w _
theorem setCell_grown (w : World) (b n : Nat) (v : Value) : w.grownBy (w.setCell ⟨b, n, none⟩ v) (some b) :=
  ⟨rfl, rfl, rfl, by simp, fun k _ hne => Below.heap_setCell w _ v k (fun e => hne (by rw [e]))⟩

/-- What is there behind the flags cs are put in from o on. -/
def putB : List Bool → Nat → List Bool → List Bool
  | bs, _, [] => bs
  | bs, o, v :: r => putB (bs.set o v) (o + 1) r
theorem putB_length : ∀ (cs : List Bool) (bs : List Bool) (o : Nat), (putB bs o cs).length = bs.length
  | [], _, _ => rfl
  | v :: r, bs, o => by rw [putB, putB_length r]; simp
theorem putB_get : ∀ (cs : List Bool) (bs : List Bool) (o i : Nat), o + cs.length ≤ bs.length → (putB bs o cs).getD i false = if o ≤ i ∧ i < o + cs.length then cs.getD (i - o) false else bs.getD i false
  | [], bs, o, i, _ => by rw [putB, if_neg (by simp)]
  | v :: r, bs, o, i, h => by
    simp only [List.length_cons] at h
    rw [putB, putB_get r (bs.set o v) (o + 1) i (by simp; omega)]
    simp only [List.length_cons]
    by_cases e : i = o
    · subst e
      rw [if_neg (by omega), if_pos (by omega), Nat.sub_self]
      simp [List.getD, show i < bs.length by omega]
    · by_cases g : o + 1 ≤ i ∧ i < o + 1 + r.length
      · rw [if_pos g, if_pos (by omega), show i - o = (i - (o + 1)) + 1 by omega]
        rfl
      · rw [if_neg g, if_neg (by omega)]
        simp [List.getD, Ne.symm e]
theorem list_ext_getD {us bs : List Bool} (hl : us.length = bs.length) (h : ∀ i, i < us.length → us.getD i false = bs.getD i false) : us = bs := by
  apply List.ext_getElem hl
  intro i h1 h2
  have := h i h1
  simpa [List.getD, h1, h2] using this
theorem putB_whole {bs cs : List Bool} (h : cs.length = bs.length) : putB bs 0 cs = cs := by
  apply list_ext_getD (by rw [putB_length]; exact h.symm)
  intro i hi
  rw [putB_length] at hi
  rw [putB_get _ _ _ _ (by omega), if_pos (by omega), Nat.sub_zero]
theorem putB_tail {us bs cs : List Bool} (h : cs.length = bs.length) : putB (us ++ bs) us.length cs = us ++ cs := by
  apply list_ext_getD (by rw [putB_length]; simp [h])
  intro i hi
  rw [putB_length] at hi
  rw [putB_get _ _ _ _ (by simp [h])]
  simp only [List.length_append] at hi
  by_cases g : us.length ≤ i
  · rw [if_pos ⟨g, by omega⟩, List.getD_eq_getElem?_getD, List.getD_eq_getElem?_getD, List.getElem?_append_right g]
  · rw [if_neg (by omega), List.getD_eq_getElem?_getD, List.getD_eq_getElem?_getD, List.getElem?_append_left (by omega), List.getElem?_append_left (by omega)]
theorem setCells_bits : ∀ (cs bs : List Bool) (o : Nat) (w : World) (b : Nat) (t : TypeId), Bits w b t bs → Bits (w.setCells b o (cs.map Value.bool)) b t (putB bs o cs) ∧ w.grownBy (w.setCells b o (cs.map Value.bool)) (some b)
  | [], bs, o, w, b, t, h => ⟨h, World.grownBy.refl _ _⟩
  | v :: r, bs, o, w, b, t, h => by
    rw [List.map_cons, World.setCells, putB]
    have := setCells_bits r (bs.set o v) (o + 1) _ b t (h.set o v)
    exact ⟨this.1, grownBy_trans (setCell_grown w b o _) this.2⟩

section
variable {P : Program}
theorem wpList_val {ops : Array Oper} {rest : List Oper} {o : Oper} {a : Act} {w w' : World} {v : Value} {Q : Exit → Act → World → Prop} (hgd : Region.wanted o (yielded ops a.tmps) = true) (hr : (execOp a.eval o).run P w = .ok (.value v) w') (h : wpList P ops Q rest (a.put o.dst v) w') : wpList P ops Q (o :: rest) a w := by
  refine wpList_step fun K hK => ?_
  rw [if_pos hgd]
  unfold Oper.wp
  rw [hr, Oper.upon_value]
  exact hK _ _ h
theorem wpList_unit {ops : Array Oper} {rest : List Oper} {o : Oper} {a : Act} {w w' : World} {Q : Exit → Act → World → Prop} (hgd : Region.wanted o (yielded ops a.tmps) = true) (hr : (execOp a.eval o).run P w = .ok .skip w') (h : wpList P ops Q rest (a.put o.dst undef) w') : wpList P ops Q (o :: rest) a w := by
  refine wpList_step fun K hK => ?_
  rw [if_pos hgd]
  unfold Oper.wp
  rw [hr, Oper.upon_skip]
  exact hK _ _ h

/-- A type of such arrays: its cells, its form. -/
structure BitT (P : Program) (ty : TypeId) (n : Nat) : Prop where
  info : (P.info? ty).map (fun i => (i.zero, i.size)) = some (some (.agg (Array.replicate n (.bool false))), n)
  desc : ∃ d, P.underlying ty = some d ∧ d.isRow = true
theorem BitT.size {ty : TypeId} {n : Nat} (h : BitT P ty n) : (P.info? ty).map (·.size) = some n := by
  have := h.info
  cases hq : P.info? ty with
  | none => simp [hq] at this
  | some i => simp [hq] at this; simp [this.2]
theorem BitT.zero {ty : TypeId} {n : Nat} (h : BitT P ty n) (w : World) : (zeroValue ty).run P w = .ok (.agg (Array.replicate n (.bool false))) w := by
  have := h.info
  cases hq : P.info? ty with
  | none => simp [hq] at this
  | some i => simp [hq] at this; simp [zeroValue, typeInfo, hq, this.1]
theorem cellsB_rep (n : Nat) : cellsB (List.replicate n false) = Array.replicate n (.bool false) := by
  simp [cellsB]

/-- The whole array, or a part of it, is read. -/
theorem exec_loadB {ρ : Operand → Value} {o : Oper} {w : World} {ty t : TypeId} {x : Operand} {b off n : Nat} {bs : List Bool} (ho : o.op = .load ty x) (hx : ρ x = .pointer (some ⟨b, off, none⟩)) (hT : BitT P ty n) (hB : Bits w b t bs) (hn : off + n ≤ bs.length) :
    (execOp ρ o).run P w = .ok (.value (aggB ((bs.drop off).take n))) w := by
  obtain ⟨d, hu, hd⟩ := hT.desc
  have hl : (((bs.drop off).take n).map Value.bool).length = n := by simp; omega
  have := run_loadVar_mid (P := P) w b off ty (((bs.drop off).take n).map Value.bool) d (hB.range off n) hu hd (by rw [hl]; exact hT.size)
  unfold execOp
  simp only [ho, hx, Instr.loadAt, Instr.sureAddr, Sem.run_bind, Sem.run_pure, Result.andThen_ok, this]
  rfl
theorem exec_loadW {ρ : Operand → Value} {o : Oper} {w : World} {ty t : TypeId} {x : Operand} {b : Nat} {bs : List Bool} (ho : o.op = .load ty x) (hx : ρ x = .pointer (some ⟨b, 0, none⟩)) (hT : BitT P ty bs.length) (hB : Bits w b t bs) :
    (execOp ρ o).run P w = .ok (.value (aggB bs)) w := by
  have := exec_loadB (P := P) ho hx hT hB (by omega)
  simpa using this
/-- It is stored. -/
theorem exec_storeB {ρ : Operand → Value} {o : Oper} {w : World} {ty t : TypeId} {x y : Operand} {b off : Nat} {bs cs : List Bool} (ho : o.op = .store ty x y) (hx : ρ x = .pointer (some ⟨b, off, none⟩)) (hy : ρ y = aggB cs) (hT : BitT P ty cs.length) (hB : Bits w b t bs) (hn : off + cs.length ≤ bs.length) :
    ∃ w', (execOp ρ o).run P w = .ok .skip w' ∧ Bits w' b t (putB bs off cs) ∧ w.grownBy w' (some b) := by
  have h1 := run_storeVar_mid (P := P) w b off ty (cellsB cs) (hB.there off _ (by rw [cellsB_size]; exact hn)) (by rw [cellsB_size]; exact hT.size) (cellsB_one cs)
  have h2 := setCells_bits cs bs off w b t hB
  refine ⟨_, ?_, h2.1, h2.2⟩
  unfold execOp
  simp only [ho, hx, hy, aggB, Instr.storeAt, Instr.sureAddr, Sem.run_bind, Sem.run_pure, Result.andThen_ok, h1]
  rfl
theorem exec_boxB {ρ : Operand → Value} {o : Oper} {w : World} {ty : TypeId} {x : Operand} {bs : List Bool} (ho : o.op = .box ty x) (hx : ρ x = aggB bs) :
    ∃ w', (execOp ρ o).run P w = .ok (.value (.pointer (some ⟨w.heap.size, 0, none⟩))) w' ∧ Bits w' w.heap.size ty bs ∧ Below w.heap.size w w' ∧ w'.heap.size = w.heap.size + 1 := by
  refine ⟨w.alloc (.cells (cellsB bs) ty), ?_, Bits.new w ty bs, (Below.refl _ _).alloc (Nat.le_refl _) _, by simp⟩
  unfold execOp
  simp only [ho, hx, aggB, Instr.box, newVar, newRow, Value.cells]
  simp
theorem exec_allocB {ρ : Operand → Value} {o : Oper} {w : World} {ty : TypeId} {n : Nat} (ho : o.op = .alloc ty) (hT : BitT P ty n) :
    ∃ w', (execOp ρ o).run P w = .ok (.value (.pointer (some ⟨w.heap.size, 0, none⟩))) w' ∧ Bits w' w.heap.size ty (List.replicate n false) ∧ Below w.heap.size w w' ∧ w'.heap.size = w.heap.size + 1 := by
  refine ⟨w.alloc (.cells (cellsB (List.replicate n false)) ty), ?_, Bits.new w ty _, (Below.refl _ _).alloc (Nat.le_refl _) _, by simp⟩
  unfold execOp
  simp only [ho, Instr.alloc, newVar, newRow, Sem.run_bind, hT.zero, Result.andThen_ok, Value.cells, cellsB_rep]
  simp
theorem exec_indexB {ρ : Operand → Value} {o : Oper} {w : World} {ty e : TypeId} {x y : Operand} {bs : List Bool} {i : Nat} (ho : o.op = .index ty x y) (hx : ρ x = aggB bs) (hy : ρ y = .int .i64 i) (hu : P.underlying ty = some (.array bs.length e)) (he : P.underlying e = some .bool) (hz : (P.info? e).map (·.size) = some 1) (hi : i < bs.length) :
    (execOp ρ o).run P w = .ok (.value (.bool (bs.getD i false))) w := by
  have hz' : (sizeOf e).run P w = .ok 1 w := by
    cases hq : P.info? e with
    | none => simp [hq] at hz
    | some j => simp [hq] at hz; simp [sizeOf, typeInfo, hq, hz]
  have hg : (isAgg e).run P w = .ok false w := by simp [isAgg, run_underlying he]
  have hc : (cellsB bs)[i]? = some (.bool (bs.getD i false)) := by rw [cellsB_get]; simp [List.getD, hi]
  unfold execOp
  simp only [ho, hx, hy, aggB, Instr.index, asIntOf]
  simp [run_underlying hu, hz', part, hg, hi, hc]
end
end Go.Proofs.YtghpekijimoicaaDoor
