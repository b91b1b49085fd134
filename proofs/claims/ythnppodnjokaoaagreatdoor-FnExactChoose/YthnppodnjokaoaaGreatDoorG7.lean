/-
  Contracts and plain mathematics, joined: Concat. No statement is proved here.
-/
import Derived.Test.YthnppodnjokaoaaGreatDoorG4
import Derived.Test.YthnppodnjokaoaaGreatDoorG3
import Derived.Test.YthnppodnjokaoaaGreatDoorChecked
import Derived.Lib.AppendZeros
namespace Go.Proofs.YthnppodnjokaoaaGreatDoor
open Go.RowKit

set_option maxHeartbeats 2000000 in
set_option maxRecDepth 100000 in
theorem growNil_any (n : Nat) (w : World) (hn : n ≤ 8388608) :
    Calls Tryz.prog 60 #[.slice none 0 0, .int .i64 (n : Int)] w fun e w' => ∃ v, e = .returned v ∧ OwnInts w' w.heap.size 3 v [] ∧ Below w.heap.size w w' := by
  by_cases h0 : n = 0
  · subst h0
    go_enter Tryz.func60, Tryz.ntmps60
    go_wp2
    go_ret
    exact ⟨_, rfl, OwnInts.nil _ _ _, Below.refl _ _⟩
  · have hpos : 0 < n := by omega
    have hI : (0 : Int) < (n : Int) := by omega
    obtain ⟨i, hi, hz0, hz1, hz2⟩ := info_parts Tryz.infoInt
    have hrun := fun ty => Go.Lib.run_append_nil_zeros (P := Tryz.prog) w 25 3 ty 3 i (.int .i64 0) .i64 .i64 Tryz.underlying25 Tryz.underlying3 hi hz0 n hpos (by omega) (by omega) (by rw [hz2]; omega)
    have hge := grownCap_ge w n 0 3
    have hle := grownCap_le_maxLen w n 0 3 (by unfold maxLen; omega)
    have HO : Hid (OwnInts (w.drew.alloc (.cells (Builtin.zeroCells (Value.int .i64 0).cells n ++ Builtin.zeroCells (Value.int .i64 0).cells (grownCap w n 0 3 - n)) 3)) w.heap.size 3 (.slice (some ⟨w.drew.heap.size, 0, none⟩) 0 (grownCap w n 0 3)) []) := World.ownsRow_made w.drew _ _ (by simp) hle (by simp [Builtin.zeroCells, Value.cells]; omega)
    have HB : Hid (Below w.heap.size w (w.drew.alloc (.cells (Builtin.zeroCells (Value.int .i64 0).cells n ++ Builtin.zeroCells (Value.int .i64 0).cells (grownCap w n 0 3 - n)) 3))) := (Below.refl _ _).drew.alloc (by simp) _
    generalize w.drew.alloc (.cells (Builtin.zeroCells (Value.int .i64 0).cells n ++ Builtin.zeroCells (Value.int .i64 0).cells (grownCap w n 0 3 - n)) 3) = w2 at *
    generalize grownCap w n 0 3 = cap at *
    unfold maxLen at hle
    go_enter Tryz.func60, Tryz.ntmps60
    go_wp2_with (at_builtin; refine Go.Lib.wpList_append_run _ rfl (.tmp 20) (.tmp 21) 25 3 rfl (.slice none 0 0) (.int .i64 (n : Int)) rfl rfl _ _ (hrun _) ?_)
    go_ret
    exact ⟨_, rfl, HO.out, HB.out⟩
set_option maxHeartbeats 4000000 in
set_option maxRecDepth 100000 in
theorem concat_any (b : Nat) (xs ys : List Int) (a5 : Option Addr) (c5 : Nat) (a6 : Option Addr) (c6 : Nat) (w : World) (q0 : w.cell? ⟨b, 0, none⟩ = some (.slice a5 xs.length c5)) (q1 : w.cell? ⟨b, 1, none⟩ = some (.slice a6 ys.length c6)) (hx : Reads w a5 xs) (hy : Reads w a6 ys) (hlx : xs.length ≤ 4194304) (hly : ys.length ≤ 4194304) :
    Calls Tryz.prog 43 #[.slice (some ⟨b, 0, none⟩) 2 2] w fun e w' => ∃ v, e = .returned v ∧ OwnInts w' w.heap.size 3 v (xs ++ ys) ∧ Below w.heap.size w w' := by
  have hbl := World.block_lt_of_cell? w _ q0
  have HQ0 : Hid (w.cell? ⟨b, 0, none⟩ = some (.slice a5 xs.length c5)) := q0
  have HQ1 : Hid (w.cell? ⟨b, 1, none⟩ = some (.slice a6 ys.length c6)) := q1
  have HX : Hid (Reads w a5 xs) := hx
  have HY : Hid (Reads w a6 ys) := hy
  clear hx hy q0 q1
  go_enter Tryz.func43, Tryz.ntmps43
  go_wp2
  go_loopw [3, 11] (fun s3 s11 wr => ∃ k m : Nat, s11 = .int .i64 (k : Int) ∧ s3 = .int .i64 (m : Int) ∧ ((k = 0 ∧ m = 0) ∨ (k = 1 ∧ m = xs.length) ∨ (k = 2 ∧ m = xs.length + ys.length)) ∧ wr = w) (fun _ s11 _ => 2 - (intOf s11).toNat)
  case atStart => exact ⟨0, 0, rfl, rfl, .inl ⟨rfl, rfl⟩, rfl⟩
  case round =>
    obtain ⟨k, m, rfl, rfl, hk, hwr⟩ := hrel
    replace hwr := hwr.symm
    subst hwr
    rcases hk with ⟨rfl, rfl⟩ | ⟨rfl, rfl⟩ | ⟨rfl, rfl⟩
    · have q0 := HQ0.out
      go_wp2
      go_roundw
      case rel => exact ⟨1, xs.length, by go_num, by go_num, .inr (.inl ⟨rfl, rfl⟩), trivial⟩
      case measure => simp [intOf]
    · have q1 := HQ1.out
      go_wp2
      go_roundw
      case rel => exact ⟨2, xs.length + ys.length, by go_num, by go_num, .inr (.inr ⟨rfl, rfl⟩), trivial⟩
      case measure => simp [intOf]
    · have X := growNil_any (xs.length + ys.length) w (by omega)
      have hsI : ¬ ((xs.length : Int) + (ys.length : Int)) < 0 := by omega
      rw [Int.natCast_add] at X
      go_wp2_with (go_at_call 60; refine X.mono ?_; rintro e w1 ⟨v1, rfl, hO1, hb1⟩)
      have HO1 : Hid (OwnInts w1 w.heap.size 3 v1 []) := hO1
      have HB1 : Hid (Below w.heap.size w w1) := hb1
      clear hO1 hb1 X
      go_loopw [6, 27] (fun s6 s27 wr => ∃ (k : Nat) (v : Value), s27 = .int .i64 (k : Int) ∧ s6 = v ∧ Hid ((k = 0 ∧ OwnInts wr w.heap.size 3 v []) ∨ (k = 1 ∧ OwnInts wr w.heap.size 3 v xs) ∨ (k = 2 ∧ OwnInts wr w.heap.size 3 v (xs ++ ys))) ∧ Hid (Below w.heap.size w wr)) (fun _ s27 _ => 2 - (intOf s27).toNat)
      case atStart => exact ⟨0, _, rfl, rfl, .inl ⟨rfl, HO1.out⟩, HB1⟩
      case round =>
        obtain ⟨k, v, rfl, hv, HK, HB⟩ := hrel
        replace hv := hv.symm
        subst hv
        obtain ⟨wA, hwA⟩ : ∃ y, y = wr := ⟨_, rfl⟩
        subst hwA
        clear HO1 HB1
        rcases HK.out with ⟨rfl, hO⟩ | ⟨rfl, hO⟩ | ⟨rfl, hO⟩
        · have q0 := (HB.out.cell (p := ⟨b, 0, none⟩) hbl).trans HQ0.out
          clear HK
          go_wp2_with (at_builtin; refine wpList_append_ints _ rfl (.tmp 31) (.tmp 32) 25 rfl w.heap.size 3 Tryz.underlying25 Tryz.infoInt _ _ rfl hO a5 xs.length c5 xs rfl rfl (HX.out.below HB.out) (by simp; omega) HB.out.size ?_)
          intro v5 w5 hO5 hg5
          have HB5 : Hid (Below w.heap.size w w5) := HB.out.grown hg5 HB.out.size (fun j hj => (hO.block j hj).1)
          have HK5 : Hid ((1 = 0 ∧ OwnInts w5 w.heap.size 3 v5 []) ∨ (1 = 1 ∧ OwnInts w5 w.heap.size 3 v5 xs) ∨ (1 = 2 ∧ OwnInts w5 w.heap.size 3 v5 (xs ++ ys))) := .inr (.inl ⟨rfl, by simpa using hO5⟩)
          clear hO hO5 hg5 q0
          go_wp2
          go_roundw
          case rel => exact ⟨1, v5, by go_num, rfl, HK5, HB5⟩
          case measure => simp [intOf]
        · have q1 := (HB.out.cell (p := ⟨b, 1, none⟩) hbl).trans HQ1.out
          clear HK
          go_wp2_with (at_builtin; refine wpList_append_ints _ rfl (.tmp 31) (.tmp 32) 25 rfl w.heap.size 3 Tryz.underlying25 Tryz.infoInt _ _ rfl hO a6 ys.length c6 ys rfl rfl (HY.out.below HB.out) (by omega) HB.out.size ?_)
          intro v5 w5 hO5 hg5
          have HB5 : Hid (Below w.heap.size w w5) := HB.out.grown hg5 HB.out.size (fun j hj => (hO.block j hj).1)
          have HK5 : Hid ((2 = 0 ∧ OwnInts w5 w.heap.size 3 v5 []) ∨ (2 = 1 ∧ OwnInts w5 w.heap.size 3 v5 xs) ∨ (2 = 2 ∧ OwnInts w5 w.heap.size 3 v5 (xs ++ ys))) := .inr (.inr ⟨rfl, hO5⟩)
          clear hO hO5 hg5 q1
          go_wp2
          go_roundw
          case rel => exact ⟨2, v5, by go_num, rfl, HK5, HB5⟩
          case measure => simp [intOf]
        · have HO : Hid (OwnInts wA w.heap.size 3 v (xs ++ ys)) := hO
          clear HK hO
          go_wp2
          go_ret
          exact ⟨_, rfl, HO.out, HB.out⟩
end Go.Proofs.YthnppodnjokaoaaGreatDoor
