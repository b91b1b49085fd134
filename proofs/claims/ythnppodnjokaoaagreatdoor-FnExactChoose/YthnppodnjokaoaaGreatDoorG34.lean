/-
  Contracts and plain mathematics, joined: CanGo. No statement is proved here.
-/
import Derived.Test.YthnppodnjokaoaaGreatDoorG26
import Derived.Test.YthnppodnjokaoaaGreatDoorG33
namespace Go.Proofs.YthnppodnjokaoaaGreatDoor
open Go.RowKit

set_option maxHeartbeats 1000000 in
set_option maxRecDepth 100000 in
theorem canBeAskedAt_any (x : Gm) (a0 : Option Addr) (c0 : Nat) (z2 : List Int) (a2 : Option Addr) (c2 : Nat) (n : Int) (w : World) (h0 : RD w (.slice a0 x.parts.length c0) (slD (Lay.list (Lay.list Lay.int)) x.parts)) (h2 : RD w (.slice a2 z2.length c2) (slD Lay.int z2)) (hn : Lay.gram.wt x ≤ 1048576) (hf : Lay.gram.fit x) (hl2 : z2.length ≤ 1048576) (hz2 : (Lay.list Lay.int).fit z2) (wf : (Lit.int .i64 n).wf = true) (hE : ErrsIs w) :
    Calls Tryz.prog 28 #[.agg #[.slice a0 x.parts.length c0], .slice a2 z2.length c2, .int .i64 n] w fun e w' => e = .returned (.bool (rightAt x z2 n)) ∧ Below w.heap.size w w' := by
  have B0 := (Below.refl w.heap.size w).alloc (Nat.le_refl _) (.cells #[.slice a0 x.parts.length c0] 29)
  have HK : Hid (∀ W : World, Below w.heap.size w W → Calls Tryz.prog 41 #[.agg #[.slice a0 x.parts.length c0], .slice a2 z2.length c2] W fun e w' => e = .returned (.bool (inputOkB z2 && decide (resCheck x = 0))) ∧ Below W.heap.size W w') := fun W hW => canBeAsked_any x a0 c0 z2 a2 c2 W (h0.later hW) (h2.later hW) hn hf hl2 hz2 (hE.later hW)
  have HR : Hid (rightAt x z2 n = ((inputOkB z2 && decide (resCheck x = 0)) && inB n 0 z2.length)) := by
    show _ = _
    unfold rightAt
    cases inputOkB z2 <;> cases decide (resCheck x = 0) <;> rfl
  have hwf := wf_i64 wf
  clear h0 h2 hn hf hz2 hE wf
  generalize rightAt x z2 n = R at *
  generalize (inputOkB z2 && decide (resCheck x = 0)) = b at *
  generalize x.parts = P at *
  cases b
  · have E : Hid (R = false) := by show _ = _; rw [HR.out]; rfl
    go_enter Tryz.func28, Tryz.ntmps28
    go_wp2_with (go_at_call 41; refine (HK.out _ B0).mono ?_; rintro e w1 ⟨rfl, hb1⟩; have B1 := B0.trans (hb1.mono B0.size))
    go_ret
    exact ⟨ret_bool E.out.symm, B1⟩
  · by_cases h1 : 0 ≤ n
    · by_cases h2 : n ≤ z2.length
      · have E : Hid (R = true) := by show _ = _; rw [HR.out, Bool.true_and, inB_true]; exact ⟨h1, h2⟩
        go_enter Tryz.func28, Tryz.ntmps28
        go_wp2_with (go_at_call 41; refine (HK.out _ B0).mono ?_; rintro e w1 ⟨rfl, hb1⟩; have B1 := B0.trans (hb1.mono B0.size))
        go_ret
        exact ⟨ret_bool E.out.symm, B1⟩
      · have E : Hid (R = false) := by
          show _ = _
          rw [HR.out, Bool.true_and]
          cases e : inB n 0 z2.length
          · rfl
          · rw [inB_true] at e; exact absurd e.2 h2
        go_enter Tryz.func28, Tryz.ntmps28
        go_wp2_with (go_at_call 41; refine (HK.out _ B0).mono ?_; rintro e w1 ⟨rfl, hb1⟩; have B1 := B0.trans (hb1.mono B0.size))
        go_ret
        exact ⟨ret_bool (by rw [E.out]; exact decide_eq_false (by omega)), B1⟩
    · have E : Hid (R = false) := by
        show _ = _
        rw [HR.out, Bool.true_and]
        cases e : inB n 0 z2.length
        · rfl
        · rw [inB_true] at e; exact absurd e.1 h1
      go_enter Tryz.func28, Tryz.ntmps28
      go_wp2_with (go_at_call 41; refine (HK.out _ B0).mono ?_; rintro e w1 ⟨rfl, hb1⟩; have B1 := B0.trans (hb1.mono B0.size))
      go_ret
      exact ⟨ret_bool E.out.symm, B1⟩
set_option maxHeartbeats 1000000 in
set_option maxRecDepth 100000 in
theorem canGo_any (n : Nat) (a : Option Addr) (c : Nat) (row : List Int) (ar : Option Addr) (cr : Nat) (w : World) (hr : Reads w ar row) (hn : n ≤ 1048576) (hl : row.length ≤ 4194304) (hz : ∀ z ∈ row, -9223372036854775808 ≤ z ∧ z ≤ 9223372036854775807) :
    Calls Tryz.prog 44 #[.agg #[.slice a n c], .slice ar row.length cr] w fun e w' => e = .returned (.bool (knownB n row)) ∧ Below w.heap.size w w' := by
  have B0 := (Below.refl w.heap.size w).alloc (Nat.le_refl _) (.cells #[.slice a n c] 29)
  by_cases hlong : row.length ≤ 200
  · have hI : (row.length : Int) ≤ 200 := by omega
    have HS := symbolsOf_any n a c row ar cr _ (hr.below B0) hn (by omega) hz
    have E : Hid (knownB n row = row.all (symOk n)) := by show _ = _; simp [knownB, hlong]
    generalize knownB n row = R at *
    generalize row.all (symOk n) = s at *
    clear hr hz
    go_enter Tryz.func44, Tryz.ntmps44
    go_wp2_with (go_at_call 61; refine HS.mono ?_; rintro e w1 ⟨rfl, hb1⟩)
    go_ret
    exact ⟨ret_bool (by rw [E.out]), B0.trans (hb1.mono B0.size)⟩
  · have hI : ¬ (row.length : Int) ≤ 200 := by omega
    rw [knownB_long hlong]
    go_enter Tryz.func44, Tryz.ntmps44
    go_wp2
    go_ret
    exact ⟨rfl, B0⟩
end Go.Proofs.YthnppodnjokaoaaGreatDoor
