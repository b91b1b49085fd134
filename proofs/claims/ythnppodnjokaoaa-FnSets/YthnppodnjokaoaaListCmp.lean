/-
  Contracts of ListCmp (the program's, the specification's, and the library functions under it) over this translation. No statement is proved here.
-/
import Derived.Test.YthnppodnjokaoaaInfo
namespace Go.Proofs.Ythnppodnjokaoaa
open Go.RowKit

theorem specListCmp_any (a b : Option Addr) (c d : Nat) (xs ys : List Int) (w : World) (h : Reads w a xs) (g : Reads w b ys) (hl : xs.length ≤ 1048576 * 4) (_hm : ys.length ≤ 1048576 * 4) :
    Calls Try.prog 14 #[.slice a xs.length c, .slice b ys.length d] w fun e w' => e = .returned (.int .i64 (cmpL xs ys)) ∧ Below w.heap.size w w' := by
  go_enter Try.func14, Try.ntmps14
  go_wp2
  go_loopw [5] (fun i wr => ∃ k : Nat, k ≤ xs.length ∧ k ≤ ys.length ∧ i = .int .i64 k ∧ Hid (cmpL xs ys = cmpL (xs.drop k) (ys.drop k)) ∧ Below w.heap.size w wr) (fun i _ => xs.length - (intOf i).toNat)
  case atStart => exact ⟨0, Nat.zero_le _, Nat.zero_le _, rfl, rfl, Below.refl _ _⟩
  case round =>
    obtain ⟨k, hk1, hk2, rfl, HE, hbel⟩ := hrel
    by_cases hlt1 : k < xs.length
    · by_cases hlt2 : k < ys.length
      · obtain ⟨b1, o1, rfl, hb1, hc1⟩ := h.at hlt1
        obtain ⟨b2, o2, rfl, hb2, hc2⟩ := g.at hlt2
        have hcx := (hbel.cell (p := ⟨b1, o1 + k, none⟩) hb1).trans (hc1 k hlt1)
        have hcy := (hbel.cell (p := ⟨b2, o2 + k, none⟩) hb2).trans (hc2 k hlt2)
        go_wp2
        go_quiet (fail)
        go_wp2
        · go_ret
          exact ⟨ret_int (cmpL_lt HE.out hlt1 hlt2 ‹_›).symm, below_drewN hbel _⟩
        · go_quiet (fail)
          go_wp2
          · go_ret
            exact ⟨ret_int (cmpL_gt HE.out hlt1 hlt2 ‹_›).symm, below_drewN (below_drewN hbel _) _⟩
          · go_roundw
            case rel => exact ⟨k + 1, by omega, by omega, by go_num, cmpL_eq HE.out hlt1 hlt2 ‹_› ‹_›, below_drewN hbel _⟩
            case measure => simp [intOf]; omega
      · have : ys.length < xs.length := by omega
        go_wp2
        go_ret
        exact ⟨ret_int (cmpL_long HE.out hlt1 hlt2).symm, hbel⟩
    · by_cases hlt2 : k < ys.length
      · have : xs.length < ys.length := by omega
        go_wp2
        go_ret
        exact ⟨ret_int (cmpL_short HE.out hlt1 hlt2).symm, hbel⟩
      · have : ¬ xs.length < ys.length := by omega
        have : ¬ ys.length < xs.length := by omega
        go_wp2
        go_ret
        exact ⟨ret_int (cmpL_end HE.out hlt1 hlt2).symm, hbel⟩

theorem cmpCompare_any (x y : Int) (w : World) :
    Calls Try.prog 35 #[.int .i64 x, .int .i64 y] w fun e w' => e = .returned (.int .i64 (cmpI x y)) ∧ w' = w := by
  by_cases h1 : x < y
  · go_enter Try.func35, Try.ntmps35
    go_wp2
    go_ret
    exact ⟨ret_int (cmpI_lt h1).symm, rfl⟩
  · by_cases h2 : y < x
    · go_enter Try.func35, Try.ntmps35
      go_wp2
      go_ret
      exact ⟨ret_int (cmpI_gt h2).symm, rfl⟩
    · go_enter Try.func35, Try.ntmps35
      go_wp2
      go_ret
      exact ⟨ret_int (cmpI_eq (by omega) (by omega)).symm, rfl⟩

theorem slicesCompare_any (a b : Option Addr) (c d : Nat) (xs ys : List Int) (w : World) (h : Reads w a xs) (g : Reads w b ys) (hl : xs.length ≤ 1048576 * 4) (_hm : ys.length ≤ 1048576 * 4) :
    Calls Try.prog 28 #[.slice a xs.length c, .slice b ys.length d] w fun e w' => e = .returned (.int .i64 (cmpL xs ys)) ∧ Below w.heap.size w w' := by
  go_enter Try.func28, Try.ntmps28
  go_wp2
  go_loop [11] (fun i => ∃ k : Nat, k ≤ xs.length ∧ k ≤ ys.length ∧ i = .int .i64 k ∧ Hid (cmpL xs ys = cmpL (xs.drop k) (ys.drop k))) (fun i => xs.length - (intOf i).toNat)
  case atStart => exact ⟨0, Nat.zero_le _, Nat.zero_le _, rfl, rfl⟩
  case round =>
    obtain ⟨k, hk1, hk2, rfl, HE⟩ := hrel
    by_cases hlt1 : k < xs.length
    · obtain ⟨b1, o1, rfl, hb1, hc1⟩ := h.at hlt1
      have hcx := hc1 k hlt1
      by_cases hlt2 : k < ys.length
      · obtain ⟨b2, o2, rfl, hb2, hc2⟩ := g.at hlt2
        have hcy := hc2 k hlt2
        rcases Int.lt_trichotomy xs[k] ys[k] with q | q | q
        · go_wp2_with fail
          refine (cmpCompare_any _ _ _).mono ?_
          rintro e w1 ⟨rfl, rfl⟩
          rw [show cmpI xs[k] ys[k] = -1 from cmpI_lt q]
          go_wp2
          go_ret
          exact ⟨ret_int (cmpL_lt HE.out hlt1 hlt2 q).symm, Below.refl _ _⟩
        · have Q : Hid (xs[k] = ys[k]) := q
          clear q
          go_wp2_with fail
          refine (cmpCompare_any _ _ _).mono ?_
          rintro e w1 ⟨rfl, rfl⟩
          rw [show cmpI xs[k] ys[k] = 0 from cmpI_eq (Int.le_of_eq Q.out.symm) (Int.le_of_eq Q.out)]
          go_wp2
          go_round
          case rel => exact ⟨k + 1, by omega, by omega, by go_num, cmpL_eq HE.out hlt1 hlt2 (Int.le_of_eq Q.out.symm) (Int.le_of_eq Q.out)⟩
          case measure => simp [intOf]; omega
        · go_wp2_with fail
          refine (cmpCompare_any _ _ _).mono ?_
          rintro e w1 ⟨rfl, rfl⟩
          rw [show cmpI xs[k] ys[k] = 1 from cmpI_gt q]
          go_wp2
          go_ret
          exact ⟨ret_int (cmpL_gt HE.out hlt1 hlt2 q).symm, Below.refl _ _⟩
      · go_wp2
        go_ret
        exact ⟨ret_int (cmpL_long HE.out hlt1 hlt2).symm, Below.refl _ _⟩
    · by_cases hlt2 : k < ys.length
      · have : xs.length < ys.length := by omega
        go_wp2
        go_ret
        exact ⟨ret_int (cmpL_short HE.out hlt1 hlt2).symm, Below.refl _ _⟩
      · have : ¬ xs.length < ys.length := by omega
        go_wp2
        go_ret
        exact ⟨ret_int (cmpL_end HE.out hlt1 hlt2).symm, Below.refl _ _⟩

theorem implListCmp_any (a b : Option Addr) (c d : Nat) (xs ys : List Int) (w : World) (h : Reads w a xs) (g : Reads w b ys) (hl : xs.length ≤ 1048576 * 4) (_hm : ys.length ≤ 1048576 * 4) :
    Calls Try.prog 13 #[.slice a xs.length c, .slice b ys.length d] w fun e w' => e = .returned (.int .i64 (cmpL xs ys)) ∧ Below w.heap.size w w' := by
  go_enter Try.func13, Try.ntmps13
  go_wp2_with fail
  refine (slicesCompare_any _ _ _ _ xs ys _ h g hl _hm).mono ?_
  rintro e w1 ⟨rfl, hl1⟩
  go_wp2
  go_ret
  exact ⟨rfl, hl1⟩
end Go.Proofs.Ythnppodnjokaoaa
