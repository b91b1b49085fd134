/-
  Contracts of the law package's markIntS and heldIntS over this translation. No statement is proved here.
-/
import Derived.Test.YthnppodnjokaoabHIntS
import Derived.Test.YthnppodnjokaoabMarkLib
namespace Go.Proofs.Ythnppodnjokaoab
open Go.RowKit

set_option maxRecDepth 100000 in
theorem markIntS_l (xs : List Int) (base : Nat) (v : Value) (S : Nat → Prop) (k : Nat) (w : World) (h : OD w base v (slD Lay.int xs) S) (hk : k + (Lay.list Lay.int).wt xs ≤ 8388608) :
    Calls Try.prog 46 #[v, .int .i64 (k : Int)] w fun e w' => e = .returned (.int .i64 ((k + cntIntS xs : Nat) : Int)) ∧ OD w' base v (slD Lay.int (mkIntS k xs)) S ∧ Within w w' S := by
  rw [Lay.wt_ints] at hk
  rw [cntIntS_eq]
  obtain ⟨a, c, rfl, hg⟩ := OD.shapeL h
  go_enter Try.func46, Try.ntmps46
  go_wp2
  go_loopw [1, 5] (fun sk i wr => ∃ j : Nat, j ≤ xs.length ∧ i = .int .i64 j ∧ sk = .int .i64 ((k : Int) + (j : Int)) ∧ OD wr base (.slice a xs.length c) (slD Lay.int (mkIntS k (xs.take j) ++ xs.drop j)) S ∧ Within w wr S) (fun _ i _ => xs.length - (intOf i).toNat)
  case atStart => exact ⟨0, Nat.zero_le _, rfl, by simp, by simpa [mkIntS, mkL] using h, Within.refl _ _⟩
  case round =>
    obtain ⟨j, hj, rfl, rfl, hown, hwi⟩ := hrel
    by_cases hlt : j < xs.length
    · obtain ⟨g, rfl⟩ := hg (by intro e; simp [e] at hlt)
      have hjL : j < (mkIntS k (xs.take j) ++ xs.drop j).length := by rw [mkIntS, mid_length _ _ hj]; exact hlt
      have HC : cntL cntInt (xs.take j) = j := by have := cntIntS_eq (xs.take j); rw [cntIntS] at this; rw [this, List.length_take]; omega
      have HS : Hid ((mkIntS k (xs.take j) ++ xs.drop j).set j ((k : Int) + (j : Int)) = mkIntS k (xs.take (j + 1)) ++ xs.drop (j + 1)) := by
        have e := mid_set cntInt mkInt (k := k) hlt
        rw [HC] at e
        show _ = _
        unfold mkIntS
        rw [← e]
        congr 1
      obtain ⟨R1, R2, ⟨u, hu⟩, hf⟩ := hown.intStore hjL ((k : Int) + (j : Int))
      rw [HS.out] at R1
      clear hg hown HC hjL
      go_wp2
      go_roundw
      case rel => exact ⟨j + 1, by omega, by go_num, by go_num, R1, hwi.trans R2⟩
      case measure => simp [intOf]; omega
    · have e : j = xs.length := by omega
      subst e
      go_wp2
      go_ret
      exact ⟨ret_int (by omega), by simpa using hown, hwi⟩

theorem markIntS_c (xs : List Int) (base : Nat) (v : Value) (S : Nat → Prop) (k : Nat) (w : World) (h : Cells w base [v] [slD Lay.int xs] S) (hk : k + (Lay.list Lay.int).wt xs ≤ 8388608) :
    Calls Try.prog 46 #[v, .int .i64 (k : Int)] w fun e w' => e = .returned (.int .i64 ((k + cntIntS xs : Nat) : Int)) ∧ Cells w' base [v] [slD Lay.int (mkIntS k xs)] S ∧ Within w w' S := by
  refine (markIntS_l xs base v S k w h.od hk).mono ?_
  rintro e w' ⟨rfl, h1, h2⟩
  exact ⟨rfl, Cells.one h1, h2⟩

theorem heldIntS_l (xs : List Int) (a : Option Addr) (n c : Nat) (k : Nat) (w : World) (h : RD w (.slice a n c) (slD Lay.int (mkIntS k xs))) (hk : k + (Lay.list Lay.int).wt xs ≤ 8388608) :
    Calls Try.prog 47 #[.slice a n c, .int .i64 (k : Int)] w fun e w' => e = .returned (.int .i64 ((k + cntIntS xs : Nat) : Int)) ∧ Below w.heap.size w w' := by
  rw [Lay.wt_ints] at hk
  rw [cntIntS_eq]
  have e := h.lenL
  rw [mkIntS, mkL_length] at e
  subst e
  have r := h.reads
  rw [mkIntS_marks] at r
  refine (heldIntS_any a xs.length c (k : Int) w r (by omega) (by omega) (by omega)).mono ?_
  rintro e w' ⟨rfl, hb⟩
  exact ⟨ret_int (by omega), hb⟩

end Go.Proofs.Ythnppodnjokaoab
