/-
  Contracts of the law package's markIntSSS and heldIntSSS over this translation. No statement is proved here.
-/
import Derived.Test.YtdniejpblhbjkabHIntSSS
import Derived.Test.YtdniejpblhbjkabMIntSS
namespace Go.Proofs.Ytdniejpblhbjkab
open Go.RowKit

def cntIntSSS : List (List (List Int)) → Nat := cntL cntIntSS
def mkIntSSS : Nat → List (List (List Int)) → List (List (List Int)) := mkL cntIntSS mkIntSS
theorem cntIntSSS_le (xs : List (List (List Int))) : cntIntSSS xs ≤ (Lay.list (Lay.list (Lay.list Lay.int))).wt xs := cntL_le _ (fun x => by have := cntIntSS_le x; omega) xs
theorem cntIntSSS_room {xs : List (List (List Int))} {j k M : Nat} (hlt : j < xs.length) (hk : k + (xs.length + (Lay.list (Lay.list Lay.int)).sumL xs) ≤ M) : k + cntIntSSS (xs.take j) + (Lay.list (Lay.list Lay.int)).wt xs[j] ≤ M := by
  have h1 := cntIntSSS_le (xs.take j)
  rw [Lay.wt_list, List.length_take] at h1
  have h2 := Lay.sumL_take (Lay.list (Lay.list Lay.int)) hlt
  have h3 := Lay.sumL_take_le (Lay.list (Lay.list Lay.int)) xs (j + 1)
  omega

set_option maxRecDepth 100000 in
theorem markIntSSS_l (xs : List (List (List Int))) (base : Nat) (v : Value) (S : Nat → Prop) (k : Nat) (w : World) (h : OD w base v (slD (Lay.list (Lay.list Lay.int)) xs) S) (hk : k + (Lay.list (Lay.list (Lay.list Lay.int))).wt xs ≤ 8388608) :
    Calls Try.prog 37 #[v, .int .i64 (k : Int)] w fun e w' => e = .returned (.int .i64 ((k + cntIntSSS xs : Nat) : Int)) ∧ OD w' base v (slD (Lay.list (Lay.list Lay.int)) (mkIntSSS k xs)) S ∧ Within w w' S := by
  rw [Lay.wt_list] at hk
  obtain ⟨a, c, rfl, hg⟩ := OD.shapeL h
  go_enter Try.func37, Try.ntmps37
  go_wp2
  go_loopw [1, 5] (fun sk i wr => ∃ j : Nat, j ≤ xs.length ∧ i = .int .i64 j ∧ sk = .int .i64 ((k + cntIntSSS (xs.take j) : Nat) : Int) ∧ Hid (OD wr base (.slice a xs.length c) (slD (Lay.list (Lay.list Lay.int)) (mkIntSSS k (xs.take j) ++ xs.drop j)) S ∧ Within w wr S)) (fun _ i _ => xs.length - (intOf i).toNat)
  case atStart => exact ⟨0, Nat.zero_le _, rfl, by simp [cntIntSSS, cntL], by simpa [mkIntSSS, mkL] using h, Within.refl _ _⟩
  case round =>
    obtain ⟨j, hj, rfl, rfl, HO⟩ := hrel
    by_cases hlt : j < xs.length
    · obtain ⟨g, rfl⟩ := hg (by intro e; simp [e] at hlt)
      have hjL : j < (mkIntSSS k (xs.take j) ++ xs.drop j).length := by rw [mkIntSSS, mid_length _ _ hj]; exact hlt
      have HX : (mkIntSSS k (xs.take j) ++ xs.drop j)[j] = xs[j] := mid_get cntIntSS mkIntSS hlt hjL
      have HS : Hid ((mkIntSSS k (xs.take j) ++ xs.drop j).set j (mkIntSS (k + cntIntSSS (xs.take j)) xs[j]) = mkIntSSS k (xs.take (j + 1)) ++ xs.drop (j + 1)) := mid_set cntIntSS mkIntSS hlt
      have HN : Hid (k + cntIntSSS (xs.take (j + 1)) = k + cntIntSSS (xs.take j) + cntIntSS xs[j]) := by show _ = _; unfold cntIntSSS; rw [cntL_take _ hlt]; omega
      have hle := cntIntSSS_room hlt hk
      have hle2 := cntIntSS_le xs[j]
      obtain ⟨a1, c1, Tj, q0, O1, hT, hput⟩ := HO.out.1.listInto hjL
      rw [HX] at q0 O1 hput
      have X : Hid (Calls Try.prog 60 #[.slice a1 xs[j].length c1, .int .i64 ((k + cntIntSSS (xs.take j) : Nat) : Int)] wr fun e w' => e = .returned (.int .i64 ((k + cntIntSSS (xs.take j) + cntIntSS xs[j] : Nat) : Int)) ∧ OD w' base (.slice a1 xs[j].length c1) (slD (Lay.list Lay.int) (mkIntSS (k + cntIntSSS (xs.take j)) xs[j])) Tj ∧ Within wr w' Tj) :=
        markIntSS_l xs[j] base _ Tj (k + cntIntSSS (xs.take j)) wr O1 hle
      have HP : Hid (∀ w', OD w' base (.slice a1 xs[j].length c1) (slD (Lay.list Lay.int) (mkIntSS (k + cntIntSSS (xs.take j)) xs[j])) Tj ∧ Within wr w' Tj → OD w' base (.slice (some ⟨g, 0, none⟩) xs.length c) (slD (Lay.list (Lay.list Lay.int)) (mkIntSSS k (xs.take (j + 1)) ++ xs.drop (j + 1))) S ∧ Within w w' S) := by
        intro w' hx
        have := hput w' _ hx.1 hx.2
        rw [HS.out] at this
        exact ⟨this, HO.out.2.trans (hx.2.mono hT)⟩
      clear hg h HO HX HS hput O1 hjL
      generalize (Lay.list (Lay.list Lay.int)).wt xs[j] = wk at *
      generalize k + cntIntSSS (xs.take j) = m at *
      generalize mkIntSS m xs[j] = mk at *
      generalize cntIntSS xs[j] = ck at *
      generalize xs[j] = y at *
      have hgl : g < wr.heap.size := World.block_lt_of_cell? wr _ q0
      go_wp2_with fail
      refine X.out.mono ?_
      rintro e w1 ⟨rfl, hx⟩
      have HE : Hid (OD w1 base (.slice (some ⟨g, 0, none⟩) xs.length c) (slD (Lay.list (Lay.list Lay.int)) (mkIntSSS k (xs.take (j + 1)) ++ xs.drop (j + 1))) S ∧ Within w w1 S) := HP.out w1 hx
      clear X HP hx
      go_wp2
      go_roundw
      case rel => exact ⟨j + 1, by omega, by go_num, by rw [HN.out]; simp, HE⟩
      case measure => simp [intOf]; omega
    · have e : j = xs.length := by omega
      subst e
      have HE : Hid (OD wr base (.slice a xs.length c) (slD (Lay.list (Lay.list Lay.int)) (mkIntSSS k xs)) S ∧ Within w wr S) := by show _ ∧ _; simpa using HO.out
      have HC : Hid (cntIntSSS (xs.take xs.length) = cntIntSSS xs) := by show _ = _; rw [List.take_length]
      clear HO
      generalize cntIntSSS (xs.take xs.length) = m at *
      go_wp2
      go_ret
      exact ⟨ret_int (by rw [HC.out]), HE.out⟩

end Go.Proofs.Ytdniejpblhbjkab
