/-
  Contracts of the law package's markNodeSH and heldNodeSH over this translation. No statement is proved here.
-/
import Derived.Test.YthnppodnjokaoabMNodeS
namespace Go.Proofs.Ythnppodnjokaoab
open Go.RowKit

theorem mkNode_eq (m : Nat) (x : Nd) : mkNode m x = ⟨(m : Int), (m : Int) + 1, (m : Int) + 1 + 1, (m : Int) + 1 + 1 + 1, mkIntS (m + 4) x.kids⟩ := by
  unfold mkNode
  congr 1

set_option maxRecDepth 100000 in
theorem heldNodeS_l (xs : List Nd) (a : Option Addr) (n c : Nat) (k : Nat) (w : World) (h : RD w (.slice a n c) (slD Lay.node (mkNodeS k xs))) (hk : k + 5 * (Lay.list Lay.node).wt xs ≤ 8388608) :
    Calls Try.prog 38 #[.slice a n c, .int .i64 (k : Int)] w fun e w' => e = .returned (.int .i64 ((k + cntNodeS xs : Nat) : Int)) ∧ Below w.heap.size w w' := by
  rw [Lay.wt_list] at hk
  have e := h.lenL
  have hml : (mkNodeS k xs).length = xs.length := by rw [mkNodeS, mkL_length]
  rw [hml] at e
  subst e
  go_enter Try.func38, Try.ntmps38
  go_wp2
  go_loopw [1, 5] (fun sk i wr => ∃ j : Nat, j ≤ xs.length ∧ i = .int .i64 j ∧ sk = .int .i64 ((k + cntNodeS (xs.take j) : Nat) : Int) ∧ Below w.heap.size w wr) (fun _ i _ => xs.length - (intOf i).toNat)
  case atStart => exact ⟨0, Nat.zero_le _, rfl, by simp [cntNodeS, cntL], Below.refl _ _⟩
  case round =>
    obtain ⟨j, hj, rfl, rfl, hbel⟩ := hrel
    by_cases hlt : j < xs.length
    · have hjL : j < (mkNodeS k xs).length := by rw [hml]; exact hlt
      have HX : (mkNodeS k xs)[j] = mkNode (k + cntNodeS (xs.take j)) xs[j] := mkL_get cntNode mkNode hlt hjL
      obtain ⟨b1, o1, rfl, hb1, ⟨q0, q1, q2, q3⟩, a1, c1, q4, r1⟩ := (h.later hbel).atNode hjL
      rw [HX, mkNode_eq] at q0 q1 q2 q3 q4 r1
      simp only at q0 q1 q2 q3 q4 r1
      have HN : Hid (k + cntNodeS (xs.take (j + 1)) = k + cntNodeS (xs.take j) + 4 + cntIntS xs[j].kids) := by show _ = _; unfold cntNodeS; rw [cntL_take _ hlt]; unfold cntNode; omega
      have hle := cntNodeS_room hlt hk
      have hle2 := cntIntS_le xs[j].kids
      have X : Hid (Calls Try.prog 47 #[.slice a1 (mkIntS (k + cntNodeS (xs.take j) + 4) xs[j].kids).length c1, .int .i64 ((k + cntNodeS (xs.take j) + 4 : Nat) : Int)] wr fun e w' => e = .returned (.int .i64 ((k + cntNodeS (xs.take j) + 4 + cntIntS xs[j].kids : Nat) : Int)) ∧ Below wr.heap.size wr w') :=
        heldIntS_l xs[j].kids a1 _ c1 (k + cntNodeS (xs.take j) + 4) wr r1 (by rw [Lay_node_wt] at hle; omega)
      rw [Lay_node_wt] at hle
      clear h HX hjL r1
      generalize k + cntNodeS (xs.take j) = m at *
      generalize (mkIntS (m + 4) xs[j].kids).length = ml at *
      generalize cntIntS xs[j].kids = ck at *
      generalize (Lay.list Lay.int).wt xs[j].kids = wk at *
      go_wp2_with fail
      have ec : ((m : Int) + 1 + 1 + 1 + 1) = ((m + 4 : Nat) : Int) := by omega
      rw [ec]
      refine X.out.mono ?_
      rintro e w1 ⟨rfl, hb2⟩
      have B2 := hbel.trans (hb2.mono hbel.size)
      clear X hb2 q0 q1 q2 q3 q4
      go_wp2
      go_roundw
      case rel => exact ⟨j + 1, by omega, by go_num, by rw [HN.out]; simp, B2⟩
      case measure => simp [intOf]; omega
    · have e : j = xs.length := by omega
      subst e
      have HC : Hid (cntNodeS (xs.take xs.length) = cntNodeS xs) := by show _ = _; rw [List.take_length]
      clear h
      generalize cntNodeS (xs.take xs.length) = m at *
      go_wp2
      go_ret
      exact ⟨ret_int (by rw [HC.out]), hbel⟩

end Go.Proofs.Ythnppodnjokaoab
