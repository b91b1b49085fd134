/-
  Contracts of the law package's helpers on expressions and rules (eqExpr, eqExprS) over this translation. No statement is proved here.
-/
import Derived.Test.YtkbnafmkgiknbacExTree
import Derived.Test.YtkbnafmkgiknbacChecked
import Derived.Deep.RegionWith
namespace Go.Proofs.Ytkbnafmkgiknbac
open Go.RowKit

theorem eqExpr_step (kd : Int) (tx : ByteArray) (n : Nat) (a b : Option Addr) (c d : Nat) (w : World)
    (IH : ∀ W : World, Below w.heap.size w W → Calls Try.prog 49 #[.slice a n c, .slice b n d] W fun e w' => e = .returned (.bool true) ∧ Below W.heap.size W w') :
    Calls Try.prog 21 #[.agg #[.int .i64 kd, .string tx, .slice a n c], .agg #[.int .i64 kd, .string tx, .slice b n d]] w fun e w' => e = .returned (.bool true) ∧ Below w.heap.size w w' := by
  go_enter Try.func21, Try.ntmps21
  have B := ((Below.refl w.heap.size w).alloc (Nat.le_refl _) (.cells #[.int .i64 kd, .string tx, .slice a n c] 42)).alloc (by simp) (.cells #[.int .i64 kd, .string tx, .slice b n d] 42)
  go_wp2_with fail
  refine (IH _ B).mono ?_
  rintro e w1 ⟨rfl, hb⟩
  go_wp2
  go_ret
  exact ⟨rfl, B.trans (hb.mono B.size)⟩

theorem eqExprS_same : ∀ (N : Nat) (xs : List Ex), Ex.nodesL xs ≤ N → ∀ (a b : Option Addr) (c d : Nat) (w : World), RD w (.slice a xs.length c) (exD xs) → RD w (.slice b xs.length d) (exD xs) → xs.length ≤ 1099511627776 →
    Ex.nodesL xs ≤ 1099511627776 →
    Calls Try.prog 49 #[.slice a xs.length c, .slice b xs.length d] w fun e w' => e = .returned (.bool true) ∧ Below w.heap.size w w' := by
  intro N
  induction N with
  | zero =>
    intro xs hN a b c d w h g hl hn
    have : xs.length = 0 := by have := Ex.length_le xs; omega
    have e : xs = [] := List.eq_nil_of_length_eq_zero this
    subst e
    go_enter Try.func49, Try.ntmps49
    go_wp2
    go_loopw [5] (fun i wr => i = .int .i64 0 ∧ wr = w) (fun _ _ => 0)
    case atStart => exact ⟨rfl, rfl⟩
    case round =>
      obtain ⟨rfl, rfl⟩ := hrel
      go_wp2
      go_ret
      exact ⟨rfl, Below.refl _ _⟩
  | succ N ih =>
    intro xs hN a b c d w h g hl hn
    go_enter Try.func49, Try.ntmps49
    go_wp2
    go_loopw [5] (fun i wr => ∃ k : Nat, k ≤ xs.length ∧ i = .int .i64 k ∧ Below w.heap.size w wr) (fun i _ => xs.length - (intOf i).toNat)
    case atStart => exact ⟨0, Nat.zero_le _, rfl, Below.refl _ _⟩
    case round =>
      obtain ⟨k, hk, rfl, hbel⟩ := hrel
      by_cases hlt : k < xs.length
      · obtain ⟨b1, o1, rfl, hb1, q0, q1, a1, c1, q2, r1⟩ := (h.later hbel).ex hlt
        obtain ⟨b2, o2, rfl, hb2, p0, p1, a2, c2, p2, r2⟩ := (g.later hbel).ex hlt
        have hk2 := Ex.kids_lt hlt
        have hk3 := Ex.length_le xs[k].kids
        have IH : Hid (∀ W : World, Below wr.heap.size wr W → Calls Try.prog 49 #[.slice a1 xs[k].kids.length c1, .slice a2 xs[k].kids.length c2] W fun e w' => e = .returned (.bool true) ∧ Below W.heap.size W w') :=
          fun W hW => ih xs[k].kids (by omega) a1 a2 c1 c2 W (r1.later hW) (r2.later hW) (by omega) (by omega)
        clear ih h g r1 r2
        generalize xs[k].kids = ks at *
        generalize xs[k].kind = kd at *
        generalize xs[k].text = tx at *
        have X : Hid (Calls Try.prog 21 #[.agg #[.int .i64 kd, .string tx, .slice a1 ks.length c1], .agg #[.int .i64 kd, .string tx, .slice a2 ks.length c2]] wr.drew fun e w' => e = .returned (.bool true) ∧ Below wr.heap.size wr w') :=
          (eqExpr_step kd tx ks.length a1 a2 c1 c2 wr.drew (fun W hW => IH.out W ⟨hW.os, hW.tape, hW.output, hW.size, hW.block⟩)).mono fun e w' h => ⟨h.1, ⟨h.2.os, h.2.tape, h.2.output, h.2.size, h.2.block⟩⟩
        clear IH
        go_wp2
        go_region_with (go_at_call 21; refine X.out.mono ?_; rintro e w1 ⟨rfl, hl1⟩)
        all_goals
          go_wp2
          go_roundw
          case rel => exact ⟨k + 1, by omega, by go_num, hbel.trans (hl1.mono hbel.size)⟩
          case measure => simp [intOf]; omega
      · go_wp2
        go_ret
        exact ⟨rfl, hbel⟩
end Go.Proofs.Ytkbnafmkgiknbac
