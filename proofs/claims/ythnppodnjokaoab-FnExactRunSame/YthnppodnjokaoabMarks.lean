/-
  Contracts of the law package's markIntS and heldIntS over this translation. No statement is proved here.
-/
import Derived.Test.YthnppodnjokaoabOwn
import Derived.Test.YthnppodnjokaoabInts
namespace Go.Proofs.Ythnppodnjokaoab
open Go.RowKit

theorem markIntS_any (base : Nat) (v : Value) (xs : List Int) (k : Int) (w : World) (h : OwnInts w base 3 v xs) (hk : 0 ≤ k) (hk2 : k ≤ 1099511627776) (hl : xs.length ≤ 8388608) :
    Calls Try.prog 46 #[v, .int .i64 k] w fun e w' => e = .returned (.int .i64 (k + xs.length)) ∧ OwnInts w' base 3 v (marks k xs.length) ∧ w.grownBy w' v.ownBlock := by
  obtain ⟨a, cap, rfl, _, hg⟩ := h.shape
  go_enter Try.func46, Try.ntmps46
  go_wp2
  go_loopw [1, 5] (fun sk i wr => ∃ j : Nat, j ≤ xs.length ∧ i = .int .i64 j ∧ sk = .int .i64 (k + j) ∧ OwnInts wr base 3 (.slice a xs.length cap) (marks k j ++ xs.drop j) ∧ w.grownBy wr (Value.ownBlock (.slice a xs.length cap))) (fun _ i _ => xs.length - (intOf i).toNat)
  case atStart => exact ⟨0, Nat.zero_le _, rfl, by simp, by simpa [marks] using h, World.grownBy.refl _ _⟩
  case round =>
    obtain ⟨j, hj, rfl, rfl, hown, hgr⟩ := hrel
    by_cases hlt : j < xs.length
    · obtain ⟨g, rfl⟩ := hg (by intro e; simp [e] at hlt)
      obtain ⟨⟨u, hu⟩, hf⟩ := hown.at (step_length hj) j hlt
      have R := hown.store (step_length hj) j (k + j)
      clear hg
      go_wp2
      go_roundw
      case rel => exact ⟨j + 1, by omega, by go_num, by go_num, by rw [← set_step hlt]; exact R.1, grownBy_trans hgr R.2⟩
      case measure => simp [intOf]; omega
    · have e : j = xs.length := by omega
      go_wp2
      go_ret
      subst e
      exact ⟨rfl, by simpa using hown, hgr⟩

theorem heldIntS_any (a : Option Addr) (n c : Nat) (k : Int) (w : World) (h : Reads w a (marks k n)) (hk : 0 ≤ k) (hk2 : k ≤ 1099511627776) (hl : n ≤ 8388608) :
    Calls Try.prog 47 #[.slice a n c, .int .i64 k] w fun e w' => e = .returned (.int .i64 (k + n)) ∧ Below w.heap.size w w' := by
  go_enter Try.func47, Try.ntmps47
  go_wp2
  go_loop [1, 5] (fun sk i => ∃ j : Nat, j ≤ n ∧ i = .int .i64 j ∧ sk = .int .i64 (k + j)) (fun _ i => n - (intOf i).toNat)
  case atStart => exact ⟨0, Nat.zero_le _, rfl, by simp⟩
  case round =>
    obtain ⟨j, hj, rfl, rfl⟩ := hrel
    by_cases hlt : j < n
    · obtain ⟨b1, o1, rfl, hb1, hc1⟩ := h.at (i := j) (by rw [marks_length]; exact hlt)
      have hcx : w.cell? ⟨b1, o1 + j, none⟩ = some (.int .i64 (k + j)) := by
        rw [hc1 j (by rw [marks_length]; exact hlt), List.getD_eq_getElem?_getD, marks_get k n j hlt]; rfl
      clear h hc1
      go_wp2
      go_round
      case rel => exact ⟨j + 1, by omega, by go_num, by go_num⟩
      case measure => simp [intOf]; omega
    · have e : j = n := by omega
      go_wp2
      go_ret
      subst e
      exact ⟨rfl, Below.refl _ _⟩

theorem toIntS_own (a : Option Addr) (c : Nat) (zs : List Int) (w : World) (h : Reads w a zs) (hl : zs.length ≤ 1048576) :
    Calls Try.prog 52 #[.slice a zs.length c] w fun e w' => ∃ v, e = .returned v ∧ OwnInts w' w.heap.size 3 v zs ∧ Below w.heap.size w w' := by
  refine (toIntS_any a c zs w h hl).mono ?_
  rintro e w1 ⟨b, rfl, hb, hr, hl1⟩
  exact ⟨_, rfl, OwnInts.of_row hr hb (by unfold maxLen; omega), hl1⟩

theorem eqIntS_own (b1 b2 : Nat) (u v : Value) (xs ys : List Int) (w : World) (h : OwnInts w b1 3 u xs) (g : OwnInts w b2 3 v ys) (hl : xs.length ≤ 1048576 * 4) :
    Calls Try.prog 50 #[u, v] w fun e w' => e = .returned (.bool (eqL xs ys)) ∧ Below w.heap.size w w' := by
  obtain ⟨a, c, rfl, hr, _⟩ := h.shape
  obtain ⟨a2, c2, rfl, gr, _⟩ := g.shape
  exact eqIntS_any a a2 c c2 xs ys w hr gr hl

theorem heldIntS_own (base n : Nat) (v : Value) (k : Int) (w : World) (h : OwnInts w base 3 v (marks k n)) (hk : 0 ≤ k) (hk2 : k ≤ 1099511627776) (hl : n ≤ 8388608) :
    Calls Try.prog 47 #[v, .int .i64 k] w fun e w' => e = .returned (.int .i64 (k + n)) ∧ Below w.heap.size w w' := by
  obtain ⟨a, c, rfl, hr, _⟩ := h.shape
  rw [marks_length]
  exact heldIntS_any a n c k w hr hk hk2 hl
end Go.Proofs.Ythnppodnjokaoab
