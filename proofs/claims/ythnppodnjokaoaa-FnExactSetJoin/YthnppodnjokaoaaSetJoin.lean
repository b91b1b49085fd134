/-
  Contracts of SetJoin (the program's and the specification's) over this translation. No statement is proved here.
-/
import Derived.Test.YthnppodnjokaoaaSetAdd
namespace Go.Proofs.Ythnppodnjokaoaa
open Go.RowKit

theorem implSetJoin_any (b1 b2 : Nat) (u v : Value) (xs ys : List Int) (w : World) (h : OwnInts w b1 3 u xs) (g : OwnInts w b2 3 v ys) (hl : xs.length ≤ 1048576) (gl : ys.length ≤ 1048576) :
    Calls Try.prog 8 #[u, v] w fun e w' => ∃ v', e = .returned v' ∧ OwnInts w' w.heap.size 3 v' (joinL xs ys) ∧ Below w.heap.size w w' := by
  obtain ⟨a, c, rfl, hr, _⟩ := h.shape
  obtain ⟨a2, c2, rfl, gr, _⟩ := g.shape
  go_enter Try.func8, Try.ntmps8
  go_wp2_with fail
  refine (copyList_any _ _ xs _ hr (by omega)).mono ?_
  rintro e w1 ⟨v1, rfl, o1, hl1⟩
  go_wp2
  go_loopw [5, 12] (fun t i wr => ∃ k : Nat, k ≤ ys.length ∧ i = .int .i64 k ∧ OwnInts wr w.heap.size 3 t (joinL xs (ys.take k)) ∧ Below w.heap.size w wr) (fun _ i _ => ys.length - (intOf i).toNat)
  case atStart => exact ⟨0, Nat.zero_le _, rfl, by simpa [joinL] using o1, hl1⟩
  case round =>
    obtain ⟨k, hk, rfl, hown, hbel⟩ := hrel
    have hj := joinL_length_le xs (ys.take k)
    rw [List.length_take, Nat.min_eq_left hk] at hj
    by_cases hlt : k < ys.length
    · obtain ⟨b, o, rfl, hb, hc⟩ := gr.at hlt
      have hcx := (hbel.cell (p := ⟨b, o + k, none⟩) hb).trans (hc k hlt)
      go_wp2_with fail
      refine (implSetAdd_any _ _ _ _ _ hown (by omega)).mono ?_
      rintro e w2 ⟨v2, rfl, o2, hl2⟩
      go_wp2
      go_roundw
      case rel => exact ⟨k + 1, by omega, by go_num, by rw [← joinL_step hlt]; exact o2.base hbel.size, hbel.trans (hl2.mono hbel.size)⟩
      case measure => simp [intOf]; omega
    · go_wp2
      go_ret
      exact ⟨_, rfl, by rw [List.take_of_length_le (by omega)] at hown; exact hown, hbel⟩

theorem specSetJoin_r (a : Option Addr) (c : Nat) (a2 : Option Addr) (c2 : Nat) (xs ys : List Int) (w : World) (hr : Reads w a xs) (gr : Reads w a2 ys) (hl : xs.length ≤ 1048576) (gl : ys.length ≤ 1048576) :
    Calls Try.prog 9 #[.slice a xs.length c, .slice a2 ys.length c2] w fun e w' => ∃ v', e = .returned v' ∧ OwnInts w' w.heap.size 3 v' (joinL xs ys) ∧ Below w.heap.size w w' := by
  go_enter Try.func9, Try.ntmps9
  go_wp2_with (at_builtin; refine wpList_append_ints _ rfl (.tmp 7) (.tmp 8) 24 rfl w.heap.size 3 Try.underlying24 Try.infoInt _ [] rfl (OwnInts.empty (Nat.le_refl _)) _ _ _ xs rfl rfl (hr.below ((Below.refl _ _).alloc (Nat.le_refl _) _)) (by simp; omega) (by simp) ?_)
  intro v1 w1 o1 hg1
  have hl1 := ((Below.refl w.heap.size w).alloc (Nat.le_refl _) _).grown hg1 (by simp) (fun k hk => by cases hk; exact Nat.le_refl _)
  go_wp2
  go_loopw [5, 6] (fun t i wr => ∃ k : Nat, k ≤ ys.length ∧ i = .int .i64 k ∧ OwnInts wr w.heap.size 3 t (joinL xs (ys.take k)) ∧ Below w.heap.size w wr) (fun _ i _ => ys.length - (intOf i).toNat)
  case atStart => exact ⟨0, Nat.zero_le _, rfl, by simpa [joinL] using o1, hl1⟩
  case round =>
    obtain ⟨k, hk, rfl, hown, hbel⟩ := hrel
    have hj := joinL_length_le xs (ys.take k)
    rw [List.length_take, Nat.min_eq_left hk] at hj
    by_cases hlt : k < ys.length
    · obtain ⟨b, o, rfl, hb, hc⟩ := gr.at hlt
      have hcx := (hbel.cell (p := ⟨b, o + k, none⟩) hb).trans (hc k hlt)
      go_wp2_with fail
      refine (specSetAdd_any _ _ _ _ _ hown (by omega)).mono ?_
      rintro e w2 ⟨v2, rfl, o2, hl2⟩
      go_wp2
      go_roundw
      case rel => exact ⟨k + 1, by omega, by go_num, by rw [← joinL_step hlt]; exact o2.base hbel.size, hbel.trans (hl2.mono hbel.size)⟩
      case measure => simp [intOf]; omega
    · go_wp2
      go_ret
      exact ⟨_, rfl, by rw [List.take_of_length_le (by omega)] at hown; exact hown, hbel⟩

theorem specSetJoin_any (b1 b2 : Nat) (u v : Value) (xs ys : List Int) (w : World) (h : OwnInts w b1 3 u xs) (g : OwnInts w b2 3 v ys) (hl : xs.length ≤ 1048576) (gl : ys.length ≤ 1048576) :
    Calls Try.prog 9 #[u, v] w fun e w' => ∃ v', e = .returned v' ∧ OwnInts w' w.heap.size 3 v' (joinL xs ys) ∧ Below w.heap.size w w' := by
  obtain ⟨a, c, rfl, hr, _⟩ := h.shape
  obtain ⟨a2, c2, rfl, gr, _⟩ := g.shape
  exact specSetJoin_r a c a2 c2 xs ys w hr gr hl gl
end Go.Proofs.Ythnppodnjokaoaa
