/-
  Contracts of the project's meaning of an expression, and of its writer's String, sign, row and write, over this translation. No statement is proved here.
-/
import Derived.Test.YtkbnafmkgiknbacWriter
namespace Go.Proofs.Ytkbnafmkgiknbac
open Go.RowKit

set_option maxRecDepth 100000 in
theorem meaning_text (x : Ex) (a : Option Addr) (c : Nat) (W0 w : World) (h01 : x.kind = 0 ∨ x.kind = 1) :
    Calls Try.prog 47 #[.agg #[.int .i64 x.kind, .string x.text, .slice a x.kids.length c]] w fun e w' => ∃ m : Mv, e = .returned m.val ∧ Means W0 m x ∧ Below w.heap.size w w' := by
  have E : Hid (x.str = x.text.data.toList) := str_text h01
  have B0 := (Below.refl w.heap.size w).alloc (Nat.le_refl _) (.cells #[.int .i64 x.kind, .string x.text, .slice a x.kids.length c] 42)
  rcases h01 with h01 | h01
  · rw [h01] at B0 ⊢
    go_enter Try.func47, Try.ntmps47
    go_wp2
    go_ret
    exact ⟨.text 116 x.text, rfl, ⟨.inl rfl, E.out⟩, B0⟩
  · rw [h01] at B0 ⊢
    go_enter Try.func47, Try.ntmps47
    go_wp2
    go_ret
    exact ⟨.text 117 x.text, rfl, ⟨.inr rfl, E.out⟩, B0⟩

set_option maxRecDepth 100000 in
theorem meaning_row (x : Ex) (a : Option Addr) (c : Nat) (W0 w : World) (h : RD W0 (.slice a x.kids.length c) (exD x.kids)) (h23 : x.kind = 2 ∨ x.kind = 3) :
    Calls Try.prog 47 #[.agg #[.int .i64 x.kind, .string x.text, .slice a x.kids.length c]] w fun e w' => ∃ m : Mv, e = .returned m.val ∧ Means W0 m x ∧ Below w.heap.size w w' := by
  have B0 := (Below.refl w.heap.size w).alloc (Nat.le_refl _) (.cells #[.int .i64 x.kind, .string x.text, .slice a x.kids.length c] 42)
  have H : Hid (RD W0 (.slice a x.kids.length c) (exD x.kids)) := h
  have HK : Hid (x.kind = 2 ∨ x.kind = 3) := h23
  clear h
  rcases h23 with h23 | h23
  · rw [h23] at B0 ⊢
    go_enter Try.func47, Try.ntmps47
    go_wp2
    go_ret
    exact ⟨.row 119 a x.kids.length c, rfl, ⟨.inl ⟨rfl, h23⟩, rfl, H.out⟩, B0⟩
  · rw [h23] at B0 ⊢
    go_enter Try.func47, Try.ntmps47
    go_wp2
    go_ret
    exact ⟨.row 120 a x.kids.length c, rfl, ⟨.inr ⟨rfl, h23⟩, rfl, H.out⟩, B0⟩

set_option maxRecDepth 100000 in
theorem meaning_none (x : Ex) (a : Option Addr) (c : Nat) (W0 w : World) (h01 : ¬ (x.kind = 0 ∨ x.kind = 1)) (h23 : ¬ (x.kind = 2 ∨ x.kind = 3)) (h46 : ¬ ((x.kind = 4 ∨ x.kind = 5 ∨ x.kind = 6) ∧ x.kids.length = 1)) :
    Calls Try.prog 47 #[.agg #[.int .i64 x.kind, .string x.text, .slice a x.kids.length c]] w fun e w' => ∃ m : Mv, e = .returned m.val ∧ Means W0 m x ∧ Below w.heap.size w w' := by
  have B0 := (Below.refl w.heap.size w).alloc (Nat.le_refl _) (.cells #[.int .i64 x.kind, .string x.text, .slice a x.kids.length c] 42)
  have e0 : (x.kind == 0) = false := by simp; omega
  have e1 : (x.kind == 1) = false := by simp; omega
  have e2 : (x.kind == 2) = false := by simp; omega
  have e3 : (x.kind == 3) = false := by simp; omega
  have E : Hid (x.str = []) := str_none (by omega)
  by_cases el : x.kids.length = 1
  · have e4 : (x.kind == 4) = false := by simp; omega
    have e5 : (x.kind == 5) = false := by simp; omega
    have e6 : (x.kind == 6) = false := by simp; omega
    clear h01 h23 h46
    rw [el] at B0 ⊢
    go_enter Try.func47, Try.ntmps47
    go_wp2
    go_ret
    exact ⟨.nil, rfl, E.out, B0⟩
  · have el2 : ((x.kids.length : Int) != 1) = true := by simp; omega
    clear h01 h23 h46
    go_enter Try.func47, Try.ntmps47
    go_wp2
    go_ret
    exact ⟨.nil, rfl, E.out, B0⟩

set_option maxRecDepth 100000 in
theorem meaning_sign (x : Ex) (a : Option Addr) (c : Nat) (W0 w : World) (h : RD W0 (.slice a x.kids.length c) (exD x.kids)) (hb : Below W0.heap.size W0 w) (h46 : x.kind = 4 ∨ x.kind = 5 ∨ x.kind = 6) (h1 : x.kids.length = 1) :
    Calls Try.prog 47 #[.agg #[.int .i64 x.kind, .string x.text, .slice a x.kids.length c]] w fun e w' => ∃ m : Mv, e = .returned m.val ∧ Means W0 m x ∧ Below w.heap.size w w' := by
  have B0 := (Below.refl w.heap.size w).alloc (Nat.le_refl _) (.cells #[.int .i64 x.kind, .string x.text, .slice a x.kids.length c] 42)
  obtain ⟨y, hy⟩ := List.length_eq_one_iff.1 h1
  have h0 : 0 < x.kids.length := by omega
  have hy0 : x.kids[0]'h0 = y := by simp [hy]
  obtain ⟨b1, o1, rfl, hb1, q0, q1, a1, c1, q2, r1⟩ := h.ex h0
  rw [hy0] at q0 q1 q2 r1
  have s0 := (hb.cell (p := ⟨b1, o1 + 0 * 3, none⟩) hb1).trans q0
  have s1 := (hb.cell (p := ⟨b1, o1 + 0 * 3 + 1, none⟩) hb1).trans q1
  have s2 := (hb.cell (p := ⟨b1, o1 + 0 * 3 + 2, none⟩) hb1).trans q2
  have hlt : b1 < w.heap.size := Nat.lt_of_lt_of_le hb1 hb.size
  have hne : b1 ≠ w.heap.size := by omega
  simp only [Nat.zero_mul, Nat.add_zero] at s0 s1 s2
  have M : ∀ ty, (ty = 122 ∧ x.kind = 4 ∨ ty = 123 ∧ x.kind = 5 ∨ ty = 124 ∧ x.kind = 6) → Means W0 (.sign ty y.kind y.text a1 y.kids.length c1) x := fun ty hty => ⟨hty, y, hy, rfl, rfl, rfl, r1⟩
  have HM : Hid (∀ ty, (ty = 122 ∧ x.kind = 4 ∨ ty = 123 ∧ x.kind = 5 ∨ ty = 124 ∧ x.kind = 6) → Means W0 (.sign ty y.kind y.text a1 y.kids.length c1) x) := M
  clear M h r1 q0 q1 q2 hy0 hy h0 hb
  rw [h1] at B0 ⊢
  rcases h46 with h4 | h4 | h4
  all_goals
    rw [h4] at B0 ⊢
    go_enter Try.func47, Try.ntmps47
    go_wp2
    go_ret
  · exact ⟨.sign 122 y.kind y.text a1 y.kids.length c1, rfl, HM.out _ (.inl ⟨rfl, h4⟩), B0⟩
  · exact ⟨.sign 123 y.kind y.text a1 y.kids.length c1, rfl, HM.out _ (.inr (.inl ⟨rfl, h4⟩)), B0⟩
  · exact ⟨.sign 124 y.kind y.text a1 y.kids.length c1, rfl, HM.out _ (.inr (.inr ⟨rfl, h4⟩)), B0⟩

theorem meaning_any (x : Ex) (a : Option Addr) (c : Nat) (W0 w : World) (h : RD W0 (.slice a x.kids.length c) (exD x.kids)) (hb : Below W0.heap.size W0 w) :
    Calls Try.prog 47 #[.agg #[.int .i64 x.kind, .string x.text, .slice a x.kids.length c]] w fun e w' => ∃ m : Mv, e = .returned m.val ∧ Means W0 m x ∧ Below w.heap.size w w' := by
  by_cases h01 : x.kind = 0 ∨ x.kind = 1
  · exact meaning_text x a c W0 w h01
  · by_cases h23 : x.kind = 2 ∨ x.kind = 3
    · exact meaning_row x a c W0 w h h23
    · by_cases h46 : (x.kind = 4 ∨ x.kind = 5 ∨ x.kind = 6) ∧ x.kids.length = 1
      · exact meaning_sign x a c W0 w h hb h46.1 h46.2
      · exact meaning_none x a c W0 w h01 h23 h46

theorem Try.cellsByte : Try.prog.cellsOf 5 = 1 := by kernel_rfl
theorem Try.mixed : Try.prog.follows Departure.mixedOrders = true := by kernel_rfl
set_option maxHeartbeats 2000000 in
set_option maxRecDepth 100000 in
theorem stringW (B b : Nat) (bs : List UInt8) (t : Value) (w : World) (h : WB w B b bs t) :
    Calls Try.prog 30 #[.pointer (some ⟨b, 0, none⟩)] w fun e w' => e = .returned (.string ⟨bs.toArray⟩) ∧ Below B w w' := by
  have mixed := Try.mixed
  obtain ⟨hB, p, v, hp, hbk, hown, h0⟩ := h
  by_cases hbs : bs = []
  · have hv := h0 hbs
    subst hv
    subst hbs
    have hUS := fun (W : World) (q : Option Addr) => Lib.run_unsafeString_none (P := Try.prog) W 105 3 9 q
    have c1 : w.drew.cell? ⟨b, 1, none⟩ = some (.slice none 0 0) := by
      have : w.drew.heap[b]? = some (.cells #[p, .slice none 0 0, t] 92 (0, 0)) := hbk
      rw [Lib.cell_of_heap this]; rfl
    have hSD : (Builtin.unsafeSliceData_ #[57] 105 #[.slice none 0 0]).run Try.prog w.drew = .ok (.pointer none) w.drew := rfl
    clear hbk hown h0 hp
    go_enter Try.func30, Try.ntmps30
    go_wp2
    go_region_o
    all_goals (go_wp2; go_ret; exact ⟨rfl, Below.drew (Below.refl B w)⟩)
  · have hl0 : bs.length ≠ 0 := by simpa using hbs
    obtain ⟨g, cap, cur, fz, rfl, hbg, hg, hfz, hnc, hcm, hcs, htake⟩ : ∃ g cap cur fz, v = .slice (some ⟨g, 0, none⟩) bs.length cap ∧ B ≤ g ∧ w.heap[g]? = some (.cells cur 5 fz) ∧ fz.2 ≤ bs.length * 1 ∧ bs.length ≤ cap ∧ cap ≤ maxLen ∧ cur.size = cap * 1 ∧ cur.toList.take (bs.length * 1) = Lib.byteCells bs := by
      rcases hown.2 with ⟨_, hz⟩ | ⟨g, cap, cur, fz, hv, r⟩
      · exact absurd hz hl0
      · exact ⟨g, cap, cur, fz, hv, r⟩
    have c1 : w.drew.cell? ⟨b, 1, none⟩ = some (.slice (some ⟨g, 0, none⟩) bs.length cap) := by
      have : w.drew.heap[b]? = some (.cells #[p, .slice (some ⟨g, 0, none⟩) bs.length cap, t] 92 (0, 0)) := hbk
      rw [Lib.cell_of_heap this]; rfl
    have hSD : (Builtin.unsafeSliceData_ #[57] 105 #[.slice (some ⟨g, 0, none⟩) bs.length cap]).run Try.prog w.drew = .ok (.pointer (some ⟨g, 0, none⟩)) w.drew :=
      Lib.run_unsafeSliceData_row _ _ _ _ _ _ (by omega)
    have hUS : (Builtin.unsafeString_ #[105, 3] 9 #[.pointer (some ⟨g, 0, none⟩), .int .i64 bs.length]).run Try.prog w.drew = .ok (.string ⟨bs.toArray⟩) (w.drew.freeze ⟨g, 0, none⟩ bs.length) := by
      refine Lib.run_unsafeString_row w.drew 105 3 9 5 Try.underlying105 Try.cellsByte g cur.size (by have hg' : w.drew.heap[g]? = some (.cells cur 5 fz) := hg; simp [World.shape?, hg']) bs hbs (by omega) (by unfold maxLen at hcm; omega) ?_
      intro j x hx
      exact hown.cells (g := g) rfl j (.int .u8 x.toNat) (by simp [Lib.byteCells, hx])
    clear hbk hown h0 hp hg hfz hnc hcm hcs htake
    go_enter Try.func30, Try.ntmps30
    go_wp2
    go_region_o
    all_goals (go_wp2; go_ret; exact ⟨rfl, Lib.below_freeze (Below.drew (Below.refl B w)) (p := ⟨g, 0, none⟩) hbg _⟩)
end Go.Proofs.Ytkbnafmkgiknbac
