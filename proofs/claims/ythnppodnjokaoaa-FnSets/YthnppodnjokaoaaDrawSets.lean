/-
  Contracts of the specification's draws of sets and pairs of lists over this translation: whatever the bytes, lists of a few integers, in memory of their own. No statement is proved here.
-/
import Derived.Test.YthnppodnjokaoaaCur
import Derived.Test.YthnppodnjokaoaaSetAdd
namespace Go.Proofs.Ythnppodnjokaoaa
open Go.RowKit

theorem l1Set_any (g : Nat) (w : World) (h : Cur w 43 g) :
    Calls Try.prog 23 #[.pointer (some ⟨g, 0, none⟩)] w fun e w' => ∃ v zs, e = .returned v ∧ zs.length ≤ 7 ∧ OwnInts w' w.heap.size 3 v zs ∧ Cur w' 43 g ∧ w.grownBy w' (some g) := by
  have hlt := h.lt
  have hB := (Below.refl w.heap.size w).alloc (Nat.le_refl _) (.cells #[] 3)
  have hO : OwnInts (w.alloc (.cells #[] 3)) w.heap.size 3 _ [] := OwnInts.empty (Nat.le_refl _)
  go_enter Try.func23, Try.ntmps23
  go_wp2_with fail
  refine (l1Below_any _ _ _ (h.below hB) (by omega) (by omega)).mono ?_
  rintro e w1 ⟨N, rfl, hN0, hN1, hc1, hg1⟩
  obtain ⟨n, rfl⟩ := Int.eq_ofNat_of_zero_le hN0
  have o1 := hO.step hg1 hlt
  have g1 := grownBy_trans (grownBy_of_below hB (some g)) hg1
  clear hO hB hg1
  go_wp2
  go_loopw [3, 5] (fun t i wr => ∃ (k : Nat) (zs : List Int), k ≤ n ∧ i = .int .i64 k ∧ zs.length ≤ k ∧ OwnInts wr w.heap.size 3 t zs ∧ Cur wr 43 g ∧ w.grownBy wr (some g)) (fun _ i _ => n - (intOf i).toNat)
  case atStart => exact ⟨0, [], Nat.zero_le _, rfl, Nat.le_refl _, o1, hc1, g1⟩
  case round =>
    obtain ⟨k, zs, hk, rfl, hz, hown, hcur, hgr⟩ := hrel
    clear hc1 o1 g1
    by_cases hkn : k < n
    · go_wp2_with fail
      refine (l1Below_any _ _ _ hcur (by omega) (by omega)).mono ?_
      rintro e w2 ⟨x, rfl, hx0, hx1, hc2, hg2⟩
      have o2 := hown.step hg2 hlt
      have g2 := grownBy_trans hgr hg2
      have l2 : OwnInts (w2.alloc (.cells #[.int .i64 x, .int .i64 (-3), .int .i64 9223372036854775807] 3)) w2.heap.size 3 (.slice (some ⟨w2.heap.size, 0, none⟩) 3 3) [x, -3, 9223372036854775807] := OwnInts.lit3 _ _ _ (Nat.le_refl _)
      have L2 : Hid (OwnInts (w2.alloc (.cells #[.int .i64 x, .int .i64 (-3), .int .i64 9223372036854775807] 3)) w2.heap.size 3 (.slice (some ⟨w2.heap.size, 0, none⟩) 3 3) [x, -3, 9223372036854775807]) := l2
      clear hown hcur hgr hg2 l2
      go_wp2_with fail
      have b2 := (Below.refl w2.heap.size w2).alloc (Nat.le_refl _) (.cells #[.int .i64 x, .int .i64 (-3), .int .i64 9223372036854775807] 3)
      refine (l1PickInt_any g _ _ [x, -3, 9223372036854775807] _ (hc2.below b2) (fun w' hg => (L2.out.step hg (Nat.lt_of_lt_of_le hlt g2.size)).reads) (by simp) (by simp)).mono ?_
      rintro e w3 ⟨y, rfl, _, hc3, hg3⟩
      have o3 := (o2.below b2).step hg3 hlt
      have g3 := grownBy_trans (grownBy_trans g2 (grownBy_of_below b2 (some g))) hg3
      clear L2 b2 hg3 o2 g2 hc2
      go_wp2_with fail
      refine (specSetAdd_any _ _ zs y _ o3 (by omega)).mono ?_
      rintro e w4 ⟨v4, rfl, o4, hl4⟩
      have hadd := addL_length_le zs y
      go_wp2
      go_roundw
      case rel => exact ⟨k + 1, addL zs y, by omega, by go_num, by omega, o4.base g3.size, hc3.below hl4, grownBy_trans g3 (grownBy_of_below hl4 (some g))⟩
      case measure => simp [intOf]; omega
    · go_wp2_with fail
      refine (l1Once_any _ _ _ hcur (by omega) (by omega)).mono ?_
      rintro e w2 ⟨b, rfl, hc2, hg2⟩
      have o2 := hown.step hg2 hlt
      have g2 := grownBy_trans hgr hg2
      clear hown hcur hgr hg2
      cases b
      · go_wp2
        go_ret
        exact ⟨_, zs, rfl, by omega, o2, hc2, g2⟩
      · go_wp2_with fail
        refine (l1Below_any _ _ _ hc2 (by omega) (by omega)).mono ?_
        rintro e w3 ⟨x, rfl, hx0, hx1, hc3, hg3⟩
        have o3 := o2.step hg3 hlt
        have g3 := grownBy_trans g2 hg3
        clear o2 hg3 hc2 g2
        go_wp2_with (at_builtin; refine wpList_append_ints _ rfl (.tmp 23) (.tmp 26) 24 rfl w.heap.size 3 Try.underlying24 Try.infoInt _ _ rfl (o3.alloc _) _ _ _ [x] rfl rfl (Reads.new _ _ _) (by simp; omega) (Nat.le_trans g3.size (by simp)) ?_)
        intro v5 w5 o5 g5
        have b3 := (Below.refl w3.heap.size w3).alloc (Nat.le_refl _) (.cells #[.int .i64 x] 3)
        have blk := o3.block
        have c5 := (hc3.below b3).grown g5 (fun k hk => Nat.lt_of_lt_of_le hlt (blk k hk).1)
        go_wp2
        go_ret
        refine ⟨_, _, rfl, ?_, o5, c5, ?_⟩
        · simp; omega
        · exact ⟨g5.os.trans g3.os, g5.tape.trans g3.tape, g5.output.trans g3.output, Nat.le_trans g3.size (Nat.le_trans (by simp) g5.size), fun k hk hne => (g5.block k (Nat.lt_of_lt_of_le hk (Nat.le_trans g3.size (by simp))) (fun e => by have := (blk k e.symm).1; omega)).trans ((b3.block k (Nat.lt_of_lt_of_le hk g3.size)).trans (g3.block k hk hne))⟩

theorem below_of_step {w w1 w2 : World} {g : Nat} (hb : Below w.heap.size w w1) (hg : w.heap.size ≤ g) (h : w1.grownBy w2 (some g)) : Below w.heap.size w w2 :=
  hb.grown h hb.size (fun k hk => by cases hk; exact hg)

theorem drawSetJoin_any (a : Option Addr) (c : Nat) (bs : List Int) (w : World) (hr : BReads w w.heap.size a bs) (hn : bs.length ≤ 1048576) :
    Calls Try.prog 7 #[.slice a bs.length c] w fun e w' => ∃ u v xs ys, e = .returned (.tuple #[u, v]) ∧ xs.length ≤ 7 ∧ ys.length ≤ 7 ∧ OwnInts w' w.heap.size 3 u xs ∧ OwnInts w' w.heap.size 3 v ys ∧ Below w.heap.size w w' := by
  go_enter Try.func7, Try.ntmps7
  go_wp2_with fail
  refine (l1New_any _ _ bs _ hr hn).mono ?_
  rintro e w1 ⟨g, rfl, hg, hc1, hl1⟩
  go_wp2_with fail
  refine (l1Set_any _ _ hc1).mono ?_
  rintro e w2 ⟨u, xs, rfl, hx, o2, hc2, hg2⟩
  have k2 := below_of_step hl1 hg hg2
  go_wp2_with fail
  refine (l1Set_any _ _ hc2).mono ?_
  rintro e w3 ⟨v, ys, rfl, hy, o3, hc3, hg3⟩
  have k3 := below_of_step k2 hg hg3
  have o2' := o2.step hg3 hc1.lt
  go_wp2
  go_ret2
  exact ⟨_, _, xs, ys, rfl, hx, hy, o2'.base hl1.size, o3.base k2.size, k3⟩

theorem drawListCmp_any (a : Option Addr) (c : Nat) (bs : List Int) (w : World) (hr : BReads w w.heap.size a bs) (hn : bs.length ≤ 1048576) :
    Calls Try.prog 11 #[.slice a bs.length c] w fun e w' => ∃ u v xs ys, e = .returned (.tuple #[u, v]) ∧ xs.length ≤ 8 ∧ ys.length ≤ 8 ∧ OwnInts w' w.heap.size 3 u xs ∧ OwnInts w' w.heap.size 3 v ys ∧ Below w.heap.size w w' := by
  go_enter Try.func11, Try.ntmps11
  go_wp2_with fail
  refine (l1New_any _ _ bs _ hr hn).mono ?_
  rintro e w1 ⟨g, rfl, hg, hc1, hl1⟩
  go_wp2_with fail
  refine (l1Set_any _ _ hc1).mono ?_
  rintro e w2 ⟨u, xs, rfl, hx, o2, hc2, hg2⟩
  have k2 := below_of_step hl1 hg hg2
  obtain ⟨ua, uc, rfl, _, _⟩ := o2.shape
  go_wp2_with fail
  refine (l1Once_any _ _ _ hc2 (by omega) (by omega)).mono ?_
  rintro e w3 ⟨b1, rfl, hc3, hg3⟩
  have k3 := below_of_step k2 hg hg3
  have o3 := o2.step hg3 hc1.lt
  cases b1
  · go_wp2_with fail
    refine (l1Once_any _ _ _ hc3 (by omega) (by omega)).mono ?_
    rintro e w4 ⟨b2, rfl, hc4, hg4⟩
    have k4 := below_of_step k3 hg hg4
    have o4 := o3.step hg4 hc1.lt
    clear o2 o3 hg2 hg3 hg4
    cases b2
    · go_wp2_with fail
      refine (l1Set_any _ _ hc4).mono ?_
      rintro e w5 ⟨v, ys, rfl, hy, o5, hc5, hg5⟩
      have k5 := below_of_step k4 hg hg5
      have o6 := o4.step hg5 hc1.lt
      go_wp2
      go_ret2
      exact ⟨_, _, xs, ys, rfl, by omega, by omega, o6.base hl1.size, o5.base k4.size, k5⟩
    · have b4 := (Below.refl w4.heap.size w4).alloc (Nat.le_refl _) (.cells #[] 3)
      go_wp2_with (at_builtin; refine wpList_append_ints _ rfl (.tmp 23) (.tmp 24) 24 rfl w4.heap.size 3 Try.underlying24 Try.infoInt _ [] rfl (OwnInts.empty (Nat.le_refl _)) _ _ _ xs rfl rfl (o4.below b4).reads (by simp; omega) (by simp) ?_)
      intro v5 w5 o5 g5
      have k5 := (k4.alloc k4.size (.cells #[] 3)).grown g5 (Nat.le_trans k4.size (by simp)) (fun k hk => by cases hk; exact k4.size)
      have o6 := o4.past b4 g5 (fun k hk => by cases hk; exact Nat.le_refl _)
      go_wp2
      go_ret2
      exact ⟨_, _, xs, xs, rfl, by omega, by omega, o6.base hl1.size, by simpa using o5.base k4.size, k5⟩
  · have b3 := (Below.refl w3.heap.size w3).alloc (Nat.le_refl _) (.cells #[] 3)
    have glt := Nat.lt_of_lt_of_le hc1.lt (Nat.le_trans hg2.size hg3.size)
    clear o2 hg2 hg3
    go_wp2_with (at_builtin; refine wpList_append_ints _ rfl (.tmp 13) (.tmp 14) 24 rfl w3.heap.size 3 Try.underlying24 Try.infoInt _ [] rfl (OwnInts.empty (Nat.le_refl _)) _ _ _ xs rfl rfl (o3.below b3).reads (by simp; omega) (by simp) ?_)
    intro v5 w5 o5 g5
    have k5 := (k3.alloc k3.size (.cells #[] 3)).grown g5 (Nat.le_trans k3.size (by simp)) (fun k hk => by cases hk; exact k3.size)
    have s5 := Nat.le_trans b3.size g5.size
    have o6 := o3.past b3 g5 (fun k hk => by cases hk; exact Nat.le_refl _)
    have c5 := (hc3.below b3).grown g5 (fun k hk => by cases hk; exact glt)
    have hap := (OwnInts.apart o3 o5 (Nat.le_refl _)).1
    have HAP : Hid (Value.ownBlock (.slice ua xs.length uc) = none ∨ Value.ownBlock (.slice ua xs.length uc) ≠ v5.ownBlock) := hap
    clear o3 hc3 g5 b3 hap
    go_wp2_with fail
    refine (l1Below_any _ _ _ c5 (by omega) (by omega)).mono ?_
    rintro e w7 ⟨x, rfl, hx0, hx1, hc7, hg7⟩
    have k7 := below_of_step k5 hg hg7
    have o7 := o5.step hg7 glt
    have p7 := o6.step hg7 hc1.lt
    have b7 := (Below.refl w7.heap.size w7).alloc (Nat.le_refl _) (.cells #[.int .i64 x] 3)
    have s7 := Nat.le_trans s5 hg7.size
    clear o5 o6 c5 hg7
    go_wp2_with (at_builtin; refine wpList_append_ints _ rfl (.tmp 15) (.tmp 18) 24 rfl w3.heap.size 3 Try.underlying24 Try.infoInt _ _ rfl (o7.alloc _) _ _ _ [x] rfl rfl (Reads.new _ _ _) (by simp; omega) (Nat.le_trans s7 (by simp)) ?_)
    intro v8 w8 o8 g8
    have k8 := (k7.alloc k7.size (.cells #[.int .i64 x] 3)).grown g8 (Nat.le_trans k7.size (by simp)) (fun k hk => Nat.le_trans k3.size (o7.block k hk).1)
    have p8 := (p7.alloc _).kept g8 HAP.out
    go_wp2
    go_ret2
    refine ⟨_, _, xs, _, rfl, by omega, ?_, p8.base hl1.size, o8.base k3.size, k8⟩
    simp; omega
end Go.Proofs.Ythnppodnjokaoaa
