/-
  Contracts of SetAdd (the program's, with copyList and placeFor under it, and the specification's) over this translation. No statement is proved here.
-/
import Derived.Test.YthnppodnjokaoaaSetHas
import Derived.Test.YthnppodnjokaoaaOwn
namespace Go.Proofs.Ythnppodnjokaoaa
open Go.RowKit

theorem placeFor_any (a : Option Addr) (c : Nat) (zs : List Int) (x : Int) (w : World) (h : Reads w a zs) (hl : zs.length ≤ 1048576 * 4) :
    Calls Try.prog 31 #[.slice a zs.length c, .int .i64 x] w fun e w' => e = .returned (.int .i64 (placeL zs x)) ∧ Below w.heap.size w w' := by
  go_enter Try.func31, Try.ntmps31
  go_wp2
  go_loop [9] (fun i => ∃ k : Nat, k ≤ zs.length ∧ i = .int .i64 k ∧ Hid (placeL zs x = placeFrom zs x k)) (fun i => zs.length - (intOf i).toNat)
  case atStart => exact ⟨0, Nat.zero_le _, rfl, (placeFrom_zero zs x).symm⟩
  case round =>
    obtain ⟨k, hk, rfl, HP⟩ := hrel
    by_cases hlt : k < zs.length
    · obtain ⟨b1, o1, rfl, hb1, hc1⟩ := h.at hlt
      have hcx := hc1 k hlt
      go_wp2
      · go_ret
        exact ⟨ret_int (by rw [HP.out, placeFrom_yes hlt ‹_›]), Below.refl _ _⟩
      · go_round
        case rel => exact ⟨k + 1, by omega, by go_num, HP.out.trans (placeFrom_no hlt (Int.not_lt.2 ‹_›))⟩
        case measure => simp [intOf]; omega
    · have e : k = zs.length := by omega
      have E : Hid (k = zs.length) := e
      clear e
      go_wp2
      go_ret
      exact ⟨ret_int (by rw [HP.out, E.out, placeFrom_end]), Below.refl _ _⟩

theorem copyList_any (a : Option Addr) (c : Nat) (zs : List Int) (w : World) (h : Reads w a zs) (hl : zs.length ≤ 1048576 * 4) :
    Calls Try.prog 24 #[.slice a zs.length c] w fun e w' => ∃ v, e = .returned v ∧ OwnInts w' w.heap.size 3 v zs ∧ Below w.heap.size w w' := by
  go_enter Try.func24, Try.ntmps24
  go_wp2_with (at_builtin; refine wpList_append_ints _ rfl _ _ 24 rfl w.heap.size 3 Try.underlying24 Try.infoInt _ [] rfl (OwnInts.nil _ _ _) _ _ _ zs rfl rfl h (by simp; omega) (Nat.le_refl _) ?_)
  intro v w1 hown hgr
  go_wp2
  go_ret
  exact ⟨v, rfl, by simpa using hown, (Below.refl _ _).grown hgr (Nat.le_refl _) (fun k hk => by cases hk)⟩

theorem implSetAdd_any (base : Nat) (v : Value) (zs : List Int) (x : Int) (w : World) (h : OwnInts w base 3 v zs) (hl : zs.length ≤ 1048576 * 3) :
    Calls Try.prog 18 #[v, .int .i64 x] w fun e w' => ∃ v', e = .returned v' ∧ OwnInts w' w.heap.size 3 v' (addL zs x) ∧ Below w.heap.size w w' := by
  cases hh : hasL zs x
  · have hp := placeL_le zs x
    rcases h.parts with ⟨rfl, rfl⟩ | ⟨g, cap, rfl, hnc, hcm, hgw, hcell⟩
    · have hr : Reads w none [] := .inl rfl
      go_enter Try.func18, Try.ntmps18
      go_wp2_with fail
      refine (implSetHas_any _ _ [] x _ hr (by simp)).mono ?_
      rintro e w1 ⟨rfl, hl1⟩
      rw [hh]
      go_wp2_with fail
      refine (placeFor_any _ _ [] x _ (hr.below hl1) (by simp)).mono ?_
      rintro e w2 ⟨rfl, hl2⟩
      have k2 := hl1.trans (hl2.mono hl1.size)
      rw [show placeL [] x = 0 from rfl]
      go_wp2_with (at_make; refine wpList_make_ints _ rfl _ _ 24 rfl w.heap.size 3 Try.underlying24 Try.infoInt _ 1 rfl rfl (by simp) (by omega) k2.size ?_)
      intro v3 w3 hown3 hgr3
      have k3 := k2.grown hgr3 k2.size (fun k hk => by cases hk)
      go_wp2_with (at_builtin; refine wpList_append_ints _ rfl (.tmp 19) (.tmp 22) 24 rfl w.heap.size 3 Try.underlying24 Try.infoInt _ [] rfl hown3 _ _ _ [] rfl rfl (.inl rfl) (by simp) k3.size ?_)
      intro v4 w4 hown4 hgr4
      have k4 := k3.grown hgr4 k3.size (fun k hk => (hown3.block k hk).1)
      go_wp2_with (at_builtin; refine wpList_append_ints _ rfl (.tmp 24) (.tmp 26) 24 rfl w.heap.size 3 Try.underlying24 Try.infoInt _ _ rfl (hown4.alloc _) _ _ _ [x] rfl rfl (Reads.new _ _ _) (by simp) (Nat.le_trans k4.size (by simp)) ?_)
      intro v5 w5 hown5 hgr5
      have k5 := (k4.alloc k4.size _).grown hgr5 (Nat.le_trans k4.size (by simp)) (fun k hk => (hown4.block k hk).1)
      go_wp2_with (at_builtin; refine wpList_append_ints _ rfl (.tmp 28) (.tmp 31) 24 rfl w.heap.size 3 Try.underlying24 Try.infoInt _ _ rfl hown5 _ _ _ [] rfl rfl (.inl rfl) (by simp) k5.size ?_)
      intro v6 w6 hown6 hgr6
      have k6 := k5.grown hgr6 k5.size (fun k hk => (hown5.block k hk).1)
      go_wp2
      go_ret
      refine ⟨v6, rfl, ?_, k6⟩
      rw [addL_no hh]
      exact hown6
    · obtain ⟨p, hP⟩ : ∃ p, placeL zs x = p := ⟨_, rfl⟩
      have HP : Hid (placeL zs x = p) := hP
      rw [hP] at hp
      have hr : Reads w (some ⟨g, 0, none⟩) zs := .inr ⟨g, 0, rfl, hgw, fun i hi => by simpa using hcell i hi⟩
      unfold maxLen at hcm
      clear hP
      go_enter Try.func18, Try.ntmps18
      go_wp2_with fail
      refine (implSetHas_any _ _ zs x _ hr (by omega)).mono ?_
      rintro e w1 ⟨rfl, hl1⟩
      rw [hh]
      go_wp2_with fail
      refine (placeFor_any _ _ zs x _ (hr.below hl1) (by omega)).mono ?_
      rintro e w2 ⟨rfl, hl2⟩
      rw [HP.out]
      have k2 := hl1.trans (hl2.mono hl1.size)
      go_wp2_with (at_make; refine wpList_make_ints _ rfl _ _ 24 rfl w.heap.size 3 Try.underlying24 Try.infoInt _ (zs.length + 1) rfl rfl (by simp) (by omega) k2.size ?_)
      intro v3 w3 hown3 hgr3
      have k3 := k2.grown hgr3 k2.size (fun k hk => by cases hk)
      go_wp2_with (at_builtin; refine wpList_append_ints _ rfl (.tmp 19) (.tmp 22) 24 rfl w.heap.size 3 Try.underlying24 Try.infoInt _ [] rfl hown3 _ _ _ (zs.take p) rfl (by simp; omega) ((hr.below k3).take p) (by simp; omega) k3.size ?_)
      intro v4 w4 hown4 hgr4
      have k4 := k3.grown hgr4 k3.size (fun k hk => (hown3.block k hk).1)
      go_wp2_with (at_builtin; refine wpList_append_ints _ rfl (.tmp 24) (.tmp 26) 24 rfl w.heap.size 3 Try.underlying24 Try.infoInt _ _ rfl (hown4.alloc _) _ _ _ [x] rfl rfl (Reads.new _ _ _) (by simp; omega) (Nat.le_trans k4.size (by simp)) ?_)
      intro v5 w5 hown5 hgr5
      have k5 := (k4.alloc k4.size _).grown hgr5 (Nat.le_trans k4.size (by simp)) (fun k hk => (hown4.block k hk).1)
      have c5 : ∀ i, i < zs.length → w5.cell? ⟨g, i, none⟩ = some (.int .i64 (zs.getD i 0)) := fun i hi => (k5.cell (p := ⟨g, i, none⟩) hgw).trans (hcell i hi)
      have C5 : Hid (∀ i, i < zs.length → w5.cell? ⟨g, i, none⟩ = some (.int .i64 (zs.getD i 0))) := c5
      clear c5 hcell
      have gw5 := Nat.lt_of_lt_of_le hgw k5.size
      have hlen5 : (zs.take p ++ [x]).length + (zs.drop p).length ≤ 1099511627776 := by simp; omega
      go_wp2_with (at_builtin; refine wpList_append_ints _ rfl (.tmp 28) (.tmp 31) 24 rfl w.heap.size 3 Try.underlying24 Try.infoInt _ _ rfl hown5 _ _ _ (zs.drop p) rfl (by simp) (Reads.drop gw5 C5.out (by intro hk; first | rfl | rw [if_neg (by omega)] | (exfalso; omega))) hlen5 k5.size ?_)
      all_goals
        intro v6 w6 hown6 hgr6
        have k6 := k5.grown hgr6 k5.size (fun k hk => (hown5.block k hk).1)
        go_wp2
        go_ret
        refine ⟨v6, rfl, ?_, k6⟩
        rw [addL_no hh, HP.out]
        simpa using hown6
  · obtain ⟨a, cap, rfl, hr, hg⟩ := h.shape
    go_enter Try.func18, Try.ntmps18
    go_wp2_with fail
    refine (implSetHas_any _ _ zs x _ hr (by omega)).mono ?_
    rintro e w1 ⟨rfl, hl1⟩
    rw [hh]
    go_wp2_with fail
    refine (copyList_any _ _ zs _ (hr.below hl1) (by omega)).mono ?_
    rintro e w2 ⟨v2, rfl, hown2, hl2⟩
    go_wp2
    go_ret
    rw [addL_yes hh]
    exact ⟨v2, rfl, hown2.base hl1.size, hl1.trans (hl2.mono hl1.size)⟩

/-- A slice of integers, nil or a whole block's beginning, with its room. -/
def PartsI (w : World) (v : Value) (xs : List Int) : Prop :=
  (v = .slice none 0 0 ∧ xs = []) ∨ ∃ g cap, v = .slice (some ⟨g, 0, none⟩) xs.length cap ∧ xs.length ≤ cap ∧ cap ≤ maxLen ∧ g < w.heap.size ∧ ∀ i, i < xs.length → w.cell? ⟨g, i, none⟩ = some (.int .i64 (xs.getD i 0))
theorem PartsI.shape {w : World} {v : Value} {xs : List Int} (h : PartsI w v xs) : ∃ a cap, v = .slice a xs.length cap ∧ Reads w a xs := by
  rcases h with ⟨rfl, rfl⟩ | ⟨g, cap, rfl, _, _, hg, hc⟩
  · exact ⟨none, 0, rfl, .inl rfl⟩
  · exact ⟨_, cap, rfl, .inr ⟨g, 0, rfl, hg, fun i hi => by simpa using hc i hi⟩⟩

theorem specSetAdd_p (v : Value) (zs : List Int) (x : Int) (w : World) (h : PartsI w v zs) (hl : zs.length ≤ 1048576 * 3) :
    Calls Try.prog 16 #[v, .int .i64 x] w fun e w' => ∃ v', e = .returned v' ∧ OwnInts w' w.heap.size 3 v' (addL zs x) ∧ Below w.heap.size w w' := by
  cases hh : hasL zs x
  · have hp := placeL_le zs x
    rcases h with ⟨rfl, rfl⟩ | ⟨g, cap, rfl, hnc, hcm, hgw, hcell⟩
    · have hr : Reads w none [] := .inl rfl
      go_enter Try.func16, Try.ntmps16
      go_wp2_with fail
      refine (specSetHas_any _ _ [] x _ hr (by simp)).mono ?_
      rintro e w1 ⟨rfl, hl1⟩
      rw [hh]
      go_wp2
      refine wp_loop_rounds 1 ?_
      rw [rounds_succ]
      go_wp2_with (at_builtin; refine wpList_append_ints _ rfl (.tmp 30) (.tmp 33) 24 rfl w.heap.size 3 Try.underlying24 Try.infoInt _ [] rfl (OwnInts.empty hl1.size) _ _ _ [] rfl rfl (.inl rfl) (by simp) (Nat.le_trans hl1.size (by simp)) ?_)
      intro v4 w4 hown4 hgr4
      have k4 := (hl1.alloc hl1.size _).grown hgr4 (Nat.le_trans hl1.size (by simp)) (fun k hk => by cases hk; exact hl1.size)
      go_wp2_with (at_builtin; refine wpList_append_ints _ rfl (.tmp 35) (.tmp 37) 24 rfl w.heap.size 3 Try.underlying24 Try.infoInt _ _ rfl (hown4.alloc _) _ _ _ [x] rfl rfl (Reads.new _ _ _) (by simp) (Nat.le_trans k4.size (by simp)) ?_)
      intro v5 w5 hown5 hgr5
      have k5 := (k4.alloc k4.size _).grown hgr5 (Nat.le_trans k4.size (by simp)) (fun k hk => (hown4.block k hk).1)
      go_wp2_with (at_builtin; refine wpList_append_ints _ rfl (.tmp 39) (.tmp 42) 24 rfl w.heap.size 3 Try.underlying24 Try.infoInt _ _ rfl hown5 _ _ _ [] rfl rfl (.inl rfl) (by simp) k5.size ?_)
      intro v6 w6 hown6 hgr6
      have k6 := k5.grown hgr6 k5.size (fun k hk => (hown5.block k hk).1)
      go_wp2
      go_ret
      refine ⟨v6, rfl, ?_, k6⟩
      rw [addL_no hh]
      exact hown6
    · obtain ⟨p, hP⟩ : ∃ p, placeL zs x = p := ⟨_, rfl⟩
      have HP : Hid (placeL zs x = p) := hP
      rw [hP] at hp
      have hr : Reads w (some ⟨g, 0, none⟩) zs := .inr ⟨g, 0, rfl, hgw, fun i hi => by simpa using hcell i hi⟩
      unfold maxLen at hcm
      clear hP
      go_enter Try.func16, Try.ntmps16
      go_wp2_with fail
      refine (specSetHas_any _ _ zs x _ hr (by omega)).mono ?_
      rintro e w1 ⟨rfl, hl1⟩
      rw [hh]
      have c1 : ∀ i, i < zs.length → w1.cell? ⟨g, i, none⟩ = some (.int .i64 (zs.getD i 0)) := fun i hi => (hl1.cell (p := ⟨g, i, none⟩) hgw).trans (hcell i hi)
      go_wp2
      go_loop [5, 6] (fun t i => ∃ m : Nat, m ≤ zs.length ∧ i = .int .i64 ((m : Int) - 1) ∧ t = .int .i64 (placeFrom zs x m)) (fun _ i => (intOf i + 1).toNat)
      case atStart => exact ⟨zs.length, Nat.le_refl _, rfl, by rw [placeFrom_end]⟩
      case round =>
        obtain ⟨m, hm, rfl, rfl⟩ := hrel
        have hpm := placeFrom_le zs x m hm
        cases m with
        | succ k =>
          have hlt : k < zs.length := by omega
          have hcx := c1 k hlt
          have ek : ((k + 1 : Nat) : Int) - 1 = (k : Int) := by omega
          rw [ek]
          clear ek
          go_wp2
          · go_round
            case rel => exact ⟨k, by omega, rfl, by rw [placeFrom_yes hlt ‹_›]⟩
            case measure => simp [intOf]
          · go_round
            case rel => exact ⟨k, by omega, rfl, by rw [placeFrom_no hlt (Int.not_lt.2 ‹_›)]⟩
            case measure => simp [intOf]
        | zero =>
          rw [placeFrom_zero, HP.out]
          go_wp2_with (at_builtin; refine wpList_append_ints _ rfl (.tmp 30) (.tmp 33) 24 rfl w.heap.size 3 Try.underlying24 Try.infoInt _ [] rfl (OwnInts.empty hl1.size) _ _ _ (zs.take p) rfl (by simp; omega) ((hr.below (hl1.alloc hl1.size _)).take p) (by simp; omega) (Nat.le_trans hl1.size (by simp)) ?_)
          intro v4 w4 hown4 hgr4
          have k4 := (hl1.alloc hl1.size _).grown hgr4 (Nat.le_trans hl1.size (by simp)) (fun k hk => by cases hk; exact hl1.size)
          go_wp2_with (at_builtin; refine wpList_append_ints _ rfl (.tmp 35) (.tmp 37) 24 rfl w.heap.size 3 Try.underlying24 Try.infoInt _ _ rfl (hown4.alloc _) _ _ _ [x] rfl rfl (Reads.new _ _ _) (by simp; omega) (Nat.le_trans k4.size (by simp)) ?_)
          intro v5 w5 hown5 hgr5
          have k5 := (k4.alloc k4.size _).grown hgr5 (Nat.le_trans k4.size (by simp)) (fun k hk => (hown4.block k hk).1)
          have C5 : Hid (∀ i, i < zs.length → w5.cell? ⟨g, i, none⟩ = some (.int .i64 (zs.getD i 0))) := fun i hi => (k5.cell (p := ⟨g, i, none⟩) hgw).trans (hcell i hi)
          clear c1 hcell
          have gw5 := Nat.lt_of_lt_of_le hgw k5.size
          have hlen5 : (zs.take p ++ [x]).length + (zs.drop p).length ≤ 1099511627776 := by simp; omega
          go_wp2_with (at_builtin; refine wpList_append_ints _ rfl (.tmp 39) (.tmp 42) 24 rfl w.heap.size 3 Try.underlying24 Try.infoInt _ _ rfl hown5 _ _ _ (zs.drop p) rfl (by simp) (Reads.drop gw5 C5.out (by intro hk; first | rfl | rw [if_neg (by omega)] | (exfalso; omega))) hlen5 k5.size ?_)
          all_goals
            intro v6 w6 hown6 hgr6
            have k6 := k5.grown hgr6 k5.size (fun k hk => (hown5.block k hk).1)
            go_wp2
            go_ret
            refine ⟨v6, rfl, ?_, k6⟩
            rw [addL_no hh, HP.out]
            simpa using hown6
  · obtain ⟨a, cap, rfl, hr⟩ := h.shape
    go_enter Try.func16, Try.ntmps16
    go_wp2_with fail
    refine (specSetHas_any _ _ zs x _ hr (by omega)).mono ?_
    rintro e w1 ⟨rfl, hl1⟩
    rw [hh]
    go_wp2_with (at_builtin; refine wpList_append_ints _ rfl (.tmp 11) (.tmp 12) 24 rfl w.heap.size 3 Try.underlying24 Try.infoInt _ [] rfl (OwnInts.empty hl1.size) _ _ _ zs rfl rfl (hr.below (hl1.alloc hl1.size _)) (by simp; omega) (Nat.le_trans hl1.size (by simp)) ?_)
    intro v2 w2 hown2 hgr2
    go_wp2
    go_ret
    rw [addL_yes hh]
    exact ⟨v2, rfl, by simpa using hown2, (hl1.alloc hl1.size _).grown hgr2 (Nat.le_trans hl1.size (by simp)) (fun k hk => by cases hk; exact hl1.size)⟩

theorem specSetAdd_any (base : Nat) (v : Value) (zs : List Int) (x : Int) (w : World) (h : OwnInts w base 3 v zs) (hl : zs.length ≤ 1048576 * 3) :
    Calls Try.prog 16 #[v, .int .i64 x] w fun e w' => ∃ v', e = .returned v' ∧ OwnInts w' w.heap.size 3 v' (addL zs x) ∧ Below w.heap.size w w' := specSetAdd_p v zs x w h.parts hl
end Go.Proofs.Ythnppodnjokaoaa
