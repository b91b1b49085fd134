/-
  Contracts and plain mathematics, joined: InputOk, SpecInputOk, SpecDerives, SpecWays, Nums, NumT, EndsOf, FrontOf, PassLetter, Counter, PassPart. No statement is proved here.
-/
import Derived.Test.YtojbghmlcgadeabDoorG5
import Derived.Test.YtojbghmlcgadeabDoorG6
import Derived.Test.YtojbghmlcgadeabDoorG3
import Derived.Test.YtojbghmlcgadeabDoorG2
import Derived.Deep.MidRow
import Derived.ChangeKeysEq
import Derived.Maps.RangeWalk
import Derived.Maps.OwnSet
import Derived.Maps.OwnOps
import Derived.WideKeyPair
import Derived.DeepKeys4
namespace Go.Proofs.YtojbghmlcgadeabDoor
open Go.RowKit

/-- A letter. -/
def letB (x : Int) : Bool := inB x 0 25
def inputOkB (zs : List Int) : Bool := decide (zs.length ≤ 10) && zs.all letB
/-- What InputOk answers. -/
def resInputOk (zs : List Int) : Bool := inputOkB zs
theorem inputOkB_long {zs : List Int} (h : ¬ zs.length ≤ 10) : inputOkB zs = false := by simp [inputOkB, h]
theorem inputOkB_no {zs : List Int} (h : zs.all letB = false) : inputOkB zs = false := by simp [inputOkB, h]
theorem inputOkB_yes {zs : List Int} (h : zs.length ≤ 10) (g : zs.all letB = true) : inputOkB zs = true := by simp [inputOkB, h, g]
theorem inputOkB_len {zs : List Int} (h : inputOkB zs = true) : zs.length ≤ 10 := by simp [inputOkB] at h; exact h.1
theorem inputOkB_mem {zs : List Int} (h : inputOkB zs = true) : ∀ z ∈ zs, 0 ≤ z ∧ z ≤ 25 := by
  intro z hz; simp only [inputOkB, Bool.and_eq_true, List.all_eq_true] at h
  have := h.2 z hz; unfold letB at this; exact inB_true.1 this

set_option maxRecDepth 100000 in
theorem specInputOk_any (zs : List Int) (a : Option Addr) (c : Nat) (w : World) (h : RD w (.slice a zs.length c) (slD Lay.int zs)) (hl : zs.length ≤ 1048576) (_ : (Lay.list Lay.int).fit zs) :
    Calls Tryd.prog 19 #[.slice a zs.length c] w fun e w' => e = .returned (.bool (resInputOk zs)) ∧ Below w.heap.size w w' := by
  unfold resInputOk
  have hr : Reads w a zs := h.reads
  clear h
  by_cases hlong : zs.length ≤ 10
  · have hb : ¬ (10 : Int) < (zs.length : Int) := by omega
    go_enter Tryd.func19, Tryd.ntmps19
    go_wp2
    go_loopw [3] (fun i wr => ∃ k : Nat, k ≤ zs.length ∧ i = .int .i64 k ∧ Hid ((zs.take k).all letB = true) ∧ Below w.heap.size w wr) (fun i _ => zs.length - (intOf i).toNat)
    case atStart => exact ⟨0, Nat.zero_le _, rfl, by show _ = _; simp, Below.refl _ _⟩
    case round =>
      obtain ⟨k, hk, rfl, HK, hbel⟩ := hrel
      by_cases hlt : k < zs.length
      · obtain ⟨b, off, rfl, hb1, hc⟩ := (hr.below hbel).at hlt
        have q1 := hc k hlt
        rw [List.getD_eq_getElem?_getD, List.getElem?_eq_getElem hlt, Option.getD_some] at q1
        have HS : Hid (letB zs[k] = true → (zs.take (k + 1)).all letB = true) := fun g => all_step HK.out hlt g
        have HN : Hid (letB zs[k] = false → inputOkB zs = false) := fun g => inputOkB_no (all_no hlt g)
        clear hc hr HK
        generalize zs[k] = z at *
        by_cases z1 : inB z 0 25 = true
        · go_wp2_with (go_at_call 27; refine (l1In_any _ _ _ _).mono ?_; rintro e w' ⟨rfl, rfl⟩)
          go_roundw
          case rel => exact ⟨k + 1, by omega, by go_num, HS.out z1, hbel⟩
          case measure => simp [intOf]; omega
        · have z1' : inB z 0 25 = false := by simpa using z1
          clear z1
          go_wp2_with (go_at_call 27; refine (l1In_any _ _ _ _).mono ?_; rintro e w' ⟨rfl, rfl⟩)
          go_ret
          exact ⟨ret_bool (by rw [HN.out z1']), hbel⟩
      · have HE : Hid (inputOkB zs = true) := inputOkB_yes hlong (all_end HK.out hlt)
        clear hr HK
        go_wp2
        go_ret
        exact ⟨ret_bool (by rw [HE.out]), hbel⟩
  · have hb : (10 : Int) < (zs.length : Int) := by omega
    rw [inputOkB_long hlong]
    go_enter Tryd.func19, Tryd.ntmps19
    go_wp2
    go_ret
    exact ⟨rfl, Below.refl _ _⟩
set_option maxRecDepth 100000 in
theorem inputOk_any (zs : List Int) (a : Option Addr) (c : Nat) (w : World) (h : RD w (.slice a zs.length c) (slD Lay.int zs)) (hl : zs.length ≤ 1048576) (_ : (Lay.list Lay.int).fit zs) :
    Calls Tryd.prog 39 #[.slice a zs.length c] w fun e w' => e = .returned (.bool (resInputOk zs)) ∧ Below w.heap.size w w' := by
  unfold resInputOk
  have hr : Reads w a zs := h.reads
  clear h
  by_cases hlong : zs.length ≤ 10
  · have hb : ¬ (10 : Int) < (zs.length : Int) := by omega
    go_enter Tryd.func39, Tryd.ntmps39
    go_wp2
    go_loopw [10] (fun i wr => ∃ k : Nat, k ≤ zs.length ∧ i = .int .i64 k ∧ Hid ((zs.take k).all letB = true) ∧ Below w.heap.size w wr) (fun i _ => zs.length - (intOf i).toNat)
    case atStart => exact ⟨0, Nat.zero_le _, rfl, by show _ = _; simp, Below.refl _ _⟩
    case round =>
      obtain ⟨k, hk, rfl, HK, hbel⟩ := hrel
      by_cases hlt : k < zs.length
      · obtain ⟨b, off, rfl, hb1, hc⟩ := (hr.below hbel).at hlt
        have q1 := hc k hlt
        rw [List.getD_eq_getElem?_getD, List.getElem?_eq_getElem hlt, Option.getD_some] at q1
        have HS : Hid (letB zs[k] = true → (zs.take (k + 1)).all letB = true) := fun g => all_step HK.out hlt g
        have HN : Hid (letB zs[k] = false → inputOkB zs = false) := fun g => inputOkB_no (all_no hlt g)
        clear hc hr HK
        generalize zs[k] = z at *
        by_cases z1 : inB z 0 25 = true
        · go_wp2_with (go_at_call 41; refine (isLetter_any _ _).mono ?_; rintro e w' ⟨rfl, rfl⟩)
          go_roundw
          case rel => exact ⟨k + 1, by omega, by go_num, HS.out z1, hbel⟩
          case measure => simp [intOf]; omega
        · have z1' : inB z 0 25 = false := by simpa using z1
          clear z1
          go_wp2_with (go_at_call 41; refine (isLetter_any _ _).mono ?_; rintro e w' ⟨rfl, rfl⟩)
          go_ret
          exact ⟨ret_bool (by rw [HN.out z1']), hbel⟩
      · have HE : Hid (inputOkB zs = true) := inputOkB_yes hlong (all_end HK.out hlt)
        clear hr HK
        go_wp2
        go_ret
        exact ⟨ret_bool (by rw [HE.out]), hbel⟩
  · have hb : (10 : Int) < (zs.length : Int) := by omega
    rw [inputOkB_long hlong]
    go_enter Tryd.func39, Tryd.ntmps39
    go_wp2
    go_ret
    exact ⟨rfl, Below.refl _ _⟩
end Go.Proofs.YtojbghmlcgadeabDoor
namespace Go.Proofs.YtojbghmlcgadeabDoor
open Go.RowKit

theorem resCheck_ok {x : Gm} (h : resCheck x = 0) : gramOkB x.parts = true ∧ NoLoop x.parts := by
  unfold resCheck at h
  split at h
  · rename_i hg
    refine ⟨hg, fun k hk => ?_⟩
    split at h
    · cases h
    · rename_i hl
      by_cases e : hasL (startsL x.parts)[k] (k : Int) = true
      · exact absurd (loopB_yes hk e) hl
      · simpa using e
  · cases h
/-- What Derives answers. -/
def resDerives (x : Gm) (row ws : List Int) : Bool := decide (resCheck x = 0) && inputOkB ws && rowOk x.parts.length row && decide (0 < rowWays x.parts row ws)
theorem resDerives_check {x : Gm} {row ws : List Int} (h : resCheck x ≠ 0) : resDerives x row ws = false := by simp [resDerives, h]
theorem resDerives_input {x : Gm} {row ws : List Int} (h : inputOkB ws = false) : resDerives x row ws = false := by simp [resDerives, h]
theorem resDerives_row {x : Gm} {row ws : List Int} (h : rowOk x.parts.length row = false) : resDerives x row ws = false := by simp [resDerives, h]
theorem resDerives_all {x : Gm} {row ws : List Int} (h1 : resCheck x = 0) (h2 : inputOkB ws = true) (h3 : rowOk x.parts.length row = true) : resDerives x row ws = decide (0 < rowWays x.parts row ws) := by simp [resDerives, h1, h2, h3]
/-- What Accepts answers. -/
def resAccepts (x : Gm) (ws : List Int) : Bool := resDerives x [100] ws
theorem fit_one : (Lay.list Lay.int).fit [100] := ⟨by simp [maxLen], fun x hx => by rw [List.mem_singleton.1 hx]; rfl⟩
theorem OwnInts.oneD {w : World} {base : Nat} {e : TypeId} (x : Int) (h : base ≤ w.heap.size) : OwnInts (w.alloc (.cells #[.int .i64 x] e)) base e (.slice (some ⟨w.heap.size, 0, none⟩) 1 1) [x] :=
  World.ownsRow_lit w #[.int .i64 x] 1 h (by simp [maxLen]) rfl
/-- What Ways answers. -/
def resWays (x : Gm) (ws : List Int) (n : Int) : Int := if resCheck x = 0 ∧ inputOkB ws = true ∧ 0 ≤ n ∧ n ≤ 1000 then min (rowWays x.parts [100] ws : Int) n else 0
theorem one_row {n : Nat} (h : 1 ≤ n) : rowOk n [100] = true := by
  have : symOk n 100 = true := symOk_true.2 (.inr (by omega))
  simp [rowOk, this]
theorem gram_one {P : List (List (List Int))} (h : gramOkB P = true) : 1 ≤ P.length := by simp only [gramOkB, Bool.and_eq_true, inB_true] at h; omega

set_option maxHeartbeats 1000000 in
set_option maxRecDepth 100000 in
theorem specDerives_any (x : Gm) (a0 : Option Addr) (c0 : Nat) (z1 : List Int) (a1 : Option Addr) (c1 : Nat) (z2 : List Int) (a2 : Option Addr) (c2 : Nat) (w : World) (h0 : RD w (.slice a0 x.parts.length c0) (slD (Lay.list (Lay.list Lay.int)) x.parts)) (h1 : RD w (.slice a1 z1.length c1) (slD Lay.int z1)) (h2 : RD w (.slice a2 z2.length c2) (slD Lay.int z2)) (hn : Lay.gram.wt x ≤ 1048576) (hf : Lay.gram.fit x) (hl1 : z1.length ≤ 1048576) (_ : (Lay.list Lay.int).fit z1) (hl2 : z2.length ≤ 1048576) (hz2 : (Lay.list Lay.int).fit z2) :
    Calls Tryd.prog 7 #[.agg #[.slice a0 x.parts.length c0], .slice a1 z1.length c1, .slice a2 z2.length c2] w fun e w' => e = .returned (.bool (resDerives x z1 z2)) ∧ Below w.heap.size w w' := by
  have B0 := (Below.refl w.heap.size w).alloc (Nat.le_refl _) (.cells #[.slice a0 x.parts.length c0] 28)
  have HK : Hid (∀ W : World, Below w.heap.size w W → Calls Tryd.prog 18 #[.agg #[.slice a0 x.parts.length c0]] W fun e w' => e = .returned (.int .i64 (resCheck x)) ∧ Below W.heap.size W w') := fun W hW => specCheck_any x a0 c0 W (h0.later hW) hn hf
  have HI : Hid (∀ W : World, Below w.heap.size w W → Calls Tryd.prog 19 #[.slice a2 z2.length c2] W fun e w' => e = .returned (.bool (inputOkB z2)) ∧ Below W.heap.size W w') := fun W hW => specInputOk_any z2 a2 c2 W (h2.later hW) hl2 hz2
  have HR : Hid (resCheck x = 0 → ∀ W : World, Below w.heap.size w W → Calls Tryd.prog 20 #[.agg #[.slice a0 x.parts.length c0], .slice a1 z1.length c1] W fun e w' => e = .returned (.bool (rowOk x.parts.length z1)) ∧ Below W.heap.size W w') := fun hc W hW => l7RowOk_any x.parts z1 a0 c0 a1 c1 W (h1.later hW).reads (Fits.of (resCheck_ok hc).1).parts hl1
  have HW : Hid (resCheck x = 0 → inputOkB z2 = true → rowOk x.parts.length z1 = true → ∀ W : World, Below w.heap.size w W → Calls Tryd.prog 21 #[.agg #[.slice a0 x.parts.length c0], .slice a1 z1.length c1, .slice a2 z2.length c2] W fun e w' => e = .returned (.int .i64 (rowWays x.parts z1 z2 : Int)) ∧ Below W.heap.size W w') := fun hc hi hr W hW => l7Ways_any x.parts z1 z2 a0 c0 a1 c1 a2 c2 W (h0.later hW) (h1.later hW).reads (h2.later hW).reads (resCheck_ok hc).1 (resCheck_ok hc).2 (inputOkB_len hi) hr
  have D1 : Hid (resCheck x ≠ 0 → resDerives x z1 z2 = false) := resDerives_check
  have D2 : Hid (inputOkB z2 = false → resDerives x z1 z2 = false) := resDerives_input
  have D3 : Hid (rowOk x.parts.length z1 = false → resDerives x z1 z2 = false) := resDerives_row
  have D4 : Hid (resCheck x = 0 → inputOkB z2 = true → rowOk x.parts.length z1 = true → resDerives x z1 z2 = decide (0 < rowWays x.parts z1 z2)) := resDerives_all
  have hgl : w.heap.size < (w.alloc (.cells #[.slice a0 x.parts.length c0] 28)).heap.size := by simp
  have qg : (w.alloc (.cells #[.slice a0 x.parts.length c0] 28)).cell? ⟨w.heap.size, 0, none⟩ = some (.slice a0 x.parts.length c0) := by simp
  clear h0 h1 h2 hn hf hl1 hl2 hz2
  generalize resDerives x z1 z2 = R at *
  generalize resCheck x = rc at *
  generalize x.parts = P at *
  by_cases hc : rc = 0
  · have HRc := HR.out hc
    have HWc := HW.out hc
    have D4c := D4.out hc
    subst hc
    by_cases hi : inputOkB z2 = true
    · have HWi := HWc hi
      have D4i := D4c hi
      rw [hi] at HI
      by_cases hr : rowOk P.length z1 = true
      · have HWr : Hid _ := HWi hr
        have HRr : Hid _ := HRc
        have D4r : Hid _ := D4i hr
        rw [hr] at HRr
        clear HW HR D1 D2 D3 D4 HRc HWc D4c HWi D4i hi hr
        generalize rowWays P z1 z2 = n at *
        by_cases hpos : 0 < n
        · have hpI : (0 : Int) < (n : Int) := by omega
          go_enter Tryd.func7, Tryd.ntmps7
          go_wp2_with (first | (go_at_call 18; refine (HK.out _ B0).mono ?_; rintro e w1 ⟨rfl, hb1⟩; have g1 := (hb1.cell (p := ⟨w.heap.size, 0, none⟩) hgl).trans qg; have B1 := B0.trans (hb1.mono B0.size); have l1 := Nat.lt_of_lt_of_le hgl hb1.size) | (go_at_call 19; refine (HI.out _ B1).mono ?_; rintro e w2 ⟨rfl, hb2⟩; have g2 := (hb2.cell (p := ⟨w.heap.size, 0, none⟩) l1).trans g1; have B2 := B1.trans (hb2.mono B1.size); have l2 := Nat.lt_of_lt_of_le l1 hb2.size) | (go_at_call 20; refine (HRr.out _ B2).mono ?_; rintro e w3 ⟨rfl, hb3⟩; have g3 := (hb3.cell (p := ⟨w.heap.size, 0, none⟩) l2).trans g2; have B3 := B2.trans (hb3.mono B2.size)) | (go_at_call 21; refine (HWr.out _ B3).mono ?_; rintro e w4 ⟨rfl, hb4⟩; have B4 := B3.trans (hb4.mono B3.size)))
          go_ret
          exact ⟨ret_bool (by rw [D4r.out]; simp [hpos]), B4⟩
        · have hpI : (n : Int) ≤ 0 := by omega
          go_enter Tryd.func7, Tryd.ntmps7
          go_wp2_with (first | (go_at_call 18; refine (HK.out _ B0).mono ?_; rintro e w1 ⟨rfl, hb1⟩; have g1 := (hb1.cell (p := ⟨w.heap.size, 0, none⟩) hgl).trans qg; have B1 := B0.trans (hb1.mono B0.size); have l1 := Nat.lt_of_lt_of_le hgl hb1.size) | (go_at_call 19; refine (HI.out _ B1).mono ?_; rintro e w2 ⟨rfl, hb2⟩; have g2 := (hb2.cell (p := ⟨w.heap.size, 0, none⟩) l1).trans g1; have B2 := B1.trans (hb2.mono B1.size); have l2 := Nat.lt_of_lt_of_le l1 hb2.size) | (go_at_call 20; refine (HRr.out _ B2).mono ?_; rintro e w3 ⟨rfl, hb3⟩; have g3 := (hb3.cell (p := ⟨w.heap.size, 0, none⟩) l2).trans g2; have B3 := B2.trans (hb3.mono B2.size)) | (go_at_call 21; refine (HWr.out _ B3).mono ?_; rintro e w4 ⟨rfl, hb4⟩; have B4 := B3.trans (hb4.mono B3.size)))
          go_ret
          exact ⟨ret_bool (by rw [D4r.out]; simp; omega), B4⟩
      · have hr' : rowOk P.length z1 = false := by simpa using hr
        have HRr : Hid _ := HRc
        rw [hr'] at HRr
        have E : Hid (R = false) := D3.out hr'
        clear HW HR D1 D2 D3 D4 HRc HWc D4c HWi D4i hi hr hr'
        go_enter Tryd.func7, Tryd.ntmps7
        go_wp2_with (first | (go_at_call 18; refine (HK.out _ B0).mono ?_; rintro e w1 ⟨rfl, hb1⟩; have g1 := (hb1.cell (p := ⟨w.heap.size, 0, none⟩) hgl).trans qg; have B1 := B0.trans (hb1.mono B0.size); have l1 := Nat.lt_of_lt_of_le hgl hb1.size) | (go_at_call 19; refine (HI.out _ B1).mono ?_; rintro e w2 ⟨rfl, hb2⟩; have g2 := (hb2.cell (p := ⟨w.heap.size, 0, none⟩) l1).trans g1; have B2 := B1.trans (hb2.mono B1.size); have l2 := Nat.lt_of_lt_of_le l1 hb2.size) | (go_at_call 20; refine (HRr.out _ B2).mono ?_; rintro e w3 ⟨rfl, hb3⟩; have g3 := (hb3.cell (p := ⟨w.heap.size, 0, none⟩) l2).trans g2; have B3 := B2.trans (hb3.mono B2.size)))
        go_ret
        exact ⟨ret_bool E.out.symm, B3⟩
    · have hi' : inputOkB z2 = false := by simpa using hi
      have E : Hid (R = false) := D2.out hi'
      rw [hi'] at HI
      clear HW HR D1 D2 D3 D4 HRc HWc D4c hi hi'
      go_enter Tryd.func7, Tryd.ntmps7
      go_wp2_with (first | (go_at_call 18; refine (HK.out _ B0).mono ?_; rintro e w1 ⟨rfl, hb1⟩; have g1 := (hb1.cell (p := ⟨w.heap.size, 0, none⟩) hgl).trans qg; have B1 := B0.trans (hb1.mono B0.size); have l1 := Nat.lt_of_lt_of_le hgl hb1.size) | (go_at_call 19; refine (HI.out _ B1).mono ?_; rintro e w2 ⟨rfl, hb2⟩; have g2 := (hb2.cell (p := ⟨w.heap.size, 0, none⟩) l1).trans g1; have B2 := B1.trans (hb2.mono B1.size); have l2 := Nat.lt_of_lt_of_le l1 hb2.size))
      go_ret
      exact ⟨ret_bool E.out.symm, B2⟩
  · have E : Hid (R = false) := D1.out hc
    have hcb : (rc == 0) = false := by simp [hc]
    clear HW HR D1 D2 D3 D4
    go_enter Tryd.func7, Tryd.ntmps7
    go_wp2_with (go_at_call 18; refine (HK.out _ B0).mono ?_; rintro e w1 ⟨rfl, hb1⟩; have g1 := (hb1.cell (p := ⟨w.heap.size, 0, none⟩) hgl).trans qg; have B1 := B0.trans (hb1.mono B0.size); have l1 := Nat.lt_of_lt_of_le hgl hb1.size)
    go_ret
    exact ⟨ret_bool E.out.symm, B1⟩
end Go.Proofs.YtojbghmlcgadeabDoor
namespace Go.Proofs.YtojbghmlcgadeabDoor
open Go.RowKit

theorem resWays_check {x : Gm} {ws : List Int} {n : Int} (h : resCheck x ≠ 0) : resWays x ws n = 0 := by simp [resWays, h]
theorem resWays_input {x : Gm} {ws : List Int} {n : Int} (h : inputOkB ws = false) : resWays x ws n = 0 := by simp [resWays, h]
theorem resWays_out {x : Gm} {ws : List Int} {n : Int} (h : ¬ (0 ≤ n ∧ n ≤ 1000)) : resWays x ws n = 0 := by
  unfold resWays
  rw [if_neg (fun g => h g.2.2)]
theorem resWays_all {x : Gm} {ws : List Int} {n : Int} (h1 : resCheck x = 0) (h2 : inputOkB ws = true) (h3 : 0 ≤ n) (h4 : n ≤ 1000) : resWays x ws n = min (rowWays x.parts [100] ws : Int) n := by
  unfold resWays
  rw [if_pos ⟨h1, h2, h3, h4⟩]

set_option maxHeartbeats 1000000 in
set_option maxRecDepth 100000 in
theorem specWays_any (x : Gm) (a0 : Option Addr) (c0 : Nat) (z1 : List Int) (a1 : Option Addr) (c1 : Nat) (n2 : Int) (w : World) (h0 : RD w (.slice a0 x.parts.length c0) (slD (Lay.list (Lay.list Lay.int)) x.parts)) (h1 : RD w (.slice a1 z1.length c1) (slD Lay.int z1)) (hn : Lay.gram.wt x ≤ 1048576) (hf : Lay.gram.fit x) (hl1 : z1.length ≤ 1048576) (hz1 : (Lay.list Lay.int).fit z1) (_ : (Lit.int .i64 n2).wf = true) :
    Calls Tryd.prog 15 #[.agg #[.slice a0 x.parts.length c0], .slice a1 z1.length c1, .int .i64 n2] w fun e w' => e = .returned (.int .i64 (resWays x z1 n2)) ∧ Below w.heap.size w w' := by
  have B0 := (Below.refl w.heap.size w).alloc (Nat.le_refl _) (.cells #[.slice a0 x.parts.length c0] 28)
  have HK : Hid (∀ W : World, Below w.heap.size w W → Calls Tryd.prog 18 #[.agg #[.slice a0 x.parts.length c0]] W fun e w' => e = .returned (.int .i64 (resCheck x)) ∧ Below W.heap.size W w') := fun W hW => specCheck_any x a0 c0 W (h0.later hW) hn hf
  have HI : Hid (∀ W : World, Below w.heap.size w W → Calls Tryd.prog 19 #[.slice a1 z1.length c1] W fun e w' => e = .returned (.bool (inputOkB z1)) ∧ Below W.heap.size W w') := fun W hW => specInputOk_any z1 a1 c1 W (h1.later hW) hl1 hz1
  have HW : Hid (resCheck x = 0 → inputOkB z1 = true → ∀ W : World, Below w.heap.size w W → Calls Tryd.prog 21 #[.agg #[.slice a0 x.parts.length c0], .slice (some ⟨W.heap.size, 0, none⟩) 1 1, .slice a1 z1.length c1] (W.alloc (.cells #[.int .i64 100] 3)) fun e w' => e = .returned (.int .i64 (rowWays x.parts [100] z1 : Int)) ∧ Below w.heap.size w w') := fun hc hi W hW => by
    have B : Below w.heap.size w (W.alloc (.cells #[.int .i64 100] 3)) := hW.alloc hW.size _
    refine (l7Ways_any x.parts [100] z1 a0 c0 (some ⟨W.heap.size, 0, none⟩) 1 a1 c1 _ (h0.later B) (OwnInts.oneD (w := W) (base := 0) (e := 3) 100 (Nat.zero_le _)).reads (h1.later B).reads (resCheck_ok hc).1 (resCheck_ok hc).2 (inputOkB_len hi) (one_row (gram_one (resCheck_ok hc).1))).mono (fun e w' h => ⟨h.1, B.trans (h.2.mono B.size)⟩)
  have D1 : Hid (resCheck x ≠ 0 → resWays x z1 n2 = 0) := resWays_check
  have D2 : Hid (inputOkB z1 = false → resWays x z1 n2 = 0) := resWays_input
  have D3 : Hid (¬ (0 ≤ n2 ∧ n2 ≤ 1000) → resWays x z1 n2 = 0) := resWays_out
  have D4 : Hid (resCheck x = 0 → inputOkB z1 = true → 0 ≤ n2 → n2 ≤ 1000 → resWays x z1 n2 = min (rowWays x.parts [100] z1 : Int) n2) := resWays_all
  have hgl : w.heap.size < (w.alloc (.cells #[.slice a0 x.parts.length c0] 28)).heap.size := by simp
  have qg : (w.alloc (.cells #[.slice a0 x.parts.length c0] 28)).cell? ⟨w.heap.size, 0, none⟩ = some (.slice a0 x.parts.length c0) := by simp
  clear h0 h1 hn hf hl1 hz1
  generalize resWays x z1 n2 = R at *
  generalize resCheck x = rc at *
  generalize x.parts = P at *
  generalize rowWays P [100] z1 = n at *
  by_cases hc : rc = 0
  · have HWc := HW.out hc
    have D4c := D4.out hc
    subst hc
    by_cases hi : inputOkB z1 = true
    · have HWi : Hid _ := HWc hi
      have D4i := D4c hi
      rw [hi] at HI
      by_cases hin : inB n2 0 1000 = true
      · have E : Hid (R = min (n : Int) n2) := D4i (inB_true.1 hin).1 (inB_true.1 hin).2
        clear HW D1 D2 D3 D4 HWc D4c D4i hi
        go_enter Tryd.func15, Tryd.ntmps15
        go_wp2_with (first | (go_at_call 18; refine (HK.out _ B0).mono ?_; rintro e w1 ⟨rfl, hb1⟩; have g1 := (hb1.cell (p := ⟨w.heap.size, 0, none⟩) hgl).trans qg; have B1 := B0.trans (hb1.mono B0.size); have l1 := Nat.lt_of_lt_of_le hgl hb1.size) | (go_at_call 19; refine (HI.out _ B1).mono ?_; rintro e w2 ⟨rfl, hb2⟩; have g2 := (hb2.cell (p := ⟨w.heap.size, 0, none⟩) l1).trans g1; have B2 := B1.trans (hb2.mono B1.size)) | (go_at_call 27; refine (l1In_any _ _ _ _).mono ?_; rintro e w3 ⟨rfl, rfl⟩) | (go_at_call 21; refine (HWi.out _ B2).mono ?_; rintro e w4 ⟨rfl, B4⟩) | (go_at_call 28; refine (l1Min_any _ _ _).mono ?_; rintro e w5 ⟨rfl, rfl⟩))
        go_ret
        exact ⟨ret_int (by rw [E.out]), B4⟩
      · have hin' : inB n2 0 1000 = false := by simpa using hin
        have E : Hid (R = 0) := D3.out (fun h => hin (inB_true.2 h))
        clear HW D1 D2 D3 D4 HWc D4c D4i hi hin HWi
        go_enter Tryd.func15, Tryd.ntmps15
        go_wp2_with (first | (go_at_call 18; refine (HK.out _ B0).mono ?_; rintro e w1 ⟨rfl, hb1⟩; have g1 := (hb1.cell (p := ⟨w.heap.size, 0, none⟩) hgl).trans qg; have B1 := B0.trans (hb1.mono B0.size); have l1 := Nat.lt_of_lt_of_le hgl hb1.size) | (go_at_call 19; refine (HI.out _ B1).mono ?_; rintro e w2 ⟨rfl, hb2⟩; have g2 := (hb2.cell (p := ⟨w.heap.size, 0, none⟩) l1).trans g1; have B2 := B1.trans (hb2.mono B1.size)) | (go_at_call 27; refine (l1In_any _ _ _ _).mono ?_; rintro e w3 ⟨rfl, rfl⟩))
        go_ret
        exact ⟨ret_int E.out.symm, B2⟩
    · have hi' : inputOkB z1 = false := by simpa using hi
      have E : Hid (R = 0) := D2.out hi'
      rw [hi'] at HI
      clear HW D1 D2 D3 D4 HWc D4c hi hi'
      go_enter Tryd.func15, Tryd.ntmps15
      go_wp2_with (first | (go_at_call 18; refine (HK.out _ B0).mono ?_; rintro e w1 ⟨rfl, hb1⟩; have g1 := (hb1.cell (p := ⟨w.heap.size, 0, none⟩) hgl).trans qg; have B1 := B0.trans (hb1.mono B0.size); have l1 := Nat.lt_of_lt_of_le hgl hb1.size) | (go_at_call 19; refine (HI.out _ B1).mono ?_; rintro e w2 ⟨rfl, hb2⟩; have g2 := (hb2.cell (p := ⟨w.heap.size, 0, none⟩) l1).trans g1; have B2 := B1.trans (hb2.mono B1.size)))
      go_ret
      exact ⟨ret_int E.out.symm, B2⟩
  · have E : Hid (R = 0) := D1.out hc
    have hcb : (rc == 0) = false := by simp [hc]
    clear HW D1 D2 D3 D4
    go_enter Tryd.func15, Tryd.ntmps15
    go_wp2_with (go_at_call 18; refine (HK.out _ B0).mono ?_; rintro e w1 ⟨rfl, hb1⟩; have g1 := (hb1.cell (p := ⟨w.heap.size, 0, none⟩) hgl).trans qg; have B1 := B0.trans (hb1.mono B0.size); have l1 := Nat.lt_of_lt_of_le hgl hb1.size)
    go_ret
    exact ⟨ret_int E.out.symm, B1⟩
end Go.Proofs.YtojbghmlcgadeabDoor
namespace Go.Proofs.YtojbghmlcgadeabDoor
open Go.RowKit

/-- A number as a value. -/
def vI (n : Nat) : Value := .int .i64 (n : Int)
def cellsN (bs : List Nat) : Array Value := (bs.map vI).toArray
/-- The value of such an array. -/
def aggN (bs : List Nat) : Value := .agg (cellsN bs)
/-- Block b is such an array. -/
def Nums (w : World) (b : Nat) (t : TypeId) (bs : List Nat) : Prop := w.heap[b]? = some (.cells (cellsN bs) t)

theorem cellsN_size (bs : List Nat) : (cellsN bs).size = bs.length := by simp [cellsN]
theorem cellsN_get (bs : List Nat) (i : Nat) : (cellsN bs)[i]? = bs[i]?.map vI := by simp [cellsN]
theorem cellsN_one (bs : List Nat) : (cellsN bs).all (·.oneCell') = true := by
  refine Array.all_eq_true_iff_forall_mem.2 fun v hv => ?_
  simp only [cellsN, List.mem_toArray, List.mem_map] at hv
  obtain ⟨x, _, rfl⟩ := hv
  rfl
section
variable {w w' : World} {b : Nat} {t : TypeId} {bs : List Nat}
theorem Nums.lt (h : Nums w b t bs) : b < w.heap.size := (Array.getElem?_eq_some_iff.1 h).1
theorem Nums.cell (h : Nums w b t bs) {n : Nat} (hn : n < bs.length) : w.cell? ⟨b, n, none⟩ = some (.int .i64 ((bs.getD n 0 : Nat) : Int)) := by
  rw [cell_of_row w b n _ t (0, 0) h, cellsN_get]
  simp [List.getD, hn, vI]
theorem Nums.frozen (h : Nums w b t bs) (n : Nat) : w.frozen? ⟨b, n, none⟩ = false := by
  unfold Nums at h
  simp [World.frozen?, h]
theorem Nums.kept (h : Nums w b t bs) (hb : w'.heap[b]? = w.heap[b]?) : Nums w' b t bs := by unfold Nums at *; rw [hb]; exact h
theorem Nums.below (h : Nums w b t bs) {N : Nat} (hb : Below N w w') (hN : b < N) : Nums w' b t bs := h.kept (hb.block b hN)
theorem Nums.later (h : Nums w b t bs) (hb : Below w.heap.size w w') : Nums w' b t bs := h.below hb h.lt
theorem Nums.grown (h : Nums w b t bs) {row : Option Nat} (hg : w.grownBy w' row) (hne : row ≠ some b) : Nums w' b t bs := h.kept (hg.block b h.lt (fun e => hne e.symm))
theorem Nums.set (h : Nums w b t bs) (n : Nat) (v : Nat) : Nums (w.setCell ⟨b, n, none⟩ (.int .i64 (v : Int))) b t (bs.set n v) := by
  unfold Nums at *
  have e : cellsN (bs.set n v) = (cellsN bs).setIfInBounds n (.int .i64 (v : Int)) := by
    simp [cellsN, List.map_set, vI]
  rw [e]
  simp [World.setCell, Array.getElem?_modify, h]
theorem Nums.range (h : Nums w b t bs) (o n : Nat) : w.rangeAt b o (((bs.drop o).take n).map vI) := by
  intro j v hv
  rw [cell_of_row w b (o + j) _ t (0, 0) h, cellsN_get]
  rw [List.getElem?_map, List.getElem?_take] at hv
  split at hv
  · rw [List.getElem?_drop] at hv; exact hv
  · simp at hv
theorem Nums.there (h : Nums w b t bs) (o n : Nat) (hn : o + n ≤ bs.length) : w.there b o n := fun j hj => ⟨by rw [h.cell (by omega)]; rfl, h.frozen _⟩
end
theorem Nums.new (w : World) (t : TypeId) (bs : List Nat) : Nums (w.alloc (.cells (cellsN bs) t)) w.heap.size t bs := by
  exact heap_alloc_new w _
theorem setCell_grownN (w : World) (b n : Nat) (v : Value) : w.grownBy (w.setCell ⟨b, n, none⟩ v) (some b) :=
  ⟨rfl, rfl, rfl, by simp, fun k _ hne => Below.heap_setCell w _ v k (fun e => hne (by rw [e]))⟩

/-- What is there behind the flags cs are put in from o on. -/
def putN : List Nat → Nat → List Nat → List Nat
  | bs, _, [] => bs
  | bs, o, v :: r => putN (bs.set o v) (o + 1) r
theorem putN_length : ∀ (cs : List Nat) (bs : List Nat) (o : Nat), (putN bs o cs).length = bs.length
  | [], _, _ => rfl
  | v :: r, bs, o => by rw [putN, putN_length r]; simp
theorem putN_get : ∀ (cs : List Nat) (bs : List Nat) (o i : Nat), o + cs.length ≤ bs.length → (putN bs o cs).getD i 0 = if o ≤ i ∧ i < o + cs.length then cs.getD (i - o) 0 else bs.getD i 0
  | [], bs, o, i, _ => by rw [putN, if_neg (by simp)]
  | v :: r, bs, o, i, h => by
    simp only [List.length_cons] at h
    rw [putN, putN_get r (bs.set o v) (o + 1) i (by simp; omega)]
    simp only [List.length_cons]
    by_cases e : i = o
    · subst e
      rw [if_neg (by omega), if_pos (by omega), Nat.sub_self]
      simp [List.getD, show i < bs.length by omega]
    · by_cases g : o + 1 ≤ i ∧ i < o + 1 + r.length
      · rw [if_pos g, if_pos (by omega), show i - o = (i - (o + 1)) + 1 by omega]
        rfl
      · rw [if_neg g, if_neg (by omega)]
        simp [List.getD, Ne.symm e]
theorem list_ext_getN {us bs : List Nat} (hl : us.length = bs.length) (h : ∀ i, i < us.length → us.getD i 0 = bs.getD i 0) : us = bs := by
  apply List.ext_getElem hl
  intro i h1 h2
  have := h i h1
  simpa [List.getD, h1, h2] using this
theorem putN_whole {bs cs : List Nat} (h : cs.length = bs.length) : putN bs 0 cs = cs := by
  apply list_ext_getN (by rw [putN_length]; exact h.symm)
  intro i hi
  rw [putN_length] at hi
  rw [putN_get _ _ _ _ (by omega), if_pos (by omega), Nat.sub_zero]
theorem putN_tail {us bs cs : List Nat} (h : cs.length = bs.length) : putN (us ++ bs) us.length cs = us ++ cs := by
  apply list_ext_getN (by rw [putN_length]; simp [h])
  intro i hi
  rw [putN_length] at hi
  rw [putN_get _ _ _ _ (by simp [h])]
  simp only [List.length_append] at hi
  by_cases g : us.length ≤ i
  · rw [if_pos ⟨g, by omega⟩, List.getD_eq_getElem?_getD, List.getD_eq_getElem?_getD, List.getElem?_append_right g]
  · rw [if_neg (by omega), List.getD_eq_getElem?_getD, List.getD_eq_getElem?_getD, List.getElem?_append_left (by omega), List.getElem?_append_left (by omega)]
theorem setCells_nums : ∀ (cs bs : List Nat) (o : Nat) (w : World) (b : Nat) (t : TypeId), Nums w b t bs → Nums (w.setCells b o (cs.map vI)) b t (putN bs o cs) ∧ w.grownBy (w.setCells b o (cs.map vI)) (some b)
  | [], bs, o, w, b, t, h => ⟨h, World.grownBy.refl _ _⟩
  | v :: r, bs, o, w, b, t, h => by
    rw [List.map_cons, World.setCells, putN]
    have := setCells_nums r (bs.set o v) (o + 1) _ b t (h.set o v)
    exact ⟨this.1, grownBy_trans (setCell_grownN w b o _) this.2⟩

section
variable {P : Program}
theorem wpList_valN {ops : Array Oper} {rest : List Oper} {o : Oper} {a : Act} {w w' : World} {v : Value} {Q : Exit → Act → World → Prop} (hgd : Region.wanted o (yielded ops a.tmps) = true) (hr : (execOp a.eval o).run P w = .ok (.value v) w') (h : wpList P ops Q rest (a.put o.dst v) w') : wpList P ops Q (o :: rest) a w := by
  refine wpList_step fun K hK => ?_
  rw [if_pos hgd]
  unfold Oper.wp
  rw [hr, Oper.upon_value]
  exact hK _ _ h
theorem wpList_unitN {ops : Array Oper} {rest : List Oper} {o : Oper} {a : Act} {w w' : World} {Q : Exit → Act → World → Prop} (hgd : Region.wanted o (yielded ops a.tmps) = true) (hr : (execOp a.eval o).run P w = .ok .skip w') (h : wpList P ops Q rest (a.put o.dst undef) w') : wpList P ops Q (o :: rest) a w := by
  refine wpList_step fun K hK => ?_
  rw [if_pos hgd]
  unfold Oper.wp
  rw [hr, Oper.upon_skip]
  exact hK _ _ h

/-- A type of such arrays: its cells, its form. -/
structure NumT (P : Program) (ty : TypeId) (n : Nat) : Prop where
  info : (P.info? ty).map (fun i => (i.zero, i.size)) = some (some (.agg (Array.replicate n (.int .i64 0))), n)
  desc : ∃ d, P.underlying ty = some d ∧ d.isRow = true
theorem NumT.size {ty : TypeId} {n : Nat} (h : NumT P ty n) : (P.info? ty).map (·.size) = some n := by
  have := h.info
  cases hq : P.info? ty with
  | none => simp [hq] at this
  | some i => simp [hq] at this; simp [this.2]
theorem NumT.zero {ty : TypeId} {n : Nat} (h : NumT P ty n) (w : World) : (zeroValue ty).run P w = .ok (.agg (Array.replicate n (.int .i64 0))) w := by
  have := h.info
  cases hq : P.info? ty with
  | none => simp [hq] at this
  | some i => simp [hq] at this; simp [zeroValue, typeInfo, hq, this.1]
theorem cellsN_rep (n : Nat) : cellsN (List.replicate n 0) = Array.replicate n (.int .i64 0) := by
  simp [cellsN, vI]

/-- The whole array, or a part of it, is read. -/
theorem exec_loadN {ρ : Operand → Value} {o : Oper} {w : World} {ty t : TypeId} {x : Operand} {b off n : Nat} {bs : List Nat} (ho : o.op = .load ty x) (hx : ρ x = .pointer (some ⟨b, off, none⟩)) (hT : NumT P ty n) (hB : Nums w b t bs) (hn : off + n ≤ bs.length) :
    (execOp ρ o).run P w = .ok (.value (aggN ((bs.drop off).take n))) w := by
  obtain ⟨d, hu, hd⟩ := hT.desc
  have hl : (((bs.drop off).take n).map vI).length = n := by simp; omega
  have := run_loadVar_mid (P := P) w b off ty (((bs.drop off).take n).map vI) d (hB.range off n) hu hd (by rw [hl]; exact hT.size)
  unfold execOp
  simp only [ho, hx, Instr.loadAt, Instr.sureAddr, Sem.run_bind, Sem.run_pure, Result.andThen_ok, this]
  rfl
theorem exec_loadNW {ρ : Operand → Value} {o : Oper} {w : World} {ty t : TypeId} {x : Operand} {b : Nat} {bs : List Nat} (ho : o.op = .load ty x) (hx : ρ x = .pointer (some ⟨b, 0, none⟩)) (hT : NumT P ty bs.length) (hB : Nums w b t bs) :
    (execOp ρ o).run P w = .ok (.value (aggN bs)) w := by
  have := exec_loadN (P := P) ho hx hT hB (by omega)
  simpa using this
/-- It is stored. -/
theorem exec_storeN {ρ : Operand → Value} {o : Oper} {w : World} {ty t : TypeId} {x y : Operand} {b off : Nat} {bs cs : List Nat} (ho : o.op = .store ty x y) (hx : ρ x = .pointer (some ⟨b, off, none⟩)) (hy : ρ y = aggN cs) (hT : NumT P ty cs.length) (hB : Nums w b t bs) (hn : off + cs.length ≤ bs.length) :
    ∃ w', (execOp ρ o).run P w = .ok .skip w' ∧ Nums w' b t (putN bs off cs) ∧ w.grownBy w' (some b) := by
  have h1 := run_storeVar_mid (P := P) w b off ty (cellsN cs) (hB.there off _ (by rw [cellsN_size]; exact hn)) (by rw [cellsN_size]; exact hT.size) (cellsN_one cs)
  have h2 := setCells_nums cs bs off w b t hB
  refine ⟨_, ?_, h2.1, h2.2⟩
  unfold execOp
  simp only [ho, hx, hy, aggN, Instr.storeAt, Instr.sureAddr, Sem.run_bind, Sem.run_pure, Result.andThen_ok, h1]
  rfl
theorem exec_boxN {ρ : Operand → Value} {o : Oper} {w : World} {ty : TypeId} {x : Operand} {bs : List Nat} (ho : o.op = .box ty x) (hx : ρ x = aggN bs) :
    ∃ w', (execOp ρ o).run P w = .ok (.value (.pointer (some ⟨w.heap.size, 0, none⟩))) w' ∧ Nums w' w.heap.size ty bs ∧ Below w.heap.size w w' ∧ w'.heap.size = w.heap.size + 1 := by
  refine ⟨w.alloc (.cells (cellsN bs) ty), ?_, Nums.new w ty bs, (Below.refl _ _).alloc (Nat.le_refl _) _, by simp⟩
  unfold execOp
  simp only [ho, hx, aggN, Instr.box, newVar, newRow, Value.cells]
  simp
theorem exec_allocN {ρ : Operand → Value} {o : Oper} {w : World} {ty : TypeId} {n : Nat} (ho : o.op = .alloc ty) (hT : NumT P ty n) :
    ∃ w', (execOp ρ o).run P w = .ok (.value (.pointer (some ⟨w.heap.size, 0, none⟩))) w' ∧ Nums w' w.heap.size ty (List.replicate n 0) ∧ Below w.heap.size w w' ∧ w'.heap.size = w.heap.size + 1 := by
  refine ⟨w.alloc (.cells (cellsN (List.replicate n 0)) ty), ?_, Nums.new w ty _, (Below.refl _ _).alloc (Nat.le_refl _) _, by simp⟩
  unfold execOp
  simp only [ho, Instr.alloc, newVar, newRow, Sem.run_bind, hT.zero, Result.andThen_ok, Value.cells, cellsN_rep]
  simp
theorem exec_indexN {ρ : Operand → Value} {o : Oper} {w : World} {ty e : TypeId} {x y : Operand} {bs : List Nat} {i : Nat} (ho : o.op = .index ty x y) (hx : ρ x = aggN bs) (hy : ρ y = .int .i64 i) (hu : P.underlying ty = some (.array bs.length e)) (he : P.underlying e = some (.int .i64)) (hz : (P.info? e).map (·.size) = some 1) (hi : i < bs.length) :
    (execOp ρ o).run P w = .ok (.value (.int .i64 ((bs.getD i 0 : Nat) : Int))) w := by
  have hz' : (sizeOf e).run P w = .ok 1 w := by
    cases hq : P.info? e with
    | none => simp [hq] at hz
    | some j => simp [hq] at hz; simp [sizeOf, typeInfo, hq, hz]
  have hg : (isAgg e).run P w = .ok false w := by simp [isAgg, run_underlying he]
  have hc : (cellsN bs)[i]? = some (.int .i64 ((bs.getD i 0 : Nat) : Int)) := by rw [cellsN_get]; simp [List.getD, hi, vI]
  unfold execOp
  simp only [ho, hx, hy, aggN, Instr.index, asIntOf]
  simp [run_underlying hu, hz', part, hg, hi, hc]
end
end Go.Proofs.YtojbghmlcgadeabDoor
namespace Go.Proofs.YtojbghmlcgadeabDoor
open Go.RowKit

section
variable {P : Program}
theorem wpList_boxN {ops : Array Oper} {rest : List Oper} {o : Oper} {a : Act} {w : World} {Q : Exit → Act → World → Prop} (hgd : Region.wanted o (yielded ops a.tmps) = true) (ty : TypeId) (x : Operand) (ho : o.op = .box ty x) (bs : List Nat) (hx : a.eval x = aggN bs)
    (h : ∀ w', Nums w' w.heap.size ty bs → Below w.heap.size w w' → w'.heap.size = w.heap.size + 1 → wpList P ops Q rest (a.put o.dst (.pointer (some ⟨w.heap.size, 0, none⟩))) w') : wpList P ops Q (o :: rest) a w := by
  obtain ⟨w', h1, h2, h3, h4⟩ := exec_boxN (P := P) (w := w) ho hx
  exact wpList_valN hgd h1 (h w' h2 h3 h4)
theorem wpList_allocN {ops : Array Oper} {rest : List Oper} {o : Oper} {a : Act} {w : World} {Q : Exit → Act → World → Prop} (hgd : Region.wanted o (yielded ops a.tmps) = true) (ty : TypeId) (ho : o.op = .alloc ty) (n : Nat) (hT : NumT P ty n)
    (h : ∀ w', Nums w' w.heap.size ty (List.replicate n 0) → Below w.heap.size w w' → w'.heap.size = w.heap.size + 1 → wpList P ops Q rest (a.put o.dst (.pointer (some ⟨w.heap.size, 0, none⟩))) w') : wpList P ops Q (o :: rest) a w := by
  obtain ⟨w', h1, h2, h3, h4⟩ := exec_allocN (P := P) (w := w) (ρ := a.eval) ho hT
  exact wpList_valN hgd h1 (h w' h2 h3 h4)
theorem wpList_loadN {ops : Array Oper} {rest : List Oper} {o : Oper} {a : Act} {w : World} {Q : Exit → Act → World → Prop} (hgd : Region.wanted o (yielded ops a.tmps) = true) (ty : TypeId) (x : Operand) (ho : o.op = .load ty x) (b off n : Nat) (t : TypeId) (bs : List Nat) (hx : a.eval x = .pointer (some ⟨b, off, none⟩)) (hT : NumT P ty n) (hB : Nums w b t bs) (hn : off + n ≤ bs.length)
    (h : wpList P ops Q rest (a.put o.dst (aggN ((bs.drop off).take n))) w) : wpList P ops Q (o :: rest) a w :=
  wpList_valN hgd (exec_loadN ho hx hT hB hn) h
theorem wpList_loadNW {ops : Array Oper} {rest : List Oper} {o : Oper} {a : Act} {w : World} {Q : Exit → Act → World → Prop} (hgd : Region.wanted o (yielded ops a.tmps) = true) (ty : TypeId) (x : Operand) (ho : o.op = .load ty x) (b : Nat) (t : TypeId) (bs : List Nat) (hx : a.eval x = .pointer (some ⟨b, 0, none⟩)) (hT : NumT P ty bs.length) (hB : Nums w b t bs)
    (h : wpList P ops Q rest (a.put o.dst (aggN bs)) w) : wpList P ops Q (o :: rest) a w :=
  wpList_valN hgd (exec_loadNW ho hx hT hB) h
theorem wpList_storeN {ops : Array Oper} {rest : List Oper} {o : Oper} {a : Act} {w : World} {Q : Exit → Act → World → Prop} (hgd : Region.wanted o (yielded ops a.tmps) = true) (ty : TypeId) (x y : Operand) (ho : o.op = .store ty x y) (b off : Nat) (t : TypeId) (bs cs : List Nat) (hx : a.eval x = .pointer (some ⟨b, off, none⟩)) (hy : a.eval y = aggN cs) (hT : NumT P ty cs.length) (hB : Nums w b t bs) (hn : off + cs.length ≤ bs.length)
    (h : ∀ w', Nums w' b t (putN bs off cs) → w.grownBy w' (some b) → wpList P ops Q rest (a.put o.dst undef) w') : wpList P ops Q (o :: rest) a w := by
  obtain ⟨w', h1, h2, h3⟩ := exec_storeN (P := P) ho hx hy hT hB hn
  exact wpList_unitN hgd h1 (h w' h2 h3)
theorem wpList_indexN {ops : Array Oper} {rest : List Oper} {o : Oper} {a : Act} {w : World} {Q : Exit → Act → World → Prop} (hgd : Region.wanted o (yielded ops a.tmps) = true) (ty e : TypeId) (x y : Operand) (ho : o.op = .index ty x y) (bs : List Nat) (i : Nat) (hx : a.eval x = aggN bs) (hy : a.eval y = .int .i64 i) (hu : P.underlying ty = some (.array bs.length e)) (he : P.underlying e = some (.int .i64)) (hz : (P.info? e).map (·.size) = some 1) (hi : i < bs.length)
    (h : wpList P ops Q rest (a.put o.dst (.int .i64 ((bs.getD i 0 : Nat) : Int))) w) : wpList P ops Q (o :: rest) a w :=
  wpList_valN hgd (exec_indexN ho hx hy hu he hz hi) h
end

theorem row_ofN {P : Program} {ty : TypeId} (h : (P.underlying ty).map TypeDesc.isRow = some true) : ∃ d, P.underlying ty = some d ∧ d.isRow = true := by
  cases hq : P.underlying ty with
  | none => simp [hq] at h
  | some d => exact ⟨d, rfl, by simpa [hq] using h⟩
set_option maxRecDepth 100000 in
theorem nt_ends : NumT Tryd.prog 63 11 := ⟨by kernel_rfl, row_ofN (by kernel_rfl)⟩
theorem int_size : (Tryd.prog.info? 3).map (·.size) = some 1 := by kernel_rfl
theorem u_ends : Tryd.prog.underlying 63 = some (.array 11 3) := by kernel_rfl
theorem u_int : Tryd.prog.underlying 3 = some (.int .i64) := by kernel_rfl
end Go.Proofs.YtojbghmlcgadeabDoor
namespace Go.Proofs.YtojbghmlcgadeabDoor
open Go.RowKit
open Go.Maps (Keyed int_keyed keyOf_int_mk has)

/-- The ways to the places 0 to 10. -/
def endL (v : Nat → Nat) : List Nat := (List.range 11).map v
theorem endL_length (v : Nat → Nat) : (endL v).length = 11 := by simp [endL]
theorem endL_get (v : Nat → Nat) {j : Nat} (h : j < 11) : (endL v).getD j 0 = v j := by simp [endL, List.getD, h]
theorem endL_congr {u v : Nat → Nat} (h : ∀ j, j < 11 → u j = v j) : endL u = endL v := by
  unfold endL
  refine List.map_congr_left (fun j hj => h j (by simpa using hj))
theorem endL_inj {u v : Nat → Nat} (h : endL u = endL v) : ∀ j, j < 11 → u j = v j := fun j hj => by
  rw [← endL_get u hj, ← endL_get v hj, h]
theorem endL_set (v : Nat → Nat) {p x : Nat} : (endL v).set p x = endL (fun j => if j = p then x else v j) := by
  apply List.ext_getElem (by simp [endL])
  intro i h1 h2
  simp only [List.getElem_set, endL, List.getElem_map, List.getElem_range]
  by_cases e : p = i
  · rw [if_pos e, if_pos e.symm]
  · rw [if_neg e, if_neg (fun h => e h.symm)]
theorem endL_zero : List.replicate 11 0 = endL (fun _ => 0) := by decide

theorem intK : Keyed Tryd.prog 3 := int_keyed u_int
theorem u_ways : Tryd.prog.underlying 79 = some (.map 3 3) := by kernel_rfl
/-- The map of a front: the key x of the place x + moved. -/
def FM (D : DataW Unit) (moved : Nat) (v : Nat → Nat) : Prop :=
  ∀ x : Int, (has D (.int .i64 x) = true ↔ ∃ j : Nat, x + moved = j ∧ v j ≠ 0) ∧ ∀ j : Nat, x + moved = j → v j ≠ 0 → ∀ z, D.atKey (.int .i64 x) z = .lit (.int .i64 (v j : Int))

set_option maxHeartbeats 1000000 in
set_option maxRecDepth 100000 in
theorem add_any (b : Nat) (t : TypeId) (vs : List Nat) (p x : Nat) (w : World) (hB : Nums w b t vs) (hl : vs.length = 11) (hp : p < 11) (hx : x ≤ 1000000) (hv : vs.getD p 0 ≤ 1000) :
    Calls Tryd.prog 64 #[.pointer (some ⟨b, 0, none⟩), .int .i64 (p : Int), .int .i64 (x : Int)] w fun e w' => e = .returned (.tuple #[]) ∧ Nums w' b t (vs.set p (capN (vs.getD p 0 + x))) ∧ w.grownBy w' (some b) := by
  have q := hB.cell (n := p) (by omega)
  have hf := hB.frozen p
  have HB : Hid (Nums w b t vs) := hB
  have HM : Hid (min ((vs.getD p 0 : Nat) : Int) 1000 = ((vs.getD p 0 : Nat) : Int)) := by show _ = _; omega
  generalize vs.getD p 0 = y at *
  obtain ⟨m, hm⟩ : ∃ m, m = capN (y + x) := ⟨_, rfl⟩
  have hmI : (if 1000 < (y : Int) + (x : Int) then 1000 else (y : Int) + (x : Int)) = (m : Int) := by rw [hm]; unfold capN; split <;> omega
  have HMM : Hid (capN (y + x) = m) := hm.symm
  have hpI : (p : Int) < 11 := by omega
  clear hm hB HM
  go_enter Tryd.func64, Tryd.ntmps64
  refine wp_region_held_drew (S := (fun w' => True)) (by kernel_rfl) trivial (fun hHeld => ?_)
  refine take_atL (i := 0) (d := some 6) (v := .pointer (some ⟨b, 0, none⟩)) rfl rfl (by kernel_rfl) (by kernel_rfl) (by kernel_rfl) (fun _ _ _ h => h) (by rfl) ?_ hHeld ?_
  · intro w' hSw; clear hSw; go_simp; first | done | rfl | (refine wrap_in ?_ ?_ <;> omega) | (intro hbad; exfalso; omega)
  try simp only [Act.put, List.setIfInBounds_toArray, List.set_cons_zero, List.set_cons_succ]
  refine take_atL (i := 1) (d := some 7) (v := .int .i64 ((p : Int))) rfl rfl (by kernel_rfl) (by kernel_rfl) (by kernel_rfl) (fun _ _ _ h => h) (by rfl) ?_ hHeld ?_
  · intro w' hSw; clear hSw; go_simp; first | done | rfl | (refine wrap_in ?_ ?_ <;> omega) | (intro hbad; exfalso; omega)
  try simp only [Act.put, List.setIfInBounds_toArray, List.set_cons_zero, List.set_cons_succ]
  refine take_atL (i := 2) (d := some 8) (v := .pointer (some ⟨b, 0, none⟩)) rfl rfl (by kernel_rfl) (by kernel_rfl) (by kernel_rfl) (fun _ _ _ h => h) (by rfl) ?_ hHeld ?_
  · intro w' hSw; clear hSw; go_simp; first | done | rfl | (refine wrap_in ?_ ?_ <;> omega) | (intro hbad; exfalso; omega)
  try simp only [Act.put, List.setIfInBounds_toArray, List.set_cons_zero, List.set_cons_succ]
  refine take_atL (i := 3) (d := some 9) (v := .int .i64 ((p : Int))) rfl rfl (by kernel_rfl) (by kernel_rfl) (by kernel_rfl) (fun _ _ _ h => h) (by rfl) ?_ hHeld ?_
  · intro w' hSw; clear hSw; go_simp; first | done | rfl | (refine wrap_in ?_ ?_ <;> omega) | (intro hbad; exfalso; omega)
  try simp only [Act.put, List.setIfInBounds_toArray, List.set_cons_zero, List.set_cons_succ]
  refine take_atL (i := 4) (d := some 10) (v := .pointer (some ⟨b, 0, none⟩)) rfl rfl (by kernel_rfl) (by kernel_rfl) (by kernel_rfl) (fun _ _ _ h => h) (by rfl) ?_ hHeld ?_
  · intro w' hSw; clear hSw; go_simp; first | done | rfl | (refine wrap_in ?_ ?_ <;> omega) | (intro hbad; exfalso; omega)
  try simp only [Act.put, List.setIfInBounds_toArray, List.set_cons_zero, List.set_cons_succ]
  refine take_atL (i := 5) (d := some 11) (v := .pointer (some ⟨b, p, none⟩)) rfl rfl (by kernel_rfl) (by kernel_rfl) (by kernel_rfl) (fun _ _ _ h => h) (by rfl) ?_ hHeld ?_
  · intro w' hSw; clear hSw; go_simp; first | done | rfl | (refine wrap_in ?_ ?_ <;> omega) | (intro hbad; exfalso; omega)
  try simp only [Act.put, List.setIfInBounds_toArray, List.set_cons_zero, List.set_cons_succ]
  refine take_atL (i := 7) (d := some 13) (v := .int .i64 ((x : Int))) rfl rfl (by kernel_rfl) (by kernel_rfl) (by kernel_rfl) (fun _ _ _ h => h) (by rfl) ?_ hHeld ?_
  · intro w' hSw; clear hSw; go_simp; first | done | rfl | (refine wrap_in ?_ ?_ <;> omega) | (intro hbad; exfalso; omega)
  try simp only [Act.put, List.setIfInBounds_toArray, List.set_cons_zero, List.set_cons_succ]
  refine take_atL (i := 10) (d := some 16) (v := .pointer (some ⟨b, 0, none⟩)) rfl rfl (by kernel_rfl) (by kernel_rfl) (by kernel_rfl) (fun _ _ _ h => h) (by rfl) ?_ hHeld ?_
  · intro w' hSw; clear hSw; go_simp; first | done | rfl | (refine wrap_in ?_ ?_ <;> omega) | (intro hbad; exfalso; omega)
  try simp only [Act.put, List.setIfInBounds_toArray, List.set_cons_zero, List.set_cons_succ]
  refine wpAnyH_ready (rs := [6]) (by kernel_rfl) (by simp) ?_
  refine AllReadyH.cons (o := _) rfl (fun K hK => ?_) AllReadyH.nil
  rw [if_pos (by rfl)]
  go_simp
  refine hK.out _ _ trivial (fun hHeld => ?_)
  clear hK K
  try simp only [Act.put, List.setIfInBounds_toArray, List.set_cons_zero, List.set_cons_succ]
  refine take_atL (i := 8) (d := some 14) (v := .int .i64 ((y : Int) + (x : Int))) rfl rfl (by kernel_rfl) (by kernel_rfl) (by kernel_rfl) (fun _ _ _ h => h) (by rfl) ?_ hHeld ?_
  · intro w' hSw; clear hSw; go_simp; first | done | rfl | (refine wrap_in ?_ ?_ <;> omega) | (intro hbad; exfalso; omega) | exact hmI
  try simp only [Act.put, List.setIfInBounds_toArray, List.set_cons_zero, List.set_cons_succ]
  refine take_atL (i := 9) (d := some 15) (v := .int .i64 ((m : Int))) rfl rfl (by kernel_rfl) (by kernel_rfl) (by kernel_rfl) (fun _ _ _ h => h) (by rfl) ?_ hHeld ?_
  · intro w' hSw; clear hSw; go_simp; first | done | rfl | (refine wrap_in ?_ ?_ <;> omega) | (intro hbad; exfalso; omega) | exact hmI
  try simp only [Act.put, List.setIfInBounds_toArray, List.set_cons_zero, List.set_cons_succ]
  refine take_atL (i := 11) (d := some 17) (v := .pointer (some ⟨b, p, none⟩)) rfl rfl (by kernel_rfl) (by kernel_rfl) (by kernel_rfl) (fun _ _ _ h => h) (by rfl) ?_ hHeld ?_
  · intro w' hSw; clear hSw; go_simp; first | done | rfl | (refine wrap_in ?_ ?_ <;> omega) | (intro hbad; exfalso; omega) | exact hmI
  try simp only [Act.put, List.setIfInBounds_toArray, List.set_cons_zero, List.set_cons_succ]
  refine wpAnyH_ready (rs := [12]) (by kernel_rfl) (by simp) ?_
  refine AllReadyH.cons (o := _) rfl (fun K hK => ?_) AllReadyH.nil
  rw [if_pos (by rfl)]
  go_simp
  refine hK.out _ _ trivial (fun hHeld => ?_)
  clear hK K
  try simp only [Act.put, List.setIfInBounds_toArray, List.set_cons_zero, List.set_cons_succ]
  refine wpAnyH_done (by kernel_rfl) ?_ _
  clear hHeld
  go_wp2
  go_end0
  refine ⟨rfl, ?_, grownBy_trans (setCell_grownN w b p _) (grownBy_of_below (below_drew 1) _)⟩
  rw [HMM.out]
  exact HB.out.set p m

theorem at11 (v : Nat → Nat) : NumT Tryd.prog 63 (endL v).length := by rw [endL_length]; exact nt_ends
theorem ret_cellN {fn : Func} {p : Tmp} {tmps : Array Value} {w : World} {g : Nat} {t : TypeId} {bs : List Nat} (ty : TypeId) (h : fn.results = #[.cell p ty]) (hp : tmps.getD p undef = .pointer (some ⟨g, 0, none⟩)) (hB : Nums w g t bs) (hT : NumT Tryd.prog ty bs.length) : (results fn tmps).run Tryd.prog w = .ok (aggN bs) w := by
  obtain ⟨d, hu, hd⟩ := hT.desc
  exact results_cell_row h tmps w g t (cellsN bs) (0, 0) d hp hB hu (by cases d <;> first | rfl | cases hd) (by rw [cellsN_size]; exact hT.size)
theorem same_int (x y : Int) : (Lit.int .i64 x).sameKey (.int .i64 y) = decide (x = y) := by simp [Lit.sameKey]

/-- The places whose key is not left. -/
def goneV (left : Lit → Bool) (moved : Nat) (v : Nat → Nat) : Nat → Nat := fun j => if left (.int .i64 ((j : Int) - moved)) then 0 else v j
theorem goneV_start {D : DataW Unit} {moved : Nat} {v : Nat → Nat} (h : FM D moved v) : goneV (has D) moved v = fun _ => 0 := by
  funext j
  unfold goneV
  split
  · rfl
  · rename_i hn
    by_cases e : v j = 0
    · exact e
    · exact absurd ((h _).1.2 ⟨j, by omega, e⟩) hn
theorem goneV_end {left : Lit → Bool} {moved : Nat} {v : Nat → Nat} (h : ∀ kl, left kl = false) : goneV left moved v = v := by
  funext j; unfold goneV; rw [h, if_neg (by simp)]
theorem goneV_step {left : Lit → Bool} {moved : Nat} {v : Nat → Nat} {x : Int} {p : Nat} (h : x + moved = p) (j : Nat) : goneV (fun z => left z && !z.sameKey (.int .i64 x)) moved v j = if j = p then v p else goneV left moved v j := by
  show (if (left (.int .i64 ((j : Int) - moved)) && !(Lit.int .i64 ((j : Int) - moved)).sameKey (.int .i64 x)) = true then 0 else v j) = if j = p then v p else if left (.int .i64 ((j : Int) - moved)) = true then 0 else v j
  rw [same_int]
  by_cases e : j = p
  · subst e
    rw [if_pos rfl, if_neg (by simp; intro _; omega)]
  · rw [if_neg e]
    have : decide ((j : Int) - moved = x) = false := by simp; omega
    rw [this]; simp

set_option maxHeartbeats 1000000 in
set_option maxRecDepth 100000 in
theorem ends_any (bF bM m moved : Nat) (v : Nat → Nat) (D : DataW Unit) (w : World) (c0 : w.cell? ⟨bF, 0, none⟩ = some (.int .i64 (moved : Int))) (c1 : w.cell? ⟨bF, 1, none⟩ = some (.map (some bM))) (hown : w.ownsMap Tryd.prog 3 (plainElem Tryd.prog 3) bM m D) (hF : FM D moved v) (hv : ∀ j, v j ≠ 0 → j < 11) :
    Calls Tryd.prog 55 #[.pointer (some ⟨bF, 0, none⟩)] w fun e w' => e = .returned (aggN (endL v)) ∧ Below w.heap.size w w' := by
  have hbF := World.block_lt_of_cell? w _ c0
  have hbM := hown.lt
  have HF : Hid (FM D moved v) := hF
  have HV : Hid (∀ j, v j ≠ 0 → j < 11) := hv
  have HOW : Hid (w.ownsMap Tryd.prog 3 (plainElem Tryd.prog 3) bM m D) := hown
  clear hF hv hown
  have hb2 : Below w.heap.size w ((w.alloc (.cells #[.int .i64 0, .int .i64 0, .int .i64 0, .int .i64 0, .int .i64 0, .int .i64 0, .int .i64 0, .int .i64 0, .int .i64 0, .int .i64 0, .int .i64 0] 63)).alloc (.cells #[.int .i64 0, .int .i64 0, .int .i64 0, .int .i64 0, .int .i64 0, .int .i64 0, .int .i64 0, .int .i64 0, .int .i64 0, .int .i64 0, .int .i64 0] 63)) := ((Below.refl _ _).alloc (Nat.le_refl _) _).alloc (by simp) _
  have c1b := (hb2.cell (p := ⟨bF, 1, none⟩) hbF).trans c1
  have hN1 : Nums ((w.alloc (.cells #[.int .i64 0, .int .i64 0, .int .i64 0, .int .i64 0, .int .i64 0, .int .i64 0, .int .i64 0, .int .i64 0, .int .i64 0, .int .i64 0, .int .i64 0] 63)).alloc (.cells #[.int .i64 0, .int .i64 0, .int .i64 0, .int .i64 0, .int .i64 0, .int .i64 0, .int .i64 0, .int .i64 0, .int .i64 0, .int .i64 0, .int .i64 0] 63)) w.heap.size 63 (List.replicate 11 0) := (Nums.new w 63 (List.replicate 11 0)).below ((Below.refl _ _).alloc (Nat.le_refl _) _) (by simp)
  have hN2 : Nums ((w.alloc (.cells #[.int .i64 0, .int .i64 0, .int .i64 0, .int .i64 0, .int .i64 0, .int .i64 0, .int .i64 0, .int .i64 0, .int .i64 0, .int .i64 0, .int .i64 0] 63)).alloc (.cells #[.int .i64 0, .int .i64 0, .int .i64 0, .int .i64 0, .int .i64 0, .int .i64 0, .int .i64 0, .int .i64 0, .int .i64 0, .int .i64 0, .int .i64 0] 63)) (w.heap.size + 1) 63 (List.replicate 11 0) := by
    have := Nums.new (w.alloc (.cells #[.int .i64 0, .int .i64 0, .int .i64 0, .int .i64 0, .int .i64 0, .int .i64 0, .int .i64 0, .int .i64 0, .int .i64 0, .int .i64 0, .int .i64 0] 63)) 63 (List.replicate 11 0)
    rw [show (w.alloc (.cells #[.int .i64 0, .int .i64 0, .int .i64 0, .int .i64 0, .int .i64 0, .int .i64 0, .int .i64 0, .int .i64 0, .int .i64 0, .int .i64 0, .int .i64 0] 63)).heap.size = w.heap.size + 1 by simp] at this
    exact this
  have hs2 : ((w.alloc (.cells #[.int .i64 0, .int .i64 0, .int .i64 0, .int .i64 0, .int .i64 0, .int .i64 0, .int .i64 0, .int .i64 0, .int .i64 0, .int .i64 0, .int .i64 0] 63)).alloc (.cells #[.int .i64 0, .int .i64 0, .int .i64 0, .int .i64 0, .int .i64 0, .int .i64 0, .int .i64 0, .int .i64 0, .int .i64 0, .int .i64 0, .int .i64 0] 63)).heap.size = w.heap.size + 2 := by simp
  go_enter Tryd.func55, Tryd.ntmps55
  go_wp2_with (at_range; refine wpList_range_own _ rfl _ 79 rfl 3 3 intK u_ways _ bM m D rfl (HOW.out.kept (grownBy_of_below hb2 none) (by simp)) ?_; intro w3 hrg0 hg0 hs0)
  have hb3 : Below w.heap.size w w3 := hb2.grown hg0 (by rw [hs2]; omega) (fun k e => by cases e)
  have HB1 : Hid (Nums w3 w.heap.size 63 (List.replicate 11 0)) := hN1.grown hg0 (by simp)
  have HB2 : Hid (Nums w3 (w.heap.size + 1) 63 (endL (goneV (has D) moved v))) := by
    show Nums _ _ _ _
    rw [goneV_start HF.out, ← endL_zero]; exact hN2.grown hg0 (by simp)
  have HQ : Hid (∀ W, Below w.heap.size w W → W.cell? ⟨bF, 0, none⟩ = some (.int .i64 (moved : Int))) := fun W hW => (hW.cell (p := ⟨bF, 0, none⟩) hbF).trans c0
  have HB3 : Hid (Below w.heap.size w w3) := hb3
  rw [hs2] at hrg0
  clear hN1 hN2 hb2 hg0 hs0 hb3 c1 c1b c0
  have HL0 : Hid (∀ x : Int, has D (.int .i64 x) = true → has D (.int .i64 x) = true) := fun _ h => h
  go_loopw [4, 5] (fun _ _ wr => ∃ (left : Lit → Bool) (cnt : Nat), wr.ranges Tryd.prog 3 (plainElem Tryd.prog 3) bM (w.heap.size + 2) m D left cnt ∧ Hid (∀ x : Int, left (.int .i64 x) = true → has D (.int .i64 x) = true) ∧ Hid (Nums wr w.heap.size 63 (List.replicate 11 0)) ∧ Hid (Nums wr (w.heap.size + 1) 63 (endL (goneV left moved v))) ∧ Hid (Below w.heap.size w wr)) (fun _ _ wr => wr.rangeLeft bM (w.heap.size + 2))
  case atStart => exact ⟨_, _, hrg0, HL0, HB1, HB2, HB3⟩
  case round =>
    clear HL0 HB1 HB2 HB3 hrg0
    obtain ⟨left, cnt, hrg, HL, HB1, HB2, HBe⟩ := hrel
    go_wp2_with (at_next; refine wpList_next_ranges_ii _ rfl _ rfl 3 3 .i64 .i64 intK u_int u_int bM (w.heap.size + 2) m _ _ _ rfl hrg ?_ ?_)
    · intro hc0 hl0
      have HB2' : Hid (Nums wr (w.heap.size + 1) 63 (endL v)) := by have := HB2.out; rw [goneV_end hl0] at this; exact this
      clear HL HB2 hrg hl0
      go_wp2_with (first | (refine wpList_loadNW (w := wr) rfl 63 _ rfl (w.heap.size + 1) 63 (endL v) rfl (at11 v) HB2'.out ?_) | (refine wpList_storeN (w := wr) rfl 63 _ _ rfl w.heap.size 0 63 (List.replicate 11 0) (endL v) rfl rfl (at11 v) HB1.out (by rw [endL_length]; decide) ?_; intro w4 hB4 hg4))
      rw [putN_whole (by rw [endL_length]; rfl)] at hB4
      exact bodyPost_ret (v := aggN (endL v)) (ret_cellN 63 rfl rfl hB4 (at11 v)) rfl ⟨rfl, HBe.out.grown hg4 HBe.out.size (fun k e => by cases e; exact Nat.le_refl _)⟩
    · intro x c w1 cnt1 hwx hwc hlx hat hrg1 hlt hg1 hs1 hen
      obtain ⟨j, hj, hvj⟩ := (HF.out x).1.1 (HL.out x hlx)
      have hj11 := HV.out j hvj
      obtain rfl : c = (v j : Int) := by
        have h1 := hat (.lit (.int .i64 0))
        rw [(HF.out x).2 j hj hvj] at h1
        exact (Lit.int.inj (DataW.lit.inj h1)).2.symm
      have hbe1 : Below w.heap.size w w1 := HBe.out.grown hg1 HBe.out.size (fun k e => by cases e; omega)
      have q0 := HQ.out w1 hbe1
      have hN2 : Nums w1 (w.heap.size + 1) 63 (endL (goneV left moved v)) := HB2.out.grown hg1 (by simp)
      have q2 := hN2.cell (n := j) (by rw [endL_length]; exact hj11)
      have hfr := hN2.frozen j
      have HB1' : Hid (Nums (w1.setCell ⟨w.heap.size + 1, j, none⟩ (.int .i64 (v j : Int))) w.heap.size 63 (List.replicate 11 0)) := (HB1.out.grown hg1 (by simp)).grown (setCell_grownN _ _ _ _) (by simp)
      have HB2' : Hid (Nums (w1.setCell ⟨w.heap.size + 1, j, none⟩ (.int .i64 (v j : Int))) (w.heap.size + 1) 63 (endL (goneV (fun z => left z && !z.sameKey (.int .i64 x)) moved v))) := by
        have := hN2.set j (v j)
        rw [endL_set] at this
        show Nums _ _ _ _
        rw [endL_congr (fun i _ => goneV_step hj i)]
        exact this
      have HBe' : Hid (Below w.heap.size w (w1.setCell ⟨w.heap.size + 1, j, none⟩ (.int .i64 (v j : Int)))) := hbe1.setCell (Nat.le_succ _) _
      have HL' : Hid (∀ y : Int, (left (.int .i64 y) && !(Lit.int .i64 y).sameKey (.int .i64 x)) = true → has D (.int .i64 y) = true) := fun y h => HL.out y (by simp at h; exact h.1)
      have hrg2 := hrg1.kept (setCell_grownN w1 (w.heap.size + 1) j (.int .i64 (v j : Int))) (fun e => by have := Option.some.inj e; omega) (fun e => by have := Option.some.inj e; omega)
      have hjI : (j : Int) < 11 := by omega
      clear HL HB1 HB2 HBe hbe1 hN2 hat hlx hvj hwx hwc
      go_wp2
      go_roundw
      case rel => exact ⟨_, cnt1, hrg2, HL', HB1', HB2', HBe'⟩
      case measure => rw [hrg2.left_eq, hrg.left_eq]; exact hlt
end Go.Proofs.YtojbghmlcgadeabDoor
namespace Go.Proofs.YtojbghmlcgadeabDoor
open Go.RowKit
open Go.Maps (Keyed int_keyed keyOf_int_mk has IsMap)

/-- The places below k alone. -/
def cutV (v : Nat → Nat) (k : Nat) : Nat → Nat := fun j => if j < k then v j else 0
theorem cutV_skip {v : Nat → Nat} {k : Nat} (h : v k = 0) : cutV v (k + 1) = cutV v k := by
  funext j
  unfold cutV
  by_cases e : j = k
  · subst e; rw [if_pos (Nat.lt_succ_self _), if_neg (Nat.lt_irrefl _), h]
  · by_cases e2 : j < k
    · rw [if_pos (by omega), if_pos e2]
    · rw [if_neg (by omega), if_neg e2]
theorem cutV_all {v : Nat → Nat} {k : Nat} (h : ∀ j, k ≤ j → v j = 0) : cutV v k = v := by
  funext j
  unfold cutV
  split
  · rfl
  · exact (h j (by omega)).symm
theorem FM.zero (moved : Nat) : FM (.map []) moved (fun _ => 0) := fun x => ⟨⟨fun h => by simp [has] at h, fun ⟨_, _, h⟩ => absurd rfl h⟩, fun _ _ h => absurd rfl h⟩
theorem FM.congr {D : DataW Unit} {moved : Nat} {u v : Nat → Nat} (h : FM D moved u) (e : ∀ j, u j = v j) : FM D moved v := by
  have : u = v := funext e
  rw [← this]; exact h
theorem FM.put {D : DataW Unit} {v : Nat → Nat} {k : Nat} (hD : IsMap D) (h : FM D 0 (cutV v k)) (hk : v k ≠ 0) : FM (D.put (.int .i64 (k : Int)) (.lit (.int .i64 (v k : Int)))) 0 (cutV v (k + 1)) := by
  intro x
  have hc : ∀ j, cutV v (k + 1) j = if j = k then v k else cutV v k j := fun j => by
    unfold cutV
    by_cases e : j = k
    · subst e; rw [if_pos (Nat.lt_succ_self _), if_pos rfl]
    · rw [if_neg e]
      by_cases e2 : j < k
      · rw [if_pos (by omega), if_pos e2]
      · rw [if_neg (by omega), if_neg e2]
  by_cases e : x = (k : Int)
  · subst e
    rw [Maps.has_put_same (k := .int .i64 (k : Int)) hD trivial]
    refine ⟨⟨fun _ => ⟨k, by simp, by rw [hc, if_pos rfl]; exact hk⟩, fun _ => rfl⟩, fun j hj hne z => ?_⟩
    have : j = k := by simp at hj; omega
    subst this
    rw [Maps.atKey_put_same (k := .int .i64 (j : Int)) hD trivial, hc, if_pos rfl]
  · have hne : Lit.int .i64 x ≠ Lit.int .i64 (k : Int) := fun h => e (Lit.int.inj h).2
    rw [Maps.has_put_other hne]
    have hj : ∀ j : Nat, x + ((0 : Nat) : Int) = j → j ≠ k := fun j h1 h2 => e (by subst h2; simp at h1; exact h1)
    refine ⟨⟨fun h1 => ?_, fun ⟨j, h1, h2⟩ => ?_⟩, fun j h1 h2 z => ?_⟩
    · obtain ⟨j, h2, h3⟩ := (h x).1.1 h1
      exact ⟨j, h2, by rw [hc, if_neg (hj j h2)]; exact h3⟩
    · rw [hc, if_neg (hj j h1)] at h2
      exact (h x).1.2 ⟨j, h1, h2⟩
    · rw [hc, if_neg (hj j h1)] at h2 ⊢
      rw [Maps.atKey_put_other hne]
      exact (h x).2 j h1 h2 z

theorem wf_nat {n : Nat} (h : n ≤ 1000000) : (Lit.int .i64 (n : Int)).wf = true := by simp [Lit.wf, IntKind.min, IntKind.max, IntKind.bits, IntKind.signed]; omega
set_option maxHeartbeats 1000000 in
set_option maxRecDepth 100000 in
theorem frontOf_any (v : Nat → Nat) (w : World) (hv : ∀ j, v j ≤ 1000000) :
    Calls Tryd.prog 65 #[aggN (endL v)] w fun e w' => ∃ bM D, e = .returned (.agg #[.int .i64 0, .map (some bM)]) ∧ w.heap.size ≤ bM ∧ Hid (w'.ownsMap Tryd.prog 3 (plainElem Tryd.prog 3) bM 11 D) ∧ Hid (FM D 0 (cutV v 11)) ∧ Below w.heap.size w w' := by
  have HV : Hid (∀ j, v j ≤ 1000000) := hv
  have hmm := @run_makeMap Tryd.prog
  clear hv
  go_enter Tryd.func65, Tryd.ntmps65
  go_wp2_with (first | (refine wpList_boxN (w := w) rfl 63 _ rfl (endL v) rfl ?_; intro w1 hB1 hb1 hs1) | (refine wpList_loadNW rfl 63 _ rfl w.heap.size 63 (endL v) rfl (at11 v) (hB1.later (by repeat (first | exact Below.refl _ _ | (refine Below.alloc ?_ (by simp; try omega) _)))) ?_))
  have hsA : (w1.alloc (.cells #[.int .i64 0, .map none] 81)).heap.size = w.heap.size + 1 + 1 := by simp [hs1]
  have hsB : ((w1.alloc (.cells #[.int .i64 0, .map none] 81)).alloc (.map #[] 0)).heap.size = w.heap.size + 1 + 1 + 1 := by simp [hs1]
  have hbF : Below w.heap.size w (((w1.alloc (.cells #[.int .i64 0, .map none] 81)).alloc (.map #[] 0)).alloc (.cells #[.int .i64 0, .map (some (w.heap.size + 1 + 1))] 81)) := ((hb1.alloc hb1.size _).alloc (by rw [hsA]; omega) _).alloc (by rw [hsB]; omega) _
  have HOM : Hid ((((w1.alloc (.cells #[.int .i64 0, .map none] 81)).alloc (.map #[] 0)).alloc (.cells #[.int .i64 0, .map (some (w.heap.size + 1 + 1))] 81)).ownsMap (H := Unit) Tryd.prog 3 (plainElem Tryd.prog 3) (w.heap.size + 1 + 1) 0 (.map [])) := by
    have := World.ownsMap_made (H := Unit) (w1.alloc (.cells #[.int .i64 0, .map none] 81)) Tryd.prog 3 (plainElem Tryd.prog 3)
    rw [hsA] at this
    exact this.alloc _
  have key : ∀ (W : World) (cs : Array Value) (t : TypeId) (i : Nat), (W.alloc (.cells cs t)).cell? ⟨W.heap.size, i, none⟩ = cs[i]? := fun W cs t i => by simp
  have kF := fun i => key ((w1.alloc (.cells #[.int .i64 0, .map none] 81)).alloc (.map #[] 0)) #[.int .i64 0, .map (some (w.heap.size + 1 + 1))] 81 i
  rw [hsB] at kF
  have kR : ∀ i, (((w1.alloc (.cells #[.int .i64 0, .map none] 81)).alloc (.map #[] 0)).alloc (.cells #[.int .i64 0, .map (some (w.heap.size + 1 + 1))] 81)).cell? ⟨w.heap.size + 1, i, none⟩ = (#[.int .i64 0, .map none] : Array Value)[i]? := fun i => by
    rw [World.cell?_alloc_lt _ _ _ (by show w.heap.size + 1 < _; rw [hsB]; omega), World.cell?_alloc_lt _ _ _ (by show w.heap.size + 1 < _; rw [hsA]; omega), ← hs1]
    exact key w1 _ _ i
  have kf : ∀ b i, w.heap.size ≤ b → (((w1.alloc (.cells #[.int .i64 0, .map none] 81)).alloc (.map #[] 0)).alloc (.cells #[.int .i64 0, .map (some (w.heap.size + 1 + 1))] 81)).frozen? ⟨w.heap.size + 1, i, none⟩ = false := fun b i _ => by
    rw [frozen?_alloc_cells, World.frozen?_alloc_past _ _ _ (by show w.heap.size + 1 < _; rw [hsA]; omega), frozen?_alloc_cells]
    have : w1.heap[w.heap.size + 1]? = none := by rw [← hs1]; simp
    simp [World.frozen?, this]
  generalize ((w1.alloc (.cells #[.int .i64 0, .map none] 81)).alloc (.map #[] 0)).alloc (.cells #[.int .i64 0, .map (some (w.heap.size + 1 + 1))] 81) = wF at *
  have HBF : Hid (Below w.heap.size w wF) := hbF
  have hszF : w.heap.size + 1 + 1 + 1 < wF.heap.size := World.block_lt_of_cell? wF _ (kF 0)
  have HQ : Hid (∀ W, wF.grownBy W (some (w.heap.size + 1 + 1)) → W.cell? ⟨w.heap.size + 1 + 1 + 1, 0, none⟩ = some (.int .i64 0) ∧ W.cell? ⟨w.heap.size + 1 + 1 + 1, 1, none⟩ = some (.map (some (w.heap.size + 1 + 1))) ∧ W.cell? ⟨w.heap.size + 1, 0, none⟩ = some (.int .i64 0) ∧ W.cell? ⟨w.heap.size + 1, 1, none⟩ = some (.map none) ∧ W.frozen? ⟨w.heap.size + 1, 0, none⟩ = false ∧ W.frozen? ⟨w.heap.size + 1, 1, none⟩ = false) := fun W hW => by
    have b1 := hW.block (w.heap.size + 1 + 1 + 1) hszF (by simp)
    have b2 := hW.block (w.heap.size + 1) (by omega) (by simp)
    exact ⟨by rw [blk_cell b1]; exact kF 0, by rw [blk_cell b1]; exact kF 1, by rw [blk_cell b2]; exact kR 0, by rw [blk_cell b2]; exact kR 1, by rw [blk_frozen b2]; exact kf w.heap.size 0 (Nat.le_refl _), by rw [blk_frozen b2]; exact kf w.heap.size 1 (Nat.le_refl _)⟩
  have HF0 : Hid (FM (.map []) 0 (cutV v 0)) := (FM.zero 0).congr (fun j => (if_neg (Nat.not_lt_zero _)).symm)
  have HG0 : Hid (wF.grownBy wF (some (w.heap.size + 1 + 1))) := World.grownBy.refl _ _
  clear hsA hsB hbF key kF kR kf hB1 hb1 hmm
  go_loopw [9] (fun s9 wr => ∃ k : Nat, k ≤ 11 ∧ s9 = .int .i64 (k : Int) ∧ ∃ D : DataW Unit, Hid (wr.ownsMap Tryd.prog 3 (plainElem Tryd.prog 3) (w.heap.size + 1 + 1) k D) ∧ Hid (FM D 0 (cutV v k)) ∧ Hid (wF.grownBy wr (some (w.heap.size + 1 + 1)))) (fun s9 _ => 11 - (intOf s9).toNat)
  case atStart => exact ⟨0, Nat.zero_le _, rfl, _, HOM, HF0, HG0⟩
  case round =>
    obtain ⟨k, hk, rfl, D, HO, HFD, HG⟩ := hrel
    clear HOM HF0 HG0
    obtain ⟨p1, p2, p3, p4, p5, p6⟩ := HQ.out wr HG.out
    by_cases hlt : k < 11
    · have hkI : (k : Int) < 11 := by omega
      have hge := endL_get v hlt
      have hvk := HV.out k
      by_cases hz : v k = 0
      · have HS : Hid (cutV v (k + 1) = cutV v k) := cutV_skip hz
        rw [hz] at hge
        go_wp2_with (refine wpList_indexN rfl 63 3 _ _ rfl (endL v) k rfl rfl (by rw [endL_length]; exact u_ends) u_int int_size (by rw [endL_length]; exact hlt) ?_; rw [hge])
        go_roundw
        case rel => exact ⟨k + 1, by omega, by go_num, D, HO.out.mono (Nat.le_succ _), by rw [HS.out]; exact HFD, HG⟩
        case measure => simp [intOf]; omega
      · have HP : Hid (FM (D.put (.int .i64 (k : Int)) (.lit (.int .i64 (v k : Int)))) 0 (cutV v (k + 1))) := HFD.out.put HO.out.isMap hz
        have hwv := wf_nat hvk
        have hwk : (Lit.int .i64 (k : Int)).wf = true := wf_nat (by omega)
        generalize v k = vk at *
        have hvI : (0 : Int) < (vk : Int) := by omega
        go_wp2_with (first | (refine wpList_indexN rfl 63 3 _ _ rfl (endL v) k rfl rfl (by rw [endL_length]; exact u_ends) u_int int_size (by rw [endL_length]; exact hlt) ?_; rw [hge]) | (at_mapUpdate; refine wpList_mapUpdate_own _ rfl _ _ _ 79 rfl 3 3 intK u_ways _ (w.heap.size + 1 + 1) _ _ rfl HO.out (by unfold maxLen; omega) _ _ _ rfl rfl (keyOf_int_mk u_int hwk) _ [] (plainElem_int u_int hwv) ?_; intro w2 hout2 hg2; go_frame))
        go_roundw
        case rel => exact ⟨k + 1, by omega, by go_num, _, hout2, HP, grownBy_trans HG.out hg2⟩
        case measure => simp [intOf]; omega
    · have e : k = 11 := by omega
      subst e
      have HB : Hid (Below w.heap.size w wr) := HBF.out.grown HG.out HBF.out.size (fun k e => by cases e; omega)
      have hszr : w.heap.size + 1 < wr.heap.size := World.block_lt_of_cell? wr _ p3
      have HO2 : Hid (∀ a b : Value, ((wr.setCell ⟨w.heap.size + 1, 0, none⟩ a).setCell ⟨w.heap.size + 1, 1, none⟩ b).ownsMap Tryd.prog 3 (plainElem Tryd.prog 3) (w.heap.size + 1 + 1) 11 D) := fun a b => (HO.out.kept (setCell_grownN _ _ _ _) (by simp)).kept (setCell_grownN _ _ _ _) (by simp)
      clear HO
      have r0 := cell_set (x := .int .i64 0) p3
      have r1 : ((wr.setCell ⟨w.heap.size + 1, 0, none⟩ (.int .i64 0)).setCell ⟨w.heap.size + 1, 1, none⟩ (.map (some (w.heap.size + 1 + 1)))).cell? ⟨w.heap.size + 1, 1, none⟩ = some (.map (some (w.heap.size + 1 + 1))) := cell_set (u := .map none) ((cell_set_off (.inr (by decide))).trans p4)
      go_wp2
      exact bodyPost_ret (v := .agg #[.int .i64 0, .map (some (w.heap.size + 1 + 1))]) (by simp [results, Tryd.results65, go_sem, r0, r1]) rfl ⟨w.heap.size + 1 + 1, D, rfl, by omega, HO2.out _ _, HFD, (HB.out.setCell (by show w.heap.size ≤ w.heap.size + 1; omega) _).setCell (by show w.heap.size ≤ w.heap.size + 1; omega) _⟩
end Go.Proofs.YtojbghmlcgadeabDoor
namespace Go.Proofs.YtojbghmlcgadeabDoor
open Go.RowKit
open Go.Maps (Keyed int_keyed keyOf_int_mk has IsMap)

theorem cell_ne_map {H : Type} {w : World} {b o bM m : Nat} {u : Value} {P : Program} {k : TypeId} {R : Value → Option (DataW H × List MemPlace)} {D : DataW H} (h : w.cell? ⟨b, o, none⟩ = some u) (g : w.ownsMap P k R bM m D) : b ≠ bM := by
  rintro rfl
  obtain ⟨es, clock, hb, _⟩ := g
  simp [World.cell?, hb] at h
/-- A front in memory. -/
def FrontIn (w : World) (bF bM m moved : Nat) (v : Nat → Nat) : Prop :=
  ∃ D : DataW Unit, w.cell? ⟨bF, 0, none⟩ = some (.int .i64 (moved : Int)) ∧ w.cell? ⟨bF, 1, none⟩ = some (.map (some bM)) ∧ (∀ i, w.frozen? ⟨bF, i, none⟩ = false) ∧ w.ownsMap Tryd.prog 3 (plainElem Tryd.prog 3) bM m D ∧ FM D moved v
/-- What is left of its map while letters are gone through: what is to come, and what goes on. -/
structure Sift (ws : List Int) (z : Int) (moved : Nat) (D Dc : DataW Unit) (left : Lit → Bool) : Prop where
  sub : ∀ x : Int, left (.int .i64 x) = true → has Dc (.int .i64 x) = true
  iff : ∀ x : Int, has Dc (.int .i64 x) = true ↔ has D (.int .i64 x) = true ∧ (left (.int .i64 x) = true ∨ ∃ j : Nat, x + moved = j ∧ ws[j]? = some z)
  at_ : ∀ x : Int, has Dc (.int .i64 x) = true → ∀ y, Dc.atKey (.int .i64 x) y = D.atKey (.int .i64 x) y
theorem Sift.start (ws : List Int) (z : Int) (moved : Nat) (D : DataW Unit) : Sift ws z moved D D (has D) := ⟨fun _ h => h, fun _ => ⟨fun h => ⟨h, .inl h⟩, fun h => h.1⟩, fun _ _ _ => rfl⟩
theorem struck_iff {left : Lit → Bool} {x y : Int} : (left (.int .i64 y) && !(Lit.int .i64 y).sameKey (.int .i64 x)) = true ↔ left (.int .i64 y) = true ∧ y ≠ x := by
  rw [same_int]; simp
theorem Sift.stay {ws : List Int} {z x : Int} {moved j : Nat} {D Dc : DataW Unit} {left : Lit → Bool} (h : Sift ws z moved D Dc left) (hj : x + moved = j) (hk : ws[j]? = some z) : Sift ws z moved D Dc (fun l => left l && !l.sameKey (.int .i64 x)) := by
  refine ⟨fun y hy => h.sub y (struck_iff.1 hy).1, fun y => ?_, h.at_⟩
  rw [h.iff]
  refine ⟨fun ⟨h1, h2⟩ => ⟨h1, ?_⟩, fun ⟨h1, h2⟩ => ⟨h1, h2.imp (fun g => (struck_iff.1 g).1) id⟩⟩
  by_cases e : y = x
  · exact .inr ⟨j, by rw [e]; exact hj, hk⟩
  · exact h2.imp (fun g => struck_iff.2 ⟨g, e⟩) id
theorem Sift.drop {ws : List Int} {z x : Int} {moved j : Nat} {D Dc : DataW Unit} {left : Lit → Bool} (h : Sift ws z moved D Dc left) (hj : x + moved = j) (hk : ws[j]? ≠ some z) : Sift ws z moved D (Dc.del (.int .i64 x)) (fun l => left l && !l.sameKey (.int .i64 x)) := by
  have hne : ∀ {y : Int}, y ≠ x → Lit.int .i64 y ≠ .int .i64 x := fun h e => h (Lit.int.inj e).2
  refine ⟨fun y hy => ?_, fun y => ?_, fun y hy => ?_⟩
  · have g := struck_iff.1 hy
    rw [Maps.has_del_other (hne g.2)]; exact h.sub y g.1
  · by_cases e : y = x
    · subst e
      rw [Maps.has_del_same]
      refine ⟨fun h => (by cases h), fun hh => ?_⟩
      rcases hh.2 with h2 | ⟨j', h3, h4⟩
      · exact absurd rfl (struck_iff.1 h2).2
      · have : j' = j := by omega
        subst this; exact absurd h4 hk
    · rw [Maps.has_del_other (hne e), h.iff]
      exact ⟨fun ⟨h1, h2⟩ => ⟨h1, h2.imp (fun g => struck_iff.2 ⟨g, e⟩) id⟩, fun ⟨h1, h2⟩ => ⟨h1, h2.imp (fun g => (struck_iff.1 g).1) id⟩⟩
  · by_cases e : y = x
    · subst e; rw [Maps.has_del_same] at hy; cases hy
    · rw [Maps.has_del_other (hne e)] at hy
      intro y'
      rw [Maps.atKey_del_other (hne e)]; exact h.at_ y hy y'
theorem Sift.done {ws : List Int} {z : Int} {moved : Nat} {D Dc : DataW Unit} {left : Lit → Bool} {v : Nat → Nat} (h : Sift ws z moved D Dc left) (hl : ∀ l, left l = false) (hF : FM D moved v) : FM Dc (moved + 1) (letNx ws z v) := by
  have key : ∀ x : Int, has Dc (.int .i64 x) = true ↔ ∃ j : Nat, x + moved = j ∧ v j ≠ 0 ∧ ws[j]? = some z := fun x => by
    rw [h.iff, (hF x).1]
    constructor
    · rintro ⟨⟨j, h1, h2⟩, h3⟩
      rcases h3 with h3 | ⟨j', h4, h5⟩
      · rw [hl] at h3; cases h3
      · have : j' = j := by omega
        subst this; exact ⟨j', h1, h2, h5⟩
    · rintro ⟨j, h1, h2, h3⟩
      exact ⟨⟨j, h1, h2⟩, .inr ⟨j, h1, h3⟩⟩
  intro x
  refine ⟨⟨fun h1 => ?_, fun ⟨j, h1, h2⟩ => ?_⟩, fun j h1 h2 y => ?_⟩
  · obtain ⟨j, h2, h3, h4⟩ := (key x).1 h1
    exact ⟨j + 1, by omega, by simp only [letNx]; rw [if_pos h4]; exact h3⟩
  · cases j with
    | zero => exact absurd rfl h2
    | succ j =>
      simp only [letNx] at h2
      split at h2
      · exact (key x).2 ⟨j, by omega, h2, ‹_›⟩
      · exact absurd rfl h2
  · cases j with
    | zero => exact absurd rfl h2
    | succ j =>
      simp only [letNx] at h2 ⊢
      split at h2
      · rename_i hw
        rw [if_pos hw, h.at_ x ((key x).2 ⟨j, by omega, h2, hw⟩)]
        exact (hF x).2 j (by omega) h2 y
      · exact absurd rfl h2

set_option maxHeartbeats 1000000 in
set_option maxRecDepth 100000 in
theorem passLetter_any (bC bF bM m moved : Nat) (v : Nat → Nat) (ws : List Int) (aw : Option Addr) (cw : Nat) (z : Int) (w : World) (k1 : w.cell? ⟨bC, 1, none⟩ = some (.slice aw ws.length cw)) (hws : Reads w aw ws) (hF : FrontIn w bF bM m moved v) (hv : ∀ j, v j ≠ 0 → j ≤ ws.length) (hn : ws.length ≤ 10) (hm : moved ≤ 1000) :
    Calls Tryd.prog 53 #[.pointer (some ⟨bC, 0, none⟩), .pointer (some ⟨bF, 0, none⟩), .int .i64 z] w fun e w' => e = .returned (.tuple #[]) ∧ FrontIn w' bF bM m (moved + 1) (letNx ws z v) ∧ Within w w' (fun b => b = bM ∨ b = bF) := by
  obtain ⟨D, c0, c1, hfr, hown, hFM⟩ := hF
  have nF := cell_ne_map c0 hown
  have nC := cell_ne_map k1 hown
  have hlM := hown.lt
  have hlF := World.block_lt_of_cell? w _ c0
  have HF : Hid (FM D moved v) := hFM
  have HV : Hid (∀ j, v j ≠ 0 → j ≤ ws.length) := hv
  have HOW : Hid (w.ownsMap Tryd.prog 3 (plainElem Tryd.prog 3) bM m D) := hown
  have HQ : Hid (∀ W, Within w W (fun b => b = bM) → W.cell? ⟨bF, 0, none⟩ = some (.int .i64 (moved : Int)) ∧ W.cell? ⟨bF, 1, none⟩ = some (.map (some bM)) ∧ (∀ i, W.frozen? ⟨bF, i, none⟩ = false) ∧ W.cell? ⟨bC, 1, none⟩ = some (.slice aw ws.length cw)) := fun W hW => by
    have e1 := hW.block bF hlF nF
    have e2 := hW.block bC (World.block_lt_of_cell? w _ k1) nC
    exact ⟨by rw [blk_cell e1]; exact c0, by rw [blk_cell e1]; exact c1, fun i => by rw [blk_frozen e1]; exact hfr i, by rw [blk_cell e2]; exact k1⟩
  have HWS : Hid (∀ W, Within w W (fun b => b = bM) → Reads W aw ws) := fun W hW => by
    rcases hws with h | ⟨b, off, rfl, hlt, hc⟩
    · exact .inl h
    · by_cases h0 : ws = []
      · exact .inl h0
      · have h1 := hc 0 (by cases ws <;> simp_all)
        have nb := cell_ne_map h1 hown
        exact .inr ⟨b, off, rfl, Nat.lt_of_lt_of_le hlt hW.size, fun i hi => by rw [blk_cell (hW.block b hlt nb)]; exact hc i hi⟩
  clear hFM hv hws hown k1 hfr
  go_enter Tryd.func53, Tryd.ntmps53
  go_wp2_with (at_range; refine wpList_range_own _ rfl _ 79 rfl 3 3 intK u_ways _ bM m D rfl HOW.out ?_; intro w3 hrg0 hg0 hs0)
  have HS0 : Hid (Sift ws z moved D D (has D)) := Sift.start ws z moved D
  have HW0 : Hid (Within w w3 (fun b => b = bM)) := Within.of_grown hg0 (fun k e => by cases e)
  clear c0 c1 hg0 hs0
  go_loopw [6] (fun _ wr => ∃ (left : Lit → Bool) (cnt : Nat) (Dc : DataW Unit), wr.ranges Tryd.prog 3 (plainElem Tryd.prog 3) bM w.heap.size m Dc left cnt ∧ Hid (Sift ws z moved D Dc left) ∧ Hid (Within w wr (fun b => b = bM))) (fun _ wr => wr.rangeLeft bM w.heap.size)
  case atStart => exact ⟨_, _, D, hrg0, HS0, HW0⟩
  case round =>
    clear HS0 HW0 hrg0
    obtain ⟨left, cnt, Dc, hrg, HS, HW⟩ := hrel
    go_wp2_with (at_next; refine wpList_next_ranges_ii _ rfl _ rfl 3 3 .i64 .i64 intK u_int u_int bM w.heap.size m _ _ _ rfl hrg ?_ ?_)
    · intro hc0 hl0
      obtain ⟨p0, p1, pf, _⟩ := HQ.out wr HW.out
      have HFM : Hid (FM Dc (moved + 1) (letNx ws z v)) := HS.out.done hl0 HF.out
      have HO : Hid (wr.ownsMap Tryd.prog 3 (plainElem Tryd.prog 3) bM m Dc) := hrg.owns
      have pf0 := pf 0
      have HPF : Hid (∀ i, wr.frozen? ⟨bF, i, none⟩ = false) := pf
      clear HS hrg hl0 HQ HWS pf
      go_wp2
      go_end0
      refine ⟨rfl, ⟨Dc, cell_set p0, (cell_set_off (.inr (by decide))).trans p1, fun i => by rw [World.frozen?_setCell]; exact HPF.out i, HO.out.kept (setCell_grownN _ _ _ _) (fun e => nF (Option.some.inj e).symm), HFM.out⟩, ?_⟩
      exact (HW.out.mono (fun k h => .inl h)).setCell _ _ (.inr rfl)
    · intro x c w1 cnt1 hwx hwc hlx hat hrg1 hlt hg1 hs1 hen
      obtain ⟨j, hj, hvj⟩ := (HF.out x).1.1 ((HS.out.iff x).1 (HS.out.sub x hlx)).1
      have hjn := HV.out j hvj
      have HW1 : Hid (Within w w1 (fun b => b = bM)) := HW.out.comp (Within.of_grown (S := fun b => b = w.heap.size) hg1 (fun k e => by cases e; rfl)) (fun k e => .inr (by omega))
      obtain ⟨p0, p1, _, p3⟩ := HQ.out w1 HW1.out
      have hwkey := keyOf_int_mk (P := Tryd.prog) (k := 3) u_int hwx
      clear hat hg1 hs1 hwc HW
      by_cases hend : j = ws.length
      · have hb : ((j : Int) == (ws.length : Int)) = true := by simp [hend]
        have HSd : Hid (Sift ws z moved D (Dc.del (.int .i64 x)) (fun l => left l && !l.sameKey (.int .i64 x))) := HS.out.drop hj (by rw [List.getElem?_eq_none (by omega)]; simp)
        clear HS hwx hvj hlx
        go_wp2_with (at_delete; refine wpList_delete_ranges _ rfl _ _ 79 3 rfl 3 intK u_ways _ bM w.heap.size m _ _ _ rfl hrg1 _ _ rfl hwkey ?_; intro w2 cnt2 hrg2 hle hturn; go_frame)
        rw [Maps.strike_twice] at hrg2
        go_roundw
        case rel => exact ⟨_, cnt2, _, hrg2, HSd, HW1.out.trans (Within.of_grown hturn.grown (fun k e => by cases e; rfl))⟩
        case measure => rw [hrg2.left_eq, hrg.left_eq]; omega
      · have hb : ((j : Int) == (ws.length : Int)) = false := by simp; omega
        obtain ⟨bw, ofw, rfl, hbw, hcw⟩ := (HWS.out w1 HW1.out).at (show j < ws.length by omega)
        have qw := hcw j (by omega)
        have hjl : j < ws.length := by omega
        rw [List.getD_eq_getElem?_getD, List.getElem?_eq_getElem hjl, Option.getD_some] at qw
        have ei : ws[j]? = some ws[j] := List.getElem?_eq_getElem hjl
        have hjI : (j : Int) < (ws.length : Int) := by omega
        by_cases he : ws[j] = z
        · have HSs : Hid (Sift ws z moved D Dc (fun l => left l && !l.sameKey (.int .i64 x))) := HS.out.stay hj (by rw [ei, he])
          generalize ws[j] = y at *
          have hnb : (y != z) = false := by simp [he]
          clear HS hwx hvj hlx hcw ei
          go_wp2
          go_roundw
          case rel => exact ⟨_, cnt1, Dc, hrg1, HSs, HW1⟩
          case measure => rw [hrg1.left_eq, hrg.left_eq]; exact hlt
        · have HSd : Hid (Sift ws z moved D (Dc.del (.int .i64 x)) (fun l => left l && !l.sameKey (.int .i64 x))) := HS.out.drop hj (by rw [ei]; exact fun e => he (Option.some.inj e))
          generalize ws[j] = y at *
          have hnb : (y != z) = true := by simp [he]
          clear HS hwx hvj hlx hcw ei
          go_wp2_with (at_delete; refine wpList_delete_ranges _ rfl _ _ 79 3 rfl 3 intK u_ways _ bM w.heap.size m _ _ _ rfl hrg1 _ _ rfl hwkey ?_; intro w2 cnt2 hrg2 hle hturn; go_frame)
          rw [Maps.strike_twice] at hrg2
          go_roundw
          case rel => exact ⟨_, cnt2, _, hrg2, HSd, HW1.out.trans (Within.of_grown hturn.grown (fun k e => by cases e; rfl))⟩
          case measure => rw [hrg2.left_eq, hrg.left_eq]; omega
end Go.Proofs.YtojbghmlcgadeabDoor
namespace Go.Proofs.YtojbghmlcgadeabDoor
open Go.RowKit
open Go.Maps (Keyed has IsMap)

/-- How an array of ways reads as an element of a map. -/
def natB : Value → Bool
  | .int .i64 a => decide (0 ≤ a)
  | _ => false
def natD : Value → DataW Unit
  | .int _ a => .lit (.int .i64 a)
  | _ => .lit (.int .i64 0)
def RE : Value → Option (DataW Unit × List MemPlace)
  | .agg cs => if cs.toList.all natB then some (.agg (cs.toList.map natD), []) else none
  | _ => none
def encE (vs : List Nat) : DataW Unit := .agg (vs.map fun (n : Nat) => .lit (.int .i64 (n : Int)))
theorem RE_mk (vs : List Nat) : RE (aggN vs) = some (encE vs, []) := by
  have h1 : ((cellsN vs).toList).all natB = true := by
    simp only [cellsN, List.all_eq_true]
    intro u hu
    simp only [List.mem_map] at hu
    obtain ⟨n, _, rfl⟩ := hu
    simp [vI, natB]
  have h2 : ((cellsN vs).toList).map natD = vs.map fun (n : Nat) => .lit (.int .i64 (n : Int)) := by
    simp only [cellsN, List.map_map]
    refine List.map_congr_left (fun n _ => ?_)
    rfl
  show (if ((cellsN vs).toList).all natB then some (DataW.agg (((cellsN vs).toList).map natD), ([] : List MemPlace)) else none) = _
  rw [if_pos h1, h2]; rfl
theorem natB_inv {u : Value} (h : natB u = true) : ∃ n : Nat, u = vI n := by
  unfold natB at h
  split at h
  · rename_i a
    exact ⟨a.toNat, by unfold vI; congr 1; have := of_decide_eq_true h; omega⟩
  · cases h
theorem all_inv : ∀ {l : List Value}, l.all natB = true → ∃ vs : List Nat, l = vs.map vI
  | [], _ => ⟨[], rfl⟩
  | u :: l, h => by
    simp only [List.all_cons, Bool.and_eq_true] at h
    obtain ⟨n, rfl⟩ := natB_inv h.1
    obtain ⟨vs, rfl⟩ := all_inv h.2
    exact ⟨n :: vs, rfl⟩
theorem encE_inj {u v : List Nat} (h : encE u = encE v) : u = v := by
  have h1 : (u.map fun (n : Nat) => (DataW.lit (.int .i64 (n : Int)) : DataW Unit)) = v.map fun (n : Nat) => .lit (.int .i64 (n : Int)) := DataW.agg.inj h
  have inj : Function.Injective (fun n : Nat => (DataW.lit (.int .i64 (n : Int)) : DataW Unit)) := fun a b e => by
    have := (Lit.int.inj (DataW.lit.inj e)).2; omega
  exact (List.map_inj_right (fun a b e => inj e)).1 h1
theorem RE_inv {v : Value} {vs : List Nat} {ps : List MemPlace} (h : RE v = some (encE vs, ps)) : v = aggN vs := by
  cases v with
  | agg cs =>
    simp only [RE] at h
    split at h
    · rename_i ha
      obtain ⟨us, hu⟩ := all_inv ha
      have e1 : cs = cellsN us := by
        apply Array.toList_inj.1
        rw [hu]; simp [cellsN]
      subst e1
      have := RE_mk us
      simp only [aggN, RE] at this
      rw [if_pos ha] at this
      have h2 : (encE vs, ps) = (encE us, ([] : List MemPlace)) := by
        have := h.symm.trans this
        exact Option.some.inj this
      rw [encE_inj (Prod.mk.inj h2).1]; rfl
    · cases h
  | _ => simp [RE] at h

/-- The keys: a part and a place. -/
def klS (a b : Int) : Lit := .string (keyBytes [.int .i64 a, .int .i64 b])
def spotV (a b : Int) : Value := .agg #[.int .i64 a, .int .i64 b]
theorem Tryd.laidC : laidOutB Tryd.prog = true := by kernel_rfl
theorem spot_row : (106 : TypeId) < Tryd.prog.types.size := of_decide_eq_true (by kernel_rfl)
theorem u_known : Tryd.prog.underlying 59 = some (.map 106 63) := by kernel_rfl
theorem spotK : Keyed Tryd.prog 106 := Keyed.of_law (deep_law_laid Tryd.laidC (m := 2) (by omega) spot_row (by kernel_rfl) (by kernel_rfl))
theorem spot_cells : Tryd.prog.cellsOf 106 = 2 := by kernel_rfl
theorem int_cells : Tryd.prog.cellsOf 3 = 1 := by kernel_rfl
theorem spot_key : Tryd.prog.keyType 106 = true := by kernel_rfl
theorem size_succ {n k : Nat} (h : k < n) : ∃ m, n = m + 1 := ⟨n - 1, by omega⟩
theorem key_spot {a b : Int} (ha : (Lit.int .i64 a).wf = true) (hb : (Lit.int .i64 b).wf = true) : keyOf Tryd.prog 106 (spotV a b) = some (klS a b) := by
  obtain ⟨m, hm⟩ := size_succ spot_row
  unfold keyOf spotV
  simp only [Tryd.underlying106]
  rw [if_pos (by simp [spot_key, Value.formed, Tryd.underlying106, spot_cells]), hm]
  unfold Program.keyLits
  simp only [Tryd.underlying106, Value.cells]
  rw [if_pos ⟨by rw [spot_cells]; rfl, by simp⟩]
  simp [int_cells, Program.keyLits, ha, hb, klS]
theorem klS_inj {a b c d : Int} (ha : (Lit.int .i64 a).wf = true) (hb : (Lit.int .i64 b).wf = true) (hc : (Lit.int .i64 c).wf = true) (hd : (Lit.int .i64 d).wf = true) (h : klS a b = klS c d) : a = c ∧ b = d := by
  have := spotK.inj (key_spot ha hb) (h ▸ key_spot hc hd)
  simp only [spotV, Value.agg.injEq, Array.mk.injEq, List.cons.injEq, Value.int.injEq, and_true, true_and] at this
  exact this

section
variable (P : List (List (List Int))) (ws : List Int) (w0 : World) (bC bK : Nat) (aP : Option Addr) (cP : Nat) (aw : Option Addr) (cw : Nat)
/-- What it knows is so. -/
def KnownAt (D : DataW Unit) : Prop := ∀ l, has D l = true → ∃ k i : Nat, k < P.length ∧ i ≤ ws.length ∧ l = klS k i ∧ ∀ z, D.atKey l z = encE (endL (way P ws k i))
structure CIn (w : World) : Prop where
  low : Below w0.heap.size w0 w
  lC : w0.heap.size ≤ bC
  lK : w0.heap.size ≤ bK
  c0 : w.cell? ⟨bC, 0, none⟩ = some (.slice aP P.length cP)
  c1 : w.cell? ⟨bC, 1, none⟩ = some (.slice aw ws.length cw)
  c2 : w.cell? ⟨bC, 2, none⟩ = some (.map (some bK))
  known : ∃ m D, w.ownsMap Tryd.prog 106 RE bK m D ∧ KnownAt P ws D
end
section
variable {P : List (List (List Int))} {ws : List Int} {w0 : World} {bC bK : Nat} {aP : Option Addr} {cP : Nat} {aw : Option Addr} {cw : Nat} {w w' : World}
theorem CIn.ne (h : CIn P ws w0 bC bK aP cP aw cw w) : bC ≠ bK := by
  obtain ⟨m, D, ho, _⟩ := h.known
  exact cell_ne_map h.c0 ho
theorem CIn.lt (h : CIn P ws w0 bC bK aP cP aw cw w) : bC < w.heap.size ∧ bK < w.heap.size := by
  obtain ⟨m, D, ho, _⟩ := h.known
  exact ⟨World.block_lt_of_cell? w _ h.c0, ho.lt⟩
theorem within_grown {w w' : World} {b : Nat} (h : Within w w' (fun k => k = b)) : w.grownBy w' (some b) := ⟨h.os, h.tape, h.output, h.size, fun k hk hne => h.block k hk (fun e => hne (by rw [e]))⟩
theorem CIn.kept {T : Nat → Prop} (h : CIn P ws w0 bC bK aP cP aw cw w) (hw : Within w w' T) (hT : ∀ b, T b → w0.heap.size ≤ b ∧ b ≠ bC ∧ b ≠ bK) : CIn P ws w0 bC bK aP cP aw cw w' := by
  obtain ⟨m, D, ho, hk⟩ := h.known
  obtain ⟨l1, l2⟩ := h.lt
  have e1 := hw.block bC l1 (fun e => (hT _ e).2.1 rfl)
  have e2 := hw.block bK l2 (fun e => (hT _ e).2.2 rfl)
  obtain ⟨es, clock, hb, r⟩ := ho
  exact ⟨hw.below h.low (fun b e => (hT b e).1), h.lC, h.lK, by rw [blk_cell e1]; exact h.c0, by rw [blk_cell e1]; exact h.c1, by rw [blk_cell e1]; exact h.c2, m, D, ⟨es, clock, by rw [e2]; exact hb, r⟩, hk⟩
theorem CIn.later (h : CIn P ws w0 bC bK aP cP aw cw w) (hb : Below w.heap.size w w') : CIn P ws w0 bC bK aP cP aw cw w' := h.kept (T := fun _ => False) (Within.of_below hb _) (fun _ e => e.elim)
/-- impl.counter.ofPart does what it should at a part and a place. -/
def OfPartOk (P : List (List (List Int))) (ws : List Int) (w0 : World) (bC bK : Nat) (aP : Option Addr) (cP : Nat) (aw : Option Addr) (cw : Nat) (k i : Nat) : Prop :=
  ∀ W : World, CIn P ws w0 bC bK aP cP aw cw W → Calls Tryd.prog 63 #[.pointer (some ⟨bC, 0, none⟩), .int .i64 (k : Int), .int .i64 (i : Int)] W fun e w' => e = .returned (aggN (endL (way P ws k i))) ∧ CIn P ws w0 bC bK aP cP aw cw w' ∧ Within W w' (fun b => b = bK)
end
end Go.Proofs.YtojbghmlcgadeabDoor
namespace Go.Proofs.YtojbghmlcgadeabDoor
open Go.RowKit
open Go.Maps (Keyed has IsMap)

theorem sumTo_flip {f g : Nat → Nat} {m p : Nat} (hp : p < m) (h0 : f p = 0) (h : ∀ i, i ≠ p → g i = f i) : sumTo g m = sumTo f m + g p := by
  induction m with
  | zero => omega
  | succ m ih =>
    rw [sumTo, sumTo]
    by_cases e : p = m
    · subst e
      rw [h0, sumTo_congr (f := g) (g := f) (fun i hi => h i (by omega))]; omega
    · rw [ih (by omega), h m (fun e2 => e e2.symm)]; omega
/-- The ways so far: of the places whose key is gone. -/
def accV (W : Nat → Nat → Nat) (n : Nat) (u : Nat → Nat) : Nat → Nat := fun j => capN (sumTo (fun i => u i * W i j) (n + 1))
theorem accV_le (W : Nat → Nat → Nat) (n : Nat) (u : Nat → Nat) (j : Nat) : accV W n u j ≤ 1000 := capN_le _
theorem accV_zero (W : Nat → Nat → Nat) (n : Nat) : accV W n (fun _ => 0) = fun _ => 0 := by
  funext j; unfold accV; rw [sumTo_zero (fun i _ => Nat.zero_mul _)]; rfl
theorem accV_step {W : Nat → Nat → Nat} {n p x : Nat} {u u' : Nat → Nat} (hp : p ≤ n) (h0 : u p = 0) (h1 : u' p = x) (h : ∀ i, i ≠ p → u' i = u i) (j : Nat) : accV W n u' j = capN (accV W n u j + x * W p j) := by
  unfold accV
  rw [capN_add, sumTo_flip (f := fun i => u i * W i j) (g := fun i => u' i * W i j) (p := p) (by omega) (by simp only [h0, Nat.zero_mul]) (fun i hi => by simp only [h i hi])]
  simp only [h1]
/-- .. and of the next one the places below m. -/
def midV (a b : Nat → Nat) (m : Nat) : Nat → Nat := fun j => if j < m then b j else a j
theorem midV_step (a b : Nat → Nat) (m j : Nat) : midV a b (m + 1) j = if j = m then b m else midV a b m j := by
  unfold midV
  by_cases e : j = m
  · subst e; rw [if_pos (Nat.lt_succ_self _), if_pos rfl]
  · rw [if_neg e]
    by_cases e2 : j < m
    · rw [if_pos (by omega), if_pos e2]
    · rw [if_neg (by omega), if_neg e2]

section
variable {P : List (List (List Int))} {ws : List Int} {w0 : World} {bC bK : Nat} {aP : Option Addr} {cP : Nat} {aw : Option Addr} {cw : Nat}
set_option maxHeartbeats 4000000 in
set_option maxRecDepth 100000 in
theorem passPart_any (bF bM m moved k : Nat) (v : Nat → Nat) (w : World) (hC : CIn P ws w0 bC bK aP cP aw cw w) (hF : FrontIn w bF bM m moved v) (nFC : bF ≠ bC) (nMK : bM ≠ bK) (nFK : bF ≠ bK) (hF0 : w0.heap.size ≤ bF) (hv : ∀ j, v j ≠ 0 → j ≤ ws.length) (hv1 : ∀ j, v j ≤ 1000) (hn : ws.length ≤ 10)
    (hcall : ∀ i, i ≤ ws.length → v i ≠ 0 → OfPartOk P ws w0 bC bK aP cP aw cw k i) :
    Calls Tryd.prog 54 #[.pointer (some ⟨bC, 0, none⟩), .pointer (some ⟨bF, 0, none⟩), .int .i64 (k : Int)] w fun e w' => e = .returned (.tuple #[]) ∧ (∃ bM', w.heap.size ≤ bM' ∧ FrontIn w' bF bM' 11 0 (partNx ws.length (way P ws k) v)) ∧ CIn P ws w0 bC bK aP cP aw cw w' ∧ Within w w' (fun b => b = bK ∨ b = bF) := by
  obtain ⟨D, c0, c1, hfr, hown, hFM⟩ := hF
  have nF := cell_ne_map c0 hown
  have hlM := hown.lt
  have hlF := World.block_lt_of_cell? w _ c0
  have hlC := hC.lt
  have hlow := hC.low.size
  have HLK : Hid (w0.heap.size ≤ bK) := hC.lK
  have HF : Hid (FM D moved v) := hFM
  have HV : Hid (∀ j, v j ≠ 0 → j ≤ ws.length) := hv
  have HV1 : Hid (∀ j, v j ≤ 1000) := hv1
  have HWL : Hid (∀ i j, way P ws k i j ≤ 1000) := way_le k
  have HWO : Hid (∀ i, i ≤ ws.length → v i ≠ 0 → OfPartOk P ws w0 bC bK aP cP aw cw k i) := hcall
  have HC : Hid (CIn P ws w0 bC bK aP cP aw cw w) := hC
  have HQ : Hid (∀ W, Within w W (fun b => b = bK) → W.cell? ⟨bF, 0, none⟩ = some (.int .i64 (moved : Int)) ∧ W.cell? ⟨bF, 1, none⟩ = some (.map (some bM)) ∧ (∀ i, W.frozen? ⟨bF, i, none⟩ = false)) := fun W hW => by
    have e1 := hW.block bF hlF nFK
    exact ⟨by rw [blk_cell e1]; exact c0, by rw [blk_cell e1]; exact c1, fun i => by rw [blk_frozen e1]; exact hfr i⟩
  have hbZ : Below w.heap.size w (w.alloc (.cells #[.int .i64 0, .int .i64 0, .int .i64 0, .int .i64 0, .int .i64 0, .int .i64 0, .int .i64 0, .int .i64 0, .int .i64 0, .int .i64 0, .int .i64 0] 63)) := (Below.refl _ _).alloc (Nat.le_refl _) _
  have c1b := (hbZ.cell (p := ⟨bF, 1, none⟩) hlF).trans c1
  have hNZ : Nums (w.alloc (.cells #[.int .i64 0, .int .i64 0, .int .i64 0, .int .i64 0, .int .i64 0, .int .i64 0, .int .i64 0, .int .i64 0, .int .i64 0, .int .i64 0, .int .i64 0] 63)) w.heap.size 63 (List.replicate 11 0) := Nums.new w 63 (List.replicate 11 0)
  have hsZ : (w.alloc (.cells #[.int .i64 0, .int .i64 0, .int .i64 0, .int .i64 0, .int .i64 0, .int .i64 0, .int .i64 0, .int .i64 0, .int .i64 0, .int .i64 0, .int .i64 0] 63)).heap.size = w.heap.size + 1 := by simp
  have hoZ := hown.kept (grownBy_of_below hbZ none) (by simp)
  obtain ⟨W, HWD⟩ : ∃ W, Hid (way P ws k = W) := ⟨_, rfl⟩
  have HEQ : Hid (partNx ws.length (way P ws k) v = accV W ws.length v) := by show _ = _; rw [← HWD.out]; rfl
  have HZ : Hid (∀ j, 11 ≤ j → accV W ws.length v j = 0) := fun j hj => by
    rw [← HWD.out]
    unfold accV
    rw [sumTo_zero (fun i hi => by rw [way_out k i j (by omega) (by omega), Nat.mul_zero])]; rfl
  rw [HWD.out] at HWL
  clear hFM hv hv1 hcall hown hfr hC c0
  go_enter Tryd.func54, Tryd.ntmps54
  go_wp2_with (at_range; refine wpList_range_own _ rfl _ 79 rfl 3 3 intK u_ways _ bM m D rfl hoZ ?_; intro w3 hrg0 hg0 hs0)
  rw [hsZ] at hrg0
  have HN0 : Hid (Nums w3 w.heap.size 63 (endL (accV W ws.length (goneV (has D) moved v)))) := by
    show Nums _ _ _ _
    rw [goneV_start HF.out, accV_zero, ← endL_zero]; exact hNZ.grown hg0 (by simp)
  have hb3 : Below w.heap.size w w3 := hbZ.grown hg0 (by rw [hsZ]; omega) (fun k e => by cases e)
  have HC0 : Hid (CIn P ws w0 bC bK aP cP aw cw w3) := HC.out.later hb3
  have HW0 : Hid (Within w w3 (fun b => b = bK)) := Within.of_below hb3 _
  have HL0 : Hid (∀ x : Int, has D (.int .i64 x) = true → has D (.int .i64 x) = true) := fun _ h => h
  clear hbZ c1b hNZ hsZ hoZ hg0 hs0 hb3 c1
  go_loopw [7, 8] (fun _ _ wr => ∃ (left : Lit → Bool) (cnt : Nat), wr.ranges Tryd.prog 3 (plainElem Tryd.prog 3) bM (w.heap.size + 1) m D left cnt ∧ Hid (∀ x : Int, left (.int .i64 x) = true → has D (.int .i64 x) = true) ∧ Hid (Nums wr w.heap.size 63 (endL (accV W ws.length (goneV left moved v)))) ∧ Hid (CIn P ws w0 bC bK aP cP aw cw wr) ∧ Hid (Within w wr (fun b => b = bK))) (fun _ _ wr => wr.rangeLeft bM (w.heap.size + 1))
  case atStart => exact ⟨_, _, hrg0, HL0, HN0, HC0, HW0⟩
  case round =>
    clear HL0 HN0 HC0 HW0 hrg0
    obtain ⟨wA, hwA⟩ : ∃ y, y = wr := ⟨_, rfl⟩
    subst hwA
    obtain ⟨left, cnt, hrg, HL, HN, HCr, HW⟩ := hrel
    go_wp2_with (at_next; refine wpList_next_ranges_ii _ rfl _ rfl 3 3 .i64 .i64 intK u_int u_int bM (w.heap.size + 1) m _ _ _ rfl hrg ?_ ?_)
    · intro hc0 hl0
      have HNe : Hid (Nums wA w.heap.size 63 (endL (accV W ws.length v))) := by have := HN.out; rw [goneV_end hl0] at this; exact this
      have Z : Hid (Calls Tryd.prog 65 #[aggN (endL (accV W ws.length v))] wA fun e w' => ∃ bM D, e = .returned (.agg #[.int .i64 0, .map (some bM)]) ∧ wA.heap.size ≤ bM ∧ Hid (w'.ownsMap Tryd.prog 3 (plainElem Tryd.prog 3) bM 11 D) ∧ Hid (FM D 0 (cutV (accV W ws.length v) 11)) ∧ Below wA.heap.size wA w') := frontOf_any _ wA (fun j => by have := accV_le W ws.length v j; omega)
      clear HL HN hrg hl0 HWO
      go_wp2_with (first | (refine wpList_loadNW rfl 63 _ rfl w.heap.size 63 (endL (accV W ws.length v)) rfl (at11 _) HNe.out ?_) | (go_at_call 65; refine Z.out.mono ?_; rintro e w5 ⟨bM5, D5, rfl, hM5, hO5, hF5, hb5⟩; have hW5 : Within w w5 (fun b => b = bK) := HW.out.trans (Within.of_below hb5 _); obtain ⟨p0, p1, pf⟩ := HQ.out w5 hW5; have pf0 := pf 0; have pf1 := pf 1))
      have hW5 : Within w w5 (fun b => b = bK) := HW.out.trans (Within.of_below hb5 _)
      have hbFM : bF ≠ bM5 := by have := HW.out.size; omega
      go_end0
      refine ⟨rfl, ⟨bM5, by have := HW.out.size; omega, D5, ?_, ?_, fun i => ?_, ?_, ?_⟩, ?_, ?_⟩
      · rw [cell_set_off (.inr (by decide))]; exact cell_set p0
      · exact cell_set (u := .map (some bM)) ((cell_set_off (.inr (by decide))).trans p1)
      · rw [World.frozen?_setCell, World.frozen?_setCell]; exact (HQ.out w5 hW5).2.2 i
      · exact (hO5.out.kept (setCell_grownN _ _ _ _) (fun e => hbFM (Option.some.inj e).symm)).kept (setCell_grownN _ _ _ _) (fun e => hbFM (Option.some.inj e).symm)
      · rw [HEQ.out]
        exact hF5.out.congr (fun j => congrFun (cutV_all HZ.out) j)
      · exact ((HCr.out.later hb5).kept (set_within w5 bF 0 _ (M := fun b => b = bF) rfl) (fun b e => by subst e; exact ⟨hF0, nFC, nFK⟩)).kept (set_within _ bF 1 _ (M := fun b => b = bF) rfl) (fun b e => by subst e; exact ⟨hF0, nFC, nFK⟩)
      · exact ((hW5.mono (fun k h => .inl h)).setCell _ _ (.inr rfl)).setCell _ _ (.inr rfl)
    · intro x c w1 cnt1 hwx hwc hlx hat hrg1 hlt hg1 hs1 hen
      obtain ⟨p, hp, hvp⟩ := (HF.out x).1.1 (HL.out x hlx)
      have hpn := HV.out p hvp
      obtain rfl : c = (v p : Int) := by
        have h1 := hat (.lit (.int .i64 0))
        rw [(HF.out x).2 p hp hvp] at h1
        exact (Lit.int.inj (DataW.lit.inj h1)).2.symm
      have HW1 : Hid (Within w w1 (fun b => b = bK)) := HW.out.comp (Within.of_grown (S := fun b => b = w.heap.size + 1) hg1 (fun k e => by cases e; rfl)) (fun k e => .inr (by omega))
      have HC1 : Hid (CIn P ws w0 bC bK aP cP aw cw w1) := HCr.out.kept (Within.of_grown (S := fun b => b = w.heap.size + 1) hg1 (fun k e => by cases e; rfl)) (fun b e => by omega)
      have hN1 : Nums w1 w.heap.size 63 (endL (accV W ws.length (goneV left moved v))) := HN.out.grown hg1 (by simp)
      obtain ⟨q0, _, _⟩ := HQ.out w1 HW1.out
      have X : Hid (Calls Tryd.prog 63 #[.pointer (some ⟨bC, 0, none⟩), .int .i64 (k : Int), .int .i64 (p : Int)] w1 fun e w' => e = .returned (aggN (endL (W p))) ∧ CIn P ws w0 bC bK aP cP aw cw w' ∧ Within w1 w' (fun b => b = bK)) := by
        have := HWO.out p hpn hvp w1 HC1.out
        rw [HWD.out] at this; exact this
      have HL' : Hid (∀ y : Int, (left (.int .i64 y) && !(Lit.int .i64 y).sameKey (.int .i64 x)) = true → has D (.int .i64 y) = true) := fun y h => HL.out y (struck_iff.1 h).1
      have hgx : goneV left moved v p = 0 := by
        unfold goneV; rw [show ((p : Int) - moved) = x by omega, hlx]; exact if_pos rfl
      have HST : Hid (∀ j, accV W ws.length (goneV (fun l => left l && !l.sameKey (.int .i64 x)) moved v) j = capN (accV W ws.length (goneV left moved v) j + v p * W p j)) := fun j => accV_step (p := p) (x := v p) hpn hgx (by rw [goneV_step hp, if_pos rfl]) (fun i hi => by rw [goneV_step hp, if_neg hi]) j
      have hvp1 := HV1.out p
      have HWp : Hid (∀ j, W p j ≤ 1000) := HWL.out p
      obtain ⟨A, HA⟩ : ∃ A, Hid (accV W ws.length (goneV left moved v) = A) := ⟨_, rfl⟩
      obtain ⟨B, HB⟩ : ∃ B, Hid (accV W ws.length (goneV (fun l => left l && !l.sameKey (.int .i64 x)) moved v) = B) := ⟨_, rfl⟩
      have HAl : Hid (∀ j, A j ≤ 1000) := fun j => by rw [← HA.out]; exact accV_le _ _ _ _
      rw [HA.out] at hN1
      rw [HA.out, HB.out] at HST
      generalize v p = vp at *
      generalize W p = Wp at *
      clear HL HN hat hlx hvp hwc hwx hgx hg1 hs1 HW HCr HC1
      go_wp2_with (go_at_call 63; refine X.out.mono ?_; rintro e w5 ⟨rfl, hC5, hW5⟩)
      have hrg5 := hrg1.kept (within_grown hW5) (fun e => nMK (Option.some.inj e)) (fun e => by have := Option.some.inj e; omega)
      have HN5 : Hid (Nums w5 w.heap.size 63 (endL (midV A B 0))) := by
        have := hN1.grown (within_grown hW5) (fun e => by have := Option.some.inj e; omega)
        show Nums _ _ _ _
        rw [endL_congr (u := midV A B 0) (v := A) (fun j _ => if_neg (Nat.not_lt_zero _))]; exact this
      have HC5 : Hid (CIn P ws w0 bC bK aP cP aw cw w5) := hC5
      have HW5 : Hid (Within w w5 (fun b => b = bK)) := HW1.out.trans hW5
      have HG5 : Hid (w5.grownBy w5 (some w.heap.size)) := World.grownBy.refl _ _
      clear X hC5 hW5 HW1 hN1 hrg1 q0 hen
      go_loopw [30] (fun sq wr => ∃ q : Nat, q ≤ 11 ∧ sq = .int .i64 (q : Int) ∧ Hid (Nums wr w.heap.size 63 (endL (midV A B q))) ∧ Hid (w5.grownBy wr (some w.heap.size))) (fun sq _ => 11 - (intOf sq).toNat)
      case atStart => exact ⟨0, Nat.zero_le _, rfl, HN5, HG5⟩
      case round =>
        obtain ⟨q, hq, rfl, HNq, HGq⟩ := hrel
        clear HN5 HG5
        by_cases hql : q < 11
        · have hqI : (q : Int) < 11 := by omega
          have hge := endL_get Wp hql
          have hwq := HWp.out q
          have hgm := endL_get (midV A B q) hql
          have hma : midV A B q q = A q := if_neg (Nat.lt_irrefl _)
          have hAq := HAl.out q
          have HSq : Hid (B q = capN (A q + vp * Wp q)) := HST.out q
          have Y : Hid (Calls Tryd.prog 64 #[.pointer (some ⟨w.heap.size, 0, none⟩), .int .i64 (q : Int), .int .i64 ((vp : Int) * (Wp q : Int))] wr fun e w' => e = .returned (.tuple #[]) ∧ Nums w' w.heap.size 63 (endL (midV A B (q + 1))) ∧ wr.grownBy w' (some w.heap.size)) := by
            have := add_any w.heap.size 63 (endL (midV A B q)) q (vp * Wp q) wr HNq.out (endL_length _) hql (Nat.mul_le_mul hvp1 hwq) (by rw [hgm, hma]; exact hAq)
            rw [hgm, hma, ← HSq.out, endL_set, ← endL_congr (fun j _ => midV_step A B q j)] at this
            rw [show ((vp : Int) * (Wp q : Int)) = ((vp * Wp q : Nat) : Int) by simp]
            exact this
          have hmul : ((vp : Int) * (Wp q : Int)) = ((vp * Wp q : Nat) : Int) := by simp
          have hml : vp * Wp q ≤ 1000 * 1000 := Nat.mul_le_mul hvp1 hwq
          have hm0 : (0 : Int) ≤ (vp : Int) * (Wp q : Int) := by rw [hmul]; omega
          have hm1 : (vp : Int) * (Wp q : Int) ≤ 1000000 := by rw [hmul]; omega
          generalize Wp q = wq at *
          clear hmul hml HSq hgm hma
          go_wp2_with (first | (refine wpList_indexN rfl 63 3 _ _ rfl (endL Wp) q rfl rfl (by rw [endL_length]; exact u_ends) u_int int_size (by rw [endL_length]; exact hql) ?_; rw [hge]) | (go_at_call 64; refine Y.out.mono ?_; rintro e w6 ⟨rfl, hN6, hg6⟩))
          go_roundw
          case rel => exact ⟨q + 1, by omega, by go_num, hN6, grownBy_trans HGq.out hg6⟩
          case measure => simp [intOf]; omega
        · have e : q = 11 := by omega
          subst e
          have hrg6 := hrg5.kept HGq.out (fun e => by have := Option.some.inj e; omega) (fun e => by have := Option.some.inj e; omega)
          have HN6 : Hid (Nums wr w.heap.size 63 (endL (accV W ws.length (goneV (fun l => left l && !l.sameKey (.int .i64 x)) moved v)))) := by
            show Nums _ _ _ _
            rw [HB.out, ← endL_congr (u := midV A B 11) (v := B) (fun j hj => if_pos hj)]; exact HNq.out
          have hwi : Within w5 wr (fun b => b = w.heap.size) := Within.of_grown HGq.out (fun k e => by cases e; rfl)
          have HC6 : Hid (CIn P ws w0 bC bK aP cP aw cw wr) := HC5.out.kept hwi (fun b e => by omega)
          have HW6 : Hid (Within w wr (fun b => b = bK)) := HW5.out.comp hwi (fun k e => .inr (by omega))
          clear HNq HGq HC5 HW5 hwi
          go_wp2
          go_roundw
          case rel => exact ⟨_, cnt1, hrg6, HL', HN6, HC6, HW6⟩
          case measure => rw [hrg6.left_eq, hrg.left_eq]; exact hlt
end
end Go.Proofs.YtojbghmlcgadeabDoor
