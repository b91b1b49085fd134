/-
  Contracts of the two InputOk (the program's and the specification's) over this translation. No statement is proved here.
-/
import Derived.Test.YtojbghmlcgadeacGramOk
namespace Go.Proofs.Ytojbghmlcgadeac
open Go.RowKit

/-- A letter. -/
def letB (x : Int) : Bool := inB x 0 25
def inputOkB (zs : List Int) : Bool := decide (zs.length ≤ 10) && zs.all letB
/-- What InputOk answers. -/
def resInputOk (zs : List Int) : Bool := inputOkB zs
theorem inputOkB_long {zs : List Int} (h : ¬ zs.length ≤ 10) : inputOkB zs = false := by simp [inputOkB, h]
theorem inputOkB_no {zs : List Int} (h : zs.all letB = false) : inputOkB zs = false := by simp [inputOkB, h]
theorem inputOkB_yes {zs : List Int} (h : zs.length ≤ 10) (g : zs.all letB = true) : inputOkB zs = true := by simp [inputOkB, h, g]
theorem inputOkB_len {zs : List Int} (h : inputOkB zs = true) : zs.length ≤ 10 := by simp [inputOkB] at h; exact h.1
theorem inputOkB_mem {zs : List Int} (h : inputOkB zs = true) : ∀ z ∈ zs, 0 ≤ z ∧ z ≤ 25 := by
  intro z hz; simp only [inputOkB, Bool.and_eq_true, List.all_eq_true] at h
  have := h.2 z hz; unfold letB at this; exact inB_true.1 this

set_option maxRecDepth 100000 in
theorem specInputOk_any (zs : List Int) (a : Option Addr) (c : Nat) (w : World) (h : RD w (.slice a zs.length c) (slD Lay.int zs)) (hl : zs.length ≤ 1048576) (_ : (Lay.list Lay.int).fit zs) :
    Calls Try.prog 9 #[.slice a zs.length c] w fun e w' => e = .returned (.bool (resInputOk zs)) ∧ Below w.heap.size w w' := by
  unfold resInputOk
  have hr : Reads w a zs := h.reads
  clear h
  by_cases hlong : zs.length ≤ 10
  · have hb : ¬ (10 : Int) < (zs.length : Int) := by omega
    go_enter Try.func9, Try.ntmps9
    go_wp2
    go_loopw [3] (fun i wr => ∃ k : Nat, k ≤ zs.length ∧ i = .int .i64 k ∧ Hid ((zs.take k).all letB = true) ∧ Below w.heap.size w wr) (fun i _ => zs.length - (intOf i).toNat)
    case atStart => exact ⟨0, Nat.zero_le _, rfl, by show _ = _; simp, Below.refl _ _⟩
    case round =>
      obtain ⟨k, hk, rfl, HK, hbel⟩ := hrel
      by_cases hlt : k < zs.length
      · obtain ⟨b, off, rfl, hb1, hc⟩ := (hr.below hbel).at hlt
        have q1 := hc k hlt
        rw [List.getD_eq_getElem?_getD, List.getElem?_eq_getElem hlt, Option.getD_some] at q1
        have HS : Hid (letB zs[k] = true → (zs.take (k + 1)).all letB = true) := fun g => all_step HK.out hlt g
        have HN : Hid (letB zs[k] = false → inputOkB zs = false) := fun g => inputOkB_no (all_no hlt g)
        clear hc hr HK
        generalize zs[k] = z at *
        by_cases z1 : inB z 0 25 = true
        · go_wp2_with (go_at_call 11; refine (l1In_any _ _ _ _).mono ?_; rintro e w' ⟨rfl, rfl⟩)
          go_roundw
          case rel => exact ⟨k + 1, by omega, by go_num, HS.out z1, hbel⟩
          case measure => simp [intOf]; omega
        · have z1' : inB z 0 25 = false := by simpa using z1
          clear z1
          go_wp2_with (go_at_call 11; refine (l1In_any _ _ _ _).mono ?_; rintro e w' ⟨rfl, rfl⟩)
          go_ret
          exact ⟨ret_bool (by rw [HN.out z1']), hbel⟩
      · have HE : Hid (inputOkB zs = true) := inputOkB_yes hlong (all_end HK.out hlt)
        clear hr HK
        go_wp2
        go_ret
        exact ⟨ret_bool (by rw [HE.out]), hbel⟩
  · have hb : (10 : Int) < (zs.length : Int) := by omega
    rw [inputOkB_long hlong]
    go_enter Try.func9, Try.ntmps9
    go_wp2
    go_ret
    exact ⟨rfl, Below.refl _ _⟩
set_option maxRecDepth 100000 in
theorem inputOk_any (zs : List Int) (a : Option Addr) (c : Nat) (w : World) (h : RD w (.slice a zs.length c) (slD Lay.int zs)) (hl : zs.length ≤ 1048576) (_ : (Lay.list Lay.int).fit zs) :
    Calls Try.prog 10 #[.slice a zs.length c] w fun e w' => e = .returned (.bool (resInputOk zs)) ∧ Below w.heap.size w w' := by
  unfold resInputOk
  have hr : Reads w a zs := h.reads
  clear h
  by_cases hlong : zs.length ≤ 10
  · have hb : ¬ (10 : Int) < (zs.length : Int) := by omega
    go_enter Try.func10, Try.ntmps10
    go_wp2
    go_loopw [10] (fun i wr => ∃ k : Nat, k ≤ zs.length ∧ i = .int .i64 k ∧ Hid ((zs.take k).all letB = true) ∧ Below w.heap.size w wr) (fun i _ => zs.length - (intOf i).toNat)
    case atStart => exact ⟨0, Nat.zero_le _, rfl, by show _ = _; simp, Below.refl _ _⟩
    case round =>
      obtain ⟨k, hk, rfl, HK, hbel⟩ := hrel
      by_cases hlt : k < zs.length
      · obtain ⟨b, off, rfl, hb1, hc⟩ := (hr.below hbel).at hlt
        have q1 := hc k hlt
        rw [List.getD_eq_getElem?_getD, List.getElem?_eq_getElem hlt, Option.getD_some] at q1
        have HS : Hid (letB zs[k] = true → (zs.take (k + 1)).all letB = true) := fun g => all_step HK.out hlt g
        have HN : Hid (letB zs[k] = false → inputOkB zs = false) := fun g => inputOkB_no (all_no hlt g)
        clear hc hr HK
        generalize zs[k] = z at *
        by_cases z1 : inB z 0 25 = true
        · go_wp2_with (go_at_call 12; refine (isLetter_any _ _).mono ?_; rintro e w' ⟨rfl, rfl⟩)
          go_roundw
          case rel => exact ⟨k + 1, by omega, by go_num, HS.out z1, hbel⟩
          case measure => simp [intOf]; omega
        · have z1' : inB z 0 25 = false := by simpa using z1
          clear z1
          go_wp2_with (go_at_call 12; refine (isLetter_any _ _).mono ?_; rintro e w' ⟨rfl, rfl⟩)
          go_ret
          exact ⟨ret_bool (by rw [HN.out z1']), hbel⟩
      · have HE : Hid (inputOkB zs = true) := inputOkB_yes hlong (all_end HK.out hlt)
        clear hr HK
        go_wp2
        go_ret
        exact ⟨ret_bool (by rw [HE.out]), hbel⟩
  · have hb : (10 : Int) < (zs.length : Int) := by omega
    rw [inputOkB_long hlong]
    go_enter Try.func10, Try.ntmps10
    go_wp2
    go_ret
    exact ⟨rfl, Below.refl _ _⟩
end Go.Proofs.Ytojbghmlcgadeac
