/-
  The contract of spec.l1Same over this translation. No statement is proved here.
-/
import Derived.Test.YthnppodnjokaoabSpecIn
import Derived.BigQuiet
import Derived.Deep.QuietTactic
namespace Go.Proofs.Ythnppodnjokaoab
open Go.RowKit

set_option maxHeartbeats 1000000 in
set_option maxRecDepth 100000 in
theorem l1Same_any (xs ys : List Int) (ax ay : Option Addr) (cx cy : Nat) (w : World) (hx : Reads w ax xs) (hy : Reads w ay ys) (hl : xs.length ≤ 1048576) :
    Calls Try.prog 40 #[.slice ax xs.length cx, .slice ay ys.length cy] w fun e w' => e = .returned (.bool (decide (xs = ys))) ∧ Below w.heap.size w w' := by
  have HX : Hid (Reads w ax xs) := hx
  have HY : Hid (Reads w ay ys) := hy
  clear hx hy
  by_cases hne : xs.length = ys.length
  · have hneI : ((xs.length : Int) != (ys.length : Int)) = false := by simp; omega
    obtain ⟨R, HR⟩ : ∃ R, decide (xs = ys) = R := ⟨_, rfl⟩
    rw [HR]
    have HNE : Hid (∀ i (h1 : i < xs.length) (h2 : i < ys.length), xs[i] ≠ ys[i] → R = false) := fun i h1 h2 h => by
      rw [← HR]
      refine decide_eq_false (fun e => h ?_)
      subst e; rfl
    have HEQ : Hid ((∀ i (h1 : i < xs.length) (h2 : i < ys.length), xs[i] = ys[i]) → R = true) := fun h => by
      rw [← HR]
      exact decide_eq_true (List.ext_getElem hne (fun i h1 h2 => h i h1 h2))
    have HI0 : Hid (∀ i (h1 : i < xs.length) (h2 : i < ys.length), i < 0 → xs[i] = ys[i]) := fun i _ _ h => by omega
    have HLE : Hid (xs.length = ys.length) := hne
    have HB0 : Hid (Below w.heap.size w w) := Below.refl _ _
    clear HR hne
    go_enter Try.func40, Try.ntmps40
    go_wp2
    go_loopw [5] (fun u5 wr => ∃ j : Nat, j ≤ xs.length ∧ u5 = .int .i64 (j : Int) ∧ Hid (Below w.heap.size w wr) ∧ Hid (∀ i (h1 : i < xs.length) (h2 : i < ys.length), i < j → xs[i] = ys[i])) (fun u5 _ => xs.length - (intOf u5).toNat)
    case atStart => exact ⟨0, Nat.zero_le _, rfl, HB0, HI0⟩
    case round =>
      obtain ⟨j, hj, rfl, HB, HI⟩ := hrel
      obtain ⟨wA, hwA⟩ : ∃ y, y = wr := ⟨_, rfl⟩
      subst hwA
      clear HI0 HB0
      have hsz := HB.out.size
      by_cases hlt : j < xs.length
      · have hlt2 : j < ys.length := by have := HLE.out; omega
        obtain ⟨b1, o1, rfl, hb1, hc1⟩ := HX.out.at hlt
        obtain ⟨b2, o2, rfl, hb2, hc2⟩ := HY.out.at hlt2
        have q1' := hc1 j hlt
        have q2' := hc2 j hlt2
        rw [List.getD_eq_getElem?_getD, List.getElem?_eq_getElem hlt, Option.getD_some] at q1'
        rw [List.getD_eq_getElem?_getD, List.getElem?_eq_getElem hlt2, Option.getD_some] at q2'
        have q1 := (HB.out.cell (p := ⟨b1, o1 + j, none⟩) hb1).trans q1'
        have q2 := (HB.out.cell (p := ⟨b2, o2 + j, none⟩) hb2).trans q2'
        have HN := HNE.out j hlt hlt2
        have hltI : (j : Int) < (xs.length : Int) := by omega
        have hlt2I : (j : Int) < (ys.length : Int) := by omega
        have HST : Hid (xs[j] = ys[j] → ∀ i (h1 : i < xs.length) (h2 : i < ys.length), i < j + 1 → xs[i] = ys[i]) := fun h i h1 h2 hi => by
          by_cases e : i = j
          · subst e; exact h
          · exact HI.out i h1 h2 (by omega)
        clear q1' q2' hc1 hc2 HX HY HNE HEQ HI
        generalize ys[j] = z at *
        generalize xs[j] = x at *
        have HBN : Hid (∀ nq, Below w.heap.size w (wA.drewN nq)) := fun nq => HB.out.trans ((below_drew nq).mono hsz)
        by_cases he : x = z
        · have HS2 : Hid (∀ i (h1 : i < xs.length) (h2 : i < ys.length), i < j + 1 → xs[i] = ys[i]) := HST.out he
          have hbf : (x != z) = false := by simpa using he
          clear HN HST he HB
          go_wp2_with fail
          go_quiet (fail)
          go_wp2
          go_roundw
          case rel => exact ⟨j + 1, by omega, by go_num, HBN.out _, HS2⟩
          case measure => simp [intOf]; omega
        · have HR : Hid (R = false) := HN he
          have hbf : (x != z) = true := by simpa using he
          clear HN HST HB
          go_wp2_with fail
          go_quiet (fail)
          go_wp2
          go_ret
          rw [HR.out]
          exact ⟨rfl, HBN.out _⟩
      · have HR : Hid (R = true) := HEQ.out (fun i h1 h2 => HI.out i h1 h2 (by omega))
        have hltI : ¬ (j : Int) < (xs.length : Int) := by omega
        clear HX HY HNE HEQ HI
        go_wp2
        go_ret
        rw [HR.out]
        exact ⟨rfl, HB.out⟩
  · have hneI : ((xs.length : Int) != (ys.length : Int)) = true := by simp; omega
    have hr : decide (xs = ys) = false := decide_eq_false (fun e => hne (by rw [e]))
    rw [hr]
    clear HX HY
    go_enter Try.func40, Try.ntmps40
    go_wp2
    go_ret
    exact ⟨rfl, Below.refl _ _⟩
end Go.Proofs.Ythnppodnjokaoab
