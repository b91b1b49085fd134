/-
  Contracts of slices.Equal over slices of structs of integers. No statement is proved here.
-/
import Derived.Test.YthnppodnjokaoabEqLB
import Derived.BigQuiet
import Derived.Deep.QuietTactic
namespace Go.Proofs.Ythnppodnjokaoab
open Go.RowKit

set_option maxHeartbeats 1000000 in
set_option maxRecDepth 100000 in
theorem equalSlot_any (xs ys : List Sl) (ax ay : Option Addr) (cx cy : Nat) (w : World) (hx : RD w (.slice ax xs.length cx) (slD Lay.slot xs)) (hy : RD w (.slice ay ys.length cy) (slD Lay.slot ys)) (hl : xs.length ≤ 4194304) :
    Calls Try.prog 30 #[.slice ax xs.length cx, .slice ay ys.length cy] w fun e w' => e = .returned (.bool (eqLB sameSl xs ys)) ∧ Below w.heap.size w w' := by
  have HX : Hid (RD w (.slice ax xs.length cx) (slD Lay.slot xs)) := hx
  have HY : Hid (RD w (.slice ay ys.length cy) (slD Lay.slot ys)) := hy
  clear hx hy
  obtain ⟨R, HR⟩ : ∃ R, eqLB sameSl xs ys = R := ⟨_, rfl⟩
  rw [HR]
  have HLN : Hid (xs.length ≠ ys.length → R = false) := fun h => by rw [← HR]; exact eqLB_len _ h
  have HNE : Hid (∀ i (h1 : i < xs.length) (h2 : i < ys.length), sameSl xs[i] ys[i] = false → R = false) := fun i h1 h2 h => by rw [← HR]; exact eqLB_at _ i h1 h2 h
  have HEQ : Hid (xs.length = ys.length → (∀ i (h1 : i < xs.length) (h2 : i < ys.length), sameSl xs[i] ys[i] = true) → R = true) := fun h g => by rw [← HR]; exact eqLB_all _ h g
  clear HR
  by_cases hne : xs.length = ys.length
  · have hneI : ((xs.length : Int) != (ys.length : Int)) = false := by simp; omega
    have HI0 : Hid (∀ i (h1 : i < xs.length) (h2 : i < ys.length), i < 0 → sameSl xs[i] ys[i] = true) := fun i _ _ h => by omega
    have HLE : Hid (xs.length = ys.length) := hne
    have HB0 : Hid (Below w.heap.size w w) := Below.refl _ _
    clear hne HLN
    go_enter Try.func30, Try.ntmps30
    go_wp2
    go_loopw [13] (fun u5 wr => ∃ j : Nat, j ≤ xs.length ∧ u5 = .int .i64 (j : Int) ∧ Hid (Below w.heap.size w wr) ∧ Hid (∀ i (h1 : i < xs.length) (h2 : i < ys.length), i < j → sameSl xs[i] ys[i] = true)) (fun u5 _ => xs.length - (intOf u5).toNat)
    case atStart => exact ⟨0, Nat.zero_le _, rfl, HB0, HI0⟩
    case round =>
      obtain ⟨j, hj, rfl, HB, HI⟩ := hrel
      obtain ⟨wA, hwA⟩ : ∃ y, y = wr := ⟨_, rfl⟩
      subst hwA
      clear HI0 HB0
      have hsz := HB.out.size
      by_cases hlt : j < xs.length
      · have hlt2 : j < ys.length := by have := HLE.out; omega
        obtain ⟨b1, o1, rfl, hb1, ⟨q0, q1⟩⟩ := (HX.out.later HB.out).atSlot hlt
        obtain ⟨b2, o2, rfl, hb2, ⟨p0, p1⟩⟩ := (HY.out.later HB.out).atSlot hlt2
        have HN := HNE.out j hlt hlt2
        have hltI : (j : Int) < (xs.length : Int) := by omega
        have hlt2I : (j : Int) < (ys.length : Int) := by omega
        have HST : Hid (sameSl xs[j] ys[j] = true → ∀ i (h1 : i < xs.length) (h2 : i < ys.length), i < j + 1 → sameSl xs[i] ys[i] = true) := fun h i h1 h2 hi => by
          by_cases e : i = j
          · subst e; exact h
          · exact HI.out i h1 h2 (by omega)
        have HN2 : Hid (sameSl xs[j] ys[j] = false → R = false) := HN
        clear HX HY HNE HEQ HI HN
        unfold sameSl at HN2
        have HST2 : Hid ((decide (xs[j].sym = ys[j].sym) && decide (xs[j].up = ys[j].up)) = true → ∀ i (h1 : i < xs.length) (h2 : i < ys.length), i < j + 1 → sameSl xs[i] ys[i] = true) := HST.out
        clear HST
        generalize xs[j].sym = v0 at *
        generalize ys[j].sym = u0 at *
        generalize xs[j].up = v1 at *
        generalize ys[j].up = u1 at *
        have HBN : Hid (∀ nq, Below w.heap.size w (wA.drewN nq)) := fun nq => HB.out.trans ((below_drew nq).mono hsz)
        by_cases he0 : v0 = u0
        · subst he0
          by_cases he1 : v1 = u1
          · subst he1
            have HS2 := HST2.out (by simp)
            have HS3 : Hid (∀ i (h1 : i < xs.length) (h2 : i < ys.length), i < j + 1 → sameSl xs[i] ys[i] = true) := HS2
            clear HN2 HST2 HB HS2
            go_wp2_with fail
            go_quiet (fail)
            go_wp2
            go_roundw
            case rel => exact ⟨j + 1, by omega, by go_num, HBN.out _, HS3⟩
            case measure => simp [intOf]; omega
          · have hb1 : (v1 == u1) = false := by simpa using he1
            have HR : Hid (R = false) := HN2.out (by simp [he1])
            clear HN2 HST2 HB
            go_wp2_with fail
            go_quiet (fail)
            go_wp2
            go_ret
            rw [HR.out]
            exact ⟨rfl, HBN.out _⟩
        · have hb0 : (v0 == u0) = false := by simpa using he0
          have HR : Hid (R = false) := HN2.out (by simp [he0])
          clear HN2 HST2 HB
          go_wp2_with fail
          go_quiet (fail)
          go_wp2
          go_ret
          rw [HR.out]
          exact ⟨rfl, HBN.out _⟩
      · have HR : Hid (R = true) := HEQ.out HLE.out (fun i h1 h2 => HI.out i h1 h2 (by omega))
        have hltI : ¬ (j : Int) < (xs.length : Int) := by omega
        clear HX HY HNE HEQ HI
        go_wp2
        go_ret
        rw [HR.out]
        exact ⟨rfl, HB.out⟩
  · have hneI : ((xs.length : Int) != (ys.length : Int)) = true := by simp; omega
    have HR : Hid (R = false) := HLN.out hne
    clear HX HY HLN HNE HEQ hne
    go_enter Try.func30, Try.ntmps30
    go_wp2
    go_ret
    rw [HR.out]
    exact ⟨rfl, Below.refl _ _⟩

set_option maxHeartbeats 1000000 in
set_option maxRecDepth 100000 in
theorem equalErr_any (xs ys : List Er) (ax ay : Option Addr) (cx cy : Nat) (w : World) (hx : RD w (.slice ax xs.length cx) (slD Lay.err xs)) (hy : RD w (.slice ay ys.length cy) (slD Lay.err ys)) (hl : xs.length ≤ 4194304) :
    Calls Try.prog 31 #[.slice ax xs.length cx, .slice ay ys.length cy] w fun e w' => e = .returned (.bool (eqLB sameEr xs ys)) ∧ Below w.heap.size w w' := by
  have HX : Hid (RD w (.slice ax xs.length cx) (slD Lay.err xs)) := hx
  have HY : Hid (RD w (.slice ay ys.length cy) (slD Lay.err ys)) := hy
  clear hx hy
  obtain ⟨R, HR⟩ : ∃ R, eqLB sameEr xs ys = R := ⟨_, rfl⟩
  rw [HR]
  have HLN : Hid (xs.length ≠ ys.length → R = false) := fun h => by rw [← HR]; exact eqLB_len _ h
  have HNE : Hid (∀ i (h1 : i < xs.length) (h2 : i < ys.length), sameEr xs[i] ys[i] = false → R = false) := fun i h1 h2 h => by rw [← HR]; exact eqLB_at _ i h1 h2 h
  have HEQ : Hid (xs.length = ys.length → (∀ i (h1 : i < xs.length) (h2 : i < ys.length), sameEr xs[i] ys[i] = true) → R = true) := fun h g => by rw [← HR]; exact eqLB_all _ h g
  clear HR
  by_cases hne : xs.length = ys.length
  · have hneI : ((xs.length : Int) != (ys.length : Int)) = false := by simp; omega
    have HI0 : Hid (∀ i (h1 : i < xs.length) (h2 : i < ys.length), i < 0 → sameEr xs[i] ys[i] = true) := fun i _ _ h => by omega
    have HLE : Hid (xs.length = ys.length) := hne
    have HB0 : Hid (Below w.heap.size w w) := Below.refl _ _
    clear hne HLN
    go_enter Try.func31, Try.ntmps31
    go_wp2
    go_loopw [13] (fun u5 wr => ∃ j : Nat, j ≤ xs.length ∧ u5 = .int .i64 (j : Int) ∧ Hid (Below w.heap.size w wr) ∧ Hid (∀ i (h1 : i < xs.length) (h2 : i < ys.length), i < j → sameEr xs[i] ys[i] = true)) (fun u5 _ => xs.length - (intOf u5).toNat)
    case atStart => exact ⟨0, Nat.zero_le _, rfl, HB0, HI0⟩
    case round =>
      obtain ⟨j, hj, rfl, HB, HI⟩ := hrel
      obtain ⟨wA, hwA⟩ : ∃ y, y = wr := ⟨_, rfl⟩
      subst hwA
      clear HI0 HB0
      have hsz := HB.out.size
      by_cases hlt : j < xs.length
      · have hlt2 : j < ys.length := by have := HLE.out; omega
        obtain ⟨b1, o1, rfl, hb1, ⟨q0, q1, q2⟩⟩ := (HX.out.later HB.out).atErr hlt
        obtain ⟨b2, o2, rfl, hb2, ⟨p0, p1, p2⟩⟩ := (HY.out.later HB.out).atErr hlt2
        have HN := HNE.out j hlt hlt2
        have hltI : (j : Int) < (xs.length : Int) := by omega
        have hlt2I : (j : Int) < (ys.length : Int) := by omega
        have HST : Hid (sameEr xs[j] ys[j] = true → ∀ i (h1 : i < xs.length) (h2 : i < ys.length), i < j + 1 → sameEr xs[i] ys[i] = true) := fun h i h1 h2 hi => by
          by_cases e : i = j
          · subst e; exact h
          · exact HI.out i h1 h2 (by omega)
        have HN2 : Hid (sameEr xs[j] ys[j] = false → R = false) := HN
        clear HX HY HNE HEQ HI HN
        unfold sameEr at HN2
        have HST2 : Hid ((decide (xs[j].kind = ys[j].kind) && (decide (xs[j].pl = ys[j].pl) && decide (xs[j].sym = ys[j].sym))) = true → ∀ i (h1 : i < xs.length) (h2 : i < ys.length), i < j + 1 → sameEr xs[i] ys[i] = true) := HST.out
        clear HST
        generalize xs[j].kind = v0 at *
        generalize ys[j].kind = u0 at *
        generalize xs[j].pl = v1 at *
        generalize ys[j].pl = u1 at *
        generalize xs[j].sym = v2 at *
        generalize ys[j].sym = u2 at *
        have HBN : Hid (∀ nq, Below w.heap.size w (wA.drewN nq)) := fun nq => HB.out.trans ((below_drew nq).mono hsz)
        by_cases he0 : v0 = u0
        · subst he0
          by_cases he1 : v1 = u1
          · subst he1
            by_cases he2 : v2 = u2
            · subst he2
              have HS2 := HST2.out (by simp)
              have HS3 : Hid (∀ i (h1 : i < xs.length) (h2 : i < ys.length), i < j + 1 → sameEr xs[i] ys[i] = true) := HS2
              clear HN2 HST2 HB HS2
              go_wp2_with fail
              go_quiet (fail)
              go_wp2
              go_roundw
              case rel => exact ⟨j + 1, by omega, by go_num, HBN.out _, HS3⟩
              case measure => simp [intOf]; omega
            · have hb2 : (v2 == u2) = false := by simpa using he2
              have HR : Hid (R = false) := HN2.out (by simp [he2])
              clear HN2 HST2 HB
              go_wp2_with fail
              go_quiet (fail)
              go_wp2
              go_ret
              rw [HR.out]
              exact ⟨rfl, HBN.out _⟩
          · have hb1 : (v1 == u1) = false := by simpa using he1
            have HR : Hid (R = false) := HN2.out (by simp [he1])
            clear HN2 HST2 HB
            go_wp2_with fail
            go_quiet (fail)
            go_wp2
            go_ret
            rw [HR.out]
            exact ⟨rfl, HBN.out _⟩
        · have hb0 : (v0 == u0) = false := by simpa using he0
          have HR : Hid (R = false) := HN2.out (by simp [he0])
          clear HN2 HST2 HB
          go_wp2_with fail
          go_quiet (fail)
          go_wp2
          go_ret
          rw [HR.out]
          exact ⟨rfl, HBN.out _⟩
      · have HR : Hid (R = true) := HEQ.out HLE.out (fun i h1 h2 => HI.out i h1 h2 (by omega))
        have hltI : ¬ (j : Int) < (xs.length : Int) := by omega
        clear HX HY HNE HEQ HI
        go_wp2
        go_ret
        rw [HR.out]
        exact ⟨rfl, HB.out⟩
  · have hneI : ((xs.length : Int) != (ys.length : Int)) = true := by simp; omega
    have HR : Hid (R = false) := HLN.out hne
    clear HX HY HLN HNE HEQ hne
    go_enter Try.func31, Try.ntmps31
    go_wp2
    go_ret
    rw [HR.out]
    exact ⟨rfl, Below.refl _ _⟩

end Go.Proofs.Ythnppodnjokaoab
