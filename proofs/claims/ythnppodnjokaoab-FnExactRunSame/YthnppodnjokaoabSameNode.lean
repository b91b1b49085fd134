/-
  Contracts of impl.sameNode, of slices.Equal over integers and of slices.EqualFunc over nodes. No statement is proved here.
-/
import Derived.Test.YthnppodnjokaoabEqLB
import Derived.Test.YthnppodnjokaoabSpecSame
import Derived.BigQuiet
import Derived.Deep.QuietTactic
namespace Go.Proofs.Ythnppodnjokaoab
open Go.RowKit

set_option maxHeartbeats 1000000 in
set_option maxRecDepth 100000 in
theorem equalInts_any (xs ys : List Int) (ax ay : Option Addr) (cx cy : Nat) (w : World) (hx : Reads w ax xs) (hy : Reads w ay ys) (hl : xs.length ≤ 1048576) :
    Calls Try.prog 44 #[.slice ax xs.length cx, .slice ay ys.length cy] w fun e w' => e = .returned (.bool (decide (xs = ys))) ∧ Below w.heap.size w w' := by
  have HX : Hid (Reads w ax xs) := hx
  have HY : Hid (Reads w ay ys) := hy
  clear hx hy
  by_cases hne : xs.length = ys.length
  · have hneI : ((xs.length : Int) != (ys.length : Int)) = false := by simp; omega
    obtain ⟨R, HR⟩ : ∃ R, decide (xs = ys) = R := ⟨_, rfl⟩
    rw [HR]
    have HNE : Hid (∀ i (h1 : i < xs.length) (h2 : i < ys.length), xs[i] ≠ ys[i] → R = false) := fun i h1 h2 h => by
      rw [← HR]
      refine decide_eq_false (fun e => h ?_)
      subst e; rfl
    have HEQ : Hid ((∀ i (h1 : i < xs.length) (h2 : i < ys.length), xs[i] = ys[i]) → R = true) := fun h => by
      rw [← HR]
      exact decide_eq_true (List.ext_getElem hne (fun i h1 h2 => h i h1 h2))
    have HI0 : Hid (∀ i (h1 : i < xs.length) (h2 : i < ys.length), i < 0 → xs[i] = ys[i]) := fun i _ _ h => by omega
    have HLE : Hid (xs.length = ys.length) := hne
    have HB0 : Hid (Below w.heap.size w w) := Below.refl _ _
    clear HR hne
    go_enter Try.func44, Try.ntmps44
    go_wp2
    go_loopw [13] (fun u5 wr => ∃ j : Nat, j ≤ xs.length ∧ u5 = .int .i64 (j : Int) ∧ Hid (Below w.heap.size w wr) ∧ Hid (∀ i (h1 : i < xs.length) (h2 : i < ys.length), i < j → xs[i] = ys[i])) (fun u5 _ => xs.length - (intOf u5).toNat)
    case atStart => exact ⟨0, Nat.zero_le _, rfl, HB0, HI0⟩
    case round =>
      obtain ⟨j, hj, rfl, HB, HI⟩ := hrel
      obtain ⟨wA, hwA⟩ : ∃ y, y = wr := ⟨_, rfl⟩
      subst hwA
      clear HI0 HB0
      have hsz := HB.out.size
      by_cases hlt : j < xs.length
      · have hlt2 : j < ys.length := by have := HLE.out; omega
        obtain ⟨b1, o1, rfl, hb1, hc1⟩ := HX.out.at hlt
        obtain ⟨b2, o2, rfl, hb2, hc2⟩ := HY.out.at hlt2
        have q1' := hc1 j hlt
        have q2' := hc2 j hlt2
        rw [List.getD_eq_getElem?_getD, List.getElem?_eq_getElem hlt, Option.getD_some] at q1'
        rw [List.getD_eq_getElem?_getD, List.getElem?_eq_getElem hlt2, Option.getD_some] at q2'
        have q1 := (HB.out.cell (p := ⟨b1, o1 + j, none⟩) hb1).trans q1'
        have q2 := (HB.out.cell (p := ⟨b2, o2 + j, none⟩) hb2).trans q2'
        have HN := HNE.out j hlt hlt2
        have hltI : (j : Int) < (xs.length : Int) := by omega
        have hlt2I : (j : Int) < (ys.length : Int) := by omega
        have HST : Hid (xs[j] = ys[j] → ∀ i (h1 : i < xs.length) (h2 : i < ys.length), i < j + 1 → xs[i] = ys[i]) := fun h i h1 h2 hi => by
          by_cases e : i = j
          · subst e; exact h
          · exact HI.out i h1 h2 (by omega)
        clear q1' q2' hc1 hc2 HX HY HNE HEQ HI
        generalize ys[j] = z at *
        generalize xs[j] = x at *
        have HBN : Hid (∀ nq, Below w.heap.size w (wA.drewN nq)) := fun nq => HB.out.trans ((below_drew nq).mono hsz)
        by_cases he : x = z
        · have HS2 : Hid (∀ i (h1 : i < xs.length) (h2 : i < ys.length), i < j + 1 → xs[i] = ys[i]) := HST.out he
          have hbf : (x != z) = false := by simpa using he
          clear HN HST he HB
          go_wp2_with fail
          go_quiet (fail)
          go_wp2
          go_roundw
          case rel => exact ⟨j + 1, by omega, by go_num, HBN.out _, HS2⟩
          case measure => simp [intOf]; omega
        · have HR : Hid (R = false) := HN he
          have hbf : (x != z) = true := by simpa using he
          clear HN HST HB
          go_wp2_with fail
          go_quiet (fail)
          go_wp2
          go_ret
          rw [HR.out]
          exact ⟨rfl, HBN.out _⟩
      · have HR : Hid (R = true) := HEQ.out (fun i h1 h2 => HI.out i h1 h2 (by omega))
        have hltI : ¬ (j : Int) < (xs.length : Int) := by omega
        clear HX HY HNE HEQ HI
        go_wp2
        go_ret
        rw [HR.out]
        exact ⟨rfl, HB.out⟩
  · have hneI : ((xs.length : Int) != (ys.length : Int)) = true := by simp; omega
    have hr : decide (xs = ys) = false := decide_eq_false (fun e => hne (by rw [e]))
    rw [hr]
    clear HX HY
    go_enter Try.func44, Try.ntmps44
    go_wp2
    go_ret
    exact ⟨rfl, Below.refl _ _⟩
set_option maxHeartbeats 1000000 in
set_option maxRecDepth 100000 in
theorem sameNode_any (x y : Nd) (ax ay : Option Addr) (cx cy : Nat) (w : World) (hx : RD w (.slice ax x.kids.length cx) (slD Lay.int x.kids)) (hy : RD w (.slice ay y.kids.length cy) (slD Lay.int y.kids)) (hl : x.kids.length ≤ 1048576) :
    Calls Try.prog 33 #[.agg #[.int .i64 x.kind, .int .i64 x.sym, .int .i64 x.alt, .int .i64 x.pl, .slice ax x.kids.length cx], .agg #[.int .i64 y.kind, .int .i64 y.sym, .int .i64 y.alt, .int .i64 y.pl, .slice ay y.kids.length cy]] w fun e w' => e = .returned (.bool (sameNd x y)) ∧ Below w.heap.size w w' := by
  have B0 : Below w.heap.size w ((w.alloc (.cells #[.int .i64 x.kind, .int .i64 x.sym, .int .i64 x.alt, .int .i64 x.pl, .slice ax x.kids.length cx] 62)).alloc (.cells #[.int .i64 y.kind, .int .i64 y.sym, .int .i64 y.alt, .int .i64 y.pl, .slice ay y.kids.length cy] 62)) := ((Below.refl _ _).alloc (Nat.le_refl _) _).alloc (by simp) _
  have X : Hid (∀ W, Below w.heap.size w W → Calls Try.prog 44 #[.slice ax x.kids.length cx, .slice ay y.kids.length cy] W fun e w' => e = .returned (.bool (decide (x.kids = y.kids))) ∧ Below W.heap.size W w') := fun W hW => equalInts_any x.kids y.kids ax ay cx cy W (hx.later hW).reads (hy.later hW).reads hl
  unfold sameNd
  clear hx hy hl
  generalize decide (x.kids = y.kids) = r at *
  generalize x.kind = x0 at *
  generalize y.kind = y0 at *
  generalize x.sym = x1 at *
  generalize y.sym = y1 at *
  generalize x.alt = x2 at *
  generalize y.alt = y2 at *
  generalize x.pl = x3 at *
  generalize y.pl = y3 at *
  generalize x.kids.length = nx at *
  generalize y.kids.length = ny at *
  by_cases he0 : x0 = y0
  · subst he0
    by_cases he1 : x1 = y1
    · subst he1
      by_cases he2 : x2 = y2
      · subst he2
        by_cases he3 : x3 = y3
        · subst he3
          simp only [decide_true, Bool.true_and]
          go_enter Try.func33, Try.ntmps33
          go_wp2_with (go_at_call 44; refine (X.out _ B0).mono ?_; rintro e w5 ⟨rfl, hb5⟩)
          go_ret
          exact ⟨rfl, B0.trans (hb5.mono B0.size)⟩
        · have hb3 : (x3 == y3) = false := by simpa using he3
          rw [show decide (x3 = y3) = false from decide_eq_false he3]
          simp only [decide_true, Bool.true_and, Bool.false_and]
          clear X he3
          go_enter Try.func33, Try.ntmps33
          go_wp2
          go_ret
          exact ⟨rfl, B0⟩
      · have hb2 : (x2 == y2) = false := by simpa using he2
        rw [show decide (x2 = y2) = false from decide_eq_false he2]
        simp only [decide_true, Bool.true_and, Bool.false_and]
        clear X he2
        go_enter Try.func33, Try.ntmps33
        go_wp2
        go_ret
        exact ⟨rfl, B0⟩
    · have hb1 : (x1 == y1) = false := by simpa using he1
      rw [show decide (x1 = y1) = false from decide_eq_false he1]
      simp only [decide_true, Bool.true_and, Bool.false_and]
      clear X he1
      go_enter Try.func33, Try.ntmps33
      go_wp2
      go_ret
      exact ⟨rfl, B0⟩
  · have hb0 : (x0 == y0) = false := by simpa using he0
    rw [show decide (x0 = y0) = false from decide_eq_false he0]
    simp only [Bool.false_and]
    clear X he0
    go_enter Try.func33, Try.ntmps33
    go_wp2
    go_ret
    exact ⟨rfl, B0⟩

set_option maxHeartbeats 1000000 in
set_option maxRecDepth 100000 in
theorem equalNodes_any (xs ys : List Nd) (ax ay : Option Addr) (cx cy : Nat) (w : World) (hx : RD w (.slice ax xs.length cx) (slD Lay.node xs)) (hy : RD w (.slice ay ys.length cy) (slD Lay.node ys)) (hl : xs.length ≤ 4194304) (hk : ∀ j (hj : j < xs.length), xs[j].kids.length ≤ 1048576) :
    Calls Try.prog 32 #[.slice ax xs.length cx, .slice ay ys.length cy, .func (.func 33) #[] #[]] w fun e w' => e = .returned (.bool (eqLB sameNd xs ys)) ∧ Below w.heap.size w w' := by
  have HX : Hid (RD w (.slice ax xs.length cx) (slD Lay.node xs)) := hx
  have HY : Hid (RD w (.slice ay ys.length cy) (slD Lay.node ys)) := hy
  have HK : Hid (∀ j (hj : j < xs.length), xs[j].kids.length ≤ 1048576) := hk
  clear hx hy hk
  obtain ⟨R, HR⟩ : ∃ R, eqLB sameNd xs ys = R := ⟨_, rfl⟩
  rw [HR]
  have HLN : Hid (xs.length ≠ ys.length → R = false) := fun h => by rw [← HR]; exact eqLB_len _ h
  have HNE : Hid (∀ i (h1 : i < xs.length) (h2 : i < ys.length), sameNd xs[i] ys[i] = false → R = false) := fun i h1 h2 h => by rw [← HR]; exact eqLB_at _ i h1 h2 h
  have HEQ : Hid (xs.length = ys.length → (∀ i (h1 : i < xs.length) (h2 : i < ys.length), sameNd xs[i] ys[i] = true) → R = true) := fun h g => by rw [← HR]; exact eqLB_all _ h g
  clear HR
  by_cases hne : xs.length = ys.length
  · have hneI : ((xs.length : Int) != (ys.length : Int)) = false := by simp; omega
    have HI0 : Hid (∀ i (h1 : i < xs.length) (h2 : i < ys.length), i < 0 → sameNd xs[i] ys[i] = true) := fun i _ _ h => by omega
    have HLE : Hid (xs.length = ys.length) := hne
    clear hne HLN
    go_enter Try.func32, Try.ntmps32
    go_wp2
    go_loopw [17] (fun u5 wr => ∃ j : Nat, j ≤ xs.length ∧ u5 = .int .i64 (j : Int) ∧ Hid (Below w.heap.size w wr) ∧ Hid (∀ i (h1 : i < xs.length) (h2 : i < ys.length), i < j → sameNd xs[i] ys[i] = true)) (fun u5 _ => xs.length - (intOf u5).toNat)
    case atStart => exact ⟨0, Nat.zero_le _, rfl, Below.refl _ _, HI0⟩
    case round =>
      obtain ⟨j, hj, rfl, HB, HI⟩ := hrel
      obtain ⟨wA, hwA⟩ : ∃ y, y = wr := ⟨_, rfl⟩
      subst hwA
      clear HI0
      have hsz := HB.out.size
      have HBA : Hid (Below w.heap.size w wA) := HB.out
      by_cases hlt : j < xs.length
      · have hlt2 : j < ys.length := by have := HLE.out; omega
        obtain ⟨b1, o1, rfl, hb1, ⟨q0, q1, q2, q3⟩, a1, c1, q4, r1⟩ := (HX.out.later HBA.out).atNode hlt
        obtain ⟨b2, o2, rfl, hb2, ⟨p0, p1, p2, p3⟩, a2, c2, p4, r2⟩ := (HY.out.later HBA.out).atNode hlt2
        have HN : Hid (sameNd xs[j] ys[j] = false → R = false) := HNE.out j hlt hlt2
        have hltI : (j : Int) < (xs.length : Int) := by omega
        have hlt2I : (j : Int) < (ys.length : Int) := by omega
        have HST : Hid (sameNd xs[j] ys[j] = true → ∀ i (h1 : i < xs.length) (h2 : i < ys.length), i < j + 1 → sameNd xs[i] ys[i] = true) := fun h i h1 h2 hi => by
          by_cases e : i = j
          · subst e; exact h
          · exact HI.out i h1 h2 (by omega)
        have hkl := HK.out j hlt
        clear HX HY HNE HEQ HI HK
        have B2 : Below wA.heap.size wA ((wA.alloc (.cells #[.int .i64 xs[j].kind, .int .i64 xs[j].sym, .int .i64 xs[j].alt, .int .i64 xs[j].pl, .slice a1 xs[j].kids.length c1] 62)).alloc (.cells #[.int .i64 ys[j].kind, .int .i64 ys[j].sym, .int .i64 ys[j].alt, .int .i64 ys[j].pl, .slice a2 ys[j].kids.length c2] 62)) := ((Below.refl _ _).alloc (Nat.le_refl _) _).alloc (by simp) _
        have X := sameNode_any xs[j] ys[j] a1 a2 c1 c2 _ (r1.later B2) (r2.later B2) hkl
        have HB2 : Hid (Below wA.heap.size wA ((wA.alloc (.cells #[.int .i64 xs[j].kind, .int .i64 xs[j].sym, .int .i64 xs[j].alt, .int .i64 xs[j].pl, .slice a1 xs[j].kids.length c1] 62)).alloc (.cells #[.int .i64 ys[j].kind, .int .i64 ys[j].sym, .int .i64 ys[j].alt, .int .i64 ys[j].pl, .slice a2 ys[j].kids.length c2] 62))) := B2
        clear r1 r2 hkl B2
        generalize sameNd xs[j] ys[j] = r at *
        generalize xs[j] = x at *
        generalize ys[j] = y at *
        cases r with
        | true =>
          have HS2 : Hid (∀ i (h1 : i < xs.length) (h2 : i < ys.length), i < j + 1 → sameNd xs[i] ys[i] = true) := HST.out rfl
          clear HST HN
          go_wp2_with fail
          refine X.mono ?_
          rintro e w5 ⟨rfl, hb5⟩
          have HB5 : Hid (Below w.heap.size w w5) := HBA.out.trans ((HB2.out.trans (hb5.mono HB2.out.size)).mono hsz)
          clear HB HBA hb5 X HB2 q0 q1 q2 q3 q4 p0 p1 p2 p3 p4
          go_wp2
          go_roundw
          case rel => exact ⟨j + 1, by omega, by go_num, HB5, HS2⟩
          case measure => simp [intOf]; omega
        | false =>
          have HR : Hid (R = false) := HN.out rfl
          clear HST HN
          go_wp2_with fail
          refine X.mono ?_
          rintro e w5 ⟨rfl, hb5⟩
          go_wp2
          go_ret
          rw [HR.out]
          exact ⟨rfl, HBA.out.trans ((HB2.out.trans (hb5.mono HB2.out.size)).mono hsz)⟩
      · have HR : Hid (R = true) := HEQ.out HLE.out (fun i h1 h2 => HI.out i h1 h2 (by omega))
        have hltI : ¬ (j : Int) < (xs.length : Int) := by omega
        clear HX HY HNE HEQ HI HK
        go_wp2
        go_ret
        rw [HR.out]
        exact ⟨rfl, HBA.out⟩
  · have hneI : ((xs.length : Int) != (ys.length : Int)) = true := by simp; omega
    have HR : Hid (R = false) := HLN.out hne
    clear HX HY HLN HNE HEQ HK hne
    go_enter Try.func32, Try.ntmps32
    go_wp2
    go_ret
    rw [HR.out]
    exact ⟨rfl, Below.refl _ _⟩
end Go.Proofs.Ythnppodnjokaoab
