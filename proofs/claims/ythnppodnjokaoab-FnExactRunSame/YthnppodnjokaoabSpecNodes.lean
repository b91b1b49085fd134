/-
  Contract of spec.l10Nodes. No statement is proved here.
-/
import Derived.Test.YthnppodnjokaoabEqLB
import Derived.Test.YthnppodnjokaoabSpecSame
import Derived.BigQuiet
import Derived.Deep.QuietTactic
namespace Go.Proofs.Ythnppodnjokaoab
open Go.RowKit

set_option maxHeartbeats 1000000 in
set_option maxRecDepth 100000 in
theorem l10Nodes_any (xs ys : List Nd) (ax ay : Option Addr) (cx cy : Nat) (w : World) (hx : RD w (.slice ax xs.length cx) (slD Lay.node xs)) (hy : RD w (.slice ay ys.length cy) (slD Lay.node ys)) (hl : xs.length ≤ 4194304) (hk : ∀ j (hj : j < xs.length), xs[j].kids.length ≤ 1048576) :
    Calls Try.prog 26 #[.agg #[.slice ax xs.length cx], .agg #[.slice ay ys.length cy]] w fun e w' => e = .returned (.bool (eqLB sameNd xs ys)) ∧ Below w.heap.size w w' := by
  have HX : Hid (RD w (.slice ax xs.length cx) (slD Lay.node xs)) := hx
  have HY : Hid (RD w (.slice ay ys.length cy) (slD Lay.node ys)) := hy
  have HK : Hid (∀ j (hj : j < xs.length), xs[j].kids.length ≤ 1048576) := hk
  clear hx hy hk
  obtain ⟨R, HR⟩ : ∃ R, eqLB sameNd xs ys = R := ⟨_, rfl⟩
  rw [HR]
  have HLN : Hid (xs.length ≠ ys.length → R = false) := fun h => by rw [← HR]; exact eqLB_len _ h
  have HNE : Hid (∀ i (h1 : i < xs.length) (h2 : i < ys.length), sameNd xs[i] ys[i] = false → R = false) := fun i h1 h2 h => by rw [← HR]; exact eqLB_at _ i h1 h2 h
  have HEQ : Hid (xs.length = ys.length → (∀ i (h1 : i < xs.length) (h2 : i < ys.length), sameNd xs[i] ys[i] = true) → R = true) := fun h g => by rw [← HR]; exact eqLB_all _ h g
  clear HR
  have B0 : Below w.heap.size w ((w.alloc (.cells #[.slice ax xs.length cx] 25)).alloc (.cells #[.slice ay ys.length cy] 25)) := ((Below.refl _ _).alloc (Nat.le_refl _) _).alloc (by simp) _
  obtain ⟨wB, hwB⟩ : ∃ y, y = (w.alloc (.cells #[.slice ax xs.length cx] 25)).alloc (.cells #[.slice ay ys.length cy] 25) := ⟨_, rfl⟩
  have g0 : wB.cell? ⟨w.heap.size, 0, none⟩ = some (.slice ax xs.length cx) := by rw [hwB]; simp [go_sem]
  have g1 : wB.cell? ⟨w.heap.size + 1, 0, none⟩ = some (.slice ay ys.length cy) := by rw [hwB]; simp [go_sem]
  have hsB : w.heap.size + 2 ≤ wB.heap.size := by rw [hwB]; simp
  have HBB : Hid (Below w.heap.size w wB) := by rw [hwB]; exact B0
  have HG : Hid (wB.cell? ⟨w.heap.size, 0, none⟩ = some (.slice ax xs.length cx) ∧ wB.cell? ⟨w.heap.size + 1, 0, none⟩ = some (.slice ay ys.length cy)) := ⟨g0, g1⟩
  by_cases hne : xs.length = ys.length
  · have hneI : ((xs.length : Int) != (ys.length : Int)) = false := by simp; omega
    have HI0 : Hid (∀ i (h1 : i < xs.length) (h2 : i < ys.length), i < 0 → sameNd xs[i] ys[i] = true) := fun i _ _ h => by omega
    have HLE : Hid (xs.length = ys.length) := hne
    clear hne HLN
    go_enter Try.func26, Try.ntmps26
    go_wp2_with fail
    rw [← hwB]
    clear hwB B0
    go_wp2
    go_loopw [5] (fun u5 wr => ∃ j : Nat, j ≤ xs.length ∧ u5 = .int .i64 (j : Int) ∧ Hid (Below wB.heap.size wB wr) ∧ Hid (∀ i (h1 : i < xs.length) (h2 : i < ys.length), i < j → sameNd xs[i] ys[i] = true)) (fun u5 _ => xs.length - (intOf u5).toNat)
    case atStart => exact ⟨0, Nat.zero_le _, rfl, Below.refl _ _, HI0⟩
    case round =>
      obtain ⟨j, hj, rfl, HB, HI⟩ := hrel
      obtain ⟨wA, hwA⟩ : ∃ y, y = wr := ⟨_, rfl⟩
      subst hwA
      clear HI0
      have hsz := HB.out.size
      have v0 := (HB.out.cell (p := ⟨w.heap.size, 0, none⟩) (by show w.heap.size < _; omega)).trans HG.out.1
      have v1 := (HB.out.cell (p := ⟨w.heap.size + 1, 0, none⟩) (by show w.heap.size + 1 < _; omega)).trans HG.out.2
      clear g0 g1
      have hl0 : w.heap.size < wA.heap.size := by omega
      have hl1 : w.heap.size + 1 < wA.heap.size := by omega
      have HBA : Hid (Below w.heap.size w wA) := HBB.out.trans (HB.out.mono HBB.out.size)
      by_cases hlt : j < xs.length
      · have hlt2 : j < ys.length := by have := HLE.out; omega
        obtain ⟨b1, o1, rfl, hb1, ⟨q0, q1, q2, q3⟩, a1, c1, q4, r1⟩ := (HX.out.later HBA.out).atNode hlt
        obtain ⟨b2, o2, rfl, hb2, ⟨p0, p1, p2, p3⟩, a2, c2, p4, r2⟩ := (HY.out.later HBA.out).atNode hlt2
        have HN : Hid (sameNd xs[j] ys[j] = false → R = false) := HNE.out j hlt hlt2
        have hltI : (j : Int) < (xs.length : Int) := by omega
        have hlt2I : (j : Int) < (ys.length : Int) := by omega
        have HST : Hid (sameNd xs[j] ys[j] = true → ∀ i (h1 : i < xs.length) (h2 : i < ys.length), i < j + 1 → sameNd xs[i] ys[i] = true) := fun h i h1 h2 hi => by
          by_cases e : i = j
          · subst e; exact h
          · exact HI.out i h1 h2 (by omega)
        have hkl := HK.out j hlt
        clear HX HY HNE HEQ HI HK
        have X : Hid (∀ W, Below wA.heap.size wA W → Calls Try.prog 40 #[.slice a1 xs[j].kids.length c1, .slice a2 ys[j].kids.length c2] W fun e w' => e = .returned (.bool (decide (xs[j].kids = ys[j].kids))) ∧ Below W.heap.size W w') := fun W hW => l1Same_any xs[j].kids ys[j].kids a1 a2 c1 c2 W (r1.later hW).reads (r2.later hW).reads hkl
        have HBN : Hid (∀ c d (t1 t2 : TypeId), Below wA.heap.size wA ((wA.alloc (.cells c t1)).alloc (.cells d t2))) := fun c d t1 t2 => ((Below.refl _ _).alloc (Nat.le_refl _) _).alloc (by simp) _
        unfold sameNd at HN
        have HST2 : Hid ((decide (xs[j].kind = ys[j].kind) && (decide (xs[j].sym = ys[j].sym) && (decide (xs[j].alt = ys[j].alt) && (decide (xs[j].pl = ys[j].pl) && decide (xs[j].kids = ys[j].kids))))) = true → ∀ i (h1 : i < xs.length) (h2 : i < ys.length), i < j + 1 → sameNd xs[i] ys[i] = true) := HST.out
        clear HST r1 r2 hkl
        have HST := HST2
        clear HST2
        generalize decide (xs[j].kids = ys[j].kids) = r at *
        generalize xs[j].kids.length = nx at *
        generalize ys[j].kids.length = ny at *
        generalize xs[j].kind = x0 at *
        generalize ys[j].kind = y0 at *
        generalize xs[j].sym = x1 at *
        generalize ys[j].sym = y1 at *
        generalize xs[j].alt = x2 at *
        generalize ys[j].alt = y2 at *
        generalize xs[j].pl = x3 at *
        generalize ys[j].pl = y3 at *
        by_cases he0 : x0 = y0
        · subst he0
          by_cases he1 : x1 = y1
          · subst he1
            by_cases he2 : x2 = y2
            · subst he2
              by_cases he3 : x3 = y3
              · subst he3
                have X3 : Hid (∀ c d (t1 t2 : TypeId), Calls Try.prog 40 #[.slice a1 nx c1, .slice a2 ny c2] ((wA.alloc (.cells c t1)).alloc (.cells d t2)) fun e w' => e = .returned (.bool r) ∧ Below wA.heap.size wA w') := fun c d t1 t2 => (X.out _ (HBN.out c d t1 t2)).mono fun e w' h => ⟨h.1, (HBN.out c d t1 t2).trans (h.2.mono (HBN.out c d t1 t2).size)⟩
                clear X
                cases r with
                | true =>
                  have HS2 : Hid (∀ i (h1 : i < xs.length) (h2 : i < ys.length), i < j + 1 → sameNd xs[i] ys[i] = true) := HST.out (by simp)
                  clear HST HN
                  go_wp2_with (go_at_call 40; refine (X3.out _ _ _ _).mono ?_; rintro e w5 ⟨rfl, hb5⟩; have HB5 : Hid (Below wB.heap.size wB w5) := HB.out.trans (hb5.mono hsz); clear hb5)
                  go_roundw
                  case rel => exact ⟨j + 1, by omega, by go_num, HB5, HS2⟩
                  case measure => simp [intOf]; omega
                | false =>
                  have HR : Hid (R = false) := HN.out (by simp)
                  clear HST HN
                  go_wp2_with (go_at_call 40; refine (X3.out _ _ _ _).mono ?_; rintro e w5 ⟨rfl, hb5⟩; have HB5 : Hid (Below wB.heap.size wB w5) := HB.out.trans (hb5.mono hsz); clear hb5)
                  go_ret
                  rw [HR.out]
                  exact ⟨rfl, HBB.out.trans (HB5.out.mono HBB.out.size)⟩
              · have hb3 : (x3 != y3) = true := by simpa using he3
                have HR : Hid (R = false) := HN.out (by simp [he3])
                clear HST HN X he3
                go_wp2
                go_ret
                rw [HR.out]
                exact ⟨rfl, HBA.out.trans ((HBN.out _ _ _ _).mono HBA.out.size)⟩
            · have hb2 : (x2 != y2) = true := by simpa using he2
              have HR : Hid (R = false) := HN.out (by simp [he2])
              clear HST HN X he2
              go_wp2
              go_ret
              rw [HR.out]
              exact ⟨rfl, HBA.out.trans ((HBN.out _ _ _ _).mono HBA.out.size)⟩
          · have hb1 : (x1 != y1) = true := by simpa using he1
            have HR : Hid (R = false) := HN.out (by simp [he1])
            clear HST HN X he1
            go_wp2
            go_ret
            rw [HR.out]
            exact ⟨rfl, HBA.out.trans ((HBN.out _ _ _ _).mono HBA.out.size)⟩
        · have hb0 : (x0 != y0) = true := by simpa using he0
          have HR : Hid (R = false) := HN.out (by simp [he0])
          clear HST HN X he0
          go_wp2
          go_ret
          rw [HR.out]
          exact ⟨rfl, HBA.out.trans ((HBN.out _ _ _ _).mono HBA.out.size)⟩
      · have HR : Hid (R = true) := HEQ.out HLE.out (fun i h1 h2 => HI.out i h1 h2 (by omega))
        have hltI : ¬ (j : Int) < (xs.length : Int) := by omega
        clear HX HY HNE HEQ HI HK
        go_wp2
        go_ret
        rw [HR.out]
        exact ⟨rfl, HBA.out⟩
  · have hneI : ((xs.length : Int) != (ys.length : Int)) = true := by simp; omega
    have HR : Hid (R = false) := HLN.out hne
    clear HX HY HLN HNE HEQ HK hne
    go_enter Try.func26, Try.ntmps26
    go_wp2
    go_ret
    rw [HR.out]
    exact ⟨rfl, B0⟩
end Go.Proofs.Ythnppodnjokaoab
