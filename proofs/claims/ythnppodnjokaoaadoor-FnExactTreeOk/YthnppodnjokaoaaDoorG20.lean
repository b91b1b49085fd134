/-
  Contracts and plain mathematics, joined: SpecTreeShape, TreeShape. No statement is proved here.
-/
import Derived.Test.YthnppodnjokaoaaDoorG11
import Derived.Test.YthnppodnjokaoaaDoorG3
import Derived.Test.YthnppodnjokaoaaDoorG9
import Derived.Laws.OwnMore
import Derived.Deep.QuietTactic
import Derived.BigQuiet
import Derived.BigRegion
namespace Go.Proofs.YthnppodnjokaoaaDoor
open Go.RowKit

def resTreeShape (x : Tr) : Bool := shapeB x.nodes

theorem madeCells_one (z : Value) (n : Nat) : madeCells #[z] n = (List.replicate n z).toArray := by
  apply Array.ext'
  rw [toList_madeCells_one]
theorem Vals.made (w : World) (z : Value) (n : Nat) (t : TypeId) : Vals (w.alloc (.cells (madeCells #[z] n) t)) w.heap.size t (List.replicate n z) := by
  rw [madeCells_one]; exact Vals.new w t _
/-- The five cells of a node. -/
def ndCells (x : Nd) (a : Option Addr) (c : Nat) : List Value := [.int .i64 x.kind, .int .i64 x.sym, .int .i64 x.alt, .int .i64 x.pl, .slice a x.kids.length c]
theorem node_fit {ns : List Nd} (hf : (Lay.list Lay.node).fit ns) {i : Nat} (h : i < ns.length) : ∀ k ∈ ns[i].kids, (Lit.int .i64 k).wf = true := by
  have := hf.2 ns[i] (List.getElem_mem h)
  exact this.2.2.2.2.2

set_option maxHeartbeats 4000000 in
set_option maxRecDepth 100000 in
theorem specTreeShape_any (x : Tr) (a0 : Option Addr) (c0 : Nat) (w : World) (h0 : RD w (.slice a0 x.nodes.length c0) (slD Lay.node x.nodes)) (hw : Lay.tree.wt x ≤ 1048576) (hf : Lay.tree.fit x) :
    Calls Tryd.prog 30 #[.agg #[.slice a0 x.nodes.length c0]] w fun e w' => e = .returned (.bool (resTreeShape x)) ∧ Below w.heap.size w w' := by
  rw [Lay_tree_wt, Lay.wt_list] at hw
  have hn : x.nodes.length ≤ 1048576 := by omega
  unfold resTreeShape
  have HF : Hid ((Lay.list Lay.node).fit x.nodes) := hf
  clear hf
  have HW : Hid (Lay.node.sumL x.nodes ≤ 1048576) := by show _ ≤ _; omega
  clear hw
  generalize x.nodes = ns at *
  by_cases hz : ns = []
  · rw [shapeB_no (fun s => s.1 hz)]
    subst hz
    clear h0
    go_enter Tryd.func30, Tryd.ntmps30
    go_wp2
    go_ret
    exact ⟨rfl, (Below.refl _ _).alloc (Nat.le_refl _) _⟩
  · have hpos : 0 < ns.length := List.length_pos_iff.2 hz
    have hmk := run_make_row' (P := Tryd.prog) 25 3 (.int .i64 0) 8 Tryd.underlying25 Tryd.infoInt rfl .i64 .i64 ns.length (by omega) (by omega)
    have B0 := (Below.refl w.heap.size w).alloc (Nat.le_refl _) (.cells #[.slice a0 ns.length c0] 43)
    have HR : Hid (RD (w.alloc (.cells #[.slice a0 ns.length c0] 43)) (.slice a0 ns.length c0) (slD Lay.node ns)) := h0.later B0
    have HV0 : Hid (Vals ((w.alloc (.cells #[.slice a0 ns.length c0] 43)).alloc (.cells (madeCells #[.int .i64 0] ns.length) 3)) (w.heap.size + 1) 3 (cntRow [] ns.length)) := by
      show Vals _ _ _ _
      rw [cntRow_nil]
      have := Vals.made (w.alloc (.cells #[.slice a0 ns.length c0] 43)) (.int .i64 0) ns.length 3
      simpa using this
    have HB0 : Hid (Below (w.heap.size + 1) (w.alloc (.cells #[.slice a0 ns.length c0] 43)) ((w.alloc (.cells #[.slice a0 ns.length c0] 43)).alloc (.cells (madeCells #[.int .i64 0] ns.length) 3))) := (Below.refl _ _).alloc (by simp) _
    clear h0
    have hz0 : ((ns.length : Int) == 0) = false := by simp; omega
    go_enter Tryd.func30, Tryd.ntmps30
    go_wp2
    clear hmk
    go_loopw [4] (fun u4 wr => ∃ i : Nat, i ≤ ns.length ∧ u4 = .int .i64 i ∧ Hid ((∀ j (h : j < ns.length), j < i → Right ns.length j ns[j]) ∧ Vals wr (w.heap.size + 1) 3 (cntRow (kidsTo ns i) ns.length)) ∧ Below (w.heap.size + 1) (w.alloc (.cells #[.slice a0 ns.length c0] 43)) wr) (fun u4 _ => ns.length - (intOf u4).toNat)
    case atStart => exact ⟨0, Nat.zero_le _, rfl, ⟨fun j _ h => by omega, HV0.out⟩, HB0.out⟩
    case round =>
      obtain ⟨i, hi, rfl, HI, hbel⟩ := hrel
      clear HV0 HB0
      have g0 : wr.cell? ⟨w.heap.size, 0, none⟩ = some (.slice a0 ns.length c0) := (hbel.cell (p := ⟨w.heap.size, 0, none⟩) (by simp)).trans (by simp)
      obtain ⟨wA, hwA⟩ : ∃ y, y = wr := ⟨_, rfl⟩
      subst hwA
      by_cases hlt : i < ns.length
      · obtain ⟨b1, o1, rfl, hb1, ⟨p0, p1, p2, p3⟩, a1, c1, p4, r1⟩ := HR.out.atNode hlt
        have hb1' : b1 < w.heap.size + 1 := by simpa using hb1
        have q0 := (hbel.cell (p := ⟨b1, _, none⟩) hb1').trans p0
        have q1 := (hbel.cell (p := ⟨b1, _, none⟩) hb1').trans p1
        have q2 := (hbel.cell (p := ⟨b1, _, none⟩) hb1').trans p2
        have q3 := (hbel.cell (p := ⟨b1, _, none⟩) hb1').trans p3
        have q4 := (hbel.cell (p := ⟨b1, _, none⟩) hb1').trans p4
        have HRT : Hid (¬ Right ns.length i ns[i] → shapeB ns = false) := fun h => shapeB_no (not_shaped_at hlt h)
        have HNX : Hid (kidsTo ns (i + 1) = kidsTo ns i ++ ns[i].kids) := kidsTo_next hlt
        have HRI : Hid (Right ns.length i ns[i] → ∀ j (h : j < ns.length), j < i + 1 → Right ns.length j ns[j]) := fun h j hj hji => by
          by_cases e : j = i
          · subst e; exact h
          · exact HI.out.1 j hj (by omega)
        have HV1 : Hid (Vals wA (w.heap.size + 1) 3 (cntRow (kidsTo ns i) ns.length)) := HI.out.2
        have HKB : Hid ((kidsTo ns (i + 1)).length ≤ 1048576) := by have := kidsTo_length (ns := ns) (i + 1); have := HW.out; show _ ≤ _; omega
        have HRK : Hid (Reads (w.alloc (.cells #[.slice (some ⟨b1, o1, none⟩) ns.length c0] 43)) a1 ns[i].kids) := r1.reads
        have HKW : Hid (∀ k ∈ ns[i].kids, (Lit.int .i64 k).wf = true) := node_fit HF.out hlt
        have HRN : Hid (∀ k (h : k < ns[i].kids.length), ¬ ((i : Int) < ns[i].kids[k] ∧ ns[i].kids[k] < ns.length) → shapeB ns = false) := fun k h g => shapeB_no (not_shaped_at hlt (not_right_kid h g))
        have hkl : ns[i].kids.length ≤ 1048576 := by have := HKB.out; rw [HNX.out, List.length_append] at this; omega
        have hgA := hbel.size
        simp only [World.size_alloc] at hgA
        have hgN : w.heap.size + 1 < wA.heap.size := HV1.out.lt
        clear HI r1 p0 p1 p2 p3 p4 hb1 hb1'
        generalize ns[i] = y at *
        by_cases hk : inB y.kind 0 3 = true
        · have HNG : Hid (y.kind ≠ 1 → 0 < y.kids.length → shapeB ns = false) := fun h g => HRT.out (not_right_kids h (fun e => by rw [e] at g; simp at g))
          have HRG : Hid ((y.kind = 1 ∨ y.kids.length = 0) → (∀ k ∈ y.kids, (i : Int) < k ∧ k < ns.length) → Right ns.length i y) := fun g h => ⟨hk, g.imp id List.eq_nil_of_length_eq_zero, h⟩
          generalize y.kind = kd at *
          obtain ⟨kl, HKL⟩ : ∃ kl, Hid (y.kids.length = kl) := ⟨_, rfl⟩
          rw [HKL.out] at q4 hkl HNG HRG
          obtain ⟨vsN, HBN, HV4⟩ : ∃ vsN : List Value, Hid (Vals (wA.alloc (.cells #[.int .i64 kd, .int .i64 y.sym, .int .i64 y.alt, .int .i64 y.pl, .slice a1 kl c1] 55)) wA.heap.size 55 vsN) ∧ Hid (vsN[4]? = some (.slice a1 kl c1)) := ⟨[.int .i64 kd, .int .i64 y.sym, .int .i64 y.alt, .int .i64 y.pl, .slice a1 kl c1], Vals.new wA _ _, by show _ = _; rfl⟩
          have HV2 : Hid (Vals (wA.alloc (.cells #[.int .i64 kd, .int .i64 y.sym, .int .i64 y.alt, .int .i64 y.pl, .slice a1 kl c1] 55)) (w.heap.size + 1) 3 (cntRow (kidsTo ns i) ns.length)) := HV1.out.later ((Below.refl _ _).alloc (Nat.le_refl _) _)
          have hbel2 : Below (w.heap.size + 1) (w.alloc (.cells #[.slice (some ⟨b1, o1, none⟩) ns.length c0] 43)) (wA.alloc (.cells #[.int .i64 kd, .int .i64 y.sym, .int .i64 y.alt, .int .i64 y.pl, .slice a1 kl c1] 55)) := hbel.alloc (by omega) _
          clear HV1
          by_cases h2 : 0 < kl ∧ kd ≠ 1
          · obtain ⟨h2, h1⟩ := h2
            have HSB : Hid (shapeB ns = false) := HNG.out h1 h2
            go_wp2_with (go_at_call 41; refine (l1In_any _ _ _ _).mono ?_; rintro e w' ⟨rfl, rfl⟩)
            go_ret
            exact ⟨ret_bool (by rw [HSB.out]), B0.trans ((hbel.alloc (by omega) _).mono (by omega))⟩
          · have HKR : Hid (kd = 1 ∨ kl = 0) := by show _ ∨ _; omega
            have HRG2 : Hid ((∀ k ∈ y.kids, (i : Int) < k ∧ k < ns.length) → Right ns.length i y) := HRG.out HKR.out
            clear HRG HNG h2
            by_cases h1 : kd = 1
            · subst h1
              clear HKR
              go_wp2_with (go_at_call 41; refine (l1In_any _ _ _ _).mono ?_; rintro e w' ⟨rfl, rfl⟩)
              clear q0 q1 q2 q3 q4 g0
              go_loopw [6] (fun u6 wr => ∃ k : Nat, k ≤ kl ∧ u6 = .int .i64 k ∧ Hid ((∀ j (h : j < y.kids.length), j < k → (i : Int) < y.kids[j] ∧ y.kids[j] < ns.length) ∧ Vals wr (w.heap.size + 1) 3 (cntRow (kidsTo ns i ++ y.kids.take k) ns.length) ∧ Vals wr wA.heap.size 55 vsN) ∧ Below (w.heap.size + 1) (w.alloc (.cells #[.slice (some ⟨b1, o1, none⟩) ns.length c0] 43)) wr) (fun u6 _ => kl - (intOf u6).toNat)
              case atStart => exact ⟨0, Nat.zero_le _, rfl, ⟨fun j _ h => by omega, by simpa using HV2.out, HBN.out⟩, hbel2⟩
              case round =>
                obtain ⟨k, hk3, rfl, HI, hbel3⟩ := hrel
                clear HV2 HBN hbel2
                have g0 : wr.cell? ⟨w.heap.size, 0, none⟩ = some (.slice (some ⟨b1, o1, none⟩) ns.length c0) := (hbel3.cell (p := ⟨w.heap.size, 0, none⟩) (by simp)).trans (by simp)
                have hszr : w.heap.size + 1 ≤ wr.heap.size := by have := hbel3.size; simpa using this
                have q4 : wr.cell? ⟨wA.heap.size, 4, none⟩ = some (.slice a1 kl c1) := (HI.out.2.2.cell 4).trans HV4.out
                by_cases hlk : k < kl
                · have hlk2 : k < y.kids.length := by rw [HKL.out]; exact hlk
                  obtain ⟨b2, o2, rfl, hb2, hc2⟩ := HRK.out.at hlk2
                  have q5' := hc2 k hlk2
                  rw [List.getD_eq_getElem?_getD, List.getElem?_eq_getElem hlk2, Option.getD_some] at q5'
                  have q5 := (hbel3.cell (p := ⟨b2, o2 + k, none⟩) (by simpa using hb2)).trans q5'
                  have HIN : Hid (¬ ((i : Int) < y.kids[k] ∧ y.kids[k] < ns.length) → shapeB ns = false) := HRN.out k hlk2
                  have HNX2 : Hid (y.kids.take (k + 1) = y.kids.take k ++ [y.kids[k]]) := List.take_succ_eq_append_getElem hlk2
                  have HSTEP : Hid (((i : Int) < y.kids[k] ∧ y.kids[k] < ns.length) → ∀ j (h : j < y.kids.length), j < k + 1 → (i : Int) < y.kids[j] ∧ y.kids[j] < ns.length) := fun h j hj hjk => by
                    by_cases e : j = k
                    · subst e; exact h
                    · exact HI.out.1 j hj (by omega)
                  have HV3 : Hid (Vals wr (w.heap.size + 1) 3 (cntRow (kidsTo ns i ++ y.kids.take k) ns.length) ∧ Vals wr wA.heap.size 55 vsN) := HI.out.2
                  have hcl : (kidsTo ns i ++ y.kids.take k).length ≤ 1048576 := by
                    have := HKB.out
                    rw [HNX.out, List.length_append] at this
                    rw [List.length_append, List.length_take]; omega
                  clear hc2 q5' hb2 HI
                  generalize y.kids[k] = kid at *
                  clear hlk2
                  by_cases hin : inB kid ((i : Int) + 1) ((ns.length : Int) - 1) = true
                  · have hin3 := inB_true.1 hin
                    obtain ⟨kn, rfl⟩ : ∃ kn : Nat, kid = kn := ⟨kid.toNat, by omega⟩
                    have hkn : kn < ns.length := by omega
                    have hct := List.count_le_length (a := (kn : Int)) (l := kidsTo ns i ++ y.kids.take k)
                    have qs : wr.cell? ⟨w.heap.size + 1, kn, none⟩ = some (.int .i64 (((kidsTo ns i ++ y.kids.take k).count (kn : Int) : Nat) : Int)) := (HV3.out.1.cell kn).trans (cntRow_get hkn)
                    have fs : wr.frozen? ⟨w.heap.size + 1, kn, none⟩ = false := HV3.out.1.frozen kn
                    have HST : Hid ((cntRow (kidsTo ns i ++ y.kids.take k) ns.length).set kn (.int .i64 ((((kidsTo ns i ++ y.kids.take k).count (kn : Int) : Nat) : Int) + 1)) = cntRow (kidsTo ns i ++ y.kids.take (k + 1)) ns.length) := by
                      show _ = _
                      rw [cntRow_set, HNX2.out, List.append_assoc]
                    have HIN2 : Hid ((∀ j (h : j < y.kids.length), j < k + 1 → (i : Int) < y.kids[j] ∧ y.kids[j] < ns.length)) := HSTEP.out ⟨by omega, by omega⟩
                    have HVF : Hid (∀ nq, (Vals ((wr.drewN nq).setCell ⟨w.heap.size + 1, kn, none⟩ (.int .i64 ((((kidsTo ns i ++ y.kids.take k).count (kn : Int) : Nat) : Int) + 1))) (w.heap.size + 1) 3 (cntRow (kidsTo ns i ++ y.kids.take (k + 1)) ns.length) ∧ Vals ((wr.drewN nq).setCell ⟨w.heap.size + 1, kn, none⟩ (.int .i64 ((((kidsTo ns i ++ y.kids.take k).count (kn : Int) : Nat) : Int) + 1))) wA.heap.size 55 vsN) ∧ Below (w.heap.size + 1) (w.alloc (.cells #[.slice (some ⟨b1, o1, none⟩) ns.length c0] 43)) ((wr.drewN nq).setCell ⟨w.heap.size + 1, kn, none⟩ (.int .i64 ((((kidsTo ns i ++ y.kids.take k).count (kn : Int) : Nat) : Int) + 1)))) := fun nq => by
                      have v1 : Vals (wr.drewN nq) (w.heap.size + 1) 3 (cntRow (kidsTo ns i ++ y.kids.take k) ns.length) := HV3.out.1
                      have v2 : Vals (wr.drewN nq) wA.heap.size 55 vsN := HV3.out.2
                      refine ⟨⟨?_, v2.grown (setCell_grown _ _ _ _) (by simp; omega)⟩, (hbel3.trans ((below_drew nq).mono hszr)).setCell (p := ⟨w.heap.size + 1, kn, none⟩) (Nat.le_refl _) _⟩
                      have := v1.set kn (.int .i64 ((((kidsTo ns i ++ y.kids.take k).count (kn : Int) : Nat) : Int) + 1))
                      rw [HST.out] at this
                      exact this
                    clear HSTEP HIN HNX2 HST HV3
                    generalize (kidsTo ns i ++ y.kids.take k).count (kn : Int) = ct at *
                    go_wp2
                    go_quiet ((go_at_call 41; exact Calls.quiet_of_same (l1In_any _ _ _ _)))
                    go_wp2
                    go_region
                    go_wp2
                    go_roundw
                    case rel => exact ⟨k + 1, by omega, by go_num, ⟨HIN2.out, (HVF.out _).1⟩, (HVF.out _).2⟩
                    case measure => simp [intOf]; omega
                  · have hin4 : inB kid ((i : Int) + 1) ((ns.length : Int) - 1) = false := by simpa using hin
                    have HSB : Hid (shapeB ns = false) := HIN.out (fun h => hin (inB_true.2 ⟨by omega, by omega⟩))
                    clear HIN HSTEP hin
                    go_wp2
                    go_quiet ((go_at_call 41; exact Calls.quiet_of_same (l1In_any _ _ _ _)))
                    go_wp2
                    go_ret
                    exact ⟨ret_bool (by rw [HSB.out]), B0.trans ((hbel3.trans ((below_drew _).mono hszr)).mono (Nat.le_succ w.heap.size))⟩
                · have e : k = kl := by omega
                  subst e
                  have HRF : Hid (Right ns.length i y) := HRG2.out (fun z hz => by
                    obtain ⟨j, hj, e⟩ := List.mem_iff_getElem.1 hz
                    rw [← e]
                    exact HI.out.1 j hj (by rw [← HKL.out]; exact hj))
                  have HVE : Hid (Vals wr (w.heap.size + 1) 3 (cntRow (kidsTo ns (i + 1)) ns.length)) := by
                    have := HI.out.2.1
                    rw [List.take_of_length_le (by rw [HKL.out]; exact Nat.le_refl _), ← HNX.out] at this
                    exact this
                  have HJE : Hid (∀ j (h : j < ns.length), j < i + 1 → Right ns.length j ns[j]) := HRI.out HRF.out
                  clear HI HRF
                  go_wp2
                  go_roundw
                  case rel => exact ⟨i + 1, by omega, by go_num, ⟨HJE.out, HVE.out⟩, hbel3⟩
                  case measure => simp [intOf]; omega
            · have h3 : kl = 0 := HKR.out.resolve_left h1
              subst h3
              clear HKR
              go_wp2_with (go_at_call 41; refine (l1In_any _ _ _ _).mono ?_; rintro e w' ⟨rfl, rfl⟩)
              clear q0 q1 q2 q3 q4 g0
              go_loopw [6] (fun u6 wr => ∃ k : Nat, k ≤ 0 ∧ u6 = .int .i64 k ∧ Hid ((∀ j (h : j < y.kids.length), j < k → (i : Int) < y.kids[j] ∧ y.kids[j] < ns.length) ∧ Vals wr (w.heap.size + 1) 3 (cntRow (kidsTo ns i ++ y.kids.take k) ns.length) ∧ Vals wr wA.heap.size 55 vsN) ∧ Below (w.heap.size + 1) (w.alloc (.cells #[.slice (some ⟨b1, o1, none⟩) ns.length c0] 43)) wr) (fun u6 _ => 0 - (intOf u6).toNat)
              case atStart => exact ⟨0, Nat.zero_le _, rfl, ⟨fun j _ h => by omega, by simpa using HV2.out, HBN.out⟩, hbel2⟩
              case round =>
                obtain ⟨k, hk3, rfl, HI, hbel3⟩ := hrel
                clear HV2 HBN hbel2
                have g0 : wr.cell? ⟨w.heap.size, 0, none⟩ = some (.slice (some ⟨b1, o1, none⟩) ns.length c0) := (hbel3.cell (p := ⟨w.heap.size, 0, none⟩) (by simp)).trans (by simp)
                have q4 : wr.cell? ⟨wA.heap.size, 4, none⟩ = some (.slice a1 0 c1) := (HI.out.2.2.cell 4).trans HV4.out
                have e : k = 0 := by omega
                subst e
                have HRF : Hid (Right ns.length i y) := HRG2.out (fun z hz => by
                  obtain ⟨j, hj, e⟩ := List.mem_iff_getElem.1 hz
                  rw [← e]
                  exact HI.out.1 j hj (by rw [← HKL.out]; exact hj))
                have HVE : Hid (Vals wr (w.heap.size + 1) 3 (cntRow (kidsTo ns (i + 1)) ns.length)) := by
                  have := HI.out.2.1
                  rw [List.take_of_length_le (by rw [HKL.out]; exact Nat.le_refl _), ← HNX.out] at this
                  exact this
                have HJE : Hid (∀ j (h : j < ns.length), j < i + 1 → Right ns.length j ns[j]) := HRI.out HRF.out
                clear HI HRF
                go_wp2
                go_roundw
                case rel => exact ⟨i + 1, by omega, by go_num, ⟨HJE.out, HVE.out⟩, hbel3⟩
                case measure => simp [intOf]; omega
        · have hk2 : inB y.kind 0 3 = false := by simpa using hk
          have HSB : Hid (shapeB ns = false) := HRT.out (fun r => hk r.1)
          clear hk
          go_wp2_with (go_at_call 41; refine (l1In_any _ _ _ _).mono ?_; rintro e w' ⟨rfl, rfl⟩)
          go_ret
          exact ⟨ret_bool (by rw [HSB.out]), B0.trans ((hbel.alloc (by omega) _).mono (by omega))⟩
      · have e : i = ns.length := by omega
        subst e
        have HV1 : Hid (Vals wA (w.heap.size + 1) 3 (cntRow (kidsTo ns ns.length) ns.length)) := HI.out.2
        have HJ1 : Hid (∀ j (h : j < ns.length), Right ns.length j ns[j]) := fun j h => HI.out.1 j h h
        have HKB : Hid ((kidsTo ns ns.length).length ≤ 1048576) := by have := kidsTo_length (ns := ns) ns.length; have := HW.out; show _ ≤ _; omega
        clear HI HF HW HR
        go_wp2
        go_loopw [7] (fun u7 wr => ∃ j : Nat, 1 ≤ j ∧ j ≤ ns.length ∧ u7 = .int .i64 j ∧ Hid (∀ l, 1 ≤ l → l < j → (kidsTo ns ns.length).count (l : Int) = 1) ∧ wr = wA) (fun u7 _ => ns.length - (intOf u7).toNat)
        case atStart => exact ⟨1, Nat.le_refl _, hpos, rfl, fun l h1 h2 => by omega, rfl⟩
        case round =>
          obtain ⟨j, hj1, hj, rfl, HC, hw1⟩ := hrel
          replace hw1 := hw1.symm
          subst hw1
          by_cases hlj : j < ns.length
          · have hct := List.count_le_length (a := (j : Int)) (l := kidsTo ns ns.length)
            have hkb := HKB.out
            have qs : wA.cell? ⟨w.heap.size + 1, j, none⟩ = some (.int .i64 (((kidsTo ns ns.length).count (j : Int) : Nat) : Int)) := (HV1.out.cell j).trans (cntRow_get hlj)
            have HS : Hid ((kidsTo ns ns.length).count (j : Int) = 1 → ∀ l, 1 ≤ l → l < j + 1 → (kidsTo ns ns.length).count (l : Int) = 1) := fun h l h1 h2 => by
              by_cases e : l = j
              · subst e; exact h
              · exact HC.out l h1 (by omega)
            have HN : Hid ((kidsTo ns ns.length).count (j : Int) ≠ 1 → shapeB ns = false) := fun h => shapeB_no (fun s => h (s.2.2 j hj1 hlj))
            clear HC
            generalize (kidsTo ns ns.length).count (j : Int) = ct at *
            by_cases hc : ct = 1
            · have HS2 := HS.out hc
              have HS3 : Hid (∀ l, 1 ≤ l → l < j + 1 → (kidsTo ns ns.length).count (l : Int) = 1) := HS2
              subst hc
              clear HS HN HS2
              go_wp2
              go_roundw
              case rel => exact ⟨j + 1, by omega, by omega, by go_num, HS3, trivial⟩
              case measure => simp [intOf]; omega
            · have HSB : Hid (shapeB ns = false) := HN.out hc
              clear HS HN
              go_wp2
              go_ret
              exact ⟨ret_bool (by rw [HSB.out]), B0.trans (hbel.mono (Nat.le_succ w.heap.size))⟩
          · have HSB : Hid (shapeB ns = true) := shapeB_yes ⟨hz, HJ1.out, fun l h1 h2 => HC.out l h1 (by omega)⟩
            clear HC
            go_wp2
            go_ret
            exact ⟨ret_bool (by rw [HSB.out]), B0.trans (hbel.mono (Nat.le_succ w.heap.size))⟩
end Go.Proofs.YthnppodnjokaoaaDoor
namespace Go.Proofs.YthnppodnjokaoaaDoor
open Go.RowKit

theorem Tryd.infoBoolT : (Tryd.prog.info? 4).map (fun i => (i.zero, i.size, i.bytes)) = some (some (.bool false), 1, 1) := by kernel_rfl

theorem isKind_any (x : Int) (w : World) : Calls Tryd.prog 61 #[.int .i64 x] w fun e w' => e = .returned (.bool (inB x 0 3)) ∧ w' = w := by
  by_cases h1 : 0 ≤ x
  · by_cases h2 : x ≤ 3
    all_goals
      go_enter Tryd.func61, Tryd.ntmps61
      go_wp2
      go_ret
      exact ⟨ret_bool (by simp [inB]; omega), rfl⟩
  · go_enter Tryd.func61, Tryd.ntmps61
    go_wp2
    go_ret
    exact ⟨ret_bool (by simp [inB]; omega), rfl⟩

theorem indexB_any (bs : List Bool) (b c : Nat) (w : World) (h : Vals w b 4 (bs.map Value.bool)) (hl : bs.length ≤ 1048576) :
    Calls Tryd.prog 82 #[.slice (some ⟨b, 0, none⟩) bs.length c, .bool false] w fun e w' => ∃ r : Int, e = .returned (.int .i64 r) ∧ Hid (-1 ≤ r ∧ r ≤ 1048576 ∧ (0 ≤ r ↔ bs.contains false = true)) ∧ w' = w := by
  go_enter Tryd.func82, Tryd.ntmps82
  go_wp2
  go_loop [8] (fun u => ∃ k : Nat, k ≤ bs.length ∧ u = .int .i64 (k : Int) ∧ Hid (∀ j (h : j < bs.length), j < k → bs[j] = true)) (fun u => bs.length - (intOf u).toNat)
  case atStart => exact ⟨0, Nat.zero_le _, rfl, fun j _ h => by omega⟩
  case round =>
    obtain ⟨k, hk, rfl, HK⟩ := hrel
    by_cases hlt : k < bs.length
    · have q : w.cell? ⟨b, k, none⟩ = some (.bool bs[k]) := (h.cell k).trans (by simp [hlt])
      have HS : Hid (bs[k] = true → ∀ j (h : j < bs.length), j < k + 1 → bs[j] = true) := fun e j hj hjk => by
        by_cases e2 : j = k
        · subst e2; exact e
        · exact HK.out j hj (by omega)
      have HN : Hid (bs[k] = false → bs.contains false = true) := fun e => List.contains_iff_mem.2 (e ▸ List.getElem_mem hlt)
      clear HK
      generalize bs[k] = x at *
      cases x with
      | true =>
        have HS2 : Hid (∀ j (h : j < bs.length), j < k + 1 → bs[j] = true) := HS.out rfl
        clear HS HN
        go_wp2
        go_round
        case rel => exact ⟨k + 1, by omega, by go_num, HS2⟩
        case measure => simp [intOf]; omega
      | false =>
        have HN2 : Hid (bs.contains false = true) := HN.out rfl
        clear HS HN
        go_wp2
        go_ret
        exact ⟨(k : Int), rfl, ⟨by omega, by omega, fun _ => List.contains_iff_mem.1 HN2.out |> fun h => by simpa using h, fun _ => by omega⟩, rfl⟩
    · have HN2 : Hid (¬ bs.contains false = true) := fun e => by
        obtain ⟨j, hj, e2⟩ := List.mem_iff_getElem.1 (List.contains_iff_mem.1 e)
        rw [HK.out j hj (by omega)] at e2
        cases e2
      clear HK
      go_wp2
      go_ret
      exact ⟨-1, rfl, ⟨by omega, by omega, fun h => absurd h (by omega), fun h => absurd (by simpa using h) HN2.out⟩, rfl⟩

theorem containsB_any (bs : List Bool) (b c : Nat) (w : World) (h : Vals w b 4 (bs.map Value.bool)) (hl : bs.length ≤ 1048576) :
    Calls Tryd.prog 62 #[.slice (some ⟨b, 0, none⟩) bs.length c, .bool false] w fun e w' => e = .returned (.bool (bs.contains false)) ∧ w' = w := by
  have X : Hid (Calls Tryd.prog 82 #[.slice (some ⟨b, 0, none⟩) bs.length c, .bool false] w fun e w' => ∃ r : Int, e = .returned (.int .i64 r) ∧ Hid (-1 ≤ r ∧ r ≤ 1048576 ∧ (0 ≤ r ↔ bs.contains false = true)) ∧ w' = w) := indexB_any bs b c w h hl
  clear h
  go_enter Tryd.func62, Tryd.ntmps62
  go_wp2_with (go_at_call 82; refine X.out.mono ?_; rintro e w' ⟨r, rfl, hr, rfl⟩)
  go_ret
  exact ⟨ret_bool (by
    have h := hr.out.2.2
    by_cases h0 : 0 ≤ r
    · rw [h.1 h0]; simpa using h0
    · have : bs.contains false = false := by
        cases e : bs.contains false with
        | false => rfl
        | true => exact absurd (h.2 e) h0
      rw [this]; simpa using h0), rfl⟩

set_option maxHeartbeats 4000000 in
set_option maxRecDepth 100000 in
theorem treeShape_any (x : Tr) (a0 : Option Addr) (c0 : Nat) (w : World) (h0 : RD w (.slice a0 x.nodes.length c0) (slD Lay.node x.nodes)) (hw : Lay.tree.wt x ≤ 1048576) (hf : Lay.tree.fit x) :
    Calls Tryd.prog 35 #[.agg #[.slice a0 x.nodes.length c0]] w fun e w' => e = .returned (.bool (resTreeShape x)) ∧ Below w.heap.size w w' := by
  rw [Lay_tree_wt, Lay.wt_list] at hw
  have hn : x.nodes.length ≤ 1048576 := by omega
  unfold resTreeShape
  have HF : Hid ((Lay.list Lay.node).fit x.nodes) := hf
  clear hf
  have HW : Hid (Lay.node.sumL x.nodes ≤ 1048576) := by show _ ≤ _; omega
  clear hw
  generalize x.nodes = ns at *
  by_cases hz : ns = []
  · rw [shapeB_no (fun s => s.1 hz)]
    subst hz
    clear h0
    go_enter Tryd.func35, Tryd.ntmps35
    go_wp2
    go_ret
    exact ⟨rfl, (Below.refl _ _).alloc (Nat.le_refl _) _⟩
  · have hpos : 0 < ns.length := List.length_pos_iff.2 hz
    have hmk := run_make_row' (P := Tryd.prog) 85 4 (.bool false) 1 Tryd.underlying85 Tryd.infoBoolT rfl .i64 .i64 ns.length (by omega) (by omega)
    have B0 := (Below.refl w.heap.size w).alloc (Nat.le_refl _) (.cells #[.slice a0 ns.length c0] 43)
    have HR : Hid (RD (w.alloc (.cells #[.slice a0 ns.length c0] 43)) (.slice a0 ns.length c0) (slD Lay.node ns)) := h0.later B0
    have HVM : Vals ((w.alloc (.cells #[.slice a0 ns.length c0] 43)).alloc (.cells (madeCells #[.bool false] ns.length) 4)) (w.heap.size + 1) 4 (List.replicate ns.length (.bool false)) := by
      have := Vals.made (w.alloc (.cells #[.slice a0 ns.length c0] 43)) (.bool false) ns.length 4
      simpa using this
    have HE : Hid ((madeCells #[.bool false] ns.length).setIfInBounds 0 (.bool true) = (metRow [] ns.length).toArray) := by
      show _ = _
      rw [madeCells_one, ← metRow_first]
      exact List.setIfInBounds_toArray _ _ _
    have HV0 : Hid (Vals ((w.alloc (.cells #[.slice a0 ns.length c0] 43)).alloc (.cells ((madeCells #[.bool false] ns.length).setIfInBounds 0 (.bool true)) 4)) (w.heap.size + 1) 4 (metRow [] ns.length)) := by
      show Vals _ _ _ _
      rw [HE.out]
      have := Vals.new (w.alloc (.cells #[.slice a0 ns.length c0] 43)) 4 (metRow [] ns.length)
      simpa using this
    have HB0 : Hid (Below (w.heap.size + 1) (w.alloc (.cells #[.slice a0 ns.length c0] 43)) ((w.alloc (.cells #[.slice a0 ns.length c0] 43)).alloc (.cells ((madeCells #[.bool false] ns.length).setIfInBounds 0 (.bool true)) 4))) := (Below.refl _ _).alloc (by simp) _
    clear HE
    have qm := HVM.cell 0
    rw [List.getElem?_replicate, if_pos hpos] at qm
    have fm := HVM.frozen 0
    clear HVM
    clear h0
    have hz0 : ((ns.length : Int) == 0) = false := by simp; omega
    go_enter Tryd.func35, Tryd.ntmps35
    go_wp2
    clear hmk qm fm
    go_loopw [21] (fun u4 wr => ∃ i : Nat, i ≤ ns.length ∧ u4 = .int .i64 i ∧ Hid (((∀ j (h : j < ns.length), j < i → Right ns.length j ns[j]) ∧ (kidsTo ns i).Nodup) ∧ Vals wr (w.heap.size + 1) 4 (metRow (kidsTo ns i) ns.length)) ∧ Below (w.heap.size + 1) (w.alloc (.cells #[.slice a0 ns.length c0] 43)) wr) (fun u4 _ => ns.length - (intOf u4).toNat)
    case atStart => exact ⟨0, Nat.zero_le _, rfl, ⟨⟨fun j _ h => by omega, List.nodup_nil⟩, HV0.out⟩, HB0.out⟩
    case round =>
      obtain ⟨i, hi, rfl, HI, hbel⟩ := hrel
      clear HV0 HB0
      have g0 : wr.cell? ⟨w.heap.size, 0, none⟩ = some (.slice a0 ns.length c0) := (hbel.cell (p := ⟨w.heap.size, 0, none⟩) (by simp)).trans (by simp)
      obtain ⟨wA, hwA⟩ : ∃ y, y = wr := ⟨_, rfl⟩
      subst hwA
      by_cases hlt : i < ns.length
      · obtain ⟨b1, o1, rfl, hb1, ⟨p0, p1, p2, p3⟩, a1, c1, p4, r1⟩ := HR.out.atNode hlt
        have hb1' : b1 < w.heap.size + 1 := by simpa using hb1
        have q0 := (hbel.cell (p := ⟨b1, _, none⟩) hb1').trans p0
        have q1 := (hbel.cell (p := ⟨b1, _, none⟩) hb1').trans p1
        have q2 := (hbel.cell (p := ⟨b1, _, none⟩) hb1').trans p2
        have q3 := (hbel.cell (p := ⟨b1, _, none⟩) hb1').trans p3
        have q4 := (hbel.cell (p := ⟨b1, _, none⟩) hb1').trans p4
        have HRT : Hid (¬ Right ns.length i ns[i] → shapeB ns = false) := fun h => shapeB_no (not_shaped_at hlt h)
        have HNX : Hid (kidsTo ns (i + 1) = kidsTo ns i ++ ns[i].kids) := kidsTo_next hlt
        have HRI : Hid (Right ns.length i ns[i] → ∀ j (h : j < ns.length), j < i + 1 → Right ns.length j ns[j]) := fun h j hj hji => by
          by_cases e : j = i
          · subst e; exact h
          · exact HI.out.1.1 j hj (by omega)
        have HND : Hid ((kidsTo ns i).Nodup) := HI.out.1.2
        have HDU : Hid (∀ k (h : k < ns[i].kids.length) (kn : Nat), ns[i].kids[k] = (kn : Int) → kn < ns.length → 1 ≤ kn → (kn : Int) ∈ kidsTo ns i ++ ns[i].kids.take k → shapeB ns = false) := fun k h kn e h1 h2 hm => shapeB_no (not_shaped_dup hlt h e h1 h2 hm)
        have HV1 : Hid (Vals wA (w.heap.size + 1) 4 (metRow (kidsTo ns i) ns.length)) := HI.out.2
        have HKB : Hid ((kidsTo ns (i + 1)).length ≤ 1048576) := by have := kidsTo_length (ns := ns) (i + 1); have := HW.out; show _ ≤ _; omega
        have HRK : Hid (Reads (w.alloc (.cells #[.slice (some ⟨b1, o1, none⟩) ns.length c0] 43)) a1 ns[i].kids) := r1.reads
        have HKW : Hid (∀ k ∈ ns[i].kids, (Lit.int .i64 k).wf = true) := node_fit HF.out hlt
        have HRN : Hid (∀ k (h : k < ns[i].kids.length), ¬ ((i : Int) < ns[i].kids[k] ∧ ns[i].kids[k] < ns.length) → shapeB ns = false) := fun k h g => shapeB_no (not_shaped_at hlt (not_right_kid h g))
        have hkl : ns[i].kids.length ≤ 1048576 := by have := HKB.out; rw [HNX.out, List.length_append] at this; omega
        have hgA := hbel.size
        simp only [World.size_alloc] at hgA
        have hgN : w.heap.size + 1 < wA.heap.size := HV1.out.lt
        clear HI r1 p0 p1 p2 p3 p4 hb1 hb1'
        generalize ns[i] = y at *
        by_cases hk : inB y.kind 0 3 = true
        · have HNG : Hid (y.kind ≠ 1 → 0 < y.kids.length → shapeB ns = false) := fun h g => HRT.out (not_right_kids h (fun e => by rw [e] at g; simp at g))
          have HRG : Hid ((y.kind = 1 ∨ y.kids.length = 0) → (∀ k ∈ y.kids, (i : Int) < k ∧ k < ns.length) → Right ns.length i y) := fun g h => ⟨hk, g.imp id List.eq_nil_of_length_eq_zero, h⟩
          generalize y.kind = kd at *
          obtain ⟨kl, HKL⟩ : ∃ kl, Hid (y.kids.length = kl) := ⟨_, rfl⟩
          rw [HKL.out] at q4 hkl HNG HRG
          obtain ⟨vsN, HBN, HV4⟩ : ∃ vsN : List Value, Hid (Vals (wA.alloc (.cells #[.int .i64 kd, .int .i64 y.sym, .int .i64 y.alt, .int .i64 y.pl, .slice a1 kl c1] 55)) wA.heap.size 55 vsN) ∧ Hid (vsN[4]? = some (.slice a1 kl c1)) := ⟨[.int .i64 kd, .int .i64 y.sym, .int .i64 y.alt, .int .i64 y.pl, .slice a1 kl c1], Vals.new wA _ _, by show _ = _; rfl⟩
          have HV2 : Hid (Vals (wA.alloc (.cells #[.int .i64 kd, .int .i64 y.sym, .int .i64 y.alt, .int .i64 y.pl, .slice a1 kl c1] 55)) (w.heap.size + 1) 4 (metRow (kidsTo ns i) ns.length)) := HV1.out.later ((Below.refl _ _).alloc (Nat.le_refl _) _)
          have hbel2 : Below (w.heap.size + 1) (w.alloc (.cells #[.slice (some ⟨b1, o1, none⟩) ns.length c0] 43)) (wA.alloc (.cells #[.int .i64 kd, .int .i64 y.sym, .int .i64 y.alt, .int .i64 y.pl, .slice a1 kl c1] 55)) := hbel.alloc (by omega) _
          clear HV1
          by_cases h2 : 0 < kl ∧ kd ≠ 1
          · obtain ⟨h2, h1⟩ := h2
            have HSB : Hid (shapeB ns = false) := HNG.out h1 h2
            go_wp2_with (go_at_call 61; refine (isKind_any _ _).mono ?_; rintro e w' ⟨rfl, rfl⟩)
            go_ret
            exact ⟨ret_bool (by rw [HSB.out]), B0.trans ((hbel.alloc (by omega) _).mono (by omega))⟩
          · have HKR : Hid (kd = 1 ∨ kl = 0) := by show _ ∨ _; omega
            have HRG2 : Hid ((∀ k ∈ y.kids, (i : Int) < k ∧ k < ns.length) → Right ns.length i y) := HRG.out HKR.out
            clear HRG HNG h2
            by_cases h1 : kd = 1
            · subst h1
              clear HKR
              go_wp2_with (go_at_call 61; refine (isKind_any _ _).mono ?_; rintro e w' ⟨rfl, rfl⟩)
              clear q0 q1 q2 q3 q4 g0
              go_loopw [44] (fun u6 wr => ∃ k : Nat, k ≤ kl ∧ u6 = .int .i64 k ∧ Hid (((∀ j (h : j < y.kids.length), j < k → (i : Int) < y.kids[j] ∧ y.kids[j] < ns.length) ∧ (kidsTo ns i ++ y.kids.take k).Nodup) ∧ Vals wr (w.heap.size + 1) 4 (metRow (kidsTo ns i ++ y.kids.take k) ns.length) ∧ Vals wr wA.heap.size 55 vsN) ∧ Below (w.heap.size + 1) (w.alloc (.cells #[.slice (some ⟨b1, o1, none⟩) ns.length c0] 43)) wr) (fun u6 _ => kl - (intOf u6).toNat)
              case atStart => exact ⟨0, Nat.zero_le _, rfl, ⟨⟨fun j _ h => by omega, by simpa using HND.out⟩, by simpa using HV2.out, HBN.out⟩, hbel2⟩
              case round =>
                obtain ⟨k, hk3, rfl, HI, hbel3⟩ := hrel
                clear HV2 HBN hbel2
                have g0 : wr.cell? ⟨w.heap.size, 0, none⟩ = some (.slice (some ⟨b1, o1, none⟩) ns.length c0) := (hbel3.cell (p := ⟨w.heap.size, 0, none⟩) (by simp)).trans (by simp)
                have hszr : w.heap.size + 1 ≤ wr.heap.size := by have := hbel3.size; simpa using this
                have q4 : wr.cell? ⟨wA.heap.size, 4, none⟩ = some (.slice a1 kl c1) := (HI.out.2.2.cell 4).trans HV4.out
                by_cases hlk : k < kl
                · have hlk2 : k < y.kids.length := by rw [HKL.out]; exact hlk
                  obtain ⟨b2, o2, rfl, hb2, hc2⟩ := HRK.out.at hlk2
                  have q5' := hc2 k hlk2
                  rw [List.getD_eq_getElem?_getD, List.getElem?_eq_getElem hlk2, Option.getD_some] at q5'
                  have q5 := (hbel3.cell (p := ⟨b2, o2 + k, none⟩) (by simpa using hb2)).trans q5'
                  have HIN : Hid (¬ ((i : Int) < y.kids[k] ∧ y.kids[k] < ns.length) → shapeB ns = false) := HRN.out k hlk2
                  have HNX2 : Hid (y.kids.take (k + 1) = y.kids.take k ++ [y.kids[k]]) := List.take_succ_eq_append_getElem hlk2
                  have HSTEP : Hid (((i : Int) < y.kids[k] ∧ y.kids[k] < ns.length) → ∀ j (h : j < y.kids.length), j < k + 1 → (i : Int) < y.kids[j] ∧ y.kids[j] < ns.length) := fun h j hj hjk => by
                    by_cases e : j = k
                    · subst e; exact h
                    · exact HI.out.1.1 j hj (by omega)
                  have HNN : Hid ((kidsTo ns i ++ y.kids.take k).Nodup) := HI.out.1.2
                  have HDK : Hid (∀ kn : Nat, y.kids[k] = (kn : Int) → kn < ns.length → 1 ≤ kn → (kn : Int) ∈ kidsTo ns i ++ y.kids.take k → shapeB ns = false) := HDU.out k hlk2
                  have HV3 : Hid (Vals wr (w.heap.size + 1) 4 (metRow (kidsTo ns i ++ y.kids.take k) ns.length) ∧ Vals wr wA.heap.size 55 vsN) := HI.out.2
                  have hkw := HKW.out y.kids[k] (List.getElem_mem hlk2)
                  have hkw2 := bounds_i64 hkw
                  clear hkw
                  clear hc2 q5' hb2 HI
                  generalize y.kids[k] = kid at *
                  clear hlk2
                  by_cases ha : kid ≤ (i : Int)
                  · have HSB : Hid (shapeB ns = false) := HIN.out (fun h => by omega)
                    clear HIN HSTEP HNN HDK HV3 HNX2
                    go_wp2
                    go_ret
                    exact ⟨ret_bool (by rw [HSB.out]), B0.trans (hbel3.mono (Nat.le_succ w.heap.size))⟩
                  · by_cases hb : (ns.length : Int) ≤ kid
                    · have HSB : Hid (shapeB ns = false) := HIN.out (fun h => by omega)
                      clear HIN HSTEP HNN HDK HV3 HNX2
                      go_wp2
                      go_ret
                      exact ⟨ret_bool (by rw [HSB.out]), B0.trans (hbel3.mono (Nat.le_succ w.heap.size))⟩
                    · obtain ⟨kn, rfl⟩ : ∃ kn : Nat, kid = kn := ⟨kid.toNat, by omega⟩
                      have hkn : kn < ns.length := by omega
                      have qs : wr.cell? ⟨w.heap.size + 1, kn, none⟩ = some (.bool (decide (kn = 0) || (kidsTo ns i ++ y.kids.take k).contains (kn : Int))) := (HV3.out.1.cell kn).trans (metRow_get hkn)
                      have fs : wr.frozen? ⟨w.heap.size + 1, kn, none⟩ = false := HV3.out.1.frozen kn
                      have hkn0 : decide (kn = 0) = false := by simp; omega
                      rw [hkn0, Bool.false_or] at qs
                      have HST : Hid ((metRow (kidsTo ns i ++ y.kids.take k) ns.length).set kn (.bool true) = metRow (kidsTo ns i ++ y.kids.take (k + 1)) ns.length) := by
                        show _ = _
                        rw [metRow_set, HNX2.out, List.append_assoc]
                      have HIN2 : Hid ((∀ j (h : j < y.kids.length), j < k + 1 → (i : Int) < y.kids[j] ∧ y.kids[j] < ns.length)) := HSTEP.out ⟨by omega, by omega⟩
                      have HVF : Hid (Vals (wr.setCell ⟨w.heap.size + 1, kn, none⟩ (.bool true)) (w.heap.size + 1) 4 (metRow (kidsTo ns i ++ y.kids.take (k + 1)) ns.length) ∧ Vals (wr.setCell ⟨w.heap.size + 1, kn, none⟩ (.bool true)) wA.heap.size 55 vsN) := by
                        refine ⟨?_, HV3.out.2.grown (setCell_grown _ _ _ _) (by simp; omega)⟩
                        have := HV3.out.1.set kn (.bool true)
                        rw [HST.out] at this
                        exact this
                      have HBF : Hid (Below (w.heap.size + 1) (w.alloc (.cells #[.slice (some ⟨b1, o1, none⟩) ns.length c0] 43)) (wr.setCell ⟨w.heap.size + 1, kn, none⟩ (.bool true))) := hbel3.setCell (p := ⟨w.heap.size + 1, kn, none⟩) (Nat.le_refl _) _
                      have HSN : Hid ((kidsTo ns i ++ y.kids.take k).contains (kn : Int) = true → shapeB ns = false) := fun h => HDK.out kn rfl hkn (by omega) (List.contains_iff_mem.1 h)
                      have HND2 : Hid ((kidsTo ns i ++ y.kids.take k).contains (kn : Int) = false → (kidsTo ns i ++ y.kids.take (k + 1)).Nodup) := fun h => by
                        rw [HNX2.out, ← List.append_assoc]
                        exact nodup_snoc HNN.out (fun hm => by rw [List.contains_iff_mem.2 hm] at h; cases h)
                      clear HSTEP HIN HNX2 HST HV3 HNN HDK hkn0
                      generalize (kidsTo ns i ++ y.kids.take k).contains (kn : Int) = mb at *
                      cases mb with
                      | true =>
                        have HSB : Hid (shapeB ns = false) := HSN.out rfl
                        clear HSN HND2 HVF HBF
                        go_wp2
                        go_ret
                        exact ⟨ret_bool (by rw [HSB.out]), B0.trans (hbel3.mono (Nat.le_succ w.heap.size))⟩
                      | false =>
                        have HND3 := HND2.out rfl
                        have HND4 : Hid ((kidsTo ns i ++ y.kids.take (k + 1)).Nodup) := HND3
                        clear HSN HND2 HND3
                        go_wp2
                        go_roundw
                        case rel => exact ⟨k + 1, by omega, by go_num, ⟨⟨HIN2.out, HND4.out⟩, HVF.out⟩, HBF.out⟩
                        case measure => simp [intOf]; omega
                · have e : k = kl := by omega
                  subst e
                  have HRF : Hid (Right ns.length i y) := HRG2.out (fun z hz => by
                    obtain ⟨j, hj, e⟩ := List.mem_iff_getElem.1 hz
                    rw [← e]
                    exact HI.out.1.1 j hj (by rw [← HKL.out]; exact hj))
                  have HVE : Hid (Vals wr (w.heap.size + 1) 4 (metRow (kidsTo ns (i + 1)) ns.length)) := by
                    have := HI.out.2.1
                    rw [List.take_of_length_le (by rw [HKL.out]; exact Nat.le_refl _), ← HNX.out] at this
                    exact this
                  have HJE : Hid ((∀ j (h : j < ns.length), j < i + 1 → Right ns.length j ns[j]) ∧ (kidsTo ns (i + 1)).Nodup) := ⟨HRI.out HRF.out, by
                    have := HI.out.1.2
                    rw [List.take_of_length_le (by rw [HKL.out]; exact Nat.le_refl _), ← HNX.out] at this
                    exact this⟩
                  clear HI HRF
                  go_wp2
                  go_roundw
                  case rel => exact ⟨i + 1, by omega, by go_num, ⟨HJE.out, HVE.out⟩, hbel3⟩
                  case measure => simp [intOf]; omega
            · have h3 : kl = 0 := HKR.out.resolve_left h1
              subst h3
              clear HKR
              go_wp2_with (go_at_call 61; refine (isKind_any _ _).mono ?_; rintro e w' ⟨rfl, rfl⟩)
              clear q0 q1 q2 q3 q4 g0
              go_loopw [44] (fun u6 wr => ∃ k : Nat, k ≤ 0 ∧ u6 = .int .i64 k ∧ Hid (((∀ j (h : j < y.kids.length), j < k → (i : Int) < y.kids[j] ∧ y.kids[j] < ns.length) ∧ (kidsTo ns i ++ y.kids.take k).Nodup) ∧ Vals wr (w.heap.size + 1) 4 (metRow (kidsTo ns i ++ y.kids.take k) ns.length) ∧ Vals wr wA.heap.size 55 vsN) ∧ Below (w.heap.size + 1) (w.alloc (.cells #[.slice (some ⟨b1, o1, none⟩) ns.length c0] 43)) wr) (fun u6 _ => 0 - (intOf u6).toNat)
              case atStart => exact ⟨0, Nat.zero_le _, rfl, ⟨⟨fun j _ h => by omega, by simpa using HND.out⟩, by simpa using HV2.out, HBN.out⟩, hbel2⟩
              case round =>
                obtain ⟨k, hk3, rfl, HI, hbel3⟩ := hrel
                clear HV2 HBN hbel2
                have g0 : wr.cell? ⟨w.heap.size, 0, none⟩ = some (.slice (some ⟨b1, o1, none⟩) ns.length c0) := (hbel3.cell (p := ⟨w.heap.size, 0, none⟩) (by simp)).trans (by simp)
                have q4 : wr.cell? ⟨wA.heap.size, 4, none⟩ = some (.slice a1 0 c1) := (HI.out.2.2.cell 4).trans HV4.out
                have e : k = 0 := by omega
                subst e
                have HRF : Hid (Right ns.length i y) := HRG2.out (fun z hz => by
                  obtain ⟨j, hj, e⟩ := List.mem_iff_getElem.1 hz
                  rw [← e]
                  exact HI.out.1.1 j hj (by rw [← HKL.out]; exact hj))
                have HVE : Hid (Vals wr (w.heap.size + 1) 4 (metRow (kidsTo ns (i + 1)) ns.length)) := by
                  have := HI.out.2.1
                  rw [List.take_of_length_le (by rw [HKL.out]; exact Nat.le_refl _), ← HNX.out] at this
                  exact this
                have HJE : Hid ((∀ j (h : j < ns.length), j < i + 1 → Right ns.length j ns[j]) ∧ (kidsTo ns (i + 1)).Nodup) := ⟨HRI.out HRF.out, by
                  have := HI.out.1.2
                  rw [List.take_of_length_le (by rw [HKL.out]; exact Nat.le_refl _), ← HNX.out] at this
                  exact this⟩
                clear HI HRF
                go_wp2
                go_roundw
                case rel => exact ⟨i + 1, by omega, by go_num, ⟨HJE.out, HVE.out⟩, hbel3⟩
                case measure => simp [intOf]; omega
        · have hk2 : inB y.kind 0 3 = false := by simpa using hk
          have HSB : Hid (shapeB ns = false) := HRT.out (fun r => hk r.1)
          clear hk
          go_wp2_with (go_at_call 61; refine (isKind_any _ _).mono ?_; rintro e w' ⟨rfl, rfl⟩)
          go_ret
          exact ⟨ret_bool (by rw [HSB.out]), B0.trans ((hbel.alloc (by omega) _).mono (by omega))⟩
      · have e : i = ns.length := by omega
        subst e
        have HV1 : Hid (Vals wA (w.heap.size + 1) 4 ((metB (kidsTo ns ns.length) ns.length).map Value.bool)) := by
          have := HI.out.2
          rw [metRow_bools] at this
          exact this
        have X : Hid (Calls Tryd.prog 62 #[.slice (some ⟨w.heap.size + 1, 0, none⟩) ns.length ns.length, .bool false] wA fun e w' => e = .returned (.bool ((metB (kidsTo ns ns.length) ns.length).contains false)) ∧ w' = wA) := by
          have := containsB_any (metB (kidsTo ns ns.length) ns.length) (w.heap.size + 1) ns.length wA HV1.out (by rw [metB_length]; exact hn)
          rw [metB_length] at this
          exact this
        have HSY : Hid ((metB (kidsTo ns ns.length) ns.length).contains false = false → shapeB ns = true) := fun h => shapeB_yes (shaped_of hz (fun j hj => HI.out.1.1 j hj hj) HI.out.1.2 (fun j h1 h2 => metB_all h h2 h1))
        have HSN : Hid ((metB (kidsTo ns ns.length) ns.length).contains false = true → shapeB ns = false) := fun h => by
          obtain ⟨j, h1, h2, h3⟩ := metB_free h
          exact shapeB_no (not_shaped_free h1 h2 h3)
        clear HI HF HW HR HV1
        generalize (metB (kidsTo ns ns.length) ns.length).contains false = mb at *
        go_wp2_with (go_at_call 62; refine X.out.mono ?_; rintro e w' ⟨rfl, rfl⟩)
        go_ret
        exact ⟨ret_bool (by
          cases mb with
          | true => rw [HSN.out rfl]; rfl
          | false => rw [HSY.out rfl]; rfl), B0.trans (hbel.mono (Nat.le_succ w.heap.size))⟩
end Go.Proofs.YthnppodnjokaoaaDoor
