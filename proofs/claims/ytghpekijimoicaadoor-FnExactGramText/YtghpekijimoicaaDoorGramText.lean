/-
  Contract of impl.GramText over this translation. No statement is proved here.
-/
import Derived.Test.YtghpekijimoicaaDoorSpecGramText
import Derived.Test.YtghpekijimoicaaDoorRowText
namespace Go.Proofs.YtghpekijimoicaaDoor
open Go.RowKit

/-- The first k symbols, a blank ahead of each. -/
def blankTo (row : List Int) : Nat → List UInt8
  | 0 => []
  | k + 1 => blankTo row k ++ (32 :: symText (row.getD k 0))
theorem blankTo_next {row : List Int} {k : Nat} (h : k < row.length) : blankTo row (k + 1) = (blankTo row k ++ [32]) ++ symText row[k] := by simp [blankTo, h]
theorem blankTo_eq {row : List Int} : ∀ k, 0 < k → blankTo row k = 32 :: rowTo row k
  | 1, _ => by simp [blankTo, rowTo]
  | k + 2, _ => by rw [blankTo, blankTo_eq (k + 1) (by omega), show rowTo row (k + 2) = (if k + 1 = 0 then [] else rowTo row (k + 1) ++ [32]) ++ symText (row.getD (k + 1) 0) from rfl, if_neg (by omega)]; simp only [List.cons_append, List.append_assoc, List.nil_append]
theorem blankTo_end (row : List Int) : blankTo row row.length = altText row := by
  by_cases h : row.length = 0
  · rw [altText_nil h, h]; rfl
  · rw [altText_some h, blankTo_eq _ (by omega)]; rfl
theorem blankTo_le {row : List Int} (hz : ∀ z ∈ row, 0 ≤ z ∧ z < 120) (k : Nat) (hk : k ≤ row.length) : (blankTo row k).length ≤ 22 * k := by
  induction k with
  | zero => simp [blankTo]
  | succ k ih =>
    have := ih (by omega)
    have h2 := symText_le (x := row.getD k 0) (by have := hz (row.getD k 0) (by rw [List.getD_eq_getElem?_getD, List.getElem?_eq_getElem (by omega)]; exact List.getElem_mem _); omega)
    simp only [blankTo, List.length_append, List.length_cons]
    omega
theorem symText_own (k : Nat) : symText (100 + (k : Int)) = 80 :: Lib.itoa (k : Int) := by
  rw [symText_part (by omega)]; congr 2; omega

theorem writeL (B b : Nat) (pre s : List UInt8) (w : World) (h : IsB B b (Lib.byteCells pre) w) (hlen : pre.length + s.length ≤ 1099511627776) (hBw : B ≤ w.heap.size) :
    Calls Tryd.prog 41 #[.pointer (some ⟨b, 0, none⟩), .string ⟨s.toArray⟩] w fun e w' => e = .returned (.tuple #[.int .i64 (⟨s.toArray⟩ : ByteArray).size, .nilIface]) ∧ Hid (IsB B b (Lib.byteCells (pre ++ s)) w') ∧ Below B w w' := by
  refine (writeString_any B b _ ⟨s.toArray⟩ w h (by rw [Lib.byteCells_length, sizeL]; omega) hBw).mono ?_
  rintro e w' ⟨rfl, hU, hb, _⟩
  refine ⟨rfl, ?_, hb⟩
  show IsB _ _ _ _
  rw [Lib.byteCells_append, ← strCells_list s]
  exact .inr hU

set_option maxHeartbeats 2000000 in
set_option maxRecDepth 100000 in
theorem gramText_any (x : Gm) (a0 : Option Addr) (c0 : Nat) (w : World) (h0 : RD w (.slice a0 x.parts.length c0) (slD (Lay.list (Lay.list Lay.int)) x.parts)) (hn : Lay.gram.wt x ≤ 1048576) (hf : Lay.gram.fit x) (ht : PowIs w) :
    Calls Tryd.prog 20 #[.agg #[.slice a0 x.parts.length c0]] w fun e w' => e = .returned (.string (resGramText x)) ∧ Below w.heap.size w w' := by
  unfold resGramText
  have HT : Hid (PowIs w) := ht
  have B0 := (Below.refl w.heap.size w).alloc (Nat.le_refl _) (.cells #[.slice a0 x.parts.length c0] 32)
  have HR : Hid (RD w (.slice a0 x.parts.length c0) (slD (Lay.list (Lay.list Lay.int)) x.parts)) := h0
  have HOK : Hid (∀ W : World, Below w.heap.size w W → Calls Tryd.prog 46 #[.agg #[.slice a0 x.parts.length c0]] W fun e w' => e = .returned (.bool (gramOkB x.parts)) ∧ Below W.heap.size W w') := fun W hW => gramOk_any x a0 c0 W (h0.later hW) hn hf
  clear h0 hn hf ht
  generalize x.parts = P at *
  by_cases hok : gramOkB P = true
  · have F := Fits.of hok
    have HF : Hid (Fits P) := F
    have hp := F.parts
    rw [gramText, if_pos hok]
    clear F
    go_enter Tryd.func20, Tryd.ntmps20
    go_wp2_with fail
    refine (HOK.out _ B0).mono ?_
    rintro e w1 ⟨rfl, hb1⟩
    have g0 : w1.cell? ⟨w.heap.size, 0, none⟩ = some (.slice a0 P.length c0) := (hb1.cell (p := ⟨w.heap.size, 0, none⟩) (by simp)).trans (by simp)
    have hwl : w.heap.size < w1.heap.size := World.block_lt_of_cell? w1 _ g0
    have B1 : Below w.heap.size w w1 := B0.trans (hb1.mono B0.size)
    have HR1 : Hid (RD w1 (.slice a0 P.length c0) (slD (Lay.list (Lay.list Lay.int)) P)) := HR.out.later B1
    have HT1 : Hid (PowIs w1) := HT.out.later B1
    clear HOK HR HT hb1 B0
    go_wp2
    go_loopw [16] (fun i wr => ∃ k : Nat, k ≤ P.length ∧ i = .int .i64 k ∧ Hid (IsB w1.heap.size w1.heap.size (Lib.byteCells (partsTo P k)) wr) ∧ Below w1.heap.size w1 wr) (fun i _ => P.length - (intOf i).toNat)
    case atStart => exact ⟨0, Nat.zero_le _, rfl, .of (Lib.fresh_isBuilder _ _ w1), (Below.refl _ _).alloc (Nat.le_refl _) _⟩
    case round =>
      obtain ⟨k, hk, rfl, HB, hbel⟩ := hrel
      have hsz := hbel.size
      by_cases hlt : k < P.length
      · obtain ⟨b1, o1, rfl, hb1, a1, c1, q0', r1⟩ := HR1.out.listAt hlt
        have q0 := (hbel.cell (p := ⟨b1, o1 + k, none⟩) hb1).trans q0'
        have hm := List.getElem_mem hlt
        have HE : Hid (partsTo P (k + 1) = partsTo P k ++ partText k P[k]) := partsTo_next hlt
        have hpl := partsTo_le HF.out k hk
        have hQ := HF.out.alts _ hm
        have HQr : Hid (∀ row ∈ P[k], row.length ≤ 8) := HF.out.rows _ hm
        have HQs : Hid (∀ row ∈ P[k], ∀ z ∈ row, 0 ≤ z ∧ z < 120) := HF.out.syms _ hm
        have HRQ : Hid (RD w1 (.slice a1 P[k].length c1) (slD (Lay.list Lay.int) P[k])) := r1
        have hds := itoa_le (n := (k : Int)) (by omega) (by omega)
        have X : Hid (∀ W : World, Below w1.heap.size w1 W → Calls Tryd.prog 47 #[.int .i64 (100 + (k : Int))] W fun e w' => e = .returned (.string ⟨(80 :: Lib.itoa (k : Int)).toArray⟩) ∧ Below W.heap.size W w') := fun W hW => by
          have := symbolText_any (100 + (k : Int)) W (by omega) (by omega) (HT1.out.later hW)
          rwa [symText_own] at this
        have HTx : Hid (partText k P[k] = (80 :: Lib.itoa (k : Int) ++ [32, 61]) ++ (altsTo P[k] P[k].length ++ [10])) := rfl
        clear r1 q0' hm HR1
        generalize Lib.itoa (k : Int) = ds at *
        generalize partText k P[k] = pt at *
        generalize P[k] = Q at *
        generalize partsTo P k = pre at *
        go_wp2_with fail
        refine (X.out _ hbel).mono ?_
        rintro e w2 ⟨rfl, hb2⟩
        have bel2 : Below w1.heap.size w1 w2 := hbel.trans (hb2.mono hsz)
        have HB2 : Hid (IsB w1.heap.size w1.heap.size (Lib.byteCells pre) w2) := HB.out.keptR hb2
        clear X HB hb2 q0
        go_wp2_with fail
        refine (writeL _ _ pre (80 :: ds) _ HB2.out (by simp; omega) bel2.size).mono ?_
        rintro e w3 ⟨rfl, HB3, hb3⟩
        have bel3 := bel2.trans hb3
        clear HB2 bel2 hb3
        go_wp2_with fail
        refine (writeL _ _ (pre ++ (80 :: ds)) [32, 61] _ HB3.out (by simp; omega) bel3.size).mono ?_
        rintro e w4 ⟨rfl, HB4, hb4⟩
        have bel4 := bel3.trans hb4
        clear HB3 bel3 hb4
        go_wp2
        go_loopw [28] (fun i wi => ∃ j : Nat, j ≤ Q.length ∧ i = .int .i64 j ∧ Hid (IsB w1.heap.size w1.heap.size (Lib.byteCells ((pre ++ (80 :: ds) ++ [32, 61]) ++ altsTo Q j)) wi) ∧ Below w1.heap.size w1 wi) (fun i _ => Q.length - (intOf i).toNat)
        case atStart => exact ⟨0, Nat.zero_le _, rfl, by simpa [altsTo] using HB4, bel4⟩
        case round =>
          obtain ⟨j, hj, rfl, HBj, belj⟩ := hrel
          clear HB4 bel4 hbel hsz
          have hsj := belj.size
          have hal := altsTo_le HQr.out HQs.out j hj
          by_cases hlt2 : j < Q.length
          · obtain ⟨b2, o2, rfl, hb2, a2, c2, q1', r2⟩ := HRQ.out.listAt hlt2
            have q1 := (belj.cell (p := ⟨b2, o2 + j, none⟩) hb2).trans q1'
            have hm := List.getElem_mem hlt2
            have hr8 := HQr.out _ hm
            have HRs : Hid (∀ z ∈ Q[j], 0 ≤ z ∧ z < 120) := HQs.out _ hm
            have HRR : Hid (Reads w1 a2 Q[j]) := r2.reads
            have HNx : Hid (∃ mid : List UInt8, mid.length ≤ 2 ∧ (j = 0 → mid = []) ∧ (j ≠ 0 → mid = [32, 124]) ∧ altsTo Q (j + 1) = (altsTo Q j ++ mid) ++ altText Q[j]) := by
              by_cases j0 : j = 0
              · subst j0
                exact ⟨[], by simp, fun _ => rfl, fun h => absurd rfl h, by rw [altsTo_first hlt2]; simp [altsTo]⟩
              · exact ⟨[32, 124], by simp, fun h => absurd h j0, fun _ => rfl, altsTo_next hlt2 j0⟩
            have HA : Hid (blankTo Q[j] Q[j].length = altText Q[j]) := blankTo_end _
            clear r2 hm q1'
            generalize altText Q[j] = at1 at *
            generalize altsTo Q j = al at *
            generalize Q[j] = R at *
            obtain ⟨mid, hmid, m0, m1, HN⟩ := HNx.out
            have HNe : Hid (altsTo Q (j + 1) = (al ++ mid) ++ at1) := HN
            clear HN HNx
            by_cases j0 : j = 0
            · have e0 := m0 j0
              subst e0
              have hj0 : ¬ 0 < j := by omega
              clear m0 m1 j0
              go_wp2
              go_loopw [38] (fun i wm => ∃ m : Nat, m ≤ R.length ∧ i = .int .i64 m ∧ Hid (IsB w1.heap.size w1.heap.size (Lib.byteCells (((pre ++ (80 :: ds) ++ [32, 61]) ++ al) ++ blankTo R m)) wm) ∧ Below w1.heap.size w1 wm) (fun i _ => R.length - (intOf i).toNat)
              case atStart => exact ⟨0, Nat.zero_le _, rfl, by simpa [blankTo] using HBj, belj⟩
              case round =>
                obtain ⟨m, hmm, rfl, HBm, belm⟩ := hrel
                clear HBj belj hsj q1
                have hsm := belm.size
                have hbl := blankTo_le HRs.out m hmm
                by_cases hlt3 : m < R.length
                · obtain ⟨b3, o3, rfl, hb3, hc3⟩ := (HRR.out.below belm).at hlt3
                  have q2 := hc3 m hlt3
                  rw [List.getD_eq_getElem?_getD, List.getElem?_eq_getElem hlt3, Option.getD_some] at q2
                  have hz := HRs.out _ (List.getElem_mem hlt3)
                  have hsl := symText_le (x := R[m]) (by omega)
                  have HBE : Hid (blankTo R (m + 1) = (blankTo R m ++ [32]) ++ symText R[m]) := blankTo_next hlt3
                  have X : Hid (∀ W : World, Below w1.heap.size w1 W → Calls Tryd.prog 47 #[.int .i64 R[m]] W fun e w' => e = .returned (.string ⟨(symText R[m]).toArray⟩) ∧ Below W.heap.size W w') := fun W hW => symbolText_any R[m] W (by omega) (by omega) (HT1.out.later hW)
                  clear hc3
                  generalize symText R[m] = sy at *
                  generalize R[m] = z at *
                  generalize blankTo R m = bl at *
                  go_wp2_with fail
                  refine (writeL _ _ _ [32] _ HBm.out (by simp; omega) hsm).mono ?_
                  rintro e w5 ⟨rfl, HB5, hb5⟩
                  have bel5 := belm.trans hb5
                  clear HBm hb5
                  go_wp2_with fail
                  refine (X.out _ bel5).mono ?_
                  rintro e w6 ⟨rfl, hb6⟩
                  have bel6 : Below w1.heap.size w1 w6 := bel5.trans (hb6.mono bel5.size)
                  have HB6 := HB5.out.keptR hb6
                  clear X HB5 hb6
                  go_wp2_with fail
                  refine (writeL _ _ _ sy _ HB6 (by simp; omega) bel6.size).mono ?_
                  rintro e w7 ⟨rfl, HB7, hb7⟩
                  have bel7 := bel6.trans hb7
                  clear HB6 hb7
                  go_wp2
                  go_roundw
                  case rel => exact ⟨m + 1, by omega, by go_num, by show IsB _ _ _ _; rw [HBE.out]; simpa using HB7.out, bel7⟩
                  case measure => simp [intOf]; omega
                · have e : m = R.length := by omega
                  subst e
                  have HBn : Hid (IsB w1.heap.size w1.heap.size (Lib.byteCells ((pre ++ (80 :: ds) ++ [32, 61]) ++ altsTo Q (j + 1))) wr) := by
                    show IsB _ _ _ _
                    rw [HNe.out, ← HA.out]; simpa using HBm.out
                  clear HBm
                  go_wp2
                  go_roundw
                  case rel => exact ⟨j + 1, by omega, by go_num, HBn, belm⟩
                  case measure => simp [intOf]; omega
            · have e0 := m1 j0
              subst e0
              have hj0 : (0 : Int) < (j : Int) := by omega
              clear m0 m1
              go_wp2_with fail
              refine (writeL _ _ _ [32, 124] _ HBj.out (by simp; omega) hsj).mono ?_
              rintro e w4 ⟨rfl, HBx, hbx⟩
              have belx := belj.trans hbx
              clear HBj belj hsj q1 hbx
              go_wp2
              go_loopw [38] (fun i wm => ∃ m : Nat, m ≤ R.length ∧ i = .int .i64 m ∧ Hid (IsB w1.heap.size w1.heap.size (Lib.byteCells (((pre ++ (80 :: ds) ++ [32, 61]) ++ al ++ [32, 124]) ++ blankTo R m)) wm) ∧ Below w1.heap.size w1 wm) (fun i _ => R.length - (intOf i).toNat)
              case atStart => exact ⟨0, Nat.zero_le _, rfl, by simpa [blankTo] using HBx, belx⟩
              case round =>
                obtain ⟨m, hmm, rfl, HBm, belm⟩ := hrel
                clear HBx belx
                have hsm := belm.size
                have hbl := blankTo_le HRs.out m hmm
                by_cases hlt3 : m < R.length
                · obtain ⟨b3, o3, rfl, hb3, hc3⟩ := (HRR.out.below belm).at hlt3
                  have q2 := hc3 m hlt3
                  rw [List.getD_eq_getElem?_getD, List.getElem?_eq_getElem hlt3, Option.getD_some] at q2
                  have hz := HRs.out _ (List.getElem_mem hlt3)
                  have hsl := symText_le (x := R[m]) (by omega)
                  have HBE : Hid (blankTo R (m + 1) = (blankTo R m ++ [32]) ++ symText R[m]) := blankTo_next hlt3
                  have X : Hid (∀ W : World, Below w1.heap.size w1 W → Calls Tryd.prog 47 #[.int .i64 R[m]] W fun e w' => e = .returned (.string ⟨(symText R[m]).toArray⟩) ∧ Below W.heap.size W w') := fun W hW => symbolText_any R[m] W (by omega) (by omega) (HT1.out.later hW)
                  clear hc3
                  generalize symText R[m] = sy at *
                  generalize R[m] = z at *
                  generalize blankTo R m = bl at *
                  go_wp2_with fail
                  refine (writeL _ _ _ [32] _ HBm.out (by simp; omega) hsm).mono ?_
                  rintro e w5 ⟨rfl, HB5, hb5⟩
                  have bel5 := belm.trans hb5
                  clear HBm hb5
                  go_wp2_with fail
                  refine (X.out _ bel5).mono ?_
                  rintro e w6 ⟨rfl, hb6⟩
                  have bel6 : Below w1.heap.size w1 w6 := bel5.trans (hb6.mono bel5.size)
                  have HB6 := HB5.out.keptR hb6
                  clear X HB5 hb6
                  go_wp2_with fail
                  refine (writeL _ _ _ sy _ HB6 (by simp; omega) bel6.size).mono ?_
                  rintro e w7 ⟨rfl, HB7, hb7⟩
                  have bel7 := bel6.trans hb7
                  clear HB6 hb7
                  go_wp2
                  go_roundw
                  case rel => exact ⟨m + 1, by omega, by go_num, by show IsB _ _ _ _; rw [HBE.out]; simpa using HB7.out, bel7⟩
                  case measure => simp [intOf]; omega
                · have e : m = R.length := by omega
                  subst e
                  have HBn : Hid (IsB w1.heap.size w1.heap.size (Lib.byteCells ((pre ++ (80 :: ds) ++ [32, 61]) ++ altsTo Q (j + 1))) wr) := by
                    show IsB _ _ _ _
                    rw [HNe.out, ← HA.out]; simpa using HBm.out
                  clear HBm
                  go_wp2
                  go_roundw
                  case rel => exact ⟨j + 1, by omega, by go_num, HBn, belm⟩
                  case measure => simp [intOf]; omega
          · have e : j = Q.length := by omega
            subst e
            generalize altsTo Q Q.length = al at *
            go_wp2_with fail
            refine (writeL _ _ _ [10] _ HBj.out (by simp; omega) hsj).mono ?_
            rintro e w5 ⟨rfl, HB5, hb5⟩
            have bel5 := belj.trans hb5
            clear HBj hb5
            have HBn : Hid (IsB w1.heap.size w1.heap.size (Lib.byteCells (partsTo P (k + 1))) w5) := by
              show IsB _ _ _ _
              rw [HE.out, HTx.out]; simpa using HB5.out
            clear HB5
            go_wp2
            go_roundw
            case rel => exact ⟨k + 1, by omega, by go_num, HBn, bel5⟩
            case measure => simp [intOf]; omega
      · have e : k = P.length := by omega
        subst e
        clear HR1
        go_wp2_with fail
        refine (Tryd.Builder_String_any_k w1.heap.size w1.heap.size _ _ HB.out hsz).mono ?_
        rintro e w2 ⟨rfl, _, hb2, _⟩
        go_wp2
        go_ret
        exact ⟨rfl, B1.trans ((hbel.trans hb2).mono (by omega))⟩
  · have hok2 : gramOkB P = false := by simpa using hok
    rw [gramText, if_neg hok]
    clear hok
    go_enter Tryd.func20, Tryd.ntmps20
    go_wp2_with (go_at_call 46; refine (HOK.out _ B0).mono ?_; rintro e w1 ⟨rfl, hb1⟩)
    go_ret
    exact ⟨rfl, B0.trans (hb1.mono B0.size)⟩
end Go.Proofs.YtghpekijimoicaaDoor
