/-
  Contract of spec.GramText over this translation. No statement is proved here.
-/
import Derived.Test.YtghpekijimoicaaDoorSpecGramOk
import Derived.Test.YtghpekijimoicaaDoorSpecRowText
import Derived.Test.YtghpekijimoicaaDoorGramTextMath
namespace Go.Proofs.YtghpekijimoicaaDoor
open Go.RowKit

/-- What GramText answers. -/
def resGramText (x : Gm) : ByteArray := ⟨(gramText x.parts).toArray⟩

theorem str_cat {s : ByteArray} {l : List UInt8} (h : s.data.toList = l) : Value.string s = .string ⟨l.toArray⟩ := by rw [← h]

set_option maxHeartbeats 2000000 in
set_option maxRecDepth 100000 in
theorem specGramText_any (x : Gm) (a0 : Option Addr) (c0 : Nat) (w : World) (h0 : RD w (.slice a0 x.parts.length c0) (slD (Lay.list (Lay.list Lay.int)) x.parts)) (hn : Lay.gram.wt x ≤ 1048576) (hf : Lay.gram.fit x) :
    Calls Tryd.prog 19 #[.agg #[.slice a0 x.parts.length c0]] w fun e w' => e = .returned (.string (resGramText x)) ∧ Below w.heap.size w w' := by
  unfold resGramText
  have B0 := (Below.refl w.heap.size w).alloc (Nat.le_refl _) (.cells #[.slice a0 x.parts.length c0] 32)
  have HR : Hid (RD (w.alloc (.cells #[.slice a0 x.parts.length c0] 32)) (.slice a0 x.parts.length c0) (slD (Lay.list (Lay.list Lay.int)) x.parts)) := h0.later B0
  have HOK : Hid (∀ W : World, Below w.heap.size w W → Calls Tryd.prog 44 #[.agg #[.slice a0 x.parts.length c0]] W fun e w' => e = .returned (.bool (gramOkB x.parts)) ∧ Below W.heap.size W w') := fun W hW => specGramOk_any x a0 c0 W (h0.later hW) hn hf
  clear h0 hn hf
  generalize x.parts = P at *
  by_cases hok : gramOkB P = true
  · have F := Fits.of hok
    have HF : Hid (Fits P) := F
    have hp := F.parts
    rw [gramText, if_pos hok]
    clear F
    go_enter Tryd.func19, Tryd.ntmps19
    go_wp2_with (go_at_call 44; refine (HOK.out _ B0).mono ?_; rintro e w1 ⟨rfl, hb1⟩)
    clear HOK
    have hb1' : Below (w.heap.size + 1) (w.alloc (.cells #[.slice a0 P.length c0] 32)) w1 := by simpa using hb1
    go_loopw [3, 4] (fun s i wr => ∃ k : Nat, k ≤ P.length ∧ i = .int .i64 k ∧ s = .string ⟨(partsTo P k).toArray⟩ ∧ Below (w.heap.size + 1) (w.alloc (.cells #[.slice a0 P.length c0] 32)) wr) (fun _ i _ => P.length - (intOf i).toNat)
    case atStart => exact ⟨0, Nat.zero_le _, rfl, rfl, hb1'⟩
    case round =>
      obtain ⟨k, hk, rfl, rfl, hbel⟩ := hrel
      clear hb1 hb1'
      have hbx : Below (w.alloc (.cells #[.slice a0 P.length c0] 32)).heap.size (w.alloc (.cells #[.slice a0 P.length c0] 32)) wr := by simpa using hbel
      have g0 : wr.cell? ⟨w.heap.size, 0, none⟩ = some (.slice a0 P.length c0) := (hbel.cell (p := ⟨w.heap.size, 0, none⟩) (by simp)).trans (by simp)
      have hwl : w.heap.size < wr.heap.size := World.block_lt_of_cell? wr _ g0
      by_cases hlt : k < P.length
      · obtain ⟨b1, o1, rfl, hb1, a1, c1, q0, r1⟩ := (HR.out.later hbx).listAt hlt
        have hm := List.getElem_mem hlt
        have HE : Hid (partsTo P (k + 1) = partsTo P k ++ partText k P[k]) := partsTo_next hlt
        have hpl := partsTo_le HF.out k hk
        have hQ := HF.out.alts _ hm
        have HQr : Hid (∀ row ∈ P[k], row.length ≤ 8) := HF.out.rows _ hm
        have HQs : Hid (∀ row ∈ P[k], ∀ z ∈ row, 0 ≤ z ∧ z < 120) := HF.out.syms _ hm
        have HR1 : Hid (∀ W : World, Below (w.heap.size + 1) (w.alloc (.cells #[.slice (some ⟨b1, o1, none⟩) P.length c0] 32)) W → W.cell? ⟨b1, o1 + k, none⟩ = some (.slice a1 P[k].length c1) ∧ RD W (.slice a1 P[k].length c1) (slD (Lay.list Lay.int) P[k])) := by
          intro W hW
          have hWx : Below (w.alloc (.cells #[.slice (some ⟨b1, o1, none⟩) P.length c0] 32)).heap.size (w.alloc (.cells #[.slice (some ⟨b1, o1, none⟩) P.length c0] 32)) W := by simpa using hW
          obtain ⟨b1', o1', e1, hb1', a1', c1', q0', r1'⟩ := HR.out.listAt hlt
          cases e1
          have t1 := (hWx.cell (p := ⟨b1, o1 + k, none⟩) (by simpa using hb1')).trans q0'
          have t2 := (hbx.cell (p := ⟨b1, o1 + k, none⟩) (by simpa using hb1')).trans q0'
          rw [q0] at t2
          cases t2
          exact ⟨t1, r1'.later hWx⟩
        have X : Hid (∀ W : World, Calls Tryd.prog 45 #[.int .i64 (k : Int)] W fun e w' => e = .returned (.string ⟨(Lib.itoa (k : Int)).toArray⟩) ∧ Below W.heap.size W w') := fun W => specDigits_any (k : Int) W (by omega) (by omega)
        have hds := itoa_le (n := (k : Int)) (by omega) (by omega)
        have HT : Hid (partText k P[k] = (80 :: Lib.itoa (k : Int) ++ [32, 61]) ++ (altsTo P[k] P[k].length ++ [10])) := rfl
        clear r1 HR hm hbx
        generalize Lib.itoa (k : Int) = ds at *
        generalize partText k P[k] = pt at *
        generalize P[k] = Q at *
        generalize partsTo P k = pre at *
        go_wp2_with (go_at_call 45; refine (X.out _).mono ?_; rintro e w2 ⟨rfl, hb2⟩)
        have hbel2 : Below (w.heap.size + 1) (w.alloc (.cells #[.slice (some ⟨b1, o1, none⟩) P.length c0] 32)) w2 := hbel.trans (hb2.mono (by omega))
        clear X q0 g0 hb1
        go_loopw [3, 5] (fun s i wi => ∃ j : Nat, j ≤ Q.length ∧ i = .int .i64 j ∧ s = .string ⟨((pre ++ (80 :: ds ++ [32, 61])) ++ altsTo Q j).toArray⟩ ∧ Below (w.heap.size + 1) (w.alloc (.cells #[.slice (some ⟨b1, o1, none⟩) P.length c0] 32)) wi) (fun _ i _ => Q.length - (intOf i).toNat)
        case atStart => exact ⟨0, Nat.zero_le _, rfl, str_cat (by simp [altsTo]), hbel2⟩
        case round =>
          obtain ⟨j, hj, rfl, rfl, hbi⟩ := hrel
          clear hbel hbel2 hb2 hwl
          obtain ⟨q0, r1⟩ := HR1.out wr hbi
          have g0 : wr.cell? ⟨w.heap.size, 0, none⟩ = some (.slice (some ⟨b1, o1, none⟩) P.length c0) := (hbi.cell (p := ⟨w.heap.size, 0, none⟩) (by simp)).trans (by simp)
          have hwl : w.heap.size < wr.heap.size := World.block_lt_of_cell? wr _ g0
          have hal := altsTo_le HQr.out HQs.out j hj
          by_cases hlt2 : j < Q.length
          · obtain ⟨b2, o2, rfl, hb2', a2, c2, q1, r2⟩ := r1.listAt hlt2
            have hm := List.getElem_mem hlt2
            have hr8 := HQr.out _ hm
            have X2 : Hid (Calls Tryd.prog 21 #[.slice a2 Q[j].length c2] wr fun e w' => e = .returned (.string ⟨(rowText Q[j]).toArray⟩) ∧ Below wr.heap.size wr w') := specRow_p Q[j] a2 c2 wr r2.reads (by omega) (fun z hz => by have := HQs.out _ hm z hz; omega)
            have hrl := rowText_le8 hr8 (HQs.out _ hm)
            have HA0 : Hid (Q[j].length = 0 → altText Q[j] = []) := altText_nil
            have HA1 : Hid (Q[j].length ≠ 0 → altText Q[j] = 32 :: rowText Q[j]) := altText_some
            by_cases j0 : j = 0
            · subst j0
              have HN : Hid (altsTo Q (0 + 1) = altText Q[0]) := altsTo_first hlt2
              have e0 : altsTo Q 0 = [] := rfl
              rw [e0]
              rw [Nat.add_zero] at q1
              generalize rowText Q[0] = rt at *
              generalize altText Q[0] = at1 at *
              generalize Q[0] = R at *
              clear r1 r2 hm hal
              by_cases hR : R.length = 0
              · have hR2 : ¬ (0 : Int) < (R.length : Int) := by omega
                have HN2 : Hid (altsTo Q (0 + 1) = []) := by show _ = _; rw [HN.out, HA0.out hR]
                clear X2
                go_wp2
                go_roundw
                case rel => exact ⟨0 + 1, by omega, by go_num, by rw [HN2.out], hbi⟩
                case measure => simp [intOf]; omega
              · have hR2 : (0 : Int) < (R.length : Int) := by omega
                have HN2 : Hid (altsTo Q (0 + 1) = 32 :: rt) := by show _ = _; rw [HN.out, HA1.out hR]
                clear hR
                go_wp2_with (go_at_call 21; refine X2.out.mono ?_; rintro e w3 ⟨rfl, hb3⟩)
                go_roundw
                case rel => exact ⟨0 + 1, by omega, by go_num, by rw [HN2.out]; exact str_cat (by simp), hbi.trans (hb3.mono (by omega))⟩
                case measure => simp [intOf]; omega
            · have HN : Hid (altsTo Q (j + 1) = (altsTo Q j ++ [32, 124]) ++ altText Q[j]) := altsTo_next hlt2 j0
              have hj0 : 0 < (j : Int) := by omega
              generalize rowText Q[j] = rt at *
              generalize altText Q[j] = at1 at *
              generalize Q[j] = R at *
              generalize altsTo Q j = al at *
              clear r1 r2 hm
              by_cases hR : R.length = 0
              · have hR2 : ¬ (0 : Int) < (R.length : Int) := by omega
                have HN2 : Hid (altsTo Q (j + 1) = al ++ [32, 124]) := by show _ = _; rw [HN.out, HA0.out hR]; simp
                clear X2
                go_wp2
                go_roundw
                case rel => exact ⟨j + 1, by omega, by go_num, by rw [HN2.out]; exact str_cat (by simp), hbi⟩
                case measure => simp [intOf]; omega
              · have hR2 : (0 : Int) < (R.length : Int) := by omega
                have HN2 : Hid (altsTo Q (j + 1) = (al ++ [32, 124]) ++ (32 :: rt)) := by show _ = _; rw [HN.out, HA1.out hR]
                clear hR
                go_wp2_with (go_at_call 21; refine X2.out.mono ?_; rintro e w3 ⟨rfl, hb3⟩)
                go_roundw
                case rel => exact ⟨j + 1, by omega, by go_num, by rw [HN2.out]; exact str_cat (by simp), hbi.trans (hb3.mono (by omega))⟩
                case measure => simp [intOf]; omega
          · have e : j = Q.length := by omega
            subst e
            clear r1
            generalize altsTo Q Q.length = al at *
            go_wp2
            go_roundw
            case rel => exact ⟨k + 1, by omega, by go_num, by rw [HE.out, HT.out]; exact str_cat (by simp), hbi⟩
            case measure => simp [intOf]; omega
      · have e : k = P.length := by omega
        subst e
        clear HR
        go_wp2
        go_ret
        exact ⟨rfl, B0.trans (hbel.mono (by omega))⟩
  · have hok2 : gramOkB P = false := by simpa using hok
    rw [gramText, if_neg hok]
    clear hok
    go_enter Tryd.func19, Tryd.ntmps19
    go_wp2_with (go_at_call 44; refine (HOK.out _ B0).mono ?_; rintro e w1 ⟨rfl, hb1⟩)
    go_ret
    exact ⟨rfl, B0.trans (hb1.mono B0.size)⟩
end Go.Proofs.YtghpekijimoicaaDoor
