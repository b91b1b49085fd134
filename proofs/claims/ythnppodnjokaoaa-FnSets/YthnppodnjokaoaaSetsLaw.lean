/-
  The walk of the law on sets and orders of lists over this translation, out of the contracts. No statement is proved here (the frame is in the text that imports this one).
-/
import Derived.Test.YthnppodnjokaoaaDrawSets
import Derived.Test.YthnppodnjokaoaaSetOk
import Derived.Test.YthnppodnjokaoaaSetJoin
import Derived.Test.YthnppodnjokaoaaListCmp
import Derived.Test.YthnppodnjokaoaaSetMath
namespace Go.Proofs.Ythnppodnjokaoaa
open Go.RowKit

theorem big_any (a : Option Addr) (n c : Nat) (w : World) :
    Calls Try.prog 6 #[.slice a n c] w fun e w' => e = .returned (.bool (decide ((1048576 : Int) < n))) ∧ w = w' := by
  go_enter Try.func6, Try.ntmps6
  go_wp2
  go_ret
  exact ⟨rfl, rfl⟩

theorem BReads.drop1 {w : World} {g : Nat} {b off : Nat} {bs : List Int} (hlt : b < g) (hc : ∀ i, i < bs.length → w.cell? ⟨b, off + i, none⟩ = some (.int .u8 (bs.getD i 0)) ∧ 0 ≤ bs.getD i 0 ∧ bs.getD i 0 ≤ 255) {ad : Option Addr}
    (h : 1 < bs.length → ad = some ⟨b, off + 1, none⟩) : BReads w g ad (bs.drop 1) := by
  by_cases hk : 1 < bs.length
  · rw [h hk]
    refine .inr ⟨b, off + 1, rfl, hlt, fun i hi => ?_⟩
    simp only [List.length_drop] at hi
    have := hc (1 + i) (by omega)
    have e : (bs.drop 1).getD i 0 = bs.getD (1 + i) 0 := by simp [List.getD, Nat.add_comm 1 i]
    rw [e, Nat.add_assoc]
    exact this
  · exact .inl (List.drop_eq_nil_of_le (by omega))

theorem BReads.later {w w' : World} {a : Option Addr} {bs : List Int} (h : BReads w w.heap.size a bs) (hb : Below w.heap.size w w') : BReads w' w'.heap.size a bs := by
  rcases h with h | ⟨b, off, rfl, hlt, hc⟩
  · exact .inl h
  · exact .inr ⟨b, off, rfl, Nat.lt_of_lt_of_le hlt hb.size, fun i hi => ⟨(hb.cell (p := ⟨b, off + i, none⟩) hlt).trans (hc i hi).1, (hc i hi).2⟩⟩

theorem ret_slice {a : Option Addr} {n m c : Nat} (h : n = m) : Ending.returned (.slice a n c) = .returned (.slice a m c) := by rw [h]

theorem tail_any (a : Option Addr) (c : Nat) (bs : List Int) (w : World) (hr : BReads w w.heap.size a bs) (hnc : bs.length ≤ c) :
    Calls Try.prog 12 #[.slice a bs.length c] w fun e w' => ∃ a' c' bs', e = .returned (.slice a' (List.length bs') c') ∧ bs'.length ≤ bs.length ∧ BReads w w.heap.size a' bs' ∧ w = w' := by
  rcases hr with rfl | ⟨b, off, rfl, hlt, hc⟩
  · go_enter Try.func12, Try.ntmps12
    go_wp2
    go_ret
    exact ⟨_, _, [], rfl, Nat.le_refl _, .inl rfl, rfl⟩
  · by_cases h0 : bs.length = 0
    · have : bs = [] := List.eq_nil_of_length_eq_zero h0
      subst this
      go_enter Try.func12, Try.ntmps12
      go_wp2
      go_ret
      exact ⟨_, _, [], rfl, Nat.le_refl _, .inl rfl, rfl⟩
    · have hp : 1 ≤ bs.length := by omega
      have HC : Hid (∀ i, i < bs.length → w.cell? ⟨b, off + i, none⟩ = some (.int .u8 (bs.getD i 0)) ∧ 0 ≤ bs.getD i 0 ∧ bs.getD i 0 ≤ 255) := hc
      clear hc h0
      go_enter Try.func12, Try.ntmps12
      go_wp2
      all_goals
        go_ret
        exact ⟨_, _, bs.drop 1, ret_slice (by rw [List.length_drop]), by rw [List.length_drop]; omega, BReads.drop1 hlt HC.out (fun hk => by first | rfl | (exfalso; omega)), rfl⟩

set_option maxHeartbeats 1000000 in
theorem fnSets_law (a : Option Addr) (c : Nat) (bs : List Int) (w : World) (hr : BReads w w.heap.size a bs) (hnc : bs.length ≤ c) :
    Calls Try.prog 3 #[.slice a bs.length c] w fun e w' => e = .returned (.bool true) ∧ Below w.heap.size w w' := by
  by_cases hbig : 1048576 < bs.length
  · go_enter Try.func3, Try.ntmps3
    go_wp2_with fail
    refine (big_any _ _ _ _).mono ?_
    rintro e w1 ⟨rfl, rfl⟩
    rw [show decide ((1048576 : Int) < bs.length) = true from by simp; omega]
    go_wp2
    go_ret
    exact ⟨rfl, Below.refl _ _⟩
  have hn : bs.length ≤ 1048576 := by omega
  have k0 := Below.refl w.heap.size w
  go_enter Try.func3, Try.ntmps3
  go_wp2_with fail
  refine (big_any _ _ _ _).mono ?_
  rintro e w1 ⟨rfl, rfl⟩
  rw [show decide ((1048576 : Int) < bs.length) = false from by simp; omega]
  go_wp2_with fail
  refine (drawSetJoin_any _ _ bs _ hr hn).mono ?_
  rintro e w1 ⟨u, v, xs, ys, rfl, hx, hy, oA1, oB1, k1⟩
  obtain ⟨ua, uc, rfl, _, _⟩ := oA1.shape
  obtain ⟨va, vc, rfl, _, _⟩ := oB1.shape
  go_wp2_with fail
  refine (implSetJoin_any _ _ _ _ xs ys _ oA1 oB1 (by omega) (by omega)).mono ?_
  rintro e w2 ⟨j, rfl, oJ2, hl2⟩
  have k2 := k1.trans (hl2.mono k1.size)
  have oA2 := oA1.below hl2
  have oB2 := oB1.below hl2
  obtain ⟨ja, jc, rfl, _, _⟩ := oJ2.shape
  have hj := joinL_length_le xs ys
  clear oA1 oB1 hl2
  go_wp2_with fail
  refine (specSetJoin_any _ _ _ _ xs ys _ oA2 oB2 (by omega) (by omega)).mono ?_
  rintro e w3 ⟨s, rfl, oS3, hl3⟩
  have k3 := k2.trans (hl3.mono k2.size)
  have oA3 := oA2.below hl3
  have oB3 := oB2.below hl3
  have oJ3 := oJ2.below hl3
  obtain ⟨sa, sc, rfl, _, _⟩ := oS3.shape
  clear oA2 oB2 oJ2 hl3 oS3
  go_wp2
  go_loopw [6] (fun i wr => ∃ k : Nat, k ≤ ys.length ∧ i = .int .i64 k ∧ Below w3.heap.size w3 wr) (fun i _ => ys.length - (intOf i).toNat)
  case atStart => exact ⟨0, Nat.zero_le _, rfl, Below.refl _ _⟩
  case round =>
    obtain ⟨k, hk, rfl, hl4⟩ := hrel
    by_cases hlt : k < ys.length
    · have oJ4 := oJ3.below hl4
      obtain ⟨b1, o1, rfl, hb1, hc1⟩ := ((oB3.below hl4).reads).at hlt
      have hcx := hc1 k hlt
      clear hc1
      go_wp2_with fail
      refine (implSetHas_any _ _ (joinL xs ys) _ _ oJ4.reads (by omega)).mono ?_
      rintro e w5 ⟨rfl, hl5⟩
      rw [hasL_join_right hlt]
      go_wp2
      go_roundw
      case rel => exact ⟨k + 1, by omega, by go_num, hl4.trans (hl5.mono hl4.size)⟩
      case measure => simp [intOf]; omega
    · have oA4 := oA3.below hl4
      have oB4 := oB3.below hl4
      have oJ4 := oJ3.below hl4
      have k4 := k3.trans (hl4.mono k3.size)
      clear oA3 oB3 oJ3 hl4 k3
      go_wp2
      go_loopw [7] (fun i wz => ∃ k : Nat, k ≤ xs.length ∧ i = .int .i64 k ∧ Below wr.heap.size wr wz) (fun i _ => xs.length - (intOf i).toNat)
      case atStart => exact ⟨0, Nat.zero_le _, rfl, Below.refl _ _⟩
      case round =>
        obtain ⟨k2, hk2, rfl, hl6⟩ := hrel
        by_cases hlt2 : k2 < xs.length
        · have oJ6 := oJ4.below hl6
          obtain ⟨b1, o1, rfl, hb1, hc1⟩ := ((oA4.below hl6).reads).at hlt2
          have hcx := hc1 k2 hlt2
          clear hc1
          go_wp2_with fail
          refine (implSetHas_any _ _ (joinL xs ys) _ _ oJ6.reads (by omega)).mono ?_
          rintro e w5 ⟨rfl, hl5⟩
          rw [hasL_join_left hlt2]
          go_wp2
          go_roundw
          case rel => exact ⟨k2 + 1, by omega, by go_num, hl6.trans (hl5.mono hl6.size)⟩
          case measure => simp [intOf]; omega
        · have oA6 := oA4.below hl6
          have oB6 := oB4.below hl6
          have oJ6 := oJ4.below hl6
          have k6 := k4.trans (hl6.mono k4.size)
          clear oA4 oB4 oJ4 hl6 k4
          go_wp2_with fail
          refine (drawListCmp_any _ _ bs _ (hr.later k6) hn).mono ?_
          rintro e w7 ⟨p, q, ps, qs, rfl, hp, hq, oX7, oY7, hl7⟩
          have k7 := k6.trans (hl7.mono k6.size)
          have oA7 := oA6.below hl7
          have oB7 := oB6.below hl7
          have oJ7 := oJ6.below hl7
          obtain ⟨pa, pc, rfl, _, _⟩ := oX7.shape
          obtain ⟨qa, qc, rfl, _, _⟩ := oY7.shape
          clear oA6 oB6 oJ6 hl7
          go_wp2_with fail
          refine (tail_any _ _ bs _ (hr.later k7) hnc).mono ?_
          rintro e w8 ⟨a2, c2, bs2, rfl, hn2, hr2, rfl⟩
          go_wp2_with fail
          refine (drawListCmp_any _ _ bs2 _ hr2 (by omega)).mono ?_
          rintro e w8 ⟨r, r2, rs, r2s, rfl, hrl, hr2l, oZ8, oT8, hl8⟩
          have k8 := k7.trans (hl8.mono k7.size)
          have oA8 := oA7.below hl8
          have oB8 := oB7.below hl8
          have oJ8 := oJ7.below hl8
          have oX8 := oX7.below hl8
          have oY8 := oY7.below hl8
          obtain ⟨ra, rc, rfl, _, _⟩ := oZ8.shape
          clear oA7 oB7 oJ7 oX7 oY7 hl8 oT8 hr2
          go_wp2_with fail
          refine (implListCmp_any _ _ _ _ ps qs _ oX8.reads oY8.reads (by omega) (by omega)).mono ?_
          rintro e w9 ⟨rfl, hl9⟩
          have k9 := k8.trans (hl9.mono k8.size)
          have hcb := cmpL_bound ps qs
          go_wp2_with fail
          refine (implListCmp_any _ _ _ _ qs ps _ (oY8.below hl9).reads (oX8.below hl9).reads (by omega) (by omega)).mono ?_
          rintro e w10 ⟨rfl, hl10⟩
          have k10 := k9.trans (hl10.mono k9.size)
          have m10 := hl9.trans (hl10.mono hl9.size)
          rw [cmpL_swap ps qs]
          go_wp2_with fail
          refine (implListCmp_any _ _ _ _ ps ps _ (oX8.below m10).reads (oX8.below m10).reads (by omega) (by omega)).mono ?_
          rintro e w11 ⟨rfl, hl11⟩
          have k11 := k10.trans (hl11.mono k10.size)
          have m11 := m10.trans (hl11.mono m10.size)
          rw [cmpL_self]
          go_wp2_with fail
          refine (specListCmp_any _ _ _ _ ps qs _ (oX8.below m11).reads (oY8.below m11).reads (by omega) (by omega)).mono ?_
          rintro e w12 ⟨rfl, hl12⟩
          have k12 := k11.trans (hl12.mono k11.size)
          have m12 := m11.trans (hl12.mono m11.size)
          go_wp2_with fail
          refine (implSetOk_any _ _ xs _ (oA8.below m12).reads (by omega)).mono ?_
          rintro e w13 ⟨rfl, hl13⟩
          have k13 := k12.trans (hl13.mono k12.size)
          have m13 := m12.trans (hl13.mono m12.size)
          cases ha : okL xs
          · by_cases hc : 0 < cmpL ps qs
            · go_wp2
              go_ret
              exact ⟨rfl, k13⟩
            · go_wp2_with fail
              refine (implListCmp_any _ _ _ _ qs rs _ (oY8.below m13).reads (oZ8.below m13).reads (by omega) (by omega)).mono ?_
              rintro e w20 ⟨rfl, hl20⟩
              have k20 := k13.trans (hl20.mono k13.size)
              have m20 := m13.trans (hl20.mono m13.size)
              by_cases hd : 0 < cmpL qs rs
              · go_wp2
                go_ret
                exact ⟨rfl, k20⟩
              · have ht := cmpL_trans ps qs rs (by omega) (by omega)
                go_wp2_with fail
                refine (implListCmp_any _ _ _ _ ps rs _ (oX8.below m20).reads (oZ8.below m20).reads (by omega) (by omega)).mono ?_
                rintro e w21 ⟨rfl, hl21⟩
                have k21 := k20.trans (hl21.mono k20.size)
                have m21 := m20.trans (hl21.mono m20.size)
                go_wp2
                go_ret
                exact ⟨rfl, k21⟩
          · go_wp2_with fail
            refine (implSetOk_any _ _ ys _ (oB8.below m13).reads (by omega)).mono ?_
            rintro e w14 ⟨rfl, hl14⟩
            have k14 := k13.trans (hl14.mono k13.size)
            have m14 := m13.trans (hl14.mono m13.size)
            cases hb : okL ys
            · by_cases hc : 0 < cmpL ps qs
              · go_wp2
                go_ret
                exact ⟨rfl, k14⟩
              · go_wp2_with fail
                refine (implListCmp_any _ _ _ _ qs rs _ (oY8.below m14).reads (oZ8.below m14).reads (by omega) (by omega)).mono ?_
                rintro e w20 ⟨rfl, hl20⟩
                have k20 := k14.trans (hl20.mono k14.size)
                have m20 := m14.trans (hl20.mono m14.size)
                by_cases hd : 0 < cmpL qs rs
                · go_wp2
                  go_ret
                  exact ⟨rfl, k20⟩
                · have ht := cmpL_trans ps qs rs (by omega) (by omega)
                  go_wp2_with fail
                  refine (implListCmp_any _ _ _ _ ps rs _ (oX8.below m20).reads (oZ8.below m20).reads (by omega) (by omega)).mono ?_
                  rintro e w21 ⟨rfl, hl21⟩
                  have k21 := k20.trans (hl21.mono k20.size)
                  have m21 := m20.trans (hl21.mono m20.size)
                  go_wp2
                  go_ret
                  exact ⟨rfl, k21⟩
            · go_wp2_with fail
              refine (implSetOk_any _ _ (joinL xs ys) _ (oJ8.below m14).reads (by omega)).mono ?_
              rintro e w15 ⟨rfl, hl15⟩
              have k15 := k14.trans (hl15.mono k14.size)
              have m15 := m14.trans (hl15.mono m14.size)
              rw [join_ok ha]
              go_wp2_with fail
              refine (implSetJoin_any _ _ _ _ ys xs _ (oB8.below m15) (oA8.below m15) (by omega) (by omega)).mono ?_
              rintro e w16 ⟨j2, rfl, oK, hl16⟩
              have k16 := k15.trans (hl16.mono k15.size)
              have m16 := m15.trans (hl16.mono m15.size)
              have hj2 := joinL_length_le ys xs
              obtain ⟨ka, kc, rfl, _, _⟩ := oK.shape
              go_wp2_with fail
              refine (implListCmp_any _ _ _ _ (joinL xs ys) (joinL ys xs) _ (oJ8.below m16).reads oK.reads (by omega) (by omega)).mono ?_
              rintro e w17 ⟨rfl, hl17⟩
              have k17 := k16.trans (hl17.mono k16.size)
              have m17 := m16.trans (hl17.mono m16.size)
              rw [show cmpL (joinL xs ys) (joinL ys xs) = 0 from by rw [join_comm ha hb]; exact cmpL_self _]
              by_cases hc : 0 < cmpL ps qs
              · go_wp2
                go_ret
                exact ⟨rfl, k17⟩
              · go_wp2_with fail
                refine (implListCmp_any _ _ _ _ qs rs _ (oY8.below m17).reads (oZ8.below m17).reads (by omega) (by omega)).mono ?_
                rintro e w20 ⟨rfl, hl20⟩
                have k20 := k17.trans (hl20.mono k17.size)
                have m20 := m17.trans (hl20.mono m17.size)
                by_cases hd : 0 < cmpL qs rs
                · go_wp2
                  go_ret
                  exact ⟨rfl, k20⟩
                · have ht := cmpL_trans ps qs rs (by omega) (by omega)
                  go_wp2_with fail
                  refine (implListCmp_any _ _ _ _ ps rs _ (oX8.below m20).reads (oZ8.below m20).reads (by omega) (by omega)).mono ?_
                  rintro e w21 ⟨rfl, hl21⟩
                  have k21 := k20.trans (hl21.mono k20.size)
                  have m21 := m20.trans (hl21.mono m20.size)
                  go_wp2
                  go_ret
                  exact ⟨rfl, k21⟩
end Go.Proofs.Ythnppodnjokaoaa
