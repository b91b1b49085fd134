/-
  Contracts and plain mathematics, joined: SpecEmpties, SpecProductive, SpecReachable. No statement is proved here.
-/
import Derived.Test.YthnppodnjokaoaaDoorG8
import Derived.Test.YthnppodnjokaoaaDoorG11
import Derived.Test.YthnppodnjokaoaaDoorG3
namespace Go.Proofs.YthnppodnjokaoaaDoor
open Go.RowKit

theorem all_next {α : Type} {p : α → Bool} {xs : List α} {k : Nat} (h : (xs.take k).all p = true) (hk : k < xs.length) (g : p xs[k] = true) : (xs.take (k + 1)).all p = true := all_step h hk g

set_option maxRecDepth 100000 in
theorem l5All_any (zs : List Int) (a : Option Addr) (c : Nat) (E : List Int) (a2 : Option Addr) (c2 : Nat) (w : World) (h : Reads w a zs) (g : Reads w a2 E) (hl : zs.length ≤ 1048576) (hE : E.length ≤ 1048576) (hz : ∀ z ∈ zs, -9223372036854775808 ≤ z ∧ z ≤ 9223372036854775807) :
    Calls Tryd.prog 98 #[.slice a zs.length c, .slice a2 E.length c2] w fun e w' => e = .returned (.bool (allE zs E)) ∧ w' = w := by
  have HZ : Hid (∀ z ∈ zs, -9223372036854775808 ≤ z ∧ z ≤ 9223372036854775807) := hz
  have HG : Hid (Reads w a2 E) := g
  clear hz g
  go_enter Tryd.func98, Tryd.ntmps98
  go_wp2
  go_loop [5] (fun s => ∃ k : Nat, k ≤ zs.length ∧ s = .int .i64 k ∧ Hid ((zs.take k).all (fun x => decide (100 ≤ x) && hasL E (x - 100)) = true)) (fun s => zs.length - (intOf s).toNat)
  case atStart => exact ⟨0, Nat.zero_le _, rfl, by show _ = _; simp⟩
  case round =>
    obtain ⟨k, hk, rfl, HK⟩ := hrel
    by_cases hlt : k < zs.length
    · obtain ⟨b, off, rfl, hb, hc⟩ := h.at hlt
      have q1 := hc k hlt
      rw [List.getD_eq_getElem?_getD, List.getElem?_eq_getElem hlt, Option.getD_some] at q1
      have hr := HZ.out zs[k] (List.getElem_mem hlt)
      have HS : Hid (100 ≤ zs[k] → hasL E (zs[k] - 100) = true → (zs.take (k + 1)).all (fun x => decide (100 ≤ x) && hasL E (x - 100)) = true) := fun g1 g2 => all_step HK.out hlt (by simp [g1, g2])
      have HN : Hid ((100 ≤ zs[k] → hasL E (zs[k] - 100) = false) → allE zs E = false) := fun g1 => by
        refine all_no hlt ?_
        by_cases g2 : 100 ≤ zs[k]
        · simp [g1 g2]
        · simp [g2]
      have X : Hid (Calls Tryd.prog 53 #[.slice a2 E.length c2, .int .i64 (zs[k] - 100)] w fun e w' => e = .returned (.bool (hasL E (zs[k] - 100))) ∧ w' = w) := specSetHas_same a2 c2 E (zs[k] - 100) w HG.out (by omega)
      clear hc h HK
      generalize zs[k] = z at *
      by_cases z1 : 100 ≤ z
      · by_cases z2 : hasL E (z - 100) = true
        · rw [z2] at X
          go_wp2_with (go_at_call 53; refine X.out.mono ?_; rintro e w' ⟨rfl, rfl⟩)
          go_round
          case rel => exact ⟨k + 1, by omega, by go_num, HS.out z1 z2⟩
          case measure => simp [intOf]; omega
        · have z3 : hasL E (z - 100) = false := by simpa using z2
          clear z2
          rw [z3] at X
          go_wp2_with (go_at_call 53; refine X.out.mono ?_; rintro e w' ⟨rfl, rfl⟩)
          go_ret
          exact ⟨ret_bool (by rw [HN.out (fun _ => z3)]), rfl⟩
      · have z2 : z < 100 := by omega
        have HF : Hid (allE zs E = false) := HN.out (fun g => absurd g z1)
        clear z1 X HN HS
        go_wp2
        go_ret
        exact ⟨ret_bool (by rw [HF.out]), rfl⟩
    · have HE : Hid (allE zs E = true) := all_end HK.out hlt
      clear h HK
      go_wp2
      go_ret
      exact ⟨ret_bool (by rw [HE.out]), rfl⟩
set_option maxHeartbeats 2000000 in
set_option maxRecDepth 100000 in
theorem l5Empties_any (P : List (List (List Int))) (a0 : Option Addr) (c0 : Nat) (w : World) (h0 : RD w (.slice a0 P.length c0) (slD (Lay.list (Lay.list Lay.int)) P)) (hok : gramOkB P = true) :
    Calls Tryd.prog 75 #[.agg #[.slice a0 P.length c0]] w fun e w' => ∃ v, e = .returned v ∧ OwnInts w' w.heap.size 3 v (emptiesL P) ∧ Below w.heap.size w w' := by
  have F := Fits.of hok
  have HF : Hid (Fits P) := F
  have hp := F.parts
  clear F hok
  have B0 := (Below.refl w.heap.size w).alloc (Nat.le_refl _) (.cells #[.slice a0 P.length c0] 28)
  have HR : Hid (RD (w.alloc (.cells #[.slice a0 P.length c0] 28)) (.slice a0 P.length c0) (slD (Lay.list (Lay.list Lay.int)) P)) := h0.later B0
  have HO0 : Hid (OwnInts ((w.alloc (.cells #[.slice a0 P.length c0] 28)).alloc (.cells #[] 3)) w.heap.size 3 (.slice (some ⟨w.heap.size + 1, 0, none⟩) 0 0) []) := by
    have := OwnInts.empty (e := 3) (B0.size)
    show OwnInts _ _ _ _ _
    simpa using this
  have HB1 : Hid (Below (w.heap.size + 1) (w.alloc (.cells #[.slice a0 P.length c0] 28)) ((w.alloc (.cells #[.slice a0 P.length c0] 28)).alloc (.cells #[] 3))) := (Below.refl _ _).alloc (by simp) _
  clear h0
  go_enter Tryd.func75, Tryd.ntmps75
  go_wp2
  go_loopw [3, 4] (fun so st wr => ∃ t : Nat, t ≤ P.length + 1 ∧ st = .int .i64 t ∧ OwnInts wr w.heap.size 3 so (growT allE P t) ∧ Below (w.heap.size + 1) (w.alloc (.cells #[.slice a0 P.length c0] 28)) wr) (fun _ st _ => P.length + 1 - (intOf st).toNat)
  case atStart => exact ⟨0, Nat.zero_le _, rfl, HO0.out, HB1.out⟩
  case round =>
    obtain ⟨t, ht, rfl, hO, hbel⟩ := hrel
    clear HO0 HB1
    have g0 : wr.cell? ⟨w.heap.size, 0, none⟩ = some (.slice a0 P.length c0) := (hbel.cell (p := ⟨w.heap.size, 0, none⟩) (by simp)).trans (by simp)
    by_cases hlt : t ≤ P.length
    · have HT : Hid (growT allE P (t + 1) = growK allE P (growT allE P t) P.length) := rfl
      have hEt := growT_le allE hp HF.out.alts t
      generalize growT allE P t = E at *
      go_wp2
      go_loopw [3, 5] (fun so sk wr => ∃ k : Nat, k ≤ P.length ∧ sk = .int .i64 k ∧ OwnInts wr w.heap.size 3 so (growK allE P E k) ∧ Below (w.heap.size + 1) (w.alloc (.cells #[.slice a0 P.length c0] 28)) wr) (fun _ sk _ => P.length - (intOf sk).toNat)
      case atStart => exact ⟨0, Nat.zero_le _, rfl, hO, hbel⟩
      case round =>
        obtain ⟨k, hk, rfl, hOk, hbk⟩ := hrel
        clear hO hbel g0
        have g0 : wr.cell? ⟨w.heap.size, 0, none⟩ = some (.slice a0 P.length c0) := (hbk.cell (p := ⟨w.heap.size, 0, none⟩) (by simp)).trans (by simp)
        by_cases hlk : k < P.length
        · have HK : Hid (growK allE P E (k + 1) = growI allE k P[k] (growK allE P E k) P[k].length) := growK_next allE hlk
          have hm := List.getElem_mem hlk
          have hEk := growK_le allE HF.out.alts E k hk
          have hQ := HF.out.alts _ hm
          have HQr : Hid (∀ row ∈ P[k], row.length ≤ 8) := HF.out.rows _ hm
          have HQs : Hid (∀ row ∈ P[k], ∀ z ∈ row, 0 ≤ z ∧ z < 120) := HF.out.syms _ hm
          obtain ⟨b1, o1, rfl, hb1, a1, c1, q0', r1⟩ := HR.out.listAt hlk
          have HR1 : Hid (RD (w.alloc (.cells #[.slice (some ⟨b1, o1, none⟩) P.length c0] 28)) (.slice a1 P[k].length c1) (slD (Lay.list Lay.int) P[k])) := r1
          have HQ0 : Hid (∀ W : World, Below (w.heap.size + 1) (w.alloc (.cells #[.slice (some ⟨b1, o1, none⟩) P.length c0] 28)) W → W.cell? ⟨b1, o1 + k, none⟩ = some (.slice a1 P[k].length c1)) := fun W hW => (hW.cell (p := ⟨b1, o1 + k, none⟩) (by simpa using hb1)).trans q0'
          clear r1 q0' hm hb1
          generalize growK allE P E k = Ek at *
          generalize P[k] = Q at *
          go_wp2
          go_loopw [3, 6] (fun so si wr => ∃ i : Nat, i ≤ Q.length ∧ si = .int .i64 i ∧ OwnInts wr w.heap.size 3 so (growI allE k Q Ek i) ∧ Below (w.heap.size + 1) (w.alloc (.cells #[.slice (some ⟨b1, o1, none⟩) P.length c0] 28)) wr) (fun _ si _ => Q.length - (intOf si).toNat)
          case atStart => exact ⟨0, Nat.zero_le _, rfl, hOk, hbk⟩
          case round =>
            obtain ⟨i, hi, rfl, hOi, hbi⟩ := hrel
            clear hOk hbk g0
            have g0 : wr.cell? ⟨w.heap.size, 0, none⟩ = some (.slice (some ⟨b1, o1, none⟩) P.length c0) := (hbi.cell (p := ⟨w.heap.size, 0, none⟩) (by simp)).trans (by simp)
            have q0 := HQ0.out wr hbi
            have hsz : w.heap.size + 1 ≤ wr.heap.size := by have := hbi.size; simpa using this
            by_cases hli : i < Q.length
            · have hm := List.getElem_mem hli
              have hr8 := HQr.out _ hm
              have HRs : Hid (∀ z ∈ Q[i], 0 ≤ z ∧ z < 120) := HQs.out _ hm
              have hEi := growI_le allE k Q Ek i
              have HY : Hid (allE Q[i] (growI allE k Q Ek i) = true → growI allE k Q Ek (i + 1) = addL (growI allE k Q Ek i) k) := growI_yes allE hli
              have HN : Hid (allE Q[i] (growI allE k Q Ek i) = false → growI allE k Q Ek (i + 1) = growI allE k Q Ek i) := growI_no allE hli
              obtain ⟨b2, o2, rfl, hb2, a2, c2, q1', r2⟩ := HR1.out.listAt hli
              have q1 := (hbi.cell (p := ⟨b2, o2 + i, none⟩) (by simpa using hb2)).trans q1'
              obtain ⟨ao, co, rfl, hro, _⟩ := hOi.shape
              have X : Hid (Calls Tryd.prog 98 #[.slice a2 Q[i].length c2, .slice ao (growI allE k Q Ek i).length co] wr fun e w' => e = .returned (.bool (allE Q[i] (growI allE k Q Ek i))) ∧ w' = wr) :=
                l5All_any Q[i] a2 c2 _ ao co wr ((r2.later (hbi.mono (by simp))).reads) hro (by omega) (by omega) (fun z hz => by have := HRs.out z hz; omega)
              clear r2 q1' hm hb2 hro
              generalize growI allE k Q Ek i = Ei at *
              generalize Q[i] = R at *
              by_cases hal : allE R Ei = true
              · rw [hal] at X
                have Y : Hid (Calls Tryd.prog 77 #[.slice ao Ei.length co, .int .i64 (k : Int)] wr fun e w' => ∃ v', e = .returned v' ∧ OwnInts w' wr.heap.size 3 v' (addL Ei k) ∧ Below wr.heap.size wr w') := specSetAdd_any _ _ Ei (k : Int) wr hOi (by omega)
                have HYe := HY.out hal
                clear HY HN
                go_wp2_with (first | (go_at_call 98; refine X.out.mono ?_; rintro e w' ⟨rfl, rfl⟩) | (go_at_call 77; refine Y.out.mono ?_; rintro e w2 ⟨v2, rfl, hO2, hb2⟩))
                go_roundw
                case rel => exact ⟨i + 1, by omega, by go_num, by rw [HYe]; exact hO2.base (by omega), hbi.trans (hb2.mono hsz)⟩
                case measure => simp [intOf]; omega
              · have hal2 : allE R Ei = false := by simpa using hal
                clear hal
                rw [hal2] at X
                have HNe := HN.out hal2
                clear HY HN
                go_wp2_with (go_at_call 98; refine X.out.mono ?_; rintro e w' ⟨rfl, rfl⟩)
                go_roundw
                case rel => exact ⟨i + 1, by omega, by go_num, by rw [HNe]; exact hOi, hbi⟩
                case measure => simp [intOf]; omega
            · have e : i = Q.length := by omega
              subst e
              have HKe := HK.out
              clear HK
              go_wp2
              go_roundw
              case rel => exact ⟨k + 1, by omega, by go_num, by rw [HKe]; exact hOi, hbi⟩
              case measure => simp [intOf]; omega
        · have e : k = P.length := by omega
          subst e
          have HTe := HT.out
          clear HT
          go_wp2
          go_roundw
          case rel => exact ⟨t + 1, by omega, by go_num, by rw [HTe]; exact hOk, hbk⟩
          case measure => simp [intOf]; omega
    · have e : t = P.length + 1 := by omega
      subst e
      go_wp2
      go_ret
      exact ⟨_, rfl, hO, B0.trans (hbel.mono (by omega))⟩

/-- What Empties and EmptyRow answer. -/
def resEmpties (x : Gm) : List Int := if gramOkB x.parts then emptiesL x.parts else []
def resEmptyRow (x : Gm) (row : List Int) : Bool := gramOkB x.parts && allE row (emptiesL x.parts)
theorem resEmpties_le (x : Gm) (_ : Lay.gram.wt x ≤ 1048576) (_ : Lay.gram.fit x) : (Lay.list Lay.int).wt (resEmpties x) ≤ 2097152 := by
  rw [Lay.wt_ints, resEmpties]
  split
  · have := emptiesL_le (Fits.of ‹_›); omega
  · simp

end Go.Proofs.YthnppodnjokaoaaDoor
namespace Go.Proofs.YthnppodnjokaoaaDoor
open Go.RowKit

set_option maxRecDepth 100000 in
theorem l6Alive_any (zs : List Int) (a : Option Addr) (c : Nat) (E : List Int) (a2 : Option Addr) (c2 : Nat) (w : World) (h : Reads w a zs) (g : Reads w a2 E) (hl : zs.length ≤ 1048576) (hE : E.length ≤ 1048576) (hz : ∀ z ∈ zs, -9223372036854775808 ≤ z ∧ z ≤ 9223372036854775807) :
    Calls Tryd.prog 78 #[.slice a zs.length c, .slice a2 E.length c2] w fun e w' => e = .returned (.bool (aliveE zs E)) ∧ w' = w := by
  have HZ : Hid (∀ z ∈ zs, -9223372036854775808 ≤ z ∧ z ≤ 9223372036854775807) := hz
  have HG : Hid (Reads w a2 E) := g
  clear hz g
  go_enter Tryd.func78, Tryd.ntmps78
  go_wp2
  go_loop [5] (fun s => ∃ k : Nat, k ≤ zs.length ∧ s = .int .i64 k ∧ Hid ((zs.take k).all (fun x => !decide (100 ≤ x) || hasL E (x - 100)) = true)) (fun s => zs.length - (intOf s).toNat)
  case atStart => exact ⟨0, Nat.zero_le _, rfl, by show _ = _; simp⟩
  case round =>
    obtain ⟨k, hk, rfl, HK⟩ := hrel
    by_cases hlt : k < zs.length
    · obtain ⟨b, off, rfl, hb, hc⟩ := h.at hlt
      have q1 := hc k hlt
      rw [List.getD_eq_getElem?_getD, List.getElem?_eq_getElem hlt, Option.getD_some] at q1
      have hr := HZ.out zs[k] (List.getElem_mem hlt)
      have HS : Hid ((100 ≤ zs[k] → hasL E (zs[k] - 100) = true) → (zs.take (k + 1)).all (fun x => !decide (100 ≤ x) || hasL E (x - 100)) = true) := fun g1 => all_step HK.out hlt (by
        by_cases g2 : 100 ≤ zs[k]
        · simp [g1 g2]
        · simp [g2])
      have HN : Hid (100 ≤ zs[k] → hasL E (zs[k] - 100) = false → aliveE zs E = false) := fun g1 g2 => all_no hlt (by simp [g1, g2])
      have X : Hid (Calls Tryd.prog 53 #[.slice a2 E.length c2, .int .i64 (zs[k] - 100)] w fun e w' => e = .returned (.bool (hasL E (zs[k] - 100))) ∧ w' = w) := specSetHas_same a2 c2 E (zs[k] - 100) w HG.out (by omega)
      clear hc h HK
      generalize zs[k] = z at *
      by_cases z1 : 100 ≤ z
      · by_cases z2 : hasL E (z - 100) = true
        · rw [z2] at X
          go_wp2_with (go_at_call 53; refine X.out.mono ?_; rintro e w' ⟨rfl, rfl⟩)
          go_round
          case rel => exact ⟨k + 1, by omega, by go_num, HS.out (fun _ => z2)⟩
          case measure => simp [intOf]; omega
        · have z3 : hasL E (z - 100) = false := by simpa using z2
          clear z2
          rw [z3] at X
          go_wp2_with (go_at_call 53; refine X.out.mono ?_; rintro e w' ⟨rfl, rfl⟩)
          go_ret
          exact ⟨ret_bool (by rw [HN.out z1 z3]), rfl⟩
      · have z2 : z < 100 := by omega
        have HF : Hid ((zs.take (k + 1)).all (fun x => !decide (100 ≤ x) || hasL E (x - 100)) = true) := HS.out (fun g => absurd g z1)
        clear z1 X HN HS
        go_wp2
        go_round
        case rel => exact ⟨k + 1, by omega, by go_num, HF⟩
        case measure => simp [intOf]; omega
    · have HE : Hid (aliveE zs E = true) := all_end HK.out hlt
      clear h HK
      go_wp2
      go_ret
      exact ⟨ret_bool (by rw [HE.out]), rfl⟩
set_option maxHeartbeats 2000000 in
set_option maxRecDepth 100000 in
theorem productive_p (P : List (List (List Int))) (a0 : Option Addr) (c0 : Nat) (w : World) (h0 : RD w (.slice a0 P.length c0) (slD (Lay.list (Lay.list Lay.int)) P)) (hok : gramOkB P = true) (hOKc : ∀ W : World, Below w.heap.size w W → Calls Tryd.prog 51 #[.agg #[.slice a0 P.length c0]] W fun e w' => e = .returned (.bool (gramOkB P)) ∧ Below W.heap.size W w') :
    Calls Tryd.prog 54 #[.agg #[.slice a0 P.length c0]] w fun e w' => ∃ v, e = .returned v ∧ OwnInts w' w.heap.size 3 v (aliveL P) ∧ Below w.heap.size w w' := by
  have F := Fits.of hok
  have HF : Hid (Fits P) := F
  have hp := F.parts
  rw [hok] at hOKc
  have HOK : Hid (∀ W : World, Below w.heap.size w W → Calls Tryd.prog 51 #[.agg #[.slice a0 P.length c0]] W fun e w' => e = .returned (.bool true) ∧ Below W.heap.size W w') := hOKc
  clear F hok hOKc
  have B0 := (Below.refl w.heap.size w).alloc (Nat.le_refl _) (.cells #[.slice a0 P.length c0] 28)
  have HR : Hid (RD (w.alloc (.cells #[.slice a0 P.length c0] 28)) (.slice a0 P.length c0) (slD (Lay.list (Lay.list Lay.int)) P)) := h0.later B0
  have HO0 : Hid (OwnInts ((w.alloc (.cells #[.slice a0 P.length c0] 28)).alloc (.cells #[] 3)) w.heap.size 3 (.slice (some ⟨w.heap.size + 1, 0, none⟩) 0 0) []) := by
    have := OwnInts.empty (e := 3) (B0.size)
    show OwnInts _ _ _ _ _
    simpa using this
  have HB1 : Hid (Below (w.heap.size + 1) (w.alloc (.cells #[.slice a0 P.length c0] 28)) ((w.alloc (.cells #[.slice a0 P.length c0] 28)).alloc (.cells #[] 3))) := (Below.refl _ _).alloc (by simp) _
  clear h0
  go_enter Tryd.func54, Tryd.ntmps54
  go_wp2_with fail
  refine (HOK.out _ (B0.alloc B0.size _)).mono ?_
  rintro e w1 ⟨rfl, hb1⟩
  have g1 : w1.cell? ⟨w.heap.size, 0, none⟩ = some (.slice a0 P.length c0) := (hb1.cell (p := ⟨w.heap.size, 0, none⟩) (by simp; omega)).trans (by simp)
  have HO1 : Hid (OwnInts w1 w.heap.size 3 (.slice (some ⟨w.heap.size + 1, 0, none⟩) 0 0) []) := HO0.out.below hb1
  have HB2 : Hid (Below (w.heap.size + 1) (w.alloc (.cells #[.slice a0 P.length c0] 28)) w1) := HB1.out.trans (hb1.mono (by simp))
  clear HO0 HB1 HOK hb1
  go_wp2
  clear g1
  go_loopw [3, 4] (fun so st wr => ∃ t : Nat, t ≤ P.length + 1 ∧ st = .int .i64 t ∧ OwnInts wr w.heap.size 3 so (growT aliveE P t) ∧ Below (w.heap.size + 1) (w.alloc (.cells #[.slice a0 P.length c0] 28)) wr) (fun _ st _ => P.length + 1 - (intOf st).toNat)
  case atStart => exact ⟨0, Nat.zero_le _, rfl, HO1.out, HB2.out⟩
  case round =>
    obtain ⟨t, ht, rfl, hO, hbel⟩ := hrel
    clear HO1 HB2
    have g0 : wr.cell? ⟨w.heap.size, 0, none⟩ = some (.slice a0 P.length c0) := (hbel.cell (p := ⟨w.heap.size, 0, none⟩) (by simp)).trans (by simp)
    by_cases hlt : t ≤ P.length
    · have HT : Hid (growT aliveE P (t + 1) = growK aliveE P (growT aliveE P t) P.length) := rfl
      have hEt := growT_le aliveE hp HF.out.alts t
      generalize growT aliveE P t = E at *
      go_wp2
      go_loopw [3, 5] (fun so sk wr => ∃ k : Nat, k ≤ P.length ∧ sk = .int .i64 k ∧ OwnInts wr w.heap.size 3 so (growK aliveE P E k) ∧ Below (w.heap.size + 1) (w.alloc (.cells #[.slice a0 P.length c0] 28)) wr) (fun _ sk _ => P.length - (intOf sk).toNat)
      case atStart => exact ⟨0, Nat.zero_le _, rfl, hO, hbel⟩
      case round =>
        obtain ⟨k, hk, rfl, hOk, hbk⟩ := hrel
        clear hO hbel g0
        have g0 : wr.cell? ⟨w.heap.size, 0, none⟩ = some (.slice a0 P.length c0) := (hbk.cell (p := ⟨w.heap.size, 0, none⟩) (by simp)).trans (by simp)
        by_cases hlk : k < P.length
        · have HK : Hid (growK aliveE P E (k + 1) = growI aliveE k P[k] (growK aliveE P E k) P[k].length) := growK_next aliveE hlk
          have hm := List.getElem_mem hlk
          have hEk := growK_le aliveE HF.out.alts E k hk
          have hQ := HF.out.alts _ hm
          have HQr : Hid (∀ row ∈ P[k], row.length ≤ 8) := HF.out.rows _ hm
          have HQs : Hid (∀ row ∈ P[k], ∀ z ∈ row, 0 ≤ z ∧ z < 120) := HF.out.syms _ hm
          obtain ⟨b1, o1, rfl, hb1, a1, c1, q0', r1⟩ := HR.out.listAt hlk
          have HR1 : Hid (RD (w.alloc (.cells #[.slice (some ⟨b1, o1, none⟩) P.length c0] 28)) (.slice a1 P[k].length c1) (slD (Lay.list Lay.int) P[k])) := r1
          have HQ0 : Hid (∀ W : World, Below (w.heap.size + 1) (w.alloc (.cells #[.slice (some ⟨b1, o1, none⟩) P.length c0] 28)) W → W.cell? ⟨b1, o1 + k, none⟩ = some (.slice a1 P[k].length c1)) := fun W hW => (hW.cell (p := ⟨b1, o1 + k, none⟩) (by simpa using hb1)).trans q0'
          clear r1 q0' hm hb1
          generalize growK aliveE P E k = Ek at *
          generalize P[k] = Q at *
          go_wp2
          go_loopw [3, 6] (fun so si wr => ∃ i : Nat, i ≤ Q.length ∧ si = .int .i64 i ∧ OwnInts wr w.heap.size 3 so (growI aliveE k Q Ek i) ∧ Below (w.heap.size + 1) (w.alloc (.cells #[.slice (some ⟨b1, o1, none⟩) P.length c0] 28)) wr) (fun _ si _ => Q.length - (intOf si).toNat)
          case atStart => exact ⟨0, Nat.zero_le _, rfl, hOk, hbk⟩
          case round =>
            obtain ⟨i, hi, rfl, hOi, hbi⟩ := hrel
            clear hOk hbk g0
            have g0 : wr.cell? ⟨w.heap.size, 0, none⟩ = some (.slice (some ⟨b1, o1, none⟩) P.length c0) := (hbi.cell (p := ⟨w.heap.size, 0, none⟩) (by simp)).trans (by simp)
            have q0 := HQ0.out wr hbi
            have hsz : w.heap.size + 1 ≤ wr.heap.size := by have := hbi.size; simpa using this
            by_cases hli : i < Q.length
            · have hm := List.getElem_mem hli
              have hr8 := HQr.out _ hm
              have HRs : Hid (∀ z ∈ Q[i], 0 ≤ z ∧ z < 120) := HQs.out _ hm
              have hEi := growI_le aliveE k Q Ek i
              have HY : Hid (aliveE Q[i] (growI aliveE k Q Ek i) = true → growI aliveE k Q Ek (i + 1) = addL (growI aliveE k Q Ek i) k) := growI_yes aliveE hli
              have HN : Hid (aliveE Q[i] (growI aliveE k Q Ek i) = false → growI aliveE k Q Ek (i + 1) = growI aliveE k Q Ek i) := growI_no aliveE hli
              obtain ⟨b2, o2, rfl, hb2, a2, c2, q1', r2⟩ := HR1.out.listAt hli
              have q1 := (hbi.cell (p := ⟨b2, o2 + i, none⟩) (by simpa using hb2)).trans q1'
              obtain ⟨ao, co, rfl, hro, _⟩ := hOi.shape
              have X : Hid (Calls Tryd.prog 78 #[.slice a2 Q[i].length c2, .slice ao (growI aliveE k Q Ek i).length co] wr fun e w' => e = .returned (.bool (aliveE Q[i] (growI aliveE k Q Ek i))) ∧ w' = wr) :=
                l6Alive_any Q[i] a2 c2 _ ao co wr ((r2.later (hbi.mono (by simp))).reads) hro (by omega) (by omega) (fun z hz => by have := HRs.out z hz; omega)
              clear r2 q1' hm hb2 hro
              generalize growI aliveE k Q Ek i = Ei at *
              generalize Q[i] = R at *
              by_cases hal : aliveE R Ei = true
              · rw [hal] at X
                have Y : Hid (Calls Tryd.prog 77 #[.slice ao Ei.length co, .int .i64 (k : Int)] wr fun e w' => ∃ v', e = .returned v' ∧ OwnInts w' wr.heap.size 3 v' (addL Ei k) ∧ Below wr.heap.size wr w') := specSetAdd_any _ _ Ei (k : Int) wr hOi (by omega)
                have HYe := HY.out hal
                clear HY HN
                go_wp2_with (first | (go_at_call 78; refine X.out.mono ?_; rintro e w' ⟨rfl, rfl⟩) | (go_at_call 77; refine Y.out.mono ?_; rintro e w2 ⟨v2, rfl, hO2, hb2⟩))
                go_roundw
                case rel => exact ⟨i + 1, by omega, by go_num, by rw [HYe]; exact hO2.base (by omega), hbi.trans (hb2.mono hsz)⟩
                case measure => simp [intOf]; omega
              · have hal2 : aliveE R Ei = false := by simpa using hal
                clear hal
                rw [hal2] at X
                have HNe := HN.out hal2
                clear HY HN
                go_wp2_with (go_at_call 78; refine X.out.mono ?_; rintro e w' ⟨rfl, rfl⟩)
                go_roundw
                case rel => exact ⟨i + 1, by omega, by go_num, by rw [HNe]; exact hOi, hbi⟩
                case measure => simp [intOf]; omega
            · have e : i = Q.length := by omega
              subst e
              have HKe := HK.out
              clear HK
              go_wp2
              go_roundw
              case rel => exact ⟨k + 1, by omega, by go_num, by rw [HKe]; exact hOi, hbi⟩
              case measure => simp [intOf]; omega
        · have e : k = P.length := by omega
          subst e
          have HTe := HT.out
          clear HT
          go_wp2
          go_roundw
          case rel => exact ⟨t + 1, by omega, by go_num, by rw [HTe]; exact hOk, hbk⟩
          case measure => simp [intOf]; omega
    · have e : t = P.length + 1 := by omega
      subst e
      go_wp2
      go_ret
      exact ⟨_, rfl, hO, B0.trans (hbel.mono (by omega))⟩

/-- What Productive answers. -/
def resProductive (x : Gm) : List Int := if gramOkB x.parts then aliveL x.parts else []
theorem resProductive_le (x : Gm) (_ : Lay.gram.wt x ≤ 1048576) (_ : Lay.gram.fit x) : (Lay.list Lay.int).wt (resProductive x) ≤ 2097152 := by
  rw [Lay.wt_ints, resProductive]
  split
  · have := aliveL_le (Fits.of ‹_›); omega
  · simp

set_option maxRecDepth 100000 in
theorem specProductive_any (x : Gm) (a0 : Option Addr) (c0 : Nat) (w : World) (h0 : RD w (.slice a0 x.parts.length c0) (slD (Lay.list (Lay.list Lay.int)) x.parts)) (hn : Lay.gram.wt x ≤ 1048576) (hf : Lay.gram.fit x) :
    Calls Tryd.prog 54 #[.agg #[.slice a0 x.parts.length c0]] w fun e w' => ∃ v S, e = .returned v ∧ OD w' w.heap.size v (slD Lay.int (resProductive x)) S ∧ Below w.heap.size w w' := by
  have HOK := fun W hW => specGramOk_any x a0 c0 W (h0.later hW) hn hf
  unfold resGramOk at HOK
  by_cases hok : gramOkB x.parts = true
  · refine (productive_p x.parts a0 c0 w h0 hok HOK).mono ?_
    rintro e w' ⟨v, rfl, hO, hb⟩
    rw [resProductive, if_pos hok]
    exact ⟨v, _, rfl, hO.od, hb⟩
  · have hok2 : gramOkB x.parts = false := by simpa using hok
    rw [resProductive, if_neg hok]
    clear hok h0 hn hf
    generalize x.parts = P at *
    have B0 := ((Below.refl w.heap.size w).alloc (Nat.le_refl _) (.cells #[.slice a0 P.length c0] 28))
    have B1 := B0.alloc B0.size (.cells #[] 3)
    go_enter Tryd.func54, Tryd.ntmps54
    go_wp2_with (go_at_call 51; refine (HOK _ B1).mono ?_; rintro e w1 ⟨rfl, hb1⟩)
    go_ret
    have B2 := B1.trans (hb1.mono B1.size)
    have HO := (OwnInts.empty (w := w.alloc (.cells #[.slice a0 P.length c0] 28)) (e := 3) B0.size).below hb1
    exact ⟨_, _, rfl, by simpa using HO.od, B2⟩
end Go.Proofs.YthnppodnjokaoaaDoor
namespace Go.Proofs.YthnppodnjokaoaaDoor
open Go.RowKit

theorem OwnInts.lit1 {w : World} {base : Nat} {e : TypeId} (x : Int) (h : base ≤ w.heap.size) : OwnInts (w.alloc (.cells #[.int .i64 x] e)) base e (.slice (some ⟨w.heap.size, 0, none⟩) 1 1) [x] :=
  World.ownsRow_lit w #[.int .i64 x] 1 h (by simp [maxLen]) rfl

set_option maxHeartbeats 4000000 in
set_option maxRecDepth 100000 in
theorem reachable_p (P : List (List (List Int))) (a0 : Option Addr) (c0 : Nat) (w : World) (h0 : RD w (.slice a0 P.length c0) (slD (Lay.list (Lay.list Lay.int)) P)) (hok : gramOkB P = true) (hOKc : ∀ W : World, Below w.heap.size w W → Calls Tryd.prog 51 #[.agg #[.slice a0 P.length c0]] W fun e w' => e = .returned (.bool (gramOkB P)) ∧ Below W.heap.size W w') :
    Calls Tryd.prog 55 #[.agg #[.slice a0 P.length c0]] w fun e w' => ∃ v, e = .returned v ∧ OwnInts w' w.heap.size 3 v (reachL P) ∧ Below w.heap.size w w' := by
  have F := Fits.of hok
  have HF : Hid (Fits P) := F
  have hp := F.parts
  rw [hok] at hOKc
  have HOK : Hid (∀ W : World, Below w.heap.size w W → Calls Tryd.prog 51 #[.agg #[.slice a0 P.length c0]] W fun e w' => e = .returned (.bool true) ∧ Below W.heap.size W w') := hOKc
  clear F hok hOKc
  have B0 := (Below.refl w.heap.size w).alloc (Nat.le_refl _) (.cells #[.slice a0 P.length c0] 28)
  have HR : Hid (RD (w.alloc (.cells #[.slice a0 P.length c0] 28)) (.slice a0 P.length c0) (slD (Lay.list (Lay.list Lay.int)) P)) := h0.later B0
  clear h0
  go_enter Tryd.func55, Tryd.ntmps55
  go_wp2_with fail
  refine (HOK.out _ B0).mono ?_
  rintro e w1 ⟨rfl, hb1⟩
  have hb1' : Below (w.heap.size + 1) (w.alloc (.cells #[.slice a0 P.length c0] 28)) w1 := by simpa using hb1
  have hs1 : w.heap.size + 1 ≤ w1.heap.size := by have := hb1.size; simpa using this
  have g1 : w1.cell? ⟨w.heap.size, 0, none⟩ = some (.slice a0 P.length c0) := (hb1.cell (p := ⟨w.heap.size, 0, none⟩) (by simp)).trans (by simp)
  have HO1 : Hid (OwnInts (w1.alloc (.cells #[.int .i64 0] 3)) w.heap.size 3 (.slice (some ⟨w1.heap.size, 0, none⟩) 1 1) [0]) := OwnInts.lit1 0 (by omega)
  have HB2 : Hid (Below (w.heap.size + 1) (w.alloc (.cells #[.slice a0 P.length c0] 28)) (w1.alloc (.cells #[.int .i64 0] 3))) := hb1'.alloc hs1 _
  clear HOK hb1 hb1'
  go_wp2
  clear g1
  go_loopw [3, 4] (fun so st wr => ∃ t : Nat, t ≤ P.length + 1 ∧ st = .int .i64 t ∧ OwnInts wr w.heap.size 3 so (reachT P t) ∧ Below (w.heap.size + 1) (w.alloc (.cells #[.slice a0 P.length c0] 28)) wr) (fun _ st _ => P.length + 1 - (intOf st).toNat)
  case atStart => exact ⟨0, Nat.zero_le _, rfl, HO1.out, HB2.out⟩
  case round =>
    obtain ⟨t, ht, rfl, hO, hbel⟩ := hrel
    clear HO1 HB2 hs1
    have g0 : wr.cell? ⟨w.heap.size, 0, none⟩ = some (.slice a0 P.length c0) := (hbel.cell (p := ⟨w.heap.size, 0, none⟩) (by simp)).trans (by simp)
    by_cases hlt : t ≤ P.length
    · have HT : Hid (reachT P (t + 1) = reachK P (reachT P t) P.length) := rfl
      have hEt := reachT_le HF.out t
      generalize reachT P t = E at *
      go_wp2
      go_loopw [3, 5] (fun so sk wr => ∃ k : Nat, k ≤ P.length ∧ sk = .int .i64 k ∧ OwnInts wr w.heap.size 3 so (reachK P E k) ∧ Below (w.heap.size + 1) (w.alloc (.cells #[.slice a0 P.length c0] 28)) wr) (fun _ sk _ => P.length - (intOf sk).toNat)
      case atStart => exact ⟨0, Nat.zero_le _, rfl, hO, hbel⟩
      case round =>
        obtain ⟨k, hk, rfl, hOk, hbk⟩ := hrel
        clear hO hbel g0
        have g0 : wr.cell? ⟨w.heap.size, 0, none⟩ = some (.slice a0 P.length c0) := (hbk.cell (p := ⟨w.heap.size, 0, none⟩) (by simp)).trans (by simp)
        by_cases hlk : k < P.length
        · have HKy : Hid (hasL (reachK P E k) k = true → reachK P E (k + 1) = reachI P[k] (reachK P E k) P[k].length) := reachK_yes hlk
          have HKn : Hid (hasL (reachK P E k) k = false → reachK P E (k + 1) = reachK P E k) := reachK_no
          have hm := List.getElem_mem hlk
          have hEk := reachK_le HF.out E k hk
          have hQ := HF.out.alts _ hm
          have HQr : Hid (∀ row ∈ P[k], row.length ≤ 8) := HF.out.rows _ hm
          have HQs : Hid (∀ row ∈ P[k], ∀ z ∈ row, 0 ≤ z ∧ z < 120) := HF.out.syms _ hm
          obtain ⟨b1, o1, rfl, hb1, a1, c1, q0', r1⟩ := HR.out.listAt hlk
          have HR1 : Hid (RD (w.alloc (.cells #[.slice (some ⟨b1, o1, none⟩) P.length c0] 28)) (.slice a1 P[k].length c1) (slD (Lay.list Lay.int) P[k])) := r1
          have HQ0 : Hid (∀ W : World, Below (w.heap.size + 1) (w.alloc (.cells #[.slice (some ⟨b1, o1, none⟩) P.length c0] 28)) W → W.cell? ⟨b1, o1 + k, none⟩ = some (.slice a1 P[k].length c1)) := fun W hW => (hW.cell (p := ⟨b1, o1 + k, none⟩) (by simpa using hb1)).trans q0'
          obtain ⟨ao, co, rfl, hro, _⟩ := hOk.shape
          have XH : Hid (Calls Tryd.prog 53 #[.slice ao (reachK P E k).length co, .int .i64 (k : Int)] wr fun e w' => e = .returned (.bool (hasL (reachK P E k) k)) ∧ w' = wr) := specSetHas_same ao co _ (k : Int) wr hro (by omega)
          clear r1 q0' hm hb1 hro
          generalize reachK P E k = Ek at *
          generalize P[k] = Q at *
          by_cases hh : hasL Ek k = true
          · rw [hh] at XH
            have HKe := HKy.out hh
            clear HKy HKn
            go_wp2_with (go_at_call 53; refine XH.out.mono ?_; rintro e w' ⟨rfl, rfl⟩)
            clear XH
            go_loopw [3, 6] (fun so si wr => ∃ i : Nat, i ≤ Q.length ∧ si = .int .i64 i ∧ OwnInts wr w.heap.size 3 so (reachI Q Ek i) ∧ Below (w.heap.size + 1) (w.alloc (.cells #[.slice (some ⟨b1, o1, none⟩) P.length c0] 28)) wr) (fun _ si _ => Q.length - (intOf si).toNat)
            case atStart => exact ⟨0, Nat.zero_le _, rfl, hOk, hbk⟩
            case round =>
              obtain ⟨i, hi, rfl, hOi, hbi⟩ := hrel
              clear hOk hbk g0
              have g0 : wr.cell? ⟨w.heap.size, 0, none⟩ = some (.slice (some ⟨b1, o1, none⟩) P.length c0) := (hbi.cell (p := ⟨w.heap.size, 0, none⟩) (by simp)).trans (by simp)
              have q0 := HQ0.out wr hbi
              by_cases hli : i < Q.length
              · have hm := List.getElem_mem hli
                have hr8 := HQr.out _ hm
                have HRs : Hid (∀ z ∈ Q[i], 0 ≤ z ∧ z < 120) := HQs.out _ hm
                have hEi := reachI_le HQr.out Ek i hi
                have HI : Hid (reachI Q Ek (i + 1) = reachJ Q[i] (reachI Q Ek i) Q[i].length) := reachI_next hli
                obtain ⟨b2, o2, rfl, hb2, a2, c2, q1', r2⟩ := HR1.out.listAt hli
                have HQ1 : Hid (∀ W : World, Below (w.heap.size + 1) (w.alloc (.cells #[.slice (some ⟨b1, o1, none⟩) P.length c0] 28)) W → W.cell? ⟨b2, o2 + i, none⟩ = some (.slice a2 Q[i].length c2)) := fun W hW => (hW.cell (p := ⟨b2, o2 + i, none⟩) (by simpa using hb2)).trans q1'
                have HRR : Hid (Reads (w.alloc (.cells #[.slice (some ⟨b1, o1, none⟩) P.length c0] 28)) a2 Q[i]) := r2.reads
                have q1 := HQ1.out wr hbi
                clear r2 q1' hm hb2
                generalize reachI Q Ek i = Ei at *
                generalize Q[i] = R at *
                go_wp2
                go_loopw [3, 7] (fun so sj wr => ∃ j : Nat, j ≤ R.length ∧ sj = .int .i64 j ∧ OwnInts wr w.heap.size 3 so (reachJ R Ei j) ∧ Below (w.heap.size + 1) (w.alloc (.cells #[.slice (some ⟨b1, o1, none⟩) P.length c0] 28)) wr) (fun _ sj _ => R.length - (intOf sj).toNat)
                case atStart => exact ⟨0, Nat.zero_le _, rfl, hOi, hbi⟩
                case round =>
                  obtain ⟨j, hj, rfl, hOj, hbj⟩ := hrel
                  clear hOi hbi g0 q0 q1
                  have g0 : wr.cell? ⟨w.heap.size, 0, none⟩ = some (.slice (some ⟨b1, o1, none⟩) P.length c0) := (hbj.cell (p := ⟨w.heap.size, 0, none⟩) (by simp)).trans (by simp)
                  have q0 := HQ0.out wr hbj
                  have q1 := HQ1.out wr hbj
                  have hsz : w.heap.size + 1 ≤ wr.heap.size := by have := hbj.size; simpa using this
                  by_cases hlj : j < R.length
                  · obtain ⟨b3, o3, rfl, hb3, hc3⟩ := HRR.out.at hlj
                    have q2' := hc3 j hlj
                    rw [List.getD_eq_getElem?_getD, List.getElem?_eq_getElem hlj, Option.getD_some] at q2'
                    have q2 := (hbj.cell (p := ⟨b3, o3 + j, none⟩) (by simpa using hb3)).trans q2'
                    have hz := HRs.out _ (List.getElem_mem hlj)
                    have hEj := reachJ_le R Ei j
                    have HY : Hid (100 ≤ R[j] → reachJ R Ei (j + 1) = addL (reachJ R Ei j) (R[j] - 100)) := reachJ_yes hlj
                    have HN : Hid (¬ 100 ≤ R[j] → reachJ R Ei (j + 1) = reachJ R Ei j) := reachJ_no hlj
                    clear hc3 q2' hb3
                    generalize reachJ R Ei j = Ej at *
                    generalize R[j] = z at *
                    by_cases hz1 : 100 ≤ z
                    · have Y : Hid (Calls Tryd.prog 77 #[_, .int .i64 (z - 100)] wr fun e w' => ∃ v', e = .returned v' ∧ OwnInts w' wr.heap.size 3 v' (addL Ej (z - 100)) ∧ Below wr.heap.size wr w') := specSetAdd_any _ _ Ej (z - 100) wr hOj (by omega)
                      have HYe := HY.out hz1
                      clear HY HN
                      go_wp2_with (go_at_call 77; refine Y.out.mono ?_; rintro e w2 ⟨v2, rfl, hO2, hb2⟩)
                      go_roundw
                      case rel => exact ⟨j + 1, by omega, by go_num, by rw [HYe]; exact hO2.base (by omega), hbj.trans (hb2.mono hsz)⟩
                      case measure => simp [intOf]; omega
                    · have HNe := HN.out hz1
                      clear HY HN
                      go_wp2
                      go_roundw
                      case rel => exact ⟨j + 1, by omega, by go_num, by rw [HNe]; exact hOj, hbj⟩
                      case measure => simp [intOf]; omega
                  · have e : j = R.length := by omega
                    subst e
                    have HIe := HI.out
                    clear HI
                    go_wp2
                    go_roundw
                    case rel => exact ⟨i + 1, by omega, by go_num, by rw [HIe]; exact hOj, hbj⟩
                    case measure => simp [intOf]; omega
              · have e : i = Q.length := by omega
                subst e
                go_wp2
                go_roundw
                case rel => exact ⟨k + 1, by omega, by go_num, by rw [HKe]; exact hOi, hbi⟩
                case measure => simp [intOf]; omega
          · have hh2 : hasL Ek k = false := by simpa using hh
            clear hh
            rw [hh2] at XH
            have HKe := HKn.out hh2
            clear HKy HKn
            go_wp2_with (go_at_call 53; refine XH.out.mono ?_; rintro e w' ⟨rfl, rfl⟩)
            go_roundw
            case rel => exact ⟨k + 1, by omega, by go_num, by rw [HKe]; exact hOk, hbk⟩
            case measure => simp [intOf]; omega
        · have e : k = P.length := by omega
          subst e
          have HTe := HT.out
          clear HT
          go_wp2
          go_roundw
          case rel => exact ⟨t + 1, by omega, by go_num, by rw [HTe]; exact hOk, hbk⟩
          case measure => simp [intOf]; omega
    · have e : t = P.length + 1 := by omega
      subst e
      go_wp2
      go_ret
      exact ⟨_, rfl, hO, B0.trans (hbel.mono (by omega))⟩

/-- What Reachable answers. -/
def resReachable (x : Gm) : List Int := if gramOkB x.parts then reachL x.parts else []
theorem resReachable_le (x : Gm) (_ : Lay.gram.wt x ≤ 1048576) (_ : Lay.gram.fit x) : (Lay.list Lay.int).wt (resReachable x) ≤ 2097152 := by
  rw [Lay.wt_ints, resReachable]
  split
  · have := reachL_le (Fits.of ‹_›); omega
  · simp

set_option maxRecDepth 100000 in
theorem specReachable_any (x : Gm) (a0 : Option Addr) (c0 : Nat) (w : World) (h0 : RD w (.slice a0 x.parts.length c0) (slD (Lay.list (Lay.list Lay.int)) x.parts)) (hn : Lay.gram.wt x ≤ 1048576) (hf : Lay.gram.fit x) :
    Calls Tryd.prog 55 #[.agg #[.slice a0 x.parts.length c0]] w fun e w' => ∃ v S, e = .returned v ∧ OD w' w.heap.size v (slD Lay.int (resReachable x)) S ∧ Below w.heap.size w w' := by
  have HOK := fun W hW => specGramOk_any x a0 c0 W (h0.later hW) hn hf
  unfold resGramOk at HOK
  by_cases hok : gramOkB x.parts = true
  · refine (reachable_p x.parts a0 c0 w h0 hok HOK).mono ?_
    rintro e w' ⟨v, rfl, hO, hb⟩
    rw [resReachable, if_pos hok]
    exact ⟨v, _, rfl, hO.od, hb⟩
  · have hok2 : gramOkB x.parts = false := by simpa using hok
    rw [resReachable, if_neg hok]
    clear hok h0 hn hf
    generalize x.parts = P at *
    have B0 := ((Below.refl w.heap.size w).alloc (Nat.le_refl _) (.cells #[.slice a0 P.length c0] 28))
    go_enter Tryd.func55, Tryd.ntmps55
    go_wp2_with (go_at_call 51; refine (HOK _ B0).mono ?_; rintro e w1 ⟨rfl, hb1⟩)
    go_ret
    have B1 := B0.trans (hb1.mono B0.size)
    exact ⟨_, _, rfl, (OwnInts.empty (w := w1) B1.size).od, B1.trans ((Below.refl _ _).alloc B1.size _)⟩
end Go.Proofs.YthnppodnjokaoaaDoor
