/-
  Contracts and plain mathematics, joined: L8Row, L8Part, StrPart. No statement is proved here.
-/
import Derived.Test.YthnppodnjokaoaaGreatDoorG9
import Derived.Test.YthnppodnjokaoaaGreatDoorG13
import Derived.Test.YthnppodnjokaoaaGreatDoorG11
import Derived.Test.YthnppodnjokaoaaGreatDoorG17
namespace Go.Proofs.YthnppodnjokaoaaGreatDoor
open Go.RowKit

theorem l8Max_any (x y : Int) (w : World) : Calls Tryz.prog 13 #[.int .i64 x, .int .i64 y] w fun e w' => e = .returned (.int .i64 (max x y)) ∧ w' = w := by
  by_cases h1 : y < x
  · go_enter Tryz.func13, Tryz.ntmps13
    go_wp2
    go_ret
    exact ⟨ret_int (by omega), rfl⟩
  · go_enter Tryz.func13, Tryz.ntmps13
    go_wp2
    go_ret
    exact ⟨ret_int (by omega), rfl⟩
/-- 'row[lo : lo + n]' of a slice of integers, where there is room. -/
theorem exec_sliceLH {P : Program} {ρ : Operand → Value} {o : Oper} {ty e : TypeId} {x y z : Operand} {b off len cap lo n : Nat} (ho : o.op = .slice ty x (some y) (some z) none) (hx : ρ x = .slice (some ⟨b, off, none⟩) len cap) (hy : ρ y = .int .i64 (lo : Int)) (hh : ρ z = .int .i64 ((lo + n : Nat) : Int)) (hu : P.underlying ty = some (.slice e)) (hz : (P.info? e).map (·.size) = some 1) (hlo : lo < cap) (hhi : lo + n ≤ cap) (w : World) :
    (execOp ρ o).run P w = .ok (.value (.slice (some ⟨b, off + lo, none⟩) n (cap - lo))) w := by
  have hs : (sizeOf e).run P w = .ok 1 w := by
    cases hq : P.info? e with
    | none => simp [hq] at hz
    | some j => simp [hq] at hz; simp [sizeOf, typeInfo, hq, hz]
  have hne : ¬ cap = lo := by omega
  have h0 : (0 : Int) ≤ (lo : Int) + (n : Int) ∧ (lo : Int) + (n : Int) ≤ (cap : Int) := by omega
  have h1 : ((lo : Int) + (n : Int)).toNat = lo + n := by omega
  have h2 : lo ≤ lo + n := by omega
  have h3 : lo + n - lo = n := by omega
  have h4 : (if lo = 0 then ({ block := b, off := off } : Addr) else { block := b, off := off + lo }) = { block := b, off := off + lo } := by
    by_cases e : lo = 0
    · subst e; rfl
    · rw [if_neg e]
  unfold execOp
  simp [ho, hx, hy, hh, Instr.sliceAt, Instr.slice, run_underlying hu, Instr.sliceBounds, Instr.sliceBound, hs, asIntOf, hne, Addr.add]
  rw [if_pos h0, if_pos (by rw [h1]; exact h2), h1, h3, h4]

/-- spec.l8Part does what it should at a part and a place. -/
def FarPartOk (P : List (List (List Int))) (ws : List Int) (w0 : World) (t : TP) (f : FP) (aP : Option Addr) (cP : Nat) (aw : Option Addr) (cw k i : Nat) : Prop :=
  ∀ (W : World), Two P ws w0 t f aP cP aw cw W → Calls Tryz.prog 52 #[.pointer (some ⟨f.bS, 0, none⟩), .int .i64 (k : Int), .int .i64 (i : Int)] W (FarPost P ws w0 t f aP cP aw cw W (farP P ws k i))
theorem spot_none {F : Nat → Nat → Nat} {x : Int} {v : Nat → Nat} {b j : Nat} (h : v j = 0) : maxOn (spot F x v) b (j + 1) = maxOn (spot F x v) b j := by
  rw [maxOn, spot, if_pos h]; omega
theorem spot_letter {F : Nat → Nat → Nat} {x : Int} {v : Nat → Nat} {b j : Nat} (h : v j ≠ 0) (hx : ¬ 100 ≤ x) : maxOn (spot F x v) b (j + 1) = max (maxOn (spot F x v) b j) j := by
  rw [maxOn, spot, if_neg h, if_neg hx]
theorem spot_part {F : Nat → Nat → Nat} {x : Int} {v : Nat → Nat} {b j : Nat} (h : v j ≠ 0) (hx : 100 ≤ x) : maxOn (spot F x v) b (j + 1) = max (max (maxOn (spot F x v) b j) j) (F (x - 100).toNat j) := by
  rw [maxOn, spot, if_neg h, if_pos hx]; omega
theorem there_none {v : Nat → Nat} {b j : Nat} (h : v j = 0) : maxOn (there v) b (j + 1) = maxOn (there v) b j := by
  rw [maxOn, there, if_pos h]; omega
theorem there_one {v : Nat → Nat} {b j : Nat} (h : v j ≠ 0) : maxOn (there v) b (j + 1) = max (maxOn (there v) b j) j := by
  rw [maxOn, there, if_neg h]

section
variable {P : List (List (List Int))} {ws : List Int} {w0 : World} {t : TP} {f : FP} {aP : Option Addr} {cP : Nat} {aw : Option Addr} {cw : Nat}
set_option maxHeartbeats 8000000 in
set_option maxRecDepth 100000 in
theorem l8Row_any (row : List Int) (ar : Option Addr) (cr i : Nat) (w : World) (hT : Two P ws w0 t f aP cP aw cw w) (hws : Reads w0 aw ws) (hn : ws.length ≤ 10) (hi : i ≤ ws.length) (hr : Reads w0 ar row) (hrl : row.length ≤ 1048576) (hcr : row.length ≤ cr) (hrow : ∀ x ∈ row, symOk P.length x = true)
    (hok : gramOkB P = true) (hL : NoLoop P) (hP : RD w0 (.slice aP P.length cP) (slD (Lay.list (Lay.list Lay.int)) P)) (hp : P.length ≤ 20)
    (hpart : ∀ s (hs : s < row.length), 100 ≤ row[s] → ∀ j, j ≤ ws.length → rowNx ws (way P ws) (deltaV i) (row.take s) j ≠ 0 → FarPartOk P ws w0 t f aP cP aw cw (row[s] - 100).toNat j) :
    Calls Tryz.prog 36 #[.pointer (some ⟨f.bS, 0, none⟩), .slice ar row.length cr, .int .i64 (i : Int)] w (FarPost P ws w0 t f aP cP aw cw w (farRow ws (way P ws) (farP P ws) i row)) := by
  have HPA : Hid (∀ s (hs : s < row.length), 100 ≤ row[s] → ∀ j, j ≤ ws.length → rowNx ws (way P ws) (deltaV i) (row.take s) j ≠ 0 → FarPartOk P ws w0 t f aP cP aw cw (row[s] - 100).toNat j) := hpart
  have HGO : Hid (∀ (z : Int) (a : Option Addr) (c : Nat) (v : Nat → Nat) (b0 c0 : Nat) (W : World), Two P ws w0 t f aP cP aw cw W → Reads w0 a [z] → Reads W (some ⟨b0, 0, none⟩) (vecL v ws.length) → (∀ j, v j ≤ 1000) → symOk P.length z = true →
      Calls Tryz.prog 37 #[.pointer (some ⟨t.bT, 0, none⟩), .slice a 1 c, .slice (some ⟨b0, 0, none⟩) (ws.length + 1) c0] W (GoPost P ws w0 t aP cP aw cw (f.M P.length) W (stepNx ws (way P ws) v z))) := fun z a c v b0 c0 W h1 h2 h3 h4 h5 =>
    l7Go_ok hok hL hws hn hP [z] a c v b0 c0 (f.M P.length) W h1.far.lt.2.2.2 h1.tab h2 (by simp) h3 h4 (fun x hx => by rw [List.mem_singleton.1 hx]; exact h5) hp
  have HV : Hid (∀ s j, rowNx ws (way P ws) (deltaV i) (row.take s) j ≤ 1000) := fun s j => rowNx_le (deltaV_le i) j
  have HR : Hid (∀ x ∈ row, symOk P.length x = true) := hrow
  have HRD : Hid (Reads w0 ar row) := hr
  have HT : Hid (Two P ws w0 t f aP cP aw cw w) := hT
  have HM : Hid (∀ b, TwoM t f P.length b → b < w.heap.size) := fun b h => h.elim (hT.tab.lt.2.2.2 b) (hT.far.lt.2.2.2 b)
  have HPOST : Hid (∀ (W : World) (n : Nat), n = farRow ws (way P ws) (farP P ws) i row → Two P ws w0 t f aP cP aw cw W → Within w W (TwoM t f P.length) → FarPost P ws w0 t f aP cP aw cw w (farRow ws (way P ws) (farP P ws) i row) (.returned (.int .i64 (n : Int))) W) := fun W n h1 h2 h3 => ⟨by rw [h1], h2, h3⟩
  have HEND : Hid (∀ v b, v = rowNx ws (way P ws) (deltaV i) row → b = farPre ws (way P ws) (farP P ws) i row row.length → maxOn (there v) b (ws.length + 1) = farRow ws (way P ws) (farP P ws) i row) := fun v b h1 h2 => by rw [h1, h2]; rfl
  obtain ⟨POST, HPO⟩ : ∃ Q, Hid (FarPost P ws w0 t f aP cP aw cw w (farRow ws (way P ws) (farP P ws) i row) = Q) := ⟨_, rfl⟩
  rw [HPO.out] at HPOST ⊢
  show Calls _ _ _ _ (fun e w' => POST e w')
  have qS := hT.far.c0
  have X := l7At_any t.bT aw cw ws.length i w hn hi hT.tab.c1
  have hwl : i ≤ 10 := by omega
  clear HPO hpart hrow hr hT hws hok hL hP
  go_enter Tryz.func36, Tryz.ntmps36
  go_wp2_with fail
  refine X.mono ?_
  rintro e w1 ⟨rfl, hg1, hR1, hb1⟩
  have HNG1 : Hid (¬ TwoM t f P.length w.heap.size) := fun h => by have := HM.out _ h; omega
  have HR1 : Hid (Reads w1 (some ⟨w.heap.size, 0, none⟩) (vecL (rowNx ws (way P ws) (deltaV i) (row.take 0)) ws.length)) := hR1
  have HT1 : Hid (Two P ws w0 t f aP cP aw cw w1) := HT.out.later hb1
  have HW1 : Hid (Within w w1 (TwoM t f P.length)) := Within.of_below hb1 _
  have HB1 : Hid (i = farPre ws (way P ws) (farP P ws) i row 0) := rfl
  clear X hR1 hb1 HT qS
  go_wp2
  go_loopw [7, 8, 9] (fun s7 s8 s9 wr => ∃ s g cg bb : Nat, s ≤ row.length ∧ s9 = .int .i64 (s : Int) ∧ s8 = .slice (some ⟨g, 0, none⟩) (ws.length + 1) cg ∧ s7 = .int .i64 (bb : Int) ∧ g < wr.heap.size ∧ Hid (¬ TwoM t f P.length g) ∧ Hid (bb = farPre ws (way P ws) (farP P ws) i row s) ∧ Hid (Reads wr (some ⟨g, 0, none⟩) (vecL (rowNx ws (way P ws) (deltaV i) (row.take s)) ws.length)) ∧ Hid (Two P ws w0 t f aP cP aw cw wr) ∧ Hid (Within w wr (TwoM t f P.length))) (fun _ _ s9 _ => row.length - (intOf s9).toNat)
  case atStart => exact ⟨0, w.heap.size, ws.length + 1, i, Nat.zero_le _, rfl, rfl, rfl, hg1, HNG1, HB1, HR1, HT1, HW1⟩
  case round =>
    obtain ⟨wA, hwA⟩ : ∃ y, y = wr := ⟨_, rfl⟩
    subst hwA
    obtain ⟨s, g, cg, bb, hs, rfl, rfl, rfl, hgl, HNG, HB, HRV, HTr, HWr⟩ := hrel
    clear HNG1 HB1 HR1 HT1 HW1 hg1
    by_cases hlt : s < row.length
    · obtain ⟨br, ofr, rfl, hbr, hcell⟩ := HRD.out.at hlt
      have qr0 := hcell s hlt
      rw [List.getD_eq_getElem?_getD, List.getElem?_eq_getElem hlt, Option.getD_some] at qr0
      have hzz := HR.out row[s] (List.getElem_mem hlt)
      have hz := symOk_true.1 hzz
      have HZ : Hid (symOk P.length row[s] = true) := hzz
      have HR1z : Hid (Reads w0 (some ⟨br, ofr + s, none⟩) [row[s]]) := .inr ⟨br, ofr + s, rfl, hbr, fun i hi => by
        simp at hi
        subst hi
        exact qr0⟩
      have HPs : Hid (100 ≤ row[s] → ∀ j, j ≤ ws.length → rowNx ws (way P ws) (deltaV i) (row.take s) j ≠ 0 → ∀ W : World, Two P ws w0 t f (aP) cP aw cw W → Calls Tryz.prog 52 #[.pointer (some ⟨f.bS, 0, none⟩), .int .i64 (row[s] - 100), .int .i64 (j : Int)] W (FarPost P ws w0 t f aP cP aw cw W (farP P ws (row[s] - 100).toNat j))) := fun h1 j h2 h3 W h4 => by
        have := HPA.out s hlt h1 j h2 h3 W h4
        rwa [part_nat h1] at this
      have HSt : Hid (rowNx ws (way P ws) (deltaV i) (row.take (s + 1)) = stepNx ws (way P ws) (rowNx ws (way P ws) (deltaV i) (row.take s)) row[s]) := rowNx_step hlt
      have HVs : Hid (∀ j, rowNx ws (way P ws) (deltaV i) (row.take s) j ≤ 1000) := HV.out s
      have HPre : Hid (∀ v, v = rowNx ws (way P ws) (deltaV i) (row.take s) → ∀ b, b = farPre ws (way P ws) (farP P ws) i row s → maxOn (spot (farP P ws) row[s] v) b (ws.length + 1) = farPre ws (way P ws) (farP P ws) i row (s + 1)) := fun v hv b hb => by
        rw [farPre, hv, hb]
        have : row.getD s 0 = row[s] := by simp [List.getD, hlt]
        rw [this]
      have HPre2 : Hid (maxOn (spot (farP P ws) row[s] (rowNx ws (way P ws) (deltaV i) (row.take s))) bb (ws.length + 1) = farPre ws (way P ws) (farP P ws) i row (s + 1)) := HPre.out _ rfl bb HB.out
      have hsc : s + 1 ≤ cr := by omega
      generalize rowNx ws (way P ws) (deltaV i) (row.take s) = x at *
      generalize row[s] = z at *
      clear hcell HPA HV HR HPre hzz
      have HS0 : Hid (Two P ws w0 t f aP cP aw cw wA) := HTr
      have HWA : Hid (Within wA wA (TwoM t f P.length)) := Within.refl _ _
      have HBA : Hid (bb = maxOn (spot (farP P ws) z x) bb 0) := rfl
      go_wp2
      go_loopw [7, 10] (fun s7 s10 wr => ∃ j b1 : Nat, j ≤ ws.length + 1 ∧ s10 = .int .i64 (j : Int) ∧ s7 = .int .i64 (b1 : Int) ∧ Hid (b1 = maxOn (spot (farP P ws) z x) bb j) ∧ Hid (Two P ws w0 t f aP cP aw cw wr) ∧ Hid (Within wA wr (TwoM t f P.length))) (fun _ s10 _ => ws.length + 1 - (intOf s10).toNat)
      case atStart => exact ⟨0, bb, Nat.zero_le _, rfl, rfl, HBA, HS0, HWA⟩
      case round =>
        obtain ⟨wB, hwB⟩ : ∃ y, y = wr := ⟨_, rfl⟩
        subst hwB
        obtain ⟨j, b1, hj, rfl, rfl, HBj, HTj, HWj⟩ := hrel
        clear HS0 HWA HBA
        have q0 := HTj.out.far.c0
        have q1 := HTj.out.tab.c1
        by_cases hjl : j ≤ ws.length
        · have q2 := reads_vec (reads_within HRV.out HWj.out HNG.out) hjl
          have q3 := (HTj.out.tab.low.cell (p := ⟨br, ofr + s, none⟩) hbr).trans qr0
          by_cases hx0 : x j = 0
          · rw [hx0] at q2
            have HBn : Hid (b1 = maxOn (spot (farP P ws) z x) bb (j + 1)) := by show _ = _; rw [spot_none hx0]; exact HBj.out
            clear HBj HPs
            go_wp2
            go_roundw
            case rel => exact ⟨j + 1, b1, by omega, by go_num, rfl, HBn, HTj, HWj⟩
            case measure => simp [intOf]; omega
          · have HX : Hid (x j ≠ 0) := hx0
            have hxI : ¬ ((x j : Int) = 0) := by omega
            generalize hxy : x j = y at q2 hxI
            have hmx : max (b1 : Int) (j : Int) = ((max b1 j : Nat) : Int) := by omega
            obtain ⟨b2, hb2⟩ : ∃ b, b = max b1 j := ⟨_, rfl⟩
            rw [← hb2] at hmx
            by_cases hx : 100 ≤ z
            · have Y := HPs.out hx j hjl HX.out
              have HBn : Hid (∀ n, n = farP P ws (z - 100).toNat j → max b2 n = maxOn (spot (farP P ws) z x) bb (j + 1)) := fun n hn' => by
                rw [spot_part HX.out hx, ← HBj.out, hb2, hn']
              have HJ : Hid (b2 = max b1 j) := hb2
              clear HBj HPs hxy hb2
              generalize farP P ws (z - 100).toNat j = n at *
              have hmn : max (b2 : Int) (n : Int) = ((max b2 n : Nat) : Int) := by omega
              have HBm : Hid (max b2 n = maxOn (spot (farP P ws) z x) bb (j + 1)) := HBn.out n rfl
              have Z : Hid (Calls Tryz.prog 52 #[.pointer (some ⟨f.bS, 0, none⟩), .int .i64 (z - 100), .int .i64 (j : Int)] wB (FarPost P ws w0 t f aP cP aw cw wB n)) := Y wB HTj.out
              clear HBn Y hx0
              go_wp2_with (first | (go_at_call 13; refine (l8Max_any _ _ _).mono ?_; rintro e w6 ⟨rfl, h6⟩; replace h6 := h6.symm; subst h6; first | rw [hmx] | rw [hmn]) | (go_at_call 52; refine Z.out.mono ?_; rintro e w7 ⟨rfl, HT7, HW7⟩))
              have HTn : Hid (Two P ws w0 t f aP cP aw cw w7) := HT7
              have HWn : Hid (Within wA w7 (TwoM t f P.length)) := HWj.out.trans HW7
              clear HT7 HW7
              go_roundw
              case rel => exact ⟨j + 1, max b2 n, by omega, by go_num, rfl, HBm, HTn, HWn⟩
              case measure => simp [intOf]; omega
            · have HBn : Hid (b2 = maxOn (spot (farP P ws) z x) bb (j + 1)) := by show _ = _; rw [spot_letter HX.out hx, ← HBj.out, hb2]
              clear HBj HPs hxy hb2 hx0
              go_wp2_with (go_at_call 13; refine (l8Max_any _ _ _).mono ?_; rintro e w6 ⟨rfl, h6⟩; replace h6 := h6.symm; subst h6; rw [hmx])
              go_roundw
              case rel => exact ⟨j + 1, b2, by omega, by go_num, rfl, HBn, HTj, HWj⟩
              case measure => simp [intOf]; omega
        · have e : j = ws.length + 1 := by omega
          subst e
          have HBE : Hid (b1 = farPre ws (way P ws) (farP P ws) i row (s + 1)) := by show _ = _; rw [← HPre2.out]; exact HBj.out
          have Z : Hid (∀ W : World, Two P ws w0 t f aP cP aw cw W → Reads W (some ⟨g, 0, none⟩) (vecL x ws.length) → Calls Tryz.prog 37 #[.pointer (some ⟨t.bT, 0, none⟩), .slice (some ⟨br, ofr + s, none⟩) 1 (cr - s), .slice (some ⟨g, 0, none⟩) (ws.length + 1) cg] W (GoPost P ws w0 t aP cP aw cw (f.M P.length) W (stepNx ws (way P ws) x z))) := fun W h1 h2 => HGO.out z _ _ x g cg W h1 HR1z.out h2 HVs.out HZ.out
          have HRN : Hid (Reads wB (some ⟨g, 0, none⟩) (vecL x ws.length)) := reads_within HRV.out HWj.out HNG.out
          clear HBj HPre2 HPs
          go_wp2
          refine wp_region_held_drew (S := (fun w' => w'.cell? ⟨f.bS, 0, none⟩ = some (.pointer (some ⟨t.bT, 0, none⟩)) ∧ True)) (by kernel_rfl) ⟨q0, trivial⟩ (fun hHeld => ?_)
          refine take_atL (i := 0) (d := some 60) (v := .pointer (some ⟨f.bS, 0, none⟩)) rfl rfl (by kernel_rfl) (by kernel_rfl) (by kernel_rfl) (fun _ _ _ h => h) (by rfl) ?_ hHeld ?_
          · intro w' hSw; obtain ⟨s0, _⟩ := hSw; go_simp; first | done | rfl | (refine wrap_in ?_ ?_ <;> omega) | (intro hbad; exfalso; omega)
          try simp only [Act.put, List.setIfInBounds_toArray, List.set_cons_zero, List.set_cons_succ]
          refine take_atL (i := 1) (d := some 61) (v := .pointer (some ⟨f.bS, 0, none⟩)) rfl rfl (by kernel_rfl) (by kernel_rfl) (by kernel_rfl) (fun _ _ _ h => h) (by rfl) ?_ hHeld ?_
          · intro w' hSw; obtain ⟨s0, _⟩ := hSw; go_simp; first | done | rfl | (refine wrap_in ?_ ?_ <;> omega) | (intro hbad; exfalso; omega)
          try simp only [Act.put, List.setIfInBounds_toArray, List.set_cons_zero, List.set_cons_succ]
          refine take_atL (i := 2) (d := some 62) (v := .pointer (some ⟨f.bS, 0, none⟩)) rfl rfl (by kernel_rfl) (by kernel_rfl) (by kernel_rfl) (fun _ _ _ h => h) (by rfl) ?_ hHeld ?_
          · intro w' hSw; obtain ⟨s0, _⟩ := hSw; go_simp; first | done | rfl | (refine wrap_in ?_ ?_ <;> omega) | (intro hbad; exfalso; omega)
          try simp only [Act.put, List.setIfInBounds_toArray, List.set_cons_zero, List.set_cons_succ]
          refine take_atL (i := 3) (d := some 63) (v := .pointer (some ⟨t.bT, 0, none⟩)) rfl rfl (by kernel_rfl) (by kernel_rfl) (by kernel_rfl) (fun _ _ _ h => h) (by rfl) ?_ hHeld ?_
          · intro w' hSw; obtain ⟨s0, _⟩ := hSw; go_simp; first | done | rfl | (refine wrap_in ?_ ?_ <;> omega) | (intro hbad; exfalso; omega)
          try simp only [Act.put, List.setIfInBounds_toArray, List.set_cons_zero, List.set_cons_succ]
          refine take_atL (i := 4) (d := some 64) (v := .slice (some ⟨br, ofr, none⟩) row.length cr) rfl rfl (by kernel_rfl) (by kernel_rfl) (by kernel_rfl) (fun _ _ _ h => h) (by rfl) ?_ hHeld ?_
          · intro w' hSw; obtain ⟨s0, _⟩ := hSw; go_simp; first | done | rfl | (refine wrap_in ?_ ?_ <;> omega) | (intro hbad; exfalso; omega)
          try simp only [Act.put, List.setIfInBounds_toArray, List.set_cons_zero, List.set_cons_succ]
          refine take_atL (i := 5) (d := some 65) (v := .int .i64 ((s : Int))) rfl rfl (by kernel_rfl) (by kernel_rfl) (by kernel_rfl) (fun _ _ _ h => h) (by rfl) ?_ hHeld ?_
          · intro w' hSw; obtain ⟨s0, _⟩ := hSw; go_simp; first | done | rfl | (refine wrap_in ?_ ?_ <;> omega) | (intro hbad; exfalso; omega)
          try simp only [Act.put, List.setIfInBounds_toArray, List.set_cons_zero, List.set_cons_succ]
          refine take_atL (i := 6) (d := some 66) (v := .int .i64 ((s : Int))) rfl rfl (by kernel_rfl) (by kernel_rfl) (by kernel_rfl) (fun _ _ _ h => h) (by rfl) ?_ hHeld ?_
          · intro w' hSw; obtain ⟨s0, _⟩ := hSw; go_simp; first | done | rfl | (refine wrap_in ?_ ?_ <;> omega) | (intro hbad; exfalso; omega)
          try simp only [Act.put, List.setIfInBounds_toArray, List.set_cons_zero, List.set_cons_succ]
          refine take_atL (i := 7) (d := some 67) (v := .int .i64 (((s + 1 : Nat) : Int))) rfl rfl (by kernel_rfl) (by kernel_rfl) (by kernel_rfl) (fun _ _ _ h => h) (by rfl) ?_ hHeld ?_
          · intro w' hSw; obtain ⟨s0, _⟩ := hSw; go_simp; first | done | rfl | (refine wrap_in ?_ ?_ <;> omega) | (intro hbad; exfalso; omega)
          try simp only [Act.put, List.setIfInBounds_toArray, List.set_cons_zero, List.set_cons_succ]
          refine take_atL (i := 8) (d := some 68) (v := .slice (some ⟨br, ofr + s, none⟩) 1 (cr - s)) rfl rfl (by kernel_rfl) (by kernel_rfl) (by kernel_rfl) (fun _ _ _ h => h) (by rfl) ?_ hHeld ?_
          · intro w' _; exact exec_sliceLH (lo := s) (n := 1) rfl rfl rfl rfl Tryz.underlying25 int_size (by omega) (by omega) w'
          try simp only [Act.put, List.setIfInBounds_toArray, List.set_cons_zero, List.set_cons_succ]
          refine take_atL (i := 9) (d := some 69) (v := .slice (some ⟨g, 0, none⟩) (ws.length + 1) cg) rfl rfl (by kernel_rfl) (by kernel_rfl) (by kernel_rfl) (fun _ _ _ h => h) (by rfl) ?_ hHeld ?_
          · intro w' hSw; obtain ⟨s0, _⟩ := hSw; go_simp; first | done | rfl | (refine wrap_in ?_ ?_ <;> omega) | (intro hbad; exfalso; omega)
          try simp only [Act.put, List.setIfInBounds_toArray, List.set_cons_zero, List.set_cons_succ]
          refine wpAnyH_ready (rs := [10]) (by kernel_rfl) (by simp) ?_
          refine AllReadyH.cons (o := _) rfl (fun K hK => ?_) AllReadyH.nil
          rw [if_pos (by rfl)]
          go_simp
          refine (Z.out _ (HTj.out.later (Below.drew (Below.refl wB.heap.size wB))) (HRN.out.below (Below.drew (Below.refl wB.heap.size wB)))).mono ?_
          rintro e w6 ⟨g6, c6, rfl, h6M, h6N, h6l, h6R, h6T, h6W⟩
          have HT6 : Hid (Two P ws w0 t f aP cP aw cw w6) := (HTj.out.later (Below.drew (Below.refl wB.heap.size wB))).ways h6T h6W
          have HW6 : Hid (Within w w6 (TwoM t f P.length)) := HWr.out.trans (HWj.out.trans ((Within.of_below (Below.drew (Below.refl wB.heap.size wB)) _).trans (h6W.mono (fun _ e => .inl e))))
          have HR6 : Hid (Reads w6 (some ⟨g6, 0, none⟩) (vecL (rowNx ws (way P ws) (deltaV i) (row.take (s + 1))) ws.length)) := by show Reads _ _ _; rw [HSt.out]; exact h6R
          have HG6 : Hid (¬ TwoM t f P.length g6) := fun e => e.elim h6M h6N
          have s0 := HT6.out.far.c0
          clear Z h6M h6N h6R h6T h6W HRN
          go_wp2_with fail
          refine hK.out _ _ ⟨s0, trivial⟩ (fun hHeld => ?_)
          clear hK K
          try simp only [Act.put, List.setIfInBounds_toArray, List.set_cons_zero, List.set_cons_succ]
          refine take_atL (i := 11) (d := some 8) (v := .slice (some ⟨g6, 0, none⟩) (ws.length + 1) c6) rfl rfl (by kernel_rfl) (by kernel_rfl) (by kernel_rfl) (fun _ _ _ h => h) (by rfl) ?_ hHeld ?_
          · intro w' hSw; obtain ⟨s0, _⟩ := hSw; go_simp; first | done | rfl | (refine wrap_in ?_ ?_ <;> omega) | (intro hbad; exfalso; omega)
          try simp only [Act.put, List.setIfInBounds_toArray, List.set_cons_zero, List.set_cons_succ]
          refine wpAnyH_done (by kernel_rfl) ?_ _
          clear hHeld
          go_wp2
          go_roundw
          case rel => exact ⟨s + 1, g6, c6, b1, by omega, by go_num, rfl, rfl, h6l, HG6, HBE, HR6, HT6, HW6⟩
          case measure => simp [intOf]; omega
    · have e : s = row.length := by omega
      subst e
      have HRl : Hid (Reads wA (some ⟨g, 0, none⟩) (vecL (rowNx ws (way P ws) (deltaV i) row) ws.length)) := by
        have := HRV.out
        rw [List.take_length] at this
        exact this
      have HE2 : Hid (∀ b, b = maxOn (there (rowNx ws (way P ws) (deltaV i) row)) bb (ws.length + 1) → b = farRow ws (way P ws) (farP P ws) i row) := fun b h => by rw [h]; exact HEND.out _ _ rfl HB.out
      generalize rowNx ws (way P ws) (deltaV i) row = x at *
      have HB0 : Hid (bb = maxOn (there x) bb 0) := rfl
      clear HEND HB HRV HPA HV HR
      go_wp2
      go_loopw [7, 11] (fun s7 s11 wr => ∃ j b1 : Nat, j ≤ ws.length + 1 ∧ s11 = .int .i64 (j : Int) ∧ s7 = .int .i64 (b1 : Int) ∧ Hid (b1 = maxOn (there x) bb j) ∧ wr = wA) (fun _ s11 _ => ws.length + 1 - (intOf s11).toNat)
      case atStart => exact ⟨0, bb, Nat.zero_le _, rfl, rfl, HB0, rfl⟩
      case round =>
        obtain ⟨j, b1, hj, rfl, rfl, HBj, hwr⟩ := hrel
        replace hwr := hwr.symm
        subst hwr
        have q0 := HTr.out.far.c0
        have q1 := HTr.out.tab.c1
        by_cases hjl : j ≤ ws.length
        · have q2 := reads_vec HRl.out hjl
          by_cases hx0 : x j = 0
          · rw [hx0] at q2
            have HBn : Hid (b1 = maxOn (there x) bb (j + 1)) := by show _ = _; rw [there_none hx0]; exact HBj.out
            clear HBj HB0
            go_wp2
            go_roundw
            case rel => exact ⟨j + 1, b1, by omega, by go_num, rfl, HBn, trivial⟩
            case measure => simp [intOf]; omega
          · have hmx : max (b1 : Int) (j : Int) = ((max b1 j : Nat) : Int) := by omega
            have HBn : Hid (max b1 j = maxOn (there x) bb (j + 1)) := by show _ = _; rw [there_one hx0, ← HBj.out]
            have hxI : (0 : Int) < (x j : Int) := by omega
            clear HBj HB0
            generalize x j = y at q2 hxI
            go_wp2_with (go_at_call 13; refine (l8Max_any _ _ _).mono ?_; rintro e w6 ⟨rfl, h6⟩; replace h6 := h6.symm; subst h6; rw [hmx])
            go_roundw
            case rel => exact ⟨j + 1, max b1 j, by omega, by go_num, rfl, HBn, trivial⟩
            case measure => simp [intOf]; omega
        · have e : j = ws.length + 1 := by omega
          subst e
          have HE := HE2.out b1 HBj.out
          have HQ : Hid (POST (.returned (.int .i64 (b1 : Int))) wA) := HPOST.out wA b1 HE HTr.out HWr.out
          clear HBj HB0 HE
          go_wp2
          exact HQ.out
end
end Go.Proofs.YthnppodnjokaoaaGreatDoor
namespace Go.Proofs.YthnppodnjokaoaaGreatDoor
open Go.RowKit

section
variable {P : List (List (List Int))} {ws : List Int} {w0 : World} {t : TP} {f : FP} {aP : Option Addr} {cP : Nat} {aw : Option Addr} {cw : Nat}
set_option maxHeartbeats 8000000 in
set_option maxRecDepth 100000 in
theorem l8Part_walk (k i : Nat) (w : World) (hk : k < P.length) (hi : i ≤ ws.length) (hT : Two P ws w0 t f aP cP aw cw w) (hP : RD w0 (.slice aP P.length cP) (slD (Lay.list (Lay.list Lay.int)) P)) (hp8 : P[k].length ≤ 8) (r : Nat → Nat)
    (hrow : ∀ a (ha : a < P[k].length) (W : World) (ar : Option Addr) (cr : Nat), Two P ws w0 t f aP cP aw cw W → RD w0 (.slice ar P[k][a].length cr) (slD Lay.int P[k][a]) → Calls Tryz.prog 36 #[.pointer (some ⟨f.bS, 0, none⟩), .slice ar P[k][a].length cr, .int .i64 (i : Int)] W (FarPost P ws w0 t f aP cP aw cw W (r a)))
    (heq : farP P ws k i = maxOn r i P[k].length) :
    Calls Tryz.prog 52 #[.pointer (some ⟨f.bS, 0, none⟩), .int .i64 (k : Int), .int .i64 (i : Int)] w (FarPost P ws w0 t f aP cP aw cw w (farP P ws k i)) := by
  obtain ⟨d, v, hd⟩ := hT.far.known
  obtain ⟨qd, qv, hv⟩ := hd k i hk hi
  have c2 := hT.far.c2
  have rD := hT.far.rD k hk
  have hkI : (k : Int) < (P.length : Int) := by omega
  have hiI : (i : Int) < (ws.length : Int) + 1 := by omega
  by_cases hdk : d k i = true
  · have HE : Hid (FarPost P ws w0 t f aP cP aw cw w (farP P ws k i) (.returned (.int .i64 (v k i : Int))) w) := ⟨by rw [hv hdk], hT, Within.refl _ _⟩
    have c1 := hT.far.c1
    have rF := hT.far.rF k hk
    rw [hdk] at qd
    generalize v k i = y at *
    clear hd hT hrow heq hP hv
    go_enter Tryz.func52, Tryz.ntmps52
    go_wp2
    go_ret
    exact HE.out
  · have hdf : d k i = false := by simpa using hdk
    rw [hdf] at qd
    have HT : Hid (Two P ws w0 t f aP cP aw cw w) := hT
    have HP : Hid (RD w0 (.slice aP P.length cP) (slD (Lay.list (Lay.list Lay.int)) P)) := hP
    have HRO : Hid (∀ a (ha : a < P[k].length) (W : World) (ar : Option Addr) (cr : Nat), Two P ws w0 t f aP cP aw cw W → RD w0 (.slice ar P[k][a].length cr) (slD Lay.int P[k][a]) → Calls Tryz.prog 36 #[.pointer (some ⟨f.bS, 0, none⟩), .slice ar P[k][a].length cr, .int .i64 (i : Int)] W (FarPost P ws w0 t f aP cP aw cw W (r a))) := hrow
    have HEQ : Hid (farP P ws k i = maxOn r i P[k].length) := heq
    have HB0 : Hid (i = maxOn r i 0) := rfl
    have HW0 : Hid (Within w w (TwoM t f P.length)) := Within.refl _ _
    clear hrow heq hd hdk hdf hT hP hv qv
    go_enter Tryz.func52, Tryz.ntmps52
    go_wp2
    clear c2 rD qd
    go_loopw [7, 8] (fun s7 s8 wr => ∃ a b : Nat, a ≤ P[k].length ∧ s8 = .int .i64 (a : Int) ∧ s7 = .int .i64 (b : Int) ∧ Hid (b = maxOn r i a) ∧ Hid (Two P ws w0 t f aP cP aw cw wr) ∧ Hid (Within w wr (TwoM t f P.length))) (fun _ s8 _ => P[k].length - (intOf s8).toNat)
    case atStart => exact ⟨0, i, Nat.zero_le _, rfl, rfl, HB0, HT, HW0⟩
    case round =>
      obtain ⟨wA, hwA⟩ : ∃ y, y = wr := ⟨_, rfl⟩
      subst hwA
      obtain ⟨a, b, ha, rfl, rfl, HB, HTa, HWa⟩ := hrel
      clear HB0 HT HW0
      obtain ⟨b1, o1, rfl, hb1, a1, ca1, q1, r1⟩ := HP.out.listAt hk
      have hlo := HTa.out.tab.low
      have q00 := HTa.out.far.c0
      have q0 := HTa.out.tab.c0
      have q1a := (hlo.cell (p := ⟨b1, o1 + k, none⟩) hb1).trans q1
      by_cases hlt : a < P[k].length
      · obtain ⟨b2, o2, rfl, hb2, a2, ca2, q2, r2⟩ := r1.listAt hlt
        have q2a := (hlo.cell (p := ⟨b2, o2 + a, none⟩) hb2).trans q2
        have Z : Hid (Calls Tryz.prog 36 #[.pointer (some ⟨f.bS, 0, none⟩), .slice a2 P[k][a].length ca2, .int .i64 (i : Int)] wA (FarPost P ws w0 t f (some ⟨b1, o1, none⟩) cP aw cw wA (r a))) := HRO.out a hlt wA a2 ca2 HTa.out r2
        have haI : (a : Int) < (P[k].length : Int) := by omega
        have hmx : max (b : Int) ((r a : Nat) : Int) = ((max b (r a) : Nat) : Int) := by omega
        have HBn : Hid (max b (r a) = maxOn r i (a + 1)) := by show _ = _; rw [maxOn, ← HB.out]
        generalize r a = n at *
        generalize P[k][a] = row at *
        clear r1 r2 q1 q2 HB HRO
        go_wp2_with (first | (go_at_call 13; refine (l8Max_any _ _ _).mono ?_; rintro e w6 ⟨rfl, h6⟩; replace h6 := h6.symm; subst h6; rw [hmx]) | (go_at_call 36; refine Z.out.mono ?_; rintro e w7 ⟨rfl, HT7, HW7⟩))
        have HTn : Hid (Two P ws w0 t f (some ⟨b1, o1, none⟩) cP aw cw w7) := HT7
        have HWn : Hid (Within w w7 (TwoM t f P.length)) := HWa.out.trans HW7
        clear HT7 HW7
        go_roundw
        case rel => exact ⟨a + 1, max b n, by omega, by go_num, rfl, HBn, HTn, HWn⟩
        case measure => simp [intOf]; omega
      · have e : a = P[k].length := by omega
        subst e
        have haI : (P[k].length : Int) ≤ (P[k].length : Int) := Int.le_refl _
        have hb : b = farP P ws k i := by rw [HEQ.out]; exact HB.out
        have T1 := HTa.out.storeF (i := i) hk
        obtain ⟨d1, v1, hd1⟩ := HTa.out.far.known
        obtain ⟨pd, pv, _⟩ := hd1 k i hk hi
        have T2 := T1.storeD hk (cell_set pv)
        have mF := f.mF hk
        have mD := f.mD hk
        have hW2 : Within wA ((wA.setCell ⟨f.bF k, i, none⟩ (.int .i64 (farP P ws k i : Int))).setCell ⟨f.bD k, i, none⟩ (.bool true)) (TwoM t f P.length) := (set_within wA (f.bF k) i (.int .i64 (farP P ws k i : Int)) (M := TwoM t f P.length) (.inr mF)).trans (set_within _ (f.bD k) i (.bool true) (.inr mD))
        have HE : Hid (FarPost P ws w0 t f (some ⟨b1, o1, none⟩) cP aw cw w (farP P ws k i) (.returned (.int .i64 (farP P ws k i : Int))) ((wA.setCell ⟨f.bF k, i, none⟩ (.int .i64 (farP P ws k i : Int))).setCell ⟨f.bD k, i, none⟩ (.bool true))) := ⟨rfl, T2, HWa.out.trans hW2⟩
        have c1 := HTa.out.far.c1
        have rF := HTa.out.far.rF k hk
        have fF := HTa.out.far.fr _ mF i
        have c2 := T1.far.c2
        have rD := T1.far.rD k hk
        have fD := T1.far.fr _ mD i
        have qd := (cell_set_off (x := .int .i64 (farP P ws k i : Int)) (i := i) (o := i) (.inl (HTa.out.far.ok.fD k k hk hk))).trans pd
        have n1 : f.bF k ≠ f.bS := fun e => HTa.out.far.ok.S (e ▸ mF)
        have n2 : f.bF k ≠ f.oD := fun e => HTa.out.far.ok.oD (e ▸ mF)
        have n3 : f.bF k ≠ f.bD k := HTa.out.far.ok.fD k k hk hk
        subst hb
        clear T1 T2 hW2 hd1 HTa HWa HEQ HP HRO HB r1 mF mD
        generalize farP P ws k i = n at *
        go_wp2
        go_ret
        exact HE.out
/-- spec.l8Part at every part and place. -/
theorem l8Part_ok (hok : gramOkB P = true) (hL : NoLoop P) (hws : Reads w0 aw ws) (hn : ws.length ≤ 10) (hP : RD w0 (.slice aP P.length cP) (slD (Lay.list (Lay.list Lay.int)) P)) (hp : P.length ≤ 20) (m : Nat) :
    ∀ k i, k < P.length → i ≤ ws.length → muP P ws.length k i < m → FarPartOk P ws w0 t f aP cP aw cw k i := by
  have F := Fits.of hok
  induction m with
  | zero => intro k i _ _ h; omega
  | succ m ih =>
    intro k i hk hi hm w hT
    have hmem := List.getElem_mem hk
    refine l8Part_walk k i w hk hi hT hP (F.alts _ hmem) (fun a => farRow ws (way P ws) (farP P ws) i (P[k].getD a [])) ?_ (far_eq F hL hk hi)
    intro a ha W ar cr h1 h2
    have ea : P[k].getD a [] = P[k][a] := by simp [List.getD, ha]
    show Calls _ _ _ _ (FarPost P ws w0 t f aP cP aw cw W (farRow ws (way P ws) (farP P ws) i (P[k].getD a [])))
    rw [ea]
    have hmem2 := List.getElem_mem ha
    refine l8Row_any P[k][a] ar cr i W h1 hws hn hi h2.reads (by have := F.rows _ hmem _ hmem2; omega) ?_ ?_ hok hL hP hp ?_
    · exact h2.capL
    · intro x hx
      simp only [gramOkB, Bool.and_eq_true, List.all_eq_true, partOk, rowOk] at hok
      exact (((hok.2 _ hmem).2 _ hmem2).2) x hx
    · intro s hs hx j hj hne
      obtain ⟨_, _, h5⟩ := way_lt F hL hk ha hi hs hx hne
      exact ih _ j (gram_part hok hk ha hs) hj (by omega)
end
end Go.Proofs.YthnppodnjokaoaaGreatDoor
namespace Go.Proofs.YthnppodnjokaoaaGreatDoor
open Go.RowKit

theorem sumTo_none {f : Nat → Nat} {m n : Nat} (hm : m ≤ n) (h : ∀ i, m ≤ i → i < n → f i = 0) : sumTo f n = sumTo f m := by
  induction n with
  | zero => have : m = 0 := by omega
            subst this; rfl
  | succ n ih =>
    by_cases e : m = n + 1
    · subst e; rfl
    · rw [sumTo, ih (by omega) (fun i h1 h2 => h i h1 (by omega)), h n (by omega) (by omega)]; rfl
/-- Where a part leads, as far as the places were gone through. -/
def partTo8 (W : Nat → Nat → Nat) (v : Nat → Nat) (q : Nat) : Nat → Nat := fun j => sumTo (fun i => v i * W i j) q
theorem partTo8_stay {W : Nat → Nat → Nat} {v : Nat → Nat} {q : Nat} (h : v q = 0) (j : Nat) : partTo8 W v q j ≠ 0 ↔ partTo8 W v (q + 1) j ≠ 0 := by
  unfold partTo8
  rw [sumTo, h, Nat.zero_mul]; rfl
theorem partTo8_put {W : Nat → Nat → Nat} {v : Nat → Nat} {q : Nat} (h : v q ≠ 0) (j : Nat) : partTo8 W v q j + W q j ≠ 0 ↔ partTo8 W v (q + 1) j ≠ 0 := by
  unfold partTo8
  rw [sumTo]
  have : v q * W q j = 0 ↔ W q j = 0 := by
    rw [Nat.mul_eq_zero]
    exact ⟨fun e => e.elim (fun e => absurd e h) id, .inr⟩
  generalize v q * W q j = x at *
  omega
theorem partTo8_end {W : Nat → Nat → Nat} {v : Nat → Nat} {n : Nat} (hn : n ≤ 10) (hv : ∀ j, n < j → v j = 0) (j : Nat) : partTo8 W v 11 j ≠ 0 ↔ partNx n W v j ≠ 0 := by
  unfold partTo8 partNx
  rw [sumTo_none (m := n + 1) (by omega) (fun i h1 _ => by rw [hv i (by omega), Nat.zero_mul])]
  unfold capN
  omega
theorem partSpot_step {F : Nat → Nat → Nat} {k : Nat} {v : Nat → Nat} {b q : Nat} (h : v q ≠ 0) : maxOn (partSpot F k v) b (q + 1) = max (maxOn (partSpot F k v) b q) (F k q) := by rw [maxOn, partSpot, if_neg h]
theorem partSpot_stay {F : Nat → Nat → Nat} {k : Nat} {v : Nat → Nat} {b q : Nat} (h : v q = 0) : maxOn (partSpot F k v) b (q + 1) = maxOn (partSpot F k v) b q := by rw [maxOn, partSpot, if_pos h]; omega
theorem partSpot_end {F : Nat → Nat → Nat} {k : Nat} {v : Nat → Nat} {b n : Nat} (hn : n ≤ 10) (hv : ∀ j, n < j → v j = 0) : maxOn (partSpot F k v) b 11 = maxOn (partSpot F k v) b (n + 1) :=
  maxOn_none (by omega) (fun i h1 _ => by unfold partSpot; rw [if_pos (hv i (by omega))])

/-- impl.tracer.ofPart does what it should at a part and a place. -/
def StrPartOk (P : List (List (List Int))) (ws : List Int) (w0 : World) (bT : Nat) (aP : Option Addr) (cP : Nat) (aw : Option Addr) (cw : Nat) (k i : Nat) : Prop :=
  ∀ (W : World) (K : Nat → Prop), TrIn P ws w0 bT aP cP aw cw K W → Calls Tryz.prog 95 #[.pointer (some ⟨bT, 0, none⟩), .int .i64 (k : Int), .int .i64 (i : Int)] W fun e w' => e = .returned (aggV (strV (farP P ws k i) (way P ws k i))) ∧ Hid (∃ K', TrIn P ws w0 bT aP cP aw cw K' w' ∧ ∀ b, K' b → K b ∨ W.heap.size ≤ b) ∧ Within W w' (fun b => b = bT)
section
variable {P : List (List (List Int))} {ws : List Int} {w0 : World} {bT : Nat} {aP : Option Addr} {cP : Nat} {aw : Option Addr} {cw : Nat} {K : Nat → Prop}
set_option maxHeartbeats 4000000 in
set_option maxRecDepth 100000 in
theorem strPart_any (k fa : Nat) (v : Nat → Nat) (w : World) (hT : TrIn P ws w0 bT aP cP aw cw K w) (hn : ws.length ≤ 10) (hv : ∀ j, ws.length < j → v j = 0)
    (hpart : ∀ j, j ≤ ws.length → v j ≠ 0 → StrPartOk P ws w0 bT aP cP aw cw k j) :
    Calls Tryz.prog 76 #[.pointer (some ⟨bT, 0, none⟩), aggV (strV fa v), .int .i64 (k : Int)] w fun e w' => e = .returned (aggV (strV (maxOn (partSpot (farP P ws) k v) fa (ws.length + 1)) (partNx ws.length (way P ws k) v))) ∧ Hid (∃ K', TrIn P ws w0 bT aP cP aw cw K' w' ∧ ∀ b, K' b → K b ∨ w.heap.size ≤ b) ∧ Within w w' (fun b => b = bT) := by
  have HT : Hid (TrIn P ws w0 bT aP cP aw cw K w) := hT
  have hbl := hT.lt
  have hb0 := hT.low.size
  have HKB : Hid (∀ b, K b → b < w.heap.size) := fun b e => (hT.kb b e).2.2
  have HV : Hid (∀ j, ws.length < j → v j = 0) := hv
  have HPA : Hid (∀ j, j < 11 → v j ≠ 0 → ∀ (W : World) (K : Nat → Prop), TrIn P ws w0 bT aP cP aw cw K W → Calls Tryz.prog 95 #[.pointer (some ⟨bT, 0, none⟩), .int .i64 (k : Int), .int .i64 (j : Int)] W fun e w' => e = .returned (aggV (strV (farP P ws k j) (way P ws k j))) ∧ Hid (∃ K', TrIn P ws w0 bT aP cP aw cw K' w' ∧ ∀ b, K' b → K b ∨ W.heap.size ≤ b) ∧ Within W w' (fun b => b = bT)) := fun j _ h => hpart j (by by_cases e : j ≤ ws.length; exact e; exact absurd (hv j (by omega)) h) h
  have HEND : Hid (strV (maxOn (partSpot (farP P ws) k v) fa 11) (partTo8 (way P ws k) v 11) = strV (maxOn (partSpot (farP P ws) k v) fa (ws.length + 1)) (partNx ws.length (way P ws k) v)) := by
    show _ = _
    rw [partSpot_end hn hv, strV_congr (fun j _ => partTo8_end hn hv j)]
  obtain ⟨R, HR⟩ : ∃ R, Hid (aggV (strV (maxOn (partSpot (farP P ws) k v) fa (ws.length + 1)) (partNx ws.length (way P ws k) v)) = R) := ⟨_, rfl⟩
  rw [HR.out]
  have HEND2 : Hid (aggV (strV (maxOn (partSpot (farP P ws) k v) fa 11) (partTo8 (way P ws k) v 11)) = R) := by show _ = _; rw [HEND.out]; exact HR.out
  clear hT hpart hv HR HEND
  go_enter Tryz.func76, Tryz.ntmps76
  go_wp2_with (first
    | (refine wpList_boxS rfl _ rfl fa v rfl ?_; intro w1 hB1 hb1 hs1; have l1 : w.heap.size < w1.heap.size := (by omega); clear hs1)
    | (refine wpList_allocS (w := w1) rfl rfl ?_; intro w2 hA2 hb2 hs2; have l2 : w1.heap.size < w2.heap.size := (by omega); clear hs2; have q2 := (hB1.later hb2).far)
    | (refine wpList_str1 rfl _ rfl fa rfl ?_)
    | (refine wpList_allocS (w := w2) rfl rfl ?_; intro w3 hA3 hb3 hs3; clear hs3)
    | (refine wpList_storeS rfl _ _ rfl w2.heap.size 0 (fun _ => 0) fa (fun _ => 0) rfl rfl hA3 ?_; intro w4 hS4 hg4; have g4 : Below w.heap.size w w4 := (((hb1.trans (hb2.mono hb1.size)).trans (hb3.mono (Nat.le_trans hb1.size hb2.size))).grown hg4 (by have := hb1.size; have := hb2.size; have := hb3.size; omega) (fun k e => by cases e; have := hb1.size; have := hb2.size; omega)); have HBk : Hid (Str w4 w.heap.size fa v) := (hB1.later (hb2.trans (hb3.mono hb2.size))).grown hg4 (fun e => by have := Option.some.inj e; omega))
    | (refine wpList_endsV rfl _ rfl w.heap.size fa v rfl HBk.out ?_))
  have HS0 : Hid (Str w4 w2.heap.size (maxOn (partSpot (farP P ws) k v) fa 0) (partTo8 (way P ws k) v 0)) := hS4
  have HA4 : Hid (Str w4 w1.heap.size 0 (fun _ => 0)) := (hA2.later hb3).grown hg4 (fun e => by have := Option.some.inj e; omega)
  have hRS : w1.heap.size < w2.heap.size := l2
  have hR0 : w.heap.size < w1.heap.size := l1
  have hSl : w2.heap.size < w4.heap.size := hS4.lt
  have HB4 : Hid (Below w.heap.size w w4) := g4
  have HT4 : Hid (TrIn P ws w0 bT aP cP aw cw K w4) := HT.out.later g4
  have HG0 : Hid (Within w4 w4 (fun b => b = bT ∨ b = w2.heap.size)) := Within.refl _ _
  clear hB1 hb1 hA2 hb2 hA3 hb3 hS4 hg4 g4 q2 l1 l2 HBk HT
  generalize w2.heap.size = nS at *
  generalize w1.heap.size = nR at *
  have HL : Hid ((eB v).length = 11) := eB_length v
  have HU : Hid (∀ q, q < 11 → (eB v).getD q false = decide (v q ≠ 0)) := fun q hq => by rw [List.getD_eq_getElem?_getD, List.getElem?_eq_getElem (by rw [eB_length]; exact hq), eB_get v hq]; rfl
  obtain ⟨l, hl⟩ : ∃ l, Hid (eB v = l) := ⟨_, rfl⟩
  rw [hl.out] at HU HL ⊢
  clear hl
  go_loopw [15] (fun s15 wr => ∃ q : Nat, q ≤ 11 ∧ s15 = .int .i64 (q : Int) ∧ Hid (Str wr nS (maxOn (partSpot (farP P ws) k v) fa q) (partTo8 (way P ws k) v q)) ∧ Hid (Within w4 wr (fun b => b = bT ∨ b = nS)) ∧ Hid (∃ K', TrIn P ws w0 bT aP cP aw cw K' wr ∧ ∀ b, K' b → K b ∨ w4.heap.size ≤ b)) (fun s15 _ => 11 - (intOf s15).toNat)
  case atStart => exact ⟨0, Nat.zero_le _, rfl, HS0, HG0, ⟨K, HT4.out, fun b e => .inl e⟩⟩
  case round =>
    obtain ⟨q, hq, rfl, HSq, HGq, HKq⟩ := hrel
    obtain ⟨wA, hwA⟩ : ∃ y, y = wr := ⟨_, rfl⟩
    subst hwA
    clear HS0 HG0
    by_cases hlt : q < 11
    · have hqI : (q : Int) < 11 := by omega
      have HUq := HU.out q hlt
      by_cases hvq : v q = 0
      · rw [show decide (v q ≠ 0) = false by simp [hvq]] at HUq
        have HUh : Hid (l.getD q false = false) := HUq
        have HN : Hid (Str wA nS (maxOn (partSpot (farP P ws) k v) fa (q + 1)) (partTo8 (way P ws k) v (q + 1))) := by rw [partSpot_stay hvq]; exact HSq.out.congr (fun j _ => partTo8_stay hvq j)
        clear HSq HUq hvq
        go_wp2_with (refine wpList_indexB rfl 90 4 _ _ rfl l q rfl rfl (by rw [HL.out]; exact u_places) u_bool bool_size (by rw [HL.out]; exact hlt) ?_; rw [HUh.out])
        go_roundw
        case rel => exact ⟨q + 1, by omega, by go_num, HN, HGq, HKq⟩
        case measure => simp [intOf]; omega
      · rw [show decide (v q ≠ 0) = true by simp [hvq]] at HUq
        have HUh : Hid (l.getD q false = true) := HUq
        obtain ⟨K1, hT1, hK1⟩ := HKq.out
        have X := HPA.out q hlt hvq wA K1 hT1
        have HK1 : Hid (∀ b, K1 b → K b ∨ w4.heap.size ≤ b) := hK1
        have HNX : Hid (∀ w7, Str w7 nS (max (maxOn (partSpot (farP P ws) k v) fa q) (farP P ws k q)) (fun j => partTo8 (way P ws k) v q j + way P ws k q j) → Str w7 nS (maxOn (partSpot (farP P ws) k v) fa (q + 1)) (partTo8 (way P ws k) v (q + 1))) := fun w7 h => by rw [partSpot_step hvq]; exact h.congr (fun j _ => partTo8_put hvq j)
        clear HKq hK1 hT1 HUq hvq
        generalize farP P ws k q = f at *
        generalize way P ws k q = u at *
        go_wp2_with (first
          | (refine wpList_indexB rfl 90 4 _ _ rfl l q rfl rfl (by rw [HL.out]; exact u_places) u_bool bool_size (by rw [HL.out]; exact hlt) ?_; rw [HUh.out])
          | (go_at_call 95; refine X.mono ?_; rintro e w6 ⟨rfl, HK6, hW6⟩; have hS6 := HSq.out.kept (hW6.block nS HSq.out.lt (by omega)))
          | (go_at_call 94; refine (strJoin_any nS _ f _ u w6 hS6).mono ?_; rintro e w7 ⟨rfl, hS7, hg7⟩))
        obtain ⟨K2, hT2, hK2⟩ := HK6.out
        have hWn : Within w6 w7 (fun b => b = nS) := Within.of_grown hg7 (fun k e => by cases e; rfl)
        have hszA := HGq.out.size
        have hNS : ¬ K2 nS := fun e => by
          rcases hK2 nS e with e | e
          · rcases HK1.out nS e with e | e
            · have := HKB.out nS e; omega
            · omega
          · omega
        have HKn : Hid (∃ K', TrIn P ws w0 bT aP cP aw cw K' w7 ∧ ∀ b, K' b → K b ∨ w4.heap.size ≤ b) := ⟨K2, hT2.kept hWn (fun b e => by subst e; exact ⟨by omega, by omega, hNS⟩), fun b e => by
          rcases hK2 b e with e | e
          · exact HK1.out b e
          · right; omega⟩
        have HSn : Hid (Str w7 nS (maxOn (partSpot (farP P ws) k v) fa (q + 1)) (partTo8 (way P ws k) v (q + 1))) := HNX.out w7 hS7
        have HGn : Hid (Within w4 w7 (fun b => b = bT ∨ b = nS)) := (HGq.out.trans (hW6.mono (fun b e => .inl e))).trans (hWn.mono (fun b e => .inr e))
        clear hT2 hK2 hS6 hS7 hg7 hW6 hWn X HK6 HNX
        go_wp2
        go_roundw
        case rel => exact ⟨q + 1, by omega, by go_num, HSn, HGn, HKn⟩
        case measure => simp [intOf]; omega
    · have e : q = 11 := by omega
      subst e
      have HAr : Hid (Str wA nR 0 (fun _ => 0)) := HA4.out.kept (HGq.out.block _ HA4.out.lt (by omega))
      clear HU HPA HA4
      generalize maxOn (partSpot (farP P ws) k v) fa 11 = m at *
      generalize partTo8 (way P ws k) v 11 = u at *
      go_wp2_with (first | (refine wpList_loadS rfl _ rfl nS m u rfl HSq.out ?_) | (refine wpList_storeS rfl _ _ rfl nR 0 (fun _ => 0) m u rfl rfl HAr.out ?_; intro w6 hS6 hg6))
      obtain ⟨K2, hT2, hK2⟩ := HKq.out
      have hWn : Within wA w6 (fun b => b = nR) := Within.of_grown hg6 (fun k e => by cases e; rfl)
      have hNR : ¬ K2 nR := fun e => by
        rcases hK2 nR e with e | e
        · have := HKB.out nR e; omega
        · omega
      have hs4 := HB4.out.size
      exact bodyPost_ret (v := aggV (strV m u)) (ret_cellS rfl rfl hS6) rfl ⟨by rw [HEND2.out], ⟨K2, hT2.kept hWn (fun b e => by subst e; exact ⟨by omega, by omega, hNR⟩), fun b e => (hK2 b e).imp id (fun h => by omega)⟩, ((Within.of_below HB4.out (fun b => b = bT)).comp HGq.out (fun b e => by rcases e with e | e; exact .inl e; exact .inr (by omega))).comp hWn (fun b e => .inr (by omega))⟩
end
end Go.Proofs.YthnppodnjokaoaaGreatDoor
