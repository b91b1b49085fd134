/-
  Contracts and plain mathematics, joined: StrRow, StrOf, TrFar. No statement is proved here.
-/
import Derived.Test.YthnppodnjokaoaaGreatDoorG20
import Derived.Test.YthnppodnjokaoaaGreatDoorG14
import Derived.WalkMore
import Derived.Test.YthnppodnjokaoaaGreatDoorG13
namespace Go.Proofs.YthnppodnjokaoaaGreatDoor
open Go.RowKit

theorem eq_places {w : World} {cs bs : List Bool} (h1 : cs.length = 11) (h2 : bs.length = 11) : (Op.equalIn 10000 90 (aggB cs) (aggB bs)).run Tryz.prog w = .ok (decide (cs = bs)) w := run_eq_flags 9998 u_places u_bool bool_size h1 h2
theorem farAt_le {w : List Int} {W : Nat → Nat → Nat → Nat} {F : Nat → Nat → Nat} {i : Nat} {row : List Int} (hi : i ≤ w.length) (hF : ∀ k j, j ≤ w.length → F k j ≤ w.length) (s : Nat) : farAt w W F i row s ≤ w.length :=
  maxOn_le (farPre_le hi hF s) (fun j hj => by unfold there; split <;> omega)
section
variable {P : List (List (List Int))} {ws : List Int} {w0 : World} {bT : Nat} {aP : Option Addr} {cP : Nat} {aw : Option Addr} {cw : Nat} {K : Nat → Prop}
theorem str_fin {row : List Int} {i s : Nat} (hi : i ≤ ws.length) (hs : s ≤ row.length) (h : s = row.length ∨ eB (rowNx ws (way P ws) (deltaV i) (row.take s)) = List.replicate 11 false) (hn : ws.length ≤ 10) :
    strV (farAt ws (way P ws) (farP P ws) i row s) (rowNx ws (way P ws) (deltaV i) (row.take s)) = strV (farRow ws (way P ws) (farP P ws) i row) (rowNx ws (way P ws) (deltaV i) row) := by
  rcases h with rfl | h
  · rw [farAt_all, List.take_length]
  · have hz := eB_dead.1 h
    have hz' : ∀ j, j ≤ ws.length → rowNx ws (way P ws) (deltaV i) (row.take s) j = 0 := fun j hj => hz j (by omega)
    have e1 : farAt ws (way P ws) (farP P ws) i row s = farRow ws (way P ws) (farP P ws) i row := by
      rw [← farAt_all, ← farAt_dead hz' (row.length - s)]
      congr 1; omega
    have e2 : eB (rowNx ws (way P ws) (deltaV i) (row.take s)) = eB (rowNx ws (way P ws) (deltaV i) row) := eB_congr (fun j hj => by
      have h1 := hz j hj
      have h2 : rowNx ws (way P ws) (deltaV i) row j = 0 := by
        by_cases e : j ≤ ws.length
        · have := rowNx_dead_at hz' row.length hs j e
          rwa [List.take_length] at this
        · exact rowNx_out (fun k i j => way_out k i j) (fun j => deltaV_out hi) j (by omega)
      rw [h1, h2])
    unfold strV
    rw [e1, e2]
set_option maxHeartbeats 8000000 in
set_option maxRecDepth 100000 in
theorem strRow_any (row : List Int) (ar : Option Addr) (cr i : Nat) (w : World) (hT : TrIn P ws w0 bT aP cP aw cw K w) (hws : Reads w0 aw ws) (hr : Reads w ar row) (hrb : ∀ b off, row ≠ [] → ar = some ⟨b, off, none⟩ → b ≠ bT) (hrl : row.length ≤ 1048576) (hn : ws.length ≤ 10) (hi : i ≤ ws.length) (hrow : ∀ x ∈ row, symOk P.length x = true) (F : Fits P) (hL : NoLoop P)
    (hpart : ∀ s (hs : s < row.length), 100 ≤ row[s] → ∀ j, j ≤ ws.length → rowNx ws (way P ws) (deltaV i) (row.take s) j ≠ 0 → StrPartOk P ws w0 bT aP cP aw cw (row[s] - 100).toNat j) :
    Calls Tryz.prog 62 #[.pointer (some ⟨bT, 0, none⟩), .slice ar row.length cr, .int .i64 (i : Int)] w fun e w' => e = .returned (aggV (strV (farRow ws (way P ws) (farP P ws) i row) (rowNx ws (way P ws) (deltaV i) row))) ∧ Hid (∃ K', TrIn P ws w0 bT aP cP aw cw K' w' ∧ ∀ b, K' b → K b ∨ w.heap.size ≤ b) ∧ Within w w' (fun b => b = bT) := by
  have HT : Hid (TrIn P ws w0 bT aP cP aw cw K w) := hT
  have HWS : Hid (Reads w0 aw ws) := hws
  have HRD : Hid (Reads w ar row) := hr
  have HRB : Hid (∀ b off, row ≠ [] → ar = some ⟨b, off, none⟩ → b ≠ bT) := hrb
  have hbl := hT.lt
  have hb0 := hT.low.size
  have HKB : Hid (∀ b, K b → b < w.heap.size) := fun b e => (hT.kb b e).2.2
  have HSY : Hid (∀ x ∈ row, symOk P.length x = true) := hrow
  have HPA : Hid (∀ s (hs : s < row.length), 100 ≤ row[s] → ∀ j, j ≤ ws.length → rowNx ws (way P ws) (deltaV i) (row.take s) j ≠ 0 → StrPartOk P ws w0 bT aP cP aw cw (row[s] - 100).toNat j) := hpart
  have HOUT : Hid (∀ s j, ws.length < j → rowNx ws (way P ws) (deltaV i) (row.take s) j = 0) := fun s j hj => rowNx_out (fun k i j => way_out k i j) (fun j => deltaV_out hi) j hj
  have HLE : Hid (∀ s, farAt ws (way P ws) (farP P ws) i row s ≤ ws.length) := fun s => farAt_le hi (fun k j hj => farP_le P ws k j hj) s
  have HFIN : Hid (∀ s, s ≤ row.length → (s = row.length ∨ eB (rowNx ws (way P ws) (deltaV i) (row.take s)) = List.replicate 11 false) → aggV (strV (farAt ws (way P ws) (farP P ws) i row s) (rowNx ws (way P ws) (deltaV i) (row.take s))) = aggV (strV (farRow ws (way P ws) (farP P ws) i row) (rowNx ws (way P ws) (deltaV i) row))) := fun s hs h => by rw [str_fin hi hs h hn]
  have HLT : Hid (∀ s (hs : s < row.length), row[s] < 100 → farAt ws (way P ws) (farP P ws) i row (s + 1) = maxOn (letSpot ws row[s] (rowNx ws (way P ws) (deltaV i) (row.take s))) (farAt ws (way P ws) (farP P ws) i row s) ws.length ∧ rowNx ws (way P ws) (deltaV i) (row.take (s + 1)) = letNx ws row[s] (rowNx ws (way P ws) (deltaV i) (row.take s))) := fun s hs h => ⟨farAt_letter hs h, by rw [rowNx_step hs]; unfold stepNx; rw [if_pos h]⟩
  have HPT : Hid (∀ s (hs : s < row.length), 100 ≤ row[s] → farAt ws (way P ws) (farP P ws) i row (s + 1) = maxOn (partSpot (farP P ws) (row[s] - 100).toNat (rowNx ws (way P ws) (deltaV i) (row.take s))) (farAt ws (way P ws) (farP P ws) i row s) (ws.length + 1) ∧ rowNx ws (way P ws) (deltaV i) (row.take (s + 1)) = partNx ws.length (way P ws (row[s] - 100).toNat) (rowNx ws (way P ws) (deltaV i) (row.take s))) := fun s hs h => ⟨farAt_part hs h (fun j hj j' hne => way_far F hL hj hne), by rw [rowNx_step hs]; unfold stepNx; rw [if_neg (by omega)]⟩
  have HST : Hid (i = farAt ws (way P ws) (farP P ws) i row 0) := farAt_zero.symm
  obtain ⟨R, HR⟩ : ∃ R, Hid (aggV (strV (farRow ws (way P ws) (farP P ws) i row) (rowNx ws (way P ws) (deltaV i) row)) = R) := ⟨_, rfl⟩
  rw [HR.out] at HFIN ⊢
  clear hT hws hr hrb hpart hrow HR
  have hi11 : i < 11 := by omega
  go_enter Tryz.func62, Tryz.ntmps62
  go_wp2_with (refine wpList_allocS (w := w) rfl rfl ?_; intro w1 hA1 hb1 hs1)
  have l1 : w.heap.size < w1.heap.size := by omega
  clear hs1
  go_step3
  go_wp2_with (first
    | (refine wpList_str1 rfl _ rfl i rfl ?_)
    | (refine wpList_allocS (w := w1) rfl rfl ?_; intro w2 hA2 hb2 hs2; clear hs2)
    | (refine wpList_storeS rfl _ _ rfl w1.heap.size 0 (fun _ => 0) i (fun _ => 0) rfl rfl hA2 ?_; intro w3 hS3 hg3; have q3 := hS3.end hi11; have f3 := hS3.frozen (1 + i)))
  have g3 : Below w.heap.size w w3 := (hb1.trans (hb2.mono hb1.size)).grown hg3 (by have := hb1.size; have := hb2.size; omega) (fun k e => by cases e; omega)
  have HA3 : Hid (Str w3 w.heap.size 0 (fun _ => 0)) := (hA1.later hb2).grown hg3 (fun e => by have := Option.some.inj e; omega)
  have hS4 := (hS3.setE (j := i) true).congr (u := rowNx ws (way P ws) (deltaV i) (row.take 0)) (fun j _ => by
    show _ ↔ deltaV i j ≠ 0
    unfold deltaV; by_cases e : j = i <;> simp [e])
  have hW4 : Within w3 (w3.setCell ⟨w1.heap.size, 1 + i, none⟩ (.bool true)) (fun b => b = w1.heap.size) := set_within _ _ _ _ rfl
  have hB4 : Below w.heap.size w (w3.setCell ⟨w1.heap.size, 1 + i, none⟩ (.bool true)) := hW4.below g3 (fun b e => by omega)
  have HA4 : Hid (Str (w3.setCell ⟨w1.heap.size, 1 + i, none⟩ (.bool true)) w.heap.size 0 (fun _ => 0)) := HA3.out.kept (hW4.block _ HA3.out.lt (by omega))
  have HS4 : Hid (Str (w3.setCell ⟨w1.heap.size, 1 + i, none⟩ (.bool true)) w1.heap.size (farAt ws (way P ws) (farP P ws) i row 0) (rowNx ws (way P ws) (deltaV i) (row.take 0))) := by rw [← HST.out]; exact hS4
  have HB4 : Hid (Below w.heap.size w (w3.setCell ⟨w1.heap.size, 1 + i, none⟩ (.bool true))) := hB4
  have hSl : w1.heap.size < (w3.setCell ⟨w1.heap.size, 1 + i, none⟩ (.bool true)).heap.size := hS4.lt
  clear hA1 hb1 hA2 hb2 hS3 hg3 g3 HA3 hS4 hW4 hB4 q3 f3 HST
  generalize w3.setCell ⟨w1.heap.size, 1 + i, none⟩ (.bool true) = w4 at *
  have hRS : w.heap.size < w1.heap.size := l1
  clear l1
  generalize w1.heap.size = nS at *
  have HT4 : Hid (TrIn P ws w0 bT aP cP aw cw K w4) := HT.out.later HB4.out
  have HG0 : Hid (Within w4 w4 (fun b => b = bT ∨ b = nS)) := Within.refl _ _
  clear HT
  go_step3
  go_wp2
  go_loopw [17] (fun s17 wr => ∃ s : Nat, s ≤ row.length ∧ s17 = .int .i64 (s : Int) ∧ Hid (Str wr nS (farAt ws (way P ws) (farP P ws) i row s) (rowNx ws (way P ws) (deltaV i) (row.take s))) ∧ Hid (Within w4 wr (fun b => b = bT ∨ b = nS)) ∧ Hid (∃ K', TrIn P ws w0 bT aP cP aw cw K' wr ∧ ∀ b, K' b → K b ∨ w4.heap.size ≤ b)) (fun s17 _ => row.length - (intOf s17).toNat)
  case atStart => exact ⟨0, Nat.zero_le _, rfl, HS4, HG0, ⟨K, HT4.out, fun b e => .inl e⟩⟩
  case round =>
    obtain ⟨s, hs, rfl, HSq, HGq, HKq⟩ := hrel
    obtain ⟨wA, hwA⟩ : ∃ y, y = wr := ⟨_, rfl⟩
    subst hwA
    clear HS4 HG0
    have HAr : Hid (Str wA w.heap.size 0 (fun _ => 0)) := HA4.out.kept (HGq.out.block _ HA4.out.lt (by omega))
    have HENDW : Hid (∀ (m : Nat) (u : Nat → Nat) (w6 : World), aggV (strV m u) = R → wA.grownBy w6 (some w.heap.size) → (aggV (strV m u) = R) ∧ Hid (∃ K', TrIn P ws w0 bT aP cP aw cw K' w6 ∧ ∀ b, K' b → K b ∨ w.heap.size ≤ b) ∧ Within w w6 (fun b => b = bT)) := fun m u w6 hR hg6 => by
      obtain ⟨K2, hT2, hK2⟩ := HKq.out
      have hs4 := HB4.out.size
      have hWn : Within wA w6 (fun b => b = w.heap.size) := Within.of_grown hg6 (fun k e => by cases e; rfl)
      have hNR : ¬ K2 w.heap.size := fun e => by
        rcases hK2 _ e with e | e
        · have := HKB.out _ e; omega
        · omega
      exact ⟨hR, ⟨K2, hT2.kept hWn (fun b e => by subst e; exact ⟨by omega, by omega, hNR⟩), fun b e => (hK2 b e).imp id (fun h => by omega)⟩, ((Within.of_below HB4.out (fun b => b = bT)).comp HGq.out (fun b e => by rcases e with e | e; exact .inl e; exact .inr (by omega))).comp hWn (fun b e => .inr (by omega))⟩
    by_cases hlt : s < row.length
    · obtain ⟨K1, hT1, hK1⟩ := HKq.out
      obtain ⟨br, ofr, rfl, hbr, hcell⟩ := HRD.out.at hlt
      have hbrT : br ≠ bT := HRB.out br ofr (fun e => by rw [e] at hlt; simp at hlt) rfl
      have hbr4 : br < w4.heap.size := Nat.lt_of_lt_of_le hbr HB4.out.size
      have qr0 := (blk_cell (o := ofr + s) (HGq.out.block br hbr4 (fun e => e.elim hbrT (fun e => by omega)))).trans ((HB4.out.cell (p := ⟨br, ofr + s, none⟩) hbr).trans (hcell s hlt))
      rw [List.getD_eq_getElem?_getD, List.getElem?_eq_getElem hlt, Option.getD_some] at qr0
      have hsI : (s : Int) < (row.length : Int) := by omega
      by_cases hd : eB (rowNx ws (way P ws) (deltaV i) (row.take s)) = List.replicate 11 false
      · have HF : Hid (aggV (strV (farAt ws (way P ws) (farP P ws) i row s) (rowNx ws (way P ws) (deltaV i) (row.take s))) = R) := HFIN.out s hs (.inr hd)
        have HD : Hid (eB (rowNx ws (way P ws) (deltaV i) (row.take s)) = List.replicate 11 false) := hd
        clear HPT HLT HFIN HPA hcell hd hT1 hK1
        generalize row[s] = z at *
        generalize farAt ws (way P ws) (farP P ws) i row s = m at *
        generalize rowNx ws (way P ws) (deltaV i) (row.take s) = v at *
        go_wp2_with (first
          | (refine wpList_endsV rfl _ rfl nS m v rfl HSq.out ?_)
          | (refine wpList_places0 rfl rfl ?_)
          | (refine wpList_eqlB rfl 90 _ _ _ rfl (eB v) (List.replicate 11 false) rfl rfl (by kernel_rfl) (eq_places (eB_length v) rfl) ?_; rw [decide_eq_true HD.out])
          | (refine wpList_loadS rfl _ rfl nS m v rfl HSq.out ?_)
          | (refine wpList_storeS rfl _ _ rfl w.heap.size 0 (fun _ => 0) m v rfl rfl HAr.out ?_; intro w6 hS6 hg6))
        have HZ := HENDW.out m v w6 HF.out hg6
        rw [Exit.noGoto_ret]
        exact bodyPost_ret (v := aggV (strV m v)) (ret_cellS rfl rfl hS6) rfl ⟨by rw [HZ.1], HZ.2⟩
      · have HD : Hid (¬ eB (rowNx ws (way P ws) (deltaV i) (row.take s)) = List.replicate 11 false) := hd
        have hsy := symOk_true.1 (HSY.out row[s] (List.getElem_mem hlt))
        have hle := HLE.out s
        have HO := HOUT.out s
        have HOh : Hid (∀ j, ws.length < j → rowNx ws (way P ws) (deltaV i) (row.take s) j = 0) := HO
        have HK1 : Hid (∀ b, K1 b → K b ∨ w4.heap.size ≤ b) := hK1
        have HT1 : Hid (TrIn P ws w0 bT aP cP aw cw K1 wA) := hT1
        have hszA := HGq.out.size
        by_cases hz : row[s] < 100
        · have HN := HLT.out s hlt hz
          have hin : inB row[s] 0 25 = true := by rw [inB_true]; omega
          have HNh : Hid (farAt ws (way P ws) (farP P ws) i row (s + 1) = maxOn (letSpot ws row[s] (rowNx ws (way P ws) (deltaV i) (row.take s))) (farAt ws (way P ws) (farP P ws) i row s) ws.length ∧ rowNx ws (way P ws) (deltaV i) (row.take (s + 1)) = letNx ws row[s] (rowNx ws (way P ws) (deltaV i) (row.take s))) := HN
          clear HPT HLT HFIN HPA hcell hd hT1 hK1 HN HO hsy HENDW HKq
          generalize row[s] = z at *
          generalize farAt ws (way P ws) (farP P ws) i row s = m at *
          generalize rowNx ws (way P ws) (deltaV i) (row.take s) = v at *
          have X := strLetter_any z m v wA HT1.out HWS.out hn (by omega)
          go_wp2_with (first
            | (refine wpList_endsV rfl _ rfl nS m v rfl HSq.out ?_)
            | (refine wpList_places0 rfl rfl ?_)
            | (refine wpList_eqlB rfl 90 _ _ _ rfl (eB v) (List.replicate 11 false) rfl rfl (by kernel_rfl) (eq_places (eB_length v) rfl) ?_; rw [decide_eq_false HD.out])
            | (go_at_call 71; refine (isLetter_any _ _).mono ?_; rintro e w5 ⟨rfl, h5⟩; replace h5 := h5.symm; subst h5; rw [hin])
            | (refine wpList_loadS (w := wA) rfl _ rfl nS m v rfl HSq.out ?_)
            | (go_at_call 75; refine X.mono ?_; rintro e w6 ⟨rfl, hb6⟩; have hS6 := HSq.out.later hb6)
            | (refine wpList_storeS rfl _ _ rfl nS m v (maxOn (letSpot ws z v) m ws.length) (letNx ws z v) rfl rfl hS6 ?_; intro w7 hS7 hg7))
          have hWn : Within w6 w7 (fun b => b = nS) := Within.of_grown hg7 (fun k e => by cases e; rfl)
          have hNS : ¬ K1 nS := fun e => by
            rcases HK1.out nS e with e | e
            · have := HKB.out nS e; omega
            · omega
          have HKn : Hid (∃ K', TrIn P ws w0 bT aP cP aw cw K' w7 ∧ ∀ b, K' b → K b ∨ w4.heap.size ≤ b) := ⟨K1, (HT1.out.later hb6).kept hWn (fun b e => by subst e; exact ⟨by omega, by omega, hNS⟩), HK1.out⟩
          have HSn : Hid (Str w7 nS (farAt ws (way P ws) (farP P ws) i row (s + 1)) (rowNx ws (way P ws) (deltaV i) (row.take (s + 1)))) := by rw [HNh.out.1, HNh.out.2]; exact hS7
          have HGn : Hid (Within w4 w7 (fun b => b = bT ∨ b = nS)) := (HGq.out.trans (Within.of_below hb6 _)).trans (hWn.mono (fun b e => .inr e))
          clear hS6 hS7 hg7 hWn X HNh hb6
          go_wp2
          go_roundw
          case rel => exact ⟨s + 1, by omega, by go_num, HSn, HGn, HKn⟩
          case measure => simp [intOf]; omega
        · have hz' : 100 ≤ row[s] := by omega
          have HN := HPT.out s hlt hz'
          have hin : inB row[s] 0 25 = false := by
            cases e : inB row[s] 0 25
            · rfl
            · rw [inB_true] at e; omega
          have HNh : Hid (farAt ws (way P ws) (farP P ws) i row (s + 1) = maxOn (partSpot (farP P ws) (row[s] - 100).toNat (rowNx ws (way P ws) (deltaV i) (row.take s))) (farAt ws (way P ws) (farP P ws) i row s) (ws.length + 1) ∧ rowNx ws (way P ws) (deltaV i) (row.take (s + 1)) = partNx ws.length (way P ws (row[s] - 100).toNat) (rowNx ws (way P ws) (deltaV i) (row.take s))) := HN
          have X := strPart_any (row[s] - 100).toNat (farAt ws (way P ws) (farP P ws) i row s) (rowNx ws (way P ws) (deltaV i) (row.take s)) wA HT1.out hn HOh.out (HPA.out s hlt hz')
          rw [part_nat hz'] at X
          have hzI : row[s] ≤ 119 + 1048576 := by have := F.parts; omega
          clear HPT HLT HFIN HPA hcell hd hT1 hK1 HN HO hsy HENDW HKq
          generalize maxOn (partSpot (farP P ws) (row[s] - 100).toNat (rowNx ws (way P ws) (deltaV i) (row.take s))) (farAt ws (way P ws) (farP P ws) i row s) (ws.length + 1) = m2 at *
          generalize partNx ws.length (way P ws (row[s] - 100).toNat) (rowNx ws (way P ws) (deltaV i) (row.take s)) = v2 at *
          generalize row[s] = z at *
          generalize farAt ws (way P ws) (farP P ws) i row s = m at *
          generalize rowNx ws (way P ws) (deltaV i) (row.take s) = v at *
          go_wp2_with (first
            | (refine wpList_endsV rfl _ rfl nS m v rfl HSq.out ?_)
            | (refine wpList_places0 rfl rfl ?_)
            | (refine wpList_eqlB rfl 90 _ _ _ rfl (eB v) (List.replicate 11 false) rfl rfl (by kernel_rfl) (eq_places (eB_length v) rfl) ?_; rw [decide_eq_false HD.out])
            | (go_at_call 71; refine (isLetter_any _ _).mono ?_; rintro e w5 ⟨rfl, h5⟩; replace h5 := h5.symm; subst h5; rw [hin])
            | (refine wpList_loadS (w := wA) rfl _ rfl nS m v rfl HSq.out ?_)
            | (go_at_call 76; refine X.mono ?_; rintro e w6 ⟨rfl, HK6, hW6⟩; have hS6 := HSq.out.kept (hW6.block nS HSq.out.lt (by omega)))
            | (refine wpList_storeS rfl _ _ rfl nS m v m2 v2 rfl rfl hS6 ?_; intro w7 hS7 hg7))
          obtain ⟨K2, hT2, hK2⟩ := HK6.out
          have hWn : Within w6 w7 (fun b => b = nS) := Within.of_grown hg7 (fun k e => by cases e; rfl)
          have hNS : ¬ K2 nS := fun e => by
            rcases hK2 nS e with e | e
            · rcases HK1.out nS e with e | e
              · have := HKB.out nS e; omega
              · omega
            · omega
          have HKn : Hid (∃ K', TrIn P ws w0 bT aP cP aw cw K' w7 ∧ ∀ b, K' b → K b ∨ w4.heap.size ≤ b) := ⟨K2, hT2.kept hWn (fun b e => by subst e; exact ⟨by omega, by omega, hNS⟩), fun b e => by
            rcases hK2 b e with e | e
            · exact HK1.out b e
            · right; omega⟩
          have HSn : Hid (Str w7 nS (farAt ws (way P ws) (farP P ws) i row (s + 1)) (rowNx ws (way P ws) (deltaV i) (row.take (s + 1)))) := by rw [HNh.out.1, HNh.out.2]; exact hS7
          have HGn : Hid (Within w4 w7 (fun b => b = bT ∨ b = nS)) := (HGq.out.trans (hW6.mono (fun b e => .inl e))).trans (hWn.mono (fun b e => .inr e))
          clear hS6 hS7 hg7 hWn X HNh hW6 hT2 hK2 HK6
          go_wp2
          go_roundw
          case rel => exact ⟨s + 1, by omega, by go_num, HSn, HGn, HKn⟩
          case measure => simp [intOf]; omega
    · have e : s = row.length := by omega
      have HF : Hid (aggV (strV (farAt ws (way P ws) (farP P ws) i row s) (rowNx ws (way P ws) (deltaV i) (row.take s))) = R) := HFIN.out s hs (.inl e)
      clear HPT HLT HFIN HPA e
      generalize farAt ws (way P ws) (farP P ws) i row s = m at *
      generalize rowNx ws (way P ws) (deltaV i) (row.take s) = v at *
      go_wp2_with (first
        | (refine wpList_loadS rfl _ rfl nS m v rfl HSq.out ?_)
        | (refine wpList_storeS rfl _ _ rfl w.heap.size 0 (fun _ => 0) m v rfl rfl HAr.out ?_; intro w6 hS6 hg6))
      have HZ := HENDW.out m v w6 HF.out hg6
      rw [Exit.noGoto_ret]
      exact bodyPost_ret (v := aggV (strV m v)) (ret_cellS rfl rfl hS6) rfl ⟨by rw [HZ.1], HZ.2⟩
end
end Go.Proofs.YthnppodnjokaoaaGreatDoor
namespace Go.Proofs.YthnppodnjokaoaaGreatDoor
open Go.RowKit

section
variable {Q8 : Program}
theorem exec_loadP {ρ : Operand → Value} {o : Oper} {w : World} {ty e : TypeId} {x : Operand} {p : Addr} {v : Value} (ho : o.op = .load ty x) (hx : ρ x = .pointer (some p)) (hu : Q8.underlying ty = some (.pointer e)) (hc : w.cell? p = some v) :
    (execOp ρ o).run Q8 w = .ok (.value v) w := by
  have hg : (isAgg ty).run Q8 w = .ok false w := by simp [isAgg, run_underlying hu]
  unfold execOp
  simp [ho, hx, Instr.loadAt, Instr.sureAddr, loadVar, hg, hc]
theorem exec_storeP {ρ : Operand → Value} {o : Oper} {w : World} {ty : TypeId} {x y : Operand} {p : Addr} {v u : Value} {u8 : Option Addr} (ho : o.op = .store ty x y) (hx : ρ x = .pointer (some p)) (hy : ρ y = .pointer u8) (hv : v = .pointer u8) (hz : (Q8.info? ty).map (·.size) = some 1) (hc : w.cell? p = some u) (hf : w.frozen? p = false) :
    (execOp ρ o).run Q8 w = .ok .skip (w.setCell p v) := by
  subst hv
  have hs : (sizeOf ty).run Q8 w = .ok 1 w := by
    cases hq : Q8.info? ty with
    | none => simp [hq] at hz
    | some j => simp [hq] at hz; simp [sizeOf, typeInfo, hq, hz]
  have hp : p.add 0 = p := by obtain ⟨b, o, e⟩ := p; simp [Addr.add]
  have hst : (store p (.pointer u8)).run Q8 w = .ok () (w.setCell p (.pointer u8)) := by rw [run_store Q8 w p (.pointer u8) _ rfl, hc]; simp [hf]
  unfold execOp
  simp [ho, hx, hy, Instr.storeAt, Instr.sureAddr, storeVar, hs, Value.cells, storeCells, hp, hst]
theorem wpList_loadP {ops : Array Oper} {rest : List Oper} {o : Oper} {a : Act} {w : World} {Q : Exit → Act → World → Prop} (hgd : Region.wanted o (yielded ops a.tmps) = true) (ty e : TypeId) (x : Operand) (ho : o.op = .load ty x) (p : Addr) (v : Value) (hx : a.eval x = .pointer (some p)) (hu : Q8.underlying ty = some (.pointer e)) (hc : w.cell? p = some v)
    (h : wpList Q8 ops Q rest (a.put o.dst v) w) : wpList Q8 ops Q (o :: rest) a w :=
  wpList_val hgd (exec_loadP ho hx hu hc) h
theorem wpList_storeP {ops : Array Oper} {rest : List Oper} {o : Oper} {a : Act} {w : World} {Q : Exit → Act → World → Prop} (hgd : Region.wanted o (yielded ops a.tmps) = true) (ty : TypeId) (x y : Operand) (ho : o.op = .store ty x y) (p : Addr) (u8 : Option Addr) (u : Value) (hx : a.eval x = .pointer (some p)) (hy : a.eval y = .pointer u8) (hz : (Q8.info? ty).map (·.size) = some 1) (hc : w.cell? p = some u) (hf : w.frozen? p = false)
    (h : wpList Q8 ops Q rest (a.put o.dst undef) (w.setCell p (.pointer u8))) : wpList Q8 ops Q (o :: rest) a w :=
  wpList_unit hgd (exec_storeP ho hx hy rfl hz hc hf) h
end
theorem u_pstr : Tryz.prog.underlying 51 = some (.pointer 92) := by kernel_rfl
theorem pstr_size : (Tryz.prog.info? 51).map (·.size) = some 1 := by kernel_rfl
/-- What the first alternatives lead to. -/
def altTo8 (f : Nat → Nat → Nat) (a : Nat) : Nat → Nat := fun j => sumTo (fun x => f x j) a
theorem altTo8_end {P : List (List (List Int))} {ws : List Int} (F : Fits P) (hL : NoLoop P) {k i : Nat} (hk : k < P.length) (hi : i ≤ ws.length) (j : Nat) : altTo8 (fun a => rowNx ws (way P ws) (deltaV i) (P[k].getD a [])) P[k].length j ≠ 0 ↔ way P ws k i j ≠ 0 := by
  rw [way_eq F hL hk hi]
  show sumTo (fun a => rowNx ws (way P ws) (deltaV i) (P[k].getD a []) j) P[k].length ≠ 0 ↔ capN (sumTo (fun a => rowNx ws (way P ws) (deltaV i) (P[k].getD a []) j) P[k].length) ≠ 0
  generalize sumTo (fun a => rowNx ws (way P ws) (deltaV i) (P[k].getD a []) j) P[k].length = y
  unfold capN
  omega
section
variable {P : List (List (List Int))} {ws : List Int} {w0 : World} {bT : Nat} {aP : Option Addr} {cP : Nat} {aw : Option Addr} {cw : Nat} {K : Nat → Prop}
set_option maxHeartbeats 8000000 in
set_option maxRecDepth 100000 in
theorem strOf_walk (k i : Nat) (w : World) (hT : TrIn P ws w0 bT aP cP aw cw K w) (hk : k < P.length) (hi : i ≤ ws.length) (hn : ws.length ≤ 10) (hp : P.length ≤ 20) (hp8 : P[k].length ≤ 8) (h0 : RD w0 (.slice aP P.length cP) (slD (Lay.list (Lay.list Lay.int)) P)) (fr : Nat → Nat) (nx : Nat → Nat → Nat)
    (hrow : ∀ a (ha : a < P[k].length) (W : World) (K : Nat → Prop) (ar : Option Addr) (cr : Nat), TrIn P ws w0 bT aP cP aw cw K W → RD w0 (.slice ar P[k][a].length cr) (slD Lay.int P[k][a]) → Calls Tryz.prog 62 #[.pointer (some ⟨bT, 0, none⟩), .slice ar P[k][a].length cr, .int .i64 (i : Int)] W fun e w' => e = .returned (aggV (strV (fr a) (nx a))) ∧ Hid (∃ K', TrIn P ws w0 bT aP cP aw cw K' w' ∧ ∀ b, K' b → K b ∨ W.heap.size ≤ b) ∧ Within W w' (fun b => b = bT))
    (heq : farP P ws k i = maxOn fr i P[k].length) (heq2 : ∀ j, altTo8 nx P[k].length j ≠ 0 ↔ way P ws k i j ≠ 0) :
    Calls Tryz.prog 95 #[.pointer (some ⟨bT, 0, none⟩), .int .i64 (k : Int), .int .i64 (i : Int)] w fun e w' => e = .returned (aggV (strV (farP P ws k i) (way P ws k i))) ∧ Hid (∃ K', TrIn P ws w0 bT aP cP aw cw K' w' ∧ ∀ b, K' b → K b ∨ w.heap.size ≤ b) ∧ Within w w' (fun b => b = bT) := by
  have HT : Hid (TrIn P ws w0 bT aP cP aw cw K w) := hT
  have hbl := hT.lt
  have hb0 := hT.low.size
  have HKB : Hid (∀ b, K b → b < w.heap.size ∧ b ≠ bT) := fun b e => ⟨(hT.kb b e).2.2, (hT.kb b e).1⟩
  have HP : Hid (RD w0 (.slice aP P.length cP) (slD (Lay.list (Lay.list Lay.int)) P)) := h0
  have HRO : Hid (∀ a (ha : a < P[k].length) (W : World) (K : Nat → Prop) (ar : Option Addr) (cr : Nat), TrIn P ws w0 bT aP cP aw cw K W → RD w0 (.slice ar P[k][a].length cr) (slD Lay.int P[k][a]) → Calls Tryz.prog 62 #[.pointer (some ⟨bT, 0, none⟩), .slice ar P[k][a].length cr, .int .i64 (i : Int)] W fun e w' => e = .returned (aggV (strV (fr a) (nx a))) ∧ Hid (∃ K', TrIn P ws w0 bT aP cP aw cw K' w' ∧ ∀ b, K' b → K b ∨ W.heap.size ≤ b) ∧ Within W w' (fun b => b = bT)) := hrow
  have HEQ : Hid (maxOn fr i P[k].length = farP P ws k i) := heq.symm
  have HEQ2 : Hid (∀ j, altTo8 nx P[k].length j ≠ 0 ↔ way P ws k i j ≠ 0) := heq2
  have hk20 : (k : Int) < 20 := by omega
  have hi11 : (i : Int) < 11 := by omega
  have hkI : (k : Int) < (P.length : Int) := by omega
  clear hT hrow heq heq2 h0
  obtain ⟨u, qu, hu⟩ := HT.out.known k i hk hi
  cases u with
  | some ad =>
    obtain ⟨b, rfl, hKb, hSb⟩ := hu ad rfl
    have HSb : Hid (Str w b (farP P ws k i) (way P ws k i)) := hSb
    clear hu hSb HEQ HEQ2 HRO HP hKb
    generalize farP P ws k i = m at *
    generalize way P ws k i = v at *
    go_enter Tryz.func95, Tryz.ntmps95
    go_wp2_with (first
      | (refine wpList_allocS (w := w) rfl rfl ?_; intro w1 hA1 hb1 hs1; have l1 : w.heap.size < w1.heap.size := (by omega); clear hs1; have qu1 := (hb1.cell (p := ⟨bT, 2 + k * 11 + i, none⟩) hbl).trans qu)
      | (refine wpList_loadS rfl _ rfl b m v rfl (HSb.out.later hb1) ?_)
      | (refine wpList_storeS rfl _ _ rfl w.heap.size 0 (fun _ => 0) m v rfl rfl hA1 ?_; intro w6 hS6 hg6))
    have HT1 : Hid (TrIn P ws w0 bT aP cP aw cw K w1) := HT.out.later hb1
    have hWn : Within w1 w6 (fun b => b = w.heap.size) := Within.of_grown hg6 (fun k e => by cases e; rfl)
    exact bodyPost_ret (v := aggV (strV m v)) (ret_cellS rfl rfl hS6) rfl ⟨rfl, ⟨K, HT1.out.kept hWn (fun b e => by subst e; exact ⟨by omega, by omega, fun h => by have := (HKB.out _ h).1; omega⟩), fun b e => .inl e⟩, (Within.of_below hb1 (fun b => b = bT)).comp hWn (fun b e => .inr (by omega))⟩
  | none =>
    clear hu
    obtain ⟨b1, o1, rfl, hb1a, a1, ca1, p1, r1⟩ := HP.out.listAt hk
    have HR1 : Hid (RD w0 (.slice a1 P[k].length ca1) (slD (Lay.list Lay.int) P[k])) := r1
    have q0 := HT.out.c0
    have p1a := (HT.out.low.cell (p := ⟨b1, o1 + k, none⟩) hb1a).trans p1
    have hlow1 := HT.out.low.size
    have HC : Hid (∀ W, Below w.heap.size w W → W.cell? ⟨bT, 0, none⟩ = some (.slice (some ⟨b1, o1, none⟩) P.length cP) ∧ W.cell? ⟨b1, o1 + k, none⟩ = some (.slice a1 P[k].length ca1)) := fun W hW => ⟨(hW.cell (p := ⟨bT, 0, none⟩) HT.out.lt).trans q0, (hW.cell (p := ⟨b1, o1 + k, none⟩) (by show b1 < _; omega)).trans p1a⟩
    clear p1 r1 q0 p1a
    go_enter Tryz.func95, Tryz.ntmps95
    go_wp2_with (first
      | (refine wpList_allocS (w := w) rfl rfl ?_; intro w1 hA1 hb1 hs1; have l1 : w.heap.size < w1.heap.size := (by omega); clear hs1; have qu1 := (hb1.cell (p := ⟨bT, 2 + k * 11 + i, none⟩) hbl).trans qu)
      | (refine wpList_str1 rfl _ rfl i rfl ?_)
      | (refine wpList_allocS (w := w1) rfl rfl ?_; intro w2 hA2 hb2 hs2; clear hs2)
      | (refine wpList_storeS rfl _ _ rfl w1.heap.size 0 (fun _ => 0) i (fun _ => 0) rfl rfl hA2 ?_; intro w4 hS4 hg4; have g4 : Below w1.heap.size w1 w4 := (hb2.grown hg4 hb2.size (fun k e => by cases e; omega)); have g40 : Below w.heap.size w w4 := hb1.trans (g4.mono hb1.size); obtain ⟨q0, p1a⟩ := HC.out w4 g40))
    have HA1 : Hid (Str w1 w.heap.size 0 (fun _ => 0)) := hA1
    have HB1 : Hid (Below w.heap.size w w1) := hb1
    have HT1 : Hid (TrIn P ws w0 bT (some ⟨b1, o1, none⟩) cP aw cw K w1) := HT.out.later hb1
    have HS0 : Hid (Str w4 w1.heap.size (maxOn fr i 0) (altTo8 nx 0)) := hS4
    have HA4 : Hid (Str w4 w.heap.size 0 (fun _ => 0)) := (HA1.out.later hb2).grown hg4 (fun e => by have := Option.some.inj e; omega)
    have HT4 : Hid (TrIn P ws w0 bT (some ⟨b1, o1, none⟩) cP aw cw K w4) := HT1.out.later g4
    have HB4 : Hid (Below w.heap.size w w4) := HB1.out.trans (g4.mono HB1.out.size)
    have hSl : w1.heap.size < w4.heap.size := hS4.lt
    have HG0 : Hid (Within w4 w4 (fun b => b = bT ∨ b = w1.heap.size)) := Within.refl _ _
    have HC4 : Hid (∀ b, b ≠ bT → b < w.heap.size → b ≠ w1.heap.size) := fun b _ h => by omega
    clear hA2 hb2 hS4 hg4 g4 g40 HA1 HT1 HB1 HC qu qu1 q0 p1a hA1 hb1 HT
    have hb1w : b1 < w.heap.size := by omega
    have hbT1 : bT < w1.heap.size := by omega
    clear HC4
    generalize w1.heap.size = nS at *
    go_loopw [35] (fun s35 wr => ∃ a : Nat, a ≤ P[k].length ∧ s35 = .int .i64 (a : Int) ∧ Hid (Str wr nS (maxOn fr i a) (altTo8 nx a)) ∧ Hid (Within w4 wr (fun b => b = bT ∨ b = nS)) ∧ Hid (∃ K', TrIn P ws w0 bT (some ⟨b1, o1, none⟩) cP aw cw K' wr ∧ ∀ b, K' b → K b ∨ w4.heap.size ≤ b)) (fun s35 _ => P[k].length - (intOf s35).toNat)
    case atStart => exact ⟨0, Nat.zero_le _, rfl, HS0, HG0, ⟨K, HT4.out, fun b e => .inl e⟩⟩
    case round =>
      obtain ⟨a, ha, rfl, HSq, HGq, HKq⟩ := hrel
      obtain ⟨wA, hwA⟩ : ∃ y, y = wr := ⟨_, rfl⟩
      subst hwA
      clear HS0 HG0
      obtain ⟨K1, hT1, hK1⟩ := HKq.out
      have HT1 : Hid (TrIn P ws w0 bT (some ⟨b1, o1, none⟩) cP aw cw K1 wA) := hT1
      have HK1 : Hid (∀ b, K1 b → K b ∨ w4.heap.size ≤ b) := hK1
      have hszA := HGq.out.size
      clear hT1 hK1 HKq
      by_cases hlt : a < P[k].length
      · obtain ⟨b2, o2, rfl, hb2, a2, ca2, q2, r2⟩ := HR1.out.listAt hlt
        have q2a := (HT1.out.low.cell (p := ⟨b2, o2 + a, none⟩) hb2).trans q2
        have X := HRO.out a hlt wA K1 a2 ca2 HT1.out r2
        have haI : (a : Int) < (P[k].length : Int) := by omega
        have HSn0 : Hid (∀ w7, Str w7 nS (max (maxOn fr i a) (fr a)) (fun j => altTo8 nx a j + nx a j) → Str w7 nS (maxOn fr i (a + 1)) (altTo8 nx (a + 1))) := fun w7 h => h
        clear r2 q2 HRO HEQ HEQ2
        generalize P[k][a].length = n2 at *
        go_wp2_with (first
          | (go_at_call 62; refine X.mono ?_; rintro e w6 ⟨rfl, HK6, hW6⟩; have hS6 := HSq.out.kept (hW6.block nS HSq.out.lt (by omega)))
          | (go_at_call 94; refine (strJoin_any nS _ _ _ _ w6 hS6).mono ?_; rintro e w7 ⟨rfl, hS7, hg7⟩))
        obtain ⟨K2, hT2, hK2⟩ := HK6.out
        have hWn : Within w6 w7 (fun b => b = nS) := Within.of_grown hg7 (fun k e => by cases e; rfl)
        have hNS : ¬ K2 nS := fun e => by
          rcases hK2 nS e with e | e
          · rcases HK1.out nS e with e | e
            · have := (HKB.out nS e).1; omega
            · omega
          · omega
        have HKn : Hid (∃ K', TrIn P ws w0 bT (some ⟨b1, o1, none⟩) cP aw cw K' w7 ∧ ∀ b, K' b → K b ∨ w4.heap.size ≤ b) := ⟨K2, hT2.kept hWn (fun b e => by subst e; exact ⟨by omega, by omega, hNS⟩), fun b e => by
          rcases hK2 b e with e | e
          · exact HK1.out b e
          · right; omega⟩
        have HSn : Hid (Str w7 nS (maxOn fr i (a + 1)) (altTo8 nx (a + 1))) := HSn0.out w7 hS7
        have HGn : Hid (Within w4 w7 (fun b => b = bT ∨ b = nS)) := (HGq.out.trans (hW6.mono (fun b e => .inl e))).trans (hWn.mono (fun b e => .inr e))
        clear hT2 hK2 hS6 hS7 hg7 hW6 hWn X HK6 HSn0
        go_wp2
        go_roundw
        case rel => exact ⟨a + 1, by omega, by go_num, HSn, HGn, HKn⟩
        case measure => simp [intOf]; omega
      · have e : a = P[k].length := by omega
        subst e
        have HSf : Hid (Str wA nS (farP P ws k i) (way P ws k i)) := by
          have := HSq.out.congr (fun j _ => HEQ2.out j)
          rw [HEQ.out] at this
          exact this
        have HAr : Hid (Str wA w.heap.size 0 (fun _ => 0)) := HA4.out.kept (HGq.out.block _ HA4.out.lt (by omega))
        obtain ⟨u', qu', _⟩ := HT1.out.known k i hk hi
        have fu := HT1.out.fr (2 + k * 11 + i)
        have HPUT := HT1.out.put (k := k) (i := i) hi hn (by omega : nS ≠ bT) (by omega) HSf.out
        have HPh : Hid (TrIn P ws w0 bT (some ⟨b1, o1, none⟩) cP aw cw (fun x => K1 x ∨ x = nS) (wA.setCell ⟨bT, 2 + k * 11 + i, none⟩ (.pointer (some ⟨nS, 0, none⟩)))) := HPUT
        have hW8 : Within wA (wA.setCell ⟨bT, 2 + k * 11 + i, none⟩ (.pointer (some ⟨nS, 0, none⟩))) (fun b => b = bT) := set_within _ _ _ _ rfl
        have HS8 : Hid (Str (wA.setCell ⟨bT, 2 + k * 11 + i, none⟩ (.pointer (some ⟨nS, 0, none⟩))) nS (farP P ws k i) (way P ws k i)) := HSf.out.kept (hW8.block nS HSf.out.lt (by omega))
        have HA8 : Hid (Str (wA.setCell ⟨bT, 2 + k * 11 + i, none⟩ (.pointer (some ⟨nS, 0, none⟩))) w.heap.size 0 (fun _ => 0)) := HAr.out.kept (hW8.block _ HAr.out.lt (by omega))
        have HW8 : Hid (Within w4 (wA.setCell ⟨bT, 2 + k * 11 + i, none⟩ (.pointer (some ⟨nS, 0, none⟩))) (fun b => b = bT ∨ b = nS)) := HGq.out.trans (hW8.mono (fun b e => .inl e))
        clear HPUT hW8 HSf HAr HSq HGq HRO HEQ HEQ2 HT1 HR1
        go_wp2_with (first
          | (refine wpList_storeP rfl 51 _ _ rfl ⟨bT, 2 + k * 11 + i, none⟩ (some ⟨nS, 0, none⟩) _ rfl rfl pstr_size qu' fu ?_)
          | (refine wpList_loadS rfl _ rfl nS (farP P ws k i) (way P ws k i) rfl HS8.out ?_)
          | (refine wpList_storeS rfl _ _ rfl w.heap.size 0 (fun _ => 0) (farP P ws k i) (way P ws k i) rfl rfl HA8.out ?_; intro w9 hS9 hg9))
        have hWn : Within (wA.setCell ⟨bT, 2 + k * 11 + i, none⟩ (.pointer (some ⟨nS, 0, none⟩))) w9 (fun b => b = w.heap.size) := Within.of_grown hg9 (fun k e => by cases e; rfl)
        have hs4 := HB4.out.size
        exact bodyPost_ret (v := aggV (strV (farP P ws k i) (way P ws k i))) (ret_cellS rfl rfl hS9) rfl ⟨rfl, ⟨_, HPh.out.kept hWn (fun b e => by
          subst e
          refine ⟨by omega, by omega, fun h => ?_⟩
          rcases h with h | h
          · rcases HK1.out _ h with h | h
            · have := (HKB.out _ h).1; omega
            · omega
          · omega), fun b e => by
          rcases e with e | e
          · exact (HK1.out b e).imp id (fun h => by omega)
          · right; omega⟩, ((Within.of_below HB4.out (fun b => b = bT)).comp HW8.out (fun b e => by rcases e with e | e; exact .inl e; exact .inr (by omega))).comp hWn (fun b e => .inr (by omega))⟩
/-- impl.tracer.ofPart at every part and place. -/
theorem strOf_ok (hok : gramOkB P = true) (hL : NoLoop P) (hws : Reads w0 aw ws) (hn : ws.length ≤ 10) (hP : RD w0 (.slice aP P.length cP) (slD (Lay.list (Lay.list Lay.int)) P)) (m : Nat) :
    ∀ k i, k < P.length → i ≤ ws.length → muP P ws.length k i < m → StrPartOk P ws w0 bT aP cP aw cw k i := by
  have F := Fits.of hok
  induction m with
  | zero => intro k i _ _ h; omega
  | succ m ih =>
    intro k i hk hi hm W K hC
    have hmem := List.getElem_mem hk
    refine strOf_walk k i W hC hk hi hn F.parts (F.alts _ hmem) hP (fun a => farRow ws (way P ws) (farP P ws) i (P[k].getD a [])) (fun a => rowNx ws (way P ws) (deltaV i) (P[k].getD a [])) ?_ (far_eq F hL hk hi) (fun j => altTo8_end F hL hk hi j)
    intro a ha W' K' ar cr h1 h2
    have hmem2 := List.getElem_mem ha
    have ea : P[k].getD a [] = P[k][a] := by simp [List.getD, ha]
    show Calls _ _ _ _ (fun e w' => e = .returned (aggV (strV (farRow ws (way P ws) (farP P ws) i (P[k].getD a [])) (rowNx ws (way P ws) (deltaV i) (P[k].getD a [])))) ∧ _)
    rw [ea]
    refine strRow_any P[k][a] ar cr i W' h1 hws (h2.reads.below h1.low) (fun b off hne e => ?_) (by have := F.rows _ hmem _ hmem2; omega) hn hi ?_ F hL ?_
    · obtain ⟨b', off', e', hlt, _⟩ := h2.reads.at (List.length_pos_iff.2 hne)
      rw [e] at e'
      have := (Addr.mk.inj (Option.some.inj e')).1
      have := h1.lT
      omega
    · intro x hx
      simp only [gramOkB, Bool.and_eq_true, List.all_eq_true, partOk, rowOk] at hok
      exact (((hok.2 _ hmem).2 _ hmem2).2) x hx
    · intro s hs hx j hj hne
      obtain ⟨_, _, h5⟩ := way_lt F hL hk ha hi hs hx hne
      exact ih _ j (gram_part hok hk ha hs) hj (by omega)
end
end Go.Proofs.YthnppodnjokaoaaGreatDoor
namespace Go.Proofs.YthnppodnjokaoaaGreatDoor
open Go.RowKit

/-- The values of a tracer that knows nothing. -/
def trV (u v : Value) : List Value := u :: v :: List.replicate 220 (.pointer none)
theorem trV_length (u v : Value) : (trV u v).length = 222 := by rw [trV, List.length_cons, List.length_cons, List.length_replicate]
theorem trV_ones {u v : Value} (hu : u.oneCell' = true) (hv : v.oneCell' = true) : Ones (trV u v) := fun x hx => by
  simp only [trV, List.mem_cons] at hx
  rcases hx with rfl | rfl | hx
  · exact hu
  · exact hv
  · rw [(List.mem_replicate.1 hx).2]; rfl
theorem trV_known (u v : Value) {n : Nat} (h : n < 220) : (trV u v)[2 + n]? = some (.pointer none) := by
  rw [Nat.add_comm]
  show (List.replicate 220 (Value.pointer none))[n]? = _
  rw [List.getElem?_replicate, if_pos h]
set_option maxRecDepth 100000 in
theorem rt_tr : RowT Tryz.prog 55 (trV (.slice none 0 0) (.slice none 0 0)) := ⟨by kernel_rfl, row_of (by kernel_rfl)⟩
theorem fill_tr {place : Nat → Option (Nat × Nat)} (h0 : place 0 = some (0, 1)) (h1 : place 1 = some (1, 1)) (u0 v0 u : Value) (R : List Value) (a : Option Addr) (l c : Nat) :
    Instr.fill place (u0 :: v0 :: R).toArray [(0, .agg #[u]), (1, .slice a l c)] = some (u :: .slice a l c :: R).toArray := by
  simp [Instr.fill, h0, h1, Value.cells]
set_option maxRecDepth 100000 in
set_option maxHeartbeats 1000000 in
theorem exec_tr {ρ : Operand → Value} {o : Oper} {x y : Operand} {aP : Option Addr} {lP cP : Nat} {aw : Option Addr} {lw cw : Nat} (ho : o.op = .build 55 #[(0, x), (1, y)]) (hx : ρ x = .agg #[.slice aP lP cP]) (hy : ρ y = .slice aw lw cw) (w : World) :
    (execOp ρ o).run Tryz.prog w = .ok (.value (aggV (trV (.slice aP lP cP) (.slice aw lw cw)))) w := by
  have hf := fill_tr (place := fun x => ([((0 : Nat), (1 : Nat)), (1, 1), (2, 220)] : List (Nat × Nat))[x]?) rfl rfl (.slice none 0 0) (.slice none 0 0) (.slice aP lP cP) (List.replicate 220 (.pointer none)) aw lw cw
  have hz := rt_tr.zero w
  unfold trV at *
  generalize List.replicate 220 (Value.pointer none) = Z at *
  unfold execOp
  simp [ho, Instr.build, hz, run_underlying Tryz.underlying55, hx, hy, Value.cells, aggV]
  rw [hf]
  rfl
theorem wpList_tr {ops : Array Oper} {rest : List Oper} {o : Oper} {a : Act} {w : World} {Q : Exit → Act → World → Prop} (hgd : Region.wanted o (yielded ops a.tmps) = true) (x y : Operand) (ho : o.op = .build 55 #[(0, x), (1, y)]) (aP : Option Addr) (lP cP : Nat) (aw : Option Addr) (lw cw : Nat) (hx : a.eval x = .agg #[.slice aP lP cP]) (hy : a.eval y = .slice aw lw cw)
    (h : wpList Tryz.prog ops Q rest (a.put o.dst (aggV (trV (.slice aP lP cP) (.slice aw lw cw)))) w) : wpList Tryz.prog ops Q (o :: rest) a w :=
  wpList_val hgd (exec_tr ho hx hy w) h
section
variable {P : List (List (List Int))} {ws : List Int} {w0 : World} {bT : Nat} {aP : Option Addr} {cP : Nat} {aw : Option Addr} {cw : Nat} {K : Nat → Prop}
theorem TrIn.new {w : World} (hV : Vals w bT 55 (trV (.slice aP P.length cP) (.slice aw ws.length cw))) (hlow : Below w0.heap.size w0 w) (hb : w0.heap.size ≤ bT) (hp : P.length ≤ 20) (hn : ws.length ≤ 10) : TrIn P ws w0 bT aP cP aw cw (fun _ => False) w :=
  ⟨hlow, hb, hV.lt, by rw [hV.cell]; rfl, by rw [hV.cell]; rfl, fun i => hV.frozen i, fun b e => e.elim, fun k i hk hi => ⟨none, by rw [hV.cell, Nat.add_assoc, trV_known _ _ (by omega)], fun a e => by cases e⟩⟩
theorem wholeFar_any (a : Option Addr) (n c i : Nat) (w : World) (hn : n ≤ 10) (hi : i ≤ n) : Calls Tryz.prog 63 #[.slice a n c, .int .i64 (i : Int)] w fun e w' => e = .returned (.int .i64 ((n - i + 1 : Nat) : Int)) ∧ w' = w := by
  have hiI : (i : Int) ≤ (n : Int) := by omega
  have hnI : (n : Int) ≤ 10 := by omega
  go_enter Tryz.func63, Tryz.ntmps63
  go_wp2
  go_ret
  exact ⟨ret_int (by omega), rfl⟩
set_option maxHeartbeats 4000000 in
set_option maxRecDepth 100000 in
theorem trFar_any (row : List Int) (ar : Option Addr) (cr i : Nat) (w : World) (hT : TrIn P ws w0 bT aP cP aw cw K w) (hws : Reads w0 aw ws) (hr : Reads w ar row) (hrb : ∀ b off, row ≠ [] → ar = some ⟨b, off, none⟩ → b ≠ bT) (hrl : row.length ≤ 1048576) (hn : ws.length ≤ 10) (hi : i ≤ ws.length) (hrow : ∀ x ∈ row, symOk P.length x = true) (hok : gramOkB P = true) (hL : NoLoop P) (hP : RD w0 (.slice aP P.length cP) (slD (Lay.list (Lay.list Lay.int)) P)) :
    Calls Tryz.prog 45 #[.pointer (some ⟨bT, 0, none⟩), .slice ar row.length cr, .int .i64 (i : Int)] w fun e w' => e = .returned (.int .i64 (farOf P row ws i : Int)) ∧ Hid (∃ K', TrIn P ws w0 bT aP cP aw cw K' w' ∧ ∀ b, K' b → K b ∨ w.heap.size ≤ b) ∧ Within w w' (fun b => b = bT) := by
  have X := strRow_any row ar cr i w hT hws hr hrb hrl hn hi hrow (Fits.of hok) hL (fun s hs hx j hj _ => by
    have := symOk_true.1 (hrow row[s] (List.getElem_mem hs))
    exact strOf_ok hok hL hws hn hP _ _ j (by omega) hj (Nat.lt_succ_self _))
  have HK0 : Hid (∀ b, K b → b < w.heap.size) := fun b e => (hT.kb b e).2.2
  have hge : i ≤ farRow ws (way P ws) (farP P ws) i row := farRow_ge _ _ _ _ _
  have hle : farRow ws (way P ws) (farP P ws) i row ≤ ws.length := farRow_le hi (fun k j hj => farP_le P ws k j hj)
  have E1 : Hid (rowNx ws (way P ws) (deltaV i) row ws.length ≠ 0 → farOf P row ws i = ws.length - i + 1) := farOf_end hi
  have E2 : Hid (rowNx ws (way P ws) (deltaV i) row ws.length = 0 → farOf P row ws i = farRow ws (way P ws) (farP P ws) i row - i) := farOf_not
  have hbT := hT.lt
  have hb0 := hT.low.size
  generalize farRow ws (way P ws) (farP P ws) i row = n at *
  generalize farOf P row ws i = r at *
  generalize rowNx ws (way P ws) (deltaV i) row = v at *
  clear hT hws hr hrb hrow hok hL hP
  have hgeI : (i : Int) ≤ (n : Int) := by omega
  have hleI : (n : Int) ≤ 10 := by omega
  have hn11 : ws.length < 11 := by omega
  by_cases hv : v ws.length = 0
  · have E : Hid (r = n - i) := E2.out hv
    clear E1 E2
    go_enter Tryz.func45, Tryz.ntmps45
    go_wp2_with (first
      | (go_at_call 62; refine X.mono ?_; rintro e w1 ⟨rfl, HK1, hW1⟩)
      | (refine wpList_allocS (w := w1) rfl rfl ?_; intro w2 hA2 hb2 hs2; clear hs2)
      | (refine wpList_storeS rfl _ _ rfl w1.heap.size 0 (fun _ => 0) n v rfl rfl hA2 ?_; intro w3 hS3 hg3; have q3 := hS3.end hn11; rw [show decide (v ws.length ≠ 0) = false by simp [hv]] at q3; have qf := hS3.far; have hT3 := HK1.out; obtain ⟨K1, hT1, hK1⟩ := hT3; have hW3 : Within w1 w3 (fun b => b = w1.heap.size) := (Within.of_below hb2 _).trans (Within.of_grown hg3 (fun k e => by cases e; rfl)); have hs1 := hW1.size; have HT3 : Hid (TrIn P ws w0 bT aP cP aw cw K1 w3) := hT1.kept hW3 (fun b e => by subst e; exact ⟨by omega, by omega, fun h => by have := (hT1.kb _ h).2.2; omega⟩); have c1 := HT3.out.c1))
    go_ret
    exact ⟨ret_int (by have := E.out; omega), ⟨K1, HT3.out, hK1⟩, hW1.comp hW3 (fun b e => .inr (by omega))⟩
  · have E : Hid (r = ws.length - i + 1) := E1.out hv
    clear E1 E2
    go_enter Tryz.func45, Tryz.ntmps45
    go_wp2_with (first
      | (go_at_call 62; refine X.mono ?_; rintro e w1 ⟨rfl, HK1, hW1⟩)
      | (refine wpList_allocS (w := w1) rfl rfl ?_; intro w2 hA2 hb2 hs2; clear hs2)
      | (refine wpList_storeS rfl _ _ rfl w1.heap.size 0 (fun _ => 0) n v rfl rfl hA2 ?_; intro w3 hS3 hg3; have q3 := hS3.end hn11; rw [show decide (v ws.length ≠ 0) = true by simp [hv]] at q3; have qf := hS3.far; have hT3 := HK1.out; obtain ⟨K1, hT1, hK1⟩ := hT3; have hW3 : Within w1 w3 (fun b => b = w1.heap.size) := (Within.of_below hb2 _).trans (Within.of_grown hg3 (fun k e => by cases e; rfl)); have hs1 := hW1.size; have HT3 : Hid (TrIn P ws w0 bT aP cP aw cw K1 w3) := hT1.kept hW3 (fun b e => by subst e; exact ⟨by omega, by omega, fun h => by have := (hT1.kb _ h).2.2; omega⟩); have c1 := HT3.out.c1)
      | (go_at_call 63; refine (wholeFar_any aw ws.length cw i _ hn hi).mono ?_; rintro e w5 ⟨rfl, h5⟩; replace h5 := h5.symm; subst h5))
    go_ret
    exact ⟨ret_int (by have := E.out; omega), ⟨K1, HT3.out, hK1⟩, hW1.comp hW3 (fun b e => .inr (by omega))⟩
end
end Go.Proofs.YthnppodnjokaoaaGreatDoor
