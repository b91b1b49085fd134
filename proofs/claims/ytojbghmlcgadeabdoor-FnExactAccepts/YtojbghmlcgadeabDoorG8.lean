/-
  Contracts and plain mathematics, joined: RowOf, KnownMap, PartOf, Flags, FlagsEq, FlagT, LeastMath, EmBase, LPartsP. No statement is proved here.
-/
import Derived.Test.YtojbghmlcgadeabDoorG7
import Derived.Test.YtojbghmlcgadeabDoorG5
import Derived.Test.YtojbghmlcgadeabDoorG4
import Derived.Test.YtojbghmlcgadeabDoorG2
import Derived.Deep.MidRow
import Derived.ChangeKeysEq
import Derived.Test.YtojbghmlcgadeabDoorG3
import Derived.Test.YtojbghmlcgadeabDoorG1
import Derived.Deep.LoopGhost
namespace Go.Proofs.YtojbghmlcgadeabDoor
open Go.RowKit
open Go.Maps (Keyed has IsMap keyOf_int_mk)

/-- A map literal's entry. -/
theorem wpList_insert_own {H : Type} {P : Program} (w : World) {ops : Array Oper} {rest : List Oper} {o : Oper} {a : Act} {Q : Exit → Act → World → Prop}
    (hg : o.guard = none) (m x v : Operand) (t : TypeId) (hop : o.op = Op.insert t m x v)
    (k e : TypeId) (K : Keyed P k) (ht : P.underlying t = some (.map k e)) (R : Value → Option (DataW H × List MemPlace)) (b n : Nat) (D : DataW H)
    (hm : a.eval m = .map (some b)) (hown : w.ownsMap P k R b n D) (hn : n < maxLen) (key val : Value) (kl : Lit) (hx : a.eval x = key) (hv : a.eval v = val) (hkey : keyOf P k key = some kl)
    (d : DataW H) (ps : List MemPlace) (hval : R val = some (d, ps))
    (hK : ∀ w', w'.ownsMap P k R b (n + 1) (D.put kl d) → w.grownBy w' (some b) → w'.heap.size = w.heap.size → wpList P ops Q rest (a.put o.dst undef) w') :
    wpList P ops Q (o :: rest) a w := by
  refine wpList_plain hg fun K' hK' => ?_
  obtain ⟨w', hrun, r1, r2⟩ := hown.store K ht hn hkey hval
  have hs : w'.heap.size = w.heap.size := by
    obtain ⟨es, clock, es', clock', hb, rfl⟩ := r2
    simp [Go.ChangeMaps.setBlock]
  unfold Oper.wp
  simp [execOp, hop, hm, hx, hv, hrun, Result.andThen]
  exact hK' _ _ (hK w' r1 r2.grown hs)

section
variable {P : List (List (List Int))} {ws : List Int} {w0 : World} {bC bK : Nat} {aP : Option Addr} {cP : Nat} {aw : Option Addr} {cw : Nat}
set_option maxHeartbeats 4000000 in
set_option maxRecDepth 100000 in
theorem ofRow_any (row : List Int) (ar : Option Addr) (cr i0 : Nat) (w : World) (hC : CIn P ws w0 bC bK aP cP aw cw w) (hws : Reads w0 aw ws) (hn : ws.length ≤ 10) (hr : Reads w0 ar row) (hrl : row.length ≤ 8) (hi0 : i0 ≤ ws.length) (hsym : ∀ x ∈ row, symOk P.length x = true) (hp : P.length ≤ 20)
    (hcall : ∀ s (hs : s < row.length), 100 ≤ row[s] → ∀ i, i ≤ ws.length → rowNx ws (way P ws) (deltaV i0) (row.take s) i ≠ 0 → OfPartOk P ws w0 bC bK aP cP aw cw (row[s] - 100).toNat i) :
    Calls Tryd.prog 43 #[.pointer (some ⟨bC, 0, none⟩), .slice ar row.length cr, .int .i64 (i0 : Int)] w fun e w' => e = .returned (aggN (endL (rowNx ws (way P ws) (deltaV i0) row))) ∧ CIn P ws w0 bC bK aP cP aw cw w' ∧ Within w w' (fun b => b = bK) := by
  have hlC := hC.lt
  have hlow := hC.low.size
  have HCc : Hid (∀ s (hs : s < row.length), 100 ≤ row[s] → ∀ i, i ≤ ws.length → rowNx ws (way P ws) (deltaV i0) (row.take s) i ≠ 0 → OfPartOk P ws w0 bC bK aP cP aw cw (row[s] - 100).toNat i) := hcall
  have HV1 : Hid (∀ s j, rowNx ws (way P ws) (deltaV i0) (row.take s) j ≤ 1000) := fun s j => rowNx_le (deltaV_le i0) j
  have HVO : Hid (∀ s j, rowNx ws (way P ws) (deltaV i0) (row.take s) j ≠ 0 → j ≤ ws.length) := fun s j h => by
    by_cases e : j ≤ ws.length
    · exact e
    · exact absurd (rowNx_out (fun k i j hi hj => way_out k i j hi hj) (fun j hj => deltaV_out hi0 hj) j (by omega)) h
  have HSY : Hid (∀ x ∈ row, symOk P.length x = true) := hsym
  have HWS : Hid (Reads w0 aw ws) := hws
  have HRD : Hid (Reads w0 ar row) := hr
  have HC : Hid (CIn P ws w0 bC bK aP cP aw cw w) := hC
  have hmm := @run_makeMap Tryd.prog
  have hbZ : Below w.heap.size w ((w.alloc (.cells #[.int .i64 0, .int .i64 0, .int .i64 0, .int .i64 0, .int .i64 0, .int .i64 0, .int .i64 0, .int .i64 0, .int .i64 0, .int .i64 0, .int .i64 0] 63)).alloc (.map #[] 0)) := ((Below.refl _ _).alloc (Nat.le_refl _) _).alloc (by simp) _
  have hNZ : Nums ((w.alloc (.cells #[.int .i64 0, .int .i64 0, .int .i64 0, .int .i64 0, .int .i64 0, .int .i64 0, .int .i64 0, .int .i64 0, .int .i64 0, .int .i64 0, .int .i64 0] 63)).alloc (.map #[] 0)) w.heap.size 63 (List.replicate 11 0) := (Nums.new w 63 (List.replicate 11 0)).below ((Below.refl _ _).alloc (Nat.le_refl _) _) (by simp)
  have hsZ : ((w.alloc (.cells #[.int .i64 0, .int .i64 0, .int .i64 0, .int .i64 0, .int .i64 0, .int .i64 0, .int .i64 0, .int .i64 0, .int .i64 0, .int .i64 0, .int .i64 0] 63)).alloc (.map #[] 0)).heap.size = w.heap.size + 1 + 1 := by simp
  have hoZ : ((w.alloc (.cells #[.int .i64 0, .int .i64 0, .int .i64 0, .int .i64 0, .int .i64 0, .int .i64 0, .int .i64 0, .int .i64 0, .int .i64 0, .int .i64 0, .int .i64 0] 63)).alloc (.map #[] 0)).ownsMap (H := Unit) Tryd.prog 3 (plainElem Tryd.prog 3) (w.heap.size + 1) 0 (.map []) := by
    have := World.ownsMap_made (H := Unit) (w.alloc (.cells #[.int .i64 0, .int .i64 0, .int .i64 0, .int .i64 0, .int .i64 0, .int .i64 0, .int .i64 0, .int .i64 0, .int .i64 0, .int .i64 0, .int .i64 0] 63)) Tryd.prog 3 (plainElem Tryd.prog 3)
    rw [show (w.alloc (.cells #[.int .i64 0, .int .i64 0, .int .i64 0, .int .i64 0, .int .i64 0, .int .i64 0, .int .i64 0, .int .i64 0, .int .i64 0, .int .i64 0, .int .i64 0] 63)).heap.size = w.heap.size + 1 by simp] at this
    exact this
  have hwi : (Lit.int .i64 (i0 : Int)).wf = true := wf_nat (by omega)
  have hw1 : (Lit.int .i64 (1 : Int)).wf = true := by decide
  have HFM : Hid (FM ((DataW.map [] : DataW Unit).put (.int .i64 (i0 : Int)) (.lit (.int .i64 1))) 0 (deltaV i0)) := by
    have h0 : FM (.map []) 0 (cutV (deltaV i0) i0) := (FM.zero 0).congr (fun j => by
      unfold cutV deltaV
      split
      · rw [if_neg (by omega)]
      · rfl)
    have := h0.put ⟨[], rfl⟩ (by simp [deltaV])
    rw [show deltaV i0 i0 = 1 from if_pos rfl] at this
    exact this.congr (fun j => by
      unfold cutV deltaV
      by_cases e : j = i0
      · subst e; rw [if_pos (Nat.lt_succ_self _)]
      · by_cases e2 : j < i0 + 1
        · rw [if_pos e2]
        · rw [if_neg e2, if_neg e])
  clear hcall hsym hws hr hC
  go_enter Tryd.func43, Tryd.ntmps43
  go_wp2_with (refine wpList_insert_own _ rfl _ _ _ 79 rfl 3 3 intK u_ways _ (w.heap.size + 1) 0 _ rfl hoZ (by decide) _ _ _ rfl rfl (keyOf_int_mk u_int hwi) _ [] (plainElem_int u_int hw1) ?_; intro w2 hO2 hg2 hs2; rw [hsZ] at hs2)
  have hbw2 : Below w.heap.size w w2 := hbZ.grown hg2 (by rw [hsZ]; omega) (fun k e => by cases e; omega)
  have hb0 : Below w.heap.size w (w2.alloc (.cells #[.int .i64 0, .map (some (w.heap.size + 1))] 81)) := hbw2.alloc (by rw [hs2]; omega) _
  have HC0 : Hid (CIn P ws w0 bC bK aP cP aw cw (w2.alloc (.cells #[.int .i64 0, .map (some (w.heap.size + 1))] 81))) := HC.out.later hb0
  have HW0 : Hid (Within w (w2.alloc (.cells #[.int .i64 0, .map (some (w.heap.size + 1))] 81)) (fun b => b = bK)) := Within.of_below hb0 _
  have HN0 : Hid (Nums (w2.alloc (.cells #[.int .i64 0, .map (some (w.heap.size + 1))] 81)) w.heap.size 63 (List.replicate 11 0)) := (hNZ.grown hg2 (by simp)).later ((Below.refl _ _).alloc (Nat.le_refl _) _)
  have HF0 : Hid (FrontIn (w2.alloc (.cells #[.int .i64 0, .map (some (w.heap.size + 1))] 81)) (w.heap.size + 1 + 1) (w.heap.size + 1) 1 0 (rowNx ws (way P ws) (deltaV i0) (row.take 0))) := by
    have key : ∀ (W : World) (cs : Array Value) (t : TypeId) (i : Nat), (W.alloc (.cells cs t)).cell? ⟨W.heap.size, i, none⟩ = cs[i]? := fun W cs t i => by simp
    have kF := fun i => key w2 #[.int .i64 0, .map (some (w.heap.size + 1))] 81 i
    rw [hs2] at kF
    refine ⟨_, kF 0, kF 1, fun i => ?_, hO2.alloc _, HFM.out⟩
    rw [frozen?_alloc_cells]
    have : w2.heap[w.heap.size + 1 + 1]? = none := by rw [← hs2]; simp
    simp [World.frozen?, this]
  generalize w2.alloc (.cells #[.int .i64 0, .map (some (w.heap.size + 1))] 81) = wF at *
  clear hbZ hNZ hsZ hoZ hO2 hg2 hs2 hbw2 hb0 HFM hmm
  go_loopw [16] (fun ss wr => ∃ s bM m moved : Nat, s ≤ row.length ∧ ss = .int .i64 (s : Int) ∧ moved ≤ s ∧ w.heap.size < bM ∧ Hid (FrontIn wr (w.heap.size + 1 + 1) bM m moved (rowNx ws (way P ws) (deltaV i0) (row.take s))) ∧ Hid (CIn P ws w0 bC bK aP cP aw cw wr) ∧ Hid (Within w wr (fun b => b = bK)) ∧ Hid (Nums wr w.heap.size 63 (List.replicate 11 0))) (fun ss _ => row.length - (intOf ss).toNat)
  case atStart => exact ⟨0, _, 1, 0, Nat.zero_le _, rfl, Nat.le_refl _, by omega, HF0, HC0, HW0, HN0⟩
  case round =>
    obtain ⟨s, bM, m, moved, hs, rfl, hms, hbM, HFr, HCr, HWr, HNr⟩ := hrel
    clear HF0 HC0 HW0 HN0
    have hszr := HWr.out.size
    by_cases hlt : s < row.length
    · obtain ⟨br, ofr, rfl, hbr, hcr⟩ := (HRD.out.below HCr.out.low).at hlt
      have qr := hcr s hlt
      rw [List.getD_eq_getElem?_getD, List.getElem?_eq_getElem hlt, Option.getD_some] at qr
      have hsy := symOk_true.1 (HSY.out row[s] (List.getElem_mem hlt))
      have HCs : Hid (100 ≤ row[s] → ∀ i, i ≤ ws.length → rowNx ws (way P ws) (deltaV i0) (row.take s) i ≠ 0 → OfPartOk P ws w0 bC bK aP cP aw cw (row[s] - 100).toNat i) := HCc.out s hlt
      have HSt : Hid (rowNx ws (way P ws) (deltaV i0) (row.take (s + 1)) = stepNx ws (way P ws) (rowNx ws (way P ws) (deltaV i0) (row.take s)) row[s]) := rowNx_step hlt
      have HX1 : Hid (∀ j, rowNx ws (way P ws) (deltaV i0) (row.take s) j ≤ 1000) := HV1.out s
      have HXO : Hid (∀ j, rowNx ws (way P ws) (deltaV i0) (row.take s) j ≠ 0 → j ≤ ws.length) := HVO.out s
      have HWSr : Hid (Reads wr aw ws) := HWS.out.below HCr.out.low
      generalize rowNx ws (way P ws) (deltaV i0) (row.take s) = x at *
      generalize row[s] = z at *
      clear hcr HCc HV1 HVO HSY
      by_cases hx : z < 100
      · have hz1 : inB z 0 25 = true := inB_true.2 (by omega)
        have HS2 : Hid (rowNx ws (way P ws) (deltaV i0) (row.take (s + 1)) = letNx ws z x) := by show _ = _; rw [HSt.out, stepNx, if_pos hx]
        have X : Hid (Calls Tryd.prog 53 #[.pointer (some ⟨bC, 0, none⟩), .pointer (some ⟨w.heap.size + 1 + 1, 0, none⟩), .int .i64 z] wr fun e w' => e = .returned (.tuple #[]) ∧ FrontIn w' (w.heap.size + 1 + 1) bM m (moved + 1) (letNx ws z x) ∧ Within wr w' (fun b => b = bM ∨ b = w.heap.size + 1 + 1)) := passLetter_any bC (w.heap.size + 1 + 1) bM m moved x ws aw cw z wr HCr.out.c1 HWSr.out HFr.out HXO.out hn (by omega)
        clear HCs HSt HX1 HXO HFr
        go_wp2_with (first | (go_at_call 41; refine (isLetter_any _ _).mono ?_; rintro e w' ⟨rfl, rfl⟩; rw [hz1]) | (go_at_call 53; refine X.out.mono ?_; rintro e w5 ⟨rfl, hF5, hW5⟩))
        go_roundw
        case rel =>
          exact ⟨s + 1, bM, m, moved + 1, by omega, by go_num, by omega, hbM, by rw [HS2.out]; exact hF5, HCr.out.kept hW5 (fun b e => by rcases e with e | e <;> omega), HWr.out.comp hW5 (fun k e => .inr (by rcases e with e | e <;> omega)), HNr.out.kept (hW5.block _ HNr.out.lt (fun e => by rcases e with e | e <;> omega))⟩
        case measure => simp [intOf]; omega
      · have hx' : 100 ≤ z := by omega
        have hz1 : inB z 0 25 = false := inB_false.2 (by omega)
        have hzk := part_nat hx'
        have HS2 : Hid (rowNx ws (way P ws) (deltaV i0) (row.take (s + 1)) = partNx ws.length (way P ws (z - 100).toNat) x) := by show _ = _; rw [HSt.out, stepNx, if_neg hx]
        have X : Hid (Calls Tryd.prog 54 #[.pointer (some ⟨bC, 0, none⟩), .pointer (some ⟨w.heap.size + 1 + 1, 0, none⟩), .int .i64 (z - 100)] wr fun e w' => e = .returned (.tuple #[]) ∧ (∃ bM', wr.heap.size ≤ bM' ∧ FrontIn w' (w.heap.size + 1 + 1) bM' 11 0 (partNx ws.length (way P ws (z - 100).toNat) x)) ∧ CIn P ws w0 bC bK aP cP aw cw w' ∧ Within wr w' (fun b => b = bK ∨ b = w.heap.size + 1 + 1)) := by
          have := passPart_any (w.heap.size + 1 + 1) bM m moved (z - 100).toNat x wr HCr.out HFr.out (by omega) (by omega) (by omega) (by omega) HXO.out HX1.out hn (HCs.out hx')
          rw [hzk] at this
          exact this
        clear HCs HSt HX1 HXO HFr hzk
        go_wp2_with (first | (go_at_call 41; refine (isLetter_any _ _).mono ?_; rintro e w' ⟨rfl, rfl⟩; rw [hz1]) | (go_at_call 54; refine X.out.mono ?_; rintro e w5 ⟨rfl, ⟨bM5, hbM5, hF5⟩, hC5, hW5⟩))
        go_roundw
        case rel =>
          exact ⟨s + 1, bM5, 11, 0, by omega, by go_num, by omega, by have := HNr.out.lt; omega, by rw [HS2.out]; exact hF5, hC5, HWr.out.comp hW5 (fun k e => by rcases e with e | e; exact .inl e; exact .inr (by omega)), HNr.out.kept (hW5.block _ HNr.out.lt (fun e => by rcases e with e | e <;> omega))⟩
        case measure => simp [intOf]; omega
    · have e : row.take s = row := List.take_of_length_le (by omega)
      have HVR : Hid (∀ j, rowNx ws (way P ws) (deltaV i0) row j ≠ 0 → j ≤ ws.length) := fun j h => HVO.out s j (by rw [e]; exact h)
      obtain ⟨D, c0, c1, _, hO, hFM⟩ := HFr.out
      rw [e] at hFM
      obtain ⟨v, HVV⟩ : ∃ v, Hid (rowNx ws (way P ws) (deltaV i0) row = v) := ⟨_, rfl⟩
      rw [HVV.out] at hFM HVR
      have X : Hid (Calls Tryd.prog 55 #[.pointer (some ⟨w.heap.size + 1 + 1, 0, none⟩)] wr fun e w' => e = .returned (aggN (endL v)) ∧ Below wr.heap.size wr w') := ends_any (w.heap.size + 1 + 1) bM m moved v D wr c0 c1 hO hFM (fun j h => by have := HVR.out j h; omega)
      clear c0 c1 hO hFM HFr HVR HVO HV1 HCc HSY e
      go_wp2_with (first | (go_at_call 55; refine X.out.mono ?_; rintro e w5 ⟨rfl, hb5⟩) | (refine wpList_storeN rfl 63 _ _ rfl w.heap.size 0 63 (List.replicate 11 0) (endL v) rfl rfl (at11 v) (HNr.out.later hb5) (by rw [endL_length]; decide) ?_; intro w6 hN6 hg6))
      rw [putN_whole (by rw [endL_length]; rfl)] at hN6
      have hwi : Within w5 w6 (fun b => b = w.heap.size) := Within.of_grown hg6 (fun k e => by cases e; rfl)
      exact bodyPost_ret (v := aggN (endL v)) (ret_cellN 63 rfl rfl hN6 (at11 v)) rfl ⟨by rw [HVV.out], (HCr.out.later hb5).kept hwi (fun b e => by omega), (HWr.out.trans (Within.of_below hb5 _)).comp hwi (fun k e => .inr (by omega))⟩
end
end Go.Proofs.YtojbghmlcgadeabDoor
namespace Go.Proofs.YtojbghmlcgadeabDoor
open Go.RowKit
open Go.Maps (Keyed has IsMap)

section
variable {P : Program}
theorem wp_storeN {o : Oper} {a : Act} {w : World} {K : Act → World → Prop} {Q : Exit → Act → World → Prop} (ty : TypeId) (x y : Operand) (b off : Nat) (t : TypeId) (bs cs : List Nat) (ho : o.op = .store ty x y) (hx : a.eval x = .pointer (some ⟨b, off, none⟩)) (hy : a.eval y = aggN cs) (hT : NumT P ty cs.length) (hB : Nums w b t bs) (hn : off + cs.length ≤ bs.length)
    (h : ∀ w', Nums w' b t (putN bs off cs) → w.grownBy w' (some b) → K (a.put o.dst undef) w') : Oper.wp P o a w K Q := by
  obtain ⟨w', h1, h2, h3⟩ := exec_storeN (P := P) (w := w) (ρ := a.eval) ho hx hy hT hB hn
  unfold Oper.wp
  rw [h1, Oper.upon_skip]
  exact h w' h2 h3
theorem wp_mapUpdate_own {H : Type} (w : World) {o : Oper} {a : Act} {K' : Act → World → Prop} {Q : Exit → Act → World → Prop} (m x v : Operand) (t : TypeId) (hop : o.op = Op.mapUpdate t m x v)
    (k e : TypeId) (K : Keyed P k) (ht : P.underlying t = some (.map k e)) (R : Value → Option (DataW H × List MemPlace)) (b n : Nat) (D : DataW H)
    (hm : a.eval m = .map (some b)) (hown : w.ownsMap P k R b n D) (hn : n < maxLen) (key val : Value) (kl : Lit) (hx : a.eval x = key) (hv : a.eval v = val) (hkey : keyOf P k key = some kl) (d : DataW H) (ps : List MemPlace) (hval : R val = some (d, ps))
    (hK : ∀ w', w'.ownsMap P k R b (n + 1) (D.put kl d) → w.grownBy w' (some b) → K' (a.put o.dst undef) w') : Oper.wp P o a w K' Q := by
  obtain ⟨w', hrun, r1, r2⟩ := hown.update K ht hn hkey hval
  unfold Oper.wp
  simp [execOp, hop, hm, hx, hv, hrun, Result.andThen]
  exact hK w' r1 r2
end
theorem sub_len {α : Type} [DecidableEq α] {xs : List α} : ∀ {ys : List α}, xs.Nodup → (∀ x ∈ xs, x ∈ ys) → xs.length ≤ ys.length := by
  induction xs with
  | nil => intro ys _ _; simp
  | cons x xs ih =>
    intro ys hn hs
    obtain ⟨h1, h2⟩ := List.nodup_cons.1 hn
    have hx := hs x (by simp)
    have := ih (ys := ys.erase x) h2 (fun y hy => (List.mem_erase_of_ne (fun e => h1 (by rw [← e]; exact hy))).2 (hs y (by simp [hy])))
    rw [List.length_erase_of_mem hx] at this
    have := List.length_pos_of_mem hx
    simp; omega
theorem flat_len {α : Type} (f : Nat → List α) (m c : Nat) (h : ∀ k, (f k).length = c) : ((List.range m).flatMap f).length = m * c := by
  induction m with
  | zero => simp
  | succ m ih => rw [List.range_succ, List.flatMap_append, List.length_append, ih]; simp [h, Nat.add_mul]
section
variable {PP : List (List (List Int))} {ws : List Int} {w : World} {bK m : Nat} {D : DataW Unit}
/-- There is room. -/
theorem known_room (h : w.ownsMap Tryd.prog 106 RE bK m D) (hk : KnownAt PP ws D) (hp : PP.length ≤ 20) (hn : ws.length ≤ 10) : ∃ n, n ≤ 220 ∧ w.ownsMap Tryd.prog 106 RE bK n D := by
  classical
  obtain ⟨es2, hD, hpw, hkeys⟩ := h.entries spotK
  obtain ⟨es, clock, hb, F, hs, hD2⟩ := h
  have hlen : es.size = es2.length := by
    rw [hD] at hD2
    have := congrArg List.length (DataW.map.inj hD2)
    rw [this, length_sorted]; simp
  have hin : ∀ l ∈ es2.map Prod.fst, l ∈ (List.range PP.length).flatMap (fun (k : Nat) => (List.range (ws.length + 1)).map fun (i : Nat) => klS (k : Int) (i : Int)) := by
    intro l hl
    obtain ⟨p, hp1, rfl⟩ := List.mem_map.1 hl
    have hh : has D p.1 = true := by
      rw [hD, Maps.has_eq]
      exact List.any_eq_true.2 ⟨p, hp1, WideAt.sameKey_self (hkeys p hp1)⟩
    obtain ⟨k, i, h1, h2, h3, _⟩ := hk _ hh
    rw [List.mem_flatMap]
    exact ⟨k, List.mem_range.2 h1, List.mem_map.2 ⟨i, List.mem_range.2 (by omega), h3.symm⟩⟩
  have hnd : (es2.map Prod.fst).Nodup := by
    rw [List.nodup_iff_pairwise_ne, List.pairwise_map]; exact hpw
  have hle := sub_len hnd hin
  rw [flat_len _ _ (ws.length + 1) (fun k => by simp), List.length_map] at hle
  have : PP.length * (ws.length + 1) ≤ 20 * 11 := Nat.mul_le_mul hp (by omega)
  exact ⟨es.size, by omega, es, clock, hb, F, Nat.le_refl _, hD2⟩
/-- One more is known. -/
theorem known_put {k i : Nat} (hI : IsMap D) (hk : KnownAt PP ws D) (h1 : k < PP.length) (h2 : i ≤ ws.length) : KnownAt PP ws (D.put (klS (k : Int) (i : Int)) (encE (endL (way PP ws k i)))) := by
  intro l hl
  by_cases e : l = klS (k : Int) (i : Int)
  · subst e
    exact ⟨k, i, h1, h2, rfl, fun z => Maps.atKey_put_same (k := klS (k : Int) (i : Int)) hI trivial _ _⟩
  · rw [Maps.has_put_other e] at hl
    obtain ⟨k', i', h3, h4, h5, h6⟩ := hk l hl
    exact ⟨k', i', h3, h4, h5, fun z => by rw [Maps.atKey_put_other e]; exact h6 z⟩
/-- What a look-up tells. -/
theorem known_look {k i : Nat} (h : w.ownsMap Tryd.prog 106 RE bK m D) (hk : KnownAt PP ws D) (hp : PP.length ≤ 20) (hn : ws.length ≤ 10) (h1 : k < PP.length) (h2 : i ≤ ws.length) :
    (Instr.lookup 59 (.map (some bK)) (.agg #[.int .i64 (k : Int), .int .i64 (i : Int)]) true).run Tryd.prog w = .ok (.tuple #[aggN (if has D (klS (k : Int) (i : Int)) then endL (way PP ws k i) else List.replicate 11 0), .bool (has D (klS (k : Int) (i : Int)))]) w := by
  have hz : (zeroValue 63).run Tryd.prog w = .ok (aggN (List.replicate 11 0)) w := by
    have := nt_ends.zero w
    rw [this]; unfold aggN; rw [cellsN_rep]
  have wk : (Lit.int .i64 (k : Int)).wf = true := wf_nat (by omega)
  have wi : (Lit.int .i64 (i : Int)).wf = true := wf_nat (by omega)
  obtain ⟨v, ps, hrun, hv⟩ := h.look_ok spotK u_known hz (RE_mk (List.replicate 11 0)) (key_spot wk wi)
  have hrun' : (Instr.lookup 59 (.map (some bK)) (.agg #[.int .i64 (k : Int), .int .i64 (i : Int)]) true).run Tryd.prog w = .ok (.tuple #[v, .bool (has D (klS (k : Int) (i : Int)))]) w := hrun
  rw [hrun']
  by_cases hd : has D (klS (k : Int) (i : Int)) = true
  · obtain ⟨k', i', h3, h4, h5, h6⟩ := hk _ hd
    have wk' : (Lit.int .i64 (k' : Int)).wf = true := wf_nat (by omega)
    have wi' : (Lit.int .i64 (i' : Int)).wf = true := wf_nat (by omega)
    obtain ⟨e1, e2⟩ := klS_inj wk wi wk' wi' h5
    have e3 : k' = k := by omega
    have e4 : i' = i := by omega
    subst e3; subst e4
    rw [h6] at hv
    rw [RE_inv hv, hd, if_pos rfl]
  · have hd' : has D (klS (k : Int) (i : Int)) = false := by simpa using hd
    rw [Maps.atKey_of_not_has hd'] at hv
    rw [RE_inv hv, hd', if_neg (by simp)]
end
end Go.Proofs.YtojbghmlcgadeabDoor
namespace Go.Proofs.YtojbghmlcgadeabDoor
open Go.RowKit
open Go.Maps (Keyed has IsMap)

section
variable {P : List (List (List Int))} {ws : List Int} {w0 : World} {bC bK : Nat} {aP : Option Addr} {cP : Nat} {aw : Option Addr} {cw : Nat}
set_option maxHeartbeats 8000000 in
set_option maxRecDepth 100000 in
theorem ofPart_walk (k i : Nat) (w : World) (hC : CIn P ws w0 bC bK aP cP aw cw w) (hk : k < P.length) (hi : i ≤ ws.length) (hn : ws.length ≤ 10) (hp : P.length ≤ 20) (hp8 : P[k].length ≤ 8) (h0 : RD w0 (.slice aP P.length cP) (slD (Lay.list (Lay.list Lay.int)) P)) (f : Nat → Nat → Nat) (hf : ∀ a (ha : a < P[k].length), f a = rowNx ws (way P ws) (deltaV i) P[k][a]) (hfl : ∀ a j, f a j ≤ 1000)
    (hrow : ∀ a (ha : a < P[k].length) (W : World) (ar : Option Addr) (cr : Nat), CIn P ws w0 bC bK aP cP aw cw W → Reads w0 ar P[k][a] → Calls Tryd.prog 43 #[.pointer (some ⟨bC, 0, none⟩), .slice ar P[k][a].length cr, .int .i64 (i : Int)] W fun e w' => e = .returned (aggN (endL (rowNx ws (way P ws) (deltaV i) P[k][a]))) ∧ CIn P ws w0 bC bK aP cP aw cw w' ∧ Within W w' (fun b => b = bK))
    (heq : ∀ j, way P ws k i j = altTo f P[k].length j) :
    Calls Tryd.prog 63 #[.pointer (some ⟨bC, 0, none⟩), .int .i64 (k : Int), .int .i64 (i : Int)] w fun e w' => e = .returned (aggN (endL (way P ws k i))) ∧ CIn P ws w0 bC bK aP cP aw cw w' ∧ Within w w' (fun b => b = bK) := by
  have hlC := hC.lt
  have hlow := hC.low.size
  have hlCC := hC.lC
  have hlKK := hC.lK
  have HC : Hid (CIn P ws w0 bC bK aP cP aw cw w) := hC
  obtain ⟨m, D, hO, hKn⟩ := hC.known
  have wk : (Lit.int .i64 (k : Int)).wf = true := wf_nat (by omega)
  have wi : (Lit.int .i64 (i : Int)).wf = true := wf_nat (by omega)
  have hbA : Below w.heap.size w ((w.alloc (.cells #[.int .i64 0, .int .i64 0, .int .i64 0, .int .i64 0, .int .i64 0, .int .i64 0, .int .i64 0, .int .i64 0, .int .i64 0, .int .i64 0, .int .i64 0] 63)).alloc (.cells #[.int .i64 (k : Int), .int .i64 (i : Int)] 106)) := ((Below.refl _ _).alloc (Nat.le_refl _) _).alloc (by simp) _
  have hsA : ((w.alloc (.cells #[.int .i64 0, .int .i64 0, .int .i64 0, .int .i64 0, .int .i64 0, .int .i64 0, .int .i64 0, .int .i64 0, .int .i64 0, .int .i64 0, .int .i64 0] 63)).alloc (.cells #[.int .i64 (k : Int), .int .i64 (i : Int)] 106)).heap.size = w.heap.size + 2 := by simp
  have hN1 : Nums ((w.alloc (.cells #[.int .i64 0, .int .i64 0, .int .i64 0, .int .i64 0, .int .i64 0, .int .i64 0, .int .i64 0, .int .i64 0, .int .i64 0, .int .i64 0, .int .i64 0] 63)).alloc (.cells #[.int .i64 (k : Int), .int .i64 (i : Int)] 106)) w.heap.size 63 (List.replicate 11 0) := (Nums.new w 63 (List.replicate 11 0)).below ((Below.refl _ _).alloc (Nat.le_refl _) _) (by simp)
  have key : ∀ (W : World) (cs : Array Value) (t : TypeId) (i : Nat), (W.alloc (.cells cs t)).cell? ⟨W.heap.size, i, none⟩ = cs[i]? := fun W cs t i => by simp
  have kS := fun j => key (w.alloc (.cells #[.int .i64 0, .int .i64 0, .int .i64 0, .int .i64 0, .int .i64 0, .int .i64 0, .int .i64 0, .int .i64 0, .int .i64 0, .int .i64 0, .int .i64 0] 63)) #[.int .i64 (k : Int), .int .i64 (i : Int)] 106 j
  rw [show (w.alloc (.cells #[.int .i64 0, .int .i64 0, .int .i64 0, .int .i64 0, .int .i64 0, .int .i64 0, .int .i64 0, .int .i64 0, .int .i64 0, .int .i64 0, .int .i64 0] 63)).heap.size = w.heap.size + 1 by simp] at kS
  obtain ⟨wA, hwA⟩ : ∃ wA, wA = (w.alloc (.cells #[.int .i64 0, .int .i64 0, .int .i64 0, .int .i64 0, .int .i64 0, .int .i64 0, .int .i64 0, .int .i64 0, .int .i64 0, .int .i64 0, .int .i64 0] 63)).alloc (.cells #[.int .i64 (k : Int), .int .i64 (i : Int)] 106) := ⟨_, rfl⟩
  rw [← hwA] at hbA hsA hN1 kS
  have kS0 := kS 0
  have kS1 := kS 1
  have HLK : Hid (∀ W, Below wA.heap.size wA W → (Instr.lookup 59 (.map (some bK)) (.agg #[.int .i64 (k : Int), .int .i64 (i : Int)]) true).run Tryd.prog W = .ok (.tuple #[aggN (if has D (klS (k : Int) (i : Int)) then endL (way P ws k i) else List.replicate 11 0), .bool (has D (klS (k : Int) (i : Int)))]) W) := fun W hW =>
    known_look ((hO.kept (grownBy_of_below hbA none) (by simp)).kept (grownBy_of_below hW none) (by simp)) hKn hp hn hk hi
  have HS0 : Hid (∀ W, Below wA.heap.size wA W → W.cell? ⟨bC, 2, none⟩ = some (.map (some bK)) ∧ W.cell? ⟨w.heap.size + 1, 0, none⟩ = some (.int .i64 (k : Int)) ∧ W.cell? ⟨w.heap.size + 1, 1, none⟩ = some (.int .i64 (i : Int))) := fun W hW =>
    ⟨(hW.cell (p := ⟨bC, 2, none⟩) (by show bC < _; omega)).trans ((hbA.cell (p := ⟨bC, 2, none⟩) hlC.1).trans hC.c2), (hW.cell (p := ⟨w.heap.size + 1, 0, none⟩) (by show w.heap.size + 1 < _; omega)).trans kS0, (hW.cell (p := ⟨w.heap.size + 1, 1, none⟩) (by show w.heap.size + 1 < _; omega)).trans kS1⟩
  have HNA : Hid (Nums wA w.heap.size 63 (List.replicate 11 0)) := hN1
  have HBA : Hid (Below w.heap.size w wA) := hbA
  have HNV : Hid (Nums (wA.alloc (.cells #[.int .i64 0, .int .i64 0, .int .i64 0, .int .i64 0, .int .i64 0, .int .i64 0, .int .i64 0, .int .i64 0, .int .i64 0, .int .i64 0, .int .i64 0] 63)) (w.heap.size + 2) 63 (List.replicate 11 0)) := by
    rw [← hsA]; exact Nums.new wA 63 (List.replicate 11 0)
  by_cases hd : has D (klS (k : Int) (i : Int)) = true
  · have HS : Hid (∀ W, Below wA.heap.size wA W → W.cell? ⟨bC, 2, none⟩ = some (.map (some bK)) ∧ W.cell? ⟨w.heap.size + 1, 0, none⟩ = some (.int .i64 (k : Int)) ∧ W.cell? ⟨w.heap.size + 1, 1, none⟩ = some (.int .i64 (i : Int)) ∧ (Instr.lookup 59 (.map (some bK)) (.agg #[.int .i64 (k : Int), .int .i64 (i : Int)]) true).run Tryd.prog W = .ok (.tuple #[aggN (endL (way P ws k i)), .bool true]) W) := fun W hW => by
      have h1 := HLK.out W hW
      rw [hd, if_pos rfl] at h1
      obtain ⟨a1, a2, a3⟩ := HS0.out W hW
      exact ⟨a1, a2, a3, h1⟩
    clear hfl hf hrow heq hO hKn h0 hN1 key kS kS0 kS1 HLK HS0 hC hbA
    go_enter Tryd.func63, Tryd.ntmps63
    go_wp2
    rw [← hwA]
    clear hwA
    refine wp_region_held_drew (S := (fun w' => w'.cell? ⟨bC, 2, none⟩ = some (.map (some bK)) ∧ w'.cell? ⟨w.heap.size + 1, 0, none⟩ = some (.int .i64 (k : Int)) ∧ w'.cell? ⟨w.heap.size + 1, 1, none⟩ = some (.int .i64 (i : Int)) ∧ (Instr.lookup 59 (.map (some bK)) (.agg #[.int .i64 (k : Int), .int .i64 (i : Int)]) true).run Tryd.prog w' = .ok (.tuple #[aggN (endL (way P ws k i)), .bool true]) w')) (by kernel_rfl) (HS.out _ (Below.drew (Below.refl _ _))) (fun hHeld => ?_)
    refine take_atL (i := 0) (d := some 19) (v := .pointer (some ⟨bC, 0, none⟩)) rfl rfl (by kernel_rfl) (by kernel_rfl) (by kernel_rfl) (fun _ _ _ h => h) (by rfl) ?_ hHeld ?_
    · intro w' hSw; obtain ⟨s0, s1, s2, s3⟩ := hSw; go_simp; first | done | rfl | (simp [s3])
    try simp only [Act.put, List.setIfInBounds_toArray, List.set_cons_zero, List.set_cons_succ]
    refine take_atL (i := 1) (d := some 20) (v := .pointer (some ⟨bC, 0, none⟩)) rfl rfl (by kernel_rfl) (by kernel_rfl) (by kernel_rfl) (fun _ _ _ h => h) (by rfl) ?_ hHeld ?_
    · intro w' hSw; obtain ⟨s0, s1, s2, s3⟩ := hSw; go_simp; first | done | rfl | (simp [s3])
    try simp only [Act.put, List.setIfInBounds_toArray, List.set_cons_zero, List.set_cons_succ]
    refine take_atL (i := 2) (d := some 21) (v := .pointer (some ⟨bC, 2, none⟩)) rfl rfl (by kernel_rfl) (by kernel_rfl) (by kernel_rfl) (fun _ _ _ h => h) (by rfl) ?_ hHeld ?_
    · intro w' hSw; obtain ⟨s0, s1, s2, s3⟩ := hSw; go_simp; first | done | rfl | (simp [s3])
    try simp only [Act.put, List.setIfInBounds_toArray, List.set_cons_zero, List.set_cons_succ]
    refine take_atL (i := 3) (d := some 22) (v := .map (some bK)) rfl rfl (by kernel_rfl) (by kernel_rfl) (by kernel_rfl) (fun _ _ _ h => h) (by rfl) ?_ hHeld ?_
    · intro w' hSw; obtain ⟨s0, s1, s2, s3⟩ := hSw; go_simp; first | done | rfl | (simp [s3])
    try simp only [Act.put, List.setIfInBounds_toArray, List.set_cons_zero, List.set_cons_succ]
    refine take_atL (i := 4) (d := some 23) (v := .agg #[.int .i64 (k : Int), .int .i64 (i : Int)]) rfl rfl (by kernel_rfl) (by kernel_rfl) (by kernel_rfl) (fun _ _ _ h => h) (by rfl) ?_ hHeld ?_
    · intro w' hSw; obtain ⟨s0, s1, s2, s3⟩ := hSw; go_simp; first | done | rfl | (simp [s3])
    try simp only [Act.put, List.setIfInBounds_toArray, List.set_cons_zero, List.set_cons_succ]
    refine take_atL (i := 5) (d := some 24) (v := .tuple #[aggN (endL (way P ws k i)), .bool true]) rfl rfl (by kernel_rfl) (by kernel_rfl) (by kernel_rfl) (fun _ _ _ h => h) (by rfl) ?_ hHeld ?_
    · intro w' hSw; obtain ⟨s0, s1, s2, s3⟩ := hSw; go_simp; first | done | rfl | (simp [s3])
    try simp only [Act.put, List.setIfInBounds_toArray, List.set_cons_zero, List.set_cons_succ]
    refine take_atL (i := 6) (d := some 18) (v := .tuple #[aggN (endL (way P ws k i)), .bool true]) rfl rfl (by kernel_rfl) (by kernel_rfl) (by kernel_rfl) (fun _ _ _ h => h) (by rfl) ?_ hHeld ?_
    · intro w' hSw; obtain ⟨s0, s1, s2, s3⟩ := hSw; go_simp; first | done | rfl | (simp [s3])
    try simp only [Act.put, List.setIfInBounds_toArray, List.set_cons_zero, List.set_cons_succ]
    refine take_atL (i := 7) (d := some 25) (v := aggN (endL (way P ws k i))) rfl rfl (by kernel_rfl) (by kernel_rfl) (by kernel_rfl) (fun _ _ _ h => h) (by rfl) ?_ hHeld ?_
    · intro w' hSw; obtain ⟨s0, s1, s2, s3⟩ := hSw; go_simp; first | done | rfl | (simp [s3])
    try simp only [Act.put, List.setIfInBounds_toArray, List.set_cons_zero, List.set_cons_succ]
    refine take_atL (i := 8) (d := some 26) (v := .bool true) rfl rfl (by kernel_rfl) (by kernel_rfl) (by kernel_rfl) (fun _ _ _ h => h) (by rfl) ?_ hHeld ?_
    · intro w' hSw; obtain ⟨s0, s1, s2, s3⟩ := hSw; go_simp; first | done | rfl | (simp [s3])
    try simp only [Act.put, List.setIfInBounds_toArray, List.set_cons_zero, List.set_cons_succ]
    refine wpAnyH_ready (rs := [9]) (by kernel_rfl) (by simp) ?_
    refine AllReadyH.cons (o := _) rfl (fun K hK => ?_) AllReadyH.nil
    rw [if_pos (by rfl)]
    go_simp
    refine hK.out _ _ (HS.out _ (((Below.refl _ _).alloc (Nat.le_refl _) _).drew)) (fun hHeld => ?_)
    clear hK K
    try simp only [Act.put, List.setIfInBounds_toArray, List.set_cons_zero, List.set_cons_succ]
    refine wpAnyH_ready (rs := [10]) (by kernel_rfl) (by simp) ?_
    refine AllReadyH.cons (o := _) rfl (fun K hK => ?_) AllReadyH.nil
    rw [if_pos (by rfl)]
    refine wp_storeN 63 _ _ (w.heap.size + 2) 0 63 (List.replicate 11 0) _ rfl rfl rfl (at11 _) (HNV.out.later (Below.drew (Below.refl _ _))) (by rw [endL_length]; decide) ?_
    intro w4 hN4 hg4
    rw [putN_whole (by rw [endL_length]; rfl)] at hN4
    have hb4 : Below wA.heap.size wA w4 := (((Below.refl _ _).alloc (Nat.le_refl _) _).drew).grown hg4 (by simp) (fun k e => by cases e; omega)
    refine hK.out _ _ (HS.out _ hb4) (fun hHeld => ?_)
    clear hK K
    try simp only [Act.put]
    refine take_atL (i := 11) (d := some 9) (v := .bool true) rfl rfl (by kernel_rfl) (by kernel_rfl) (by kernel_rfl) (fun _ _ _ h => h) (by rfl) ?_ hHeld ?_
    · intro w' hSw; obtain ⟨s0, s1, s2, s3⟩ := hSw; go_simp; first | done | rfl | (simp [s3])
    try simp only [Act.put]
    refine wpAnyH_done (by kernel_rfl) ?_ _
    clear hHeld
    have HN0 : Hid (Nums w4 w.heap.size 63 (List.replicate 11 0)) := HNA.out.below hb4 (by omega)
    go_wp2_with (first | (refine wpList_loadNW rfl 63 _ rfl (w.heap.size + 2) 63 (endL (way P ws k i)) rfl (at11 _) hN4 ?_) | (refine wpList_storeN rfl 63 _ _ rfl w.heap.size 0 63 (List.replicate 11 0) (endL (way P ws k i)) rfl rfl (at11 _) HN0.out (by rw [endL_length]; decide) ?_; intro w6 hN6 hg6))
    rw [putN_whole (by rw [endL_length]; rfl)] at hN6
    have hb6 : Below w.heap.size w w6 := (HBA.out.trans (hb4.mono HBA.out.size)).grown hg6 (by have := HBA.out.size; have := hb4.size; omega) (fun k e => by cases e; exact Nat.le_refl _)
    exact bodyPost_ret (v := aggN (endL (way P ws k i))) (ret_cellN 63 rfl rfl hN6 (at11 _)) rfl ⟨rfl, HC.out.later hb6, Within.of_below hb6 _⟩
  · have hd' : has D (klS (k : Int) (i : Int)) = false := by simpa using hd
    have HS : Hid (∀ W, Below wA.heap.size wA W → W.cell? ⟨bC, 2, none⟩ = some (.map (some bK)) ∧ W.cell? ⟨w.heap.size + 1, 0, none⟩ = some (.int .i64 (k : Int)) ∧ W.cell? ⟨w.heap.size + 1, 1, none⟩ = some (.int .i64 (i : Int)) ∧ (Instr.lookup 59 (.map (some bK)) (.agg #[.int .i64 (k : Int), .int .i64 (i : Int)]) true).run Tryd.prog W = .ok (.tuple #[aggN (endL (fun _ => 0)), .bool false]) W) := fun W hW => by
      have h1 := HLK.out W hW
      rw [hd', if_neg (by simp), endL_zero] at h1
      obtain ⟨a1, a2, a3⟩ := HS0.out W hW
      exact ⟨a1, a2, a3, h1⟩
    have HP : Hid (RD w0 (.slice aP P.length cP) (slD (Lay.list (Lay.list Lay.int)) P)) := h0
    have HROW : Hid (∀ a (ha : a < P[k].length) (W : World) (ar : Option Addr) (cr : Nat), CIn P ws w0 bC bK aP cP aw cw W → Reads w0 ar P[k][a] → Calls Tryd.prog 43 #[.pointer (some ⟨bC, 0, none⟩), .slice ar P[k][a].length cr, .int .i64 (i : Int)] W fun e w' => e = .returned (aggN (endL (f a))) ∧ CIn P ws w0 bC bK aP cP aw cw w' ∧ Within W w' (fun b => b = bK)) := fun a ha W ar cr h1 h2 => by
      rw [hf a ha]; exact hrow a ha W ar cr h1 h2
    have HFL : Hid (∀ a j, f a j ≤ 1000) := hfl
    have HEQ : Hid (way P ws k i = altTo f P[k].length) := funext heq
    have hkI : (k : Int) < (P.length : Int) := by omega
    clear hfl hf hrow heq hO hKn h0 hN1 key kS kS0 kS1 HLK hC hbA hd hd'
    go_enter Tryd.func63, Tryd.ntmps63
    go_wp2
    rw [← hwA]
    clear hwA
    refine wp_region_held_drew (S := (fun w' => w'.cell? ⟨bC, 2, none⟩ = some (.map (some bK)) ∧ w'.cell? ⟨w.heap.size + 1, 0, none⟩ = some (.int .i64 (k : Int)) ∧ w'.cell? ⟨w.heap.size + 1, 1, none⟩ = some (.int .i64 (i : Int)) ∧ (Instr.lookup 59 (.map (some bK)) (.agg #[.int .i64 (k : Int), .int .i64 (i : Int)]) true).run Tryd.prog w' = .ok (.tuple #[aggN (endL (fun _ => 0)), .bool false]) w')) (by kernel_rfl) (HS.out _ (Below.drew (Below.refl _ _))) (fun hHeld => ?_)
    refine take_atL (i := 0) (d := some 19) (v := .pointer (some ⟨bC, 0, none⟩)) rfl rfl (by kernel_rfl) (by kernel_rfl) (by kernel_rfl) (fun _ _ _ h => h) (by rfl) ?_ hHeld ?_
    · intro w' hSw; obtain ⟨s0, s1, s2, s3⟩ := hSw; go_simp; first | done | rfl | (simp [s3])
    try simp only [Act.put, List.setIfInBounds_toArray, List.set_cons_zero, List.set_cons_succ]
    refine take_atL (i := 1) (d := some 20) (v := .pointer (some ⟨bC, 0, none⟩)) rfl rfl (by kernel_rfl) (by kernel_rfl) (by kernel_rfl) (fun _ _ _ h => h) (by rfl) ?_ hHeld ?_
    · intro w' hSw; obtain ⟨s0, s1, s2, s3⟩ := hSw; go_simp; first | done | rfl | (simp [s3])
    try simp only [Act.put, List.setIfInBounds_toArray, List.set_cons_zero, List.set_cons_succ]
    refine take_atL (i := 2) (d := some 21) (v := .pointer (some ⟨bC, 2, none⟩)) rfl rfl (by kernel_rfl) (by kernel_rfl) (by kernel_rfl) (fun _ _ _ h => h) (by rfl) ?_ hHeld ?_
    · intro w' hSw; obtain ⟨s0, s1, s2, s3⟩ := hSw; go_simp; first | done | rfl | (simp [s3])
    try simp only [Act.put, List.setIfInBounds_toArray, List.set_cons_zero, List.set_cons_succ]
    refine take_atL (i := 3) (d := some 22) (v := .map (some bK)) rfl rfl (by kernel_rfl) (by kernel_rfl) (by kernel_rfl) (fun _ _ _ h => h) (by rfl) ?_ hHeld ?_
    · intro w' hSw; obtain ⟨s0, s1, s2, s3⟩ := hSw; go_simp; first | done | rfl | (simp [s3])
    try simp only [Act.put, List.setIfInBounds_toArray, List.set_cons_zero, List.set_cons_succ]
    refine take_atL (i := 4) (d := some 23) (v := .agg #[.int .i64 (k : Int), .int .i64 (i : Int)]) rfl rfl (by kernel_rfl) (by kernel_rfl) (by kernel_rfl) (fun _ _ _ h => h) (by rfl) ?_ hHeld ?_
    · intro w' hSw; obtain ⟨s0, s1, s2, s3⟩ := hSw; go_simp; first | done | rfl | (simp [s3])
    try simp only [Act.put, List.setIfInBounds_toArray, List.set_cons_zero, List.set_cons_succ]
    refine take_atL (i := 5) (d := some 24) (v := .tuple #[aggN (endL (fun _ => 0)), .bool false]) rfl rfl (by kernel_rfl) (by kernel_rfl) (by kernel_rfl) (fun _ _ _ h => h) (by rfl) ?_ hHeld ?_
    · intro w' hSw; obtain ⟨s0, s1, s2, s3⟩ := hSw; go_simp; first | done | rfl | (simp [s3])
    try simp only [Act.put, List.setIfInBounds_toArray, List.set_cons_zero, List.set_cons_succ]
    refine take_atL (i := 6) (d := some 18) (v := .tuple #[aggN (endL (fun _ => 0)), .bool false]) rfl rfl (by kernel_rfl) (by kernel_rfl) (by kernel_rfl) (fun _ _ _ h => h) (by rfl) ?_ hHeld ?_
    · intro w' hSw; obtain ⟨s0, s1, s2, s3⟩ := hSw; go_simp; first | done | rfl | (simp [s3])
    try simp only [Act.put, List.setIfInBounds_toArray, List.set_cons_zero, List.set_cons_succ]
    refine take_atL (i := 7) (d := some 25) (v := aggN (endL (fun _ => 0))) rfl rfl (by kernel_rfl) (by kernel_rfl) (by kernel_rfl) (fun _ _ _ h => h) (by rfl) ?_ hHeld ?_
    · intro w' hSw; obtain ⟨s0, s1, s2, s3⟩ := hSw; go_simp; first | done | rfl | (simp [s3])
    try simp only [Act.put, List.setIfInBounds_toArray, List.set_cons_zero, List.set_cons_succ]
    refine take_atL (i := 8) (d := some 26) (v := .bool false) rfl rfl (by kernel_rfl) (by kernel_rfl) (by kernel_rfl) (fun _ _ _ h => h) (by rfl) ?_ hHeld ?_
    · intro w' hSw; obtain ⟨s0, s1, s2, s3⟩ := hSw; go_simp; first | done | rfl | (simp [s3])
    try simp only [Act.put, List.setIfInBounds_toArray, List.set_cons_zero, List.set_cons_succ]
    refine wpAnyH_ready (rs := [9]) (by kernel_rfl) (by simp) ?_
    refine AllReadyH.cons (o := _) rfl (fun K hK => ?_) AllReadyH.nil
    rw [if_pos (by rfl)]
    go_simp
    refine hK.out _ _ (HS.out _ (((Below.refl _ _).alloc (Nat.le_refl _) _).drew)) (fun hHeld => ?_)
    clear hK K
    try simp only [Act.put, List.setIfInBounds_toArray, List.set_cons_zero, List.set_cons_succ]
    refine wpAnyH_ready (rs := [10]) (by kernel_rfl) (by simp) ?_
    refine AllReadyH.cons (o := _) rfl (fun K hK => ?_) AllReadyH.nil
    rw [if_pos (by rfl)]
    refine wp_storeN 63 _ _ (w.heap.size + 2) 0 63 (List.replicate 11 0) _ rfl rfl rfl (at11 _) (HNV.out.later (Below.drew (Below.refl _ _))) (by rw [endL_length]; decide) ?_
    intro w4 hN4 hg4
    rw [putN_whole (by rw [endL_length]; rfl)] at hN4
    have hb4 : Below wA.heap.size wA w4 := (((Below.refl _ _).alloc (Nat.le_refl _) _).drew).grown hg4 (by simp) (fun k e => by cases e; omega)
    refine hK.out _ _ (HS.out _ hb4) (fun hHeld => ?_)
    clear hK K
    try simp only [Act.put]
    refine take_atL (i := 11) (d := some 9) (v := .bool false) rfl rfl (by kernel_rfl) (by kernel_rfl) (by kernel_rfl) (fun _ _ _ h => h) (by rfl) ?_ hHeld ?_
    · intro w' hSw; obtain ⟨s0, s1, s2, s3⟩ := hSw; go_simp; first | done | rfl | (simp [s3])
    try simp only [Act.put]
    refine wpAnyH_done (by kernel_rfl) ?_ _
    clear hHeld
    have hb4w : Below w.heap.size w w4 := HBA.out.trans (hb4.mono HBA.out.size)
    have hz4 := hb4.size
    have hl4 := hN4.lt
    obtain ⟨nS, hs4⟩ : ∃ n, w4.heap.size = n := ⟨_, rfl⟩
    have hbB : Below w4.heap.size w4 (w4.alloc (.cells #[.int .i64 0, .int .i64 0, .int .i64 0, .int .i64 0, .int .i64 0, .int .i64 0, .int .i64 0, .int .i64 0, .int .i64 0, .int .i64 0, .int .i64 0] 63)) := (Below.refl _ _).alloc (Nat.le_refl _) _
    have hsB : (w4.alloc (.cells #[.int .i64 0, .int .i64 0, .int .i64 0, .int .i64 0, .int .i64 0, .int .i64 0, .int .i64 0, .int .i64 0, .int .i64 0, .int .i64 0, .int .i64 0] 63)).heap.size = nS + 1 := by simp [hs4]
    have HCB : Hid (CIn P ws w0 bC bK aP cP aw cw (w4.alloc (.cells #[.int .i64 0, .int .i64 0, .int .i64 0, .int .i64 0, .int .i64 0, .int .i64 0, .int .i64 0, .int .i64 0, .int .i64 0, .int .i64 0, .int .i64 0] 63))) := (HC.out.later hb4w).later hbB
    have HNB : Hid (Nums (w4.alloc (.cells #[.int .i64 0, .int .i64 0, .int .i64 0, .int .i64 0, .int .i64 0, .int .i64 0, .int .i64 0, .int .i64 0, .int .i64 0, .int .i64 0, .int .i64 0] 63)) w.heap.size 63 (List.replicate 11 0)) := (HNA.out.below hb4 (by omega)).later hbB
    have HSB : Hid (Nums (w4.alloc (.cells #[.int .i64 0, .int .i64 0, .int .i64 0, .int .i64 0, .int .i64 0, .int .i64 0, .int .i64 0, .int .i64 0, .int .i64 0, .int .i64 0, .int .i64 0] 63)) nS 63 (endL (altTo f 0))) := by
      show Nums _ _ _ _
      rw [show altTo f 0 = (fun _ => 0) from rfl, ← endL_zero, ← hs4]; exact Nums.new w4 63 (List.replicate 11 0)
    obtain ⟨_, kA0, kA1⟩ := HS0.out w4 hb4
    have HKB : Hid ((w4.alloc (.cells #[.int .i64 0, .int .i64 0, .int .i64 0, .int .i64 0, .int .i64 0, .int .i64 0, .int .i64 0, .int .i64 0, .int .i64 0, .int .i64 0, .int .i64 0] 63)).cell? ⟨w.heap.size + 1, 0, none⟩ = some (.int .i64 (k : Int)) ∧ (w4.alloc (.cells #[.int .i64 0, .int .i64 0, .int .i64 0, .int .i64 0, .int .i64 0, .int .i64 0, .int .i64 0, .int .i64 0, .int .i64 0, .int .i64 0, .int .i64 0] 63)).cell? ⟨w.heap.size + 1, 1, none⟩ = some (.int .i64 (i : Int))) := ⟨(hbB.cell (p := ⟨w.heap.size + 1, 0, none⟩) (by show w.heap.size + 1 < _; omega)).trans kA0, (hbB.cell (p := ⟨w.heap.size + 1, 1, none⟩) (by show w.heap.size + 1 < _; omega)).trans kA1⟩
    have HBw : Hid (Below w.heap.size w (w4.alloc (.cells #[.int .i64 0, .int .i64 0, .int .i64 0, .int .i64 0, .int .i64 0, .int .i64 0, .int .i64 0, .int .i64 0, .int .i64 0, .int .i64 0, .int .i64 0] 63))) := hb4w.trans (hbB.mono hb4w.size)
    obtain ⟨b1, o1, rfl, hb1, a1, ca1, q1, r1⟩ := HP.out.listAt hk
    have q0 := HCB.out.c0
    have q1a := (HCB.out.low.cell (p := ⟨b1, o1 + k, none⟩) hb1).trans q1
    have HR1 : Hid (RD w0 (.slice a1 P[k].length ca1) (slD (Lay.list Lay.int) P[k])) := r1
    clear hN4 hg4 hb4 hb4w hbB kA0 kA1 HS HS0 HNA HBA HNV r1 q1
    go_wp2
    have HWB : Hid (Within (w4.alloc (.cells #[.int .i64 0, .int .i64 0, .int .i64 0, .int .i64 0, .int .i64 0, .int .i64 0, .int .i64 0, .int .i64 0, .int .i64 0, .int .i64 0, .int .i64 0] 63)) (w4.alloc (.cells #[.int .i64 0, .int .i64 0, .int .i64 0, .int .i64 0, .int .i64 0, .int .i64 0, .int .i64 0, .int .i64 0, .int .i64 0, .int .i64 0, .int .i64 0] 63)) (fun b => b = bK ∨ b = nS)) := Within.refl _ _
    generalize w4.alloc (.cells #[.int .i64 0, .int .i64 0, .int .i64 0, .int .i64 0, .int .i64 0, .int .i64 0, .int .i64 0, .int .i64 0, .int .i64 0, .int .i64 0, .int .i64 0] 63) = wB at *
    have hnS : w.heap.size + 2 < nS := by omega
    clear q0 q1a
    go_loopw [38] (fun sa wr => ∃ a : Nat, a ≤ P[k].length ∧ sa = .int .i64 (a : Int) ∧ Hid (Nums wr nS 63 (endL (altTo f a))) ∧ Hid (CIn P ws w0 bC bK (some ⟨b1, o1, none⟩) cP aw cw wr) ∧ Hid (Within wB wr (fun b => b = bK ∨ b = nS))) (fun sa _ => P[k].length - (intOf sa).toNat)
    case atStart => exact ⟨0, Nat.zero_le _, rfl, HSB, HCB, HWB⟩
    case round =>
      obtain ⟨wR, hwR⟩ : ∃ y, y = wr := ⟨_, rfl⟩
      subst hwR
      obtain ⟨a, ha, rfl, HSa, HCa, HWa⟩ := hrel
      clear HSB HCB HWB
      by_cases hlt : a < P[k].length
      · obtain ⟨b2, o2, rfl, hb2, a2, ca2, q2, r2⟩ := HR1.out.listAt hlt
        have q2a := (HCa.out.low.cell (p := ⟨b2, o2 + a, none⟩) hb2).trans q2
        have X : Hid (Calls Tryd.prog 43 #[.pointer (some ⟨bC, 0, none⟩), .slice a2 P[k][a].length ca2, .int .i64 (i : Int)] wR fun e w' => e = .returned (aggN (endL (f a))) ∧ CIn P ws w0 bC bK (some ⟨b1, o1, none⟩) cP aw cw w' ∧ Within wR w' (fun b => b = bK)) := HROW.out a hlt wR a2 ca2 HCa.out r2.reads
        have haI : (a : Int) < (P[k].length : Int) := by omega
        have HFa : Hid (∀ j, f a j ≤ 1000) := HFL.out a
        have HST : Hid (∀ j, altTo f (a + 1) j = capN (altTo f a j + f a j)) := fun j => altTo_step
        generalize P[k][a] = row at *
        clear r2 q2 HROW
        go_wp2_with (go_at_call 43; refine X.out.mono ?_; rintro e w6 ⟨rfl, hC6, hW6⟩)
        have HN6 : Hid (Nums w6 nS 63 (endL (altTo2 f a 0))) := by
          rw [altTo2_start]; exact HSa.out.kept (hW6.block nS HSa.out.lt (by omega))
        have HC6 : Hid (CIn P ws w0 bC bK (some ⟨b1, o1, none⟩) cP aw cw w6) := hC6
        have HW6 : Hid (Within wB w6 (fun b => b = bK ∨ b = nS)) := HWa.out.trans (hW6.mono (fun b e => .inl e))
        have HG6 : Hid (w6.grownBy w6 (some nS)) := World.grownBy.refl _ _
        clear X hC6 hW6 HSa HCa HWa q2a
        go_loopw [46] (fun sq wr => ∃ q : Nat, q ≤ 11 ∧ sq = .int .i64 (q : Int) ∧ Hid (Nums wr nS 63 (endL (altTo2 f a q))) ∧ Hid (w6.grownBy wr (some nS))) (fun sq _ => 11 - (intOf sq).toNat)
        case atStart => exact ⟨0, Nat.zero_le _, rfl, HN6, HG6⟩
        case round =>
          obtain ⟨q, hq, rfl, HNq, HGq⟩ := hrel
          clear HN6 HG6
          by_cases hql : q < 11
          · have hqI : (q : Int) < 11 := by omega
            have hge := endL_get (f a) hql
            have hgm := endL_get (altTo2 f a q) hql
            have hma : altTo2 f a q q = altTo f a q := if_neg (Nat.lt_irrefl _)
            have hAq := altTo_le f a q
            have hFq := HFa.out q
            have Y : Hid (Calls Tryd.prog 64 #[.pointer (some ⟨nS, 0, none⟩), .int .i64 (q : Int), .int .i64 (f a q : Int)] wr fun e w' => e = .returned (.tuple #[]) ∧ Nums w' nS 63 (endL (altTo2 f a (q + 1))) ∧ wr.grownBy w' (some nS)) := by
              have := add_any nS 63 (endL (altTo2 f a q)) q (f a q) wr HNq.out (endL_length _) hql (by omega) (by rw [hgm, hma]; exact hAq)
              rw [hgm, hma, ← HST.out, endL_set, ← endL_congr (fun j _ => altTo2_step j)] at this
              exact this
            clear hgm hma hAq hFq
            go_wp2_with (first | (refine wpList_indexN rfl 63 3 _ _ rfl (endL (f a)) q rfl rfl (by rw [endL_length]; exact u_ends) u_int int_size (by rw [endL_length]; exact hql) ?_; rw [hge]) | (go_at_call 64; refine Y.out.mono ?_; rintro e w7 ⟨rfl, hN7, hg7⟩))
            go_roundw
            case rel => exact ⟨q + 1, by omega, by go_num, hN7, grownBy_trans HGq.out hg7⟩
            case measure => simp [intOf]; omega
          · have e : q = 11 := by omega
            subst e
            have hwi : Within w6 wr (fun b => b = nS) := Within.of_grown HGq.out (fun k e => by cases e; rfl)
            have HN7 : Hid (Nums wr nS 63 (endL (altTo f (a + 1)))) := by
              show Nums _ _ _ _
              rw [← endL_congr (u := altTo2 f a 11) (v := altTo f (a + 1)) (fun j hj => if_pos hj)]; exact HNq.out
            have HC7 : Hid (CIn P ws w0 bC bK (some ⟨b1, o1, none⟩) cP aw cw wr) := HC6.out.kept hwi (fun b e => by omega)
            have HW7 : Hid (Within wB wr (fun b => b = bK ∨ b = nS)) := HW6.out.trans (hwi.mono (fun b e => .inr e))
            clear HNq HGq HC6 HW6 hwi
            go_wp2
            go_roundw
            case rel => exact ⟨a + 1, by omega, by go_num, HN7, HC7, HW7⟩
            case measure => simp [intOf]; omega
      · have e : a = P[k].length := by omega
        subst e
        obtain ⟨WV, HWV⟩ : ∃ WV : Nat → Nat, Hid (altTo f P[k].length = WV) := ⟨altTo f P[k].length, Eq.refl (altTo f P[k].length)⟩
        rw [HWV.out] at HSa HEQ
        have hszW := HWa.out.size
        have eS := HWa.out.block (w.heap.size + 1) (by omega) (by omega)
        have eR := HWa.out.block w.heap.size (by omega) (by omega)
        have m0 := HCa.out.c2
        have m1 : wR.cell? ⟨w.heap.size + 1, 0, none⟩ = some (.int .i64 (k : Int)) := by rw [blk_cell eS]; exact HKB.out.1
        have m2 : wR.cell? ⟨w.heap.size + 1, 1, none⟩ = some (.int .i64 (i : Int)) := by rw [blk_cell eS]; exact HKB.out.2
        have m3 := HSa.out
        obtain ⟨mK, Dk, hOk, hKk⟩ := HCa.out.known
        obtain ⟨nK, hnK, hOn⟩ := known_room hOk hKk hp hn
        have HOK : Hid (wR.ownsMap Tryd.prog 106 RE bK nK Dk) := hOn
        have HKN : Hid (KnownAt P ws (Dk.put (klS (k : Int) (i : Int)) (encE (endL WV)))) := by
          have := known_put hOk.isMap hKk hk hi
          rw [HEQ.out] at this; exact this
        have HNR : Hid (Nums wR w.heap.size 63 (List.replicate 11 0)) := HNB.out.kept eR
        have lC := HCa.out.lt.1
        have nCK := HCa.out.ne
        have HS7 : Hid (∀ W, wR.grownBy W (some bK) → W.cell? ⟨bC, 2, none⟩ = some (.map (some bK)) ∧ W.cell? ⟨w.heap.size + 1, 0, none⟩ = some (.int .i64 (k : Int)) ∧ W.cell? ⟨w.heap.size + 1, 1, none⟩ = some (.int .i64 (i : Int)) ∧ Nums W nS 63 (endL WV)) := fun W hW => by
          have f1 := hW.block bC lC (fun e => nCK (Option.some.inj e))
          have f2 := hW.block (w.heap.size + 1) (by omega) (fun e => by have := Option.some.inj e; omega)
          exact ⟨by rw [blk_cell f1]; exact m0, by rw [blk_cell f2]; exact m1, by rw [blk_cell f2]; exact m2, m3.grown hW (fun e => by have := Option.some.inj e; omega)⟩
        have c0r := HCa.out.c0
        have c1r := HCa.out.c1
        have HLW : Hid (Below w0.heap.size w0 wR) := HCa.out.low
        clear hOk hKk hOn eS eR hszW HFL HR1 HP HROW
        generalize wR = wr at *
        go_wp2
        refine wp_region_held_drew (S := (fun w' => w'.cell? ⟨bC, 2, none⟩ = some (.map (some bK)) ∧ w'.cell? ⟨w.heap.size + 1, 0, none⟩ = some (.int .i64 (k : Int)) ∧ w'.cell? ⟨w.heap.size + 1, 1, none⟩ = some (.int .i64 (i : Int)) ∧ Nums w' nS 63 (endL WV))) (by kernel_rfl) ⟨m0, m1, m2, m3⟩ (fun hHeld => ?_)
        refine take_atL (i := 0) (d := some 55) (v := .pointer (some ⟨bC, 0, none⟩)) rfl rfl (by kernel_rfl) (by kernel_rfl) (by kernel_rfl) (fun _ _ _ h => h) (by rfl) ?_ hHeld ?_
        · intro w' hSw; obtain ⟨s0, s1, s2, s3⟩ := hSw; go_simp; first | done | rfl | (exact exec_loadNW (t := 63) (b := nS) rfl rfl (at11 _) s3)
        try simp only [Act.put, List.setIfInBounds_toArray, List.set_cons_zero, List.set_cons_succ]
        refine take_atL (i := 1) (d := some 56) (v := .pointer (some ⟨bC, 0, none⟩)) rfl rfl (by kernel_rfl) (by kernel_rfl) (by kernel_rfl) (fun _ _ _ h => h) (by rfl) ?_ hHeld ?_
        · intro w' hSw; obtain ⟨s0, s1, s2, s3⟩ := hSw; go_simp; first | done | rfl | (exact exec_loadNW (t := 63) (b := nS) rfl rfl (at11 _) s3)
        try simp only [Act.put, List.setIfInBounds_toArray, List.set_cons_zero, List.set_cons_succ]
        refine take_atL (i := 2) (d := some 57) (v := .pointer (some ⟨bC, 2, none⟩)) rfl rfl (by kernel_rfl) (by kernel_rfl) (by kernel_rfl) (fun _ _ _ h => h) (by rfl) ?_ hHeld ?_
        · intro w' hSw; obtain ⟨s0, s1, s2, s3⟩ := hSw; go_simp; first | done | rfl | (exact exec_loadNW (t := 63) (b := nS) rfl rfl (at11 _) s3)
        try simp only [Act.put, List.setIfInBounds_toArray, List.set_cons_zero, List.set_cons_succ]
        refine take_atL (i := 3) (d := some 58) (v := .map (some bK)) rfl rfl (by kernel_rfl) (by kernel_rfl) (by kernel_rfl) (fun _ _ _ h => h) (by rfl) ?_ hHeld ?_
        · intro w' hSw; obtain ⟨s0, s1, s2, s3⟩ := hSw; go_simp; first | done | rfl | (exact exec_loadNW (t := 63) (b := nS) rfl rfl (at11 _) s3)
        try simp only [Act.put, List.setIfInBounds_toArray, List.set_cons_zero, List.set_cons_succ]
        refine take_atL (i := 4) (d := some 59) (v := .agg #[.int .i64 (k : Int), .int .i64 (i : Int)]) rfl rfl (by kernel_rfl) (by kernel_rfl) (by kernel_rfl) (fun _ _ _ h => h) (by rfl) ?_ hHeld ?_
        · intro w' hSw; obtain ⟨s0, s1, s2, s3⟩ := hSw; go_simp; first | done | rfl | (exact exec_loadNW (t := 63) (b := nS) rfl rfl (at11 _) s3)
        try simp only [Act.put, List.setIfInBounds_toArray, List.set_cons_zero, List.set_cons_succ]
        refine take_atL (i := 5) (d := some 60) (v := aggN (endL WV)) rfl rfl (by kernel_rfl) (by kernel_rfl) (by kernel_rfl) (fun _ _ _ h => h) (by rfl) ?_ hHeld ?_
        · intro w' hSw; exact exec_loadNW (t := 63) (b := nS) rfl rfl (at11 _) hSw.2.2.2
        try simp only [Act.put, List.setIfInBounds_toArray, List.set_cons_zero, List.set_cons_succ]
        refine wpAnyH_ready (rs := [6]) (by kernel_rfl) (by simp) ?_
        refine AllReadyH.cons (o := _) rfl (fun K hK => ?_) AllReadyH.nil
        rw [if_pos (by rfl)]
        refine wp_mapUpdate_own _ _ _ _ 59 rfl 106 63 spotK u_known RE bK nK Dk rfl HOK.out.drew (by unfold maxLen; omega) _ _ _ rfl rfl (key_spot wk wi) _ [] (RE_mk _) ?_
        intro w7 hO7 hg7
        have hg7r : wr.grownBy w7 (some bK) := grownBy_trans (grownBy_of_below (Below.drew (Below.refl _ _)) _) hg7
        refine hK.out _ _ (HS7.out w7 hg7r) (fun hHeld => ?_)
        clear hK K
        try simp only [Act.put]
        refine wpAnyH_done (by kernel_rfl) ?_ _
        clear hHeld
        have hW7 : Within wr w7 (fun b => b = bK) := Within.of_grown hg7r (fun k e => by cases e; rfl)
        have HC7 : Hid (CIn P ws w0 bC bK (some ⟨b1, o1, none⟩) cP aw cw w7) := by
          have f1 := hW7.block bC lC nCK
          exact ⟨hW7.below HLW.out (fun b e => by omega), by omega, by omega, by rw [blk_cell f1]; exact c0r, by rw [blk_cell f1]; exact c1r, by rw [blk_cell f1]; exact m0, _, _, hO7, HKN.out⟩
        have HN7 : Hid (Nums w7 w.heap.size 63 (List.replicate 11 0)) := HNR.out.kept (hW7.block _ HNR.out.lt (by omega))
        have HS77 : Hid (Nums w7 nS 63 (endL WV)) := (HS7.out w7 hg7r).2.2.2
        clear hO7 hg7 hg7r HS7 HOK m0 m1 m2 m3 c0r c1r
        go_wp2_with (first | (refine wpList_loadNW rfl 63 _ rfl nS 63 (endL WV) rfl (at11 _) HS77.out ?_) | (refine wpList_storeN rfl 63 _ _ rfl w.heap.size 0 63 (List.replicate 11 0) (endL WV) rfl rfl (at11 _) HN7.out (by rw [endL_length]; decide) ?_; intro w9 hN9 hg9))
        rw [putN_whole (by rw [endL_length]; rfl)] at hN9
        have hwi : Within w7 w9 (fun b => b = w.heap.size) := Within.of_grown hg9 (fun k e => by cases e; rfl)
        have hWw : Within w w7 (fun b => b = bK) := ((Within.of_below HBw.out (fun b => b = bK)).comp HWa.out (fun k e => by rcases e with e | e; exact .inl e; exact .inr (by omega))).trans hW7
        exact bodyPost_ret (v := aggN (endL WV)) (ret_cellN 63 rfl rfl hN9 (at11 _)) rfl ⟨by rw [HEQ.out], HC7.out.kept hwi (fun b e => by omega), hWw.comp hwi (fun k e => .inr (by omega))⟩
end
end Go.Proofs.YtojbghmlcgadeabDoor
namespace Go.Proofs.YtojbghmlcgadeabDoor
open Go.RowKit

def cellsB (bs : List Bool) : Array Value := (bs.map Value.bool).toArray
/-- The value of such an array. -/
def aggB (bs : List Bool) : Value := .agg (cellsB bs)
/-- Block b is such an array. -/
def Bits (w : World) (b : Nat) (t : TypeId) (bs : List Bool) : Prop := w.heap[b]? = some (.cells (cellsB bs) t)

theorem cellsB_size (bs : List Bool) : (cellsB bs).size = bs.length := by simp [cellsB]
theorem cellsB_get (bs : List Bool) (i : Nat) : (cellsB bs)[i]? = bs[i]?.map Value.bool := by simp [cellsB]
theorem cellsB_one (bs : List Bool) : (cellsB bs).all (·.oneCell') = true := by
  refine Array.all_eq_true_iff_forall_mem.2 fun v hv => ?_
  simp only [cellsB, List.mem_toArray, List.mem_map] at hv
  obtain ⟨x, _, rfl⟩ := hv
  rfl
section
variable {w w' : World} {b : Nat} {t : TypeId} {bs : List Bool}
theorem Bits.lt (h : Bits w b t bs) : b < w.heap.size := (Array.getElem?_eq_some_iff.1 h).1
theorem Bits.cell (h : Bits w b t bs) {n : Nat} (hn : n < bs.length) : w.cell? ⟨b, n, none⟩ = some (.bool (bs.getD n false)) := by
  rw [cell_of_row w b n _ t (0, 0) h, cellsB_get]
  simp [List.getD, hn]
theorem Bits.frozen (h : Bits w b t bs) (n : Nat) : w.frozen? ⟨b, n, none⟩ = false := by
  unfold Bits at h
  simp [World.frozen?, h]
theorem Bits.kept (h : Bits w b t bs) (hb : w'.heap[b]? = w.heap[b]?) : Bits w' b t bs := by unfold Bits at *; rw [hb]; exact h
theorem Bits.below (h : Bits w b t bs) {N : Nat} (hb : Below N w w') (hN : b < N) : Bits w' b t bs := h.kept (hb.block b hN)
theorem Bits.later (h : Bits w b t bs) (hb : Below w.heap.size w w') : Bits w' b t bs := h.below hb h.lt
theorem Bits.grown (h : Bits w b t bs) {row : Option Nat} (hg : w.grownBy w' row) (hne : row ≠ some b) : Bits w' b t bs := h.kept (hg.block b h.lt (fun e => hne e.symm))
theorem Bits.set (h : Bits w b t bs) (n : Nat) (v : Bool) : Bits (w.setCell ⟨b, n, none⟩ (.bool v)) b t (bs.set n v) := by
  unfold Bits at *
  have e : cellsB (bs.set n v) = (cellsB bs).setIfInBounds n (.bool v) := by
    simp [cellsB, List.map_set]
  rw [e]
  simp [World.setCell, Array.getElem?_modify, h]
theorem Bits.range (h : Bits w b t bs) (o n : Nat) : w.rangeAt b o (((bs.drop o).take n).map Value.bool) := by
  intro j v hv
  rw [cell_of_row w b (o + j) _ t (0, 0) h, cellsB_get]
  rw [List.getElem?_map, List.getElem?_take] at hv
  split at hv
  · rw [List.getElem?_drop] at hv; exact hv
  · simp at hv
theorem Bits.there (h : Bits w b t bs) (o n : Nat) (hn : o + n ≤ bs.length) : w.there b o n := fun j hj => ⟨by rw [h.cell (by omega)]; rfl, h.frozen _⟩
end
theorem Bits.new (w : World) (t : TypeId) (bs : List Bool) : Bits (w.alloc (.cells (cellsB bs) t)) w.heap.size t bs := by
  exact heap_alloc_new w _
theorem setCell_grown (w : World) (b n : Nat) (v : Value) : w.grownBy (w.setCell ⟨b, n, none⟩ v) (some b) :=
  ⟨rfl, rfl, rfl, by simp, fun k _ hne => Below.heap_setCell w _ v k (fun e => hne (by rw [e]))⟩

/-- What is there behind the flags cs are put in from o on. -/
def putB : List Bool → Nat → List Bool → List Bool
  | bs, _, [] => bs
  | bs, o, v :: r => putB (bs.set o v) (o + 1) r
theorem putB_length : ∀ (cs : List Bool) (bs : List Bool) (o : Nat), (putB bs o cs).length = bs.length
  | [], _, _ => rfl
  | v :: r, bs, o => by rw [putB, putB_length r]; simp
theorem putB_get : ∀ (cs : List Bool) (bs : List Bool) (o i : Nat), o + cs.length ≤ bs.length → (putB bs o cs).getD i false = if o ≤ i ∧ i < o + cs.length then cs.getD (i - o) false else bs.getD i false
  | [], bs, o, i, _ => by rw [putB, if_neg (by simp)]
  | v :: r, bs, o, i, h => by
    simp only [List.length_cons] at h
    rw [putB, putB_get r (bs.set o v) (o + 1) i (by simp; omega)]
    simp only [List.length_cons]
    by_cases e : i = o
    · subst e
      rw [if_neg (by omega), if_pos (by omega), Nat.sub_self]
      simp [List.getD, show i < bs.length by omega]
    · by_cases g : o + 1 ≤ i ∧ i < o + 1 + r.length
      · rw [if_pos g, if_pos (by omega), show i - o = (i - (o + 1)) + 1 by omega]
        rfl
      · rw [if_neg g, if_neg (by omega)]
        simp [List.getD, Ne.symm e]
theorem list_ext_getD {us bs : List Bool} (hl : us.length = bs.length) (h : ∀ i, i < us.length → us.getD i false = bs.getD i false) : us = bs := by
  apply List.ext_getElem hl
  intro i h1 h2
  have := h i h1
  simpa [List.getD, h1, h2] using this
theorem putB_whole {bs cs : List Bool} (h : cs.length = bs.length) : putB bs 0 cs = cs := by
  apply list_ext_getD (by rw [putB_length]; exact h.symm)
  intro i hi
  rw [putB_length] at hi
  rw [putB_get _ _ _ _ (by omega), if_pos (by omega), Nat.sub_zero]
theorem putB_tail {us bs cs : List Bool} (h : cs.length = bs.length) : putB (us ++ bs) us.length cs = us ++ cs := by
  apply list_ext_getD (by rw [putB_length]; simp [h])
  intro i hi
  rw [putB_length] at hi
  rw [putB_get _ _ _ _ (by simp [h])]
  simp only [List.length_append] at hi
  by_cases g : us.length ≤ i
  · rw [if_pos ⟨g, by omega⟩, List.getD_eq_getElem?_getD, List.getD_eq_getElem?_getD, List.getElem?_append_right g]
  · rw [if_neg (by omega), List.getD_eq_getElem?_getD, List.getD_eq_getElem?_getD, List.getElem?_append_left (by omega), List.getElem?_append_left (by omega)]
theorem setCells_bits : ∀ (cs bs : List Bool) (o : Nat) (w : World) (b : Nat) (t : TypeId), Bits w b t bs → Bits (w.setCells b o (cs.map Value.bool)) b t (putB bs o cs) ∧ w.grownBy (w.setCells b o (cs.map Value.bool)) (some b)
  | [], bs, o, w, b, t, h => ⟨h, World.grownBy.refl _ _⟩
  | v :: r, bs, o, w, b, t, h => by
    rw [List.map_cons, World.setCells, putB]
    have := setCells_bits r (bs.set o v) (o + 1) _ b t (h.set o v)
    exact ⟨this.1, grownBy_trans (setCell_grown w b o _) this.2⟩

section
variable {P : Program}
theorem wpList_val {ops : Array Oper} {rest : List Oper} {o : Oper} {a : Act} {w w' : World} {v : Value} {Q : Exit → Act → World → Prop} (hgd : Region.wanted o (yielded ops a.tmps) = true) (hr : (execOp a.eval o).run P w = .ok (.value v) w') (h : wpList P ops Q rest (a.put o.dst v) w') : wpList P ops Q (o :: rest) a w := by
  refine wpList_step fun K hK => ?_
  rw [if_pos hgd]
  unfold Oper.wp
  rw [hr, Oper.upon_value]
  exact hK _ _ h
theorem wpList_unit {ops : Array Oper} {rest : List Oper} {o : Oper} {a : Act} {w w' : World} {Q : Exit → Act → World → Prop} (hgd : Region.wanted o (yielded ops a.tmps) = true) (hr : (execOp a.eval o).run P w = .ok .skip w') (h : wpList P ops Q rest (a.put o.dst undef) w') : wpList P ops Q (o :: rest) a w := by
  refine wpList_step fun K hK => ?_
  rw [if_pos hgd]
  unfold Oper.wp
  rw [hr, Oper.upon_skip]
  exact hK _ _ h

/-- A type of such arrays: its cells, its form. -/
structure BitT (P : Program) (ty : TypeId) (n : Nat) : Prop where
  info : (P.info? ty).map (fun i => (i.zero, i.size)) = some (some (.agg (Array.replicate n (.bool false))), n)
  desc : ∃ d, P.underlying ty = some d ∧ d.isRow = true
theorem BitT.size {ty : TypeId} {n : Nat} (h : BitT P ty n) : (P.info? ty).map (·.size) = some n := by
  have := h.info
  cases hq : P.info? ty with
  | none => simp [hq] at this
  | some i => simp [hq] at this; simp [this.2]
theorem BitT.zero {ty : TypeId} {n : Nat} (h : BitT P ty n) (w : World) : (zeroValue ty).run P w = .ok (.agg (Array.replicate n (.bool false))) w := by
  have := h.info
  cases hq : P.info? ty with
  | none => simp [hq] at this
  | some i => simp [hq] at this; simp [zeroValue, typeInfo, hq, this.1]
theorem cellsB_rep (n : Nat) : cellsB (List.replicate n false) = Array.replicate n (.bool false) := by
  simp [cellsB]

/-- The whole array, or a part of it, is read. -/
theorem exec_loadB {ρ : Operand → Value} {o : Oper} {w : World} {ty t : TypeId} {x : Operand} {b off n : Nat} {bs : List Bool} (ho : o.op = .load ty x) (hx : ρ x = .pointer (some ⟨b, off, none⟩)) (hT : BitT P ty n) (hB : Bits w b t bs) (hn : off + n ≤ bs.length) :
    (execOp ρ o).run P w = .ok (.value (aggB ((bs.drop off).take n))) w := by
  obtain ⟨d, hu, hd⟩ := hT.desc
  have hl : (((bs.drop off).take n).map Value.bool).length = n := by simp; omega
  have := run_loadVar_mid (P := P) w b off ty (((bs.drop off).take n).map Value.bool) d (hB.range off n) hu hd (by rw [hl]; exact hT.size)
  unfold execOp
  simp only [ho, hx, Instr.loadAt, Instr.sureAddr, Sem.run_bind, Sem.run_pure, Result.andThen_ok, this]
  rfl
theorem exec_loadW {ρ : Operand → Value} {o : Oper} {w : World} {ty t : TypeId} {x : Operand} {b : Nat} {bs : List Bool} (ho : o.op = .load ty x) (hx : ρ x = .pointer (some ⟨b, 0, none⟩)) (hT : BitT P ty bs.length) (hB : Bits w b t bs) :
    (execOp ρ o).run P w = .ok (.value (aggB bs)) w := by
  have := exec_loadB (P := P) ho hx hT hB (by omega)
  simpa using this
/-- It is stored. -/
theorem exec_storeB {ρ : Operand → Value} {o : Oper} {w : World} {ty t : TypeId} {x y : Operand} {b off : Nat} {bs cs : List Bool} (ho : o.op = .store ty x y) (hx : ρ x = .pointer (some ⟨b, off, none⟩)) (hy : ρ y = aggB cs) (hT : BitT P ty cs.length) (hB : Bits w b t bs) (hn : off + cs.length ≤ bs.length) :
    ∃ w', (execOp ρ o).run P w = .ok .skip w' ∧ Bits w' b t (putB bs off cs) ∧ w.grownBy w' (some b) := by
  have h1 := run_storeVar_mid (P := P) w b off ty (cellsB cs) (hB.there off _ (by rw [cellsB_size]; exact hn)) (by rw [cellsB_size]; exact hT.size) (cellsB_one cs)
  have h2 := setCells_bits cs bs off w b t hB
  refine ⟨_, ?_, h2.1, h2.2⟩
  unfold execOp
  simp only [ho, hx, hy, aggB, Instr.storeAt, Instr.sureAddr, Sem.run_bind, Sem.run_pure, Result.andThen_ok, h1]
  rfl
theorem exec_boxB {ρ : Operand → Value} {o : Oper} {w : World} {ty : TypeId} {x : Operand} {bs : List Bool} (ho : o.op = .box ty x) (hx : ρ x = aggB bs) :
    ∃ w', (execOp ρ o).run P w = .ok (.value (.pointer (some ⟨w.heap.size, 0, none⟩))) w' ∧ Bits w' w.heap.size ty bs ∧ Below w.heap.size w w' ∧ w'.heap.size = w.heap.size + 1 := by
  refine ⟨w.alloc (.cells (cellsB bs) ty), ?_, Bits.new w ty bs, (Below.refl _ _).alloc (Nat.le_refl _) _, by simp⟩
  unfold execOp
  simp only [ho, hx, aggB, Instr.box, newVar, newRow, Value.cells]
  simp
theorem exec_allocB {ρ : Operand → Value} {o : Oper} {w : World} {ty : TypeId} {n : Nat} (ho : o.op = .alloc ty) (hT : BitT P ty n) :
    ∃ w', (execOp ρ o).run P w = .ok (.value (.pointer (some ⟨w.heap.size, 0, none⟩))) w' ∧ Bits w' w.heap.size ty (List.replicate n false) ∧ Below w.heap.size w w' ∧ w'.heap.size = w.heap.size + 1 := by
  refine ⟨w.alloc (.cells (cellsB (List.replicate n false)) ty), ?_, Bits.new w ty _, (Below.refl _ _).alloc (Nat.le_refl _) _, by simp⟩
  unfold execOp
  simp only [ho, Instr.alloc, newVar, newRow, Sem.run_bind, hT.zero, Result.andThen_ok, Value.cells, cellsB_rep]
  simp
theorem exec_indexB {ρ : Operand → Value} {o : Oper} {w : World} {ty e : TypeId} {x y : Operand} {bs : List Bool} {i : Nat} (ho : o.op = .index ty x y) (hx : ρ x = aggB bs) (hy : ρ y = .int .i64 i) (hu : P.underlying ty = some (.array bs.length e)) (he : P.underlying e = some .bool) (hz : (P.info? e).map (·.size) = some 1) (hi : i < bs.length) :
    (execOp ρ o).run P w = .ok (.value (.bool (bs.getD i false))) w := by
  have hz' : (sizeOf e).run P w = .ok 1 w := by
    cases hq : P.info? e with
    | none => simp [hq] at hz
    | some j => simp [hq] at hz; simp [sizeOf, typeInfo, hq, hz]
  have hg : (isAgg e).run P w = .ok false w := by simp [isAgg, run_underlying he]
  have hc : (cellsB bs)[i]? = some (.bool (bs.getD i false)) := by rw [cellsB_get]; simp [List.getD, hi]
  unfold execOp
  simp only [ho, hx, hy, aggB, Instr.index, asIntOf]
  simp [run_underlying hu, hz', part, hg, hi, hc]
end
end Go.Proofs.YtojbghmlcgadeabDoor
namespace Go.Proofs.YtojbghmlcgadeabDoor
open Go.RowKit
section
variable {P : Program}
theorem run_items_of {e : TypeId} {c d : Nat} {xs ys : Array Value} {w : World} {r : Nat → Bool} : ∀ is : List Nat, (∀ i ∈ is, ∃ x y, (part e xs (i * c)).run P w = .ok x w ∧ (part e ys (i * c)).run P w = .ok y w ∧ (Op.equalIn d e x y).run P w = .ok (r i) w) → (Op.eqItems d e c xs ys is).run P w = .ok (is.all r) w
  | [], _ => by simp [Op.eqItems]
  | i :: is, h => by
    obtain ⟨x, y, h1, h2, h3⟩ := h i List.mem_cons_self
    have ih := run_items_of is (fun j hj => h j (List.mem_cons_of_mem _ hj))
    rw [Op.eqItems]
    simp only [Sem.run_bind, h1, h2, h3, Result.andThen_ok, List.all_cons]
    cases r i
    · simp
    · simp only [Bool.not_true, Bool.false_eq_true, if_false, Bool.true_and]; exact ih
theorem all_range_eq {us bs : List Bool} {n : Nat} (ha : us.length = n) (hb : bs.length = n) : ((List.range n).all fun i => us.getD i false == bs.getD i false) = decide (us = bs) := by
  rw [Bool.eq_iff_iff]
  simp only [List.all_eq_true, List.mem_range, beq_iff_eq, decide_eq_true_eq]
  constructor
  · intro h; exact list_ext_getD (by omega) (fun i hi => h i (by omega))
  · rintro rfl; exact fun _ _ => rfl
/-- Arrays of bools. -/
theorem run_eq_flags {ty e : TypeId} {n : Nat} {w : World} (d : Nat) (hu : P.underlying ty = some (.array n e)) (he : P.underlying e = some .bool) (hz : (P.info? e).map (·.size) = some 1) {us bs : List Bool} (ha : us.length = n) (hb : bs.length = n) :
    (Op.equalIn (d + 2) ty (aggB us) (aggB bs)).run P w = .ok (decide (us = bs)) w := by
  cases hq : P.info? e with
  | none => simp [hq] at hz
  | some j =>
    have hc : P.cellsOf e = 1 := by rw [Program.cellsOf, hz]; rfl
    unfold aggB
    rw [run_equalIn_array w (d + 1) _ _ hu hq, hc, run_items_of (r := fun i => us.getD i false == bs.getD i false), all_range_eq ha hb]
    intro i hi
    rw [List.mem_range] at hi
    have hx : (cellsB us)[i]? = some (.bool (us.getD i false)) := by rw [cellsB_get]; simp [List.getD, ha, hi]
    have hy : (cellsB bs)[i]? = some (.bool (bs.getD i false)) := by rw [cellsB_get]; simp [List.getD, hb, hi]
    have hg : (isAgg e).run P w = .ok false w := by simp [isAgg, run_underlying he]
    refine ⟨.bool (us.getD i false), .bool (bs.getD i false), ?_, ?_, run_equalIn_bool w d e _ _ he⟩
    · simp only [part, Sem.run_bind, hg, Result.andThen_ok, Nat.mul_one, hx]; rfl
    · simp only [part, Sem.run_bind, hg, Result.andThen_ok, Nat.mul_one, hy]; rfl
theorem chunks_eq {us bs : List Bool} {n m : Nat} (ha : us.length = m * n) (hb : bs.length = m * n) : ((List.range m).all fun i => decide ((us.drop (i * n)).take n = (bs.drop (i * n)).take n)) = decide (us = bs) := by
  rw [Bool.eq_iff_iff]
  simp only [List.all_eq_true, List.mem_range, decide_eq_true_eq]
  constructor
  · intro h
    apply list_ext_getD (by omega)
    intro i hi
    have hn : 0 < n := by
      rcases Nat.eq_zero_or_pos n with e | e
      · subst e; omega
      · exact e
    have h1 : i / n < m := by
      rw [Nat.div_lt_iff_lt_mul hn]; omega
    have h2 := h (i / n) h1
    have h3 := congrArg (fun l : List Bool => l.getD (i % n) false) h2
    have h4 := Nat.mod_lt i hn
    have h5 : i / n * n + i % n = i := by rw [Nat.mul_comm]; exact Nat.div_add_mod i n
    simpa [List.getD, List.getElem?_take, h4, h5] using h3
  · rintro rfl; exact fun _ _ => rfl
/-- Arrays of arrays of bools. -/
theorem run_eq_table {ty e e2 : TypeId} {n m : Nat} {w : World} (d : Nat) (hu : P.underlying ty = some (.array m e)) (he : P.underlying e = some (.array n e2)) (he2 : P.underlying e2 = some .bool) (hz : (P.info? e).map (·.size) = some n) (hz2 : (P.info? e2).map (·.size) = some 1) {us bs : List Bool} (ha : us.length = m * n) (hb : bs.length = m * n) :
    (Op.equalIn (d + 3) ty (aggB us) (aggB bs)).run P w = .ok (decide (us = bs)) w := by
  cases hq : P.info? e with
  | none => simp [hq] at hz
  | some j =>
    have hc : P.cellsOf e = n := by rw [Program.cellsOf, hz]; rfl
    have hs : (sizeOf e).run P w = .ok n w := by rw [run_sizeOf w hq, hc]
    have hg : (isAgg e).run P w = .ok true w := by simp [isAgg, run_underlying he]
    have hp : ∀ (cs : List Bool) (i : Nat), (part e (cellsB cs) (i * n)).run P w = .ok (aggB ((cs.drop (i * n)).take n)) w := by
      intro cs i
      have hx : (cellsB cs).extract (i * n) (i * n + n) = cellsB ((cs.drop (i * n)).take n) := by
        apply Array.ext_getElem?
        intro k
        rw [cellsB_get, Array.getElem?_extract]
        simp only [List.getElem?_take, List.getElem?_drop, cellsB_get]
        rw [cellsB_size]
        by_cases g : k < n
        · by_cases g2 : i * n + k < cs.length
          · rw [if_pos (by omega), if_pos g]
          · rw [if_neg (by omega), if_pos g, List.getElem?_eq_none (by omega)]; rfl
        · rw [if_neg (by omega), if_neg g]; rfl
      simp only [part, Sem.run_bind, hg, Result.andThen_ok, if_true, hs, hx]
      rfl
    unfold aggB
    rw [run_equalIn_array w (d + 2) _ _ hu hq, hc, run_items_of (r := fun i => decide ((us.drop (i * n)).take n = (bs.drop (i * n)).take n)), chunks_eq ha hb]
    intro i hi
    rw [List.mem_range] at hi
    have hin : i * n + n ≤ m * n := by
      have := Nat.mul_le_mul_right n (show i + 1 ≤ m by omega)
      rw [Nat.succ_mul] at this; exact this
    refine ⟨_, _, hp us i, hp bs i, run_eq_flags d he he2 hz2 ?_ ?_⟩
    · rw [List.length_take, List.length_drop]; omega
    · rw [List.length_take, List.length_drop]; omega
theorem exec_eqlB {ρ : Operand → Value} {o : Oper} {w : World} {ty rt : TypeId} {x y : Operand} {us bs : List Bool} (ho : o.op = .binOp .eql ty x y rt) (hx : ρ x = aggB us) (hy : ρ y = aggB bs) (hg : P.eqGuardType P.depth ty = false) (he : (Op.equalIn 10000 ty (aggB us) (aggB bs)).run P w = .ok (decide (us = bs)) w) :
    (execOp ρ o).run P w = .ok (.value (.bool (decide (us = bs)))) w := by
  unfold execOp
  unfold aggB at *
  simp only [ho, hx, hy, Sem.run_bind, run_eqGuard_agg w _ _ _ _ _ _ hg, Result.andThen_ok, run_eql_struct, he, Sem.run_pure]
/-- Parts are put together. -/
theorem zip_putL (cs : List Bool) : ∀ (bs : List Bool) (o k : Nat), ((cs.map Value.bool).zipIdx k).foldl (fun (ys : Array Value) (p : Value × Nat) => ys.setIfInBounds (o + p.2) p.1) (cellsB bs) = cellsB (putB bs (o + k) cs) := by
  induction cs with
  | nil => intro bs o k; rfl
  | cons v r ih =>
    intro bs o k
    have h := ih (bs.set (o + k) v) o (k + 1)
    have e : cellsB (bs.set (o + k) v) = (cellsB bs).setIfInBounds (o + k) (.bool v) := by simp [cellsB, List.map_set]
    rw [putB, show o + k + 1 = o + (k + 1) by omega, ← h, List.map_cons, List.zipIdx_cons, List.foldl_cons, e]
theorem zip_put (cs bs : List Bool) (o k : Nat) : ((cellsB cs).zipIdx k).foldl (fun (ys : Array Value) (p : Value × Nat) => ys.setIfInBounds (o + p.2) p.1) (cellsB bs) = cellsB (putB bs (o + k) cs) := by
  rw [← zip_putL cs bs o k, ← Array.foldl_toList]
  congr 1
  simp [cellsB]
theorem fill_put {place : Nat → Option (Nat × Nat)} {bs cs : List Bool} {i off : Nat} {rest : List (Nat × Value)} (h : place i = some (off, cs.length)) (hn : off + cs.length ≤ bs.length) : Instr.fill place (cellsB bs) ((i, aggB cs) :: rest) = Instr.fill place (cellsB (putB bs off cs)) rest := by
  have z := zip_put cs bs off 0
  rw [Instr.fill, h]
  simp only [aggB, Value.cells, cellsB_size]
  rw [if_neg (by simp; omega)]
  congr 1
end
end Go.Proofs.YtojbghmlcgadeabDoor
namespace Go.Proofs.YtojbghmlcgadeabDoor
open Go.RowKit

section
variable {P : Program}
theorem wpList_boxB {ops : Array Oper} {rest : List Oper} {o : Oper} {a : Act} {w : World} {Q : Exit → Act → World → Prop} (hgd : Region.wanted o (yielded ops a.tmps) = true) (ty : TypeId) (x : Operand) (ho : o.op = .box ty x) (bs : List Bool) (hx : a.eval x = aggB bs)
    (h : ∀ w', Bits w' w.heap.size ty bs → Below w.heap.size w w' → w'.heap.size = w.heap.size + 1 → wpList P ops Q rest (a.put o.dst (.pointer (some ⟨w.heap.size, 0, none⟩))) w') : wpList P ops Q (o :: rest) a w := by
  obtain ⟨w', h1, h2, h3, h4⟩ := exec_boxB (P := P) (w := w) ho hx
  exact wpList_val hgd h1 (h w' h2 h3 h4)
theorem wpList_allocB {ops : Array Oper} {rest : List Oper} {o : Oper} {a : Act} {w : World} {Q : Exit → Act → World → Prop} (hgd : Region.wanted o (yielded ops a.tmps) = true) (ty : TypeId) (ho : o.op = .alloc ty) (n : Nat) (hT : BitT P ty n)
    (h : ∀ w', Bits w' w.heap.size ty (List.replicate n false) → Below w.heap.size w w' → w'.heap.size = w.heap.size + 1 → wpList P ops Q rest (a.put o.dst (.pointer (some ⟨w.heap.size, 0, none⟩))) w') : wpList P ops Q (o :: rest) a w := by
  obtain ⟨w', h1, h2, h3, h4⟩ := exec_allocB (P := P) (w := w) (ρ := a.eval) ho hT
  exact wpList_val hgd h1 (h w' h2 h3 h4)
theorem wpList_loadB {ops : Array Oper} {rest : List Oper} {o : Oper} {a : Act} {w : World} {Q : Exit → Act → World → Prop} (hgd : Region.wanted o (yielded ops a.tmps) = true) (ty : TypeId) (x : Operand) (ho : o.op = .load ty x) (b off n : Nat) (t : TypeId) (bs : List Bool) (hx : a.eval x = .pointer (some ⟨b, off, none⟩)) (hT : BitT P ty n) (hB : Bits w b t bs) (hn : off + n ≤ bs.length)
    (h : wpList P ops Q rest (a.put o.dst (aggB ((bs.drop off).take n))) w) : wpList P ops Q (o :: rest) a w :=
  wpList_val hgd (exec_loadB ho hx hT hB hn) h
theorem wpList_loadW {ops : Array Oper} {rest : List Oper} {o : Oper} {a : Act} {w : World} {Q : Exit → Act → World → Prop} (hgd : Region.wanted o (yielded ops a.tmps) = true) (ty : TypeId) (x : Operand) (ho : o.op = .load ty x) (b : Nat) (t : TypeId) (bs : List Bool) (hx : a.eval x = .pointer (some ⟨b, 0, none⟩)) (hT : BitT P ty bs.length) (hB : Bits w b t bs)
    (h : wpList P ops Q rest (a.put o.dst (aggB bs)) w) : wpList P ops Q (o :: rest) a w :=
  wpList_val hgd (exec_loadW ho hx hT hB) h
theorem wpList_storeB {ops : Array Oper} {rest : List Oper} {o : Oper} {a : Act} {w : World} {Q : Exit → Act → World → Prop} (hgd : Region.wanted o (yielded ops a.tmps) = true) (ty : TypeId) (x y : Operand) (ho : o.op = .store ty x y) (b off : Nat) (t : TypeId) (bs cs : List Bool) (hx : a.eval x = .pointer (some ⟨b, off, none⟩)) (hy : a.eval y = aggB cs) (hT : BitT P ty cs.length) (hB : Bits w b t bs) (hn : off + cs.length ≤ bs.length)
    (h : ∀ w', Bits w' b t (putB bs off cs) → w.grownBy w' (some b) → wpList P ops Q rest (a.put o.dst undef) w') : wpList P ops Q (o :: rest) a w := by
  obtain ⟨w', h1, h2, h3⟩ := exec_storeB (P := P) ho hx hy hT hB hn
  exact wpList_unit hgd h1 (h w' h2 h3)
theorem wpList_eqlB {ops : Array Oper} {rest : List Oper} {o : Oper} {a : Act} {w : World} {Q : Exit → Act → World → Prop} (hgd : Region.wanted o (yielded ops a.tmps) = true) (ty rt : TypeId) (x y : Operand) (ho : o.op = .binOp .eql ty x y rt) (cs bs : List Bool) (hx : a.eval x = aggB cs) (hy : a.eval y = aggB bs) (hg : P.eqGuardType P.depth ty = false) (he : (Op.equalIn 10000 ty (aggB cs) (aggB bs)).run P w = .ok (decide (cs = bs)) w)
    (h : wpList P ops Q rest (a.put o.dst (.bool (decide (cs = bs)))) w) : wpList P ops Q (o :: rest) a w :=
  wpList_val hgd (exec_eqlB ho hx hy hg he) h
theorem wpList_indexB {ops : Array Oper} {rest : List Oper} {o : Oper} {a : Act} {w : World} {Q : Exit → Act → World → Prop} (hgd : Region.wanted o (yielded ops a.tmps) = true) (ty e : TypeId) (x y : Operand) (ho : o.op = .index ty x y) (bs : List Bool) (i : Nat) (hx : a.eval x = aggB bs) (hy : a.eval y = .int .i64 i) (hu : P.underlying ty = some (.array bs.length e)) (he : P.underlying e = some .bool) (hz : (P.info? e).map (·.size) = some 1) (hi : i < bs.length)
    (h : wpList P ops Q rest (a.put o.dst (.bool (bs.getD i false))) w) : wpList P ops Q (o :: rest) a w :=
  wpList_val hgd (exec_indexB ho hx hy hu he hz hi) h
end

theorem row_of {P : Program} {ty : TypeId} (h : (P.underlying ty).map TypeDesc.isRow = some true) : ∃ d, P.underlying ty = some d ∧ d.isRow = true := by
  cases hq : P.underlying ty with
  | none => simp [hq] at h
  | some d => exact ⟨d, rfl, by simpa [hq] using h⟩
set_option maxRecDepth 100000 in
theorem bt_flags : BitT Tryd.prog 87 27 := ⟨by kernel_rfl, row_of (by kernel_rfl)⟩
set_option maxRecDepth 100000 in
theorem bt_table : BitT Tryd.prog 99 540 := ⟨by kernel_rfl, row_of (by kernel_rfl)⟩
theorem bool_size : (Tryd.prog.info? 4).map (·.size) = some 1 := by kernel_rfl
theorem u_flags : Tryd.prog.underlying 87 = some (.array 27 4) := by kernel_rfl
theorem u_bool : Tryd.prog.underlying 4 = some .bool := by kernel_rfl

/-- The numbers below k whose flag is up. -/
def numsB (f : Nat → Bool) : Nat → List Int
  | 0 => []
  | k + 1 => if f k then numsB f k ++ [(k : Int)] else numsB f k
theorem numsB_len (f : Nat → Bool) (k : Nat) : (numsB f k).length ≤ k := by
  induction k with
  | zero => simp [numsB]
  | succ k ih =>
    rw [numsB]
    split
    · rw [List.length_append, List.length_singleton]; omega
    · omega
theorem mem_numsB {f : Nat → Bool} {k : Nat} {x : Int} : x ∈ numsB f k ↔ ∃ n : Nat, n < k ∧ x = n ∧ f n = true := by
  induction k with
  | zero => simp [numsB]
  | succ k ih =>
    rw [numsB]
    split
    · rename_i h
      rw [List.mem_append, ih, List.mem_singleton]
      constructor
      · rintro (⟨n, h1, h2, h3⟩ | rfl)
        · exact ⟨n, by omega, h2, h3⟩
        · exact ⟨k, by omega, rfl, h⟩
      · rintro ⟨n, h1, h2, h3⟩
        by_cases e : n = k
        · subst e; exact .inr h2
        · exact .inl ⟨n, by omega, h2, h3⟩
    · rename_i h
      rw [ih]
      constructor
      · rintro ⟨n, h1, h2, h3⟩; exact ⟨n, by omega, h2, h3⟩
      · rintro ⟨n, h1, h2, h3⟩
        refine ⟨n, ?_, h2, h3⟩
        by_cases e : n = k
        · subst e; exact absurd h3 h
        · omega
theorem numsB_sorted (f : Nat → Bool) (k : Nat) : (numsB f k).Pairwise (· < ·) := by
  induction k with
  | zero => exact List.Pairwise.nil
  | succ k ih =>
    rw [numsB]
    split
    · rw [List.pairwise_append]
      refine ⟨ih, List.pairwise_singleton _ _, fun x hx y hy => ?_⟩
      obtain ⟨n, h1, rfl, _⟩ := mem_numsB.1 hx
      rw [List.mem_singleton] at hy
      omega
    · exact ih

/-- All symbols of the row are of parts whose flag is up. -/
def allB (bs : List Bool) (row : List Int) : Bool := row.all fun x => decide (100 ≤ x ∧ x - 100 < 20) && bs.getD (x - 100).toNat false
theorem allB_step {p : Int → Bool} {xs : List Int} {k : Nat} (h : (xs.take k).all p = true) (hk : k < xs.length) (g : p xs[k] = true) : (xs.take (k + 1)).all p = true := by
  rw [List.take_succ_eq_append_getElem hk, List.all_append, h]; simp [g]
theorem allB_no {p : Int → Bool} {xs : List Int} {k : Nat} (hk : k < xs.length) (g : p xs[k] = false) : xs.all p = false := by
  rw [Bool.eq_false_iff]; intro h
  rw [List.all_eq_true] at h
  have := h _ (List.getElem_mem hk)
  rw [g] at this; cases this
theorem allB_end {p : Int → Bool} {xs : List Int} {k : Nat} (h : (xs.take k).all p = true) (hk : ¬ k < xs.length) : xs.all p = true := by
  rwa [List.take_of_length_le (by omega)] at h

set_option maxRecDepth 100000 in
theorem allOf_any (zs : List Int) (a : Option Addr) (c : Nat) (bs : List Bool) (w : World) (h : Reads w a zs) (hl : zs.length ≤ 1048576) (hz : ∀ z ∈ zs, -9223372036854775808 ≤ z ∧ z ≤ 9223372036854775807) (hb : bs.length = 27) :
    Calls Tryd.prog 77 #[.slice a zs.length c, aggB bs] w fun e w' => e = .returned (.bool (allB bs zs)) ∧ Below w.heap.size w w' := by
  have HZ : Hid (∀ z ∈ zs, -9223372036854775808 ≤ z ∧ z ≤ 9223372036854775807) := hz
  clear hz
  go_enter Tryd.func77, Tryd.ntmps77
  go_wp2_with (refine wpList_boxB rfl 87 _ rfl bs rfl ?_; intro w1 hB1 hb1 hs1)
  go_loop [9] (fun s => ∃ k : Nat, k ≤ zs.length ∧ s = .int .i64 k ∧ Hid ((zs.take k).all (fun x => decide (100 ≤ x ∧ x - 100 < 20) && bs.getD (x - 100).toNat false) = true)) (fun s => zs.length - (intOf s).toNat)
  case atStart => exact ⟨0, Nat.zero_le _, rfl, by show _ = _; simp⟩
  case round =>
    obtain ⟨k, hk, rfl, HK⟩ := hrel
    have h1 := h.below hb1
    by_cases hlt : k < zs.length
    · obtain ⟨b, off, rfl, hbb, hc⟩ := h1.at hlt
      have q1 := hc k hlt
      rw [List.getD_eq_getElem?_getD, List.getElem?_eq_getElem hlt, Option.getD_some] at q1
      have hr := HZ.out zs[k] (List.getElem_mem hlt)
      have HS : Hid (100 ≤ zs[k] ∧ zs[k] - 100 < 20 → bs.getD (zs[k] - 100).toNat false = true → (zs.take (k + 1)).all (fun x => decide (100 ≤ x ∧ x - 100 < 20) && bs.getD (x - 100).toNat false) = true) := fun g1 g2 => allB_step HK.out hlt (by simp only [decide_eq_true g1, Bool.true_and]; exact g2)
      have HN : Hid ((100 ≤ zs[k] ∧ zs[k] - 100 < 20 → bs.getD (zs[k] - 100).toNat false = false) → allB bs zs = false) := fun g1 => by
        refine allB_no hlt ?_
        by_cases g2 : 100 ≤ zs[k] ∧ zs[k] - 100 < 20
        · simp only [g1 g2, Bool.and_false]
        · simp only [decide_eq_false g2, Bool.false_and]
      clear hc h h1 HK
      generalize zs[k] = z at *
      by_cases z1 : 100 ≤ z
      · by_cases z2 : z - 100 < 20
        · obtain ⟨n, hn⟩ : ∃ n : Nat, z = 100 + (n : Int) := ⟨(z - 100).toNat, by omega⟩
          subst hn
          have hn2 : n < 27 := by omega
          have q2 := hB1.cell (n := n) (by omega)
          have e1 : (100 + (n : Int) - 100).toNat = n := by omega
          have e2 : (100 + (n : Int) - 100) = n := by omega
          rw [e1] at HS HN
          by_cases z3 : bs.getD n false = true
          · rw [z3] at q2
            have HSS : Hid _ := HS.out ⟨z1, z2⟩ z3
            clear HS HN z3
            go_wp2
            go_round
            case rel => exact ⟨k + 1, by omega, by go_num, HSS.out⟩
            case measure => simp [intOf]; omega
          · have z4 : bs.getD n false = false := by simpa using z3
            rw [z4] at q2
            have HNN : Hid (allB bs zs = false) := HN.out (fun _ => z4)
            clear HS HN z3 z4
            go_wp2
            go_ret
            exact ⟨ret_bool (by rw [HNN.out]), hb1⟩
        · have HNN : Hid (allB bs zs = false) := HN.out (fun g => absurd g.2 z2)
          clear HS HN
          go_wp2
          go_ret
          exact ⟨ret_bool (by rw [HNN.out]), hb1⟩
      · have HNN : Hid (allB bs zs = false) := HN.out (fun g => absurd g.1 z1)
        clear HS HN
        go_wp2
        go_ret
        exact ⟨ret_bool (by rw [HNN.out]), hb1⟩
    · have HE : Hid (allB bs zs = true) := allB_end HK.out hlt
      clear h h1 HK
      go_wp2
      go_ret
      exact ⟨ret_bool (by rw [HE.out]), hb1⟩
end Go.Proofs.YtojbghmlcgadeabDoor
namespace Go.Proofs.YtojbghmlcgadeabDoor
open Go.RowKit

section
variable (st : Nat → List Int → List Bool → List Bool)
def leI (k : Nat) (Q : List (List Int)) (T : List Bool) : Nat → List Bool
  | 0 => T
  | i + 1 => st k (Q.getD i []) (leI k Q T i)
def leK (P : List (List (List Int))) (T : List Bool) : Nat → List Bool
  | 0 => T
  | k + 1 => leI st k (P.getD k []) (leK P T k) (P.getD k []).length
/-- What holds at the start and is kept by each row's step holds of T. -/
def Grows (P : List (List (List Int))) (T0 T : List Bool) : Prop := ∀ I : List Bool → Prop, I T0 → (∀ k (hk : k < P.length) i (hi : i < P[k].length) T, I T → I (st k P[k][i] T)) → I T
end
variable {st : Nat → List Int → List Bool → List Bool}
theorem leI_next {k i : Nat} {Q : List (List Int)} {T : List Bool} (h : i < Q.length) : leI st k Q T (i + 1) = st k Q[i] (leI st k Q T i) := by
  have e : Q.getD i [] = Q[i] := by simp [List.getD, h]
  rw [leI, e]
theorem leK_next {P : List (List (List Int))} {T : List Bool} {k : Nat} (h : k < P.length) : leK st P T (k + 1) = leI st k P[k] (leK st P T k) P[k].length := by
  have e : P.getD k [] = P[k] := by simp [List.getD, h]
  rw [leK, e]
theorem Grows.refl (P : List (List (List Int))) (T : List Bool) : Grows st P T T := fun _ h _ => h
theorem Grows.leI {P : List (List (List Int))} {T0 T : List Bool} (h : Grows st P T0 T) {k : Nat} (hk : k < P.length) (i : Nat) (hi : i ≤ P[k].length) : Grows st P T0 (leI st k P[k] T i) := by
  intro I h0 hS
  induction i with
  | zero => exact h I h0 hS
  | succ i ih => rw [leI_next (by omega)]; exact hS k hk i (by omega) _ (ih (by omega))
theorem Grows.leK {P : List (List (List Int))} {T0 T : List Bool} (h : Grows st P T0 T) (k : Nat) (hk : k ≤ P.length) : Grows st P T0 (leK st P T k) := by
  induction k with
  | zero => exact h
  | succ k ih => rw [leK_next (by omega)]; exact (ih (by omega)).leI (by omega) _ (Nat.le_refl _)
/-- Steps that leave as it was or raise a flag. -/
def Raises (st : Nat → List Int → List Bool → List Bool) (P : List (List (List Int))) (n : Nat) : Prop := ∀ k (hk : k < P.length) i (hi : i < P[k].length) (T : List Bool), T.length = n → (st k P[k][i] T).length = n ∧ (st k P[k][i] T = T ∨ cntB T < cntB (st k P[k][i] T))
theorem Raises.leI {P : List (List (List Int))} {n : Nat} (h : Raises st P n) {k : Nat} (hk : k < P.length) {T : List Bool} (hT : T.length = n) (i : Nat) (hi : i ≤ P[k].length) : (leI st k P[k] T i).length = n ∧ (leI st k P[k] T i = T ∨ cntB T < cntB (leI st k P[k] T i)) := by
  induction i with
  | zero => exact ⟨hT, .inl rfl⟩
  | succ i ih =>
    have h1 := ih (by omega)
    have h2 := h k hk i (by omega) _ h1.1
    rw [leI_next (by omega)]
    refine ⟨h2.1, ?_⟩
    rcases h1.2 with e1 | e1
    · rcases h2.2 with e2 | e2
      · left; rw [e2]; exact e1
      · right; rw [e1] at e2 ⊢; exact e2
    · rcases h2.2 with e2 | e2
      · right; rw [e2]; exact e1
      · right; omega
theorem Raises.leK {P : List (List (List Int))} {n : Nat} (h : Raises st P n) {T : List Bool} (hT : T.length = n) (k : Nat) (hk : k ≤ P.length) : (leK st P T k).length = n ∧ (leK st P T k = T ∨ cntB T < cntB (leK st P T k)) := by
  induction k with
  | zero => exact ⟨hT, .inl rfl⟩
  | succ k ih =>
    have h1 := ih (by omega)
    have h2 := h.leI (k := k) (by omega) h1.1 _ (Nat.le_refl _)
    rw [leK_next (by omega)]
    refine ⟨h2.1, ?_⟩
    rcases h1.2 with e1 | e1
    · rcases h2.2 with e2 | e2
      · left; rw [e2]; exact e1
      · right; rw [e1] at e2 ⊢; exact e2
    · rcases h2.2 with e2 | e2
      · right; rw [e2]; exact e1
      · right; omega
/-- Where a round brings nothing new, no row's step does. -/
theorem Raises.fix {P : List (List (List Int))} {n : Nat} (h : Raises st P n) {T : List Bool} (hT : T.length = n) (e : Go.Proofs.YtojbghmlcgadeabDoor.leK st P T P.length = T) {k : Nat} (hk : k < P.length) {i : Nat} (hi : i < P[k].length) : st k P[k][i] T = T := by
  have stepK : ∀ j, j < P.length → Go.Proofs.YtojbghmlcgadeabDoor.leK st P T (j + 1) = Go.Proofs.YtojbghmlcgadeabDoor.leK st P T j ∨ cntB (Go.Proofs.YtojbghmlcgadeabDoor.leK st P T j) < cntB (Go.Proofs.YtojbghmlcgadeabDoor.leK st P T (j + 1)) := by
    intro j hj
    rw [leK_next hj]
    exact (h.leI hj (h.leK hT j (by omega)).1 _ (Nat.le_refl _)).2
  have hK := steps_fix (m := cntB) (f := fun j => Go.Proofs.YtojbghmlcgadeabDoor.leK st P T (min j P.length)) (fun j => by
    by_cases hj : j < P.length
    · have e1 : min (j + 1) P.length = j + 1 := by omega
      have e2 : min j P.length = j := by omega
      show Go.Proofs.YtojbghmlcgadeabDoor.leK st P T (min (j + 1) P.length) = _ ∨ _
      rw [e1, e2]; exact stepK j hj
    · left
      have e1 : min (j + 1) P.length = P.length := by omega
      have e2 : min j P.length = P.length := by omega
      show Go.Proofs.YtojbghmlcgadeabDoor.leK st P T (min (j + 1) P.length) = _
      rw [e1, e2]) (n := P.length) (by
      show Go.Proofs.YtojbghmlcgadeabDoor.leK st P T (min P.length P.length) = Go.Proofs.YtojbghmlcgadeabDoor.leK st P T (min 0 P.length)
      rw [Nat.min_self, Nat.zero_min]; exact e)
  have kk : ∀ j, j ≤ P.length → Go.Proofs.YtojbghmlcgadeabDoor.leK st P T j = T := by
    intro j hj
    have := hK j hj
    have e1 : min j P.length = j := by omega
    have e2 : min 0 P.length = 0 := by omega
    simp only [e1, e2] at this
    exact this
  have e1 : Go.Proofs.YtojbghmlcgadeabDoor.leI st k P[k] T P[k].length = T := by
    have := leK_next (st := st) (T := T) hk
    rw [kk (k + 1) (by omega), kk k (by omega)] at this
    exact this.symm
  have hI := steps_fix (m := cntB) (f := fun j => Go.Proofs.YtojbghmlcgadeabDoor.leI st k P[k] T (min j P[k].length)) (fun j => by
    by_cases hj : j < P[k].length
    · have e1 : min (j + 1) P[k].length = j + 1 := by omega
      have e2 : min j P[k].length = j := by omega
      show Go.Proofs.YtojbghmlcgadeabDoor.leI st k P[k] T (min (j + 1) P[k].length) = _ ∨ _
      rw [e1, e2, leI_next hj]; exact (h k hk j hj _ (h.leI hk hT j (by omega)).1).2
    · left
      have e1 : min (j + 1) P[k].length = P[k].length := by omega
      have e2 : min j P[k].length = P[k].length := by omega
      show Go.Proofs.YtojbghmlcgadeabDoor.leI st k P[k] T (min (j + 1) P[k].length) = _
      rw [e1, e2]) (n := P[k].length) (by
      show Go.Proofs.YtojbghmlcgadeabDoor.leI st k P[k] T (min P[k].length P[k].length) = Go.Proofs.YtojbghmlcgadeabDoor.leI st k P[k] T (min 0 P[k].length)
      rw [Nat.min_self, Nat.zero_min]; exact e1)
  have ii : ∀ j, j ≤ P[k].length → Go.Proofs.YtojbghmlcgadeabDoor.leI st k P[k] T j = T := by
    intro j hj
    have := hI j hj
    have e1 : min j P[k].length = j := by omega
    have e2 : min 0 P[k].length = 0 := by omega
    simp only [e1, e2] at this
    exact this
  have := ii (i + 1) (by omega)
  rw [leI_next hi, ii i (by omega)] at this
  exact this
/-- The flags of a set of numbers; of sets of such. -/
def flagsOf (E : List Int) : List Bool := (List.range 27).map fun (n : Nat) => hasL E (n : Int)
theorem flagsOf_length (E : List Int) : (flagsOf E).length = 27 := by simp [flagsOf]
theorem flagsOf_get (E : List Int) {n : Nat} (h : n < 27) : (flagsOf E).getD n false = hasL E (n : Int) := by simp [flagsOf, List.getD, h]
/-- One row's step of emptiesOf. -/
def emS (allB : List Bool → List Int → Bool) (k : Nat) (row : List Int) (T : List Bool) : List Bool := bstep T (k, fun b => allB b row)
end Go.Proofs.YtojbghmlcgadeabDoor
namespace Go.Proofs.YtojbghmlcgadeabDoor
open Go.RowKit

theorem eq_flags27 {w : World} {cs bs : List Bool} (h1 : cs.length = 27) (h2 : bs.length = 27) : (Op.equalIn 10000 87 (aggB cs) (aggB bs)).run Tryd.prog w = .ok (decide (cs = bs)) w := run_eq_flags 9998 u_flags u_bool bool_size h1 h2
theorem guard_flags : Tryd.prog.eqGuardType Tryd.prog.depth 87 = false := by kernel_rfl

/-- One row's step. -/
theorem emS_raises (p : List Bool → List Int → Bool) (P : List (List (List Int))) : Raises (emS p) P 27 := fun k _ i _ T hT => ⟨by rw [emS, bstep_length]; exact hT, bstep_or _ _⟩
theorem emS_yes {p : List Bool → List Int → Bool} {k : Nat} {row : List Int} {T : List Bool} (h : T.getD k false = true) : emS p k row T = T.set k true := by simp only [emS, bstep, h, Bool.true_or]
theorem emS_no {p : List Bool → List Int → Bool} {k : Nat} {row : List Int} {T : List Bool} (h : T.getD k false = false) : emS p k row T = T.set k (p T row) := by simp only [emS, bstep, h, Bool.false_or]

theorem at27 {T : List Bool} (hl : T.length = 27) : BitT Tryd.prog 87 T.length := by rw [hl]; exact bt_flags
theorem ahead_facts {n1 : Nat} {w2 wr w3 w4 : World} {t : TypeId} {T : List Bool} (hbel : Below n1 w2 wr) (hn : n1 < wr.heap.size) (hBT : Bits wr n1 t T) (hb3 : Below wr.heap.size wr w3) (hs3 : w3.heap.size = wr.heap.size + 1) (hTl : T.length = 27) (hB4 : Bits w4 wr.heap.size 87 (putB (List.replicate 27 false) 0 T)) (hg4 : w3.grownBy w4 (some wr.heap.size)) :
    Below n1 w2 w4 ∧ Bits w4 n1 t T ∧ Bits w4 wr.heap.size 87 T := by
  have e : putB (List.replicate 27 false) 0 T = T := putB_whole (by simp [hTl])
  rw [e] at hB4
  refine ⟨?_, ?_, hB4⟩
  · exact (hbel.trans (hb3.mono (by omega))).grown hg4 (by omega) (fun k hk => by cases hk; omega)
  · exact (hBT.later hb3).grown hg4 (by intro h; cases h; omega)
theorem ret_cell {fn : Func} {p : Tmp} {tmps : Array Value} {w : World} {g : Nat} {t : TypeId} {bs : List Bool} (ty : TypeId) (h : fn.results = #[.cell p ty]) (hp : tmps.getD p undef = .pointer (some ⟨g, 0, none⟩)) (hB : Bits w g t bs) (hT : BitT Tryd.prog ty bs.length) : (results fn tmps).run Tryd.prog w = .ok (aggB bs) w := by
  obtain ⟨d, hu, hd⟩ := hT.desc
  exact results_cell_row h tmps w g t (cellsB bs) (0, 0) d hp hB hu (by cases d <;> first | rfl | cases hd) (by rw [cellsB_size]; exact hT.size)

end Go.Proofs.YtojbghmlcgadeabDoor
namespace Go.Proofs.YtojbghmlcgadeabDoor
open Go.RowKit

set_option maxHeartbeats 4000000 in
set_option maxRecDepth 100000 in
theorem leastParts_P (p : List Bool → List Int → Bool) (P : List (List (List Int))) (a0 : Option Addr) (c0 : Nat) (w : World) (h0 : RD w (.slice a0 P.length c0) (slD (Lay.list (Lay.list Lay.int)) P)) (hok : gramOkB P = true)
    (hcl : ∀ (W : World) (T : List Bool) (k : Nat) (hk : k < P.length) (i : Nat) (hi : i < P[k].length) (a : Option Addr) (c : Nat), Below w.heap.size w W → T.length = 27 → RD w (.slice a P[k][i].length c) (slD Lay.int P[k][i]) →
      Calls Tryd.prog 71 #[.slice a P[k][i].length c, aggB T] W fun e w' => e = .returned (.bool (p T P[k][i])) ∧ Below W.heap.size W w') :
    Calls Tryd.prog 70 #[.agg #[.slice a0 P.length c0], .func (.func 71) #[] #[]] w fun e w' => ∃ T, e = .returned (aggB T) ∧ T.length = 27 ∧ Grows (emS p) P (List.replicate 27 false) T ∧ leK (emS p) P T P.length = T ∧ Below w.heap.size w w' := by
  have F := Fits.of hok
  have HF : Hid (Fits P) := F
  have hp := F.parts
  have HRz : Hid (Raises (emS p) P 27) := emS_raises p P
  have HCL : Hid (∀ (W : World) (T : List Bool) (k : Nat) (hk : k < P.length) (i : Nat) (hi : i < P[k].length) (a : Option Addr) (c : Nat), Below w.heap.size w W → T.length = 27 → RD w (.slice a P[k][i].length c) (slD Lay.int P[k][i]) →
      Calls Tryd.prog 71 #[.slice a P[k][i].length c, aggB T] W fun e w' => e = .returned (.bool (p T P[k][i])) ∧ Below W.heap.size W w') := hcl
  clear F hok hcl
  have B0 := (Below.refl w.heap.size w).alloc (Nat.le_refl _) (.cells #[.slice a0 P.length c0] 28)
  have HQ0 : Hid ((w.alloc (.cells #[.slice a0 P.length c0] 28)).cell? ⟨w.heap.size, 0, none⟩ = some (.slice a0 P.length c0)) := by show _ = _; simp
  have HR0 : Hid (RD w (.slice a0 P.length c0) (slD (Lay.list (Lay.list Lay.int)) P)) := h0
  have hsb : (w.alloc (.cells #[.slice a0 P.length c0] 28)).heap.size = w.heap.size + 1 := by simp
  clear h0
  go_enter Tryd.func70, Tryd.ntmps70
  go_wp2_with (first | (refine wpList_allocB (w := w.alloc _) rfl 87 rfl 27 bt_flags ?_; rw [hsb]; intro w1 hB1 hb1 hs1) | (refine wpList_allocB (w := w1) rfl 87 rfl 27 bt_flags ?_; intro w2 hB2 hb2 hs2))
  generalize w.alloc (.cells #[.slice a0 P.length c0] 28) = wb at *
  simp only [Act.put, List.setIfInBounds_toArray, List.set_cons_zero, List.set_cons_succ]
  -- what is known below the flags
  have hs1' : w1.heap.size = w.heap.size + 2 := by omega
  have HQ : Hid (∀ W, Below w1.heap.size w2 W → W.cell? ⟨w.heap.size, 0, none⟩ = some (.slice a0 P.length c0) ∧ Below w.heap.size w W ∧ Bits W (w.heap.size + 1) 87 (List.replicate 27 false)) := by
    intro W hW
    have b1 : Below (w.heap.size + 1) wb W := hb1.trans ((hb2.mono (by omega)).trans (hW.mono (by omega)))
    refine ⟨(b1.cell (p := ⟨w.heap.size, 0, none⟩) (by simp)).trans HQ0.out, B0.trans (b1.mono (by omega)), ?_⟩
    exact (hB1.below hb2 (by omega)).below hW (by omega)
  clear HQ0 B0 hB1 hb1 hs1
  clear hb2 hs2
  generalize w1.heap.size = n1 at *
  have hn1w : w.heap.size + 1 < n1 := by omega
  clear hs1' hsb
  go_loopg [] 27 (fun g wr => ∃ T : List Bool, Aside (T.length = 27 ∧ cntB T + g = 27 ∧ Grows (emS p) P (List.replicate 27 false) T ∧ Bits wr n1 87 T ∧ Below n1 w2 wr))
  case atStart => exact ⟨List.replicate 27 false, by simp, by decide, Grows.refl _ _, hB2, Below.refl _ _⟩
  case round =>
    obtain ⟨T, A⟩ := hrel
    have hTl := A.out.1
    have HTg : Hid (cntB T + gk = 27) := A.out.2.1
    have HTG : Hid (Grows (emS p) P (List.replicate 27 false) T) := A.out.2.2.1
    have hBT := A.out.2.2.2.1
    have hbel := A.out.2.2.2.2
    clear A hB2
    have hnr := hBT.lt
    go_wp2_with (first | (refine wpList_loadW rfl 87 _ rfl n1 87 T rfl (at27 hTl) hBT ?_) | (refine wpList_allocB rfl 87 rfl 27 bt_flags ?_; intro w3 hB3 hb3 hs3) | (refine wpList_storeB rfl 87 _ _ rfl wr.heap.size 0 87 _ T rfl rfl (at27 hTl) hB3 (by simp [hTl]) ?_; intro w4 hB4 hg4; obtain ⟨hbel4, hBT4, hBA4⟩ := ahead_facts hbel hnr hBT hb3 hs3 hTl hB4 hg4; obtain ⟨q4, _, _⟩ := HQ.out w4 hbel4))
    have HA : Hid (wr.heap.size < w4.heap.size) := hBA4.lt
    have hnA : n1 < wr.heap.size := hnr
    generalize wr.heap.size = nA at *
    clear hB3 hb3 hs3 hB4 hg4 hBT hbel hnr
    go_loopw [15] (fun s13 wk => ∃ k : Nat, k ≤ P.length ∧ s13 = .int .i64 k ∧ Bits wk n1 87 (leK (emS p) P T k) ∧ Bits wk nA 87 T ∧ Below n1 w2 wk) (fun s13 _ => P.length - (intOf s13).toNat)
    case atStart => exact ⟨0, Nat.zero_le _, rfl, hBT4, hBA4, hbel4⟩
    case round =>
      obtain ⟨k, hk, rfl, hBk, hBA, hbk⟩ := hrel
      clear hBT4 hBA4 hbel4 q4 HA
      by_cases hlk : k < P.length
      · have HK : Hid (leK (emS p) P T (k + 1) = leI (emS p) k P[k] (leK (emS p) P T k) P[k].length) := leK_next hlk
        have hm := List.getElem_mem hlk
        have hQ := HF.out.alts _ hm
        have HC1 : Hid (∀ (W : World) (T : List Bool) (i : Nat) (hi : i < P[k].length) (a : Option Addr) (c : Nat), Below w.heap.size w W → T.length = 27 → RD w (.slice a P[k][i].length c) (slD Lay.int P[k][i]) →
          Calls Tryd.prog 71 #[.slice a P[k][i].length c, aggB T] W fun e w' => e = .returned (.bool (p T P[k][i])) ∧ Below W.heap.size W w') := fun W T i hi a c => HCL.out W T k hlk i hi a c
        have HLe : Hid (∀ i, i ≤ P[k].length → (leI (emS p) k P[k] (leK (emS p) P T k) i).length = 27) := fun i hi => (HRz.out.leI hlk (HRz.out.leK hTl k hk).1 i hi).1
        obtain ⟨b1, o1, ea0, hb1, a1, c1, q0', r1⟩ := HR0.out.listAt hlk
        have HR1 : Hid (RD w (.slice a1 P[k].length c1) (slD (Lay.list Lay.int) P[k])) := r1
        have q0 := ((HQ.out wr hbk).2.1.cell (p := ⟨b1, o1 + k, none⟩) hb1).trans q0'
        subst ea0
        have hk27 : k < 27 := by omega
        clear r1 q0' hm hb1
        generalize leK (emS p) P T k = Tk at *
        generalize P[k] = Q at *
        go_wp2
        go_loopw [22] (fun s20 wk => ∃ i : Nat, i ≤ Q.length ∧ s20 = .int .i64 i ∧ Bits wk n1 87 (leI (emS p) k Q Tk i) ∧ Bits wk nA 87 T ∧ Below n1 w2 wk) (fun s20 _ => Q.length - (intOf s20).toNat)
        case atStart => exact ⟨0, Nat.zero_le _, rfl, hBk, hBA, hbk⟩
        case round =>
          obtain ⟨i, hi, rfl, hBi, hBAi, hbi⟩ := hrel
          clear hBk hBA hbk q0
          by_cases hli : i < Q.length
          · have HE : Hid (leI (emS p) k Q Tk (i + 1) = emS p k Q[i] (leI (emS p) k Q Tk i)) := leI_next hli
            have hTi := HLe.out i hi
            obtain ⟨b2, o2, ea1, hb2, a2, c2, q1', r2⟩ := HR1.out.listAt hli
            have hbw := (HQ.out wr hbi).2.1
            have q1 := (hbw.cell (p := ⟨b2, o2 + i, none⟩) hb2).trans q1'
            subst ea1
            have q2 := hBi.cell (n := k) (by omega)
            have f2 := hBi.frozen k
            have hn1r := hBi.lt
            have HX : Hid (Calls Tryd.prog 71 #[.slice a2 Q[i].length c2, aggB (leI (emS p) k Q Tk i)] wr fun e w' => e = .returned (.bool (p (leI (emS p) k Q Tk i) Q[i])) ∧ Below wr.heap.size wr w') := HC1.out wr _ i hli a2 c2 hbw hTi r2
            clear r2 q1' hb2 hbw
            generalize leI (emS p) k Q Tk i = Ti at *
            generalize Q[i] = R at *
            have key : ∀ (W : World) (v : Bool), Below wr.heap.size wr W → emS p k R Ti = Ti.set k v → Bits (W.setCell ⟨n1, k, none⟩ (.bool v)) n1 87 (leI (emS p) k Q Tk (i + 1)) ∧ Bits (W.setCell ⟨n1, k, none⟩ (.bool v)) nA 87 T ∧ Below n1 w2 (W.setCell ⟨n1, k, none⟩ (.bool v)) := by
              intro W v hW he
              rw [HE.out, he]
              exact ⟨(hBi.later hW).set k v, (hBAi.later hW).grown (setCell_grown W n1 k _) (by intro h; cases h; omega), (hbi.trans (hW.mono (by omega))).setCell (Nat.le_refl _) _⟩
            have HKY : Hid (∀ (W : World) (v : Bool), Below wr.heap.size wr W → emS p k R Ti = Ti.set k v → Bits (W.setCell ⟨n1, k, none⟩ (.bool v)) n1 87 (leI (emS p) k Q Tk (i + 1)) ∧ Bits (W.setCell ⟨n1, k, none⟩ (.bool v)) nA 87 T ∧ Below n1 w2 (W.setCell ⟨n1, k, none⟩ (.bool v))) := key
            clear key
            by_cases hup : Ti.getD k false = true
            · rw [hup] at q2
              have K1 := HKY.out wr true (Below.refl _ _) (emS_yes hup)
              have HK1 : Hid _ := K1
              clear K1 hup HKY HE HX
              go_wp2
              go_roundw
              case rel => exact ⟨i + 1, by omega, by go_num, HK1.out.1, HK1.out.2.1, HK1.out.2.2⟩
              case measure => simp [intOf]; omega
            · have hdn : Ti.getD k false = false := by simpa using hup
              rw [hdn] at q2
              have HK2 : Hid (∀ W, Below wr.heap.size wr W → _) := fun W hW => HKY.out W (p Ti R) hW (emS_no hdn)
              clear hup hdn HKY HE
              go_wp2_with (first | (refine wpList_loadW rfl 87 _ rfl n1 87 Ti rfl (at27 hTi) hBi ?_) | (go_at_call 71; refine HX.out.mono ?_; rintro e w5 ⟨rfl, hb5⟩; have q5 := (hBi.later hb5).cell (n := k) (by omega); have f5 := (hBi.later hb5).frozen k))
              go_roundw
              case rel => exact ⟨i + 1, by omega, by go_num, (HK2.out w5 hb5).1, (HK2.out w5 hb5).2.1, (HK2.out w5 hb5).2.2⟩
              case measure => simp [intOf]; omega
          · have e : i = Q.length := by omega
            subst e
            have HKe := HK
            clear HK
            go_wp2
            go_roundw
            case rel => exact ⟨k + 1, by omega, by go_num, by rw [HKe.out]; exact hBi, hBAi, hbi⟩
            case measure => simp [intOf]; omega
      · have e : k = P.length := by omega
        subst e
        have hLl := (HRz.out.leK hTl P.length (Nat.le_refl _))
        have HL2 : Hid (leK (emS p) P T P.length = T ∨ cntB T < cntB (leK (emS p) P T P.length)) := hLl.2
        have hLl1 := hLl.1
        have HLG : Hid (Grows (emS p) P (List.replicate 27 false) (leK (emS p) P T P.length)) := HTG.out.leK _ (Nat.le_refl _)
        have HLc : Hid (cntB (leK (emS p) P T P.length) ≤ 27) := by show _ ≤ _; have := cntB_le (leK (emS p) P T P.length); omega
        clear hLl
        by_cases hfix : leK (emS p) P T P.length = T
        · have HX : Hid (leK (emS p) P T P.length = T) := hfix
          rw [hfix] at hBk
          clear hfix HL2 hLl1
          have hR := (HQ.out wr hbk).2.2
          have hBel := (HQ.out wr hbk).2.1
          go_wp2_with (first | (refine wpList_loadW rfl 87 _ rfl n1 87 T rfl (at27 hTl) hBk ?_) | (refine wpList_loadW rfl 87 _ rfl nA 87 T rfl (at27 hTl) hBA ?_) | (refine wpList_eqlB rfl 87 _ _ _ rfl T T rfl rfl guard_flags (eq_flags27 hTl hTl) ?_; rw [decide_eq_true (rfl : T = T)]) | (refine wpList_storeB rfl 87 _ _ rfl (w.heap.size + 1) 0 87 _ T rfl rfl (at27 hTl) hR (by simp [hTl]) ?_; intro w5 hB5 hg5))
          have e5 : putB (List.replicate 27 false) 0 T = T := putB_whole (by simp [hTl])
          rw [e5] at hB5
          have hb5 : Below w.heap.size w w5 := hBel.grown hg5 hBel.size (fun j hj => by cases hj; omega)
          refine bodyPost_ret (v := aggB T) (ret_cell 87 rfl rfl hB5 (at27 hTl)) rfl ⟨T, rfl, hTl, HTG.out, HX.out, hb5⟩
        · have hcnt : cntB T < cntB (leK (emS p) P T P.length) := HL2.out.resolve_left hfix
          have hdec : decide (leK (emS p) P T P.length = T) = false := decide_eq_false hfix
          clear hfix HL2
          generalize leK (emS p) P T P.length = T2 at *
          go_wp2_with (first | (refine wpList_loadW rfl 87 _ rfl n1 87 T2 rfl (at27 hLl1) hBk ?_) | (refine wpList_loadW rfl 87 _ rfl nA 87 T rfl (at27 hTl) hBA ?_) | (refine wpList_eqlB rfl 87 _ _ _ rfl T2 T rfl rfl guard_flags (eq_flags27 hLl1 hTl) ?_; rw [hdec]))
          go_roundg (27 - cntB T2)
          case measure => have := HTg.out; have := HLc.out; omega
          case rel => exact ⟨T2, hLl1, by have := HLc.out; omega, HLG.out, hBk, hbk⟩
end Go.Proofs.YtojbghmlcgadeabDoor
