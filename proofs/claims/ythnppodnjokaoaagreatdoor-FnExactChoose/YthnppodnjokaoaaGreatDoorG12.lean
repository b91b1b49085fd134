/-
  Contracts and plain mathematics, joined: StrLetter, StrPart, StrRow, StrOf, TrFar, Append1, TrFars, FarsOf, Shelf, Choose, MIntS, MIntSS. No statement is proved here.
-/
import Derived.Test.YthnppodnjokaoaaGreatDoorG11
import Derived.Test.YthnppodnjokaoaaGreatDoorG3
import Derived.Test.YthnppodnjokaoaaGreatDoorG5
import Derived.WalkMore
import Derived.Test.YthnppodnjokaoaaGreatDoorG4
import Derived.Test.YthnppodnjokaoaaGreatDoorG7
import Derived.Test.YthnppodnjokaoaaGreatDoorG9
import Derived.Test.YthnppodnjokaoaaGreatDoorG10
import Derived.Shelf.Strconv.Itoa0
import Derived.Shelf.Sort.Plain
import Derived.Shelf.Slices.In.SortNone
import Derived.Test.YthnppodnjokaoaaGreatDoorProg
import Derived.Sort.OwnSortedInts
namespace Go.Proofs.YthnppodnjokaoaaGreatDoor
open Go.RowKit

section
variable {P : List (List (List Int))} {ws : List Int} {w0 : World} {bT : Nat} {aP : Option Addr} {cP : Nat} {aw : Option Addr} {cw : Nat} {K : Nat → Prop}
set_option maxHeartbeats 4000000 in
set_option maxRecDepth 100000 in
theorem strLetter_any (z : Int) (fa : Nat) (v : Nat → Nat) (w : World) (hT : TrIn P ws w0 bT aP cP aw cw K w) (hws : Reads w0 aw ws) (hn : ws.length ≤ 10) (hfa : fa ≤ 10) :
    Calls Tryz.prog 75 #[.pointer (some ⟨bT, 0, none⟩), aggV (strV fa v), .int .i64 z] w fun e w' => e = .returned (aggV (strV (maxOn (letSpot ws z v) fa ws.length) (letNx ws z v))) ∧ Below w.heap.size w w' := by
  have HT : Hid (TrIn P ws w0 bT aP cP aw cw K w) := hT
  have HWS : Hid (Reads w0 aw ws) := hws
  have hbl := hT.lt
  have HEND : Hid (∀ n (W : World), n = maxOn (letSpot ws z v) fa ws.length → Below w.heap.size w W → (aggV (strV n (letTo8 ws z v ws.length)) = aggV (strV (maxOn (letSpot ws z v) fa ws.length) (letNx ws z v))) ∧ Below w.heap.size w W) := fun n W hn hW => ⟨by rw [hn, strV_congr (fun j _ => letTo8_end j)], hW⟩
  obtain ⟨R, HR⟩ : ∃ R, Hid (aggV (strV (maxOn (letSpot ws z v) fa ws.length) (letNx ws z v)) = R) := ⟨_, rfl⟩
  rw [HR.out] at HEND ⊢
  clear hT hws HR
  go_enter Tryz.func75, Tryz.ntmps75
  go_wp2_with (first
    | (refine wpList_boxS rfl _ rfl fa v rfl ?_; intro w1 hB1 hb1 hs1; have l1 : w.heap.size < w1.heap.size := (by omega); clear hs1)
    | (refine wpList_allocS (w := w1) rfl rfl ?_; intro w2 hA2 hb2 hs2; have l2 : w1.heap.size < w2.heap.size := (by omega); clear hs2; have q2 := (hB1.later hb2).far)
    | (refine wpList_str1 rfl _ rfl fa rfl ?_)
    | (refine wpList_allocS (w := w2) rfl rfl ?_; intro w3 hA3 hb3 hs3; clear hs3)
    | (refine wpList_storeS rfl _ _ rfl w2.heap.size 0 (fun _ => 0) fa (fun _ => 0) rfl rfl hA3 ?_; intro w4 hS4 hg4; have g4 : Below w.heap.size w w4 := (((hb1.trans (hb2.mono hb1.size)).trans (hb3.mono (Nat.le_trans hb1.size hb2.size))).grown hg4 (by have := hb1.size; have := hb2.size; have := hb3.size; omega) (fun k e => by cases e; have := hb1.size; have := hb2.size; omega)); have q4 := (HT.out.later g4).c1))
  have HBk : Hid (Str w4 w.heap.size fa v) := (hB1.later (hb2.trans (hb3.mono hb2.size))).grown hg4 (fun e => by have := Option.some.inj e; omega)
  have HS0 : Hid (Str w4 w2.heap.size (maxOn (letSpot ws z v) fa 0) (letTo8 ws z v 0)) := hS4.congr (fun j _ => by rw [letTo8_zero])
  have hl2 : w.heap.size < w2.heap.size := by omega
  have HG0 : Hid (Within w4 w4 (fun b => b = w2.heap.size)) := Within.refl _ _
  have HB4 : Hid (Below w.heap.size w w4) := g4
  have HA4 : Hid (Str w4 w1.heap.size 0 (fun _ => 0)) := (hA2.later hb3).grown hg4 (fun e => by have := Option.some.inj e; omega)
  have hRS : w1.heap.size < w2.heap.size := l2
  have hR0 : w.heap.size < w1.heap.size := l1
  clear hB1 hb1 hA2 hb2 hA3 hb3 hS4 hg4 g4 q2 l1 l2
  generalize w2.heap.size = nS at *
  generalize w1.heap.size = nR at *
  go_loopw [18] (fun s18 wr => ∃ k : Nat, k ≤ ws.length ∧ s18 = .int .i64 (k : Int) ∧ Hid (Str wr nS (maxOn (letSpot ws z v) fa k) (letTo8 ws z v k)) ∧ Hid (Within w4 wr (fun b => b = nS))) (fun s18 _ => ws.length - (intOf s18).toNat)
  case atStart => exact ⟨0, Nat.zero_le _, rfl, HS0, HG0⟩
  case round =>
    obtain ⟨k, hk, rfl, HSk, HGk⟩ := hrel
    clear HS0 HG0
    have HBr : Hid (Below w.heap.size w wr) := HGk.out.below HB4.out (fun b e => by omega)
    have HBx : Hid (Str wr w.heap.size fa v) := HBk.out.kept (HGk.out.block _ HBk.out.lt (by omega))
    have hle : maxOn (letSpot ws z v) fa k ≤ 11 := maxOn_le (by omega) (fun i hi => by unfold letSpot; split <;> omega)
    by_cases hlt : k < ws.length
    · obtain ⟨br, ofr, rfl, hbr, hcell⟩ := HWS.out.at hlt
      have qr0 := (HT.out.later HBr.out).low.cell (p := ⟨br, ofr + k, none⟩) hbr |>.trans (hcell k hlt)
      rw [List.getD_eq_getElem?_getD, List.getElem?_eq_getElem hlt, Option.getD_some] at qr0
      have q0 := HBx.out.end (j := k) (by omega)
      have qe := HSk.out.far
      have fe := HSk.out.frozen 0
      have qk := HSk.out.end (j := k + 1) (by omega)
      have fk := HSk.out.frozen (1 + (k + 1))
      have hsome : ws[k]? = some ws[k] := List.getElem?_eq_getElem hlt
      have HN0 : Hid (¬ (v k ≠ 0 ∧ ws[k]? = some z) → Str wr nS (maxOn (letSpot ws z v) fa (k + 1)) (letTo8 ws z v (k + 1))) := fun h => by rw [letSpot_stay h]; exact HSk.out.congr (fun j _ => letTo8_stay h j)
      have HN1 : Hid (v k ≠ 0 → ws[k]? = some z → ∀ n : Nat, n = max (maxOn (letSpot ws z v) fa k) (k + 1) → Str ((wr.setCell ⟨nS, 1 + (k + 1), none⟩ (.bool true)).setCell ⟨nS, 0, none⟩ (.int .i64 (n : Int))) nS (maxOn (letSpot ws z v) fa (k + 1)) (letTo8 ws z v (k + 1))) := fun h1 h2 n hn' => by
        rw [letSpot_step h1 h2, ← hn']
        exact ((HSk.out.setE true).congr (fun j _ => letTo8_put h1 h2 j)).setF n
      have hkn : k + 1 < 11 := by omega
      have HWk : Hid (Within w4 wr (fun b => b = nS)) := HGk.out
      have hnl : nS < wr.heap.size := HSk.out.lt
      clear HSk hcell HGk HBr HBx
      by_cases hv : v k = 0
      · have HN := HN0.out (fun h => h.1 hv)
        have HNh : Hid (Str wr nS (maxOn (letSpot ws z v) fa (k + 1)) (letTo8 ws z v (k + 1))) := HN
        rw [show decide (v k ≠ 0) = false by simp [hv]] at q0
        clear HN0 HN1 HN hv hsome
        generalize ws[k] = x at *
        generalize maxOn (letSpot ws z v) fa k = m at *
        go_wp2
        go_roundw
        case rel => exact ⟨k + 1, by omega, by go_num, HNh, HWk⟩
        case measure => simp [intOf]; omega
      · rw [show decide (v k ≠ 0) = true by simp [hv]] at q0
        by_cases hz : ws[k] = z
        · have HN := HN1.out hv (by rw [hsome, hz])
          have HNh : Hid (∀ n : Nat, n = max (maxOn (letSpot ws z v) fa k) (k + 1) → Str ((wr.setCell ⟨nS, 1 + (k + 1), none⟩ (.bool true)).setCell ⟨nS, 0, none⟩ (.int .i64 (n : Int))) nS (maxOn (letSpot ws z v) fa (k + 1)) (letTo8 ws z v (k + 1))) := HN
          clear HN0 HN1 HN hsome
          rw [hz] at qr0
          clear hz
          generalize maxOn (letSpot ws z v) fa k = m at *
          obtain ⟨n, hn'⟩ : ∃ n, n = max m (k + 1) := ⟨_, rfl⟩
          have HS := HNh.out n hn'
          have HSh : Hid (Str ((wr.setCell ⟨nS, 1 + (k + 1), none⟩ (.bool true)).setCell ⟨nS, 0, none⟩ (.int .i64 (n : Int))) nS (maxOn (letSpot ws z v) fa (k + 1)) (letTo8 ws z v (k + 1))) := HS
          have HM : Hid (n = max m (k + 1)) := hn'
          clear HNh HS hn'
          go_wp2
          go_roundw
          case rel =>
            rw [show (if (m : Int) < (k : Int) + 1 then (k : Int) + 1 else (m : Int)) = (n : Int) from by rw [HM.out]; split <;> omega]
            exact ⟨k + 1, by omega, by go_num, HSh, (HWk.out.trans (set_within _ _ _ _ rfl)).trans (set_within _ _ _ _ rfl)⟩
          case measure => simp [intOf]; omega
        · have HN := HN0.out (fun h => hz (by have := h.2; rw [hsome] at this; exact Option.some.inj this))
          have HNh : Hid (Str wr nS (maxOn (letSpot ws z v) fa (k + 1)) (letTo8 ws z v (k + 1))) := HN
          clear HN0 HN1 HN hsome
          generalize ws[k] = x at *
          generalize maxOn (letSpot ws z v) fa k = m at *
          go_wp2
          go_roundw
          case rel => exact ⟨k + 1, by omega, by go_num, HNh, HWk⟩
          case measure => simp [intOf]; omega
    · have e : k = ws.length := by omega
      subst e
      have HE := HEND.out _ (wr) rfl HBr.out
      have HEh : Hid (aggV (strV (maxOn (letSpot ws z v) fa ws.length) (letTo8 ws z v ws.length)) = R) := HE.1
      have HSl : Hid (Str wr nS (maxOn (letSpot ws z v) fa ws.length) (letTo8 ws z v ws.length)) := HSk.out
      have HAr : Hid (Str wr nR 0 (fun _ => 0)) := HA4.out.kept (HGk.out.block _ HA4.out.lt (by omega))
      have HBr2 : Hid (Below w.heap.size w wr) := HBr.out
      clear HE HSk HEND HBx HA4 HGk HBr
      generalize maxOn (letSpot ws z v) fa ws.length = m at *
      generalize letTo8 ws z v ws.length = u at *
      go_wp2_with (first | (refine wpList_loadS rfl _ rfl nS m u rfl HSl.out ?_) | (refine wpList_storeS rfl _ _ rfl nR 0 (fun _ => 0) m u rfl rfl HAr.out ?_; intro w6 hS6 hg6))
      exact bodyPost_ret (v := aggV (strV m u)) (ret_cellS rfl rfl hS6) rfl ⟨by rw [HEh.out], HBr2.out.grown hg6 HBr2.out.size (fun k e => by cases e; omega)⟩
end
end Go.Proofs.YthnppodnjokaoaaGreatDoor
namespace Go.Proofs.YthnppodnjokaoaaGreatDoor
open Go.RowKit

theorem sumTo_none {f : Nat → Nat} {m n : Nat} (hm : m ≤ n) (h : ∀ i, m ≤ i → i < n → f i = 0) : sumTo f n = sumTo f m := by
  induction n with
  | zero => have : m = 0 := by omega
            subst this; rfl
  | succ n ih =>
    by_cases e : m = n + 1
    · subst e; rfl
    · rw [sumTo, ih (by omega) (fun i h1 h2 => h i h1 (by omega)), h n (by omega) (by omega)]; rfl
/-- Where a part leads, as far as the places were gone through. -/
def partTo8 (W : Nat → Nat → Nat) (v : Nat → Nat) (q : Nat) : Nat → Nat := fun j => sumTo (fun i => v i * W i j) q
theorem partTo8_stay {W : Nat → Nat → Nat} {v : Nat → Nat} {q : Nat} (h : v q = 0) (j : Nat) : partTo8 W v q j ≠ 0 ↔ partTo8 W v (q + 1) j ≠ 0 := by
  unfold partTo8
  rw [sumTo, h, Nat.zero_mul]; rfl
theorem partTo8_put {W : Nat → Nat → Nat} {v : Nat → Nat} {q : Nat} (h : v q ≠ 0) (j : Nat) : partTo8 W v q j + W q j ≠ 0 ↔ partTo8 W v (q + 1) j ≠ 0 := by
  unfold partTo8
  rw [sumTo]
  have : v q * W q j = 0 ↔ W q j = 0 := by
    rw [Nat.mul_eq_zero]
    exact ⟨fun e => e.elim (fun e => absurd e h) id, .inr⟩
  generalize v q * W q j = x at *
  omega
theorem partTo8_end {W : Nat → Nat → Nat} {v : Nat → Nat} {n : Nat} (hn : n ≤ 10) (hv : ∀ j, n < j → v j = 0) (j : Nat) : partTo8 W v 11 j ≠ 0 ↔ partNx n W v j ≠ 0 := by
  unfold partTo8 partNx
  rw [sumTo_none (m := n + 1) (by omega) (fun i h1 _ => by rw [hv i (by omega), Nat.zero_mul])]
  unfold capN
  omega
theorem partSpot_step {F : Nat → Nat → Nat} {k : Nat} {v : Nat → Nat} {b q : Nat} (h : v q ≠ 0) : maxOn (partSpot F k v) b (q + 1) = max (maxOn (partSpot F k v) b q) (F k q) := by rw [maxOn, partSpot, if_neg h]
theorem partSpot_stay {F : Nat → Nat → Nat} {k : Nat} {v : Nat → Nat} {b q : Nat} (h : v q = 0) : maxOn (partSpot F k v) b (q + 1) = maxOn (partSpot F k v) b q := by rw [maxOn, partSpot, if_pos h]; omega
theorem partSpot_end {F : Nat → Nat → Nat} {k : Nat} {v : Nat → Nat} {b n : Nat} (hn : n ≤ 10) (hv : ∀ j, n < j → v j = 0) : maxOn (partSpot F k v) b 11 = maxOn (partSpot F k v) b (n + 1) :=
  maxOn_none (by omega) (fun i h1 _ => by unfold partSpot; rw [if_pos (hv i (by omega))])

/-- impl.tracer.ofPart does what it should at a part and a place. -/
def StrPartOk (P : List (List (List Int))) (ws : List Int) (w0 : World) (bT : Nat) (aP : Option Addr) (cP : Nat) (aw : Option Addr) (cw : Nat) (k i : Nat) : Prop :=
  ∀ (W : World) (K : Nat → Prop), TrIn P ws w0 bT aP cP aw cw K W → Calls Tryz.prog 95 #[.pointer (some ⟨bT, 0, none⟩), .int .i64 (k : Int), .int .i64 (i : Int)] W fun e w' => e = .returned (aggV (strV (farP P ws k i) (way P ws k i))) ∧ Hid (∃ K', TrIn P ws w0 bT aP cP aw cw K' w' ∧ ∀ b, K' b → K b ∨ W.heap.size ≤ b) ∧ Within W w' (fun b => b = bT)
section
variable {P : List (List (List Int))} {ws : List Int} {w0 : World} {bT : Nat} {aP : Option Addr} {cP : Nat} {aw : Option Addr} {cw : Nat} {K : Nat → Prop}
set_option maxHeartbeats 4000000 in
set_option maxRecDepth 100000 in
theorem strPart_any (k fa : Nat) (v : Nat → Nat) (w : World) (hT : TrIn P ws w0 bT aP cP aw cw K w) (hn : ws.length ≤ 10) (hv : ∀ j, ws.length < j → v j = 0)
    (hpart : ∀ j, j ≤ ws.length → v j ≠ 0 → StrPartOk P ws w0 bT aP cP aw cw k j) :
    Calls Tryz.prog 76 #[.pointer (some ⟨bT, 0, none⟩), aggV (strV fa v), .int .i64 (k : Int)] w fun e w' => e = .returned (aggV (strV (maxOn (partSpot (farP P ws) k v) fa (ws.length + 1)) (partNx ws.length (way P ws k) v))) ∧ Hid (∃ K', TrIn P ws w0 bT aP cP aw cw K' w' ∧ ∀ b, K' b → K b ∨ w.heap.size ≤ b) ∧ Within w w' (fun b => b = bT) := by
  have HT : Hid (TrIn P ws w0 bT aP cP aw cw K w) := hT
  have hbl := hT.lt
  have hb0 := hT.low.size
  have HKB : Hid (∀ b, K b → b < w.heap.size) := fun b e => (hT.kb b e).2.2
  have HV : Hid (∀ j, ws.length < j → v j = 0) := hv
  have HPA : Hid (∀ j, j < 11 → v j ≠ 0 → ∀ (W : World) (K : Nat → Prop), TrIn P ws w0 bT aP cP aw cw K W → Calls Tryz.prog 95 #[.pointer (some ⟨bT, 0, none⟩), .int .i64 (k : Int), .int .i64 (j : Int)] W fun e w' => e = .returned (aggV (strV (farP P ws k j) (way P ws k j))) ∧ Hid (∃ K', TrIn P ws w0 bT aP cP aw cw K' w' ∧ ∀ b, K' b → K b ∨ W.heap.size ≤ b) ∧ Within W w' (fun b => b = bT)) := fun j _ h => hpart j (by by_cases e : j ≤ ws.length; exact e; exact absurd (hv j (by omega)) h) h
  have HEND : Hid (strV (maxOn (partSpot (farP P ws) k v) fa 11) (partTo8 (way P ws k) v 11) = strV (maxOn (partSpot (farP P ws) k v) fa (ws.length + 1)) (partNx ws.length (way P ws k) v)) := by
    show _ = _
    rw [partSpot_end hn hv, strV_congr (fun j _ => partTo8_end hn hv j)]
  obtain ⟨R, HR⟩ : ∃ R, Hid (aggV (strV (maxOn (partSpot (farP P ws) k v) fa (ws.length + 1)) (partNx ws.length (way P ws k) v)) = R) := ⟨_, rfl⟩
  rw [HR.out]
  have HEND2 : Hid (aggV (strV (maxOn (partSpot (farP P ws) k v) fa 11) (partTo8 (way P ws k) v 11)) = R) := by show _ = _; rw [HEND.out]; exact HR.out
  clear hT hpart hv HR HEND
  go_enter Tryz.func76, Tryz.ntmps76
  go_wp2_with (first
    | (refine wpList_boxS rfl _ rfl fa v rfl ?_; intro w1 hB1 hb1 hs1; have l1 : w.heap.size < w1.heap.size := (by omega); clear hs1)
    | (refine wpList_allocS (w := w1) rfl rfl ?_; intro w2 hA2 hb2 hs2; have l2 : w1.heap.size < w2.heap.size := (by omega); clear hs2; have q2 := (hB1.later hb2).far)
    | (refine wpList_str1 rfl _ rfl fa rfl ?_)
    | (refine wpList_allocS (w := w2) rfl rfl ?_; intro w3 hA3 hb3 hs3; clear hs3)
    | (refine wpList_storeS rfl _ _ rfl w2.heap.size 0 (fun _ => 0) fa (fun _ => 0) rfl rfl hA3 ?_; intro w4 hS4 hg4; have g4 : Below w.heap.size w w4 := (((hb1.trans (hb2.mono hb1.size)).trans (hb3.mono (Nat.le_trans hb1.size hb2.size))).grown hg4 (by have := hb1.size; have := hb2.size; have := hb3.size; omega) (fun k e => by cases e; have := hb1.size; have := hb2.size; omega)); have HBk : Hid (Str w4 w.heap.size fa v) := (hB1.later (hb2.trans (hb3.mono hb2.size))).grown hg4 (fun e => by have := Option.some.inj e; omega))
    | (refine wpList_endsV rfl _ rfl w.heap.size fa v rfl HBk.out ?_))
  have HS0 : Hid (Str w4 w2.heap.size (maxOn (partSpot (farP P ws) k v) fa 0) (partTo8 (way P ws k) v 0)) := hS4
  have HA4 : Hid (Str w4 w1.heap.size 0 (fun _ => 0)) := (hA2.later hb3).grown hg4 (fun e => by have := Option.some.inj e; omega)
  have hRS : w1.heap.size < w2.heap.size := l2
  have hR0 : w.heap.size < w1.heap.size := l1
  have hSl : w2.heap.size < w4.heap.size := hS4.lt
  have HB4 : Hid (Below w.heap.size w w4) := g4
  have HT4 : Hid (TrIn P ws w0 bT aP cP aw cw K w4) := HT.out.later g4
  have HG0 : Hid (Within w4 w4 (fun b => b = bT ∨ b = w2.heap.size)) := Within.refl _ _
  clear hB1 hb1 hA2 hb2 hA3 hb3 hS4 hg4 g4 q2 l1 l2 HBk HT
  generalize w2.heap.size = nS at *
  generalize w1.heap.size = nR at *
  have HL : Hid ((eB v).length = 11) := eB_length v
  have HU : Hid (∀ q, q < 11 → (eB v).getD q false = decide (v q ≠ 0)) := fun q hq => by rw [List.getD_eq_getElem?_getD, List.getElem?_eq_getElem (by rw [eB_length]; exact hq), eB_get v hq]; rfl
  obtain ⟨l, hl⟩ : ∃ l, Hid (eB v = l) := ⟨_, rfl⟩
  rw [hl.out] at HU HL ⊢
  clear hl
  go_loopw [15] (fun s15 wr => ∃ q : Nat, q ≤ 11 ∧ s15 = .int .i64 (q : Int) ∧ Hid (Str wr nS (maxOn (partSpot (farP P ws) k v) fa q) (partTo8 (way P ws k) v q)) ∧ Hid (Within w4 wr (fun b => b = bT ∨ b = nS)) ∧ Hid (∃ K', TrIn P ws w0 bT aP cP aw cw K' wr ∧ ∀ b, K' b → K b ∨ w4.heap.size ≤ b)) (fun s15 _ => 11 - (intOf s15).toNat)
  case atStart => exact ⟨0, Nat.zero_le _, rfl, HS0, HG0, ⟨K, HT4.out, fun b e => .inl e⟩⟩
  case round =>
    obtain ⟨q, hq, rfl, HSq, HGq, HKq⟩ := hrel
    obtain ⟨wA, hwA⟩ : ∃ y, y = wr := ⟨_, rfl⟩
    subst hwA
    clear HS0 HG0
    by_cases hlt : q < 11
    · have hqI : (q : Int) < 11 := by omega
      have HUq := HU.out q hlt
      by_cases hvq : v q = 0
      · rw [show decide (v q ≠ 0) = false by simp [hvq]] at HUq
        have HUh : Hid (l.getD q false = false) := HUq
        have HN : Hid (Str wA nS (maxOn (partSpot (farP P ws) k v) fa (q + 1)) (partTo8 (way P ws k) v (q + 1))) := by rw [partSpot_stay hvq]; exact HSq.out.congr (fun j _ => partTo8_stay hvq j)
        clear HSq HUq hvq
        go_wp2_with (refine wpList_indexB rfl 90 4 _ _ rfl l q rfl rfl (by rw [HL.out]; exact u_places) u_bool bool_size (by rw [HL.out]; exact hlt) ?_; rw [HUh.out])
        go_roundw
        case rel => exact ⟨q + 1, by omega, by go_num, HN, HGq, HKq⟩
        case measure => simp [intOf]; omega
      · rw [show decide (v q ≠ 0) = true by simp [hvq]] at HUq
        have HUh : Hid (l.getD q false = true) := HUq
        obtain ⟨K1, hT1, hK1⟩ := HKq.out
        have X := HPA.out q hlt hvq wA K1 hT1
        have HK1 : Hid (∀ b, K1 b → K b ∨ w4.heap.size ≤ b) := hK1
        have HNX : Hid (∀ w7, Str w7 nS (max (maxOn (partSpot (farP P ws) k v) fa q) (farP P ws k q)) (fun j => partTo8 (way P ws k) v q j + way P ws k q j) → Str w7 nS (maxOn (partSpot (farP P ws) k v) fa (q + 1)) (partTo8 (way P ws k) v (q + 1))) := fun w7 h => by rw [partSpot_step hvq]; exact h.congr (fun j _ => partTo8_put hvq j)
        clear HKq hK1 hT1 HUq hvq
        generalize farP P ws k q = f at *
        generalize way P ws k q = u at *
        go_wp2_with (first
          | (refine wpList_indexB rfl 90 4 _ _ rfl l q rfl rfl (by rw [HL.out]; exact u_places) u_bool bool_size (by rw [HL.out]; exact hlt) ?_; rw [HUh.out])
          | (go_at_call 95; refine X.mono ?_; rintro e w6 ⟨rfl, HK6, hW6⟩; have hS6 := HSq.out.kept (hW6.block nS HSq.out.lt (by omega)))
          | (go_at_call 94; refine (strJoin_any nS _ f _ u w6 hS6).mono ?_; rintro e w7 ⟨rfl, hS7, hg7⟩))
        obtain ⟨K2, hT2, hK2⟩ := HK6.out
        have hWn : Within w6 w7 (fun b => b = nS) := Within.of_grown hg7 (fun k e => by cases e; rfl)
        have hszA := HGq.out.size
        have hNS : ¬ K2 nS := fun e => by
          rcases hK2 nS e with e | e
          · rcases HK1.out nS e with e | e
            · have := HKB.out nS e; omega
            · omega
          · omega
        have HKn : Hid (∃ K', TrIn P ws w0 bT aP cP aw cw K' w7 ∧ ∀ b, K' b → K b ∨ w4.heap.size ≤ b) := ⟨K2, hT2.kept hWn (fun b e => by subst e; exact ⟨by omega, by omega, hNS⟩), fun b e => by
          rcases hK2 b e with e | e
          · exact HK1.out b e
          · right; omega⟩
        have HSn : Hid (Str w7 nS (maxOn (partSpot (farP P ws) k v) fa (q + 1)) (partTo8 (way P ws k) v (q + 1))) := HNX.out w7 hS7
        have HGn : Hid (Within w4 w7 (fun b => b = bT ∨ b = nS)) := (HGq.out.trans (hW6.mono (fun b e => .inl e))).trans (hWn.mono (fun b e => .inr e))
        clear hT2 hK2 hS6 hS7 hg7 hW6 hWn X HK6 HNX
        go_wp2
        go_roundw
        case rel => exact ⟨q + 1, by omega, by go_num, HSn, HGn, HKn⟩
        case measure => simp [intOf]; omega
    · have e : q = 11 := by omega
      subst e
      have HAr : Hid (Str wA nR 0 (fun _ => 0)) := HA4.out.kept (HGq.out.block _ HA4.out.lt (by omega))
      clear HU HPA HA4
      generalize maxOn (partSpot (farP P ws) k v) fa 11 = m at *
      generalize partTo8 (way P ws k) v 11 = u at *
      go_wp2_with (first | (refine wpList_loadS rfl _ rfl nS m u rfl HSq.out ?_) | (refine wpList_storeS rfl _ _ rfl nR 0 (fun _ => 0) m u rfl rfl HAr.out ?_; intro w6 hS6 hg6))
      obtain ⟨K2, hT2, hK2⟩ := HKq.out
      have hWn : Within wA w6 (fun b => b = nR) := Within.of_grown hg6 (fun k e => by cases e; rfl)
      have hNR : ¬ K2 nR := fun e => by
        rcases hK2 nR e with e | e
        · have := HKB.out nR e; omega
        · omega
      have hs4 := HB4.out.size
      exact bodyPost_ret (v := aggV (strV m u)) (ret_cellS rfl rfl hS6) rfl ⟨by rw [HEND2.out], ⟨K2, hT2.kept hWn (fun b e => by subst e; exact ⟨by omega, by omega, hNR⟩), fun b e => (hK2 b e).imp id (fun h => by omega)⟩, ((Within.of_below HB4.out (fun b => b = bT)).comp HGq.out (fun b e => by rcases e with e | e; exact .inl e; exact .inr (by omega))).comp hWn (fun b e => .inr (by omega))⟩
end
end Go.Proofs.YthnppodnjokaoaaGreatDoor
namespace Go.Proofs.YthnppodnjokaoaaGreatDoor
open Go.RowKit

theorem eq_places {w : World} {cs bs : List Bool} (h1 : cs.length = 11) (h2 : bs.length = 11) : (Op.equalIn 10000 90 (aggB cs) (aggB bs)).run Tryz.prog w = .ok (decide (cs = bs)) w := run_eq_flags 9998 u_places u_bool bool_size h1 h2
theorem farAt_le {w : List Int} {W : Nat → Nat → Nat → Nat} {F : Nat → Nat → Nat} {i : Nat} {row : List Int} (hi : i ≤ w.length) (hF : ∀ k j, j ≤ w.length → F k j ≤ w.length) (s : Nat) : farAt w W F i row s ≤ w.length :=
  maxOn_le (farPre_le hi hF s) (fun j hj => by unfold there; split <;> omega)
section
variable {P : List (List (List Int))} {ws : List Int} {w0 : World} {bT : Nat} {aP : Option Addr} {cP : Nat} {aw : Option Addr} {cw : Nat} {K : Nat → Prop}
theorem str_fin {row : List Int} {i s : Nat} (hi : i ≤ ws.length) (hs : s ≤ row.length) (h : s = row.length ∨ eB (rowNx ws (way P ws) (deltaV i) (row.take s)) = List.replicate 11 false) (hn : ws.length ≤ 10) :
    strV (farAt ws (way P ws) (farP P ws) i row s) (rowNx ws (way P ws) (deltaV i) (row.take s)) = strV (farRow ws (way P ws) (farP P ws) i row) (rowNx ws (way P ws) (deltaV i) row) := by
  rcases h with rfl | h
  · rw [farAt_all, List.take_length]
  · have hz := eB_dead.1 h
    have hz' : ∀ j, j ≤ ws.length → rowNx ws (way P ws) (deltaV i) (row.take s) j = 0 := fun j hj => hz j (by omega)
    have e1 : farAt ws (way P ws) (farP P ws) i row s = farRow ws (way P ws) (farP P ws) i row := by
      rw [← farAt_all, ← farAt_dead hz' (row.length - s)]
      congr 1; omega
    have e2 : eB (rowNx ws (way P ws) (deltaV i) (row.take s)) = eB (rowNx ws (way P ws) (deltaV i) row) := eB_congr (fun j hj => by
      have h1 := hz j hj
      have h2 : rowNx ws (way P ws) (deltaV i) row j = 0 := by
        by_cases e : j ≤ ws.length
        · have := rowNx_dead_at hz' row.length hs j e
          rwa [List.take_length] at this
        · exact rowNx_out (fun k i j => way_out k i j) (fun j => deltaV_out hi) j (by omega)
      rw [h1, h2])
    unfold strV
    rw [e1, e2]
set_option maxHeartbeats 8000000 in
set_option maxRecDepth 100000 in
theorem strRow_any (row : List Int) (ar : Option Addr) (cr i : Nat) (w : World) (hT : TrIn P ws w0 bT aP cP aw cw K w) (hws : Reads w0 aw ws) (hr : Reads w ar row) (hrb : ∀ b off, row ≠ [] → ar = some ⟨b, off, none⟩ → b ≠ bT) (hrl : row.length ≤ 1048576) (hn : ws.length ≤ 10) (hi : i ≤ ws.length) (hrow : ∀ x ∈ row, symOk P.length x = true) (F : Fits P) (hL : NoLoop P)
    (hpart : ∀ s (hs : s < row.length), 100 ≤ row[s] → ∀ j, j ≤ ws.length → rowNx ws (way P ws) (deltaV i) (row.take s) j ≠ 0 → StrPartOk P ws w0 bT aP cP aw cw (row[s] - 100).toNat j) :
    Calls Tryz.prog 62 #[.pointer (some ⟨bT, 0, none⟩), .slice ar row.length cr, .int .i64 (i : Int)] w fun e w' => e = .returned (aggV (strV (farRow ws (way P ws) (farP P ws) i row) (rowNx ws (way P ws) (deltaV i) row))) ∧ Hid (∃ K', TrIn P ws w0 bT aP cP aw cw K' w' ∧ ∀ b, K' b → K b ∨ w.heap.size ≤ b) ∧ Within w w' (fun b => b = bT) := by
  have HT : Hid (TrIn P ws w0 bT aP cP aw cw K w) := hT
  have HWS : Hid (Reads w0 aw ws) := hws
  have HRD : Hid (Reads w ar row) := hr
  have HRB : Hid (∀ b off, row ≠ [] → ar = some ⟨b, off, none⟩ → b ≠ bT) := hrb
  have hbl := hT.lt
  have hb0 := hT.low.size
  have HKB : Hid (∀ b, K b → b < w.heap.size) := fun b e => (hT.kb b e).2.2
  have HSY : Hid (∀ x ∈ row, symOk P.length x = true) := hrow
  have HPA : Hid (∀ s (hs : s < row.length), 100 ≤ row[s] → ∀ j, j ≤ ws.length → rowNx ws (way P ws) (deltaV i) (row.take s) j ≠ 0 → StrPartOk P ws w0 bT aP cP aw cw (row[s] - 100).toNat j) := hpart
  have HOUT : Hid (∀ s j, ws.length < j → rowNx ws (way P ws) (deltaV i) (row.take s) j = 0) := fun s j hj => rowNx_out (fun k i j => way_out k i j) (fun j => deltaV_out hi) j hj
  have HLE : Hid (∀ s, farAt ws (way P ws) (farP P ws) i row s ≤ ws.length) := fun s => farAt_le hi (fun k j hj => farP_le P ws k j hj) s
  have HFIN : Hid (∀ s, s ≤ row.length → (s = row.length ∨ eB (rowNx ws (way P ws) (deltaV i) (row.take s)) = List.replicate 11 false) → aggV (strV (farAt ws (way P ws) (farP P ws) i row s) (rowNx ws (way P ws) (deltaV i) (row.take s))) = aggV (strV (farRow ws (way P ws) (farP P ws) i row) (rowNx ws (way P ws) (deltaV i) row))) := fun s hs h => by rw [str_fin hi hs h hn]
  have HLT : Hid (∀ s (hs : s < row.length), row[s] < 100 → farAt ws (way P ws) (farP P ws) i row (s + 1) = maxOn (letSpot ws row[s] (rowNx ws (way P ws) (deltaV i) (row.take s))) (farAt ws (way P ws) (farP P ws) i row s) ws.length ∧ rowNx ws (way P ws) (deltaV i) (row.take (s + 1)) = letNx ws row[s] (rowNx ws (way P ws) (deltaV i) (row.take s))) := fun s hs h => ⟨farAt_letter hs h, by rw [rowNx_step hs]; unfold stepNx; rw [if_pos h]⟩
  have HPT : Hid (∀ s (hs : s < row.length), 100 ≤ row[s] → farAt ws (way P ws) (farP P ws) i row (s + 1) = maxOn (partSpot (farP P ws) (row[s] - 100).toNat (rowNx ws (way P ws) (deltaV i) (row.take s))) (farAt ws (way P ws) (farP P ws) i row s) (ws.length + 1) ∧ rowNx ws (way P ws) (deltaV i) (row.take (s + 1)) = partNx ws.length (way P ws (row[s] - 100).toNat) (rowNx ws (way P ws) (deltaV i) (row.take s))) := fun s hs h => ⟨farAt_part hs h (fun j hj j' hne => way_far F hL hj hne), by rw [rowNx_step hs]; unfold stepNx; rw [if_neg (by omega)]⟩
  have HST : Hid (i = farAt ws (way P ws) (farP P ws) i row 0) := farAt_zero.symm
  obtain ⟨R, HR⟩ : ∃ R, Hid (aggV (strV (farRow ws (way P ws) (farP P ws) i row) (rowNx ws (way P ws) (deltaV i) row)) = R) := ⟨_, rfl⟩
  rw [HR.out] at HFIN ⊢
  clear hT hws hr hrb hpart hrow HR
  have hi11 : i < 11 := by omega
  go_enter Tryz.func62, Tryz.ntmps62
  go_wp2_with (refine wpList_allocS (w := w) rfl rfl ?_; intro w1 hA1 hb1 hs1)
  have l1 : w.heap.size < w1.heap.size := by omega
  clear hs1
  go_step3
  go_wp2_with (first
    | (refine wpList_str1 rfl _ rfl i rfl ?_)
    | (refine wpList_allocS (w := w1) rfl rfl ?_; intro w2 hA2 hb2 hs2; clear hs2)
    | (refine wpList_storeS rfl _ _ rfl w1.heap.size 0 (fun _ => 0) i (fun _ => 0) rfl rfl hA2 ?_; intro w3 hS3 hg3; have q3 := hS3.end hi11; have f3 := hS3.frozen (1 + i)))
  have g3 : Below w.heap.size w w3 := (hb1.trans (hb2.mono hb1.size)).grown hg3 (by have := hb1.size; have := hb2.size; omega) (fun k e => by cases e; omega)
  have HA3 : Hid (Str w3 w.heap.size 0 (fun _ => 0)) := (hA1.later hb2).grown hg3 (fun e => by have := Option.some.inj e; omega)
  have hS4 := (hS3.setE (j := i) true).congr (u := rowNx ws (way P ws) (deltaV i) (row.take 0)) (fun j _ => by
    show _ ↔ deltaV i j ≠ 0
    unfold deltaV; by_cases e : j = i <;> simp [e])
  have hW4 : Within w3 (w3.setCell ⟨w1.heap.size, 1 + i, none⟩ (.bool true)) (fun b => b = w1.heap.size) := set_within _ _ _ _ rfl
  have hB4 : Below w.heap.size w (w3.setCell ⟨w1.heap.size, 1 + i, none⟩ (.bool true)) := hW4.below g3 (fun b e => by omega)
  have HA4 : Hid (Str (w3.setCell ⟨w1.heap.size, 1 + i, none⟩ (.bool true)) w.heap.size 0 (fun _ => 0)) := HA3.out.kept (hW4.block _ HA3.out.lt (by omega))
  have HS4 : Hid (Str (w3.setCell ⟨w1.heap.size, 1 + i, none⟩ (.bool true)) w1.heap.size (farAt ws (way P ws) (farP P ws) i row 0) (rowNx ws (way P ws) (deltaV i) (row.take 0))) := by rw [← HST.out]; exact hS4
  have HB4 : Hid (Below w.heap.size w (w3.setCell ⟨w1.heap.size, 1 + i, none⟩ (.bool true))) := hB4
  have hSl : w1.heap.size < (w3.setCell ⟨w1.heap.size, 1 + i, none⟩ (.bool true)).heap.size := hS4.lt
  clear hA1 hb1 hA2 hb2 hS3 hg3 g3 HA3 hS4 hW4 hB4 q3 f3 HST
  generalize w3.setCell ⟨w1.heap.size, 1 + i, none⟩ (.bool true) = w4 at *
  have hRS : w.heap.size < w1.heap.size := l1
  clear l1
  generalize w1.heap.size = nS at *
  have HT4 : Hid (TrIn P ws w0 bT aP cP aw cw K w4) := HT.out.later HB4.out
  have HG0 : Hid (Within w4 w4 (fun b => b = bT ∨ b = nS)) := Within.refl _ _
  clear HT
  go_step3
  go_wp2
  go_loopw [17] (fun s17 wr => ∃ s : Nat, s ≤ row.length ∧ s17 = .int .i64 (s : Int) ∧ Hid (Str wr nS (farAt ws (way P ws) (farP P ws) i row s) (rowNx ws (way P ws) (deltaV i) (row.take s))) ∧ Hid (Within w4 wr (fun b => b = bT ∨ b = nS)) ∧ Hid (∃ K', TrIn P ws w0 bT aP cP aw cw K' wr ∧ ∀ b, K' b → K b ∨ w4.heap.size ≤ b)) (fun s17 _ => row.length - (intOf s17).toNat)
  case atStart => exact ⟨0, Nat.zero_le _, rfl, HS4, HG0, ⟨K, HT4.out, fun b e => .inl e⟩⟩
  case round =>
    obtain ⟨s, hs, rfl, HSq, HGq, HKq⟩ := hrel
    obtain ⟨wA, hwA⟩ : ∃ y, y = wr := ⟨_, rfl⟩
    subst hwA
    clear HS4 HG0
    have HAr : Hid (Str wA w.heap.size 0 (fun _ => 0)) := HA4.out.kept (HGq.out.block _ HA4.out.lt (by omega))
    have HENDW : Hid (∀ (m : Nat) (u : Nat → Nat) (w6 : World), aggV (strV m u) = R → wA.grownBy w6 (some w.heap.size) → (aggV (strV m u) = R) ∧ Hid (∃ K', TrIn P ws w0 bT aP cP aw cw K' w6 ∧ ∀ b, K' b → K b ∨ w.heap.size ≤ b) ∧ Within w w6 (fun b => b = bT)) := fun m u w6 hR hg6 => by
      obtain ⟨K2, hT2, hK2⟩ := HKq.out
      have hs4 := HB4.out.size
      have hWn : Within wA w6 (fun b => b = w.heap.size) := Within.of_grown hg6 (fun k e => by cases e; rfl)
      have hNR : ¬ K2 w.heap.size := fun e => by
        rcases hK2 _ e with e | e
        · have := HKB.out _ e; omega
        · omega
      exact ⟨hR, ⟨K2, hT2.kept hWn (fun b e => by subst e; exact ⟨by omega, by omega, hNR⟩), fun b e => (hK2 b e).imp id (fun h => by omega)⟩, ((Within.of_below HB4.out (fun b => b = bT)).comp HGq.out (fun b e => by rcases e with e | e; exact .inl e; exact .inr (by omega))).comp hWn (fun b e => .inr (by omega))⟩
    by_cases hlt : s < row.length
    · obtain ⟨K1, hT1, hK1⟩ := HKq.out
      obtain ⟨br, ofr, rfl, hbr, hcell⟩ := HRD.out.at hlt
      have hbrT : br ≠ bT := HRB.out br ofr (fun e => by rw [e] at hlt; simp at hlt) rfl
      have hbr4 : br < w4.heap.size := Nat.lt_of_lt_of_le hbr HB4.out.size
      have qr0 := (blk_cell (o := ofr + s) (HGq.out.block br hbr4 (fun e => e.elim hbrT (fun e => by omega)))).trans ((HB4.out.cell (p := ⟨br, ofr + s, none⟩) hbr).trans (hcell s hlt))
      rw [List.getD_eq_getElem?_getD, List.getElem?_eq_getElem hlt, Option.getD_some] at qr0
      have hsI : (s : Int) < (row.length : Int) := by omega
      by_cases hd : eB (rowNx ws (way P ws) (deltaV i) (row.take s)) = List.replicate 11 false
      · have HF : Hid (aggV (strV (farAt ws (way P ws) (farP P ws) i row s) (rowNx ws (way P ws) (deltaV i) (row.take s))) = R) := HFIN.out s hs (.inr hd)
        have HD : Hid (eB (rowNx ws (way P ws) (deltaV i) (row.take s)) = List.replicate 11 false) := hd
        clear HPT HLT HFIN HPA hcell hd hT1 hK1
        generalize row[s] = z at *
        generalize farAt ws (way P ws) (farP P ws) i row s = m at *
        generalize rowNx ws (way P ws) (deltaV i) (row.take s) = v at *
        go_wp2_with (first
          | (refine wpList_endsV rfl _ rfl nS m v rfl HSq.out ?_)
          | (refine wpList_places0 rfl rfl ?_)
          | (refine wpList_eqlB rfl 90 _ _ _ rfl (eB v) (List.replicate 11 false) rfl rfl (by kernel_rfl) (eq_places (eB_length v) rfl) ?_; rw [decide_eq_true HD.out])
          | (refine wpList_loadS rfl _ rfl nS m v rfl HSq.out ?_)
          | (refine wpList_storeS rfl _ _ rfl w.heap.size 0 (fun _ => 0) m v rfl rfl HAr.out ?_; intro w6 hS6 hg6))
        have HZ := HENDW.out m v w6 HF.out hg6
        rw [Exit.noGoto_ret]
        exact bodyPost_ret (v := aggV (strV m v)) (ret_cellS rfl rfl hS6) rfl ⟨by rw [HZ.1], HZ.2⟩
      · have HD : Hid (¬ eB (rowNx ws (way P ws) (deltaV i) (row.take s)) = List.replicate 11 false) := hd
        have hsy := symOk_true.1 (HSY.out row[s] (List.getElem_mem hlt))
        have hle := HLE.out s
        have HO := HOUT.out s
        have HOh : Hid (∀ j, ws.length < j → rowNx ws (way P ws) (deltaV i) (row.take s) j = 0) := HO
        have HK1 : Hid (∀ b, K1 b → K b ∨ w4.heap.size ≤ b) := hK1
        have HT1 : Hid (TrIn P ws w0 bT aP cP aw cw K1 wA) := hT1
        have hszA := HGq.out.size
        by_cases hz : row[s] < 100
        · have HN := HLT.out s hlt hz
          have hin : inB row[s] 0 25 = true := by rw [inB_true]; omega
          have HNh : Hid (farAt ws (way P ws) (farP P ws) i row (s + 1) = maxOn (letSpot ws row[s] (rowNx ws (way P ws) (deltaV i) (row.take s))) (farAt ws (way P ws) (farP P ws) i row s) ws.length ∧ rowNx ws (way P ws) (deltaV i) (row.take (s + 1)) = letNx ws row[s] (rowNx ws (way P ws) (deltaV i) (row.take s))) := HN
          clear HPT HLT HFIN HPA hcell hd hT1 hK1 HN HO hsy HENDW HKq
          generalize row[s] = z at *
          generalize farAt ws (way P ws) (farP P ws) i row s = m at *
          generalize rowNx ws (way P ws) (deltaV i) (row.take s) = v at *
          have X := strLetter_any z m v wA HT1.out HWS.out hn (by omega)
          go_wp2_with (first
            | (refine wpList_endsV rfl _ rfl nS m v rfl HSq.out ?_)
            | (refine wpList_places0 rfl rfl ?_)
            | (refine wpList_eqlB rfl 90 _ _ _ rfl (eB v) (List.replicate 11 false) rfl rfl (by kernel_rfl) (eq_places (eB_length v) rfl) ?_; rw [decide_eq_false HD.out])
            | (go_at_call 71; refine (isLetter_any _ _).mono ?_; rintro e w5 ⟨rfl, h5⟩; replace h5 := h5.symm; subst h5; rw [hin])
            | (refine wpList_loadS (w := wA) rfl _ rfl nS m v rfl HSq.out ?_)
            | (go_at_call 75; refine X.mono ?_; rintro e w6 ⟨rfl, hb6⟩; have hS6 := HSq.out.later hb6)
            | (refine wpList_storeS rfl _ _ rfl nS m v (maxOn (letSpot ws z v) m ws.length) (letNx ws z v) rfl rfl hS6 ?_; intro w7 hS7 hg7))
          have hWn : Within w6 w7 (fun b => b = nS) := Within.of_grown hg7 (fun k e => by cases e; rfl)
          have hNS : ¬ K1 nS := fun e => by
            rcases HK1.out nS e with e | e
            · have := HKB.out nS e; omega
            · omega
          have HKn : Hid (∃ K', TrIn P ws w0 bT aP cP aw cw K' w7 ∧ ∀ b, K' b → K b ∨ w4.heap.size ≤ b) := ⟨K1, (HT1.out.later hb6).kept hWn (fun b e => by subst e; exact ⟨by omega, by omega, hNS⟩), HK1.out⟩
          have HSn : Hid (Str w7 nS (farAt ws (way P ws) (farP P ws) i row (s + 1)) (rowNx ws (way P ws) (deltaV i) (row.take (s + 1)))) := by rw [HNh.out.1, HNh.out.2]; exact hS7
          have HGn : Hid (Within w4 w7 (fun b => b = bT ∨ b = nS)) := (HGq.out.trans (Within.of_below hb6 _)).trans (hWn.mono (fun b e => .inr e))
          clear hS6 hS7 hg7 hWn X HNh hb6
          go_wp2
          go_roundw
          case rel => exact ⟨s + 1, by omega, by go_num, HSn, HGn, HKn⟩
          case measure => simp [intOf]; omega
        · have hz' : 100 ≤ row[s] := by omega
          have HN := HPT.out s hlt hz'
          have hin : inB row[s] 0 25 = false := by
            cases e : inB row[s] 0 25
            · rfl
            · rw [inB_true] at e; omega
          have HNh : Hid (farAt ws (way P ws) (farP P ws) i row (s + 1) = maxOn (partSpot (farP P ws) (row[s] - 100).toNat (rowNx ws (way P ws) (deltaV i) (row.take s))) (farAt ws (way P ws) (farP P ws) i row s) (ws.length + 1) ∧ rowNx ws (way P ws) (deltaV i) (row.take (s + 1)) = partNx ws.length (way P ws (row[s] - 100).toNat) (rowNx ws (way P ws) (deltaV i) (row.take s))) := HN
          have X := strPart_any (row[s] - 100).toNat (farAt ws (way P ws) (farP P ws) i row s) (rowNx ws (way P ws) (deltaV i) (row.take s)) wA HT1.out hn HOh.out (HPA.out s hlt hz')
          rw [part_nat hz'] at X
          have hzI : row[s] ≤ 119 + 1048576 := by have := F.parts; omega
          clear HPT HLT HFIN HPA hcell hd hT1 hK1 HN HO hsy HENDW HKq
          generalize maxOn (partSpot (farP P ws) (row[s] - 100).toNat (rowNx ws (way P ws) (deltaV i) (row.take s))) (farAt ws (way P ws) (farP P ws) i row s) (ws.length + 1) = m2 at *
          generalize partNx ws.length (way P ws (row[s] - 100).toNat) (rowNx ws (way P ws) (deltaV i) (row.take s)) = v2 at *
          generalize row[s] = z at *
          generalize farAt ws (way P ws) (farP P ws) i row s = m at *
          generalize rowNx ws (way P ws) (deltaV i) (row.take s) = v at *
          go_wp2_with (first
            | (refine wpList_endsV rfl _ rfl nS m v rfl HSq.out ?_)
            | (refine wpList_places0 rfl rfl ?_)
            | (refine wpList_eqlB rfl 90 _ _ _ rfl (eB v) (List.replicate 11 false) rfl rfl (by kernel_rfl) (eq_places (eB_length v) rfl) ?_; rw [decide_eq_false HD.out])
            | (go_at_call 71; refine (isLetter_any _ _).mono ?_; rintro e w5 ⟨rfl, h5⟩; replace h5 := h5.symm; subst h5; rw [hin])
            | (refine wpList_loadS (w := wA) rfl _ rfl nS m v rfl HSq.out ?_)
            | (go_at_call 76; refine X.mono ?_; rintro e w6 ⟨rfl, HK6, hW6⟩; have hS6 := HSq.out.kept (hW6.block nS HSq.out.lt (by omega)))
            | (refine wpList_storeS rfl _ _ rfl nS m v m2 v2 rfl rfl hS6 ?_; intro w7 hS7 hg7))
          obtain ⟨K2, hT2, hK2⟩ := HK6.out
          have hWn : Within w6 w7 (fun b => b = nS) := Within.of_grown hg7 (fun k e => by cases e; rfl)
          have hNS : ¬ K2 nS := fun e => by
            rcases hK2 nS e with e | e
            · rcases HK1.out nS e with e | e
              · have := HKB.out nS e; omega
              · omega
            · omega
          have HKn : Hid (∃ K', TrIn P ws w0 bT aP cP aw cw K' w7 ∧ ∀ b, K' b → K b ∨ w4.heap.size ≤ b) := ⟨K2, hT2.kept hWn (fun b e => by subst e; exact ⟨by omega, by omega, hNS⟩), fun b e => by
            rcases hK2 b e with e | e
            · exact HK1.out b e
            · right; omega⟩
          have HSn : Hid (Str w7 nS (farAt ws (way P ws) (farP P ws) i row (s + 1)) (rowNx ws (way P ws) (deltaV i) (row.take (s + 1)))) := by rw [HNh.out.1, HNh.out.2]; exact hS7
          have HGn : Hid (Within w4 w7 (fun b => b = bT ∨ b = nS)) := (HGq.out.trans (hW6.mono (fun b e => .inl e))).trans (hWn.mono (fun b e => .inr e))
          clear hS6 hS7 hg7 hWn X HNh hW6 hT2 hK2 HK6
          go_wp2
          go_roundw
          case rel => exact ⟨s + 1, by omega, by go_num, HSn, HGn, HKn⟩
          case measure => simp [intOf]; omega
    · have e : s = row.length := by omega
      have HF : Hid (aggV (strV (farAt ws (way P ws) (farP P ws) i row s) (rowNx ws (way P ws) (deltaV i) (row.take s))) = R) := HFIN.out s hs (.inl e)
      clear HPT HLT HFIN HPA e
      generalize farAt ws (way P ws) (farP P ws) i row s = m at *
      generalize rowNx ws (way P ws) (deltaV i) (row.take s) = v at *
      go_wp2_with (first
        | (refine wpList_loadS rfl _ rfl nS m v rfl HSq.out ?_)
        | (refine wpList_storeS rfl _ _ rfl w.heap.size 0 (fun _ => 0) m v rfl rfl HAr.out ?_; intro w6 hS6 hg6))
      have HZ := HENDW.out m v w6 HF.out hg6
      rw [Exit.noGoto_ret]
      exact bodyPost_ret (v := aggV (strV m v)) (ret_cellS rfl rfl hS6) rfl ⟨by rw [HZ.1], HZ.2⟩
end
end Go.Proofs.YthnppodnjokaoaaGreatDoor
namespace Go.Proofs.YthnppodnjokaoaaGreatDoor
open Go.RowKit

section
variable {Q8 : Program}
theorem exec_loadP {ρ : Operand → Value} {o : Oper} {w : World} {ty e : TypeId} {x : Operand} {p : Addr} {v : Value} (ho : o.op = .load ty x) (hx : ρ x = .pointer (some p)) (hu : Q8.underlying ty = some (.pointer e)) (hc : w.cell? p = some v) :
    (execOp ρ o).run Q8 w = .ok (.value v) w := by
  have hg : (isAgg ty).run Q8 w = .ok false w := by simp [isAgg, run_underlying hu]
  unfold execOp
  simp [ho, hx, Instr.loadAt, Instr.sureAddr, loadVar, hg, hc]
theorem exec_storeP {ρ : Operand → Value} {o : Oper} {w : World} {ty : TypeId} {x y : Operand} {p : Addr} {v u : Value} {u8 : Option Addr} (ho : o.op = .store ty x y) (hx : ρ x = .pointer (some p)) (hy : ρ y = .pointer u8) (hv : v = .pointer u8) (hz : (Q8.info? ty).map (·.size) = some 1) (hc : w.cell? p = some u) (hf : w.frozen? p = false) :
    (execOp ρ o).run Q8 w = .ok .skip (w.setCell p v) := by
  subst hv
  have hs : (sizeOf ty).run Q8 w = .ok 1 w := by
    cases hq : Q8.info? ty with
    | none => simp [hq] at hz
    | some j => simp [hq] at hz; simp [sizeOf, typeInfo, hq, hz]
  have hp : p.add 0 = p := by obtain ⟨b, o, e⟩ := p; simp [Addr.add]
  have hst : (store p (.pointer u8)).run Q8 w = .ok () (w.setCell p (.pointer u8)) := by rw [run_store Q8 w p (.pointer u8) _ rfl, hc]; simp [hf]
  unfold execOp
  simp [ho, hx, hy, Instr.storeAt, Instr.sureAddr, storeVar, hs, Value.cells, storeCells, hp, hst]
theorem wpList_loadP {ops : Array Oper} {rest : List Oper} {o : Oper} {a : Act} {w : World} {Q : Exit → Act → World → Prop} (hgd : Region.wanted o (yielded ops a.tmps) = true) (ty e : TypeId) (x : Operand) (ho : o.op = .load ty x) (p : Addr) (v : Value) (hx : a.eval x = .pointer (some p)) (hu : Q8.underlying ty = some (.pointer e)) (hc : w.cell? p = some v)
    (h : wpList Q8 ops Q rest (a.put o.dst v) w) : wpList Q8 ops Q (o :: rest) a w :=
  wpList_val hgd (exec_loadP ho hx hu hc) h
theorem wpList_storeP {ops : Array Oper} {rest : List Oper} {o : Oper} {a : Act} {w : World} {Q : Exit → Act → World → Prop} (hgd : Region.wanted o (yielded ops a.tmps) = true) (ty : TypeId) (x y : Operand) (ho : o.op = .store ty x y) (p : Addr) (u8 : Option Addr) (u : Value) (hx : a.eval x = .pointer (some p)) (hy : a.eval y = .pointer u8) (hz : (Q8.info? ty).map (·.size) = some 1) (hc : w.cell? p = some u) (hf : w.frozen? p = false)
    (h : wpList Q8 ops Q rest (a.put o.dst undef) (w.setCell p (.pointer u8))) : wpList Q8 ops Q (o :: rest) a w :=
  wpList_unit hgd (exec_storeP ho hx hy rfl hz hc hf) h
end
theorem u_pstr : Tryz.prog.underlying 51 = some (.pointer 92) := by kernel_rfl
theorem pstr_size : (Tryz.prog.info? 51).map (·.size) = some 1 := by kernel_rfl
/-- What the first alternatives lead to. -/
def altTo8 (f : Nat → Nat → Nat) (a : Nat) : Nat → Nat := fun j => sumTo (fun x => f x j) a
theorem altTo8_end {P : List (List (List Int))} {ws : List Int} (F : Fits P) (hL : NoLoop P) {k i : Nat} (hk : k < P.length) (hi : i ≤ ws.length) (j : Nat) : altTo8 (fun a => rowNx ws (way P ws) (deltaV i) (P[k].getD a [])) P[k].length j ≠ 0 ↔ way P ws k i j ≠ 0 := by
  rw [way_eq F hL hk hi]
  show sumTo (fun a => rowNx ws (way P ws) (deltaV i) (P[k].getD a []) j) P[k].length ≠ 0 ↔ capN (sumTo (fun a => rowNx ws (way P ws) (deltaV i) (P[k].getD a []) j) P[k].length) ≠ 0
  generalize sumTo (fun a => rowNx ws (way P ws) (deltaV i) (P[k].getD a []) j) P[k].length = y
  unfold capN
  omega
section
variable {P : List (List (List Int))} {ws : List Int} {w0 : World} {bT : Nat} {aP : Option Addr} {cP : Nat} {aw : Option Addr} {cw : Nat} {K : Nat → Prop}
set_option maxHeartbeats 8000000 in
set_option maxRecDepth 100000 in
theorem strOf_walk (k i : Nat) (w : World) (hT : TrIn P ws w0 bT aP cP aw cw K w) (hk : k < P.length) (hi : i ≤ ws.length) (hn : ws.length ≤ 10) (hp : P.length ≤ 20) (hp8 : P[k].length ≤ 8) (h0 : RD w0 (.slice aP P.length cP) (slD (Lay.list (Lay.list Lay.int)) P)) (fr : Nat → Nat) (nx : Nat → Nat → Nat)
    (hrow : ∀ a (ha : a < P[k].length) (W : World) (K : Nat → Prop) (ar : Option Addr) (cr : Nat), TrIn P ws w0 bT aP cP aw cw K W → RD w0 (.slice ar P[k][a].length cr) (slD Lay.int P[k][a]) → Calls Tryz.prog 62 #[.pointer (some ⟨bT, 0, none⟩), .slice ar P[k][a].length cr, .int .i64 (i : Int)] W fun e w' => e = .returned (aggV (strV (fr a) (nx a))) ∧ Hid (∃ K', TrIn P ws w0 bT aP cP aw cw K' w' ∧ ∀ b, K' b → K b ∨ W.heap.size ≤ b) ∧ Within W w' (fun b => b = bT))
    (heq : farP P ws k i = maxOn fr i P[k].length) (heq2 : ∀ j, altTo8 nx P[k].length j ≠ 0 ↔ way P ws k i j ≠ 0) :
    Calls Tryz.prog 95 #[.pointer (some ⟨bT, 0, none⟩), .int .i64 (k : Int), .int .i64 (i : Int)] w fun e w' => e = .returned (aggV (strV (farP P ws k i) (way P ws k i))) ∧ Hid (∃ K', TrIn P ws w0 bT aP cP aw cw K' w' ∧ ∀ b, K' b → K b ∨ w.heap.size ≤ b) ∧ Within w w' (fun b => b = bT) := by
  have HT : Hid (TrIn P ws w0 bT aP cP aw cw K w) := hT
  have hbl := hT.lt
  have hb0 := hT.low.size
  have HKB : Hid (∀ b, K b → b < w.heap.size ∧ b ≠ bT) := fun b e => ⟨(hT.kb b e).2.2, (hT.kb b e).1⟩
  have HP : Hid (RD w0 (.slice aP P.length cP) (slD (Lay.list (Lay.list Lay.int)) P)) := h0
  have HRO : Hid (∀ a (ha : a < P[k].length) (W : World) (K : Nat → Prop) (ar : Option Addr) (cr : Nat), TrIn P ws w0 bT aP cP aw cw K W → RD w0 (.slice ar P[k][a].length cr) (slD Lay.int P[k][a]) → Calls Tryz.prog 62 #[.pointer (some ⟨bT, 0, none⟩), .slice ar P[k][a].length cr, .int .i64 (i : Int)] W fun e w' => e = .returned (aggV (strV (fr a) (nx a))) ∧ Hid (∃ K', TrIn P ws w0 bT aP cP aw cw K' w' ∧ ∀ b, K' b → K b ∨ W.heap.size ≤ b) ∧ Within W w' (fun b => b = bT)) := hrow
  have HEQ : Hid (maxOn fr i P[k].length = farP P ws k i) := heq.symm
  have HEQ2 : Hid (∀ j, altTo8 nx P[k].length j ≠ 0 ↔ way P ws k i j ≠ 0) := heq2
  have hk20 : (k : Int) < 20 := by omega
  have hi11 : (i : Int) < 11 := by omega
  have hkI : (k : Int) < (P.length : Int) := by omega
  clear hT hrow heq heq2 h0
  obtain ⟨u, qu, hu⟩ := HT.out.known k i hk hi
  cases u with
  | some ad =>
    obtain ⟨b, rfl, hKb, hSb⟩ := hu ad rfl
    have HSb : Hid (Str w b (farP P ws k i) (way P ws k i)) := hSb
    clear hu hSb HEQ HEQ2 HRO HP hKb
    generalize farP P ws k i = m at *
    generalize way P ws k i = v at *
    go_enter Tryz.func95, Tryz.ntmps95
    go_wp2_with (first
      | (refine wpList_allocS (w := w) rfl rfl ?_; intro w1 hA1 hb1 hs1; have l1 : w.heap.size < w1.heap.size := (by omega); clear hs1; have qu1 := (hb1.cell (p := ⟨bT, 2 + k * 11 + i, none⟩) hbl).trans qu)
      | (refine wpList_loadS rfl _ rfl b m v rfl (HSb.out.later hb1) ?_)
      | (refine wpList_storeS rfl _ _ rfl w.heap.size 0 (fun _ => 0) m v rfl rfl hA1 ?_; intro w6 hS6 hg6))
    have HT1 : Hid (TrIn P ws w0 bT aP cP aw cw K w1) := HT.out.later hb1
    have hWn : Within w1 w6 (fun b => b = w.heap.size) := Within.of_grown hg6 (fun k e => by cases e; rfl)
    exact bodyPost_ret (v := aggV (strV m v)) (ret_cellS rfl rfl hS6) rfl ⟨rfl, ⟨K, HT1.out.kept hWn (fun b e => by subst e; exact ⟨by omega, by omega, fun h => by have := (HKB.out _ h).1; omega⟩), fun b e => .inl e⟩, (Within.of_below hb1 (fun b => b = bT)).comp hWn (fun b e => .inr (by omega))⟩
  | none =>
    clear hu
    obtain ⟨b1, o1, rfl, hb1a, a1, ca1, p1, r1⟩ := HP.out.listAt hk
    have HR1 : Hid (RD w0 (.slice a1 P[k].length ca1) (slD (Lay.list Lay.int) P[k])) := r1
    have q0 := HT.out.c0
    have p1a := (HT.out.low.cell (p := ⟨b1, o1 + k, none⟩) hb1a).trans p1
    have hlow1 := HT.out.low.size
    have HC : Hid (∀ W, Below w.heap.size w W → W.cell? ⟨bT, 0, none⟩ = some (.slice (some ⟨b1, o1, none⟩) P.length cP) ∧ W.cell? ⟨b1, o1 + k, none⟩ = some (.slice a1 P[k].length ca1)) := fun W hW => ⟨(hW.cell (p := ⟨bT, 0, none⟩) HT.out.lt).trans q0, (hW.cell (p := ⟨b1, o1 + k, none⟩) (by show b1 < _; omega)).trans p1a⟩
    clear p1 r1 q0 p1a
    go_enter Tryz.func95, Tryz.ntmps95
    go_wp2_with (first
      | (refine wpList_allocS (w := w) rfl rfl ?_; intro w1 hA1 hb1 hs1; have l1 : w.heap.size < w1.heap.size := (by omega); clear hs1; have qu1 := (hb1.cell (p := ⟨bT, 2 + k * 11 + i, none⟩) hbl).trans qu)
      | (refine wpList_str1 rfl _ rfl i rfl ?_)
      | (refine wpList_allocS (w := w1) rfl rfl ?_; intro w2 hA2 hb2 hs2; clear hs2)
      | (refine wpList_storeS rfl _ _ rfl w1.heap.size 0 (fun _ => 0) i (fun _ => 0) rfl rfl hA2 ?_; intro w4 hS4 hg4; have g4 : Below w1.heap.size w1 w4 := (hb2.grown hg4 hb2.size (fun k e => by cases e; omega)); have g40 : Below w.heap.size w w4 := hb1.trans (g4.mono hb1.size); obtain ⟨q0, p1a⟩ := HC.out w4 g40))
    have HA1 : Hid (Str w1 w.heap.size 0 (fun _ => 0)) := hA1
    have HB1 : Hid (Below w.heap.size w w1) := hb1
    have HT1 : Hid (TrIn P ws w0 bT (some ⟨b1, o1, none⟩) cP aw cw K w1) := HT.out.later hb1
    have HS0 : Hid (Str w4 w1.heap.size (maxOn fr i 0) (altTo8 nx 0)) := hS4
    have HA4 : Hid (Str w4 w.heap.size 0 (fun _ => 0)) := (HA1.out.later hb2).grown hg4 (fun e => by have := Option.some.inj e; omega)
    have HT4 : Hid (TrIn P ws w0 bT (some ⟨b1, o1, none⟩) cP aw cw K w4) := HT1.out.later g4
    have HB4 : Hid (Below w.heap.size w w4) := HB1.out.trans (g4.mono HB1.out.size)
    have hSl : w1.heap.size < w4.heap.size := hS4.lt
    have HG0 : Hid (Within w4 w4 (fun b => b = bT ∨ b = w1.heap.size)) := Within.refl _ _
    have HC4 : Hid (∀ b, b ≠ bT → b < w.heap.size → b ≠ w1.heap.size) := fun b _ h => by omega
    clear hA2 hb2 hS4 hg4 g4 g40 HA1 HT1 HB1 HC qu qu1 q0 p1a hA1 hb1 HT
    have hb1w : b1 < w.heap.size := by omega
    have hbT1 : bT < w1.heap.size := by omega
    clear HC4
    generalize w1.heap.size = nS at *
    go_loopw [35] (fun s35 wr => ∃ a : Nat, a ≤ P[k].length ∧ s35 = .int .i64 (a : Int) ∧ Hid (Str wr nS (maxOn fr i a) (altTo8 nx a)) ∧ Hid (Within w4 wr (fun b => b = bT ∨ b = nS)) ∧ Hid (∃ K', TrIn P ws w0 bT (some ⟨b1, o1, none⟩) cP aw cw K' wr ∧ ∀ b, K' b → K b ∨ w4.heap.size ≤ b)) (fun s35 _ => P[k].length - (intOf s35).toNat)
    case atStart => exact ⟨0, Nat.zero_le _, rfl, HS0, HG0, ⟨K, HT4.out, fun b e => .inl e⟩⟩
    case round =>
      obtain ⟨a, ha, rfl, HSq, HGq, HKq⟩ := hrel
      obtain ⟨wA, hwA⟩ : ∃ y, y = wr := ⟨_, rfl⟩
      subst hwA
      clear HS0 HG0
      obtain ⟨K1, hT1, hK1⟩ := HKq.out
      have HT1 : Hid (TrIn P ws w0 bT (some ⟨b1, o1, none⟩) cP aw cw K1 wA) := hT1
      have HK1 : Hid (∀ b, K1 b → K b ∨ w4.heap.size ≤ b) := hK1
      have hszA := HGq.out.size
      clear hT1 hK1 HKq
      by_cases hlt : a < P[k].length
      · obtain ⟨b2, o2, rfl, hb2, a2, ca2, q2, r2⟩ := HR1.out.listAt hlt
        have q2a := (HT1.out.low.cell (p := ⟨b2, o2 + a, none⟩) hb2).trans q2
        have X := HRO.out a hlt wA K1 a2 ca2 HT1.out r2
        have haI : (a : Int) < (P[k].length : Int) := by omega
        have HSn0 : Hid (∀ w7, Str w7 nS (max (maxOn fr i a) (fr a)) (fun j => altTo8 nx a j + nx a j) → Str w7 nS (maxOn fr i (a + 1)) (altTo8 nx (a + 1))) := fun w7 h => h
        clear r2 q2 HRO HEQ HEQ2
        generalize P[k][a].length = n2 at *
        go_wp2_with (first
          | (go_at_call 62; refine X.mono ?_; rintro e w6 ⟨rfl, HK6, hW6⟩; have hS6 := HSq.out.kept (hW6.block nS HSq.out.lt (by omega)))
          | (go_at_call 94; refine (strJoin_any nS _ _ _ _ w6 hS6).mono ?_; rintro e w7 ⟨rfl, hS7, hg7⟩))
        obtain ⟨K2, hT2, hK2⟩ := HK6.out
        have hWn : Within w6 w7 (fun b => b = nS) := Within.of_grown hg7 (fun k e => by cases e; rfl)
        have hNS : ¬ K2 nS := fun e => by
          rcases hK2 nS e with e | e
          · rcases HK1.out nS e with e | e
            · have := (HKB.out nS e).1; omega
            · omega
          · omega
        have HKn : Hid (∃ K', TrIn P ws w0 bT (some ⟨b1, o1, none⟩) cP aw cw K' w7 ∧ ∀ b, K' b → K b ∨ w4.heap.size ≤ b) := ⟨K2, hT2.kept hWn (fun b e => by subst e; exact ⟨by omega, by omega, hNS⟩), fun b e => by
          rcases hK2 b e with e | e
          · exact HK1.out b e
          · right; omega⟩
        have HSn : Hid (Str w7 nS (maxOn fr i (a + 1)) (altTo8 nx (a + 1))) := HSn0.out w7 hS7
        have HGn : Hid (Within w4 w7 (fun b => b = bT ∨ b = nS)) := (HGq.out.trans (hW6.mono (fun b e => .inl e))).trans (hWn.mono (fun b e => .inr e))
        clear hT2 hK2 hS6 hS7 hg7 hW6 hWn X HK6 HSn0
        go_wp2
        go_roundw
        case rel => exact ⟨a + 1, by omega, by go_num, HSn, HGn, HKn⟩
        case measure => simp [intOf]; omega
      · have e : a = P[k].length := by omega
        subst e
        have HSf : Hid (Str wA nS (farP P ws k i) (way P ws k i)) := by
          have := HSq.out.congr (fun j _ => HEQ2.out j)
          rw [HEQ.out] at this
          exact this
        have HAr : Hid (Str wA w.heap.size 0 (fun _ => 0)) := HA4.out.kept (HGq.out.block _ HA4.out.lt (by omega))
        obtain ⟨u', qu', _⟩ := HT1.out.known k i hk hi
        have fu := HT1.out.fr (2 + k * 11 + i)
        have HPUT := HT1.out.put (k := k) (i := i) hi hn (by omega : nS ≠ bT) (by omega) HSf.out
        have HPh : Hid (TrIn P ws w0 bT (some ⟨b1, o1, none⟩) cP aw cw (fun x => K1 x ∨ x = nS) (wA.setCell ⟨bT, 2 + k * 11 + i, none⟩ (.pointer (some ⟨nS, 0, none⟩)))) := HPUT
        have hW8 : Within wA (wA.setCell ⟨bT, 2 + k * 11 + i, none⟩ (.pointer (some ⟨nS, 0, none⟩))) (fun b => b = bT) := set_within _ _ _ _ rfl
        have HS8 : Hid (Str (wA.setCell ⟨bT, 2 + k * 11 + i, none⟩ (.pointer (some ⟨nS, 0, none⟩))) nS (farP P ws k i) (way P ws k i)) := HSf.out.kept (hW8.block nS HSf.out.lt (by omega))
        have HA8 : Hid (Str (wA.setCell ⟨bT, 2 + k * 11 + i, none⟩ (.pointer (some ⟨nS, 0, none⟩))) w.heap.size 0 (fun _ => 0)) := HAr.out.kept (hW8.block _ HAr.out.lt (by omega))
        have HW8 : Hid (Within w4 (wA.setCell ⟨bT, 2 + k * 11 + i, none⟩ (.pointer (some ⟨nS, 0, none⟩))) (fun b => b = bT ∨ b = nS)) := HGq.out.trans (hW8.mono (fun b e => .inl e))
        clear HPUT hW8 HSf HAr HSq HGq HRO HEQ HEQ2 HT1 HR1
        go_wp2_with (first
          | (refine wpList_storeP rfl 51 _ _ rfl ⟨bT, 2 + k * 11 + i, none⟩ (some ⟨nS, 0, none⟩) _ rfl rfl pstr_size qu' fu ?_)
          | (refine wpList_loadS rfl _ rfl nS (farP P ws k i) (way P ws k i) rfl HS8.out ?_)
          | (refine wpList_storeS rfl _ _ rfl w.heap.size 0 (fun _ => 0) (farP P ws k i) (way P ws k i) rfl rfl HA8.out ?_; intro w9 hS9 hg9))
        have hWn : Within (wA.setCell ⟨bT, 2 + k * 11 + i, none⟩ (.pointer (some ⟨nS, 0, none⟩))) w9 (fun b => b = w.heap.size) := Within.of_grown hg9 (fun k e => by cases e; rfl)
        have hs4 := HB4.out.size
        exact bodyPost_ret (v := aggV (strV (farP P ws k i) (way P ws k i))) (ret_cellS rfl rfl hS9) rfl ⟨rfl, ⟨_, HPh.out.kept hWn (fun b e => by
          subst e
          refine ⟨by omega, by omega, fun h => ?_⟩
          rcases h with h | h
          · rcases HK1.out _ h with h | h
            · have := (HKB.out _ h).1; omega
            · omega
          · omega), fun b e => by
          rcases e with e | e
          · exact (HK1.out b e).imp id (fun h => by omega)
          · right; omega⟩, ((Within.of_below HB4.out (fun b => b = bT)).comp HW8.out (fun b e => by rcases e with e | e; exact .inl e; exact .inr (by omega))).comp hWn (fun b e => .inr (by omega))⟩
/-- impl.tracer.ofPart at every part and place. -/
theorem strOf_ok (hok : gramOkB P = true) (hL : NoLoop P) (hws : Reads w0 aw ws) (hn : ws.length ≤ 10) (hP : RD w0 (.slice aP P.length cP) (slD (Lay.list (Lay.list Lay.int)) P)) (m : Nat) :
    ∀ k i, k < P.length → i ≤ ws.length → muP P ws.length k i < m → StrPartOk P ws w0 bT aP cP aw cw k i := by
  have F := Fits.of hok
  induction m with
  | zero => intro k i _ _ h; omega
  | succ m ih =>
    intro k i hk hi hm W K hC
    have hmem := List.getElem_mem hk
    refine strOf_walk k i W hC hk hi hn F.parts (F.alts _ hmem) hP (fun a => farRow ws (way P ws) (farP P ws) i (P[k].getD a [])) (fun a => rowNx ws (way P ws) (deltaV i) (P[k].getD a [])) ?_ (far_eq F hL hk hi) (fun j => altTo8_end F hL hk hi j)
    intro a ha W' K' ar cr h1 h2
    have hmem2 := List.getElem_mem ha
    have ea : P[k].getD a [] = P[k][a] := by simp [List.getD, ha]
    show Calls _ _ _ _ (fun e w' => e = .returned (aggV (strV (farRow ws (way P ws) (farP P ws) i (P[k].getD a [])) (rowNx ws (way P ws) (deltaV i) (P[k].getD a [])))) ∧ _)
    rw [ea]
    refine strRow_any P[k][a] ar cr i W' h1 hws (h2.reads.below h1.low) (fun b off hne e => ?_) (by have := F.rows _ hmem _ hmem2; omega) hn hi ?_ F hL ?_
    · obtain ⟨b', off', e', hlt, _⟩ := h2.reads.at (List.length_pos_iff.2 hne)
      rw [e] at e'
      have := (Addr.mk.inj (Option.some.inj e')).1
      have := h1.lT
      omega
    · intro x hx
      simp only [gramOkB, Bool.and_eq_true, List.all_eq_true, partOk, rowOk] at hok
      exact (((hok.2 _ hmem).2 _ hmem2).2) x hx
    · intro s hs hx j hj hne
      obtain ⟨_, _, h5⟩ := way_lt F hL hk ha hi hs hx hne
      exact ih _ j (gram_part hok hk ha hs) hj (by omega)
end
end Go.Proofs.YthnppodnjokaoaaGreatDoor
namespace Go.Proofs.YthnppodnjokaoaaGreatDoor
open Go.RowKit

/-- The values of a tracer that knows nothing. -/
def trV (u v : Value) : List Value := u :: v :: List.replicate 220 (.pointer none)
theorem trV_length (u v : Value) : (trV u v).length = 222 := by rw [trV, List.length_cons, List.length_cons, List.length_replicate]
theorem trV_ones {u v : Value} (hu : u.oneCell' = true) (hv : v.oneCell' = true) : Ones (trV u v) := fun x hx => by
  simp only [trV, List.mem_cons] at hx
  rcases hx with rfl | rfl | hx
  · exact hu
  · exact hv
  · rw [(List.mem_replicate.1 hx).2]; rfl
theorem trV_known (u v : Value) {n : Nat} (h : n < 220) : (trV u v)[2 + n]? = some (.pointer none) := by
  rw [Nat.add_comm]
  show (List.replicate 220 (Value.pointer none))[n]? = _
  rw [List.getElem?_replicate, if_pos h]
set_option maxRecDepth 100000 in
theorem rt_tr : RowT Tryz.prog 55 (trV (.slice none 0 0) (.slice none 0 0)) := ⟨by kernel_rfl, row_of (by kernel_rfl)⟩
theorem fill_tr {place : Nat → Option (Nat × Nat)} (h0 : place 0 = some (0, 1)) (h1 : place 1 = some (1, 1)) (u0 v0 u : Value) (R : List Value) (a : Option Addr) (l c : Nat) :
    Instr.fill place (u0 :: v0 :: R).toArray [(0, .agg #[u]), (1, .slice a l c)] = some (u :: .slice a l c :: R).toArray := by
  simp [Instr.fill, h0, h1, Value.cells]
set_option maxRecDepth 100000 in
set_option maxHeartbeats 1000000 in
theorem exec_tr {ρ : Operand → Value} {o : Oper} {x y : Operand} {aP : Option Addr} {lP cP : Nat} {aw : Option Addr} {lw cw : Nat} (ho : o.op = .build 55 #[(0, x), (1, y)]) (hx : ρ x = .agg #[.slice aP lP cP]) (hy : ρ y = .slice aw lw cw) (w : World) :
    (execOp ρ o).run Tryz.prog w = .ok (.value (aggV (trV (.slice aP lP cP) (.slice aw lw cw)))) w := by
  have hf := fill_tr (place := fun x => ([((0 : Nat), (1 : Nat)), (1, 1), (2, 220)] : List (Nat × Nat))[x]?) rfl rfl (.slice none 0 0) (.slice none 0 0) (.slice aP lP cP) (List.replicate 220 (.pointer none)) aw lw cw
  have hz := rt_tr.zero w
  unfold trV at *
  generalize List.replicate 220 (Value.pointer none) = Z at *
  unfold execOp
  simp [ho, Instr.build, hz, run_underlying Tryz.underlying55, hx, hy, Value.cells, aggV]
  rw [hf]
  rfl
theorem wpList_tr {ops : Array Oper} {rest : List Oper} {o : Oper} {a : Act} {w : World} {Q : Exit → Act → World → Prop} (hgd : Region.wanted o (yielded ops a.tmps) = true) (x y : Operand) (ho : o.op = .build 55 #[(0, x), (1, y)]) (aP : Option Addr) (lP cP : Nat) (aw : Option Addr) (lw cw : Nat) (hx : a.eval x = .agg #[.slice aP lP cP]) (hy : a.eval y = .slice aw lw cw)
    (h : wpList Tryz.prog ops Q rest (a.put o.dst (aggV (trV (.slice aP lP cP) (.slice aw lw cw)))) w) : wpList Tryz.prog ops Q (o :: rest) a w :=
  wpList_val hgd (exec_tr ho hx hy w) h
section
variable {P : List (List (List Int))} {ws : List Int} {w0 : World} {bT : Nat} {aP : Option Addr} {cP : Nat} {aw : Option Addr} {cw : Nat} {K : Nat → Prop}
theorem TrIn.new {w : World} (hV : Vals w bT 55 (trV (.slice aP P.length cP) (.slice aw ws.length cw))) (hlow : Below w0.heap.size w0 w) (hb : w0.heap.size ≤ bT) (hp : P.length ≤ 20) (hn : ws.length ≤ 10) : TrIn P ws w0 bT aP cP aw cw (fun _ => False) w :=
  ⟨hlow, hb, hV.lt, by rw [hV.cell]; rfl, by rw [hV.cell]; rfl, fun i => hV.frozen i, fun b e => e.elim, fun k i hk hi => ⟨none, by rw [hV.cell, Nat.add_assoc, trV_known _ _ (by omega)], fun a e => by cases e⟩⟩
theorem wholeFar_any (a : Option Addr) (n c i : Nat) (w : World) (hn : n ≤ 10) (hi : i ≤ n) : Calls Tryz.prog 63 #[.slice a n c, .int .i64 (i : Int)] w fun e w' => e = .returned (.int .i64 ((n - i + 1 : Nat) : Int)) ∧ w' = w := by
  have hiI : (i : Int) ≤ (n : Int) := by omega
  have hnI : (n : Int) ≤ 10 := by omega
  go_enter Tryz.func63, Tryz.ntmps63
  go_wp2
  go_ret
  exact ⟨ret_int (by omega), rfl⟩
set_option maxHeartbeats 4000000 in
set_option maxRecDepth 100000 in
theorem trFar_any (row : List Int) (ar : Option Addr) (cr i : Nat) (w : World) (hT : TrIn P ws w0 bT aP cP aw cw K w) (hws : Reads w0 aw ws) (hr : Reads w ar row) (hrb : ∀ b off, row ≠ [] → ar = some ⟨b, off, none⟩ → b ≠ bT) (hrl : row.length ≤ 1048576) (hn : ws.length ≤ 10) (hi : i ≤ ws.length) (hrow : ∀ x ∈ row, symOk P.length x = true) (hok : gramOkB P = true) (hL : NoLoop P) (hP : RD w0 (.slice aP P.length cP) (slD (Lay.list (Lay.list Lay.int)) P)) :
    Calls Tryz.prog 45 #[.pointer (some ⟨bT, 0, none⟩), .slice ar row.length cr, .int .i64 (i : Int)] w fun e w' => e = .returned (.int .i64 (farOf P row ws i : Int)) ∧ Hid (∃ K', TrIn P ws w0 bT aP cP aw cw K' w' ∧ ∀ b, K' b → K b ∨ w.heap.size ≤ b) ∧ Within w w' (fun b => b = bT) := by
  have X := strRow_any row ar cr i w hT hws hr hrb hrl hn hi hrow (Fits.of hok) hL (fun s hs hx j hj _ => by
    have := symOk_true.1 (hrow row[s] (List.getElem_mem hs))
    exact strOf_ok hok hL hws hn hP _ _ j (by omega) hj (Nat.lt_succ_self _))
  have HK0 : Hid (∀ b, K b → b < w.heap.size) := fun b e => (hT.kb b e).2.2
  have hge : i ≤ farRow ws (way P ws) (farP P ws) i row := farRow_ge _ _ _ _ _
  have hle : farRow ws (way P ws) (farP P ws) i row ≤ ws.length := farRow_le hi (fun k j hj => farP_le P ws k j hj)
  have E1 : Hid (rowNx ws (way P ws) (deltaV i) row ws.length ≠ 0 → farOf P row ws i = ws.length - i + 1) := farOf_end hi
  have E2 : Hid (rowNx ws (way P ws) (deltaV i) row ws.length = 0 → farOf P row ws i = farRow ws (way P ws) (farP P ws) i row - i) := farOf_not
  have hbT := hT.lt
  have hb0 := hT.low.size
  generalize farRow ws (way P ws) (farP P ws) i row = n at *
  generalize farOf P row ws i = r at *
  generalize rowNx ws (way P ws) (deltaV i) row = v at *
  clear hT hws hr hrb hrow hok hL hP
  have hgeI : (i : Int) ≤ (n : Int) := by omega
  have hleI : (n : Int) ≤ 10 := by omega
  have hn11 : ws.length < 11 := by omega
  by_cases hv : v ws.length = 0
  · have E : Hid (r = n - i) := E2.out hv
    clear E1 E2
    go_enter Tryz.func45, Tryz.ntmps45
    go_wp2_with (first
      | (go_at_call 62; refine X.mono ?_; rintro e w1 ⟨rfl, HK1, hW1⟩)
      | (refine wpList_allocS (w := w1) rfl rfl ?_; intro w2 hA2 hb2 hs2; clear hs2)
      | (refine wpList_storeS rfl _ _ rfl w1.heap.size 0 (fun _ => 0) n v rfl rfl hA2 ?_; intro w3 hS3 hg3; have q3 := hS3.end hn11; rw [show decide (v ws.length ≠ 0) = false by simp [hv]] at q3; have qf := hS3.far; have hT3 := HK1.out; obtain ⟨K1, hT1, hK1⟩ := hT3; have hW3 : Within w1 w3 (fun b => b = w1.heap.size) := (Within.of_below hb2 _).trans (Within.of_grown hg3 (fun k e => by cases e; rfl)); have hs1 := hW1.size; have HT3 : Hid (TrIn P ws w0 bT aP cP aw cw K1 w3) := hT1.kept hW3 (fun b e => by subst e; exact ⟨by omega, by omega, fun h => by have := (hT1.kb _ h).2.2; omega⟩); have c1 := HT3.out.c1))
    go_ret
    exact ⟨ret_int (by have := E.out; omega), ⟨K1, HT3.out, hK1⟩, hW1.comp hW3 (fun b e => .inr (by omega))⟩
  · have E : Hid (r = ws.length - i + 1) := E1.out hv
    clear E1 E2
    go_enter Tryz.func45, Tryz.ntmps45
    go_wp2_with (first
      | (go_at_call 62; refine X.mono ?_; rintro e w1 ⟨rfl, HK1, hW1⟩)
      | (refine wpList_allocS (w := w1) rfl rfl ?_; intro w2 hA2 hb2 hs2; clear hs2)
      | (refine wpList_storeS rfl _ _ rfl w1.heap.size 0 (fun _ => 0) n v rfl rfl hA2 ?_; intro w3 hS3 hg3; have q3 := hS3.end hn11; rw [show decide (v ws.length ≠ 0) = true by simp [hv]] at q3; have qf := hS3.far; have hT3 := HK1.out; obtain ⟨K1, hT1, hK1⟩ := hT3; have hW3 : Within w1 w3 (fun b => b = w1.heap.size) := (Within.of_below hb2 _).trans (Within.of_grown hg3 (fun k e => by cases e; rfl)); have hs1 := hW1.size; have HT3 : Hid (TrIn P ws w0 bT aP cP aw cw K1 w3) := hT1.kept hW3 (fun b e => by subst e; exact ⟨by omega, by omega, fun h => by have := (hT1.kb _ h).2.2; omega⟩); have c1 := HT3.out.c1)
      | (go_at_call 63; refine (wholeFar_any aw ws.length cw i _ hn hi).mono ?_; rintro e w5 ⟨rfl, h5⟩; replace h5 := h5.symm; subst h5))
    go_ret
    exact ⟨ret_int (by have := E.out; omega), ⟨K1, HT3.out, hK1⟩, hW1.comp hW3 (fun b e => .inr (by omega))⟩
end
end Go.Proofs.YthnppodnjokaoaaGreatDoor
namespace Go.Proofs.YthnppodnjokaoaaGreatDoor
open Go.RowKit

section
variable {P : Program} (w : World)
theorem run_append_ints1 (base : Nat) (t ty e : TypeId) (ht : P.underlying t = some (.slice e)) (hinfo : (P.info? e).map (fun i => (i.zero, i.size, i.bytes)) = some (some (.int .i64 0), 1, 8))
    (v : Value) (xs : List Int) (hown : OwnInts w base e v xs) (ad : Option Addr) (c : Nat) (news : List Int) (hne : news ≠ []) (hnews : Reads w ad news) (hlen : xs.length + news.length ≤ 1099511627776) (hbase : base ≤ w.heap.size) :
    ∃ v' w', (Builtin.append_ #[t, t] ty #[v, .slice ad news.length c]).run P w = .ok v' w' ∧ OwnInts w' base e v' (xs ++ news) ∧ w.grownBy w' v.ownBlock ∧ (∀ k, v'.ownBlock = some k → v.ownBlock = some k ∨ k = w.heap.size) := by
  obtain ⟨i, hi, hz0, hz1, hz2⟩ := info_parts hinfo
  rcases hnews with h | ⟨b, off, rfl, hb, hc⟩
  · exact absurd h hne
  · have hpos : 0 < news.length := List.length_pos_iff.2 hne
    obtain ⟨v', w', h1, h2, h3, h4⟩ := run_append_where (P := P) w base t ty e i (.int .i64 0) 1 8 ht hi hz0 hz1 hz2 rfl (by decide) v _ _ hown ⟨b, off, none⟩ news.length c (news.map (Value.int .i64)) hpos (by simp)
      (by
        intro j u hu
        have hj : j < news.length := by have := (List.getElem?_eq_some_iff.1 hu).1; simpa using this
        rw [Addr.add_lit, hc j hj]
        simp [hj] at hu
        simp [hj, hu])
      (ints_oneCell _ _) (by unfold maxLen; omega) (by omega) hbase
    exact ⟨v', w', h1, by simpa [OwnInts] using h2, h3, h4⟩
theorem wpList_append_ints1 {ops : Array Oper} {rest : List Oper} {o : Oper} {a : Act} {Q : Exit → Act → World → Prop} (hgd : o.guard = none) (s x : Operand) (t : TypeId)
    (ho : o.op = .call { callee := .builtin .append, args := #[s, x], argTypes := #[t, t] })
    (base : Nat) (e : TypeId) (ht : P.underlying t = some (.slice e)) (hinfo : (P.info? e).map (fun i => (i.zero, i.size, i.bytes)) = some (some (.int .i64 0), 1, 8))
    (v : Value) (xs : List Int) (hs : a.eval s = v) (hown : OwnInts w base e v xs) (ad : Option Addr) (n c : Nat) (news : List Int) (hne : news ≠ []) (hx : a.eval x = .slice ad n c) (hn : n = news.length) (hnews : Reads w ad news)
    (hlen : xs.length + news.length ≤ 1099511627776) (hbase : base ≤ w.heap.size)
    (h : ∀ v' w', OwnInts w' base e v' (xs ++ news) → w.grownBy w' v.ownBlock → (∀ k, v'.ownBlock = some k → v.ownBlock = some k ∨ k = w.heap.size) → wpList P ops Q rest (a.put o.dst v') w') : wpList P ops Q (o :: rest) a w := by
  refine wpList_plain hgd fun K hK => ?_
  subst hn
  obtain ⟨v', w', hr, h2, h3, h4⟩ := run_append_ints1 (P := P) w base t o.type e ht hinfo v xs hown ad c news hne hnews hlen hbase
  unfold Oper.wp execOp
  simp only [ho, resolve, invoke, builtin, Sem.run_bind, Sem.run_pure, Result.andThen_ok, List.map_toArray, List.map_cons, List.map_nil, hs, hx, hr]
  exact hK _ _ (h v' w' h2 h3 h4)
end
end Go.Proofs.YthnppodnjokaoaaGreatDoor
namespace Go.Proofs.YthnppodnjokaoaaGreatDoor
open Go.RowKit

theorem within_grown8 {w w' : World} {b : Nat} (h : Within w w' (fun k => k = b)) : w.grownBy w' (some b) := ⟨h.os, h.tape, h.output, h.size, fun k hk hne => h.block k hk (fun e => hne (by rw [e]))⟩
/-- The Fars of a part's alternatives; none, where one of them has too much behind it. -/
def farsT (P : List (List (List Int))) (k : Nat) (rest ws : List Int) (i : Nat) : List Int := if altsKnown P k rest = true then altFars P k rest ws i else []
theorem farsT_all {P : List (List (List Int))} {k : Nat} {rest ws : List Int} {i : Nat} (hk : k < P.length) (h : ∀ a (ha : a < P[k].length), knownB P.length (P[k][a] ++ rest) = true) : farsT P k rest ws i = altFars P k rest ws i := by
  have h3 : altsKnown P k rest = true := by
    unfold altsKnown
    have e : P.getD k [] = P[k] := by simp [List.getD, hk]
    rw [e, List.all_eq_true]
    intro y hy
    obtain ⟨a, ha, rfl⟩ := List.getElem_of_mem hy
    exact h a ha
  rw [farsT, if_pos h3]
theorem farsT_row {P : List (List (List Int))} {k : Nat} {rest ws : List Int} {i : Nat} (hk : k < P.length) {a : Nat} (ha : a < P[k].length) (h : knownB P.length (P[k][a] ++ rest) = false) : farsT P k rest ws i = [] := by
  have h3 : ¬ altsKnown P k rest = true := by
    unfold altsKnown
    have e : P.getD k [] = P[k] := by simp [List.getD, hk]
    rw [e]
    intro hall
    have := List.all_eq_true.1 hall P[k][a] (List.getElem_mem ha)
    rw [h] at this
    cases this
  rw [farsT, if_neg h3]
theorem Reads.withinT {w w' : World} {a : Option Addr} {zs : List Int} {T : Nat → Prop} (h : Reads w a zs) (hw : Within w w' T) (hb : ∀ b off, zs ≠ [] → a = some ⟨b, off, none⟩ → ¬ T b) : Reads w' a zs := by
  by_cases h0 : zs = []
  · exact .inl h0
  · rcases h with h | ⟨b, off, rfl, hlt, hc⟩
    · exact absurd h h0
    · exact .inr ⟨b, off, rfl, Nat.lt_of_lt_of_le hlt hw.size, fun i hi => by
        rw [← hc i hi]
        exact World.cell?_of_block (a := ⟨b, off + i, none⟩) (hw.block b hlt (hb b off h0 rfl))⟩

section
variable {P : List (List (List Int))} {ws : List Int} {w0 : World} {bT : Nat} {aP : Option Addr} {cP : Nat} {aw : Option Addr} {cw : Nat} {K : Nat → Prop}
set_option maxHeartbeats 8000000 in
set_option maxRecDepth 100000 in
theorem trFars_any (kn : Nat) (z2 : List Int) (a2 : Option Addr) (c2 i : Nat) (w : World) (hT : TrIn P ws w0 bT aP cP aw cw K w) (hws : Reads w0 aw ws) (hr : Reads w a2 z2) (hrb : ∀ b off, z2 ≠ [] → a2 = some ⟨b, off, none⟩ → b ≠ bT) (hl2 : z2.length ≤ 1048576) (hz2 : ∀ z ∈ z2, -9223372036854775808 ≤ z ∧ z ≤ 9223372036854775807) (hn : ws.length ≤ 10) (hi : i ≤ ws.length) (hok : gramOkB P = true) (hL : NoLoop P) (hP : RD w0 (.slice aP P.length cP) (slD (Lay.list (Lay.list Lay.int)) P)) (hkn : kn < P.length) :
    Calls Tryz.prog 30 #[.pointer (some ⟨bT, 0, none⟩), .int .i64 (kn : Int), .slice a2 z2.length c2, .int .i64 (i : Int)] w fun e w' => ∃ v, e = .returned v ∧ OwnInts w' w.heap.size 3 v (farsT P kn z2 ws i) ∧ Hid (∃ K', TrIn P ws w0 bT aP cP aw cw K' w' ∧ (∀ b, K' b → K b ∨ w.heap.size ≤ b) ∧ ∀ b, v.ownBlock = some b → ¬ K' b) ∧ Within w w' (fun b => b = bT) := by
  have F := Fits.of hok
  have hp20 : P.length ≤ 20 := F.parts
  have HALL : Hid ((∀ a (ha : a < P[kn].length), knownB P.length (P[kn][a] ++ z2) = true) → farsT P kn z2 ws i = altFars P kn z2 ws i) := farsT_all hkn
  have HNO : Hid (∀ a (ha : a < P[kn].length), knownB P.length (P[kn][a] ++ z2) = false → farsT P kn z2 ws i = []) := fun a ha h => farsT_row hkn ha h
  have hp8 := F.alts _ (List.getElem_mem hkn)
  obtain ⟨b1, o1, rfl, hb1, a1, ca1, p1, q1⟩ := hP.listAt hkn
  have HR1 : Hid (RD w0 (.slice a1 P[kn].length ca1) (slD (Lay.list Lay.int) P[kn])) := q1
  have p1w := (hT.low.cell (p := ⟨b1, o1 + kn, none⟩) hb1).trans p1
  have HTK : Hid (∀ a (ha : a < P[kn].length), (altFars P kn z2 ws i).take (a + 1) = (altFars P kn z2 ws i).take a ++ [(farOf P (P[kn][a] ++ z2) ws i : Int)]) := fun a ha => altFars_take hkn ha z2 ws i
  have HLN : Hid ((altFars P kn z2 ws i).length = P[kn].length) := altFars_length hkn z2 ws i
  have HRE : Hid (∀ W, Within w W (fun b => b = bT) → Reads W a2 z2) := fun W hW => hr.withinT hW (fun b off h e => hrb b off h e)
  have HCG : Hid (∀ a (ha : a < P[kn].length) (ar : Option Addr) (cr : Nat) (W : World), Reads W ar (P[kn][a] ++ z2) → Calls Tryz.prog 44 #[.agg #[.slice (some ⟨b1, o1, none⟩) P.length cP], .slice ar (P[kn][a] ++ z2).length cr] W fun e w' => e = .returned (.bool (knownB P.length (P[kn][a] ++ z2))) ∧ Below W.heap.size W w') := fun a ha ar cr W h1 => canGo_any P.length _ cP _ ar cr W h1 (by omega) (by rw [List.length_append]; have := F.rows _ (List.getElem_mem hkn) _ (List.getElem_mem ha); omega) (fun z hz => by
    rcases List.mem_append.1 hz with hz | hz
    · have hs : symOk P.length z = true := by
        have := hok
        simp only [gramOkB, Bool.and_eq_true, List.all_eq_true, partOk, rowOk] at this
        exact (((this.2 _ (List.getElem_mem hkn)).2 _ (List.getElem_mem ha)).2) z hz
      have := symOk_true.1 hs
      omega
    · exact hz2 z hz)
  have HFR : Hid (∀ (row : List Int) (ar : Option Addr) (cr : Nat) (W : World) (K : Nat → Prop), TrIn P ws w0 bT (some ⟨b1, o1, none⟩) cP aw cw K W → Reads W ar row → (∀ b off, row ≠ [] → ar = some ⟨b, off, none⟩ → b ≠ bT) → knownB P.length row = true → Calls Tryz.prog 45 #[.pointer (some ⟨bT, 0, none⟩), .slice ar row.length cr, .int .i64 (i : Int)] W fun e w' => e = .returned (.int .i64 (farOf P row ws i : Int)) ∧ Hid (∃ K', TrIn P ws w0 bT (some ⟨b1, o1, none⟩) cP aw cw K' w' ∧ ∀ b, K' b → K b ∨ W.heap.size ≤ b) ∧ Within W w' (fun b => b = bT)) := fun row ar cr W K hT h1 hb hk =>
    trFar_any row ar cr i W hT hws h1 hb (by have := knownB_len hk; omega) hn hi (knownB_sym hk) hok hL hP
  have HR8 : Hid (∀ a (ha : a < P[kn].length), P[kn][a].length ≤ 8) := fun a ha => F.rows _ (List.getElem_mem hkn) _ (List.getElem_mem ha)
  have hkI : (kn : Int) < (P.length : Int) := by omega
  have hiI : (i : Int) ≤ 10 := by omega
  have HKB0 : Hid (∀ a (ha : a < P[kn].length), a < 0 → knownB P.length (P[kn][a] ++ z2) = true) := fun a _ h => by omega
  have qg0 := hT.c0
  have hbT := hT.lt
  have HT0 : Hid (TrIn P ws w0 bT (some ⟨b1, o1, none⟩) cP aw cw K w) := hT
  have HbT0 : Hid (w0.heap.size ≤ bT) := hT.lT
  clear hok F hr hrb hP hws hz2 q1 p1 hL hT
  generalize altFars P kn z2 ws i = L at *
  have HO0 : Hid (OwnInts w w.heap.size 3 (.slice none 0 0) (L.take 0)) := OwnInts.nil _ _ _
  go_enter Tryz.func30, Tryz.ntmps30
  go_wp2
  go_loopw [9, 22] (fun s12 s36 wr => ∃ (a : Nat) (vo : Value), a ≤ P[kn].length ∧ s36 = .int .i64 (a : Int) ∧ s12 = vo ∧ Hid (OwnInts wr w.heap.size 3 vo (L.take a)) ∧ Hid (Within w wr (fun b => b = bT)) ∧ Hid (∃ K', TrIn P ws w0 bT (some ⟨b1, o1, none⟩) cP aw cw K' wr ∧ (∀ b, K' b → K b ∨ w.heap.size ≤ b) ∧ ∀ b, vo.ownBlock = some b → ¬ K' b) ∧ Hid (∀ b (hb : b < P[kn].length), b < a → knownB P.length (P[kn][b] ++ z2) = true)) (fun _ s36 _ => P[kn].length - (intOf s36).toNat)
  case atStart => exact ⟨0, _, Nat.zero_le _, rfl, rfl, HO0, Within.refl _ _, ⟨K, HT0.out, fun _ h => .inl h, fun _ h => by simp [Value.ownBlock] at h⟩, HKB0⟩
  case round =>
    obtain ⟨a, vo, ha, rfl, hvo, HO, HBr, HTR, HKB⟩ := hrel
    replace hvo := hvo.symm
    subst hvo
    obtain ⟨wA, hwA⟩ : ∃ y, y = wr := ⟨_, rfl⟩
    subst hwA
    clear HO0 HKB0 HT0 qg0 p1w
    obtain ⟨K1, hT1, hK1, hK2⟩ := HTR.out
    have HT1 : Hid (TrIn P ws w0 bT (some ⟨b1, o1, none⟩) cP aw cw K1 wA) := hT1
    have HK1 : Hid (∀ b, vo.ownBlock = some b → ¬ K1 b) := hK2
    have HK1s : Hid (∀ b, K1 b → K b ∨ w.heap.size ≤ b) := hK1
    have hbTA := hT1.lt
    have qg := hT1.c0
    have hbw : Below w0.heap.size w0 wA := hT1.low
    have HBW : Hid (Below w0.heap.size w0 wA) := hbw
    have hszw := HBr.out.size
    have hsz0 := hbw.size
    clear hT1 hK1 hK2 HTR
    by_cases hlt : a < P[kn].length
    · obtain ⟨b2, o2, rfl, hb2, a5, c5, p2, q2⟩ := HR1.out.listAt hlt
      have p2a := (hbw.cell (p := ⟨b2, o2 + a, none⟩) hb2).trans p2
      have HRa : Hid (Reads w0 a5 P[kn][a]) := q2.reads
      have hl8 := HR8.out a hlt
      have HNa' : Hid (knownB P.length (P[kn][a] ++ z2) = false → farsT P kn z2 ws i = []) := HNO.out a hlt
      have HTa : Hid (L.take (a + 1) = L.take a ++ [(farOf P (P[kn][a] ++ z2) ws i : Int)]) := HTK.out a hlt
      have HKB2 : Hid (knownB P.length (P[kn][a] ++ z2) = true → ∀ b (hb : b < P[kn].length), b < a + 1 → knownB P.length (P[kn][b] ++ z2) = true) := fun h b hb hlt2 => by
        by_cases e : b = a
        · subst e; exact h
        · exact HKB.out b hb (by omega)
      have HCGa : Hid (∀ (ar : Option Addr) (cr : Nat) (W : World), Reads W ar (P[kn][a] ++ z2) → Calls Tryz.prog 44 #[.agg #[.slice (some ⟨b1, o1, none⟩) P.length cP], .slice ar (P[kn][a] ++ z2).length cr] W fun e w' => e = .returned (.bool (knownB P.length (P[kn][a] ++ z2))) ∧ Below W.heap.size W w') := HCG.out a hlt
      have haI : (a : Int) < (P[kn].length : Int) := by omega
      have hb2A : b2 < wA.heap.size := by omega
      have hLl : (L.take a).length ≤ 1048576 := by rw [List.length_take, HLN.out]; omega
      clear hbw p2 q2 HKB HALL HNO HTK HCG
      generalize P[kn][a] = alt at *
      have hBc : Below wA.heap.size wA (wA.alloc (.cells #[.slice a5 alt.length c5, .slice a2 z2.length c2] 25)) := (Below.refl _ _).alloc (Nat.le_refl _) _
      have X := concat_any wA.heap.size alt z2 a5 c5 a2 c2 (wA.alloc (.cells #[.slice a5 alt.length c5, .slice a2 z2.length c2] 25)) (by simp) (by simp) (HRa.out.below (HBW.out.trans (hBc.mono HBW.out.size))) ((HRE.out wA HBr.out).below hBc) (by omega) (by omega)
      go_wp2_with (go_at_call 43; refine X.mono ?_; rintro e w5 ⟨v5, rfl, hO5, hb5⟩; obtain ⟨a6, c6, rfl, hr6, _⟩ := hO5.shape; have qg6 := ((hBc.trans (hb5.mono hBc.size)).cell (p := ⟨bT, 0, none⟩) hbTA).trans qg)
      have hb6 : Below wA.heap.size wA w5 := hBc.trans (hb5.mono hBc.size)
      have hlo6 : ∀ b off, a6 = some ⟨b, off, none⟩ → b ≠ bT := fun b off e => by
        have h1 := (hO5.block b (by rw [e]; simp only [Value.ownBlock])).1
        simp at h1
        omega
      have HLO : Hid (∀ b off, a6 = some ⟨b, off, none⟩ → b ≠ bT) := hlo6
      have HR6 : Hid (Reads w5 a6 (alt ++ z2)) := hr6
      have HB6 : Hid (Within w w5 (fun b => b = bT)) := HBr.out.trans (Within.of_below hb6 _) 
      have HOut6 : Hid (OwnInts w5 w.heap.size 3 vo (L.take a)) := HO.out.below hb6
      have HT6 : Hid (TrIn P ws w0 bT (some ⟨b1, o1, none⟩) cP aw cw K1 w5) := HT1.out.later hb6
      have HOB : Hid (∀ b, vo.ownBlock = some b → w.heap.size ≤ b ∧ b < w5.heap.size) := HOut6.out.block
      have Y := HCGa.out a6 c6 w5 hr6
      have HFR6 : Hid (knownB P.length (alt ++ z2) = true → ∀ W, Below w5.heap.size w5 W → Calls Tryz.prog 45 #[.pointer (some ⟨bT, 0, none⟩), .slice a6 (alt ++ z2).length c6, .int .i64 (i : Int)] W fun e w' => e = .returned (.int .i64 (farOf P (alt ++ z2) ws i : Int)) ∧ Hid (∃ K', TrIn P ws w0 bT (some ⟨b1, o1, none⟩) cP aw cw K' w' ∧ ∀ b, K' b → K1 b ∨ W.heap.size ≤ b) ∧ Within W w' (fun b => b = bT)) := fun hk W hW => HFR.out (alt ++ z2) a6 c6 W K1 (HT6.out.later hW) (HR6.out.below hW) (fun b off _ e => HLO.out b off e) hk
      have hs56 := hb6.size
      clear hO5 hb5 hb6 hr6 hlo6 X HFR HCGa HRa HO HT1 HR6 HLO qg p2a hBc HRE HBr
      generalize farOf P (alt ++ z2) ws i = fo at *
      rw [List.length_append] at Y HFR6
      cases hkb : knownB P.length (alt ++ z2)
      · rw [hkb] at Y
        have E : Hid (farsT P kn z2 ws i = []) := HNa'.out hkb
        clear HFR6 HKB2 HTa HNa' hkb
        go_wp2_with (go_at_call 44; refine Y.mono ?_; rintro e w7 ⟨rfl, hb7⟩)
        go_ret
        exact ⟨_, rfl, by rw [E.out]; exact OwnInts.nil _ _ _, ⟨K1, HT6.out.later hb7, HK1s.out, fun b h => by simp [Value.ownBlock] at h⟩, HB6.out.trans (Within.of_below hb7 _)⟩
      · rw [hkb] at Y
        have HG7h : Hid (∀ W, Below w5.heap.size w5 W → Calls Tryz.prog 45 #[.pointer (some ⟨bT, 0, none⟩), .slice a6 (alt.length + z2.length) c6, .int .i64 (i : Int)] W fun e w' => e = .returned (.int .i64 (fo : Int)) ∧ Hid (∃ K', TrIn P ws w0 bT (some ⟨b1, o1, none⟩) cP aw cw K' w' ∧ ∀ b, K' b → K1 b ∨ W.heap.size ≤ b) ∧ Within W w' (fun b => b = bT)) := HFR6.out hkb
        have HK2h : Hid (∀ b (hb : b < P[kn].length), b < a + 1 → knownB P.length (P[kn][b] ++ z2) = true) := HKB2.out hkb
        clear HFR6 HKB2 HNa' hkb
        go_wp2_with (first
          | (go_at_call 44; refine Y.mono ?_; rintro e w7 ⟨rfl, hb7⟩)
          | (go_at_call 45; refine (HG7h.out w7 hb7).mono ?_; rintro e w8 ⟨rfl, HK8, hW8⟩; have hO8 : OwnInts w8 w.heap.size 3 vo (L.take a) := (HOut6.out.below hb7).kept (within_grown8 hW8) (by cases e : vo.ownBlock with | none => exact .inl rfl | some g => exact .inr (fun e2 => by have := (HOB.out g e).1; have := Option.some.inj e2; omega)))
          | (at_builtin; refine wpList_append_ints1 _ rfl (.tmp 37) (.tmp 42) 25 rfl w.heap.size 3 Tryz.underlying25 Tryz.infoInt _ _ rfl (hO8.alloc _) _ _ _ [(fo : Int)] (by simp) rfl rfl (Reads.new _ _ _) (by simp; omega) (by have := hb7.size; have := hW8.size; simp; omega) ?_))
        intro v9 w9 hO9 hg9 hat9
        obtain ⟨K2, hT8, hK2⟩ := HK8.out
        have hs78 := hW8.size
        have hs57 := hb7.size
        have HO9 : Hid (OwnInts w9 w.heap.size 3 v9 (L.take (a + 1))) := by show OwnInts _ _ _ _ _; rw [HTa.out]; exact hO9
        have hW8' : Within w w8 (fun b => b = bT) := (HB6.out.trans (Within.of_below hb7 _)).trans hW8
        have hnK : ∀ b, vo.ownBlock = some b → ¬ K2 b := fun b e h => by
          rcases hK2 b h with h | h
          · exact HK1.out b e h
          · have := (HOB.out b e).2; omega
        have hWn : Within (w8.alloc (.cells #[.int .i64 (fo : Int)] 3)) w9 (fun b => vo.ownBlock = some b) := Within.of_grown hg9 (fun k e => e)
        have HB9 : Hid (Within w w9 (fun b => b = bT)) := (hW8'.trans (Within.of_below ((Below.refl _ _).alloc (Nat.le_refl _) _) _)).comp hWn (fun b e => .inr (HOB.out b e).1)
        have HT9 : Hid (∃ K', TrIn P ws w0 bT (some ⟨b1, o1, none⟩) cP aw cw K' w9 ∧ (∀ b, K' b → K b ∨ w.heap.size ≤ b) ∧ ∀ b, v9.ownBlock = some b → ¬ K' b) := ⟨K2, (hT8.later ((Below.refl _ _).alloc (Nat.le_refl _) _)).kept hWn (fun b e => ⟨by have := (HOB.out b e).1; have := HbT0.out; omega, by have := (HOB.out b e).1; omega, hnK b e⟩), fun b h => by
            rcases hK2 b h with h | h
            · exact HK1s.out b h
            · right; omega, fun b e h => by
          rcases hat9 b e with e | e
          · exact hnK b e h
          · have := (hT8.kb b h).2.2
            first
              | omega
              | (simp at e; omega)⟩
        clear hO9 hg9 hat9 hT8 hK2 hW8' hnK hWn hO8 hW8 hb7 Y HG7h HTa HOut6 HK8
        go_wp2
        go_roundw
        case rel => exact ⟨a + 1, v9, by omega, by go_num, rfl, HO9, HB9, HT9, HK2h⟩
        case measure => simp [intOf]; omega
    · have e : a = P[kn].length := by omega
      have E : Hid (farsT P kn z2 ws i = L) := HALL.out (fun b hb => HKB.out b hb (by omega))
      have HOL : Hid (OwnInts wA w.heap.size 3 vo L) := by
        have := HO.out
        rw [e, List.take_of_length_le (by rw [HLN.out]; omega)] at this
        exact this
      clear HALL HNO HKB HTK
      go_wp2
      go_ret
      exact ⟨_, rfl, by rw [E.out]; exact HOL.out, ⟨K1, HT1.out, HK1s.out, HK1.out⟩, HBr.out⟩
end
end Go.Proofs.YthnppodnjokaoaaGreatDoor
namespace Go.Proofs.YthnppodnjokaoaaGreatDoor
open Go.RowKit

set_option maxHeartbeats 8000000 in
set_option maxRecDepth 100000 in
theorem farsOf_any (x : Gm) (a0 : Option Addr) (c0 : Nat) (k : Int) (z2 : List Int) (a2 : Option Addr) (c2 : Nat) (z3 : List Int) (a3 : Option Addr) (c3 : Nat) (n : Int) (w : World) (h0 : RD w (.slice a0 x.parts.length c0) (slD (Lay.list (Lay.list Lay.int)) x.parts)) (h2 : RD w (.slice a2 z2.length c2) (slD Lay.int z2)) (h3 : RD w (.slice a3 z3.length c3) (slD Lay.int z3)) (hn : Lay.gram.wt x ≤ 1048576) (hf : Lay.gram.fit x) (wfk : (Lit.int .i64 k).wf = true) (hl2 : z2.length ≤ 1048576) (hz2 : (Lay.list Lay.int).fit z2) (hl3 : z3.length ≤ 1048576) (hz3 : (Lay.list Lay.int).fit z3) (wfn : (Lit.int .i64 n).wf = true) (hE : ErrsIs w) :
    Calls Tryz.prog 17 #[.agg #[.slice a0 x.parts.length c0], .int .i64 k, .slice a2 z2.length c2, .slice a3 z3.length c3, .int .i64 n] w fun e w' => ∃ v, e = .returned v ∧ OwnInts w' w.heap.size 3 v (farsL x k z2 z3 n) ∧ Below w.heap.size w w' := by
  have BG : Below w.heap.size w (w.alloc (.cells #[.slice a0 x.parts.length c0] 29)) := (Below.refl w.heap.size w).alloc (Nat.le_refl _) _
  have hGs : w.heap.size < (w.alloc (.cells #[.slice a0 x.parts.length c0] 29)).heap.size := by simp
  have qG : (w.alloc (.cells #[.slice a0 x.parts.length c0] 29)).cell? ⟨w.heap.size, 0, none⟩ = some (.slice a0 x.parts.length c0) := by simp
  have HK : Hid (∀ W : World, Below w.heap.size w W → Calls Tryz.prog 28 #[.agg #[.slice a0 x.parts.length c0], .slice a3 z3.length c3, .int .i64 n] W fun e w' => e = .returned (.bool (rightAt x z3 n)) ∧ Below W.heap.size W w') := fun W hW => canBeAskedAt_any x a0 c0 z3 a3 c3 n W (h0.later hW) (h3.later hW) hn hf hl3 hz3 wfn (hE.later hW)
  have HT : Hid (∀ W : World, Below w.heap.size w W → Calls Tryz.prog 29 #[.agg #[.slice a0 x.parts.length c0], .int .i64 k] W fun e w' => e = .returned (.bool (gramOkB x.parts && inB k 0 (x.parts.length - 1))) ∧ Below W.heap.size W w') := fun W hW => isThere_any x a0 c0 k W (h0.later hW) hn hf wfk
  obtain ⟨wG, hwG⟩ : ∃ wG, wG = w.alloc (.cells #[.slice a0 x.parts.length c0] 29) := ⟨_, rfl⟩
  rw [← hwG] at BG hGs qG
  have HBG : Hid (Below w.heap.size w wG) := BG
  have HQ : Hid (∀ W, Below wG.heap.size wG W → W.cell? ⟨w.heap.size, 0, none⟩ = some (.slice a0 x.parts.length c0)) := fun W hW => (hW.cell (p := ⟨w.heap.size, 0, none⟩) hGs).trans qG
  have HBR : Hid (Below wG.heap.size wG wG) := Below.refl _ _
  by_cases hr : rightAt x z3 n = true
  · rw [hr] at HK
    obtain ⟨r1, r2, r3, r4⟩ := rightAt_yes hr
    have hok := (resCheck_ok r1).1
    have F := Fits.of hok
    have hp20 : x.parts.length ≤ 20 := F.parts
    rw [hok, Bool.true_and] at HT
    by_cases hk : inB k 0 (x.parts.length - 1) = true
    · obtain ⟨k1, k2⟩ := inB_true.1 hk
      rw [hk] at HT
      obtain ⟨kn, rfl⟩ : ∃ m : Nat, k = m := ⟨k.toNat, by omega⟩
      have hkn : kn < x.parts.length := by omega
      have E : Hid (farsL x (kn : Int) z2 z3 n = farsT x.parts kn z2 z3 n.toNat) := by
        show _ = _
        have h2 : inB (kn : Int) 0 (x.parts.length - 1) = true := by rw [inB_true]; omega
        unfold farsL farsT
        rw [hr, h2, Int.toNat_natCast]
        rfl
      obtain ⟨i, rfl⟩ : ∃ i : Nat, n = i := ⟨n.toNat, by omega⟩
      rw [Int.toNat_natCast] at E
      have hl10 := inputOkB_len r2
      have HTF : Hid (∀ (W : World) (bT : Nat), TrIn x.parts z3 w bT a0 c0 a3 c3 (fun _ => False) W → Calls Tryz.prog 30 #[.pointer (some ⟨bT, 0, none⟩), .int .i64 (kn : Int), .slice a2 z2.length c2, .int .i64 (i : Int)] W fun e w' => ∃ v, e = .returned v ∧ OwnInts w' W.heap.size 3 v (farsT x.parts kn z2 z3 i) ∧ Hid (∃ K', TrIn x.parts z3 w bT a0 c0 a3 c3 K' w' ∧ (∀ b, K' b → False ∨ W.heap.size ≤ b) ∧ ∀ b, v.ownBlock = some b → ¬ K' b) ∧ Within W w' (fun b => b = bT)) := fun W bT hT =>
        trFars_any kn z2 a2 c2 i W hT h3.reads (h2.reads.below hT.low) (fun b off hne e => by
          rcases h2.reads with h | ⟨b', off', e', hb', _⟩
          · exact absurd h hne
          · rw [e'] at e; cases e; have := hT.lT; omega) hl2 (fun z hz => fit_ints hz2 z hz) hl10 (by omega) hok (resCheck_ok r1).2 h0 hkn
      have HTRN : Hid (∀ (w2 w4 : World), Below wG.heap.size wG w2 → Below w2.heap.size w2 w4 → Vals w4 w2.heap.size 55 (trV (.slice a0 x.parts.length c0) (.slice a3 z3.length c3)) → TrIn x.parts z3 w w2.heap.size a0 c0 a3 c3 (fun _ => False) w4) := fun w2 w4 h1 h2 hV => by
        have hb2 : Below w.heap.size w w2 := BG.trans (h1.mono BG.size)
        exact TrIn.new hV (hb2.trans (h2.mono hb2.size)) hb2.size hp20 hl10
      clear hok F h0 h2 h3 hn hf hz2 hz3 wfk wfn hE hr hk r1 r2
      rw [E.out]
      generalize farsT x.parts kn z2 z3 i = L at *
      go_enter Tryz.func17, Tryz.ntmps17
      go_wp2_with (first
        | (go_at_call 28; rw [← hwG]; refine (HK.out _ HBG.out).mono ?_; rintro e w1 ⟨rfl, hb1w⟩; have qg1 := HQ.out w1 hb1w)
        | (go_at_call 29; refine (HT.out _ (HBG.out.trans (hb1w.mono HBG.out.size))).mono ?_; rintro e w2 ⟨rfl, hb2w⟩; have hB2 : Below wG.heap.size wG w2 := hb1w.trans (hb2w.mono hb1w.size); have qg2 := HQ.out w2 hB2)
        | (refine wpList_tr rfl _ _ rfl a0 x.parts.length c0 a3 z3.length c3 rfl rfl ?_)
        | (refine wpList_allocV (w := w2) rfl 55 rfl _ rt_tr ?_; intro w3 hV3 hb3 hs3; clear hs3)
        | (refine wpList_storeV rfl 55 _ _ rfl w2.heap.size 0 55 _ (trV (.slice a0 x.parts.length c0) (.slice a3 z3.length c3)) _ rfl rfl rt_tr (by rw [trV_length, trV_length]) hV3 (by rw [trV_length, trV_length]; decide) (trV_ones rfl rfl) ?_; intro w4 hV4 hg4; rw [putV_whole (by rw [trV_length, trV_length])] at hV4; have hb4 : Below w2.heap.size w2 w4 := hb3.grown hg4 hb3.size (fun k e => by cases e; exact Nat.le_refl _); have hB4 : Below wG.heap.size wG w4 := hB2.trans (hb4.mono hB2.size); have HT4 : Hid (TrIn x.parts z3 w w2.heap.size a0 c0 a3 c3 (fun _ => False) w4) := HTRN.out w2 w4 hB2 hb4 hV4)
        | (go_at_call 30; refine (HTF.out w4 _ HT4.out).mono ?_; rintro e w5 ⟨v5, rfl, hO5, HK5, hW5⟩))
      go_ret
      have hBw4 : Below w.heap.size w w4 := HBG.out.trans (hB4.mono HBG.out.size)
      exact ⟨_, rfl, hO5.base hBw4.size, hW5.below hBw4 (fun b e => by rw [e]; exact HT4.out.lT)⟩
    · have hk' : inB k 0 (x.parts.length - 1) = false := by simpa using hk
      have E : Hid (farsL x k z2 z3 n = []) := farsL_part hk'
      rw [hk'] at HT
      clear h0 h2 h3 hn hf hz2 hz3 hr hk wfk wfn hE
      generalize farsL x k z2 z3 n = R at *
      go_enter Tryz.func17, Tryz.ntmps17
      go_wp2_with (first
        | (go_at_call 28; rw [← hwG]; refine (HK.out _ HBG.out).mono ?_; rintro e w1 ⟨rfl, hb1w⟩; have qg1 := HQ.out w1 hb1w)
        | (go_at_call 29; refine (HT.out _ (HBG.out.trans (hb1w.mono HBG.out.size))).mono ?_; rintro e w2 ⟨rfl, hb2w⟩; have hB2 : Below wG.heap.size wG w2 := hb1w.trans (hb2w.mono hb1w.size)))
      go_ret
      exact ⟨_, rfl, by rw [E.out]; exact OwnInts.nil _ _ _, HBG.out.trans (hB2.mono HBG.out.size)⟩
  · have hr' : rightAt x z3 n = false := by simpa using hr
    have E : Hid (farsL x k z2 z3 n = []) := farsL_wrong hr'
    rw [hr'] at HK
    clear h0 h2 h3 hn hf hz2 hz3 hr wfk wfn hE
    generalize farsL x k z2 z3 n = R at *
    go_enter Tryz.func17, Tryz.ntmps17
    go_wp2_with (go_at_call 28; rw [← hwG]; refine (HK.out _ HBG.out).mono ?_; rintro e w1 ⟨rfl, hb1w⟩)
    go_ret
    exact ⟨_, rfl, by rw [E.out]; exact OwnInts.nil _ _ _, HBG.out.trans (hb1w.mono HBG.out.size)⟩
end Go.Proofs.YthnppodnjokaoaaGreatDoor
namespace Go.Proofs
open Go.Shelf
def Tryz.lays189_ren : Go.Shelf.Ren := ⟨fun | 189 => 55 | 125 => 70 | 257 => 69 | 128 => 87 | 129 => 88 | 294 => 78 | 295 => 79 | 296 => 80 | 297 => 81 | 298 => 82 | 299 => 83 | 216 => 84 | 300 => 85 | 301 => 86 | 328 => 96 | 329 => 97 | 330 => 98 | 331 => 99 | 332 => 100 | 215 => 101 | 343 => 108 | n => n, fun | 28 => 25 | 3 => 3 | 46 => 98 | 0 => 0 | 51 => 114 | 53 => 116 | 4 => 4 | 183 => 106 | 182 => 105 | 131 => 111 | 5 => 5 | 9 => 9 | 218 => 123 | 222 => 127 | 228 => 141 | 229 => 27 | n => n, fun | n => n⟩
theorem Tryz.lays189 : Go.Proofs.Lays.n189 Tryz.prog Tryz.lays189_ren := {
  mixed := by kernel_rfl
  f125 := Tryz.func70.trans (congrArg some (by kernel_rfl))
  f128 := Tryz.func87.trans (congrArg some (by kernel_rfl))
  f129 := Tryz.func88.trans (congrArg some (by kernel_rfl))
  f189 := Tryz.func55.trans (congrArg some (by kernel_rfl))
  f215 := Tryz.func101.trans (congrArg some (by kernel_rfl))
  f216 := Tryz.func84.trans (congrArg some (by kernel_rfl))
  f257 := Tryz.func69.trans (congrArg some (by kernel_rfl))
  f294 := Tryz.func78.trans (congrArg some (by kernel_rfl))
  f295 := Tryz.func79.trans (congrArg some (by kernel_rfl))
  f296 := Tryz.func80.trans (congrArg some (by kernel_rfl))
  f297 := Tryz.func81.trans (congrArg some (by kernel_rfl))
  f298 := Tryz.func82.trans (congrArg some (by kernel_rfl))
  f299 := Tryz.func83.trans (congrArg some (by kernel_rfl))
  f300 := Tryz.func85.trans (congrArg some (by kernel_rfl))
  f301 := Tryz.func86.trans (congrArg some (by kernel_rfl))
  f328 := Tryz.func96.trans (congrArg some (by kernel_rfl))
  f329 := Tryz.func97.trans (congrArg some (by kernel_rfl))
  f330 := Tryz.func98.trans (congrArg some (by kernel_rfl))
  f331 := Tryz.func99.trans (congrArg some (by kernel_rfl))
  f332 := Tryz.func100.trans (congrArg some (by kernel_rfl))
  f343 := Tryz.func108.trans (congrArg some (by kernel_rfl))
  t0 := Tryz.underlying0
  a0 := Tryz.isAgg0
  z0 := Tryz.sizeOf0
  v0 := Tryz.zeroValue0
  t3 := Tryz.underlying3
  a3 := Tryz.isAgg3
  z3 := Tryz.sizeOf3
  v3 := Tryz.zeroValue3
  t4 := Tryz.underlying4
  a4 := Tryz.isAgg4
  z4 := Tryz.sizeOf4
  v4 := Tryz.zeroValue4
  t5 := Tryz.underlying5
  a5 := Tryz.isAgg5
  z5 := Tryz.sizeOf5
  v5 := Tryz.zeroValue5
  t9 := Tryz.underlying9
  a9 := Tryz.isAgg9
  z9 := Tryz.sizeOf9
  v9 := Tryz.zeroValue9
  t28 := Tryz.underlying25
  a28 := Tryz.isAgg25
  z28 := Tryz.sizeOf25
  v28 := Tryz.zeroValue25
  t46 := Tryz.underlying98
  a46 := Tryz.isAgg98
  z46 := Tryz.sizeOf98
  v46 := Tryz.zeroValue98
  t51 := Tryz.underlying114
  a51 := Tryz.isAgg114
  z51 := Tryz.sizeOf114
  v51 := Tryz.zeroValue114
  t53 := Tryz.underlying116
  a53 := Tryz.isAgg116
  z53 := Tryz.sizeOf116
  v53 := Tryz.zeroValue116
  t131 := Tryz.underlying111
  a131 := Tryz.isAgg111
  z131 := Tryz.sizeOf111
  v131 := Tryz.zeroValue111
  t182 := Tryz.underlying105
  a182 := Tryz.isAgg105
  z182 := Tryz.sizeOf105
  v182 := Tryz.zeroValue105
  t183 := Tryz.underlying106
  a183 := Tryz.isAgg106
  z183 := Tryz.sizeOf106
  v183 := Tryz.zeroValue106
  t218 := Tryz.underlying123
  a218 := Tryz.isAgg123
  z218 := Tryz.sizeOf123
  v218 := Tryz.zeroValue123
  t222 := Tryz.underlying127
  a222 := Tryz.isAgg127
  z222 := Tryz.sizeOf127
  v222 := Tryz.zeroValue127
  t228 := Tryz.underlying141
  a228 := Tryz.isAgg141
  z228 := Tryz.sizeOf141
  v228 := Tryz.zeroValue141
  t229 := Tryz.underlying27
  a229 := Tryz.isAgg27
  z229 := Tryz.sizeOf27
  v229 := Tryz.zeroValue27 }
open Go.Sort Go.RowKit in
theorem Tryz.slices_Sort_int (blk off cap : Nat) (zs : List Int) (w : World) (hH : Holds (Value.int .i64) w blk off zs.toArray) (hblk : blk < w.heap.size) (hsz : zs.length < 4611686018427387904) :
    Calls Tryz.prog 55 #[.slice (some ⟨blk, off, none⟩) zs.length cap] w fun e w' =>
      e = .returned (.tuple #[]) ∧ ∃ n os, w' = grow (putRow (Value.int .i64) (Sort.ahead w n) blk off (zs.mergeSort fun x y => decide (x ≤ y)).toArray) os := Any.slices_Sort_int Tryz.lays189 blk off cap zs w hH hblk hsz
open Go.RowKit Go.Sort in
theorem Tryz.slices_Sort_int_none (p : Option Addr) (cap : Nat) (w : World) :
    Calls Tryz.prog 55 #[.slice p 0 cap] w fun e w' => e = .returned (.tuple #[]) ∧ w' = w := Any.slices_Sort_int_none Tryz.lays189 p cap w
end Go.Proofs
namespace Go.Proofs.YthnppodnjokaoaaGreatDoor
open Go.RowKit

set_option maxHeartbeats 1000000 in
theorem sorted_any (b off cap Bs : Nat) (zs : List Int) (hz : zs.length ≤ 1048576) (hp : 0 < zs.length) (w : World) (hBl : Bs < w.heap.size) (hbl : b < w.heap.size) (hBs : w.cell? ⟨Bs, 0, none⟩ = some (.slice (some ⟨b, off, none⟩) zs.length cap)) (hc : ∀ j (hj : j < zs.length), w.cell? ⟨b, off + j, none⟩ = some (.int .i64 zs[j])) :
    Calls Tryz.prog 39 #[.func (.func 56) #[] #[.pointer (some ⟨Bs, 0, none⟩)]] w fun e w' => ∃ v, e = .returned v ∧ OwnInts w' w.heap.size 3 v (zs.mergeSort (fun x y => decide (x ≤ y))) ∧ Below w.heap.size w w' := by
  have X := collect_any b off cap Bs zs hz w hBl hbl hBs hc
  have HSL : Hid ((zs.mergeSort (fun x y => decide (x ≤ y))).length = zs.length) := List.length_mergeSort _
  obtain ⟨S, HS⟩ : ∃ S, Hid (zs.mergeSort (fun x y => decide (x ≤ y)) = S) := ⟨_, rfl⟩
  rw [HS.out] at HSL ⊢
  clear hBs hc
  go_enter Tryz.func39, Tryz.ntmps39
  go_wp2_with fail
  refine X.mono ?_
  rintro e w1 ⟨v, rfl, hO, hb⟩
  obtain ⟨_, ⟨_, h0⟩ | ⟨g, cap2, cur, rfl, hbg, hg, hnc, hcm, hcs, htake⟩⟩ := hO
  · omega
  have hgl : g < w1.heap.size := (Array.getElem?_eq_some_iff.1 hg).1
  have Y := Tryz.slices_Sort_int g 0 cap2 zs w1 (holds_of_blockI hg (by rw [Nat.mul_one] at htake; exact htake)) hgl (by omega)
  rw [HS.out] at Y
  clear HS
  go_wp2_with fail
  refine Y.mono ?_
  rintro e w2 ⟨rfl, n, os, hw2⟩
  have hR := ownsRow_sortedI (n := n) (os := os) (base := w.heap.size) HSL.out hbg hg hnc hcm hcs
  have hG := grownBy_sortedI (w := w1) (g := g) (n := n) (os := os) S.toArray
  rw [← hw2] at hR hG
  clear hw2 hg hcs htake X Y
  have HR : Hid (OwnInts w2 w.heap.size 3 (.slice (some ⟨g, 0, none⟩) zs.length cap2) S) := by show OwnInts _ _ _ _ _; unfold OwnInts; rw [HSL.out]; exact hR
  clear hR
  go_wp2
  go_ret
  exact ⟨_, rfl, HR.out, hb.grown hG hb.size (fun k e => by cases e; exact hbg)⟩

/-- What is chosen of alternatives that go so far, where so many letters are left. -/
def chosenOf (L : List Int) (left : Int) : Int × Int := if L = [] then (-1, 0) else ((bestTo L L.length : Int), min left (secTo L (bestTo L L.length) L.length + 1))
theorem resChoose_of (x : Gm) (k : Int) (rest ws : List Int) (n : Int) : resChoose x k rest ws n = chosenOf (farsL x k rest ws n) (ws.length - n) := rfl

set_option maxHeartbeats 1000000 in
theorem lookFor_any (L : List Int) (a0 : Option Addr) (c0 : Nat) (left : Int) (w : World) (h : Reads w a0 L) (hp : 0 < L.length) (hl : L.length ≤ 8) (hr : ∀ y ∈ L, 0 ≤ y ∧ y ≤ 11) (h0 : 0 ≤ left) (h1 : left ≤ 10) :
    Calls Tryz.prog 27 #[.slice a0 L.length c0, .int .i64 left] w fun e w' => e = .returned (.int .i64 (min left (secTo L (bestTo L L.length) L.length + 1))) ∧ Below w.heap.size w w' := by
  by_cases hone : L.length = 1
  · have HS : Hid (min left (secTo L (bestTo L L.length) L.length + 1) = 0) := by
      show _ = _
      have e1 : bestTo L 1 = 0 := bestTo_one L
      have e2 : secTo L 0 1 = -1 := by simp [secTo]
      rw [hone, e1, e2]; omega
    rw [HS.out, hone]
    clear h hr
    go_enter Tryz.func27, Tryz.ntmps27
    go_wp2
    go_ret
    exact ⟨rfl, Below.refl _ _⟩
  · have hsec := second_sorted L (by omega) (fun y hy => (hr y hy).1)
    have hrg := secTo_range L (bestTo L L.length) hr L.length
    have HSL : Hid ((L.mergeSort (fun x y => decide (x ≤ y))).length = L.length) := List.length_mergeSort _
    obtain ⟨b, o, rfl, hb, hc⟩ := h.at hp
    have B0 : Below w.heap.size w (w.alloc (.cells #[.slice (some ⟨b, o, none⟩) L.length c0] 25)) := (Below.refl _ _).alloc (Nat.le_refl _) _
    have X := sorted_any b o c0 w.heap.size L (by omega) hp (w.alloc (.cells #[.slice (some ⟨b, o, none⟩) L.length c0] 25)) (by simp) (by simp; omega) (by simp) (fun j hj => by
      rw [← getD_lt hj]
      exact (B0.cell (p := ⟨b, o + j, none⟩) hb).trans (hc j hj))
    have HB0 : Hid (Below w.heap.size w (w.alloc (.cells #[.slice (some ⟨b, o, none⟩) L.length c0] 25))) := B0
    have hone' : ((L.length : Int) == 1) = false := by simp; omega
    generalize L.mergeSort (fun x y => decide (x ≤ y)) = S at *
    have HSEC : Hid (S.getD (L.length - 2) 0 = secTo L (bestTo L L.length) L.length) := hsec
    generalize secTo L (bestTo L L.length) L.length = sc at *
    clear hsec h hc hr B0
    go_enter Tryz.func27, Tryz.ntmps27
    go_wp2_with fail
    refine (values_any _ _ _ _).mono ?_
    rintro e w1 ⟨rfl, hw1⟩
    subst hw1
    go_wp2_with fail
    refine X.mono ?_
    rintro e w2 ⟨v2, rfl, hO2, hb2⟩
    obtain ⟨a5, c5, rfl, hr5, _⟩ := hO2.shape
    have e5 : S.length = L.length := HSL.out
    have f5 : L.length - 2 < S.length := by omega
    obtain ⟨b5, o5, rfl, hb5, hc5⟩ := hr5.at f5
    have q5 := hc5 _ f5
    rw [HSEC.out] at q5
    rw [e5]
    clear hc5 hr5 hO2 e5 f5
    have hidx : (L.length : Int) - 2 = ((L.length - 2 : Nat) : Int) := by omega
    have hlt5 : ((L.length - 2 : Nat) : Int) < (L.length : Int) := by omega
    go_wp2
    go_ret
    exact ⟨rfl, HB0.out.trans (hb2.mono HB0.out.size)⟩

set_option maxHeartbeats 1000000 in
theorem chosen_any (L : List Int) (a0 : Option Addr) (c0 : Nat) (left : Int) (w : World) (h : Reads w a0 L) (hl : L.length ≤ 8) (hr : ∀ y ∈ L, 0 ≤ y ∧ y ≤ 11) (h0 : L ≠ [] → 0 ≤ left ∧ left ≤ 10) :
    Calls Tryz.prog 16 #[.slice a0 L.length c0, .int .i64 left] w fun e w' => e = .returned (.tuple #[.int .i64 (chosenOf L left).1, .int .i64 (chosenOf L left).2]) ∧ Below w.heap.size w w' := by
  by_cases hne : L = []
  · subst hne
    rw [show chosenOf [] left = (-1, 0) from rfl]
    clear h hr h0
    go_enter Tryz.func16, Tryz.ntmps16
    go_wp2
    refine bodyPost_ret (results_tmp2 rfl _ _ _) rfl ⟨rfl, Below.refl _ _⟩
  · have hp : 0 < L.length := List.length_pos_iff.2 hne
    obtain ⟨l0, l1⟩ := h0 hne
    have X := lookFor_any L a0 c0 left w h hp hl hr l0 l1
    have Y := maxS_any L a0 c0 w h hp (by omega)
    have hb : bestTo L L.length < L.length := by have := bestTo_lt L L.length; omega
    have Z := indexS_any L a0 c0 (L.getD (bestTo L L.length) 0) (bestTo L L.length) w h hb rfl (fun j hj => (bestTo_first L L.length (Nat.le_refl _)).2 j hj) (by omega)
    have HC : Hid (chosenOf L left = ((bestTo L L.length : Int), min left (secTo L (bestTo L L.length) L.length + 1))) := by show _ = _; rw [chosenOf, if_neg hne]
    rw [HC.out]
    have hpI : ((L.length : Int) == 0) = false := by simp; omega
    clear h hr h0 HC hne
    generalize L.getD (bestTo L L.length) 0 = m at *
    generalize min left (secTo L (bestTo L L.length) L.length + 1) = r at *
    generalize bestTo L L.length = k at *
    go_enter Tryz.func16, Tryz.ntmps16
    go_wp2_with (first
      | (go_at_call 26; refine Y.mono ?_; rintro e w1 ⟨rfl, hw1⟩; subst hw1)
      | (go_at_call 25; refine Z.mono ?_; rintro e w2 ⟨rfl, hw2⟩; subst hw2)
      | (go_at_call 27; refine X.mono ?_; rintro e w3 ⟨rfl, hb3⟩))
    refine bodyPost_ret (results_tmp2 rfl _ _ _) rfl ⟨rfl, hb3⟩

set_option maxHeartbeats 2000000 in
set_option maxRecDepth 100000 in
theorem choose_any (x : Gm) (a0 : Option Addr) (c0 : Nat) (n1 : Int) (z2 : List Int) (a2 : Option Addr) (c2 : Nat) (z3 : List Int) (a3 : Option Addr) (c3 : Nat) (n4 : Int) (w : World) (h0 : RD w (.slice a0 x.parts.length c0) (slD (Lay.list (Lay.list Lay.int)) x.parts)) (h2 : RD w (.slice a2 z2.length c2) (slD Lay.int z2)) (h3 : RD w (.slice a3 z3.length c3) (slD Lay.int z3)) (hn : Lay.gram.wt x ≤ 1048576) (hf : Lay.gram.fit x) (wf1 : (Lit.int .i64 n1).wf = true) (hl2 : z2.length ≤ 1048576) (hz2 : (Lay.list Lay.int).fit z2) (hl3 : z3.length ≤ 1048576) (hz3 : (Lay.list Lay.int).fit z3) (wf4 : (Lit.int .i64 n4).wf = true) (hE : ErrsIs w) :
    Calls Tryz.prog 8 #[.agg #[.slice a0 x.parts.length c0], .int .i64 n1, .slice a2 z2.length c2, .slice a3 z3.length c3, .int .i64 n4] w fun e w' => e = .returned (.tuple #[.int .i64 (resChoose x n1 z2 z3 n4).1, .int .i64 (resChoose x n1 z2 z3 n4).2]) ∧ Below w.heap.size w w' := by
  have B0 : Below w.heap.size w (w.alloc (.cells #[.slice a0 x.parts.length c0] 29)) := (Below.refl w.heap.size w).alloc (Nat.le_refl _) _
  have HX : Hid (Calls Tryz.prog 17 #[.agg #[.slice a0 x.parts.length c0], .int .i64 n1, .slice a2 z2.length c2, .slice a3 z3.length c3, .int .i64 n4] (w.alloc (.cells #[.slice a0 x.parts.length c0] 29)) fun e w' => ∃ v, e = .returned v ∧ OwnInts w' (w.alloc (.cells #[.slice a0 x.parts.length c0] 29)).heap.size 3 v (farsL x n1 z2 z3 n4) ∧ Below (w.alloc (.cells #[.slice a0 x.parts.length c0] 29)).heap.size (w.alloc (.cells #[.slice a0 x.parts.length c0] 29)) w') := farsOf_any x a0 c0 n1 z2 a2 c2 z3 a3 c3 n4 _ (h0.later B0) (h2.later B0) (h3.later B0) hn hf wf1 hl2 hz2 hl3 hz3 wf4 (hE.later B0)
  have HB0 : Hid (Below w.heap.size w (w.alloc (.cells #[.slice a0 x.parts.length c0] 29))) := B0
  have HW : Hid (∀ (m : Int) (W : World) (a5 : Option Addr) (c5 : Nat), m = z3.length - n4 ∨ farsL x n1 z2 z3 n4 = [] → Reads W a5 (farsL x n1 z2 z3 n4) → Calls Tryz.prog 16 #[.slice a5 (farsL x n1 z2 z3 n4).length c5, .int .i64 m] W fun e w' => e = .returned (.tuple #[.int .i64 (resChoose x n1 z2 z3 n4).1, .int .i64 (resChoose x n1 z2 z3 n4).2]) ∧ Below W.heap.size W w') := fun m W a5 c5 hm hR => by
    have := chosen_any (farsL x n1 z2 z3 n4) a5 c5 m W hR farsL_len farsL_range (fun hne => by
      obtain ⟨e1, e2, e3⟩ := farsL_right hne
      rcases hm with rfl | h
      · omega
      · exact absurd h hne)
    rw [resChoose_of]
    rcases hm with rfl | h
    · exact this
    · have e : ∀ m, chosenOf [] m = (-1, 0) := fun _ => rfl
      rw [h, e] at this
      rw [h, e]
      exact this
  have HRI : Hid (farsL x n1 z2 z3 n4 ≠ [] → 0 ≤ n4 ∧ n4 ≤ z3.length ∧ z3.length ≤ 10) := farsL_right
  generalize resChoose x n1 z2 z3 n4 = R at *
  generalize farsL x n1 z2 z3 n4 = L at *
  clear h0 h2 h3 hn hf hz2 hz3 B0 wf1 hE
  generalize x.parts = P at *
  by_cases hne : L = []
  · have HNE : Hid (L = []) := hne
    clear hne HRI
    go_enter Tryz.func8, Tryz.ntmps8
    go_wp2_with (first
      | (go_at_call 17; refine HX.out.mono ?_; rintro e w2 ⟨v2, rfl, hO2, hb2⟩; obtain ⟨a5, c5, rfl, hr2, _⟩ := hO2.shape)
      | (go_at_call 16; refine (HW.out _ w2 a5 c5 (.inr HNE.out) hr2).mono ?_; rintro e w3 ⟨rfl, hb3⟩))
    refine bodyPost_ret (results_tmp2 rfl _ _ _) rfl ⟨rfl, HB0.out.trans ((hb2.trans (hb3.mono hb2.size)).mono HB0.out.size)⟩
  · obtain ⟨e1, e2, e3⟩ := HRI.out hne
    go_enter Tryz.func8, Tryz.ntmps8
    go_wp2_with (first
      | (go_at_call 17; refine HX.out.mono ?_; rintro e w2 ⟨v2, rfl, hO2, hb2⟩; obtain ⟨a5, c5, rfl, hr2, _⟩ := hO2.shape)
      | (go_at_call 16; refine (HW.out (z3.length - n4) w2 a5 c5 (.inl rfl) hr2).mono ?_; rintro e w3 ⟨rfl, hb3⟩))
    refine bodyPost_ret (results_tmp2 rfl _ _ _) rfl ⟨rfl, HB0.out.trans ((hb2.trans (hb3.mono hb2.size)).mono HB0.out.size)⟩
end Go.Proofs.YthnppodnjokaoaaGreatDoor
namespace Go.Proofs.YthnppodnjokaoaaGreatDoor
open Go.RowKit

end Go.Proofs.YthnppodnjokaoaaGreatDoor
namespace Go.Proofs.YthnppodnjokaoaaGreatDoor
open Go.RowKit

def cntIntSS : List (List Int) → Nat := cntL cntIntS
def mkIntSS : Nat → List (List Int) → List (List Int) := mkL cntIntS mkIntS
theorem cntIntSS_le (xs : List (List Int)) : cntIntSS xs ≤ (Lay.list (Lay.list Lay.int)).wt xs := cntL_le _ (fun x => by have := cntIntS_le x; omega) xs
theorem cntIntSS_room {xs : List (List Int)} {j k M : Nat} (hlt : j < xs.length) (hk : k + (xs.length + (Lay.list Lay.int).sumL xs) ≤ M) : k + cntIntSS (xs.take j) + (Lay.list Lay.int).wt xs[j] ≤ M := by
  have h1 := cntIntSS_le (xs.take j)
  rw [Lay.wt_list, List.length_take] at h1
  have h2 := Lay.sumL_take (Lay.list Lay.int) hlt
  have h3 := Lay.sumL_take_le (Lay.list Lay.int) xs (j + 1)
  omega

end Go.Proofs.YthnppodnjokaoaaGreatDoor
