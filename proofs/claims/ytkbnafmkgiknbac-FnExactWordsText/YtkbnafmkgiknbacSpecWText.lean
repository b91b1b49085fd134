/-
  Contracts of spec.WordsText and of the law package's szWord, szWordS, toWord, toWordS over this translation. No statement is proved here.
-/
import Derived.Test.YtkbnafmkgiknbacWText
import Derived.Test.YtkbnafmkgiknbacEqWords
import Derived.Test.YtkbnafmkgiknbacChecked
namespace Go.Proofs.Ytkbnafmkgiknbac
open Go.RowKit

set_option maxRecDepth 100000 in
theorem specWordsText_any (a : Option Addr) (c : Nat) (ws : List Wd) (w : World) (h : ReadsT wdE w a ws) (hl : ws.length ≤ 1099511627776) (hb : (textTo ws ws.length).length ≤ 1099511627776) :
    Calls Try.prog 8 #[.slice a ws.length c] w fun e w' => e = .returned (.string (textL ws)) ∧ w' = w := by
  go_enter Try.func8, Try.ntmps8
  go_wp2
  go_loop [3, 4] (fun t i => ∃ (k : Nat), k ≤ ws.length ∧ i = .int .i64 k ∧ t = .string ⟨(textTo ws k).toArray⟩) (fun _ i => ws.length - (intOf i).toNat)
  case atStart => exact ⟨0, Nat.zero_le _, rfl, rfl⟩
  case round =>
    obtain ⟨k, hk, rfl, rfl⟩ := hrel
    by_cases hlt : k < ws.length
    · obtain ⟨b1, o1, rfl, hb1, q0, q1, q2⟩ := h.word hlt
      have hm := textTo_mono ws (k := k + 1) (m := ws.length) hlt
      by_cases hk0 : 0 < k
      · have E : Hid (textTo ws (k + 1) = (textTo ws k ++ [32]) ++ bytesL ws[k].text) := textTo_next hlt (by omega)
        have hlen : (textTo ws k).length + 1 + ws[k].text.size ≤ 1099511627776 := by
          rw [E.out] at hm; simp [bytesL] at hm; omega
        generalize ws[k].text = tx at *
        generalize textTo ws k = pre at *
        go_wp2
        go_round
        case rel => exact ⟨k + 1, by omega, by go_num, congrArg Value.string (by rw [E.out]; apply ByteArray.ext; apply Array.ext'; simp [bytesL])⟩
        case measure => simp [intOf]; omega
      · have hz : k = 0 := by omega
        have E : Hid (textTo ws (k + 1) = bytesL ws[k].text) := by subst hz; exact textTo_first hlt
        have E0 : textTo ws k = [] := by subst hz; rfl
        have hlen : ws[k].text.size ≤ 1099511627776 := by
          rw [E.out] at hm; simp [bytesL] at hm; omega
        rw [E0]
        clear E0 hz
        generalize ws[k].text = tx at *
        go_wp2
        go_round
        case rel => exact ⟨k + 1, by omega, by go_num, congrArg Value.string (by rw [E.out]; apply ByteArray.ext; apply Array.ext'; simp [bytesL])⟩
        case measure => simp [intOf]; omega
    · have e : k = ws.length := by omega
      subst e
      go_wp2
      go_ret
      exact ⟨rfl, rfl⟩

/-- How many bytes the first k texts have. -/
def sumTo (ws : List Wd) : Nat → Nat
  | 0 => 0
  | k + 1 => sumTo ws k + ((ws[k]?).map (fun x => x.text.size)).getD 0
theorem sumTo_step {ws : List Wd} {k : Nat} (h : k < ws.length) : sumTo ws (k + 1) = sumTo ws k + ws[k].text.size := by simp [sumTo, h]
theorem text_le (ws : List Wd) (k : Nat) : (textTo ws k).length ≤ k + sumTo ws k := by
  induction k with
  | zero => simp [textTo, sumTo]
  | succ k ih =>
    rw [textTo, sumTo, List.length_append, List.length_append]
    have h1 : (if k = 0 then ([] : List UInt8) else [32]).length ≤ 1 := by split <;> simp
    have h2 : (((ws[k]?).map (fun x => bytesL x.text)).getD []).length = ((ws[k]?).map (fun x => x.text.size)).getD 0 := by
      cases ws[k]? <;> simp [bytesL]
    omega

theorem szWord_any (kd pl : Int) (tx : ByteArray) (l : Int) (w : World) (h0 : 0 ≤ l) (h1 : l ≤ 1048576) (hs : tx.size ≤ maxLen) :
    Calls Try.prog 26 #[.agg #[.int .i64 kd, .int .i64 pl, .string tx], .int .i64 l] w fun e w' => e = .returned (.int .i64 (if l < tx.size then -1 else l - tx.size)) ∧ Below w.heap.size w w' := by
  unfold maxLen at hs
  by_cases h : l < (tx.size : Int)
  · rw [if_pos h]
    go_enter Try.func26, Try.ntmps26
    go_wp2
    go_ret
    exact ⟨rfl, (Below.refl _ _).alloc (Nat.le_refl _) _⟩
  · rw [if_neg h]
    go_enter Try.func26, Try.ntmps26
    go_wp2
    go_ret
    exact ⟨rfl, (Below.refl _ _).alloc (Nat.le_refl _) _⟩

/-- What szWordS tells: where it is not negative, the list and its texts are small. -/
def SzEnds (ws : List Wd) (r : Int) : Prop := r = -1 ∨ (0 ≤ r ∧ ws.length + sumTo ws ws.length ≤ 1048576)

theorem szWordS_any (a : Option Addr) (c : Nat) (ws : List Wd) (w : World) (h : ReadsT wdE w a ws) (hl : ws.length ≤ maxLen) (hsz : ∀ i (hi : i < ws.length), ws[i].text.size ≤ maxLen) :
    Calls Try.prog 7 #[.slice a ws.length c, .int .i64 1048576] w fun e w' => ∃ r, e = .returned (.int .i64 r) ∧ SzEnds ws r ∧ Below w.heap.size w w' := by
  unfold maxLen at hl
  by_cases hbig : 1048576 < ws.length
  · go_enter Try.func7, Try.ntmps7
    go_wp2
    go_ret
    exact ⟨_, rfl, .inl rfl, Below.refl _ _⟩
  · go_enter Try.func7, Try.ntmps7
    go_wp2
    go_loopw [1, 5] (fun l i wr => ∃ (k : Nat) (x : Int), k ≤ ws.length ∧ i = .int .i64 k ∧ l = .int .i64 x ∧ 0 ≤ x ∧ x + ws.length + sumTo ws k = 1048576 ∧ Below w.heap.size w wr) (fun _ i _ => ws.length - (intOf i).toNat)
    case atStart => exact ⟨0, 1048576 - ws.length, Nat.zero_le _, rfl, rfl, by omega, by simp [sumTo], Below.refl _ _⟩
    case round =>
      obtain ⟨k, x, hk, rfl, rfl, hx0, hx, hbel⟩ := hrel
      by_cases hlt : k < ws.length
      · obtain ⟨b1, o1, rfl, hb1, q0, q1, q2⟩ := (h.below hbel).word hlt
        have ES : Hid (sumTo ws (k + 1) = sumTo ws k + ws[k].text.size) := sumTo_step hlt
        have hs := hsz k hlt
        have hx2 : x ≤ 1048576 := by omega
        have HX : Hid (x + ws.length + sumTo ws k = 1048576) := hx
        clear hx
        generalize ws[k].kind = kd at *
        generalize ws[k].place = pl at *
        generalize ws[k].text = tx at *
        go_wp2_with fail
        refine (szWord_any kd pl tx x _ hx0 hx2 hs).mono ?_
        rintro e w1 ⟨rfl, hb2⟩
        have B2 := hbel.trans (hb2.mono hbel.size)
        by_cases hc : x < (tx.size : Int)
        · rw [if_pos hc]
          go_wp2
          go_ret
          exact ⟨_, rfl, .inl rfl, B2⟩
        · rw [if_neg hc]
          go_wp2
          go_roundw
          case rel => exact ⟨k + 1, x - tx.size, by omega, by go_num, rfl, by omega, by rw [ES.out]; have := HX.out; omega, B2⟩
          case measure => simp [intOf]; omega
      · have e : k = ws.length := by omega
        subst e
        go_wp2
        go_ret
        exact ⟨_, rfl, .inr ⟨hx0, by omega⟩, hbel⟩

theorem toWord_any (kd pl : Int) (tx : ByteArray) (w : World) :
    Calls Try.prog 27 #[.agg #[.int .i64 kd, .int .i64 pl, .string tx]] w fun e w' => e = .returned (.agg #[.int .i64 kd, .int .i64 pl, .string tx]) ∧ Below w.heap.size w w' := by
  go_enter Try.func27, Try.ntmps27
  go_wp2
  refine bodyPost_ret (v := .agg #[.int .i64 kd, .int .i64 pl, .string tx]) (by simp [results, Try.results27, go_sem]) rfl ⟨rfl, ?_⟩
  exact (((Below.refl _ _).alloc (Nat.le_refl _) _).alloc (by simp) _).alloc (by simp; omega) _

theorem Try.infoWordT : (Try.prog.info? 54).map (fun i => (i.zero, i.size, i.bytes)) = some (some (.agg #[.int .i64 0, .int .i64 0, .string ByteArray.empty]), wdE.size, 32) := by kernel_rfl

theorem put_step {ws : List Wd} {x : Wd} {k : Nat} (h : k < ws.length) : (ws.take k ++ List.replicate (ws.length - k) x).set k ws[k] = ws.take (k + 1) ++ List.replicate (ws.length - (k + 1)) x := by
  have hl : (ws.take k).length = k := by simp; omega
  have e : ws.length - k = (ws.length - (k + 1)) + 1 := by omega
  rw [List.set_append_right _ _ (by omega), hl, Nat.sub_self, e, List.replicate_succ, List.set_cons_zero, List.take_succ_eq_append_getElem h, List.append_assoc]
  rfl

set_option maxRecDepth 100000 in
theorem toWordS_any (a : Option Addr) (c : Nat) (ws : List Wd) (w : World) (h : ReadsT wdE w a ws) (hl : ws.length ≤ 1048576) :
    Calls Try.prog 9 #[.slice a ws.length c] w fun e w' => ∃ v, e = .returned v ∧ OwnT wdE w' w.heap.size 54 v ws ∧ Below w.heap.size w w' := by
  obtain ⟨W, hmk, O0, B0⟩ := make_ownT (P := Try.prog) (E := wdE) w 25 54 (.agg #[.int .i64 0, .int .i64 0, .string ByteArray.empty]) 32 ⟨0, 0, ByteArray.empty⟩ ws.length Try.underlying25 Try.infoWordT rfl (by decide) (by omega)
  go_enter Try.func9, Try.ntmps9
  go_wp2
  go_loopw [4] (fun i wr => ∃ k : Nat, k ≤ ws.length ∧ i = .int .i64 k ∧ OwnT wdE wr w.heap.size 54 (.slice (some ⟨w.heap.size, 0, none⟩) ws.length ws.length) (ws.take k ++ List.replicate (ws.length - k) (⟨0, 0, ByteArray.empty⟩ : Wd)) ∧ Below w.heap.size w wr) (fun i _ => ws.length - (intOf i).toNat)
  case atStart => exact ⟨0, Nat.zero_le _, rfl, by simpa using O0, B0⟩
  case round =>
    obtain ⟨k, hk, rfl, hown, hbel⟩ := hrel
    by_cases hlt : k < ws.length
    · obtain ⟨b1, o1, rfl, hb1, q0, q1, q2⟩ := (h.below hbel).word hlt
      have EP : Hid ((ws.take k ++ List.replicate (ws.length - k) (⟨0, 0, ByteArray.empty⟩ : Wd)).set k ⟨ws[k].kind, ws[k].place, ws[k].text⟩ = ws.take (k + 1) ++ List.replicate (ws.length - (k + 1)) (⟨0, 0, ByteArray.empty⟩ : Wd)) := put_step hlt
      have hL : ws.length = (ws.take k ++ List.replicate (ws.length - k) (⟨0, 0, ByteArray.empty⟩ : Wd)).length := by simp; omega
      generalize ws.take k ++ List.replicate (ws.length - k) (⟨0, 0, ByteArray.empty⟩ : Wd) = L at *
      generalize ws[k].kind = kd at *
      generalize ws[k].place = pl at *
      generalize ws[k].text = tx at *
      have HL : Hid (ws.length = L.length) := hL
      clear hL O0 B0 hmk h
      go_wp2_with fail
      refine (toWord_any kd pl tx _).mono ?_
      rintro e w1 ⟨rfl, hb2⟩
      have O1 := hown.below hb2
      have B1 := hbel.trans (hb2.mono hbel.size)
      have hkL : k < L.length := HL.out ▸ hlt
      obtain ⟨P1, G1, ⟨u1, c1⟩, f1⟩ := O1.kindW HL.out hkL kd
      have hj1 : k < (L.set k { L[k] with kind := kd }).length := by simpa using hkL
      obtain ⟨P2, G2, ⟨u2, c2⟩, f2⟩ := P1.placeW (by simpa using HL.out) hj1 pl
      have hj2 : k < ((L.set k { L[k] with kind := kd }).set k { (L.set k { L[k] with kind := kd })[k] with place := pl }).length := by simpa using hj1
      obtain ⟨P3, G3, ⟨u3, c3⟩, f3⟩ := P2.textW (by simpa using HL.out) hj2 tx
      rw [set_three hkL kd pl tx hj1 hj2, EP.out] at P3
      have B3 := ((B1.grown G1 B1.size (fun k hk => by cases hk; exact Nat.le_refl _)).grown G2 (Nat.le_trans B1.size G1.size) (fun k hk => by cases hk; exact Nat.le_refl _)).grown G3 (Nat.le_trans (Nat.le_trans B1.size G1.size) G2.size) (fun k hk => by cases hk; exact Nat.le_refl _)
      have B1s := B1.size
      clear hown hbel O1 P1 P2 G1 G2 G3 B1 hj1 hj2 hb2 EP hkL
      go_wp2
      go_roundw
      case rel => exact ⟨k + 1, by omega, by go_num, P3, B3⟩
      case measure => simp [intOf]; omega
    · have e : k = ws.length := by omega
      subst e
      go_wp2
      go_ret
      exact ⟨_, rfl, by simpa using hown, hbel⟩
end Go.Proofs.Ytkbnafmkgiknbac
