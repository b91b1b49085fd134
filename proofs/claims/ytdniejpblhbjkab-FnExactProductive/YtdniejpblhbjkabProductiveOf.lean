/-
  Contracts of impl.becomesLetters, impl.productiveOf and impl.Productive over this translation. No statement is proved here.
-/
import Derived.Test.YtdniejpblhbjkabLPartsP
import Derived.Test.YtdniejpblhbjkabEmptiesMath
import Derived.Test.YtdniejpblhbjkabSpecProductive
namespace Go.Proofs.Ytdniejpblhbjkab
open Go.RowKit

/-- All parts of the row are those whose flag is up. -/
def liveB (bs : List Bool) (row : List Int) : Bool := row.all fun x => inB x 0 25 || bs.getD (x - 100).toNat false

set_option maxRecDepth 100000 in
theorem becomesLetters_any (zs : List Int) (a : Option Addr) (c : Nat) (bs : List Bool) (w : World) (h : Reads w a zs) (hl : zs.length ≤ 1048576) (hz : ∀ z ∈ zs, (0 ≤ z ∧ z ≤ 25) ∨ (100 ≤ z ∧ z < 120)) (hb : bs.length = 27) :
    Calls Try.prog 64 #[.slice a zs.length c, aggB bs] w fun e w' => e = .returned (.bool (liveB bs zs)) ∧ Below w.heap.size w w' := by
  have HZ : Hid (∀ z ∈ zs, (0 ≤ z ∧ z ≤ 25) ∨ (100 ≤ z ∧ z < 120)) := hz
  clear hz
  go_enter Try.func64, Try.ntmps64
  go_wp2_with (refine wpList_boxB rfl 47 _ rfl bs rfl ?_; intro w1 hB1 hb1 hs1)
  go_loop [9] (fun s => ∃ k : Nat, k ≤ zs.length ∧ s = .int .i64 k ∧ Hid ((zs.take k).all (fun x => inB x 0 25 || bs.getD (x - 100).toNat false) = true)) (fun s => zs.length - (intOf s).toNat)
  case atStart => exact ⟨0, Nat.zero_le _, rfl, by show _ = _; simp⟩
  case round =>
    obtain ⟨k, hk, rfl, HK⟩ := hrel
    have h1 := h.below hb1
    by_cases hlt : k < zs.length
    · obtain ⟨b, off, rfl, hbb, hc⟩ := h1.at hlt
      have q1 := hc k hlt
      rw [List.getD_eq_getElem?_getD, List.getElem?_eq_getElem hlt, Option.getD_some] at q1
      have hr := HZ.out zs[k] (List.getElem_mem hlt)
      have HS : Hid ((inB zs[k] 0 25 || bs.getD (zs[k] - 100).toNat false) = true → (zs.take (k + 1)).all (fun x => inB x 0 25 || bs.getD (x - 100).toNat false) = true) := fun g => allB_step HK.out hlt g
      have HN : Hid ((inB zs[k] 0 25 || bs.getD (zs[k] - 100).toNat false) = false → liveB bs zs = false) := fun g => allB_no hlt g
      clear hc h h1 HK
      generalize zs[k] = z at *
      by_cases hlet : z ≤ 25
      · have hin : inB z 0 25 = true := inB_true.2 (by omega)
        have X : Hid (∀ W : World, Calls Try.prog 58 #[.int .i64 z] W fun e w' => e = .returned (.bool true) ∧ w' = W) := fun W => by have := isLetter_any z W; rwa [hin] at this
        have HSS : Hid _ := HS.out (by rw [hin, Bool.true_or])
        clear HS HN hin
        go_wp2_with (go_at_call 58; refine (X.out _).mono ?_; rintro e w' ⟨rfl, hw'⟩; have hw2 := hw'.symm; clear hw'; subst hw2)
        go_round
        case rel => exact ⟨k + 1, by omega, by go_num, HSS.out⟩
        case measure => simp [intOf]; omega
      · have hin : inB z 0 25 = false := inB_false.2 (by omega)
        have X : Hid (∀ W : World, Calls Try.prog 58 #[.int .i64 z] W fun e w' => e = .returned (.bool false) ∧ w' = W) := fun W => by have := isLetter_any z W; rwa [hin] at this
        obtain ⟨n, hn⟩ : ∃ n : Nat, z = 100 + (n : Int) := ⟨(z - 100).toNat, by omega⟩
        subst hn
        have hn2 : n < 27 := by omega
        have q2 := hB1.cell (n := n) (by omega)
        have e1 : (100 + (n : Int) - 100).toNat = n := by omega
        have hn0 : (0 : Int) ≤ (n : Int) := by omega
        have hn1 : (n : Int) < 27 := by omega
        rw [e1, hin, Bool.false_or] at HS HN
        clear hin e1 hlet hr
        by_cases z3 : bs.getD n false = true
        · rw [z3] at q2
          have HSS : Hid _ := HS.out z3
          clear HS HN z3
          go_wp2_with (go_at_call 58; refine (X.out _).mono ?_; rintro e w' ⟨rfl, hw'⟩; have hw2 := hw'.symm; clear hw'; subst hw2)
          go_round
          case rel => exact ⟨k + 1, by omega, by go_num, HSS.out⟩
          case measure => simp [intOf]; omega
        · have z4 : bs.getD n false = false := by simpa using z3
          rw [z4] at q2
          have HNN : Hid (liveB bs zs = false) := HN.out z4
          clear HS HN z3 z4
          go_wp2_with (go_at_call 58; refine (X.out _).mono ?_; rintro e w' ⟨rfl, hw'⟩; have hw2 := hw'.symm; clear hw'; subst hw2)
          go_ret
          exact ⟨ret_bool (by rw [HNN.out]), hb1⟩
    · have HE : Hid (liveB bs zs = true) := allB_end HK.out hlt
      clear h h1 HK
      go_wp2
      go_ret
      exact ⟨ret_bool (by rw [HE.out]), hb1⟩

theorem symsLet {P : List (List (List Int))} (hok : gramOkB P = true) {k : Nat} (hk : k < P.length) {i : Nat} (hi : i < P[k].length) : ∀ z ∈ P[k][i], (0 ≤ z ∧ z ≤ 25) ∨ (100 ≤ z ∧ z < 100 + P.length) := by
  intro z h3
  simp only [gramOkB, Bool.and_eq_true, List.all_eq_true, partOk, rowOk, decide_eq_true_eq] at hok
  exact symOk_true.1 (((hok.2 _ (List.getElem_mem hk)).2 _ (List.getElem_mem hi)).2 z h3)
/-- The flags that are found are those of the set that is grown, where the tests are one. -/
theorem leastParts_is {pB : List Bool → List Int → Bool} {pE : List Int → List Int → Bool} {P : List (List (List Int))} (F : Fits P)
    (hs : ∀ k (hk : k < P.length) i (hi : i < P[k].length) T E, (∀ n : Nat, T.getD n false = true → (n : Int) ∈ E) → pB T P[k][i] = true → pE P[k][i] E = true)
    (hc : ∀ k (hk : k < P.length) i (hi : i < P[k].length) T E, (∀ n : Nat, (n : Int) ∈ E → T.getD n false = true) → pE P[k][i] E = true → pB T P[k][i] = true)
    {T : List Bool} (hl : T.length = 27) (hG : Grows (emS pB) P (List.replicate 27 false) T) (hx : leK (emS pB) P T P.length = T) : T = flagsOf (growT pE P (P.length + 1)) := by
  have sound : ∀ n : Nat, T.getD n false = true → (n : Int) ∈ growT pE P (P.length + 1) := by
    refine hG (fun T => ∀ n : Nat, T.getD n false = true → (n : Int) ∈ growT pE P (P.length + 1)) (fun n hn => ?_) (fun k hk i hi T hT n hn => ?_)
    · rw [rep_getD] at hn; cases hn
    · simp only [emS, bstep] at hn
      rw [getD_setB] at hn
      split at hn
      · rename_i e
        rw [Bool.or_eq_true] at hn
        rcases hn with hn | hn
        · rw [e.1]; exact hT k hn
        · rw [e.1]; exact growT_closed hk hi (hs k hk i hi T _ hT hn)
      · exact hT n hn
  have fix : ∀ k (hk : k < P.length) i (hi : i < P[k].length), pB T P[k][i] = true → T.getD k false = true := by
    intro k hk i hi ha
    have e := (emS_raises pB P).fix hl hx hk hi
    have h20 := F.parts
    have := bstep_fix (s := (k, fun b => pB b P[k][i])) e (by show k < T.length; omega) ha
    simp only [List.getD, List.getElem?_eq_getElem (show k < T.length by omega), Option.getD_some]
    exact this
  have compl : ∀ x ∈ growT pE P (P.length + 1), ∃ n : Nat, x = n ∧ T.getD n false = true := by
    refine growT_sound (p := pE) (S := fun x => ∃ n : Nat, x = n ∧ T.getD n false = true) (fun k hk i hi E hE ha => ⟨k, rfl, fix k hk i hi ?_⟩) _
    refine hc k hk i hi T E (fun n hn => ?_) ha
    obtain ⟨m, hm, h⟩ := hE _ hn
    rwa [show n = m by omega]
  apply list_ext_getD (by rw [hl, flagsOf_length])
  intro n hn
  rw [flagsOf_get _ (by omega), Bool.eq_iff_iff]
  constructor
  · intro h; exact hasL_yes (sound n h)
  · intro h
    obtain ⟨m, hm, h2⟩ := compl n (by simpa [hasL] using h)
    rwa [show n = m by omega]
theorem liveB_all {bs : List Bool} {row : List Int} : liveB bs row = true ↔ ∀ x ∈ row, inB x 0 25 = true ∨ bs.getD (x - 100).toNat false = true := by
  unfold liveB
  rw [List.all_eq_true]
  exact ⟨fun h x hx => by have := h x hx; rwa [Bool.or_eq_true] at this, fun h x hx => by have := h x hx; rwa [Bool.or_eq_true]⟩
theorem aliveE_all {E row : List Int} : aliveE row E = true ↔ ∀ x ∈ row, ¬ 100 ≤ x ∨ x - 100 ∈ E := by
  unfold aliveE
  rw [List.all_eq_true]
  exact ⟨fun h x hx => by have := h x hx; simpa [hasL] using this, fun h x hx => by have := h x hx; simpa [hasL] using this⟩
theorem productiveOf_is {P : List (List (List Int))} (hok : gramOkB P = true) {T : List Bool} (hl : T.length = 27) (hG : Grows (emS liveB) P (List.replicate 27 false) T) (hx : leK (emS liveB) P T P.length = T) : T = flagsOf (aliveL P) := by
  refine leastParts_is (Fits.of hok) (pE := aliveE) (fun k hk i hi T E hT h => ?_) (fun k hk i hi T E hE h => ?_) hl hG hx
  · rw [liveB_all] at h
    rw [aliveE_all]
    intro x hx
    have hz := symsLet hok hk hi x hx
    rcases h x hx with h1 | h1
    · left; have := inB_true.1 h1; omega
    · by_cases g : 100 ≤ x
      · right; have := hT _ h1; rwa [show (((x - 100).toNat : Nat) : Int) = x - 100 by omega] at this
      · exact .inl g
  · rw [aliveE_all] at h
    rw [liveB_all]
    intro x hx
    have hz := symsLet hok hk hi x hx
    rcases h x hx with h1 | h1
    · left; exact inB_true.2 (by omega)
    · by_cases g : 100 ≤ x
      · right; exact hE _ (by rwa [show (((x - 100).toNat : Nat) : Int) = x - 100 by omega])
      · left; exact inB_true.2 (by omega)

set_option maxHeartbeats 4000000 in
set_option maxRecDepth 100000 in
theorem productiveOf_any (P : List (List (List Int))) (a0 : Option Addr) (c0 : Nat) (w : World) (h0 : RD w (.slice a0 P.length c0) (slD (Lay.list (Lay.list Lay.int)) P)) (hok : gramOkB P = true) :
    Calls Try.prog 46 #[.agg #[.slice a0 P.length c0]] w fun e w' => e = .returned (aggB (flagsOf (aliveL P))) ∧ Below w.heap.size w w' := by
  have HX : Hid (∀ W : World, Below w.heap.size w W → Calls Try.prog 63 #[.agg #[.slice a0 P.length c0], .func (.func 64) #[] #[]] W fun e w' => e = .returned (aggB (flagsOf (aliveL P))) ∧ Below W.heap.size W w') := by
    intro W hW
    have F := Fits.of hok
    have := leastParts_P liveB P a0 c0 W (h0.later hW) hok (fun W2 T k hk i hi a c hb hT hr => by
      have hm := List.getElem_mem hk
      have hm2 := List.getElem_mem hi
      have h8 := F.rows _ hm _ hm2
      have hp := F.parts
      exact becomesLetters_any _ a c T W2 (hr.later hb).reads (by omega) (fun z hz => by have := symsLet hok hk hi z hz; omega) hT)
    refine this.mono ?_
    rintro e w' ⟨T, rfl, h1, h2, h3, h4⟩
    exact ⟨by rw [productiveOf_is hok h1 h2 h3], h4⟩
  have B0 := (Below.refl w.heap.size w).alloc (Nat.le_refl _) (.cells #[.slice a0 P.length c0] 28)
  have hsb : (w.alloc (.cells #[.slice a0 P.length c0] 28)).heap.size = w.heap.size + 1 := by simp
  have HQ0 : Hid ((w.alloc (.cells #[.slice a0 P.length c0] 28)).cell? ⟨w.heap.size, 0, none⟩ = some (.slice a0 P.length c0)) := by show _ = _; simp
  have hTl := flagsOf_length (aliveL P)
  clear h0 hok
  generalize flagsOf (aliveL P) = T at *
  go_enter Try.func46, Try.ntmps46
  go_wp2_with (first | (refine wpList_allocB (w := w.alloc _) rfl 47 rfl 27 bt_flags ?_; rw [hsb]; intro w1 hB1 hb1 hs1; have q1 := (hb1.cell (p := ⟨w.heap.size, 0, none⟩) (by simp)).trans HQ0.out) | (go_at_call 63; refine (HX.out _ (B0.trans (hb1.mono (by omega)))).mono ?_; rintro e w2 ⟨rfl, hb2⟩; have hB2 := hB1.later hb2) | (refine wpList_storeB (w := w2) rfl 47 _ _ rfl (w.heap.size + 1) 0 47 _ T rfl rfl (at27 hTl) hB2 (by simp [hTl]) ?_; intro w3 hB3 hg3))
  have e5 : putB (List.replicate 27 false) 0 T = T := putB_whole (by simp [hTl])
  rw [e5] at hB3
  have b1 : Below w.heap.size w w1 := B0.trans (hb1.mono (by omega))
  have b2 : Below w.heap.size w w2 := b1.trans (hb2.mono b1.size)
  have b3 : Below w.heap.size w w3 := b2.grown hg3 b2.size (fun j hj => by cases hj; omega)
  exact bodyPost_ret (v := aggB T) (ret_cell 47 rfl rfl hB3 (at27 hTl)) rfl ⟨rfl, b3⟩
end Go.Proofs.Ytdniejpblhbjkab
