/-
  Contracts and plain mathematics, joined: EmptiesMath, ProductiveOf, ReachMath, ReachUp, JoinB, ReachOf, ReachableOf, IsThere, StartsB, StartsUp, LeastS, StartsOf. No statement is proved here.
-/
import Derived.Test.YthnppodnjokaoaaGreatDoorG9
import Derived.Test.YthnppodnjokaoaaGreatDoorG6
import Derived.Test.YthnppodnjokaoaaGreatDoorG1
import Derived.Test.YthnppodnjokaoaaGreatDoorG5
import Derived.Test.YthnppodnjokaoaaGreatDoorG3
import Derived.Test.YthnppodnjokaoaaGreatDoorG2
namespace Go.Proofs.YthnppodnjokaoaaGreatDoor
open Go.RowKit

theorem emptiesL_mem {P : List (List (List Int))} (F : Fits P) {x : Int} (h : x ∈ emptiesL P) : 0 ≤ x ∧ x < 20 := by
  have := (growT_setB (p := allE) P (P.length + 1)).lt x h
  have := F.parts
  omega
theorem rep_getD (m n : Nat) : (List.replicate m false).getD n false = false := by
  rw [List.getD_eq_getElem?_getD, List.getElem?_replicate]
  split <;> rfl
theorem getD_setB (T : List Bool) (k n : Nat) (v : Bool) : (T.set k v).getD n false = if n = k ∧ k < T.length then v else T.getD n false := by
  by_cases e : n = k
  · subst e
    by_cases h : n < T.length
    · simp [List.getD, h]
    · simp [List.getD, h]
  · simp [List.getD, e, Ne.symm e]
theorem allB_of {T : List Bool} {E row : List Int} (hz : ∀ z ∈ row, 0 ≤ z ∧ z < 120) (h : ∀ n : Nat, (n : Int) ∈ E → T.getD n false = true) (g : allE row E = true) : allB T row = true := by
  unfold allE at g
  unfold allB
  rw [List.all_eq_true] at g ⊢
  intro x hx
  have h1 := g x hx
  have h2 := hz x hx
  simp only [Bool.and_eq_true, decide_eq_true_eq] at h1 ⊢
  refine ⟨⟨h1.1, by omega⟩, h _ ?_⟩
  have h3 : x - 100 ∈ E := by simpa [hasL] using h1.2
  rwa [show (((x - 100).toNat : Nat) : Int) = x - 100 by omega]
theorem allE_of {T : List Bool} {E row : List Int} (h : ∀ n : Nat, T.getD n false = true → (n : Int) ∈ E) (g : allB T row = true) : allE row E = true := by
  unfold allB at g
  unfold allE
  rw [List.all_eq_true] at g ⊢
  intro x hx
  have h1 := g x hx
  simp only [Bool.and_eq_true, decide_eq_true_eq] at h1 ⊢
  refine ⟨h1.1.1, ?_⟩
  have h3 := h _ h1.2
  rw [show (((x - 100).toNat : Nat) : Int) = x - 100 by omega] at h3
  exact hasL_yes h3
theorem emptiesOf_is {P : List (List (List Int))} (F : Fits P) {T : List Bool} (hl : T.length = 27) (hG : Grows eS P (List.replicate 27 false) T) (hx : leK eS P T P.length = T) : T = flagsOf (emptiesL P) := by
  have sound : ∀ n : Nat, T.getD n false = true → (n : Int) ∈ emptiesL P := by
    refine hG (fun T => ∀ n : Nat, T.getD n false = true → (n : Int) ∈ emptiesL P) (fun n hn => ?_) (fun k hk i hi T hT n hn => ?_)
    · rw [rep_getD] at hn; cases hn
    · simp only [eS, bstep] at hn
      rw [getD_setB] at hn
      split at hn
      · rename_i e
        rw [Bool.or_eq_true] at hn
        rcases hn with hn | hn
        · rw [e.1]; exact hT k hn
        · rw [e.1]; exact growT_closed hk hi (allE_of hT hn)
      · exact hT n hn
  have fix : ∀ k (hk : k < P.length) i (hi : i < P[k].length), allB T P[k][i] = true → T.getD k false = true := by
    intro k hk i hi ha
    have e := (eS_raises P).fix hl hx hk hi
    have h20 := F.parts
    have := bstep_fix (s := (k, fun b => allB b P[k][i])) e (by show k < T.length; omega) ha
    simp only [List.getD, List.getElem?_eq_getElem (show k < T.length by omega), Option.getD_some]
    exact this
  have compl : ∀ x ∈ emptiesL P, ∃ n : Nat, x = n ∧ T.getD n false = true := by
    refine growT_sound (p := allE) (S := fun x => ∃ n : Nat, x = n ∧ T.getD n false = true) (fun k hk i hi E hE ha => ⟨k, rfl, fix k hk i hi ?_⟩) _
    refine allB_of (E := E) (F.syms _ (List.getElem_mem hk) _ (List.getElem_mem hi)) (fun n hn => ?_) ha
    obtain ⟨m, hm, h⟩ := hE _ hn
    rwa [show n = m by omega]
  apply list_ext_getD (by rw [hl, flagsOf_length])
  intro n hn
  rw [flagsOf_get _ (by omega), Bool.eq_iff_iff]
  constructor
  · intro h; exact hasL_yes (sound n h)
  · intro h
    obtain ⟨m, hm, h2⟩ := compl n (by simpa [hasL] using h)
    rwa [show n = m by omega]
theorem nums_flags {E : List Int} (hs : E.Pairwise (· < ·)) (hb : ∀ x ∈ E, 0 ≤ x ∧ x < 27) {f : Nat → Bool} (hf : ∀ n, n < 27 → f n = hasL E (n : Int)) : numsB f 27 = E := by
  refine eq_of_pair (numsB_sorted _ _) hs fun z => ?_
  rw [mem_numsB]
  constructor
  · rintro ⟨n, h1, rfl, h2⟩
    rw [hf n h1] at h2
    simpa [hasL] using h2
  · intro h
    have hz := hb z h
    refine ⟨z.toNat, by omega, by omega, ?_⟩
    rw [hf _ (by omega), show ((z.toNat : Nat) : Int) = z by omega]
    exact hasL_yes h
theorem allB_flags {E : List Int} (hb : ∀ x ∈ E, 0 ≤ x ∧ x < 20) (row : List Int) : allB (flagsOf E) row = allE row E := by
  unfold allB allE
  congr 1
  funext x
  by_cases h1 : 100 ≤ x
  · by_cases h2 : x - 100 < 20
    · rw [flagsOf_get _ (by omega), show (((x - 100).toNat : Nat) : Int) = x - 100 by omega]
      simp [h1, h2]
    · have : hasL E (x - 100) = false := hasL_no (fun h => by have := hb _ h; omega)
      simp [h2, this]
  · simp [h1]

set_option maxRecDepth 100000 in
theorem emptiesOf_any (P : List (List (List Int))) (a0 : Option Addr) (c0 : Nat) (w : World) (h0 : RD w (.slice a0 P.length c0) (slD (Lay.list (Lay.list Lay.int)) P)) (hok : gramOkB P = true) :
    Calls Tryz.prog 109 #[.agg #[.slice a0 P.length c0]] w fun e w' => e = .returned (aggB (flagsOf (emptiesL P))) ∧ Below w.heap.size w w' := by
  refine (emptiesOf_grow P a0 c0 w h0 hok).mono ?_
  rintro e w' ⟨T, rfl, h1, h2, h3, h4⟩
  exact ⟨by rw [emptiesOf_is (Fits.of hok) h1 h2 h3], h4⟩
end Go.Proofs.YthnppodnjokaoaaGreatDoor
namespace Go.Proofs.YthnppodnjokaoaaGreatDoor
open Go.RowKit

/-- All parts of the row are those whose flag is up. -/
def liveB (bs : List Bool) (row : List Int) : Bool := row.all fun x => inB x 0 25 || bs.getD (x - 100).toNat false

set_option maxRecDepth 100000 in
theorem becomesLetters_any (zs : List Int) (a : Option Addr) (c : Nat) (bs : List Bool) (w : World) (h : Reads w a zs) (hl : zs.length ≤ 1048576) (hz : ∀ z ∈ zs, (0 ≤ z ∧ z ≤ 25) ∨ (100 ≤ z ∧ z < 120)) (hb : bs.length = 27) :
    Calls Tryz.prog 106 #[.slice a zs.length c, aggB bs] w fun e w' => e = .returned (.bool (liveB bs zs)) ∧ Below w.heap.size w w' := by
  have HZ : Hid (∀ z ∈ zs, (0 ≤ z ∧ z ≤ 25) ∨ (100 ≤ z ∧ z < 120)) := hz
  clear hz
  go_enter Tryz.func106, Tryz.ntmps106
  go_wp2_with (refine wpList_boxB rfl 119 _ rfl bs rfl ?_; intro w1 hB1 hb1 hs1)
  go_loop [9] (fun s => ∃ k : Nat, k ≤ zs.length ∧ s = .int .i64 k ∧ Hid ((zs.take k).all (fun x => inB x 0 25 || bs.getD (x - 100).toNat false) = true)) (fun s => zs.length - (intOf s).toNat)
  case atStart => exact ⟨0, Nat.zero_le _, rfl, by show _ = _; simp⟩
  case round =>
    obtain ⟨k, hk, rfl, HK⟩ := hrel
    have h1 := h.below hb1
    by_cases hlt : k < zs.length
    · obtain ⟨b, off, rfl, hbb, hc⟩ := h1.at hlt
      have q1 := hc k hlt
      rw [List.getD_eq_getElem?_getD, List.getElem?_eq_getElem hlt, Option.getD_some] at q1
      have hr := HZ.out zs[k] (List.getElem_mem hlt)
      have HS : Hid ((inB zs[k] 0 25 || bs.getD (zs[k] - 100).toNat false) = true → (zs.take (k + 1)).all (fun x => inB x 0 25 || bs.getD (x - 100).toNat false) = true) := fun g => allB_step HK.out hlt g
      have HN : Hid ((inB zs[k] 0 25 || bs.getD (zs[k] - 100).toNat false) = false → liveB bs zs = false) := fun g => allB_no hlt g
      clear hc h h1 HK
      generalize zs[k] = z at *
      by_cases hlet : z ≤ 25
      · have hin : inB z 0 25 = true := inB_true.2 (by omega)
        have X : Hid (∀ W : World, Calls Tryz.prog 71 #[.int .i64 z] W fun e w' => e = .returned (.bool true) ∧ w' = W) := fun W => by have := isLetter_any z W; rwa [hin] at this
        have HSS : Hid _ := HS.out (by rw [hin, Bool.true_or])
        clear HS HN hin
        go_wp2_with (go_at_call 71; refine (X.out _).mono ?_; rintro e w' ⟨rfl, hw'⟩; have hw2 := hw'.symm; clear hw'; subst hw2)
        go_round
        case rel => exact ⟨k + 1, by omega, by go_num, HSS.out⟩
        case measure => simp [intOf]; omega
      · have hin : inB z 0 25 = false := inB_false.2 (by omega)
        have X : Hid (∀ W : World, Calls Tryz.prog 71 #[.int .i64 z] W fun e w' => e = .returned (.bool false) ∧ w' = W) := fun W => by have := isLetter_any z W; rwa [hin] at this
        obtain ⟨n, hn⟩ : ∃ n : Nat, z = 100 + (n : Int) := ⟨(z - 100).toNat, by omega⟩
        subst hn
        have hn2 : n < 27 := by omega
        have q2 := hB1.cell (n := n) (by omega)
        have e1 : (100 + (n : Int) - 100).toNat = n := by omega
        have hn0 : (0 : Int) ≤ (n : Int) := by omega
        have hn1 : (n : Int) < 27 := by omega
        rw [e1, hin, Bool.false_or] at HS HN
        clear hin e1 hlet hr
        by_cases z3 : bs.getD n false = true
        · rw [z3] at q2
          have HSS : Hid _ := HS.out z3
          clear HS HN z3
          go_wp2_with (go_at_call 71; refine (X.out _).mono ?_; rintro e w' ⟨rfl, hw'⟩; have hw2 := hw'.symm; clear hw'; subst hw2)
          go_round
          case rel => exact ⟨k + 1, by omega, by go_num, HSS.out⟩
          case measure => simp [intOf]; omega
        · have z4 : bs.getD n false = false := by simpa using z3
          rw [z4] at q2
          have HNN : Hid (liveB bs zs = false) := HN.out z4
          clear HS HN z3 z4
          go_wp2_with (go_at_call 71; refine (X.out _).mono ?_; rintro e w' ⟨rfl, hw'⟩; have hw2 := hw'.symm; clear hw'; subst hw2)
          go_ret
          exact ⟨ret_bool (by rw [HNN.out]), hb1⟩
    · have HE : Hid (liveB bs zs = true) := allB_end HK.out hlt
      clear h h1 HK
      go_wp2
      go_ret
      exact ⟨ret_bool (by rw [HE.out]), hb1⟩

theorem symsLet {P : List (List (List Int))} (hok : gramOkB P = true) {k : Nat} (hk : k < P.length) {i : Nat} (hi : i < P[k].length) : ∀ z ∈ P[k][i], (0 ≤ z ∧ z ≤ 25) ∨ (100 ≤ z ∧ z < 100 + P.length) := by
  intro z h3
  simp only [gramOkB, Bool.and_eq_true, List.all_eq_true, partOk, rowOk, decide_eq_true_eq] at hok
  exact symOk_true.1 (((hok.2 _ (List.getElem_mem hk)).2 _ (List.getElem_mem hi)).2 z h3)
/-- The flags that are found are those of the set that is grown, where the tests are one. -/
theorem leastParts_is {pB : List Bool → List Int → Bool} {pE : List Int → List Int → Bool} {P : List (List (List Int))} (F : Fits P)
    (hs : ∀ k (hk : k < P.length) i (hi : i < P[k].length) T E, (∀ n : Nat, T.getD n false = true → (n : Int) ∈ E) → pB T P[k][i] = true → pE P[k][i] E = true)
    (hc : ∀ k (hk : k < P.length) i (hi : i < P[k].length) T E, (∀ n : Nat, (n : Int) ∈ E → T.getD n false = true) → pE P[k][i] E = true → pB T P[k][i] = true)
    {T : List Bool} (hl : T.length = 27) (hG : Grows (emS pB) P (List.replicate 27 false) T) (hx : leK (emS pB) P T P.length = T) : T = flagsOf (growT pE P (P.length + 1)) := by
  have sound : ∀ n : Nat, T.getD n false = true → (n : Int) ∈ growT pE P (P.length + 1) := by
    refine hG (fun T => ∀ n : Nat, T.getD n false = true → (n : Int) ∈ growT pE P (P.length + 1)) (fun n hn => ?_) (fun k hk i hi T hT n hn => ?_)
    · rw [rep_getD] at hn; cases hn
    · simp only [emS, bstep] at hn
      rw [getD_setB] at hn
      split at hn
      · rename_i e
        rw [Bool.or_eq_true] at hn
        rcases hn with hn | hn
        · rw [e.1]; exact hT k hn
        · rw [e.1]; exact growT_closed hk hi (hs k hk i hi T _ hT hn)
      · exact hT n hn
  have fix : ∀ k (hk : k < P.length) i (hi : i < P[k].length), pB T P[k][i] = true → T.getD k false = true := by
    intro k hk i hi ha
    have e := (emS_raises pB P).fix hl hx hk hi
    have h20 := F.parts
    have := bstep_fix (s := (k, fun b => pB b P[k][i])) e (by show k < T.length; omega) ha
    simp only [List.getD, List.getElem?_eq_getElem (show k < T.length by omega), Option.getD_some]
    exact this
  have compl : ∀ x ∈ growT pE P (P.length + 1), ∃ n : Nat, x = n ∧ T.getD n false = true := by
    refine growT_sound (p := pE) (S := fun x => ∃ n : Nat, x = n ∧ T.getD n false = true) (fun k hk i hi E hE ha => ⟨k, rfl, fix k hk i hi ?_⟩) _
    refine hc k hk i hi T E (fun n hn => ?_) ha
    obtain ⟨m, hm, h⟩ := hE _ hn
    rwa [show n = m by omega]
  apply list_ext_getD (by rw [hl, flagsOf_length])
  intro n hn
  rw [flagsOf_get _ (by omega), Bool.eq_iff_iff]
  constructor
  · intro h; exact hasL_yes (sound n h)
  · intro h
    obtain ⟨m, hm, h2⟩ := compl n (by simpa [hasL] using h)
    rwa [show n = m by omega]
theorem liveB_all {bs : List Bool} {row : List Int} : liveB bs row = true ↔ ∀ x ∈ row, inB x 0 25 = true ∨ bs.getD (x - 100).toNat false = true := by
  unfold liveB
  rw [List.all_eq_true]
  exact ⟨fun h x hx => by have := h x hx; rwa [Bool.or_eq_true] at this, fun h x hx => by have := h x hx; rwa [Bool.or_eq_true]⟩
theorem aliveE_all {E row : List Int} : aliveE row E = true ↔ ∀ x ∈ row, ¬ 100 ≤ x ∨ x - 100 ∈ E := by
  unfold aliveE
  rw [List.all_eq_true]
  exact ⟨fun h x hx => by have := h x hx; simpa [hasL] using this, fun h x hx => by have := h x hx; simpa [hasL] using this⟩
theorem productiveOf_is {P : List (List (List Int))} (hok : gramOkB P = true) {T : List Bool} (hl : T.length = 27) (hG : Grows (emS liveB) P (List.replicate 27 false) T) (hx : leK (emS liveB) P T P.length = T) : T = flagsOf (aliveL P) := by
  refine leastParts_is (Fits.of hok) (pE := aliveE) (fun k hk i hi T E hT h => ?_) (fun k hk i hi T E hE h => ?_) hl hG hx
  · rw [liveB_all] at h
    rw [aliveE_all]
    intro x hx
    have hz := symsLet hok hk hi x hx
    rcases h x hx with h1 | h1
    · left; have := inB_true.1 h1; omega
    · by_cases g : 100 ≤ x
      · right; have := hT _ h1; rwa [show (((x - 100).toNat : Nat) : Int) = x - 100 by omega] at this
      · exact .inl g
  · rw [aliveE_all] at h
    rw [liveB_all]
    intro x hx
    have hz := symsLet hok hk hi x hx
    rcases h x hx with h1 | h1
    · left; exact inB_true.2 (by omega)
    · by_cases g : 100 ≤ x
      · right; exact hE _ (by rwa [show (((x - 100).toNat : Nat) : Int) = x - 100 by omega])
      · left; exact inB_true.2 (by omega)

set_option maxHeartbeats 4000000 in
set_option maxRecDepth 100000 in
theorem productiveOf_any (P : List (List (List Int))) (a0 : Option Addr) (c0 : Nat) (w : World) (h0 : RD w (.slice a0 P.length c0) (slD (Lay.list (Lay.list Lay.int)) P)) (hok : gramOkB P = true) :
    Calls Tryz.prog 92 #[.agg #[.slice a0 P.length c0]] w fun e w' => e = .returned (aggB (flagsOf (aliveL P))) ∧ Below w.heap.size w w' := by
  have HX : Hid (∀ W : World, Below w.heap.size w W → Calls Tryz.prog 105 #[.agg #[.slice a0 P.length c0], .func (.func 106) #[] #[]] W fun e w' => e = .returned (aggB (flagsOf (aliveL P))) ∧ Below W.heap.size W w') := by
    intro W hW
    have F := Fits.of hok
    have := leastParts_P liveB P a0 c0 W (h0.later hW) hok (fun W2 T k hk i hi a c hb hT hr => by
      have hm := List.getElem_mem hk
      have hm2 := List.getElem_mem hi
      have h8 := F.rows _ hm _ hm2
      have hp := F.parts
      exact becomesLetters_any _ a c T W2 (hr.later hb).reads (by omega) (fun z hz => by have := symsLet hok hk hi z hz; omega) hT)
    refine this.mono ?_
    rintro e w' ⟨T, rfl, h1, h2, h3, h4⟩
    exact ⟨by rw [productiveOf_is hok h1 h2 h3], h4⟩
  have B0 := (Below.refl w.heap.size w).alloc (Nat.le_refl _) (.cells #[.slice a0 P.length c0] 29)
  have hsb : (w.alloc (.cells #[.slice a0 P.length c0] 29)).heap.size = w.heap.size + 1 := by simp
  have HQ0 : Hid ((w.alloc (.cells #[.slice a0 P.length c0] 29)).cell? ⟨w.heap.size, 0, none⟩ = some (.slice a0 P.length c0)) := by show _ = _; simp
  have hTl := flagsOf_length (aliveL P)
  clear h0 hok
  generalize flagsOf (aliveL P) = T at *
  go_enter Tryz.func92, Tryz.ntmps92
  go_wp2_with (first | (refine wpList_allocB (w := w.alloc _) rfl 119 rfl 27 bt_flags ?_; rw [hsb]; intro w1 hB1 hb1 hs1; have q1 := (hb1.cell (p := ⟨w.heap.size, 0, none⟩) (by simp)).trans HQ0.out) | (go_at_call 105; refine (HX.out _ (B0.trans (hb1.mono (by omega)))).mono ?_; rintro e w2 ⟨rfl, hb2⟩; have hB2 := hB1.later hb2) | (refine wpList_storeB (w := w2) rfl 119 _ _ rfl (w.heap.size + 1) 0 119 _ T rfl rfl (at27 hTl) hB2 (by simp [hTl]) ?_; intro w3 hB3 hg3))
  have e5 : putB (List.replicate 27 false) 0 T = T := putB_whole (by simp [hTl])
  rw [e5] at hB3
  have b1 : Below w.heap.size w w1 := B0.trans (hb1.mono (by omega))
  have b2 : Below w.heap.size w w2 := b1.trans (hb2.mono b1.size)
  have b3 : Below w.heap.size w w3 := b2.grown hg3 b2.size (fun j hj => by cases hj; omega)
  exact bodyPost_ret (v := aggB T) (ret_cell 119 rfl rfl hB3 (at27 hTl)) rfl ⟨rfl, b3⟩
end Go.Proofs.YthnppodnjokaoaaGreatDoor
namespace Go.Proofs.YthnppodnjokaoaaGreatDoor
open Go.RowKit

/-- The parts that stand in a grammar are its own. -/
def SymsIn (P : List (List (List Int))) : Prop := ∀ alts ∈ P, ∀ row ∈ alts, ∀ z ∈ row, 100 ≤ z → z - 100 < P.length
theorem SymsIn.of {P : List (List (List Int))} (hok : gramOkB P = true) : SymsIn P := by
  intro alts h1 row h2 z h3 h4
  simp only [gramOkB, Bool.and_eq_true, List.all_eq_true, partOk, rowOk, decide_eq_true_eq] at hok
  have := symOk_true.1 (((hok.2 alts h1).2 row h2).2 z h3)
  omega
theorem all_steps {f : Nat → List Int} (h : ∀ i, f (i + 1) = f i ∨ (f i).length < (f (i + 1)).length) (i : Nat) : f i = f 0 ∨ (f 0).length < (f i).length := by
  induction i with
  | zero => exact .inl rfl
  | succ i ih =>
    rcases h i with h1 | h1
    · rw [h1]; exact ih
    · rcases ih with ih | ih
      · rw [ih] at h1; exact .inr h1
      · exact .inr (by omega)
theorem reachJ_step (R E : List Int) (j : Nat) : reachJ R E (j + 1) = reachJ R E j ∨ (reachJ R E j).length < (reachJ R E (j + 1)).length := by
  rw [reachJ]
  split
  · exact addL_same_or _ _
  · exact .inl rfl
theorem reachI_step (Q : List (List Int)) (E : List Int) (i : Nat) : reachI Q E (i + 1) = reachI Q E i ∨ (reachI Q E i).length < (reachI Q E (i + 1)).length := by
  rw [reachI]; exact all_steps (f := reachJ _ (reachI Q E i)) (reachJ_step _ _) _
theorem reachK_step (P : List (List (List Int))) (E : List Int) (k : Nat) : reachK P E (k + 1) = reachK P E k ∨ (reachK P E k).length < (reachK P E (k + 1)).length := by
  rw [reachK]
  split
  · exact all_steps (f := reachI _ (reachK P E k)) (reachI_step _ _) _
  · exact .inl rfl
theorem reachT_step (P : List (List (List Int))) (t : Nat) : reachT P (t + 1) = reachT P t ∨ (reachT P t).length < (reachT P (t + 1)).length := by
  rw [reachT]; exact all_steps (f := reachK P (reachT P t)) (reachK_step _ _) _
section
variable {P : List (List (List Int))} {S : List Int → Prop}
/-- What holds of the beginning and is kept where a part that may be reached is put in, holds at the end. -/
theorem reachT_keeps (h0 : S [0]) (hS : ∀ k (hk : k < P.length) i (hi : i < P[k].length) j (hj : j < P[k][i].length) (E : List Int), S E → (k : Int) ∈ E → 100 ≤ P[k][i][j] → S (addL E (P[k][i][j] - 100))) (t : Nat) : S (reachT P t) := by
  have sJ : ∀ k (hk : k < P.length) i (hi : i < P[k].length) E, S E → (k : Int) ∈ E → ∀ j, j ≤ P[k][i].length → S (reachJ P[k][i] E j) ∧ (k : Int) ∈ reachJ P[k][i] E j := by
    intro k hk i hi E hE hm j
    induction j with
    | zero => exact fun _ => ⟨hE, hm⟩
    | succ j ih =>
      intro hj
      obtain ⟨h1, h2⟩ := ih (by omega)
      by_cases g : 100 ≤ P[k][i][j]
      · rw [reachJ_yes (by omega) g]
        exact ⟨hS k hk i hi j (by omega) _ h1 h2 g, mem_addL.2 (.inr h2)⟩
      · rw [reachJ_no (by omega) g]; exact ⟨h1, h2⟩
  have sI : ∀ k (hk : k < P.length) E, S E → (k : Int) ∈ E → ∀ i, i ≤ P[k].length → S (reachI P[k] E i) ∧ (k : Int) ∈ reachI P[k] E i := by
    intro k hk E hE hm i
    induction i with
    | zero => exact fun _ => ⟨hE, hm⟩
    | succ i ih =>
      intro hi
      obtain ⟨h1, h2⟩ := ih (by omega)
      rw [reachI_next (by omega)]
      exact sJ k hk i (by omega) _ h1 h2 _ (Nat.le_refl _)
  have sK : ∀ E, S E → ∀ k, k ≤ P.length → S (reachK P E k) := by
    intro E hE k
    induction k with
    | zero => exact fun _ => hE
    | succ k ih =>
      intro hk
      have h1 := ih (by omega)
      cases g : hasL (reachK P E k) k
      · rw [reachK_no g]; exact h1
      · rw [reachK_yes (by omega) g]
        exact (sI k (by omega) _ h1 (by simpa [hasL] using g) _ (Nat.le_refl _)).1
  induction t with
  | zero => exact h0
  | succ t ih => rw [reachT]; exact sK _ ih _ (Nat.le_refl _)
end
theorem reachT_setB {P : List (List (List Int))} (h : SymsIn P) (hp : 0 < P.length) (t : Nat) : SetB (P.length : Int) (reachT P t) := by
  refine reachT_keeps (S := SetB (P.length : Int)) ⟨by simp, fun x hx => by simp at hx; subst hx; omega⟩ (fun k hk i hi j hj E hE _ g => hE.add (by omega) ?_) t
  exact h _ (List.getElem_mem hk) _ (List.getElem_mem hi) _ (List.getElem_mem hj) g
theorem reachT_sorted (P : List (List (List Int))) (t : Nat) : (reachT P t).Pairwise (· < ·) :=
  reachT_keeps (S := List.Pairwise (· < ·)) (by simp) (fun _ _ _ _ _ _ _ hE _ _ => pair_addL hE) t
theorem reachT_sound {P : List (List (List Int))} {S : Int → Prop} (h0 : S 0) (hS : ∀ k (hk : k < P.length) i (hi : i < P[k].length) j (hj : j < P[k][i].length), S k → 100 ≤ P[k][i][j] → S (P[k][i][j] - 100)) (t : Nat) : ∀ x ∈ reachT P t, S x :=
  reachT_keeps (S := fun E => ∀ x ∈ E, S x) (fun x hx => by simp at hx; subst hx; exact h0) (fun k hk i hi j hj E hE hm g x hx => by
    rcases mem_addL.1 hx with rfl | hx
    · exact hS k hk i hi j hj (hE _ hm) g
    · exact hE x hx) t
theorem reachT_zero (P : List (List (List Int))) (t : Nat) : (0 : Int) ∈ reachT P t :=
  reachT_keeps (S := fun E => (0 : Int) ∈ E) (by simp) (fun _ _ _ _ _ _ _ hE _ _ => mem_addL.2 (.inr hE)) t
theorem reachT_closed {P : List (List (List Int))} (h : SymsIn P) (hp : 0 < P.length) {k i j : Nat} (hk : k < P.length) (hi : i < P[k].length) (hj : j < P[k][i].length) (hm : (k : Int) ∈ reachT P (P.length + 1)) (g : 100 ≤ P[k][i][j]) : P[k][i][j] - 100 ∈ reachT P (P.length + 1) := by
  have fx : reachK P (reachT P (P.length + 1)) P.length = reachT P (P.length + 1) :=
    turns_fix (F := fun E => reachK P E P.length) (f := reachT P) (m := List.length) (fun t => rfl) (reachT_step P) (fun t => (reachT_setB h hp t).len)
  generalize reachT P (P.length + 1) = E at *
  have hK := steps_fix (f := reachK P E) (m := List.length) (reachK_step P E) fx
  have e1 : reachI P[k] E P[k].length = E := by
    have := reachK_yes (E := E) hk (by rw [hK k (by omega)]; exact hasL_yes hm)
    rw [hK (k + 1) (by omega), hK k (by omega)] at this
    exact this.symm
  have hI := steps_fix (f := reachI P[k] E) (m := List.length) (reachI_step P[k] E) e1
  have e2 : reachJ P[k][i] E P[k][i].length = E := by
    have := reachI_next (E := E) hi
    rw [hI (i + 1) (by omega), hI i (by omega)] at this
    exact this.symm
  have hJ := steps_fix (f := reachJ P[k][i] E) (m := List.length) (reachJ_step P[k][i] E) e2
  have e3 := hJ (j + 1) (by omega)
  have e4 : reachJ P[k][i] E j = E := hJ j (by omega)
  rw [reachJ_yes hj g, e4] at e3
  exact addL_fix e3
end Go.Proofs.YthnppodnjokaoaaGreatDoor
namespace Go.Proofs.YthnppodnjokaoaaGreatDoor
open Go.RowKit

/-- Part m stands in an alternative of part n. -/
def Edge (P : List (List (List Int))) (n m : Nat) : Prop := ∃ (hn : n < P.length) (i : Nat) (hi : i < P[n].length) (j : Nat) (hj : j < P[n][i].length), P[n][i][j] = 100 + (m : Int)
def leB (T T' : List Bool) : Prop := T'.length = T.length ∧ ∀ n, T.getD n false = true → T'.getD n false = true
theorem leB.refl (T : List Bool) : leB T T := ⟨rfl, fun _ h => h⟩
theorem leB.trans {A B C : List Bool} (h : leB A B) (g : leB B C) : leB A C := ⟨g.1.trans h.1, fun n hn => g.2 n (h.2 n hn)⟩
theorem leB.cnt : ∀ {T T' : List Bool}, leB T T' → cntB T ≤ cntB T'
  | [], [], _ => Nat.le_refl _
  | [], _ :: _, h => by have := h.1; simp at this
  | _ :: _, [], h => by have := h.1; simp at this
  | x :: xs, y :: ys, h => by
    have h1 : leB xs ys := ⟨by have := h.1; simpa using this, fun n hn => by have := h.2 (n + 1) (by simpa [List.getD] using hn); simpa [List.getD] using this⟩
    have h2 := h1.cnt
    have h3 := h.2 0
    simp only [cntB]
    cases x <;> cases y <;> simp_all <;> omega
/-- What the search from part k makes of the flags. -/
structure RPost (P : List (List (List Int))) (k : Nat) (T T' : List Bool) : Prop where
  up : leB T T'
  there : T'.getD k false = true
  closed : ∀ n, T'.getD n false = true → T.getD n false = false → ∀ m, Edge P n m → T'.getD m false = true
  sound : ∀ S : Nat → Prop, (∀ n m, S n → Edge P n m → S m) → S k → ∀ n, T'.getD n false = true → T.getD n false = true ∨ S n
/-- ..within the rows of part k, behind the first i and the first j symbols of the next one. -/
structure RJ (P : List (List (List Int))) (k : Nat) (T : List Bool) (i j : Nat) (T' : List Bool) : Prop where
  up : leB T T'
  closed : ∀ n, T'.getD n false = true → T.getD n false = false → ∀ m, Edge P n m → T'.getD m false = true
  sound : ∀ S : Nat → Prop, (∀ n m, S n → Edge P n m → S m) → S k → ∀ n, T'.getD n false = true → T.getD n false = true ∨ S n
  rows : ∀ (hk : k < P.length) i' (hi : i' < P[k].length) j' (hj : j' < P[k][i'].length), (i' < i ∨ (i' = i ∧ j' < j)) → ∀ m : Nat, P[k][i'][j'] = 100 + (m : Int) → T'.getD m false = true
theorem RPost.skip {P : List (List (List Int))} {k : Nat} {T : List Bool} (h : T.getD k false = true) : RPost P k T T :=
  ⟨leB.refl _, h, fun n h1 h2 => (by rw [h1] at h2; cases h2), fun _ _ _ n hn => .inl hn⟩
theorem RJ.start {P : List (List (List Int))} {k : Nat} {T : List Bool} : RJ P k T 0 0 T :=
  ⟨leB.refl _, fun n h1 h2 => (by rw [h1] at h2; cases h2), fun _ _ _ n hn => .inl hn, fun _ _ _ _ _ h => by omega⟩
theorem RJ.letter {P : List (List (List Int))} {k : Nat} {T T' : List Bool} {i j : Nat} (h : RJ P k T i j T') (hk : k < P.length) (hi : i < P[k].length) (hj : j < P[k][i].length) (g : P[k][i][j] ≤ 25) : RJ P k T i (j + 1) T' :=
  ⟨h.up, h.closed, h.sound, fun hk' i' hi' j' hj' ho m hm => by
    by_cases e : i' = i ∧ j' = j
    · obtain ⟨e1, e2⟩ := e; subst e1; subst e2; omega
    · exact h.rows hk' i' hi' j' hj' (by omega) m hm⟩
theorem RJ.call {P : List (List (List Int))} {k : Nat} {T T' T2 : List Bool} {i j m : Nat} (h : RJ P k T i j T') (hk : k < P.length) (hi : i < P[k].length) (hj : j < P[k][i].length) (g : P[k][i][j] = 100 + (m : Int)) (hp : RPost P m T' T2) : RJ P k T i (j + 1) T2 :=
  ⟨h.up.trans hp.up, fun n h1 h2 q hq => by
    by_cases e : T'.getD n false = true
    · exact hp.up.2 _ (h.closed n e h2 q hq)
    · exact hp.closed n h1 (by simpa using e) q hq, fun S hS hSk n hn => by
    have hm : S m := hS k m hSk ⟨hk, i, hi, j, hj, g⟩
    rcases hp.sound S hS hm n hn with h1 | h1
    · exact h.sound S hS hSk n h1
    · exact .inr h1, fun hk' i' hi' j' hj' ho q hq => by
    by_cases e : i' = i ∧ j' = j
    · obtain ⟨e1, e2⟩ := e; subst e1; subst e2
      have : q = m := by omega
      subst this; exact hp.there
    · exact hp.up.2 _ (h.rows hk' i' hi' j' hj' (by omega) q hq)⟩
theorem RJ.row {P : List (List (List Int))} {k : Nat} {T T' : List Bool} {i : Nat} {R : List Int} (h : RJ P k T i R.length T') (hk : k < P.length) (hi : i < P[k].length) (hR : P[k][i] = R) : RJ P k T (i + 1) 0 T' :=
  ⟨h.up, h.closed, h.sound, fun hk' i' hi' j' hj' ho m hm => by
    refine h.rows hk' i' hi' j' hj' ?_ m hm
    by_cases e : i' = i
    · subst e; rw [← hR]; exact .inr ⟨rfl, hj'⟩
    · exact .inl (by omega)⟩
theorem set_up {T : List Bool} {k : Nat} (hk : k < T.length) (n : Nat) : (T.set k true).getD n false = true ↔ n = k ∨ T.getD n false = true := by
  rw [getD_setB]
  by_cases e : n = k
  · simp [e, hk]
  · simp [e]
theorem RJ.done {P : List (List (List Int))} {k : Nat} {T T' : List Bool} (hk : k < P.length) (hl : k < T.length) (h : RJ P k (T.set k true) P[k].length 0 T') : RPost P k T T' := by
  have hkk : T'.getD k false = true := h.up.2 k ((set_up hl k).2 (.inl rfl))
  refine ⟨⟨by have := h.up.1; simpa using this, fun n hn => h.up.2 n ((set_up hl n).2 (.inr hn))⟩, hkk, fun n h1 h2 m hm => ?_, fun S hS hSk n hn => ?_⟩
  · by_cases e : n = k
    · subst e
      obtain ⟨hn, i, hi, j, hj, g⟩ := hm
      exact h.rows hn i hi j hj (.inl hi) m g
    · refine h.closed n h1 ?_ m hm
      rw [Bool.eq_false_iff]; intro h3
      rcases (set_up hl n).1 h3 with h3 | h3
      · exact e h3
      · rw [h2] at h3; cases h3
  · rcases h.sound S hS hSk n hn with h1 | h1
    · rcases (set_up hl n).1 h1 with h3 | h3
      · subst h3; exact .inr hSk
      · exact .inl h3
    · exact .inr h1
theorem RJ.cnt {P : List (List (List Int))} {k : Nat} {T T' : List Bool} {i j d : Nat} (hl : k < T.length) (hT : T.getD k false = false) (hd : 27 ≤ cntB T + (d + 1)) (h : RJ P k (T.set k true) i j T') : 27 ≤ cntB T' + d := by
  have e : T[k] = false := by simpa [List.getD, hl] using hT
  have h1 := cntB_set hl e
  have h2 := h.up.cnt
  omega
theorem RJ.len {P : List (List (List Int))} {k : Nat} {T T' : List Bool} {i j : Nat} (h : RJ P k (T.set k true) i j T') : T'.length = T.length := by
  have := h.up.1; simpa using this
theorem all_up : ∀ {T : List Bool}, T.length ≤ cntB T → ∀ {k : Nat}, k < T.length → T.getD k false = true
  | [], _, _, hk => by simp at hk
  | x :: xs, h, k, hk => by
    have h1 := cntB_le xs
    simp only [cntB, List.length_cons] at h
    cases x
    · simp at h; omega
    · cases k with
      | zero => rfl
      | succ k =>
        have := all_up (T := xs) (by simp at h; omega) (k := k) (by simpa using hk)
        simpa [List.getD] using this
theorem reachL_mem {P : List (List (List Int))} (hok : gramOkB P = true) {x : Int} (h : x ∈ reachL P) : 0 ≤ x ∧ x < 20 := by
  have F := Fits.of hok
  have hp := F.parts
  have h0 : 0 < P.length := by
    simp only [gramOkB, Bool.and_eq_true] at hok
    have := inB_true.1 hok.1
    omega
  have := (reachT_setB (SymsIn.of hok) h0 (P.length + 1)).lt x h
  omega
theorem reachOf_is {P : List (List (List Int))} (hok : gramOkB P = true) {T : List Bool} (hl : T.length = 27) (h : RPost P 0 (List.replicate 27 false) T) : T = flagsOf (reachL P) := by
  have F := Fits.of hok
  have h0 : 0 < P.length := by
    simp only [gramOkB, Bool.and_eq_true] at hok
    have := inB_true.1 hok.1
    omega
  have sound : ∀ n : Nat, T.getD n false = true → (n : Int) ∈ reachL P := by
    intro n hn
    have := h.sound (fun n => (n : Int) ∈ reachL P) (fun n m h1 h2 => by
      obtain ⟨hk, i, hi, j, hj, g⟩ := h2
      have := reachT_closed (SymsIn.of hok) h0 hk hi hj h1 (by omega)
      rwa [g, show 100 + (m : Int) - 100 = m by omega] at this) (reachT_zero P _) n hn
    rcases this with h1 | h1
    · rw [rep_getD] at h1; cases h1
    · exact h1
  have compl : ∀ x ∈ reachL P, ∃ n : Nat, x = n ∧ T.getD n false = true := by
    refine reachT_sound (S := fun x => ∃ n : Nat, x = n ∧ T.getD n false = true) ⟨0, rfl, h.there⟩ (fun k hk i hi j hj hS g => ?_) _
    obtain ⟨n, hn, hT⟩ := hS
    have e : n = k := by omega
    subst e
    refine ⟨(P[n][i][j] - 100).toNat, by omega, h.closed n hT (rep_getD _ _) _ ⟨hk, i, hi, j, hj, by omega⟩⟩
  apply list_ext_getD (by rw [hl, flagsOf_length])
  intro n hn
  rw [flagsOf_get _ (by omega), Bool.eq_iff_iff]
  constructor
  · intro h; exact hasL_yes (sound n h)
  · intro h
    obtain ⟨m, hm, h2⟩ := compl n (by simpa [hasL] using h)
    rwa [show n = m by omega]
end Go.Proofs.YthnppodnjokaoaaGreatDoor
namespace Go.Proofs.YthnppodnjokaoaaGreatDoor
open Go.RowKit

/-- The first k flags of cs are put to those of bs from off on. -/
def joinTo (bs : List Bool) (off : Nat) (cs : List Bool) : Nat → List Bool
  | 0 => bs
  | k + 1 => (joinTo bs off cs k).set (off + k) ((joinTo bs off cs k).getD (off + k) false || cs.getD k false)
def joinB (bs : List Bool) (off : Nat) (cs : List Bool) : List Bool := joinTo bs off cs 27
theorem joinTo_length (bs : List Bool) (off : Nat) (cs : List Bool) (k : Nat) : (joinTo bs off cs k).length = bs.length := by
  induction k with
  | zero => rfl
  | succ k ih => rw [joinTo, List.length_set]; exact ih
theorem joinB_length (bs : List Bool) (off : Nat) (cs : List Bool) : (joinB bs off cs).length = bs.length := joinTo_length _ _ _ _
theorem joinTo_get (bs : List Bool) (off : Nat) (cs : List Bool) (k : Nat) (h : off + k ≤ bs.length) (i : Nat) : (joinTo bs off cs k).getD i false = (bs.getD i false || (decide (off ≤ i ∧ i < off + k) && cs.getD (i - off) false)) := by
  induction k with
  | zero => simp [joinTo]; omega
  | succ k ih =>
    have ih := ih (by omega)
    rw [joinTo]
    by_cases e : i = off + k
    · subst e
      have hl : off + k < (joinTo bs off cs k).length := by rw [joinTo_length]; omega
      have e1 : ((joinTo bs off cs k).set (off + k) ((joinTo bs off cs k).getD (off + k) false || cs.getD k false)).getD (off + k) false = ((joinTo bs off cs k).getD (off + k) false || cs.getD k false) := by
        generalize ((joinTo bs off cs k).getD (off + k) false || cs.getD k false) = v
        simp [List.getD, hl]
      rw [e1, ih, show off + k - off = k by omega]
      simp
    · have e1 : ∀ v, ((joinTo bs off cs k).set (off + k) v).getD i false = (joinTo bs off cs k).getD i false := by
        intro v
        simp [List.getD, Ne.symm e]
      rw [e1, ih]
      congr 2
      rw [Bool.eq_iff_iff]; simp; omega
theorem joinB_get {bs : List Bool} {off : Nat} {cs : List Bool} (h : off + 27 ≤ bs.length) (i : Nat) : (joinB bs off cs).getD i false = (bs.getD i false || (decide (off ≤ i ∧ i < off + 27) && cs.getD (i - off) false)) := joinTo_get bs off cs 27 h i

set_option maxHeartbeats 2000000 in
set_option maxRecDepth 100000 in
theorem join_any (b off : Nat) (t : TypeId) (bs cs : List Bool) (w : World) (hB : Bits w b t bs) (hl : off + 27 ≤ bs.length) (hc : cs.length = 27) :
    Calls Tryz.prog 112 #[.pointer (some ⟨b, off, none⟩), aggB cs] w fun e w' => e = .returned (.tuple #[]) ∧ Bits w' b t (joinB bs off cs) ∧ w.grownBy w' (some b) := by
  go_enter Tryz.func112, Tryz.ntmps112
  go_wp2_with (first | (refine wpList_boxB rfl 119 _ rfl cs rfl ?_; intro w1 hB1 hb1 hs1) | (refine wpList_loadW rfl 119 _ rfl w.heap.size 119 cs rfl (by rw [hc]; exact bt_flags) hB1 ?_))
  have HB0 : Hid (Bits w1 b t (joinTo bs off cs 0)) := hB.later hb1
  have HG0 : Hid (w.grownBy w1 (some b)) := grownBy_of_below hb1 _
  have HL : Hid (off + 27 ≤ bs.length) := hl
  clear hB hB1 hb1 hs1 hl
  go_loopw [7] (fun s7 wr => ∃ k : Nat, k ≤ 27 ∧ s7 = .int .i64 k ∧ Bits wr b t (joinTo bs off cs k) ∧ w.grownBy wr (some b)) (fun s7 _ => 27 - (intOf s7).toNat)
  case atStart => exact ⟨0, Nat.zero_le _, rfl, HB0.out, HG0.out⟩
  case round =>
    obtain ⟨k, hk, rfl, hBk, hgk⟩ := hrel
    clear HB0 HG0
    by_cases hlt : k < 27
    · have q0 := hBk.cell (n := off + k) (by rw [joinTo_length]; have := HL.out; omega)
      have f0 := hBk.frozen (off + k)
      have hk0 : (0 : Int) ≤ (k : Int) := by omega
      have hk1 : (k : Int) < 27 := by omega
      have HN : Hid (joinTo bs off cs (k + 1) = (joinTo bs off cs k).set (off + k) ((joinTo bs off cs k).getD (off + k) false || cs.getD k false)) := rfl
      have HC : Hid (cs.length = 27) := hc
      have HB : Hid (Bits wr b t (joinTo bs off cs k)) := hBk
      generalize joinTo bs off cs k = Tk at *
      generalize Tk.getD (off + k) false = x at *
      clear hc hBk
      obtain ⟨y, Hy⟩ : ∃ y, Hid (cs.getD k false = y) := ⟨_, rfl⟩
      rw [Hy.out] at HN
      go_wp2_with (refine wpList_indexB rfl 119 4 _ _ rfl cs k rfl rfl (by rw [HC.out]; exact u_flags) u_bool bool_size (by rw [HC.out]; exact hlt) ?_; rw [Hy.out])
      have key : ∀ (v : Bool) (W : World), (x || y) = v → Below wr.heap.size (wr.setCell ⟨b, off + k, none⟩ (.bool v)) W → Bits W b t (joinTo bs off cs (k + 1)) ∧ w.grownBy W (some b) := by
        intro v W hv hW
        rw [HN.out, hv]
        have hlt2 := HB.out.lt
        exact ⟨(HB.out.set (off + k) v).below hW hlt2, grownBy_trans (grownBy_trans hgk (setCell_grown wr b (off + k) _)) (grownBy_of_below (by simpa using hW) _)⟩
      have HK : Hid (∀ (v : Bool) (W : World), (x || y) = v → Below wr.heap.size (wr.setCell ⟨b, off + k, none⟩ (.bool v)) W → Bits W b t (joinTo bs off cs (k + 1)) ∧ w.grownBy W (some b)) := key
      clear key HN Hy HB
      cases x
      · have HK1 : Hid (∀ W : World, Below wr.heap.size (wr.setCell ⟨b, off + k, none⟩ (.bool y)) W → Bits W b t (joinTo bs off cs (k + 1)) ∧ w.grownBy W (some b)) := fun W hW => HK.out y W (by simp) hW
        clear HK
        go_region
        all_goals
          go_wp2
          go_roundw
          case rel => exact ⟨k + 1, by omega, by go_num, (HK1.out _ (by first | exact Below.refl _ _ | exact Below.drew (Below.refl _ _))).1, (HK1.out _ (by first | exact Below.refl _ _ | exact Below.drew (Below.refl _ _))).2⟩
          case measure => simp [intOf]; omega
      · have HK1 : Hid (∀ W : World, Below wr.heap.size (wr.setCell ⟨b, off + k, none⟩ (.bool true)) W → Bits W b t (joinTo bs off cs (k + 1)) ∧ w.grownBy W (some b)) := fun W hW => HK.out true W (by simp) hW
        clear HK
        go_region
        all_goals
          go_wp2
          go_roundw
          case rel => exact ⟨k + 1, by omega, by go_num, (HK1.out _ (by first | exact Below.refl _ _ | exact Below.drew (Below.refl _ _))).1, (HK1.out _ (by first | exact Below.refl _ _ | exact Below.drew (Below.refl _ _))).2⟩
          case measure => simp [intOf]; omega
    · have e : k = 27 := by omega
      subst e
      go_wp2
      go_end0
      exact ⟨rfl, hBk, hgk⟩
end Go.Proofs.YthnppodnjokaoaaGreatDoor
namespace Go.Proofs.YthnppodnjokaoaaGreatDoor
open Go.RowKit

theorem symsR {P : List (List (List Int))} (hok : gramOkB P = true) {k : Nat} (hk : k < P.length) {i : Nat} (hi : i < P[k].length) : ∀ z ∈ P[k][i], (0 ≤ z ∧ z ≤ 25) ∨ (100 ≤ z ∧ z < 100 + P.length) := by
  intro z h3
  simp only [gramOkB, Bool.and_eq_true, List.all_eq_true, partOk, rowOk, decide_eq_true_eq] at hok
  exact symOk_true.1 (((hok.2 _ (List.getElem_mem hk)).2 _ (List.getElem_mem hi)).2 z h3)
theorem grown_below {w0 w w' : World} {b : Nat} (h : Below w0.heap.size w0 w) (hb : w0.heap.size ≤ b) (hg : w.grownBy w' (some b)) : Below w0.heap.size w0 w' := h.grown hg h.size (fun j hj => by cases hj; exact hb)
theorem grown_cell {w w' : World} {b n o : Nat} (hg : w.grownBy w' (some b)) (hn : n < w.heap.size) (hne : n ≠ b) : w'.cell? ⟨n, o, none⟩ = w.cell? ⟨n, o, none⟩ := World.cell?_of_block (w := w) (w' := w') (a := ⟨n, o, none⟩) (hg.block n hn (by intro h; cases h; exact hne rfl))

set_option maxHeartbeats 4000000 in
set_option maxRecDepth 100000 in
theorem reach_go (P : List (List (List Int))) (a0 : Option Addr) (c0 : Nat) (w0 : World) (h0 : RD w0 (.slice a0 P.length c0) (slD (Lay.list (Lay.list Lay.int)) P)) (hok : gramOkB P = true) (b : Nat) (t : TypeId) (hb0 : w0.heap.size ≤ b) : ∀ (d k : Nat) (T : List Bool) (w : World), k < P.length → Bits w b t T → T.length = 27 → 27 ≤ cntB T + d → Below w0.heap.size w0 w →
    Calls Tryz.prog 107 #[.agg #[.slice a0 P.length c0], .int .i64 (k : Int), .pointer (some ⟨b, 0, none⟩)] w fun e w' => e = .returned (.tuple #[]) ∧ ∃ T', RPost P k T T' ∧ T'.length = 27 ∧ Bits w' b t T' ∧ w.grownBy w' (some b) := by
  intro d
  induction d with
  | zero =>
    intro k T w hk hB hT hd hw
    have hp := (Fits.of hok).parts
    have hup : T.getD k false = true := all_up (by omega) (by omega)
    have q2 := hB.cell (n := k) (by omega)
    rw [hup] at q2
    have HP : Hid (RPost P k T T) := RPost.skip hup
    have hlt := hB.lt
    have hk0 : (0 : Int) ≤ (k : Int) := by omega
    have hk1 : (k : Int) < 27 := by omega
    have hg := grownBy_of_below ((Below.refl w.heap.size w).alloc (Nat.le_refl _) (.cells #[.slice a0 P.length c0] 29)) (some b)
    have hB2 := hB.later ((Below.refl w.heap.size w).alloc (Nat.le_refl _) (.cells #[.slice a0 P.length c0] 29))
    clear hup h0 hok hd hB
    go_enter Tryz.func107, Tryz.ntmps107
    go_wp2
    exact bodyPost_ret (results_none rfl _ _ _) rfl ⟨rfl, T, HP.out, hT, hB2, hg⟩
  | succ d ih =>
    intro k T w hk hB hT hd hw
    have F := Fits.of hok
    have hp := F.parts
    have hlt := hB.lt
    have hk0 : (0 : Int) ≤ (k : Int) := by omega
    have hk1 : (k : Int) < 27 := by omega
    have bA := (Below.refl w.heap.size w).alloc (Nat.le_refl _) (.cells #[.slice a0 P.length c0] 29)
    have hg := grownBy_of_below bA (some b)
    have hB2 := hB.later bA
    have q2 := hB.cell (n := k) (by omega)
    have f2 := hB.frozen k
    by_cases hup : T.getD k false = true
    · rw [hup] at q2
      have HP : Hid (RPost P k T T) := RPost.skip hup
      clear hup h0 hok hd hB ih F
      go_enter Tryz.func107, Tryz.ntmps107
      go_wp2
      exact bodyPost_ret (results_none rfl _ _ _) rfl ⟨rfl, T, HP.out, hT, hB2, hg⟩
    · have hdn : T.getD k false = false := by simpa using hup
      rw [hdn] at q2
      have HIH : Hid (∀ (m : Nat) (T : List Bool) (w : World), m < P.length → Bits w b t T → T.length = 27 → 27 ≤ cntB T + d → Below w0.heap.size w0 w →
        Calls Tryz.prog 107 #[.agg #[.slice a0 P.length c0], .int .i64 (m : Int), .pointer (some ⟨b, 0, none⟩)] w fun e w' => e = .returned (.tuple #[]) ∧ ∃ T', RPost P m T T' ∧ T'.length = 27 ∧ Bits w' b t T' ∧ w.grownBy w' (some b)) := ih
      have HRJ : Hid (∀ i j T', RJ P k (T.set k true) i j T' → T'.length = 27 ∧ 27 ≤ cntB T' + d) := fun i j T' h => ⟨h.len.trans hT, RJ.cnt (by omega) hdn hd h⟩
      have HDone : Hid (∀ T', RJ P k (T.set k true) P[k].length 0 T' → RPost P k T T') := fun T' h => RJ.done hk (by omega) h
      have bS := (Below.refl (w.setCell ⟨b, k, none⟩ (.bool true)).heap.size (w.setCell ⟨b, k, none⟩ (.bool true))).alloc (Nat.le_refl _) (.cells #[.slice a0 P.length c0] 29)
      have hB3 := (hB.set k true).later bS
      have hg3 : w.grownBy ((w.setCell ⟨b, k, none⟩ (.bool true)).alloc (.cells #[.slice a0 P.length c0] 29)) (some b) := grownBy_trans (setCell_grown w b k _) (grownBy_of_below bS _)
      have hc3 : ((w.setCell ⟨b, k, none⟩ (.bool true)).alloc (.cells #[.slice a0 P.length c0] 29)).cell? ⟨w.heap.size, 0, none⟩ = some (.slice a0 P.length c0) := by
        have key : ∀ W : World, W.heap.size = w.heap.size → (W.alloc (.cells #[.slice a0 P.length c0] 29)).cell? ⟨w.heap.size, 0, none⟩ = some (.slice a0 P.length c0) := fun W h => by rw [← h]; simp
        exact key _ (World.size_setCell w _ _)
      have hs3 : w.heap.size < ((w.setCell ⟨b, k, none⟩ (.bool true)).alloc (.cells #[.slice a0 P.length c0] 29)).heap.size := by simp
      obtain ⟨b1, o1, ea0, hb1, a1, c1, q0', r1⟩ := h0.listAt hk
      have HR1 : Hid (RD w0 (.slice a1 P[k].length c1) (slD (Lay.list Lay.int) P[k])) := r1
      have hQ8 := F.alts _ (List.getElem_mem hk)
      have hw3 : Below w0.heap.size w0 ((w.setCell ⟨b, k, none⟩ (.bool true)).alloc (.cells #[.slice a0 P.length c0] 29)) := grown_below hw hb0 hg3
      have q0 := (hw.cell (p := ⟨b1, o1 + k, none⟩) hb1).trans q0'
      have hbb : b1 ≠ b := by omega
      have hb1w : b1 < w.heap.size := Nat.lt_of_lt_of_le hb1 hw.size
      have HB3 : Hid (Bits ((w.setCell ⟨b, k, none⟩ (.bool true)).alloc (.cells #[.slice a0 P.length c0] 29)) b t (T.set k true)) := hB3
      have HG3 : Hid (w.grownBy ((w.setCell ⟨b, k, none⟩ (.bool true)).alloc (.cells #[.slice a0 P.length c0] 29)) (some b)) := hg3
      have HW3 : Hid (Below w0.heap.size w0 ((w.setCell ⟨b, k, none⟩ (.bool true)).alloc (.cells #[.slice a0 P.length c0] 29))) := hw3
      have hneb : w.heap.size ≠ b := by omega
      have HQr : Hid (∀ i (hi : i < P[k].length), P[k][i].length ≤ 8 ∧ ∀ z ∈ P[k][i], (0 ≤ z ∧ z ≤ 25) ∨ (100 ≤ z ∧ z < 100 + P.length)) := fun i hi => ⟨F.rows _ (List.getElem_mem hk) _ (List.getElem_mem hi), symsR hok hk hi⟩
      have HLet : Hid (∀ i (hi : i < P[k].length) j (hj : j < P[k][i].length) T', RJ P k (T.set k true) i j T' → P[k][i][j] ≤ 25 → RJ P k (T.set k true) i (j + 1) T') := fun i hi j hj T' h g => h.letter hk hi hj g
      have HCall : Hid (∀ i (hi : i < P[k].length) j (hj : j < P[k][i].length) T' (m : Nat) T2, RJ P k (T.set k true) i j T' → P[k][i][j] = 100 + (m : Int) → RPost P m T' T2 → RJ P k (T.set k true) i (j + 1) T2) := fun i hi j hj T' m T2 h g hp => h.call hk hi hj g hp
      have HRow : Hid (∀ i (hi : i < P[k].length) T', RJ P k (T.set k true) i P[k][i].length T' → RJ P k (T.set k true) (i + 1) 0 T') := fun i hi T' h => h.row hk hi rfl
      have HRJ0 : Hid (RJ P k (T.set k true) 0 0 (T.set k true)) := RJ.start
      have HPl : Hid (P.length ≤ 20) := hp
      subst ea0
      clear bS hup hdn h0 hok hd hB ih F r1 q0' hB3 hg3 hw3 hb1 hg hB2 bA hT hw
      generalize T.set k true = T1 at *
      generalize P[k] = Q at *
      go_enter Tryz.func107, Tryz.ntmps107
      go_wp2
      generalize (w.setCell ⟨b, k, none⟩ (.bool true)).alloc (.cells #[.slice (some ⟨b1, o1, none⟩) P.length c0] 29) = w3 at *
      have HW : Hid (∀ W : World, w3.grownBy W (some b) → W.cell? ⟨w.heap.size, 0, none⟩ = some (.slice (some ⟨b1, o1, none⟩) P.length c0) ∧ Below w0.heap.size w0 W ∧ w.grownBy W (some b)) := fun W hW => ⟨(grown_cell hW hs3 hneb).trans hc3, grown_below HW3.out hb0 hW, grownBy_trans HG3.out hW⟩
      clear hc3 hs3 HG3 HW3 q0 q2 f2 hbb hb1w hneb hlt
      go_loopw [25] (fun s wr => ∃ (i : Nat) (T2 : List Bool), i ≤ Q.length ∧ s = .int .i64 i ∧ Hid (RJ P k T1 i 0 T2) ∧ Bits wr b t T2 ∧ w3.grownBy wr (some b)) (fun s _ => Q.length - (intOf s).toNat)
      case atStart => exact ⟨0, T1, Nat.zero_le _, rfl, HRJ0, HB3.out, World.grownBy.refl _ _⟩
      case round =>
        obtain ⟨i, T2, hi, rfl, HJ, hBi, hgi⟩ := hrel
        clear HRJ0 HB3
        by_cases hli : i < Q.length
        · obtain ⟨b2, o2, ea1, hb2, a2, c2, q1', r2⟩ := HR1.out.listAt hli
          have q1 := ((HW.out wr hgi).2.1.cell (p := ⟨b2, o2 + i, none⟩) hb2).trans q1'
          subst ea1
          have hR8 := (HQr.out i hli).1
          have HRs : Hid (∀ z ∈ Q[i], (0 ≤ z ∧ z ≤ 25) ∨ (100 ≤ z ∧ z < 100 + P.length)) := (HQr.out i hli).2
          have HR2 : Hid (Reads w0 a2 Q[i]) := r2.reads
          have HLet2 : Hid (∀ j (hj : j < Q[i].length) T', RJ P k T1 i j T' → Q[i][j] ≤ 25 → RJ P k T1 i (j + 1) T') := HLet.out i hli
          have HCall2 : Hid (∀ j (hj : j < Q[i].length) T' (m : Nat) T2, RJ P k T1 i j T' → Q[i][j] = 100 + (m : Int) → RPost P m T' T2 → RJ P k T1 i (j + 1) T2) := HCall.out i hli
          have HRow2 : Hid (∀ T', RJ P k T1 i Q[i].length T' → RJ P k T1 (i + 1) 0 T') := HRow.out i hli
          clear r2 q1' hb2
          generalize Q[i] = R at *
          go_wp2
          clear q1
          go_loopw [31] (fun s wr => ∃ (j : Nat) (T2 : List Bool), j ≤ R.length ∧ s = .int .i64 j ∧ Hid (RJ P k T1 i j T2) ∧ Bits wr b t T2 ∧ w3.grownBy wr (some b)) (fun s _ => R.length - (intOf s).toNat)
          case atStart => exact ⟨0, T2, Nat.zero_le _, rfl, HJ, hBi, hgi⟩
          case round =>
            clear HJ hBi hgi
            obtain ⟨j, T3, hj, rfl, HJ, hBi, hgi⟩ := hrel
            by_cases hlj : j < R.length
            · obtain ⟨g, off, rfl, hgl, hc⟩ := (HR2.out.below (HW.out wr hgi).2.1).at hlj
              have q1 := hc j hlj
              rw [List.getD_eq_getElem?_getD, List.getElem?_eq_getElem hlj, Option.getD_some] at q1
              have hzr := HRs.out _ (List.getElem_mem hlj)
              have HL3 : Hid (R[j] ≤ 25 → RJ P k T1 i (j + 1) T3) := fun h => HLet2.out j hlj T3 HJ.out h
              have HC3 : Hid (∀ (m : Nat) T4, R[j] = 100 + (m : Int) → RPost P m T3 T4 → RJ P k T1 i (j + 1) T4) := fun m T4 h1 h2 => HCall2.out j hlj T3 m T4 HJ.out h1 h2
              clear hc
              generalize R[j] = z at *
              by_cases hlet : z ≤ 25
              · have hin : inB z 0 25 = true := inB_true.2 (by omega)
                have X : Hid (∀ W : World, Calls Tryz.prog 71 #[.int .i64 z] W fun e w' => e = .returned (.bool true) ∧ w' = W) := fun W => by have := isLetter_any z W; rwa [hin] at this
                have HF : Hid (RJ P k T1 i (j + 1) T3) := HL3.out hlet
                clear hin HL3 HC3
                go_wp2_with (go_at_call 71; refine (X.out _).mono ?_; rintro e w' ⟨rfl, hw'⟩; have hw2 := hw'.symm; clear hw'; subst hw2)
                go_roundw
                case rel => exact ⟨j + 1, T3, by omega, by go_num, HF, hBi, hgi⟩
                case measure => simp [intOf]; omega
              · have hin : inB z 0 25 = false := inB_false.2 (by omega)
                have X : Hid (∀ W : World, Calls Tryz.prog 71 #[.int .i64 z] W fun e w' => e = .returned (.bool false) ∧ w' = W) := fun W => by have := isLetter_any z W; rwa [hin] at this
                obtain ⟨m, hm⟩ : ∃ m : Nat, z = 100 + (m : Int) := ⟨(z - 100).toNat, by omega⟩
                subst hm
                have HC4 : Hid (∀ T4, RPost P m T3 T4 → RJ P k T1 i (j + 1) T4) := fun T4 h => HC3.out m T4 rfl h
                have hq := (HW.out wr hgi).1
                have hml : m < P.length := by omega
                have Y : Hid (Calls Tryz.prog 107 #[.agg #[.slice (some ⟨b1, o1, none⟩) P.length c0], .int .i64 (m : Int), .pointer (some ⟨b, 0, none⟩)] wr fun e w' => e = .returned (.tuple #[]) ∧ ∃ T', RPost P m T3 T' ∧ T'.length = 27 ∧ Bits w' b t T' ∧ wr.grownBy w' (some b)) := HIH.out m T3 wr hml hBi (HRJ.out _ _ _ HJ.out).1 (HRJ.out _ _ _ HJ.out).2 (HW.out wr hgi).2.1
                have e1 : 100 + (m : Int) - 100 = m := by omega
                clear hin HL3 HC3 hlet hzr
                go_wp2_with (first | (go_at_call 71; refine (X.out _).mono ?_; rintro e w' ⟨rfl, hw'⟩; have hw2 := hw'.symm; clear hw'; subst hw2) | (go_at_call 107; refine Y.out.mono ?_; rintro e w5 ⟨rfl, T4, hP4, hl4, hB4, hg4⟩))
                go_roundw
                case rel => exact ⟨j + 1, T4, by omega, by go_num, HC4.out T4 hP4, hB4, grownBy_trans hgi hg4⟩
                case measure => simp [intOf]; omega
            · have e : j = R.length := by omega
              subst e
              have HF : Hid (RJ P k T1 (i + 1) 0 T3) := HRow2.out T3 HJ.out
              go_wp2
              go_roundw
              case rel => exact ⟨i + 1, T3, by omega, by go_num, HF, hBi, hgi⟩
              case measure => simp [intOf]; omega
        · have e : i = Q.length := by omega
          subst e
          have HF : Hid (RPost P k T T2) := HDone.out T2 HJ.out
          have hl2 := (HRJ.out _ _ _ HJ.out).1
          have hgw := (HW.out wr hgi).2.2
          go_wp2
          go_end0
          exact ⟨rfl, T2, HF.out, hl2, hBi, hgw⟩
end Go.Proofs.YthnppodnjokaoaaGreatDoor
namespace Go.Proofs.YthnppodnjokaoaaGreatDoor
open Go.RowKit

set_option maxHeartbeats 4000000 in
set_option maxRecDepth 100000 in
theorem reachableOf_any (P : List (List (List Int))) (a0 : Option Addr) (c0 : Nat) (w : World) (h0 : RD w (.slice a0 P.length c0) (slD (Lay.list (Lay.list Lay.int)) P)) (hok : gramOkB P = true) :
    Calls Tryz.prog 93 #[.agg #[.slice a0 P.length c0]] w fun e w' => e = .returned (aggB (flagsOf (reachL P))) ∧ Below w.heap.size w w' := by
  have hp0 : 0 < P.length := by
    simp only [gramOkB, Bool.and_eq_true] at hok
    have := inB_true.1 hok.1
    omega
  have HX : Hid (∀ (W : World) (b : Nat), Below w.heap.size w W → w.heap.size ≤ b → Bits W b 119 (List.replicate 27 false) → Calls Tryz.prog 107 #[.agg #[.slice a0 P.length c0], .int .i64 0, .pointer (some ⟨b, 0, none⟩)] W fun e w' => e = .returned (.tuple #[]) ∧ Bits w' b 119 (flagsOf (reachL P)) ∧ W.grownBy w' (some b)) := by
    intro W b hW hb hB
    refine (reach_go P a0 c0 w h0 hok b 119 hb 27 0 (List.replicate 27 false) W hp0 hB (by simp) (by omega) hW).mono ?_
    rintro e w' ⟨rfl, T', h1, h2, h3, h4⟩
    rw [reachOf_is hok h2 h1] at h3
    exact ⟨rfl, h3, h4⟩
  have B0 := (Below.refl w.heap.size w).alloc (Nat.le_refl _) (.cells #[.slice a0 P.length c0] 29)
  have hsb : (w.alloc (.cells #[.slice a0 P.length c0] 29)).heap.size = w.heap.size + 1 := by simp
  have HQ0 : Hid ((w.alloc (.cells #[.slice a0 P.length c0] 29)).cell? ⟨w.heap.size, 0, none⟩ = some (.slice a0 P.length c0)) := by show _ = _; simp
  have hTl := flagsOf_length (reachL P)
  clear h0 hok hp0
  generalize flagsOf (reachL P) = T at *
  go_enter Tryz.func93, Tryz.ntmps93
  go_wp2_with (first | (refine wpList_allocB (w := w.alloc _) rfl 119 rfl 27 bt_flags ?_; rw [hsb]; intro w1 hB1 hb1 hs1; have q1 := (hb1.cell (p := ⟨w.heap.size, 0, none⟩) (by simp)).trans HQ0.out; have h1 : w.heap.size + 1 < w1.heap.size := (by omega); clear hs1) | (refine wpList_allocB (w := w1) rfl 119 rfl 27 bt_flags ?_; intro w2 hB2 hb2 hs2; have q2 := (hb2.cell (p := ⟨w.heap.size, 0, none⟩) (by simp; omega)).trans q1; have h2 : w1.heap.size < w2.heap.size := (by omega); clear hs2 q1) | (go_at_call 107; refine (HX.out _ w1.heap.size ((B0.trans (hb1.mono (by omega))).trans (hb2.mono (by omega))) (by omega) hB2).mono ?_; rintro e w3 ⟨rfl, hB3, hg3⟩; have hB1b := (hB1.later (w' := w2) hb2).grown hg3 (fun h => by have := Option.some.inj h; omega)) | (refine wpList_loadW (w := w3) rfl 119 _ rfl w1.heap.size 119 T rfl (at27 hTl) hB3 ?_) | (refine wpList_storeB (w := w3) rfl 119 _ _ rfl (w.heap.size + 1) 0 119 _ T rfl rfl (at27 hTl) hB1b (by simp [hTl]) ?_; intro w4 hB4 hg4))
  have e5 : putB (List.replicate 27 false) 0 T = T := putB_whole (by simp [hTl])
  rw [e5] at hB4
  have b1 : Below w.heap.size w w1 := B0.trans (hb1.mono (by omega))
  have b2 : Below w.heap.size w w2 := b1.trans (hb2.mono b1.size)
  have b3 : Below w.heap.size w w3 := b2.grown hg3 b2.size (fun j hj => by cases hj; exact b1.size)
  have b4 : Below w.heap.size w w4 := b3.grown hg4 b3.size (fun j hj => by cases hj; omega)
  exact bodyPost_ret (v := aggB T) (ret_cell 119 rfl rfl hB4 (at27 hTl)) rfl ⟨rfl, b4⟩
end Go.Proofs.YthnppodnjokaoaaGreatDoor
namespace Go.Proofs.YthnppodnjokaoaaGreatDoor
open Go.RowKit

theorem some_ne {a b : Nat} (h : a ≠ b) : some a ≠ some b := fun e => h (Option.some.inj e)
theorem exec_build0 {P : Program} {ρ : Operand → Value} {o : Oper} {w : World} {ty e : TypeId} {n m q : Nat} (ho : o.op = .build ty #[]) (hT : BitT P ty n) (hu : P.underlying ty = some (.array m e)) (hz : (P.info? e).map (·.size) = some q) :
    (execOp ρ o).run P w = .ok (.value (aggB (List.replicate n false))) w := by
  have hs : (sizeOf e).run P w = .ok q w := by
    cases hq : P.info? e with
    | none => simp [hq] at hz
    | some j => simp [hq] at hz; simp [sizeOf, typeInfo, hq, hz]
  unfold execOp
  simp only [ho, Instr.build, Sem.run_bind, hT.zero, Result.andThen_ok, run_underlying hu, hs, List.map_toArray, List.map_nil, Instr.fill, Value.cells]
  rw [aggB, cellsB_rep]
  rfl
theorem wpList_build0 {P : Program} {ops : Array Oper} {rest : List Oper} {o : Oper} {a : Act} {w : World} {Q : Exit → Act → World → Prop} (hgd : Region.wanted o (yielded ops a.tmps) = true) (ty e : TypeId) (n m q : Nat) (ho : o.op = .build ty #[]) (hT : BitT P ty n) (hu : P.underlying ty = some (.array m e)) (hz : (P.info? e).map (·.size) = some q)
    (h : wpList P ops Q rest (a.put o.dst (aggB (List.replicate n false))) w) : wpList P ops Q (o :: rest) a w :=
  wpList_val hgd (exec_build0 ho hT hu hz) h
theorem u_table : Tryz.prog.underlying 135 = some (.array 20 119) := by kernel_rfl

set_option maxRecDepth 100000 in
theorem isThere_any (x : Gm) (a0 : Option Addr) (c0 : Nat) (n : Int) (w : World) (h0 : RD w (.slice a0 x.parts.length c0) (slD (Lay.list (Lay.list Lay.int)) x.parts)) (hn : Lay.gram.wt x ≤ 1048576) (hf : Lay.gram.fit x) (_ : (Lit.int .i64 n).wf = true) :
    Calls Tryz.prog 29 #[.agg #[.slice a0 x.parts.length c0], .int .i64 n] w fun e w' => e = .returned (.bool (gramOkB x.parts && inB n 0 (x.parts.length - 1))) ∧ Below w.heap.size w w' := by
  have B0 := (Below.refl w.heap.size w).alloc (Nat.le_refl _) (.cells #[.slice a0 x.parts.length c0] 29)
  have HOK : Hid (∀ W : World, Below w.heap.size w W → Calls Tryz.prog 42 #[.agg #[.slice a0 x.parts.length c0]] W fun e w' => e = .returned (.bool (gramOkB x.parts)) ∧ Below W.heap.size W w') := fun W hW => gramOk_any x a0 c0 W (h0.later hW) hn hf
  have hpl : gramOkB x.parts = true → x.parts.length ≤ 20 := fun h => (Fits.of h).parts
  clear h0 hn hf
  generalize x.parts = P at *
  by_cases hok : gramOkB P = true
  · have hp := hpl hok
    clear hpl
    rw [hok] at HOK ⊢
    rw [Bool.true_and]
    clear hok
    by_cases h1 : 0 ≤ n
    · by_cases h2 : n < (P.length : Int)
      · have e : inB n 0 ((P.length : Int) - 1) = true := inB_true.2 (by omega)
        rw [e]
        clear e
        go_enter Tryz.func29, Tryz.ntmps29
        go_wp2_with (go_at_call 42; refine (HOK.out _ B0).mono ?_; rintro e w1 ⟨rfl, hb1⟩; have g0 : w1.cell? ⟨w.heap.size, 0, none⟩ = some (.slice a0 P.length c0) := (hb1.cell (p := ⟨w.heap.size, 0, none⟩) (by simp)).trans (by simp))
        go_ret
        exact ⟨rfl, B0.trans (hb1.mono B0.size)⟩
      · have e : inB n 0 ((P.length : Int) - 1) = false := inB_false.2 (by omega)
        rw [e]
        clear e
        go_enter Tryz.func29, Tryz.ntmps29
        go_wp2_with (go_at_call 42; refine (HOK.out _ B0).mono ?_; rintro e w1 ⟨rfl, hb1⟩; have g0 : w1.cell? ⟨w.heap.size, 0, none⟩ = some (.slice a0 P.length c0) := (hb1.cell (p := ⟨w.heap.size, 0, none⟩) (by simp)).trans (by simp))
        go_ret
        exact ⟨ret_bool (by simp; omega), B0.trans (hb1.mono B0.size)⟩
    · have e : inB n 0 ((P.length : Int) - 1) = false := inB_false.2 (by omega)
      rw [e]
      clear e
      go_enter Tryz.func29, Tryz.ntmps29
      go_wp2_with (go_at_call 42; refine (HOK.out _ B0).mono ?_; rintro e w1 ⟨rfl, hb1⟩)
      go_ret
      exact ⟨rfl, B0.trans (hb1.mono B0.size)⟩
  · have hok2 : gramOkB P = false := by simpa using hok
    rw [hok2] at HOK ⊢
    rw [Bool.false_and]
    clear hok hok2 hpl
    go_enter Tryz.func29, Tryz.ntmps29
    go_wp2_with (go_at_call 42; refine (HOK.out _ B0).mono ?_; rintro e w1 ⟨rfl, hb1⟩)
    go_ret
    exact ⟨rfl, B0.trans (hb1.mono B0.size)⟩

end Go.Proofs.YthnppodnjokaoaaGreatDoor
namespace Go.Proofs.YthnppodnjokaoaaGreatDoor
open Go.RowKit

/-- One symbol's step; one row's. -/
def stX (k n : Nat) (T : List Bool) : List Bool := joinB (T.set (k * 27 + n) true) (k * 27) (((T.set (k * 27 + n) true).drop (n * 27)).take 27)
def stB (E : List Bool) (k : Nat) : List Bool → List Int → List Bool
  | T, [] => T
  | T, x :: xs => if 100 ≤ x then (if E.getD (x - 100).toNat false then stB E k (stX k (x - 100).toNat T) xs else stX k (x - 100).toNat T) else T
theorem stX_length (k n : Nat) (T : List Bool) : (stX k n T).length = T.length := by rw [stX, joinB_length, List.length_set]
theorem stB_end {E T : List Bool} {k j : Nat} {R : List Int} (h : ¬ j < R.length) : stB E k T (R.drop j) = T := by rw [List.drop_eq_nil_of_le (by omega), stB]
theorem stB_letter {E T : List Bool} {k j : Nat} {R : List Int} (h : j < R.length) (g : R[j] ≤ 25) : stB E k T (R.drop j) = T := by rw [List.drop_eq_getElem_cons h, stB, if_neg (by omega)]
theorem stB_go {E T : List Bool} {k j n : Nat} {R : List Int} (h : j < R.length) (e : R[j] = 100 + (n : Int)) (g : E.getD n false = true) : stB E k T (R.drop j) = stB E k (stX k n T) (R.drop (j + 1)) := by
  have e2 : (R[j] - 100).toNat = n := by omega
  rw [List.drop_eq_getElem_cons h, stB, if_pos (by omega), e2, if_pos g]
theorem stB_stop {E T : List Bool} {k j n : Nat} {R : List Int} (h : j < R.length) (e : R[j] = 100 + (n : Int)) (g : E.getD n false = false) : stB E k T (R.drop j) = stX k n T := by
  have e2 : (R[j] - 100).toNat = n := by omega
  rw [List.drop_eq_getElem_cons h, stB, if_pos (by omega), e2, if_neg (by rw [g]; simp)]
theorem chunk_length {T : List Bool} {n : Nat} (h : T.length = 540) (hn : n < 20) : ((T.drop (n * 27)).take 27).length = 27 := by rw [List.length_take, List.length_drop]; omega

set_option maxHeartbeats 4000000 in
set_option maxRecDepth 100000 in
theorem startsStep_any (b bE : Nat) (tE : TypeId) (T E : List Bool) (k : Nat) (R : List Int) (a : Option Addr) (c : Nat) (w : World) (hB : Bits w b 135 T) (hT : T.length = 540) (hE : Bits w bE tE E) (hEl : 20 ≤ E.length) (hne : bE ≠ b) (hk : k < 20) (w0 : World) (hR : Reads w0 a R) (hw0 : Below w0.heap.size w0 w) (hb0 : w0.heap.size ≤ b) (hz : ∀ z ∈ R, (0 ≤ z ∧ z ≤ 25) ∨ (100 ≤ z ∧ z < 120)) (hrl : R.length ≤ 1048576) :
    Calls Tryz.prog 111 #[.pointer (some ⟨b, 0, none⟩), .int .i64 (k : Int), .slice a R.length c, .pointer (some ⟨bE, 0, none⟩)] w fun e w' => e = .returned (.tuple #[]) ∧ Bits w' b 135 (stB E k T R) ∧ w.grownBy w' (some b) := by
  have HZ : Hid (∀ z ∈ R, (0 ≤ z ∧ z ≤ 25) ∨ (100 ≤ z ∧ z < 120)) := hz
  have HR : Hid (∀ W : World, w.grownBy W (some b) → Reads W a R) := by
    intro W hW
    rcases hR with rfl | ⟨g, off, rfl, hlt, hc⟩
    · exact .inl rfl
    · have hgw := Nat.lt_of_lt_of_le hlt hw0.size
      refine .inr ⟨g, off, rfl, Nat.lt_of_lt_of_le hgw hW.size, fun i hi => ?_⟩
      have hgb : g ≠ b := by omega
      have := World.cell?_of_block (w := w) (w' := W) (a := ⟨g, off + i, none⟩) (hW.block g hgw (by intro h; cases h; exact hgb rfl))
      rw [this]; exact (hw0.cell (p := ⟨g, off + i, none⟩) hlt).trans (hc i hi)
  have HEE : Hid (∀ W : World, w.grownBy W (some b) → Bits W bE tE E) := fun W hW => hE.grown hW (by intro h; cases h; exact hne rfl)
  have hk0 : (0 : Int) ≤ (k : Int) := by omega
  have hk1 : (k : Int) < 20 := by omega
  clear hz hR hw0 hE
  go_enter Tryz.func111, Tryz.ntmps111
  go_wp2
  go_loopw [11] (fun s wr => ∃ (j : Nat) (Tj : List Bool), j ≤ R.length ∧ s = .int .i64 j ∧ Hid (stB E k Tj (R.drop j) = stB E k T R) ∧ Bits wr b 135 Tj ∧ Hid (Tj.length = 540) ∧ w.grownBy wr (some b)) (fun s _ => R.length - (intOf s).toNat)
  case atStart => exact ⟨0, T, Nat.zero_le _, rfl, by show _ = _; rw [List.drop_zero], hB, hT, World.grownBy.refl _ _⟩
  case round =>
    obtain ⟨j, Tj, hj, rfl, HJ0, hBj, HTl, hgj⟩ := hrel
    clear hB hT
    by_cases hlt : j < R.length
    · obtain ⟨g, off, rfl, hgl, hc⟩ := (HR.out wr hgj).at hlt
      have q1 := hc j hlt
      rw [List.getD_eq_getElem?_getD, List.getElem?_eq_getElem hlt, Option.getD_some] at q1
      have hzr := HZ.out _ (List.getElem_mem hlt)
      have HLt : Hid (R[j] ≤ 25 → stB E k Tj (R.drop j) = Tj) := fun h => stB_letter hlt h
      have HGo : Hid (∀ n : Nat, R[j] = 100 + (n : Int) → E.getD n false = true → stB E k Tj (R.drop j) = stB E k (stX k n Tj) (R.drop (j + 1))) := fun n h1 h2 => stB_go hlt h1 h2
      have HSt : Hid (∀ n : Nat, R[j] = 100 + (n : Int) → E.getD n false = false → stB E k Tj (R.drop j) = stX k n Tj) := fun n h1 h2 => stB_stop hlt h1 h2
      clear hc
      generalize R[j] = z at *
      by_cases hlet : z ≤ 25
      · have hin : inB z 0 25 = true := inB_true.2 (by omega)
        have HF : Hid (stB E k T R = Tj) := by show _ = _; rw [← HJ0.out]; exact HLt.out hlet
        have X : Hid (∀ W : World, Calls Tryz.prog 71 #[.int .i64 z] W fun e w' => e = .returned (.bool true) ∧ w' = W) := fun W => by have := isLetter_any z W; rwa [hin] at this
        clear hin HGo HSt HLt
        go_wp2_with (go_at_call 71; refine (X.out _).mono ?_; rintro e w' ⟨rfl, hw'⟩; have hw2 := hw'.symm; clear hw'; subst hw2)
        exact bodyPost_ret (results_none rfl _ _ _) rfl ⟨rfl, by rw [HF.out]; exact hBj, hgj⟩
      · have hin : inB z 0 25 = false := inB_false.2 (by omega)
        have X : Hid (∀ W : World, Calls Tryz.prog 71 #[.int .i64 z] W fun e w' => e = .returned (.bool false) ∧ w' = W) := fun W => by have := isLetter_any z W; rwa [hin] at this
        obtain ⟨n, hn⟩ : ∃ n : Nat, z = 100 + (n : Int) := ⟨(z - 100).toNat, by omega⟩
        subst hn
        have hn0 : (0 : Int) ≤ (n : Int) := by omega
        have hn1 : (n : Int) < 20 := by omega
        have hn2 : (n : Int) < 27 := by omega
        have q2 := hBj.cell (n := k * 27 + n) (by rw [HTl.out]; omega)
        have f2 := hBj.frozen (k * 27 + n)
        have hBs := hBj.set (k * 27 + n) true
        have hgs : w.grownBy (wr.setCell ⟨b, k * 27 + n, none⟩ (.bool true)) (some b) := grownBy_trans hgj (setCell_grown wr b _ _)
        have HT1 : Hid ((Tj.set (k * 27 + n) true).length = 540) := by show _ = _; rw [List.length_set]; exact HTl.out
        have HX2 : Hid (joinB (Tj.set (k * 27 + n) true) (k * 27) (((Tj.set (k * 27 + n) true).drop (n * 27)).take 27) = stX k n Tj) := rfl
        have HXl : Hid ((stX k n Tj).length = 540) := by show _ = _; rw [stX_length]; exact HTl.out
        generalize Tj.getD (k * 27 + n) false = y at *
        clear hin HLt hlet hzr
        generalize hT1e : Tj.set (k * 27 + n) true = T1 at *
        clear hT1e
        have HD : Hid (∀ W : World, Bits W b 135 T1 → Calls Tryz.prog 112 #[.pointer (some ⟨b, k * 27, none⟩), aggB ((T1.drop (n * 27)).take 27)] W fun e w' => e = .returned (.tuple #[]) ∧ Bits w' b 135 (stX k n Tj) ∧ W.grownBy w' (some b)) := fun W hW => by
          have := join_any b (k * 27) 135 T1 ((T1.drop (n * 27)).take 27) W hW (by rw [HT1.out]; omega) (chunk_length HT1.out (by omega))
          rwa [HX2.out] at this
        have HBS : Hid (Bits (wr.setCell ⟨b, k * 27 + n, none⟩ (.bool true)) b 135 T1) := hBs
        have HGS : Hid (w.grownBy (wr.setCell ⟨b, k * 27 + n, none⟩ (.bool true)) (some b)) := hgs
        clear hBs hgs hBj hgj HX2
        go_wp2_with (go_at_call 71; refine (X.out _).mono ?_; rintro e w' ⟨rfl, hw'⟩; have hw2 := hw'.symm; clear hw'; subst hw2)
        clear q2 f2 q1
        generalize wr.setCell ⟨b, k * 27 + n, none⟩ (.bool true) = ws at *
        have HBd : Hid (Bits ws.drew b 135 T1) := HBS.out.later (Below.drew (Below.refl _ _))
        have HJ : Hid (Calls Tryz.prog 112 #[.pointer (some ⟨b, k * 27, none⟩), aggB ((T1.drop (n * 27)).take 27)] ws.drew fun e w' => e = .returned (.tuple #[]) ∧ Bits w' b 135 (stX k n Tj) ∧ ws.drew.grownBy w' (some b)) := HD.out ws.drew HBd.out
        have HW : Hid (IntKind.i64.wrap (100 + (n : Int) - 100) = n) := by
          show _ = _
          rw [show (100 + (n : Int) - 100) = n by omega]
          first | exact IntKind.wrap_of_wf (by simp [Lit.wf]; omega) | (unfold IntKind.wrap; simp; omega) | (simp [IntKind.wrap, IntKind.bits]; omega) | (go_num)
        have hT1b : n * 27 + 27 ≤ T1.length := by rw [HT1.out]; omega
        refine wp_region_held_drew (S := fun _ => True) (by kernel_rfl) trivial (fun hHeld => ?_)
        refine take_atL (i := 0) (d := some 24) (v := .pointer (some ⟨b, 0, none⟩)) rfl rfl (by kernel_rfl) (by kernel_rfl) (by kernel_rfl) (fun _ _ _ h => h) (by rfl) ?_ hHeld ?_
        · intro w' _; go_simp; first | done | rfl | exact HW.out
        try simp only [Act.put, List.setIfInBounds_toArray, List.set_cons_zero, List.set_cons_succ]
        refine take_atL (i := 1) (d := some 25) (v := .int .i64 (k : Int)) rfl rfl (by kernel_rfl) (by kernel_rfl) (by kernel_rfl) (fun _ _ _ h => h) (by rfl) ?_ hHeld ?_
        · intro w' _; go_simp; first | done | rfl | exact HW.out
        try simp only [Act.put, List.setIfInBounds_toArray, List.set_cons_zero, List.set_cons_succ]
        refine take_atL (i := 2) (d := some 26) (v := .pointer (some ⟨b, 0, none⟩)) rfl rfl (by kernel_rfl) (by kernel_rfl) (by kernel_rfl) (fun _ _ _ h => h) (by rfl) ?_ hHeld ?_
        · intro w' _; go_simp; first | done | rfl | exact HW.out
        try simp only [Act.put, List.setIfInBounds_toArray, List.set_cons_zero, List.set_cons_succ]
        refine take_atL (i := 3) (d := some 27) (v := .pointer (some ⟨b, k * 27, none⟩)) rfl rfl (by kernel_rfl) (by kernel_rfl) (by kernel_rfl) (fun _ _ _ h => h) (by rfl) ?_ hHeld ?_
        · intro w' _; go_simp; first | done | rfl | exact HW.out
        try simp only [Act.put, List.setIfInBounds_toArray, List.set_cons_zero, List.set_cons_succ]
        refine take_atL (i := 4) (d := some 28) (v := .pointer (some ⟨b, 0, none⟩)) rfl rfl (by kernel_rfl) (by kernel_rfl) (by kernel_rfl) (fun _ _ _ h => h) (by rfl) ?_ hHeld ?_
        · intro w' _; go_simp; first | done | rfl | exact HW.out
        try simp only [Act.put, List.setIfInBounds_toArray, List.set_cons_zero, List.set_cons_succ]
        refine take_atL (i := 5) (d := some 29) (v := .int .i64 (100 + (n : Int))) rfl rfl (by kernel_rfl) (by kernel_rfl) (by kernel_rfl) (fun _ _ _ h => h) (by rfl) ?_ hHeld ?_
        · intro w' _; go_simp; first | done | rfl | exact HW.out
        try simp only [Act.put, List.setIfInBounds_toArray, List.set_cons_zero, List.set_cons_succ]
        refine take_atL (i := 6) (d := some 30) (v := .int .i64 (n : Int)) rfl rfl (by kernel_rfl) (by kernel_rfl) (by kernel_rfl) (fun _ _ _ h => h) (by rfl) ?_ hHeld ?_
        · intro w' _; go_simp; first | done | rfl | exact HW.out
        try simp only [Act.put, List.setIfInBounds_toArray, List.set_cons_zero, List.set_cons_succ]
        refine take_atL (i := 7) (d := some 31) (v := .pointer (some ⟨b, 0, none⟩)) rfl rfl (by kernel_rfl) (by kernel_rfl) (by kernel_rfl) (fun _ _ _ h => h) (by rfl) ?_ hHeld ?_
        · intro w' _; go_simp; first | done | rfl | exact HW.out
        try simp only [Act.put, List.setIfInBounds_toArray, List.set_cons_zero, List.set_cons_succ]
        refine take_atL (i := 8) (d := some 32) (v := .pointer (some ⟨b, n * 27, none⟩)) rfl rfl (by kernel_rfl) (by kernel_rfl) (by kernel_rfl) (fun _ _ _ h => h) (by rfl) ?_ hHeld ?_
        · intro w' _; go_simp; first | done | rfl | exact HW.out
        try simp only [Act.put, List.setIfInBounds_toArray, List.set_cons_zero, List.set_cons_succ]
        refine wpAnyH_ready (rs := [9]) (by kernel_rfl) (by simp) ?_
        refine AllReadyH.cons (o := _) rfl (fun K hK => ?_) AllReadyH.nil
        rw [if_pos (by rfl)]
        unfold Oper.wp
        rw [exec_loadB (t := 135) (b := b) (off := n * 27) (n := 27) (bs := T1) rfl rfl bt_flags HBd.out (by omega), Oper.upon_value]
        refine hK.out _ _ trivial (fun hHeld => ?_)
        clear hK K
        simp only [Act.put, List.setIfInBounds_toArray]
        refine wpAnyH_ready (rs := [10]) (by kernel_rfl) (by simp) ?_
        refine AllReadyH.cons (o := _) rfl (fun K hK => ?_) AllReadyH.nil
        rw [if_pos (by rfl)]
        go_simp
        refine (HJ.out).mono ?_
        rintro e w5 ⟨rfl, hB5, hg5⟩
        go_wp2_with fail
        refine hK.out _ _ trivial (fun hHeld => ?_)
        clear hK K
        try simp only [Act.put, List.setIfInBounds_toArray, List.set_cons_zero, List.set_cons_succ]
        refine wpAnyH_done (by kernel_rfl) ?_ _
        clear hHeld
        have hg6 : w.grownBy w5 (some b) := grownBy_trans HGS.out (grownBy_trans (grownBy_of_below (Below.drew (Below.refl _ _)) _) hg5)
        have q6 := (HEE.out w5 hg6).cell (n := n) (by omega)
        clear HBS HGS HBd HJ hg5 HD HT1 hT1b
        by_cases hup : E.getD n false = true
        · rw [hup] at q6
          have HF : Hid (stB E k (stX k n Tj) (R.drop (j + 1)) = stB E k T R) := by show _ = _; rw [← HGo.out n rfl hup]; exact HJ0.out
          clear HGo HSt hup HJ0
          go_wp2
          go_roundw
          case rel => exact ⟨j + 1, stX k n Tj, by omega, by go_num, HF, hB5, HXl, hg6⟩
          case measure => simp [intOf]; omega
        · have hdn : E.getD n false = false := by simpa using hup
          rw [hdn] at q6
          have HF : Hid (stX k n Tj = stB E k T R) := by show _ = _; rw [← HSt.out n rfl hdn]; exact HJ0.out
          clear HGo HSt hup hdn HJ0
          go_wp2
          exact bodyPost_ret (results_none rfl _ _ _) rfl ⟨rfl, by rw [← HF.out]; exact hB5, hg6⟩
    · have HF : Hid (stB E k T R = Tj) := by show _ = _; rw [← HJ0.out]; exact stB_end hlt
      go_wp2
      go_end0
      exact ⟨rfl, by rw [HF.out]; exact hBj, hgj⟩
end Go.Proofs.YthnppodnjokaoaaGreatDoor
namespace Go.Proofs.YthnppodnjokaoaaGreatDoor
open Go.RowKit

/-- As it was, or with more flags. -/
def Up (A B : List Bool) : Prop := B.length = A.length ∧ (B = A ∨ cntB A < cntB B)
theorem Up.refl (A : List Bool) : Up A A := ⟨rfl, .inl rfl⟩
theorem Up.trans {A B C : List Bool} (h : Up A B) (g : Up B C) : Up A C := by
  refine ⟨by rw [g.1, h.1], ?_⟩
  rcases h.2 with rfl | h2
  · exact g.2
  · rcases g.2 with rfl | g2
    · exact .inr h2
    · exact .inr (by omega)
theorem Up.fix {A B C : List Bool} (h : Up A B) (g : Up B C) (e : C = A) : B = A := by
  rcases h.2 with h2 | h2
  · exact h2
  · rcases g.2 with g2 | g2
    · rw [← g2]; exact e
    · subst e; omega
theorem Up.bstep (A : List Bool) (s : Nat × (List Bool → Bool)) : Up A (bstep A s) := ⟨bstep_length _ _, bstep_or _ _⟩
theorem Up.set (A : List Bool) (i : Nat) : Up A (A.set i true) := by
  have := Up.bstep A (i, fun _ => true)
  simpa only [Go.Proofs.YthnppodnjokaoaaGreatDoor.bstep, Bool.or_true] using this
theorem Up.joinTo (A : List Bool) (off : Nat) (cs : List Bool) (k : Nat) : Up A (joinTo A off cs k) := by
  induction k with
  | zero => exact Up.refl _
  | succ k ih => exact ih.trans (Up.bstep _ (off + k, fun _ => cs.getD k false))
theorem Up.joinB (A : List Bool) (off : Nat) (cs : List Bool) : Up A (joinB A off cs) := Up.joinTo _ _ _ _
theorem Up.stX (k n : Nat) (T : List Bool) : Up T (stX k n T) := (Up.set T _).trans (Up.joinB _ _ _)
theorem Up.stB (E : List Bool) (k : Nat) : ∀ (row : List Int) (T : List Bool), Up T (stB E k T row)
  | [], T => by rw [Go.Proofs.YthnppodnjokaoaaGreatDoor.stB]; exact Up.refl _
  | x :: xs, T => by
    rw [Go.Proofs.YthnppodnjokaoaaGreatDoor.stB]
    split
    · split
      · exact (Up.stX _ _ _).trans (Up.stB E k xs _)
      · exact Up.stX _ _ _
    · exact Up.refl _
theorem chunk_get (T : List Bool) (n c : Nat) (hc : c < 27) : ((T.drop (n * 27)).take 27).getD c false = T.getD (n * 27 + c) false := by
  simp [List.getD, hc]
theorem stX_get {k n : Nat} {T : List Bool} (hT : T.length = 540) (hk : k < 20) (hn : n < 20) {j c : Nat} (hj : j < 20) (hc : c < 27) :
    (stX k n T).getD (j * 27 + c) false = true ↔ (T.getD (j * 27 + c) false = true ∨ (j = k ∧ (c = n ∨ T.getD (n * 27 + c) false = true))) := by
  have hl : (T.set (k * 27 + n) true).length = 540 := by rw [List.length_set]; exact hT
  have g : ∀ i d, i < 20 → d < 27 → (T.set (k * 27 + n) true).getD (i * 27 + d) false = (T.getD (i * 27 + d) false || decide (i = k ∧ d = n)) := by
    intro i d hi hd
    rw [getD_setB]
    by_cases e : i = k ∧ d = n
    · rw [if_pos ⟨by rw [e.1, e.2], by omega⟩, decide_eq_true e, Bool.or_true]
    · rw [if_neg (by intro h; omega), decide_eq_false e, Bool.or_false]
  rw [stX, joinB_get (by rw [hl]; omega), g j c hj hc]
  by_cases e : j = k
  · subst e
    rw [decide_eq_true (show j * 27 ≤ j * 27 + c ∧ j * 27 + c < j * 27 + 27 by omega), Bool.true_and, show j * 27 + c - j * 27 = c by omega, chunk_get _ _ _ hc, g n c hn hc]
    simp only [Bool.or_eq_true, decide_eq_true_eq, true_and]
    constructor
    · rintro ((h | h) | (h | ⟨_, h⟩))
      · exact .inl h
      · exact .inr (.inl h)
      · exact .inr (.inr h)
      · exact .inr (.inl h)
    · rintro (h | h | h)
      · exact .inl (.inl h)
      · exact .inl (.inr h)
      · exact .inr (.inl h)
  · rw [decide_eq_false (show ¬ (k * 27 ≤ j * 27 + c ∧ j * 27 + c < k * 27 + 27) by omega), Bool.false_and, Bool.or_false, decide_eq_false (by intro h; exact e h.1), Bool.or_false]
    constructor
    · exact .inl
    · rintro (h | ⟨h, _⟩)
      · exact h
      · exact absurd h e
theorem symsOk {P : List (List (List Int))} (h : gramOkB P = true) {k i : Nat} (hk : k < P.length) (hi : i < P[k].length) : ∀ z ∈ P[k][i], (0 ≤ z ∧ z ≤ 25) ∨ (100 ≤ z ∧ z < 100 + P.length) := by
  simp only [gramOkB, Bool.and_eq_true, inB_true, List.all_eq_true, partOk, rowOk, decide_eq_true_eq] at h
  intro z hz
  have := symOk_true.1 (((h.2 _ (List.getElem_mem hk)).2 _ (List.getElem_mem hi)).2 z hz)
  omega
def stR (E : List Bool) (k : Nat) (row : List Int) (T : List Bool) : List Bool := stB E k T row
theorem stR_raises (E : List Bool) (P : List (List (List Int))) : Raises (stR E) P 540 := fun k _ i _ T hT => by
  have := Up.stB E k P[k][i] T
  exact ⟨by rw [stR, this.1]; exact hT, this.2⟩
theorem stB_fix {E : List Int} {k : Nat} (hk : k < 20) : ∀ (row : List Int) (T : List Bool), (∀ z ∈ row, (0 ≤ z ∧ z ≤ 25) ∨ (100 ≤ z ∧ z < 120)) → T.length = 540 → stB (flagsOf E) k T row = T → ∀ x ∈ lead E row, T.getD (k * 27 + (x - 100).toNat) false = true ∧ ∀ c, c < 27 → T.getD ((x - 100).toNat * 27 + c) false = true → T.getD (k * 27 + c) false = true
  | [], T, _, _, _, x, hx => by simp [lead] at hx
  | y :: ys, T, hz, hT, he, x, hx => by
    have hy := hz y List.mem_cons_self
    by_cases h100 : 100 ≤ y
    · have hn : (y - 100).toNat < 20 := by omega
      have hyn : (((y - 100).toNat : Nat) : Int) = y - 100 := by omega
      have hfl : (flagsOf E).getD (y - 100).toNat false = hasL E (y - 100) := by rw [flagsOf_get _ (by omega), hyn]
      rw [stB, if_pos h100, hfl] at he
      rw [lead, if_pos h100] at hx
      have e1 : stX k (y - 100).toNat T = T := by
        split at he
        · exact Up.fix (Up.stX _ _ _) (Up.stB _ _ _ _) he
        · exact he
      have here : T.getD (k * 27 + (y - 100).toNat) false = true ∧ ∀ c, c < 27 → T.getD ((y - 100).toNat * 27 + c) false = true → T.getD (k * 27 + c) false = true := by
        refine ⟨?_, fun c hc h => ?_⟩
        · have := (stX_get (T := T) hT hk hn hk (show (y - 100).toNat < 27 by omega)).2 (.inr ⟨rfl, .inl rfl⟩)
          rwa [e1] at this
        · have := (stX_get (T := T) hT hk hn hk hc).2 (.inr ⟨rfl, .inr h⟩)
          rwa [e1] at this
      rcases List.mem_cons.1 hx with rfl | hx
      · exact here
      · split at hx
        · rename_i hE
          rw [if_pos hE, e1] at he
          exact stB_fix hk ys T (fun z h => hz z (List.mem_cons_of_mem _ h)) hT he x hx
        · simp at hx
    · rw [lead, if_neg h100] at hx; simp at hx
theorem stB_keeps {E : List Int} {k : Nat} (hk : k < 20) {S : Nat → Int → Prop} : ∀ (row : List Int) (T : List Bool), (∀ z ∈ row, (0 ≤ z ∧ z ≤ 25) ∨ (100 ≤ z ∧ z < 120)) → T.length = 540 → (∀ x ∈ lead E row, S k (x - 100) ∧ ∀ c, S (x - 100).toNat c → S k c) → (∀ j c, j < 20 → c < 27 → T.getD (j * 27 + c) false = true → S j (c : Int)) → ∀ j c, j < 20 → c < 27 → (stB (flagsOf E) k T row).getD (j * 27 + c) false = true → S j (c : Int)
  | [], T, _, _, _, h, j, c, hj, hc, hg => by rw [stB] at hg; exact h j c hj hc hg
  | y :: ys, T, hz, hT, hS, h, j, c, hj, hc, hg => by
    have hy := hz y List.mem_cons_self
    by_cases h100 : 100 ≤ y
    · have hn : (y - 100).toNat < 20 := by omega
      have hyn : (((y - 100).toNat : Nat) : Int) = y - 100 := by omega
      have hfl : (flagsOf E).getD (y - 100).toNat false = hasL E (y - 100) := by rw [flagsOf_get _ (by omega), hyn]
      rw [stB, if_pos h100, hfl] at hg
      have hy2 := hS y (by rw [lead, if_pos h100]; exact List.mem_cons_self)
      have hX : ∀ j c, j < 20 → c < 27 → (stX k (y - 100).toNat T).getD (j * 27 + c) false = true → S j (c : Int) := by
        intro j c hj hc hg
        rcases (stX_get hT hk hn hj hc).1 hg with h1 | ⟨rfl, h1 | h1⟩
        · exact h j c hj hc h1
        · rw [h1, hyn]; exact hy2.1
        · exact hy2.2 _ (h _ c hn hc h1)
      split at hg
      · rename_i hE
        refine stB_keeps hk ys _ (fun z h => hz z (List.mem_cons_of_mem _ h)) (by rw [stX_length]; exact hT) (fun x hx => hS x ?_) hX j c hj hc hg
        rw [lead, if_pos h100, if_pos hE]; exact List.mem_cons_of_mem _ hx
      · exact hX j c hj hc hg
    · rw [stB, if_neg h100] at hg
      exact h j c hj hc hg
theorem lead_part {E : List Int} : ∀ {row : List Int}, (∀ z ∈ row, (0 ≤ z ∧ z ≤ 25) ∨ (100 ≤ z ∧ z < 120)) → ∀ {x : Int}, x ∈ lead E row → 100 ≤ x ∧ x < 120
  | [], _, x, h => by simp [lead] at h
  | y :: ys, hz, x, h => by
    rw [lead] at h
    split at h
    · rcases List.mem_cons.1 h with rfl | h
      · have := hz x List.mem_cons_self; omega
      · split at h
        · exact lead_part (fun z hz2 => hz z (List.mem_cons_of_mem _ hz2)) h
        · simp at h
    · simp at h
/-- The table that startsOf answers. -/
theorem startsOf_is {P : List (List (List Int))} (hok : gramOkB P = true) {T : List Bool} (hl : T.length = 540) (hG : Grows (stR (flagsOf (emptiesL P))) P (List.replicate 540 false) T) (hx : leK (stR (flagsOf (emptiesL P))) P T P.length = T) {k : Nat} (hk : k < P.length) :
    numsB (fun c => T.getD (k * 27 + c) false) 27 = (startsL P).getD k [] := by
  have F := Fits.of hok
  have hp := F.parts
  have sy : ∀ k (hk : k < P.length) i (hi : i < P[k].length), ∀ z ∈ P[k][i], (0 ≤ z ∧ z ≤ 25) ∨ (100 ≤ z ∧ z < 120) := fun k hk i hi z hz => by have := symsOk hok hk hi z hz; omega
  have sound := hG (fun T => T.length = 540 ∧ ∀ j c, j < 20 → c < 27 → T.getD (j * 27 + c) false = true → (c : Int) ∈ (startsL P).getD j []) ⟨List.length_replicate, fun j c _ _ h => by rw [rep_getD] at h; cases h⟩
    (fun k hk i hi T hT => ⟨by rw [stR, (Up.stB _ _ _ _).1]; exact hT.1, stB_keeps (S := fun j c => c ∈ (startsL P).getD j []) (by omega) P[k][i] T (sy k hk i hi) hT.1 (fun x hx => ⟨stT_closed hk hi hx (.inl rfl), fun c hc => stT_closed hk hi hx (.inr hc)⟩) hT.2⟩)
  have compl : ∀ c ∈ (startsL P).getD k [], T.getD (k * 27 + c.toNat) false = true := by
    have := stT_sound (E := emptiesL P) (P := P) (S := fun j c => 0 ≤ c ∧ c < 27 ∧ T.getD (j * 27 + c.toNat) false = true) (fun k hk i hi x hm => by
      have hfx := (stR_raises (flagsOf (emptiesL P)) P).fix hl hx hk hi
      have hb := stB_fix (E := emptiesL P) (k := k) (by omega) P[k][i] T (sy k hk i hi) hl hfx x hm
      have hxr : 100 ≤ x ∧ x < 120 := lead_part (sy k hk i hi) hm
      refine ⟨⟨by omega, by omega, hb.1⟩, fun c hc => ⟨hc.1, hc.2.1, hb.2 c.toNat (by omega) hc.2.2⟩⟩) (P.length + 1) k
    exact fun c hc => (this c hc).2.2
  have hset := (stT_sets (emptiesL P) F (P.length + 1)).get (k := k)
  refine nums_flags (stT_sorted _ _ _ _) (fun x h => by have := hset.lt x h; omega) (fun n hn => ?_)
  rw [Bool.eq_iff_iff]
  constructor
  · intro h; exact hasL_yes (sound.2 k n (by omega) hn h)
  · intro h
    have h2 := compl n (of_decide_eq_true h)
    simpa using h2
end Go.Proofs.YthnppodnjokaoaaGreatDoor
namespace Go.Proofs.YthnppodnjokaoaaGreatDoor
open Go.RowKit

theorem at540S {T : List Bool} (hl : T.length = 540) : BitT Tryz.prog 135 T.length := by rw [hl]; exact bt_table
theorem eq_table540S {w : World} {cs bs : List Bool} (h1 : cs.length = 540) (h2 : bs.length = 540) : (Op.equalIn 10000 135 (aggB cs) (aggB bs)).run Tryz.prog w = .ok (decide (cs = bs)) w := run_eq_table (m := 20) (n := 27) 9997 (by kernel_rfl) u_flags u_bool bt_flags.size bool_size h1 h2
theorem guard_tableS : Tryz.prog.eqGuardType Tryz.prog.depth 135 = false := by kernel_rfl
theorem ahead_tableS {n1 nR : Nat} {w2 wr w3 w4 : World} {t : TypeId} {T Z : List Bool} (hbel : Below n1 w2 wr) (hn : n1 < wr.heap.size) (hBT : Bits wr n1 t T) (hBR : Bits wr nR t Z) (hb3 : Below wr.heap.size wr w3) (hs3 : w3.heap.size = wr.heap.size + 1) (hTl : T.length = 540) (hB4 : Bits w4 wr.heap.size 135 (putB (List.replicate 540 false) 0 T)) (hg4 : w3.grownBy w4 (some wr.heap.size)) :
    Below n1 w2 w4 ∧ Bits w4 n1 t T ∧ Bits w4 wr.heap.size 135 T ∧ Bits w4 nR t Z := by
  have e : putB (List.replicate 540 false) 0 T = T := putB_whole (by rw [List.length_replicate]; exact hTl)
  rw [e] at hB4
  have hl2 := hBR.lt
  refine ⟨?_, ?_, hB4, ?_⟩
  · exact (hbel.trans (hb3.mono (by omega))).grown hg4 (by omega) (fun k hk => by cases hk; omega)
  · exact (hBT.later hb3).grown hg4 (by intro h; cases h; omega)
  · exact (hBR.later hb3).grown hg4 (by intro h; cases h; omega)

set_option maxHeartbeats 4000000 in
set_option maxRecDepth 100000 in
theorem least_S (st : Nat → List Int → List Bool → List Bool) (cap : Value) (P : List (List (List Int))) (a0 : Option Addr) (c0 : Nat) (T0 : List Bool) (w : World) (h0 : RD w (.slice a0 P.length c0) (slD (Lay.list (Lay.list Lay.int)) P)) (hok : gramOkB P = true) (hT0 : T0.length = 540) (hRz : Raises st P 540)
    (hcl : ∀ (W : World) (b : Nat) (T : List Bool) (k : Nat) (hk : k < P.length) (i : Nat) (hi : i < P[k].length) (a : Option Addr) (c : Nat), Below w.heap.size w W → w.heap.size ≤ b → Bits W b 135 T → T.length = 540 → RD w (.slice a P[k][i].length c) (slD Lay.int P[k][i]) →
      Calls Tryz.prog 111 #[.pointer (some ⟨b, 0, none⟩), .int .i64 (k : Int), .slice a P[k][i].length c, cap] W fun e w' => e = .returned (.tuple #[]) ∧ Bits w' b 135 (st k P[k][i] T) ∧ W.grownBy w' (some b)) :
    Calls Tryz.prog 110 #[.agg #[.slice a0 P.length c0], aggB T0, .func (.func 111) #[] #[cap]] w fun e w' => ∃ T, e = .returned (aggB T) ∧ T.length = 540 ∧ Grows st P T0 T ∧ leK st P T P.length = T ∧ Below w.heap.size w w' := by
  have F := Fits.of hok
  have HF : Hid (Fits P) := F
  have hp := F.parts
  have HRz : Hid (Raises st P 540) := hRz
  have HCL : Hid (∀ (W : World) (b : Nat) (T : List Bool) (k : Nat) (hk : k < P.length) (i : Nat) (hi : i < P[k].length) (a : Option Addr) (c : Nat), Below w.heap.size w W → w.heap.size ≤ b → Bits W b 135 T → T.length = 540 → RD w (.slice a P[k][i].length c) (slD Lay.int P[k][i]) →
      Calls Tryz.prog 111 #[.pointer (some ⟨b, 0, none⟩), .int .i64 (k : Int), .slice a P[k][i].length c, cap] W fun e w' => e = .returned (.tuple #[]) ∧ Bits w' b 135 (st k P[k][i] T) ∧ W.grownBy w' (some b)) := hcl
  clear F hok hRz hcl
  have B0 := (Below.refl w.heap.size w).alloc (Nat.le_refl _) (.cells #[.slice a0 P.length c0] 29)
  have HQ0 : Hid ((w.alloc (.cells #[.slice a0 P.length c0] 29)).cell? ⟨w.heap.size, 0, none⟩ = some (.slice a0 P.length c0)) := by show _ = _; simp
  have HR0 : Hid (RD w (.slice a0 P.length c0) (slD (Lay.list (Lay.list Lay.int)) P)) := h0
  have hsb : (w.alloc (.cells #[.slice a0 P.length c0] 29)).heap.size = w.heap.size + 1 := by simp
  clear h0
  go_enter Tryz.func110, Tryz.ntmps110
  go_wp2_with (first | (refine wpList_boxB (w := w.alloc _) rfl 135 _ rfl T0 rfl ?_; rw [hsb]; intro w1 hB1 hb1 hs1) | (refine wpList_allocB (w := w1) rfl 135 rfl 540 bt_table ?_; intro w2 hB2 hb2 hs2))
  generalize w.alloc (.cells #[.slice a0 P.length c0] 29) = wb at *
  simp only [Act.put, List.setIfInBounds_toArray, List.set_cons_zero, List.set_cons_succ]
  have hB12 := hB1.below hb2 (by omega)
  have HQ : Hid (∀ W, Below (w.heap.size + 1) w2 W → W.cell? ⟨w.heap.size, 0, none⟩ = some (.slice a0 P.length c0) ∧ Below w.heap.size w W) := by
    intro W hW
    have b1 : Below (w.heap.size + 1) wb W := hb1.trans ((hb2.mono (by omega)).trans hW)
    exact ⟨(b1.cell (p := ⟨w.heap.size, 0, none⟩) (by simp)).trans HQ0.out, B0.trans (b1.mono (by omega))⟩
  have hnR : w1.heap.size = w.heap.size + 2 := by omega
  have hwr0 : w.heap.size ≤ w1.heap.size := by omega
  have hneq : w1.heap.size ≠ w.heap.size + 1 := by omega
  clear HQ0 B0 hB1 hb1 hs1 hb2 hs2 hnR
  generalize w1.heap.size = nR at *
  have HNR : Hid (nR ≠ w.heap.size + 1) := hneq
  have HWR : Hid (w.heap.size ≤ nR) := hwr0
  have hnw : w.heap.size < w.heap.size + 1 := by omega
  obtain ⟨n1, Hn1⟩ : ∃ n1, Hid (w.heap.size + 1 = n1) := ⟨_, rfl⟩
  rw [Hn1.out] at hB12 HQ HNR hnw
  rw [Hn1.out]
  clear hneq hsb Hn1 hwr0
  go_loopg [] 540 (fun g wr => ∃ T : List Bool, Aside (T.length = 540 ∧ 540 ≤ cntB T + g ∧ Grows st P T0 T ∧ Bits wr n1 135 T ∧ Below n1 w2 wr ∧ Bits wr nR 135 (List.replicate 540 false)))
  case atStart => exact ⟨T0, hT0, by omega, Grows.refl _ _, hB12, Below.refl _ _, hB2⟩
  case round =>
    obtain ⟨T, A⟩ := hrel
    have hTl := A.out.1
    have HTg : Hid (540 ≤ cntB T + gk) := A.out.2.1
    have HTG : Hid (Grows st P T0 T) := A.out.2.2.1
    have hBT := A.out.2.2.2.1
    have hbel := A.out.2.2.2.2.1
    have hBR := A.out.2.2.2.2.2
    clear A hB2 hB12
    have hnr := hBT.lt
    go_wp2_with (first | (refine wpList_loadW rfl 135 _ rfl n1 135 T rfl (at540S hTl) hBT ?_) | (refine wpList_allocB rfl 135 rfl 540 bt_table ?_; intro w3 hB3 hb3 hs3) | (refine wpList_storeB rfl 135 _ _ rfl wr.heap.size 0 135 _ T rfl rfl (at540S hTl) hB3 (by rw [List.length_replicate, hTl]; decide) ?_; intro w4 hB4 hg4; obtain ⟨hbel4, hBT4, hBA4, hBR4⟩ := ahead_tableS hbel hnr hBT hBR hb3 hs3 hTl hB4 hg4; obtain ⟨q4, _⟩ := HQ.out w4 hbel4))
    have hnA : n1 < wr.heap.size := hnr
    have hnA2 : nR < wr.heap.size := hBR.lt
    generalize wr.heap.size = nA at *
    clear hB3 hb3 hs3 hB4 hg4 hBT hbel hnr hBR
    go_loopw [16] (fun s wk => ∃ k : Nat, k ≤ P.length ∧ s = .int .i64 k ∧ Bits wk n1 135 (leK st P T k) ∧ Bits wk nA 135 T ∧ Below n1 w2 wk ∧ Bits wk nR 135 (List.replicate 540 false)) (fun s _ => P.length - (intOf s).toNat)
    case atStart => exact ⟨0, Nat.zero_le _, rfl, hBT4, hBA4, hbel4, hBR4⟩
    case round =>
      obtain ⟨k, hk, rfl, hBk, hBA, hbk, hBR⟩ := hrel
      clear hBT4 hBA4 hbel4 q4 hBR4
      by_cases hlk : k < P.length
      · have HK : Hid (leK st P T (k + 1) = leI st k P[k] (leK st P T k) P[k].length) := leK_next hlk
        have hm := List.getElem_mem hlk
        have hQ := HF.out.alts _ hm
        have HLe : Hid (∀ i, i ≤ P[k].length → (leI st k P[k] (leK st P T k) i).length = 540) := fun i hi => (HRz.out.leI hlk (HRz.out.leK hTl k hk).1 i hi).1
        have HC1 : Hid (∀ (W : World) (b : Nat) (T : List Bool) (i : Nat) (hi : i < P[k].length) (a : Option Addr) (c : Nat), Below w.heap.size w W → w.heap.size ≤ b → Bits W b 135 T → T.length = 540 → RD w (.slice a P[k][i].length c) (slD Lay.int P[k][i]) →
          Calls Tryz.prog 111 #[.pointer (some ⟨b, 0, none⟩), .int .i64 (k : Int), .slice a P[k][i].length c, cap] W fun e w' => e = .returned (.tuple #[]) ∧ Bits w' b 135 (st k P[k][i] T) ∧ W.grownBy w' (some b)) := fun W b T i hi a c => HCL.out W b T k hlk i hi a c
        obtain ⟨b1, o1, ea0, hb1, a1, c1, q0', r1⟩ := HR0.out.listAt hlk
        have HR1 : Hid (RD w (.slice a1 P[k].length c1) (slD (Lay.list Lay.int) P[k])) := r1
        have q0 := ((HQ.out wr hbk).2.cell (p := ⟨b1, o1 + k, none⟩) hb1).trans q0'
        subst ea0
        clear r1 q0' hm hb1
        generalize leK st P T k = Tk at *
        generalize P[k] = Q at *
        go_wp2
        go_loopw [23] (fun s wk => ∃ i : Nat, i ≤ Q.length ∧ s = .int .i64 i ∧ Bits wk n1 135 (leI st k Q Tk i) ∧ Bits wk nA 135 T ∧ Below n1 w2 wk ∧ Bits wk nR 135 (List.replicate 540 false)) (fun s _ => Q.length - (intOf s).toNat)
        case atStart => exact ⟨0, Nat.zero_le _, rfl, hBk, hBA, hbk, hBR⟩
        case round =>
          obtain ⟨i, hi, rfl, hBi, hBAi, hbi, hBRi⟩ := hrel
          clear hBk hBA hbk q0 hBR
          by_cases hli : i < Q.length
          · have HE : Hid (leI st k Q Tk (i + 1) = st k Q[i] (leI st k Q Tk i)) := leI_next hli
            have hTi := HLe.out i hi
            obtain ⟨b2, o2, ea1, hb2, a2, c2, q1', r2⟩ := HR1.out.listAt hli
            have hbw := (HQ.out wr hbi).2
            have q1 := (hbw.cell (p := ⟨b2, o2 + i, none⟩) hb2).trans q1'
            subst ea1
            have X := HC1.out wr n1 _ i hli a2 c2 hbw (by omega) hBi hTi r2
            have HX : Hid (Calls Tryz.prog 111 #[.pointer (some ⟨n1, 0, none⟩), .int .i64 (k : Int), .slice a2 Q[i].length c2, cap] wr fun e w' => e = .returned (.tuple #[]) ∧ Bits w' n1 135 (st k Q[i] (leI st k Q Tk i)) ∧ wr.grownBy w' (some n1)) := X
            rw [← HE.out] at HX
            have hn1r := hBi.lt
            clear r2 q1' hb2 X HE hbw
            generalize Q[i] = R at *
            go_wp2_with (go_at_call 111; refine HX.out.mono ?_; rintro e w5 ⟨rfl, hB5, hg5⟩)
            go_roundw
            case rel => exact ⟨i + 1, by omega, by go_num, hB5, hBAi.grown hg5 (by intro h; cases h; omega), hbi.grown hg5 (by omega) (fun j hj => by cases hj; omega), hBRi.grown hg5 (by intro h; cases h; exact HNR.out rfl)⟩
            case measure => simp [intOf]; omega
          · have e : i = Q.length := by omega
            subst e
            have HKe := HK
            clear HK
            go_wp2
            go_roundw
            case rel => exact ⟨k + 1, by omega, by go_num, by rw [HKe.out]; exact hBi, hBAi, hbi, hBRi⟩
            case measure => simp [intOf]; omega
      · have e : k = P.length := by omega
        subst e
        have hLl := (HRz.out.leK hTl P.length (Nat.le_refl _))
        have HL2 : Hid (leK st P T P.length = T ∨ cntB T < cntB (leK st P T P.length)) := hLl.2
        have hLl1 := hLl.1
        have HLG : Hid (Grows st P T0 (leK st P T P.length)) := HTG.out.leK _ (Nat.le_refl _)
        have HLc : Hid (cntB (leK st P T P.length) ≤ 540) := by show _ ≤ _; have := cntB_le (leK st P T P.length); omega
        clear hLl
        by_cases hfix : leK st P T P.length = T
        · have HX : Hid (leK st P T P.length = T) := hfix
          rw [hfix] at hBk
          clear hfix HL2 hLl1
          have hBel := (HQ.out wr hbk).2
          go_wp2_with (first | (refine wpList_loadW rfl 135 _ rfl n1 135 T rfl (at540S hTl) hBk ?_) | (refine wpList_loadW rfl 135 _ rfl nA 135 T rfl (at540S hTl) hBA ?_) | (refine wpList_eqlB rfl 135 _ _ _ rfl T T rfl rfl guard_tableS (eq_table540S hTl hTl) ?_; rw [decide_eq_true (rfl : T = T)]) | (refine wpList_storeB rfl 135 _ _ rfl nR 0 135 _ T rfl rfl (at540S hTl) hBR (by rw [List.length_replicate, hTl]; decide) ?_; intro w5 hB5 hg5))
          have e5 : putB (List.replicate 540 false) 0 T = T := putB_whole (by rw [List.length_replicate]; exact hTl)
          rw [e5] at hB5
          have hb5 : Below w.heap.size w w5 := hBel.grown hg5 hBel.size (fun j hj => by cases hj; exact HWR.out)
          refine bodyPost_ret (v := aggB T) (ret_cell 135 rfl rfl hB5 (at540S hTl)) rfl ⟨T, rfl, hTl, HTG.out, HX.out, hb5⟩
        · have hcnt : cntB T < cntB (leK st P T P.length) := HL2.out.resolve_left hfix
          have hdec : decide (leK st P T P.length = T) = false := decide_eq_false hfix
          clear hfix HL2
          generalize leK st P T P.length = T2 at *
          go_wp2_with (first | (refine wpList_loadW rfl 135 _ rfl n1 135 T2 rfl (at540S hLl1) hBk ?_) | (refine wpList_loadW rfl 135 _ rfl nA 135 T rfl (at540S hTl) hBA ?_) | (refine wpList_eqlB rfl 135 _ _ _ rfl T2 T rfl rfl guard_tableS (eq_table540S hLl1 hTl) ?_; rw [hdec]))
          go_roundg (gk - 1)
          case measure => have := HTg.out; have := HLc.out; omega
          case rel => exact ⟨T2, hLl1, by have := HTg.out; have := HLc.out; omega, HLG.out, hBk, hbk, hBR⟩
end Go.Proofs.YthnppodnjokaoaaGreatDoor
namespace Go.Proofs.YthnppodnjokaoaaGreatDoor
open Go.RowKit

set_option maxHeartbeats 2000000 in
set_option maxRecDepth 100000 in
theorem startsOf_any (P : List (List (List Int))) (a0 : Option Addr) (c0 : Nat) (w : World) (h0 : RD w (.slice a0 P.length c0) (slD (Lay.list (Lay.list Lay.int)) P)) (hok : gramOkB P = true) :
    Calls Tryz.prog 104 #[.agg #[.slice a0 P.length c0]] w fun e w' => ∃ T, e = .returned (aggB T) ∧ T.length = 540 ∧ Hid (∀ k, k < P.length → numsB (fun c => T.getD (k * 27 + c) false) 27 = (startsL P).getD k []) ∧ Below w.heap.size w w' := by
  have hfl := flagsOf_length (emptiesL P)
  have HIS : Hid (∀ T : List Bool, T.length = 540 → Grows (stR (flagsOf (emptiesL P))) P (List.replicate 540 false) T → leK (stR (flagsOf (emptiesL P))) P T P.length = T → ∀ k, k < P.length → numsB (fun c => T.getD (k * 27 + c) false) 27 = (startsL P).getD k []) := fun T h1 h2 h3 k hk => startsOf_is hok h1 h2 h3 hk
  have HE : Hid (∀ W : World, Below w.heap.size w W → Calls Tryz.prog 109 #[.agg #[.slice a0 P.length c0]] W fun e w' => e = .returned (aggB (flagsOf (emptiesL P))) ∧ Below W.heap.size W w') := fun W hW => emptiesOf_any P a0 c0 W (h0.later hW) hok
  have HRZ : Hid (Raises (stR (flagsOf (emptiesL P))) P 540) := stR_raises _ _
  have HCL : Hid (∀ (W0 : World) (bE : Nat), Bits W0 bE 119 (flagsOf (emptiesL P)) → ∀ (W : World) (b : Nat) (T : List Bool) (k : Nat) (hk : k < P.length) (i : Nat) (hi : i < P[k].length) (a : Option Addr) (c : Nat), Below W0.heap.size W0 W → W0.heap.size ≤ b → Bits W b 135 T → T.length = 540 → RD W0 (.slice a P[k][i].length c) (slD Lay.int P[k][i]) →
      Calls Tryz.prog 111 #[.pointer (some ⟨b, 0, none⟩), .int .i64 (k : Int), .slice a P[k][i].length c, .pointer (some ⟨bE, 0, none⟩)] W fun e w' => e = .returned (.tuple #[]) ∧ Bits w' b 135 (stR (flagsOf (emptiesL P)) k P[k][i] T) ∧ W.grownBy w' (some b)) := by
    intro W0 bE hE W b T k hk i hi a c hW hb hB hT hr
    have hp := (Fits.of hok).parts
    have hl8 := (Fits.of hok).rows _ (List.getElem_mem hk) _ (List.getElem_mem hi)
    have hlt := hE.lt
    exact startsStep_any b bE 119 T (flagsOf (emptiesL P)) k P[k][i] a c W hB hT (hE.later hW) (by rw [flagsOf_length]; decide) (by omega) (by omega) W0 hr.reads hW hb (fun z hz => by have := symsOk hok hk hi z hz; omega) (by omega)
  have HOK : Hid (gramOkB P = true) := hok
  have HR0 : Hid (RD w (.slice a0 P.length c0) (slD (Lay.list (Lay.list Lay.int)) P)) := h0
  have B0 := (Below.refl w.heap.size w).alloc (Nat.le_refl _) (.cells #[.slice a0 P.length c0] 29)
  have hsb : (w.alloc (.cells #[.slice a0 P.length c0] 29)).heap.size = w.heap.size + 1 := by simp
  have HQ0 : Hid ((w.alloc (.cells #[.slice a0 P.length c0] 29)).cell? ⟨w.heap.size, 0, none⟩ = some (.slice a0 P.length c0)) := by show _ = _; simp
  clear h0 hok
  generalize flagsOf (emptiesL P) = E at *
  go_enter Tryz.func104, Tryz.ntmps104
  go_wp2_with (refine wpList_allocB (w := w.alloc _) rfl 135 rfl 540 bt_table ?_; rw [hsb]; intro w1 hB1 hb1 hs1; have g1 := (hb1.cell (p := ⟨w.heap.size, 0, none⟩) (by simp)).trans HQ0.out)
  have b1 : Below w.heap.size w w1 := B0.trans (hb1.mono (by omega))
  refine (HE.out _ b1).mono ?_
  rintro e w2 ⟨rfl, hb2⟩
  have g2 := (hb2.cell (p := ⟨w.heap.size, 0, none⟩) (by simp; omega)).trans g1
  have b2 := b1.trans (hb2.mono b1.size)
  have hB2 := hB1.later hb2
  have hnr := hB2.lt
  clear HE HQ0 hB1 hb1 g1 B0 hb2 b1
  go_wp2_with (first | (refine wpList_allocB (w := w2) rfl 119 rfl 27 bt_flags ?_; intro w3 hB3 hb3 hs3) | (refine wpList_storeB (w := w3) rfl 119 _ _ rfl w2.heap.size 0 119 _ E rfl rfl (at27 hfl) hB3 (by simp [hfl]) ?_; intro w4 hB4 hg4; have g4 : w4.cell? ⟨w.heap.size, 0, none⟩ = some (.slice a0 P.length c0) := (World.cell?_of_block (w := w3) (a := ⟨w.heap.size, 0, none⟩) (hg4.block w.heap.size (by omega) (some_ne (by omega)))).trans ((hb3.cell (p := ⟨w.heap.size, 0, none⟩) (by simp; omega)).trans g2)) | (refine wpList_build0 rfl 135 119 540 20 27 rfl bt_table u_table bt_flags.size ?_))
  have e4 : putB (List.replicate 27 false) 0 E = E := putB_whole (by simp [hfl])
  rw [e4] at hB4
  have b4 : Below w.heap.size w w4 := (b2.trans (hb3.mono b2.size)).grown hg4 (by have := b2.size; omega) (fun j hj => by cases hj; exact b2.size)
  have hBR : Bits w4 (w.heap.size + 1) 135 (List.replicate 540 false) := (hB2.later hb3).grown hg4 (some_ne (by omega))
  refine (least_S (stR E) (.pointer (some ⟨w2.heap.size, 0, none⟩)) P a0 c0 (List.replicate 540 false) w4 (HR0.out.later b4) HOK.out List.length_replicate HRZ.out (fun W b T k hk i hi a c h1 h2 h3 h4 h5 => HCL.out w4 w2.heap.size hB4 W b T k hk i hi a c h1 h2 h3 h4 h5)).mono ?_
  rintro e w5 ⟨T, rfl, hTl, hG, hfx, hb5⟩
  have HI : Hid (∀ k, k < P.length → numsB (fun c => T.getD (k * 27 + c) false) 27 = (startsL P).getD k []) := HIS.out T hTl hG hfx
  have b5 := b4.trans (hb5.mono b4.size)
  have hB5 := hBR.later hb5
  clear hG hfx hb5 hBR hB4 hg4 hb3 hs3 hB3 hB2 b2 b4 HIS HCL HRZ HR0 HOK g4 e4
  go_wp2_with (refine wpList_storeB (w := w5) rfl 135 _ _ rfl (w.heap.size + 1) 0 135 _ T rfl rfl (at540S hTl) hB5 (by rw [List.length_replicate, hTl]; decide) ?_; intro w6 hB6 hg6)
  have e6 : putB (List.replicate 540 false) 0 T = T := putB_whole (by rw [List.length_replicate]; exact hTl)
  rw [e6] at hB6
  have b6 : Below w.heap.size w w6 := b5.grown hg6 b5.size (fun j hj => by cases hj; omega)
  refine bodyPost_ret (v := aggB T) (ret_cell 135 rfl rfl hB6 (at540S hTl)) rfl ⟨T, rfl, hTl, HI, b6⟩
end Go.Proofs.YthnppodnjokaoaaGreatDoor
