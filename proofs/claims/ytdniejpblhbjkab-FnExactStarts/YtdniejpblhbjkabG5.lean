/-
  Contracts and plain mathematics, joined: EmptiesOf, EmptiesMath, StartsMath, SpecL5Starts, SpecStarts, StartsClosed, JoinB, StartsB, StartsUp. No statement is proved here.
-/
import Derived.Test.YtdniejpblhbjkabG4
import Derived.Test.YtdniejpblhbjkabG3
import Derived.Test.YtdniejpblhbjkabG2
namespace Go.Proofs.Ytdniejpblhbjkab
open Go.RowKit

/-- One row's step. -/
def eS (k : Nat) (row : List Int) (T : List Bool) : List Bool := bstep T (k, fun b => allB b row)
theorem eS_raises (P : List (List (List Int))) : Raises eS P 27 := fun k _ i _ T hT => ⟨by rw [eS, bstep_length]; exact hT, bstep_or _ _⟩

set_option maxHeartbeats 4000000 in
set_option maxRecDepth 100000 in
theorem emptiesOf_grow (P : List (List (List Int))) (a0 : Option Addr) (c0 : Nat) (w : World) (h0 : RD w (.slice a0 P.length c0) (slD (Lay.list (Lay.list Lay.int)) P)) (hok : gramOkB P = true) :
    Calls Try.prog 54 #[.agg #[.slice a0 P.length c0]] w fun e w' => ∃ T, e = .returned (aggB T) ∧ T.length = 27 ∧ Grows eS P (List.replicate 27 false) T ∧ leK eS P T P.length = T ∧ Below w.heap.size w w' := by
  have HX : Hid (∀ W : World, Below w.heap.size w W → Calls Try.prog 63 #[.agg #[.slice a0 P.length c0], .func (.func 68) #[] #[]] W fun e w' => ∃ T, e = .returned (aggB T) ∧ T.length = 27 ∧ Grows eS P (List.replicate 27 false) T ∧ leK eS P T P.length = T ∧ Below W.heap.size W w') := by
    intro W hW
    have F := Fits.of hok
    refine leastParts_E allB P a0 c0 W (h0.later hW) hok (fun W2 T k hk i hi a c hb hT hr => ?_)
    have hm := List.getElem_mem hk
    have hm2 := List.getElem_mem hi
    have h8 := F.rows _ hm _ hm2
    exact allOf_any _ a c T W2 (hr.later hb).reads (by omega) (fun z hz => by have := F.syms _ hm _ hm2 z hz; omega) hT
  have B0 := (Below.refl w.heap.size w).alloc (Nat.le_refl _) (.cells #[.slice a0 P.length c0] 28)
  have hsb : (w.alloc (.cells #[.slice a0 P.length c0] 28)).heap.size = w.heap.size + 1 := by simp
  have HQ0 : Hid ((w.alloc (.cells #[.slice a0 P.length c0] 28)).cell? ⟨w.heap.size, 0, none⟩ = some (.slice a0 P.length c0)) := by show _ = _; simp
  clear h0 hok
  go_enter Try.func54, Try.ntmps54
  go_wp2_with (first | (refine wpList_allocB (w := w.alloc _) rfl 47 rfl 27 bt_flags ?_; rw [hsb]; intro w1 hB1 hb1 hs1; have q1 := (hb1.cell (p := ⟨w.heap.size, 0, none⟩) (by simp)).trans HQ0.out) | (go_at_call 63; refine (HX.out _ (B0.trans (hb1.mono (by omega)))).mono ?_; rintro e w2 ⟨T, rfl, hTl, hG, hF, hb2⟩; have hB2 := hB1.later hb2) | (refine wpList_storeB (w := w2) rfl 47 _ _ rfl (w.heap.size + 1) 0 47 _ T rfl rfl (at27 hTl) hB2 (by simp [hTl]) ?_; intro w3 hB3 hg3))
  have e5 : putB (List.replicate 27 false) 0 T = T := putB_whole (by simp [hTl])
  rw [e5] at hB3
  have b1 : Below w.heap.size w w1 := B0.trans (hb1.mono (by omega))
  have b2 : Below w.heap.size w w2 := b1.trans (hb2.mono b1.size)
  have b3 : Below w.heap.size w w3 := b2.grown hg3 b2.size (fun j hj => by cases hj; omega)
  exact bodyPost_ret (v := aggB T) (ret_cell 47 rfl rfl hB3 (at27 hTl)) rfl ⟨T, rfl, hTl, hG, hF, b3⟩
end Go.Proofs.Ytdniejpblhbjkab
namespace Go.Proofs.Ytdniejpblhbjkab
open Go.RowKit

theorem emptiesL_mem {P : List (List (List Int))} (F : Fits P) {x : Int} (h : x ∈ emptiesL P) : 0 ≤ x ∧ x < 20 := by
  have := (growT_setB (p := allE) P (P.length + 1)).lt x h
  have := F.parts
  omega
theorem rep_getD (m n : Nat) : (List.replicate m false).getD n false = false := by
  rw [List.getD_eq_getElem?_getD, List.getElem?_replicate]
  split <;> rfl
theorem getD_setB (T : List Bool) (k n : Nat) (v : Bool) : (T.set k v).getD n false = if n = k ∧ k < T.length then v else T.getD n false := by
  by_cases e : n = k
  · subst e
    by_cases h : n < T.length
    · simp [List.getD, h]
    · simp [List.getD, h]
  · simp [List.getD, e, Ne.symm e]
theorem allB_of {T : List Bool} {E row : List Int} (hz : ∀ z ∈ row, 0 ≤ z ∧ z < 120) (h : ∀ n : Nat, (n : Int) ∈ E → T.getD n false = true) (g : allE row E = true) : allB T row = true := by
  unfold allE at g
  unfold allB
  rw [List.all_eq_true] at g ⊢
  intro x hx
  have h1 := g x hx
  have h2 := hz x hx
  simp only [Bool.and_eq_true, decide_eq_true_eq] at h1 ⊢
  refine ⟨⟨h1.1, by omega⟩, h _ ?_⟩
  have h3 : x - 100 ∈ E := by simpa [hasL] using h1.2
  rwa [show (((x - 100).toNat : Nat) : Int) = x - 100 by omega]
theorem allE_of {T : List Bool} {E row : List Int} (h : ∀ n : Nat, T.getD n false = true → (n : Int) ∈ E) (g : allB T row = true) : allE row E = true := by
  unfold allB at g
  unfold allE
  rw [List.all_eq_true] at g ⊢
  intro x hx
  have h1 := g x hx
  simp only [Bool.and_eq_true, decide_eq_true_eq] at h1 ⊢
  refine ⟨h1.1.1, ?_⟩
  have h3 := h _ h1.2
  rw [show (((x - 100).toNat : Nat) : Int) = x - 100 by omega] at h3
  exact hasL_yes h3
theorem emptiesOf_is {P : List (List (List Int))} (F : Fits P) {T : List Bool} (hl : T.length = 27) (hG : Grows eS P (List.replicate 27 false) T) (hx : leK eS P T P.length = T) : T = flagsOf (emptiesL P) := by
  have sound : ∀ n : Nat, T.getD n false = true → (n : Int) ∈ emptiesL P := by
    refine hG (fun T => ∀ n : Nat, T.getD n false = true → (n : Int) ∈ emptiesL P) (fun n hn => ?_) (fun k hk i hi T hT n hn => ?_)
    · rw [rep_getD] at hn; cases hn
    · simp only [eS, bstep] at hn
      rw [getD_setB] at hn
      split at hn
      · rename_i e
        rw [Bool.or_eq_true] at hn
        rcases hn with hn | hn
        · rw [e.1]; exact hT k hn
        · rw [e.1]; exact growT_closed hk hi (allE_of hT hn)
      · exact hT n hn
  have fix : ∀ k (hk : k < P.length) i (hi : i < P[k].length), allB T P[k][i] = true → T.getD k false = true := by
    intro k hk i hi ha
    have e := (eS_raises P).fix hl hx hk hi
    have h20 := F.parts
    have := bstep_fix (s := (k, fun b => allB b P[k][i])) e (by show k < T.length; omega) ha
    simp only [List.getD, List.getElem?_eq_getElem (show k < T.length by omega), Option.getD_some]
    exact this
  have compl : ∀ x ∈ emptiesL P, ∃ n : Nat, x = n ∧ T.getD n false = true := by
    refine growT_sound (p := allE) (S := fun x => ∃ n : Nat, x = n ∧ T.getD n false = true) (fun k hk i hi E hE ha => ⟨k, rfl, fix k hk i hi ?_⟩) _
    refine allB_of (E := E) (F.syms _ (List.getElem_mem hk) _ (List.getElem_mem hi)) (fun n hn => ?_) ha
    obtain ⟨m, hm, h⟩ := hE _ hn
    rwa [show n = m by omega]
  apply list_ext_getD (by rw [hl, flagsOf_length])
  intro n hn
  rw [flagsOf_get _ (by omega), Bool.eq_iff_iff]
  constructor
  · intro h; exact hasL_yes (sound n h)
  · intro h
    obtain ⟨m, hm, h2⟩ := compl n (by simpa [hasL] using h)
    rwa [show n = m by omega]
theorem nums_flags {E : List Int} (hs : E.Pairwise (· < ·)) (hb : ∀ x ∈ E, 0 ≤ x ∧ x < 27) {f : Nat → Bool} (hf : ∀ n, n < 27 → f n = hasL E (n : Int)) : numsB f 27 = E := by
  refine eq_of_pair (numsB_sorted _ _) hs fun z => ?_
  rw [mem_numsB]
  constructor
  · rintro ⟨n, h1, rfl, h2⟩
    rw [hf n h1] at h2
    simpa [hasL] using h2
  · intro h
    have hz := hb z h
    refine ⟨z.toNat, by omega, by omega, ?_⟩
    rw [hf _ (by omega), show ((z.toNat : Nat) : Int) = z by omega]
    exact hasL_yes h
theorem allB_flags {E : List Int} (hb : ∀ x ∈ E, 0 ≤ x ∧ x < 20) (row : List Int) : allB (flagsOf E) row = allE row E := by
  unfold allB allE
  congr 1
  funext x
  by_cases h1 : 100 ≤ x
  · by_cases h2 : x - 100 < 20
    · rw [flagsOf_get _ (by omega), show (((x - 100).toNat : Nat) : Int) = x - 100 by omega]
      simp [h1, h2]
    · have : hasL E (x - 100) = false := hasL_no (fun h => by have := hb _ h; omega)
      simp [h2, this]
  · simp [h1]

set_option maxRecDepth 100000 in
theorem emptiesOf_any (P : List (List (List Int))) (a0 : Option Addr) (c0 : Nat) (w : World) (h0 : RD w (.slice a0 P.length c0) (slD (Lay.list (Lay.list Lay.int)) P)) (hok : gramOkB P = true) :
    Calls Try.prog 54 #[.agg #[.slice a0 P.length c0]] w fun e w' => e = .returned (aggB (flagsOf (emptiesL P))) ∧ Below w.heap.size w w' := by
  refine (emptiesOf_grow P a0 c0 w h0 hok).mono ?_
  rintro e w' ⟨T, rfl, h1, h2, h3, h4⟩
  exact ⟨by rw [emptiesOf_is (Fits.of hok) h1 h2 h3], h4⟩
end Go.Proofs.Ytdniejpblhbjkab
namespace Go.Proofs.Ytdniejpblhbjkab
open Go.RowKit

/-- One symbol's part of a turn. -/
def stS (k : Nat) (x : Int) (M : List (List Int)) : List (List Int) := M.set k (joinL (addL (M.getD k []) (x - 100)) (M.getD (x - 100).toNat []))
def stRow (E : List Int) (k : Nat) : List (List Int) → List Int → List (List Int)
  | M, [] => M
  | M, x :: xs => if 100 ≤ x then (if hasL E (x - 100) then stRow E k (stS k x M) xs else stS k x M) else M
def stI (E : List Int) (k : Nat) (Q : List (List Int)) (M : List (List Int)) : Nat → List (List Int)
  | 0 => M
  | i + 1 => stRow E k (stI E k Q M i) (Q.getD i [])
def stK (E : List Int) (P : List (List (List Int))) (M : List (List Int)) : Nat → List (List Int)
  | 0 => M
  | k + 1 => stI E k (P.getD k []) (stK E P M k) (P.getD k []).length
def stT (E : List Int) (P : List (List (List Int))) : Nat → List (List Int)
  | 0 => List.replicate P.length []
  | t + 1 => stK E P (stT E P t) P.length
theorem stRow_end {E : List Int} {k j : Nat} {M : List (List Int)} {R : List Int} (h : ¬ j < R.length) : stRow E k M (R.drop j) = M := by rw [List.drop_eq_nil_of_le (by omega), stRow]
theorem stRow_letter {E : List Int} {k j : Nat} {M : List (List Int)} {R : List Int} (h : j < R.length) (g : ¬ 100 ≤ R[j]) : stRow E k M (R.drop j) = M := by rw [List.drop_eq_getElem_cons h, stRow, if_neg g]
theorem stRow_go {E : List Int} {k j : Nat} {M : List (List Int)} {R : List Int} (h : j < R.length) (g : 100 ≤ R[j]) (g2 : hasL E (R[j] - 100) = true) : stRow E k M (R.drop j) = stRow E k (stS k R[j] M) (R.drop (j + 1)) := by rw [List.drop_eq_getElem_cons h, stRow, if_pos g, if_pos g2]
theorem stRow_stop {E : List Int} {k j : Nat} {M : List (List Int)} {R : List Int} (h : j < R.length) (g : 100 ≤ R[j]) (g2 : hasL E (R[j] - 100) = false) : stRow E k M (R.drop j) = stS k R[j] M := by rw [List.drop_eq_getElem_cons h, stRow, if_pos g, if_neg (by simp [g2])]
theorem stS_sets {k n : Nat} {x : Int} {M : List (List Int)} (h : Sets n M) (h0 : 100 ≤ x) (h1 : x < 120) : Sets n (stS k x M) := h.set ((h.get.add (by omega) (by omega)).join h.get)
theorem stRow_sets {E : List Int} {k n : Nat} : ∀ {R : List Int} {M : List (List Int)}, Sets n M → (∀ z ∈ R, 0 ≤ z ∧ z < 120) → Sets n (stRow E k M R)
  | [], M, h, _ => by rw [stRow]; exact h
  | x :: xs, M, h, hz => by
    rw [stRow]
    split
    · have hx := hz x List.mem_cons_self
      have hs := stS_sets (k := k) h ‹_› hx.2
      split
      · exact stRow_sets hs (fun z hz2 => hz z (List.mem_cons_of_mem _ hz2))
      · exact hs
    · exact h
theorem stI_next {E : List Int} {k i : Nat} {Q M : List (List Int)} (h : i < Q.length) : stI E k Q M (i + 1) = stRow E k (stI E k Q M i) Q[i] := by
  have e : Q.getD i [] = Q[i] := by simp [List.getD, h]
  rw [stI, e]
theorem stK_next {E : List Int} {k : Nat} {P : List (List (List Int))} {M : List (List Int)} (h : k < P.length) : stK E P M (k + 1) = stI E k P[k] (stK E P M k) P[k].length := by
  have e : P.getD k [] = P[k] := by simp [List.getD, h]
  rw [stK, e]
theorem stI_sets {E : List Int} {k n : Nat} {Q : List (List Int)} {M : List (List Int)} (h : Sets n M) (hq : ∀ row ∈ Q, ∀ z ∈ row, 0 ≤ z ∧ z < 120) (i : Nat) (hi : i ≤ Q.length) : Sets n (stI E k Q M i) := by
  induction i with
  | zero => exact h
  | succ i ih => rw [stI_next (by omega)]; exact stRow_sets (ih (by omega)) (hq _ (List.getElem_mem _))
theorem stK_sets {E : List Int} {n : Nat} {P : List (List (List Int))} {M : List (List Int)} (h : Sets n M) (F : Fits P) (k : Nat) (hk : k ≤ P.length) : Sets n (stK E P M k) := by
  induction k with
  | zero => exact h
  | succ k ih => rw [stK_next (by omega)]; exact stI_sets (ih (by omega)) (F.syms _ (List.getElem_mem _)) _ (Nat.le_refl _)
theorem stT_sets (E : List Int) {P : List (List (List Int))} (F : Fits P) : ∀ t, Sets P.length (stT E P t)
  | 0 => ⟨by simp [stT], fun m hm => by rw [(List.mem_replicate.1 hm).2]; exact SetB.nil _⟩
  | t + 1 => stK_sets (stT_sets E F t) F _ (Nat.le_refl _)
theorem stS_at {k n : Nat} {x : Int} {M : List (List Int)} (hk : k < M.length) (hx : x - 100 = (n : Int)) (hn : n < M.length) : stS k x M = M.set k (joinL (addL M[k] (n : Int)) M[n]) := by
  have e1 : M.getD k [] = M[k] := by simp [List.getD, hk]
  have e2 : M.getD (x - 100).toNat [] = M[n] := by rw [hx]; simp [List.getD, hn]
  rw [stS, e1, e2, hx]
def startsL (P : List (List (List Int))) : List (List Int) := stT (emptiesL P) P (P.length + 1)
end Go.Proofs.Ytdniejpblhbjkab
namespace Go.Proofs.Ytdniejpblhbjkab
open Go.RowKit

theorem OD.partsI {w : World} {base : Nat} {v : Value} {xs : List Int} {S : Nat → Prop} (h : OD w base v (slD Lay.int xs) S) : PartsI w v xs := by
  have r := h.rd
  obtain ⟨a, c, rfl, _⟩ := OD.shapeL h
  have rr := r.reads
  unfold slD at h
  generalize hd : Dat.sl xs.length (xs.flatMap Lay.int.cells) = d at h
  generalize hv : Value.slice a xs.length c = v at h
  cases h with
  | val u => cases hd
  | nil n h0 =>
    injection hv with e1 e2 e3
    subst e1
    subst e3
    have e4 : xs = [] := List.eq_nil_of_length_eq_zero e2
    subst e4
    exact .inl ⟨rfl, rfl⟩
  | row e sz g n c' cs vs F S ho hl hr hdj hg hS =>
    injection hv with e1 e2 e3
    subst e1
    subst e3
    obtain hx | ⟨g', cap, cur, he, hb, hgb, hnc, hcm, _⟩ := ho.2
    · cases hx.1
    · cases he
      refine .inr ⟨g, c, by rw [e2], by rw [e2]; exact hnc, hcm, (Array.getElem?_eq_some_iff.1 hgb).1, fun i hi => ?_⟩
      obtain ⟨b, off, e5, _, hc⟩ := rr.at hi
      cases e5
      simpa using hc i hi

set_option maxHeartbeats 8000000 in
set_option maxRecDepth 100000 in
theorem l5Starts_any (P : List (List (List Int))) (a0 : Option Addr) (c0 : Nat) (w : World) (h0 : RD w (.slice a0 P.length c0) (slD (Lay.list (Lay.list Lay.int)) P)) (hok : gramOkB P = true) :
    Calls Try.prog 42 #[.agg #[.slice a0 P.length c0]] w fun e w' => ∃ v S, e = .returned v ∧ OD w' w.heap.size v (slD (Lay.list Lay.int) (startsL P)) S ∧ Below w.heap.size w w' := by
  have F := Fits.of hok
  have HF : Hid (Fits P) := F
  have HSY : Hid (∀ alts ∈ P, ∀ row ∈ alts, ∀ z ∈ row, 100 ≤ z → z - 100 < P.length) := by
    intro alts h1 row h2 z h3 h4
    simp only [gramOkB, Bool.and_eq_true, List.all_eq_true, partOk, rowOk, decide_eq_true_eq] at hok
    have := symOk_true.1 (((hok.2 alts h1).2 row h2).2 z h3)
    omega
  have hp := F.parts
  have hEl := emptiesL_le F
  have B0 := (Below.refl w.heap.size w).alloc (Nat.le_refl _) (.cells #[.slice a0 P.length c0] 28)
  have HE0 : Hid (Calls Try.prog 30 #[.agg #[.slice a0 P.length c0]] (w.alloc (.cells #[.slice a0 P.length c0] 28)) fun e w' => ∃ v, e = .returned v ∧ OwnInts w' (w.heap.size + 1) 3 v (emptiesL P) ∧ Below (w.heap.size + 1) (w.alloc (.cells #[.slice a0 P.length c0] 28)) w') := by
    have := l5Empties_any P a0 c0 (w.alloc (.cells #[.slice a0 P.length c0] 28)) (h0.later B0) hok
    show Calls _ _ _ _ _
    simpa using this
  have HR0 : Hid (RD w (.slice a0 P.length c0) (slD (Lay.list (Lay.list Lay.int)) P)) := h0
  have HFL : Hid (startsL P = stT (emptiesL P) P (P.length + 1)) := rfl
  clear F hok h0
  generalize emptiesL P = E at *
  go_enter Try.func42, Try.ntmps42
  go_wp2_with fail
  refine HE0.out.mono ?_
  rintro e w2 ⟨vE, rfl, hOE, hb2⟩
  have hb2' : Below w.heap.size w w2 := B0.trans (hb2.mono (by omega))
  have g2 : w2.cell? ⟨w.heap.size, 0, none⟩ = some (.slice a0 P.length c0) := (hb2.cell (p := ⟨w.heap.size, 0, none⟩) (by simp)).trans (by simp)
  have hwl : w.heap.size < w2.heap.size := World.block_lt_of_cell? w2 _ g2
  obtain ⟨aE, cE, rfl, hrE, _⟩ := hOE.shape
  have HRE : Hid (Reads w2 aE E) := hrE
  have HR : Hid (RD w2 (.slice a0 P.length c0) (slD (Lay.list (Lay.list Lay.int)) P)) := HR0.out.later hb2'
  obtain ⟨W, hmk, O0, BW⟩ := make_ownL (P := Try.prog) w2 43 25 (.slice none 0 0) 24 [.slice none 0 0] [.sl 0 []] P.length Try.underlying43 Try.infoIntS rfl (by decide) (by omega) (by decide) (by intro u hu; simp at hu; subst hu; rfl) rfl
    (by intro W base i hi hi'; match i, hi with | 0, _ => exact .nil 0 rfl)
  rw [zero_cells (L := Lay.list Lay.int) (z := []) (zd := [.sl 0 []]) rfl] at O0
  have HO0 : Hid (∃ S, OL W w2.heap.size 25 1 (.slice (some ⟨w2.heap.size, 0, none⟩) P.length P.length) P.length ((stT E P 0).flatMap (Lay.list Lay.int).cells) S) := ⟨_, O0⟩
  have HBW : Hid (Below w2.heap.size w2 W) := BW
  clear HE0 HR0 hOE hb2 hrE O0 BW B0
  go_wp2
  clear hmk
  go_loopw [5] (fun st wr => ∃ t : Nat, t ≤ P.length + 1 ∧ st = .int .i64 t ∧ Hid (∃ S, OL wr w2.heap.size 25 1 (.slice (some ⟨w2.heap.size, 0, none⟩) P.length P.length) P.length ((stT E P t).flatMap (Lay.list Lay.int).cells) S) ∧ Below w2.heap.size w2 wr) (fun st _ => P.length + 1 - (intOf st).toNat)
  case atStart => exact ⟨0, Nat.zero_le _, rfl, HO0, HBW.out⟩
  case round =>
    obtain ⟨t, ht, rfl, HO, hbel⟩ := hrel
    clear HO0 HBW
    have g0 := (hbel.cell (p := ⟨w.heap.size, 0, none⟩) hwl).trans g2
    have hgl : w.heap.size < wr.heap.size := Nat.lt_of_lt_of_le hwl hbel.size
    by_cases hlt : t ≤ P.length
    · have HT : Hid (stT E P (t + 1) = stK E P (stT E P t) P.length) := rfl
      have HSt : Hid (Sets P.length (stT E P t)) := stT_sets E HF.out t
      generalize stT E P t = M at *
      go_wp2
      go_loopw [6] (fun sk wr => ∃ k : Nat, k ≤ P.length ∧ sk = .int .i64 k ∧ Hid (∃ S, OL wr w2.heap.size 25 1 (.slice (some ⟨w2.heap.size, 0, none⟩) P.length P.length) P.length ((stK E P M k).flatMap (Lay.list Lay.int).cells) S) ∧ Below w2.heap.size w2 wr) (fun sk _ => P.length - (intOf sk).toNat)
      case atStart => exact ⟨0, Nat.zero_le _, rfl, HO, hbel⟩
      case round =>
        obtain ⟨k, hk, rfl, HOk, hbk⟩ := hrel
        clear HO hbel g0 hgl
        have g0 := (hbk.cell (p := ⟨w.heap.size, 0, none⟩) hwl).trans g2
        have hgl : w.heap.size < wr.heap.size := Nat.lt_of_lt_of_le hwl hbk.size
        by_cases hlk : k < P.length
        · have HK : Hid (stK E P M (k + 1) = stI E k P[k] (stK E P M k) P[k].length) := stK_next hlk
          have HSk : Hid (Sets P.length (stK E P M k)) := stK_sets HSt.out HF.out k hk
          have hm := List.getElem_mem hlk
          have hQ := HF.out.alts _ hm
          have HQr : Hid (∀ row ∈ P[k], row.length ≤ 8) := HF.out.rows _ hm
          have HQs : Hid (∀ row ∈ P[k], ∀ z ∈ row, 0 ≤ z ∧ z < 120) := HF.out.syms _ hm
          have HQy : Hid (∀ row ∈ P[k], ∀ z ∈ row, 100 ≤ z → z - 100 < P.length) := HSY.out _ hm
          obtain ⟨b1, o1, rfl, hb1, a1, c1, q0', r1⟩ := HR.out.listAt hlk
          have HR1 : Hid (RD w2 (.slice a1 P[k].length c1) (slD (Lay.list Lay.int) P[k])) := r1
          have q0 := (hbk.cell (p := ⟨b1, o1 + k, none⟩) hb1).trans q0'
          clear r1 hm
          generalize stK E P M k = Mk0 at *
          generalize P[k] = Q at *
          go_wp2
          clear q0
          go_loopw [7] (fun si wr => ∃ i : Nat, i ≤ Q.length ∧ si = .int .i64 i ∧ Hid (∃ S, OL wr w2.heap.size 25 1 (.slice (some ⟨w2.heap.size, 0, none⟩) P.length P.length) P.length ((stI E k Q Mk0 i).flatMap (Lay.list Lay.int).cells) S) ∧ Below w2.heap.size w2 wr) (fun si _ => Q.length - (intOf si).toNat)
          case atStart => exact ⟨0, Nat.zero_le _, rfl, HOk, hbk⟩
          case round =>
            obtain ⟨i, hi, rfl, HOi, hbi⟩ := hrel
            clear HOk hbk g0 hgl
            have g0 := (hbi.cell (p := ⟨w.heap.size, 0, none⟩) hwl).trans g2
            have hgl : w.heap.size < wr.heap.size := Nat.lt_of_lt_of_le hwl hbi.size
            have q0 := (hbi.cell (p := ⟨b1, o1 + k, none⟩) hb1).trans q0'
            by_cases hli : i < Q.length
            · have hm := List.getElem_mem hli
              have hr8 := HQr.out _ hm
              have HRs : Hid (∀ z ∈ Q[i], 0 ≤ z ∧ z < 120) := HQs.out _ hm
              have HRy : Hid (∀ z ∈ Q[i], 100 ≤ z → z - 100 < P.length) := HQy.out _ hm
              have HSi : Hid (Sets P.length (stI E k Q Mk0 i)) := stI_sets HSk.out HQs.out i hi
              have HN : Hid (stI E k Q Mk0 (i + 1) = stRow E k (stI E k Q Mk0 i) Q[i]) := stI_next hli
              obtain ⟨b2, o2, rfl, hb2, a2, c2, q1', r2⟩ := HR1.out.listAt hli
              have q1 := (hbi.cell (p := ⟨b2, o2 + i, none⟩) hb2).trans q1'
              have HRR : Hid (Reads w2 a2 Q[i]) := r2.reads
              clear r2 q1' hm
              generalize stI E k Q Mk0 i = M1 at *
              generalize Q[i] = R at *
              go_wp2
              clear q0 q1
              go_loopw [9] (fun sj wr => ∃ (j : Nat) (M2 : List (List Int)), j ≤ R.length ∧ sj = .int .i64 j ∧ Hid (Sets P.length M2 ∧ stRow E k M1 R = stRow E k M2 (R.drop j)) ∧ Hid (∃ S, OL wr w2.heap.size 25 1 (.slice (some ⟨w2.heap.size, 0, none⟩) P.length P.length) P.length ((M2).flatMap (Lay.list Lay.int).cells) S) ∧ Below w2.heap.size w2 wr) (fun sj _ => R.length - (intOf sj).toNat)
              case atStart => exact ⟨0, M1, Nat.zero_le _, rfl, ⟨HSi.out, rfl⟩, HOi, hbi⟩
              case round =>
                obtain ⟨j, M2, hj, rfl, HM, HOj, hbj⟩ := hrel
                clear HOi hbi g0 hgl
                have g0 := (hbj.cell (p := ⟨w.heap.size, 0, none⟩) hwl).trans g2
                have hgl : w.heap.size < wr.heap.size := Nat.lt_of_lt_of_le hwl hbj.size
                by_cases hlj : j < R.length
                · obtain ⟨b3, o3, rfl, hb3, hc3⟩ := (HRR.out.below hbj).at hlj
                  have q4 := hc3 j hlj
                  rw [List.getD_eq_getElem?_getD, List.getElem?_eq_getElem hlj, Option.getD_some] at q4
                  have hz := HRs.out _ (List.getElem_mem hlj)
                  have hy := HRy.out _ (List.getElem_mem hlj)
                  have L0 : Hid (¬ 100 ≤ R[j] → stRow E k M1 R = M2) := fun g => HM.out.2.trans (stRow_letter hlj g)
                  have L1 : Hid (100 ≤ R[j] → hasL E (R[j] - 100) = true → stRow E k M1 R = stRow E k (stS k R[j] M2) (R.drop (j + 1))) := fun g g2 => HM.out.2.trans (stRow_go hlj g g2)
                  have L2 : Hid (100 ≤ R[j] → hasL E (R[j] - 100) = false → stRow E k M1 R = stS k R[j] M2) := fun g g2 => HM.out.2.trans (stRow_stop hlj g g2)
                  have HM1 : Hid (Sets P.length M2) := HM.out.1
                  clear hc3 HM
                  generalize R[j] = z at *
                  by_cases z1 : 100 ≤ z
                  · obtain ⟨n, hn⟩ : ∃ n : Nat, z - 100 = (n : Int) := ⟨(z - 100).toNat, by omega⟩
                    have hnP : n < P.length := by have := hy z1; omega
                    have hM2 : M2.length = P.length := HM1.out.1
                    have hkM : k < M2.length := by omega
                    have hnM : n < M2.length := by omega
                    have HSS : Hid (Sets P.length (stS k z M2)) := stS_sets HM1.out z1 hz.2
                    have HAT : Hid (stS k z M2 = M2.set k (joinL (addL M2[k] (n : Int)) M2[n])) := stS_at hkM hn hnM
                    obtain ⟨S, HOL⟩ := HOj.out
                    have hOD : OD wr w2.heap.size (.slice (some ⟨w2.heap.size, 0, none⟩) P.length P.length) (slD (Lay.list Lay.int) M2) S := by
                      have := HOL.od; unfold slD; rw [hM2]; exact this
                    obtain ⟨a3, c3, T3, q2, O3, _, _⟩ := hOD.listInto hkM
                    obtain ⟨a6, c6, T6, q3, O6, _, _⟩ := hOD.listInto hnM
                    have hw2r : w2.heap.size < wr.heap.size := World.block_lt_of_cell? wr _ q2
                    have hMk27 : M2[k].length ≤ 27 := (HM1.out.2 _ (List.getElem_mem hkM)).len (n := 27)
                    have hMn27 : M2[n].length ≤ 27 := (HM1.out.2 _ (List.getElem_mem hnM)).len (n := 27)
                    have hadd := addL_length_le M2[k] (n : Int)
                    have XA : Hid (∀ W : World, Below wr.heap.size wr W → Calls Try.prog 45 #[.slice a3 M2[k].length c3, .int .i64 (n : Int)] W fun e w' => ∃ v', e = .returned v' ∧ OwnInts w' W.heap.size 3 v' (addL M2[k] (n : Int)) ∧ Below W.heap.size W w') := fun W hW => specSetAdd_p _ M2[k] (n : Int) W (O3.later hW).partsI (by omega)
                    have YY : Hid (∀ (W : World) (a4 : Option Addr) (c4 : Nat), Below wr.heap.size wr W → Reads W a4 (addL M2[k] (n : Int)) → Calls Try.prog 50 #[.slice a4 (addL M2[k] (n : Int)).length c4, .slice a6 M2[n].length c6] W fun e w' => ∃ v', e = .returned v' ∧ OwnInts w' W.heap.size 3 v' (joinL (addL M2[k] (n : Int)) M2[n]) ∧ Below W.heap.size W w') := fun W a4 c4 hW hr => specSetJoin_r a4 c4 a6 c6 _ _ W hr ((O6.rd.later hW).reads) (by omega) (by omega)
                    have HPUT : Hid (∀ (W : World) (v : Value), Below wr.heap.size wr W → OwnInts W wr.heap.size 3 v (joinL (addL M2[k] (n : Int)) M2[n]) → ∃ S', OL (W.setCell ⟨w2.heap.size, k, none⟩ v) w2.heap.size 25 1 (.slice (some ⟨w2.heap.size, 0, none⟩) P.length P.length) P.length ((stS k z M2).flatMap (Lay.list Lay.int).cells) S' ∧ W.frozen? ⟨w2.heap.size, k, none⟩ = false ∧ ∃ z, W.cell? ⟨w2.heap.size, k, none⟩ = some z) := by
                      intro W v hW hO
                      obtain ⟨S', h1, _, _, _, h5, h6⟩ := (HOL.later hW).putList hkM v (joinL (addL M2[k] (n : Int)) M2[n]) _ ((hO.od).base (by omega)) (fun x hx hx2 => by
                        have l1 := (hO.od.lt x hx).1; have l2 := (HOL.lt x hx2).2; omega)
                      refine ⟨S', ?_, h6, h5⟩
                      rw [HAT.out]
                      exact h1
                    have XH : Hid (∀ W : World, Below w2.heap.size w2 W → Calls Try.prog 47 #[.slice aE E.length cE, .int .i64 (n : Int)] W fun e w' => e = .returned (.bool (hasL E n)) ∧ w' = W) := fun W hW => specSetHas_same aE cE E (n : Int) W (HRE.out.below hW) (by omega)
                    have L1' := L1.out z1
                    have L2' := L2.out z1
                    rw [hn] at L1' L2'
                    have L3 : Hid (hasL E (n : Int) = true → stRow E k M1 R = stRow E k (stS k z M2) (R.drop (j + 1))) := L1'
                    have L4 : Hid (hasL E (n : Int) = false → stRow E k M1 R = stS k z M2) := L2'
                    clear HOj HOL hOD O3 O6 HM1 L0 L1 L2 L1' L2' HAT hy hM2
                    generalize joinL (addL M2[k] (n : Int)) M2[n] = jn at *
                    generalize addL M2[k] (n : Int) = ad at *
                    generalize M2[k] = Mk at *
                    generalize M2[n] = Mn at *
                    by_cases z3 : hasL E (n : Int) = true
                    · have HE6 : Hid (Sets P.length (stS k z M2) ∧ stRow E k M1 R = stRow E k (stS k z M2) (R.drop (j + 1))) := ⟨HSS.out, L3.out z3⟩
                      clear L3 L4 HSS
                      go_wp2
                      refine wp_region_held_drew (S := (fun w' => w'.cell? ⟨w.heap.size, 0, none⟩ = some (.slice (some ⟨b1, o1, none⟩) P.length c0) ∧ True)) (by kernel_rfl) ⟨g0, trivial⟩ (fun hHeld => ?_)
                      refine take_atL (i := 0) (d := some 67) (v := .slice (some ⟨w2.heap.size, 0, none⟩) P.length P.length) rfl rfl (by kernel_rfl) (by kernel_rfl) (by kernel_rfl) (fun _ _ _ h => h) (by rfl) ?_ hHeld ?_
                      · intro w' hSw; obtain ⟨s0, _⟩ := hSw; go_simp; try rfl
                      try simp only [Act.put, List.setIfInBounds_toArray, List.set_cons_zero, List.set_cons_succ]
                      refine take_atL (i := 1) (d := some 68) (v := .int .i64 (k : Int)) rfl rfl (by kernel_rfl) (by kernel_rfl) (by kernel_rfl) (fun _ _ _ h => h) (by rfl) ?_ hHeld ?_
                      · intro w' hSw; obtain ⟨s0, _⟩ := hSw; go_simp; try rfl
                      try simp only [Act.put, List.setIfInBounds_toArray, List.set_cons_zero, List.set_cons_succ]
                      refine take_atL (i := 2) (d := some 69) (v := .slice (some ⟨w2.heap.size, 0, none⟩) P.length P.length) rfl rfl (by kernel_rfl) (by kernel_rfl) (by kernel_rfl) (fun _ _ _ h => h) (by rfl) ?_ hHeld ?_
                      · intro w' hSw; obtain ⟨s0, _⟩ := hSw; go_simp; try rfl
                      try simp only [Act.put, List.setIfInBounds_toArray, List.set_cons_zero, List.set_cons_succ]
                      refine take_atL (i := 3) (d := some 70) (v := .int .i64 (k : Int)) rfl rfl (by kernel_rfl) (by kernel_rfl) (by kernel_rfl) (fun _ _ _ h => h) (by rfl) ?_ hHeld ?_
                      · intro w' hSw; obtain ⟨s0, _⟩ := hSw; go_simp; try rfl
                      try simp only [Act.put, List.setIfInBounds_toArray, List.set_cons_zero, List.set_cons_succ]
                      refine take_atL (i := 4) (d := some 71) (v := .pointer (some ⟨w2.heap.size, k, none⟩)) rfl rfl (by kernel_rfl) (by kernel_rfl) (by kernel_rfl) (fun _ _ _ h => h) (by rfl) ?_ hHeld ?_
                      · intro w' hSw; obtain ⟨s0, _⟩ := hSw; go_simp; try rfl
                      try simp only [Act.put, List.setIfInBounds_toArray, List.set_cons_zero, List.set_cons_succ]
                      refine take_atL (i := 6) (d := some 73) (v := .int .i64 (n : Int)) rfl rfl (by kernel_rfl) (by kernel_rfl) (by kernel_rfl) (fun _ _ _ h => h) (by rfl) ?_ hHeld ?_
                      · intro w' hSw; obtain ⟨s0, _⟩ := hSw; go_simp; try rfl
                      try simp only [Act.put, List.setIfInBounds_toArray, List.set_cons_zero, List.set_cons_succ]
                      refine take_atL (i := 8) (d := some 75) (v := .slice (some ⟨w2.heap.size, 0, none⟩) P.length P.length) rfl rfl (by kernel_rfl) (by kernel_rfl) (by kernel_rfl) (fun _ _ _ h => h) (by rfl) ?_ hHeld ?_
                      · intro w' hSw; obtain ⟨s0, _⟩ := hSw; go_simp; try rfl
                      try simp only [Act.put, List.setIfInBounds_toArray, List.set_cons_zero, List.set_cons_succ]
                      refine take_atL (i := 9) (d := some 76) (v := .int .i64 (n : Int)) rfl rfl (by kernel_rfl) (by kernel_rfl) (by kernel_rfl) (fun _ _ _ h => h) (by rfl) ?_ hHeld ?_
                      · intro w' hSw; obtain ⟨s0, _⟩ := hSw; go_simp; try rfl
                      try simp only [Act.put, List.setIfInBounds_toArray, List.set_cons_zero, List.set_cons_succ]
                      refine take_atL (i := 10) (d := some 77) (v := .pointer (some ⟨w2.heap.size, n, none⟩)) rfl rfl (by kernel_rfl) (by kernel_rfl) (by kernel_rfl) (fun _ _ _ h => h) (by rfl) ?_ hHeld ?_
                      · intro w' hSw; obtain ⟨s0, _⟩ := hSw; go_simp; try rfl
                      try simp only [Act.put, List.setIfInBounds_toArray, List.set_cons_zero, List.set_cons_succ]
                      refine wpAnyH_ready (rs := [5, 11]) (by kernel_rfl) (by simp) ?_
                      refine AllReadyH.cons (o := _) rfl (fun K hK => ?_) (AllReadyH.cons (o := _) rfl (fun K hK => ?_) AllReadyH.nil)
                      · rw [if_pos (by rfl)]
                        go_simp
                        refine hK.out _ _ hHeld (fun hHeld => ?_)
                        clear hK K
                        try simp only [Act.put, List.setIfInBounds_toArray, List.set_cons_zero, List.set_cons_succ]
                        refine wpAnyH_ready (rs := [7, 11]) (by kernel_rfl) (by simp) ?_
                        refine AllReadyH.cons (o := _) rfl (fun K hK => ?_) (AllReadyH.cons (o := _) rfl (fun K hK => ?_) AllReadyH.nil)
                        · rw [if_pos (by rfl)]
                          go_simp
                          refine (XA.out _ (Below.drew (Below.refl _ _))).mono ?_
                          rintro e w3 ⟨v3, rfl, hO3, hb3⟩
                          obtain ⟨a4, c4, rfl, hr4, _⟩ := hO3.shape
                          have hb3r : Below wr.heap.size wr w3 := Below.drewed (by simpa using hb3)
                          have g03 := (hb3r.cell (p := ⟨w.heap.size, 0, none⟩) hgl).trans g0
                          have q23 := (hb3r.cell (p := ⟨w2.heap.size, k, none⟩) hw2r).trans q2
                          have q33 := (hb3r.cell (p := ⟨w2.heap.size, n, none⟩) hw2r).trans q3
                          have Y := YY.out w3 a4 c4 hb3r hr4
                          clear XA hO3 hr4 hb3 YY hHeld
                          go_wp2_with fail
                          refine hK.out _ _ ⟨g03, trivial⟩ (fun hHeld => ?_)
                          clear hK K
                          try simp only [Act.put, List.setIfInBounds_toArray, List.set_cons_zero, List.set_cons_succ]
                          refine wpAnyH_ready (rs := [11]) (by kernel_rfl) (by simp) ?_
                          refine AllReadyH.cons (o := _) rfl (fun K hK => ?_) AllReadyH.nil
                          rw [if_pos (by rfl)]
                          go_simp
                          refine hK.out _ _ hHeld (fun hHeld => ?_)
                          clear hK K
                          try simp only [Act.put, List.setIfInBounds_toArray, List.set_cons_zero, List.set_cons_succ]
                          refine wpAnyH_ready (rs := [12]) (by kernel_rfl) (by simp) ?_
                          refine AllReadyH.cons (o := _) rfl (fun K hK => ?_) AllReadyH.nil
                          rw [if_pos (by rfl)]
                          go_simp
                          refine Y.mono ?_
                          rintro e w4 ⟨v4, rfl, hO4, hb4⟩
                          have hb4r : Below wr.heap.size wr w4 := hb3r.trans (hb4.mono hb3r.size)
                          have g04 := (hb4r.cell (p := ⟨w.heap.size, 0, none⟩) hgl).trans g0
                          obtain ⟨S5, HO5, hf5, z5, hz5⟩ := HPUT.out w4 v4 hb4r (hO4.base hb3r.size)
                          obtain ⟨a5, c5, rfl, _, _⟩ := hO4.shape
                          have HE5 : Hid (∃ S, OL (w4.setCell ⟨w2.heap.size, k, none⟩ (.slice a5 jn.length c5)) w2.heap.size 25 1 (.slice (some ⟨w2.heap.size, 0, none⟩) P.length P.length) P.length ((stS k z M2).flatMap (Lay.list Lay.int).cells) S) := ⟨S5, HO5⟩
                          have HB5 : Hid (Below w2.heap.size w2 (w4.setCell ⟨w2.heap.size, k, none⟩ (.slice a5 jn.length c5))) := (hbj.trans (hb4r.mono hbj.size)).setCell (p := ⟨w2.heap.size, k, none⟩) (Nat.le_refl _) _
                          clear Y g03 q23 q33 HPUT HO5 hO4 hHeld
                          go_wp2_with fail
                          refine hK.out _ _ ⟨g04, trivial⟩ (fun hHeld => ?_)
                          clear hK K
                          try simp only [Act.put, List.setIfInBounds_toArray, List.set_cons_zero, List.set_cons_succ]
                          refine take_atL (i := 13) (d := some 80) (v := .pointer (some ⟨w2.heap.size, k, none⟩)) rfl rfl (by kernel_rfl) (by kernel_rfl) (by kernel_rfl) (fun _ _ _ h => h) (by rfl) ?_ hHeld ?_
                          · intro w' hSw; obtain ⟨s0, _⟩ := hSw; go_simp; try rfl
                          try simp only [Act.put, List.setIfInBounds_toArray, List.set_cons_zero, List.set_cons_succ]
                          refine wpAnyH_ready (rs := [14]) (by kernel_rfl) (by simp) ?_
                          refine AllReadyH.cons (o := _) rfl (fun K hK => ?_) AllReadyH.nil
                          rw [if_pos (by rfl)]
                          go_simp
                          refine hK.out _ _ ⟨by rw [World.cell?_setCell_far _ _ _ _ (by show w2.heap.size ≠ w.heap.size; omega)]; exact g04, trivial⟩ (fun hHeld => ?_)
                          clear hK K
                          try simp only [Act.put, List.setIfInBounds_toArray, List.set_cons_zero, List.set_cons_succ]
                          refine wpAnyH_done (by kernel_rfl) ?_ _
                          clear hHeld g04 hf5 hz5 q2 q3
                          go_wp2_with (go_at_call 47; refine (XH.out _ HB5.out).mono ?_; rintro e w6 ⟨rfl, rfl⟩)
                          go_roundw
                          case rel => exact ⟨j + 1, stS k z M2, by omega, by go_num, HE6, HE5, HB5.out⟩
                          case measure => simp [intOf]; omega
                        · rw [if_pos (by rfl)]
                          go_simp
                          refine hK.out _ _ hHeld (fun hHeld => ?_)
                          clear hK K
                          try simp only [Act.put, List.setIfInBounds_toArray, List.set_cons_zero, List.set_cons_succ]
                          refine wpAnyH_ready (rs := [7]) (by kernel_rfl) (by simp) ?_
                          refine AllReadyH.cons (o := _) rfl (fun K hK => ?_) AllReadyH.nil
                          rw [if_pos (by rfl)]
                          go_simp
                          refine (XA.out _ (Below.drew (Below.refl _ _))).mono ?_
                          rintro e w3 ⟨v3, rfl, hO3, hb3⟩
                          obtain ⟨a4, c4, rfl, hr4, _⟩ := hO3.shape
                          have hb3r : Below wr.heap.size wr w3 := Below.drewed (by simpa using hb3)
                          have g03 := (hb3r.cell (p := ⟨w.heap.size, 0, none⟩) hgl).trans g0
                          have q23 := (hb3r.cell (p := ⟨w2.heap.size, k, none⟩) hw2r).trans q2
                          have q33 := (hb3r.cell (p := ⟨w2.heap.size, n, none⟩) hw2r).trans q3
                          have Y := YY.out w3 a4 c4 hb3r hr4
                          clear XA hO3 hr4 hb3 YY hHeld
                          go_wp2_with fail
                          refine hK.out _ _ ⟨g03, trivial⟩ (fun hHeld => ?_)
                          clear hK K
                          try simp only [Act.put, List.setIfInBounds_toArray, List.set_cons_zero, List.set_cons_succ]
                          refine wpAnyH_ready (rs := [12]) (by kernel_rfl) (by simp) ?_
                          refine AllReadyH.cons (o := _) rfl (fun K hK => ?_) AllReadyH.nil
                          rw [if_pos (by rfl)]
                          go_simp
                          refine Y.mono ?_
                          rintro e w4 ⟨v4, rfl, hO4, hb4⟩
                          have hb4r : Below wr.heap.size wr w4 := hb3r.trans (hb4.mono hb3r.size)
                          have g04 := (hb4r.cell (p := ⟨w.heap.size, 0, none⟩) hgl).trans g0
                          obtain ⟨S5, HO5, hf5, z5, hz5⟩ := HPUT.out w4 v4 hb4r (hO4.base hb3r.size)
                          obtain ⟨a5, c5, rfl, _, _⟩ := hO4.shape
                          have HE5 : Hid (∃ S, OL (w4.setCell ⟨w2.heap.size, k, none⟩ (.slice a5 jn.length c5)) w2.heap.size 25 1 (.slice (some ⟨w2.heap.size, 0, none⟩) P.length P.length) P.length ((stS k z M2).flatMap (Lay.list Lay.int).cells) S) := ⟨S5, HO5⟩
                          have HB5 : Hid (Below w2.heap.size w2 (w4.setCell ⟨w2.heap.size, k, none⟩ (.slice a5 jn.length c5))) := (hbj.trans (hb4r.mono hbj.size)).setCell (p := ⟨w2.heap.size, k, none⟩) (Nat.le_refl _) _
                          clear Y g03 q23 q33 HPUT HO5 hO4 hHeld
                          go_wp2_with fail
                          refine hK.out _ _ ⟨g04, trivial⟩ (fun hHeld => ?_)
                          clear hK K
                          try simp only [Act.put, List.setIfInBounds_toArray, List.set_cons_zero, List.set_cons_succ]
                          refine take_atL (i := 13) (d := some 80) (v := .pointer (some ⟨w2.heap.size, k, none⟩)) rfl rfl (by kernel_rfl) (by kernel_rfl) (by kernel_rfl) (fun _ _ _ h => h) (by rfl) ?_ hHeld ?_
                          · intro w' hSw; obtain ⟨s0, _⟩ := hSw; go_simp; try rfl
                          try simp only [Act.put, List.setIfInBounds_toArray, List.set_cons_zero, List.set_cons_succ]
                          refine wpAnyH_ready (rs := [14]) (by kernel_rfl) (by simp) ?_
                          refine AllReadyH.cons (o := _) rfl (fun K hK => ?_) AllReadyH.nil
                          rw [if_pos (by rfl)]
                          go_simp
                          refine hK.out _ _ ⟨by rw [World.cell?_setCell_far _ _ _ _ (by show w2.heap.size ≠ w.heap.size; omega)]; exact g04, trivial⟩ (fun hHeld => ?_)
                          clear hK K
                          try simp only [Act.put, List.setIfInBounds_toArray, List.set_cons_zero, List.set_cons_succ]
                          refine wpAnyH_done (by kernel_rfl) ?_ _
                          clear hHeld g04 hf5 hz5 q2 q3
                          go_wp2_with (go_at_call 47; refine (XH.out _ HB5.out).mono ?_; rintro e w6 ⟨rfl, rfl⟩)
                          go_roundw
                          case rel => exact ⟨j + 1, stS k z M2, by omega, by go_num, HE6, HE5, HB5.out⟩
                          case measure => simp [intOf]; omega
                      · rw [if_pos (by rfl)]
                        go_simp
                        refine hK.out _ _ hHeld (fun hHeld => ?_)
                        clear hK K
                        try simp only [Act.put, List.setIfInBounds_toArray, List.set_cons_zero, List.set_cons_succ]
                        refine wpAnyH_ready (rs := [5]) (by kernel_rfl) (by simp) ?_
                        refine AllReadyH.cons (o := _) rfl (fun K hK => ?_) AllReadyH.nil
                        rw [if_pos (by rfl)]
                        go_simp
                        refine hK.out _ _ hHeld (fun hHeld => ?_)
                        clear hK K
                        try simp only [Act.put, List.setIfInBounds_toArray, List.set_cons_zero, List.set_cons_succ]
                        refine wpAnyH_ready (rs := [7]) (by kernel_rfl) (by simp) ?_
                        refine AllReadyH.cons (o := _) rfl (fun K hK => ?_) AllReadyH.nil
                        rw [if_pos (by rfl)]
                        go_simp
                        refine (XA.out _ (Below.drew (Below.refl _ _))).mono ?_
                        rintro e w3 ⟨v3, rfl, hO3, hb3⟩
                        obtain ⟨a4, c4, rfl, hr4, _⟩ := hO3.shape
                        have hb3r : Below wr.heap.size wr w3 := Below.drewed (by simpa using hb3)
                        have g03 := (hb3r.cell (p := ⟨w.heap.size, 0, none⟩) hgl).trans g0
                        have q23 := (hb3r.cell (p := ⟨w2.heap.size, k, none⟩) hw2r).trans q2
                        have q33 := (hb3r.cell (p := ⟨w2.heap.size, n, none⟩) hw2r).trans q3
                        have Y := YY.out w3 a4 c4 hb3r hr4
                        clear XA hO3 hr4 hb3 YY hHeld
                        go_wp2_with fail
                        refine hK.out _ _ ⟨g03, trivial⟩ (fun hHeld => ?_)
                        clear hK K
                        try simp only [Act.put, List.setIfInBounds_toArray, List.set_cons_zero, List.set_cons_succ]
                        refine wpAnyH_ready (rs := [12]) (by kernel_rfl) (by simp) ?_
                        refine AllReadyH.cons (o := _) rfl (fun K hK => ?_) AllReadyH.nil
                        rw [if_pos (by rfl)]
                        go_simp
                        refine Y.mono ?_
                        rintro e w4 ⟨v4, rfl, hO4, hb4⟩
                        have hb4r : Below wr.heap.size wr w4 := hb3r.trans (hb4.mono hb3r.size)
                        have g04 := (hb4r.cell (p := ⟨w.heap.size, 0, none⟩) hgl).trans g0
                        obtain ⟨S5, HO5, hf5, z5, hz5⟩ := HPUT.out w4 v4 hb4r (hO4.base hb3r.size)
                        obtain ⟨a5, c5, rfl, _, _⟩ := hO4.shape
                        have HE5 : Hid (∃ S, OL (w4.setCell ⟨w2.heap.size, k, none⟩ (.slice a5 jn.length c5)) w2.heap.size 25 1 (.slice (some ⟨w2.heap.size, 0, none⟩) P.length P.length) P.length ((stS k z M2).flatMap (Lay.list Lay.int).cells) S) := ⟨S5, HO5⟩
                        have HB5 : Hid (Below w2.heap.size w2 (w4.setCell ⟨w2.heap.size, k, none⟩ (.slice a5 jn.length c5))) := (hbj.trans (hb4r.mono hbj.size)).setCell (p := ⟨w2.heap.size, k, none⟩) (Nat.le_refl _) _
                        clear Y g03 q23 q33 HPUT HO5 hO4 hHeld
                        go_wp2_with fail
                        refine hK.out _ _ ⟨g04, trivial⟩ (fun hHeld => ?_)
                        clear hK K
                        try simp only [Act.put, List.setIfInBounds_toArray, List.set_cons_zero, List.set_cons_succ]
                        refine take_atL (i := 13) (d := some 80) (v := .pointer (some ⟨w2.heap.size, k, none⟩)) rfl rfl (by kernel_rfl) (by kernel_rfl) (by kernel_rfl) (fun _ _ _ h => h) (by rfl) ?_ hHeld ?_
                        · intro w' hSw; obtain ⟨s0, _⟩ := hSw; go_simp; try rfl
                        try simp only [Act.put, List.setIfInBounds_toArray, List.set_cons_zero, List.set_cons_succ]
                        refine wpAnyH_ready (rs := [14]) (by kernel_rfl) (by simp) ?_
                        refine AllReadyH.cons (o := _) rfl (fun K hK => ?_) AllReadyH.nil
                        rw [if_pos (by rfl)]
                        go_simp
                        refine hK.out _ _ ⟨by rw [World.cell?_setCell_far _ _ _ _ (by show w2.heap.size ≠ w.heap.size; omega)]; exact g04, trivial⟩ (fun hHeld => ?_)
                        clear hK K
                        try simp only [Act.put, List.setIfInBounds_toArray, List.set_cons_zero, List.set_cons_succ]
                        refine wpAnyH_done (by kernel_rfl) ?_ _
                        clear hHeld g04 hf5 hz5 q2 q3
                        go_wp2_with (go_at_call 47; refine (XH.out _ HB5.out).mono ?_; rintro e w6 ⟨rfl, rfl⟩)
                        go_roundw
                        case rel => exact ⟨j + 1, stS k z M2, by omega, by go_num, HE6, HE5, HB5.out⟩
                        case measure => simp [intOf]; omega
                    · have z3' : hasL E (n : Int) = false := by simpa using z3
                      have HNx : Hid (stI E k Q Mk0 (i + 1) = stS k z M2) := HN.out.trans (L4.out z3')
                      clear L3 L4 HSS z3
                      go_wp2
                      refine wp_region_held_drew (S := (fun w' => w'.cell? ⟨w.heap.size, 0, none⟩ = some (.slice (some ⟨b1, o1, none⟩) P.length c0) ∧ True)) (by kernel_rfl) ⟨g0, trivial⟩ (fun hHeld => ?_)
                      refine take_atL (i := 0) (d := some 67) (v := .slice (some ⟨w2.heap.size, 0, none⟩) P.length P.length) rfl rfl (by kernel_rfl) (by kernel_rfl) (by kernel_rfl) (fun _ _ _ h => h) (by rfl) ?_ hHeld ?_
                      · intro w' hSw; obtain ⟨s0, _⟩ := hSw; go_simp; try rfl
                      try simp only [Act.put, List.setIfInBounds_toArray, List.set_cons_zero, List.set_cons_succ]
                      refine take_atL (i := 1) (d := some 68) (v := .int .i64 (k : Int)) rfl rfl (by kernel_rfl) (by kernel_rfl) (by kernel_rfl) (fun _ _ _ h => h) (by rfl) ?_ hHeld ?_
                      · intro w' hSw; obtain ⟨s0, _⟩ := hSw; go_simp; try rfl
                      try simp only [Act.put, List.setIfInBounds_toArray, List.set_cons_zero, List.set_cons_succ]
                      refine take_atL (i := 2) (d := some 69) (v := .slice (some ⟨w2.heap.size, 0, none⟩) P.length P.length) rfl rfl (by kernel_rfl) (by kernel_rfl) (by kernel_rfl) (fun _ _ _ h => h) (by rfl) ?_ hHeld ?_
                      · intro w' hSw; obtain ⟨s0, _⟩ := hSw; go_simp; try rfl
                      try simp only [Act.put, List.setIfInBounds_toArray, List.set_cons_zero, List.set_cons_succ]
                      refine take_atL (i := 3) (d := some 70) (v := .int .i64 (k : Int)) rfl rfl (by kernel_rfl) (by kernel_rfl) (by kernel_rfl) (fun _ _ _ h => h) (by rfl) ?_ hHeld ?_
                      · intro w' hSw; obtain ⟨s0, _⟩ := hSw; go_simp; try rfl
                      try simp only [Act.put, List.setIfInBounds_toArray, List.set_cons_zero, List.set_cons_succ]
                      refine take_atL (i := 4) (d := some 71) (v := .pointer (some ⟨w2.heap.size, k, none⟩)) rfl rfl (by kernel_rfl) (by kernel_rfl) (by kernel_rfl) (fun _ _ _ h => h) (by rfl) ?_ hHeld ?_
                      · intro w' hSw; obtain ⟨s0, _⟩ := hSw; go_simp; try rfl
                      try simp only [Act.put, List.setIfInBounds_toArray, List.set_cons_zero, List.set_cons_succ]
                      refine take_atL (i := 6) (d := some 73) (v := .int .i64 (n : Int)) rfl rfl (by kernel_rfl) (by kernel_rfl) (by kernel_rfl) (fun _ _ _ h => h) (by rfl) ?_ hHeld ?_
                      · intro w' hSw; obtain ⟨s0, _⟩ := hSw; go_simp; try rfl
                      try simp only [Act.put, List.setIfInBounds_toArray, List.set_cons_zero, List.set_cons_succ]
                      refine take_atL (i := 8) (d := some 75) (v := .slice (some ⟨w2.heap.size, 0, none⟩) P.length P.length) rfl rfl (by kernel_rfl) (by kernel_rfl) (by kernel_rfl) (fun _ _ _ h => h) (by rfl) ?_ hHeld ?_
                      · intro w' hSw; obtain ⟨s0, _⟩ := hSw; go_simp; try rfl
                      try simp only [Act.put, List.setIfInBounds_toArray, List.set_cons_zero, List.set_cons_succ]
                      refine take_atL (i := 9) (d := some 76) (v := .int .i64 (n : Int)) rfl rfl (by kernel_rfl) (by kernel_rfl) (by kernel_rfl) (fun _ _ _ h => h) (by rfl) ?_ hHeld ?_
                      · intro w' hSw; obtain ⟨s0, _⟩ := hSw; go_simp; try rfl
                      try simp only [Act.put, List.setIfInBounds_toArray, List.set_cons_zero, List.set_cons_succ]
                      refine take_atL (i := 10) (d := some 77) (v := .pointer (some ⟨w2.heap.size, n, none⟩)) rfl rfl (by kernel_rfl) (by kernel_rfl) (by kernel_rfl) (fun _ _ _ h => h) (by rfl) ?_ hHeld ?_
                      · intro w' hSw; obtain ⟨s0, _⟩ := hSw; go_simp; try rfl
                      try simp only [Act.put, List.setIfInBounds_toArray, List.set_cons_zero, List.set_cons_succ]
                      refine wpAnyH_ready (rs := [5, 11]) (by kernel_rfl) (by simp) ?_
                      refine AllReadyH.cons (o := _) rfl (fun K hK => ?_) (AllReadyH.cons (o := _) rfl (fun K hK => ?_) AllReadyH.nil)
                      · rw [if_pos (by rfl)]
                        go_simp
                        refine hK.out _ _ hHeld (fun hHeld => ?_)
                        clear hK K
                        try simp only [Act.put, List.setIfInBounds_toArray, List.set_cons_zero, List.set_cons_succ]
                        refine wpAnyH_ready (rs := [7, 11]) (by kernel_rfl) (by simp) ?_
                        refine AllReadyH.cons (o := _) rfl (fun K hK => ?_) (AllReadyH.cons (o := _) rfl (fun K hK => ?_) AllReadyH.nil)
                        · rw [if_pos (by rfl)]
                          go_simp
                          refine (XA.out _ (Below.drew (Below.refl _ _))).mono ?_
                          rintro e w3 ⟨v3, rfl, hO3, hb3⟩
                          obtain ⟨a4, c4, rfl, hr4, _⟩ := hO3.shape
                          have hb3r : Below wr.heap.size wr w3 := Below.drewed (by simpa using hb3)
                          have g03 := (hb3r.cell (p := ⟨w.heap.size, 0, none⟩) hgl).trans g0
                          have q23 := (hb3r.cell (p := ⟨w2.heap.size, k, none⟩) hw2r).trans q2
                          have q33 := (hb3r.cell (p := ⟨w2.heap.size, n, none⟩) hw2r).trans q3
                          have Y := YY.out w3 a4 c4 hb3r hr4
                          clear XA hO3 hr4 hb3 YY hHeld
                          go_wp2_with fail
                          refine hK.out _ _ ⟨g03, trivial⟩ (fun hHeld => ?_)
                          clear hK K
                          try simp only [Act.put, List.setIfInBounds_toArray, List.set_cons_zero, List.set_cons_succ]
                          refine wpAnyH_ready (rs := [11]) (by kernel_rfl) (by simp) ?_
                          refine AllReadyH.cons (o := _) rfl (fun K hK => ?_) AllReadyH.nil
                          rw [if_pos (by rfl)]
                          go_simp
                          refine hK.out _ _ hHeld (fun hHeld => ?_)
                          clear hK K
                          try simp only [Act.put, List.setIfInBounds_toArray, List.set_cons_zero, List.set_cons_succ]
                          refine wpAnyH_ready (rs := [12]) (by kernel_rfl) (by simp) ?_
                          refine AllReadyH.cons (o := _) rfl (fun K hK => ?_) AllReadyH.nil
                          rw [if_pos (by rfl)]
                          go_simp
                          refine Y.mono ?_
                          rintro e w4 ⟨v4, rfl, hO4, hb4⟩
                          have hb4r : Below wr.heap.size wr w4 := hb3r.trans (hb4.mono hb3r.size)
                          have g04 := (hb4r.cell (p := ⟨w.heap.size, 0, none⟩) hgl).trans g0
                          obtain ⟨S5, HO5, hf5, z5, hz5⟩ := HPUT.out w4 v4 hb4r (hO4.base hb3r.size)
                          obtain ⟨a5, c5, rfl, _, _⟩ := hO4.shape
                          have HE5 : Hid (∃ S, OL (w4.setCell ⟨w2.heap.size, k, none⟩ (.slice a5 jn.length c5)) w2.heap.size 25 1 (.slice (some ⟨w2.heap.size, 0, none⟩) P.length P.length) P.length ((stS k z M2).flatMap (Lay.list Lay.int).cells) S) := ⟨S5, HO5⟩
                          have HB5 : Hid (Below w2.heap.size w2 (w4.setCell ⟨w2.heap.size, k, none⟩ (.slice a5 jn.length c5))) := (hbj.trans (hb4r.mono hbj.size)).setCell (p := ⟨w2.heap.size, k, none⟩) (Nat.le_refl _) _
                          clear Y g03 q23 q33 HPUT HO5 hO4 hHeld
                          go_wp2_with fail
                          refine hK.out _ _ ⟨g04, trivial⟩ (fun hHeld => ?_)
                          clear hK K
                          try simp only [Act.put, List.setIfInBounds_toArray, List.set_cons_zero, List.set_cons_succ]
                          refine take_atL (i := 13) (d := some 80) (v := .pointer (some ⟨w2.heap.size, k, none⟩)) rfl rfl (by kernel_rfl) (by kernel_rfl) (by kernel_rfl) (fun _ _ _ h => h) (by rfl) ?_ hHeld ?_
                          · intro w' hSw; obtain ⟨s0, _⟩ := hSw; go_simp; try rfl
                          try simp only [Act.put, List.setIfInBounds_toArray, List.set_cons_zero, List.set_cons_succ]
                          refine wpAnyH_ready (rs := [14]) (by kernel_rfl) (by simp) ?_
                          refine AllReadyH.cons (o := _) rfl (fun K hK => ?_) AllReadyH.nil
                          rw [if_pos (by rfl)]
                          go_simp
                          refine hK.out _ _ ⟨by rw [World.cell?_setCell_far _ _ _ _ (by show w2.heap.size ≠ w.heap.size; omega)]; exact g04, trivial⟩ (fun hHeld => ?_)
                          clear hK K
                          try simp only [Act.put, List.setIfInBounds_toArray, List.set_cons_zero, List.set_cons_succ]
                          refine wpAnyH_done (by kernel_rfl) ?_ _
                          clear hHeld g04 hf5 hz5 q2 q3
                          go_wp2_with (go_at_call 47; refine (XH.out _ HB5.out).mono ?_; rintro e w6 ⟨rfl, rfl⟩)
                          go_roundw
                          case rel => exact ⟨i + 1, by omega, by go_num, by rw [HNx.out]; exact HE5, HB5.out⟩
                          case measure => simp [intOf]; omega
                        · rw [if_pos (by rfl)]
                          go_simp
                          refine hK.out _ _ hHeld (fun hHeld => ?_)
                          clear hK K
                          try simp only [Act.put, List.setIfInBounds_toArray, List.set_cons_zero, List.set_cons_succ]
                          refine wpAnyH_ready (rs := [7]) (by kernel_rfl) (by simp) ?_
                          refine AllReadyH.cons (o := _) rfl (fun K hK => ?_) AllReadyH.nil
                          rw [if_pos (by rfl)]
                          go_simp
                          refine (XA.out _ (Below.drew (Below.refl _ _))).mono ?_
                          rintro e w3 ⟨v3, rfl, hO3, hb3⟩
                          obtain ⟨a4, c4, rfl, hr4, _⟩ := hO3.shape
                          have hb3r : Below wr.heap.size wr w3 := Below.drewed (by simpa using hb3)
                          have g03 := (hb3r.cell (p := ⟨w.heap.size, 0, none⟩) hgl).trans g0
                          have q23 := (hb3r.cell (p := ⟨w2.heap.size, k, none⟩) hw2r).trans q2
                          have q33 := (hb3r.cell (p := ⟨w2.heap.size, n, none⟩) hw2r).trans q3
                          have Y := YY.out w3 a4 c4 hb3r hr4
                          clear XA hO3 hr4 hb3 YY hHeld
                          go_wp2_with fail
                          refine hK.out _ _ ⟨g03, trivial⟩ (fun hHeld => ?_)
                          clear hK K
                          try simp only [Act.put, List.setIfInBounds_toArray, List.set_cons_zero, List.set_cons_succ]
                          refine wpAnyH_ready (rs := [12]) (by kernel_rfl) (by simp) ?_
                          refine AllReadyH.cons (o := _) rfl (fun K hK => ?_) AllReadyH.nil
                          rw [if_pos (by rfl)]
                          go_simp
                          refine Y.mono ?_
                          rintro e w4 ⟨v4, rfl, hO4, hb4⟩
                          have hb4r : Below wr.heap.size wr w4 := hb3r.trans (hb4.mono hb3r.size)
                          have g04 := (hb4r.cell (p := ⟨w.heap.size, 0, none⟩) hgl).trans g0
                          obtain ⟨S5, HO5, hf5, z5, hz5⟩ := HPUT.out w4 v4 hb4r (hO4.base hb3r.size)
                          obtain ⟨a5, c5, rfl, _, _⟩ := hO4.shape
                          have HE5 : Hid (∃ S, OL (w4.setCell ⟨w2.heap.size, k, none⟩ (.slice a5 jn.length c5)) w2.heap.size 25 1 (.slice (some ⟨w2.heap.size, 0, none⟩) P.length P.length) P.length ((stS k z M2).flatMap (Lay.list Lay.int).cells) S) := ⟨S5, HO5⟩
                          have HB5 : Hid (Below w2.heap.size w2 (w4.setCell ⟨w2.heap.size, k, none⟩ (.slice a5 jn.length c5))) := (hbj.trans (hb4r.mono hbj.size)).setCell (p := ⟨w2.heap.size, k, none⟩) (Nat.le_refl _) _
                          clear Y g03 q23 q33 HPUT HO5 hO4 hHeld
                          go_wp2_with fail
                          refine hK.out _ _ ⟨g04, trivial⟩ (fun hHeld => ?_)
                          clear hK K
                          try simp only [Act.put, List.setIfInBounds_toArray, List.set_cons_zero, List.set_cons_succ]
                          refine take_atL (i := 13) (d := some 80) (v := .pointer (some ⟨w2.heap.size, k, none⟩)) rfl rfl (by kernel_rfl) (by kernel_rfl) (by kernel_rfl) (fun _ _ _ h => h) (by rfl) ?_ hHeld ?_
                          · intro w' hSw; obtain ⟨s0, _⟩ := hSw; go_simp; try rfl
                          try simp only [Act.put, List.setIfInBounds_toArray, List.set_cons_zero, List.set_cons_succ]
                          refine wpAnyH_ready (rs := [14]) (by kernel_rfl) (by simp) ?_
                          refine AllReadyH.cons (o := _) rfl (fun K hK => ?_) AllReadyH.nil
                          rw [if_pos (by rfl)]
                          go_simp
                          refine hK.out _ _ ⟨by rw [World.cell?_setCell_far _ _ _ _ (by show w2.heap.size ≠ w.heap.size; omega)]; exact g04, trivial⟩ (fun hHeld => ?_)
                          clear hK K
                          try simp only [Act.put, List.setIfInBounds_toArray, List.set_cons_zero, List.set_cons_succ]
                          refine wpAnyH_done (by kernel_rfl) ?_ _
                          clear hHeld g04 hf5 hz5 q2 q3
                          go_wp2_with (go_at_call 47; refine (XH.out _ HB5.out).mono ?_; rintro e w6 ⟨rfl, rfl⟩)
                          go_roundw
                          case rel => exact ⟨i + 1, by omega, by go_num, by rw [HNx.out]; exact HE5, HB5.out⟩
                          case measure => simp [intOf]; omega
                      · rw [if_pos (by rfl)]
                        go_simp
                        refine hK.out _ _ hHeld (fun hHeld => ?_)
                        clear hK K
                        try simp only [Act.put, List.setIfInBounds_toArray, List.set_cons_zero, List.set_cons_succ]
                        refine wpAnyH_ready (rs := [5]) (by kernel_rfl) (by simp) ?_
                        refine AllReadyH.cons (o := _) rfl (fun K hK => ?_) AllReadyH.nil
                        rw [if_pos (by rfl)]
                        go_simp
                        refine hK.out _ _ hHeld (fun hHeld => ?_)
                        clear hK K
                        try simp only [Act.put, List.setIfInBounds_toArray, List.set_cons_zero, List.set_cons_succ]
                        refine wpAnyH_ready (rs := [7]) (by kernel_rfl) (by simp) ?_
                        refine AllReadyH.cons (o := _) rfl (fun K hK => ?_) AllReadyH.nil
                        rw [if_pos (by rfl)]
                        go_simp
                        refine (XA.out _ (Below.drew (Below.refl _ _))).mono ?_
                        rintro e w3 ⟨v3, rfl, hO3, hb3⟩
                        obtain ⟨a4, c4, rfl, hr4, _⟩ := hO3.shape
                        have hb3r : Below wr.heap.size wr w3 := Below.drewed (by simpa using hb3)
                        have g03 := (hb3r.cell (p := ⟨w.heap.size, 0, none⟩) hgl).trans g0
                        have q23 := (hb3r.cell (p := ⟨w2.heap.size, k, none⟩) hw2r).trans q2
                        have q33 := (hb3r.cell (p := ⟨w2.heap.size, n, none⟩) hw2r).trans q3
                        have Y := YY.out w3 a4 c4 hb3r hr4
                        clear XA hO3 hr4 hb3 YY hHeld
                        go_wp2_with fail
                        refine hK.out _ _ ⟨g03, trivial⟩ (fun hHeld => ?_)
                        clear hK K
                        try simp only [Act.put, List.setIfInBounds_toArray, List.set_cons_zero, List.set_cons_succ]
                        refine wpAnyH_ready (rs := [12]) (by kernel_rfl) (by simp) ?_
                        refine AllReadyH.cons (o := _) rfl (fun K hK => ?_) AllReadyH.nil
                        rw [if_pos (by rfl)]
                        go_simp
                        refine Y.mono ?_
                        rintro e w4 ⟨v4, rfl, hO4, hb4⟩
                        have hb4r : Below wr.heap.size wr w4 := hb3r.trans (hb4.mono hb3r.size)
                        have g04 := (hb4r.cell (p := ⟨w.heap.size, 0, none⟩) hgl).trans g0
                        obtain ⟨S5, HO5, hf5, z5, hz5⟩ := HPUT.out w4 v4 hb4r (hO4.base hb3r.size)
                        obtain ⟨a5, c5, rfl, _, _⟩ := hO4.shape
                        have HE5 : Hid (∃ S, OL (w4.setCell ⟨w2.heap.size, k, none⟩ (.slice a5 jn.length c5)) w2.heap.size 25 1 (.slice (some ⟨w2.heap.size, 0, none⟩) P.length P.length) P.length ((stS k z M2).flatMap (Lay.list Lay.int).cells) S) := ⟨S5, HO5⟩
                        have HB5 : Hid (Below w2.heap.size w2 (w4.setCell ⟨w2.heap.size, k, none⟩ (.slice a5 jn.length c5))) := (hbj.trans (hb4r.mono hbj.size)).setCell (p := ⟨w2.heap.size, k, none⟩) (Nat.le_refl _) _
                        clear Y g03 q23 q33 HPUT HO5 hO4 hHeld
                        go_wp2_with fail
                        refine hK.out _ _ ⟨g04, trivial⟩ (fun hHeld => ?_)
                        clear hK K
                        try simp only [Act.put, List.setIfInBounds_toArray, List.set_cons_zero, List.set_cons_succ]
                        refine take_atL (i := 13) (d := some 80) (v := .pointer (some ⟨w2.heap.size, k, none⟩)) rfl rfl (by kernel_rfl) (by kernel_rfl) (by kernel_rfl) (fun _ _ _ h => h) (by rfl) ?_ hHeld ?_
                        · intro w' hSw; obtain ⟨s0, _⟩ := hSw; go_simp; try rfl
                        try simp only [Act.put, List.setIfInBounds_toArray, List.set_cons_zero, List.set_cons_succ]
                        refine wpAnyH_ready (rs := [14]) (by kernel_rfl) (by simp) ?_
                        refine AllReadyH.cons (o := _) rfl (fun K hK => ?_) AllReadyH.nil
                        rw [if_pos (by rfl)]
                        go_simp
                        refine hK.out _ _ ⟨by rw [World.cell?_setCell_far _ _ _ _ (by show w2.heap.size ≠ w.heap.size; omega)]; exact g04, trivial⟩ (fun hHeld => ?_)
                        clear hK K
                        try simp only [Act.put, List.setIfInBounds_toArray, List.set_cons_zero, List.set_cons_succ]
                        refine wpAnyH_done (by kernel_rfl) ?_ _
                        clear hHeld g04 hf5 hz5 q2 q3
                        go_wp2_with (go_at_call 47; refine (XH.out _ HB5.out).mono ?_; rintro e w6 ⟨rfl, rfl⟩)
                        go_roundw
                        case rel => exact ⟨i + 1, by omega, by go_num, by rw [HNx.out]; exact HE5, HB5.out⟩
                        case measure => simp [intOf]; omega
                  · have HNx : Hid (stI E k Q Mk0 (i + 1) = M2) := HN.out.trans (L0.out z1)
                    have z2 : z < 100 := by omega
                    clear L0 L1 L2 hy z1
                    go_wp2
                    go_roundw
                    case rel => exact ⟨i + 1, by omega, by go_num, by rw [HNx.out]; exact HOj, hbj⟩
                    case measure => simp [intOf]; omega
                · have HNx : Hid (stI E k Q Mk0 (i + 1) = M2) := HN.out.trans (HM.out.2.trans (stRow_end hlj))
                  clear HM
                  go_wp2
                  go_roundw
                  case rel => exact ⟨i + 1, by omega, by go_num, by rw [HNx.out]; exact HOj, hbj⟩
                  case measure => simp [intOf]; omega
            · have e : i = Q.length := by omega
              subst e
              have HKe := HK.out
              clear HK
              go_wp2
              go_roundw
              case rel => exact ⟨k + 1, by omega, by go_num, by rw [HKe]; exact HOi, hbi⟩
              case measure => simp [intOf]; omega
        · have e : k = P.length := by omega
          subst e
          have HTe := HT.out
          clear HT
          go_wp2
          go_roundw
          case rel => exact ⟨t + 1, by omega, by go_num, by rw [HTe]; exact HOk, hbk⟩
          case measure => simp [intOf]; omega
    · have e : t = P.length + 1 := by omega
      subst e
      obtain ⟨S, HOL⟩ := HO.out
      have hfl : (startsL P).length = P.length := by rw [HFL.out]; exact (stT_sets E HF.out _).1
      have HD : Hid (OD wr w.heap.size (.slice (some ⟨w2.heap.size, 0, none⟩) P.length P.length) (slD (Lay.list Lay.int) (startsL P)) S) := by
        have := HOL.od.base (b' := w.heap.size) (by omega)
        show OD _ _ _ _ _
        unfold slD; rw [hfl, HFL.out]; exact this
      clear HOL HO HFL hfl
      go_wp2
      go_ret
      exact ⟨_, _, rfl, HD.out, hb2'.trans (hbel.mono (by omega))⟩
end Go.Proofs.Ytdniejpblhbjkab
namespace Go.Proofs.Ytdniejpblhbjkab
open Go.RowKit

/-- What Starts answers. -/
def resStarts (x : Gm) (n : Int) : List Int := if gramOkB x.parts && inB n 0 (x.parts.length - 1) then (startsL x.parts).getD n.toNat [] else []
theorem resStarts_le (x : Gm) (n : Int) (_ : Lay.gram.wt x ≤ 1048576) (_ : Lay.gram.fit x) (_ : (Lit.int .i64 n).wf = true) : (Lay.list Lay.int).wt (resStarts x n) ≤ 2097152 := by
  rw [Lay.wt_ints, resStarts]
  split
  · have hok : gramOkB x.parts = true := by rename_i h; simp only [Bool.and_eq_true] at h; exact h.1
    have := ((stT_sets (emptiesL x.parts) (Fits.of hok) (x.parts.length + 1)).get (k := n.toNat)).len (n := 27)
    unfold startsL; omega
  · simp

set_option maxHeartbeats 1000000 in
set_option maxRecDepth 100000 in
theorem specStarts_any (x : Gm) (a0 : Option Addr) (c0 : Nat) (n : Int) (w : World) (h0 : RD w (.slice a0 x.parts.length c0) (slD (Lay.list (Lay.list Lay.int)) x.parts)) (hn : Lay.gram.wt x ≤ 1048576) (hf : Lay.gram.fit x) (hwf : (Lit.int .i64 n).wf = true) :
    Calls Try.prog 20 #[.agg #[.slice a0 x.parts.length c0], .int .i64 n] w fun e w' => ∃ v S, e = .returned v ∧ OD w' w.heap.size v (slD Lay.int (resStarts x n)) S ∧ Below w.heap.size w w' := by
  unfold resStarts
  have B0 := (Below.refl w.heap.size w).alloc (Nat.le_refl _) (.cells #[.slice a0 x.parts.length c0] 28)
  have HOK : Hid (∀ W : World, Below w.heap.size w W → Calls Try.prog 27 #[.agg #[.slice a0 x.parts.length c0]] W fun e w' => e = .returned (.bool (gramOkB x.parts)) ∧ Below W.heap.size W w') := fun W hW => specGramOk_any x a0 c0 W (h0.later hW) hn hf
  have hnb := wf_i64 hwf
  by_cases hok : gramOkB x.parts = true
  · have HST : Hid (∀ W : World, Below w.heap.size w W → Calls Try.prog 42 #[.agg #[.slice a0 x.parts.length c0]] W fun e w' => ∃ v S, e = .returned v ∧ OD w' W.heap.size v (slD (Lay.list Lay.int) (startsL x.parts)) S ∧ Below W.heap.size W w') := fun W hW => l5Starts_any x.parts a0 c0 W (h0.later hW) hok
    have HS : Hid (Sets x.parts.length (startsL x.parts)) := stT_sets _ (Fits.of hok) _
    have hp := (Fits.of hok).parts
    rw [hok] at HOK ⊢
    rw [Bool.true_and]
    clear h0 hn hf hok hwf
    generalize startsL x.parts = M at *
    generalize x.parts = P at *
    by_cases hin : inB n 0 ((P.length : Int) - 1) = true
    · have hi2 := inB_true.1 hin
      obtain ⟨k, rfl⟩ := Int.eq_ofNat_of_zero_le hi2.1
      have hkP : k < P.length := by omega
      have hkM : k < M.length := by rw [HS.out.1]; exact hkP
      have eM : M.getD (k : Int).toNat [] = M[k] := by simp [List.getD, hkM]
      have h27 : M[k].length ≤ 27 := (HS.out.2 _ (List.getElem_mem hkM)).len (n := 27)
      rw [if_pos hin, eM]
      clear eM
      go_enter Try.func20, Try.ntmps20
      go_wp2_with fail
      refine (HOK.out _ B0).mono ?_
      rintro e w1 ⟨rfl, hb1⟩
      have g0 : w1.cell? ⟨w.heap.size, 0, none⟩ = some (.slice a0 P.length c0) := (hb1.cell (p := ⟨w.heap.size, 0, none⟩) (by simp)).trans (by simp)
      have B1 := B0.trans (hb1.mono B0.size)
      have hgl : w.heap.size < w1.heap.size := World.block_lt_of_cell? w1 _ g0
      clear HOK hb1 B0
      go_wp2_with fail
      refine (l1In_any _ _ _ _).mono ?_
      rintro e w' ⟨rfl, rfl⟩
      have B1a : Below w.heap.size w (w'.alloc (.cells #[] 3)) := B1.alloc B1.size _
      go_wp2_with fail
      refine (HST.out _ B1a).mono ?_
      rintro e w2 ⟨v2, S2, rfl, hO2, hb2⟩
      obtain ⟨a2, c2, rfl, _⟩ := OD.shapeL hO2
      obtain ⟨b2, o2, rfl, hb2l, a3, c3, q3, r3⟩ := hO2.rd.listAt hkM
      have hMl := HS.out.1
      have hO1 : OwnInts w2 w.heap.size 3 (.slice (some ⟨w'.heap.size, 0, none⟩) 0 0) [] := (OwnInts.empty (w := w') B1.size).below hb2
      have B2 := B1a.trans (hb2.mono B1a.size)
      have hsz := B2.size
      have R3 := r3.reads
      clear HST hb2 HS hO2 r3 g0
      go_wp2_with (at_builtin; refine wpList_append_ints _ rfl (.tmp 18) (.tmp 23) 25 rfl w.heap.size 3 Try.underlying25 Try.infoInt _ [] rfl hO1 _ _ _ M[k] rfl rfl R3 (by simp; omega) hsz ?_)
      intro v4 w4 hO4 hgr4
      have B4 := B2.grown hgr4 hsz (fun j hj => (hO1.block j hj).1)
      have HD : Hid (OD w4 w.heap.size v4 (slD Lay.int M[k]) (fun j => v4.ownBlock = some j)) := by
        have := hO4.od; show OD _ _ _ _ _; simpa using this
      clear hO4 hgr4 hO1 R3 q3
      go_wp2
      go_ret
      exact ⟨_, _, rfl, HD.out, B4⟩
    · have hin2 : inB n 0 ((P.length : Int) - 1) = false := by simpa using hin
      rw [if_neg hin]
      clear hin HST HS
      go_enter Try.func20, Try.ntmps20
      go_wp2_with fail
      refine (HOK.out _ B0).mono ?_
      rintro e w1 ⟨rfl, hb1⟩
      have g0 : w1.cell? ⟨w.heap.size, 0, none⟩ = some (.slice a0 P.length c0) := (hb1.cell (p := ⟨w.heap.size, 0, none⟩) (by simp)).trans (by simp)
      have B1 := B0.trans (hb1.mono B0.size)
      have hgl : w.heap.size < w1.heap.size := World.block_lt_of_cell? w1 _ g0
      clear HOK hb1 B0
      go_wp2_with (go_at_call 38; refine (l1In_any _ _ _ _).mono ?_; rintro e w' ⟨rfl, rfl⟩)
      go_ret
      exact ⟨_, _, rfl, (OwnInts.empty B1.size).od, B1.trans ((Below.refl _ _).alloc B1.size _)⟩
  · have hok2 : gramOkB x.parts = false := by simpa using hok
    rw [hok2] at HOK ⊢
    rw [Bool.false_and, if_neg (by decide)]
    clear hok h0 hn hf hok2 hwf
    generalize x.parts = P at *
    go_enter Try.func20, Try.ntmps20
    go_wp2_with (go_at_call 27; refine (HOK.out _ B0).mono ?_; rintro e w1 ⟨rfl, hb1⟩)
    go_ret
    have B1 := B0.trans (hb1.mono B0.size)
    exact ⟨_, _, rfl, (OwnInts.empty (w := w1) B1.size).od, B1.trans ((Below.refl _ _).alloc B1.size _)⟩
end Go.Proofs.Ytdniejpblhbjkab
namespace Go.Proofs.Ytdniejpblhbjkab
open Go.RowKit

/-- The parts at the front of a row: all ahead of which only what can be nothing stands. -/
def lead (E : List Int) : List Int → List Int
  | [] => []
  | x :: xs => if 100 ≤ x then x :: (if hasL E (x - 100) then lead E xs else []) else []
theorem stRow_fold (E : List Int) (k : Nat) : ∀ (row : List Int) (M : List (List Int)), stRow E k M row = (lead E row).foldl (fun M x => stS k x M) M
  | [], M => by simp [stRow, lead]
  | x :: xs, M => by
    rw [stRow, lead]
    split
    · rw [List.foldl_cons]
      split
      · exact stRow_fold E k xs _
      · rfl
    · rfl
def leads (E : List Int) (L : List (Nat × List Int)) : List (Nat × Int) := L.flatMap fun s => (lead E s.2).map fun x => (s.1, x)
theorem stI_fold (E : List Int) (k : Nat) (Q M : List (List Int)) (i : Nat) (hi : i ≤ Q.length) : stI E k Q M i = (leads E ((Q.take i).map fun row => (k, row))).foldl (fun M s => stS s.1 s.2 M) M := by
  induction i with
  | zero => simp [stI, leads]
  | succ i ih =>
    have e : leads E (((Q.take i).map fun row => (k, row)) ++ [(k, Q[i])]) = leads E ((Q.take i).map fun row => (k, row)) ++ (lead E Q[i]).map (fun x => (k, x)) := by simp [leads]
    rw [stI_next (by omega), ih (by omega), List.take_succ_eq_append_getElem (by omega), List.map_append, List.map_singleton, e, List.foldl_append, stRow_fold, List.foldl_map]
theorem stK_fold (E : List Int) (P : List (List (List Int))) (M : List (List Int)) (k : Nat) : stK E P M k = (leads E (flatP P k)).foldl (fun M s => stS s.1 s.2 M) M := by
  induction k with
  | zero => rfl
  | succ k ih =>
    rw [stK, flatP, leads, List.flatMap_append, List.foldl_append]
    have e := stI_fold E k (P.getD k []) (stK E P M k) (P.getD k []).length (Nat.le_refl _)
    rw [List.take_length] at e
    rw [e, ih]; rfl
theorem proj_stS (c : Int) (k : Nat) (x : Int) (M : List (List Int)) : proj c (stS k x M) = bstep (proj c M) (k, fun b => decide (c = x - 100) || b.getD (x - 100).toNat false) := by
  rw [stS, proj_set, hasL_joinL, hasL_addL, bstep, proj_getD]
  simp only [proj_getD]
  congr 1
  cases hasL (M.getD k []) c <;> cases decide (c = x - 100) <;> simp
theorem proj_foldS (c : Int) (L : List (Nat × Int)) (M : List (List Int)) : proj c (L.foldl (fun M s => stS s.1 s.2 M) M) = bturn (L.map fun s => (s.1, fun b => decide (c = s.2 - 100) || b.getD (s.2 - 100).toNat false)) (proj c M) := by
  unfold bturn
  induction L generalizing M with
  | nil => rfl
  | cons s L ih => rw [List.foldl_cons, ih, List.map_cons, List.foldl_cons, proj_stS]
theorem stT_length (E : List Int) (P : List (List (List Int))) (t : Nat) : (stT E P t).length = P.length := by
  have len : ∀ (L : List (Nat × Int)) (M : List (List Int)), (L.foldl (fun M s => stS s.1 s.2 M) M).length = M.length := by
    intro L
    induction L with
    | nil => intro M; rfl
    | cons s L ih => intro M; rw [List.foldl_cons, ih, stS, List.length_set]
  induction t with
  | zero => simp [stT]
  | succ t ih => rw [stT, stK_fold, len, ih]
/-- A part at the front of a row of part k, and what that begins with, k begins with. -/
theorem stT_closed {E : List Int} {P : List (List (List Int))} {k i : Nat} (hk : k < P.length) (hi : i < P[k].length) {x : Int} (hx : x ∈ lead E P[k][i]) {c : Int} (hc : c = x - 100 ∨ c ∈ (stT E P (P.length + 1)).getD (x - 100).toNat []) : c ∈ (stT E P (P.length + 1)).getD k [] := by
  have hl := stT_length E P (P.length + 1)
  have h := bturns_closed (L := (leads E (flatP P P.length)).map fun s => (s.1, fun b => decide (c = s.2 - 100) || b.getD (s.2 - 100).toNat false)) (f := fun t => proj c (stT E P t)) (fun t => by show proj c (stT E P (t + 1)) = _; rw [stT, stK_fold, proj_foldS]) (N := P.length) (T := P.length + 1)
    (by show (proj c (stT E P 0)).length ≤ _; rw [proj_length, stT_length]; exact Nat.le_refl _) (Nat.le_refl _) (s := (k, fun b => decide (c = x - 100) || b.getD (x - 100).toNat false))
    (List.mem_map.2 ⟨(k, x), List.mem_flatMap.2 ⟨_, mem_flatP hk hi hk, List.mem_map.2 ⟨x, hx, rfl⟩⟩, rfl⟩)
    (by show k < (proj c _).length; rw [proj_length, hl]; exact hk)
    (by
      show (decide (c = x - 100) || (proj c (stT E P (P.length + 1))).getD (x - 100).toNat false) = true
      rw [proj_getD, Bool.or_eq_true]
      exact hc.imp (fun h => by simpa using h) (fun h => hasL_yes h))
  have e := proj_getD c (stT E P (P.length + 1)) k
  rw [List.getD_eq_getElem?_getD, List.getElem?_eq_getElem (by rw [proj_length, hl]; exact hk), Option.getD_some] at e
  rw [h] at e
  simpa [hasL] using e.symm
theorem stT_keeps {E : List Int} {P : List (List (List Int))} {S : List (List Int) → Prop} (h0 : S (List.replicate P.length [])) (hS : ∀ k (hk : k < P.length) i (hi : i < P[k].length) x, x ∈ lead E P[k][i] → ∀ M, S M → S (stS k x M)) (t : Nat) : S (stT E P t) := by
  have sF : ∀ k (hk : k < P.length) i (hi : i < P[k].length) (L : List Int), (∀ x ∈ L, x ∈ lead E P[k][i]) → ∀ M, S M → S (L.foldl (fun M x => stS k x M) M) := by
    intro k hk i hi L
    induction L with
    | nil => exact fun _ M hM => hM
    | cons x L ih => intro hL M hM; rw [List.foldl_cons]; exact ih (fun y hy => hL y (List.mem_cons_of_mem _ hy)) _ (hS k hk i hi x (hL x List.mem_cons_self) M hM)
  have sI : ∀ k (hk : k < P.length) M, S M → ∀ i, i ≤ P[k].length → S (stI E k P[k] M i) := by
    intro k hk M hM i
    induction i with
    | zero => exact fun _ => hM
    | succ i ih => intro hi; rw [stI_next (by omega), stRow_fold]; exact sF k hk i (by omega) _ (fun _ h => h) _ (ih (by omega))
  have sK : ∀ M, S M → ∀ k, k ≤ P.length → S (stK E P M k) := by
    intro M hM k
    induction k with
    | zero => exact fun _ => hM
    | succ k ih => intro hk; rw [stK_next (by omega)]; exact sI k (by omega) _ (ih (by omega)) _ (Nat.le_refl _)
  induction t with
  | zero => exact h0
  | succ t ih => rw [stT]; exact sK _ ih _ (Nat.le_refl _)
theorem stT_sound {E : List Int} {P : List (List (List Int))} {S : Nat → Int → Prop} (hS : ∀ k (hk : k < P.length) i (hi : i < P[k].length) x, x ∈ lead E P[k][i] → S k (x - 100) ∧ ∀ c, S (x - 100).toNat c → S k c) (t j : Nat) : ∀ c ∈ (stT E P t).getD j [], S j c := by
  have := stT_keeps (E := E) (P := P) (S := fun M => ∀ j, ∀ c ∈ M.getD j [], S j c) (fun j c hc => by
      by_cases hj : j < P.length
      · simp [List.getD, hj] at hc
      · simp [List.getD, hj] at hc) (fun k hk i hi x hx M hM j c hc => by
      rw [stS, getD_set] at hc
      split at hc
      · rename_i hj
        rw [hj.1]
        rcases mem_joinL.1 hc with hc | hc
        · rcases mem_addL.1 hc with rfl | hc
          · exact (hS k hk i hi x hx).1
          · exact hM k c hc
        · exact (hS k hk i hi x hx).2 c (hM _ c hc)
      · exact hM j c hc) t
  exact this j
theorem stT_sorted (E : List Int) (P : List (List (List Int))) (t j : Nat) : ((stT E P t).getD j []).Pairwise (· < ·) := by
  have := stT_keeps (E := E) (P := P) (S := fun M => ∀ j, (M.getD j []).Pairwise (· < ·)) (fun j => by
      by_cases hj : j < P.length
      · simp [List.getD, hj]
      · simp [List.getD, hj]) (fun k hk i hi x hx M hM j => by
      rw [stS, getD_set]
      split
      · exact pair_joinL (pair_addL (hM k))
      · exact hM j) t
  exact this j
end Go.Proofs.Ytdniejpblhbjkab
namespace Go.Proofs.Ytdniejpblhbjkab
open Go.RowKit

/-- The first k flags of cs are put to those of bs from off on. -/
def joinTo (bs : List Bool) (off : Nat) (cs : List Bool) : Nat → List Bool
  | 0 => bs
  | k + 1 => (joinTo bs off cs k).set (off + k) ((joinTo bs off cs k).getD (off + k) false || cs.getD k false)
def joinB (bs : List Bool) (off : Nat) (cs : List Bool) : List Bool := joinTo bs off cs 27
theorem joinTo_length (bs : List Bool) (off : Nat) (cs : List Bool) (k : Nat) : (joinTo bs off cs k).length = bs.length := by
  induction k with
  | zero => rfl
  | succ k ih => rw [joinTo, List.length_set]; exact ih
theorem joinB_length (bs : List Bool) (off : Nat) (cs : List Bool) : (joinB bs off cs).length = bs.length := joinTo_length _ _ _ _
theorem joinTo_get (bs : List Bool) (off : Nat) (cs : List Bool) (k : Nat) (h : off + k ≤ bs.length) (i : Nat) : (joinTo bs off cs k).getD i false = (bs.getD i false || (decide (off ≤ i ∧ i < off + k) && cs.getD (i - off) false)) := by
  induction k with
  | zero => simp [joinTo]; omega
  | succ k ih =>
    have ih := ih (by omega)
    rw [joinTo]
    by_cases e : i = off + k
    · subst e
      have hl : off + k < (joinTo bs off cs k).length := by rw [joinTo_length]; omega
      have e1 : ((joinTo bs off cs k).set (off + k) ((joinTo bs off cs k).getD (off + k) false || cs.getD k false)).getD (off + k) false = ((joinTo bs off cs k).getD (off + k) false || cs.getD k false) := by
        generalize ((joinTo bs off cs k).getD (off + k) false || cs.getD k false) = v
        simp [List.getD, hl]
      rw [e1, ih, show off + k - off = k by omega]
      simp
    · have e1 : ∀ v, ((joinTo bs off cs k).set (off + k) v).getD i false = (joinTo bs off cs k).getD i false := by
        intro v
        simp [List.getD, Ne.symm e]
      rw [e1, ih]
      congr 2
      rw [Bool.eq_iff_iff]; simp; omega
theorem joinB_get {bs : List Bool} {off : Nat} {cs : List Bool} (h : off + 27 ≤ bs.length) (i : Nat) : (joinB bs off cs).getD i false = (bs.getD i false || (decide (off ≤ i ∧ i < off + 27) && cs.getD (i - off) false)) := joinTo_get bs off cs 27 h i

set_option maxHeartbeats 2000000 in
set_option maxRecDepth 100000 in
theorem join_any (b off : Nat) (t : TypeId) (bs cs : List Bool) (w : World) (hB : Bits w b t bs) (hl : off + 27 ≤ bs.length) (hc : cs.length = 27) :
    Calls Try.prog 57 #[.pointer (some ⟨b, off, none⟩), aggB cs] w fun e w' => e = .returned (.tuple #[]) ∧ Bits w' b t (joinB bs off cs) ∧ w.grownBy w' (some b) := by
  go_enter Try.func57, Try.ntmps57
  go_wp2_with (first | (refine wpList_boxB rfl 47 _ rfl cs rfl ?_; intro w1 hB1 hb1 hs1) | (refine wpList_loadW rfl 47 _ rfl w.heap.size 47 cs rfl (by rw [hc]; exact bt_flags) hB1 ?_))
  have HB0 : Hid (Bits w1 b t (joinTo bs off cs 0)) := hB.later hb1
  have HG0 : Hid (w.grownBy w1 (some b)) := grownBy_of_below hb1 _
  have HL : Hid (off + 27 ≤ bs.length) := hl
  clear hB hB1 hb1 hs1 hl
  go_loopw [7] (fun s7 wr => ∃ k : Nat, k ≤ 27 ∧ s7 = .int .i64 k ∧ Bits wr b t (joinTo bs off cs k) ∧ w.grownBy wr (some b)) (fun s7 _ => 27 - (intOf s7).toNat)
  case atStart => exact ⟨0, Nat.zero_le _, rfl, HB0.out, HG0.out⟩
  case round =>
    obtain ⟨k, hk, rfl, hBk, hgk⟩ := hrel
    clear HB0 HG0
    by_cases hlt : k < 27
    · have q0 := hBk.cell (n := off + k) (by rw [joinTo_length]; have := HL.out; omega)
      have f0 := hBk.frozen (off + k)
      have hk0 : (0 : Int) ≤ (k : Int) := by omega
      have hk1 : (k : Int) < 27 := by omega
      have HN : Hid (joinTo bs off cs (k + 1) = (joinTo bs off cs k).set (off + k) ((joinTo bs off cs k).getD (off + k) false || cs.getD k false)) := rfl
      have HC : Hid (cs.length = 27) := hc
      have HB : Hid (Bits wr b t (joinTo bs off cs k)) := hBk
      generalize joinTo bs off cs k = Tk at *
      generalize Tk.getD (off + k) false = x at *
      clear hc hBk
      obtain ⟨y, Hy⟩ : ∃ y, Hid (cs.getD k false = y) := ⟨_, rfl⟩
      rw [Hy.out] at HN
      go_wp2_with (refine wpList_indexB rfl 47 4 _ _ rfl cs k rfl rfl (by rw [HC.out]; exact u_flags) u_bool bool_size (by rw [HC.out]; exact hlt) ?_; rw [Hy.out])
      have key : ∀ (v : Bool) (W : World), (x || y) = v → Below wr.heap.size (wr.setCell ⟨b, off + k, none⟩ (.bool v)) W → Bits W b t (joinTo bs off cs (k + 1)) ∧ w.grownBy W (some b) := by
        intro v W hv hW
        rw [HN.out, hv]
        have hlt2 := HB.out.lt
        exact ⟨(HB.out.set (off + k) v).below hW hlt2, grownBy_trans (grownBy_trans hgk (setCell_grown wr b (off + k) _)) (grownBy_of_below (by simpa using hW) _)⟩
      have HK : Hid (∀ (v : Bool) (W : World), (x || y) = v → Below wr.heap.size (wr.setCell ⟨b, off + k, none⟩ (.bool v)) W → Bits W b t (joinTo bs off cs (k + 1)) ∧ w.grownBy W (some b)) := key
      clear key HN Hy HB
      cases x
      · have HK1 : Hid (∀ W : World, Below wr.heap.size (wr.setCell ⟨b, off + k, none⟩ (.bool y)) W → Bits W b t (joinTo bs off cs (k + 1)) ∧ w.grownBy W (some b)) := fun W hW => HK.out y W (by simp) hW
        clear HK
        go_region
        all_goals
          go_wp2
          go_roundw
          case rel => exact ⟨k + 1, by omega, by go_num, (HK1.out _ (by first | exact Below.refl _ _ | exact Below.drew (Below.refl _ _))).1, (HK1.out _ (by first | exact Below.refl _ _ | exact Below.drew (Below.refl _ _))).2⟩
          case measure => simp [intOf]; omega
      · have HK1 : Hid (∀ W : World, Below wr.heap.size (wr.setCell ⟨b, off + k, none⟩ (.bool true)) W → Bits W b t (joinTo bs off cs (k + 1)) ∧ w.grownBy W (some b)) := fun W hW => HK.out true W (by simp) hW
        clear HK
        go_region
        all_goals
          go_wp2
          go_roundw
          case rel => exact ⟨k + 1, by omega, by go_num, (HK1.out _ (by first | exact Below.refl _ _ | exact Below.drew (Below.refl _ _))).1, (HK1.out _ (by first | exact Below.refl _ _ | exact Below.drew (Below.refl _ _))).2⟩
          case measure => simp [intOf]; omega
    · have e : k = 27 := by omega
      subst e
      go_wp2
      go_end0
      exact ⟨rfl, hBk, hgk⟩
end Go.Proofs.Ytdniejpblhbjkab
namespace Go.Proofs.Ytdniejpblhbjkab
open Go.RowKit

/-- One symbol's step; one row's. -/
def stX (k n : Nat) (T : List Bool) : List Bool := joinB (T.set (k * 27 + n) true) (k * 27) (((T.set (k * 27 + n) true).drop (n * 27)).take 27)
def stB (E : List Bool) (k : Nat) : List Bool → List Int → List Bool
  | T, [] => T
  | T, x :: xs => if 100 ≤ x then (if E.getD (x - 100).toNat false then stB E k (stX k (x - 100).toNat T) xs else stX k (x - 100).toNat T) else T
theorem stX_length (k n : Nat) (T : List Bool) : (stX k n T).length = T.length := by rw [stX, joinB_length, List.length_set]
theorem stB_end {E T : List Bool} {k j : Nat} {R : List Int} (h : ¬ j < R.length) : stB E k T (R.drop j) = T := by rw [List.drop_eq_nil_of_le (by omega), stB]
theorem stB_letter {E T : List Bool} {k j : Nat} {R : List Int} (h : j < R.length) (g : R[j] ≤ 25) : stB E k T (R.drop j) = T := by rw [List.drop_eq_getElem_cons h, stB, if_neg (by omega)]
theorem stB_go {E T : List Bool} {k j n : Nat} {R : List Int} (h : j < R.length) (e : R[j] = 100 + (n : Int)) (g : E.getD n false = true) : stB E k T (R.drop j) = stB E k (stX k n T) (R.drop (j + 1)) := by
  have e2 : (R[j] - 100).toNat = n := by omega
  rw [List.drop_eq_getElem_cons h, stB, if_pos (by omega), e2, if_pos g]
theorem stB_stop {E T : List Bool} {k j n : Nat} {R : List Int} (h : j < R.length) (e : R[j] = 100 + (n : Int)) (g : E.getD n false = false) : stB E k T (R.drop j) = stX k n T := by
  have e2 : (R[j] - 100).toNat = n := by omega
  rw [List.drop_eq_getElem_cons h, stB, if_pos (by omega), e2, if_neg (by rw [g]; simp)]
theorem chunk_length {T : List Bool} {n : Nat} (h : T.length = 540) (hn : n < 20) : ((T.drop (n * 27)).take 27).length = 27 := by rw [List.length_take, List.length_drop]; omega

set_option maxHeartbeats 4000000 in
set_option maxRecDepth 100000 in
theorem startsStep_any (b bE : Nat) (tE : TypeId) (T E : List Bool) (k : Nat) (R : List Int) (a : Option Addr) (c : Nat) (w : World) (hB : Bits w b 50 T) (hT : T.length = 540) (hE : Bits w bE tE E) (hEl : 20 ≤ E.length) (hne : bE ≠ b) (hk : k < 20) (w0 : World) (hR : Reads w0 a R) (hw0 : Below w0.heap.size w0 w) (hb0 : w0.heap.size ≤ b) (hz : ∀ z ∈ R, (0 ≤ z ∧ z ≤ 25) ∨ (100 ≤ z ∧ z < 120)) (hrl : R.length ≤ 1048576) :
    Calls Try.prog 62 #[.pointer (some ⟨b, 0, none⟩), .int .i64 (k : Int), .slice a R.length c, .pointer (some ⟨bE, 0, none⟩)] w fun e w' => e = .returned (.tuple #[]) ∧ Bits w' b 50 (stB E k T R) ∧ w.grownBy w' (some b) := by
  have HZ : Hid (∀ z ∈ R, (0 ≤ z ∧ z ≤ 25) ∨ (100 ≤ z ∧ z < 120)) := hz
  have HR : Hid (∀ W : World, w.grownBy W (some b) → Reads W a R) := by
    intro W hW
    rcases hR with rfl | ⟨g, off, rfl, hlt, hc⟩
    · exact .inl rfl
    · have hgw := Nat.lt_of_lt_of_le hlt hw0.size
      refine .inr ⟨g, off, rfl, Nat.lt_of_lt_of_le hgw hW.size, fun i hi => ?_⟩
      have hgb : g ≠ b := by omega
      have := World.cell?_of_block (w := w) (w' := W) (a := ⟨g, off + i, none⟩) (hW.block g hgw (by intro h; cases h; exact hgb rfl))
      rw [this]; exact (hw0.cell (p := ⟨g, off + i, none⟩) hlt).trans (hc i hi)
  have HEE : Hid (∀ W : World, w.grownBy W (some b) → Bits W bE tE E) := fun W hW => hE.grown hW (by intro h; cases h; exact hne rfl)
  have hk0 : (0 : Int) ≤ (k : Int) := by omega
  have hk1 : (k : Int) < 20 := by omega
  clear hz hR hw0 hE
  go_enter Try.func62, Try.ntmps62
  go_wp2
  go_loopw [11] (fun s wr => ∃ (j : Nat) (Tj : List Bool), j ≤ R.length ∧ s = .int .i64 j ∧ Hid (stB E k Tj (R.drop j) = stB E k T R) ∧ Bits wr b 50 Tj ∧ Hid (Tj.length = 540) ∧ w.grownBy wr (some b)) (fun s _ => R.length - (intOf s).toNat)
  case atStart => exact ⟨0, T, Nat.zero_le _, rfl, by show _ = _; rw [List.drop_zero], hB, hT, World.grownBy.refl _ _⟩
  case round =>
    obtain ⟨j, Tj, hj, rfl, HJ0, hBj, HTl, hgj⟩ := hrel
    clear hB hT
    by_cases hlt : j < R.length
    · obtain ⟨g, off, rfl, hgl, hc⟩ := (HR.out wr hgj).at hlt
      have q1 := hc j hlt
      rw [List.getD_eq_getElem?_getD, List.getElem?_eq_getElem hlt, Option.getD_some] at q1
      have hzr := HZ.out _ (List.getElem_mem hlt)
      have HLt : Hid (R[j] ≤ 25 → stB E k Tj (R.drop j) = Tj) := fun h => stB_letter hlt h
      have HGo : Hid (∀ n : Nat, R[j] = 100 + (n : Int) → E.getD n false = true → stB E k Tj (R.drop j) = stB E k (stX k n Tj) (R.drop (j + 1))) := fun n h1 h2 => stB_go hlt h1 h2
      have HSt : Hid (∀ n : Nat, R[j] = 100 + (n : Int) → E.getD n false = false → stB E k Tj (R.drop j) = stX k n Tj) := fun n h1 h2 => stB_stop hlt h1 h2
      clear hc
      generalize R[j] = z at *
      by_cases hlet : z ≤ 25
      · have hin : inB z 0 25 = true := inB_true.2 (by omega)
        have HF : Hid (stB E k T R = Tj) := by show _ = _; rw [← HJ0.out]; exact HLt.out hlet
        have X : Hid (∀ W : World, Calls Try.prog 58 #[.int .i64 z] W fun e w' => e = .returned (.bool true) ∧ w' = W) := fun W => by have := isLetter_any z W; rwa [hin] at this
        clear hin HGo HSt HLt
        go_wp2_with (go_at_call 58; refine (X.out _).mono ?_; rintro e w' ⟨rfl, hw'⟩; have hw2 := hw'.symm; clear hw'; subst hw2)
        exact bodyPost_ret (results_none rfl _ _ _) rfl ⟨rfl, by rw [HF.out]; exact hBj, hgj⟩
      · have hin : inB z 0 25 = false := inB_false.2 (by omega)
        have X : Hid (∀ W : World, Calls Try.prog 58 #[.int .i64 z] W fun e w' => e = .returned (.bool false) ∧ w' = W) := fun W => by have := isLetter_any z W; rwa [hin] at this
        obtain ⟨n, hn⟩ : ∃ n : Nat, z = 100 + (n : Int) := ⟨(z - 100).toNat, by omega⟩
        subst hn
        have hn0 : (0 : Int) ≤ (n : Int) := by omega
        have hn1 : (n : Int) < 20 := by omega
        have hn2 : (n : Int) < 27 := by omega
        have q2 := hBj.cell (n := k * 27 + n) (by rw [HTl.out]; omega)
        have f2 := hBj.frozen (k * 27 + n)
        have hBs := hBj.set (k * 27 + n) true
        have hgs : w.grownBy (wr.setCell ⟨b, k * 27 + n, none⟩ (.bool true)) (some b) := grownBy_trans hgj (setCell_grown wr b _ _)
        have HT1 : Hid ((Tj.set (k * 27 + n) true).length = 540) := by show _ = _; rw [List.length_set]; exact HTl.out
        have HX2 : Hid (joinB (Tj.set (k * 27 + n) true) (k * 27) (((Tj.set (k * 27 + n) true).drop (n * 27)).take 27) = stX k n Tj) := rfl
        have HXl : Hid ((stX k n Tj).length = 540) := by show _ = _; rw [stX_length]; exact HTl.out
        generalize Tj.getD (k * 27 + n) false = y at *
        clear hin HLt hlet hzr
        generalize hT1e : Tj.set (k * 27 + n) true = T1 at *
        clear hT1e
        have HD : Hid (∀ W : World, Bits W b 50 T1 → Calls Try.prog 57 #[.pointer (some ⟨b, k * 27, none⟩), aggB ((T1.drop (n * 27)).take 27)] W fun e w' => e = .returned (.tuple #[]) ∧ Bits w' b 50 (stX k n Tj) ∧ W.grownBy w' (some b)) := fun W hW => by
          have := join_any b (k * 27) 50 T1 ((T1.drop (n * 27)).take 27) W hW (by rw [HT1.out]; omega) (chunk_length HT1.out (by omega))
          rwa [HX2.out] at this
        have HBS : Hid (Bits (wr.setCell ⟨b, k * 27 + n, none⟩ (.bool true)) b 50 T1) := hBs
        have HGS : Hid (w.grownBy (wr.setCell ⟨b, k * 27 + n, none⟩ (.bool true)) (some b)) := hgs
        clear hBs hgs hBj hgj HX2
        go_wp2_with (go_at_call 58; refine (X.out _).mono ?_; rintro e w' ⟨rfl, hw'⟩; have hw2 := hw'.symm; clear hw'; subst hw2)
        clear q2 f2 q1
        generalize wr.setCell ⟨b, k * 27 + n, none⟩ (.bool true) = ws at *
        have HBd : Hid (Bits ws.drew b 50 T1) := HBS.out.later (Below.drew (Below.refl _ _))
        have HJ : Hid (Calls Try.prog 57 #[.pointer (some ⟨b, k * 27, none⟩), aggB ((T1.drop (n * 27)).take 27)] ws.drew fun e w' => e = .returned (.tuple #[]) ∧ Bits w' b 50 (stX k n Tj) ∧ ws.drew.grownBy w' (some b)) := HD.out ws.drew HBd.out
        have HW : Hid (IntKind.i64.wrap (100 + (n : Int) - 100) = n) := by
          show _ = _
          rw [show (100 + (n : Int) - 100) = n by omega]
          first | exact IntKind.wrap_of_wf (by simp [Lit.wf]; omega) | (unfold IntKind.wrap; simp; omega) | (simp [IntKind.wrap, IntKind.bits]; omega) | (go_num)
        have hT1b : n * 27 + 27 ≤ T1.length := by rw [HT1.out]; omega
        refine wp_region_held_drew (S := fun _ => True) (by kernel_rfl) trivial (fun hHeld => ?_)
        refine take_atL (i := 0) (d := some 24) (v := .pointer (some ⟨b, 0, none⟩)) rfl rfl (by kernel_rfl) (by kernel_rfl) (by kernel_rfl) (fun _ _ _ h => h) (by rfl) ?_ hHeld ?_
        · intro w' _; go_simp; first | done | rfl | exact HW.out
        try simp only [Act.put, List.setIfInBounds_toArray, List.set_cons_zero, List.set_cons_succ]
        refine take_atL (i := 1) (d := some 25) (v := .int .i64 (k : Int)) rfl rfl (by kernel_rfl) (by kernel_rfl) (by kernel_rfl) (fun _ _ _ h => h) (by rfl) ?_ hHeld ?_
        · intro w' _; go_simp; first | done | rfl | exact HW.out
        try simp only [Act.put, List.setIfInBounds_toArray, List.set_cons_zero, List.set_cons_succ]
        refine take_atL (i := 2) (d := some 26) (v := .pointer (some ⟨b, 0, none⟩)) rfl rfl (by kernel_rfl) (by kernel_rfl) (by kernel_rfl) (fun _ _ _ h => h) (by rfl) ?_ hHeld ?_
        · intro w' _; go_simp; first | done | rfl | exact HW.out
        try simp only [Act.put, List.setIfInBounds_toArray, List.set_cons_zero, List.set_cons_succ]
        refine take_atL (i := 3) (d := some 27) (v := .pointer (some ⟨b, k * 27, none⟩)) rfl rfl (by kernel_rfl) (by kernel_rfl) (by kernel_rfl) (fun _ _ _ h => h) (by rfl) ?_ hHeld ?_
        · intro w' _; go_simp; first | done | rfl | exact HW.out
        try simp only [Act.put, List.setIfInBounds_toArray, List.set_cons_zero, List.set_cons_succ]
        refine take_atL (i := 4) (d := some 28) (v := .pointer (some ⟨b, 0, none⟩)) rfl rfl (by kernel_rfl) (by kernel_rfl) (by kernel_rfl) (fun _ _ _ h => h) (by rfl) ?_ hHeld ?_
        · intro w' _; go_simp; first | done | rfl | exact HW.out
        try simp only [Act.put, List.setIfInBounds_toArray, List.set_cons_zero, List.set_cons_succ]
        refine take_atL (i := 5) (d := some 29) (v := .int .i64 (100 + (n : Int))) rfl rfl (by kernel_rfl) (by kernel_rfl) (by kernel_rfl) (fun _ _ _ h => h) (by rfl) ?_ hHeld ?_
        · intro w' _; go_simp; first | done | rfl | exact HW.out
        try simp only [Act.put, List.setIfInBounds_toArray, List.set_cons_zero, List.set_cons_succ]
        refine take_atL (i := 6) (d := some 30) (v := .int .i64 (n : Int)) rfl rfl (by kernel_rfl) (by kernel_rfl) (by kernel_rfl) (fun _ _ _ h => h) (by rfl) ?_ hHeld ?_
        · intro w' _; go_simp; first | done | rfl | exact HW.out
        try simp only [Act.put, List.setIfInBounds_toArray, List.set_cons_zero, List.set_cons_succ]
        refine take_atL (i := 7) (d := some 31) (v := .pointer (some ⟨b, 0, none⟩)) rfl rfl (by kernel_rfl) (by kernel_rfl) (by kernel_rfl) (fun _ _ _ h => h) (by rfl) ?_ hHeld ?_
        · intro w' _; go_simp; first | done | rfl | exact HW.out
        try simp only [Act.put, List.setIfInBounds_toArray, List.set_cons_zero, List.set_cons_succ]
        refine take_atL (i := 8) (d := some 32) (v := .pointer (some ⟨b, n * 27, none⟩)) rfl rfl (by kernel_rfl) (by kernel_rfl) (by kernel_rfl) (fun _ _ _ h => h) (by rfl) ?_ hHeld ?_
        · intro w' _; go_simp; first | done | rfl | exact HW.out
        try simp only [Act.put, List.setIfInBounds_toArray, List.set_cons_zero, List.set_cons_succ]
        refine wpAnyH_ready (rs := [9]) (by kernel_rfl) (by simp) ?_
        refine AllReadyH.cons (o := _) rfl (fun K hK => ?_) AllReadyH.nil
        rw [if_pos (by rfl)]
        unfold Oper.wp
        rw [exec_loadB (t := 50) (b := b) (off := n * 27) (n := 27) (bs := T1) rfl rfl bt_flags HBd.out (by omega), Oper.upon_value]
        refine hK.out _ _ trivial (fun hHeld => ?_)
        clear hK K
        simp only [Act.put, List.setIfInBounds_toArray]
        refine wpAnyH_ready (rs := [10]) (by kernel_rfl) (by simp) ?_
        refine AllReadyH.cons (o := _) rfl (fun K hK => ?_) AllReadyH.nil
        rw [if_pos (by rfl)]
        go_simp
        refine (HJ.out).mono ?_
        rintro e w5 ⟨rfl, hB5, hg5⟩
        go_wp2_with fail
        refine hK.out _ _ trivial (fun hHeld => ?_)
        clear hK K
        try simp only [Act.put, List.setIfInBounds_toArray, List.set_cons_zero, List.set_cons_succ]
        refine wpAnyH_done (by kernel_rfl) ?_ _
        clear hHeld
        have hg6 : w.grownBy w5 (some b) := grownBy_trans HGS.out (grownBy_trans (grownBy_of_below (Below.drew (Below.refl _ _)) _) hg5)
        have q6 := (HEE.out w5 hg6).cell (n := n) (by omega)
        clear HBS HGS HBd HJ hg5 HD HT1 hT1b
        by_cases hup : E.getD n false = true
        · rw [hup] at q6
          have HF : Hid (stB E k (stX k n Tj) (R.drop (j + 1)) = stB E k T R) := by show _ = _; rw [← HGo.out n rfl hup]; exact HJ0.out
          clear HGo HSt hup HJ0
          go_wp2
          go_roundw
          case rel => exact ⟨j + 1, stX k n Tj, by omega, by go_num, HF, hB5, HXl, hg6⟩
          case measure => simp [intOf]; omega
        · have hdn : E.getD n false = false := by simpa using hup
          rw [hdn] at q6
          have HF : Hid (stX k n Tj = stB E k T R) := by show _ = _; rw [← HSt.out n rfl hdn]; exact HJ0.out
          clear HGo HSt hup hdn HJ0
          go_wp2
          exact bodyPost_ret (results_none rfl _ _ _) rfl ⟨rfl, by rw [← HF.out]; exact hB5, hg6⟩
    · have HF : Hid (stB E k T R = Tj) := by show _ = _; rw [← HJ0.out]; exact stB_end hlt
      go_wp2
      go_end0
      exact ⟨rfl, by rw [HF.out]; exact hBj, hgj⟩
end Go.Proofs.Ytdniejpblhbjkab
namespace Go.Proofs.Ytdniejpblhbjkab
open Go.RowKit

/-- As it was, or with more flags. -/
def Up (A B : List Bool) : Prop := B.length = A.length ∧ (B = A ∨ cntB A < cntB B)
theorem Up.refl (A : List Bool) : Up A A := ⟨rfl, .inl rfl⟩
theorem Up.trans {A B C : List Bool} (h : Up A B) (g : Up B C) : Up A C := by
  refine ⟨by rw [g.1, h.1], ?_⟩
  rcases h.2 with rfl | h2
  · exact g.2
  · rcases g.2 with rfl | g2
    · exact .inr h2
    · exact .inr (by omega)
theorem Up.fix {A B C : List Bool} (h : Up A B) (g : Up B C) (e : C = A) : B = A := by
  rcases h.2 with h2 | h2
  · exact h2
  · rcases g.2 with g2 | g2
    · rw [← g2]; exact e
    · subst e; omega
theorem Up.bstep (A : List Bool) (s : Nat × (List Bool → Bool)) : Up A (bstep A s) := ⟨bstep_length _ _, bstep_or _ _⟩
theorem Up.set (A : List Bool) (i : Nat) : Up A (A.set i true) := by
  have := Up.bstep A (i, fun _ => true)
  simpa only [Go.Proofs.Ytdniejpblhbjkab.bstep, Bool.or_true] using this
theorem Up.joinTo (A : List Bool) (off : Nat) (cs : List Bool) (k : Nat) : Up A (joinTo A off cs k) := by
  induction k with
  | zero => exact Up.refl _
  | succ k ih => exact ih.trans (Up.bstep _ (off + k, fun _ => cs.getD k false))
theorem Up.joinB (A : List Bool) (off : Nat) (cs : List Bool) : Up A (joinB A off cs) := Up.joinTo _ _ _ _
theorem Up.stX (k n : Nat) (T : List Bool) : Up T (stX k n T) := (Up.set T _).trans (Up.joinB _ _ _)
theorem Up.stB (E : List Bool) (k : Nat) : ∀ (row : List Int) (T : List Bool), Up T (stB E k T row)
  | [], T => by rw [Go.Proofs.Ytdniejpblhbjkab.stB]; exact Up.refl _
  | x :: xs, T => by
    rw [Go.Proofs.Ytdniejpblhbjkab.stB]
    split
    · split
      · exact (Up.stX _ _ _).trans (Up.stB E k xs _)
      · exact Up.stX _ _ _
    · exact Up.refl _
theorem chunk_get (T : List Bool) (n c : Nat) (hc : c < 27) : ((T.drop (n * 27)).take 27).getD c false = T.getD (n * 27 + c) false := by
  simp [List.getD, hc]
theorem stX_get {k n : Nat} {T : List Bool} (hT : T.length = 540) (hk : k < 20) (hn : n < 20) {j c : Nat} (hj : j < 20) (hc : c < 27) :
    (stX k n T).getD (j * 27 + c) false = true ↔ (T.getD (j * 27 + c) false = true ∨ (j = k ∧ (c = n ∨ T.getD (n * 27 + c) false = true))) := by
  have hl : (T.set (k * 27 + n) true).length = 540 := by rw [List.length_set]; exact hT
  have g : ∀ i d, i < 20 → d < 27 → (T.set (k * 27 + n) true).getD (i * 27 + d) false = (T.getD (i * 27 + d) false || decide (i = k ∧ d = n)) := by
    intro i d hi hd
    rw [getD_setB]
    by_cases e : i = k ∧ d = n
    · rw [if_pos ⟨by rw [e.1, e.2], by omega⟩, decide_eq_true e, Bool.or_true]
    · rw [if_neg (by intro h; omega), decide_eq_false e, Bool.or_false]
  rw [stX, joinB_get (by rw [hl]; omega), g j c hj hc]
  by_cases e : j = k
  · subst e
    rw [decide_eq_true (show j * 27 ≤ j * 27 + c ∧ j * 27 + c < j * 27 + 27 by omega), Bool.true_and, show j * 27 + c - j * 27 = c by omega, chunk_get _ _ _ hc, g n c hn hc]
    simp only [Bool.or_eq_true, decide_eq_true_eq, true_and]
    constructor
    · rintro ((h | h) | (h | ⟨_, h⟩))
      · exact .inl h
      · exact .inr (.inl h)
      · exact .inr (.inr h)
      · exact .inr (.inl h)
    · rintro (h | h | h)
      · exact .inl (.inl h)
      · exact .inl (.inr h)
      · exact .inr (.inl h)
  · rw [decide_eq_false (show ¬ (k * 27 ≤ j * 27 + c ∧ j * 27 + c < k * 27 + 27) by omega), Bool.false_and, Bool.or_false, decide_eq_false (by intro h; exact e h.1), Bool.or_false]
    constructor
    · exact .inl
    · rintro (h | ⟨h, _⟩)
      · exact h
      · exact absurd h e
theorem symsOk {P : List (List (List Int))} (h : gramOkB P = true) {k i : Nat} (hk : k < P.length) (hi : i < P[k].length) : ∀ z ∈ P[k][i], (0 ≤ z ∧ z ≤ 25) ∨ (100 ≤ z ∧ z < 100 + P.length) := by
  simp only [gramOkB, Bool.and_eq_true, inB_true, List.all_eq_true, partOk, rowOk, decide_eq_true_eq] at h
  intro z hz
  have := symOk_true.1 (((h.2 _ (List.getElem_mem hk)).2 _ (List.getElem_mem hi)).2 z hz)
  omega
def stR (E : List Bool) (k : Nat) (row : List Int) (T : List Bool) : List Bool := stB E k T row
theorem stR_raises (E : List Bool) (P : List (List (List Int))) : Raises (stR E) P 540 := fun k _ i _ T hT => by
  have := Up.stB E k P[k][i] T
  exact ⟨by rw [stR, this.1]; exact hT, this.2⟩
theorem stB_fix {E : List Int} {k : Nat} (hk : k < 20) : ∀ (row : List Int) (T : List Bool), (∀ z ∈ row, (0 ≤ z ∧ z ≤ 25) ∨ (100 ≤ z ∧ z < 120)) → T.length = 540 → stB (flagsOf E) k T row = T → ∀ x ∈ lead E row, T.getD (k * 27 + (x - 100).toNat) false = true ∧ ∀ c, c < 27 → T.getD ((x - 100).toNat * 27 + c) false = true → T.getD (k * 27 + c) false = true
  | [], T, _, _, _, x, hx => by simp [lead] at hx
  | y :: ys, T, hz, hT, he, x, hx => by
    have hy := hz y List.mem_cons_self
    by_cases h100 : 100 ≤ y
    · have hn : (y - 100).toNat < 20 := by omega
      have hyn : (((y - 100).toNat : Nat) : Int) = y - 100 := by omega
      have hfl : (flagsOf E).getD (y - 100).toNat false = hasL E (y - 100) := by rw [flagsOf_get _ (by omega), hyn]
      rw [stB, if_pos h100, hfl] at he
      rw [lead, if_pos h100] at hx
      have e1 : stX k (y - 100).toNat T = T := by
        split at he
        · exact Up.fix (Up.stX _ _ _) (Up.stB _ _ _ _) he
        · exact he
      have here : T.getD (k * 27 + (y - 100).toNat) false = true ∧ ∀ c, c < 27 → T.getD ((y - 100).toNat * 27 + c) false = true → T.getD (k * 27 + c) false = true := by
        refine ⟨?_, fun c hc h => ?_⟩
        · have := (stX_get (T := T) hT hk hn hk (show (y - 100).toNat < 27 by omega)).2 (.inr ⟨rfl, .inl rfl⟩)
          rwa [e1] at this
        · have := (stX_get (T := T) hT hk hn hk hc).2 (.inr ⟨rfl, .inr h⟩)
          rwa [e1] at this
      rcases List.mem_cons.1 hx with rfl | hx
      · exact here
      · split at hx
        · rename_i hE
          rw [if_pos hE, e1] at he
          exact stB_fix hk ys T (fun z h => hz z (List.mem_cons_of_mem _ h)) hT he x hx
        · simp at hx
    · rw [lead, if_neg h100] at hx; simp at hx
theorem stB_keeps {E : List Int} {k : Nat} (hk : k < 20) {S : Nat → Int → Prop} : ∀ (row : List Int) (T : List Bool), (∀ z ∈ row, (0 ≤ z ∧ z ≤ 25) ∨ (100 ≤ z ∧ z < 120)) → T.length = 540 → (∀ x ∈ lead E row, S k (x - 100) ∧ ∀ c, S (x - 100).toNat c → S k c) → (∀ j c, j < 20 → c < 27 → T.getD (j * 27 + c) false = true → S j (c : Int)) → ∀ j c, j < 20 → c < 27 → (stB (flagsOf E) k T row).getD (j * 27 + c) false = true → S j (c : Int)
  | [], T, _, _, _, h, j, c, hj, hc, hg => by rw [stB] at hg; exact h j c hj hc hg
  | y :: ys, T, hz, hT, hS, h, j, c, hj, hc, hg => by
    have hy := hz y List.mem_cons_self
    by_cases h100 : 100 ≤ y
    · have hn : (y - 100).toNat < 20 := by omega
      have hyn : (((y - 100).toNat : Nat) : Int) = y - 100 := by omega
      have hfl : (flagsOf E).getD (y - 100).toNat false = hasL E (y - 100) := by rw [flagsOf_get _ (by omega), hyn]
      rw [stB, if_pos h100, hfl] at hg
      have hy2 := hS y (by rw [lead, if_pos h100]; exact List.mem_cons_self)
      have hX : ∀ j c, j < 20 → c < 27 → (stX k (y - 100).toNat T).getD (j * 27 + c) false = true → S j (c : Int) := by
        intro j c hj hc hg
        rcases (stX_get hT hk hn hj hc).1 hg with h1 | ⟨rfl, h1 | h1⟩
        · exact h j c hj hc h1
        · rw [h1, hyn]; exact hy2.1
        · exact hy2.2 _ (h _ c hn hc h1)
      split at hg
      · rename_i hE
        refine stB_keeps hk ys _ (fun z h => hz z (List.mem_cons_of_mem _ h)) (by rw [stX_length]; exact hT) (fun x hx => hS x ?_) hX j c hj hc hg
        rw [lead, if_pos h100, if_pos hE]; exact List.mem_cons_of_mem _ hx
      · exact hX j c hj hc hg
    · rw [stB, if_neg h100] at hg
      exact h j c hj hc hg
theorem lead_part {E : List Int} : ∀ {row : List Int}, (∀ z ∈ row, (0 ≤ z ∧ z ≤ 25) ∨ (100 ≤ z ∧ z < 120)) → ∀ {x : Int}, x ∈ lead E row → 100 ≤ x ∧ x < 120
  | [], _, x, h => by simp [lead] at h
  | y :: ys, hz, x, h => by
    rw [lead] at h
    split at h
    · rcases List.mem_cons.1 h with rfl | h
      · have := hz x List.mem_cons_self; omega
      · split at h
        · exact lead_part (fun z hz2 => hz z (List.mem_cons_of_mem _ hz2)) h
        · simp at h
    · simp at h
/-- The table that startsOf answers. -/
theorem startsOf_is {P : List (List (List Int))} (hok : gramOkB P = true) {T : List Bool} (hl : T.length = 540) (hG : Grows (stR (flagsOf (emptiesL P))) P (List.replicate 540 false) T) (hx : leK (stR (flagsOf (emptiesL P))) P T P.length = T) {k : Nat} (hk : k < P.length) :
    numsB (fun c => T.getD (k * 27 + c) false) 27 = (startsL P).getD k [] := by
  have F := Fits.of hok
  have hp := F.parts
  have sy : ∀ k (hk : k < P.length) i (hi : i < P[k].length), ∀ z ∈ P[k][i], (0 ≤ z ∧ z ≤ 25) ∨ (100 ≤ z ∧ z < 120) := fun k hk i hi z hz => by have := symsOk hok hk hi z hz; omega
  have sound := hG (fun T => T.length = 540 ∧ ∀ j c, j < 20 → c < 27 → T.getD (j * 27 + c) false = true → (c : Int) ∈ (startsL P).getD j []) ⟨List.length_replicate, fun j c _ _ h => by rw [rep_getD] at h; cases h⟩
    (fun k hk i hi T hT => ⟨by rw [stR, (Up.stB _ _ _ _).1]; exact hT.1, stB_keeps (S := fun j c => c ∈ (startsL P).getD j []) (by omega) P[k][i] T (sy k hk i hi) hT.1 (fun x hx => ⟨stT_closed hk hi hx (.inl rfl), fun c hc => stT_closed hk hi hx (.inr hc)⟩) hT.2⟩)
  have compl : ∀ c ∈ (startsL P).getD k [], T.getD (k * 27 + c.toNat) false = true := by
    have := stT_sound (E := emptiesL P) (P := P) (S := fun j c => 0 ≤ c ∧ c < 27 ∧ T.getD (j * 27 + c.toNat) false = true) (fun k hk i hi x hm => by
      have hfx := (stR_raises (flagsOf (emptiesL P)) P).fix hl hx hk hi
      have hb := stB_fix (E := emptiesL P) (k := k) (by omega) P[k][i] T (sy k hk i hi) hl hfx x hm
      have hxr : 100 ≤ x ∧ x < 120 := lead_part (sy k hk i hi) hm
      refine ⟨⟨by omega, by omega, hb.1⟩, fun c hc => ⟨hc.1, hc.2.1, hb.2 c.toNat (by omega) hc.2.2⟩⟩) (P.length + 1) k
    exact fun c hc => (this c hc).2.2
  have hset := (stT_sets (emptiesL P) F (P.length + 1)).get (k := k)
  refine nums_flags (stT_sorted _ _ _ _) (fun x h => by have := hset.lt x h; omega) (fun n hn => ?_)
  rw [Bool.eq_iff_iff]
  constructor
  · intro h; exact hasL_yes (sound.2 k n (by omega) hn h)
  · intro h
    have h2 := compl n (of_decide_eq_true h)
    simpa using h2
end Go.Proofs.Ytdniejpblhbjkab
