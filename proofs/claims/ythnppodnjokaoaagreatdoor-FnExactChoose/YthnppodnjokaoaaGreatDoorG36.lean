/-
  Contracts and plain mathematics, joined: Choose, ChooseLaw. No statement is proved here.
-/
import Derived.Sort.OwnSortedInts
import Derived.Test.YthnppodnjokaoaaGreatDoorG27
import Derived.Test.YthnppodnjokaoaaGreatDoorG31
import Derived.Test.YthnppodnjokaoaaGreatDoorG35
import Derived.Test.YthnppodnjokaoaaGreatDoorG1
import Derived.Test.YthnppodnjokaoaaGreatDoorG5
import Derived.Test.YthnppodnjokaoaaGreatDoorG14
import Derived.Test.YthnppodnjokaoaaGreatDoorG18
import Derived.Test.YthnppodnjokaoaaGreatDoorG6
import Derived.Test.YthnppodnjokaoaaGreatDoorG12
import Derived.Test.YthnppodnjokaoaaGreatDoorG33
namespace Go.Proofs.YthnppodnjokaoaaGreatDoor
open Go.RowKit

set_option maxHeartbeats 1000000 in
theorem sorted_any (b off cap Bs : Nat) (zs : List Int) (hz : zs.length ≤ 1048576) (hp : 0 < zs.length) (w : World) (hBl : Bs < w.heap.size) (hbl : b < w.heap.size) (hBs : w.cell? ⟨Bs, 0, none⟩ = some (.slice (some ⟨b, off, none⟩) zs.length cap)) (hc : ∀ j (hj : j < zs.length), w.cell? ⟨b, off + j, none⟩ = some (.int .i64 zs[j])) :
    Calls Tryz.prog 39 #[.func (.func 56) #[] #[.pointer (some ⟨Bs, 0, none⟩)]] w fun e w' => ∃ v, e = .returned v ∧ OwnInts w' w.heap.size 3 v (zs.mergeSort (fun x y => decide (x ≤ y))) ∧ Below w.heap.size w w' := by
  have X := collect_any b off cap Bs zs hz w hBl hbl hBs hc
  have HSL : Hid ((zs.mergeSort (fun x y => decide (x ≤ y))).length = zs.length) := List.length_mergeSort _
  obtain ⟨S, HS⟩ : ∃ S, Hid (zs.mergeSort (fun x y => decide (x ≤ y)) = S) := ⟨_, rfl⟩
  rw [HS.out] at HSL ⊢
  clear hBs hc
  go_enter Tryz.func39, Tryz.ntmps39
  go_wp2_with fail
  refine X.mono ?_
  rintro e w1 ⟨v, rfl, hO, hb⟩
  obtain ⟨_, ⟨_, h0⟩ | ⟨g, cap2, cur, rfl, hbg, hg, hnc, hcm, hcs, htake⟩⟩ := hO
  · omega
  have hgl : g < w1.heap.size := (Array.getElem?_eq_some_iff.1 hg).1
  have Y := Tryz.slices_Sort_int g 0 cap2 zs w1 (holds_of_blockI hg (by rw [Nat.mul_one] at htake; exact htake)) hgl (by omega)
  rw [HS.out] at Y
  clear HS
  go_wp2_with fail
  refine Y.mono ?_
  rintro e w2 ⟨rfl, n, os, hw2⟩
  have hR := ownsRow_sortedI (n := n) (os := os) (base := w.heap.size) HSL.out hbg hg hnc hcm hcs
  have hG := grownBy_sortedI (w := w1) (g := g) (n := n) (os := os) S.toArray
  rw [← hw2] at hR hG
  clear hw2 hg hcs htake X Y
  have HR : Hid (OwnInts w2 w.heap.size 3 (.slice (some ⟨g, 0, none⟩) zs.length cap2) S) := by show OwnInts _ _ _ _ _; unfold OwnInts; rw [HSL.out]; exact hR
  clear hR
  go_wp2
  go_ret
  exact ⟨_, rfl, HR.out, hb.grown hG hb.size (fun k e => by cases e; exact hbg)⟩

/-- What is chosen of alternatives that go so far, where so many letters are left. -/
def chosenOf (L : List Int) (left : Int) : Int × Int := if L = [] then (-1, 0) else ((bestTo L L.length : Int), min left (secTo L (bestTo L L.length) L.length + 1))
theorem resChoose_of (x : Gm) (k : Int) (rest ws : List Int) (n : Int) : resChoose x k rest ws n = chosenOf (farsL x k rest ws n) (ws.length - n) := rfl

set_option maxHeartbeats 1000000 in
theorem lookFor_any (L : List Int) (a0 : Option Addr) (c0 : Nat) (left : Int) (w : World) (h : Reads w a0 L) (hp : 0 < L.length) (hl : L.length ≤ 8) (hr : ∀ y ∈ L, 0 ≤ y ∧ y ≤ 11) (h0 : 0 ≤ left) (h1 : left ≤ 10) :
    Calls Tryz.prog 27 #[.slice a0 L.length c0, .int .i64 left] w fun e w' => e = .returned (.int .i64 (min left (secTo L (bestTo L L.length) L.length + 1))) ∧ Below w.heap.size w w' := by
  by_cases hone : L.length = 1
  · have HS : Hid (min left (secTo L (bestTo L L.length) L.length + 1) = 0) := by
      show _ = _
      have e1 : bestTo L 1 = 0 := bestTo_one L
      have e2 : secTo L 0 1 = -1 := by simp [secTo]
      rw [hone, e1, e2]; omega
    rw [HS.out, hone]
    clear h hr
    go_enter Tryz.func27, Tryz.ntmps27
    go_wp2
    go_ret
    exact ⟨rfl, Below.refl _ _⟩
  · have hsec := second_sorted L (by omega) (fun y hy => (hr y hy).1)
    have hrg := secTo_range L (bestTo L L.length) hr L.length
    have HSL : Hid ((L.mergeSort (fun x y => decide (x ≤ y))).length = L.length) := List.length_mergeSort _
    obtain ⟨b, o, rfl, hb, hc⟩ := h.at hp
    have B0 : Below w.heap.size w (w.alloc (.cells #[.slice (some ⟨b, o, none⟩) L.length c0] 25)) := (Below.refl _ _).alloc (Nat.le_refl _) _
    have X := sorted_any b o c0 w.heap.size L (by omega) hp (w.alloc (.cells #[.slice (some ⟨b, o, none⟩) L.length c0] 25)) (by simp) (by simp; omega) (by simp) (fun j hj => by
      rw [← getD_lt hj]
      exact (B0.cell (p := ⟨b, o + j, none⟩) hb).trans (hc j hj))
    have HB0 : Hid (Below w.heap.size w (w.alloc (.cells #[.slice (some ⟨b, o, none⟩) L.length c0] 25))) := B0
    have hone' : ((L.length : Int) == 1) = false := by simp; omega
    generalize L.mergeSort (fun x y => decide (x ≤ y)) = S at *
    have HSEC : Hid (S.getD (L.length - 2) 0 = secTo L (bestTo L L.length) L.length) := hsec
    generalize secTo L (bestTo L L.length) L.length = sc at *
    clear hsec h hc hr B0
    go_enter Tryz.func27, Tryz.ntmps27
    go_wp2_with fail
    refine (values_any _ _ _ _).mono ?_
    rintro e w1 ⟨rfl, hw1⟩
    subst hw1
    go_wp2_with fail
    refine X.mono ?_
    rintro e w2 ⟨v2, rfl, hO2, hb2⟩
    obtain ⟨a5, c5, rfl, hr5, _⟩ := hO2.shape
    have e5 : S.length = L.length := HSL.out
    have f5 : L.length - 2 < S.length := by omega
    obtain ⟨b5, o5, rfl, hb5, hc5⟩ := hr5.at f5
    have q5 := hc5 _ f5
    rw [HSEC.out] at q5
    rw [e5]
    clear hc5 hr5 hO2 e5 f5
    have hidx : (L.length : Int) - 2 = ((L.length - 2 : Nat) : Int) := by omega
    have hlt5 : ((L.length - 2 : Nat) : Int) < (L.length : Int) := by omega
    go_wp2
    go_ret
    exact ⟨rfl, HB0.out.trans (hb2.mono HB0.out.size)⟩

set_option maxHeartbeats 1000000 in
theorem chosen_any (L : List Int) (a0 : Option Addr) (c0 : Nat) (left : Int) (w : World) (h : Reads w a0 L) (hl : L.length ≤ 8) (hr : ∀ y ∈ L, 0 ≤ y ∧ y ≤ 11) (h0 : L ≠ [] → 0 ≤ left ∧ left ≤ 10) :
    Calls Tryz.prog 16 #[.slice a0 L.length c0, .int .i64 left] w fun e w' => e = .returned (.tuple #[.int .i64 (chosenOf L left).1, .int .i64 (chosenOf L left).2]) ∧ Below w.heap.size w w' := by
  by_cases hne : L = []
  · subst hne
    rw [show chosenOf [] left = (-1, 0) from rfl]
    clear h hr h0
    go_enter Tryz.func16, Tryz.ntmps16
    go_wp2
    refine bodyPost_ret (results_tmp2 rfl _ _ _) rfl ⟨rfl, Below.refl _ _⟩
  · have hp : 0 < L.length := List.length_pos_iff.2 hne
    obtain ⟨l0, l1⟩ := h0 hne
    have X := lookFor_any L a0 c0 left w h hp hl hr l0 l1
    have Y := maxS_any L a0 c0 w h hp (by omega)
    have hb : bestTo L L.length < L.length := by have := bestTo_lt L L.length; omega
    have Z := indexS_any L a0 c0 (L.getD (bestTo L L.length) 0) (bestTo L L.length) w h hb rfl (fun j hj => (bestTo_first L L.length (Nat.le_refl _)).2 j hj) (by omega)
    have HC : Hid (chosenOf L left = ((bestTo L L.length : Int), min left (secTo L (bestTo L L.length) L.length + 1))) := by show _ = _; rw [chosenOf, if_neg hne]
    rw [HC.out]
    have hpI : ((L.length : Int) == 0) = false := by simp; omega
    clear h hr h0 HC hne
    generalize L.getD (bestTo L L.length) 0 = m at *
    generalize min left (secTo L (bestTo L L.length) L.length + 1) = r at *
    generalize bestTo L L.length = k at *
    go_enter Tryz.func16, Tryz.ntmps16
    go_wp2_with (first
      | (go_at_call 26; refine Y.mono ?_; rintro e w1 ⟨rfl, hw1⟩; subst hw1)
      | (go_at_call 25; refine Z.mono ?_; rintro e w2 ⟨rfl, hw2⟩; subst hw2)
      | (go_at_call 27; refine X.mono ?_; rintro e w3 ⟨rfl, hb3⟩))
    refine bodyPost_ret (results_tmp2 rfl _ _ _) rfl ⟨rfl, hb3⟩

set_option maxHeartbeats 2000000 in
set_option maxRecDepth 100000 in
theorem choose_any (x : Gm) (a0 : Option Addr) (c0 : Nat) (n1 : Int) (z2 : List Int) (a2 : Option Addr) (c2 : Nat) (z3 : List Int) (a3 : Option Addr) (c3 : Nat) (n4 : Int) (w : World) (h0 : RD w (.slice a0 x.parts.length c0) (slD (Lay.list (Lay.list Lay.int)) x.parts)) (h2 : RD w (.slice a2 z2.length c2) (slD Lay.int z2)) (h3 : RD w (.slice a3 z3.length c3) (slD Lay.int z3)) (hn : Lay.gram.wt x ≤ 1048576) (hf : Lay.gram.fit x) (wf1 : (Lit.int .i64 n1).wf = true) (hl2 : z2.length ≤ 1048576) (hz2 : (Lay.list Lay.int).fit z2) (hl3 : z3.length ≤ 1048576) (hz3 : (Lay.list Lay.int).fit z3) (wf4 : (Lit.int .i64 n4).wf = true) (hE : ErrsIs w) :
    Calls Tryz.prog 8 #[.agg #[.slice a0 x.parts.length c0], .int .i64 n1, .slice a2 z2.length c2, .slice a3 z3.length c3, .int .i64 n4] w fun e w' => e = .returned (.tuple #[.int .i64 (resChoose x n1 z2 z3 n4).1, .int .i64 (resChoose x n1 z2 z3 n4).2]) ∧ Below w.heap.size w w' := by
  have B0 : Below w.heap.size w (w.alloc (.cells #[.slice a0 x.parts.length c0] 29)) := (Below.refl w.heap.size w).alloc (Nat.le_refl _) _
  have HX : Hid (Calls Tryz.prog 17 #[.agg #[.slice a0 x.parts.length c0], .int .i64 n1, .slice a2 z2.length c2, .slice a3 z3.length c3, .int .i64 n4] (w.alloc (.cells #[.slice a0 x.parts.length c0] 29)) fun e w' => ∃ v, e = .returned v ∧ OwnInts w' (w.alloc (.cells #[.slice a0 x.parts.length c0] 29)).heap.size 3 v (farsL x n1 z2 z3 n4) ∧ Below (w.alloc (.cells #[.slice a0 x.parts.length c0] 29)).heap.size (w.alloc (.cells #[.slice a0 x.parts.length c0] 29)) w') := farsOf_any x a0 c0 n1 z2 a2 c2 z3 a3 c3 n4 _ (h0.later B0) (h2.later B0) (h3.later B0) hn hf wf1 hl2 hz2 hl3 hz3 wf4 (hE.later B0)
  have HB0 : Hid (Below w.heap.size w (w.alloc (.cells #[.slice a0 x.parts.length c0] 29))) := B0
  have HW : Hid (∀ (m : Int) (W : World) (a5 : Option Addr) (c5 : Nat), m = z3.length - n4 ∨ farsL x n1 z2 z3 n4 = [] → Reads W a5 (farsL x n1 z2 z3 n4) → Calls Tryz.prog 16 #[.slice a5 (farsL x n1 z2 z3 n4).length c5, .int .i64 m] W fun e w' => e = .returned (.tuple #[.int .i64 (resChoose x n1 z2 z3 n4).1, .int .i64 (resChoose x n1 z2 z3 n4).2]) ∧ Below W.heap.size W w') := fun m W a5 c5 hm hR => by
    have := chosen_any (farsL x n1 z2 z3 n4) a5 c5 m W hR farsL_len farsL_range (fun hne => by
      obtain ⟨e1, e2, e3⟩ := farsL_right hne
      rcases hm with rfl | h
      · omega
      · exact absurd h hne)
    rw [resChoose_of]
    rcases hm with rfl | h
    · exact this
    · have e : ∀ m, chosenOf [] m = (-1, 0) := fun _ => rfl
      rw [h, e] at this
      rw [h, e]
      exact this
  have HRI : Hid (farsL x n1 z2 z3 n4 ≠ [] → 0 ≤ n4 ∧ n4 ≤ z3.length ∧ z3.length ≤ 10) := farsL_right
  generalize resChoose x n1 z2 z3 n4 = R at *
  generalize farsL x n1 z2 z3 n4 = L at *
  clear h0 h2 h3 hn hf hz2 hz3 B0 wf1 hE
  generalize x.parts = P at *
  by_cases hne : L = []
  · have HNE : Hid (L = []) := hne
    clear hne HRI
    go_enter Tryz.func8, Tryz.ntmps8
    go_wp2_with (first
      | (go_at_call 17; refine HX.out.mono ?_; rintro e w2 ⟨v2, rfl, hO2, hb2⟩; obtain ⟨a5, c5, rfl, hr2, _⟩ := hO2.shape)
      | (go_at_call 16; refine (HW.out _ w2 a5 c5 (.inr HNE.out) hr2).mono ?_; rintro e w3 ⟨rfl, hb3⟩))
    refine bodyPost_ret (results_tmp2 rfl _ _ _) rfl ⟨rfl, HB0.out.trans ((hb2.trans (hb3.mono hb2.size)).mono HB0.out.size)⟩
  · obtain ⟨e1, e2, e3⟩ := HRI.out hne
    go_enter Tryz.func8, Tryz.ntmps8
    go_wp2_with (first
      | (go_at_call 17; refine HX.out.mono ?_; rintro e w2 ⟨v2, rfl, hO2, hb2⟩; obtain ⟨a5, c5, rfl, hr2, _⟩ := hO2.shape)
      | (go_at_call 16; refine (HW.out (z3.length - n4) w2 a5 c5 (.inl rfl) hr2).mono ?_; rintro e w3 ⟨rfl, hb3⟩))
    refine bodyPost_ret (results_tmp2 rfl _ _ _) rfl ⟨rfl, HB0.out.trans ((hb2.trans (hb3.mono hb2.size)).mono HB0.out.size)⟩
end Go.Proofs.YthnppodnjokaoaaGreatDoor
namespace Go.Proofs.YthnppodnjokaoaaGreatDoor
open Go.RowKit

set_option maxHeartbeats 4000000 in
set_option maxRecDepth 100000 in
theorem fnExactChoose_law (x0 : Gm) (a0 : Option Addr) (c0 : Nat) (n1 : Int) (z2 : List Int) (a2 : Option Addr) (c2 : Nat) (z3 : List Int) (a3 : Option Addr) (c3 : Nat) (n4 : Int) (w : World) (h0 : RD w (.slice a0 x0.parts.length c0) (slD (Lay.list (Lay.list Lay.int)) x0.parts)) (h2 : RD w (.slice a2 z2.length c2) (slD Lay.int z2)) (h3 : RD w (.slice a3 z3.length c3) (slD Lay.int z3)) (hf0 : Lay.gram.fit x0) (wf1 : (Lit.int .i64 n1).wf = true) (hf2 : (Lay.list Lay.int).fit z2) (hf3 : (Lay.list Lay.int).fit z3) (wf4 : (Lit.int .i64 n4).wf = true) (hT : ErrsIs w) :
    Calls Tryz.prog 3 #[.agg #[.slice a0 x0.parts.length c0], .int .i64 n1, .slice a2 z2.length c2, .slice a3 z3.length c3, .int .i64 n4] w fun e w' => e = .returned (.bool true) ∧ Below w.heap.size w w' := by
  have HH0 : Hid (Holds w w [] []) := Holds.start w
  have HT : Hid (ErrsIs w) := hT
  clear hT
  have H0 : Hid (RD w (.slice a0 x0.parts.length c0) (slD (Lay.list (Lay.list Lay.int)) x0.parts)) := h0
  clear h0
  have HF0 : Hid (Lay.gram.fit x0) := hf0
  have H2 : Hid (RD w (.slice a2 z2.length c2) (slD Lay.int z2)) := h2
  clear h2
  have HF2 : Hid ((Lay.list Lay.int).fit z2) := hf2
  have H3 : Hid (RD w (.slice a3 z3.length c3) (slD Lay.int z3)) := h3
  clear h3
  have HF3 : Hid ((Lay.list Lay.int).fit z3) := hf3
  have HH1 : Hid (Holds w (w.alloc (.cells #[.slice a0 x0.parts.length c0] 24)) [(w.heap.size, [.slice a0 x0.parts.length c0])] []) := by show Holds _ _ _ _; simpa using HH0.out.box [.slice a0 x0.parts.length c0] 24
  clear HH0
  have hm2 := hf2.1
  unfold maxLen at hm2
  clear hf2
  have hm3 := hf3.1
  unfold maxLen at hm3
  clear hf3
  by_cases hl2 : 1048576 < z2.length
  · go_enter Tryz.func3, Tryz.ntmps3
    go_wp2
    go_ret
    exact ⟨rfl, HH1.out.below⟩
  by_cases hl3 : 1048576 < z3.length
  · go_enter Tryz.func3, Tryz.ntmps3
    go_wp2
    go_ret
    exact ⟨rfl, HH1.out.below⟩
  go_enter Tryz.func3, Tryz.ntmps3
  have q0 : (w.alloc (.cells #[.slice a0 x0.parts.length c0] 24)).cell? ⟨w.heap.size, 0, none⟩ = some (.slice a0 x0.parts.length c0) := HH1.out.cell (w.heap.size, [.slice a0 x0.parts.length c0]) List.mem_cons_self 0 (by simp)
  go_wp2_with fail
  refine (szGram_l x0 a0 c0 _ _ (H0.out.later HH1.out.below) HF0.out (by omega) (by omega)).mono ?_
  rintro e w3 ⟨r0, rfl, hr0, B2⟩
  clear q0
  have HH4 : Hid (Holds w w3 [(w.heap.size, [.slice a0 x0.parts.length c0])] []) := HH1.out.later B2
  clear HH1
  clear B2
  rcases hr0 with rfl | ⟨hr0a, hr0b⟩
  · go_wp2
    go_ret
    exact ⟨rfl, HH4.out.below⟩
  have HW0 : Hid (Lay.gram.wt x0 ≤ 1048576) := by show _ ≤ _; omega
  have hr0c : r0 ≤ 1048576 := by omega
  clear hr0b hf0
  have q0 : w3.cell? ⟨w.heap.size, 0, none⟩ = some (.slice a0 x0.parts.length c0) := HH4.out.cell (w.heap.size, [.slice a0 x0.parts.length c0]) List.mem_cons_self 0 (by simp)
  go_wp2_with fail
  refine (toGram_l x0 a0 c0 _ (H0.out.later HH4.out.below) (by have := HW0.out; omega)).mono ?_
  rintro e w7 ⟨a0s, c0s, S0s, rfl, O6, B5⟩
  clear q0
  have HH8 : Hid (Holds w w7 [(w.heap.size, [.slice a0 x0.parts.length c0])] [([.slice a0s x0.parts.length c0s], Lay.gram.cells x0)]) := HH4.out.push B5 O6
  clear HH4
  clear B5 O6
  have q0 : w7.cell? ⟨w.heap.size, 0, none⟩ = some (.slice a0 x0.parts.length c0) := HH8.out.cell (w.heap.size, [.slice a0 x0.parts.length c0]) List.mem_cons_self 0 (by simp)
  go_wp2_with fail
  refine (toIntS_l z2 a2 c2 _ (H2.out.later HH8.out.below) (by rw [Lay.wt_ints]; omega)).mono ?_
  rintro e w11 ⟨v2s, S2s, rfl, O10o, B9⟩
  clear q0
  obtain ⟨a2s, c2s, rfl, _⟩ := OD.shapeL O10o
  have O10 := Cells.one O10o
  clear O10o
  have HH12 : Hid (Holds w w11 [(w.heap.size, [.slice a0 x0.parts.length c0])] [([.slice a2s z2.length c2s], [slD Lay.int z2]), ([.slice a0s x0.parts.length c0s], Lay.gram.cells x0)]) := HH8.out.push B9 O10
  clear HH8
  clear B9 O10
  have q0 : w11.cell? ⟨w.heap.size, 0, none⟩ = some (.slice a0 x0.parts.length c0) := HH12.out.cell (w.heap.size, [.slice a0 x0.parts.length c0]) List.mem_cons_self 0 (by simp)
  go_wp2_with fail
  refine (toIntS_l z3 a3 c3 _ (H3.out.later HH12.out.below) (by rw [Lay.wt_ints]; omega)).mono ?_
  rintro e w15 ⟨v3s, S3s, rfl, O14o, B13⟩
  clear q0
  obtain ⟨a3s, c3s, rfl, _⟩ := OD.shapeL O14o
  have O14 := Cells.one O14o
  clear O14o
  have HH16 : Hid (Holds w w15 [(w.heap.size, [.slice a0 x0.parts.length c0])] [([.slice a3s z3.length c3s], [slD Lay.int z3]), ([.slice a2s z2.length c2s], [slD Lay.int z2]), ([.slice a0s x0.parts.length c0s], Lay.gram.cells x0)]) := HH12.out.push B13 O14
  clear HH12
  clear B13 O14
  have R17 : Hid (RD w15 (.slice a0s x0.parts.length c0s) (slD (Lay.list (Lay.list Lay.int)) x0.parts)) := HH16.out.rd ([.slice a0s x0.parts.length c0s], Lay.gram.cells x0) (List.mem_cons_of_mem _ (List.mem_cons_of_mem _ List.mem_cons_self)) 0 (by simp) (by simp [Lay.gram])
  have R18 : Hid (RD w15 (.slice a2s z2.length c2s) (slD Lay.int z2)) := HH16.out.rd ([.slice a2s z2.length c2s], [slD Lay.int z2]) (List.mem_cons_of_mem _ List.mem_cons_self) 0 (by simp) (by simp)
  have R19 : Hid (RD w15 (.slice a3s z3.length c3s) (slD Lay.int z3)) := HH16.out.rd ([.slice a3s z3.length c3s], [slD Lay.int z3]) List.mem_cons_self 0 (by simp) (by simp)
  have q0 : w15.cell? ⟨w.heap.size, 0, none⟩ = some (.slice a0 x0.parts.length c0) := HH16.out.cell (w.heap.size, [.slice a0 x0.parts.length c0]) List.mem_cons_self 0 (by simp)
  go_wp2_with fail
  refine (specChoose_any x0 a0s c0s n1 z2 a2s c2s z3 a3s c3s n4 _ R17.out R18.out R19.out (by have := HW0.out; omega) HF0.out wf1 (by omega) HF2.out (by omega) HF3.out wf4).mono ?_
  rintro e w21 ⟨rfl, B20⟩
  clear q0
  have HH22 : Hid (Holds w w21 [(w.heap.size, [.slice a0 x0.parts.length c0])] [([.slice a3s z3.length c3s], [slD Lay.int z3]), ([.slice a2s z2.length c2s], [slD Lay.int z2]), ([.slice a0s x0.parts.length c0s], Lay.gram.cells x0)]) := HH16.out.later B20
  clear HH16
  clear B20
  clear R17 R18 R19
  have HH23 : Hid (Holds w w21 [(w.heap.size, [.slice a0 x0.parts.length c0])] [([.slice a3s z3.length c3s], [slD Lay.int z3]), ([.slice a2s z2.length c2s], [slD Lay.int z2])]) := Holds.drop (P := [([.slice a3s z3.length c3s], [slD Lay.int z3]), ([.slice a2s z2.length c2s], [slD Lay.int z2])]) (x := ([.slice a0s x0.parts.length c0s], Lay.gram.cells x0)) (Q := []) HH22.out
  clear HH22
  have HH24 : Hid (Holds w w21 [(w.heap.size, [.slice a0 x0.parts.length c0])] [([.slice a3s z3.length c3s], [slD Lay.int z3])]) := Holds.drop (P := [([.slice a3s z3.length c3s], [slD Lay.int z3])]) (x := ([.slice a2s z2.length c2s], [slD Lay.int z2])) (Q := []) HH23.out
  clear HH23
  have HH25 : Hid (Holds w w21 [(w.heap.size, [.slice a0 x0.parts.length c0])] []) := Holds.drop (P := []) (x := ([.slice a3s z3.length c3s], [slD Lay.int z3])) (Q := []) HH24.out
  clear HH24
  have q0 : w21.cell? ⟨w.heap.size, 0, none⟩ = some (.slice a0 x0.parts.length c0) := HH25.out.cell (w.heap.size, [.slice a0 x0.parts.length c0]) List.mem_cons_self 0 (by simp)
  go_wp2_with fail
  refine (toGram_l x0 a0 c0 _ (H0.out.later HH25.out.below) (by have := HW0.out; omega)).mono ?_
  rintro e w28 ⟨a0m, c0m, S0m, rfl, O27, B26⟩
  clear q0
  have HH29 : Hid (Holds w w28 [(w.heap.size, [.slice a0 x0.parts.length c0])] [([.slice a0m x0.parts.length c0m], Lay.gram.cells x0)]) := HH25.out.push B26 O27
  clear HH25
  clear B26 O27
  have HH30 : Hid (Holds w (w28.alloc (.cells #[.slice a0m x0.parts.length c0m] 29)) [(w28.heap.size, [.slice a0m x0.parts.length c0m]), (w.heap.size, [.slice a0 x0.parts.length c0])] [([.slice a0m x0.parts.length c0m], Lay.gram.cells x0)]) := by show Holds _ _ _ _; simpa using HH29.out.box [.slice a0m x0.parts.length c0m] 29
  clear HH29
  have q0 : (w28.alloc (.cells #[.slice a0m x0.parts.length c0m] 29)).cell? ⟨w28.heap.size, 0, none⟩ = some (.slice a0m x0.parts.length c0m) := HH30.out.cell (w28.heap.size, [.slice a0m x0.parts.length c0m]) List.mem_cons_self 0 (by simp)
  have q1 : (w28.alloc (.cells #[.slice a0m x0.parts.length c0m] 29)).cell? ⟨w.heap.size, 0, none⟩ = some (.slice a0 x0.parts.length c0) := HH30.out.cell (w.heap.size, [.slice a0 x0.parts.length c0]) (List.mem_cons_of_mem _ List.mem_cons_self) 0 (by simp)
  go_wp2_with fail
  refine (toIntS_l z2 a2 c2 _ (H2.out.later HH30.out.below) (by rw [Lay.wt_ints]; omega)).mono ?_
  rintro e w33 ⟨v2m, S2m, rfl, O32o, B31⟩
  clear q0 q1
  obtain ⟨a2m, c2m, rfl, _⟩ := OD.shapeL O32o
  have O32 := Cells.one O32o
  clear O32o
  have HH34 : Hid (Holds w w33 [(w28.heap.size, [.slice a0m x0.parts.length c0m]), (w.heap.size, [.slice a0 x0.parts.length c0])] [([.slice a2m z2.length c2m], [slD Lay.int z2]), ([.slice a0m x0.parts.length c0m], Lay.gram.cells x0)]) := HH30.out.push B31 O32
  clear HH30
  clear B31 O32
  have q0 : w33.cell? ⟨w28.heap.size, 0, none⟩ = some (.slice a0m x0.parts.length c0m) := HH34.out.cell (w28.heap.size, [.slice a0m x0.parts.length c0m]) List.mem_cons_self 0 (by simp)
  have q1 : w33.cell? ⟨w.heap.size, 0, none⟩ = some (.slice a0 x0.parts.length c0) := HH34.out.cell (w.heap.size, [.slice a0 x0.parts.length c0]) (List.mem_cons_of_mem _ List.mem_cons_self) 0 (by simp)
  go_wp2_with fail
  refine (toIntS_l z3 a3 c3 _ (H3.out.later HH34.out.below) (by rw [Lay.wt_ints]; omega)).mono ?_
  rintro e w37 ⟨v3m, S3m, rfl, O36o, B35⟩
  clear q0 q1
  obtain ⟨a3m, c3m, rfl, _⟩ := OD.shapeL O36o
  have O36 := Cells.one O36o
  clear O36o
  have HH38 : Hid (Holds w w37 [(w28.heap.size, [.slice a0m x0.parts.length c0m]), (w.heap.size, [.slice a0 x0.parts.length c0])] [([.slice a3m z3.length c3m], [slD Lay.int z3]), ([.slice a2m z2.length c2m], [slD Lay.int z2]), ([.slice a0m x0.parts.length c0m], Lay.gram.cells x0)]) := HH34.out.push B35 O36
  clear HH34
  clear B35 O36
  have R39 : Hid (RD w37 (.slice a0m x0.parts.length c0m) (slD (Lay.list (Lay.list Lay.int)) x0.parts)) := HH38.out.rd ([.slice a0m x0.parts.length c0m], Lay.gram.cells x0) (List.mem_cons_of_mem _ (List.mem_cons_of_mem _ List.mem_cons_self)) 0 (by simp) (by simp [Lay.gram])
  have R40 : Hid (RD w37 (.slice a2m z2.length c2m) (slD Lay.int z2)) := HH38.out.rd ([.slice a2m z2.length c2m], [slD Lay.int z2]) (List.mem_cons_of_mem _ List.mem_cons_self) 0 (by simp) (by simp)
  have R41 : Hid (RD w37 (.slice a3m z3.length c3m) (slD Lay.int z3)) := HH38.out.rd ([.slice a3m z3.length c3m], [slD Lay.int z3]) List.mem_cons_self 0 (by simp) (by simp)
  have q0 : w37.cell? ⟨w28.heap.size, 0, none⟩ = some (.slice a0m x0.parts.length c0m) := HH38.out.cell (w28.heap.size, [.slice a0m x0.parts.length c0m]) List.mem_cons_self 0 (by simp)
  have q1 : w37.cell? ⟨w.heap.size, 0, none⟩ = some (.slice a0 x0.parts.length c0) := HH38.out.cell (w.heap.size, [.slice a0 x0.parts.length c0]) (List.mem_cons_of_mem _ List.mem_cons_self) 0 (by simp)
  go_wp2_with fail
  refine (choose_any x0 a0m c0m n1 z2 a2m c2m z3 a3m c3m n4 _ R39.out R40.out R41.out (by have := HW0.out; omega) HF0.out wf1 (by omega) HF2.out (by omega) HF3.out wf4 (HT.out.later HH38.out.below)).mono ?_
  rintro e w43 ⟨rfl, B42⟩
  clear q0 q1
  have HH44 : Hid (Holds w w43 [(w28.heap.size, [.slice a0m x0.parts.length c0m]), (w.heap.size, [.slice a0 x0.parts.length c0])] [([.slice a3m z3.length c3m], [slD Lay.int z3]), ([.slice a2m z2.length c2m], [slD Lay.int z2]), ([.slice a0m x0.parts.length c0m], Lay.gram.cells x0)]) := HH38.out.later B42
  clear HH38
  clear B42
  clear R39 R40 R41
  generalize resChoose x0 n1 z2 z3 n4 = T at *
  have hTT : (T.1 != T.1) = false := by simp
  have hTU : (T.2 != T.2) = false := by simp
  have q0 : w43.cell? ⟨w28.heap.size, 0, none⟩ = some (.slice a0m x0.parts.length c0m) := HH44.out.cell (w28.heap.size, [.slice a0m x0.parts.length c0m]) List.mem_cons_self 0 (by simp)
  have q1 : w43.cell? ⟨w.heap.size, 0, none⟩ = some (.slice a0 x0.parts.length c0) := HH44.out.cell (w.heap.size, [.slice a0 x0.parts.length c0]) (List.mem_cons_of_mem _ List.mem_cons_self) 0 (by simp)
  go_wp2_with fail
  refine wp_region_held_drew (S := fun w' => Keeps w' [(w28.heap.size, [.slice a0m x0.parts.length c0m]), (w.heap.size, [.slice a0 x0.parts.length c0])]) (by kernel_rfl) HH44.out.boxes.drew (fun hHeld => ?_)
  refine take_atL (i := 0) (d := some 65) (v := .agg #[.slice a0m x0.parts.length c0m]) rfl rfl (by kernel_rfl) (by kernel_rfl) (by kernel_rfl) (fun _ _ _ h => h) (by rfl) ?_ hHeld ?_
  · intro w' hSw
    have p0 : w'.cell? ⟨w28.heap.size, 0, none⟩ = some (.slice a0m x0.parts.length c0m) := hSw (w28.heap.size, [.slice a0m x0.parts.length c0m]) List.mem_cons_self 0 (by simp)
    go_simp; try rfl
  try simp only [Act.put, List.setIfInBounds_toArray, List.set_cons_zero, List.set_cons_succ]
  refine take_atL (i := 1) (d := some 66) (v := .agg #[.slice a0 x0.parts.length c0]) rfl rfl (by kernel_rfl) (by kernel_rfl) (by kernel_rfl) (fun _ _ _ h => h) (by rfl) ?_ hHeld ?_
  · intro w' hSw
    have p0 : w'.cell? ⟨w.heap.size, 0, none⟩ = some (.slice a0 x0.parts.length c0) := hSw (w.heap.size, [.slice a0 x0.parts.length c0]) (List.mem_cons_of_mem _ List.mem_cons_self) 0 (by simp)
    go_simp; try rfl
  try simp only [Act.put, List.setIfInBounds_toArray, List.set_cons_zero, List.set_cons_succ]
  clear q0 q1
  refine wpAnyH_ready (rs := [2]) (by kernel_rfl) (by simp) ?_
  refine AllReadyH.cons (o := _) rfl (fun K hK => ?_) AllReadyH.nil
  rw [if_pos (by rfl)]
  go_simp
  refine (toGram_l x0 a0 c0 _ (H0.out.later (Below.drew HH44.out.below)) (by have := HW0.out; omega)).mono ?_
  rintro e w45 ⟨a0e, c0e, S0e, rfl, O47, B46d⟩
  have B46 : Below (w43).heap.size w43 w45 := Below.drewed (by simpa using B46d)
  clear B46d hHeld
  have HH48 : Hid (Holds w w45 [(w28.heap.size, [.slice a0m x0.parts.length c0m]), (w.heap.size, [.slice a0 x0.parts.length c0])] [([.slice a0e x0.parts.length c0e], Lay.gram.cells x0), ([.slice a3m z3.length c3m], [slD Lay.int z3]), ([.slice a2m z2.length c2m], [slD Lay.int z2]), ([.slice a0m x0.parts.length c0m], Lay.gram.cells x0)]) := HH44.out.push B46 O47
  clear HH44
  clear B46 O47
  go_wp2_with fail
  refine hK.out _ _ HH48.out.boxes (fun hHeld => ?_)
  clear hK K
  try simp only [Act.put, List.setIfInBounds_toArray, List.set_cons_zero, List.set_cons_succ]
  refine wpAnyH_ready (rs := [3]) (by kernel_rfl) (by simp) ?_
  refine AllReadyH.cons (o := _) rfl (fun K hK => ?_) AllReadyH.nil
  rw [if_pos (by rfl)]
  go_simp
  have R49 : Hid (RD w45 (.slice a0m x0.parts.length c0m) (slD (Lay.list (Lay.list Lay.int)) x0.parts)) := HH48.out.rd ([.slice a0m x0.parts.length c0m], Lay.gram.cells x0) (List.mem_cons_of_mem _ (List.mem_cons_of_mem _ (List.mem_cons_of_mem _ List.mem_cons_self))) 0 (by simp) (by simp [Lay.gram])
  have R50 : Hid (RD w45 (.slice a0e x0.parts.length c0e) (slD (Lay.list (Lay.list Lay.int)) x0.parts)) := HH48.out.rd ([.slice a0e x0.parts.length c0e], Lay.gram.cells x0) List.mem_cons_self 0 (by simp) (by simp [Lay.gram])
  refine (eqGram_l x0 a0m a0e c0m c0e _ R49.out R50.out (by have := HW0.out; omega)).mono ?_
  rintro e w51 ⟨rfl, B52⟩
  clear hHeld R49 R50
  have HH53 : Hid (Holds w w51 [(w28.heap.size, [.slice a0m x0.parts.length c0m]), (w.heap.size, [.slice a0 x0.parts.length c0])] [([.slice a0e x0.parts.length c0e], Lay.gram.cells x0), ([.slice a3m z3.length c3m], [slD Lay.int z3]), ([.slice a2m z2.length c2m], [slD Lay.int z2]), ([.slice a0m x0.parts.length c0m], Lay.gram.cells x0)]) := HH48.out.later B52
  clear HH48
  clear B52
  have HH54 : Hid (Holds w w51 [(w28.heap.size, [.slice a0m x0.parts.length c0m]), (w.heap.size, [.slice a0 x0.parts.length c0])] [([.slice a3m z3.length c3m], [slD Lay.int z3]), ([.slice a2m z2.length c2m], [slD Lay.int z2]), ([.slice a0m x0.parts.length c0m], Lay.gram.cells x0)]) := Holds.drop (P := []) (x := ([.slice a0e x0.parts.length c0e], Lay.gram.cells x0)) (Q := [([.slice a3m z3.length c3m], [slD Lay.int z3]), ([.slice a2m z2.length c2m], [slD Lay.int z2]), ([.slice a0m x0.parts.length c0m], Lay.gram.cells x0)]) HH53.out
  clear HH53
  go_wp2_with fail
  refine hK.out _ _ HH54.out.boxes (fun hHeld => ?_)
  clear hK K
  try simp only [Act.put, List.setIfInBounds_toArray, List.set_cons_zero, List.set_cons_succ]
  refine take_atL (i := 4) (d := some 69) (v := .bool false) rfl rfl (by kernel_rfl) (by kernel_rfl) (by kernel_rfl) (fun _ _ _ h => h) (by rfl) ?_ hHeld ?_
  · intro w' hSw; go_simp; try rfl
  try simp only [Act.put, List.setIfInBounds_toArray, List.set_cons_zero, List.set_cons_succ]
  refine wpAnyH_done (by kernel_rfl) ?_ _
  clear hHeld
  have q0 : w51.cell? ⟨w28.heap.size, 0, none⟩ = some (.slice a0m x0.parts.length c0m) := HH54.out.cell (w28.heap.size, [.slice a0m x0.parts.length c0m]) List.mem_cons_self 0 (by simp)
  have q1 : w51.cell? ⟨w.heap.size, 0, none⟩ = some (.slice a0 x0.parts.length c0) := HH54.out.cell (w.heap.size, [.slice a0 x0.parts.length c0]) (List.mem_cons_of_mem _ List.mem_cons_self) 0 (by simp)
  go_wp2_with fail
  refine (toIntS_l z2 a2 c2 _ (H2.out.later HH54.out.below) (by rw [Lay.wt_ints]; omega)).mono ?_
  rintro e w57 ⟨v2e, S2e, rfl, O56o, B55⟩
  clear q0 q1
  obtain ⟨a2e, c2e, rfl, _⟩ := OD.shapeL O56o
  have O56 := Cells.one O56o
  clear O56o
  have HH58 : Hid (Holds w w57 [(w28.heap.size, [.slice a0m x0.parts.length c0m]), (w.heap.size, [.slice a0 x0.parts.length c0])] [([.slice a2e z2.length c2e], [slD Lay.int z2]), ([.slice a3m z3.length c3m], [slD Lay.int z3]), ([.slice a2m z2.length c2m], [slD Lay.int z2]), ([.slice a0m x0.parts.length c0m], Lay.gram.cells x0)]) := HH54.out.push B55 O56
  clear HH54
  clear B55 O56
  have R59 : Hid (RD w57 (.slice a2m z2.length c2m) (slD Lay.int z2)) := HH58.out.rd ([.slice a2m z2.length c2m], [slD Lay.int z2]) (List.mem_cons_of_mem _ (List.mem_cons_of_mem _ List.mem_cons_self)) 0 (by simp) (by simp)
  have R60 : Hid (RD w57 (.slice a2e z2.length c2e) (slD Lay.int z2)) := HH58.out.rd ([.slice a2e z2.length c2e], [slD Lay.int z2]) List.mem_cons_self 0 (by simp) (by simp)
  have q0 : w57.cell? ⟨w28.heap.size, 0, none⟩ = some (.slice a0m x0.parts.length c0m) := HH58.out.cell (w28.heap.size, [.slice a0m x0.parts.length c0m]) List.mem_cons_self 0 (by simp)
  have q1 : w57.cell? ⟨w.heap.size, 0, none⟩ = some (.slice a0 x0.parts.length c0) := HH58.out.cell (w.heap.size, [.slice a0 x0.parts.length c0]) (List.mem_cons_of_mem _ List.mem_cons_self) 0 (by simp)
  go_wp2_with fail
  refine (eqIntS_l z2 a2m a2e c2m c2e _ R59.out R60.out (by rw [Lay.wt_ints]; omega)).mono ?_
  rintro e w62 ⟨rfl, B61⟩
  clear q0 q1
  clear R59 R60
  have HH63 : Hid (Holds w w62 [(w28.heap.size, [.slice a0m x0.parts.length c0m]), (w.heap.size, [.slice a0 x0.parts.length c0])] [([.slice a2e z2.length c2e], [slD Lay.int z2]), ([.slice a3m z3.length c3m], [slD Lay.int z3]), ([.slice a2m z2.length c2m], [slD Lay.int z2]), ([.slice a0m x0.parts.length c0m], Lay.gram.cells x0)]) := HH58.out.later B61
  clear HH58
  clear B61
  have HH64 : Hid (Holds w w62 [(w28.heap.size, [.slice a0m x0.parts.length c0m]), (w.heap.size, [.slice a0 x0.parts.length c0])] [([.slice a3m z3.length c3m], [slD Lay.int z3]), ([.slice a2m z2.length c2m], [slD Lay.int z2]), ([.slice a0m x0.parts.length c0m], Lay.gram.cells x0)]) := Holds.drop (P := []) (x := ([.slice a2e z2.length c2e], [slD Lay.int z2])) (Q := [([.slice a3m z3.length c3m], [slD Lay.int z3]), ([.slice a2m z2.length c2m], [slD Lay.int z2]), ([.slice a0m x0.parts.length c0m], Lay.gram.cells x0)]) HH63.out
  clear HH63
  have q0 : w62.cell? ⟨w28.heap.size, 0, none⟩ = some (.slice a0m x0.parts.length c0m) := HH64.out.cell (w28.heap.size, [.slice a0m x0.parts.length c0m]) List.mem_cons_self 0 (by simp)
  have q1 : w62.cell? ⟨w.heap.size, 0, none⟩ = some (.slice a0 x0.parts.length c0) := HH64.out.cell (w.heap.size, [.slice a0 x0.parts.length c0]) (List.mem_cons_of_mem _ List.mem_cons_self) 0 (by simp)
  go_wp2_with fail
  refine (toIntS_l z3 a3 c3 _ (H3.out.later HH64.out.below) (by rw [Lay.wt_ints]; omega)).mono ?_
  rintro e w67 ⟨v3e, S3e, rfl, O66o, B65⟩
  clear q0 q1
  obtain ⟨a3e, c3e, rfl, _⟩ := OD.shapeL O66o
  have O66 := Cells.one O66o
  clear O66o
  have HH68 : Hid (Holds w w67 [(w28.heap.size, [.slice a0m x0.parts.length c0m]), (w.heap.size, [.slice a0 x0.parts.length c0])] [([.slice a3e z3.length c3e], [slD Lay.int z3]), ([.slice a3m z3.length c3m], [slD Lay.int z3]), ([.slice a2m z2.length c2m], [slD Lay.int z2]), ([.slice a0m x0.parts.length c0m], Lay.gram.cells x0)]) := HH64.out.push B65 O66
  clear HH64
  clear B65 O66
  have R69 : Hid (RD w67 (.slice a3m z3.length c3m) (slD Lay.int z3)) := HH68.out.rd ([.slice a3m z3.length c3m], [slD Lay.int z3]) (List.mem_cons_of_mem _ List.mem_cons_self) 0 (by simp) (by simp)
  have R70 : Hid (RD w67 (.slice a3e z3.length c3e) (slD Lay.int z3)) := HH68.out.rd ([.slice a3e z3.length c3e], [slD Lay.int z3]) List.mem_cons_self 0 (by simp) (by simp)
  have q0 : w67.cell? ⟨w28.heap.size, 0, none⟩ = some (.slice a0m x0.parts.length c0m) := HH68.out.cell (w28.heap.size, [.slice a0m x0.parts.length c0m]) List.mem_cons_self 0 (by simp)
  have q1 : w67.cell? ⟨w.heap.size, 0, none⟩ = some (.slice a0 x0.parts.length c0) := HH68.out.cell (w.heap.size, [.slice a0 x0.parts.length c0]) (List.mem_cons_of_mem _ List.mem_cons_self) 0 (by simp)
  go_wp2_with fail
  refine (eqIntS_l z3 a3m a3e c3m c3e _ R69.out R70.out (by rw [Lay.wt_ints]; omega)).mono ?_
  rintro e w72 ⟨rfl, B71⟩
  clear q0 q1
  clear R69 R70
  have HH73 : Hid (Holds w w72 [(w28.heap.size, [.slice a0m x0.parts.length c0m]), (w.heap.size, [.slice a0 x0.parts.length c0])] [([.slice a3e z3.length c3e], [slD Lay.int z3]), ([.slice a3m z3.length c3m], [slD Lay.int z3]), ([.slice a2m z2.length c2m], [slD Lay.int z2]), ([.slice a0m x0.parts.length c0m], Lay.gram.cells x0)]) := HH68.out.later B71
  clear HH68
  clear B71
  have HH74 : Hid (Holds w w72 [(w28.heap.size, [.slice a0m x0.parts.length c0m]), (w.heap.size, [.slice a0 x0.parts.length c0])] [([.slice a3m z3.length c3m], [slD Lay.int z3]), ([.slice a2m z2.length c2m], [slD Lay.int z2]), ([.slice a0m x0.parts.length c0m], Lay.gram.cells x0)]) := Holds.drop (P := []) (x := ([.slice a3e z3.length c3e], [slD Lay.int z3])) (Q := [([.slice a3m z3.length c3m], [slD Lay.int z3]), ([.slice a2m z2.length c2m], [slD Lay.int z2]), ([.slice a0m x0.parts.length c0m], Lay.gram.cells x0)]) HH73.out
  clear HH73
  go_wp2
  go_ret
  exact ⟨rfl, HH74.out.below⟩
end Go.Proofs.YthnppodnjokaoaaGreatDoor
