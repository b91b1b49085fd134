/-
  Contracts of the law package's markExprS and heldExprS over this translation. No statement is proved here.
-/
import Derived.Test.YtkbnafmkgiknbacExTree
import Derived.Test.YtkbnafmkgiknbacMarkText
import Derived.Deep.RegionWith
namespace Go.Proofs.Ytkbnafmkgiknbac
open Go.RowKit

mutual
/-- An expression whose fields are marks from k on. -/
def markE : Ex → Nat → Ex
  | .mk _ _ ks, k => .mk (k : Int) (markB (k + 1)) (markL ks (k + 2))
def markL : List Ex → Nat → List Ex
  | [], _ => []
  | x :: xs, k => markE x k :: markL xs (k + 2 * x.nodes)
end
theorem markE_eq (x : Ex) (k : Nat) : markE x k = .mk (k : Int) (markB (k + 1)) (markL x.kids (k + 2)) := by cases x; simp [markE, Ex.kids]
theorem markL_length (xs : List Ex) (k : Nat) : (markL xs k).length = xs.length := by
  induction xs generalizing k with
  | nil => simp [markL]
  | cons x xs ih => simp [markL, ih]
theorem markL_append (xs ys : List Ex) (k : Nat) : markL (xs ++ ys) k = markL xs k ++ markL ys (k + 2 * Ex.nodesL xs) := by
  induction xs generalizing k with
  | nil => simp [markL, Ex.nodesL]
  | cons x xs ih => simp [markL, Ex.nodesL, ih, Nat.mul_add, Nat.add_assoc]
theorem markL_get (xs : List Ex) (k i : Nat) (h : i < xs.length) (h' : i < (markL xs k).length) : (markL xs k)[i] = markE xs[i] (k + 2 * Ex.nodesL (xs.take i)) := by
  induction xs generalizing k i with
  | nil => simp at h
  | cons x xs ih =>
    cases i with
    | zero => simp [markL, Ex.nodesL]
    | succ i =>
      simp only [markL, List.getElem_cons_succ, List.take_succ_cons, Ex.nodesL]
      rw [ih (k + 2 * x.nodes) i (by simpa using h)]
      congr 1; omega
theorem markL_step {xs : List Ex} {j k : Nat} (h : j < xs.length) : (markL (xs.take j) k ++ xs.drop j).set j (markE xs[j] (k + 2 * Ex.nodesL (xs.take j))) = markL (xs.take (j + 1)) k ++ xs.drop (j + 1) := by
  have hl : (markL (xs.take j) k).length = j := by rw [markL_length]; simp; omega
  rw [List.set_append_right _ _ (by omega), hl, Nat.sub_self, List.drop_eq_getElem_cons h, List.set_cons_zero, List.take_succ_eq_append_getElem h, markL_append, List.append_assoc]
  simp [markL]
theorem markL_mid_length {xs : List Ex} {j k : Nat} (h : j ≤ xs.length) : (markL (xs.take j) k ++ xs.drop j).length = xs.length := by
  rw [List.length_append, markL_length]; simp; omega
theorem markL_mid_get {xs : List Ex} {j k : Nat} (h : j < xs.length) (h' : j < (markL (xs.take j) k ++ xs.drop j).length) : (markL (xs.take j) k ++ xs.drop j)[j] = xs[j] := by
  have hl : (markL (xs.take j) k).length = j := by rw [markL_length]; simp; omega
  rw [List.getElem_append_right (by omega)]
  simp [hl]

set_option maxRecDepth 100000 in
theorem markExprS_any : ∀ (N : Nat) (xs : List Ex), Ex.nodesL xs ≤ N → ∀ (base : Nat) (v : Value) (S : Nat → Prop) (k : Nat) (w : World), OD w base v (exD xs) S → 1 ≤ k → k + 2 * Ex.nodesL xs ≤ 1099511627776 →
    Calls Try.prog 42 #[v, .int .i64 (k : Int)] w fun e w' => e = .returned (.int .i64 ((k + 2 * Ex.nodesL xs : Nat) : Int)) ∧ OD w' base v (exD (markL xs k)) S ∧ Within w w' S := by
  intro N
  induction N with
  | zero =>
    intro xs hN base v S k w h hk hk2
    have : xs.length = 0 := by have := Ex.length_le xs; omega
    have e : xs = [] := List.eq_nil_of_length_eq_zero this
    subst e
    obtain ⟨a, c, rfl, _⟩ := h.exShape
    go_enter Try.func42, Try.ntmps42
    go_wp2
    go_loopw [1, 5] (fun sk i wr => i = .int .i64 0 ∧ sk = .int .i64 k ∧ wr = w) (fun _ _ _ => 0)
    case atStart => exact ⟨rfl, rfl, rfl⟩
    case round =>
      obtain ⟨rfl, rfl, rfl⟩ := hrel
      go_wp2
      go_ret
      exact ⟨ret_int (by simp [Ex.nodesL]), by simpa [markL] using h, Within.refl _ _⟩
  | succ N ih =>
    intro xs hN base v S k w h hk hk2
    have hlen := Ex.length_le xs
    obtain ⟨a, c, rfl, hg⟩ := h.exShape
    go_enter Try.func42, Try.ntmps42
    go_wp2
    go_loopw [1, 5] (fun sk i wr => ∃ j : Nat, j ≤ xs.length ∧ i = .int .i64 j ∧ sk = .int .i64 ((k + 2 * Ex.nodesL (xs.take j) : Nat) : Int) ∧ OD wr base (.slice a xs.length c) (exD (markL (xs.take j) k ++ xs.drop j)) S ∧ Within w wr S) (fun _ i _ => xs.length - (intOf i).toNat)
    case atStart => exact ⟨0, Nat.zero_le _, rfl, by simp [Ex.nodesL], by simpa [markL] using h, Within.refl _ _⟩
    case round =>
      obtain ⟨j, hj, rfl, rfl, hown, hwi⟩ := hrel
      by_cases hlt : j < xs.length
      · obtain ⟨g, rfl⟩ := hg (by intro e; simp [e] at hlt)
        clear hg h
        have HST : Hid ((markL (xs.take j) k ++ xs.drop j).set j (markE xs[j] (k + 2 * Ex.nodesL (xs.take j))) = markL (xs.take (j + 1)) k ++ xs.drop (j + 1)) := markL_step hlt
        have HLL : Hid ((markL (xs.take j) k ++ xs.drop j).length = xs.length) := markL_mid_length hj
        have hjL : j < (markL (xs.take j) k ++ xs.drop j).length := by rw [HLL.out]; exact hlt
        have HX : Hid ((markL (xs.take j) k ++ xs.drop j)[j] = xs[j]) := markL_mid_get hlt hjL
        have HN1 : Hid (k + 2 * Ex.nodesL (xs.take (j + 1)) = (k + 2 * Ex.nodesL (xs.take j)) + 2 + 2 * Ex.nodesL xs[j].kids) := by
          show _ = _
          rw [Ex.nodesL_take hlt, Ex.nodes_eq]; omega
        have hle := Ex.nodesL_take_le xs (j + 1)
        have hm1 : 1 ≤ k + 2 * Ex.nodesL (xs.take j) := by omega
        have hm2 : (k + 2 * Ex.nodesL (xs.take j)) + 2 + 2 * Ex.nodesL xs[j].kids ≤ 1099511627776 := by rw [← HN1.out]; omega
        have hkid := Ex.kids_lt hlt
        generalize markL (xs.take j) k ++ xs.drop j = L at *
        generalize k + 2 * Ex.nodesL (xs.take j) = m at *
        obtain ⟨O1, W1, ⟨u1, c1⟩, f1⟩ := hown.exKind hjL (m : Int)
        have hj1 : j < (L.set j (.mk (m : Int) L[j].text L[j].kids)).length := by simpa using hjL
        have M : ∀ W : World, Calls Try.prog 41 #[.int .i64 ((m : Int) + 1)] W fun e w' => e = .returned (.string (markB (m + 1))) ∧ Below W.heap.size W w' := by
          intro W
          have e : ((m : Int) + 1) = ((m + 1 : Nat) : Int) := by omega
          rw [e]
          exact markText_any (m + 1) W (by omega) (by omega)
        have WW1 := hwi.trans W1
        clear hown W1 hwi
        go_wp2_with fail
        refine (M _).mono ?_
        rintro e w2 ⟨rfl, hb2⟩
        have O2 := O1.later hb2
        have WW2 := WW1.trans (Within.of_below hb2 S)
        obtain ⟨O3, W3, ⟨u3, c3⟩, f3⟩ := O2.exText hj1 (markB (m + 1))
        have WW3 := WW2.trans W3
        have hj3 : j < ((L.set j (.mk (m : Int) L[j].text L[j].kids)).set j (.mk (L.set j (.mk (m : Int) L[j].text L[j].kids))[j].kind (markB (m + 1)) (L.set j (.mk (m : Int) L[j].text L[j].kids))[j].kids)).length := by simpa using hjL
        have E3 : (L.set j (.mk (m : Int) L[j].text L[j].kids)).set j (.mk (L.set j (.mk (m : Int) L[j].text L[j].kids))[j].kind (markB (m + 1)) (L.set j (.mk (m : Int) L[j].text L[j].kids))[j].kids) = L.set j (.mk (m : Int) (markB (m + 1)) L[j].kids) := by
          simp [Ex.kind_mk, Ex.kids_mk]
        rw [E3] at O3
        clear O1 O2 W3 WW1 WW2 M c1 f1 hb2 E3 hj3 hj1
        have hj4 : j < (L.set j (.mk (m : Int) (markB (m + 1)) L[j].kids)).length := by simpa using hjL
        obtain ⟨a5, c5, T, q5, O5, hT, hput⟩ := O3.exKids hj4
        have EG : (L.set j (.mk (m : Int) (markB (m + 1)) L[j].kids))[j] = .mk (m : Int) (markB (m + 1)) xs[j].kids := by rw [List.getElem_set_self, HX.out]
        rw [EG] at q5 O5 hput
        simp only [Ex.kind_mk, Ex.text_mk, Ex.kids_mk] at q5 O5 hput
        have HP : Hid (∀ w' ks, OD w' base (.slice a5 xs[j].kids.length c5) (exD ks) T → Within (w2.setCell ⟨g, j * 3 + 1, none⟩ (.string (markB (m + 1)))) w' T → OD w' base (.slice (some ⟨g, 0, none⟩) xs.length c) (exD ((L.set j (.mk (m : Int) (markB (m + 1)) L[j].kids)).set j (.mk (m : Int) (markB (m + 1)) ks))) S) := hput
        clear hput EG O3
        have X : Hid (Calls Try.prog 42 #[.slice a5 xs[j].kids.length c5, .int .i64 ((m + 2 : Nat) : Int)] (w2.setCell ⟨g, j * 3 + 1, none⟩ (.string (markB (m + 1)))) fun e w' => e = .returned (.int .i64 ((m + 2 + 2 * Ex.nodesL xs[j].kids : Nat) : Int)) ∧ OD w' base (.slice a5 xs[j].kids.length c5) (exD (markL xs[j].kids (m + 2))) T ∧ Within (w2.setCell ⟨g, j * 3 + 1, none⟩ (.string (markB (m + 1)))) w' T) :=
          ih xs[j].kids (by omega) base _ T (m + 2) _ O5 (by omega) (by omega)
        clear ih O5
        go_wp2_with fail
        have ec : ((m : Int) + 1 + 1) = ((m + 2 : Nat) : Int) := by omega
        rw [ec]
        refine X.out.mono ?_
        rintro e w6 ⟨rfl, O6, W6⟩
        have O7 := HP.out w6 _ O6 W6
        rw [List.set_set, ← markE_eq, HST.out] at O7
        have WW6 := WW3.trans (W6.mono hT)
        clear X HP c3 f3 q5 O6 W6 WW3
        go_wp2
        go_roundw
        case rel => exact ⟨j + 1, by omega, by go_num, by rw [HN1.out]; exact congrArg (Value.int .i64) (by omega), O7, WW6⟩
        case measure => simp [intOf]; omega
      · have e : j = xs.length := by omega
        subst e
        rw [List.take_length, List.drop_length, List.append_nil] at hown
        rw [List.take_length]
        go_wp2
        go_ret
        exact ⟨rfl, hown, hwi⟩

set_option maxRecDepth 100000 in
theorem heldExprS_any : ∀ (N : Nat) (xs : List Ex), Ex.nodesL xs ≤ N → ∀ (a : Option Addr) (c k : Nat) (w : World), RD w (.slice a xs.length c) (exD (markL xs k)) → 1 ≤ k → k + 2 * Ex.nodesL xs ≤ 1099511627776 →
    Calls Try.prog 43 #[.slice a xs.length c, .int .i64 (k : Int)] w fun e w' => e = .returned (.int .i64 ((k + 2 * Ex.nodesL xs : Nat) : Int)) ∧ Below w.heap.size w w' := by
  intro N
  induction N with
  | zero =>
    intro xs hN a c k w h hk hk2
    have : xs.length = 0 := by have := Ex.length_le xs; omega
    have e : xs = [] := List.eq_nil_of_length_eq_zero this
    subst e
    go_enter Try.func43, Try.ntmps43
    go_wp2
    go_loopw [1, 5] (fun sk i wr => i = .int .i64 0 ∧ sk = .int .i64 k ∧ wr = w) (fun _ _ _ => 0)
    case atStart => exact ⟨rfl, rfl, rfl⟩
    case round =>
      obtain ⟨rfl, rfl, rfl⟩ := hrel
      go_wp2
      go_ret
      exact ⟨ret_int (by simp [Ex.nodesL]), Below.refl _ _⟩
  | succ N ih =>
    intro xs hN a c k w h hk hk2
    have hlen := Ex.length_le xs
    go_enter Try.func43, Try.ntmps43
    go_wp2
    go_loopw [1, 5] (fun sk i wr => ∃ j : Nat, j ≤ xs.length ∧ i = .int .i64 j ∧ sk = .int .i64 ((k + 2 * Ex.nodesL (xs.take j) : Nat) : Int) ∧ Below w.heap.size w wr) (fun _ i _ => xs.length - (intOf i).toNat)
    case atStart => exact ⟨0, Nat.zero_le _, rfl, by simp [Ex.nodesL], Below.refl _ _⟩
    case round =>
      obtain ⟨j, hj, rfl, rfl, hbel⟩ := hrel
      by_cases hlt : j < xs.length
      · have hlt2 : j < (markL xs k).length := by rw [markL_length]; exact hlt
        obtain ⟨b1, o1, rfl, hb1, q0, q1, a1, c1, q2, r1⟩ := (h.later hbel).ex hlt2
        have HN1 : Hid (k + 2 * Ex.nodesL (xs.take (j + 1)) = (k + 2 * Ex.nodesL (xs.take j)) + 2 + 2 * Ex.nodesL xs[j].kids) := by
          show _ = _
          rw [Ex.nodesL_take hlt, Ex.nodes_eq]; omega
        have hle := Ex.nodesL_take_le xs (j + 1)
        have hm1 : 1 ≤ k + 2 * Ex.nodesL (xs.take j) := by omega
        have hm2 : (k + 2 * Ex.nodesL (xs.take j)) + 2 + 2 * Ex.nodesL xs[j].kids ≤ 1099511627776 := by rw [← HN1.out]; omega
        have hkid := Ex.kids_lt hlt
        rw [markL_get xs k j hlt hlt2, markE_eq] at q0 q1 q2 r1
        simp only [Ex.kind_mk, Ex.text_mk, Ex.kids_mk] at q0 q1 q2 r1
        rw [markL_length] at q2 r1
        generalize k + 2 * Ex.nodesL (xs.take j) = m at *
        have HMT : Hid (∀ W : World, Calls Try.prog 41 #[.int .i64 ((m : Int) + 1)] W fun e w' => e = .returned (.string (markB (m + 1))) ∧ Below W.heap.size W w') := by
          intro W
          have e : ((m : Int) + 1) = ((m + 1 : Nat) : Int) := by omega
          rw [e]
          exact markText_any (m + 1) W (by omega) (by omega)
        have X : Hid (∀ W : World, Below wr.heap.size wr W → Calls Try.prog 43 #[.slice a1 xs[j].kids.length c1, .int .i64 ((m + 2 : Nat) : Int)] W fun e w' => e = .returned (.int .i64 ((m + 2 + 2 * Ex.nodesL xs[j].kids : Nat) : Int)) ∧ Below W.heap.size W w') :=
          fun W hW => ih xs[j].kids (by omega) a1 c1 (m + 2) W (r1.later hW) (by omega) (by omega)
        clear ih h r1
        go_wp2
        go_region_with (go_at_call 41; refine (HMT.out _).mono ?_; rintro e w1 ⟨rfl, hl1⟩; have hcx1 := (hl1.cell (p := ⟨b1, o1 + j * 3 + 1, none⟩) hb1).trans q1; have hcx2 := (hl1.cell (p := ⟨b1, o1 + j * 3 + 2, none⟩) hb1).trans q2)
        all_goals
          have B1 : Below wr.heap.size wr w1 := ⟨hl1.os, hl1.tape, hl1.output, hl1.size, hl1.block⟩
          go_wp2_with fail
          have ec : ((m : Int) + 1 + 1) = ((m + 2 : Nat) : Int) := by omega
          rw [ec]
          refine (X.out _ B1).mono ?_
          rintro e w2 ⟨rfl, hb2⟩
          have B2 := (hbel.trans (B1.mono hbel.size)).trans (hb2.mono (Nat.le_trans hbel.size B1.size))
          clear X HMT
          go_wp2
          go_roundw
          case rel => exact ⟨j + 1, by omega, by go_num, by rw [HN1.out]; exact congrArg (Value.int .i64) (by omega), B2⟩
          case measure => simp [intOf]; omega
      · have e : j = xs.length := by omega
        subst e
        rw [List.take_length]
        go_wp2
        go_ret
        exact ⟨rfl, hbel⟩
end Go.Proofs.Ytkbnafmkgiknbac
