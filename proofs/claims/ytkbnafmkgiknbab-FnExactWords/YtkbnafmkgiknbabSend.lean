/-
  Contracts of impl.firstNoWord and impl.sendWords over this translation. No statement is proved here.
-/
import Derived.Test.YtkbnafmkgiknbabKind
import Derived.Test.YtkbnafmkgiknbabChan
namespace Go.Proofs.Ytkbnafmkgiknbab
open Go.RowKit Go.Conc

theorem kindOf_at (s : ByteArray) (k : Nat) (h : k < s.size) (w : World) : Calls Try.prog 40 #[.int .u8 (s[k].toNat : Int)] w fun e w' => e = .returned (.int .i64 (kindAt s k)) ∧ w' = w := by
  rw [kindAt_eq h]
  have := s[k].toNat_lt
  exact kindOf_any _ w (by omega) (by omega)
theorem l2Kind_at (s : ByteArray) (k : Nat) (h : k < s.size) (w : World) : Calls Try.prog 33 #[.int .u8 (s[k].toNat : Int)] w fun e w' => e = .returned (.int .i64 (kindAt s k)) ∧ w' = w := by
  rw [kindAt_eq h]
  have := s[k].toNat_lt
  exact l2Kind_any _ w (by omega) (by omega)

theorem firstNoWord_any (s : ByteArray) (w : World) (hs : s.size ≤ 300) : Calls Try.prog 34 #[.string s] w fun e w' => e = .returned (.int .i64 (badI s)) ∧ w' = w := by
  go_enter Try.func34, Try.ntmps34
  go_wp2
  go_loop [3] (fun i => ∃ k : Nat, k ≤ s.size ∧ i = .int .i64 k ∧ Hid (cleanTo s k)) (fun i => s.size - (intOf i).toNat)
  case atStart => exact ⟨0, Nat.zero_le _, rfl, cleanTo_zero s⟩
  case round =>
    obtain ⟨k, hk, rfl, hcl⟩ := hrel
    by_cases hlt : k < s.size
    · by_cases hg : kindAt s k = -2
      · have E : Hid (badI s = k) := badI_at hlt hcl.out hg
        go_wp2_with (go_at_call 40; refine (kindOf_at s k hlt _).mono ?_; rintro e w' ⟨rfl, rfl⟩)
        go_ret
        exact ⟨ret_int E.out.symm, rfl⟩
      · have hne : (kindAt s k == -2) = false := by simpa using hg
        go_wp2_with (go_at_call 40; refine (kindOf_at s k hlt _).mono ?_; rintro e w' ⟨rfl, rfl⟩)
        go_round
        case rel => exact ⟨k + 1, by omega, by go_num, cleanTo_step hcl.out hg⟩
        case measure => simp [intOf]; omega
    · have e : k = s.size := by omega
      subst e
      have E : Hid (badI s = -1) := badI_clean hcl.out
      go_wp2
      go_ret
      exact ⟨ret_int E.out.symm, rfl⟩

/-- A word, as one value. -/
def wdV (x : Wd) : Value := .agg #[.int .i64 x.kind, .int .i64 x.place, .string x.text]

theorem clone_any (s : ByteArray) (w : World) (hs : s.size ≤ 281474976710656) : Calls Try.prog 41 #[.string s] w fun e w' => e = .returned (.string s) ∧ Below w.heap.size w w' := by
  go_enter Try.func41, Try.ntmps41
  go_wp2_with (go_at_call 44; refine (Try.stringslite_Clone s _ hs).mono ?_; rintro e w' ⟨rfl, hb⟩)
  go_ret
  exact ⟨rfl, hb⟩

theorem heap_below {w w' : World} {c : Nat} {o : Obj} (hb : Below w.heap.size w w') (h : w.heap[c]? = some o) : w'.heap[c]? = some o :=
  (hb.block c (Array.getElem?_eq_some_iff.1 h).1).trans h

set_option maxRecDepth 100000 in
theorem sendWords_any (s : ByteArray) (c : Nat) (w : World) (hs : s.size ≤ 300) (hcl : cleanTo s s.size) (hc : w.heap[c]? = some (.chan s.size #[] false 0 0 false)) :
    Calls Try.prog 35 #[.string s, .chan (some c)] w fun e w' => e = .returned (.tuple #[]) ∧ (∃ n, w'.heap[c]? = some (.chan s.size ((wordsTo s s.size).map wdV).toArray true n 0 false)) ∧ Below c w w' := by
  have hc0 : c < w.heap.size := (Array.getElem?_eq_some_iff.1 hc).1
  refine calls_of_wp_close Try.func35 rfl ?_
  simp only [Try.ntmps35, List.size_toArray, List.length_cons, List.length_nil, Nat.reduceAdd, Nat.reduceSub, Array.replicate_succ,
     Array.replicate_zero, List.push_toArray, List.append_toArray, List.nil_append, List.cons_append]
  go_wp2
  go_loopw [4] (fun i wr => ∃ k n : Nat, k ≤ s.size ∧ i = .int .i64 k ∧ wr.heap[c]? = some (.chan s.size ((wordsTo s k).map wdV).toArray false n 0 false) ∧ Below c w wr) (fun i _ => s.size - (intOf i).toNat)
  case atStart => exact ⟨0, 0, Nat.zero_le _, rfl, by simpa [wordsTo] using hc, Below.refl _ _⟩
  case round =>
    obtain ⟨k, n, hk, rfl, hch, hbel⟩ := hrel
    by_cases hlt : k < s.size
    · apply wp_seq_k
      intro K1 hK1
      have HK1 : Hid _ := hK1
      clear hK1
      go_wp2
      refine HK1.out _ _ ?_
      clear HK1
      apply wp_seq_k
      intro K2 hK2
      apply wp_block
      apply wp_seq_k
      intro K3 hK3
      have HK3 : Hid _ := hK3
      clear hK3
      go_wp2_with (go_at_call 40; refine (kindOf_at s k hlt _).mono ?_; rintro e w' ⟨rfl, rfl⟩)
      refine HK3.out _ _ ?_
      clear HK3
      apply wp_seq_k
      intro K4 hK4
      have HK4 : Hid _ := hK4
      clear hK4
      by_cases hg : kindAt s k = -1
      · have E : Hid (wordsTo s (k + 1) = wordsTo s k) := wordsTo_no (by omega)
        go_wp2
        go_roundw
        case rel => exact ⟨k + 1, n, by omega, by go_num, by rw [E.out]; exact hch, hbel⟩
        case measure => simp [intOf]; omega
      · have hne : (kindAt s k == -1) = false := by simpa using hg
        have h0 : 0 ≤ kindAt s k := by
          have h2 := kindI_range ((s.data.toList.getD k 0).toNat : Int)
          have h3 := hcl k hlt
          unfold kindAt at *
          omega
        have E : Hid (wordsTo s (k + 1) = wordsTo s k ++ [⟨kindAt s k, k, byteAt s k⟩]) := wordsTo_yes h0
        go_wp2
        refine HK4.out _ _ ?_
        clear HK4
        refine wp_region_cut 10 ?_
        simp only [List.take_succ_cons, List.take_zero, List.drop_succ_cons, List.drop_zero, List.length_cons, List.length_nil]
        go_wp2_with (go_at_call 41; refine (clone_any (byteAt s k) _ (by unfold byteAt; simp; omega)).mono ?_; rintro e w1 ⟨rfl, hb1⟩)
        have hlen : ((wordsTo s k).map wdV).toArray.size < s.size := by
          have := wordsTo_length_le s k
          simp; omega
        have hc1 := heap_below hb1 hch
        have hc2 : c < w1.heap.size := (Array.getElem?_eq_some_iff.1 hc1).1
        have R := heap_setChan w1 c s.size (((wordsTo s k).map wdV).toArray.push (wdV ⟨kindAt s k, k, byteAt s k⟩)) false (n + 1) 0 false hc2
        have B2 : Below c w (w1.setChan c s.size (((wordsTo s k).map wdV).toArray.push (wdV ⟨kindAt s k, k, byteAt s k⟩)) false (n + 1) 0 false) :=
          below_setChan (hbel.trans (hb1.mono (Nat.le_of_lt (Array.getElem?_eq_some_iff.1 hch).1))) (Nat.le_refl _) _ _ _ _ _ _
        show RegTo _ _ _ [10] _ _
        refine RegTo.send (c := c) (cap := s.size) (v := wdV ⟨kindAt s k, k, byteAt s k⟩) (z := .tuple #[]) rfl rfl (by simp [execOp, scase, Act.eval, wdV]) hc1 hlen (RegTo.nil ?_)
        simp only [Act.put]
        generalize w1.setChan c s.size (((wordsTo s k).map wdV).toArray.push (wdV ⟨kindAt s k, k, byteAt s k⟩)) false (n + 1) 0 false = w2 at R B2 ⊢
        clear hlen hc1 hc2 hb1 hch hbel
        go_wp2
        go_roundw
        case rel => exact ⟨k + 1, n + 1, by omega, by go_num, by rw [R, E.out]; simp, B2⟩
        case measure => simp [intOf]; omega
    · have e : k = s.size := by omega
      subst e
      go_wp2
      refine ⟨_, _, _, c, _, _, _, _, _, rfl, hch, .tuple #[], ?_, rfl, ⟨n, ?_⟩, ?_⟩
      · simp [results, Try.results35, go_sem]
      · exact heap_setChan _ _ _ _ _ _ _ _ (Array.getElem?_eq_some_iff.1 hch).1
      · exact below_setChan hbel (Nat.le_refl _) _ _ _ _ _ _
end Go.Proofs.Ytkbnafmkgiknbab
