/-
  Contract of spec.Words over this translation. No statement is proved here.
-/
import Derived.Test.YtkbnafmkgiknbabWords
namespace Go.Proofs.Ytkbnafmkgiknbab
open Go.RowKit Go.Conc

set_option maxRecDepth 100000 in
theorem specWords_any (s : ByteArray) (w : World) (hs : s.size ≤ maxLen) : Calls Try.prog 23 #[.string s] w fun e w' =>
    ∃ v, e = .returned (.tuple #[v, .int .i64 (wordsN s)]) ∧ OwnT wdE w' w.heap.size 40 v (wordsL s) ∧ Below w.heap.size w w' := by
  unfold maxLen at hs
  by_cases hlong : 300 < s.size
  · have EL : Hid (wordsL s = [] ∧ wordsN s = 300) := ⟨wordsL_long hlong, wordsN_long hlong⟩
    go_enter Try.func23, Try.ntmps23
    go_wp2
    go_ret2
    refine ⟨.slice (some ⟨w.heap.size, 0, none⟩) 0 0, ?_, ?_, (Below.refl _ _).alloc (Nat.le_refl _) _⟩
    · exact ret2 EL.out.2.symm
    · rw [EL.out.1]; exact OwnT.empty (Nat.le_refl _)
  · have hs3 : s.size ≤ 300 := by omega
    have EN : Hid (wordsN s = badI s) := wordsN_short hlong
    have EB : Hid (0 ≤ badI s → wordsL s = []) := fun h => wordsL_bad hlong h
    have EC : Hid (badI s = -1 → wordsL s = wordsTo s s.size) := fun h => wordsL_clean hlong h
    go_enter Try.func23, Try.ntmps23
    go_wp2
    go_loopw [4, 5] (fun l i wr => ∃ k : Nat, k ≤ s.size ∧ i = .int .i64 k ∧ Hid (cleanTo s k) ∧ OwnT wdE wr w.heap.size 40 l (wordsTo s k) ∧ Below w.heap.size w wr) (fun _ i _ => s.size - (intOf i).toNat)
    case atStart => exact ⟨0, Nat.zero_le _, rfl, cleanTo_zero s, by simpa [wordsTo] using OwnT.empty (E := wdE) (w := w) (Nat.le_refl _), (Below.refl _ _).alloc (Nat.le_refl _) _⟩
    case round =>
      obtain ⟨k, hk, rfl, hcl, hown, hbel⟩ := hrel
      have hsz := hbel.size
      by_cases hlt : k < s.size
      · by_cases hg : kindAt s k = -2
        · have E : Hid (badI s = k) := badI_at hlt hcl.out hg
          go_wp2_with (go_at_call 33; refine (l2Kind_at s k hlt _).mono ?_; rintro e w' ⟨rfl, rfl⟩)
          go_ret2
          refine ⟨_, ret2 (by rw [EN.out, E.out]), ?_, hbel.alloc hsz _⟩
          rw [EB.out (by rw [E.out]; omega)]
          exact OwnT.empty hsz
        · have hne : (kindAt s k == -2) = false := by simpa using hg
          by_cases h0 : 0 ≤ kindAt s k
          · have E : Hid (wordsTo s (k + 1) = wordsTo s k ++ [⟨kindAt s k, k, byteAt s k⟩]) := wordsTo_yes h0
            have hl1 : (wordsTo s k).length ≤ 300 := by have := wordsTo_length_le s k; omega
            generalize wordsTo s k = pre at E hown hl1
            go_wp2_with (first
              | (go_at_call 33; refine (l2Kind_at s k hlt _).mono ?_; rintro e w' ⟨rfl, rfl⟩)
              | (at_builtin; refine wpList_appendT (E := wdE) _ rfl (.tmp 28) (.tmp 37) 31 rfl w.heap.size 40 (.agg #[.int .i64 0, .int .i64 0, .string ByteArray.empty]) 32 Try.underlying31 Try.infoWord rfl (by decide) _ pre rfl ?o1 _ _ _ [⟨kindAt s k, k, byteAt s k⟩] rfl rfl ?o2 ?o3 ?o4 ?_))
            case o1 => exact hown.alloc _
            case o2 => exact ReadsT.new (E := wdE) _ ⟨kindAt s k, k, byteAt s k⟩ 40 _ rfl
            case o3 => simp; omega
            case o4 => simp; omega
            intro v' w3 O3 G3
            have B3 : Below w.heap.size w w3 := (hbel.alloc hsz _).grown G3 (by simp; omega) (fun k hk => (hown.block k hk).1)
            clear hown G3
            go_wp2
            go_roundw
            case rel => exact ⟨k + 1, by omega, by go_num, cleanTo_step hcl.out hg, by rw [E.out]; exact O3, B3⟩
            case measure => simp [intOf]; omega
          · have E : Hid (wordsTo s (k + 1) = wordsTo s k) := wordsTo_no h0
            go_wp2_with (go_at_call 33; refine (l2Kind_at s k hlt _).mono ?_; rintro e w' ⟨rfl, rfl⟩)
            go_roundw
            case rel => exact ⟨k + 1, by omega, by go_num, cleanTo_step hcl.out hg, by rw [E.out]; exact hown, hbel⟩
            case measure => simp [intOf]; omega
      · have e : k = s.size := by omega
        subst e
        have E : Hid (badI s = -1) := badI_clean hcl.out
        obtain ⟨a, cap, rfl, _⟩ := hown.shape
        go_wp2
        go_ret2
        refine ⟨_, ret2 (by rw [EN.out, E.out]), ?_, hbel⟩
        rw [EC.out E.out]
        exact hown
end Go.Proofs.Ytkbnafmkgiknbab
