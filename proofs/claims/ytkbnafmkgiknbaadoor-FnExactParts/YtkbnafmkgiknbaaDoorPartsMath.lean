/-
  Plain facts on what stands between such bytes of a text. No statement is proved here.
-/
import Derived.Lib.Split
import Derived.Lib.SplitLaws
import Derived.Lib.CountLaws
import Derived.Lib.Strings
import Derived.Lib.IndexBytes
import Derived.WideShapes
namespace Go.Proofs.YtkbnafmkgiknbaaDoor

/-- p ahead of the first piece. -/
def ahead (p : List UInt8) : List (List UInt8) → List (List UInt8)
  | [] => [p]
  | q :: qs => (p ++ q) :: qs
/-- What stands between the bytes b of l. -/
def splitL (b : UInt8) : List UInt8 → List (List UInt8)
  | [] => [[]]
  | x :: l => if x = b then [] :: splitL b l else ahead [x] (splitL b l)

theorem splitL_cons (b : UInt8) (l : List UInt8) : ∃ q qs, splitL b l = q :: qs := by
  cases l with
  | nil => exact ⟨[], [], rfl⟩
  | cons x l =>
    rw [splitL]
    split
    · exact ⟨_, _, rfl⟩
    · cases splitL b l with
      | nil => exact ⟨_, _, rfl⟩
      | cons q qs => exact ⟨_, _, rfl⟩
theorem ahead_nil (b : UInt8) (l : List UInt8) : ahead [] (splitL b l) = splitL b l := by
  obtain ⟨q, qs, e⟩ := splitL_cons b l
  rw [e]; simp [ahead]
theorem ahead_ahead (p : List UInt8) (x : UInt8) (b : UInt8) (l : List UInt8) : ahead p (ahead [x] (splitL b l)) = ahead (p ++ [x]) (splitL b l) := by
  obtain ⟨q, qs, e⟩ := splitL_cons b l
  rw [e]; simp [ahead]
theorem splitL_hit {b : UInt8} {l : List UInt8} {k : Nat} (hk : k < l.length) (h : l[k] = b) : splitL b (l.drop k) = [] :: splitL b (l.drop (k + 1)) := by
  rw [List.drop_eq_getElem_cons hk, splitL, if_pos h]
theorem splitL_miss {b : UInt8} {l : List UInt8} {k : Nat} (hk : k < l.length) (h : ¬ l[k] = b) (p : List UInt8) : ahead p (splitL b (l.drop k)) = ahead (p ++ [l[k]]) (splitL b (l.drop (k + 1))) := by
  rw [List.drop_eq_getElem_cons hk, splitL, if_neg h, ahead_ahead]
theorem splitL_length (b : UInt8) (l : List UInt8) : (splitL b l).length ≤ l.length + 1 := by
  induction l with
  | nil => simp [splitL]
  | cons x l ih =>
    rw [splitL]
    split
    · simp; omega
    · obtain ⟨q, qs, e⟩ := splitL_cons b l
      rw [e] at ih ⊢
      simp [ahead] at ih ⊢; omega

theorem splitL_piece (b : UInt8) (l : List UInt8) : ∀ p ∈ splitL b l, p.length ≤ l.length := by
  induction l with
  | nil => intro p hp; simp [splitL] at hp; simp [hp]
  | cons x l ih =>
    intro p hp
    rw [splitL] at hp
    split at hp
    · rcases List.mem_cons.1 hp with rfl | hp
      · simp
      · have := ih p hp; simp; omega
    · obtain ⟨q, qs, e⟩ := splitL_cons b l
      rw [e] at hp ih
      simp only [ahead, List.mem_cons] at hp
      rcases hp with rfl | hp
      · have := ih q (List.mem_cons_self ..); simp; omega
      · have := ih p (List.mem_cons_of_mem _ hp); simp; omega

theorem index_split (b : UInt8) (l : List UInt8) : (Lib.index l [b] = -1 → splitL b l = [l]) ∧ (∀ i : Nat, Lib.index l [b] = i → splitL b l = l.take i :: splitL b (l.drop (i + 1))) := by
  induction l with
  | nil => exact ⟨fun _ => rfl, fun i h => by simp [Lib.index] at h⟩
  | cons x l ih =>
    rw [splitL]
    by_cases hx : x = b
    · subst hx
      have e : Lib.index (x :: l) [x] = 0 := by simp [Lib.index]
      refine ⟨fun h => by rw [e] at h; omega, fun i h => ?_⟩
      have : i = 0 := by omega
      subst this
      simp
    · rw [if_neg hx]
      have hp : ([b] : List UInt8).isPrefixOf (x :: l) = false := by simp [List.isPrefixOf]; exact fun h => hx h.symm
      have e : Lib.index (x :: l) [b] = if Lib.index l [b] == -1 then -1 else Lib.index l [b] + 1 := by rw [Lib.index, hp]; simp
      have hge := Lib.index_ge l [b]
      refine ⟨fun h => ?_, fun i h => ?_⟩
      · rw [e] at h
        split at h
        · rename_i h2
          rw [ih.1 (by simpa using h2)]; rfl
        · omega
      · rw [e] at h
        split at h
        · omega
        · rename_i h2
          obtain ⟨j, hj⟩ := Int.eq_ofNat_of_zero_le (show 0 ≤ Lib.index l [b] by have : Lib.index l [b] ≠ -1 := by simpa using h2
                                                                                 omega)
          have : i = j + 1 := by omega
          subst this
          rw [ih.2 j hj]
          simp [ahead]

theorem splitB_is (b : UInt8) : ∀ (k : Nat) (s : ByteArray), s.size ≤ k → (Lib.splitB ⟨#[b]⟩ 0 (Lib.countB s ⟨#[b]⟩) s).map (fun x => x.data.toList) = splitL b s.data.toList := by
  intro k
  induction k with
  | zero =>
    intro s hs
    have hl : s.data.toList = [] := by
      apply List.eq_nil_of_length_eq_zero
      simpa using Nat.le_zero.1 hs
    have hi : Lib.indexB s ⟨#[b]⟩ = -1 := by
      show Lib.index s.data.toList [b] = -1
      rw [hl]; simp [Lib.index]
    rw [Lib.countB_miss _ _ hi, Lib.splitB_zero, hl]; simp [hl, splitL]
  | succ k ih =>
    intro s hs
    by_cases hi : Lib.indexB s ⟨#[b]⟩ = -1
    · rw [Lib.countB_miss _ _ hi, Lib.splitB_zero, (index_split b s.data.toList).1 hi]; rfl
    · obtain ⟨i, hi2⟩ := Int.eq_ofNat_of_zero_le (show 0 ≤ Lib.indexB s ⟨#[b]⟩ by have := Lib.index_ge s.data.toList [b]
                                                                                  have h2 : Lib.indexB s ⟨#[b]⟩ = Lib.index s.data.toList [b] := rfl
                                                                                  omega)
      have hsz : (⟨#[b]⟩ : ByteArray).size = 1 := rfl
      rw [Lib.countB_hit s ⟨#[b]⟩ i (by rw [hsz]; exact Nat.le_refl _) hi2, Nat.add_comm 1, Lib.splitB_hit _ _ _ _ i hi2, (index_split b s.data.toList).2 i hi2, hsz]
      have hrest : (s.extract (i + 1) s.size).data.toList = s.data.toList.drop (i + 1) := Lib.extract_to_end s (i + 1)
      have hhead : (s.extract 0 (i + 0)).data.toList = s.data.toList.take i := by
        rw [Lib.extract_data]; simp
      have hle : (s.extract (i + 1) s.size).size ≤ k := by
        have h1 : (s.extract (i + 1) s.size).size = (s.extract (i + 1) s.size).data.toList.length := by simp
        rw [h1, hrest, List.length_drop]
        have h2 : s.data.toList.length = s.size := by simp
        rw [h2]; omega
      rw [List.map_cons, ih _ hle, hrest, hhead]

theorem texts_eq : ∀ {xs ys : List ByteArray}, xs.map (fun x => x.data.toList) = ys.map (fun x => x.data.toList) → xs = ys
  | [], [], _ => rfl
  | [], _ :: _, h => by simp at h
  | _ :: _, [], h => by simp at h
  | x :: xs, y :: ys, h => by
    simp only [List.map_cons, List.cons.injEq] at h
    rw [Go.WideShapes.bytes_inj h.1, texts_eq h.2]
end Go.Proofs.YtkbnafmkgiknbaaDoor
