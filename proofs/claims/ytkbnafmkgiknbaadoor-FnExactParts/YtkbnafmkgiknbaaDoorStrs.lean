/-
  Contracts of the law package's small helpers on lists of texts (eqStringS, markText, markStringS, heldStringS) over this translation. No statement is proved here.
-/
import Derived.Test.YtkbnafmkgiknbaaDoorOwnS
import Derived.Test.YtkbnafmkgiknbaaDoorDigits
import Derived.Test.YtkbnafmkgiknbaaDoorMarkText
import Derived.Deep.RegionWith
namespace Go.Proofs.YtkbnafmkgiknbaaDoor
open Go.RowKit

theorem Tryd.infoStr : (Tryd.prog.info? 9).map (fun i => (i.zero, i.size, i.bytes)) = some (some (.string ByteArray.empty), 1, 16) := by kernel_rfl

/-- Two lists of texts are the same. -/
def eqS (xs ys : List ByteArray) : Bool := decide (xs = ys)
theorem eqS_self (xs : List ByteArray) : eqS xs xs = true := by simp [eqS]
theorem eqS_len {xs ys : List ByteArray} (h : ¬ xs.length = ys.length) : eqS xs ys = false := by
  simp only [eqS, decide_eq_false_iff_not]; intro e; exact h (by rw [e])
theorem eqS_at {xs ys : List ByteArray} {k : Nat} (h1 : k < xs.length) (h2 : k < ys.length) (h : (!xs[k].toList == ys[k].toList) = true) : eqS xs ys = false := by
  simp only [eqS, decide_eq_false_iff_not]; intro e; subst e; simp at h
theorem takeS_step {xs ys : List ByteArray} {k : Nat} (h1 : k < xs.length) (h2 : k < ys.length) (h : (!xs[k].toList == ys[k].toList) = false) (e : xs.take k = ys.take k) : xs.take (k + 1) = ys.take (k + 1) := by
  rw [List.take_succ_eq_append_getElem h1, List.take_succ_eq_append_getElem h2, e]
  have : xs[k].toList = ys[k].toList := by simpa using h
  rw [ByteArray.toList_eq, ByteArray.toList_eq] at this
  rw [Go.WideShapes.bytes_inj this]
theorem eqS_end {xs ys : List ByteArray} {k : Nat} (hk : ¬ k < xs.length) (hl : xs.length = ys.length) (e : xs.take k = ys.take k) : eqS xs ys = true := by
  rw [List.take_of_length_le (by omega), List.take_of_length_le (by omega)] at e
  simp [eqS, e]

theorem eqStringS_any (a b : Option Addr) (c d : Nat) (xs ys : List ByteArray) (w : World) (h : ReadsS w a xs) (g : ReadsS w b ys) (hl : xs.length ≤ 1048576 * 4) :
    Calls Tryd.prog 12 #[.slice a xs.length c, .slice b ys.length d] w fun e w' => e = .returned (.bool (eqS xs ys)) ∧ Below w.heap.size w w' := by
  by_cases he : xs.length = ys.length
  · have hne : ((xs.length : Int) != (ys.length : Int)) = false := by simp [he]
    have HE : Hid (xs.length = ys.length) := he
    clear he
    go_enter Tryd.func12, Tryd.ntmps12
    go_wp2
    go_loopw [5] (fun i wr => ∃ k : Nat, k ≤ xs.length ∧ i = .int .i64 k ∧ xs.take k = ys.take k ∧ Below w.heap.size w wr) (fun i _ => xs.length - (intOf i).toNat)
    case atStart => exact ⟨0, Nat.zero_le _, rfl, rfl, Below.refl _ _⟩
    case round =>
      obtain ⟨k, hk, rfl, heq, hbel⟩ := hrel
      have HQ : Hid (xs.take k = ys.take k) := heq
      clear heq
      by_cases hlt : k < xs.length
      · have hlt2 : k < ys.length := HE.out ▸ hlt
        obtain ⟨b1, o1, rfl, hb1, hc1⟩ := h.at hlt
        obtain ⟨b2, o2, rfl, hb2, hc2⟩ := g.at hlt2
        have hcx := (hbel.cell (p := ⟨b1, o1 + k, none⟩) hb1).trans (hc1 k hlt)
        have hcy := (hbel.cell (p := ⟨b2, o2 + k, none⟩) hb2).trans (hc2 k hlt2)
        go_wp2
        go_quiet (fail)
        go_wp2
        · go_ret
          exact ⟨ret_bool (eqS_at hlt hlt2 ‹_›).symm, below_drewN hbel _⟩
        · go_roundw
          case rel => exact ⟨k + 1, by omega, by go_num, takeS_step hlt hlt2 ‹_› HQ.out, below_drewN hbel _⟩
          case measure => simp [intOf]; omega
      · go_wp2
        go_ret
        exact ⟨ret_bool (eqS_end hlt HE.out HQ.out).symm, hbel⟩
  · have hne : ((xs.length : Int) != (ys.length : Int)) = true := by simp; omega
    go_enter Tryd.func12, Tryd.ntmps12
    go_wp2
    go_ret
    exact ⟨ret_bool (eqS_len he).symm, Below.refl _ _⟩

/-- The n marks from k on. -/
def marksS (k : Nat) : Nat → List ByteArray
  | 0 => []
  | n + 1 => marksS k n ++ [markB (k + n)]
theorem marksS_length (k n : Nat) : (marksS k n).length = n := by
  induction n with
  | zero => rfl
  | succ n ih => simp [marksS, ih]
theorem marksS_get (k n i : Nat) (h : i < n) : (marksS k n)[i]? = some (markB (k + i)) := by
  induction n with
  | zero => omega
  | succ n ih =>
    rw [marksS]
    by_cases e : i < n
    · rw [List.getElem?_append_left (by rw [marksS_length]; exact e)]; exact ih e
    · have : i = n := by omega
      subst this
      rw [List.getElem?_append_right (by rw [marksS_length]; exact Nat.le_refl _), marksS_length]; simp
theorem setS_step {k : Nat} {xs : List ByteArray} {j : Nat} (h : j < xs.length) : (marksS k j ++ xs.drop j).set j (markB (k + j)) = marksS k (j + 1) ++ xs.drop (j + 1) := by
  rw [List.set_append_right _ _ (by rw [marksS_length]; exact Nat.le_refl _), marksS_length, Nat.sub_self, List.drop_eq_getElem_cons h, List.set_cons_zero, marksS]
  simp
theorem stepS_length {k : Nat} {xs : List ByteArray} {j : Nat} (h : j ≤ xs.length) : xs.length = (marksS k j ++ xs.drop j).length := by
  rw [List.length_append, marksS_length, List.length_drop]; omega

theorem markStringS_any (base : Nat) (v : Value) (xs : List ByteArray) (k : Nat) (w : World) (h : OwnStrs w base 9 v xs) (hk : 1 ≤ k) (hk2 : k ≤ 1099511627776) (hl : xs.length ≤ 8388608) :
    Calls Tryd.prog 13 #[v, .int .i64 (k : Int)] w fun e w' => e = .returned (.int .i64 ((k : Int) + xs.length)) ∧ OwnStrs w' base 9 v (marksS k xs.length) ∧ w.grownBy w' v.ownBlock := by
  obtain ⟨a, cap, rfl, _, hg⟩ := h.shape
  go_enter Tryd.func13, Tryd.ntmps13
  go_wp2
  go_loopw [1, 5] (fun sk i wr => ∃ j : Nat, j ≤ xs.length ∧ i = .int .i64 j ∧ sk = .int .i64 ((k : Int) + j) ∧ OwnStrs wr base 9 (.slice a xs.length cap) (marksS k j ++ xs.drop j) ∧ w.grownBy wr (Value.ownBlock (.slice a xs.length cap))) (fun _ i _ => xs.length - (intOf i).toNat)
  case atStart => exact ⟨0, Nat.zero_le _, rfl, by simp, by simpa [marksS] using h, World.grownBy.refl _ _⟩
  case round =>
    obtain ⟨j, hj, rfl, rfl, hown, hgr⟩ := hrel
    by_cases hlt : j < xs.length
    · obtain ⟨g, rfl⟩ := hg (by intro e; simp [e] at hlt)
      clear hg
      have ek : ((k : Int) + (j : Int)) = ((k + j : Nat) : Int) := by omega
      rw [ek]
      clear ek
      go_wp2_with fail
      refine (markText_any (k + j) _ (by omega) (by omega)).mono ?_
      rintro e w1 ⟨rfl, hl1⟩
      have o1 := hown.below hl1
      have g1 := grownBy_trans hgr (grownBy_of_below hl1 _)
      obtain ⟨⟨u, hu⟩, hf⟩ := o1.at (stepS_length hj) j hlt
      have R := o1.store (stepS_length hj) j (markB (k + j))
      clear hown hgr
      go_wp2
      go_roundw
      case rel => exact ⟨j + 1, by omega, by go_num, by congr 1, by rw [← setS_step hlt]; exact R.1, grownBy_trans g1 R.2⟩
      case measure => simp [intOf]; omega
    · have e : j = xs.length := by omega
      go_wp2
      go_ret
      subst e
      exact ⟨rfl, by simpa using hown, hgr⟩

theorem heldStringS_any (a : Option Addr) (n c : Nat) (k : Nat) (w : World) (h : ReadsS w a (marksS k n)) (hk : 1 ≤ k) (hk2 : k ≤ 1099511627776) (hl : n ≤ 8388608) :
    Calls Tryd.prog 14 #[.slice a n c, .int .i64 (k : Int)] w fun e w' => e = .returned (.int .i64 ((k : Int) + n)) ∧ Below w.heap.size w w' := by
  go_enter Tryd.func14, Tryd.ntmps14
  go_wp2
  go_loopw [1, 5] (fun sk i wr => ∃ j : Nat, j ≤ n ∧ i = .int .i64 j ∧ sk = .int .i64 ((k : Int) + j) ∧ Below w.heap.size w wr) (fun _ i _ => n - (intOf i).toNat)
  case atStart => exact ⟨0, Nat.zero_le _, rfl, by simp, Below.refl _ _⟩
  case round =>
    obtain ⟨j, hj, rfl, rfl, hbel⟩ := hrel
    by_cases hlt : j < n
    · obtain ⟨b1, o1, rfl, hb1, hc1⟩ := h.at (i := j) (by rw [marksS_length]; exact hlt)
      have hcx : wr.cell? ⟨b1, o1 + j, none⟩ = some (.string (markB (k + j))) := by
        rw [hbel.cell (p := ⟨b1, o1 + j, none⟩) hb1, hc1 j (by rw [marksS_length]; exact hlt), List.getD_eq_getElem?_getD, marksS_get k n j hlt]; rfl
      have hb2 : b1 < wr.heap.size := Nat.lt_of_lt_of_le hb1 hbel.size
      have ek : ((k : Int) + (j : Int)) = ((k + j : Nat) : Int) := by omega
      rw [ek]
      clear ek h hc1
      have M : ∀ W : World, Calls Tryd.prog 20 #[.int .i64 ((k + j : Nat) : Int)] W fun e w' => e = .returned (.string (markB (k + j))) ∧ Below W.heap.size W w' := fun W => markText_any (k + j) W (by omega) (by omega)
      have HM : Hid (∀ W : World, Calls Tryd.prog 20 #[.int .i64 ((k + j : Nat) : Int)] W fun e w' => e = .returned (.string (markB (k + j))) ∧ Below W.heap.size W w') := M
      clear M
      go_wp2
      go_region_with (go_at_call 20; refine (HM.out _).mono ?_; rintro e w1 ⟨rfl, hl1⟩; have hcx1 := (hl1.cell (p := ⟨b1, o1 + j, none⟩) hb2).trans hcx)
      all_goals
        go_wp2
        go_roundw
        case rel => exact ⟨j + 1, by omega, by go_num, by congr 1, hbel.drew.trans (hl1.mono hbel.size)⟩
        case measure => simp [intOf]; omega
    · have e : j = n := by omega
      go_wp2
      go_ret
      subst e
      exact ⟨rfl, hbel⟩

theorem eqStringS_own (b1 b2 : Nat) (u v : Value) (xs ys : List ByteArray) (w : World) (h : OwnStrs w b1 9 u xs) (g : OwnStrs w b2 9 v ys) (hl : xs.length ≤ 1048576 * 4) :
    Calls Tryd.prog 12 #[u, v] w fun e w' => e = .returned (.bool (eqS xs ys)) ∧ Below w.heap.size w w' := by
  obtain ⟨a, c, rfl, hr, _⟩ := h.shape
  obtain ⟨a2, c2, rfl, gr, _⟩ := g.shape
  exact eqStringS_any a a2 c c2 xs ys w hr gr hl

theorem heldStringS_own (base n : Nat) (v : Value) (k : Nat) (w : World) (h : OwnStrs w base 9 v (marksS k n)) (hk : 1 ≤ k) (hk2 : k ≤ 1099511627776) (hl : n ≤ 8388608) :
    Calls Tryd.prog 14 #[v, .int .i64 (k : Int)] w fun e w' => e = .returned (.int .i64 ((k : Int) + n)) ∧ Below w.heap.size w w' := by
  obtain ⟨a, c, rfl, hr, _⟩ := h.shape
  rw [marksS_length]
  exact heldStringS_any a n c k w hr hk hk2 hl
end Go.Proofs.YtkbnafmkgiknbaaDoor
