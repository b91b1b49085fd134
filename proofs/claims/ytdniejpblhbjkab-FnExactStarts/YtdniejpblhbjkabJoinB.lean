/-
  A contract of (*flags).join over this translation. No statement is proved here.
-/
import Derived.Test.YtdniejpblhbjkabFlagT
namespace Go.Proofs.Ytdniejpblhbjkab
open Go.RowKit

/-- The first k flags of cs are put to those of bs from off on. -/
def joinTo (bs : List Bool) (off : Nat) (cs : List Bool) : Nat → List Bool
  | 0 => bs
  | k + 1 => (joinTo bs off cs k).set (off + k) ((joinTo bs off cs k).getD (off + k) false || cs.getD k false)
def joinB (bs : List Bool) (off : Nat) (cs : List Bool) : List Bool := joinTo bs off cs 27
theorem joinTo_length (bs : List Bool) (off : Nat) (cs : List Bool) (k : Nat) : (joinTo bs off cs k).length = bs.length := by
  induction k with
  | zero => rfl
  | succ k ih => rw [joinTo, List.length_set]; exact ih
theorem joinB_length (bs : List Bool) (off : Nat) (cs : List Bool) : (joinB bs off cs).length = bs.length := joinTo_length _ _ _ _
theorem joinTo_get (bs : List Bool) (off : Nat) (cs : List Bool) (k : Nat) (h : off + k ≤ bs.length) (i : Nat) : (joinTo bs off cs k).getD i false = (bs.getD i false || (decide (off ≤ i ∧ i < off + k) && cs.getD (i - off) false)) := by
  induction k with
  | zero => simp [joinTo]; omega
  | succ k ih =>
    have ih := ih (by omega)
    rw [joinTo]
    by_cases e : i = off + k
    · subst e
      have hl : off + k < (joinTo bs off cs k).length := by rw [joinTo_length]; omega
      have e1 : ((joinTo bs off cs k).set (off + k) ((joinTo bs off cs k).getD (off + k) false || cs.getD k false)).getD (off + k) false = ((joinTo bs off cs k).getD (off + k) false || cs.getD k false) := by
        generalize ((joinTo bs off cs k).getD (off + k) false || cs.getD k false) = v
        simp [List.getD, hl]
      rw [e1, ih, show off + k - off = k by omega]
      simp
    · have e1 : ∀ v, ((joinTo bs off cs k).set (off + k) v).getD i false = (joinTo bs off cs k).getD i false := by
        intro v
        simp [List.getD, Ne.symm e]
      rw [e1, ih]
      congr 2
      rw [Bool.eq_iff_iff]; simp; omega
theorem joinB_get {bs : List Bool} {off : Nat} {cs : List Bool} (h : off + 27 ≤ bs.length) (i : Nat) : (joinB bs off cs).getD i false = (bs.getD i false || (decide (off ≤ i ∧ i < off + 27) && cs.getD (i - off) false)) := joinTo_get bs off cs 27 h i

set_option maxHeartbeats 2000000 in
set_option maxRecDepth 100000 in
theorem join_any (b off : Nat) (t : TypeId) (bs cs : List Bool) (w : World) (hB : Bits w b t bs) (hl : off + 27 ≤ bs.length) (hc : cs.length = 27) :
    Calls Try.prog 57 #[.pointer (some ⟨b, off, none⟩), aggB cs] w fun e w' => e = .returned (.tuple #[]) ∧ Bits w' b t (joinB bs off cs) ∧ w.grownBy w' (some b) := by
  go_enter Try.func57, Try.ntmps57
  go_wp2_with (first | (refine wpList_boxB rfl 47 _ rfl cs rfl ?_; intro w1 hB1 hb1 hs1) | (refine wpList_loadW rfl 47 _ rfl w.heap.size 47 cs rfl (by rw [hc]; exact bt_flags) hB1 ?_))
  have HB0 : Hid (Bits w1 b t (joinTo bs off cs 0)) := hB.later hb1
  have HG0 : Hid (w.grownBy w1 (some b)) := grownBy_of_below hb1 _
  have HL : Hid (off + 27 ≤ bs.length) := hl
  clear hB hB1 hb1 hs1 hl
  go_loopw [7] (fun s7 wr => ∃ k : Nat, k ≤ 27 ∧ s7 = .int .i64 k ∧ Bits wr b t (joinTo bs off cs k) ∧ w.grownBy wr (some b)) (fun s7 _ => 27 - (intOf s7).toNat)
  case atStart => exact ⟨0, Nat.zero_le _, rfl, HB0.out, HG0.out⟩
  case round =>
    obtain ⟨k, hk, rfl, hBk, hgk⟩ := hrel
    clear HB0 HG0
    by_cases hlt : k < 27
    · have q0 := hBk.cell (n := off + k) (by rw [joinTo_length]; have := HL.out; omega)
      have f0 := hBk.frozen (off + k)
      have hk0 : (0 : Int) ≤ (k : Int) := by omega
      have hk1 : (k : Int) < 27 := by omega
      have HN : Hid (joinTo bs off cs (k + 1) = (joinTo bs off cs k).set (off + k) ((joinTo bs off cs k).getD (off + k) false || cs.getD k false)) := rfl
      have HC : Hid (cs.length = 27) := hc
      have HB : Hid (Bits wr b t (joinTo bs off cs k)) := hBk
      generalize joinTo bs off cs k = Tk at *
      generalize Tk.getD (off + k) false = x at *
      clear hc hBk
      obtain ⟨y, Hy⟩ : ∃ y, Hid (cs.getD k false = y) := ⟨_, rfl⟩
      rw [Hy.out] at HN
      go_wp2_with (refine wpList_indexB rfl 47 4 _ _ rfl cs k rfl rfl (by rw [HC.out]; exact u_flags) u_bool bool_size (by rw [HC.out]; exact hlt) ?_; rw [Hy.out])
      have key : ∀ (v : Bool) (W : World), (x || y) = v → Below wr.heap.size (wr.setCell ⟨b, off + k, none⟩ (.bool v)) W → Bits W b t (joinTo bs off cs (k + 1)) ∧ w.grownBy W (some b) := by
        intro v W hv hW
        rw [HN.out, hv]
        have hlt2 := HB.out.lt
        exact ⟨(HB.out.set (off + k) v).below hW hlt2, grownBy_trans (grownBy_trans hgk (setCell_grown wr b (off + k) _)) (grownBy_of_below (by simpa using hW) _)⟩
      have HK : Hid (∀ (v : Bool) (W : World), (x || y) = v → Below wr.heap.size (wr.setCell ⟨b, off + k, none⟩ (.bool v)) W → Bits W b t (joinTo bs off cs (k + 1)) ∧ w.grownBy W (some b)) := key
      clear key HN Hy HB
      cases x
      · have HK1 : Hid (∀ W : World, Below wr.heap.size (wr.setCell ⟨b, off + k, none⟩ (.bool y)) W → Bits W b t (joinTo bs off cs (k + 1)) ∧ w.grownBy W (some b)) := fun W hW => HK.out y W (by simp) hW
        clear HK
        go_region
        all_goals
          go_wp2
          go_roundw
          case rel => exact ⟨k + 1, by omega, by go_num, (HK1.out _ (by first | exact Below.refl _ _ | exact Below.drew (Below.refl _ _))).1, (HK1.out _ (by first | exact Below.refl _ _ | exact Below.drew (Below.refl _ _))).2⟩
          case measure => simp [intOf]; omega
      · have HK1 : Hid (∀ W : World, Below wr.heap.size (wr.setCell ⟨b, off + k, none⟩ (.bool true)) W → Bits W b t (joinTo bs off cs (k + 1)) ∧ w.grownBy W (some b)) := fun W hW => HK.out true W (by simp) hW
        clear HK
        go_region
        all_goals
          go_wp2
          go_roundw
          case rel => exact ⟨k + 1, by omega, by go_num, (HK1.out _ (by first | exact Below.refl _ _ | exact Below.drew (Below.refl _ _))).1, (HK1.out _ (by first | exact Below.refl _ _ | exact Below.drew (Below.refl _ _))).2⟩
          case measure => simp [intOf]; omega
    · have e : k = 27 := by omega
      subst e
      go_wp2
      go_end0
      exact ⟨rfl, hBk, hgk⟩
end Go.Proofs.Ytdniejpblhbjkab
