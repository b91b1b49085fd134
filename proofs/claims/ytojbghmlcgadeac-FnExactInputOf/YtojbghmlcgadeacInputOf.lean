/-
  Contracts of the two InputOf (the program's and the specification's) over this translation. No statement is proved here.
-/
import Derived.Test.YtojbghmlcgadeacInputOk
import Derived.Test.YtojbghmlcgadeacHIntS
namespace Go.Proofs.Ytojbghmlcgadeac
open Go.RowKit

/-- The numbers of the bytes of a text. -/
def ordL (s : ByteArray) : List Int := s.data.toList.map (fun b => (b.toNat : Int) - 97)
theorem ordL_length (s : ByteArray) : (ordL s).length = s.size := by unfold ordL; rw [List.length_map, Array.length_toList]; rfl
theorem ordL_step {s : ByteArray} {k : Nat} (h : k < s.size) : (ordL s).take k ++ [((s[k]).toNat : Int) - 97] = (ordL s).take (k + 1) := by
  rw [List.take_succ_eq_append_getElem (by rw [ordL_length]; exact h)]
  congr 1
  simp only [ordL, List.getElem_map, Array.getElem_toList]
  rfl
theorem ordL_fit (s : ByteArray) (h : s.size ≤ 1048576) : (Lay.list Lay.int).fit (ordL s) := by
  refine ⟨by rw [ordL_length]; unfold maxLen; omega, fun z hz => ?_⟩
  simp only [ordL, List.mem_map] at hz
  obtain ⟨b, _, rfl⟩ := hz
  have := b.toNat_lt
  have h : (Lit.int .i64 ((b.toNat : Int) - 97)).wf = true := WalkArith.wf_i64 (by omega)
  exact h
/-- What InputOf answers. -/
def resInputOf (s : ByteArray) : List Int := if inputOkB (ordL s) = true then ordL s else []
def okInputOf (s : ByteArray) : Bool := inputOkB (ordL s)
theorem resInputOf_le (s : ByteArray) (_ : s.size ≤ 1048576) : (Lay.list Lay.int).wt (resInputOf s) ≤ 2097152 := by
  rw [Lay.wt_ints]
  unfold resInputOf
  split
  · have := inputOkB_len ‹_›; omega
  · simp

theorem ret2b {v : Value} {b c : Bool} (h : b = c) : Ending.returned (.tuple #[v, .bool b]) = .returned (.tuple #[v, .bool c]) := by rw [h]
theorem OwnInts.nilO (w : World) (base : Nat) (e : TypeId) : OwnInts w base e (.slice none 0 0) [] := World.ownsRow_nil w base e 1

set_option maxRecDepth 100000 in
theorem specInputOf_any (s : ByteArray) (w : World) (hs : s.size ≤ 1048576) :
    Calls Try.prog 4 #[.string s] w fun e w' => ∃ v S, e = .returned (.tuple #[v, .bool (okInputOf s)]) ∧ OD w' w.heap.size v (slD Lay.int (resInputOf s)) S ∧ Below w.heap.size w w' := by
  go_enter Try.func4, Try.ntmps4
  go_wp2
  go_loopw [4, 5] (fun v i wr => ∃ k : Nat, k ≤ s.size ∧ i = .int .i64 k ∧ OwnInts wr w.heap.size 3 v ((ordL s).take k) ∧ Below w.heap.size w wr) (fun _ i _ => s.size - (intOf i).toNat)
  case atStart => exact ⟨0, Nat.zero_le _, rfl, OwnInts.empty (Nat.le_refl _), (Below.refl _ _).alloc (Nat.le_refl _) _⟩
  case round =>
    obtain ⟨k, hk, rfl, hown, hbel⟩ := hrel
    have hsz := hbel.size
    by_cases hlt : k < s.size
    · have HS : Hid ((ordL s).take k ++ [((s[k]).toNat : Int) - 97] = (ordL s).take (k + 1)) := ordL_step hlt
      have hl : ((ordL s).take k).length ≤ 1048576 := by rw [List.length_take]; omega
      have hb := (s[k]).toNat_lt
      generalize (ordL s).take k = T at *
      go_wp2_with (at_builtin; refine wpList_append_ints _ rfl (.tmp 13) (.tmp 19) 22 rfl w.heap.size 3 Try.underlying22 Try.infoInt _ T rfl (hown.alloc _) (some ⟨wr.heap.size, 0, none⟩) 1 1 [((s[k]).toNat : Int) - 97] rfl rfl (Reads.new _ _ _) (by simp; omega) (by simp; omega) ?_; intro v' w2 hown2 hg2)
      go_roundw
      case rel => exact ⟨k + 1, by omega, by go_num, HS.out ▸ hown2, (hbel.alloc hsz _).grown hg2 (by simp; omega) (fun j hj => (hown.block j hj).1)⟩
      case measure => simp [intOf]; omega
    · have HE : Hid ((ordL s).take k = ordL s) := by show _ = _; rw [List.take_of_length_le (by rw [ordL_length]; omega)]
      rw [HE.out] at hown
      obtain ⟨a, c, rfl, _⟩ := hown.shape
      have X := specInputOk_any (ordL s) a c wr hown.od.rd (by rw [ordL_length]; omega) (ordL_fit s hs)
      unfold resInputOk at X
      have O := hown.od
      clear hown HE
      by_cases hok : inputOkB (ordL s) = true
      · have HR : Hid (okInputOf s = true ∧ resInputOf s = ordL s) := ⟨hok, if_pos hok⟩
        rw [hok] at X
        generalize ordL s = T at *
        go_wp2_with (go_at_call 9; refine X.mono ?_; rintro e w1 ⟨rfl, hb1⟩)
        go_ret2
        exact ⟨_, _, ret2b HR.out.1.symm, by rw [HR.out.2]; exact O.later hb1, hbel.trans (hb1.mono hsz)⟩
      · have hok2 : inputOkB (ordL s) = false := by simpa using hok
        have HR : Hid (okInputOf s = false ∧ resInputOf s = []) := ⟨hok2, if_neg hok⟩
        rw [hok2] at X
        generalize ordL s = T at *
        go_wp2_with (go_at_call 9; refine X.mono ?_; rintro e w1 ⟨rfl, hb1⟩)
        go_ret2
        have B2 := hbel.trans (hb1.mono hsz)
        exact ⟨_, _, ret2b HR.out.1.symm, by rw [HR.out.2]; exact (OwnInts.empty (e := 3) B2.size).od, B2.alloc B2.size _⟩
set_option maxRecDepth 100000 in
theorem inputOf_any (s : ByteArray) (w : World) (hs : s.size ≤ 1048576) :
    Calls Try.prog 5 #[.string s] w fun e w' => ∃ v S, e = .returned (.tuple #[v, .bool (okInputOf s)]) ∧ OD w' w.heap.size v (slD Lay.int (resInputOf s)) S ∧ Below w.heap.size w w' := by
  by_cases hlong : 10 < s.size
  · have hok2 : inputOkB (ordL s) = false := inputOkB_long (by rw [ordL_length]; omega)
    have HR : Hid (okInputOf s = false ∧ resInputOf s = []) := ⟨hok2, by unfold resInputOf; rw [hok2]; rfl⟩
    go_enter Try.func5, Try.ntmps5
    go_wp2
    go_ret2
    exact ⟨_, _, ret2b HR.out.1.symm, by rw [HR.out.2]; exact (OwnInts.nilO w w.heap.size 3).od, Below.refl _ _⟩
  have hs10 : ¬ (10 : Int) < (s.size : Int) := by omega
  go_enter Try.func5, Try.ntmps5
  go_wp2
  go_loopw [4, 11] (fun v i wr => ∃ k : Nat, k ≤ s.size ∧ i = .int .i64 k ∧ OwnInts wr w.heap.size 3 v ((ordL s).take k) ∧ Below w.heap.size w wr) (fun _ i _ => s.size - (intOf i).toNat)
  case atStart => exact ⟨0, Nat.zero_le _, rfl, OwnInts.nilO _ _ _, Below.refl _ _⟩
  case round =>
    obtain ⟨k, hk, rfl, hown, hbel⟩ := hrel
    have hsz := hbel.size
    by_cases hlt : k < s.size
    · have HS : Hid ((ordL s).take k ++ [((s[k]).toNat : Int) - 97] = (ordL s).take (k + 1)) := ordL_step hlt
      have hl : ((ordL s).take k).length ≤ 1048576 := by rw [List.length_take]; omega
      have hb := (s[k]).toNat_lt
      generalize (ordL s).take k = T at *
      go_wp2_with (at_builtin; refine wpList_append_ints _ rfl (.tmp 14) (.tmp 20) 22 rfl w.heap.size 3 Try.underlying22 Try.infoInt _ T rfl (hown.alloc _) (some ⟨wr.heap.size, 0, none⟩) 1 1 [((s[k]).toNat : Int) - 97] rfl rfl (Reads.new _ _ _) (by simp; omega) (by simp; omega) ?_; intro v' w2 hown2 hg2)
      go_roundw
      case rel => exact ⟨k + 1, by omega, by go_num, HS.out ▸ hown2, (hbel.alloc hsz _).grown hg2 (by simp; omega) (fun j hj => (hown.block j hj).1)⟩
      case measure => simp [intOf]; omega
    · have HE : Hid ((ordL s).take k = ordL s) := by show _ = _; rw [List.take_of_length_le (by rw [ordL_length]; omega)]
      rw [HE.out] at hown
      obtain ⟨a, c, rfl, _⟩ := hown.shape
      have X := inputOk_any (ordL s) a c wr hown.od.rd (by rw [ordL_length]; omega) (ordL_fit s hs)
      unfold resInputOk at X
      have O := hown.od
      clear hown HE
      by_cases hok : inputOkB (ordL s) = true
      · have HR : Hid (okInputOf s = true ∧ resInputOf s = ordL s) := ⟨hok, if_pos hok⟩
        rw [hok] at X
        generalize ordL s = T at *
        go_wp2_with (go_at_call 10; refine X.mono ?_; rintro e w1 ⟨rfl, hb1⟩)
        go_ret2
        exact ⟨_, _, ret2b HR.out.1.symm, by rw [HR.out.2]; exact O.later hb1, hbel.trans (hb1.mono hsz)⟩
      · have hok2 : inputOkB (ordL s) = false := by simpa using hok
        have HR : Hid (okInputOf s = false ∧ resInputOf s = []) := ⟨hok2, if_neg hok⟩
        rw [hok2] at X
        generalize ordL s = T at *
        go_wp2_with (go_at_call 10; refine X.mono ?_; rintro e w1 ⟨rfl, hb1⟩)
        go_ret2
        exact ⟨_, _, ret2b HR.out.1.symm, by rw [HR.out.2]; exact (OwnInts.nilO w1 w.heap.size 3).od, hbel.trans (hb1.mono hsz)⟩
end Go.Proofs.Ytojbghmlcgadeac
