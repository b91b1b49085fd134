/-
  Contracts of the law package's markSlotS and heldSlotS over this translation. No statement is proved here.
-/
import Derived.Test.YthnppodnjokaoabHSlotS
import Derived.Test.YthnppodnjokaoabCellsLib
namespace Go.Proofs.Ythnppodnjokaoab
open Go.RowKit

def cntSlot (_ : Sl) : Nat := 2
def mkSlot (k : Nat) (_ : Sl) : Sl := ⟨(k : Int), ((k + 1 : Nat) : Int)⟩
def cntSlotS : List Sl → Nat := cntL cntSlot
def mkSlotS : Nat → List Sl → List Sl := mkL cntSlot mkSlot
theorem cntSlot_le (x : Sl) : cntSlot x ≤ 3 * (Lay.slot.wt x + 1) := by unfold cntSlot; omega
theorem cntSlotS_le (xs : List Sl) : cntSlotS xs ≤ 3 * (Lay.list Lay.slot).wt xs := by
  rw [Lay.wt_list]
  unfold cntSlotS
  induction xs with
  | nil => simp [cntL]
  | cons x xs ih => have := cntSlot_le x; simp only [cntL, List.length_cons, Lay.sumL]; omega
theorem cntSlotS_room {xs : List Sl} {j k M : Nat} (hlt : j < xs.length) (hk : k + 3 * (xs.length + Lay.slot.sumL xs) ≤ M) : k + cntSlotS (xs.take j) + 3 * (Lay.slot.wt xs[j] + 1) ≤ M := by
  have h1 := cntSlotS_le (xs.take j)
  rw [Lay.wt_list, List.length_take] at h1
  have h2 := Lay.sumL_take Lay.slot hlt
  have h3 := Lay.sumL_take_le Lay.slot xs (j + 1)
  have h4 : min j xs.length = j := by omega
  rw [h4] at h1
  omega
theorem OD.markSlot {w : World} {base g n c : Nat} {M : List Sl} {S : Nat → Prop} (h : OD w base (.slice (some ⟨g, 0, none⟩) n c) (slD Lay.slot M) S) {i : Nat} (hi : i < M.length) (v0 v1 : Int) :
    ((∃ z, w.cell? ⟨g, i * 2, none⟩ = some z) ∧ w.frozen? ⟨g, i * 2, none⟩ = false) ∧ ((∃ z, (w.setCell ⟨g, i * 2, none⟩ (.int .i64 v0)).cell? ⟨g, i * 2 + 1, none⟩ = some z) ∧ (w.setCell ⟨g, i * 2, none⟩ (.int .i64 v0)).frozen? ⟨g, i * 2 + 1, none⟩ = false) ∧ OD ((w.setCell ⟨g, i * 2, none⟩ (.int .i64 v0)).setCell ⟨g, i * 2 + 1, none⟩ (.int .i64 v1)) base (.slice (some ⟨g, 0, none⟩) n c) (slD Lay.slot (M.set i ⟨v0, v1⟩)) S ∧ Within w ((w.setCell ⟨g, i * 2, none⟩ (.int .i64 v0)).setCell ⟨g, i * 2 + 1, none⟩ (.int .i64 v1)) S := by
  obtain ⟨O1, W1, z0, f0⟩ := OD.elemStore Lay.slot.len h hi (j := 0) (by decide) (.int .i64 M[i].sym) (.int .i64 v0) (by simp [Lay.slot]) (by simp [Lay.slot]) ⟨v0, M[i].up⟩ (by simp [Lay.slot])
  rw [show i * Lay.slot.sz + 0 = i * 2 from rfl] at O1 W1 z0 f0
  have i1 : i < (M.set i ⟨v0, M[i].up⟩).length := by simpa using hi
  obtain ⟨O2, W2, z1, f1⟩ := OD.elemStore Lay.slot.len O1 i1 (j := 1) (by decide) (.int .i64 M[i].up) (.int .i64 v1) (by simp [Lay.slot]) (by simp [Lay.slot]) ⟨v0, v1⟩ (by simp [Lay.slot])
  rw [show i * Lay.slot.sz + 1 = i * 2 + 1 from rfl] at O2 W2 z1 f1
  rw [List.set_set] at O2
  have i2 : i < (M.set i ⟨v0, v1⟩).length := by simpa using hi
  have WW := (W1.trans W2)
  exact ⟨⟨z0, f0⟩, ⟨z1, f1⟩, O2, WW⟩

theorem mkSlot_eq (m : Nat) (x : Sl) : mkSlot m x = ⟨(m : Int), (m : Int) + 1⟩ := by
  unfold mkSlot
  congr 1
theorem cntSlotS_eq (xs : List Sl) : cntSlotS xs = 2 * xs.length := by
  unfold cntSlotS
  induction xs with
  | nil => rfl
  | cons x xs ih => rw [cntL, ih, List.length_cons]; unfold cntSlot; omega

set_option maxRecDepth 100000 in
theorem markSlotS_l (xs : List Sl) (base : Nat) (v : Value) (S : Nat → Prop) (k : Nat) (w : World) (h : OD w base v (slD Lay.slot xs) S) (hk : k + 3 * (Lay.list Lay.slot).wt xs ≤ 8388608) :
    Calls Try.prog 17 #[v, .int .i64 (k : Int)] w fun e w' => e = .returned (.int .i64 ((k + cntSlotS xs : Nat) : Int)) ∧ OD w' base v (slD Lay.slot (mkSlotS k xs)) S ∧ Within w w' S := by
  rw [Lay.wt_list] at hk
  have hlen : xs.length ≤ 8388608 := by omega
  obtain ⟨a, c, rfl, hg⟩ := OD.shapeL h
  go_enter Try.func17, Try.ntmps17
  go_wp2
  go_loopw [1, 5] (fun sk i wr => ∃ j : Nat, j ≤ xs.length ∧ i = .int .i64 j ∧ sk = .int .i64 ((k + cntSlotS (xs.take j) : Nat) : Int) ∧ Hid (OD wr base (.slice a xs.length c) (slD Lay.slot (mkSlotS k (xs.take j) ++ xs.drop j)) S ∧ Within w wr S)) (fun _ i _ => xs.length - (intOf i).toNat)
  case atStart => exact ⟨0, Nat.zero_le _, rfl, by simp [cntSlotS, cntL], by simpa [mkSlotS, mkL] using h, Within.refl _ _⟩
  case round =>
    obtain ⟨j, hj, rfl, rfl, HO⟩ := hrel
    by_cases hlt : j < xs.length
    · obtain ⟨g, rfl⟩ := hg (by intro e; simp [e] at hlt)
      have hjL : j < (mkSlotS k (xs.take j) ++ xs.drop j).length := by rw [mkSlotS, mid_length _ _ hj]; exact hlt
      have HS : Hid ((mkSlotS k (xs.take j) ++ xs.drop j).set j (mkSlot (k + cntSlotS (xs.take j)) xs[j]) = mkSlotS k (xs.take (j + 1)) ++ xs.drop (j + 1)) := mid_set cntSlot mkSlot hlt
      have HN : Hid (k + cntSlotS (xs.take (j + 1)) = k + cntSlotS (xs.take j) + 2) := by show _ = _; unfold cntSlotS; rw [cntL_take _ hlt]; unfold cntSlot; omega
      have hle := cntSlotS_room hlt hk
      have HL := HO.out.1
      have HW := HO.out.2
      generalize mkSlotS k (xs.take j) ++ xs.drop j = M at *
      generalize k + cntSlotS (xs.take j) = m at *
      obtain ⟨⟨⟨z0, d0⟩, e0⟩, ⟨⟨z1, d1⟩, e1⟩, O1, W1⟩ := HL.markSlot hjL ((m : Int)) ((m : Int) + 1)
      rw [← mkSlot_eq m xs[j], HS.out] at O1
      have HE := hid (And.intro O1 (HW.trans W1))
      clear hg h HO HS hjL HL HW O1 W1 hk
      generalize Lay.slot.wt xs[j] = wk at *
      have hgl : g < wr.heap.size := World.block_lt_of_cell? wr _ d0
      go_wp2
      go_roundw
      case rel => exact ⟨j + 1, by omega, by go_num, by rw [HN.out]; go_num, HE⟩
      case measure => simp [intOf]; omega
    · have e : j = xs.length := by omega
      subst e
      have HE : Hid (OD wr base (.slice a xs.length c) (slD Lay.slot (mkSlotS k xs)) S ∧ Within w wr S) := by show _ ∧ _; simpa using HO.out
      have HC : Hid (cntSlotS (xs.take xs.length) = cntSlotS xs) := by show _ = _; rw [List.take_length]
      clear HO
      generalize cntSlotS (xs.take xs.length) = m at *
      go_wp2
      go_ret
      exact ⟨ret_int (by rw [HC.out]), HE.out⟩

set_option maxRecDepth 100000 in
theorem heldSlotS_l (xs : List Sl) (a : Option Addr) (n c : Nat) (k : Nat) (w : World) (h : RD w (.slice a n c) (slD Lay.slot (mkSlotS k xs))) (hk : k + 3 * (Lay.list Lay.slot).wt xs ≤ 8388608) :
    Calls Try.prog 20 #[.slice a n c, .int .i64 (k : Int)] w fun e w' => e = .returned (.int .i64 ((k + cntSlotS xs : Nat) : Int)) ∧ Below w.heap.size w w' := by
  rw [Lay.wt_list] at hk
  have e := h.lenL
  have hml : (mkSlotS k xs).length = xs.length := by rw [mkSlotS, mkL_length]
  rw [hml] at e
  subst e
  go_enter Try.func20, Try.ntmps20
  go_wp2
  go_loopw [1, 5] (fun sk i wr => ∃ j : Nat, j ≤ xs.length ∧ i = .int .i64 j ∧ sk = .int .i64 ((k + cntSlotS (xs.take j) : Nat) : Int) ∧ Below w.heap.size w wr) (fun _ i _ => xs.length - (intOf i).toNat)
  case atStart => exact ⟨0, Nat.zero_le _, rfl, by simp [cntSlotS, cntL], Below.refl _ _⟩
  case round =>
    obtain ⟨j, hj, rfl, rfl, hbel⟩ := hrel
    by_cases hlt : j < xs.length
    · have hjL : j < (mkSlotS k xs).length := by rw [hml]; exact hlt
      have HX : (mkSlotS k xs)[j] = mkSlot (k + cntSlotS (xs.take j)) xs[j] := mkL_get cntSlot mkSlot hlt hjL
      obtain ⟨b1, o1, rfl, hb1, ⟨q0, q1⟩⟩ := (h.later hbel).atSlot hjL
      rw [HX, mkSlot_eq] at q0 q1
      simp only at q0 q1
      have HN : Hid (k + cntSlotS (xs.take (j + 1)) = k + cntSlotS (xs.take j) + 2) := by show _ = _; unfold cntSlotS; rw [cntL_take _ hlt]; unfold cntSlot; omega
      have hle := cntSlotS_room hlt hk
      clear h HX hjL
      generalize Lay.slot.wt xs[j] = wk at *
      generalize k + cntSlotS (xs.take j) = m at *
      go_wp2
      go_roundw
      case rel => exact ⟨j + 1, by omega, by go_num, by rw [HN.out]; go_num, hbel⟩
      case measure => simp [intOf]; omega
    · have e : j = xs.length := by omega
      subst e
      have HC : Hid (cntSlotS (xs.take xs.length) = cntSlotS xs) := by show _ = _; rw [List.take_length]
      clear h
      generalize cntSlotS (xs.take xs.length) = m at *
      go_wp2
      go_ret
      exact ⟨ret_int (by rw [HC.out]), hbel⟩

end Go.Proofs.Ythnppodnjokaoab
