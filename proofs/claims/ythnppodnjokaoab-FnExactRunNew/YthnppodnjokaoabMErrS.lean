/-
  Contracts of the law package's markErrS and heldErrS over this translation. No statement is proved here.
-/
import Derived.Test.YthnppodnjokaoabHErrS
import Derived.Test.YthnppodnjokaoabCellsLib
namespace Go.Proofs.Ythnppodnjokaoab
open Go.RowKit

def cntErr (_ : Er) : Nat := 3
def mkErr (k : Nat) (_ : Er) : Er := ⟨(k : Int), ((k + 1 : Nat) : Int), ((k + 2 : Nat) : Int)⟩
def cntErrS : List Er → Nat := cntL cntErr
def mkErrS : Nat → List Er → List Er := mkL cntErr mkErr
theorem cntErr_le (x : Er) : cntErr x ≤ 4 * (Lay.err.wt x + 1) := by unfold cntErr; omega
theorem cntErrS_le (xs : List Er) : cntErrS xs ≤ 4 * (Lay.list Lay.err).wt xs := by
  rw [Lay.wt_list]
  unfold cntErrS
  induction xs with
  | nil => simp [cntL]
  | cons x xs ih => have := cntErr_le x; simp only [cntL, List.length_cons, Lay.sumL]; omega
theorem cntErrS_room {xs : List Er} {j k M : Nat} (hlt : j < xs.length) (hk : k + 4 * (xs.length + Lay.err.sumL xs) ≤ M) : k + cntErrS (xs.take j) + 4 * (Lay.err.wt xs[j] + 1) ≤ M := by
  have h1 := cntErrS_le (xs.take j)
  rw [Lay.wt_list, List.length_take] at h1
  have h2 := Lay.sumL_take Lay.err hlt
  have h3 := Lay.sumL_take_le Lay.err xs (j + 1)
  have h4 : min j xs.length = j := by omega
  rw [h4] at h1
  omega
theorem OD.markErr {w : World} {base g n c : Nat} {M : List Er} {S : Nat → Prop} (h : OD w base (.slice (some ⟨g, 0, none⟩) n c) (slD Lay.err M) S) {i : Nat} (hi : i < M.length) (v0 v1 v2 : Int) :
    ((∃ z, w.cell? ⟨g, i * 3, none⟩ = some z) ∧ w.frozen? ⟨g, i * 3, none⟩ = false) ∧ ((∃ z, (w.setCell ⟨g, i * 3, none⟩ (.int .i64 v0)).cell? ⟨g, i * 3 + 1, none⟩ = some z) ∧ (w.setCell ⟨g, i * 3, none⟩ (.int .i64 v0)).frozen? ⟨g, i * 3 + 1, none⟩ = false) ∧ ((∃ z, ((w.setCell ⟨g, i * 3, none⟩ (.int .i64 v0)).setCell ⟨g, i * 3 + 1, none⟩ (.int .i64 v1)).cell? ⟨g, i * 3 + 2, none⟩ = some z) ∧ ((w.setCell ⟨g, i * 3, none⟩ (.int .i64 v0)).setCell ⟨g, i * 3 + 1, none⟩ (.int .i64 v1)).frozen? ⟨g, i * 3 + 2, none⟩ = false) ∧ OD (((w.setCell ⟨g, i * 3, none⟩ (.int .i64 v0)).setCell ⟨g, i * 3 + 1, none⟩ (.int .i64 v1)).setCell ⟨g, i * 3 + 2, none⟩ (.int .i64 v2)) base (.slice (some ⟨g, 0, none⟩) n c) (slD Lay.err (M.set i ⟨v0, v1, v2⟩)) S ∧ Within w (((w.setCell ⟨g, i * 3, none⟩ (.int .i64 v0)).setCell ⟨g, i * 3 + 1, none⟩ (.int .i64 v1)).setCell ⟨g, i * 3 + 2, none⟩ (.int .i64 v2)) S := by
  obtain ⟨O1, W1, z0, f0⟩ := OD.elemStore Lay.err.len h hi (j := 0) (by decide) (.int .i64 M[i].kind) (.int .i64 v0) (by simp [Lay.err]) (by simp [Lay.err]) ⟨v0, M[i].pl, M[i].sym⟩ (by simp [Lay.err])
  rw [show i * Lay.err.sz + 0 = i * 3 from rfl] at O1 W1 z0 f0
  have i1 : i < (M.set i ⟨v0, M[i].pl, M[i].sym⟩).length := by simpa using hi
  obtain ⟨O2, W2, z1, f1⟩ := OD.elemStore Lay.err.len O1 i1 (j := 1) (by decide) (.int .i64 M[i].pl) (.int .i64 v1) (by simp [Lay.err]) (by simp [Lay.err]) ⟨v0, v1, M[i].sym⟩ (by simp [Lay.err])
  rw [show i * Lay.err.sz + 1 = i * 3 + 1 from rfl] at O2 W2 z1 f1
  rw [List.set_set] at O2
  have i2 : i < (M.set i ⟨v0, v1, M[i].sym⟩).length := by simpa using hi
  obtain ⟨O3, W3, z2, f2⟩ := OD.elemStore Lay.err.len O2 i2 (j := 2) (by decide) (.int .i64 M[i].sym) (.int .i64 v2) (by simp [Lay.err]) (by simp [Lay.err]) ⟨v0, v1, v2⟩ (by simp [Lay.err])
  rw [show i * Lay.err.sz + 2 = i * 3 + 2 from rfl] at O3 W3 z2 f2
  rw [List.set_set] at O3
  have i3 : i < (M.set i ⟨v0, v1, v2⟩).length := by simpa using hi
  have WW := ((W1.trans W2).trans W3)
  exact ⟨⟨z0, f0⟩, ⟨z1, f1⟩, ⟨z2, f2⟩, O3, WW⟩

theorem mkErr_eq (m : Nat) (x : Er) : mkErr m x = ⟨(m : Int), (m : Int) + 1, (m : Int) + 1 + 1⟩ := by
  unfold mkErr
  congr 1
theorem cntErrS_eq (xs : List Er) : cntErrS xs = 3 * xs.length := by
  unfold cntErrS
  induction xs with
  | nil => rfl
  | cons x xs ih => rw [cntL, ih, List.length_cons]; unfold cntErr; omega

set_option maxRecDepth 100000 in
theorem markErrS_l (xs : List Er) (base : Nat) (v : Value) (S : Nat → Prop) (k : Nat) (w : World) (h : OD w base v (slD Lay.err xs) S) (hk : k + 4 * (Lay.list Lay.err).wt xs ≤ 8388608) :
    Calls Try.prog 19 #[v, .int .i64 (k : Int)] w fun e w' => e = .returned (.int .i64 ((k + cntErrS xs : Nat) : Int)) ∧ OD w' base v (slD Lay.err (mkErrS k xs)) S ∧ Within w w' S := by
  rw [Lay.wt_list] at hk
  have hlen : xs.length ≤ 8388608 := by omega
  obtain ⟨a, c, rfl, hg⟩ := OD.shapeL h
  go_enter Try.func19, Try.ntmps19
  go_wp2
  go_loopw [1, 5] (fun sk i wr => ∃ j : Nat, j ≤ xs.length ∧ i = .int .i64 j ∧ sk = .int .i64 ((k + cntErrS (xs.take j) : Nat) : Int) ∧ Hid (OD wr base (.slice a xs.length c) (slD Lay.err (mkErrS k (xs.take j) ++ xs.drop j)) S ∧ Within w wr S)) (fun _ i _ => xs.length - (intOf i).toNat)
  case atStart => exact ⟨0, Nat.zero_le _, rfl, by simp [cntErrS, cntL], by simpa [mkErrS, mkL] using h, Within.refl _ _⟩
  case round =>
    obtain ⟨j, hj, rfl, rfl, HO⟩ := hrel
    by_cases hlt : j < xs.length
    · obtain ⟨g, rfl⟩ := hg (by intro e; simp [e] at hlt)
      have hjL : j < (mkErrS k (xs.take j) ++ xs.drop j).length := by rw [mkErrS, mid_length _ _ hj]; exact hlt
      have HS : Hid ((mkErrS k (xs.take j) ++ xs.drop j).set j (mkErr (k + cntErrS (xs.take j)) xs[j]) = mkErrS k (xs.take (j + 1)) ++ xs.drop (j + 1)) := mid_set cntErr mkErr hlt
      have HN : Hid (k + cntErrS (xs.take (j + 1)) = k + cntErrS (xs.take j) + 3) := by show _ = _; unfold cntErrS; rw [cntL_take _ hlt]; unfold cntErr; omega
      have hle := cntErrS_room hlt hk
      have HL := HO.out.1
      have HW := HO.out.2
      generalize mkErrS k (xs.take j) ++ xs.drop j = M at *
      generalize k + cntErrS (xs.take j) = m at *
      obtain ⟨⟨⟨z0, d0⟩, e0⟩, ⟨⟨z1, d1⟩, e1⟩, ⟨⟨z2, d2⟩, e2⟩, O1, W1⟩ := HL.markErr hjL ((m : Int)) ((m : Int) + 1) ((m : Int) + 1 + 1)
      rw [← mkErr_eq m xs[j], HS.out] at O1
      have HE := hid (And.intro O1 (HW.trans W1))
      clear hg h HO HS hjL HL HW O1 W1 hk
      generalize Lay.err.wt xs[j] = wk at *
      have hgl : g < wr.heap.size := World.block_lt_of_cell? wr _ d0
      go_wp2
      go_roundw
      case rel => exact ⟨j + 1, by omega, by go_num, by rw [HN.out]; go_num, HE⟩
      case measure => simp [intOf]; omega
    · have e : j = xs.length := by omega
      subst e
      have HE : Hid (OD wr base (.slice a xs.length c) (slD Lay.err (mkErrS k xs)) S ∧ Within w wr S) := by show _ ∧ _; simpa using HO.out
      have HC : Hid (cntErrS (xs.take xs.length) = cntErrS xs) := by show _ = _; rw [List.take_length]
      clear HO
      generalize cntErrS (xs.take xs.length) = m at *
      go_wp2
      go_ret
      exact ⟨ret_int (by rw [HC.out]), HE.out⟩

set_option maxRecDepth 100000 in
theorem heldErrS_l (xs : List Er) (a : Option Addr) (n c : Nat) (k : Nat) (w : World) (h : RD w (.slice a n c) (slD Lay.err (mkErrS k xs))) (hk : k + 4 * (Lay.list Lay.err).wt xs ≤ 8388608) :
    Calls Try.prog 22 #[.slice a n c, .int .i64 (k : Int)] w fun e w' => e = .returned (.int .i64 ((k + cntErrS xs : Nat) : Int)) ∧ Below w.heap.size w w' := by
  rw [Lay.wt_list] at hk
  have e := h.lenL
  have hml : (mkErrS k xs).length = xs.length := by rw [mkErrS, mkL_length]
  rw [hml] at e
  subst e
  go_enter Try.func22, Try.ntmps22
  go_wp2
  go_loopw [1, 5] (fun sk i wr => ∃ j : Nat, j ≤ xs.length ∧ i = .int .i64 j ∧ sk = .int .i64 ((k + cntErrS (xs.take j) : Nat) : Int) ∧ Below w.heap.size w wr) (fun _ i _ => xs.length - (intOf i).toNat)
  case atStart => exact ⟨0, Nat.zero_le _, rfl, by simp [cntErrS, cntL], Below.refl _ _⟩
  case round =>
    obtain ⟨j, hj, rfl, rfl, hbel⟩ := hrel
    by_cases hlt : j < xs.length
    · have hjL : j < (mkErrS k xs).length := by rw [hml]; exact hlt
      have HX : (mkErrS k xs)[j] = mkErr (k + cntErrS (xs.take j)) xs[j] := mkL_get cntErr mkErr hlt hjL
      obtain ⟨b1, o1, rfl, hb1, ⟨q0, q1, q2⟩⟩ := (h.later hbel).atErr hjL
      rw [HX, mkErr_eq] at q0 q1 q2
      simp only at q0 q1 q2
      have HN : Hid (k + cntErrS (xs.take (j + 1)) = k + cntErrS (xs.take j) + 3) := by show _ = _; unfold cntErrS; rw [cntL_take _ hlt]; unfold cntErr; omega
      have hle := cntErrS_room hlt hk
      clear h HX hjL
      generalize Lay.err.wt xs[j] = wk at *
      generalize k + cntErrS (xs.take j) = m at *
      go_wp2
      go_roundw
      case rel => exact ⟨j + 1, by omega, by go_num, by rw [HN.out]; go_num, hbel⟩
      case measure => simp [intOf]; omega
    · have e : j = xs.length := by omega
      subst e
      have HC : Hid (cntErrS (xs.take xs.length) = cntErrS xs) := by show _ = _; rw [List.take_length]
      clear h
      generalize cntErrS (xs.take xs.length) = m at *
      go_wp2
      go_ret
      exact ⟨ret_int (by rw [HC.out]), hbel⟩

end Go.Proofs.Ythnppodnjokaoab
