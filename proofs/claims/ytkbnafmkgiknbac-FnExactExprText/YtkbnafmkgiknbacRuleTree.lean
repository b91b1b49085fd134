/-
  Rules: how they lie in cells; contracts of the law package's helpers on rules (eqRule, eqRuleS, markRuleS, heldRuleS) over this translation. No statement is proved here.
-/
import Derived.Test.YtkbnafmkgiknbacEqExpr
import Derived.Test.YtkbnafmkgiknbacMarkExpr
namespace Go.Proofs.Ytkbnafmkgiknbac
open Go.RowKit

/-- A rule. -/
structure Rl where
  name : ByteArray
  ex : Ex
def Rl.cells (r : Rl) : List Dat := [.val (.string r.name), .val (.int .i64 r.ex.kind), .val (.string r.ex.text), exD r.ex.kids]
theorem Rl.cells_len (r : Rl) : r.cells.length = 4 := rfl
/-- A list of rules, read through. -/
def ruD (rs : List Rl) : Dat := .sl rs.length (rs.flatMap Rl.cells)
def Rl.nodesL : List Rl → Nat
  | [] => 0
  | r :: rs => r.ex.nodes + Rl.nodesL rs
theorem Rl.nodesL_append (xs ys : List Rl) : Rl.nodesL (xs ++ ys) = Rl.nodesL xs + Rl.nodesL ys := by
  induction xs with
  | nil => simp [Rl.nodesL]
  | cons x xs ih => simp [Rl.nodesL, ih]; omega
theorem Rl.nodes_le {xs : List Rl} {i : Nat} (h : i < xs.length) : xs[i].ex.nodes ≤ Rl.nodesL xs := by
  induction xs generalizing i with
  | nil => simp at h
  | cons x xs ih =>
    cases i with
    | zero => simp [Rl.nodesL]
    | succ i => have := ih (i := i) (by simpa using h); simp [Rl.nodesL]; omega
theorem Rl.length_le (xs : List Rl) : xs.length ≤ Rl.nodesL xs := by
  induction xs with
  | nil => simp
  | cons x xs ih => have := Ex.nodes_eq x.ex; simp [Rl.nodesL]; omega
theorem Rl.nodesL_take {xs : List Rl} {k : Nat} (h : k < xs.length) : Rl.nodesL (xs.take (k + 1)) = Rl.nodesL (xs.take k) + xs[k].ex.nodes := by
  rw [List.take_succ_eq_append_getElem h, Rl.nodesL_append]; simp [Rl.nodesL]
theorem Rl.nodesL_take_le (xs : List Rl) (k : Nat) : Rl.nodesL (xs.take k) ≤ Rl.nodesL xs := by
  have h : Rl.nodesL xs = Rl.nodesL (xs.take k) + Rl.nodesL (xs.drop k) := by rw [← Rl.nodesL_append, List.take_append_drop]
  omega

/-- The four cells of a rule in a list that is read. -/
theorem RD.ru {w : World} {a : Option Addr} {n c : Nat} {rs : List Rl} (h : RD w (.slice a n c) (ruD rs)) {i : Nat} (hi : i < rs.length) :
    ∃ b off, a = some ⟨b, off, none⟩ ∧ b < w.heap.size ∧ w.cell? ⟨b, off + i * 4, none⟩ = some (.string rs[i].name) ∧ w.cell? ⟨b, off + i * 4 + 1, none⟩ = some (.int .i64 rs[i].ex.kind) ∧ w.cell? ⟨b, off + i * 4 + 2, none⟩ = some (.string rs[i].ex.text) ∧
      ∃ a' c', w.cell? ⟨b, off + i * 4 + 3, none⟩ = some (.slice a' rs[i].ex.kids.length c') ∧ RD w (.slice a' rs[i].ex.kids.length c') (exD rs[i].ex.kids) := by
  obtain ⟨b, off, rfl, hb, u0, c0, r0⟩ := RD.elem Rl.cells_len h hi (show 0 < 4 by decide) (by rw [Rl.cells_len]; decide)
  obtain ⟨_, _, e1, _, u1, c1, r1⟩ := RD.elem Rl.cells_len h hi (show 1 < 4 by decide) (by rw [Rl.cells_len]; decide)
  obtain ⟨_, _, e2, _, u2, c2, r2⟩ := RD.elem Rl.cells_len h hi (show 2 < 4 by decide) (by rw [Rl.cells_len]; decide)
  obtain ⟨_, _, e3, _, u3, c3, r3⟩ := RD.elem Rl.cells_len h hi (show 3 < 4 by decide) (by rw [Rl.cells_len]; decide)
  cases e1; cases e2; cases e3
  simp only [Rl.cells, List.getElem_cons_zero, List.getElem_cons_succ] at r0 r1 r2 r3
  rw [r0.val_eq] at c0
  rw [r1.val_eq] at c1
  rw [r2.val_eq] at c2
  obtain ⟨a', c', rfl⟩ := RD.slice (m := rs[i].ex.kids.length) r3
  exact ⟨b, off, rfl, hb, c0, by rw [Nat.add_assoc]; exact c1, by rw [Nat.add_assoc]; exact c2, a', c', by rw [Nat.add_assoc]; exact c3, r3⟩

theorem eqRule_step (nm : ByteArray) (kd : Int) (tx : ByteArray) (n : Nat) (a b : Option Addr) (c d : Nat) (w : World)
    (IH : ∀ W : World, Below w.heap.size w W → Calls Try.prog 49 #[.slice a n c, .slice b n d] W fun e w' => e = .returned (.bool true) ∧ Below W.heap.size W w') :
    Calls Try.prog 40 #[.agg #[.string nm, .int .i64 kd, .string tx, .slice a n c], .agg #[.string nm, .int .i64 kd, .string tx, .slice b n d]] w fun e w' => e = .returned (.bool true) ∧ Below w.heap.size w w' := by
  go_enter Try.func40, Try.ntmps40
  have B := ((Below.refl w.heap.size w).alloc (Nat.le_refl _) (.cells #[.string nm, .int .i64 kd, .string tx, .slice a n c] 77)).alloc (by simp) (.cells #[.string nm, .int .i64 kd, .string tx, .slice b n d] 77)
  have X : Hid (∀ W : World, Below w.heap.size w W → Calls Try.prog 21 #[.agg #[.int .i64 kd, .string tx, .slice a n c], .agg #[.int .i64 kd, .string tx, .slice b n d]] W fun e w' => e = .returned (.bool true) ∧ Below W.heap.size W w') :=
    fun W hW => eqExpr_step kd tx n a b c d W (fun W' hW' => IH W' (hW.trans (hW'.mono hW.size)))
  clear IH
  go_wp2_with fail
  refine (X.out _ B).mono ?_
  rintro e w1 ⟨rfl, hb⟩
  go_wp2
  go_ret
  exact ⟨rfl, B.trans (hb.mono B.size)⟩

theorem eqRuleS_same (rs : List Rl) (a b : Option Addr) (c d : Nat) (w : World) (h : RD w (.slice a rs.length c) (ruD rs)) (g : RD w (.slice b rs.length d) (ruD rs)) (hn : Rl.nodesL rs ≤ 1099511627776) :
    Calls Try.prog 14 #[.slice a rs.length c, .slice b rs.length d] w fun e w' => e = .returned (.bool true) ∧ Below w.heap.size w w' := by
  have hlen := Rl.length_le rs
  go_enter Try.func14, Try.ntmps14
  go_wp2
  go_loopw [5] (fun i wr => ∃ k : Nat, k ≤ rs.length ∧ i = .int .i64 k ∧ Below w.heap.size w wr) (fun i _ => rs.length - (intOf i).toNat)
  case atStart => exact ⟨0, Nat.zero_le _, rfl, Below.refl _ _⟩
  case round =>
    obtain ⟨k, hk, rfl, hbel⟩ := hrel
    by_cases hlt : k < rs.length
    · obtain ⟨b1, o1, rfl, hb1, q0, q1, q2, a1, c1, q3, r1⟩ := (h.later hbel).ru hlt
      obtain ⟨b2, o2, rfl, hb2, p0, p1, p2, a2, c2, p3, r2⟩ := (g.later hbel).ru hlt
      have hk2 := Rl.nodes_le hlt
      rw [Ex.nodes_eq] at hk2
      have hk3 := Ex.length_le rs[k].ex.kids
      have IH : Hid (∀ W : World, Below wr.heap.size wr W → Calls Try.prog 49 #[.slice a1 rs[k].ex.kids.length c1, .slice a2 rs[k].ex.kids.length c2] W fun e w' => e = .returned (.bool true) ∧ Below W.heap.size W w') :=
        fun W hW => eqExprS_same (Ex.nodesL rs[k].ex.kids) rs[k].ex.kids (Nat.le_refl _) a1 a2 c1 c2 W (r1.later hW) (r2.later hW) (by omega) (by omega)
      clear h g r1 r2
      generalize rs[k].ex.kids = ks at *
      generalize rs[k].ex.kind = kd at *
      generalize rs[k].ex.text = tx at *
      generalize rs[k].name = nm at *
      have X : Hid (Calls Try.prog 40 #[.agg #[.string nm, .int .i64 kd, .string tx, .slice a1 ks.length c1], .agg #[.string nm, .int .i64 kd, .string tx, .slice a2 ks.length c2]] wr.drew fun e w' => e = .returned (.bool true) ∧ Below wr.heap.size wr w') :=
        (eqRule_step nm kd tx ks.length a1 a2 c1 c2 wr.drew (fun W hW => IH.out W ⟨hW.os, hW.tape, hW.output, hW.size, hW.block⟩)).mono fun e w' h => ⟨h.1, ⟨h.2.os, h.2.tape, h.2.output, h.2.size, h.2.block⟩⟩
      clear IH
      go_wp2
      go_region_with (go_at_call 40; refine X.out.mono ?_; rintro e w1 ⟨rfl, hl1⟩)
      all_goals
        go_wp2
        go_roundw
        case rel => exact ⟨k + 1, by omega, by go_num, hbel.trans (hl1.mono hbel.size)⟩
        case measure => simp [intOf]; omega
    · go_wp2
      go_ret
      exact ⟨rfl, hbel⟩

/-- The marks of rules: one more a rule than its expression has. -/
def Rl.marks (rs : List Rl) : Nat := rs.length + 2 * Rl.nodesL rs
def markR (r : Rl) (k : Nat) : Rl := ⟨markB k, markE r.ex (k + 1)⟩
def markRs : List Rl → Nat → List Rl
  | [], _ => []
  | r :: rs, k => markR r k :: markRs rs (k + 1 + 2 * r.ex.nodes)
theorem markRs_length (rs : List Rl) (k : Nat) : (markRs rs k).length = rs.length := by
  induction rs generalizing k with
  | nil => simp [markRs]
  | cons x xs ih => simp [markRs, ih]
theorem markRs_append (xs ys : List Rl) (k : Nat) : markRs (xs ++ ys) k = markRs xs k ++ markRs ys (k + Rl.marks xs) := by
  induction xs generalizing k with
  | nil => simp [markRs, Rl.marks, Rl.nodesL]
  | cons x xs ih =>
    simp only [List.cons_append, markRs, ih, Rl.marks, Rl.nodesL, List.length_cons]
    congr 3; omega
theorem Rl.marks_take {xs : List Rl} {k : Nat} (h : k < xs.length) : Rl.marks (xs.take (k + 1)) = Rl.marks (xs.take k) + (1 + 2 * xs[k].ex.nodes) := by
  simp only [Rl.marks, Rl.nodesL_take h, List.length_take]; omega
theorem Rl.marks_take_le (xs : List Rl) (k : Nat) : Rl.marks (xs.take k) ≤ Rl.marks xs := by
  have := Rl.nodesL_take_le xs k
  simp only [Rl.marks, List.length_take]; omega
theorem markRs_get (xs : List Rl) (k i : Nat) (h : i < xs.length) (h' : i < (markRs xs k).length) : (markRs xs k)[i] = markR xs[i] (k + Rl.marks (xs.take i)) := by
  induction xs generalizing k i with
  | nil => simp at h
  | cons x xs ih =>
    cases i with
    | zero => simp [markRs, Rl.marks, Rl.nodesL]
    | succ i =>
      simp only [markRs, List.getElem_cons_succ, List.take_succ_cons]
      rw [ih (k + 1 + 2 * x.ex.nodes) i (by simpa using h)]
      simp only [Rl.marks, Rl.nodesL, List.length_cons]
      congr 1; omega
theorem markRs_step {xs : List Rl} {j k : Nat} (h : j < xs.length) : (markRs (xs.take j) k ++ xs.drop j).set j (markR xs[j] (k + Rl.marks (xs.take j))) = markRs (xs.take (j + 1)) k ++ xs.drop (j + 1) := by
  have hl : (markRs (xs.take j) k).length = j := by rw [markRs_length]; simp; omega
  rw [List.set_append_right _ _ (by omega), hl, Nat.sub_self, List.drop_eq_getElem_cons h, List.set_cons_zero, List.take_succ_eq_append_getElem h, markRs_append, List.append_assoc]
  simp [markRs]
theorem markRs_mid_length {xs : List Rl} {j k : Nat} (h : j ≤ xs.length) : (markRs (xs.take j) k ++ xs.drop j).length = xs.length := by
  rw [List.length_append, markRs_length]; simp; omega
theorem markRs_mid_get {xs : List Rl} {j k : Nat} (h : j < xs.length) (h' : j < (markRs (xs.take j) k ++ xs.drop j).length) : (markRs (xs.take j) k ++ xs.drop j)[j] = xs[j] := by
  have hl : (markRs (xs.take j) k).length = j := by rw [markRs_length]; simp; omega
  rw [List.getElem_append_right (by omega)]
  simp [hl]
end Go.Proofs.Ytkbnafmkgiknbac
