/-
  The shape of a tree, and how it is gone over from the left. Plain mathematics. No statement is proved here.
-/
import Derived.Test.YtghpekijimoicaaHTree
import Derived.Test.YtghpekijimoicaaGramMath
namespace Go.Proofs.Ytghpekijimoicaa
open Go.RowKit

def nd0 : Nd := ⟨0, 0, 0, 0, []⟩
/-- The Kids of the first nodes, one behind the other. -/
def kidsTo (ns : List Nd) (i : Nat) : List Int := (ns.take i).flatMap Nd.kids
/-- A node that is right by itself: its Kind, where Kids may be, where they lead. -/
def Right (n : Nat) (i : Nat) (x : Nd) : Prop := inB x.kind 0 3 = true ∧ (x.kind = 1 ∨ x.kids = []) ∧ ∀ k ∈ x.kids, (i : Int) < k ∧ k < n
def Shaped (ns : List Nd) : Prop := ns ≠ [] ∧ (∀ i (h : i < ns.length), Right ns.length i ns[i]) ∧ ∀ j, 1 ≤ j → j < ns.length → (kidsTo ns ns.length).count (j : Int) = 1
def rightB (n i : Nat) (x : Nd) : Bool := inB x.kind 0 3 && (decide (x.kind = 1) || x.kids.isEmpty) && x.kids.all (fun k => decide ((i : Int) < k ∧ k < n))
theorem rightB_iff {n i : Nat} {x : Nd} : rightB n i x = true ↔ Right n i x := by
  unfold rightB Right
  simp [and_assoc]
def shapeB (ns : List Nd) : Bool := !ns.isEmpty && (List.range ns.length).all (fun i => rightB ns.length i (ns.getD i nd0)) && (List.range ns.length).all (fun j => decide (j = 0) || decide ((kidsTo ns ns.length).count (j : Int) = 1))
theorem shapeB_true {ns : List Nd} : shapeB ns = true ↔ Shaped ns := by
  unfold shapeB Shaped
  rw [Bool.and_eq_true, Bool.and_eq_true, List.all_eq_true, List.all_eq_true, and_assoc]
  refine and_congr (by simp) (and_congr ?_ ?_)
  · constructor
    · intro h i hi
      have := h i (List.mem_range.2 hi)
      rw [rightB_iff, List.getD_eq_getElem?_getD, List.getElem?_eq_getElem hi, Option.getD_some] at this
      exact this
    · intro h i hi
      have hi2 := List.mem_range.1 hi
      rw [rightB_iff, List.getD_eq_getElem?_getD, List.getElem?_eq_getElem hi2, Option.getD_some]
      exact h i hi2
  · constructor
    · intro h j h1 h2
      have := h j (List.mem_range.2 h2)
      simp at this
      rcases this with e | e
      · omega
      · exact e
    · intro h j hj
      have hj2 := List.mem_range.1 hj
      by_cases e : j = 0
      · simp [e]
      · simp [h j (by omega) hj2]
theorem shapeB_yes {ns : List Nd} (h : Shaped ns) : shapeB ns = true := shapeB_true.2 h
theorem shapeB_false {ns : List Nd} : shapeB ns = false ↔ ¬ Shaped ns := by rw [← shapeB_true]; simp
theorem shapeB_no {ns : List Nd} (h : ¬ Shaped ns) : shapeB ns = false := shapeB_false.2 h

theorem kidsTo_zero (ns : List Nd) : kidsTo ns 0 = [] := rfl
theorem kidsTo_next {ns : List Nd} {i : Nat} (h : i < ns.length) : kidsTo ns (i + 1) = kidsTo ns i ++ ns[i].kids := by
  unfold kidsTo
  rw [List.take_succ_eq_append_getElem h, List.flatMap_append]
  simp
theorem kidsTo_all (ns : List Nd) : kidsTo ns ns.length = ns.flatMap Nd.kids := by rw [kidsTo, List.take_length]
theorem kidsTo_length {ns : List Nd} (i : Nat) : (kidsTo ns i).length ≤ Lay.node.sumL ns := by
  have h : ∀ xs : List Nd, (xs.flatMap Nd.kids).length = Lay.node.sumL xs := by
    intro xs
    induction xs with
    | nil => rfl
    | cons x xs ih => rw [List.flatMap_cons, List.length_append, ih]; show _ = Lay.node.wt x + _; rw [Lay_node_wt, Lay.wt_ints]
  unfold kidsTo
  rw [h]
  exact Lay.sumL_take_le _ _ _

/-- How often each place is among the numbers. -/
def cntRow (L : List Int) (n : Nat) : List Value := (List.range n).map fun (j : Nat) => .int .i64 ((L.count (j : Int) : Nat) : Int)
theorem cntRow_length (L : List Int) (n : Nat) : (cntRow L n).length = n := by simp [cntRow]
theorem cntRow_get {L : List Int} {n j : Nat} (h : j < n) : (cntRow L n)[j]? = some (.int .i64 ((L.count (j : Int) : Nat) : Int)) := by simp [cntRow, h]
theorem cntRow_nil (n : Nat) : cntRow [] n = List.replicate n (.int .i64 0) := by
  apply List.ext_getElem
  · simp [cntRow]
  · intro i h1 h2; simp [cntRow]
theorem cntRow_set {L : List Int} {n j : Nat} : (cntRow L n).set j (.int .i64 (((L.count (j : Int) : Nat) : Int) + 1)) = cntRow (L ++ [(j : Int)]) n := by
  apply List.ext_getElem
  · simp [cntRow]
  · intro i h1 h2
    rw [List.getElem_set]
    by_cases e : j = i
    · subst e
      simp [cntRow, List.count_append]
    · rw [if_neg e]
      have e2 : ¬ (j : Int) = (i : Int) := by omega
      simp [cntRow, List.count_append, List.count_singleton, e2]
/-- Which places are met: the first one, and those among the numbers. -/
def metRow (L : List Int) (n : Nat) : List Value := (List.range n).map fun (j : Nat) => .bool (decide (j = 0) || L.contains (j : Int))
theorem metRow_length (L : List Int) (n : Nat) : (metRow L n).length = n := by simp [metRow]
theorem metRow_get {L : List Int} {n j : Nat} (h : j < n) : (metRow L n)[j]? = some (.bool (decide (j = 0) || L.contains (j : Int))) := by simp [metRow, h]
theorem metRow_first {n : Nat} : (List.replicate n (Value.bool false)).set 0 (.bool true) = metRow [] n := by
  apply List.ext_getElem
  · simp [metRow]
  · intro i h1 h2
    rw [List.getElem_set]
    by_cases e : 0 = i
    · subst e; simp [metRow]
    · rw [if_neg e]
      have : i ≠ 0 := fun h => e h.symm
      simp [metRow, this]
theorem metRow_set {L : List Int} {n j : Nat} : (metRow L n).set j (.bool true) = metRow (L ++ [(j : Int)]) n := by
  apply List.ext_getElem
  · simp [metRow]
  · intro i h1 h2
    rw [List.getElem_set]
    by_cases e : j = i
    · subst e; simp [metRow]
    · rw [if_neg e]
      have e2 : (i : Int) ≠ (j : Int) := by omega
      simp [metRow, e2]

theorem toNat_in {k : Int} {i n : Nat} (h1 : (i : Int) < k) (h2 : k < n) : k.toNat < n ∧ ((k.toNat : Nat) : Int) = k ∧ 1 ≤ k.toNat := by omega

theorem not_shaped_at {ns : List Nd} {i : Nat} (h : i < ns.length) (g : ¬ Right ns.length i ns[i]) : ¬ Shaped ns := fun s => g (s.2.1 i h)
theorem not_right_kind {n i : Nat} {x : Nd} (h : inB x.kind 0 3 = false) : ¬ Right n i x := fun r => by rw [r.1] at h; cases h
theorem not_right_kids {n i : Nat} {x : Nd} (h : x.kind ≠ 1) (g : x.kids ≠ []) : ¬ Right n i x := fun r => r.2.1.elim h g
theorem not_right_kid {n i k : Nat} {x : Nd} (hk : k < x.kids.length) (g : ¬ ((i : Int) < x.kids[k] ∧ x.kids[k] < n)) : ¬ Right n i x := fun r => g (r.2.2 _ (List.getElem_mem hk))
theorem right_guard {x : Nd} (h : (x.kind != 1 && decide (0 < x.kids.length)) = false) : x.kind = 1 ∨ x.kids = [] := by
  by_cases e : x.kind = 1
  · exact .inl e
  · have e2 : (x.kind != 1) = true := by simpa using e
    rw [e2] at h
    simp at h
    exact .inr h
theorem not_right_guard {n i : Nat} {x : Nd} (h : (x.kind != 1 && decide (0 < x.kids.length)) = true) : ¬ Right n i x := by
  simp at h
  exact not_right_kids h.1 (fun e => by rw [e] at h; simp at h)
theorem kidsTo_prefix {ns : List Nd} {i : Nat} (h : i < ns.length) : ∃ r, kidsTo ns ns.length = kidsTo ns i ++ ns[i].kids ++ r := by
  refine ⟨(ns.drop (i + 1)).flatMap Nd.kids, ?_⟩
  rw [kidsTo_all, ← kidsTo_next h, kidsTo, ← List.flatMap_append, List.take_append_drop]
/-- A place that is met twice. -/
theorem not_shaped_dup {ns : List Nd} {i k kn : Nat} (h : i < ns.length) (hk : k < ns[i].kids.length) (e : ns[i].kids[k] = (kn : Int)) (hkn : kn < ns.length) (h1 : 1 ≤ kn) (hm : (kn : Int) ∈ kidsTo ns i ++ ns[i].kids.take k) : ¬ Shaped ns := by
  intro s
  have c := s.2.2 kn h1 hkn
  obtain ⟨r, hr⟩ := kidsTo_prefix h
  have e2 : ns[i].kids = ns[i].kids.take k ++ ns[i].kids[k] :: ns[i].kids.drop (k + 1) := by
    rw [← List.drop_eq_getElem_cons hk, List.take_append_drop]
  have c1 : 1 ≤ (kidsTo ns i ++ ns[i].kids.take k).count (kn : Int) := List.count_pos_iff.2 hm
  rw [List.count_append] at c1
  rw [hr, e2, e, List.count_append, List.count_append, List.count_append, List.count_cons] at c
  simp at c
  omega
theorem not_shaped_free {ns : List Nd} {j : Nat} (h : j < ns.length) (h1 : 1 ≤ j) (hm : (j : Int) ∉ kidsTo ns ns.length) : ¬ Shaped ns := by
  intro s
  have c := s.2.2 j h1 h
  rw [List.count_eq_zero.2 hm] at c
  omega
theorem shaped_of {ns : List Nd} (hz : ns ≠ []) (hr : ∀ i (h : i < ns.length), Right ns.length i ns[i]) (hn : (kidsTo ns ns.length).Nodup) (hm : ∀ j, 1 ≤ j → j < ns.length → (j : Int) ∈ kidsTo ns ns.length) : Shaped ns :=
  ⟨hz, hr, fun j h1 h2 => by
    have a := List.count_pos_iff.2 (hm j h1 h2)
    have b := List.nodup_iff_count.1 hn (j : Int)
    omega⟩
/-- As flags. -/
def metB (L : List Int) (n : Nat) : List Bool := (List.range n).map fun (j : Nat) => decide (j = 0) || L.contains (j : Int)
theorem metRow_bools (L : List Int) (n : Nat) : metRow L n = (metB L n).map Value.bool := by simp [metRow, metB, Function.comp_def]
theorem metB_length (L : List Int) (n : Nat) : (metB L n).length = n := by simp [metB]
theorem metB_free {L : List Int} {n : Nat} (h : (metB L n).contains false = true) : ∃ j, j < n ∧ 1 ≤ j ∧ (j : Int) ∉ L := by
  simp only [metB, List.contains_iff_mem, List.mem_map, List.mem_range] at h
  obtain ⟨j, hj, e⟩ := h
  simp at e
  exact ⟨j, hj, by omega, e.2⟩
theorem metB_all {L : List Int} {n : Nat} (h : (metB L n).contains false = false) {j : Nat} (hj : j < n) (h1 : 1 ≤ j) : (j : Int) ∈ L := by
  by_cases hm : (j : Int) ∈ L
  · exact hm
  · exfalso
    have : false ∈ metB L n := by
      simp only [metB, List.mem_map, List.mem_range]
      exact ⟨j, hj, by simp [hm]; omega⟩
    have h2 := List.contains_iff_mem.2 this
    rw [h] at h2
    cases h2
theorem nodup_snoc {L : List Int} {x : Int} (h : L.Nodup) (g : x ∉ L) : (L ++ [x]).Nodup := by
  rw [List.nodup_append]
  exact ⟨h, by simp, fun a ha b hb e => by simp at hb; subst hb; exact g (e ▸ ha)⟩
end Go.Proofs.Ytghpekijimoicaa
