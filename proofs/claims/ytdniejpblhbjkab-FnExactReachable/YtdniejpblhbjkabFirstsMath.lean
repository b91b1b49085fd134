/-
  What a row can begin with, by the sets of the parts. Plain mathematics. No statement is proved here.
-/
import Derived.Test.YtdniejpblhbjkabFirstMath
import Derived.Test.YtdniejpblhbjkabSetMath
namespace Go.Proofs.Ytdniejpblhbjkab
open Go.RowKit

/-- What a row can begin with, put to out. -/
def rowF (M : List (List Int)) (E : List Int) : List Int → List Int → List Int
  | out, [] => out
  | out, x :: xs => if inB x 0 25 then addL out x else if inB x 100 (100 + M.length - 1) then (if hasL E (x - 100) then rowF M E (joinL out (M.getD (x - 100).toNat [])) xs else joinL out (M.getD (x - 100).toNat [])) else out
section
variable {M : List (List Int)} {E out zs : List Int} {k : Nat}
theorem rowF_end (h : ¬ k < zs.length) : rowF M E out (zs.drop k) = out := by rw [List.drop_eq_nil_of_le (by omega), rowF]
theorem rowF_letter (h : k < zs.length) (g : inB zs[k] 0 25 = true) : rowF M E out (zs.drop k) = addL out zs[k] := by
  rw [List.drop_eq_getElem_cons h, rowF, if_pos g]
theorem rowF_none (h : k < zs.length) (g : inB zs[k] 0 25 = false) (g2 : inB zs[k] 100 (100 + M.length - 1) = false) : rowF M E out (zs.drop k) = out := by
  rw [List.drop_eq_getElem_cons h, rowF, if_neg (by simp [g]), if_neg (by simp [g2])]
theorem rowF_stop (h : k < zs.length) (g : inB zs[k] 0 25 = false) (g2 : inB zs[k] 100 (100 + M.length - 1) = true) (g3 : hasL E (zs[k] - 100) = false) : rowF M E out (zs.drop k) = joinL out (M.getD (zs[k] - 100).toNat []) := by
  rw [List.drop_eq_getElem_cons h, rowF, if_neg (by simp [g]), if_pos g2, if_neg (by simp [g3])]
theorem rowF_go (h : k < zs.length) (g : inB zs[k] 0 25 = false) (g2 : inB zs[k] 100 (100 + M.length - 1) = true) (g3 : hasL E (zs[k] - 100) = true) : rowF M E out (zs.drop k) = rowF M E (joinL out (M.getD (zs[k] - 100).toNat [])) (zs.drop (k + 1)) := by
  rw [List.drop_eq_getElem_cons h, rowF, if_neg (by simp [g]), if_pos g2, if_pos g3]
end
/-- All numbers of a list are below b, from 0 on, and none stands there twice. -/
structure SetB (b : Int) (xs : List Int) : Prop where
  nodup : xs.Nodup
  lt : ∀ x ∈ xs, 0 ≤ x ∧ x < b
theorem SetB.nil (b : Int) : SetB b [] := ⟨List.nodup_nil, fun _ h => by simp at h⟩
theorem nodup_addL {zs : List Int} {x : Int} (h : zs.Nodup) : (addL zs x).Nodup := by
  unfold addL
  split
  · exact h
  · rename_i hx
    have hs : zs = zs.take (placeL zs x) ++ zs.drop (placeL zs x) := (List.take_append_drop _ _).symm
    rw [hs] at h hx
    generalize zs.take (placeL zs x) = A at *
    generalize zs.drop (placeL zs x) = C at *
    rw [List.nodup_append] at h
    simp only [List.mem_append, not_or] at hx
    rw [List.append_assoc, List.singleton_append, List.nodup_append]
    refine ⟨h.1, List.nodup_cons.2 ⟨hx.2, h.2.1⟩, fun a ha b hb => ?_⟩
    rcases List.mem_cons.1 hb with rfl | hb
    · intro e; subst e; exact hx.1 ha
    · exact h.2.2 a ha b hb
theorem nodup_joinL {xs ys : List Int} (h : xs.Nodup) : (joinL xs ys).Nodup := by
  unfold joinL
  induction ys generalizing xs with
  | nil => exact h
  | cons z zs ih => exact ih (nodup_addL h)
theorem SetB.add {b : Int} {xs : List Int} {x : Int} (h : SetB b xs) (h0 : 0 ≤ x) (h1 : x < b) : SetB b (addL xs x) :=
  ⟨nodup_addL h.nodup, fun y hy => by
    rcases mem_addL.1 hy with rfl | hy
    · exact ⟨h0, h1⟩
    · exact h.lt y hy⟩
theorem SetB.join {b : Int} {xs ys : List Int} (h : SetB b xs) (g : SetB b ys) : SetB b (joinL xs ys) :=
  ⟨nodup_joinL h.nodup, fun y hy => by
    rcases mem_joinL.1 hy with hy | hy
    · exact h.lt y hy
    · exact g.lt y hy⟩
theorem nodup_le {n : Nat} : ∀ {xs : List Int}, xs.Nodup → (∀ x ∈ xs, 0 ≤ x ∧ x < (n : Int)) → xs.length ≤ n := by
  intro xs h hl
  have h1 : (xs.map Int.toNat).Nodup := by
    rw [List.nodup_iff_pairwise_ne] at h ⊢
    rw [List.pairwise_map]
    exact h.imp_of_mem (fun ha hb hne e => hne (by have := hl _ ha; have := hl _ hb; omega))
  have h2 : (xs.map Int.toNat) ⊆ List.range n := by
    intro k hk
    obtain ⟨x, hx, rfl⟩ := List.mem_map.1 hk
    have := hl x hx
    rw [List.mem_range]; omega
  have := h1.length_le_of_subset h2
  simpa using this
theorem SetB.len {n : Nat} {xs : List Int} (h : SetB (n : Int) xs) : xs.length ≤ n := nodup_le h.nodup h.lt
theorem rowF_setB {M : List (List Int)} {E : List Int} (hM : ∀ m ∈ M, SetB 27 m) : ∀ {zs out : List Int}, SetB 27 out → SetB 27 (rowF M E out zs)
  | [], out, h => by rw [rowF]; exact h
  | x :: xs, out, h => by
    rw [rowF]
    have hj : SetB 27 (joinL out (M.getD (x - 100).toNat [])) := by
      refine h.join ?_
      by_cases hi : (x - 100).toNat < M.length
      · have e : M.getD (x - 100).toNat [] = M[(x - 100).toNat] := by simp [List.getD, hi]
        rw [e]; exact hM _ (List.getElem_mem _)
      · have e : M.getD (x - 100).toNat [] = [] := by rw [List.getD_eq_getElem?_getD, List.getElem?_eq_none (by omega)]; rfl
        rw [e]; exact SetB.nil _
    split
    · have := inB_true.1 ‹_›; exact h.add (by omega) (by omega)
    · split
      · split
        · exact rowF_setB hM hj
        · exact hj
      · exact h
end Go.Proofs.Ytdniejpblhbjkab
