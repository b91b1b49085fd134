/-
  The leaves of a tree from the left, by places. Plain mathematics. No statement is proved here.
-/
import Derived.Test.YtghpekijimoicaaVisitMath
namespace Go.Proofs.Ytghpekijimoicaa
open Go.RowKit

def isLf (ns : List Nd) (v : Nat × Bool) : Option Int := if v.2 = false ∧ (ndAt ns v.1).kind = 0 then some (v.1 : Int) else none
/-- The places of the leaves below a node. -/
def leafPos (ns : List Nd) (p : Nat) : List Int := (visAt ns p).filterMap (isLf ns)
theorem leafPos_leaf {ns : List Nd} (s : Shaped ns) {p : Nat} (hp : p < ns.length) (h : (ndAt ns p).kind = 0) : leafPos ns p = [(p : Int)] := by
  rw [leafPos, visAt_eq s hp]
  simp [isLf, h]
theorem leafPos_kids {ns : List Nd} (s : Shaped ns) {p : Nat} (hp : p < ns.length) (h : (ndAt ns p).kind ≠ 0) : leafPos ns p = (kidsAt ns p).flatMap (leafPos ns) := by
  rw [leafPos, visAt_eq s hp]
  by_cases h1 : (ndAt ns p).kind = 1
  · rw [if_pos h1, List.filterMap_cons_none (by simp [isLf, h]), List.filterMap_append, List.filterMap_flatMap]
    simp [isLf]
    rfl
  · rw [if_neg h1, kids_none s hp h1]
    simp [isLf, h]
theorem leafPos_length {ns : List Nd} (s : Shaped ns) : (leafPos ns 0).length ≤ 2 * ns.length := Nat.le_trans (List.length_filterMap_le _ _) (visits_le s)
theorem leafPos_in {ns : List Nd} (s : Shaped ns) : ∀ (f p : Nat), p < ns.length → ns.length - p ≤ f → ∀ z ∈ leafPos ns p, ∃ k : Nat, z = k ∧ k < ns.length
  | 0, p, hp, hf, z, _ => by omega
  | f + 1, p, hp, hf, z, hz => by
    by_cases h : (ndAt ns p).kind = 0
    · rw [leafPos_leaf s hp h, List.mem_singleton] at hz
      exact ⟨p, hz, hp⟩
    · rw [leafPos_kids s hp h, List.mem_flatMap] at hz
      obtain ⟨k, hk, hz⟩ := hz
      have := kid_lt s hp hk
      exact leafPos_in s f k this.2 (by omega) z hz
theorem leafPos_kid_le {ns : List Nd} {ks : List Nat} {j : Nat} (hj : j < ks.length) : ((ks.take j).flatMap (leafPos ns)).length + (leafPos ns ks[j]).length ≤ (ks.flatMap (leafPos ns)).length := by
  have e : ks = ks.take j ++ ks[j] :: ks.drop (j + 1) := by rw [← List.drop_eq_getElem_cons hj, List.take_append_drop]
  conv => rhs; rw [e]
  rw [List.flatMap_append, List.flatMap_cons, List.length_append, List.length_append]
  omega
theorem leafPos_take {ns : List Nd} {ks : List Nat} {j : Nat} (hj : j < ks.length) : (ks.take (j + 1)).flatMap (leafPos ns) = (ks.take j).flatMap (leafPos ns) ++ leafPos ns ks[j] := by
  rw [List.take_succ_eq_append_getElem hj, List.flatMap_append, List.flatMap_singleton]
theorem kidsAt_length (ns : List Nd) (p : Nat) : (kidsAt ns p).length = (ndAt ns p).kids.length := by simp [kidsAt]
theorem kidsAt_get {ns : List Nd} (s : Shaped ns) {p : Nat} (hp : p < ns.length) {j : Nat} (hj : j < (kidsAt ns p).length) : (ndAt ns p).kids.getD j 0 = (((kidsAt ns p)[j] : Nat) : Int) := by
  have hj2 : j < (ndAt ns p).kids.length := by rwa [kidsAt_length] at hj
  rw [List.getD_eq_getElem?_getD, List.getElem?_eq_getElem hj2, Option.getD_some]
  have e := kid_cast s hp
  have : ((kidsAt ns p).map (fun (k : Nat) => (k : Int)))[j]? = some ((ndAt ns p).kids[j]) := by rw [e, List.getElem?_eq_getElem hj2]
  rw [List.getElem?_map, List.getElem?_eq_getElem hj, Option.map_some] at this
  exact (Option.some.inj this).symm
end Go.Proofs.Ytghpekijimoicaa
