/-
  How a tree is gone over from the left, and how many steps that takes. Plain mathematics. No statement is proved here.
-/
import Derived.Test.YtghpekijimoicaaTreeMath
namespace Go.Proofs.Ytghpekijimoicaa
open Go.RowKit

def ndAt (ns : List Nd) (p : Nat) : Nd := ns.getD p nd0
theorem ndAt_get {ns : List Nd} {p : Nat} (h : p < ns.length) : ndAt ns p = ns[p] := by rw [ndAt, List.getD_eq_getElem?_getD, List.getElem?_eq_getElem h, Option.getD_some]
def kidsAt (ns : List Nd) (p : Nat) : List Nat := (ndAt ns p).kids.map Int.toNat
/-- The visits from a node on: to a node (false), to the end of a part (true). -/
def vis (ns : List Nd) : Nat → Nat → List (Nat × Bool)
  | 0, _ => []
  | f + 1, p => (p, false) :: if (ndAt ns p).kind = 1 then (kidsAt ns p).flatMap (vis ns f) ++ [(p, true)] else []
def visAt (ns : List Nd) (p : Nat) : List (Nat × Bool) := vis ns (ns.length - p) p

theorem kid_lt {ns : List Nd} (s : Shaped ns) {p : Nat} (hp : p < ns.length) {k : Nat} (hk : k ∈ kidsAt ns p) : p < k ∧ k < ns.length := by
  rw [kidsAt, ndAt_get hp, List.mem_map] at hk
  obtain ⟨z, hz, e⟩ := hk
  have := (s.2.1 p hp).2.2 z hz
  omega
theorem kid_cast {ns : List Nd} (s : Shaped ns) {p : Nat} (hp : p < ns.length) : (kidsAt ns p).map (fun (k : Nat) => (k : Int)) = (ndAt ns p).kids := by
  rw [kidsAt, ndAt_get hp, List.map_map]
  conv => rhs; rw [← List.map_id ns[p].kids]
  apply List.map_congr_left
  intro z hz
  have := (s.2.1 p hp).2.2 z hz
  simp only [Function.comp_apply, id]
  omega
theorem flatMap_congr' {β : Type} {xs : List Nat} {f g : Nat → List β} (h : ∀ x ∈ xs, f x = g x) : xs.flatMap f = xs.flatMap g := by
  induction xs with
  | nil => rfl
  | cons x xs ih => rw [List.flatMap_cons, List.flatMap_cons, h x (by simp), ih (fun y hy => h y (by simp [hy]))]
theorem vis_fuel {ns : List Nd} (s : Shaped ns) : ∀ (f g p : Nat), p < ns.length → ns.length - p ≤ f → ns.length - p ≤ g → vis ns f p = vis ns g p
  | 0, _, p, hp, hf, _ => by omega
  | _ + 1, 0, p, hp, _, hg => by omega
  | f + 1, g + 1, p, hp, hf, hg => by
    rw [vis, vis, flatMap_congr' (fun k hk => vis_fuel s f g k (kid_lt s hp hk).2 (by have := (kid_lt s hp hk).1; omega) (by have := (kid_lt s hp hk).1; omega))]
theorem visAt_eq {ns : List Nd} (s : Shaped ns) {p : Nat} (hp : p < ns.length) : visAt ns p = (p, false) :: if (ndAt ns p).kind = 1 then (kidsAt ns p).flatMap (visAt ns) ++ [(p, true)] else [] := by
  have e : ns.length - p = (ns.length - p - 1) + 1 := by omega
  rw [visAt, e, vis, flatMap_congr' (fun k hk => vis_fuel s (ns.length - p - 1) (ns.length - k) k (kid_lt s hp hk).2 (by have := (kid_lt s hp hk).1; omega) (Nat.le_refl _))]
  rfl
theorem kids_none {ns : List Nd} (s : Shaped ns) {p : Nat} (hp : p < ns.length) (h : (ndAt ns p).kind ≠ 1) : kidsAt ns p = [] := by
  rw [ndAt_get hp] at h
  rw [kidsAt, ndAt_get hp, (s.2.1 p hp).2.1.resolve_left h]; rfl
theorem visAt_length {ns : List Nd} (s : Shaped ns) {p : Nat} (hp : p < ns.length) : (visAt ns p).length ≤ 2 + ((kidsAt ns p).map (fun k => (visAt ns k).length)).sum := by
  rw [visAt_eq s hp]
  split
  · rw [List.length_cons, List.length_append, List.length_flatMap]; simp; omega
  · simp; omega
theorem mem_kids {ns : List Nd} (s : Shaped ns) {z : Int} : z ∈ kidsTo ns ns.length ↔ 1 ≤ z ∧ z < ns.length := by
  constructor
  · intro hz
    rw [kidsTo_all, List.mem_flatMap] at hz
    obtain ⟨x, hx, hz⟩ := hz
    obtain ⟨i, hi, rfl⟩ := List.mem_iff_getElem.1 hx
    have := (s.2.1 i hi).2.2 z hz
    omega
  · rintro ⟨h1, h2⟩
    have := s.2.2 z.toNat (by omega) (by omega)
    rw [show ((z.toNat : Nat) : Int) = z by omega] at this
    exact List.count_pos_iff.1 (by omega)
theorem kids_perm {ns : List Nd} (s : Shaped ns) : ((kidsTo ns ns.length).map Int.toNat).Perm (List.range' 1 (ns.length - 1)) := by
  have h : (kidsTo ns ns.length).Perm ((List.range' 1 (ns.length - 1)).map (fun (k : Nat) => (k : Int))) := by
    refine (List.perm_ext_iff_of_nodup ?_ ?_).2 fun z => ?_
    · refine List.nodup_iff_count.2 fun z => ?_
      by_cases hz : z ∈ kidsTo ns ns.length
      · have hb := (mem_kids s).1 hz
        have := s.2.2 z.toNat (by omega) (by omega)
        rw [show ((z.toNat : Nat) : Int) = z by omega] at this
        omega
      · rw [List.count_eq_zero.2 hz]; omega
    · exact List.pairwise_map.2 ((List.nodup_range' (s := 1) (n := ns.length - 1)).imp (fun h e => h (by omega)))
    · rw [mem_kids s, List.mem_map]
      constructor
      · rintro ⟨h1, h2⟩
        exact ⟨z.toNat, by rw [List.mem_range'_1]; omega, by omega⟩
      · rintro ⟨k, hk, rfl⟩
        rw [List.mem_range'_1] at hk
        omega
  have h2 := h.map Int.toNat
  rw [List.map_map] at h2
  have e : (List.range' 1 (ns.length - 1)).map (Int.toNat ∘ fun (k : Nat) => (k : Int)) = List.range' 1 (ns.length - 1) := by
    conv => rhs; rw [← List.map_id (List.range' 1 (ns.length - 1))]
    apply List.map_congr_left
    intro k _
    simp
  rw [e] at h2
  exact h2
theorem kidsTo_nat {ns : List Nd} (i : Nat) (hi : i ≤ ns.length) : (kidsTo ns i).map Int.toNat = (List.range i).flatMap (kidsAt ns) := by
  induction i with
  | zero => rfl
  | succ i ih =>
    rw [kidsTo_next (by omega), List.map_append, ih (by omega), List.range_succ, List.flatMap_append, List.flatMap_singleton]
    congr 1
    rw [kidsAt, ndAt_get (by omega)]
theorem sum_le {ns : List Nd} (L : Nat → Nat) (i : Nat) (hi : i ≤ ns.length) (h : ∀ p, p < ns.length → L p ≤ 2 + ((kidsAt ns p).map L).sum) : ((List.range i).map L).sum ≤ 2 * i + (((List.range i).flatMap (kidsAt ns)).map L).sum := by
  induction i with
  | zero => simp
  | succ i ih =>
    have h1 := ih (by omega)
    have h2 := h i (by omega)
    rw [List.range_succ, List.flatMap_append, List.flatMap_singleton, List.map_append, List.map_append, List.sum_append_nat, List.sum_append_nat]
    simp only [List.map_cons, List.map_nil, List.sum_cons, List.sum_nil]
    omega
/-- The whole tree is gone over in two steps a node at most. -/
theorem visits_le {ns : List Nd} (s : Shaped ns) : (visAt ns 0).length ≤ 2 * ns.length := by
  have hz : 0 < ns.length := List.length_pos_iff.2 s.1
  have h1 := sum_le (fun p => (visAt ns p).length) ns.length (Nat.le_refl _) (fun p hp => visAt_length s hp)
  rw [← kidsTo_nat ns.length (Nat.le_refl _)] at h1
  have h2 := ((kids_perm s).map (fun p => (visAt ns p).length)).sum_nat
  rw [h2] at h1
  have e : List.range ns.length = 0 :: List.range' 1 (ns.length - 1) := by
    rw [List.range_eq_range', show ns.length = (ns.length - 1) + 1 by omega, List.range'_succ]
    simp
  rw [e, List.map_cons, List.sum_cons] at h1
  omega
/-- What is still to come behind a stack, its top last. -/
def unfold1 (ns : List Nd) (v : Nat × Bool) : List (Nat × Bool) := if v.2 = true then [v] else visAt ns v.1
def toCome (ns : List Nd) (st : List (Nat × Bool)) : List (Nat × Bool) := st.reverse.flatMap (unfold1 ns)
/-- The stack behind a visit. -/
def pushed (ns : List Nd) (v : Nat × Bool) : List (Nat × Bool) := if v.2 = false ∧ (ndAt ns v.1).kind = 1 then (v.1, true) :: (kidsAt ns v.1).reverse.map (fun k => (k, false)) else []
theorem toCome_snoc (ns : List Nd) (st : List (Nat × Bool)) (v : Nat × Bool) : toCome ns (st ++ [v]) = unfold1 ns v ++ toCome ns st := by simp [toCome]
theorem toCome_append (ns : List Nd) (st us : List (Nat × Bool)) : toCome ns (st ++ us) = toCome ns us ++ toCome ns st := by simp [toCome]
theorem toCome_kids (ns : List Nd) (ks : List Nat) : toCome ns (ks.reverse.map (fun k => (k, false))) = ks.flatMap (visAt ns) := by
  rw [toCome, ← List.map_reverse, List.reverse_reverse]
  induction ks with
  | nil => rfl
  | cons k ks ih => rw [List.map_cons, List.flatMap_cons, List.flatMap_cons, ih]; simp [unfold1]
theorem toCome_step {ns : List Nd} (s : Shaped ns) (st : List (Nat × Bool)) (v : Nat × Bool) (hv : v.1 < ns.length) : toCome ns (st ++ [v]) = v :: toCome ns (st ++ pushed ns v) := by
  rw [toCome_snoc, toCome_append, ← List.cons_append]
  congr 1
  obtain ⟨p, b⟩ := v
  unfold unfold1 pushed
  cases b with
  | true => simp [toCome]
  | false =>
    simp only [Bool.false_eq_true, if_false]
    rw [visAt_eq s hv]
    by_cases hk : (ndAt ns p).kind = 1
    · simp only [hk, true_and, if_true]
      have := toCome_append ns [(p, true)] ((kidsAt ns p).reverse.map (fun k => (k, false)))
      rw [List.singleton_append] at this
      rw [this, toCome_kids]
      simp [toCome, unfold1]
    · simp [hk, toCome]
theorem toCome_length_ge (ns : List Nd) (st : List (Nat × Bool)) (h : ∀ v ∈ st, v.1 < ns.length) : st.length ≤ (toCome ns st).length := by
  rw [toCome, List.length_flatMap]
  have key : ∀ us : List (Nat × Bool), (∀ v ∈ us, v.1 < ns.length) → us.length ≤ (us.map (fun a => (unfold1 ns a).length)).sum := by
    intro us hu
    induction us with
    | nil => simp
    | cons u us ih =>
      have h1 := ih (fun v hv => hu v (by simp [hv]))
      have h2 : 1 ≤ (unfold1 ns u).length := by
        unfold unfold1
        split
        · simp
        · have := hu u (by simp)
          have e : ns.length - u.1 = (ns.length - u.1 - 1) + 1 := by omega
          rw [visAt, e, vis]
          simp
      simp only [List.length_cons, List.map_cons, List.sum_cons]
      omega
  have := key st.reverse (fun v hv => h v (by simpa using hv))
  simpa using this
theorem pushed_lt {ns : List Nd} (s : Shaped ns) {v : Nat × Bool} (hv : v.1 < ns.length) : ∀ u ∈ pushed ns v, u.1 < ns.length := by
  intro u hu
  unfold pushed at hu
  split at hu
  · rcases List.mem_cons.1 hu with rfl | hu
    · exact hv
    · simp only [List.mem_map, List.mem_reverse] at hu
      obtain ⟨k, hk, rfl⟩ := hu
      exact (kid_lt s hv hk).2
  · simp at hu
end Go.Proofs.Ytghpekijimoicaa
