/-
  Arguments that are slices of structs, opened: what the reading of such an argument says of memory. Plain laws over any program. No statement is proved here.
-/
import Derived.Test.YtkbnafmkgiknbacWordsMath
import Derived.Deep.Strs
import Derived.OpenShut
namespace Go.Proofs.Ytkbnafmkgiknbac
open Go.RowKit

section
variable {H : Type} {enc : TypeId × Value → H} {P : Program} {w : World} {base : Nat} {spare : Nat → Bool} {held : Bool}

/-- A slice whose elements each lie as E says: nil, or a row that reads as a list. -/
theorem open_enc {α : Type} (E : Enc α) (good : α → Prop) {t e : TypeId} {a : Option Addr} {len cap : Nat} {x : DataW H × List MemPlace} (ht : P.underlying t = some (.slice e)) (hc : P.cellsOf e = E.size)
    (helem : ∀ n cs y, DataW.trod enc P w base spare held n e cs = some y → ∃ z : α, cs = E.cells z ∧ good z)
    {fuel : Nat} (h : DataW.trod enc P w base spare held fuel t [.slice a len cap] = some x) :
    ∃ ws : List α, len = ws.length ∧ ws.length ≤ maxLen ∧ ReadsT E w a ws ∧ ∀ z ∈ ws, good z := by
  rcases Go.Deep.open_slice ht h with ⟨h0, _⟩ | ⟨a', l', c', m, n, D, Pl, h0, hb, hl, hm, hmm, _, hx⟩
  · simp only [List.cons.injEq, Value.slice.injEq, and_true] at h0
    obtain ⟨rfl, rfl, rfl⟩ := h0
    exact ⟨[], rfl, by simp [maxLen], .inl rfl, by simp⟩
  · simp only [List.cons.injEq, Value.slice.injEq, and_true] at h0
    obtain ⟨rfl, rfl, rfl⟩ := h0
    have hlm : len ≤ m := by rw [hmm]; split <;> omega
    have each : ∀ k, k ≤ len → ∃ ws : List α, ws.length = k ∧ (∀ z ∈ ws, good z) ∧ ∀ i (hi : i < ws.length) j, j < E.size → w.cell? (a'.add (i * E.size + j)) = (E.cells ws[i])[j]? := by
      intro k
      induction k with
      | zero => intro _; exact ⟨[], rfl, by simp, fun i hi => by simp at hi⟩
      | succ k ih =>
        intro hk
        obtain ⟨ws, h1, h2, h3⟩ := ih (by omega)
        obtain ⟨cs, hcs, htr⟩ := hx k (by omega)
        obtain ⟨z, rfl, hz⟩ := helem n cs _ htr
        rw [hc] at hcs
        obtain ⟨_, hcl, hcell⟩ := World.cells?_some hcs
        refine ⟨ws ++ [z], by simp [h1], ?_, ?_⟩
        · intro y hy
          rcases List.mem_append.1 hy with hy | hy
          · exact h2 y hy
          · rw [List.mem_singleton.1 hy]; exact hz
        · intro i hi j hj
          by_cases hik : i < ws.length
          · rw [List.getElem_append_left hik]; exact h3 i hik j hj
          · have : i = k := by simp at hi; omega
            subst this
            rw [List.getElem_append_right (by omega)]
            have := hcell j hj
            rw [Go.Deep.add_add] at this
            rw [this]
            simp [h1]
    obtain ⟨ws, h1, h2, h3⟩ := each len (Nat.le_refl _)
    refine ⟨ws, h1.symm, by rw [h1]; exact Nat.le_trans hl hm, ?_, h2⟩
    by_cases h0 : ws = []
    · exact .inl h0
    · have hpos : 0 < ws.length := List.length_pos_iff.2 h0
      obtain ⟨b, off, spot⟩ := a'
      have hne : 0 < (E.cells ws[0]).length := by rw [E.len]; exact E.pos
      have c0 := h3 0 hpos 0 E.pos
      rw [List.getElem?_eq_getElem hne] at c0
      have hs : spot = none := by simpa [Addr.add] using World.cell?_spot c0
      subst hs
      refine .inr ⟨b, off, rfl, by simpa [Addr.add] using World.block_lt_of_cell? w _ c0, fun i hi => ?_⟩
      have hp := E.pos
      have hq : i / E.size < ws.length := Nat.div_lt_of_lt_mul (by rw [Nat.mul_comm]; exact hi)
      have hr : i % E.size < E.size := Nat.mod_lt _ hp
      have e : i = i / E.size * E.size + i % E.size := by rw [Nat.mul_comm]; exact (Nat.div_add_mod i E.size).symm
      have h4 := h3 (i / E.size) hq (i % E.size) hr
      rw [← e, Addr.add_lit] at h4
      rw [h4]
      conv => rhs; rw [e]
      rw [E.row_get hq hr]

/-- A word among the cells of a slice. -/
theorem open_word {e : TypeId} {f0 f1 f2 : Field} (he : P.underlying e = some (.struct #[f0, f1, f2])) (o0 : f0.offset = 0) (o1 : f1.offset = 1) (o2 : f2.offset = 2) (t0 : P.underlying f0.type = some (.int .i64)) (t1 : P.underlying f1.type = some (.int .i64)) (t2 : P.underlying f2.type = some .string)
    (c0 : P.cellsOf f0.type = 1) (c1 : P.cellsOf f1.type = 1) (c2 : P.cellsOf f2.type = 1) (hc : P.cellsOf e = 3) (n : Nat) (cs : List Value) (y : DataW H × List MemPlace) (h : DataW.trod enc P w base spare held n e cs = some y) :
    ∃ z : Wd, cs = wdE.cells z ∧ z.text.size ≤ maxLen := by
  obtain ⟨y0, y1, y2, m, _, hl, h0, h1, h2⟩ := Go.Deep.trod_struct3 he h
  rw [hc] at hl
  match cs, hl with
  | [v0, v1, v2], _ =>
    rw [o0, c0] at h0
    rw [o1, c1] at h1
    rw [o2, c2] at h2
    obtain ⟨k0, e0, _⟩ := DataW.trod_int t0 h0
    obtain ⟨k1, e1, _⟩ := DataW.trod_int t1 h1
    obtain ⟨s, e2, _, hs⟩ := DataW.trod_string t2 h2
    simp at e0 e1 e2
    subst e0; subst e1; subst e2
    exact ⟨⟨k0, k1, s⟩, rfl, hs⟩
end
end Go.Proofs.Ytkbnafmkgiknbac
