/-
  Arguments that are slices of anything with depth, opened: what the reading of such an argument says of memory. Plain laws over any program. No statement is proved here.
-/
import Derived.Test.YthnppodnjokaoabDat
import Derived.Deep.Strs
import Derived.OpenShut
namespace Go.Proofs.Ythnppodnjokaoab
open Go.RowKit

section
variable {H : Type} {enc : TypeId × Value → H} {P : Program} {w : World} {base : Nat} {spare : Nat → Bool} {held : Bool}

/-- A slice whose elements each read as f says. -/
theorem open_dat {α : Type} (f : α → List Dat) {sz : Nat} (hf : ∀ x, (f x).length = sz) (hz : 0 < sz) (good : α → Prop) {t e : TypeId} {a : Option Addr} {len cap : Nat} {x : DataW H × List MemPlace} (ht : P.underlying t = some (.slice e)) (hc : P.cellsOf e = sz)
    {fuel : Nat} (helem : ∀ n, n < fuel → ∀ cs y, DataW.trod enc P w base spare held n e cs = some y → ∃ z : α, good z ∧ ∀ j (hj : j < cs.length) (hj' : j < (f z).length), RD w cs[j] (f z)[j])
    (h : DataW.trod enc P w base spare held fuel t [.slice a len cap] = some x) :
    ∃ zs : List α, len = zs.length ∧ zs.length ≤ maxLen ∧ RD w (.slice a zs.length cap) (.sl zs.length (zs.flatMap f)) ∧ ∀ z ∈ zs, good z := by
  rcases DataW.trod_slice ht h with ⟨h0, _⟩ | ⟨a', l', c', elems, rest, n, hfu, h0, _, hb, hl, hm, hlen, hel, _, _⟩
  · simp only [List.cons.injEq, Value.slice.injEq, and_true] at h0
    obtain ⟨rfl, rfl, rfl⟩ := h0
    exact ⟨[], rfl, by simp [maxLen], .empty none 0, by simp⟩
  · simp only [List.cons.injEq, Value.slice.injEq, and_true] at h0
    obtain ⟨rfl, rfl, rfl⟩ := h0
    have each : ∀ k, k ≤ len → ∃ (zs : List α) (vs : List Value), zs.length = k ∧ vs.length = k * sz ∧ (∀ z ∈ zs, good z) ∧ (∀ i, i < vs.length → w.cell? (a'.add i) = vs[i]?) ∧ ∀ i (hi : i < vs.length) (hi' : i < (zs.flatMap f).length), RD w vs[i] (zs.flatMap f)[i] := by
      intro k
      induction k with
      | zero => intro _; exact ⟨[], [], rfl, by simp, by simp, fun i hi => by simp at hi, fun i hi => by simp at hi⟩
      | succ k ih =>
        intro hk
        obtain ⟨zs, vs, h1, h2, h3, h4, h5⟩ := ih (by omega)
        have key := hel k (by omega)
        rw [List.getElem?_eq_getElem (by omega)] at key
        obtain ⟨cs, hcs, htr⟩ := Option.bind_eq_some_iff.1 key
        obtain ⟨z, hz1, hz2⟩ := helem n (by omega) cs _ htr
        rw [hc] at hcs
        obtain ⟨_, hcl, hcell⟩ := World.cells?_some hcs
        have hfl : (zs.flatMap f).length = k * sz := by rw [flat_length hf, h1]
        refine ⟨zs ++ [z], vs ++ cs, by simp [h1], by rw [List.length_append, h2, hcl, Nat.add_mul]; omega, ?_, ?_, ?_⟩
        · intro y hy
          rcases List.mem_append.1 hy with hy | hy
          · exact h3 y hy
          · rw [List.mem_singleton.1 hy]; exact hz1
        · intro i hi
          by_cases hik : i < vs.length
          · rw [List.getElem?_append_left hik]; exact h4 i hik
          · rw [List.getElem?_append_right (by omega)]
            have hi2 : i - vs.length < sz := by rw [List.length_append, hcl] at hi; omega
            have := hcell (i - vs.length) hi2
            rw [Go.Deep.add_add] at this
            rw [← this]
            congr 2; omega
        · intro i hi hi'
          have e1 : (zs ++ [z]).flatMap f = zs.flatMap f ++ f z := by simp
          by_cases hik : i < vs.length
          · have := h5 i hik (by omega)
            simpa only [e1, List.getElem_append_left hik, List.getElem_append_left (show i < (zs.flatMap f).length by omega)] using this
          · have hi2 : i - vs.length < cs.length := by rw [List.length_append] at hi; omega
            have := hz2 (i - vs.length) hi2 (by rw [hf]; omega)
            simp only [e1, List.getElem_append_right (show vs.length ≤ i by omega), List.getElem_append_right (show (zs.flatMap f).length ≤ i by omega)]
            have e2 : i - (zs.flatMap f).length = i - vs.length := by omega
            simp only [e2]
            exact this
    obtain ⟨zs, vs, h1, h2, h3, h4, h5⟩ := each len (Nat.le_refl _)
    refine ⟨zs, h1.symm, by rw [h1]; exact Nat.le_trans hl hm, ?_, h3⟩
    by_cases h0 : zs = []
    · subst h0
      exact .empty _ _
    · have hpos : 0 < zs.length := List.length_pos_iff.2 h0
      have hv : 0 < vs.length := by rw [h2]; exact Nat.mul_pos (by omega) hz
      obtain ⟨b, off, spot⟩ := a'
      have c0 := h4 0 hv
      rw [List.getElem?_eq_getElem hv] at c0
      have hs : spot = none := by simpa [Addr.add] using World.cell?_spot c0
      subst hs
      refine .row b off _ cap _ vs (by rw [h1]; exact hl) (by simpa [Addr.add] using World.block_lt_of_cell? w _ c0) (by rw [flat_length hf, h1, h2]) (fun i hi => ?_) h5
      have := h4 i hi
      rwa [Addr.add_lit] at this

theorem open_int_cell {t : TypeId} (ht : P.underlying t = some (.int .i64)) {n : Nat} {v : Value} {y : DataW H × List MemPlace} (h : DataW.trod enc P w base spare held n t [v] = some y) : ∃ k : Int, v = .int .i64 k ∧ (Lit.int .i64 k).wf = true := by
  obtain ⟨k, e, _, hw⟩ := DataW.trod_int ht h
  exact ⟨k, by simpa using e, hw⟩
theorem open_string_cell {t : TypeId} (ht : P.underlying t = some .string) {n : Nat} {v : Value} {y : DataW H × List MemPlace} (h : DataW.trod enc P w base spare held n t [v] = some y) : ∃ s : ByteArray, v = .string s ∧ s.size ≤ maxLen := by
  obtain ⟨s, e, _, hs⟩ := DataW.trod_string ht h
  exact ⟨s, by simpa using e, hs⟩
theorem open_bool_cell {t : TypeId} (ht : P.underlying t = some .bool) {n : Nat} {v : Value} {y : DataW H × List MemPlace} (h : DataW.trod enc P w base spare held n t [v] = some y) : ∃ b : Bool, v = .bool b := by
  obtain ⟨b, e, _⟩ := DataW.trod_bool ht h
  exact ⟨b, by simpa using e⟩
theorem open_slice_cell {t e : TypeId} (ht : P.underlying t = some (.slice e)) {n : Nat} {v : Value} {y : DataW H × List MemPlace} (h : DataW.trod enc P w base spare held n t [v] = some y) : ∃ a len cap, v = .slice a len cap := by
  rcases DataW.trod_slice ht h with ⟨h0, _⟩ | ⟨a', l', c', _, _, _, _, h0, _⟩
  · exact ⟨none, 0, 0, by simpa using h0⟩
  · exact ⟨some a', l', c', by simpa using h0⟩
end
theorem agg_of1 {cs : Array Value} {n : Nat} (h : cs.size = n) (hn : n = 1) : ∃ u0, Value.agg cs = .agg #[u0] := by
  subst hn
  obtain ⟨l⟩ := cs
  match l, h with
  | [u0], _ => exact ⟨u0, rfl⟩
theorem agg_of3 {cs : Array Value} {n : Nat} (h : cs.size = n) (hn : n = 3) : ∃ u0 u1 u2, Value.agg cs = .agg #[u0, u1, u2] := by
  subst hn
  obtain ⟨l⟩ := cs
  match l, h with
  | [u0, u1, u2], _ => exact ⟨u0, u1, u2, rfl⟩
end Go.Proofs.Ythnppodnjokaoab
