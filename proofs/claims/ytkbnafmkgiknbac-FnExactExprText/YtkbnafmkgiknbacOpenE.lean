/-
  Arguments that are expressions or lists of rules, opened. Plain laws over any program. No statement is proved here.
-/
import Derived.Test.YtkbnafmkgiknbacOpenD
import Derived.Test.YtkbnafmkgiknbacToRule
namespace Go.Proofs.Ytkbnafmkgiknbac
open Go.RowKit

section
variable {H : Type} {enc : TypeId × Value → H} {P : Program} {w : World} {base : Nat} {spare : Nat → Bool} {held : Bool}

/-- How the types of expressions lie. -/
structure ExTypes (P : Program) (e s : TypeId) : Prop where
  under : ∃ f0 f1 f2 : Field, P.underlying e = some (.struct #[f0, f1, f2]) ∧ (f0.offset = 0 ∧ f1.offset = 1 ∧ f2.offset = 2) ∧ P.underlying f0.type = some (.int .i64) ∧ P.underlying f1.type = some .string ∧ f2.type = s ∧ P.cellsOf f0.type = 1 ∧ P.cellsOf f1.type = 1 ∧ P.cellsOf f2.type = 1
  slice : P.underlying s = some (.slice e)
  cells : P.cellsOf e = 3

/-- An expression's three cells, and what lies behind the third. -/
theorem open_ex_cells {e s : TypeId} (T : ExTypes P e s) {n : Nat} {cs : List Value} {y : DataW H × List MemPlace} (h : DataW.trod enc P w base spare held n e cs = some y) :
    ∃ (k : Int) (t : ByteArray) (a : Option Addr) (len cap m : Nat) (y' : DataW H × List MemPlace), cs = [.int .i64 k, .string t, .slice a len cap] ∧ t.size ≤ maxLen ∧ m < n ∧ DataW.trod enc P w base spare held m s [.slice a len cap] = some y' := by
  obtain ⟨f0, f1, f2, hu, ⟨o0, o1, o2⟩, t0, t1, t2, c0, c1, c2⟩ := T.under
  obtain ⟨xs, m, hfu, _, hl, hlen, hf⟩ := DataW.trod_struct hu h
  rw [T.cells] at hl
  match xs, hlen, cs, hl with
  | [y0, y1, y2], _, [v0, v1, v2], _ =>
    have h0 : DataW.trod enc P w base spare held m f0.type [v0] = some y0 := by have := hf 0 f0 rfl; rw [o0, c0] at this; simpa using this
    have h1 : DataW.trod enc P w base spare held m f1.type [v1] = some y1 := by have := hf 1 f1 rfl; rw [o1, c1] at this; simpa using this
    have h2 : DataW.trod enc P w base spare held m f2.type [v2] = some y2 := by have := hf 2 f2 rfl; rw [o2, c2] at this; simpa using this
    rw [t2] at h2
    obtain ⟨k, rfl, _⟩ := open_int_cell t0 h0
    obtain ⟨t, rfl, ht⟩ := open_string_cell t1 h1
    obtain ⟨a, len, cap, rfl⟩ := open_slice_cell T.slice h2
    exact ⟨k, t, a, len, cap, m, y2, rfl, ht, by omega, h2⟩

theorem Ex.fitL_of {xs : List Ex} (h : ∀ x ∈ xs, x.fit) : Ex.fitL xs := by
  induction xs with
  | nil => simp [Ex.fitL]
  | cons x xs ih => simp only [Ex.fitL]; exact ⟨h x (by simp), ih fun y hy => h y (by simp [hy])⟩

theorem open_exs {e s : TypeId} (T : ExTypes P e s) : ∀ (N fuel : Nat), fuel < N → ∀ {a : Option Addr} {len cap : Nat} {x : DataW H × List MemPlace}, DataW.trod enc P w base spare held fuel s [.slice a len cap] = some x →
    ∃ xs : List Ex, len = xs.length ∧ xs.length ≤ maxLen ∧ RD w (.slice a xs.length cap) (exD xs) ∧ Ex.fitL xs := by
  intro N
  induction N with
  | zero => intro fuel h; omega
  | succ N ih =>
    intro fuel hfu a len cap x h
    obtain ⟨zs, h1, h2, h3, h4⟩ := open_dat Ex.cells Ex.cells_len (by decide) Ex.fit T.slice T.cells (fun n hn cs y hy => by
      obtain ⟨k, t, a', l', c', m, y', rfl, ht, hm, hy'⟩ := open_ex_cells T hy
      obtain ⟨ks, rfl, g2, g3, g4⟩ := ih m (by omega) hy'
      refine ⟨.mk k t ks, (Ex.fit_eq _).2 ⟨ht, g2, g4⟩, fun j hj hj' => ?_⟩
      simp only [Ex.cells_eq, Ex.kind_mk, Ex.text_mk, Ex.kids_mk]
      match j, hj with
      | 0, _ => exact .val _
      | 1, _ => exact .val _
      | 2, _ => exact g3) h
    exact ⟨zs, h1, h2, h3, Ex.fitL_of h4⟩

/-- An expression that is an argument. -/
theorem open_ex {e s : TypeId} (T : ExTypes P e s) {n : Nat} {v : Value} {y : DataW H × List MemPlace} (h : DataW.trod enc P w base spare held n e v.cells.toList = some y) (hv : ∃ u0 u1 u2, v = .agg #[u0, u1, u2]) :
    ∃ (x : Ex) (a : Option Addr) (c : Nat), v = .agg #[.int .i64 x.kind, .string x.text, .slice a x.kids.length c] ∧ x.fit ∧ RD w (.slice a x.kids.length c) (exD x.kids) := by
  obtain ⟨u0, u1, u2, rfl⟩ := hv
  obtain ⟨k, t, a, len, cap, m, y', hcs, ht, _, hy'⟩ := open_ex_cells T h
  obtain ⟨ks, rfl, g2, g3, g4⟩ := open_exs T (m + 1) m (by omega) hy'
  refine ⟨.mk k t ks, a, cap, ?_, (Ex.fit_eq _).2 ⟨ht, g2, g4⟩, g3⟩
  simp only [Value.cells] at hcs
  simp at hcs
  obtain ⟨rfl, rfl, rfl⟩ := hcs
  rfl

/-- How the types of rules lie. -/
structure RuTypes (P : Program) (r rs e s : TypeId) : Prop where
  ex : ExTypes P e s
  under : ∃ f0 f1 : Field, P.underlying r = some (.struct #[f0, f1]) ∧ (f0.offset = 0 ∧ f1.offset = 1) ∧ P.underlying f0.type = some .string ∧ f1.type = e ∧ P.cellsOf f0.type = 1
  slice : P.underlying rs = some (.slice r)
  cells : P.cellsOf r = 4

theorem Rl.fitL_of {xs : List Rl} (h : ∀ x ∈ xs, x.fit) : Rl.fitL xs := by
  induction xs with
  | nil => simp [Rl.fitL]
  | cons x xs ih => simp only [Rl.fitL]; exact ⟨h x (by simp), ih fun y hy => h y (by simp [hy])⟩

theorem open_rules {r rs e s : TypeId} (T : RuTypes P r rs e s) {fuel : Nat} {a : Option Addr} {len cap : Nat} {x : DataW H × List MemPlace} (h : DataW.trod enc P w base spare held fuel rs [.slice a len cap] = some x) :
    ∃ xs : List Rl, len = xs.length ∧ xs.length ≤ maxLen ∧ RD w (.slice a xs.length cap) (ruD xs) ∧ Rl.fitL xs := by
  obtain ⟨zs, h1, h2, h3, h4⟩ := open_dat Rl.cells Rl.cells_len (by decide) Rl.fit T.slice T.cells (fun n hn cs y hy => by
    obtain ⟨f0, f1, hu, ⟨o0, o1⟩, t0, t1, c0⟩ := T.under
    obtain ⟨ys, m, hfu, _, hl, hlen, hf⟩ := DataW.trod_struct hu hy
    rw [T.cells] at hl
    match ys, hlen, cs, hl with
    | [y0, y1], _, [v0, v1, v2, v3], _ =>
      have g0 : DataW.trod enc P w base spare held m f0.type [v0] = some y0 := by have := hf 0 f0 rfl; rw [o0, c0] at this; simpa using this
      have g1 : DataW.trod enc P w base spare held m e [v1, v2, v3] = some y1 := by have := hf 1 f1 rfl; rw [o1, t1, T.ex.cells] at this; simpa using this
      obtain ⟨nm, rfl, hnm⟩ := open_string_cell t0 g0
      obtain ⟨k, t, a', l', c', m', y', hcs, ht, hm, hy'⟩ := open_ex_cells T.ex g1
      obtain ⟨ks, rfl, g2, g3, g4⟩ := open_exs T.ex (m' + 1) m' (by omega) hy'
      simp at hcs
      obtain ⟨rfl, rfl, rfl⟩ := hcs
      refine ⟨⟨nm, .mk k t ks⟩, ⟨hnm, (Ex.fit_eq _).2 ⟨ht, g2, g4⟩⟩, fun j hj hj' => ?_⟩
      simp only [Rl.cells, Ex.kind_mk, Ex.text_mk, Ex.kids_mk]
      match j, hj with
      | 0, _ => exact .val _
      | 1, _ => exact .val _
      | 2, _ => exact .val _
      | 3, _ => exact g3) h
  exact ⟨zs, h1, h2, h3, Rl.fitL_of h4⟩
end
end Go.Proofs.Ytkbnafmkgiknbac
