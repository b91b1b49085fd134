/-
  Contract of spec.RunNew over this translation. No statement is proved here.
-/
import Derived.Test.YthnppodnjokaoabRunNewRes
namespace Go.Proofs.Ythnppodnjokaoab
open Go.RowKit

theorem slots_one (w : World) : OD (w.alloc (.cells #[.int .i64 100, .int .i64 (-1)] 44)) w.heap.size (.slice (some ⟨w.heap.size, 0, none⟩) 1 1) (slD Lay.slot [⟨100, -1⟩]) (fun k => k = w.heap.size) := by
  refine .row 44 2 w.heap.size 1 1 _ [.int .i64 100, .int .i64 (-1)] (fun _ _ => False) _ (World.ownsRow_lit w #[.int .i64 100, .int .i64 (-1)] 1 (Nat.le_refl _) (by simp [maxLen]) rfl) rfl ?_ (fun _ _ _ _ _ _ h => h.elim) (fun _ _ h => h) (fun k => by simp)
  intro i hi hi'
  match i, hi with
  | 0, _ => exact .val _
  | 1, _ => exact .val _

set_option maxRecDepth 100000 in
theorem specRunNew_any (w : World) :
    Calls Try.prog 5 #[] w fun e w' => ∃ a4 c4 a5 c5 a6 c6 S, e = .returned (.agg #[.int .i64 resRunNew.code, .int .i64 resRunNew.pl, .int .i64 resRunNew.look, .int .i64 resRunNew.cost, .slice a4 resRunNew.slots.length c4, .slice a5 resRunNew.tree.nodes.length c5, .slice a6 resRunNew.errs.length c6]) ∧ Cells w' w.heap.size [.int .i64 resRunNew.code, .int .i64 resRunNew.pl, .int .i64 resRunNew.look, .int .i64 resRunNew.cost, .slice a4 resRunNew.slots.length c4, .slice a5 resRunNew.tree.nodes.length c5, .slice a6 resRunNew.errs.length c6] (Lay.run.cells resRunNew) S ∧ Below w.heap.size w w' := by
  show Calls _ _ _ _ fun e w' => ∃ a4 c4 a5 c5 a6 c6 S, e = .returned (.agg #[.int .i64 0, .int .i64 0, .int .i64 0, .int .i64 0, .slice a4 1 c4, .slice a5 0 c5, .slice a6 0 c6]) ∧ Cells w' w.heap.size [.int .i64 0, .int .i64 0, .int .i64 0, .int .i64 0, .slice a4 1 c4, .slice a5 0 c5, .slice a6 0 c6] [.val (.int .i64 0), .val (.int .i64 0), .val (.int .i64 0), .val (.int .i64 0), slD Lay.slot [⟨100, -1⟩], slD Lay.node [], slD Lay.err []] S ∧ Below w.heap.size w w'
  go_enter Try.func5, Try.ntmps5
  go_wp2
  refine bodyPost_ret (v := .agg #[.int .i64 0, .int .i64 0, .int .i64 0, .int .i64 0, .slice (some ⟨w.heap.size + 1, 0, none⟩) 1 1, .slice none 0 0, .slice none 0 0]) (by simp [results, Try.results5, go_sem]) rfl ?_
  have h1 : Holds w (w.alloc (.cells #[.int .i64 0, .int .i64 0, .int .i64 0, .int .i64 0, .slice (some ⟨w.heap.size + 1, 0, none⟩) 1 1, .slice none 0 0, .slice none 0 0] 28)) [] [] := (Holds.start w).later ((Below.refl _ _).alloc (Nat.le_refl _) _)
  have h2 := (h1.plain [.int .i64 0, .int .i64 0, .int .i64 0, .int .i64 0]).snoc ((Below.refl _ _).alloc (Nat.le_refl _) (.cells #[.int .i64 100, .int .i64 (-1)] 44)) (Cells.one (slots_one _))
  have h3 := (h2.snoc (Below.refl _ _) (Cells.one (OD.nil 0 rfl : OD _ _ (.slice none 0 0) (slD Lay.node []) _))).snoc (Below.refl _ _) (Cells.one (OD.nil 0 rfl : OD _ _ (.slice none 0 0) (slD Lay.err []) _))
  obtain ⟨S, hS⟩ := h3.cells
  simp only [World.size_alloc] at hS
  exact ⟨_, _, _, _, _, _, S, rfl, hS, h3.below⟩
end Go.Proofs.Ythnppodnjokaoab
