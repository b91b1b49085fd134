/-
  The flags of parts that are found round by round: what a walk of leastParts wants to know. No statement is proved here.
-/
import Derived.Test.YtdniejpblhbjkabFlagT
import Derived.Test.YtdniejpblhbjkabLeastMath
import Derived.Test.YtdniejpblhbjkabHGram
import Derived.Deep.LoopGhost
namespace Go.Proofs.Ytdniejpblhbjkab
open Go.RowKit

theorem eq_flags27 {w : World} {cs bs : List Bool} (h1 : cs.length = 27) (h2 : bs.length = 27) : (Op.equalIn 10000 47 (aggB cs) (aggB bs)).run Try.prog w = .ok (decide (cs = bs)) w := run_eq_flags 9998 u_flags u_bool bool_size h1 h2
theorem guard_flags : Try.prog.eqGuardType Try.prog.depth 47 = false := by kernel_rfl

/-- One row's step. -/
theorem emS_raises (p : List Bool → List Int → Bool) (P : List (List (List Int))) : Raises (emS p) P 27 := fun k _ i _ T hT => ⟨by rw [emS, bstep_length]; exact hT, bstep_or _ _⟩
theorem emS_yes {p : List Bool → List Int → Bool} {k : Nat} {row : List Int} {T : List Bool} (h : T.getD k false = true) : emS p k row T = T.set k true := by simp only [emS, bstep, h, Bool.true_or]
theorem emS_no {p : List Bool → List Int → Bool} {k : Nat} {row : List Int} {T : List Bool} (h : T.getD k false = false) : emS p k row T = T.set k (p T row) := by simp only [emS, bstep, h, Bool.false_or]

theorem at27 {T : List Bool} (hl : T.length = 27) : BitT Try.prog 47 T.length := by rw [hl]; exact bt_flags
theorem ahead_facts {n1 : Nat} {w2 wr w3 w4 : World} {t : TypeId} {T : List Bool} (hbel : Below n1 w2 wr) (hn : n1 < wr.heap.size) (hBT : Bits wr n1 t T) (hb3 : Below wr.heap.size wr w3) (hs3 : w3.heap.size = wr.heap.size + 1) (hTl : T.length = 27) (hB4 : Bits w4 wr.heap.size 47 (putB (List.replicate 27 false) 0 T)) (hg4 : w3.grownBy w4 (some wr.heap.size)) :
    Below n1 w2 w4 ∧ Bits w4 n1 t T ∧ Bits w4 wr.heap.size 47 T := by
  have e : putB (List.replicate 27 false) 0 T = T := putB_whole (by simp [hTl])
  rw [e] at hB4
  refine ⟨?_, ?_, hB4⟩
  · exact (hbel.trans (hb3.mono (by omega))).grown hg4 (by omega) (fun k hk => by cases hk; omega)
  · exact (hBT.later hb3).grown hg4 (by intro h; cases h; omega)
theorem ret_cell {fn : Func} {p : Tmp} {tmps : Array Value} {w : World} {g : Nat} {t : TypeId} {bs : List Bool} (ty : TypeId) (h : fn.results = #[.cell p ty]) (hp : tmps.getD p undef = .pointer (some ⟨g, 0, none⟩)) (hB : Bits w g t bs) (hT : BitT Try.prog ty bs.length) : (results fn tmps).run Try.prog w = .ok (aggB bs) w := by
  obtain ⟨d, hu, hd⟩ := hT.desc
  exact results_cell_row h tmps w g t (cellsB bs) (0, 0) d hp hB hu (by cases d <;> first | rfl | cases hd) (by rw [cellsB_size]; exact hT.size)

end Go.Proofs.Ytdniejpblhbjkab
