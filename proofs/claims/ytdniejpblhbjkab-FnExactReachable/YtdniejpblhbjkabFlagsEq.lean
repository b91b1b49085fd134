/-
  Rows of flags are compared as wholes, and put together. Plain laws over any program. No statement is proved here.
-/
import Derived.Test.YtdniejpblhbjkabFlags
namespace Go.Proofs.Ytdniejpblhbjkab
open Go.RowKit
section
variable {P : Program}
theorem run_items_of {e : TypeId} {c d : Nat} {xs ys : Array Value} {w : World} {r : Nat → Bool} : ∀ is : List Nat, (∀ i ∈ is, ∃ x y, (part e xs (i * c)).run P w = .ok x w ∧ (part e ys (i * c)).run P w = .ok y w ∧ (Op.equalIn d e x y).run P w = .ok (r i) w) → (Op.eqItems d e c xs ys is).run P w = .ok (is.all r) w
  | [], _ => by simp [Op.eqItems]
  | i :: is, h => by
    obtain ⟨x, y, h1, h2, h3⟩ := h i List.mem_cons_self
    have ih := run_items_of is (fun j hj => h j (List.mem_cons_of_mem _ hj))
    rw [Op.eqItems]
    simp only [Sem.run_bind, h1, h2, h3, Result.andThen_ok, List.all_cons]
    cases r i
    · simp
    · simp only [Bool.not_true, Bool.false_eq_true, if_false, Bool.true_and]; exact ih
theorem all_range_eq {as bs : List Bool} {n : Nat} (ha : as.length = n) (hb : bs.length = n) : ((List.range n).all fun i => as.getD i false == bs.getD i false) = decide (as = bs) := by
  rw [Bool.eq_iff_iff]
  simp only [List.all_eq_true, List.mem_range, beq_iff_eq, decide_eq_true_eq]
  constructor
  · intro h; exact list_ext_getD (by omega) (fun i hi => h i (by omega))
  · rintro rfl; exact fun _ _ => rfl
/-- Arrays of bools. -/
theorem run_eq_flags {ty e : TypeId} {n : Nat} {w : World} (d : Nat) (hu : P.underlying ty = some (.array n e)) (he : P.underlying e = some .bool) (hz : (P.info? e).map (·.size) = some 1) {as bs : List Bool} (ha : as.length = n) (hb : bs.length = n) :
    (Op.equalIn (d + 2) ty (aggB as) (aggB bs)).run P w = .ok (decide (as = bs)) w := by
  cases hq : P.info? e with
  | none => simp [hq] at hz
  | some j =>
    have hc : P.cellsOf e = 1 := by rw [Program.cellsOf, hz]; rfl
    unfold aggB
    rw [run_equalIn_array w (d + 1) _ _ hu hq, hc, run_items_of (r := fun i => as.getD i false == bs.getD i false), all_range_eq ha hb]
    intro i hi
    rw [List.mem_range] at hi
    have hx : (cellsB as)[i]? = some (.bool (as.getD i false)) := by rw [cellsB_get]; simp [List.getD, ha, hi]
    have hy : (cellsB bs)[i]? = some (.bool (bs.getD i false)) := by rw [cellsB_get]; simp [List.getD, hb, hi]
    have hg : (isAgg e).run P w = .ok false w := by simp [isAgg, run_underlying he]
    refine ⟨.bool (as.getD i false), .bool (bs.getD i false), ?_, ?_, run_equalIn_bool w d e _ _ he⟩
    · simp only [part, Sem.run_bind, hg, Result.andThen_ok, Nat.mul_one, hx]; rfl
    · simp only [part, Sem.run_bind, hg, Result.andThen_ok, Nat.mul_one, hy]; rfl
theorem chunks_eq {as bs : List Bool} {n m : Nat} (ha : as.length = m * n) (hb : bs.length = m * n) : ((List.range m).all fun i => decide ((as.drop (i * n)).take n = (bs.drop (i * n)).take n)) = decide (as = bs) := by
  rw [Bool.eq_iff_iff]
  simp only [List.all_eq_true, List.mem_range, decide_eq_true_eq]
  constructor
  · intro h
    apply list_ext_getD (by omega)
    intro i hi
    have hn : 0 < n := by
      rcases Nat.eq_zero_or_pos n with e | e
      · subst e; omega
      · exact e
    have h1 : i / n < m := by
      rw [Nat.div_lt_iff_lt_mul hn]; omega
    have h2 := h (i / n) h1
    have h3 := congrArg (fun l : List Bool => l.getD (i % n) false) h2
    have h4 := Nat.mod_lt i hn
    have h5 : i / n * n + i % n = i := by rw [Nat.mul_comm]; exact Nat.div_add_mod i n
    simpa [List.getD, List.getElem?_take, h4, h5] using h3
  · rintro rfl; exact fun _ _ => rfl
/-- Arrays of arrays of bools. -/
theorem run_eq_table {ty e e2 : TypeId} {n m : Nat} {w : World} (d : Nat) (hu : P.underlying ty = some (.array m e)) (he : P.underlying e = some (.array n e2)) (he2 : P.underlying e2 = some .bool) (hz : (P.info? e).map (·.size) = some n) (hz2 : (P.info? e2).map (·.size) = some 1) {as bs : List Bool} (ha : as.length = m * n) (hb : bs.length = m * n) :
    (Op.equalIn (d + 3) ty (aggB as) (aggB bs)).run P w = .ok (decide (as = bs)) w := by
  cases hq : P.info? e with
  | none => simp [hq] at hz
  | some j =>
    have hc : P.cellsOf e = n := by rw [Program.cellsOf, hz]; rfl
    have hs : (sizeOf e).run P w = .ok n w := by rw [run_sizeOf w hq, hc]
    have hg : (isAgg e).run P w = .ok true w := by simp [isAgg, run_underlying he]
    have hp : ∀ (cs : List Bool) (i : Nat), (part e (cellsB cs) (i * n)).run P w = .ok (aggB ((cs.drop (i * n)).take n)) w := by
      intro cs i
      have hx : (cellsB cs).extract (i * n) (i * n + n) = cellsB ((cs.drop (i * n)).take n) := by
        apply Array.ext_getElem?
        intro k
        rw [cellsB_get, Array.getElem?_extract]
        simp only [List.getElem?_take, List.getElem?_drop, cellsB_get]
        rw [cellsB_size]
        by_cases g : k < n
        · by_cases g2 : i * n + k < cs.length
          · rw [if_pos (by omega), if_pos g]
          · rw [if_neg (by omega), if_pos g, List.getElem?_eq_none (by omega)]; rfl
        · rw [if_neg (by omega), if_neg g]; rfl
      simp only [part, Sem.run_bind, hg, Result.andThen_ok, if_true, hs, hx]
      rfl
    unfold aggB
    rw [run_equalIn_array w (d + 2) _ _ hu hq, hc, run_items_of (r := fun i => decide ((as.drop (i * n)).take n = (bs.drop (i * n)).take n)), chunks_eq ha hb]
    intro i hi
    rw [List.mem_range] at hi
    have hin : i * n + n ≤ m * n := by
      have := Nat.mul_le_mul_right n (show i + 1 ≤ m by omega)
      rw [Nat.succ_mul] at this; exact this
    refine ⟨_, _, hp as i, hp bs i, run_eq_flags d he he2 hz2 ?_ ?_⟩
    · rw [List.length_take, List.length_drop]; omega
    · rw [List.length_take, List.length_drop]; omega
theorem exec_eqlB {ρ : Operand → Value} {o : Oper} {w : World} {ty rt : TypeId} {x y : Operand} {as bs : List Bool} (ho : o.op = .binOp .eql ty x y rt) (hx : ρ x = aggB as) (hy : ρ y = aggB bs) (hg : P.eqGuardType P.depth ty = false) (he : (Op.equalIn 10000 ty (aggB as) (aggB bs)).run P w = .ok (decide (as = bs)) w) :
    (execOp ρ o).run P w = .ok (.value (.bool (decide (as = bs)))) w := by
  unfold execOp
  unfold aggB at *
  simp only [ho, hx, hy, Sem.run_bind, run_eqGuard_agg w _ _ _ _ _ _ hg, Result.andThen_ok, run_eql_struct, he, Sem.run_pure]
/-- Parts are put together. -/
theorem zip_putL (cs : List Bool) : ∀ (bs : List Bool) (o k : Nat), ((cs.map Value.bool).zipIdx k).foldl (fun (ys : Array Value) (p : Value × Nat) => ys.setIfInBounds (o + p.2) p.1) (cellsB bs) = cellsB (putB bs (o + k) cs) := by
  induction cs with
  | nil => intro bs o k; rfl
  | cons v r ih =>
    intro bs o k
    have h := ih (bs.set (o + k) v) o (k + 1)
    have e : cellsB (bs.set (o + k) v) = (cellsB bs).setIfInBounds (o + k) (.bool v) := by simp [cellsB, List.map_set]
    rw [putB, show o + k + 1 = o + (k + 1) by omega, ← h, List.map_cons, List.zipIdx_cons, List.foldl_cons, e]
theorem zip_put (cs bs : List Bool) (o k : Nat) : ((cellsB cs).zipIdx k).foldl (fun (ys : Array Value) (p : Value × Nat) => ys.setIfInBounds (o + p.2) p.1) (cellsB bs) = cellsB (putB bs (o + k) cs) := by
  rw [← zip_putL cs bs o k, ← Array.foldl_toList]
  congr 1
  simp [cellsB]
theorem fill_put {place : Nat → Option (Nat × Nat)} {bs cs : List Bool} {i off : Nat} {rest : List (Nat × Value)} (h : place i = some (off, cs.length)) (hn : off + cs.length ≤ bs.length) : Instr.fill place (cellsB bs) ((i, aggB cs) :: rest) = Instr.fill place (cellsB (putB bs off cs)) rest := by
  have z := zip_put cs bs off 0
  rw [Instr.fill, h]
  simp only [aggB, Value.cells, cellsB_size]
  rw [if_neg (by simp; omega)]
  congr 1
end
end Go.Proofs.Ytdniejpblhbjkab
