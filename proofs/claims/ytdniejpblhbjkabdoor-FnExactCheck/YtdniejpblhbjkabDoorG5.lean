/-
  Contracts and plain mathematics, joined: FlagsEq, FlagT, GrowMath, BitMath, FirstsClosed, LeastMath, EmBase, LPartsP, LPartsE, EmptiesOf, EmptiesMath, ProductiveOf. No statement is proved here.
-/
import Derived.Test.YtdniejpblhbjkabDoorG4
import Derived.Test.YtdniejpblhbjkabDoorG2
import Derived.Test.YtdniejpblhbjkabDoorG1
import Derived.Deep.LoopGhost
namespace Go.Proofs.YtdniejpblhbjkabDoor
open Go.RowKit
section
variable {P : Program}
theorem run_items_of {e : TypeId} {c d : Nat} {xs ys : Array Value} {w : World} {r : Nat → Bool} : ∀ is : List Nat, (∀ i ∈ is, ∃ x y, (part e xs (i * c)).run P w = .ok x w ∧ (part e ys (i * c)).run P w = .ok y w ∧ (Op.equalIn d e x y).run P w = .ok (r i) w) → (Op.eqItems d e c xs ys is).run P w = .ok (is.all r) w
  | [], _ => by simp [Op.eqItems]
  | i :: is, h => by
    obtain ⟨x, y, h1, h2, h3⟩ := h i List.mem_cons_self
    have ih := run_items_of is (fun j hj => h j (List.mem_cons_of_mem _ hj))
    rw [Op.eqItems]
    simp only [Sem.run_bind, h1, h2, h3, Result.andThen_ok, List.all_cons]
    cases r i
    · simp
    · simp only [Bool.not_true, Bool.false_eq_true, if_false, Bool.true_and]; exact ih
theorem all_range_eq {us bs : List Bool} {n : Nat} (ha : us.length = n) (hb : bs.length = n) : ((List.range n).all fun i => us.getD i false == bs.getD i false) = decide (us = bs) := by
  rw [Bool.eq_iff_iff]
  simp only [List.all_eq_true, List.mem_range, beq_iff_eq, decide_eq_true_eq]
  constructor
  · intro h; exact list_ext_getD (by omega) (fun i hi => h i (by omega))
  · rintro rfl; exact fun _ _ => rfl
/-- Arrays of bools. -/
theorem run_eq_flags {ty e : TypeId} {n : Nat} {w : World} (d : Nat) (hu : P.underlying ty = some (.array n e)) (he : P.underlying e = some .bool) (hz : (P.info? e).map (·.size) = some 1) {us bs : List Bool} (ha : us.length = n) (hb : bs.length = n) :
    (Op.equalIn (d + 2) ty (aggB us) (aggB bs)).run P w = .ok (decide (us = bs)) w := by
  cases hq : P.info? e with
  | none => simp [hq] at hz
  | some j =>
    have hc : P.cellsOf e = 1 := by rw [Program.cellsOf, hz]; rfl
    unfold aggB
    rw [run_equalIn_array w (d + 1) _ _ hu hq, hc, run_items_of (r := fun i => us.getD i false == bs.getD i false), all_range_eq ha hb]
    intro i hi
    rw [List.mem_range] at hi
    have hx : (cellsB us)[i]? = some (.bool (us.getD i false)) := by rw [cellsB_get]; simp [List.getD, ha, hi]
    have hy : (cellsB bs)[i]? = some (.bool (bs.getD i false)) := by rw [cellsB_get]; simp [List.getD, hb, hi]
    have hg : (isAgg e).run P w = .ok false w := by simp [isAgg, run_underlying he]
    refine ⟨.bool (us.getD i false), .bool (bs.getD i false), ?_, ?_, run_equalIn_bool w d e _ _ he⟩
    · simp only [part, Sem.run_bind, hg, Result.andThen_ok, Nat.mul_one, hx]; rfl
    · simp only [part, Sem.run_bind, hg, Result.andThen_ok, Nat.mul_one, hy]; rfl
theorem chunks_eq {us bs : List Bool} {n m : Nat} (ha : us.length = m * n) (hb : bs.length = m * n) : ((List.range m).all fun i => decide ((us.drop (i * n)).take n = (bs.drop (i * n)).take n)) = decide (us = bs) := by
  rw [Bool.eq_iff_iff]
  simp only [List.all_eq_true, List.mem_range, decide_eq_true_eq]
  constructor
  · intro h
    apply list_ext_getD (by omega)
    intro i hi
    have hn : 0 < n := by
      rcases Nat.eq_zero_or_pos n with e | e
      · subst e; omega
      · exact e
    have h1 : i / n < m := by
      rw [Nat.div_lt_iff_lt_mul hn]; omega
    have h2 := h (i / n) h1
    have h3 := congrArg (fun l : List Bool => l.getD (i % n) false) h2
    have h4 := Nat.mod_lt i hn
    have h5 : i / n * n + i % n = i := by rw [Nat.mul_comm]; exact Nat.div_add_mod i n
    simpa [List.getD, List.getElem?_take, h4, h5] using h3
  · rintro rfl; exact fun _ _ => rfl
/-- Arrays of arrays of bools. -/
theorem run_eq_table {ty e e2 : TypeId} {n m : Nat} {w : World} (d : Nat) (hu : P.underlying ty = some (.array m e)) (he : P.underlying e = some (.array n e2)) (he2 : P.underlying e2 = some .bool) (hz : (P.info? e).map (·.size) = some n) (hz2 : (P.info? e2).map (·.size) = some 1) {us bs : List Bool} (ha : us.length = m * n) (hb : bs.length = m * n) :
    (Op.equalIn (d + 3) ty (aggB us) (aggB bs)).run P w = .ok (decide (us = bs)) w := by
  cases hq : P.info? e with
  | none => simp [hq] at hz
  | some j =>
    have hc : P.cellsOf e = n := by rw [Program.cellsOf, hz]; rfl
    have hs : (sizeOf e).run P w = .ok n w := by rw [run_sizeOf w hq, hc]
    have hg : (isAgg e).run P w = .ok true w := by simp [isAgg, run_underlying he]
    have hp : ∀ (cs : List Bool) (i : Nat), (part e (cellsB cs) (i * n)).run P w = .ok (aggB ((cs.drop (i * n)).take n)) w := by
      intro cs i
      have hx : (cellsB cs).extract (i * n) (i * n + n) = cellsB ((cs.drop (i * n)).take n) := by
        apply Array.ext_getElem?
        intro k
        rw [cellsB_get, Array.getElem?_extract]
        simp only [List.getElem?_take, List.getElem?_drop, cellsB_get]
        rw [cellsB_size]
        by_cases g : k < n
        · by_cases g2 : i * n + k < cs.length
          · rw [if_pos (by omega), if_pos g]
          · rw [if_neg (by omega), if_pos g, List.getElem?_eq_none (by omega)]; rfl
        · rw [if_neg (by omega), if_neg g]; rfl
      simp only [part, Sem.run_bind, hg, Result.andThen_ok, if_true, hs, hx]
      rfl
    unfold aggB
    rw [run_equalIn_array w (d + 2) _ _ hu hq, hc, run_items_of (r := fun i => decide ((us.drop (i * n)).take n = (bs.drop (i * n)).take n)), chunks_eq ha hb]
    intro i hi
    rw [List.mem_range] at hi
    have hin : i * n + n ≤ m * n := by
      have := Nat.mul_le_mul_right n (show i + 1 ≤ m by omega)
      rw [Nat.succ_mul] at this; exact this
    refine ⟨_, _, hp us i, hp bs i, run_eq_flags d he he2 hz2 ?_ ?_⟩
    · rw [List.length_take, List.length_drop]; omega
    · rw [List.length_take, List.length_drop]; omega
theorem exec_eqlB {ρ : Operand → Value} {o : Oper} {w : World} {ty rt : TypeId} {x y : Operand} {us bs : List Bool} (ho : o.op = .binOp .eql ty x y rt) (hx : ρ x = aggB us) (hy : ρ y = aggB bs) (hg : P.eqGuardType P.depth ty = false) (he : (Op.equalIn 10000 ty (aggB us) (aggB bs)).run P w = .ok (decide (us = bs)) w) :
    (execOp ρ o).run P w = .ok (.value (.bool (decide (us = bs)))) w := by
  unfold execOp
  unfold aggB at *
  simp only [ho, hx, hy, Sem.run_bind, run_eqGuard_agg w _ _ _ _ _ _ hg, Result.andThen_ok, run_eql_struct, he, Sem.run_pure]
/-- Parts are put together. -/
theorem zip_putL (cs : List Bool) : ∀ (bs : List Bool) (o k : Nat), ((cs.map Value.bool).zipIdx k).foldl (fun (ys : Array Value) (p : Value × Nat) => ys.setIfInBounds (o + p.2) p.1) (cellsB bs) = cellsB (putB bs (o + k) cs) := by
  induction cs with
  | nil => intro bs o k; rfl
  | cons v r ih =>
    intro bs o k
    have h := ih (bs.set (o + k) v) o (k + 1)
    have e : cellsB (bs.set (o + k) v) = (cellsB bs).setIfInBounds (o + k) (.bool v) := by simp [cellsB, List.map_set]
    rw [putB, show o + k + 1 = o + (k + 1) by omega, ← h, List.map_cons, List.zipIdx_cons, List.foldl_cons, e]
theorem zip_put (cs bs : List Bool) (o k : Nat) : ((cellsB cs).zipIdx k).foldl (fun (ys : Array Value) (p : Value × Nat) => ys.setIfInBounds (o + p.2) p.1) (cellsB bs) = cellsB (putB bs (o + k) cs) := by
  rw [← zip_putL cs bs o k, ← Array.foldl_toList]
  congr 1
  simp [cellsB]
theorem fill_put {place : Nat → Option (Nat × Nat)} {bs cs : List Bool} {i off : Nat} {rest : List (Nat × Value)} (h : place i = some (off, cs.length)) (hn : off + cs.length ≤ bs.length) : Instr.fill place (cellsB bs) ((i, aggB cs) :: rest) = Instr.fill place (cellsB (putB bs off cs)) rest := by
  have z := zip_put cs bs off 0
  rw [Instr.fill, h]
  simp only [aggB, Value.cells, cellsB_size]
  rw [if_neg (by simp; omega)]
  congr 1
end
end Go.Proofs.YtdniejpblhbjkabDoor
namespace Go.Proofs.YtdniejpblhbjkabDoor
open Go.RowKit

section
variable {P : Program}
theorem wpList_boxB {ops : Array Oper} {rest : List Oper} {o : Oper} {a : Act} {w : World} {Q : Exit → Act → World → Prop} (hgd : Region.wanted o (yielded ops a.tmps) = true) (ty : TypeId) (x : Operand) (ho : o.op = .box ty x) (bs : List Bool) (hx : a.eval x = aggB bs)
    (h : ∀ w', Bits w' w.heap.size ty bs → Below w.heap.size w w' → w'.heap.size = w.heap.size + 1 → wpList P ops Q rest (a.put o.dst (.pointer (some ⟨w.heap.size, 0, none⟩))) w') : wpList P ops Q (o :: rest) a w := by
  obtain ⟨w', h1, h2, h3, h4⟩ := exec_boxB (P := P) (w := w) ho hx
  exact wpList_val hgd h1 (h w' h2 h3 h4)
theorem wpList_allocB {ops : Array Oper} {rest : List Oper} {o : Oper} {a : Act} {w : World} {Q : Exit → Act → World → Prop} (hgd : Region.wanted o (yielded ops a.tmps) = true) (ty : TypeId) (ho : o.op = .alloc ty) (n : Nat) (hT : BitT P ty n)
    (h : ∀ w', Bits w' w.heap.size ty (List.replicate n false) → Below w.heap.size w w' → w'.heap.size = w.heap.size + 1 → wpList P ops Q rest (a.put o.dst (.pointer (some ⟨w.heap.size, 0, none⟩))) w') : wpList P ops Q (o :: rest) a w := by
  obtain ⟨w', h1, h2, h3, h4⟩ := exec_allocB (P := P) (w := w) (ρ := a.eval) ho hT
  exact wpList_val hgd h1 (h w' h2 h3 h4)
theorem wpList_loadB {ops : Array Oper} {rest : List Oper} {o : Oper} {a : Act} {w : World} {Q : Exit → Act → World → Prop} (hgd : Region.wanted o (yielded ops a.tmps) = true) (ty : TypeId) (x : Operand) (ho : o.op = .load ty x) (b off n : Nat) (t : TypeId) (bs : List Bool) (hx : a.eval x = .pointer (some ⟨b, off, none⟩)) (hT : BitT P ty n) (hB : Bits w b t bs) (hn : off + n ≤ bs.length)
    (h : wpList P ops Q rest (a.put o.dst (aggB ((bs.drop off).take n))) w) : wpList P ops Q (o :: rest) a w :=
  wpList_val hgd (exec_loadB ho hx hT hB hn) h
theorem wpList_loadW {ops : Array Oper} {rest : List Oper} {o : Oper} {a : Act} {w : World} {Q : Exit → Act → World → Prop} (hgd : Region.wanted o (yielded ops a.tmps) = true) (ty : TypeId) (x : Operand) (ho : o.op = .load ty x) (b : Nat) (t : TypeId) (bs : List Bool) (hx : a.eval x = .pointer (some ⟨b, 0, none⟩)) (hT : BitT P ty bs.length) (hB : Bits w b t bs)
    (h : wpList P ops Q rest (a.put o.dst (aggB bs)) w) : wpList P ops Q (o :: rest) a w :=
  wpList_val hgd (exec_loadW ho hx hT hB) h
theorem wpList_storeB {ops : Array Oper} {rest : List Oper} {o : Oper} {a : Act} {w : World} {Q : Exit → Act → World → Prop} (hgd : Region.wanted o (yielded ops a.tmps) = true) (ty : TypeId) (x y : Operand) (ho : o.op = .store ty x y) (b off : Nat) (t : TypeId) (bs cs : List Bool) (hx : a.eval x = .pointer (some ⟨b, off, none⟩)) (hy : a.eval y = aggB cs) (hT : BitT P ty cs.length) (hB : Bits w b t bs) (hn : off + cs.length ≤ bs.length)
    (h : ∀ w', Bits w' b t (putB bs off cs) → w.grownBy w' (some b) → wpList P ops Q rest (a.put o.dst undef) w') : wpList P ops Q (o :: rest) a w := by
  obtain ⟨w', h1, h2, h3⟩ := exec_storeB (P := P) ho hx hy hT hB hn
  exact wpList_unit hgd h1 (h w' h2 h3)
theorem wpList_eqlB {ops : Array Oper} {rest : List Oper} {o : Oper} {a : Act} {w : World} {Q : Exit → Act → World → Prop} (hgd : Region.wanted o (yielded ops a.tmps) = true) (ty rt : TypeId) (x y : Operand) (ho : o.op = .binOp .eql ty x y rt) (cs bs : List Bool) (hx : a.eval x = aggB cs) (hy : a.eval y = aggB bs) (hg : P.eqGuardType P.depth ty = false) (he : (Op.equalIn 10000 ty (aggB cs) (aggB bs)).run P w = .ok (decide (cs = bs)) w)
    (h : wpList P ops Q rest (a.put o.dst (.bool (decide (cs = bs)))) w) : wpList P ops Q (o :: rest) a w :=
  wpList_val hgd (exec_eqlB ho hx hy hg he) h
theorem wpList_indexB {ops : Array Oper} {rest : List Oper} {o : Oper} {a : Act} {w : World} {Q : Exit → Act → World → Prop} (hgd : Region.wanted o (yielded ops a.tmps) = true) (ty e : TypeId) (x y : Operand) (ho : o.op = .index ty x y) (bs : List Bool) (i : Nat) (hx : a.eval x = aggB bs) (hy : a.eval y = .int .i64 i) (hu : P.underlying ty = some (.array bs.length e)) (he : P.underlying e = some .bool) (hz : (P.info? e).map (·.size) = some 1) (hi : i < bs.length)
    (h : wpList P ops Q rest (a.put o.dst (.bool (bs.getD i false))) w) : wpList P ops Q (o :: rest) a w :=
  wpList_val hgd (exec_indexB ho hx hy hu he hz hi) h
end

theorem row_of {P : Program} {ty : TypeId} (h : (P.underlying ty).map TypeDesc.isRow = some true) : ∃ d, P.underlying ty = some d ∧ d.isRow = true := by
  cases hq : P.underlying ty with
  | none => simp [hq] at h
  | some d => exact ⟨d, rfl, by simpa [hq] using h⟩
set_option maxRecDepth 100000 in
theorem bt_flags : BitT Tryd.prog 52 27 := ⟨by kernel_rfl, row_of (by kernel_rfl)⟩
set_option maxRecDepth 100000 in
theorem bt_table : BitT Tryd.prog 64 540 := ⟨by kernel_rfl, row_of (by kernel_rfl)⟩
theorem bool_size : (Tryd.prog.info? 4).map (·.size) = some 1 := by kernel_rfl
theorem u_flags : Tryd.prog.underlying 52 = some (.array 27 4) := by kernel_rfl
theorem u_bool : Tryd.prog.underlying 4 = some .bool := by kernel_rfl

/-- The numbers below k whose flag is up. -/
def numsB (f : Nat → Bool) : Nat → List Int
  | 0 => []
  | k + 1 => if f k then numsB f k ++ [(k : Int)] else numsB f k
theorem numsB_len (f : Nat → Bool) (k : Nat) : (numsB f k).length ≤ k := by
  induction k with
  | zero => simp [numsB]
  | succ k ih =>
    rw [numsB]
    split
    · rw [List.length_append, List.length_singleton]; omega
    · omega
theorem mem_numsB {f : Nat → Bool} {k : Nat} {x : Int} : x ∈ numsB f k ↔ ∃ n : Nat, n < k ∧ x = n ∧ f n = true := by
  induction k with
  | zero => simp [numsB]
  | succ k ih =>
    rw [numsB]
    split
    · rename_i h
      rw [List.mem_append, ih, List.mem_singleton]
      constructor
      · rintro (⟨n, h1, h2, h3⟩ | rfl)
        · exact ⟨n, by omega, h2, h3⟩
        · exact ⟨k, by omega, rfl, h⟩
      · rintro ⟨n, h1, h2, h3⟩
        by_cases e : n = k
        · subst e; exact .inr h2
        · exact .inl ⟨n, by omega, h2, h3⟩
    · rename_i h
      rw [ih]
      constructor
      · rintro ⟨n, h1, h2, h3⟩; exact ⟨n, by omega, h2, h3⟩
      · rintro ⟨n, h1, h2, h3⟩
        refine ⟨n, ?_, h2, h3⟩
        by_cases e : n = k
        · subst e; exact absurd h3 h
        · omega
theorem numsB_sorted (f : Nat → Bool) (k : Nat) : (numsB f k).Pairwise (· < ·) := by
  induction k with
  | zero => exact List.Pairwise.nil
  | succ k ih =>
    rw [numsB]
    split
    · rw [List.pairwise_append]
      refine ⟨ih, List.pairwise_singleton _ _, fun x hx y hy => ?_⟩
      obtain ⟨n, h1, rfl, _⟩ := mem_numsB.1 hx
      rw [List.mem_singleton] at hy
      omega
    · exact ih

/-- All symbols of the row are of parts whose flag is up. -/
def allB (bs : List Bool) (row : List Int) : Bool := row.all fun x => decide (100 ≤ x ∧ x - 100 < 20) && bs.getD (x - 100).toNat false
theorem allB_step {p : Int → Bool} {xs : List Int} {k : Nat} (h : (xs.take k).all p = true) (hk : k < xs.length) (g : p xs[k] = true) : (xs.take (k + 1)).all p = true := by
  rw [List.take_succ_eq_append_getElem hk, List.all_append, h]; simp [g]
theorem allB_no {p : Int → Bool} {xs : List Int} {k : Nat} (hk : k < xs.length) (g : p xs[k] = false) : xs.all p = false := by
  rw [Bool.eq_false_iff]; intro h
  rw [List.all_eq_true] at h
  have := h _ (List.getElem_mem hk)
  rw [g] at this; cases this
theorem allB_end {p : Int → Bool} {xs : List Int} {k : Nat} (h : (xs.take k).all p = true) (hk : ¬ k < xs.length) : xs.all p = true := by
  rwa [List.take_of_length_le (by omega)] at h

set_option maxRecDepth 100000 in
theorem allOf_any (zs : List Int) (a : Option Addr) (c : Nat) (bs : List Bool) (w : World) (h : Reads w a zs) (hl : zs.length ≤ 1048576) (hz : ∀ z ∈ zs, -9223372036854775808 ≤ z ∧ z ≤ 9223372036854775807) (hb : bs.length = 27) :
    Calls Tryd.prog 51 #[.slice a zs.length c, aggB bs] w fun e w' => e = .returned (.bool (allB bs zs)) ∧ Below w.heap.size w w' := by
  have HZ : Hid (∀ z ∈ zs, -9223372036854775808 ≤ z ∧ z ≤ 9223372036854775807) := hz
  clear hz
  go_enter Tryd.func51, Tryd.ntmps51
  go_wp2_with (refine wpList_boxB rfl 52 _ rfl bs rfl ?_; intro w1 hB1 hb1 hs1)
  go_loop [9] (fun s => ∃ k : Nat, k ≤ zs.length ∧ s = .int .i64 k ∧ Hid ((zs.take k).all (fun x => decide (100 ≤ x ∧ x - 100 < 20) && bs.getD (x - 100).toNat false) = true)) (fun s => zs.length - (intOf s).toNat)
  case atStart => exact ⟨0, Nat.zero_le _, rfl, by show _ = _; simp⟩
  case round =>
    obtain ⟨k, hk, rfl, HK⟩ := hrel
    have h1 := h.below hb1
    by_cases hlt : k < zs.length
    · obtain ⟨b, off, rfl, hbb, hc⟩ := h1.at hlt
      have q1 := hc k hlt
      rw [List.getD_eq_getElem?_getD, List.getElem?_eq_getElem hlt, Option.getD_some] at q1
      have hr := HZ.out zs[k] (List.getElem_mem hlt)
      have HS : Hid (100 ≤ zs[k] ∧ zs[k] - 100 < 20 → bs.getD (zs[k] - 100).toNat false = true → (zs.take (k + 1)).all (fun x => decide (100 ≤ x ∧ x - 100 < 20) && bs.getD (x - 100).toNat false) = true) := fun g1 g2 => allB_step HK.out hlt (by simp only [decide_eq_true g1, Bool.true_and]; exact g2)
      have HN : Hid ((100 ≤ zs[k] ∧ zs[k] - 100 < 20 → bs.getD (zs[k] - 100).toNat false = false) → allB bs zs = false) := fun g1 => by
        refine allB_no hlt ?_
        by_cases g2 : 100 ≤ zs[k] ∧ zs[k] - 100 < 20
        · simp only [g1 g2, Bool.and_false]
        · simp only [decide_eq_false g2, Bool.false_and]
      clear hc h h1 HK
      generalize zs[k] = z at *
      by_cases z1 : 100 ≤ z
      · by_cases z2 : z - 100 < 20
        · obtain ⟨n, hn⟩ : ∃ n : Nat, z = 100 + (n : Int) := ⟨(z - 100).toNat, by omega⟩
          subst hn
          have hn2 : n < 27 := by omega
          have q2 := hB1.cell (n := n) (by omega)
          have e1 : (100 + (n : Int) - 100).toNat = n := by omega
          have e2 : (100 + (n : Int) - 100) = n := by omega
          rw [e1] at HS HN
          by_cases z3 : bs.getD n false = true
          · rw [z3] at q2
            have HSS : Hid _ := HS.out ⟨z1, z2⟩ z3
            clear HS HN z3
            go_wp2
            go_round
            case rel => exact ⟨k + 1, by omega, by go_num, HSS.out⟩
            case measure => simp [intOf]; omega
          · have z4 : bs.getD n false = false := by simpa using z3
            rw [z4] at q2
            have HNN : Hid (allB bs zs = false) := HN.out (fun _ => z4)
            clear HS HN z3 z4
            go_wp2
            go_ret
            exact ⟨ret_bool (by rw [HNN.out]), hb1⟩
        · have HNN : Hid (allB bs zs = false) := HN.out (fun g => absurd g.2 z2)
          clear HS HN
          go_wp2
          go_ret
          exact ⟨ret_bool (by rw [HNN.out]), hb1⟩
      · have HNN : Hid (allB bs zs = false) := HN.out (fun g => absurd g.1 z1)
        clear HS HN
        go_wp2
        go_ret
        exact ⟨ret_bool (by rw [HNN.out]), hb1⟩
    · have HE : Hid (allB bs zs = true) := allB_end HK.out hlt
      clear h h1 HK
      go_wp2
      go_ret
      exact ⟨ret_bool (by rw [HE.out]), hb1⟩
end Go.Proofs.YtdniejpblhbjkabDoor
namespace Go.Proofs.YtdniejpblhbjkabDoor
open Go.RowKit

theorem addL_same_or (zs : List Int) (x : Int) : addL zs x = zs ∨ zs.length < (addL zs x).length := by
  by_cases h : x ∈ zs
  · exact .inl (by simp [addL, h])
  · right
    have := placeL_le zs x
    simp only [addL, h, if_false, List.length_append, List.length_cons, List.length_nil, List.length_take, List.length_drop]
    omega
theorem addL_fix {zs : List Int} {x : Int} (h : addL zs x = zs) : x ∈ zs := by
  have : x ∈ addL zs x := mem_addL.2 (.inl rfl)
  rwa [h] at this

/-- Steps that leave as it was or make longer: where all together leave as it was, each does. -/
theorem steps_fix {α : Type} {m : α → Nat} {f : Nat → α} (h : ∀ i, f (i + 1) = f i ∨ m (f i) < m (f (i + 1))) {n : Nat} (e : f n = f 0) : ∀ i, i ≤ n → f i = f 0 := by
  have mono : ∀ i j, i ≤ j → m (f i) ≤ m (f j) := by
    intro i j hij
    induction j with
    | zero => have : i = 0 := by omega
              subst this; exact Nat.le_refl _
    | succ j ih =>
      by_cases e1 : i = j + 1
      · subst e1; exact Nat.le_refl _
      · have := ih (by omega)
        rcases h j with h1 | h1
        · rw [h1]; exact this
        · omega
  intro i hi
  induction i with
  | zero => rfl
  | succ i ih =>
    have h1 := ih (by omega)
    rcases h i with h2 | h2
    · rw [h2, h1]
    · have h3 := mono (i + 1) n hi
      rw [e] at h3
      rw [h1] at h2
      omega
/-- Turns that leave as it was or make longer, within N: behind N + 1 of them nothing turns any more. -/
theorem turns_fix {α : Type} {m : α → Nat} {F : α → α} {f : Nat → α} (hf : ∀ t, f (t + 1) = F (f t)) (h : ∀ t, f (t + 1) = f t ∨ m (f t) < m (f (t + 1))) {N : Nat} (hN : ∀ t, m (f t) ≤ N) : F (f (N + 1)) = f (N + 1) := by
  have key : ∀ t, t ≤ m (f t) ∨ ∃ s, s < t ∧ f (s + 1) = f s := by
    intro t
    induction t with
    | zero => exact .inl (Nat.zero_le _)
    | succ t ih =>
      rcases ih with ih | ⟨s, hs, e⟩
      · rcases h t with h1 | h1
        · exact .inr ⟨t, by omega, h1⟩
        · exact .inl (by omega)
      · exact .inr ⟨s, by omega, e⟩
  rcases key (N + 1) with h1 | ⟨s, hs, e⟩
  · have := hN (N + 1); omega
  · have all : ∀ d, f (s + d) = f s := by
      intro d
      induction d with
      | zero => rfl
      | succ d ih => rw [← Nat.add_assoc, hf, ih, ← hf, e]
    have e1 : f (N + 1) = f s := by have := all (N + 1 - s); rwa [show s + (N + 1 - s) = N + 1 by omega] at this
    rw [e1, ← hf, e]

section
variable {p : List Int → List Int → Bool}
theorem growI_step (k : Nat) (Q : List (List Int)) (E : List Int) (i : Nat) : growI p k Q E (i + 1) = growI p k Q E i ∨ (growI p k Q E i).length < (growI p k Q E (i + 1)).length := by
  rw [growI]
  split
  · exact addL_same_or _ _
  · exact .inl rfl
theorem growI_all (k : Nat) (Q : List (List Int)) (E : List Int) (i : Nat) : growI p k Q E i = E ∨ E.length < (growI p k Q E i).length := by
  induction i with
  | zero => exact .inl rfl
  | succ i ih =>
    rcases growI_step (p := p) k Q E i with h | h
    · rw [h]; exact ih
    · rcases ih with ih | ih
      · rw [ih] at h; exact .inr h
      · exact .inr (by omega)
theorem growK_step (P : List (List (List Int))) (E : List Int) (k : Nat) : growK p P E (k + 1) = growK p P E k ∨ (growK p P E k).length < (growK p P E (k + 1)).length := by
  rw [growK]; exact growI_all _ _ _ _
theorem growK_all (P : List (List (List Int))) (E : List Int) (k : Nat) : growK p P E k = E ∨ E.length < (growK p P E k).length := by
  induction k with
  | zero => exact .inl rfl
  | succ k ih =>
    rcases growK_step (p := p) P E k with h | h
    · rw [h]; exact ih
    · rcases ih with ih | ih
      · rw [ih] at h; exact .inr h
      · exact .inr (by omega)
/-- What is grown is a set of parts. -/
theorem growI_setB {k n : Nat} (hk : k < n) {Q : List (List Int)} {E : List Int} (h : SetB (n : Int) E) : ∀ i, SetB (n : Int) (growI p k Q E i)
  | 0 => h
  | i + 1 => by
    rw [growI]
    split
    · exact (growI_setB hk h i).add (by omega) (by omega)
    · exact growI_setB hk h i
theorem growK_setB {n : Nat} {P : List (List (List Int))} {E : List Int} (h : SetB (n : Int) E) : ∀ k, k ≤ n → SetB (n : Int) (growK p P E k)
  | 0, _ => h
  | k + 1, hk => by rw [growK]; exact growI_setB (by omega) (growK_setB h k (by omega)) _
theorem growT_setB (P : List (List (List Int))) : ∀ t, SetB (P.length : Int) (growT p P t)
  | 0 => SetB.nil _
  | t + 1 => by rw [growT]; exact growK_setB (growT_setB P t) _ (Nat.le_refl _)
/-- What is grown is closed. -/
theorem growT_closed {P : List (List (List Int))} {k i : Nat} (hk : k < P.length) (hi : i < P[k].length) (h : p P[k][i] (growT p P (P.length + 1)) = true) : (k : Int) ∈ growT p P (P.length + 1) := by
  have fx : growK p P (growT p P (P.length + 1)) P.length = growT p P (P.length + 1) :=
    turns_fix (F := fun E => growK p P E P.length) (f := growT p P) (m := List.length) (fun t => rfl) (fun t => growK_all P _ _) (fun t => (growT_setB P t).len)
  generalize growT p P (P.length + 1) = E at *
  have hK := steps_fix (f := growK p P E) (m := List.length) (growK_step P E) fx
  have e1 : growI p k P[k] E P[k].length = E := by
    have := growK_next p (E := E) hk
    rw [hK (k + 1) (by omega), hK k (by omega)] at this
    exact this.symm
  have hI := steps_fix (f := growI p k P[k] E) (m := List.length) (growI_step k P[k] E) e1
  have e2 := hI (i + 1) (by omega)
  have e3 : growI p k P[k] E i = E := hI i (by omega)
  rw [growI_yes p hi (by rw [e3]; exact h), e3] at e2
  exact addL_fix e2
/-- Nothing is grown that a closed set has not. -/
theorem growT_sound {P : List (List (List Int))} {S : Int → Prop} (hS : ∀ k (hk : k < P.length) i (hi : i < P[k].length) (E : List Int), (∀ x ∈ E, S x) → p P[k][i] E = true → S k) (t : Nat) : ∀ x ∈ growT p P t, S x := by
  have sI : ∀ k (hk : k < P.length) E, (∀ x ∈ E, S x) → ∀ i, i ≤ P[k].length → ∀ x ∈ growI p k P[k] E i, S x := by
    intro k hk E hE i
    induction i with
    | zero => exact fun _ => hE
    | succ i ih =>
      intro hi x hx
      by_cases g : p P[k][i] (growI p k P[k] E i) = true
      · rw [growI_yes p (by omega) g] at hx
        rcases mem_addL.1 hx with rfl | hx
        · exact hS k hk i (by omega) _ (ih (by omega)) g
        · exact ih (by omega) x hx
      · rw [growI_no p (by omega) (by simpa using g)] at hx
        exact ih (by omega) x hx
  have sK : ∀ E, (∀ x ∈ E, S x) → ∀ k, k ≤ P.length → ∀ x ∈ growK p P E k, S x := by
    intro E hE k
    induction k with
    | zero => exact fun _ => hE
    | succ k ih =>
      intro hk
      rw [growK_next p (by omega)]
      exact sI k (by omega) _ (ih (by omega)) _ (Nat.le_refl _)
  induction t with
  | zero => intro x hx; simp [growT] at hx
  | succ t ih => rw [growT]; exact sK _ ih _ (Nat.le_refl _)
end
theorem growT_sorted {p : List Int → List Int → Bool} (P : List (List (List Int))) (t : Nat) : (growT p P t).Pairwise (· < ·) := by
  have sI : ∀ k Q (E : List Int), E.Pairwise (· < ·) → ∀ i, (growI p k Q E i).Pairwise (· < ·) := by
    intro k Q E hE i
    induction i with
    | zero => exact hE
    | succ i ih =>
      rw [growI]
      split
      · exact pair_addL ih
      · exact ih
  have sK : ∀ (E : List Int), E.Pairwise (· < ·) → ∀ k, (growK p P E k).Pairwise (· < ·) := by
    intro E hE k
    induction k with
    | zero => exact hE
    | succ k ih => rw [growK]; exact sI _ _ _ ih _
  induction t with
  | zero => exact List.Pairwise.nil
  | succ t ih => rw [growT]; exact sK _ ih _
end Go.Proofs.YtdniejpblhbjkabDoor
namespace Go.Proofs.YtdniejpblhbjkabDoor
open Go.RowKit

/-- One step: flag s.1 is raised where the test says so. -/
def bstep (b : List Bool) (s : Nat × (List Bool → Bool)) : List Bool := b.set s.1 (b.getD s.1 false || s.2 b)
def bturn (L : List (Nat × (List Bool → Bool))) (b : List Bool) : List Bool := L.foldl bstep b
def cntB : List Bool → Nat
  | [] => 0
  | b :: bs => (if b then 1 else 0) + cntB bs
theorem cntB_le (b : List Bool) : cntB b ≤ b.length := by
  induction b with
  | nil => simp [cntB]
  | cons x xs ih => simp only [cntB, List.length_cons]; split <;> omega
theorem cntB_set {b : List Bool} {k : Nat} (h : k < b.length) (g : b[k] = false) : cntB (b.set k true) = cntB b + 1 := by
  induction b generalizing k with
  | nil => simp at h
  | cons x xs ih =>
    cases k with
    | zero => simp at g; subst g; simp [cntB]; omega
    | succ k =>
      have := ih (k := k) (by simpa using h) (by simpa using g)
      simp only [List.set_cons_succ, cntB, this]; omega
theorem bstep_length (b : List Bool) (s : Nat × (List Bool → Bool)) : (bstep b s).length = b.length := by simp [bstep]
theorem bstep_or (b : List Bool) (s : Nat × (List Bool → Bool)) : bstep b s = b ∨ cntB b < cntB (bstep b s) := by
  unfold bstep
  by_cases h : s.1 < b.length
  · have e : b.getD s.1 false = b[s.1] := by simp [List.getD, h]
    rw [e]
    by_cases g : b[s.1] = true
    · left; rw [g, Bool.true_or]
      conv => lhs; rw [← g]
      exact List.set_getElem_self h
    · have g' : b[s.1] = false := by simpa using g
      rw [g', Bool.false_or]
      by_cases t : s.2 b = true
      · right; rw [t, cntB_set h g']; omega
      · have t' : s.2 b = false := by simpa using t
        left; rw [t']
        conv => lhs; rw [← g']
        exact List.set_getElem_self h
  · left; exact List.set_eq_of_length_le (by omega)
theorem bstep_fix {b : List Bool} {s : Nat × (List Bool → Bool)} (h : bstep b s = b) (hk : s.1 < b.length) (ht : s.2 b = true) : b[s.1] = true := by
  have e : (bstep b s)[s.1]? = some (b.getD s.1 false || s.2 b) := by simp [bstep, hk]
  rw [h, List.getElem?_eq_getElem hk, ht, Bool.or_true] at e
  exact Option.some.inj e
theorem fold_or (L : List (Nat × (List Bool → Bool))) (b : List Bool) (i : Nat) : (L.take (i + 1)).foldl bstep b = (L.take i).foldl bstep b ∨ cntB ((L.take i).foldl bstep b) < cntB ((L.take (i + 1)).foldl bstep b) := by
  by_cases h : i < L.length
  · rw [List.take_succ_eq_append_getElem h, List.foldl_append]
    exact bstep_or _ _
  · left; rw [List.take_of_length_le (by omega), List.take_of_length_le (by omega)]
theorem bturn_or (L : List (Nat × (List Bool → Bool))) (b : List Bool) : bturn L b = b ∨ cntB b < cntB (bturn L b) := by
  have key : ∀ i, (L.take i).foldl bstep b = b ∨ cntB b < cntB ((L.take i).foldl bstep b) := by
    intro i
    induction i with
    | zero => exact .inl rfl
    | succ i ih =>
      rcases fold_or L b i with h | h
      · rw [h]; exact ih
      · rcases ih with ih | ih
        · rw [ih] at h; exact .inr h
        · exact .inr (by omega)
  have := key L.length
  rwa [List.take_length] at this
theorem bturn_fix {L : List (Nat × (List Bool → Bool))} {b : List Bool} (h : bturn L b = b) {s : Nat × (List Bool → Bool)} (hs : s ∈ L) (hk : s.1 < b.length) (ht : s.2 b = true) : b[s.1] = true := by
  obtain ⟨i, hi, rfl⟩ := List.getElem_of_mem hs
  have all := steps_fix (f := fun i => (L.take i).foldl bstep b) (m := cntB) (fold_or L b) (n := L.length) (by rw [List.take_length]; exact h)
  have e1 : (L.take i).foldl bstep b = b := all i (by omega)
  have e2 : (L.take (i + 1)).foldl bstep b = b := all (i + 1) (by omega)
  rw [List.take_succ_eq_append_getElem hi, List.foldl_append, e1] at e2
  exact bstep_fix e2 hk ht
theorem bturn_length (L : List (Nat × (List Bool → Bool))) (b : List Bool) : (bturn L b).length = b.length := by
  unfold bturn
  induction L generalizing b with
  | nil => rfl
  | cons s L ih => rw [List.foldl_cons, ih, bstep_length]
/-- Behind N + 1 turns, where there are N flags at most, each flag is up that a test asks for. -/
theorem bturns_closed {L : List (Nat × (List Bool → Bool))} {f : Nat → List Bool} (hf : ∀ t, f (t + 1) = bturn L (f t)) {N T : Nat} (hN : (f 0).length ≤ N) (hT : N + 1 ≤ T) {s : Nat × (List Bool → Bool)} (hs : s ∈ L) (hk : s.1 < (f T).length) (ht : s.2 (f T) = true) : (f T)[s.1] = true := by
  have hl : ∀ t, (f t).length = (f 0).length := by
    intro t
    induction t with
    | zero => rfl
    | succ t ih => rw [hf, bturn_length, ih]
  have fx : bturn L (f (N + 1)) = f (N + 1) := turns_fix (F := bturn L) (f := f) (m := cntB) hf (fun t => by rw [hf]; exact bturn_or L (f t)) (fun t => by have := cntB_le (f t); rw [hl t] at this; omega)
  have all : ∀ d, f (N + 1 + d) = f (N + 1) := by
    intro d
    induction d with
    | zero => rfl
    | succ d ih => rw [← Nat.add_assoc, hf, ih, fx]
  have e : f T = f (N + 1) := by have := all (T - (N + 1)); rwa [show N + 1 + (T - (N + 1)) = T by omega] at this
  have fx2 : bturn L (f T) = f T := by rw [e]; exact fx
  exact bturn_fix fx2 hs hk ht

/-- Whether a number is in each of the sets. -/
def proj (c : Int) (M : List (List Int)) : List Bool := M.map fun m => hasL m c
theorem proj_length (c : Int) (M : List (List Int)) : (proj c M).length = M.length := by simp [proj]
theorem proj_getD (c : Int) (M : List (List Int)) (k : Nat) : (proj c M).getD k false = hasL (M.getD k []) c := by
  by_cases h : k < M.length
  · simp [proj, List.getD, h]
  · rw [List.getD_eq_getElem?_getD, List.getElem?_eq_none (by rw [proj_length]; omega), List.getD_eq_getElem?_getD, List.getElem?_eq_none (by omega)]; rfl
theorem proj_set (c : Int) (M : List (List Int)) (k : Nat) (m : List Int) : proj c (M.set k m) = (proj c M).set k (hasL m c) := by
  simp [proj, List.map_set]
theorem hasL_joinL (xs ys : List Int) (c : Int) : hasL (joinL xs ys) c = (hasL xs c || hasL ys c) := by
  rw [Bool.eq_iff_iff, Bool.or_eq_true]; simp only [hasL, decide_eq_true_eq]; exact mem_joinL
theorem hasL_addL (xs : List Int) (x c : Int) : hasL (addL xs x) c = (decide (c = x) || hasL xs c) := by
  rw [Bool.eq_iff_iff, Bool.or_eq_true]; simp only [hasL, decide_eq_true_eq]; exact mem_addL
/-- The rows of a grammar, each with its part's number, in order. -/
def flatP (P : List (List (List Int))) : Nat → List (Nat × List Int)
  | 0 => []
  | k + 1 => flatP P k ++ (P.getD k []).map fun row => (k, row)
theorem mem_flatP {P : List (List (List Int))} {k i n : Nat} (hk : k < P.length) (hi : i < P[k].length) (hn : k < n) : (k, P[k][i]) ∈ flatP P n := by
  induction n with
  | zero => omega
  | succ n ih =>
    rw [flatP, List.mem_append]
    by_cases e : k = n
    · subst e
      right
      have e1 : P.getD k [] = P[k] := by simp [List.getD, hk]
      rw [e1, List.mem_map]
      exact ⟨_, List.getElem_mem hi, rfl⟩
    · exact .inl (ih (by omega))
end Go.Proofs.YtdniejpblhbjkabDoor
namespace Go.Proofs.YtdniejpblhbjkabDoor
open Go.RowKit

/-- Whether a row can begin with c, by the flags of c. -/
def bgB (E : List Int) (c : Int) (b : List Bool) : List Int → Bool
  | [] => false
  | x :: xs => if inB x 0 25 then decide (c = x) else if inB x 100 (100 + b.length - 1) then (b.getD (x - 100).toNat false || (hasL E (x - 100) && bgB E c b xs)) else false
theorem hasL_rowF (M : List (List Int)) (E : List Int) (c : Int) : ∀ (row out : List Int), hasL (rowF M E out row) c = (hasL out c || bgB E c (proj c M) row)
  | [], out => by simp [rowF, bgB]
  | x :: xs, out => by
    rw [rowF, bgB, proj_length]
    split
    · rw [hasL_addL, Bool.or_comm]
    · split
      · rw [proj_getD]
        by_cases g : hasL E (x - 100) = true
        · rw [if_pos g, hasL_rowF M E c xs, hasL_joinL, g, Bool.true_and, Bool.or_assoc]
        · have g' : hasL E (x - 100) = false := by simpa using g
          rw [if_neg g, hasL_joinL, g', Bool.false_and, Bool.or_false]
      · simp
theorem fiI_fold (E : List Int) (k : Nat) (Q M : List (List Int)) (i : Nat) (hi : i ≤ Q.length) : fiI E k Q M i = ((Q.take i).map fun row => (k, row)).foldl (fun M s => fiS E s.1 s.2 M) M := by
  induction i with
  | zero => simp [fiI]
  | succ i ih => rw [fiI_next (by omega), ih (by omega), List.take_succ_eq_append_getElem (by omega), List.map_append, List.foldl_append]; rfl
theorem fiK_fold (E : List Int) (P : List (List (List Int))) (M : List (List Int)) (k : Nat) : fiK E P M k = (flatP P k).foldl (fun M s => fiS E s.1 s.2 M) M := by
  induction k with
  | zero => rfl
  | succ k ih => rw [fiK, flatP, List.foldl_append, ← ih, fiI_fold _ _ _ _ _ (Nat.le_refl _), List.take_length]
theorem proj_fiS (E : List Int) (c : Int) (k : Nat) (row : List Int) (M : List (List Int)) : proj c (fiS E k row M) = bstep (proj c M) (k, fun b => bgB E c b row) := by
  rw [fiS, proj_set, hasL_joinL, hasL_rowF, bstep, proj_getD]
  simp [hasL]
theorem proj_fold (E : List Int) (c : Int) (L : List (Nat × List Int)) (M : List (List Int)) : proj c (L.foldl (fun M s => fiS E s.1 s.2 M) M) = bturn (L.map fun s => (s.1, fun b => bgB E c b s.2)) (proj c M) := by
  unfold bturn
  induction L generalizing M with
  | nil => rfl
  | cons s L ih => rw [List.foldl_cons, ih, List.map_cons, List.foldl_cons, proj_fiS]
/-- What a row of a part can begin with, the part can. -/
theorem fiT_closed {E : List Int} {P : List (List (List Int))} {k i : Nat} (hk : k < P.length) (hi : i < P[k].length) {c : Int} (hc : c ∈ rowF (fiT E P (P.length + 1)) E [] P[k][i]) : c ∈ (fiT E P (P.length + 1)).getD k [] := by
  have hl := (fiT_sets E P (P.length + 1)).1
  have h := bturns_closed (L := (flatP P P.length).map fun s => (s.1, fun b => bgB E c b s.2)) (f := fun t => proj c (fiT E P t)) (fun t => by show proj c (fiT E P (t + 1)) = _; rw [fiT, fiK_fold, proj_fold]) (N := P.length) (T := P.length + 1)
    (by show (proj c (fiT E P 0)).length ≤ _; rw [proj_length, (fiT_sets E P 0).1]; exact Nat.le_refl _) (Nat.le_refl _) (s := (k, fun b => bgB E c b P[k][i])) (List.mem_map.2 ⟨_, mem_flatP hk hi hk, rfl⟩)
    (by show k < (proj c _).length; rw [proj_length, hl]; exact hk)
    (by
      have := hasL_rowF (fiT E P (P.length + 1)) E c P[k][i] []
      rw [hasL_yes hc] at this
      simpa [hasL] using this.symm)
  have e := proj_getD c (fiT E P (P.length + 1)) k
  rw [List.getD_eq_getElem?_getD, List.getElem?_eq_getElem (by rw [proj_length, hl]; exact hk), Option.getD_some] at e
  rw [h] at e
  simpa [hasL] using e.symm
/-- What is kept step by step holds at the end. -/
theorem fiT_keeps {E : List Int} {P : List (List (List Int))} {S : List (List Int) → Prop} (h0 : S (List.replicate P.length [])) (hS : ∀ k (hk : k < P.length) i (hi : i < P[k].length) M, S M → S (fiS E k P[k][i] M)) (t : Nat) : S (fiT E P t) := by
  have sI : ∀ k (hk : k < P.length) M, S M → ∀ i, i ≤ P[k].length → S (fiI E k P[k] M i) := by
    intro k hk M hM i
    induction i with
    | zero => exact fun _ => hM
    | succ i ih => intro hi; rw [fiI_next (by omega)]; exact hS k hk i (by omega) _ (ih (by omega))
  have sK : ∀ M, S M → ∀ k, k ≤ P.length → S (fiK E P M k) := by
    intro M hM k
    induction k with
    | zero => exact fun _ => hM
    | succ k ih => intro hk; rw [fiK_next (by omega)]; exact sI k (by omega) _ (ih (by omega)) _ (Nat.le_refl _)
  induction t with
  | zero => exact h0
  | succ t ih => rw [fiT]; exact sK _ ih _ (Nat.le_refl _)
theorem getD_set (M : List (List Int)) (k j : Nat) (m : List Int) : (M.set k m).getD j [] = if j = k ∧ k < M.length then m else M.getD j [] := by
  by_cases e : j = k
  · subst e
    by_cases h : j < M.length
    · simp [List.getD, h]
    · simp [List.getD, h]
  · simp [List.getD, e, Ne.symm e]
/-- Nothing is there that closed sets have not. -/
theorem fiT_sound {E : List Int} {P : List (List (List Int))} {S : Nat → Int → Prop} (hS : ∀ k (hk : k < P.length) i (hi : i < P[k].length) (M : List (List Int)), M.length = P.length → (∀ j, ∀ c ∈ M.getD j [], S j c) → ∀ c ∈ rowF M E [] P[k][i], S k c) (t j : Nat) : ∀ c ∈ (fiT E P t).getD j [], S j c := by
  have := fiT_keeps (E := E) (P := P) (S := fun M => M.length = P.length ∧ ∀ j, ∀ c ∈ M.getD j [], S j c) ⟨by simp, fun j c hc => by
      by_cases hj : j < P.length
      · simp [List.getD, hj] at hc
      · simp [List.getD, hj] at hc⟩ (fun k hk i hi M hM => ⟨by rw [fiS, List.length_set]; exact hM.1, fun j c hc => by
      rw [fiS, getD_set] at hc
      split at hc
      · rename_i hj
        rcases mem_joinL.1 hc with hc | hc
        · rw [hj.1]; exact hM.2 k c hc
        · rw [hj.1]; exact hS k hk i hi M hM.1 hM.2 c hc
      · exact hM.2 j c hc⟩) t
  exact this.2 j
theorem rowF_sorted {M : List (List Int)} {E : List Int} : ∀ {zs out : List Int}, out.Pairwise (· < ·) → (rowF M E out zs).Pairwise (· < ·)
  | [], out, h => by rw [rowF]; exact h
  | x :: xs, out, h => by
    rw [rowF]
    split
    · exact pair_addL h
    · split
      · split
        · exact rowF_sorted (pair_joinL h)
        · exact pair_joinL h
      · exact h
theorem fiT_sorted (E : List Int) (P : List (List (List Int))) (t j : Nat) : ((fiT E P t).getD j []).Pairwise (· < ·) := by
  have := fiT_keeps (E := E) (P := P) (S := fun M => ∀ j, (M.getD j []).Pairwise (· < ·)) (fun j => by
      by_cases hj : j < P.length
      · simp [List.getD, hj]
      · simp [List.getD, hj]) (fun k hk i hi M hM j => by
      rw [fiS, getD_set]
      split
      · exact pair_joinL (hM k)
      · exact hM j) t
  exact this j
end Go.Proofs.YtdniejpblhbjkabDoor
namespace Go.Proofs.YtdniejpblhbjkabDoor
open Go.RowKit

section
variable (st : Nat → List Int → List Bool → List Bool)
def leI (k : Nat) (Q : List (List Int)) (T : List Bool) : Nat → List Bool
  | 0 => T
  | i + 1 => st k (Q.getD i []) (leI k Q T i)
def leK (P : List (List (List Int))) (T : List Bool) : Nat → List Bool
  | 0 => T
  | k + 1 => leI st k (P.getD k []) (leK P T k) (P.getD k []).length
/-- What holds at the start and is kept by each row's step holds of T. -/
def Grows (P : List (List (List Int))) (T0 T : List Bool) : Prop := ∀ I : List Bool → Prop, I T0 → (∀ k (hk : k < P.length) i (hi : i < P[k].length) T, I T → I (st k P[k][i] T)) → I T
end
variable {st : Nat → List Int → List Bool → List Bool}
theorem leI_next {k i : Nat} {Q : List (List Int)} {T : List Bool} (h : i < Q.length) : leI st k Q T (i + 1) = st k Q[i] (leI st k Q T i) := by
  have e : Q.getD i [] = Q[i] := by simp [List.getD, h]
  rw [leI, e]
theorem leK_next {P : List (List (List Int))} {T : List Bool} {k : Nat} (h : k < P.length) : leK st P T (k + 1) = leI st k P[k] (leK st P T k) P[k].length := by
  have e : P.getD k [] = P[k] := by simp [List.getD, h]
  rw [leK, e]
theorem Grows.refl (P : List (List (List Int))) (T : List Bool) : Grows st P T T := fun _ h _ => h
theorem Grows.leI {P : List (List (List Int))} {T0 T : List Bool} (h : Grows st P T0 T) {k : Nat} (hk : k < P.length) (i : Nat) (hi : i ≤ P[k].length) : Grows st P T0 (leI st k P[k] T i) := by
  intro I h0 hS
  induction i with
  | zero => exact h I h0 hS
  | succ i ih => rw [leI_next (by omega)]; exact hS k hk i (by omega) _ (ih (by omega))
theorem Grows.leK {P : List (List (List Int))} {T0 T : List Bool} (h : Grows st P T0 T) (k : Nat) (hk : k ≤ P.length) : Grows st P T0 (leK st P T k) := by
  induction k with
  | zero => exact h
  | succ k ih => rw [leK_next (by omega)]; exact (ih (by omega)).leI (by omega) _ (Nat.le_refl _)
/-- Steps that leave as it was or raise a flag. -/
def Raises (st : Nat → List Int → List Bool → List Bool) (P : List (List (List Int))) (n : Nat) : Prop := ∀ k (hk : k < P.length) i (hi : i < P[k].length) (T : List Bool), T.length = n → (st k P[k][i] T).length = n ∧ (st k P[k][i] T = T ∨ cntB T < cntB (st k P[k][i] T))
theorem Raises.leI {P : List (List (List Int))} {n : Nat} (h : Raises st P n) {k : Nat} (hk : k < P.length) {T : List Bool} (hT : T.length = n) (i : Nat) (hi : i ≤ P[k].length) : (leI st k P[k] T i).length = n ∧ (leI st k P[k] T i = T ∨ cntB T < cntB (leI st k P[k] T i)) := by
  induction i with
  | zero => exact ⟨hT, .inl rfl⟩
  | succ i ih =>
    have h1 := ih (by omega)
    have h2 := h k hk i (by omega) _ h1.1
    rw [leI_next (by omega)]
    refine ⟨h2.1, ?_⟩
    rcases h1.2 with e1 | e1
    · rcases h2.2 with e2 | e2
      · left; rw [e2]; exact e1
      · right; rw [e1] at e2 ⊢; exact e2
    · rcases h2.2 with e2 | e2
      · right; rw [e2]; exact e1
      · right; omega
theorem Raises.leK {P : List (List (List Int))} {n : Nat} (h : Raises st P n) {T : List Bool} (hT : T.length = n) (k : Nat) (hk : k ≤ P.length) : (leK st P T k).length = n ∧ (leK st P T k = T ∨ cntB T < cntB (leK st P T k)) := by
  induction k with
  | zero => exact ⟨hT, .inl rfl⟩
  | succ k ih =>
    have h1 := ih (by omega)
    have h2 := h.leI (k := k) (by omega) h1.1 _ (Nat.le_refl _)
    rw [leK_next (by omega)]
    refine ⟨h2.1, ?_⟩
    rcases h1.2 with e1 | e1
    · rcases h2.2 with e2 | e2
      · left; rw [e2]; exact e1
      · right; rw [e1] at e2 ⊢; exact e2
    · rcases h2.2 with e2 | e2
      · right; rw [e2]; exact e1
      · right; omega
/-- Where a round brings nothing new, no row's step does. -/
theorem Raises.fix {P : List (List (List Int))} {n : Nat} (h : Raises st P n) {T : List Bool} (hT : T.length = n) (e : Go.Proofs.YtdniejpblhbjkabDoor.leK st P T P.length = T) {k : Nat} (hk : k < P.length) {i : Nat} (hi : i < P[k].length) : st k P[k][i] T = T := by
  have stepK : ∀ j, j < P.length → Go.Proofs.YtdniejpblhbjkabDoor.leK st P T (j + 1) = Go.Proofs.YtdniejpblhbjkabDoor.leK st P T j ∨ cntB (Go.Proofs.YtdniejpblhbjkabDoor.leK st P T j) < cntB (Go.Proofs.YtdniejpblhbjkabDoor.leK st P T (j + 1)) := by
    intro j hj
    rw [leK_next hj]
    exact (h.leI hj (h.leK hT j (by omega)).1 _ (Nat.le_refl _)).2
  have hK := steps_fix (m := cntB) (f := fun j => Go.Proofs.YtdniejpblhbjkabDoor.leK st P T (min j P.length)) (fun j => by
    by_cases hj : j < P.length
    · have e1 : min (j + 1) P.length = j + 1 := by omega
      have e2 : min j P.length = j := by omega
      show Go.Proofs.YtdniejpblhbjkabDoor.leK st P T (min (j + 1) P.length) = _ ∨ _
      rw [e1, e2]; exact stepK j hj
    · left
      have e1 : min (j + 1) P.length = P.length := by omega
      have e2 : min j P.length = P.length := by omega
      show Go.Proofs.YtdniejpblhbjkabDoor.leK st P T (min (j + 1) P.length) = _
      rw [e1, e2]) (n := P.length) (by
      show Go.Proofs.YtdniejpblhbjkabDoor.leK st P T (min P.length P.length) = Go.Proofs.YtdniejpblhbjkabDoor.leK st P T (min 0 P.length)
      rw [Nat.min_self, Nat.zero_min]; exact e)
  have kk : ∀ j, j ≤ P.length → Go.Proofs.YtdniejpblhbjkabDoor.leK st P T j = T := by
    intro j hj
    have := hK j hj
    have e1 : min j P.length = j := by omega
    have e2 : min 0 P.length = 0 := by omega
    simp only [e1, e2] at this
    exact this
  have e1 : Go.Proofs.YtdniejpblhbjkabDoor.leI st k P[k] T P[k].length = T := by
    have := leK_next (st := st) (T := T) hk
    rw [kk (k + 1) (by omega), kk k (by omega)] at this
    exact this.symm
  have hI := steps_fix (m := cntB) (f := fun j => Go.Proofs.YtdniejpblhbjkabDoor.leI st k P[k] T (min j P[k].length)) (fun j => by
    by_cases hj : j < P[k].length
    · have e1 : min (j + 1) P[k].length = j + 1 := by omega
      have e2 : min j P[k].length = j := by omega
      show Go.Proofs.YtdniejpblhbjkabDoor.leI st k P[k] T (min (j + 1) P[k].length) = _ ∨ _
      rw [e1, e2, leI_next hj]; exact (h k hk j hj _ (h.leI hk hT j (by omega)).1).2
    · left
      have e1 : min (j + 1) P[k].length = P[k].length := by omega
      have e2 : min j P[k].length = P[k].length := by omega
      show Go.Proofs.YtdniejpblhbjkabDoor.leI st k P[k] T (min (j + 1) P[k].length) = _
      rw [e1, e2]) (n := P[k].length) (by
      show Go.Proofs.YtdniejpblhbjkabDoor.leI st k P[k] T (min P[k].length P[k].length) = Go.Proofs.YtdniejpblhbjkabDoor.leI st k P[k] T (min 0 P[k].length)
      rw [Nat.min_self, Nat.zero_min]; exact e1)
  have ii : ∀ j, j ≤ P[k].length → Go.Proofs.YtdniejpblhbjkabDoor.leI st k P[k] T j = T := by
    intro j hj
    have := hI j hj
    have e1 : min j P[k].length = j := by omega
    have e2 : min 0 P[k].length = 0 := by omega
    simp only [e1, e2] at this
    exact this
  have := ii (i + 1) (by omega)
  rw [leI_next hi, ii i (by omega)] at this
  exact this
/-- The flags of a set of numbers; of sets of such. -/
def flagsOf (E : List Int) : List Bool := (List.range 27).map fun (n : Nat) => hasL E (n : Int)
theorem flagsOf_length (E : List Int) : (flagsOf E).length = 27 := by simp [flagsOf]
theorem flagsOf_get (E : List Int) {n : Nat} (h : n < 27) : (flagsOf E).getD n false = hasL E (n : Int) := by simp [flagsOf, List.getD, h]
/-- One row's step of emptiesOf. -/
def emS (allB : List Bool → List Int → Bool) (k : Nat) (row : List Int) (T : List Bool) : List Bool := bstep T (k, fun b => allB b row)
end Go.Proofs.YtdniejpblhbjkabDoor
namespace Go.Proofs.YtdniejpblhbjkabDoor
open Go.RowKit

theorem eq_flags27 {w : World} {cs bs : List Bool} (h1 : cs.length = 27) (h2 : bs.length = 27) : (Op.equalIn 10000 52 (aggB cs) (aggB bs)).run Tryd.prog w = .ok (decide (cs = bs)) w := run_eq_flags 9998 u_flags u_bool bool_size h1 h2
theorem guard_flags : Tryd.prog.eqGuardType Tryd.prog.depth 52 = false := by kernel_rfl

/-- One row's step. -/
theorem emS_raises (p : List Bool → List Int → Bool) (P : List (List (List Int))) : Raises (emS p) P 27 := fun k _ i _ T hT => ⟨by rw [emS, bstep_length]; exact hT, bstep_or _ _⟩
theorem emS_yes {p : List Bool → List Int → Bool} {k : Nat} {row : List Int} {T : List Bool} (h : T.getD k false = true) : emS p k row T = T.set k true := by simp only [emS, bstep, h, Bool.true_or]
theorem emS_no {p : List Bool → List Int → Bool} {k : Nat} {row : List Int} {T : List Bool} (h : T.getD k false = false) : emS p k row T = T.set k (p T row) := by simp only [emS, bstep, h, Bool.false_or]

theorem at27 {T : List Bool} (hl : T.length = 27) : BitT Tryd.prog 52 T.length := by rw [hl]; exact bt_flags
theorem ahead_facts {n1 : Nat} {w2 wr w3 w4 : World} {t : TypeId} {T : List Bool} (hbel : Below n1 w2 wr) (hn : n1 < wr.heap.size) (hBT : Bits wr n1 t T) (hb3 : Below wr.heap.size wr w3) (hs3 : w3.heap.size = wr.heap.size + 1) (hTl : T.length = 27) (hB4 : Bits w4 wr.heap.size 52 (putB (List.replicate 27 false) 0 T)) (hg4 : w3.grownBy w4 (some wr.heap.size)) :
    Below n1 w2 w4 ∧ Bits w4 n1 t T ∧ Bits w4 wr.heap.size 52 T := by
  have e : putB (List.replicate 27 false) 0 T = T := putB_whole (by simp [hTl])
  rw [e] at hB4
  refine ⟨?_, ?_, hB4⟩
  · exact (hbel.trans (hb3.mono (by omega))).grown hg4 (by omega) (fun k hk => by cases hk; omega)
  · exact (hBT.later hb3).grown hg4 (by intro h; cases h; omega)
theorem ret_cell {fn : Func} {p : Tmp} {tmps : Array Value} {w : World} {g : Nat} {t : TypeId} {bs : List Bool} (ty : TypeId) (h : fn.results = #[.cell p ty]) (hp : tmps.getD p undef = .pointer (some ⟨g, 0, none⟩)) (hB : Bits w g t bs) (hT : BitT Tryd.prog ty bs.length) : (results fn tmps).run Tryd.prog w = .ok (aggB bs) w := by
  obtain ⟨d, hu, hd⟩ := hT.desc
  exact results_cell_row h tmps w g t (cellsB bs) (0, 0) d hp hB hu (by cases d <;> first | rfl | cases hd) (by rw [cellsB_size]; exact hT.size)

end Go.Proofs.YtdniejpblhbjkabDoor
namespace Go.Proofs.YtdniejpblhbjkabDoor
open Go.RowKit

set_option maxHeartbeats 4000000 in
set_option maxRecDepth 100000 in
theorem leastParts_P (p : List Bool → List Int → Bool) (P : List (List (List Int))) (a0 : Option Addr) (c0 : Nat) (w : World) (h0 : RD w (.slice a0 P.length c0) (slD (Lay.list (Lay.list Lay.int)) P)) (hok : gramOkB P = true)
    (hcl : ∀ (W : World) (T : List Bool) (k : Nat) (hk : k < P.length) (i : Nat) (hi : i < P[k].length) (a : Option Addr) (c : Nat), Below w.heap.size w W → T.length = 27 → RD w (.slice a P[k][i].length c) (slD Lay.int P[k][i]) →
      Calls Tryd.prog 41 #[.slice a P[k][i].length c, aggB T] W fun e w' => e = .returned (.bool (p T P[k][i])) ∧ Below W.heap.size W w') :
    Calls Tryd.prog 40 #[.agg #[.slice a0 P.length c0], .func (.func 41) #[] #[]] w fun e w' => ∃ T, e = .returned (aggB T) ∧ T.length = 27 ∧ Grows (emS p) P (List.replicate 27 false) T ∧ leK (emS p) P T P.length = T ∧ Below w.heap.size w w' := by
  have F := Fits.of hok
  have HF : Hid (Fits P) := F
  have hp := F.parts
  have HRz : Hid (Raises (emS p) P 27) := emS_raises p P
  have HCL : Hid (∀ (W : World) (T : List Bool) (k : Nat) (hk : k < P.length) (i : Nat) (hi : i < P[k].length) (a : Option Addr) (c : Nat), Below w.heap.size w W → T.length = 27 → RD w (.slice a P[k][i].length c) (slD Lay.int P[k][i]) →
      Calls Tryd.prog 41 #[.slice a P[k][i].length c, aggB T] W fun e w' => e = .returned (.bool (p T P[k][i])) ∧ Below W.heap.size W w') := hcl
  clear F hok hcl
  have B0 := (Below.refl w.heap.size w).alloc (Nat.le_refl _) (.cells #[.slice a0 P.length c0] 27)
  have HQ0 : Hid ((w.alloc (.cells #[.slice a0 P.length c0] 27)).cell? ⟨w.heap.size, 0, none⟩ = some (.slice a0 P.length c0)) := by show _ = _; simp
  have HR0 : Hid (RD w (.slice a0 P.length c0) (slD (Lay.list (Lay.list Lay.int)) P)) := h0
  have hsb : (w.alloc (.cells #[.slice a0 P.length c0] 27)).heap.size = w.heap.size + 1 := by simp
  clear h0
  go_enter Tryd.func40, Tryd.ntmps40
  go_wp2_with (first | (refine wpList_allocB (w := w.alloc _) rfl 52 rfl 27 bt_flags ?_; rw [hsb]; intro w1 hB1 hb1 hs1) | (refine wpList_allocB (w := w1) rfl 52 rfl 27 bt_flags ?_; intro w2 hB2 hb2 hs2))
  generalize w.alloc (.cells #[.slice a0 P.length c0] 27) = wb at *
  simp only [Act.put, List.setIfInBounds_toArray, List.set_cons_zero, List.set_cons_succ]
  -- what is known below the flags
  have hs1' : w1.heap.size = w.heap.size + 2 := by omega
  have HQ : Hid (∀ W, Below w1.heap.size w2 W → W.cell? ⟨w.heap.size, 0, none⟩ = some (.slice a0 P.length c0) ∧ Below w.heap.size w W ∧ Bits W (w.heap.size + 1) 52 (List.replicate 27 false)) := by
    intro W hW
    have b1 : Below (w.heap.size + 1) wb W := hb1.trans ((hb2.mono (by omega)).trans (hW.mono (by omega)))
    refine ⟨(b1.cell (p := ⟨w.heap.size, 0, none⟩) (by simp)).trans HQ0.out, B0.trans (b1.mono (by omega)), ?_⟩
    exact (hB1.below hb2 (by omega)).below hW (by omega)
  clear HQ0 B0 hB1 hb1 hs1
  clear hb2 hs2
  generalize w1.heap.size = n1 at *
  have hn1w : w.heap.size + 1 < n1 := by omega
  clear hs1' hsb
  go_loopg [] 27 (fun g wr => ∃ T : List Bool, Aside (T.length = 27 ∧ cntB T + g = 27 ∧ Grows (emS p) P (List.replicate 27 false) T ∧ Bits wr n1 52 T ∧ Below n1 w2 wr))
  case atStart => exact ⟨List.replicate 27 false, by simp, by decide, Grows.refl _ _, hB2, Below.refl _ _⟩
  case round =>
    obtain ⟨T, A⟩ := hrel
    have hTl := A.out.1
    have HTg : Hid (cntB T + gk = 27) := A.out.2.1
    have HTG : Hid (Grows (emS p) P (List.replicate 27 false) T) := A.out.2.2.1
    have hBT := A.out.2.2.2.1
    have hbel := A.out.2.2.2.2
    clear A hB2
    have hnr := hBT.lt
    go_wp2_with (first | (refine wpList_loadW rfl 52 _ rfl n1 52 T rfl (at27 hTl) hBT ?_) | (refine wpList_allocB rfl 52 rfl 27 bt_flags ?_; intro w3 hB3 hb3 hs3) | (refine wpList_storeB rfl 52 _ _ rfl wr.heap.size 0 52 _ T rfl rfl (at27 hTl) hB3 (by simp [hTl]) ?_; intro w4 hB4 hg4; obtain ⟨hbel4, hBT4, hBA4⟩ := ahead_facts hbel hnr hBT hb3 hs3 hTl hB4 hg4; obtain ⟨q4, _, _⟩ := HQ.out w4 hbel4))
    have HA : Hid (wr.heap.size < w4.heap.size) := hBA4.lt
    have hnA : n1 < wr.heap.size := hnr
    generalize wr.heap.size = nA at *
    clear hB3 hb3 hs3 hB4 hg4 hBT hbel hnr
    go_loopw [15] (fun s13 wk => ∃ k : Nat, k ≤ P.length ∧ s13 = .int .i64 k ∧ Bits wk n1 52 (leK (emS p) P T k) ∧ Bits wk nA 52 T ∧ Below n1 w2 wk) (fun s13 _ => P.length - (intOf s13).toNat)
    case atStart => exact ⟨0, Nat.zero_le _, rfl, hBT4, hBA4, hbel4⟩
    case round =>
      obtain ⟨k, hk, rfl, hBk, hBA, hbk⟩ := hrel
      clear hBT4 hBA4 hbel4 q4 HA
      by_cases hlk : k < P.length
      · have HK : Hid (leK (emS p) P T (k + 1) = leI (emS p) k P[k] (leK (emS p) P T k) P[k].length) := leK_next hlk
        have hm := List.getElem_mem hlk
        have hQ := HF.out.alts _ hm
        have HC1 : Hid (∀ (W : World) (T : List Bool) (i : Nat) (hi : i < P[k].length) (a : Option Addr) (c : Nat), Below w.heap.size w W → T.length = 27 → RD w (.slice a P[k][i].length c) (slD Lay.int P[k][i]) →
          Calls Tryd.prog 41 #[.slice a P[k][i].length c, aggB T] W fun e w' => e = .returned (.bool (p T P[k][i])) ∧ Below W.heap.size W w') := fun W T i hi a c => HCL.out W T k hlk i hi a c
        have HLe : Hid (∀ i, i ≤ P[k].length → (leI (emS p) k P[k] (leK (emS p) P T k) i).length = 27) := fun i hi => (HRz.out.leI hlk (HRz.out.leK hTl k hk).1 i hi).1
        obtain ⟨b1, o1, ea0, hb1, a1, c1, q0', r1⟩ := HR0.out.listAt hlk
        have HR1 : Hid (RD w (.slice a1 P[k].length c1) (slD (Lay.list Lay.int) P[k])) := r1
        have q0 := ((HQ.out wr hbk).2.1.cell (p := ⟨b1, o1 + k, none⟩) hb1).trans q0'
        subst ea0
        have hk27 : k < 27 := by omega
        clear r1 q0' hm hb1
        generalize leK (emS p) P T k = Tk at *
        generalize P[k] = Q at *
        go_wp2
        go_loopw [22] (fun s20 wk => ∃ i : Nat, i ≤ Q.length ∧ s20 = .int .i64 i ∧ Bits wk n1 52 (leI (emS p) k Q Tk i) ∧ Bits wk nA 52 T ∧ Below n1 w2 wk) (fun s20 _ => Q.length - (intOf s20).toNat)
        case atStart => exact ⟨0, Nat.zero_le _, rfl, hBk, hBA, hbk⟩
        case round =>
          obtain ⟨i, hi, rfl, hBi, hBAi, hbi⟩ := hrel
          clear hBk hBA hbk q0
          by_cases hli : i < Q.length
          · have HE : Hid (leI (emS p) k Q Tk (i + 1) = emS p k Q[i] (leI (emS p) k Q Tk i)) := leI_next hli
            have hTi := HLe.out i hi
            obtain ⟨b2, o2, ea1, hb2, a2, c2, q1', r2⟩ := HR1.out.listAt hli
            have hbw := (HQ.out wr hbi).2.1
            have q1 := (hbw.cell (p := ⟨b2, o2 + i, none⟩) hb2).trans q1'
            subst ea1
            have q2 := hBi.cell (n := k) (by omega)
            have f2 := hBi.frozen k
            have hn1r := hBi.lt
            have HX : Hid (Calls Tryd.prog 41 #[.slice a2 Q[i].length c2, aggB (leI (emS p) k Q Tk i)] wr fun e w' => e = .returned (.bool (p (leI (emS p) k Q Tk i) Q[i])) ∧ Below wr.heap.size wr w') := HC1.out wr _ i hli a2 c2 hbw hTi r2
            clear r2 q1' hb2 hbw
            generalize leI (emS p) k Q Tk i = Ti at *
            generalize Q[i] = R at *
            have key : ∀ (W : World) (v : Bool), Below wr.heap.size wr W → emS p k R Ti = Ti.set k v → Bits (W.setCell ⟨n1, k, none⟩ (.bool v)) n1 52 (leI (emS p) k Q Tk (i + 1)) ∧ Bits (W.setCell ⟨n1, k, none⟩ (.bool v)) nA 52 T ∧ Below n1 w2 (W.setCell ⟨n1, k, none⟩ (.bool v)) := by
              intro W v hW he
              rw [HE.out, he]
              exact ⟨(hBi.later hW).set k v, (hBAi.later hW).grown (setCell_grown W n1 k _) (by intro h; cases h; omega), (hbi.trans (hW.mono (by omega))).setCell (Nat.le_refl _) _⟩
            have HKY : Hid (∀ (W : World) (v : Bool), Below wr.heap.size wr W → emS p k R Ti = Ti.set k v → Bits (W.setCell ⟨n1, k, none⟩ (.bool v)) n1 52 (leI (emS p) k Q Tk (i + 1)) ∧ Bits (W.setCell ⟨n1, k, none⟩ (.bool v)) nA 52 T ∧ Below n1 w2 (W.setCell ⟨n1, k, none⟩ (.bool v))) := key
            clear key
            by_cases hup : Ti.getD k false = true
            · rw [hup] at q2
              have K1 := HKY.out wr true (Below.refl _ _) (emS_yes hup)
              have HK1 : Hid _ := K1
              clear K1 hup HKY HE HX
              go_wp2
              go_roundw
              case rel => exact ⟨i + 1, by omega, by go_num, HK1.out.1, HK1.out.2.1, HK1.out.2.2⟩
              case measure => simp [intOf]; omega
            · have hdn : Ti.getD k false = false := by simpa using hup
              rw [hdn] at q2
              have HK2 : Hid (∀ W, Below wr.heap.size wr W → _) := fun W hW => HKY.out W (p Ti R) hW (emS_no hdn)
              clear hup hdn HKY HE
              go_wp2_with (first | (refine wpList_loadW rfl 52 _ rfl n1 52 Ti rfl (at27 hTi) hBi ?_) | (go_at_call 41; refine HX.out.mono ?_; rintro e w5 ⟨rfl, hb5⟩; have q5 := (hBi.later hb5).cell (n := k) (by omega); have f5 := (hBi.later hb5).frozen k))
              go_roundw
              case rel => exact ⟨i + 1, by omega, by go_num, (HK2.out w5 hb5).1, (HK2.out w5 hb5).2.1, (HK2.out w5 hb5).2.2⟩
              case measure => simp [intOf]; omega
          · have e : i = Q.length := by omega
            subst e
            have HKe := HK
            clear HK
            go_wp2
            go_roundw
            case rel => exact ⟨k + 1, by omega, by go_num, by rw [HKe.out]; exact hBi, hBAi, hbi⟩
            case measure => simp [intOf]; omega
      · have e : k = P.length := by omega
        subst e
        have hLl := (HRz.out.leK hTl P.length (Nat.le_refl _))
        have HL2 : Hid (leK (emS p) P T P.length = T ∨ cntB T < cntB (leK (emS p) P T P.length)) := hLl.2
        have hLl1 := hLl.1
        have HLG : Hid (Grows (emS p) P (List.replicate 27 false) (leK (emS p) P T P.length)) := HTG.out.leK _ (Nat.le_refl _)
        have HLc : Hid (cntB (leK (emS p) P T P.length) ≤ 27) := by show _ ≤ _; have := cntB_le (leK (emS p) P T P.length); omega
        clear hLl
        by_cases hfix : leK (emS p) P T P.length = T
        · have HX : Hid (leK (emS p) P T P.length = T) := hfix
          rw [hfix] at hBk
          clear hfix HL2 hLl1
          have hR := (HQ.out wr hbk).2.2
          have hBel := (HQ.out wr hbk).2.1
          go_wp2_with (first | (refine wpList_loadW rfl 52 _ rfl n1 52 T rfl (at27 hTl) hBk ?_) | (refine wpList_loadW rfl 52 _ rfl nA 52 T rfl (at27 hTl) hBA ?_) | (refine wpList_eqlB rfl 52 _ _ _ rfl T T rfl rfl guard_flags (eq_flags27 hTl hTl) ?_; rw [decide_eq_true (rfl : T = T)]) | (refine wpList_storeB rfl 52 _ _ rfl (w.heap.size + 1) 0 52 _ T rfl rfl (at27 hTl) hR (by simp [hTl]) ?_; intro w5 hB5 hg5))
          have e5 : putB (List.replicate 27 false) 0 T = T := putB_whole (by simp [hTl])
          rw [e5] at hB5
          have hb5 : Below w.heap.size w w5 := hBel.grown hg5 hBel.size (fun j hj => by cases hj; omega)
          refine bodyPost_ret (v := aggB T) (ret_cell 52 rfl rfl hB5 (at27 hTl)) rfl ⟨T, rfl, hTl, HTG.out, HX.out, hb5⟩
        · have hcnt : cntB T < cntB (leK (emS p) P T P.length) := HL2.out.resolve_left hfix
          have hdec : decide (leK (emS p) P T P.length = T) = false := decide_eq_false hfix
          clear hfix HL2
          generalize leK (emS p) P T P.length = T2 at *
          go_wp2_with (first | (refine wpList_loadW rfl 52 _ rfl n1 52 T2 rfl (at27 hLl1) hBk ?_) | (refine wpList_loadW rfl 52 _ rfl nA 52 T rfl (at27 hTl) hBA ?_) | (refine wpList_eqlB rfl 52 _ _ _ rfl T2 T rfl rfl guard_flags (eq_flags27 hLl1 hTl) ?_; rw [hdec]))
          go_roundg (27 - cntB T2)
          case measure => have := HTg.out; have := HLc.out; omega
          case rel => exact ⟨T2, hLl1, by have := HLc.out; omega, HLG.out, hBk, hbk⟩
end Go.Proofs.YtdniejpblhbjkabDoor
namespace Go.Proofs.YtdniejpblhbjkabDoor
open Go.RowKit

set_option maxHeartbeats 4000000 in
set_option maxRecDepth 100000 in
theorem leastParts_E (p : List Bool → List Int → Bool) (P : List (List (List Int))) (a0 : Option Addr) (c0 : Nat) (w : World) (h0 : RD w (.slice a0 P.length c0) (slD (Lay.list (Lay.list Lay.int)) P)) (hok : gramOkB P = true)
    (hcl : ∀ (W : World) (T : List Bool) (k : Nat) (hk : k < P.length) (i : Nat) (hi : i < P[k].length) (a : Option Addr) (c : Nat), Below w.heap.size w W → T.length = 27 → RD w (.slice a P[k][i].length c) (slD Lay.int P[k][i]) →
      Calls Tryd.prog 51 #[.slice a P[k][i].length c, aggB T] W fun e w' => e = .returned (.bool (p T P[k][i])) ∧ Below W.heap.size W w') :
    Calls Tryd.prog 40 #[.agg #[.slice a0 P.length c0], .func (.func 51) #[] #[]] w fun e w' => ∃ T, e = .returned (aggB T) ∧ T.length = 27 ∧ Grows (emS p) P (List.replicate 27 false) T ∧ leK (emS p) P T P.length = T ∧ Below w.heap.size w w' := by
  have F := Fits.of hok
  have HF : Hid (Fits P) := F
  have hp := F.parts
  have HRz : Hid (Raises (emS p) P 27) := emS_raises p P
  have HCL : Hid (∀ (W : World) (T : List Bool) (k : Nat) (hk : k < P.length) (i : Nat) (hi : i < P[k].length) (a : Option Addr) (c : Nat), Below w.heap.size w W → T.length = 27 → RD w (.slice a P[k][i].length c) (slD Lay.int P[k][i]) →
      Calls Tryd.prog 51 #[.slice a P[k][i].length c, aggB T] W fun e w' => e = .returned (.bool (p T P[k][i])) ∧ Below W.heap.size W w') := hcl
  clear F hok hcl
  have B0 := (Below.refl w.heap.size w).alloc (Nat.le_refl _) (.cells #[.slice a0 P.length c0] 27)
  have HQ0 : Hid ((w.alloc (.cells #[.slice a0 P.length c0] 27)).cell? ⟨w.heap.size, 0, none⟩ = some (.slice a0 P.length c0)) := by show _ = _; simp
  have HR0 : Hid (RD w (.slice a0 P.length c0) (slD (Lay.list (Lay.list Lay.int)) P)) := h0
  have hsb : (w.alloc (.cells #[.slice a0 P.length c0] 27)).heap.size = w.heap.size + 1 := by simp
  clear h0
  go_enter Tryd.func40, Tryd.ntmps40
  go_wp2_with (first | (refine wpList_allocB (w := w.alloc _) rfl 52 rfl 27 bt_flags ?_; rw [hsb]; intro w1 hB1 hb1 hs1) | (refine wpList_allocB (w := w1) rfl 52 rfl 27 bt_flags ?_; intro w2 hB2 hb2 hs2))
  generalize w.alloc (.cells #[.slice a0 P.length c0] 27) = wb at *
  simp only [Act.put, List.setIfInBounds_toArray, List.set_cons_zero, List.set_cons_succ]
  -- what is known below the flags
  have hs1' : w1.heap.size = w.heap.size + 2 := by omega
  have HQ : Hid (∀ W, Below w1.heap.size w2 W → W.cell? ⟨w.heap.size, 0, none⟩ = some (.slice a0 P.length c0) ∧ Below w.heap.size w W ∧ Bits W (w.heap.size + 1) 52 (List.replicate 27 false)) := by
    intro W hW
    have b1 : Below (w.heap.size + 1) wb W := hb1.trans ((hb2.mono (by omega)).trans (hW.mono (by omega)))
    refine ⟨(b1.cell (p := ⟨w.heap.size, 0, none⟩) (by simp)).trans HQ0.out, B0.trans (b1.mono (by omega)), ?_⟩
    exact (hB1.below hb2 (by omega)).below hW (by omega)
  clear HQ0 B0 hB1 hb1 hs1
  clear hb2 hs2
  generalize w1.heap.size = n1 at *
  have hn1w : w.heap.size + 1 < n1 := by omega
  clear hs1' hsb
  go_loopg [] 27 (fun g wr => ∃ T : List Bool, Aside (T.length = 27 ∧ cntB T + g = 27 ∧ Grows (emS p) P (List.replicate 27 false) T ∧ Bits wr n1 52 T ∧ Below n1 w2 wr))
  case atStart => exact ⟨List.replicate 27 false, by simp, by decide, Grows.refl _ _, hB2, Below.refl _ _⟩
  case round =>
    obtain ⟨T, A⟩ := hrel
    have hTl := A.out.1
    have HTg : Hid (cntB T + gk = 27) := A.out.2.1
    have HTG : Hid (Grows (emS p) P (List.replicate 27 false) T) := A.out.2.2.1
    have hBT := A.out.2.2.2.1
    have hbel := A.out.2.2.2.2
    clear A hB2
    have hnr := hBT.lt
    go_wp2_with (first | (refine wpList_loadW rfl 52 _ rfl n1 52 T rfl (at27 hTl) hBT ?_) | (refine wpList_allocB rfl 52 rfl 27 bt_flags ?_; intro w3 hB3 hb3 hs3) | (refine wpList_storeB rfl 52 _ _ rfl wr.heap.size 0 52 _ T rfl rfl (at27 hTl) hB3 (by simp [hTl]) ?_; intro w4 hB4 hg4; obtain ⟨hbel4, hBT4, hBA4⟩ := ahead_facts hbel hnr hBT hb3 hs3 hTl hB4 hg4; obtain ⟨q4, _, _⟩ := HQ.out w4 hbel4))
    have HA : Hid (wr.heap.size < w4.heap.size) := hBA4.lt
    have hnA : n1 < wr.heap.size := hnr
    generalize wr.heap.size = nA at *
    clear hB3 hb3 hs3 hB4 hg4 hBT hbel hnr
    go_loopw [15] (fun s13 wk => ∃ k : Nat, k ≤ P.length ∧ s13 = .int .i64 k ∧ Bits wk n1 52 (leK (emS p) P T k) ∧ Bits wk nA 52 T ∧ Below n1 w2 wk) (fun s13 _ => P.length - (intOf s13).toNat)
    case atStart => exact ⟨0, Nat.zero_le _, rfl, hBT4, hBA4, hbel4⟩
    case round =>
      obtain ⟨k, hk, rfl, hBk, hBA, hbk⟩ := hrel
      clear hBT4 hBA4 hbel4 q4 HA
      by_cases hlk : k < P.length
      · have HK : Hid (leK (emS p) P T (k + 1) = leI (emS p) k P[k] (leK (emS p) P T k) P[k].length) := leK_next hlk
        have hm := List.getElem_mem hlk
        have hQ := HF.out.alts _ hm
        have HC1 : Hid (∀ (W : World) (T : List Bool) (i : Nat) (hi : i < P[k].length) (a : Option Addr) (c : Nat), Below w.heap.size w W → T.length = 27 → RD w (.slice a P[k][i].length c) (slD Lay.int P[k][i]) →
          Calls Tryd.prog 51 #[.slice a P[k][i].length c, aggB T] W fun e w' => e = .returned (.bool (p T P[k][i])) ∧ Below W.heap.size W w') := fun W T i hi a c => HCL.out W T k hlk i hi a c
        have HLe : Hid (∀ i, i ≤ P[k].length → (leI (emS p) k P[k] (leK (emS p) P T k) i).length = 27) := fun i hi => (HRz.out.leI hlk (HRz.out.leK hTl k hk).1 i hi).1
        obtain ⟨b1, o1, ea0, hb1, a1, c1, q0', r1⟩ := HR0.out.listAt hlk
        have HR1 : Hid (RD w (.slice a1 P[k].length c1) (slD (Lay.list Lay.int) P[k])) := r1
        have q0 := ((HQ.out wr hbk).2.1.cell (p := ⟨b1, o1 + k, none⟩) hb1).trans q0'
        subst ea0
        have hk27 : k < 27 := by omega
        clear r1 q0' hm hb1
        generalize leK (emS p) P T k = Tk at *
        generalize P[k] = Q at *
        go_wp2
        go_loopw [22] (fun s20 wk => ∃ i : Nat, i ≤ Q.length ∧ s20 = .int .i64 i ∧ Bits wk n1 52 (leI (emS p) k Q Tk i) ∧ Bits wk nA 52 T ∧ Below n1 w2 wk) (fun s20 _ => Q.length - (intOf s20).toNat)
        case atStart => exact ⟨0, Nat.zero_le _, rfl, hBk, hBA, hbk⟩
        case round =>
          obtain ⟨i, hi, rfl, hBi, hBAi, hbi⟩ := hrel
          clear hBk hBA hbk q0
          by_cases hli : i < Q.length
          · have HE : Hid (leI (emS p) k Q Tk (i + 1) = emS p k Q[i] (leI (emS p) k Q Tk i)) := leI_next hli
            have hTi := HLe.out i hi
            obtain ⟨b2, o2, ea1, hb2, a2, c2, q1', r2⟩ := HR1.out.listAt hli
            have hbw := (HQ.out wr hbi).2.1
            have q1 := (hbw.cell (p := ⟨b2, o2 + i, none⟩) hb2).trans q1'
            subst ea1
            have q2 := hBi.cell (n := k) (by omega)
            have f2 := hBi.frozen k
            have hn1r := hBi.lt
            have HX : Hid (Calls Tryd.prog 51 #[.slice a2 Q[i].length c2, aggB (leI (emS p) k Q Tk i)] wr fun e w' => e = .returned (.bool (p (leI (emS p) k Q Tk i) Q[i])) ∧ Below wr.heap.size wr w') := HC1.out wr _ i hli a2 c2 hbw hTi r2
            clear r2 q1' hb2 hbw
            generalize leI (emS p) k Q Tk i = Ti at *
            generalize Q[i] = R at *
            have key : ∀ (W : World) (v : Bool), Below wr.heap.size wr W → emS p k R Ti = Ti.set k v → Bits (W.setCell ⟨n1, k, none⟩ (.bool v)) n1 52 (leI (emS p) k Q Tk (i + 1)) ∧ Bits (W.setCell ⟨n1, k, none⟩ (.bool v)) nA 52 T ∧ Below n1 w2 (W.setCell ⟨n1, k, none⟩ (.bool v)) := by
              intro W v hW he
              rw [HE.out, he]
              exact ⟨(hBi.later hW).set k v, (hBAi.later hW).grown (setCell_grown W n1 k _) (by intro h; cases h; omega), (hbi.trans (hW.mono (by omega))).setCell (Nat.le_refl _) _⟩
            have HKY : Hid (∀ (W : World) (v : Bool), Below wr.heap.size wr W → emS p k R Ti = Ti.set k v → Bits (W.setCell ⟨n1, k, none⟩ (.bool v)) n1 52 (leI (emS p) k Q Tk (i + 1)) ∧ Bits (W.setCell ⟨n1, k, none⟩ (.bool v)) nA 52 T ∧ Below n1 w2 (W.setCell ⟨n1, k, none⟩ (.bool v))) := key
            clear key
            by_cases hup : Ti.getD k false = true
            · rw [hup] at q2
              have K1 := HKY.out wr true (Below.refl _ _) (emS_yes hup)
              have HK1 : Hid _ := K1
              clear K1 hup HKY HE HX
              go_wp2
              go_roundw
              case rel => exact ⟨i + 1, by omega, by go_num, HK1.out.1, HK1.out.2.1, HK1.out.2.2⟩
              case measure => simp [intOf]; omega
            · have hdn : Ti.getD k false = false := by simpa using hup
              rw [hdn] at q2
              have HK2 : Hid (∀ W, Below wr.heap.size wr W → _) := fun W hW => HKY.out W (p Ti R) hW (emS_no hdn)
              clear hup hdn HKY HE
              go_wp2_with (first | (refine wpList_loadW rfl 52 _ rfl n1 52 Ti rfl (at27 hTi) hBi ?_) | (go_at_call 51; refine HX.out.mono ?_; rintro e w5 ⟨rfl, hb5⟩; have q5 := (hBi.later hb5).cell (n := k) (by omega); have f5 := (hBi.later hb5).frozen k))
              go_roundw
              case rel => exact ⟨i + 1, by omega, by go_num, (HK2.out w5 hb5).1, (HK2.out w5 hb5).2.1, (HK2.out w5 hb5).2.2⟩
              case measure => simp [intOf]; omega
          · have e : i = Q.length := by omega
            subst e
            have HKe := HK
            clear HK
            go_wp2
            go_roundw
            case rel => exact ⟨k + 1, by omega, by go_num, by rw [HKe.out]; exact hBi, hBAi, hbi⟩
            case measure => simp [intOf]; omega
      · have e : k = P.length := by omega
        subst e
        have hLl := (HRz.out.leK hTl P.length (Nat.le_refl _))
        have HL2 : Hid (leK (emS p) P T P.length = T ∨ cntB T < cntB (leK (emS p) P T P.length)) := hLl.2
        have hLl1 := hLl.1
        have HLG : Hid (Grows (emS p) P (List.replicate 27 false) (leK (emS p) P T P.length)) := HTG.out.leK _ (Nat.le_refl _)
        have HLc : Hid (cntB (leK (emS p) P T P.length) ≤ 27) := by show _ ≤ _; have := cntB_le (leK (emS p) P T P.length); omega
        clear hLl
        by_cases hfix : leK (emS p) P T P.length = T
        · have HX : Hid (leK (emS p) P T P.length = T) := hfix
          rw [hfix] at hBk
          clear hfix HL2 hLl1
          have hR := (HQ.out wr hbk).2.2
          have hBel := (HQ.out wr hbk).2.1
          go_wp2_with (first | (refine wpList_loadW rfl 52 _ rfl n1 52 T rfl (at27 hTl) hBk ?_) | (refine wpList_loadW rfl 52 _ rfl nA 52 T rfl (at27 hTl) hBA ?_) | (refine wpList_eqlB rfl 52 _ _ _ rfl T T rfl rfl guard_flags (eq_flags27 hTl hTl) ?_; rw [decide_eq_true (rfl : T = T)]) | (refine wpList_storeB rfl 52 _ _ rfl (w.heap.size + 1) 0 52 _ T rfl rfl (at27 hTl) hR (by simp [hTl]) ?_; intro w5 hB5 hg5))
          have e5 : putB (List.replicate 27 false) 0 T = T := putB_whole (by simp [hTl])
          rw [e5] at hB5
          have hb5 : Below w.heap.size w w5 := hBel.grown hg5 hBel.size (fun j hj => by cases hj; omega)
          refine bodyPost_ret (v := aggB T) (ret_cell 52 rfl rfl hB5 (at27 hTl)) rfl ⟨T, rfl, hTl, HTG.out, HX.out, hb5⟩
        · have hcnt : cntB T < cntB (leK (emS p) P T P.length) := HL2.out.resolve_left hfix
          have hdec : decide (leK (emS p) P T P.length = T) = false := decide_eq_false hfix
          clear hfix HL2
          generalize leK (emS p) P T P.length = T2 at *
          go_wp2_with (first | (refine wpList_loadW rfl 52 _ rfl n1 52 T2 rfl (at27 hLl1) hBk ?_) | (refine wpList_loadW rfl 52 _ rfl nA 52 T rfl (at27 hTl) hBA ?_) | (refine wpList_eqlB rfl 52 _ _ _ rfl T2 T rfl rfl guard_flags (eq_flags27 hLl1 hTl) ?_; rw [hdec]))
          go_roundg (27 - cntB T2)
          case measure => have := HTg.out; have := HLc.out; omega
          case rel => exact ⟨T2, hLl1, by have := HLc.out; omega, HLG.out, hBk, hbk⟩
end Go.Proofs.YtdniejpblhbjkabDoor
namespace Go.Proofs.YtdniejpblhbjkabDoor
open Go.RowKit

/-- One row's step. -/
def eS (k : Nat) (row : List Int) (T : List Bool) : List Bool := bstep T (k, fun b => allB b row)
theorem eS_raises (P : List (List (List Int))) : Raises eS P 27 := fun k _ i _ T hT => ⟨by rw [eS, bstep_length]; exact hT, bstep_or _ _⟩

set_option maxHeartbeats 4000000 in
set_option maxRecDepth 100000 in
theorem emptiesOf_grow (P : List (List (List Int))) (a0 : Option Addr) (c0 : Nat) (w : World) (h0 : RD w (.slice a0 P.length c0) (slD (Lay.list (Lay.list Lay.int)) P)) (hok : gramOkB P = true) :
    Calls Tryd.prog 45 #[.agg #[.slice a0 P.length c0]] w fun e w' => ∃ T, e = .returned (aggB T) ∧ T.length = 27 ∧ Grows eS P (List.replicate 27 false) T ∧ leK eS P T P.length = T ∧ Below w.heap.size w w' := by
  have HX : Hid (∀ W : World, Below w.heap.size w W → Calls Tryd.prog 40 #[.agg #[.slice a0 P.length c0], .func (.func 51) #[] #[]] W fun e w' => ∃ T, e = .returned (aggB T) ∧ T.length = 27 ∧ Grows eS P (List.replicate 27 false) T ∧ leK eS P T P.length = T ∧ Below W.heap.size W w') := by
    intro W hW
    have F := Fits.of hok
    refine leastParts_E allB P a0 c0 W (h0.later hW) hok (fun W2 T k hk i hi a c hb hT hr => ?_)
    have hm := List.getElem_mem hk
    have hm2 := List.getElem_mem hi
    have h8 := F.rows _ hm _ hm2
    exact allOf_any _ a c T W2 (hr.later hb).reads (by omega) (fun z hz => by have := F.syms _ hm _ hm2 z hz; omega) hT
  have B0 := (Below.refl w.heap.size w).alloc (Nat.le_refl _) (.cells #[.slice a0 P.length c0] 27)
  have hsb : (w.alloc (.cells #[.slice a0 P.length c0] 27)).heap.size = w.heap.size + 1 := by simp
  have HQ0 : Hid ((w.alloc (.cells #[.slice a0 P.length c0] 27)).cell? ⟨w.heap.size, 0, none⟩ = some (.slice a0 P.length c0)) := by show _ = _; simp
  clear h0 hok
  go_enter Tryd.func45, Tryd.ntmps45
  go_wp2_with (first | (refine wpList_allocB (w := w.alloc _) rfl 52 rfl 27 bt_flags ?_; rw [hsb]; intro w1 hB1 hb1 hs1; have q1 := (hb1.cell (p := ⟨w.heap.size, 0, none⟩) (by simp)).trans HQ0.out) | (go_at_call 40; refine (HX.out _ (B0.trans (hb1.mono (by omega)))).mono ?_; rintro e w2 ⟨T, rfl, hTl, hG, hF, hb2⟩; have hB2 := hB1.later hb2) | (refine wpList_storeB (w := w2) rfl 52 _ _ rfl (w.heap.size + 1) 0 52 _ T rfl rfl (at27 hTl) hB2 (by simp [hTl]) ?_; intro w3 hB3 hg3))
  have e5 : putB (List.replicate 27 false) 0 T = T := putB_whole (by simp [hTl])
  rw [e5] at hB3
  have b1 : Below w.heap.size w w1 := B0.trans (hb1.mono (by omega))
  have b2 : Below w.heap.size w w2 := b1.trans (hb2.mono b1.size)
  have b3 : Below w.heap.size w w3 := b2.grown hg3 b2.size (fun j hj => by cases hj; omega)
  exact bodyPost_ret (v := aggB T) (ret_cell 52 rfl rfl hB3 (at27 hTl)) rfl ⟨T, rfl, hTl, hG, hF, b3⟩
end Go.Proofs.YtdniejpblhbjkabDoor
namespace Go.Proofs.YtdniejpblhbjkabDoor
open Go.RowKit

theorem emptiesL_mem {P : List (List (List Int))} (F : Fits P) {x : Int} (h : x ∈ emptiesL P) : 0 ≤ x ∧ x < 20 := by
  have := (growT_setB (p := allE) P (P.length + 1)).lt x h
  have := F.parts
  omega
theorem rep_getD (m n : Nat) : (List.replicate m false).getD n false = false := by
  rw [List.getD_eq_getElem?_getD, List.getElem?_replicate]
  split <;> rfl
theorem getD_setB (T : List Bool) (k n : Nat) (v : Bool) : (T.set k v).getD n false = if n = k ∧ k < T.length then v else T.getD n false := by
  by_cases e : n = k
  · subst e
    by_cases h : n < T.length
    · simp [List.getD, h]
    · simp [List.getD, h]
  · simp [List.getD, e, Ne.symm e]
theorem allB_of {T : List Bool} {E row : List Int} (hz : ∀ z ∈ row, 0 ≤ z ∧ z < 120) (h : ∀ n : Nat, (n : Int) ∈ E → T.getD n false = true) (g : allE row E = true) : allB T row = true := by
  unfold allE at g
  unfold allB
  rw [List.all_eq_true] at g ⊢
  intro x hx
  have h1 := g x hx
  have h2 := hz x hx
  simp only [Bool.and_eq_true, decide_eq_true_eq] at h1 ⊢
  refine ⟨⟨h1.1, by omega⟩, h _ ?_⟩
  have h3 : x - 100 ∈ E := by simpa [hasL] using h1.2
  rwa [show (((x - 100).toNat : Nat) : Int) = x - 100 by omega]
theorem allE_of {T : List Bool} {E row : List Int} (h : ∀ n : Nat, T.getD n false = true → (n : Int) ∈ E) (g : allB T row = true) : allE row E = true := by
  unfold allB at g
  unfold allE
  rw [List.all_eq_true] at g ⊢
  intro x hx
  have h1 := g x hx
  simp only [Bool.and_eq_true, decide_eq_true_eq] at h1 ⊢
  refine ⟨h1.1.1, ?_⟩
  have h3 := h _ h1.2
  rw [show (((x - 100).toNat : Nat) : Int) = x - 100 by omega] at h3
  exact hasL_yes h3
theorem emptiesOf_is {P : List (List (List Int))} (F : Fits P) {T : List Bool} (hl : T.length = 27) (hG : Grows eS P (List.replicate 27 false) T) (hx : leK eS P T P.length = T) : T = flagsOf (emptiesL P) := by
  have sound : ∀ n : Nat, T.getD n false = true → (n : Int) ∈ emptiesL P := by
    refine hG (fun T => ∀ n : Nat, T.getD n false = true → (n : Int) ∈ emptiesL P) (fun n hn => ?_) (fun k hk i hi T hT n hn => ?_)
    · rw [rep_getD] at hn; cases hn
    · simp only [eS, bstep] at hn
      rw [getD_setB] at hn
      split at hn
      · rename_i e
        rw [Bool.or_eq_true] at hn
        rcases hn with hn | hn
        · rw [e.1]; exact hT k hn
        · rw [e.1]; exact growT_closed hk hi (allE_of hT hn)
      · exact hT n hn
  have fix : ∀ k (hk : k < P.length) i (hi : i < P[k].length), allB T P[k][i] = true → T.getD k false = true := by
    intro k hk i hi ha
    have e := (eS_raises P).fix hl hx hk hi
    have h20 := F.parts
    have := bstep_fix (s := (k, fun b => allB b P[k][i])) e (by show k < T.length; omega) ha
    simp only [List.getD, List.getElem?_eq_getElem (show k < T.length by omega), Option.getD_some]
    exact this
  have compl : ∀ x ∈ emptiesL P, ∃ n : Nat, x = n ∧ T.getD n false = true := by
    refine growT_sound (p := allE) (S := fun x => ∃ n : Nat, x = n ∧ T.getD n false = true) (fun k hk i hi E hE ha => ⟨k, rfl, fix k hk i hi ?_⟩) _
    refine allB_of (E := E) (F.syms _ (List.getElem_mem hk) _ (List.getElem_mem hi)) (fun n hn => ?_) ha
    obtain ⟨m, hm, h⟩ := hE _ hn
    rwa [show n = m by omega]
  apply list_ext_getD (by rw [hl, flagsOf_length])
  intro n hn
  rw [flagsOf_get _ (by omega), Bool.eq_iff_iff]
  constructor
  · intro h; exact hasL_yes (sound n h)
  · intro h
    obtain ⟨m, hm, h2⟩ := compl n (by simpa [hasL] using h)
    rwa [show n = m by omega]
theorem nums_flags {E : List Int} (hs : E.Pairwise (· < ·)) (hb : ∀ x ∈ E, 0 ≤ x ∧ x < 27) {f : Nat → Bool} (hf : ∀ n, n < 27 → f n = hasL E (n : Int)) : numsB f 27 = E := by
  refine eq_of_pair (numsB_sorted _ _) hs fun z => ?_
  rw [mem_numsB]
  constructor
  · rintro ⟨n, h1, rfl, h2⟩
    rw [hf n h1] at h2
    simpa [hasL] using h2
  · intro h
    have hz := hb z h
    refine ⟨z.toNat, by omega, by omega, ?_⟩
    rw [hf _ (by omega), show ((z.toNat : Nat) : Int) = z by omega]
    exact hasL_yes h
theorem allB_flags {E : List Int} (hb : ∀ x ∈ E, 0 ≤ x ∧ x < 20) (row : List Int) : allB (flagsOf E) row = allE row E := by
  unfold allB allE
  congr 1
  funext x
  by_cases h1 : 100 ≤ x
  · by_cases h2 : x - 100 < 20
    · rw [flagsOf_get _ (by omega), show (((x - 100).toNat : Nat) : Int) = x - 100 by omega]
      simp [h1, h2]
    · have : hasL E (x - 100) = false := hasL_no (fun h => by have := hb _ h; omega)
      simp [h2, this]
  · simp [h1]

set_option maxRecDepth 100000 in
theorem emptiesOf_any (P : List (List (List Int))) (a0 : Option Addr) (c0 : Nat) (w : World) (h0 : RD w (.slice a0 P.length c0) (slD (Lay.list (Lay.list Lay.int)) P)) (hok : gramOkB P = true) :
    Calls Tryd.prog 45 #[.agg #[.slice a0 P.length c0]] w fun e w' => e = .returned (aggB (flagsOf (emptiesL P))) ∧ Below w.heap.size w w' := by
  refine (emptiesOf_grow P a0 c0 w h0 hok).mono ?_
  rintro e w' ⟨T, rfl, h1, h2, h3, h4⟩
  exact ⟨by rw [emptiesOf_is (Fits.of hok) h1 h2 h3], h4⟩
end Go.Proofs.YtdniejpblhbjkabDoor
namespace Go.Proofs.YtdniejpblhbjkabDoor
open Go.RowKit

/-- All parts of the row are those whose flag is up. -/
def liveB (bs : List Bool) (row : List Int) : Bool := row.all fun x => inB x 0 25 || bs.getD (x - 100).toNat false

set_option maxRecDepth 100000 in
theorem becomesLetters_any (zs : List Int) (a : Option Addr) (c : Nat) (bs : List Bool) (w : World) (h : Reads w a zs) (hl : zs.length ≤ 1048576) (hz : ∀ z ∈ zs, (0 ≤ z ∧ z ≤ 25) ∨ (100 ≤ z ∧ z < 120)) (hb : bs.length = 27) :
    Calls Tryd.prog 41 #[.slice a zs.length c, aggB bs] w fun e w' => e = .returned (.bool (liveB bs zs)) ∧ Below w.heap.size w w' := by
  have HZ : Hid (∀ z ∈ zs, (0 ≤ z ∧ z ≤ 25) ∨ (100 ≤ z ∧ z < 120)) := hz
  clear hz
  go_enter Tryd.func41, Tryd.ntmps41
  go_wp2_with (refine wpList_boxB rfl 52 _ rfl bs rfl ?_; intro w1 hB1 hb1 hs1)
  go_loop [9] (fun s => ∃ k : Nat, k ≤ zs.length ∧ s = .int .i64 k ∧ Hid ((zs.take k).all (fun x => inB x 0 25 || bs.getD (x - 100).toNat false) = true)) (fun s => zs.length - (intOf s).toNat)
  case atStart => exact ⟨0, Nat.zero_le _, rfl, by show _ = _; simp⟩
  case round =>
    obtain ⟨k, hk, rfl, HK⟩ := hrel
    have h1 := h.below hb1
    by_cases hlt : k < zs.length
    · obtain ⟨b, off, rfl, hbb, hc⟩ := h1.at hlt
      have q1 := hc k hlt
      rw [List.getD_eq_getElem?_getD, List.getElem?_eq_getElem hlt, Option.getD_some] at q1
      have hr := HZ.out zs[k] (List.getElem_mem hlt)
      have HS : Hid ((inB zs[k] 0 25 || bs.getD (zs[k] - 100).toNat false) = true → (zs.take (k + 1)).all (fun x => inB x 0 25 || bs.getD (x - 100).toNat false) = true) := fun g => allB_step HK.out hlt g
      have HN : Hid ((inB zs[k] 0 25 || bs.getD (zs[k] - 100).toNat false) = false → liveB bs zs = false) := fun g => allB_no hlt g
      clear hc h h1 HK
      generalize zs[k] = z at *
      by_cases hlet : z ≤ 25
      · have hin : inB z 0 25 = true := inB_true.2 (by omega)
        have X : Hid (∀ W : World, Calls Tryd.prog 48 #[.int .i64 z] W fun e w' => e = .returned (.bool true) ∧ w' = W) := fun W => by have := isLetter_any z W; rwa [hin] at this
        have HSS : Hid _ := HS.out (by rw [hin, Bool.true_or])
        clear HS HN hin
        go_wp2_with (go_at_call 48; refine (X.out _).mono ?_; rintro e w' ⟨rfl, hw'⟩; have hw2 := hw'.symm; clear hw'; subst hw2)
        go_round
        case rel => exact ⟨k + 1, by omega, by go_num, HSS.out⟩
        case measure => simp [intOf]; omega
      · have hin : inB z 0 25 = false := inB_false.2 (by omega)
        have X : Hid (∀ W : World, Calls Tryd.prog 48 #[.int .i64 z] W fun e w' => e = .returned (.bool false) ∧ w' = W) := fun W => by have := isLetter_any z W; rwa [hin] at this
        obtain ⟨n, hn⟩ : ∃ n : Nat, z = 100 + (n : Int) := ⟨(z - 100).toNat, by omega⟩
        subst hn
        have hn2 : n < 27 := by omega
        have q2 := hB1.cell (n := n) (by omega)
        have e1 : (100 + (n : Int) - 100).toNat = n := by omega
        have hn0 : (0 : Int) ≤ (n : Int) := by omega
        have hn1 : (n : Int) < 27 := by omega
        rw [e1, hin, Bool.false_or] at HS HN
        clear hin e1 hlet hr
        by_cases z3 : bs.getD n false = true
        · rw [z3] at q2
          have HSS : Hid _ := HS.out z3
          clear HS HN z3
          go_wp2_with (go_at_call 48; refine (X.out _).mono ?_; rintro e w' ⟨rfl, hw'⟩; have hw2 := hw'.symm; clear hw'; subst hw2)
          go_round
          case rel => exact ⟨k + 1, by omega, by go_num, HSS.out⟩
          case measure => simp [intOf]; omega
        · have z4 : bs.getD n false = false := by simpa using z3
          rw [z4] at q2
          have HNN : Hid (liveB bs zs = false) := HN.out z4
          clear HS HN z3 z4
          go_wp2_with (go_at_call 48; refine (X.out _).mono ?_; rintro e w' ⟨rfl, hw'⟩; have hw2 := hw'.symm; clear hw'; subst hw2)
          go_ret
          exact ⟨ret_bool (by rw [HNN.out]), hb1⟩
    · have HE : Hid (liveB bs zs = true) := allB_end HK.out hlt
      clear h h1 HK
      go_wp2
      go_ret
      exact ⟨ret_bool (by rw [HE.out]), hb1⟩

theorem symsLet {P : List (List (List Int))} (hok : gramOkB P = true) {k : Nat} (hk : k < P.length) {i : Nat} (hi : i < P[k].length) : ∀ z ∈ P[k][i], (0 ≤ z ∧ z ≤ 25) ∨ (100 ≤ z ∧ z < 100 + P.length) := by
  intro z h3
  simp only [gramOkB, Bool.and_eq_true, List.all_eq_true, partOk, rowOk, decide_eq_true_eq] at hok
  exact symOk_true.1 (((hok.2 _ (List.getElem_mem hk)).2 _ (List.getElem_mem hi)).2 z h3)
/-- The flags that are found are those of the set that is grown, where the tests are one. -/
theorem leastParts_is {pB : List Bool → List Int → Bool} {pE : List Int → List Int → Bool} {P : List (List (List Int))} (F : Fits P)
    (hs : ∀ k (hk : k < P.length) i (hi : i < P[k].length) T E, (∀ n : Nat, T.getD n false = true → (n : Int) ∈ E) → pB T P[k][i] = true → pE P[k][i] E = true)
    (hc : ∀ k (hk : k < P.length) i (hi : i < P[k].length) T E, (∀ n : Nat, (n : Int) ∈ E → T.getD n false = true) → pE P[k][i] E = true → pB T P[k][i] = true)
    {T : List Bool} (hl : T.length = 27) (hG : Grows (emS pB) P (List.replicate 27 false) T) (hx : leK (emS pB) P T P.length = T) : T = flagsOf (growT pE P (P.length + 1)) := by
  have sound : ∀ n : Nat, T.getD n false = true → (n : Int) ∈ growT pE P (P.length + 1) := by
    refine hG (fun T => ∀ n : Nat, T.getD n false = true → (n : Int) ∈ growT pE P (P.length + 1)) (fun n hn => ?_) (fun k hk i hi T hT n hn => ?_)
    · rw [rep_getD] at hn; cases hn
    · simp only [emS, bstep] at hn
      rw [getD_setB] at hn
      split at hn
      · rename_i e
        rw [Bool.or_eq_true] at hn
        rcases hn with hn | hn
        · rw [e.1]; exact hT k hn
        · rw [e.1]; exact growT_closed hk hi (hs k hk i hi T _ hT hn)
      · exact hT n hn
  have fix : ∀ k (hk : k < P.length) i (hi : i < P[k].length), pB T P[k][i] = true → T.getD k false = true := by
    intro k hk i hi ha
    have e := (emS_raises pB P).fix hl hx hk hi
    have h20 := F.parts
    have := bstep_fix (s := (k, fun b => pB b P[k][i])) e (by show k < T.length; omega) ha
    simp only [List.getD, List.getElem?_eq_getElem (show k < T.length by omega), Option.getD_some]
    exact this
  have compl : ∀ x ∈ growT pE P (P.length + 1), ∃ n : Nat, x = n ∧ T.getD n false = true := by
    refine growT_sound (p := pE) (S := fun x => ∃ n : Nat, x = n ∧ T.getD n false = true) (fun k hk i hi E hE ha => ⟨k, rfl, fix k hk i hi ?_⟩) _
    refine hc k hk i hi T E (fun n hn => ?_) ha
    obtain ⟨m, hm, h⟩ := hE _ hn
    rwa [show n = m by omega]
  apply list_ext_getD (by rw [hl, flagsOf_length])
  intro n hn
  rw [flagsOf_get _ (by omega), Bool.eq_iff_iff]
  constructor
  · intro h; exact hasL_yes (sound n h)
  · intro h
    obtain ⟨m, hm, h2⟩ := compl n (by simpa [hasL] using h)
    rwa [show n = m by omega]
theorem liveB_all {bs : List Bool} {row : List Int} : liveB bs row = true ↔ ∀ x ∈ row, inB x 0 25 = true ∨ bs.getD (x - 100).toNat false = true := by
  unfold liveB
  rw [List.all_eq_true]
  exact ⟨fun h x hx => by have := h x hx; rwa [Bool.or_eq_true] at this, fun h x hx => by have := h x hx; rwa [Bool.or_eq_true]⟩
theorem aliveE_all {E row : List Int} : aliveE row E = true ↔ ∀ x ∈ row, ¬ 100 ≤ x ∨ x - 100 ∈ E := by
  unfold aliveE
  rw [List.all_eq_true]
  exact ⟨fun h x hx => by have := h x hx; simpa [hasL] using this, fun h x hx => by have := h x hx; simpa [hasL] using this⟩
theorem productiveOf_is {P : List (List (List Int))} (hok : gramOkB P = true) {T : List Bool} (hl : T.length = 27) (hG : Grows (emS liveB) P (List.replicate 27 false) T) (hx : leK (emS liveB) P T P.length = T) : T = flagsOf (aliveL P) := by
  refine leastParts_is (Fits.of hok) (pE := aliveE) (fun k hk i hi T E hT h => ?_) (fun k hk i hi T E hE h => ?_) hl hG hx
  · rw [liveB_all] at h
    rw [aliveE_all]
    intro x hx
    have hz := symsLet hok hk hi x hx
    rcases h x hx with h1 | h1
    · left; have := inB_true.1 h1; omega
    · by_cases g : 100 ≤ x
      · right; have := hT _ h1; rwa [show (((x - 100).toNat : Nat) : Int) = x - 100 by omega] at this
      · exact .inl g
  · rw [aliveE_all] at h
    rw [liveB_all]
    intro x hx
    have hz := symsLet hok hk hi x hx
    rcases h x hx with h1 | h1
    · left; exact inB_true.2 (by omega)
    · by_cases g : 100 ≤ x
      · right; exact hE _ (by rwa [show (((x - 100).toNat : Nat) : Int) = x - 100 by omega])
      · left; exact inB_true.2 (by omega)

set_option maxHeartbeats 4000000 in
set_option maxRecDepth 100000 in
theorem productiveOf_any (P : List (List (List Int))) (a0 : Option Addr) (c0 : Nat) (w : World) (h0 : RD w (.slice a0 P.length c0) (slD (Lay.list (Lay.list Lay.int)) P)) (hok : gramOkB P = true) :
    Calls Tryd.prog 30 #[.agg #[.slice a0 P.length c0]] w fun e w' => e = .returned (aggB (flagsOf (aliveL P))) ∧ Below w.heap.size w w' := by
  have HX : Hid (∀ W : World, Below w.heap.size w W → Calls Tryd.prog 40 #[.agg #[.slice a0 P.length c0], .func (.func 41) #[] #[]] W fun e w' => e = .returned (aggB (flagsOf (aliveL P))) ∧ Below W.heap.size W w') := by
    intro W hW
    have F := Fits.of hok
    have := leastParts_P liveB P a0 c0 W (h0.later hW) hok (fun W2 T k hk i hi a c hb hT hr => by
      have hm := List.getElem_mem hk
      have hm2 := List.getElem_mem hi
      have h8 := F.rows _ hm _ hm2
      have hp := F.parts
      exact becomesLetters_any _ a c T W2 (hr.later hb).reads (by omega) (fun z hz => by have := symsLet hok hk hi z hz; omega) hT)
    refine this.mono ?_
    rintro e w' ⟨T, rfl, h1, h2, h3, h4⟩
    exact ⟨by rw [productiveOf_is hok h1 h2 h3], h4⟩
  have B0 := (Below.refl w.heap.size w).alloc (Nat.le_refl _) (.cells #[.slice a0 P.length c0] 27)
  have hsb : (w.alloc (.cells #[.slice a0 P.length c0] 27)).heap.size = w.heap.size + 1 := by simp
  have HQ0 : Hid ((w.alloc (.cells #[.slice a0 P.length c0] 27)).cell? ⟨w.heap.size, 0, none⟩ = some (.slice a0 P.length c0)) := by show _ = _; simp
  have hTl := flagsOf_length (aliveL P)
  clear h0 hok
  generalize flagsOf (aliveL P) = T at *
  go_enter Tryd.func30, Tryd.ntmps30
  go_wp2_with (first | (refine wpList_allocB (w := w.alloc _) rfl 52 rfl 27 bt_flags ?_; rw [hsb]; intro w1 hB1 hb1 hs1; have q1 := (hb1.cell (p := ⟨w.heap.size, 0, none⟩) (by simp)).trans HQ0.out) | (go_at_call 40; refine (HX.out _ (B0.trans (hb1.mono (by omega)))).mono ?_; rintro e w2 ⟨rfl, hb2⟩; have hB2 := hB1.later hb2) | (refine wpList_storeB (w := w2) rfl 52 _ _ rfl (w.heap.size + 1) 0 52 _ T rfl rfl (at27 hTl) hB2 (by simp [hTl]) ?_; intro w3 hB3 hg3))
  have e5 : putB (List.replicate 27 false) 0 T = T := putB_whole (by simp [hTl])
  rw [e5] at hB3
  have b1 : Below w.heap.size w w1 := B0.trans (hb1.mono (by omega))
  have b2 : Below w.heap.size w w2 := b1.trans (hb2.mono b1.size)
  have b3 : Below w.heap.size w w3 := b2.grown hg3 b2.size (fun j hj => by cases hj; omega)
  exact bodyPost_ret (v := aggB T) (ret_cell 52 rfl rfl hB3 (at27 hTl)) rfl ⟨rfl, b3⟩
end Go.Proofs.YtdniejpblhbjkabDoor
