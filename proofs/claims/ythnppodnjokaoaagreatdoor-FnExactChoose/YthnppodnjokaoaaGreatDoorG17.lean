/-
  Contracts and plain mathematics, joined: Stretch, StrJoin, TrIn, StrLetter. No statement is proved here.
-/
import Derived.Test.YthnppodnjokaoaaGreatDoorG11
import Derived.Test.YthnppodnjokaoaaGreatDoorG8
import Derived.Test.YthnppodnjokaoaaGreatDoorG9
namespace Go.Proofs.YthnppodnjokaoaaGreatDoor
open Go.RowKit

/-- Its values. -/
def strV (f : Nat) (v : Nat → Nat) : List Value := .int .i64 (f : Int) :: (eB v).map Value.bool
def strZ : List Value := .int .i64 0 :: List.replicate 11 (.bool false)
def placesZ : List Value := List.replicate 11 (.bool false)
/-- Block b is a stretch. -/
def Str (w : World) (b f : Nat) (v : Nat → Nat) : Prop := Vals w b 92 (strV f v)
theorem strV_length (f : Nat) (v : Nat → Nat) : (strV f v).length = 12 := by simp [strV, eB_length]
theorem strZ_length : strZ.length = 12 := rfl
theorem strV_ones (f : Nat) (v : Nat → Nat) : Ones (strV f v) := fun u hu => by
  simp only [strV, List.mem_cons, List.mem_map] at hu
  rcases hu with rfl | ⟨x, _, rfl⟩ <;> rfl
theorem strV_congr {f : Nat} {u v : Nat → Nat} (h : ∀ j, j < 11 → (u j ≠ 0 ↔ v j ≠ 0)) : strV f u = strV f v := by unfold strV; rw [eB_congr h]
theorem strV_none (f : Nat) : strV f (fun _ => 0) = .int .i64 (f : Int) :: List.replicate 11 (.bool false) := by unfold strV; rw [eB_none]; rfl
theorem strV_ends (f : Nat) (v : Nat → Nat) : aggV (((strV f v).drop 1).take placesZ.length) = aggB (eB v) := by
  show aggV ((((eB v).map Value.bool)).take 11) = _
  rw [List.take_of_length_le (by simp [eB_length])]; rfl
set_option maxRecDepth 100000 in
theorem rt_str : RowT Tryz.prog 92 strZ := ⟨by kernel_rfl, row_of (by kernel_rfl)⟩
set_option maxRecDepth 100000 in
theorem rt_places : RowT Tryz.prog 90 placesZ := ⟨by kernel_rfl, row_of (by kernel_rfl)⟩
set_option maxRecDepth 100000 in
theorem bt_places : BitT Tryz.prog 90 11 := ⟨by kernel_rfl, row_of (by kernel_rfl)⟩
theorem u_places : Tryz.prog.underlying 90 = some (.array 11 4) := by kernel_rfl
section
variable {w w' : World} {b f : Nat} {v : Nat → Nat}
theorem Str.lt (h : Str w b f v) : b < w.heap.size := Vals.lt h
theorem Str.kept (h : Str w b f v) (hb : w'.heap[b]? = w.heap[b]?) : Str w' b f v := Vals.kept h hb
theorem Str.later (h : Str w b f v) (hb : Below w.heap.size w w') : Str w' b f v := Vals.later h hb
theorem Str.grown (h : Str w b f v) {row : Option Nat} (hg : w.grownBy w' row) (hne : row ≠ some b) : Str w' b f v := Vals.grown h hg hne
theorem Str.far (h : Str w b f v) : w.cell? ⟨b, 0, none⟩ = some (.int .i64 (f : Int)) := by rw [Vals.cell h]; rfl
theorem Str.frozen (h : Str w b f v) (i : Nat) : w.frozen? ⟨b, i, none⟩ = false := Vals.frozen h i
theorem Str.end (h : Str w b f v) {j : Nat} (hj : j < 11) : w.cell? ⟨b, 1 + j, none⟩ = some (.bool (decide (v j ≠ 0))) := by
  rw [Vals.cell h, Nat.add_comm]
  show ((eB v).map Value.bool)[j]? = _
  rw [List.getElem?_map, List.getElem?_eq_getElem (by rw [eB_length]; exact hj), eB_get v hj]; rfl
theorem Str.setF (h : Str w b f v) (n : Nat) : Str (w.setCell ⟨b, 0, none⟩ (.int .i64 (n : Int))) b n v := Vals.set h 0 (.int .i64 (n : Int))
theorem eB_set (v : Nat → Nat) {j : Nat} (x : Bool) : (eB v).set j x = eB (fun i => if i = j then (if x then 1 else 0) else v i) := by
  apply List.ext_getElem (by simp [eB])
  intro i h1 h2
  simp only [List.getElem_set, eB, List.getElem_map, List.getElem_range]
  by_cases e : j = i
  · subst e; cases x <;> simp
  · rw [if_neg e, if_neg (fun h => e h.symm)]
theorem Str.setE (h : Str w b f v) {j : Nat} (x : Bool) : Str (w.setCell ⟨b, 1 + j, none⟩ (.bool x)) b f (fun i => if i = j then (if x then 1 else 0) else v i) := by
  have := Vals.set h (1 + j) (.bool x)
  unfold Str
  have e : (strV f v).set (1 + j) (.bool x) = strV f (fun i => if i = j then (if x then 1 else 0) else v i) := by
    rw [Nat.add_comm]
    show .int .i64 (f : Int) :: ((eB v).map Value.bool).set j (.bool x) = _
    rw [← List.map_set, eB_set]; rfl
  rwa [e] at this
theorem Str.congr (h : Str w b f v) {u : Nat → Nat} (he : ∀ j, j < 11 → (v j ≠ 0 ↔ u j ≠ 0)) : Str w b f u := by unfold Str at *; rwa [strV_congr he] at h
end
/-- The literal of one with a place and no end. -/
theorem exec_str1 {ρ : Operand → Value} {o : Oper} {x : Operand} {n : Nat} (ho : o.op = .build 92 #[(0, x)]) (hx : ρ x = .int .i64 (n : Int)) (w : World) :
    (execOp ρ o).run Tryz.prog w = .ok (.value (aggV (strV n (fun _ => 0)))) w := by
  rw [strV_none]
  unfold execOp
  simp [ho, Instr.build, rt_str.zero, run_underlying Tryz.underlying92, hx, Value.cells, aggV, strZ]
  rfl
theorem wpList_str1 {ops : Array Oper} {rest : List Oper} {o : Oper} {a : Act} {w : World} {Q : Exit → Act → World → Prop} (hgd : Region.wanted o (yielded ops a.tmps) = true) (x : Operand) (ho : o.op = .build 92 #[(0, x)]) (n : Nat) (hx : a.eval x = .int .i64 (n : Int))
    (h : wpList Tryz.prog ops Q rest (a.put o.dst (aggV (strV n (fun _ => 0)))) w) : wpList Tryz.prog ops Q (o :: rest) a w :=
  wpList_val hgd (exec_str1 ho hx w) h
/-- The literal of no places. -/
theorem exec_places0 {ρ : Operand → Value} {o : Oper} (ho : o.op = .build 90 #[]) (w : World) :
    (execOp ρ o).run Tryz.prog w = .ok (.value (aggB (List.replicate 11 false))) w := by
  unfold execOp
  simp [ho, Instr.build, rt_places.zero, run_underlying Tryz.underlying90, aggV, placesZ, aggB, cellsB, Instr.fill, Value.cells]
theorem wpList_places0 {ops : Array Oper} {rest : List Oper} {o : Oper} {a : Act} {w : World} {Q : Exit → Act → World → Prop} (hgd : Region.wanted o (yielded ops a.tmps) = true) (ho : o.op = .build 90 #[])
    (h : wpList Tryz.prog ops Q rest (a.put o.dst (aggB (List.replicate 11 false))) w) : wpList Tryz.prog ops Q (o :: rest) a w :=
  wpList_val hgd (exec_places0 ho w) h
/-- Its flags are loaded. -/
theorem wpList_endsV {ops : Array Oper} {rest : List Oper} {o : Oper} {a : Act} {w : World} {Q : Exit → Act → World → Prop} (hgd : Region.wanted o (yielded ops a.tmps) = true) (x : Operand) (ho : o.op = .load 90 x) (b f : Nat) (v : Nat → Nat) (hx : a.eval x = .pointer (some ⟨b, 1, none⟩)) (hB : Str w b f v)
    (h : wpList Tryz.prog ops Q rest (a.put o.dst (aggB (eB v))) w) : wpList Tryz.prog ops Q (o :: rest) a w := by
  rw [← strV_ends f v] at h
  exact wpList_loadV hgd _ x ho b 1 _ _ placesZ hx rt_places hB (by rw [strV_length]; decide) h
/-- It is boxed, loaded, stored. -/
theorem wpList_boxS {ops : Array Oper} {rest : List Oper} {o : Oper} {a : Act} {w : World} {Q : Exit → Act → World → Prop} (hgd : Region.wanted o (yielded ops a.tmps) = true) (x : Operand) (ho : o.op = .box 92 x) (f : Nat) (v : Nat → Nat) (hx : a.eval x = aggV (strV f v))
    (h : ∀ w', Str w' w.heap.size f v → Below w.heap.size w w' → w'.heap.size = w.heap.size + 1 → wpList Tryz.prog ops Q rest (a.put o.dst (.pointer (some ⟨w.heap.size, 0, none⟩))) w') : wpList Tryz.prog ops Q (o :: rest) a w :=
  wpList_boxV hgd _ x ho _ hx h
theorem wpList_allocS {ops : Array Oper} {rest : List Oper} {o : Oper} {a : Act} {w : World} {Q : Exit → Act → World → Prop} (hgd : Region.wanted o (yielded ops a.tmps) = true) (ho : o.op = .alloc 92)
    (h : ∀ w', Str w' w.heap.size 0 (fun _ => 0) → Below w.heap.size w w' → w'.heap.size = w.heap.size + 1 → wpList Tryz.prog ops Q rest (a.put o.dst (.pointer (some ⟨w.heap.size, 0, none⟩))) w') : wpList Tryz.prog ops Q (o :: rest) a w :=
  wpList_allocV hgd _ ho strZ rt_str (fun w' h1 h2 h3 => h w' (by unfold Str; rw [strV_none]; exact h1) h2 h3)
theorem wpList_loadS {ops : Array Oper} {rest : List Oper} {o : Oper} {a : Act} {w : World} {Q : Exit → Act → World → Prop} (hgd : Region.wanted o (yielded ops a.tmps) = true) (x : Operand) (ho : o.op = .load 92 x) (b f : Nat) (v : Nat → Nat) (hx : a.eval x = .pointer (some ⟨b, 0, none⟩)) (hB : Str w b f v)
    (h : wpList Tryz.prog ops Q rest (a.put o.dst (aggV (strV f v))) w) : wpList Tryz.prog ops Q (o :: rest) a w :=
  wpList_loadVW hgd _ x ho b _ _ strZ hx rt_str (strV_length f v) hB h
theorem wpList_storeS {ops : Array Oper} {rest : List Oper} {o : Oper} {a : Act} {w : World} {Q : Exit → Act → World → Prop} (hgd : Region.wanted o (yielded ops a.tmps) = true) (x y : Operand) (ho : o.op = .store 92 x y) (b f0 : Nat) (v0 : Nat → Nat) (f : Nat) (v : Nat → Nat) (hx : a.eval x = .pointer (some ⟨b, 0, none⟩)) (hy : a.eval y = aggV (strV f v)) (hB : Str w b f0 v0)
    (h : ∀ w', Str w' b f v → w.grownBy w' (some b) → wpList Tryz.prog ops Q rest (a.put o.dst undef) w') : wpList Tryz.prog ops Q (o :: rest) a w :=
  wpList_storeV hgd _ x y ho b 0 _ _ _ strZ hx hy rt_str (strV_length f v) hB (by rw [strV_length, strV_length]; decide) (strV_ones f v) (fun w' h1 h2 => h w' (by rw [putV_whole (by rw [strV_length, strV_length])] at h1; exact h1) h2)
theorem ret_cellS {fn : Func} {p : Tmp} {tmps : Array Value} {w : World} {g f : Nat} {v : Nat → Nat} (h : fn.results = #[.cell p 92]) (hp : tmps.getD p undef = .pointer (some ⟨g, 0, none⟩)) (hB : Str w g f v) : (results fn tmps).run Tryz.prog w = .ok (aggV (strV f v)) w :=
  ret_cellV _ h hp hB rt_str (strV_length f v)
end Go.Proofs.YthnppodnjokaoaaGreatDoor
namespace Go.Proofs.YthnppodnjokaoaaGreatDoor
open Go.RowKit

/-- The first k flags are put to those that are there. -/
def joinTo8 (v u : Nat → Nat) (k : Nat) : Nat → Nat := fun j => if j < k then v j + u j else v j
theorem joinTo8_step (v u : Nat → Nat) (k : Nat) (x : Bool) (h : x = (decide (v k ≠ 0) || decide (u k ≠ 0))) (j : Nat) : ((if j = k then (if x then 1 else 0) else joinTo8 v u k j) ≠ 0 ↔ joinTo8 v u (k + 1) j ≠ 0) := by
  unfold joinTo8
  by_cases e : j = k
  · subst e
    rw [if_pos rfl, if_pos (Nat.lt_succ_self _), h]
    by_cases h1 : v j = 0
    · by_cases h2 : u j = 0
      · simp [h1, h2]
      · simp [h1, h2]
    · simp [h1]
  · rw [if_neg e]
    by_cases g : j < k
    · rw [if_pos g, if_pos (by omega)]
    · rw [if_neg g, if_neg (by omega)]
set_option maxHeartbeats 2000000 in
set_option maxRecDepth 100000 in
theorem strJoin_any (b f f2 : Nat) (v u : Nat → Nat) (w : World) (hB : Str w b f v) :
    Calls Tryz.prog 94 #[.pointer (some ⟨b, 0, none⟩), aggV (strV f2 u)] w fun e w' => e = .returned (.tuple #[]) ∧ Str w' b (max f f2) (fun j => v j + u j) ∧ w.grownBy w' (some b) := by
  have hbl := hB.lt
  obtain ⟨m, hm⟩ : ∃ m, m = max f f2 := ⟨_, rfl⟩
  have HM : Hid ((if f < f2 then (f2 : Int) else (f : Int)) = (m : Int)) := by show _ = _; rw [hm]; split <;> omega
  rw [← hm]
  clear hm
  have HB : Hid (Str w b f v) := hB
  go_enter Tryz.func94, Tryz.ntmps94
  go_wp2_with (refine wpList_boxS rfl _ rfl f2 u rfl ?_; intro w1 hB1 hb1 hs1)
  have HB1 : Hid (Str w1 w.heap.size f2 u) := hB1
  have HB0 : Hid (Str w1 b f v) := HB.out.later hb1
  have q0 := HB0.out.far
  have f0 := HB0.out.frozen 0
  have q1 := HB1.out.far
  have HG1 : Hid (w.grownBy w1 (some b)) := grownBy_of_below hb1 _
  clear hB hB1 HB
  have hne : w.heap.size ≠ b := by omega
  have hs1' : b < w1.heap.size := by omega
  go_region
  all_goals
    rw [HM.out]
    have HB2 : Hid (Str (w1.setCell ⟨b, 0, none⟩ (.int .i64 (m : Int))).drew b m v) := (HB0.out.setF m).later (Below.drew (Below.refl _ _))
    have HB3 : Hid (Str (w1.setCell ⟨b, 0, none⟩ (.int .i64 (m : Int))).drew w.heap.size f2 u) := HB1.out.grown (grownBy_trans (setCell_grown w1 b 0 _) (grownBy_of_below (Below.drew (Below.refl _ _)) _)) (fun e => hne (Option.some.inj e).symm)
    have HG2 : Hid (w.grownBy (w1.setCell ⟨b, 0, none⟩ (.int .i64 (m : Int))).drew (some b)) := grownBy_trans HG1.out (grownBy_trans (setCell_grown w1 b 0 _) (grownBy_of_below (Below.drew (Below.refl _ _)) _))
    clear HB0 HB1 HG1 q0 f0 q1
    generalize (w1.setCell ⟨b, 0, none⟩ (.int .i64 (m : Int))).drew = w2 at *
    go_wp2_with (refine wpList_endsV rfl _ rfl w.heap.size f2 u rfl HB3.out ?_)
    have HB4 : Hid (Str w2 b m (joinTo8 v u 0)) := HB2.out
    clear HB2
    go_loopw [18] (fun s18 wr => ∃ k : Nat, k ≤ 11 ∧ s18 = .int .i64 (k : Int) ∧ Hid (Str wr b m (joinTo8 v u k)) ∧ Hid (w.grownBy wr (some b))) (fun s18 _ => 11 - (intOf s18).toNat)
    case atStart => exact ⟨0, Nat.zero_le _, rfl, HB4, HG2⟩
    case round =>
      obtain ⟨k, hk, rfl, HBk, HGk⟩ := hrel
      clear HB4 HG2
      by_cases hlt : k < 11
      · have q0 := HBk.out.end hlt
        have f0 := HBk.out.frozen (1 + k)
        have hk0 : (0 : Int) ≤ (k : Int) := by omega
        have hk1 : (k : Int) < 11 := by omega
        have hvk : joinTo8 v u k k = v k := if_neg (Nat.lt_irrefl k)
        rw [hvk] at q0
        have HN : Hid (∀ x, x = (decide (v k ≠ 0) || decide (u k ≠ 0)) → Str (wr.setCell ⟨b, 1 + k, none⟩ (.bool x)) b m (joinTo8 v u (k + 1))) := fun x hx => (HBk.out.setE x).congr (fun j _ => joinTo8_step v u k x hx j)
        have hgu := eB_get u hlt
        have hgu2 : (eB u).getD k false = decide (u k ≠ 0) := by rw [List.getD_eq_getElem?_getD, List.getElem?_eq_getElem (by rw [eB_length]; exact hlt), hgu]; rfl
        have HU : Hid ((eB u).getD k false = decide (u k ≠ 0)) := hgu2
        have HL : Hid ((eB u).length = 11) := eB_length u
        have HG3 : Hid (∀ x, w.grownBy (wr.setCell ⟨b, 1 + k, none⟩ (.bool x)) (some b)) := fun x => grownBy_trans HGk.out (setCell_grown wr b (1 + k) _)
        clear HBk hvk hgu hgu2 HGk
        generalize decide (v k ≠ 0) = x at *
        generalize decide (u k ≠ 0) = y at *
        obtain ⟨l, hl⟩ : ∃ l, Hid (eB u = l) := ⟨_, rfl⟩
        rw [hl.out] at HU HL ⊢
        go_wp2_with (refine wpList_indexB rfl 90 4 _ _ rfl l k rfl rfl (by rw [HL.out]; exact u_places) u_bool bool_size (by rw [HL.out]; exact hlt) ?_; rw [HU.out])
        cases x
        · have HN1 : Hid (Str (wr.setCell ⟨b, 1 + k, none⟩ (.bool y)) b m (joinTo8 v u (k + 1))) := HN.out y (by simp)
          have HG4 := HG3.out y
          have HG4' : Hid (w.grownBy (wr.setCell ⟨b, 1 + k, none⟩ (.bool y)) (some b)) := HG4
          clear HN HG3 HG4
          go_region
          all_goals
            go_wp2
            go_roundw
            case rel => exact ⟨k + 1, by omega, by go_num, HN1.out.later (by first | exact Below.refl _ _ | exact Below.drew (Below.refl _ _)), grownBy_trans HG4'.out (grownBy_of_below (by first | exact Below.refl _ _ | exact Below.drew (Below.refl _ _)) _)⟩
            case measure => simp [intOf]; omega
        · have HN1 : Hid (Str (wr.setCell ⟨b, 1 + k, none⟩ (.bool true)) b m (joinTo8 v u (k + 1))) := HN.out true (by simp)
          have HG4 := HG3.out true
          have HG4' : Hid (w.grownBy (wr.setCell ⟨b, 1 + k, none⟩ (.bool true)) (some b)) := HG4
          clear HN HG3 HG4
          go_region
          all_goals
            go_wp2
            go_roundw
            case rel => exact ⟨k + 1, by omega, by go_num, HN1.out.later (by first | exact Below.refl _ _ | exact Below.drew (Below.refl _ _)), grownBy_trans HG4'.out (grownBy_of_below (by first | exact Below.refl _ _ | exact Below.drew (Below.refl _ _)) _)⟩
            case measure => simp [intOf]; omega
      · have e : k = 11 := by omega
        subst e
        go_wp2
        go_end0
        exact ⟨rfl, HBk.out.congr (fun j hj => by unfold joinTo8; rw [if_pos hj]), HGk.out⟩
end Go.Proofs.YthnppodnjokaoaaGreatDoor
namespace Go.Proofs.YthnppodnjokaoaaGreatDoor
open Go.RowKit

section
variable (P : List (List (List Int))) (ws : List Int) (w0 : World) (bT : Nat) (aP : Option Addr) (cP : Nat) (aw : Option Addr) (cw : Nat)
/-- K: the blocks of what it knows. -/
structure TrIn (K : Nat → Prop) (w : World) : Prop where
  low : Below w0.heap.size w0 w
  lT : w0.heap.size ≤ bT
  lt : bT < w.heap.size
  c0 : w.cell? ⟨bT, 0, none⟩ = some (.slice aP P.length cP)
  c1 : w.cell? ⟨bT, 1, none⟩ = some (.slice aw ws.length cw)
  fr : ∀ i, w.frozen? ⟨bT, i, none⟩ = false
  kb : ∀ b, K b → b ≠ bT ∧ w0.heap.size ≤ b ∧ b < w.heap.size
  known : ∀ k i, k < P.length → i ≤ ws.length → ∃ u, w.cell? ⟨bT, 2 + k * 11 + i, none⟩ = some (.pointer u) ∧ ∀ a, u = some a → ∃ b, a = ⟨b, 0, none⟩ ∧ K b ∧ Str w b (farP P ws k i) (way P ws k i)
end
section
variable {P : List (List (List Int))} {ws : List Int} {w0 : World} {bT : Nat} {aP : Option Addr} {cP : Nat} {aw : Option Addr} {cw : Nat} {K : Nat → Prop} {w w' : World}
theorem TrIn.kept {T : Nat → Prop} (h : TrIn P ws w0 bT aP cP aw cw K w) (hw : Within w w' T) (hT : ∀ b, T b → w0.heap.size ≤ b ∧ b ≠ bT ∧ ¬ K b) : TrIn P ws w0 bT aP cP aw cw K w' := by
  have e1 := hw.block bT h.lt (fun e => (hT _ e).2.1 rfl)
  refine ⟨hw.below h.low (fun b e => (hT b e).1), h.lT, Nat.lt_of_lt_of_le h.lt hw.size, by rw [blk_cell e1]; exact h.c0, by rw [blk_cell e1]; exact h.c1, fun i => by rw [blk_frozen e1]; exact h.fr i, fun b hb => ⟨(h.kb b hb).1, (h.kb b hb).2.1, Nat.lt_of_lt_of_le (h.kb b hb).2.2 hw.size⟩, fun k i hk hi => ?_⟩
  obtain ⟨u, hu, hr⟩ := h.known k i hk hi
  refine ⟨u, by rw [blk_cell e1]; exact hu, fun a ha => ?_⟩
  obtain ⟨b, hb, hK, hS⟩ := hr a ha
  exact ⟨b, hb, hK, hS.kept (hw.block b hS.lt (fun e => (hT b e).2.2 hK))⟩
theorem TrIn.later (h : TrIn P ws w0 bT aP cP aw cw K w) (hb : Below w.heap.size w w') : TrIn P ws w0 bT aP cP aw cw K w' := h.kept (T := fun _ => False) (Within.of_below hb _) (fun _ e => e.elim)
/-- What it has found of a part at a place is kept. -/
theorem TrIn.put (h : TrIn P ws w0 bT aP cP aw cw K w) {k i b : Nat} (hi : i ≤ ws.length) (hi10 : ws.length ≤ 10) (hb : b ≠ bT) (hb0 : w0.heap.size ≤ b) (hS : Str w b (farP P ws k i) (way P ws k i)) :
    TrIn P ws w0 bT aP cP aw cw (fun x => K x ∨ x = b) (w.setCell ⟨bT, 2 + k * 11 + i, none⟩ (.pointer (some ⟨b, 0, none⟩))) := by
  have hw : Within w (w.setCell ⟨bT, 2 + k * 11 + i, none⟩ (.pointer (some ⟨b, 0, none⟩))) (fun x => x = bT) := Within.setCell (Within.refl _ _) _ _ rfl
  refine ⟨hw.below h.low (fun x e => by rw [e]; exact h.lT), h.lT, by simpa using h.lt, by rw [cell_set_off (.inr (by omega))]; exact h.c0, by rw [cell_set_off (.inr (by omega))]; exact h.c1, fun j => by rw [World.frozen?_setCell]; exact h.fr j, fun x hx => ?_, fun k' i' hk' hi' => ?_⟩
  · rcases hx with hx | rfl
    · have := h.kb x hx; simpa using this
    · exact ⟨hb, hb0, by simpa using hS.lt⟩
  · obtain ⟨u, hu, hr⟩ := h.known k' i' hk' hi'
    by_cases e : k' = k ∧ i' = i
    · obtain ⟨rfl, rfl⟩ := e
      exact ⟨_, cell_set hu, fun a ha => by
        obtain rfl := Option.some.inj ha
        exact ⟨b, rfl, .inr rfl, hS.kept (hw.block b hS.lt hb)⟩⟩
    · refine ⟨u, by rw [cell_set_off (.inr (by omega))]; exact hu, fun a ha => ?_⟩
      obtain ⟨b', hb', hK, hS'⟩ := hr a ha
      exact ⟨b', hb', .inl hK, hS'.kept (hw.block b' hS'.lt (h.kb b' hK).1)⟩
end
/-- What a letter leads to, as far as the places were gone through. -/
def letTo8 (ws : List Int) (z : Int) (v : Nat → Nat) (k : Nat) : Nat → Nat := fun j => if j ≤ k then letNx ws z v j else 0
theorem letTo8_zero (ws : List Int) (z : Int) (v : Nat → Nat) (j : Nat) : letTo8 ws z v 0 j = 0 := by
  unfold letTo8
  cases j with
  | zero => rfl
  | succ j => rw [if_neg (by omega)]
theorem letTo8_stay {ws : List Int} {z : Int} {v : Nat → Nat} {k : Nat} (h : ¬ (v k ≠ 0 ∧ ws[k]? = some z)) (j : Nat) : letTo8 ws z v k j ≠ 0 ↔ letTo8 ws z v (k + 1) j ≠ 0 := by
  unfold letTo8
  by_cases e : j = k + 1
  · subst e
    rw [if_neg (by omega), if_pos (Nat.le_refl _), letNx]
    by_cases g : ws[k]? = some z
    · rw [if_pos g]
      have : v k = 0 := by by_cases e : v k = 0; exact e; exact absurd ⟨e, g⟩ h
      rw [this]
    · rw [if_neg g]
  · by_cases g : j ≤ k
    · rw [if_pos g, if_pos (by omega)]
    · rw [if_neg g, if_neg (by omega)]
theorem letTo8_put {ws : List Int} {z : Int} {v : Nat → Nat} {k : Nat} (h1 : v k ≠ 0) (h2 : ws[k]? = some z) (j : Nat) : (if j = k + 1 then (if true = true then 1 else 0) else letTo8 ws z v k j) ≠ 0 ↔ letTo8 ws z v (k + 1) j ≠ 0 := by
  unfold letTo8
  by_cases e : j = k + 1
  · subst e
    rw [if_pos rfl, if_pos (Nat.le_refl _), letNx, if_pos h2]
    simp [h1]
  · rw [if_neg e]
    by_cases g : j ≤ k
    · rw [if_pos g, if_pos (by omega)]
    · rw [if_neg g, if_neg (by omega)]
theorem letTo8_end {ws : List Int} {z : Int} {v : Nat → Nat} (j : Nat) : letTo8 ws z v ws.length j ≠ 0 ↔ letNx ws z v j ≠ 0 := by
  unfold letTo8
  by_cases g : j ≤ ws.length
  · rw [if_pos g]
  · rw [if_neg g]
    have : letNx ws z v j = 0 := by
      cases j with
      | zero => rfl
      | succ j => rw [letNx, List.getElem?_eq_none (by omega)]; simp
    rw [this]
theorem letSpot_step {ws : List Int} {z : Int} {v : Nat → Nat} {b k : Nat} (h1 : v k ≠ 0) (h2 : ws[k]? = some z) : maxOn (letSpot ws z v) b (k + 1) = max (maxOn (letSpot ws z v) b k) (k + 1) := by rw [maxOn, letSpot, if_pos ⟨h1, h2⟩]
theorem letSpot_stay {ws : List Int} {z : Int} {v : Nat → Nat} {b k : Nat} (h : ¬ (v k ≠ 0 ∧ ws[k]? = some z)) : maxOn (letSpot ws z v) b (k + 1) = maxOn (letSpot ws z v) b k := by rw [maxOn, letSpot, if_neg h]; omega
end Go.Proofs.YthnppodnjokaoaaGreatDoor
namespace Go.Proofs.YthnppodnjokaoaaGreatDoor
open Go.RowKit

section
variable {P : List (List (List Int))} {ws : List Int} {w0 : World} {bT : Nat} {aP : Option Addr} {cP : Nat} {aw : Option Addr} {cw : Nat} {K : Nat → Prop}
set_option maxHeartbeats 4000000 in
set_option maxRecDepth 100000 in
theorem strLetter_any (z : Int) (fa : Nat) (v : Nat → Nat) (w : World) (hT : TrIn P ws w0 bT aP cP aw cw K w) (hws : Reads w0 aw ws) (hn : ws.length ≤ 10) (hfa : fa ≤ 10) :
    Calls Tryz.prog 75 #[.pointer (some ⟨bT, 0, none⟩), aggV (strV fa v), .int .i64 z] w fun e w' => e = .returned (aggV (strV (maxOn (letSpot ws z v) fa ws.length) (letNx ws z v))) ∧ Below w.heap.size w w' := by
  have HT : Hid (TrIn P ws w0 bT aP cP aw cw K w) := hT
  have HWS : Hid (Reads w0 aw ws) := hws
  have hbl := hT.lt
  have HEND : Hid (∀ n (W : World), n = maxOn (letSpot ws z v) fa ws.length → Below w.heap.size w W → (aggV (strV n (letTo8 ws z v ws.length)) = aggV (strV (maxOn (letSpot ws z v) fa ws.length) (letNx ws z v))) ∧ Below w.heap.size w W) := fun n W hn hW => ⟨by rw [hn, strV_congr (fun j _ => letTo8_end j)], hW⟩
  obtain ⟨R, HR⟩ : ∃ R, Hid (aggV (strV (maxOn (letSpot ws z v) fa ws.length) (letNx ws z v)) = R) := ⟨_, rfl⟩
  rw [HR.out] at HEND ⊢
  clear hT hws HR
  go_enter Tryz.func75, Tryz.ntmps75
  go_wp2_with (first
    | (refine wpList_boxS rfl _ rfl fa v rfl ?_; intro w1 hB1 hb1 hs1; have l1 : w.heap.size < w1.heap.size := (by omega); clear hs1)
    | (refine wpList_allocS (w := w1) rfl rfl ?_; intro w2 hA2 hb2 hs2; have l2 : w1.heap.size < w2.heap.size := (by omega); clear hs2; have q2 := (hB1.later hb2).far)
    | (refine wpList_str1 rfl _ rfl fa rfl ?_)
    | (refine wpList_allocS (w := w2) rfl rfl ?_; intro w3 hA3 hb3 hs3; clear hs3)
    | (refine wpList_storeS rfl _ _ rfl w2.heap.size 0 (fun _ => 0) fa (fun _ => 0) rfl rfl hA3 ?_; intro w4 hS4 hg4; have g4 : Below w.heap.size w w4 := (((hb1.trans (hb2.mono hb1.size)).trans (hb3.mono (Nat.le_trans hb1.size hb2.size))).grown hg4 (by have := hb1.size; have := hb2.size; have := hb3.size; omega) (fun k e => by cases e; have := hb1.size; have := hb2.size; omega)); have q4 := (HT.out.later g4).c1))
  have HBk : Hid (Str w4 w.heap.size fa v) := (hB1.later (hb2.trans (hb3.mono hb2.size))).grown hg4 (fun e => by have := Option.some.inj e; omega)
  have HS0 : Hid (Str w4 w2.heap.size (maxOn (letSpot ws z v) fa 0) (letTo8 ws z v 0)) := hS4.congr (fun j _ => by rw [letTo8_zero])
  have hl2 : w.heap.size < w2.heap.size := by omega
  have HG0 : Hid (Within w4 w4 (fun b => b = w2.heap.size)) := Within.refl _ _
  have HB4 : Hid (Below w.heap.size w w4) := g4
  have HA4 : Hid (Str w4 w1.heap.size 0 (fun _ => 0)) := (hA2.later hb3).grown hg4 (fun e => by have := Option.some.inj e; omega)
  have hRS : w1.heap.size < w2.heap.size := l2
  have hR0 : w.heap.size < w1.heap.size := l1
  clear hB1 hb1 hA2 hb2 hA3 hb3 hS4 hg4 g4 q2 l1 l2
  generalize w2.heap.size = nS at *
  generalize w1.heap.size = nR at *
  go_loopw [18] (fun s18 wr => ∃ k : Nat, k ≤ ws.length ∧ s18 = .int .i64 (k : Int) ∧ Hid (Str wr nS (maxOn (letSpot ws z v) fa k) (letTo8 ws z v k)) ∧ Hid (Within w4 wr (fun b => b = nS))) (fun s18 _ => ws.length - (intOf s18).toNat)
  case atStart => exact ⟨0, Nat.zero_le _, rfl, HS0, HG0⟩
  case round =>
    obtain ⟨k, hk, rfl, HSk, HGk⟩ := hrel
    clear HS0 HG0
    have HBr : Hid (Below w.heap.size w wr) := HGk.out.below HB4.out (fun b e => by omega)
    have HBx : Hid (Str wr w.heap.size fa v) := HBk.out.kept (HGk.out.block _ HBk.out.lt (by omega))
    have hle : maxOn (letSpot ws z v) fa k ≤ 11 := maxOn_le (by omega) (fun i hi => by unfold letSpot; split <;> omega)
    by_cases hlt : k < ws.length
    · obtain ⟨br, ofr, rfl, hbr, hcell⟩ := HWS.out.at hlt
      have qr0 := (HT.out.later HBr.out).low.cell (p := ⟨br, ofr + k, none⟩) hbr |>.trans (hcell k hlt)
      rw [List.getD_eq_getElem?_getD, List.getElem?_eq_getElem hlt, Option.getD_some] at qr0
      have q0 := HBx.out.end (j := k) (by omega)
      have qe := HSk.out.far
      have fe := HSk.out.frozen 0
      have qk := HSk.out.end (j := k + 1) (by omega)
      have fk := HSk.out.frozen (1 + (k + 1))
      have hsome : ws[k]? = some ws[k] := List.getElem?_eq_getElem hlt
      have HN0 : Hid (¬ (v k ≠ 0 ∧ ws[k]? = some z) → Str wr nS (maxOn (letSpot ws z v) fa (k + 1)) (letTo8 ws z v (k + 1))) := fun h => by rw [letSpot_stay h]; exact HSk.out.congr (fun j _ => letTo8_stay h j)
      have HN1 : Hid (v k ≠ 0 → ws[k]? = some z → ∀ n : Nat, n = max (maxOn (letSpot ws z v) fa k) (k + 1) → Str ((wr.setCell ⟨nS, 1 + (k + 1), none⟩ (.bool true)).setCell ⟨nS, 0, none⟩ (.int .i64 (n : Int))) nS (maxOn (letSpot ws z v) fa (k + 1)) (letTo8 ws z v (k + 1))) := fun h1 h2 n hn' => by
        rw [letSpot_step h1 h2, ← hn']
        exact ((HSk.out.setE true).congr (fun j _ => letTo8_put h1 h2 j)).setF n
      have hkn : k + 1 < 11 := by omega
      have HWk : Hid (Within w4 wr (fun b => b = nS)) := HGk.out
      have hnl : nS < wr.heap.size := HSk.out.lt
      clear HSk hcell HGk HBr HBx
      by_cases hv : v k = 0
      · have HN := HN0.out (fun h => h.1 hv)
        have HNh : Hid (Str wr nS (maxOn (letSpot ws z v) fa (k + 1)) (letTo8 ws z v (k + 1))) := HN
        rw [show decide (v k ≠ 0) = false by simp [hv]] at q0
        clear HN0 HN1 HN hv hsome
        generalize ws[k] = x at *
        generalize maxOn (letSpot ws z v) fa k = m at *
        go_wp2
        go_roundw
        case rel => exact ⟨k + 1, by omega, by go_num, HNh, HWk⟩
        case measure => simp [intOf]; omega
      · rw [show decide (v k ≠ 0) = true by simp [hv]] at q0
        by_cases hz : ws[k] = z
        · have HN := HN1.out hv (by rw [hsome, hz])
          have HNh : Hid (∀ n : Nat, n = max (maxOn (letSpot ws z v) fa k) (k + 1) → Str ((wr.setCell ⟨nS, 1 + (k + 1), none⟩ (.bool true)).setCell ⟨nS, 0, none⟩ (.int .i64 (n : Int))) nS (maxOn (letSpot ws z v) fa (k + 1)) (letTo8 ws z v (k + 1))) := HN
          clear HN0 HN1 HN hsome
          rw [hz] at qr0
          clear hz
          generalize maxOn (letSpot ws z v) fa k = m at *
          obtain ⟨n, hn'⟩ : ∃ n, n = max m (k + 1) := ⟨_, rfl⟩
          have HS := HNh.out n hn'
          have HSh : Hid (Str ((wr.setCell ⟨nS, 1 + (k + 1), none⟩ (.bool true)).setCell ⟨nS, 0, none⟩ (.int .i64 (n : Int))) nS (maxOn (letSpot ws z v) fa (k + 1)) (letTo8 ws z v (k + 1))) := HS
          have HM : Hid (n = max m (k + 1)) := hn'
          clear HNh HS hn'
          go_wp2
          go_roundw
          case rel =>
            rw [show (if (m : Int) < (k : Int) + 1 then (k : Int) + 1 else (m : Int)) = (n : Int) from by rw [HM.out]; split <;> omega]
            exact ⟨k + 1, by omega, by go_num, HSh, (HWk.out.trans (set_within _ _ _ _ rfl)).trans (set_within _ _ _ _ rfl)⟩
          case measure => simp [intOf]; omega
        · have HN := HN0.out (fun h => hz (by have := h.2; rw [hsome] at this; exact Option.some.inj this))
          have HNh : Hid (Str wr nS (maxOn (letSpot ws z v) fa (k + 1)) (letTo8 ws z v (k + 1))) := HN
          clear HN0 HN1 HN hsome
          generalize ws[k] = x at *
          generalize maxOn (letSpot ws z v) fa k = m at *
          go_wp2
          go_roundw
          case rel => exact ⟨k + 1, by omega, by go_num, HNh, HWk⟩
          case measure => simp [intOf]; omega
    · have e : k = ws.length := by omega
      subst e
      have HE := HEND.out _ (wr) rfl HBr.out
      have HEh : Hid (aggV (strV (maxOn (letSpot ws z v) fa ws.length) (letTo8 ws z v ws.length)) = R) := HE.1
      have HSl : Hid (Str wr nS (maxOn (letSpot ws z v) fa ws.length) (letTo8 ws z v ws.length)) := HSk.out
      have HAr : Hid (Str wr nR 0 (fun _ => 0)) := HA4.out.kept (HGk.out.block _ HA4.out.lt (by omega))
      have HBr2 : Hid (Below w.heap.size w wr) := HBr.out
      clear HE HSk HEND HBx HA4 HGk HBr
      generalize maxOn (letSpot ws z v) fa ws.length = m at *
      generalize letTo8 ws z v ws.length = u at *
      go_wp2_with (first | (refine wpList_loadS rfl _ rfl nS m u rfl HSl.out ?_) | (refine wpList_storeS rfl _ _ rfl nR 0 (fun _ => 0) m u rfl rfl HAr.out ?_; intro w6 hS6 hg6))
      exact bodyPost_ret (v := aggV (strV m u)) (ret_cellS rfl rfl hS6) rfl ⟨by rw [HEh.out], HBr2.out.grown hg6 HBr2.out.size (fun k e => by cases e; omega)⟩
end
end Go.Proofs.YthnppodnjokaoaaGreatDoor
