/-
  Contracts and plain mathematics, joined: L7Tab, L7At. No statement is proved here.
-/
import Derived.Test.YthnppodnjokaoaaDoorG8
import Derived.Test.YthnppodnjokaoaaDoorG2
namespace Go.Proofs.YthnppodnjokaoaaDoor
open Go.RowKit

/-- The ways to the places 0 to n, as a list. -/
def vecL (v : Nat → Nat) (n : Nat) : List Int := (List.range (n + 1)).map fun j => (v j : Int)
theorem vecL_length (v : Nat → Nat) (n : Nat) : (vecL v n).length = n + 1 := by simp [vecL]
theorem vecL_get (v : Nat → Nat) (n : Nat) {j : Nat} (h : j ≤ n) : (vecL v n).getD j 0 = (v j : Int) := by
  simp [vecL, List.getD, show j < n + 1 by omega]
theorem vecL_congr {u v : Nat → Nat} {n : Nat} (h : ∀ j, j ≤ n → u j = v j) : vecL u n = vecL v n := by
  unfold vecL
  refine List.map_congr_left (fun j hj => ?_)
  rw [List.mem_range] at hj
  rw [h j (by omega)]

theorem blk_cell {w w' : World} {b o : Nat} (h : w'.heap[b]? = w.heap[b]?) : w'.cell? ⟨b, o, none⟩ = w.cell? ⟨b, o, none⟩ := World.cell?_of_block (w := w) (w' := w') (a := ⟨b, o, none⟩) h
theorem blk_frozen {w w' : World} {b o : Nat} (h : w'.heap[b]? = w.heap[b]?) : w'.frozen? ⟨b, o, none⟩ = w.frozen? ⟨b, o, none⟩ := by unfold World.frozen?; rw [h]
theorem cell_set {w : World} {b o : Nat} {u x : Value} (h : w.cell? ⟨b, o, none⟩ = some u) : (w.setCell ⟨b, o, none⟩ x).cell? ⟨b, o, none⟩ = some x := by
  have := World.cell?_setCell_same w ⟨b, o, none⟩ x h
  exact this
theorem cell_set_off {w : World} {b o b' i : Nat} {x : Value} (h : b ≠ b' ∨ o ≠ i) : (w.setCell ⟨b, o, none⟩ x).cell? ⟨b', i, none⟩ = w.cell? ⟨b', i, none⟩ := by
  refine World.cell?_setCell_other w ⟨b, o, none⟩ ⟨b', i, none⟩ x (fun e => ?_)
  have := Addr.mk.inj e
  rcases h with h | h
  · exact h this.1
  · exact h this.2.1
theorem reads_within {w w' : World} {b : Nat} {zs : List Int} {M : Nat → Prop} (h : Reads w (some ⟨b, 0, none⟩) zs) (hw : Within w w' M) (hb : ¬ M b) : Reads w' (some ⟨b, 0, none⟩) zs := by
  rcases h with h | ⟨b', off, e, hlt, hc⟩
  · exact .inl h
  · obtain ⟨rfl, rfl, _⟩ := Addr.mk.inj (Option.some.inj e)
    exact .inr ⟨b, 0, rfl, Nat.lt_of_lt_of_le hlt hw.size, fun i hi => by rw [blk_cell (hw.block b hlt hb)]; exact hc i hi⟩

/-- Where the table lies. -/
structure TP where
  bT : Nat
  oW : Nat
  oD : Nat
  cW : Nat
  cD : Nat
  bW : Nat → Nat
  bD : Nat → Nat
/-- Its rows' blocks: they alone turn. -/
def TP.M (t : TP) (K : Nat) (b : Nat) : Prop := ∃ k, k < K ∧ (b = t.bW k ∨ b = t.bD k)
structure TPOk (t : TP) (K base : Nat) : Prop where
  wW : ∀ i j, i < K → j < K → t.bW i = t.bW j → i = j
  dD : ∀ i j, i < K → j < K → t.bD i = t.bD j → i = j
  wD : ∀ i j, i < K → j < K → t.bW i ≠ t.bD j
  T : ¬ t.M K t.bT
  oW : ¬ t.M K t.oW
  oD : ¬ t.M K t.oD
  base : ∀ b, t.M K b → base ≤ b
/-- A value that is a list of ways. -/
def RowV (w : World) (M N : Nat → Prop) (zs : List Int) (u : Value) : Prop := ∃ b c, u = .slice (some ⟨b, 0, none⟩) zs.length c ∧ ¬ M b ∧ ¬ N b ∧ b < w.heap.size ∧ Reads w (some ⟨b, 0, none⟩) zs
theorem RowV.kept {w w' : World} {M N T : Nat → Prop} {zs : List Int} {u : Value} (h : RowV w M N zs u) (hw : Within w w' T) (hT : ∀ b, T b → M b ∨ N b) : RowV w' M N zs u := by
  obtain ⟨b, c, rfl, hM, hN, hl, hr⟩ := h
  exact ⟨b, c, rfl, hM, hN, Nat.lt_of_lt_of_le hl hw.size, reads_within hr hw (fun e => (hT b e).elim hM hN)⟩
theorem RowV.turn {w : World} {M N N' : Nat → Prop} {zs : List Int} {u : Value} (h : RowV w M N zs u) (hN' : ∀ b, N' b → N b ∨ w.heap.size ≤ b) : RowV w M N' zs u := by
  obtain ⟨b, c, rfl, hM, hN, hl, hr⟩ := h
  exact ⟨b, c, rfl, hM, fun e => (hN' b e).elim hN (fun g => by omega), hl, hr⟩

section
variable (P : List (List (List Int))) (ws : List Int) (w0 : World) (t : TP) (aP : Option Addr) (cP : Nat) (aw : Option Addr) (cw : Nat)
structure Tab (N : Nat → Prop) (w : World) : Prop where
  ok : TPOk t P.length w0.heap.size
  low : Below w0.heap.size w0 w
  lt : t.bT < w.heap.size ∧ t.oW < w.heap.size ∧ t.oD < w.heap.size ∧ ∀ b, t.M P.length b → b < w.heap.size
  c0 : w.cell? ⟨t.bT, 0, none⟩ = some (.slice aP P.length cP)
  c1 : w.cell? ⟨t.bT, 1, none⟩ = some (.slice aw ws.length cw)
  c2 : w.cell? ⟨t.bT, 2, none⟩ = some (.slice (some ⟨t.oW, 0, none⟩) P.length t.cW)
  c3 : w.cell? ⟨t.bT, 3, none⟩ = some (.slice (some ⟨t.oD, 0, none⟩) P.length t.cD)
  rW : ∀ k, k < P.length → w.cell? ⟨t.oW, k, none⟩ = some (.slice (some ⟨t.bW k, 0, none⟩) (ws.length + 1) (ws.length + 1))
  rD : ∀ k, k < P.length → w.cell? ⟨t.oD, k, none⟩ = some (.slice (some ⟨t.bD k, 0, none⟩) (ws.length + 1) (ws.length + 1))
  fr : ∀ b, t.M P.length b → ∀ i, w.frozen? ⟨b, i, none⟩ = false
  known : ∃ d : Nat → Nat → Bool, ∀ k i, k < P.length → i ≤ ws.length → w.cell? ⟨t.bD k, i, none⟩ = some (.bool (d k i)) ∧ ∃ u, w.cell? ⟨t.bW k, i, none⟩ = some u ∧ (d k i = true → RowV w (t.M P.length) N (vecL (way P ws k i) ws.length) u)
end
section
variable {P : List (List (List Int))} {ws : List Int} {w0 : World} {t : TP} {aP : Option Addr} {cP : Nat} {aw : Option Addr} {cw : Nat} {N : Nat → Prop} {w w' : World}
/-- What is elsewhere turns nothing here. -/
theorem Tab.kept {T : Nat → Prop} (h : Tab P ws w0 t aP cP aw cw N w) (hw : Within w w' T) (hT : ∀ b, T b → N b ∧ w0.heap.size ≤ b ∧ b ≠ t.bT ∧ b ≠ t.oW ∧ b ≠ t.oD ∧ ¬ t.M P.length b) : Tab P ws w0 t aP cP aw cw N w' := by
  obtain ⟨l1, l2, l3, l4⟩ := h.lt
  have k1 := hw.block t.bT l1 (fun e => (hT _ e).2.2.1 rfl)
  have k2 := hw.block t.oW l2 (fun e => (hT _ e).2.2.2.1 rfl)
  have k3 := hw.block t.oD l3 (fun e => (hT _ e).2.2.2.2.1 rfl)
  have k4 : ∀ b, t.M P.length b → w'.heap[b]? = w.heap[b]? := fun b hm => hw.block b (l4 b hm) (fun e => (hT _ e).2.2.2.2.2 hm)
  obtain ⟨d, hd⟩ := h.known
  have mW : ∀ k, k < P.length → t.M P.length (t.bW k) := fun k hk => ⟨k, hk, .inl rfl⟩
  have mD : ∀ k, k < P.length → t.M P.length (t.bD k) := fun k hk => ⟨k, hk, .inr rfl⟩
  refine ⟨h.ok, hw.below h.low (fun b e => (hT b e).2.1), ⟨Nat.lt_of_lt_of_le l1 hw.size, Nat.lt_of_lt_of_le l2 hw.size, Nat.lt_of_lt_of_le l3 hw.size, fun b hm => Nat.lt_of_lt_of_le (l4 b hm) hw.size⟩, ?_, ?_, ?_, ?_, fun k hk => ?_, fun k hk => ?_, fun b hm i => ?_, d, fun k i hk hi => ⟨?_, ?_⟩⟩
  · rw [blk_cell k1]; exact h.c0
  · rw [blk_cell k1]; exact h.c1
  · rw [blk_cell k1]; exact h.c2
  · rw [blk_cell k1]; exact h.c3
  · rw [blk_cell k2]; exact h.rW k hk
  · rw [blk_cell k3]; exact h.rD k hk
  · rw [blk_frozen (k4 b hm)]; exact h.fr b hm i
  · rw [blk_cell (k4 _ (mD k hk))]; exact (hd k i hk hi).1
  · obtain ⟨u, hu, hr⟩ := (hd k i hk hi).2
    refine ⟨u, by rw [blk_cell (k4 _ (mW k hk))]; exact hu, fun e => (hr e).kept hw (fun b e => .inr (hT b e).1)⟩
theorem Tab.later (h : Tab P ws w0 t aP cP aw cw N w) (hb : Below w.heap.size w w') : Tab P ws w0 t aP cP aw cw N w' := h.kept (T := fun _ => False) (Within.of_below hb _) (fun _ e => e.elim)
theorem Tab.turn {N' : Nat → Prop} (h : Tab P ws w0 t aP cP aw cw N w) (hN : ∀ b, N' b → N b ∨ w.heap.size ≤ b) : Tab P ws w0 t aP cP aw cw N' w := by
  obtain ⟨d, hd⟩ := h.known
  exact ⟨h.ok, h.low, h.lt, h.c0, h.c1, h.c2, h.c3, h.rW, h.rD, h.fr, d, fun k i hk hi => ⟨(hd k i hk hi).1, by
    obtain ⟨u, hu, hr⟩ := (hd k i hk hi).2
    exact ⟨u, hu, fun e => (hr e).turn hN⟩⟩⟩
theorem set_within (w : World) (b o : Nat) (u : Value) {M : Nat → Prop} (h : M b) : Within w (w.setCell ⟨b, o, none⟩ u) M := Within.setCell (Within.refl _ _) _ _ h
/-- A row is put in. -/
theorem Tab.storeW (h : Tab P ws w0 t aP cP aw cw N w) {k i : Nat} (hk : k < P.length) {u : Value} (hu : RowV w (t.M P.length) N (vecL (way P ws k i) ws.length) u) : Tab P ws w0 t aP cP aw cw N (w.setCell ⟨t.bW k, i, none⟩ u) := by
  obtain ⟨l1, l2, l3, l4⟩ := h.lt
  obtain ⟨d, hd⟩ := h.known
  have mW : ∀ k, k < P.length → t.M P.length (t.bW k) := fun k hk => ⟨k, hk, .inl rfl⟩
  have mD : ∀ k, k < P.length → t.M P.length (t.bD k) := fun k hk => ⟨k, hk, .inr rfl⟩
  have hw : Within w (w.setCell ⟨t.bW k, i, none⟩ u) (t.M P.length) := set_within _ _ _ _ (mW k hk)
  have nT : t.bW k ≠ t.bT := fun e => h.ok.T (e ▸ mW k hk)
  have nW : t.bW k ≠ t.oW := fun e => h.ok.oW (e ▸ mW k hk)
  have nD : t.bW k ≠ t.oD := fun e => h.ok.oD (e ▸ mW k hk)
  refine ⟨h.ok, hw.below h.low (fun b hm => h.ok.base b hm), ⟨by simpa using l1, by simpa using l2, by simpa using l3, fun b hm => by simpa using l4 b hm⟩, ?_, ?_, ?_, ?_, fun k' hk' => ?_, fun k' hk' => ?_, fun b hm j => ?_, d, fun k' i' hk' hi' => ⟨?_, ?_⟩⟩
  · rw [cell_set_off (.inl nT)]; exact h.c0
  · rw [cell_set_off (.inl nT)]; exact h.c1
  · rw [cell_set_off (.inl nT)]; exact h.c2
  · rw [cell_set_off (.inl nT)]; exact h.c3
  · rw [cell_set_off (.inl nW)]; exact h.rW k' hk'
  · rw [cell_set_off (.inl nD)]; exact h.rD k' hk'
  · rw [World.frozen?_setCell]; exact h.fr b hm j
  · rw [cell_set_off (.inl (h.ok.wD k k' hk hk'))]; exact (hd k' i' hk' hi').1
  · obtain ⟨u', hu', hr'⟩ := (hd k' i' hk' hi').2
    by_cases e : k = k' ∧ i = i'
    · obtain ⟨rfl, rfl⟩ := e
      exact ⟨u, cell_set hu', fun _ => hu.kept hw (fun _ e => .inl e)⟩
    · refine ⟨u', ?_, fun e2 => (hr' e2).kept hw (fun _ e => .inl e)⟩
      rw [cell_set_off (by
        by_cases e2 : k = k'
        · exact .inr (fun e3 => e ⟨e2, e3⟩)
        · exact .inl (fun e3 => e2 (h.ok.wW k k' hk hk' e3)))]
      exact hu'
/-- It is told that it is there. -/
theorem Tab.storeD (h : Tab P ws w0 t aP cP aw cw N w) {k i : Nat} (hk : k < P.length) {u : Value} (hc : w.cell? ⟨t.bW k, i, none⟩ = some u) (hu : RowV w (t.M P.length) N (vecL (way P ws k i) ws.length) u) : Tab P ws w0 t aP cP aw cw N (w.setCell ⟨t.bD k, i, none⟩ (.bool true)) := by
  obtain ⟨l1, l2, l3, l4⟩ := h.lt
  obtain ⟨d, hd⟩ := h.known
  have mW : ∀ k, k < P.length → t.M P.length (t.bW k) := fun k hk => ⟨k, hk, .inl rfl⟩
  have mD : ∀ k, k < P.length → t.M P.length (t.bD k) := fun k hk => ⟨k, hk, .inr rfl⟩
  have hw : Within w (w.setCell ⟨t.bD k, i, none⟩ (.bool true)) (t.M P.length) := set_within _ _ _ _ (mD k hk)
  have nT : t.bD k ≠ t.bT := fun e => h.ok.T (e ▸ mD k hk)
  have nW : t.bD k ≠ t.oW := fun e => h.ok.oW (e ▸ mD k hk)
  have nD : t.bD k ≠ t.oD := fun e => h.ok.oD (e ▸ mD k hk)
  refine ⟨h.ok, hw.below h.low (fun b hm => h.ok.base b hm), ⟨by simpa using l1, by simpa using l2, by simpa using l3, fun b hm => by simpa using l4 b hm⟩, ?_, ?_, ?_, ?_, fun k' hk' => ?_, fun k' hk' => ?_, fun b hm j => ?_, (fun k' i' => if k' = k ∧ i' = i then true else d k' i'), fun k' i' hk' hi' => ?_⟩
  · rw [cell_set_off (.inl nT)]; exact h.c0
  · rw [cell_set_off (.inl nT)]; exact h.c1
  · rw [cell_set_off (.inl nT)]; exact h.c2
  · rw [cell_set_off (.inl nT)]; exact h.c3
  · rw [cell_set_off (.inl nW)]; exact h.rW k' hk'
  · rw [cell_set_off (.inl nD)]; exact h.rD k' hk'
  · rw [World.frozen?_setCell]; exact h.fr b hm j
  · have hd' := hd k' i' hk' hi'
    by_cases e : k' = k ∧ i' = i
    · obtain ⟨rfl, rfl⟩ := e
      refine ⟨?_, u, ?_, fun _ => hu.kept hw (fun _ e => .inl e)⟩
      · simp only [and_self, if_true]; exact cell_set hd'.1
      · rw [cell_set_off (.inl (fun e2 => h.ok.wD k' k' hk hk e2.symm))]; exact hc
    · obtain ⟨u', hu', hr'⟩ := hd'.2
      simp only [if_neg e]
      refine ⟨?_, u', ?_, fun e2 => (hr' e2).kept hw (fun _ e => .inl e)⟩
      · rw [cell_set_off (by
          by_cases e2 : k = k'
          · exact .inr (fun e3 => e ⟨e2.symm, e3.symm⟩)
          · exact .inl (fun e3 => e2 (h.ok.dD k k' hk hk' e3)))]
        exact hd'.1
      · rw [cell_set_off (.inl (fun e2 => h.ok.wD k' k hk' hk e2.symm))]; exact hu'
end
/-- What a step over the table comes to. -/
def GoPost (P : List (List (List Int))) (ws : List Int) (w0 : World) (t : TP) (aP : Option Addr) (cP : Nat) (aw : Option Addr) (cw : Nat) (N : Nat → Prop) (w : World) (v : Nat → Nat) (e : Ending) (w' : World) : Prop :=
  ∃ b c, e = .returned (.slice (some ⟨b, 0, none⟩) (ws.length + 1) c) ∧ ¬ t.M P.length b ∧ ¬ N b ∧ b < w'.heap.size ∧ Reads w' (some ⟨b, 0, none⟩) (vecL v ws.length) ∧ Tab P ws w0 t aP cP aw cw N w' ∧ Within w w' (t.M P.length)
end Go.Proofs.YthnppodnjokaoaaDoor
namespace Go.Proofs.YthnppodnjokaoaaDoor
open Go.RowKit

theorem made_get (n i : Nat) (h : i < n) : (madeCells #[Value.int .i64 0] n)[i]? = some (.int .i64 0) := by
  have e := toList_madeCells_one (.int .i64 0) n
  have : (madeCells #[Value.int .i64 0] n).toList[i]? = some (.int .i64 0) := by rw [e]; simp [h]
  simpa using this

set_option maxHeartbeats 1000000 in
set_option maxRecDepth 100000 in
theorem l7At_any (bT : Nat) (aw : Option Addr) (cw : Nat) (n i : Nat) (w : World) (hn : n ≤ 10) (hi : i ≤ n) (c1 : w.cell? ⟨bT, 1, none⟩ = some (.slice aw n cw)) :
    Calls Tryd.prog 70 #[.pointer (some ⟨bT, 0, none⟩), .int .i64 (i : Int)] w fun e w' => e = .returned (.slice (some ⟨w.heap.size, 0, none⟩) (n + 1) (n + 1)) ∧ w.heap.size < w'.heap.size ∧ Reads w' (some ⟨w.heap.size, 0, none⟩) (vecL (deltaV i) n) ∧ Below w.heap.size w w' := by
  have hmk := fun wx => run_make_row' (P := Tryd.prog) 25 3 (.int .i64 0) 8 Tryd.underlying25 Tryd.infoInt rfl .i64 .i64 (n + 1) (by omega) (by omega) wx
  rw [show ((n + 1 : Nat) : Int) = (n : Int) + 1 from rfl] at hmk
  have hmc := made_get (n + 1) i (by omega)
  have hi2 : (i : Int) < (n : Int) + 1 := by omega
  go_enter Tryd.func70, Tryd.ntmps70
  go_wp2
  go_ret
  refine ⟨rfl, by simp, ?_, (Below.refl _ _).alloc (Nat.le_refl _) _⟩
  refine .inr ⟨w.heap.size, 0, rfl, by simp, fun j hj => ?_⟩
  rw [vecL_length] at hj
  have h0 := made_get (n + 1) j hj
  have hk : (w.alloc (.cells ((madeCells #[Value.int .i64 0] (n + 1)).setIfInBounds i (.int .i64 1)) 3)).cell? ⟨w.heap.size, j, none⟩ = ((madeCells #[Value.int .i64 0] (n + 1)).setIfInBounds i (.int .i64 1))[j]? := by simp
  rw [vecL_get _ _ (by omega), Nat.zero_add, hk, Array.getElem?_setIfInBounds]
  unfold deltaV
  by_cases e : i = j
  · subst e
    rw [if_pos rfl, if_pos (by rw [size_madeCells]; exact hj), if_pos rfl]; rfl
  · rw [if_neg e, if_neg (fun h => e h.symm), h0]; rfl
end Go.Proofs.YthnppodnjokaoaaDoor
