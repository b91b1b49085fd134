/-
  Contracts and plain mathematics, joined: L7Tab, L7At, L8Tab, LeastMath, ReachMath. No statement is proved here.
-/
import Derived.Test.YthnppodnjokaoaaGreatDoorG8
import Derived.Test.YthnppodnjokaoaaGreatDoorG4
namespace Go.Proofs.YthnppodnjokaoaaGreatDoor
open Go.RowKit

/-- The ways to the places 0 to n, as a list. -/
def vecL (v : Nat → Nat) (n : Nat) : List Int := (List.range (n + 1)).map fun j => (v j : Int)
theorem vecL_length (v : Nat → Nat) (n : Nat) : (vecL v n).length = n + 1 := by simp [vecL]
theorem vecL_get (v : Nat → Nat) (n : Nat) {j : Nat} (h : j ≤ n) : (vecL v n).getD j 0 = (v j : Int) := by
  simp [vecL, List.getD, show j < n + 1 by omega]
theorem vecL_congr {u v : Nat → Nat} {n : Nat} (h : ∀ j, j ≤ n → u j = v j) : vecL u n = vecL v n := by
  unfold vecL
  refine List.map_congr_left (fun j hj => ?_)
  rw [List.mem_range] at hj
  rw [h j (by omega)]

theorem blk_cell {w w' : World} {b o : Nat} (h : w'.heap[b]? = w.heap[b]?) : w'.cell? ⟨b, o, none⟩ = w.cell? ⟨b, o, none⟩ := World.cell?_of_block (w := w) (w' := w') (a := ⟨b, o, none⟩) h
theorem blk_frozen {w w' : World} {b o : Nat} (h : w'.heap[b]? = w.heap[b]?) : w'.frozen? ⟨b, o, none⟩ = w.frozen? ⟨b, o, none⟩ := by unfold World.frozen?; rw [h]
theorem cell_set {w : World} {b o : Nat} {u x : Value} (h : w.cell? ⟨b, o, none⟩ = some u) : (w.setCell ⟨b, o, none⟩ x).cell? ⟨b, o, none⟩ = some x := by
  have := World.cell?_setCell_same w ⟨b, o, none⟩ x h
  exact this
theorem cell_set_off {w : World} {b o b' i : Nat} {x : Value} (h : b ≠ b' ∨ o ≠ i) : (w.setCell ⟨b, o, none⟩ x).cell? ⟨b', i, none⟩ = w.cell? ⟨b', i, none⟩ := by
  refine World.cell?_setCell_other w ⟨b, o, none⟩ ⟨b', i, none⟩ x (fun e => ?_)
  have := Addr.mk.inj e
  rcases h with h | h
  · exact h this.1
  · exact h this.2.1
theorem reads_within {w w' : World} {b : Nat} {zs : List Int} {M : Nat → Prop} (h : Reads w (some ⟨b, 0, none⟩) zs) (hw : Within w w' M) (hb : ¬ M b) : Reads w' (some ⟨b, 0, none⟩) zs := by
  rcases h with h | ⟨b', off, e, hlt, hc⟩
  · exact .inl h
  · obtain ⟨rfl, rfl, _⟩ := Addr.mk.inj (Option.some.inj e)
    exact .inr ⟨b, 0, rfl, Nat.lt_of_lt_of_le hlt hw.size, fun i hi => by rw [blk_cell (hw.block b hlt hb)]; exact hc i hi⟩

/-- Where the table lies. -/
structure TP where
  bT : Nat
  oW : Nat
  oD : Nat
  cW : Nat
  cD : Nat
  bW : Nat → Nat
  bD : Nat → Nat
/-- Its rows' blocks: they alone turn. -/
def TP.M (t : TP) (K : Nat) (b : Nat) : Prop := ∃ k, k < K ∧ (b = t.bW k ∨ b = t.bD k)
structure TPOk (t : TP) (K base : Nat) : Prop where
  wW : ∀ i j, i < K → j < K → t.bW i = t.bW j → i = j
  dD : ∀ i j, i < K → j < K → t.bD i = t.bD j → i = j
  wD : ∀ i j, i < K → j < K → t.bW i ≠ t.bD j
  T : ¬ t.M K t.bT
  oW : ¬ t.M K t.oW
  oD : ¬ t.M K t.oD
  base : ∀ b, t.M K b → base ≤ b
/-- A value that is a list of ways. -/
def RowV (w : World) (M N : Nat → Prop) (zs : List Int) (u : Value) : Prop := ∃ b c, u = .slice (some ⟨b, 0, none⟩) zs.length c ∧ ¬ M b ∧ ¬ N b ∧ b < w.heap.size ∧ Reads w (some ⟨b, 0, none⟩) zs
theorem RowV.kept {w w' : World} {M N T : Nat → Prop} {zs : List Int} {u : Value} (h : RowV w M N zs u) (hw : Within w w' T) (hT : ∀ b, T b → M b ∨ N b) : RowV w' M N zs u := by
  obtain ⟨b, c, rfl, hM, hN, hl, hr⟩ := h
  exact ⟨b, c, rfl, hM, hN, Nat.lt_of_lt_of_le hl hw.size, reads_within hr hw (fun e => (hT b e).elim hM hN)⟩
theorem RowV.turn {w : World} {M N N' : Nat → Prop} {zs : List Int} {u : Value} (h : RowV w M N zs u) (hN' : ∀ b, N' b → N b ∨ w.heap.size ≤ b) : RowV w M N' zs u := by
  obtain ⟨b, c, rfl, hM, hN, hl, hr⟩ := h
  exact ⟨b, c, rfl, hM, fun e => (hN' b e).elim hN (fun g => by omega), hl, hr⟩

section
variable (P : List (List (List Int))) (ws : List Int) (w0 : World) (t : TP) (aP : Option Addr) (cP : Nat) (aw : Option Addr) (cw : Nat)
structure Tab (N : Nat → Prop) (w : World) : Prop where
  ok : TPOk t P.length w0.heap.size
  low : Below w0.heap.size w0 w
  lt : t.bT < w.heap.size ∧ t.oW < w.heap.size ∧ t.oD < w.heap.size ∧ ∀ b, t.M P.length b → b < w.heap.size
  c0 : w.cell? ⟨t.bT, 0, none⟩ = some (.slice aP P.length cP)
  c1 : w.cell? ⟨t.bT, 1, none⟩ = some (.slice aw ws.length cw)
  c2 : w.cell? ⟨t.bT, 2, none⟩ = some (.slice (some ⟨t.oW, 0, none⟩) P.length t.cW)
  c3 : w.cell? ⟨t.bT, 3, none⟩ = some (.slice (some ⟨t.oD, 0, none⟩) P.length t.cD)
  rW : ∀ k, k < P.length → w.cell? ⟨t.oW, k, none⟩ = some (.slice (some ⟨t.bW k, 0, none⟩) (ws.length + 1) (ws.length + 1))
  rD : ∀ k, k < P.length → w.cell? ⟨t.oD, k, none⟩ = some (.slice (some ⟨t.bD k, 0, none⟩) (ws.length + 1) (ws.length + 1))
  fr : ∀ b, t.M P.length b → ∀ i, w.frozen? ⟨b, i, none⟩ = false
  known : ∃ d : Nat → Nat → Bool, ∀ k i, k < P.length → i ≤ ws.length → w.cell? ⟨t.bD k, i, none⟩ = some (.bool (d k i)) ∧ ∃ u, w.cell? ⟨t.bW k, i, none⟩ = some u ∧ (d k i = true → RowV w (t.M P.length) N (vecL (way P ws k i) ws.length) u)
end
section
variable {P : List (List (List Int))} {ws : List Int} {w0 : World} {t : TP} {aP : Option Addr} {cP : Nat} {aw : Option Addr} {cw : Nat} {N : Nat → Prop} {w w' : World}
/-- What is elsewhere turns nothing here. -/
theorem Tab.kept {T : Nat → Prop} (h : Tab P ws w0 t aP cP aw cw N w) (hw : Within w w' T) (hT : ∀ b, T b → N b ∧ w0.heap.size ≤ b ∧ b ≠ t.bT ∧ b ≠ t.oW ∧ b ≠ t.oD ∧ ¬ t.M P.length b) : Tab P ws w0 t aP cP aw cw N w' := by
  obtain ⟨l1, l2, l3, l4⟩ := h.lt
  have k1 := hw.block t.bT l1 (fun e => (hT _ e).2.2.1 rfl)
  have k2 := hw.block t.oW l2 (fun e => (hT _ e).2.2.2.1 rfl)
  have k3 := hw.block t.oD l3 (fun e => (hT _ e).2.2.2.2.1 rfl)
  have k4 : ∀ b, t.M P.length b → w'.heap[b]? = w.heap[b]? := fun b hm => hw.block b (l4 b hm) (fun e => (hT _ e).2.2.2.2.2 hm)
  obtain ⟨d, hd⟩ := h.known
  have mW : ∀ k, k < P.length → t.M P.length (t.bW k) := fun k hk => ⟨k, hk, .inl rfl⟩
  have mD : ∀ k, k < P.length → t.M P.length (t.bD k) := fun k hk => ⟨k, hk, .inr rfl⟩
  refine ⟨h.ok, hw.below h.low (fun b e => (hT b e).2.1), ⟨Nat.lt_of_lt_of_le l1 hw.size, Nat.lt_of_lt_of_le l2 hw.size, Nat.lt_of_lt_of_le l3 hw.size, fun b hm => Nat.lt_of_lt_of_le (l4 b hm) hw.size⟩, ?_, ?_, ?_, ?_, fun k hk => ?_, fun k hk => ?_, fun b hm i => ?_, d, fun k i hk hi => ⟨?_, ?_⟩⟩
  · rw [blk_cell k1]; exact h.c0
  · rw [blk_cell k1]; exact h.c1
  · rw [blk_cell k1]; exact h.c2
  · rw [blk_cell k1]; exact h.c3
  · rw [blk_cell k2]; exact h.rW k hk
  · rw [blk_cell k3]; exact h.rD k hk
  · rw [blk_frozen (k4 b hm)]; exact h.fr b hm i
  · rw [blk_cell (k4 _ (mD k hk))]; exact (hd k i hk hi).1
  · obtain ⟨u, hu, hr⟩ := (hd k i hk hi).2
    refine ⟨u, by rw [blk_cell (k4 _ (mW k hk))]; exact hu, fun e => (hr e).kept hw (fun b e => .inr (hT b e).1)⟩
theorem Tab.later (h : Tab P ws w0 t aP cP aw cw N w) (hb : Below w.heap.size w w') : Tab P ws w0 t aP cP aw cw N w' := h.kept (T := fun _ => False) (Within.of_below hb _) (fun _ e => e.elim)
theorem Tab.turn {N' : Nat → Prop} (h : Tab P ws w0 t aP cP aw cw N w) (hN : ∀ b, N' b → N b ∨ w.heap.size ≤ b) : Tab P ws w0 t aP cP aw cw N' w := by
  obtain ⟨d, hd⟩ := h.known
  exact ⟨h.ok, h.low, h.lt, h.c0, h.c1, h.c2, h.c3, h.rW, h.rD, h.fr, d, fun k i hk hi => ⟨(hd k i hk hi).1, by
    obtain ⟨u, hu, hr⟩ := (hd k i hk hi).2
    exact ⟨u, hu, fun e => (hr e).turn hN⟩⟩⟩
theorem set_within (w : World) (b o : Nat) (u : Value) {M : Nat → Prop} (h : M b) : Within w (w.setCell ⟨b, o, none⟩ u) M := Within.setCell (Within.refl _ _) _ _ h
/-- A row is put in. -/
theorem Tab.storeW (h : Tab P ws w0 t aP cP aw cw N w) {k i : Nat} (hk : k < P.length) {u : Value} (hu : RowV w (t.M P.length) N (vecL (way P ws k i) ws.length) u) : Tab P ws w0 t aP cP aw cw N (w.setCell ⟨t.bW k, i, none⟩ u) := by
  obtain ⟨l1, l2, l3, l4⟩ := h.lt
  obtain ⟨d, hd⟩ := h.known
  have mW : ∀ k, k < P.length → t.M P.length (t.bW k) := fun k hk => ⟨k, hk, .inl rfl⟩
  have mD : ∀ k, k < P.length → t.M P.length (t.bD k) := fun k hk => ⟨k, hk, .inr rfl⟩
  have hw : Within w (w.setCell ⟨t.bW k, i, none⟩ u) (t.M P.length) := set_within _ _ _ _ (mW k hk)
  have nT : t.bW k ≠ t.bT := fun e => h.ok.T (e ▸ mW k hk)
  have nW : t.bW k ≠ t.oW := fun e => h.ok.oW (e ▸ mW k hk)
  have nD : t.bW k ≠ t.oD := fun e => h.ok.oD (e ▸ mW k hk)
  refine ⟨h.ok, hw.below h.low (fun b hm => h.ok.base b hm), ⟨by simpa using l1, by simpa using l2, by simpa using l3, fun b hm => by simpa using l4 b hm⟩, ?_, ?_, ?_, ?_, fun k' hk' => ?_, fun k' hk' => ?_, fun b hm j => ?_, d, fun k' i' hk' hi' => ⟨?_, ?_⟩⟩
  · rw [cell_set_off (.inl nT)]; exact h.c0
  · rw [cell_set_off (.inl nT)]; exact h.c1
  · rw [cell_set_off (.inl nT)]; exact h.c2
  · rw [cell_set_off (.inl nT)]; exact h.c3
  · rw [cell_set_off (.inl nW)]; exact h.rW k' hk'
  · rw [cell_set_off (.inl nD)]; exact h.rD k' hk'
  · rw [World.frozen?_setCell]; exact h.fr b hm j
  · rw [cell_set_off (.inl (h.ok.wD k k' hk hk'))]; exact (hd k' i' hk' hi').1
  · obtain ⟨u', hu', hr'⟩ := (hd k' i' hk' hi').2
    by_cases e : k = k' ∧ i = i'
    · obtain ⟨rfl, rfl⟩ := e
      exact ⟨u, cell_set hu', fun _ => hu.kept hw (fun _ e => .inl e)⟩
    · refine ⟨u', ?_, fun e2 => (hr' e2).kept hw (fun _ e => .inl e)⟩
      rw [cell_set_off (by
        by_cases e2 : k = k'
        · exact .inr (fun e3 => e ⟨e2, e3⟩)
        · exact .inl (fun e3 => e2 (h.ok.wW k k' hk hk' e3)))]
      exact hu'
/-- It is told that it is there. -/
theorem Tab.storeD (h : Tab P ws w0 t aP cP aw cw N w) {k i : Nat} (hk : k < P.length) {u : Value} (hc : w.cell? ⟨t.bW k, i, none⟩ = some u) (hu : RowV w (t.M P.length) N (vecL (way P ws k i) ws.length) u) : Tab P ws w0 t aP cP aw cw N (w.setCell ⟨t.bD k, i, none⟩ (.bool true)) := by
  obtain ⟨l1, l2, l3, l4⟩ := h.lt
  obtain ⟨d, hd⟩ := h.known
  have mW : ∀ k, k < P.length → t.M P.length (t.bW k) := fun k hk => ⟨k, hk, .inl rfl⟩
  have mD : ∀ k, k < P.length → t.M P.length (t.bD k) := fun k hk => ⟨k, hk, .inr rfl⟩
  have hw : Within w (w.setCell ⟨t.bD k, i, none⟩ (.bool true)) (t.M P.length) := set_within _ _ _ _ (mD k hk)
  have nT : t.bD k ≠ t.bT := fun e => h.ok.T (e ▸ mD k hk)
  have nW : t.bD k ≠ t.oW := fun e => h.ok.oW (e ▸ mD k hk)
  have nD : t.bD k ≠ t.oD := fun e => h.ok.oD (e ▸ mD k hk)
  refine ⟨h.ok, hw.below h.low (fun b hm => h.ok.base b hm), ⟨by simpa using l1, by simpa using l2, by simpa using l3, fun b hm => by simpa using l4 b hm⟩, ?_, ?_, ?_, ?_, fun k' hk' => ?_, fun k' hk' => ?_, fun b hm j => ?_, (fun k' i' => if k' = k ∧ i' = i then true else d k' i'), fun k' i' hk' hi' => ?_⟩
  · rw [cell_set_off (.inl nT)]; exact h.c0
  · rw [cell_set_off (.inl nT)]; exact h.c1
  · rw [cell_set_off (.inl nT)]; exact h.c2
  · rw [cell_set_off (.inl nT)]; exact h.c3
  · rw [cell_set_off (.inl nW)]; exact h.rW k' hk'
  · rw [cell_set_off (.inl nD)]; exact h.rD k' hk'
  · rw [World.frozen?_setCell]; exact h.fr b hm j
  · have hd' := hd k' i' hk' hi'
    by_cases e : k' = k ∧ i' = i
    · obtain ⟨rfl, rfl⟩ := e
      refine ⟨?_, u, ?_, fun _ => hu.kept hw (fun _ e => .inl e)⟩
      · simp only [and_self, if_true]; exact cell_set hd'.1
      · rw [cell_set_off (.inl (fun e2 => h.ok.wD k' k' hk hk e2.symm))]; exact hc
    · obtain ⟨u', hu', hr'⟩ := hd'.2
      simp only [if_neg e]
      refine ⟨?_, u', ?_, fun e2 => (hr' e2).kept hw (fun _ e => .inl e)⟩
      · rw [cell_set_off (by
          by_cases e2 : k = k'
          · exact .inr (fun e3 => e ⟨e2.symm, e3.symm⟩)
          · exact .inl (fun e3 => e2 (h.ok.dD k k' hk hk' e3)))]
        exact hd'.1
      · rw [cell_set_off (.inl (fun e2 => h.ok.wD k' k hk' hk e2.symm))]; exact hu'
end
/-- What a step over the table comes to. -/
def GoPost (P : List (List (List Int))) (ws : List Int) (w0 : World) (t : TP) (aP : Option Addr) (cP : Nat) (aw : Option Addr) (cw : Nat) (N : Nat → Prop) (w : World) (v : Nat → Nat) (e : Ending) (w' : World) : Prop :=
  ∃ b c, e = .returned (.slice (some ⟨b, 0, none⟩) (ws.length + 1) c) ∧ ¬ t.M P.length b ∧ ¬ N b ∧ b < w'.heap.size ∧ Reads w' (some ⟨b, 0, none⟩) (vecL v ws.length) ∧ Tab P ws w0 t aP cP aw cw N w' ∧ Within w w' (t.M P.length)
end Go.Proofs.YthnppodnjokaoaaGreatDoor
namespace Go.Proofs.YthnppodnjokaoaaGreatDoor
open Go.RowKit

theorem made_get (n i : Nat) (h : i < n) : (madeCells #[Value.int .i64 0] n)[i]? = some (.int .i64 0) := by
  have e := toList_madeCells_one (.int .i64 0) n
  have : (madeCells #[Value.int .i64 0] n).toList[i]? = some (.int .i64 0) := by rw [e]; simp [h]
  simpa using this

set_option maxHeartbeats 1000000 in
set_option maxRecDepth 100000 in
theorem l7At_any (bT : Nat) (aw : Option Addr) (cw : Nat) (n i : Nat) (w : World) (hn : n ≤ 10) (hi : i ≤ n) (c1 : w.cell? ⟨bT, 1, none⟩ = some (.slice aw n cw)) :
    Calls Tryz.prog 38 #[.pointer (some ⟨bT, 0, none⟩), .int .i64 (i : Int)] w fun e w' => e = .returned (.slice (some ⟨w.heap.size, 0, none⟩) (n + 1) (n + 1)) ∧ w.heap.size < w'.heap.size ∧ Reads w' (some ⟨w.heap.size, 0, none⟩) (vecL (deltaV i) n) ∧ Below w.heap.size w w' := by
  have hmk := fun wx => run_make_row' (P := Tryz.prog) 25 3 (.int .i64 0) 8 Tryz.underlying25 Tryz.infoInt rfl .i64 .i64 (n + 1) (by omega) (by omega) wx
  rw [show ((n + 1 : Nat) : Int) = (n : Int) + 1 from rfl] at hmk
  have hmc := made_get (n + 1) i (by omega)
  have hi2 : (i : Int) < (n : Int) + 1 := by omega
  go_enter Tryz.func38, Tryz.ntmps38
  go_wp2
  go_ret
  refine ⟨rfl, by simp, ?_, (Below.refl _ _).alloc (Nat.le_refl _) _⟩
  refine .inr ⟨w.heap.size, 0, rfl, by simp, fun j hj => ?_⟩
  rw [vecL_length] at hj
  have h0 := made_get (n + 1) j hj
  have hk : (w.alloc (.cells ((madeCells #[Value.int .i64 0] (n + 1)).setIfInBounds i (.int .i64 1)) 3)).cell? ⟨w.heap.size, j, none⟩ = ((madeCells #[Value.int .i64 0] (n + 1)).setIfInBounds i (.int .i64 1))[j]? := by simp
  rw [vecL_get _ _ (by omega), Nat.zero_add, hk, Array.getElem?_setIfInBounds]
  unfold deltaV
  by_cases e : i = j
  · subst e
    rw [if_pos rfl, if_pos (by rw [size_madeCells]; exact hj), if_pos rfl]; rfl
  · rw [if_neg e, if_neg (fun h => e h.symm), h0]; rfl
end Go.Proofs.YthnppodnjokaoaaGreatDoor
namespace Go.Proofs.YthnppodnjokaoaaGreatDoor
open Go.RowKit

/-- Where it lies. -/
structure FP where
  bS : Nat
  oF : Nat
  oD : Nat
  cF : Nat
  cD : Nat
  bF : Nat → Nat
  bD : Nat → Nat
/-- Its rows' blocks: they alone turn. -/
def FP.M (f : FP) (K : Nat) (b : Nat) : Prop := ∃ k, k < K ∧ (b = f.bF k ∨ b = f.bD k)
structure FPOk (f : FP) (t : TP) (K base : Nat) : Prop where
  fF : ∀ i j, i < K → j < K → f.bF i = f.bF j → i = j
  dD : ∀ i j, i < K → j < K → f.bD i = f.bD j → i = j
  fD : ∀ i j, i < K → j < K → f.bF i ≠ f.bD j
  S : ¬ f.M K f.bS
  oF : ¬ f.M K f.oF
  oD : ¬ f.M K f.oD
  base : ∀ b, f.M K b → base ≤ b
  off : ∀ b, t.M K b → ¬ f.M K b ∧ b ≠ f.bS ∧ b ≠ f.oF ∧ b ≠ f.oD
  offT : ∀ b, f.M K b → b ≠ t.bT ∧ b ≠ t.oW ∧ b ≠ t.oD

section
variable (P : List (List (List Int))) (ws : List Int) (w0 : World) (t : TP) (f : FP)
structure FarT (w : World) : Prop where
  ok : FPOk f t P.length w0.heap.size
  lt : f.bS < w.heap.size ∧ f.oF < w.heap.size ∧ f.oD < w.heap.size ∧ ∀ b, f.M P.length b → b < w.heap.size
  c0 : w.cell? ⟨f.bS, 0, none⟩ = some (.pointer (some ⟨t.bT, 0, none⟩))
  c1 : w.cell? ⟨f.bS, 1, none⟩ = some (.slice (some ⟨f.oF, 0, none⟩) P.length f.cF)
  c2 : w.cell? ⟨f.bS, 2, none⟩ = some (.slice (some ⟨f.oD, 0, none⟩) P.length f.cD)
  rF : ∀ k, k < P.length → w.cell? ⟨f.oF, k, none⟩ = some (.slice (some ⟨f.bF k, 0, none⟩) (ws.length + 1) (ws.length + 1))
  rD : ∀ k, k < P.length → w.cell? ⟨f.oD, k, none⟩ = some (.slice (some ⟨f.bD k, 0, none⟩) (ws.length + 1) (ws.length + 1))
  fr : ∀ b, f.M P.length b → ∀ i, w.frozen? ⟨b, i, none⟩ = false
  known : ∃ (d : Nat → Nat → Bool) (v : Nat → Nat → Nat), ∀ k i, k < P.length → i ≤ ws.length → w.cell? ⟨f.bD k, i, none⟩ = some (.bool (d k i)) ∧ w.cell? ⟨f.bF k, i, none⟩ = some (.int .i64 (v k i : Int)) ∧ (d k i = true → v k i = farP P ws k i)
end
section
variable {P : List (List (List Int))} {ws : List Int} {w0 : World} {t : TP} {f : FP} {w w' : World}
theorem FP.mF (f : FP) {K k : Nat} (h : k < K) : f.M K (f.bF k) := ⟨k, h, .inl rfl⟩
theorem FP.mD (f : FP) {K k : Nat} (h : k < K) : f.M K (f.bD k) := ⟨k, h, .inr rfl⟩
/-- What is elsewhere turns nothing here. -/
theorem FarT.kept {T : Nat → Prop} (h : FarT P ws w0 t f w) (hw : Within w w' T) (hT : ∀ b, T b → b ≠ f.bS ∧ b ≠ f.oF ∧ b ≠ f.oD ∧ ¬ f.M P.length b) : FarT P ws w0 t f w' := by
  obtain ⟨l1, l2, l3, l4⟩ := h.lt
  have k1 := hw.block f.bS l1 (fun e => (hT _ e).1 rfl)
  have k2 := hw.block f.oF l2 (fun e => (hT _ e).2.1 rfl)
  have k3 := hw.block f.oD l3 (fun e => (hT _ e).2.2.1 rfl)
  have k4 : ∀ b, f.M P.length b → w'.heap[b]? = w.heap[b]? := fun b hm => hw.block b (l4 b hm) (fun e => (hT _ e).2.2.2 hm)
  obtain ⟨d, v, hd⟩ := h.known
  refine ⟨h.ok, ⟨Nat.lt_of_lt_of_le l1 hw.size, Nat.lt_of_lt_of_le l2 hw.size, Nat.lt_of_lt_of_le l3 hw.size, fun b hm => Nat.lt_of_lt_of_le (l4 b hm) hw.size⟩, ?_, ?_, ?_, fun k hk => ?_, fun k hk => ?_, fun b hm i => ?_, d, v, fun k i hk hi => ⟨?_, ?_, (hd k i hk hi).2.2⟩⟩
  · rw [blk_cell k1]; exact h.c0
  · rw [blk_cell k1]; exact h.c1
  · rw [blk_cell k1]; exact h.c2
  · rw [blk_cell k2]; exact h.rF k hk
  · rw [blk_cell k3]; exact h.rD k hk
  · rw [blk_frozen (k4 b hm)]; exact h.fr b hm i
  · rw [blk_cell (k4 _ (f.mD hk))]; exact (hd k i hk hi).1
  · rw [blk_cell (k4 _ (f.mF hk))]; exact (hd k i hk hi).2.1
theorem FarT.later (h : FarT P ws w0 t f w) (hb : Below w.heap.size w w') : FarT P ws w0 t f w' := h.kept (T := fun _ => False) (Within.of_below hb _) (fun _ e => e.elim)
/-- A step over the table of ways turns nothing here. -/
theorem FarT.ways (h : FarT P ws w0 t f w) (hw : Within w w' (t.M P.length)) : FarT P ws w0 t f w' := h.kept hw (fun b e => ⟨(h.ok.off b e).2.1, (h.ok.off b e).2.2.1, (h.ok.off b e).2.2.2, (h.ok.off b e).1⟩)
/-- A number is put in. -/
theorem FarT.storeF (h : FarT P ws w0 t f w) {k i : Nat} (hk : k < P.length) : FarT P ws w0 t f (w.setCell ⟨f.bF k, i, none⟩ (.int .i64 (farP P ws k i : Int))) := by
  obtain ⟨l1, l2, l3, l4⟩ := h.lt
  obtain ⟨d, v, hd⟩ := h.known
  have nS : f.bF k ≠ f.bS := fun e => h.ok.S (e ▸ f.mF hk)
  have nF : f.bF k ≠ f.oF := fun e => h.ok.oF (e ▸ f.mF hk)
  have nD : f.bF k ≠ f.oD := fun e => h.ok.oD (e ▸ f.mF hk)
  refine ⟨h.ok, ⟨by simpa using l1, by simpa using l2, by simpa using l3, fun b hm => by simpa using l4 b hm⟩, ?_, ?_, ?_, fun k' hk' => ?_, fun k' hk' => ?_, fun b hm j => ?_, d, (fun k' i' => if k' = k ∧ i' = i then farP P ws k i else v k' i'), fun k' i' hk' hi' => ⟨?_, ?_, ?_⟩⟩
  · rw [cell_set_off (.inl nS)]; exact h.c0
  · rw [cell_set_off (.inl nS)]; exact h.c1
  · rw [cell_set_off (.inl nS)]; exact h.c2
  · rw [cell_set_off (.inl nF)]; exact h.rF k' hk'
  · rw [cell_set_off (.inl nD)]; exact h.rD k' hk'
  · rw [World.frozen?_setCell]; exact h.fr b hm j
  · rw [cell_set_off (.inl (h.ok.fD k k' hk hk'))]; exact (hd k' i' hk' hi').1
  · have hv := (hd k' i' hk' hi').2.1
    by_cases e : k' = k ∧ i' = i
    · obtain ⟨rfl, rfl⟩ := e
      simp only [and_self, if_true]; exact cell_set hv
    · simp only [if_neg e]
      rw [cell_set_off (by
        by_cases e2 : k = k'
        · exact .inr (fun e3 => e ⟨e2.symm, e3.symm⟩)
        · exact .inl (fun e3 => e2 (h.ok.fF k k' hk hk' e3)))]
      exact hv
  · intro g
    by_cases e : k' = k ∧ i' = i
    · obtain ⟨rfl, rfl⟩ := e
      simp only [and_self, if_true]
    · simp only [if_neg e]; exact (hd k' i' hk' hi').2.2 g
/-- It is told that it is there. -/
theorem FarT.storeD (h : FarT P ws w0 t f w) {k i : Nat} (hk : k < P.length) (hc : w.cell? ⟨f.bF k, i, none⟩ = some (.int .i64 (farP P ws k i : Int))) : FarT P ws w0 t f (w.setCell ⟨f.bD k, i, none⟩ (.bool true)) := by
  obtain ⟨l1, l2, l3, l4⟩ := h.lt
  obtain ⟨d, v, hd⟩ := h.known
  have nS : f.bD k ≠ f.bS := fun e => h.ok.S (e ▸ f.mD hk)
  have nF : f.bD k ≠ f.oF := fun e => h.ok.oF (e ▸ f.mD hk)
  have nD : f.bD k ≠ f.oD := fun e => h.ok.oD (e ▸ f.mD hk)
  refine ⟨h.ok, ⟨by simpa using l1, by simpa using l2, by simpa using l3, fun b hm => by simpa using l4 b hm⟩, ?_, ?_, ?_, fun k' hk' => ?_, fun k' hk' => ?_, fun b hm j => ?_, (fun k' i' => if k' = k ∧ i' = i then true else d k' i'), v, fun k' i' hk' hi' => ⟨?_, ?_, ?_⟩⟩
  · rw [cell_set_off (.inl nS)]; exact h.c0
  · rw [cell_set_off (.inl nS)]; exact h.c1
  · rw [cell_set_off (.inl nS)]; exact h.c2
  · rw [cell_set_off (.inl nF)]; exact h.rF k' hk'
  · rw [cell_set_off (.inl nD)]; exact h.rD k' hk'
  · rw [World.frozen?_setCell]; exact h.fr b hm j
  · have hb := (hd k' i' hk' hi').1
    by_cases e : k' = k ∧ i' = i
    · obtain ⟨rfl, rfl⟩ := e
      simp only [and_self, if_true]; exact cell_set hb
    · simp only [if_neg e]
      rw [cell_set_off (by
        by_cases e2 : k = k'
        · exact .inr (fun e3 => e ⟨e2.symm, e3.symm⟩)
        · exact .inl (fun e3 => e2 (h.ok.dD k k' hk hk' e3)))]
      exact hb
  · rw [cell_set_off (.inl (fun e2 => h.ok.fD k' k hk' hk e2.symm))]; exact (hd k' i' hk' hi').2.1
  · intro g
    by_cases e : k' = k ∧ i' = i
    · obtain ⟨rfl, rfl⟩ := e
      have h1 := (hd k' i' hk' hi').2.1
      rw [hc] at h1
      injection h1 with h1
      injection h1 with _ h1
      omega
    · simp only [if_neg e] at g; exact (hd k' i' hk' hi').2.2 g
end
section
variable {P : List (List (List Int))} {ws : List Int} {w0 : World} {t : TP} {f : FP} {aP : Option Addr} {cP : Nat} {aw : Option Addr} {cw : Nat} {w w' : World}
/-- A store into the one table turns nothing in the other. -/
theorem Tab.far (h : Tab P ws w0 t aP cP aw cw (f.M P.length) w) (hf : FPOk f t P.length w0.heap.size) (hw : Within w w' (f.M P.length)) : Tab P ws w0 t aP cP aw cw (f.M P.length) w' :=
  h.kept hw (fun b e => ⟨e, hf.base b e, (hf.offT b e).1, (hf.offT b e).2.1, (hf.offT b e).2.2, fun g => (hf.off b g).1 e⟩)
end
/-- Both tables. -/
structure Two (P : List (List (List Int))) (ws : List Int) (w0 : World) (t : TP) (f : FP) (aP : Option Addr) (cP : Nat) (aw : Option Addr) (cw : Nat) (w : World) : Prop where
  tab : Tab P ws w0 t aP cP aw cw (f.M P.length) w
  far : FarT P ws w0 t f w
/-- What may turn in a step over both. -/
def TwoM (t : TP) (f : FP) (K : Nat) (b : Nat) : Prop := t.M K b ∨ f.M K b
section
variable {P : List (List (List Int))} {ws : List Int} {w0 : World} {t : TP} {f : FP} {aP : Option Addr} {cP : Nat} {aw : Option Addr} {cw : Nat} {w w' : World}
theorem Two.later (h : Two P ws w0 t f aP cP aw cw w) (hb : Below w.heap.size w w') : Two P ws w0 t f aP cP aw cw w' := ⟨h.tab.later hb, h.far.later hb⟩
theorem Two.ways (h : Two P ws w0 t f aP cP aw cw w) (hT : Tab P ws w0 t aP cP aw cw (f.M P.length) w') (hw : Within w w' (t.M P.length)) : Two P ws w0 t f aP cP aw cw w' := ⟨hT, h.far.ways hw⟩
theorem Two.storeF (h : Two P ws w0 t f aP cP aw cw w) {k i : Nat} (hk : k < P.length) : Two P ws w0 t f aP cP aw cw (w.setCell ⟨f.bF k, i, none⟩ (.int .i64 (farP P ws k i : Int))) := ⟨h.tab.far h.far.ok (set_within _ _ _ _ (f.mF hk)), h.far.storeF hk⟩
theorem Two.storeD (h : Two P ws w0 t f aP cP aw cw w) {k i : Nat} (hk : k < P.length) (hc : w.cell? ⟨f.bF k, i, none⟩ = some (.int .i64 (farP P ws k i : Int))) : Two P ws w0 t f aP cP aw cw (w.setCell ⟨f.bD k, i, none⟩ (.bool true)) := ⟨h.tab.far h.far.ok (set_within _ _ _ _ (f.mD hk)), h.far.storeD hk hc⟩
end
/-- What l8Part and l8Row come to: a number, and both tables still. -/
def FarPost (P : List (List (List Int))) (ws : List Int) (w0 : World) (t : TP) (f : FP) (aP : Option Addr) (cP : Nat) (aw : Option Addr) (cw : Nat) (w : World) (n : Nat) (e : Ending) (w' : World) : Prop :=
  e = .returned (.int .i64 (n : Int)) ∧ Two P ws w0 t f aP cP aw cw w' ∧ Within w w' (TwoM t f P.length)
end Go.Proofs.YthnppodnjokaoaaGreatDoor
namespace Go.Proofs.YthnppodnjokaoaaGreatDoor
open Go.RowKit

section
variable (st : Nat → List Int → List Bool → List Bool)
def leI (k : Nat) (Q : List (List Int)) (T : List Bool) : Nat → List Bool
  | 0 => T
  | i + 1 => st k (Q.getD i []) (leI k Q T i)
def leK (P : List (List (List Int))) (T : List Bool) : Nat → List Bool
  | 0 => T
  | k + 1 => leI st k (P.getD k []) (leK P T k) (P.getD k []).length
/-- What holds at the start and is kept by each row's step holds of T. -/
def Grows (P : List (List (List Int))) (T0 T : List Bool) : Prop := ∀ I : List Bool → Prop, I T0 → (∀ k (hk : k < P.length) i (hi : i < P[k].length) T, I T → I (st k P[k][i] T)) → I T
end
variable {st : Nat → List Int → List Bool → List Bool}
theorem leI_next {k i : Nat} {Q : List (List Int)} {T : List Bool} (h : i < Q.length) : leI st k Q T (i + 1) = st k Q[i] (leI st k Q T i) := by
  have e : Q.getD i [] = Q[i] := by simp [List.getD, h]
  rw [leI, e]
theorem leK_next {P : List (List (List Int))} {T : List Bool} {k : Nat} (h : k < P.length) : leK st P T (k + 1) = leI st k P[k] (leK st P T k) P[k].length := by
  have e : P.getD k [] = P[k] := by simp [List.getD, h]
  rw [leK, e]
theorem Grows.refl (P : List (List (List Int))) (T : List Bool) : Grows st P T T := fun _ h _ => h
theorem Grows.leI {P : List (List (List Int))} {T0 T : List Bool} (h : Grows st P T0 T) {k : Nat} (hk : k < P.length) (i : Nat) (hi : i ≤ P[k].length) : Grows st P T0 (leI st k P[k] T i) := by
  intro I h0 hS
  induction i with
  | zero => exact h I h0 hS
  | succ i ih => rw [leI_next (by omega)]; exact hS k hk i (by omega) _ (ih (by omega))
theorem Grows.leK {P : List (List (List Int))} {T0 T : List Bool} (h : Grows st P T0 T) (k : Nat) (hk : k ≤ P.length) : Grows st P T0 (leK st P T k) := by
  induction k with
  | zero => exact h
  | succ k ih => rw [leK_next (by omega)]; exact (ih (by omega)).leI (by omega) _ (Nat.le_refl _)
/-- Steps that leave as it was or raise a flag. -/
def Raises (st : Nat → List Int → List Bool → List Bool) (P : List (List (List Int))) (n : Nat) : Prop := ∀ k (hk : k < P.length) i (hi : i < P[k].length) (T : List Bool), T.length = n → (st k P[k][i] T).length = n ∧ (st k P[k][i] T = T ∨ cntB T < cntB (st k P[k][i] T))
theorem Raises.leI {P : List (List (List Int))} {n : Nat} (h : Raises st P n) {k : Nat} (hk : k < P.length) {T : List Bool} (hT : T.length = n) (i : Nat) (hi : i ≤ P[k].length) : (leI st k P[k] T i).length = n ∧ (leI st k P[k] T i = T ∨ cntB T < cntB (leI st k P[k] T i)) := by
  induction i with
  | zero => exact ⟨hT, .inl rfl⟩
  | succ i ih =>
    have h1 := ih (by omega)
    have h2 := h k hk i (by omega) _ h1.1
    rw [leI_next (by omega)]
    refine ⟨h2.1, ?_⟩
    rcases h1.2 with e1 | e1
    · rcases h2.2 with e2 | e2
      · left; rw [e2]; exact e1
      · right; rw [e1] at e2 ⊢; exact e2
    · rcases h2.2 with e2 | e2
      · right; rw [e2]; exact e1
      · right; omega
theorem Raises.leK {P : List (List (List Int))} {n : Nat} (h : Raises st P n) {T : List Bool} (hT : T.length = n) (k : Nat) (hk : k ≤ P.length) : (leK st P T k).length = n ∧ (leK st P T k = T ∨ cntB T < cntB (leK st P T k)) := by
  induction k with
  | zero => exact ⟨hT, .inl rfl⟩
  | succ k ih =>
    have h1 := ih (by omega)
    have h2 := h.leI (k := k) (by omega) h1.1 _ (Nat.le_refl _)
    rw [leK_next (by omega)]
    refine ⟨h2.1, ?_⟩
    rcases h1.2 with e1 | e1
    · rcases h2.2 with e2 | e2
      · left; rw [e2]; exact e1
      · right; rw [e1] at e2 ⊢; exact e2
    · rcases h2.2 with e2 | e2
      · right; rw [e2]; exact e1
      · right; omega
/-- Where a round brings nothing new, no row's step does. -/
theorem Raises.fix {P : List (List (List Int))} {n : Nat} (h : Raises st P n) {T : List Bool} (hT : T.length = n) (e : Go.Proofs.YthnppodnjokaoaaGreatDoor.leK st P T P.length = T) {k : Nat} (hk : k < P.length) {i : Nat} (hi : i < P[k].length) : st k P[k][i] T = T := by
  have stepK : ∀ j, j < P.length → Go.Proofs.YthnppodnjokaoaaGreatDoor.leK st P T (j + 1) = Go.Proofs.YthnppodnjokaoaaGreatDoor.leK st P T j ∨ cntB (Go.Proofs.YthnppodnjokaoaaGreatDoor.leK st P T j) < cntB (Go.Proofs.YthnppodnjokaoaaGreatDoor.leK st P T (j + 1)) := by
    intro j hj
    rw [leK_next hj]
    exact (h.leI hj (h.leK hT j (by omega)).1 _ (Nat.le_refl _)).2
  have hK := steps_fix (m := cntB) (f := fun j => Go.Proofs.YthnppodnjokaoaaGreatDoor.leK st P T (min j P.length)) (fun j => by
    by_cases hj : j < P.length
    · have e1 : min (j + 1) P.length = j + 1 := by omega
      have e2 : min j P.length = j := by omega
      show Go.Proofs.YthnppodnjokaoaaGreatDoor.leK st P T (min (j + 1) P.length) = _ ∨ _
      rw [e1, e2]; exact stepK j hj
    · left
      have e1 : min (j + 1) P.length = P.length := by omega
      have e2 : min j P.length = P.length := by omega
      show Go.Proofs.YthnppodnjokaoaaGreatDoor.leK st P T (min (j + 1) P.length) = _
      rw [e1, e2]) (n := P.length) (by
      show Go.Proofs.YthnppodnjokaoaaGreatDoor.leK st P T (min P.length P.length) = Go.Proofs.YthnppodnjokaoaaGreatDoor.leK st P T (min 0 P.length)
      rw [Nat.min_self, Nat.zero_min]; exact e)
  have kk : ∀ j, j ≤ P.length → Go.Proofs.YthnppodnjokaoaaGreatDoor.leK st P T j = T := by
    intro j hj
    have := hK j hj
    have e1 : min j P.length = j := by omega
    have e2 : min 0 P.length = 0 := by omega
    simp only [e1, e2] at this
    exact this
  have e1 : Go.Proofs.YthnppodnjokaoaaGreatDoor.leI st k P[k] T P[k].length = T := by
    have := leK_next (st := st) (T := T) hk
    rw [kk (k + 1) (by omega), kk k (by omega)] at this
    exact this.symm
  have hI := steps_fix (m := cntB) (f := fun j => Go.Proofs.YthnppodnjokaoaaGreatDoor.leI st k P[k] T (min j P[k].length)) (fun j => by
    by_cases hj : j < P[k].length
    · have e1 : min (j + 1) P[k].length = j + 1 := by omega
      have e2 : min j P[k].length = j := by omega
      show Go.Proofs.YthnppodnjokaoaaGreatDoor.leI st k P[k] T (min (j + 1) P[k].length) = _ ∨ _
      rw [e1, e2, leI_next hj]; exact (h k hk j hj _ (h.leI hk hT j (by omega)).1).2
    · left
      have e1 : min (j + 1) P[k].length = P[k].length := by omega
      have e2 : min j P[k].length = P[k].length := by omega
      show Go.Proofs.YthnppodnjokaoaaGreatDoor.leI st k P[k] T (min (j + 1) P[k].length) = _
      rw [e1, e2]) (n := P[k].length) (by
      show Go.Proofs.YthnppodnjokaoaaGreatDoor.leI st k P[k] T (min P[k].length P[k].length) = Go.Proofs.YthnppodnjokaoaaGreatDoor.leI st k P[k] T (min 0 P[k].length)
      rw [Nat.min_self, Nat.zero_min]; exact e1)
  have ii : ∀ j, j ≤ P[k].length → Go.Proofs.YthnppodnjokaoaaGreatDoor.leI st k P[k] T j = T := by
    intro j hj
    have := hI j hj
    have e1 : min j P[k].length = j := by omega
    have e2 : min 0 P[k].length = 0 := by omega
    simp only [e1, e2] at this
    exact this
  have := ii (i + 1) (by omega)
  rw [leI_next hi, ii i (by omega)] at this
  exact this
/-- The flags of a set of numbers; of sets of such. -/
def flagsOf (E : List Int) : List Bool := (List.range 27).map fun (n : Nat) => hasL E (n : Int)
theorem flagsOf_length (E : List Int) : (flagsOf E).length = 27 := by simp [flagsOf]
theorem flagsOf_get (E : List Int) {n : Nat} (h : n < 27) : (flagsOf E).getD n false = hasL E (n : Int) := by simp [flagsOf, List.getD, h]
/-- One row's step of emptiesOf. -/
def emS (allB : List Bool → List Int → Bool) (k : Nat) (row : List Int) (T : List Bool) : List Bool := bstep T (k, fun b => allB b row)
end Go.Proofs.YthnppodnjokaoaaGreatDoor
namespace Go.Proofs.YthnppodnjokaoaaGreatDoor
open Go.RowKit

/-- The parts that stand in a grammar are its own. -/
def SymsIn (P : List (List (List Int))) : Prop := ∀ alts ∈ P, ∀ row ∈ alts, ∀ z ∈ row, 100 ≤ z → z - 100 < P.length
theorem SymsIn.of {P : List (List (List Int))} (hok : gramOkB P = true) : SymsIn P := by
  intro alts h1 row h2 z h3 h4
  simp only [gramOkB, Bool.and_eq_true, List.all_eq_true, partOk, rowOk, decide_eq_true_eq] at hok
  have := symOk_true.1 (((hok.2 alts h1).2 row h2).2 z h3)
  omega
theorem all_steps {f : Nat → List Int} (h : ∀ i, f (i + 1) = f i ∨ (f i).length < (f (i + 1)).length) (i : Nat) : f i = f 0 ∨ (f 0).length < (f i).length := by
  induction i with
  | zero => exact .inl rfl
  | succ i ih =>
    rcases h i with h1 | h1
    · rw [h1]; exact ih
    · rcases ih with ih | ih
      · rw [ih] at h1; exact .inr h1
      · exact .inr (by omega)
theorem reachJ_step (R E : List Int) (j : Nat) : reachJ R E (j + 1) = reachJ R E j ∨ (reachJ R E j).length < (reachJ R E (j + 1)).length := by
  rw [reachJ]
  split
  · exact addL_same_or _ _
  · exact .inl rfl
theorem reachI_step (Q : List (List Int)) (E : List Int) (i : Nat) : reachI Q E (i + 1) = reachI Q E i ∨ (reachI Q E i).length < (reachI Q E (i + 1)).length := by
  rw [reachI]; exact all_steps (f := reachJ _ (reachI Q E i)) (reachJ_step _ _) _
theorem reachK_step (P : List (List (List Int))) (E : List Int) (k : Nat) : reachK P E (k + 1) = reachK P E k ∨ (reachK P E k).length < (reachK P E (k + 1)).length := by
  rw [reachK]
  split
  · exact all_steps (f := reachI _ (reachK P E k)) (reachI_step _ _) _
  · exact .inl rfl
theorem reachT_step (P : List (List (List Int))) (t : Nat) : reachT P (t + 1) = reachT P t ∨ (reachT P t).length < (reachT P (t + 1)).length := by
  rw [reachT]; exact all_steps (f := reachK P (reachT P t)) (reachK_step _ _) _
section
variable {P : List (List (List Int))} {S : List Int → Prop}
/-- What holds of the beginning and is kept where a part that may be reached is put in, holds at the end. -/
theorem reachT_keeps (h0 : S [0]) (hS : ∀ k (hk : k < P.length) i (hi : i < P[k].length) j (hj : j < P[k][i].length) (E : List Int), S E → (k : Int) ∈ E → 100 ≤ P[k][i][j] → S (addL E (P[k][i][j] - 100))) (t : Nat) : S (reachT P t) := by
  have sJ : ∀ k (hk : k < P.length) i (hi : i < P[k].length) E, S E → (k : Int) ∈ E → ∀ j, j ≤ P[k][i].length → S (reachJ P[k][i] E j) ∧ (k : Int) ∈ reachJ P[k][i] E j := by
    intro k hk i hi E hE hm j
    induction j with
    | zero => exact fun _ => ⟨hE, hm⟩
    | succ j ih =>
      intro hj
      obtain ⟨h1, h2⟩ := ih (by omega)
      by_cases g : 100 ≤ P[k][i][j]
      · rw [reachJ_yes (by omega) g]
        exact ⟨hS k hk i hi j (by omega) _ h1 h2 g, mem_addL.2 (.inr h2)⟩
      · rw [reachJ_no (by omega) g]; exact ⟨h1, h2⟩
  have sI : ∀ k (hk : k < P.length) E, S E → (k : Int) ∈ E → ∀ i, i ≤ P[k].length → S (reachI P[k] E i) ∧ (k : Int) ∈ reachI P[k] E i := by
    intro k hk E hE hm i
    induction i with
    | zero => exact fun _ => ⟨hE, hm⟩
    | succ i ih =>
      intro hi
      obtain ⟨h1, h2⟩ := ih (by omega)
      rw [reachI_next (by omega)]
      exact sJ k hk i (by omega) _ h1 h2 _ (Nat.le_refl _)
  have sK : ∀ E, S E → ∀ k, k ≤ P.length → S (reachK P E k) := by
    intro E hE k
    induction k with
    | zero => exact fun _ => hE
    | succ k ih =>
      intro hk
      have h1 := ih (by omega)
      cases g : hasL (reachK P E k) k
      · rw [reachK_no g]; exact h1
      · rw [reachK_yes (by omega) g]
        exact (sI k (by omega) _ h1 (by simpa [hasL] using g) _ (Nat.le_refl _)).1
  induction t with
  | zero => exact h0
  | succ t ih => rw [reachT]; exact sK _ ih _ (Nat.le_refl _)
end
theorem reachT_setB {P : List (List (List Int))} (h : SymsIn P) (hp : 0 < P.length) (t : Nat) : SetB (P.length : Int) (reachT P t) := by
  refine reachT_keeps (S := SetB (P.length : Int)) ⟨by simp, fun x hx => by simp at hx; subst hx; omega⟩ (fun k hk i hi j hj E hE _ g => hE.add (by omega) ?_) t
  exact h _ (List.getElem_mem hk) _ (List.getElem_mem hi) _ (List.getElem_mem hj) g
theorem reachT_sorted (P : List (List (List Int))) (t : Nat) : (reachT P t).Pairwise (· < ·) :=
  reachT_keeps (S := List.Pairwise (· < ·)) (by simp) (fun _ _ _ _ _ _ _ hE _ _ => pair_addL hE) t
theorem reachT_sound {P : List (List (List Int))} {S : Int → Prop} (h0 : S 0) (hS : ∀ k (hk : k < P.length) i (hi : i < P[k].length) j (hj : j < P[k][i].length), S k → 100 ≤ P[k][i][j] → S (P[k][i][j] - 100)) (t : Nat) : ∀ x ∈ reachT P t, S x :=
  reachT_keeps (S := fun E => ∀ x ∈ E, S x) (fun x hx => by simp at hx; subst hx; exact h0) (fun k hk i hi j hj E hE hm g x hx => by
    rcases mem_addL.1 hx with rfl | hx
    · exact hS k hk i hi j hj (hE _ hm) g
    · exact hE x hx) t
theorem reachT_zero (P : List (List (List Int))) (t : Nat) : (0 : Int) ∈ reachT P t :=
  reachT_keeps (S := fun E => (0 : Int) ∈ E) (by simp) (fun _ _ _ _ _ _ _ hE _ _ => mem_addL.2 (.inr hE)) t
theorem reachT_closed {P : List (List (List Int))} (h : SymsIn P) (hp : 0 < P.length) {k i j : Nat} (hk : k < P.length) (hi : i < P[k].length) (hj : j < P[k][i].length) (hm : (k : Int) ∈ reachT P (P.length + 1)) (g : 100 ≤ P[k][i][j]) : P[k][i][j] - 100 ∈ reachT P (P.length + 1) := by
  have fx : reachK P (reachT P (P.length + 1)) P.length = reachT P (P.length + 1) :=
    turns_fix (F := fun E => reachK P E P.length) (f := reachT P) (m := List.length) (fun t => rfl) (reachT_step P) (fun t => (reachT_setB h hp t).len)
  generalize reachT P (P.length + 1) = E at *
  have hK := steps_fix (f := reachK P E) (m := List.length) (reachK_step P E) fx
  have e1 : reachI P[k] E P[k].length = E := by
    have := reachK_yes (E := E) hk (by rw [hK k (by omega)]; exact hasL_yes hm)
    rw [hK (k + 1) (by omega), hK k (by omega)] at this
    exact this.symm
  have hI := steps_fix (f := reachI P[k] E) (m := List.length) (reachI_step P[k] E) e1
  have e2 : reachJ P[k][i] E P[k][i].length = E := by
    have := reachI_next (E := E) hi
    rw [hI (i + 1) (by omega), hI i (by omega)] at this
    exact this.symm
  have hJ := steps_fix (f := reachJ P[k][i] E) (m := List.length) (reachJ_step P[k][i] E) e2
  have e3 := hJ (j + 1) (by omega)
  have e4 : reachJ P[k][i] E j = E := hJ j (by omega)
  rw [reachJ_yes hj g, e4] at e3
  exact addL_fix e3
end Go.Proofs.YthnppodnjokaoaaGreatDoor
