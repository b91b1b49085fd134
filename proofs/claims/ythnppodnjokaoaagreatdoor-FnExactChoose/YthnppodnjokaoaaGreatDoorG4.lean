/-
  Contracts and plain mathematics, joined: L7Part, NewTab, Ints, Marks, HIntS, HIntSS, HIntSSS, L7New. No statement is proved here.
-/
import Derived.Test.YthnppodnjokaoaaGreatDoorG3
import Derived.Deep.AppendLies
import Derived.Test.YthnppodnjokaoaaGreatDoorG2
import Derived.Deep.RegionWith
import Derived.Deep.CutRange
namespace Go.Proofs.YthnppodnjokaoaaGreatDoor
open Go.RowKit

/-- The first a alternatives together; of the next one the places below m. -/
def altTo (f : Nat → Nat → Nat) (a : Nat) : Nat → Nat := fun j => capN (sumTo (fun a => f a j) a)
def altTo2 (f : Nat → Nat → Nat) (a m : Nat) : Nat → Nat := fun j => if j < m then altTo f (a + 1) j else altTo f a j
theorem altTo_step {f : Nat → Nat → Nat} {a j : Nat} : altTo f (a + 1) j = capN (altTo f a j + f a j) := by
  unfold altTo; rw [sumTo, capN_add]
theorem altTo_le (f : Nat → Nat → Nat) (a j : Nat) : altTo f a j ≤ 1000 := capN_le _
theorem altTo2_start (f : Nat → Nat → Nat) (a : Nat) : altTo2 f a 0 = altTo f a := by
  funext j; exact if_neg (Nat.not_lt_zero _)
theorem altTo2_step {f : Nat → Nat → Nat} {a j : Nat} (m : Nat) : altTo2 f a (j + 1) m = if m = j then altTo f (a + 1) j else altTo2 f a j m := by
  unfold altTo2
  by_cases e : m = j
  · subst e; rw [if_pos (Nat.lt_succ_self _), if_pos rfl]
  · rw [if_neg e]
    by_cases e2 : m < j
    · rw [if_pos (by omega), if_pos e2]
    · rw [if_neg (by omega), if_neg e2]

theorem gram_part {P : List (List (List Int))} (hok : gramOkB P = true) {k a s : Nat} (hk : k < P.length) (ha : a < P[k].length) (hs : s < P[k][a].length) : (P[k][a][s] - 100).toNat < P.length := by
  simp only [gramOkB, Bool.and_eq_true, List.all_eq_true, partOk, rowOk] at hok
  have := symOk_true.1 ((((hok.2 _ (List.getElem_mem hk)).2 _ (List.getElem_mem ha)).2) _ (List.getElem_mem hs))
  omega
section
variable {P : List (List (List Int))} {ws : List Int} {w0 : World} {t : TP} {aP : Option Addr} {cP : Nat} {aw : Option Addr} {cw : Nat}
set_option maxHeartbeats 8000000 in
set_option maxRecDepth 100000 in
theorem l7Part_walk (k i : Nat) (N : Nat → Prop) (w : World) (hk : k < P.length) (hi : i ≤ ws.length) (hN : ∀ b, N b → b < w.heap.size) (hT : Tab P ws w0 t aP cP aw cw N w) (hn : ws.length ≤ 10)
    (hP : RD w0 (.slice aP P.length cP) (slD (Lay.list (Lay.list Lay.int)) P)) (hp8 : P[k].length ≤ 8) (f : Nat → Nat → Nat) (hf : ∀ a (ha : a < P[k].length), f a = rowNx ws (way P ws) (deltaV i) P[k][a]) (hfl : ∀ a j, f a j ≤ 1000)
    (hgo : ∀ a (ha : a < P[k].length) (N' : Nat → Prop) (W : World) (ar : Option Addr) (cr b0 c0 : Nat), (∀ b, N' b → b < W.heap.size) → Tab P ws w0 t aP cP aw cw N' W → Reads w0 ar P[k][a] → Reads W (some ⟨b0, 0, none⟩) (vecL (deltaV i) ws.length) →
      Calls Tryz.prog 37 #[.pointer (some ⟨t.bT, 0, none⟩), .slice ar P[k][a].length cr, .slice (some ⟨b0, 0, none⟩) (ws.length + 1) c0] W (GoPost P ws w0 t aP cP aw cw N' W (rowNx ws (way P ws) (deltaV i) P[k][a])))
    (heq : ∀ j, way P ws k i j = altTo f P[k].length j) :
    Calls Tryz.prog 53 #[.pointer (some ⟨t.bT, 0, none⟩), .int .i64 (k : Int), .int .i64 (i : Int)] w (GoPost P ws w0 t aP cP aw cw N w (way P ws k i)) := by
  obtain ⟨d, hd⟩ := hT.known
  obtain ⟨qd, u, qu, hru⟩ := hd k i hk hi
  have c3 := hT.c3
  have rD := hT.rD k hk
  have hkI : (k : Int) < (P.length : Int) := by omega
  have hiI : (i : Int) < (ws.length : Int) + 1 := by omega
  by_cases hdk : d k i = true
  · obtain ⟨b, c, rfl, hM, hNb, hl, hr⟩ := hru hdk
    have HE : Hid (GoPost P ws w0 t aP cP aw cw N w (way P ws k i) (.returned (.slice (some ⟨b, 0, none⟩) (ws.length + 1) c)) w) := ⟨b, c, rfl, hM, hNb, hl, hr, hT, Within.refl _ _⟩
    have c2 := hT.c2
    have rW := hT.rW k hk
    rw [vecL_length] at qu
    rw [hdk] at qd
    clear hru hd hT hgo hf heq hP hr
    go_enter Tryz.func53, Tryz.ntmps53
    go_wp2
    go_ret
    exact HE.out
  · have hdf : d k i = false := by simpa using hdk
    rw [hdf] at qd
    have HN : Hid (∀ b, (N b ∨ b = w.heap.size) → b < w.heap.size + 1) := fun b h => by
      rcases h with h | h
      · have := hN b h; omega
      · omega
    have HNS : Hid (¬ N w.heap.size) := fun h => by have := hN _ h; omega
    have HT : Hid (Tab P ws w0 t aP cP aw cw N w) := hT
    have HO : Hid (∀ b, b = w.heap.size → (N b ∨ b = w.heap.size) ∧ w0.heap.size ≤ b ∧ b ≠ t.bT ∧ b ≠ t.oW ∧ b ≠ t.oD ∧ ¬ t.M P.length b) := fun b e => by
      have h1 := hT.lt
      have h2 := hT.low.size
      subst e
      exact ⟨.inr rfl, h2, by omega, by omega, by omega, fun h => by have := h1.2.2.2 _ h; omega⟩
    have HP : Hid (RD w0 (.slice aP P.length cP) (slD (Lay.list (Lay.list Lay.int)) P)) := hP
    have HGO : Hid (∀ a (ha : a < P[k].length) (N' : Nat → Prop) (W : World) (ar : Option Addr) (cr b0 c0 : Nat), (∀ b, N' b → b < W.heap.size) → Tab P ws w0 t aP cP aw cw N' W → Reads w0 ar P[k][a] → Reads W (some ⟨b0, 0, none⟩) (vecL (deltaV i) ws.length) →
      Calls Tryz.prog 37 #[.pointer (some ⟨t.bT, 0, none⟩), .slice ar P[k][a].length cr, .slice (some ⟨b0, 0, none⟩) (ws.length + 1) c0] W (GoPost P ws w0 t aP cP aw cw N' W (f a))) := fun a ha N' W ar cr b0 c0 h1 h2 h3 h4 => by rw [hf a ha]; exact hgo a ha N' W ar cr b0 c0 h1 h2 h3 h4
    have HFL : Hid (∀ a j, f a j ≤ 1000) := hfl
    have HEQ : Hid (∀ j, way P ws k i j = altTo f P[k].length j) := heq
    have c1 := hT.c1
    have hmk := fun wx => run_make_row' (P := Tryz.prog) 25 3 (.int .i64 0) 8 Tryz.underlying25 Tryz.infoInt rfl .i64 .i64 (ws.length + 1) (by omega) (by omega) wx
    rw [show ((ws.length + 1 : Nat) : Int) = (ws.length : Int) + 1 from rfl] at hmk
    have HA : Hid ((w.alloc (.cells (madeCells #[Value.int .i64 0] (ws.length + 1)) 3)).rowIs w.heap.size 3 (ws.length + 1) (fun j => .int .i64 (altTo f 0 j : Int))) := (World.rowIs_made w (.int .i64 0) _ _)
    have HTA : Hid (Tab P ws w0 t aP cP aw cw (fun b => N b ∨ b = w.heap.size) (w.alloc (.cells (madeCells #[Value.int .i64 0] (ws.length + 1)) 3))) := (hT.turn (N' := fun b => N b ∨ b = w.heap.size) (fun b h => h.imp id (fun e => by omega))).later ((Below.refl _ _).alloc (Nat.le_refl _) _)
    have HB : Hid (Within w (w.alloc (.cells (madeCells #[Value.int .i64 0] (ws.length + 1)) 3)) (t.M P.length)) := Within.of_below ((Below.refl _ _).alloc (Nat.le_refl _) _) _
    clear hgo hf hfl heq hd hru qu hdk hdf hT hP hN
    go_enter Tryz.func53, Tryz.ntmps53
    go_wp2
    clear hmk c1 c3 rD qd
    go_loopw [8] (fun sa wr => ∃ a : Nat, a ≤ P[k].length ∧ sa = .int .i64 (a : Int) ∧ Hid (wr.rowIs w.heap.size 3 (ws.length + 1) (fun j => .int .i64 (altTo f a j : Int))) ∧ Hid (Tab P ws w0 t aP cP aw cw (fun b => N b ∨ b = w.heap.size) wr) ∧ Hid (Within w wr (t.M P.length))) (fun sa _ => P[k].length - (intOf sa).toNat)
    case atStart => exact ⟨0, Nat.zero_le _, rfl, HA, HTA, HB⟩
    case round =>
      obtain ⟨wA, hwA⟩ : ∃ y, y = wr := ⟨_, rfl⟩
      subst hwA
      obtain ⟨a, ha, rfl, HRo, HTa, HWa⟩ := hrel
      clear HA HTA HB
      obtain ⟨b1, o1, rfl, hb1, a1, ca1, q1, r1⟩ := HP.out.listAt hk
      have hgS : w.heap.size < wA.heap.size := HRo.out.lt
      have hlo := HTa.out.low
      have q0 := HTa.out.c0
      have q1a := (hlo.cell (p := ⟨b1, o1 + k, none⟩) hb1).trans q1
      by_cases hlt : a < P[k].length
      · obtain ⟨b2, o2, rfl, hb2, a2, ca2, q2, r2⟩ := r1.listAt hlt
        have q2a := (hlo.cell (p := ⟨b2, o2 + a, none⟩) hb2).trans q2
        have X : Hid (∀ W' : World, Below wA.heap.size wA W' → Calls Tryz.prog 38 #[.pointer (some ⟨t.bT, 0, none⟩), .int .i64 (i : Int)] W' (fun e w' => ∃ g5, e = .returned (.slice (some ⟨g5, 0, none⟩) (ws.length + 1) (ws.length + 1)) ∧ Reads w' (some ⟨g5, 0, none⟩) (vecL (deltaV i) ws.length) ∧ Below W'.heap.size W' w')) := fun W' hW' => (l7At_any t.bT aw cw ws.length i W' hn hi (HTa.out.later hW').c1).mono (fun e w' h => ⟨_, h.1, h.2.2.1, h.2.2.2⟩)
        have Y : Hid (∀ (W' : World) (g5 : Nat), Below wA.heap.size wA W' → Reads W' (some ⟨g5, 0, none⟩) (vecL (deltaV i) ws.length) → Calls Tryz.prog 37 #[.pointer (some ⟨t.bT, 0, none⟩), .slice a2 P[k][a].length ca2, .slice (some ⟨g5, 0, none⟩) (ws.length + 1) (ws.length + 1)] W' (GoPost P ws w0 t (some ⟨b1, o1, none⟩) cP aw cw (fun b => N b ∨ b = w.heap.size) W' (f a))) := fun W' g5 hW' hR => HGO.out a hlt _ W' a2 ca2 g5 (ws.length + 1) (fun b h => by have := HN.out b h; have := hW'.size; omega) (HTa.out.later hW') r2.reads hR
        have hM1 : ¬ t.M P.length b1 := fun h => by have := HTa.out.ok.base _ h; omega
        have hM2 : ¬ t.M P.length b2 := fun h => by have := HTa.out.ok.base _ h; omega
        have hMT := HTa.out.ok.T
        have hlT := HTa.out.lt.1
        have hlA := hlo.size
        have HST : Hid (∀ j, altTo f (a + 1) j = capN (altTo f a j + f a j)) := fun j => altTo_step
        have HFa : Hid (∀ j, f a j ≤ 1000) := HFL.out a
        have HKP : Hid (∀ w', Within wA w' (t.M P.length) → w'.rowIs w.heap.size 3 (ws.length + 1) (fun j => .int .i64 (altTo2 f a 0 j : Int))) := fun w' h => by rw [altTo2_start]; exact rowIs_within HRo.out h (HO.out _ rfl).2.2.2.2.2
        have haI : (a : Int) < (P[k].length : Int) := by omega
        have HW0 : Hid (Within w wA (t.M P.length)) := HWa
        generalize P[k][a] = row at *
        clear r1 r2 q1 q2 HRo HGO
        go_wp2
        refine wp_region_held_drew (S := (fun w' => w'.cell? ⟨t.bT, 0, none⟩ = some (.slice (some ⟨b1, o1, none⟩) P.length cP) ∧ w'.cell? ⟨b1, o1 + k, none⟩ = some (.slice (some ⟨b2, o2, none⟩) P[k].length ca1) ∧ w'.cell? ⟨b2, o2 + a, none⟩ = some (.slice a2 row.length ca2))) (by kernel_rfl) ⟨q0, q1a, q2a⟩ (fun hHeld => ?_)
        refine take_atL (i := 0) (d := some 51) (v := .pointer (some ⟨t.bT, 0, none⟩)) rfl rfl (by kernel_rfl) (by kernel_rfl) (by kernel_rfl) (fun _ _ _ h => h) (by rfl) ?_ hHeld ?_
        · intro w' hSw; obtain ⟨s0, s1, s2⟩ := hSw; go_simp; first | done | rfl | (intro hbad; exfalso; omega)
        try simp only [Act.put, List.setIfInBounds_toArray, List.set_cons_zero, List.set_cons_succ]
        refine take_atL (i := 1) (d := some 52) (v := .pointer (some ⟨t.bT, 0, none⟩)) rfl rfl (by kernel_rfl) (by kernel_rfl) (by kernel_rfl) (fun _ _ _ h => h) (by rfl) ?_ hHeld ?_
        · intro w' hSw; obtain ⟨s0, s1, s2⟩ := hSw; go_simp; first | done | rfl | (intro hbad; exfalso; omega)
        try simp only [Act.put, List.setIfInBounds_toArray, List.set_cons_zero, List.set_cons_succ]
        refine take_atL (i := 2) (d := some 53) (v := .pointer (some ⟨t.bT, 0, none⟩)) rfl rfl (by kernel_rfl) (by kernel_rfl) (by kernel_rfl) (fun _ _ _ h => h) (by rfl) ?_ hHeld ?_
        · intro w' hSw; obtain ⟨s0, s1, s2⟩ := hSw; go_simp; first | done | rfl | (intro hbad; exfalso; omega)
        try simp only [Act.put, List.setIfInBounds_toArray, List.set_cons_zero, List.set_cons_succ]
        refine take_atL (i := 3) (d := some 54) (v := .pointer (some ⟨t.bT, 0, none⟩)) rfl rfl (by kernel_rfl) (by kernel_rfl) (by kernel_rfl) (fun _ _ _ h => h) (by rfl) ?_ hHeld ?_
        · intro w' hSw; obtain ⟨s0, s1, s2⟩ := hSw; go_simp; first | done | rfl | (intro hbad; exfalso; omega)
        try simp only [Act.put, List.setIfInBounds_toArray, List.set_cons_zero, List.set_cons_succ]
        refine take_atL (i := 4) (d := some 55) (v := .pointer (some ⟨t.bT, 0, none⟩)) rfl rfl (by kernel_rfl) (by kernel_rfl) (by kernel_rfl) (fun _ _ _ h => h) (by rfl) ?_ hHeld ?_
        · intro w' hSw; obtain ⟨s0, s1, s2⟩ := hSw; go_simp; first | done | rfl | (intro hbad; exfalso; omega)
        try simp only [Act.put, List.setIfInBounds_toArray, List.set_cons_zero, List.set_cons_succ]
        refine take_atL (i := 5) (d := some 56) (v := .slice (some ⟨b1, o1, none⟩) P.length cP) rfl rfl (by kernel_rfl) (by kernel_rfl) (by kernel_rfl) (fun _ _ _ h => h) (by rfl) ?_ hHeld ?_
        · intro w' hSw; obtain ⟨s0, s1, s2⟩ := hSw; go_simp; first | done | rfl | (intro hbad; exfalso; omega)
        try simp only [Act.put, List.setIfInBounds_toArray, List.set_cons_zero, List.set_cons_succ]
        refine take_atL (i := 6) (d := some 57) (v := .int .i64 ((k : Int))) rfl rfl (by kernel_rfl) (by kernel_rfl) (by kernel_rfl) (fun _ _ _ h => h) (by rfl) ?_ hHeld ?_
        · intro w' hSw; obtain ⟨s0, s1, s2⟩ := hSw; go_simp; first | done | rfl | (intro hbad; exfalso; omega)
        try simp only [Act.put, List.setIfInBounds_toArray, List.set_cons_zero, List.set_cons_succ]
        refine take_atL (i := 7) (d := some 58) (v := .pointer (some ⟨b1, o1 + k, none⟩)) rfl rfl (by kernel_rfl) (by kernel_rfl) (by kernel_rfl) (fun _ _ _ h => h) (by rfl) ?_ hHeld ?_
        · intro w' hSw; obtain ⟨s0, s1, s2⟩ := hSw; go_simp; first | done | rfl | (intro hbad; exfalso; omega)
        try simp only [Act.put, List.setIfInBounds_toArray, List.set_cons_zero, List.set_cons_succ]
        refine take_atL (i := 8) (d := some 59) (v := .slice (some ⟨b2, o2, none⟩) P[k].length ca1) rfl rfl (by kernel_rfl) (by kernel_rfl) (by kernel_rfl) (fun _ _ _ h => h) (by rfl) ?_ hHeld ?_
        · intro w' hSw; obtain ⟨s0, s1, s2⟩ := hSw; go_simp; first | done | rfl | (intro hbad; exfalso; omega)
        try simp only [Act.put, List.setIfInBounds_toArray, List.set_cons_zero, List.set_cons_succ]
        refine take_atL (i := 9) (d := some 60) (v := .int .i64 ((a : Int))) rfl rfl (by kernel_rfl) (by kernel_rfl) (by kernel_rfl) (fun _ _ _ h => h) (by rfl) ?_ hHeld ?_
        · intro w' hSw; obtain ⟨s0, s1, s2⟩ := hSw; go_simp; first | done | rfl | (intro hbad; exfalso; omega)
        try simp only [Act.put, List.setIfInBounds_toArray, List.set_cons_zero, List.set_cons_succ]
        refine take_atL (i := 10) (d := some 61) (v := .pointer (some ⟨b2, o2 + a, none⟩)) rfl rfl (by kernel_rfl) (by kernel_rfl) (by kernel_rfl) (fun _ _ _ h => h) (by rfl) ?_ hHeld ?_
        · intro w' hSw; obtain ⟨s0, s1, s2⟩ := hSw; go_simp; first | done | rfl | (intro hbad; exfalso; omega)
        try simp only [Act.put, List.setIfInBounds_toArray, List.set_cons_zero, List.set_cons_succ]
        refine take_atL (i := 11) (d := some 62) (v := .slice a2 row.length ca2) rfl rfl (by kernel_rfl) (by kernel_rfl) (by kernel_rfl) (fun _ _ _ h => h) (by rfl) ?_ hHeld ?_
        · intro w' hSw; obtain ⟨s0, s1, s2⟩ := hSw; go_simp; first | done | rfl | (intro hbad; exfalso; omega)
        try simp only [Act.put, List.setIfInBounds_toArray, List.set_cons_zero, List.set_cons_succ]
        refine take_atL (i := 12) (d := some 63) (v := .pointer (some ⟨t.bT, 0, none⟩)) rfl rfl (by kernel_rfl) (by kernel_rfl) (by kernel_rfl) (fun _ _ _ h => h) (by rfl) ?_ hHeld ?_
        · intro w' hSw; obtain ⟨s0, s1, s2⟩ := hSw; go_simp; first | done | rfl | (intro hbad; exfalso; omega)
        try simp only [Act.put, List.setIfInBounds_toArray, List.set_cons_zero, List.set_cons_succ]
        refine take_atL (i := 13) (d := some 64) (v := .int .i64 ((i : Int))) rfl rfl (by kernel_rfl) (by kernel_rfl) (by kernel_rfl) (fun _ _ _ h => h) (by rfl) ?_ hHeld ?_
        · intro w' hSw; obtain ⟨s0, s1, s2⟩ := hSw; go_simp; first | done | rfl | (intro hbad; exfalso; omega)
        try simp only [Act.put, List.setIfInBounds_toArray, List.set_cons_zero, List.set_cons_succ]
        refine wpAnyH_ready (rs := [14]) (by kernel_rfl) (by simp) ?_
        refine AllReadyH.cons (o := _) rfl (fun K hK => ?_) AllReadyH.nil
        rw [if_pos (by rfl)]
        go_simp
        refine (X.out _ (Below.drew (Below.refl _ _))).mono ?_
        rintro e w5 ⟨g5, rfl, hR5, hb5⟩
        have hb5r : Below wA.heap.size wA w5 := Below.drewed (by simpa using hb5)
        have p0 := (hb5r.cell (p := ⟨t.bT, 0, none⟩) hlT).trans q0
        have p1 := (hb5r.cell (p := ⟨b1, o1 + k, none⟩) (by show b1 < _; omega)).trans q1a
        have p2 := (hb5r.cell (p := ⟨b2, o2 + a, none⟩) (by show b2 < _; omega)).trans q2a
        have Z := Y.out w5 g5 hb5r hR5
        clear X Y hR5 hb5
        go_wp2_with fail
        refine hK.out _ _ ⟨p0, p1, p2⟩ (fun hHeld => ?_)
        clear hK K
        try simp only [Act.put, List.setIfInBounds_toArray, List.set_cons_zero, List.set_cons_succ]
        refine wpAnyH_ready (rs := [15]) (by kernel_rfl) (by simp) ?_
        refine AllReadyH.cons (o := _) rfl (fun K hK => ?_) AllReadyH.nil
        rw [if_pos (by rfl)]
        go_simp
        refine Z.mono ?_
        rintro e w6 ⟨g6, c6, rfl, h6M, h6N, h6l, h6R, h6T, h6W⟩
        have s0 := (blk_cell (o := 0) (h6W.block t.bT (Nat.lt_of_lt_of_le hlT hb5r.size) hMT)).trans p0
        have s1 := (blk_cell (o := o1 + k) (h6W.block b1 (by have := hb5r.size; omega) hM1)).trans p1
        have s2 := (blk_cell (o := o2 + a) (h6W.block b2 (by have := hb5r.size; omega) hM2)).trans p2
        have HW6 : Hid (Within wA w6 (t.M P.length)) := (Within.of_below hb5r _).trans h6W
        have HT6 : Hid (Tab P ws w0 t (some ⟨b1, o1, none⟩) cP aw cw (fun b => N b ∨ b = w.heap.size) w6) := h6T
        have HR6 : Hid (Reads w6 (some ⟨g6, 0, none⟩) (vecL (f a) ws.length)) := h6R
        have HG6 : Hid (g6 ≠ w.heap.size) := fun e => h6N (.inr e)
        clear Z p0 p1 p2 h6M h6N h6R h6T h6W
        go_wp2_with fail
        refine hK.out _ _ ⟨s0, s1, s2⟩ (fun hHeld => ?_)
        clear hK K
        try simp only [Act.put, List.setIfInBounds_toArray, List.set_cons_zero, List.set_cons_succ]
        refine take_atL (i := 16) (d := some 9) (v := .slice (some ⟨g6, 0, none⟩) (ws.length + 1) c6) rfl rfl (by kernel_rfl) (by kernel_rfl) (by kernel_rfl) (fun _ _ _ h => h) (by rfl) ?_ hHeld ?_
        · intro w' hSw; obtain ⟨s0, s1, s2⟩ := hSw; go_simp; first | done | rfl | (intro hbad; exfalso; omega)
        try simp only [Act.put, List.setIfInBounds_toArray, List.set_cons_zero, List.set_cons_succ]
        refine wpAnyH_done (by kernel_rfl) ?_ _
        clear hHeld
        have HR7 : Hid (w6.rowIs w.heap.size 3 (ws.length + 1) (fun j => .int .i64 (altTo2 f a 0 j : Int))) := HKP.out w6 HW6.out
        have HW7 : Hid (Within w6 w6 (fun b => b = w.heap.size)) := Within.refl _ _
        clear HKP s0 s1 s2 q0 q1a q2a HWa HTa hlo hb5r
        go_wp2
        go_loopw [10] (fun sj w4 => ∃ j : Nat, j ≤ ws.length + 1 ∧ sj = .int .i64 (j : Int) ∧ Hid (w4.rowIs w.heap.size 3 (ws.length + 1) (fun m => .int .i64 (altTo2 f a j m : Int))) ∧ Hid (Within w6 w4 (fun b => b = w.heap.size))) (fun sj _ => ws.length + 1 - (intOf sj).toNat)
        case atStart => exact ⟨0, Nat.zero_le _, rfl, HR7, HW7⟩
        case round =>
          obtain ⟨j, hj, rfl, HRj, HBj⟩ := hrel
          clear HR7 HW7
          have qc := (HT6.out.kept HBj.out HO.out).c1
          by_cases hjl : j ≤ ws.length
          · have q1 := reads_vec (reads_within HR6.out HBj.out HG6.out) hjl
            have qn := HRj.out.cell (i := j) (by omega)
            have hfr := HRj.out.frozen j
            rw [show altTo2 f a j j = altTo f a j from if_neg (Nat.lt_irrefl _)] at qn
            have hoj := HFa.out j
            have hnj := altTo_le f a j
            have HMJ : Hid (altTo f (a + 1) j = capN (altTo f a j + f a j)) := HST.out j
            have HSj : Hid (∀ m, altTo2 f a (j + 1) m = if m = j then altTo f (a + 1) j else altTo2 f a j m) := altTo2_step
            generalize f a j = oj at *
            generalize altTo f a j = nj at *
            generalize altTo f (a + 1) j = mj at *
            have hmin : min ((nj : Int) + (oj : Int)) 1000 = (mj : Int) := by rw [HMJ.out]; exact min_cap _ _
            have hgp : w.heap.size ≠ g6 := fun e => HG6.out e.symm
            clear HMJ
            go_wp2
            refine wp_region_held_drew (S := (fun w' => w'.cell? ⟨g6, j, none⟩ = some (.int .i64 (oj : Int)) ∧ True)) (by kernel_rfl) ⟨q1, trivial⟩ (fun hHeld => ?_)
            refine take_atL (i := 0) (d := some 76) (v := .slice (some ⟨w.heap.size, 0, none⟩) (ws.length + 1) (ws.length + 1)) rfl rfl (by kernel_rfl) (by kernel_rfl) (by kernel_rfl) (fun _ _ _ h => h) (by rfl) ?_ hHeld ?_
            · intro w' hSw; obtain ⟨s0, _⟩ := hSw; go_simp; first | done | rfl | (refine wrap_in ?_ ?_ <;> omega) | (intro hbad; exfalso; omega)
            try simp only [Act.put, List.setIfInBounds_toArray, List.set_cons_zero, List.set_cons_succ]
            refine take_atL (i := 1) (d := some 77) (v := .int .i64 ((j : Int))) rfl rfl (by kernel_rfl) (by kernel_rfl) (by kernel_rfl) (fun _ _ _ h => h) (by rfl) ?_ hHeld ?_
            · intro w' hSw; obtain ⟨s0, _⟩ := hSw; go_simp; first | done | rfl | (refine wrap_in ?_ ?_ <;> omega) | (intro hbad; exfalso; omega)
            try simp only [Act.put, List.setIfInBounds_toArray, List.set_cons_zero, List.set_cons_succ]
            refine take_atL (i := 2) (d := some 78) (v := .slice (some ⟨w.heap.size, 0, none⟩) (ws.length + 1) (ws.length + 1)) rfl rfl (by kernel_rfl) (by kernel_rfl) (by kernel_rfl) (fun _ _ _ h => h) (by rfl) ?_ hHeld ?_
            · intro w' hSw; obtain ⟨s0, _⟩ := hSw; go_simp; first | done | rfl | (refine wrap_in ?_ ?_ <;> omega) | (intro hbad; exfalso; omega)
            try simp only [Act.put, List.setIfInBounds_toArray, List.set_cons_zero, List.set_cons_succ]
            refine take_atL (i := 3) (d := some 79) (v := .int .i64 ((j : Int))) rfl rfl (by kernel_rfl) (by kernel_rfl) (by kernel_rfl) (fun _ _ _ h => h) (by rfl) ?_ hHeld ?_
            · intro w' hSw; obtain ⟨s0, _⟩ := hSw; go_simp; first | done | rfl | (refine wrap_in ?_ ?_ <;> omega) | (intro hbad; exfalso; omega)
            try simp only [Act.put, List.setIfInBounds_toArray, List.set_cons_zero, List.set_cons_succ]
            refine take_atL (i := 4) (d := some 80) (v := .pointer (some ⟨w.heap.size, j, none⟩)) rfl rfl (by kernel_rfl) (by kernel_rfl) (by kernel_rfl) (fun _ _ _ h => h) (by rfl) ?_ hHeld ?_
            · intro w' hSw; obtain ⟨s0, _⟩ := hSw; go_simp; first | done | rfl | (refine wrap_in ?_ ?_ <;> omega) | (intro hbad; exfalso; omega)
            try simp only [Act.put, List.setIfInBounds_toArray, List.set_cons_zero, List.set_cons_succ]
            refine take_atL (i := 6) (d := some 82) (v := .slice (some ⟨g6, 0, none⟩) (ws.length + 1) c6) rfl rfl (by kernel_rfl) (by kernel_rfl) (by kernel_rfl) (fun _ _ _ h => h) (by rfl) ?_ hHeld ?_
            · intro w' hSw; obtain ⟨s0, _⟩ := hSw; go_simp; first | done | rfl | (refine wrap_in ?_ ?_ <;> omega) | (intro hbad; exfalso; omega)
            try simp only [Act.put, List.setIfInBounds_toArray, List.set_cons_zero, List.set_cons_succ]
            refine take_atL (i := 7) (d := some 83) (v := .int .i64 ((j : Int))) rfl rfl (by kernel_rfl) (by kernel_rfl) (by kernel_rfl) (fun _ _ _ h => h) (by rfl) ?_ hHeld ?_
            · intro w' hSw; obtain ⟨s0, _⟩ := hSw; go_simp; first | done | rfl | (refine wrap_in ?_ ?_ <;> omega) | (intro hbad; exfalso; omega)
            try simp only [Act.put, List.setIfInBounds_toArray, List.set_cons_zero, List.set_cons_succ]
            refine take_atL (i := 8) (d := some 84) (v := .pointer (some ⟨g6, j, none⟩)) rfl rfl (by kernel_rfl) (by kernel_rfl) (by kernel_rfl) (fun _ _ _ h => h) (by rfl) ?_ hHeld ?_
            · intro w' hSw; obtain ⟨s0, _⟩ := hSw; go_simp; first | done | rfl | (refine wrap_in ?_ ?_ <;> omega) | (intro hbad; exfalso; omega)
            try simp only [Act.put, List.setIfInBounds_toArray, List.set_cons_zero, List.set_cons_succ]
            refine take_atL (i := 9) (d := some 85) (v := .int .i64 ((oj : Int))) rfl rfl (by kernel_rfl) (by kernel_rfl) (by kernel_rfl) (fun _ _ _ h => h) (by rfl) ?_ hHeld ?_
            · intro w' hSw; obtain ⟨s0, _⟩ := hSw; go_simp; first | done | rfl | (refine wrap_in ?_ ?_ <;> omega) | (intro hbad; exfalso; omega)
            try simp only [Act.put, List.setIfInBounds_toArray, List.set_cons_zero, List.set_cons_succ]
            refine wpAnyH_ready (rs := [5]) (by kernel_rfl) (by simp) ?_
            refine AllReadyH.cons (o := _) rfl (fun K hK => ?_) AllReadyH.nil
            rw [if_pos (by rfl)]
            go_simp
            refine hK.out _ _ ⟨q1, trivial⟩ (fun hHeld => ?_)
            clear hK K
            try simp only [Act.put, List.setIfInBounds_toArray, List.set_cons_zero, List.set_cons_succ]
            refine take_atL (i := 10) (d := some 86) (v := .int .i64 ((nj : Int) + (oj : Int))) rfl rfl (by kernel_rfl) (by kernel_rfl) (by kernel_rfl) (fun _ _ _ h => h) (by rfl) ?_ hHeld ?_
            · intro w' hSw; obtain ⟨s0, _⟩ := hSw; go_simp; first | done | rfl | (refine wrap_in ?_ ?_ <;> omega) | (intro hbad; exfalso; omega)
            try simp only [Act.put, List.setIfInBounds_toArray, List.set_cons_zero, List.set_cons_succ]
            refine wpAnyH_ready (rs := [11]) (by kernel_rfl) (by simp) ?_
            refine AllReadyH.cons (o := _) rfl (fun K hK => ?_) AllReadyH.nil
            rw [if_pos (by rfl)]
            go_simp
            refine (l1Min_any _ _ _).mono ?_
            rintro e w' ⟨rfl, rfl⟩
            rw [hmin]
            go_wp2_with fail
            refine hK.out _ _ ⟨q1, trivial⟩ (fun hHeld => ?_)
            clear hK K
            try simp only [Act.put, List.setIfInBounds_toArray, List.set_cons_zero, List.set_cons_succ]
            refine take_atL (i := 12) (d := some 88) (v := .pointer (some ⟨w.heap.size, j, none⟩)) rfl rfl (by kernel_rfl) (by kernel_rfl) (by kernel_rfl) (fun _ _ _ h => h) (by rfl) ?_ hHeld ?_
            · intro w' hSw; obtain ⟨s0, _⟩ := hSw; go_simp; first | done | rfl | (refine wrap_in ?_ ?_ <;> omega) | (intro hbad; exfalso; omega)
            try simp only [Act.put, List.setIfInBounds_toArray, List.set_cons_zero, List.set_cons_succ]
            refine wpAnyH_ready (rs := [13]) (by kernel_rfl) (by simp) ?_
            refine AllReadyH.cons (o := _) rfl (fun K hK => ?_) AllReadyH.nil
            rw [if_pos (by rfl)]
            go_simp
            refine hK.out _ _ ⟨(cell_set_off (.inl hgp)).trans q1, trivial⟩ (fun hHeld => ?_)
            clear hK K
            try simp only [Act.put, List.setIfInBounds_toArray, List.set_cons_zero, List.set_cons_succ]
            refine wpAnyH_done (by kernel_rfl) ?_ _
            clear hHeld
            go_wp2
            go_roundw
            case rel => exact ⟨j + 1, by omega, by go_num, rowIs_below (row_put (x := mj) (p := j) HRj.out (fun m _ => HSj.out m)) (below_drew 1), (HBj.out.setCell ⟨w.heap.size, j, none⟩ _ rfl).drew⟩
            case measure => simp [intOf]; omega
          · have e : j = ws.length + 1 := by omega
            subst e
            have HRn : Hid (wr.rowIs w.heap.size 3 (ws.length + 1) (fun m => .int .i64 (altTo f (a + 1) m : Int))) := HRj.out.congr (fun m hm => by rw [show altTo2 f a (ws.length + 1) m = altTo f (a + 1) m from if_pos hm])
            have HTn : Hid (Tab P ws w0 t (some ⟨b1, o1, none⟩) cP aw cw (fun b => N b ∨ b = w.heap.size) wr) := HT6.out.kept HBj.out HO.out
            have HBn : Hid (Within w wr (t.M P.length)) := (HW0.out.trans HW6.out).comp HBj.out (fun k e => .inr (by omega))
            clear HRj HBj HT6 HW6 HR6 HW0
            go_wp2
            go_roundw
            case rel => exact ⟨a + 1, by omega, by go_num, HRn, HTn, HBn⟩
            case measure => simp [intOf]; omega
      · have e : a = P[k].length := by omega
        subst e
        have haI : (P[k].length : Int) ≤ (P[k].length : Int) := Int.le_refl _
        have HTN : Tab P ws w0 t (some ⟨b1, o1, none⟩) cP aw cw N wA := HTa.out.turn (fun b h => .inl (.inl h))
        have hRV : RowV wA (t.M P.length) N (vecL (way P ws k i) ws.length) (.slice (some ⟨w.heap.size, 0, none⟩) (ws.length + 1) (ws.length + 1)) := by
          refine ⟨w.heap.size, ws.length + 1, by rw [vecL_length], (HO.out _ rfl).2.2.2.2.2, HNS.out, hgS, ?_⟩
          rw [vecL_congr (fun j _ => HEQ.out j)]
          exact row_reads HRo.out
        have T1 := HTN.storeW hk hRV
        have mW : t.M P.length (t.bW k) := ⟨k, hk, .inl rfl⟩
        have mD : t.M P.length (t.bD k) := ⟨k, hk, .inr rfl⟩
        have hW1 : Within wA (wA.setCell ⟨t.bW k, i, none⟩ (.slice (some ⟨w.heap.size, 0, none⟩) (ws.length + 1) (ws.length + 1))) (t.M P.length) := set_within _ _ _ _ mW
        obtain ⟨d1, hd1⟩ := HTN.known
        obtain ⟨pd, u1, pu, _⟩ := hd1 k i hk hi
        have T2 := T1.storeD hk (cell_set pu) (hRV.kept hW1 (fun _ e => .inl e))
        have hW2 := hW1.trans (set_within (wA.setCell ⟨t.bW k, i, none⟩ (.slice (some ⟨w.heap.size, 0, none⟩) (ws.length + 1) (ws.length + 1))) (t.bD k) i (.bool true) mD)
        have HE : Hid (GoPost P ws w0 t (some ⟨b1, o1, none⟩) cP aw cw N w (way P ws k i) (.returned (.slice (some ⟨w.heap.size, 0, none⟩) (ws.length + 1) (ws.length + 1))) ((wA.setCell ⟨t.bW k, i, none⟩ (.slice (some ⟨w.heap.size, 0, none⟩) (ws.length + 1) (ws.length + 1))).setCell ⟨t.bD k, i, none⟩ (.bool true))) := by
          obtain ⟨b, c, e, h1, h2, h3, h4⟩ := hRV.kept hW2 (fun _ e => .inl e)
          rw [vecL_length] at e
          cases e
          exact ⟨_, _, rfl, h1, h2, h3, h4, T2, HWa.out.trans hW2⟩
        have c2 := HTN.c2
        have rW := HTN.rW k hk
        have fW := HTN.fr _ mW i
        have c3 := T1.c3
        have rD := T1.rD k hk
        have fD := T1.fr _ mD i
        have qd := (cell_set_off (x := .slice (some ⟨w.heap.size, 0, none⟩) (ws.length + 1) (ws.length + 1)) (i := i) (o := i) (.inl (HTN.ok.wD k k hk hk))).trans pd
        have n1 : t.bW k ≠ t.bT := fun e => HTN.ok.T (e ▸ mW)
        have n2 : t.bW k ≠ t.oD := fun e => HTN.ok.oD (e ▸ mW)
        have n3 : t.bW k ≠ t.bD k := HTN.ok.wD k k hk hk
        clear HTN T1 T2 hW1 hW2 hRV hd1 HRo HTa HWa HEQ HP HGO r1 mW mD
        go_wp2
        go_ret
        exact HE.out
/-- spec.l7Part at every part and place. -/
theorem l7Part_ok (hok : gramOkB P = true) (hL : NoLoop P) (hws : Reads w0 aw ws) (hn : ws.length ≤ 10) (hP : RD w0 (.slice aP P.length cP) (slD (Lay.list (Lay.list Lay.int)) P)) (m : Nat) :
    ∀ k i, k < P.length → i ≤ ws.length → muP P ws.length k i < m → PartOk P ws w0 t aP cP aw cw k i := by
  have F := Fits.of hok
  induction m with
  | zero => intro k i _ _ h; omega
  | succ m ih =>
    intro k i hk hi hm N w hN hT
    have hmem := List.getElem_mem hk
    refine l7Part_walk k i N w hk hi hN hT hn hP (F.alts _ hmem) (fun a => rowNx ws (way P ws) (deltaV i) (P[k].getD a [])) (fun a ha => by simp [List.getD, ha]) (fun a j => rowNx_le (deltaV_le i) j) ?_ (fun j => way_eq F hL hk hi j)
    intro a ha N' W ar cr b0 c0 h1 h2 h3 h4
    have hmem2 := List.getElem_mem ha
    refine l7Go_any P[k][a] ar cr (deltaV i) b0 c0 N' W h1 h2 hws hn h3 (by have := F.rows _ hmem _ hmem2; omega) h4 (deltaV_le i) (F.syms _ hmem _ hmem2) ?_
    intro s hs hx i' hi' hne
    obtain ⟨_, _, h5⟩ := way_lt F hL hk ha hi hs hx hne
    exact ih _ i' (gram_part hok hk ha hs) hi' (by omega)
/-- spec.l7Go at a row of symbols. -/
theorem l7Go_ok (hok : gramOkB P = true) (hL : NoLoop P) (hws : Reads w0 aw ws) (hn : ws.length ≤ 10) (hP : RD w0 (.slice aP P.length cP) (slD (Lay.list (Lay.list Lay.int)) P)) (row : List Int) (ar : Option Addr) (cr : Nat) (v : Nat → Nat) (b0 c0 : Nat) (N : Nat → Prop) (w : World)
    (hN : ∀ b, N b → b < w.heap.size) (hT : Tab P ws w0 t aP cP aw cw N w) (hr : Reads w0 ar row) (hrl : row.length ≤ 1048576) (hf2 : Reads w (some ⟨b0, 0, none⟩) (vecL v ws.length)) (hv : ∀ j, v j ≤ 1000) (hrow : ∀ x ∈ row, symOk P.length x = true) (hp : P.length ≤ 20) :
    Calls Tryz.prog 37 #[.pointer (some ⟨t.bT, 0, none⟩), .slice ar row.length cr, .slice (some ⟨b0, 0, none⟩) (ws.length + 1) c0] w (GoPost P ws w0 t aP cP aw cw N w (rowNx ws (way P ws) v row)) := by
  refine l7Go_any row ar cr v b0 c0 N w hN hT hws hn hr hrl hf2 hv (fun x hx => by have := symOk_true.1 (hrow x hx); omega) ?_
  intro s hs hx i hi _
  have := symOk_true.1 (hrow row[s] (List.getElem_mem hs))
  exact l7Part_ok hok hL hws hn hP _ _ i (by omega) hi (Nat.lt_succ_self _)
end
end Go.Proofs.YthnppodnjokaoaaGreatDoor
namespace Go.Proofs.YthnppodnjokaoaaGreatDoor
open Go.RowKit

/-- The slices that lie in blocks f 0, f 1, .. -/
def rowsAt (f : Nat → Nat) (n k : Nat) : List Value := (List.range k).map fun i => .slice (some ⟨f i, 0, none⟩) n n
theorem rowsAt_length (f : Nat → Nat) (n k : Nat) : (rowsAt f n k).length = k := by simp [rowsAt]
theorem rowsAt_get (f : Nat → Nat) (n : Nat) {k i : Nat} (h : i < k) : (rowsAt f n k)[i]? = some (.slice (some ⟨f i, 0, none⟩) n n) := by simp [rowsAt, h]
def putAt {α : Type} (f : Nat → α) (k : Nat) (x : α) : Nat → α := fun i => if i = k then x else f i
theorem putAt_same {α : Type} (f : Nat → α) (k : Nat) (x : α) : putAt f k x k = x := if_pos rfl
theorem putAt_other {α : Type} (f : Nat → α) {k i : Nat} (x : α) (h : i ≠ k) : putAt f k x i = f i := if_neg h
theorem rowsAt_next (f : Nat → Nat) (n k g : Nat) : rowsAt f n k ++ [.slice (some ⟨g, 0, none⟩) n n] = rowsAt (putAt f k g) n (k + 1) := by
  unfold rowsAt
  rw [List.range_succ, List.map_append]
  congr 1
  · refine List.map_congr_left (fun i hi => ?_)
    rw [List.mem_range] at hi
    rw [putAt_other f g (by omega)]
  · simp [putAt_same]

theorem setCell_grows (w : World) (b n : Nat) (v : Value) : w.grownBy (w.setCell ⟨b, n, none⟩ v) (some b) :=
  ⟨rfl, rfl, rfl, by simp, fun k _ hne => Below.heap_setCell w _ v k (fun e => hne (by rw [e]))⟩

/-- One of its two lists: its field o, its slice, its rows (each of n elements v of type te), all told apart by tags. -/
structure Half (base bT o : Nat) (el te : TypeId) (n : Nat) (z : Value) (tag : Nat) (τ : Nat → Nat) (v : Value) (f : Nat → Nat) (k : Nat) (w : World) : Prop where
  cell : w.cell? ⟨bT, o, none⟩ = some v
  own : w.ownsRow base el 1 v k (rowsAt f n k)
  rows : ∀ i, i < k → w.rowIs (f i) te n (fun _ => z)
  low : ∀ i, i < k → base ≤ f i
  tagV : ∀ g, v.ownBlock = some g → τ g = tag
  tagF : ∀ i, i < k → τ (f i) = 2 * i + 3 + tag
/-- Its other half stays. -/
theorem Half.kept {base bT o : Nat} {el te : TypeId} {n : Nat} {z : Value} {tag : Nat} {τ τ' : Nat → Nat} {v : Value} {f : Nat → Nat} {k : Nat} {w w' : World} (h : Half base bT o el te n z tag τ v f k w)
    (hc : w'.cell? ⟨bT, o, none⟩ = w.cell? ⟨bT, o, none⟩) {row : Option Nat} (hg : w.grownBy w' row) (hr : ∀ b, row = some b → τ b ≠ tag ∧ ∀ i, i < k → τ b ≠ 2 * i + 3 + tag) (hτ : ∀ b, b < w.heap.size → τ' b = τ b) : Half base bT o el te n z tag τ' v f k w' := by
  refine ⟨by rw [hc]; exact h.cell, h.own.kept hg ?_, fun i hi => ?_, h.low, fun g e => ?_, fun i hi => ?_⟩
  · cases e : v.ownBlock with
    | none => exact .inl rfl
    | some g => exact .inr (fun e2 => by
        have := (hr g e2.symm).1
        exact this (h.tagV g e))
  · exact (h.rows i hi).of_block (hg.block _ (h.rows i hi).lt (fun e => (hr _ e.symm).2 i hi (h.tagF i hi)))
  · rw [hτ g (h.own.lt g e).2]; exact h.tagV g e
  · rw [hτ _ (h.rows i hi).lt]; exact h.tagF i hi
/-- A row is appended. -/
theorem Half.grown {base bT o : Nat} {el te : TypeId} {n : Nat} {z : Value} {tag : Nat} {τ : Nat → Nat} {v : Value} {f : Nat → Nat} {k : Nat} {w w1 w3 w4 : World} {g g' cap : Nat} (h : Half base bT o el te n z tag τ v f k w)
    (htag : tag = 1 ∨ tag = 2) (hb1 : Below w.heap.size w w1) (hg1 : w.heap.size ≤ g) (hbase : base ≤ w.heap.size) (hrow : w1.rowIs g te n (fun _ => z)) (hown : w3.ownsRow base el 1 (.slice (some ⟨g', 0, none⟩) (k + 1) cap) (k + 1) (rowsAt f n k ++ [.slice (some ⟨g, 0, none⟩) n n])) (hgr : w1.grownBy w3 v.ownBlock)
    (hg' : v.ownBlock = some g' ∨ g' = w1.heap.size) (h4 : w4 = w3.setCell ⟨bT, o, none⟩ (.slice (some ⟨g', 0, none⟩) (k + 1) cap)) (hbT : bT < w.heap.size) (hτT : τ bT = 0) :
    ∃ τ', (∀ b, b < w.heap.size → τ' b = τ b) ∧ Half base bT o el te n z tag τ' (.slice (some ⟨g', 0, none⟩) (k + 1) cap) (putAt f k g) (k + 1) w4 := by
  have hs1 := hb1.size
  have hvT : ∀ b, v.ownBlock = some b → b ≠ bT := fun b e e2 => by
    have := h.tagV b e; rw [e2, hτT] at this; omega
  have hgl := hrow.lt
  have hv' : ∀ b, v.ownBlock = some b → b < w.heap.size := fun b e => (h.own.lt b e).2
  have hgg : g ≠ g' := by
    rcases hg' with e | e
    · have := hv' g' e; omega
    · omega
  have hgT : bT ≠ g := by omega
  have hnT : bT ≠ g' := by
    rcases hg' with e | e
    · exact fun e2 => hvT g' e e2.symm
    · omega
  have keep : ∀ b, b < w.heap.size → v.ownBlock ≠ some b → b ≠ bT → w4.heap[b]? = w.heap[b]? := fun b hb hn hT => by
    rw [h4, Below.heap_setCell _ _ _ _ hT, hgr.block b (by omega) (fun e => hn e.symm), hb1.block b hb]
  have hcT : (w3.cell? ⟨bT, o, none⟩).isSome := by
    rw [blk_cell (hgr.block bT (by omega) (fun e => hvT bT e.symm rfl)), blk_cell (hb1.block bT hbT), h.cell]; rfl
  refine ⟨fun b => if b = g then 2 * k + 3 + tag else if b = g' then tag else τ b, fun b hb => ?_, ⟨?_, ?_, fun i hi => ?_, fun i hi => ?_, fun b e => ?_, fun i hi => ?_⟩⟩
  · show (if b = g then 2 * k + 3 + tag else if b = g' then tag else τ b) = τ b
    rw [if_neg (by omega)]
    by_cases e : b = g'
    · rw [if_pos e]
      rcases hg' with e2 | e2
      · exact (h.tagV b (by rw [e2, e])).symm
      · omega
    · rw [if_neg e]
  · subst h4
    obtain ⟨u, hu⟩ := Option.isSome_iff_exists.1 hcT
    exact cell_set hu
  · subst h4
    rw [← rowsAt_next]
    refine World.ownsRow.kept hown (setCell_grows _ _ _ _) (.inr ?_)
    simp [Value.ownBlock]; exact fun e => hnT e.symm
  · subst h4
    by_cases e : i = k
    · subst e
      rw [putAt_same]
      refine hrow.of_block ?_
      rw [Below.heap_setCell _ _ _ _ (fun e => hgT e.symm)]
      refine hgr.block g hgl (fun e => ?_)
      have := hv' g e.symm; omega
    · rw [putAt_other _ _ e]
      have hi' : i < k := by omega
      have ht := h.tagF i hi'
      refine (h.rows i hi').of_block (keep _ (h.rows i hi').lt (fun e => ?_) (fun e => ?_))
      · have := h.tagV _ e; omega
      · rw [e, hτT] at ht; omega
  · by_cases e : i = k
    · subst e; rw [putAt_same]; omega
    · rw [putAt_other _ _ e]; exact h.low i (by omega)
  · have : b = g' := by simp [Value.ownBlock] at e; exact e.symm
    subst this
    show (if b = g then 2 * k + 3 + tag else if b = b then tag else τ b) = tag
    rw [if_neg (fun e => hgg e.symm), if_pos rfl]
  · by_cases e : i = k
    · subst e; rw [putAt_same]; exact if_pos rfl
    · rw [putAt_other _ _ e]
      show (if f i = g then 2 * k + 3 + tag else if f i = g' then tag else τ (f i)) = _
      have hi' : i < k := by omega
      have ht := h.tagF i hi'
      have hl := (h.rows i hi').lt
      have n1 : f i ≠ g := by omega
      have n2 : f i ≠ g' := by
        rcases hg' with e2 | e2
        · intro e3
          have := h.tagV g' e2
          rw [← e3, ht] at this; omega
        · omega
      rw [if_neg n1, if_neg n2]; exact ht
end Go.Proofs.YthnppodnjokaoaaGreatDoor
namespace Go.Proofs.YthnppodnjokaoaaGreatDoor
open Go.RowKit

theorem toIntS_any (a : Option Addr) (c : Nat) (zs : List Int) (w : World) (h : Reads w a zs) (hl : zs.length ≤ 1048576) :
    Calls Tryz.prog 7 #[.slice a zs.length c] w fun e w' => ∃ b, e = .returned (.slice (some ⟨b, 0, none⟩) zs.length zs.length) ∧ w.heap.size ≤ b ∧
      w'.rowIs b 3 zs.length (fun i => .int .i64 (zs.getD i 0)) ∧ Below w.heap.size w w' := by
  have hmk := fun wx => run_make_row' (P := Tryz.prog) 25 3 (.int .i64 0) 8 Tryz.underlying25 Tryz.infoInt rfl .i64 .i64 zs.length (by omega) (by omega) wx
  go_enter Tryz.func7, Tryz.ntmps7
  go_wp2
  clear hmk
  go_loopw [4] (fun i wr => ∃ k : Nat, k ≤ zs.length ∧ i = .int .i64 k ∧ wr.rowIs w.heap.size 3 zs.length (fun j => .int .i64 (if j < k then zs.getD j 0 else 0)) ∧ Below w.heap.size w wr) (fun i _ => zs.length - (intOf i).toNat)
  case atStart => exact ⟨0, Nat.zero_le _, rfl, (World.rowIs_made _ _ _ _).congr (fun i _ => by simp), (Below.refl _ _).alloc (Nat.le_refl _) _⟩
  case round =>
    obtain ⟨k, hk, rfl, hrow, hbel⟩ := hrel
    by_cases hlt : k < zs.length
    · obtain ⟨b, off, rfl, hb, hc⟩ := h.at hlt
      have hcx := (hbel.cell (p := ⟨b, off + k, none⟩) hb).trans (hc k hlt)
      have hfr := hrow.frozen k
      have hcy := hrow.cell hlt
      go_wp2
      go_roundw
      case rel =>
        exact ⟨k + 1, by omega, by go_num, (hrow.set k _).congr (fun j hj => by
          by_cases e : j = k
          · subst e; simp [List.getD, hj]
          · by_cases e2 : j < k
            · simp [e, e2, Nat.lt_succ_of_lt e2]
            · have : ¬ j < k + 1 := by omega
              simp [e, e2, this]), hbel.setCell (Nat.le_refl _) _⟩
      case measure => simp [intOf]; omega
    · go_wp2
      go_ret
      exact ⟨_, rfl, Nat.le_refl _, hrow.congr (fun j hj => by rw [if_pos (by omega)]), hbel⟩

theorem eqIntS_any (a b : Option Addr) (c d : Nat) (xs ys : List Int) (w : World) (h : Reads w a xs) (g : Reads w b ys) (hl : xs.length ≤ 1048576 * 4) :
    Calls Tryz.prog 10 #[.slice a xs.length c, .slice b ys.length d] w fun e w' => e = .returned (.bool (eqL xs ys)) ∧ Below w.heap.size w w' := by
  by_cases he : xs.length = ys.length
  · have hne : ((xs.length : Int) != (ys.length : Int)) = false := by simp [he]
    have HE : Hid (xs.length = ys.length) := he
    clear he
    go_enter Tryz.func10, Tryz.ntmps10
    go_wp2
    go_loopw [5] (fun i wr => ∃ k : Nat, k ≤ xs.length ∧ i = .int .i64 k ∧ xs.take k = ys.take k ∧ Below w.heap.size w wr) (fun i _ => xs.length - (intOf i).toNat)
    case atStart => exact ⟨0, Nat.zero_le _, rfl, rfl, Below.refl _ _⟩
    case round =>
      obtain ⟨k, hk, rfl, heq, hbel⟩ := hrel
      have HQ : Hid (xs.take k = ys.take k) := heq
      clear heq
      by_cases hlt : k < xs.length
      · have hlt2 : k < ys.length := HE.out ▸ hlt
        obtain ⟨b1, o1, rfl, hb1, hc1⟩ := h.at hlt
        obtain ⟨b2, o2, rfl, hb2, hc2⟩ := g.at hlt2
        have hcx := (hbel.cell (p := ⟨b1, o1 + k, none⟩) hb1).trans (hc1 k hlt)
        have hcy := (hbel.cell (p := ⟨b2, o2 + k, none⟩) hb2).trans (hc2 k hlt2)
        go_wp2
        go_quiet (fail)
        go_wp2
        · go_ret
          exact ⟨ret_bool (eqL_at hlt hlt2 ‹_›).symm, below_drewN hbel _⟩
        · go_roundw
          case rel => exact ⟨k + 1, by omega, by go_num, take_step hlt hlt2 ‹_› HQ.out, below_drewN hbel _⟩
          case measure => simp [intOf]; omega
      · go_wp2
        go_ret
        exact ⟨ret_bool (eqL_end hlt HE.out HQ.out).symm, hbel⟩
  · have hne : ((xs.length : Int) != (ys.length : Int)) = true := by simp; omega
    go_enter Tryz.func10, Tryz.ntmps10
    go_wp2
    go_ret
    exact ⟨ret_bool (eqL_len he).symm, Below.refl _ _⟩
end Go.Proofs.YthnppodnjokaoaaGreatDoor
namespace Go.Proofs.YthnppodnjokaoaaGreatDoor
open Go.RowKit

theorem toIntS_own (a : Option Addr) (c : Nat) (zs : List Int) (w : World) (h : Reads w a zs) (hl : zs.length ≤ 1048576) :
    Calls Tryz.prog 7 #[.slice a zs.length c] w fun e w' => ∃ v, e = .returned v ∧ OwnInts w' w.heap.size 3 v zs ∧ Below w.heap.size w w' := by
  refine (toIntS_any a c zs w h hl).mono ?_
  rintro e w1 ⟨b, rfl, hb, hr, hl1⟩
  exact ⟨_, rfl, OwnInts.of_row hr hb (by unfold maxLen; omega), hl1⟩

theorem eqIntS_own (b1 b2 : Nat) (u v : Value) (xs ys : List Int) (w : World) (h : OwnInts w b1 3 u xs) (g : OwnInts w b2 3 v ys) (hl : xs.length ≤ 1048576 * 4) :
    Calls Tryz.prog 10 #[u, v] w fun e w' => e = .returned (.bool (eqL xs ys)) ∧ Below w.heap.size w w' := by
  obtain ⟨a, c, rfl, hr, _⟩ := h.shape
  obtain ⟨a2, c2, rfl, gr, _⟩ := g.shape
  exact eqIntS_any a a2 c c2 xs ys w hr gr hl

end Go.Proofs.YthnppodnjokaoaaGreatDoor
namespace Go.Proofs.YthnppodnjokaoaaGreatDoor
open Go.RowKit

theorem toIntS_l (xs : List Int) (a : Option Addr) (c : Nat) (w : World) (h : RD w (.slice a xs.length c) (slD Lay.int xs)) (hn : (Lay.list Lay.int).wt xs ≤ 1048576) :
    Calls Tryz.prog 7 #[.slice a xs.length c] w fun e w' => ∃ v S, e = .returned v ∧ OD w' w.heap.size v (slD Lay.int xs) S ∧ Below w.heap.size w w' := by
  rw [Lay.wt_ints] at hn
  refine (toIntS_own a c xs w h.reads hn).mono ?_
  rintro e w1 ⟨v, rfl, ho, hb⟩
  exact ⟨v, _, rfl, ho.od, hb⟩
theorem eqIntS_l (xs : List Int) (a b : Option Addr) (c d : Nat) (w : World) (h : RD w (.slice a xs.length c) (slD Lay.int xs)) (g : RD w (.slice b xs.length d) (slD Lay.int xs)) (hn : (Lay.list Lay.int).wt xs ≤ 4194304) :
    Calls Tryz.prog 10 #[.slice a xs.length c, .slice b xs.length d] w fun e w' => e = .returned (.bool true) ∧ Below w.heap.size w w' := by
  rw [Lay.wt_ints] at hn
  refine (eqIntS_any a b c d xs xs w h.reads g.reads hn).mono ?_
  rintro e w1 ⟨rfl, hb⟩
  exact ⟨by rw [eqL_self], hb⟩
theorem szIntS_l (xs : List Int) (a : Option Addr) (c : Nat) (l : Int) (w : World) (_ : RD w (.slice a xs.length c) (slD Lay.int xs)) (hf : (Lay.list Lay.int).fit xs) (h0 : 0 ≤ l) (h1 : l ≤ 1048576) :
    Calls Tryz.prog 32 #[.slice a xs.length c, .int .i64 l] w fun e w' => ∃ r, e = .returned (.int .i64 r) ∧ SzE ((Lay.list Lay.int).wt xs) l r ∧ Below w.heap.size w w' := by
  have hm := hf.1
  unfold maxLen at hm
  rw [Lay.wt_ints]
  by_cases hbig : l < (xs.length : Int)
  · go_enter Tryz.func32, Tryz.ntmps32
    go_wp2
    go_ret
    exact ⟨_, rfl, .inl rfl, Below.refl _ _⟩
  · go_enter Tryz.func32, Tryz.ntmps32
    go_wp2
    go_ret
    exact ⟨_, rfl, .inr ⟨by omega, rfl⟩, Below.refl _ _⟩

end Go.Proofs.YthnppodnjokaoaaGreatDoor
namespace Go.Proofs.YthnppodnjokaoaaGreatDoor
open Go.RowKit

theorem Tryz.infoIntS : (Tryz.prog.info? 25).map (fun i => (i.zero, i.size, i.bytes)) = some (some (.slice none 0 0), 1, 24) := by kernel_rfl

set_option maxRecDepth 100000 in
theorem toIntSS_l (xs : List (List Int)) (a : Option Addr) (c : Nat) (w : World) (h : RD w (.slice a xs.length c) (slD (Lay.list Lay.int) xs)) (hn : (Lay.list (Lay.list Lay.int)).wt xs ≤ 1048576) :
    Calls Tryz.prog 24 #[.slice a xs.length c] w fun e w' => ∃ v S, e = .returned v ∧ OD w' w.heap.size v (slD (Lay.list Lay.int) xs) S ∧ Below w.heap.size w w' := by
  rw [Lay.wt_list] at hn
  obtain ⟨W, hmk, O0, B0⟩ := make_ownL (P := Tryz.prog) w 42 25 (.slice none 0 0) 24 [.slice none 0 0] [.sl 0 []] xs.length Tryz.underlying42 Tryz.infoIntS rfl (by decide) (by omega) (by decide) (by intro u hu; simp at hu; subst hu; rfl) rfl
    (by intro W base i hi hi'; match i, hi with | 0, _ => exact .nil 0 rfl)
  rw [zero_cells (L := (Lay.list Lay.int)) (z := []) (zd := [.sl 0 []]) rfl] at O0
  go_enter Tryz.func24, Tryz.ntmps24
  go_wp2
  go_loopw [4] (fun i wr => ∃ (k : Nat) (S : Nat → Prop), k ≤ xs.length ∧ i = .int .i64 k ∧ OL wr w.heap.size 25 1 (.slice (some ⟨w.heap.size, 0, none⟩) xs.length xs.length) xs.length ((xs.take k ++ List.replicate (xs.length - k) []).flatMap (Lay.list Lay.int).cells) S ∧ Below w.heap.size w wr) (fun i _ => xs.length - (intOf i).toNat)
  case atStart => exact ⟨0, _, Nat.zero_le _, rfl, by simpa using O0, B0⟩
  case round =>
    obtain ⟨k, S, hk, rfl, hown, hbel⟩ := hrel
    by_cases hlt : k < xs.length
    · obtain ⟨b1, o1, rfl, hb1, a1, c1, q0, r1⟩ := (h.later hbel).listAt hlt
      have hk2 := Lay.sumL_at (Lay.list Lay.int) hlt
      have X : Hid (Calls Tryz.prog 7 #[.slice a1 xs[k].length c1] wr fun e w' => ∃ v S, e = .returned v ∧ OD w' wr.heap.size v (slD Lay.int xs[k]) S ∧ Below wr.heap.size wr w') :=
        toIntS_l xs[k] a1 c1 wr r1 (by omega)
      have HP : Hid ((xs.take k ++ List.replicate (xs.length - k) []).set k xs[k] = xs.take (k + 1) ++ List.replicate (xs.length - (k + 1)) []) := put_step hlt
      have hkL : k < (xs.take k ++ List.replicate (xs.length - k) []).length := by simp; omega
      generalize xs.take k ++ List.replicate (xs.length - k) [] = M at *
      generalize xs[k] = y at *
      clear h r1 hmk O0 B0 hk2
      go_wp2_with fail
      refine X.out.mono ?_
      rintro e w1 ⟨v, T, rfl, O1, hb2⟩
      obtain ⟨av, cv, rfl, _⟩ := OD.shapeL O1
      have B1 := hbel.trans (hb2.mono hbel.size)
      have own1 := hown.later hb2
      have hsz := hbel.size
      obtain ⟨S', O2, hS', G2, hSg, ⟨z0, c0⟩, f0⟩ := own1.putList hkL (.slice av y.length cv) y T (O1.base hsz) (fun k hk hk2 => by have h1 := (O1.lt k hk).1; have h2 := (hown.lt k hk2).2; omega)
      rw [HP.out] at O2
      have B2 := B1.grown G2 B1.size (fun k hk => by cases hk; exact Nat.le_refl _)
      have hz1 : w.heap.size < w1.heap.size := Nat.lt_of_lt_of_le (hown.lt _ hSg).2 hb2.size
      clear X hown own1 O1 hbel hb2 HP G2 q0 hb1 hkL B1
      go_wp2
      go_roundw
      case rel => exact ⟨k + 1, S', by omega, by go_num, O2, B2⟩
      case measure => simp [intOf]; omega
    · have e : k = xs.length := by omega
      subst e
      go_wp2
      go_ret
      exact ⟨_, _, rfl, by simpa [slD] using hown.od, hbel⟩

theorem eqIntSS_l (xs : List (List Int)) (a b : Option Addr) (c d : Nat) (w : World) (h : RD w (.slice a xs.length c) (slD (Lay.list Lay.int) xs)) (g : RD w (.slice b xs.length d) (slD (Lay.list Lay.int) xs)) (hn : (Lay.list (Lay.list Lay.int)).wt xs ≤ 4194304) :
    Calls Tryz.prog 31 #[.slice a xs.length c, .slice b xs.length d] w fun e w' => e = .returned (.bool true) ∧ Below w.heap.size w w' := by
  rw [Lay.wt_list] at hn
  go_enter Tryz.func31, Tryz.ntmps31
  go_wp2
  go_loopw [5] (fun i wr => ∃ k : Nat, k ≤ xs.length ∧ i = .int .i64 k ∧ Below w.heap.size w wr) (fun i _ => xs.length - (intOf i).toNat)
  case atStart => exact ⟨0, Nat.zero_le _, rfl, Below.refl _ _⟩
  case round =>
    obtain ⟨k, hk, rfl, hbel⟩ := hrel
    by_cases hlt : k < xs.length
    · obtain ⟨b1, o1, rfl, hb1, a1, c1, q0, r1⟩ := (h.later hbel).listAt hlt
      obtain ⟨b2, o2, rfl, hb2, a2, c2, p0, r2⟩ := (g.later hbel).listAt hlt
      have hk2 := Lay.sumL_at (Lay.list Lay.int) hlt
      have X : Hid (Calls Tryz.prog 10 #[.slice a1 xs[k].length c1, .slice a2 xs[k].length c2] wr.drew fun e w' => e = .returned (.bool true) ∧ Below wr.heap.size wr w') :=
        (eqIntS_l xs[k] a1 a2 c1 c2 wr.drew (r1.later (below_drew 1)) (r2.later (below_drew 1)) (by omega)).mono fun e w' h => ⟨h.1, ⟨h.2.os, h.2.tape, h.2.output, h.2.size, h.2.block⟩⟩
      clear h g r1 r2 hk2
      generalize xs[k] = y at *
      go_wp2
      go_region_with (go_at_call 10; refine X.out.mono ?_; rintro e w1 ⟨rfl, hl1⟩)
      all_goals
        go_wp2
        go_roundw
        case rel => exact ⟨k + 1, by omega, by go_num, hbel.trans (hl1.mono hbel.size)⟩
        case measure => simp [intOf]; omega
    · go_wp2
      go_ret
      exact ⟨rfl, hbel⟩

set_option maxRecDepth 100000 in
theorem szIntSS_l (xs : List (List Int)) (a : Option Addr) (c : Nat) (l : Int) (w : World) (h : RD w (.slice a xs.length c) (slD (Lay.list Lay.int) xs)) (hf : (Lay.list (Lay.list Lay.int)).fit xs) (h0 : 0 ≤ l) (h1 : l ≤ 1048576) :
    Calls Tryz.prog 19 #[.slice a xs.length c, .int .i64 l] w fun e w' => ∃ r, e = .returned (.int .i64 r) ∧ SzE ((Lay.list (Lay.list Lay.int)).wt xs) l r ∧ Below w.heap.size w w' := by
  obtain ⟨hm, hfe⟩ := hf
  unfold maxLen at hm
  rw [Lay.wt_list]
  by_cases hbig : l < (xs.length : Int)
  · go_enter Tryz.func19, Tryz.ntmps19
    go_wp2
    go_ret
    exact ⟨_, rfl, .inl rfl, Below.refl _ _⟩
  · go_enter Tryz.func19, Tryz.ntmps19
    go_wp2
    go_loopw [1, 5] (fun sl i wr => ∃ (k : Nat) (x : Int), k ≤ xs.length ∧ i = .int .i64 k ∧ sl = .int .i64 x ∧ 0 ≤ x ∧ Hid (x + xs.length + Lay.sumL (Lay.list Lay.int) (xs.take k) = l) ∧ Below w.heap.size w wr) (fun _ i _ => xs.length - (intOf i).toNat)
    case atStart => exact ⟨0, l - xs.length, Nat.zero_le _, rfl, rfl, by omega, by show _ = _; simp [Lay.sumL], Below.refl _ _⟩
    case round =>
      obtain ⟨k, x, hk, rfl, rfl, hx0, HXL, hbel⟩ := hrel
      by_cases hlt : k < xs.length
      · obtain ⟨b1, o1, rfl, hb1, a1, c1, q0, r1⟩ := (h.later hbel).listAt hlt
        have fe := hfe xs[k] (List.getElem_mem hlt)
        have HW : Hid (Lay.sumL (Lay.list Lay.int) (xs.take (k + 1)) = Lay.sumL (Lay.list Lay.int) (xs.take k) + (Lay.list Lay.int).wt xs[k]) := Lay.sumL_take _ hlt
        have hx1 : x ≤ 1048576 := by have := HXL.out; omega
        have X : Hid (Calls Tryz.prog 32 #[.slice a1 xs[k].length c1, .int .i64 x] wr fun e w' => ∃ r, e = .returned (.int .i64 r) ∧ SzE ((Lay.list Lay.int).wt xs[k]) x r ∧ Below wr.heap.size wr w') :=
          szIntS_l xs[k] a1 c1 x wr r1 fe hx0 hx1
        clear h r1 fe hfe
        generalize (Lay.list Lay.int).wt xs[k] = wk at *
        generalize xs[k] = y at *
        go_wp2_with fail
        refine X.out.mono ?_
        rintro e w1 ⟨r, rfl, hr, hb2⟩
        have B2 := hbel.trans (hb2.mono hbel.size)
        clear X hb2 q0
        rcases hr with rfl | ⟨hr0, hr1⟩
        · go_wp2
          go_ret
          exact ⟨_, rfl, .inl rfl, B2⟩
        · have HR : Hid (r = x - (wk : Nat)) := hr1
          clear hr1
          go_wp2
          go_roundw
          case rel => exact ⟨k + 1, r, by omega, by go_num, rfl, hr0, by show _ = _; rw [HW.out]; have h1 := HXL.out; have h2 := HR.out; omega, B2⟩
          case measure => simp [intOf]; omega
      · have e : k = xs.length := by omega
        subst e
        have HE : Hid (x = l - (xs.length + Lay.sumL (Lay.list Lay.int) xs : Nat)) := by have := HXL.out; rw [List.take_length] at this; show _ = _; omega
        clear HXL
        go_wp2
        go_ret
        exact ⟨_, rfl, .inr ⟨hx0, HE.out⟩, hbel⟩

end Go.Proofs.YthnppodnjokaoaaGreatDoor
namespace Go.Proofs.YthnppodnjokaoaaGreatDoor
open Go.RowKit

theorem Tryz.infoIntSS : (Tryz.prog.info? 42).map (fun i => (i.zero, i.size, i.bytes)) = some (some (.slice none 0 0), 1, 24) := by kernel_rfl

set_option maxRecDepth 100000 in
theorem toIntSSS_l (xs : List (List (List Int))) (a : Option Addr) (c : Nat) (w : World) (h : RD w (.slice a xs.length c) (slD (Lay.list (Lay.list Lay.int)) xs)) (hn : (Lay.list (Lay.list (Lay.list Lay.int))).wt xs ≤ 1048576) :
    Calls Tryz.prog 15 #[.slice a xs.length c] w fun e w' => ∃ v S, e = .returned v ∧ OD w' w.heap.size v (slD (Lay.list (Lay.list Lay.int)) xs) S ∧ Below w.heap.size w w' := by
  rw [Lay.wt_list] at hn
  obtain ⟨W, hmk, O0, B0⟩ := make_ownL (P := Tryz.prog) w 22 42 (.slice none 0 0) 24 [.slice none 0 0] [.sl 0 []] xs.length Tryz.underlying22 Tryz.infoIntSS rfl (by decide) (by omega) (by decide) (by intro u hu; simp at hu; subst hu; rfl) rfl
    (by intro W base i hi hi'; match i, hi with | 0, _ => exact .nil 0 rfl)
  rw [zero_cells (L := (Lay.list (Lay.list Lay.int))) (z := []) (zd := [.sl 0 []]) rfl] at O0
  go_enter Tryz.func15, Tryz.ntmps15
  go_wp2
  go_loopw [4] (fun i wr => ∃ (k : Nat) (S : Nat → Prop), k ≤ xs.length ∧ i = .int .i64 k ∧ OL wr w.heap.size 42 1 (.slice (some ⟨w.heap.size, 0, none⟩) xs.length xs.length) xs.length ((xs.take k ++ List.replicate (xs.length - k) []).flatMap (Lay.list (Lay.list Lay.int)).cells) S ∧ Below w.heap.size w wr) (fun i _ => xs.length - (intOf i).toNat)
  case atStart => exact ⟨0, _, Nat.zero_le _, rfl, by simpa using O0, B0⟩
  case round =>
    obtain ⟨k, S, hk, rfl, hown, hbel⟩ := hrel
    by_cases hlt : k < xs.length
    · obtain ⟨b1, o1, rfl, hb1, a1, c1, q0, r1⟩ := (h.later hbel).listAt hlt
      have hk2 := Lay.sumL_at (Lay.list (Lay.list Lay.int)) hlt
      have X : Hid (Calls Tryz.prog 24 #[.slice a1 xs[k].length c1] wr fun e w' => ∃ v S, e = .returned v ∧ OD w' wr.heap.size v (slD (Lay.list Lay.int) xs[k]) S ∧ Below wr.heap.size wr w') :=
        toIntSS_l xs[k] a1 c1 wr r1 (by omega)
      have HP : Hid ((xs.take k ++ List.replicate (xs.length - k) []).set k xs[k] = xs.take (k + 1) ++ List.replicate (xs.length - (k + 1)) []) := put_step hlt
      have hkL : k < (xs.take k ++ List.replicate (xs.length - k) []).length := by simp; omega
      generalize xs.take k ++ List.replicate (xs.length - k) [] = M at *
      generalize xs[k] = y at *
      clear h r1 hmk O0 B0 hk2
      go_wp2_with fail
      refine X.out.mono ?_
      rintro e w1 ⟨v, T, rfl, O1, hb2⟩
      obtain ⟨av, cv, rfl, _⟩ := OD.shapeL O1
      have B1 := hbel.trans (hb2.mono hbel.size)
      have own1 := hown.later hb2
      have hsz := hbel.size
      obtain ⟨S', O2, hS', G2, hSg, ⟨z0, c0⟩, f0⟩ := own1.putList hkL (.slice av y.length cv) y T (O1.base hsz) (fun k hk hk2 => by have h1 := (O1.lt k hk).1; have h2 := (hown.lt k hk2).2; omega)
      rw [HP.out] at O2
      have B2 := B1.grown G2 B1.size (fun k hk => by cases hk; exact Nat.le_refl _)
      have hz1 : w.heap.size < w1.heap.size := Nat.lt_of_lt_of_le (hown.lt _ hSg).2 hb2.size
      clear X hown own1 O1 hbel hb2 HP G2 q0 hb1 hkL B1
      go_wp2
      go_roundw
      case rel => exact ⟨k + 1, S', by omega, by go_num, O2, B2⟩
      case measure => simp [intOf]; omega
    · have e : k = xs.length := by omega
      subst e
      go_wp2
      go_ret
      exact ⟨_, _, rfl, by simpa [slD] using hown.od, hbel⟩

theorem eqIntSSS_l (xs : List (List (List Int))) (a b : Option Addr) (c d : Nat) (w : World) (h : RD w (.slice a xs.length c) (slD (Lay.list (Lay.list Lay.int)) xs)) (g : RD w (.slice b xs.length d) (slD (Lay.list (Lay.list Lay.int)) xs)) (hn : (Lay.list (Lay.list (Lay.list Lay.int))).wt xs ≤ 4194304) :
    Calls Tryz.prog 18 #[.slice a xs.length c, .slice b xs.length d] w fun e w' => e = .returned (.bool true) ∧ Below w.heap.size w w' := by
  rw [Lay.wt_list] at hn
  go_enter Tryz.func18, Tryz.ntmps18
  go_wp2
  go_loopw [5] (fun i wr => ∃ k : Nat, k ≤ xs.length ∧ i = .int .i64 k ∧ Below w.heap.size w wr) (fun i _ => xs.length - (intOf i).toNat)
  case atStart => exact ⟨0, Nat.zero_le _, rfl, Below.refl _ _⟩
  case round =>
    obtain ⟨k, hk, rfl, hbel⟩ := hrel
    by_cases hlt : k < xs.length
    · obtain ⟨b1, o1, rfl, hb1, a1, c1, q0, r1⟩ := (h.later hbel).listAt hlt
      obtain ⟨b2, o2, rfl, hb2, a2, c2, p0, r2⟩ := (g.later hbel).listAt hlt
      have hk2 := Lay.sumL_at (Lay.list (Lay.list Lay.int)) hlt
      have X : Hid (Calls Tryz.prog 31 #[.slice a1 xs[k].length c1, .slice a2 xs[k].length c2] wr.drew fun e w' => e = .returned (.bool true) ∧ Below wr.heap.size wr w') :=
        (eqIntSS_l xs[k] a1 a2 c1 c2 wr.drew (r1.later (below_drew 1)) (r2.later (below_drew 1)) (by omega)).mono fun e w' h => ⟨h.1, ⟨h.2.os, h.2.tape, h.2.output, h.2.size, h.2.block⟩⟩
      clear h g r1 r2 hk2
      generalize xs[k] = y at *
      go_wp2
      go_region_with (go_at_call 31; refine X.out.mono ?_; rintro e w1 ⟨rfl, hl1⟩)
      all_goals
        go_wp2
        go_roundw
        case rel => exact ⟨k + 1, by omega, by go_num, hbel.trans (hl1.mono hbel.size)⟩
        case measure => simp [intOf]; omega
    · go_wp2
      go_ret
      exact ⟨rfl, hbel⟩

set_option maxRecDepth 100000 in
theorem szIntSSS_l (xs : List (List (List Int))) (a : Option Addr) (c : Nat) (l : Int) (w : World) (h : RD w (.slice a xs.length c) (slD (Lay.list (Lay.list Lay.int)) xs)) (hf : (Lay.list (Lay.list (Lay.list Lay.int))).fit xs) (h0 : 0 ≤ l) (h1 : l ≤ 1048576) :
    Calls Tryz.prog 11 #[.slice a xs.length c, .int .i64 l] w fun e w' => ∃ r, e = .returned (.int .i64 r) ∧ SzE ((Lay.list (Lay.list (Lay.list Lay.int))).wt xs) l r ∧ Below w.heap.size w w' := by
  obtain ⟨hm, hfe⟩ := hf
  unfold maxLen at hm
  rw [Lay.wt_list]
  by_cases hbig : l < (xs.length : Int)
  · go_enter Tryz.func11, Tryz.ntmps11
    go_wp2
    go_ret
    exact ⟨_, rfl, .inl rfl, Below.refl _ _⟩
  · go_enter Tryz.func11, Tryz.ntmps11
    go_wp2
    go_loopw [1, 5] (fun sl i wr => ∃ (k : Nat) (x : Int), k ≤ xs.length ∧ i = .int .i64 k ∧ sl = .int .i64 x ∧ 0 ≤ x ∧ Hid (x + xs.length + Lay.sumL (Lay.list (Lay.list Lay.int)) (xs.take k) = l) ∧ Below w.heap.size w wr) (fun _ i _ => xs.length - (intOf i).toNat)
    case atStart => exact ⟨0, l - xs.length, Nat.zero_le _, rfl, rfl, by omega, by show _ = _; simp [Lay.sumL], Below.refl _ _⟩
    case round =>
      obtain ⟨k, x, hk, rfl, rfl, hx0, HXL, hbel⟩ := hrel
      by_cases hlt : k < xs.length
      · obtain ⟨b1, o1, rfl, hb1, a1, c1, q0, r1⟩ := (h.later hbel).listAt hlt
        have fe := hfe xs[k] (List.getElem_mem hlt)
        have HW : Hid (Lay.sumL (Lay.list (Lay.list Lay.int)) (xs.take (k + 1)) = Lay.sumL (Lay.list (Lay.list Lay.int)) (xs.take k) + (Lay.list (Lay.list Lay.int)).wt xs[k]) := Lay.sumL_take _ hlt
        have hx1 : x ≤ 1048576 := by have := HXL.out; omega
        have X : Hid (Calls Tryz.prog 19 #[.slice a1 xs[k].length c1, .int .i64 x] wr fun e w' => ∃ r, e = .returned (.int .i64 r) ∧ SzE ((Lay.list (Lay.list Lay.int)).wt xs[k]) x r ∧ Below wr.heap.size wr w') :=
          szIntSS_l xs[k] a1 c1 x wr r1 fe hx0 hx1
        clear h r1 fe hfe
        generalize (Lay.list (Lay.list Lay.int)).wt xs[k] = wk at *
        generalize xs[k] = y at *
        go_wp2_with fail
        refine X.out.mono ?_
        rintro e w1 ⟨r, rfl, hr, hb2⟩
        have B2 := hbel.trans (hb2.mono hbel.size)
        clear X hb2 q0
        rcases hr with rfl | ⟨hr0, hr1⟩
        · go_wp2
          go_ret
          exact ⟨_, rfl, .inl rfl, B2⟩
        · have HR : Hid (r = x - (wk : Nat)) := hr1
          clear hr1
          go_wp2
          go_roundw
          case rel => exact ⟨k + 1, r, by omega, by go_num, rfl, hr0, by show _ = _; rw [HW.out]; have h1 := HXL.out; have h2 := HR.out; omega, B2⟩
          case measure => simp [intOf]; omega
      · have e : k = xs.length := by omega
        subst e
        have HE : Hid (x = l - (xs.length + Lay.sumL (Lay.list (Lay.list Lay.int)) xs : Nat)) := by have := HXL.out; rw [List.take_length] at this; show _ = _; omega
        clear HXL
        go_wp2
        go_ret
        exact ⟨_, rfl, .inr ⟨hx0, HE.out⟩, hbel⟩

end Go.Proofs.YthnppodnjokaoaaGreatDoor
namespace Go.Proofs.YthnppodnjokaoaaGreatDoor
open Go.RowKit

theorem Tryz.infoBool : (Tryz.prog.info? 4).map (fun i => (i.zero, i.size, i.bytes)) = some (some (.bool false), 1, 1) := by kernel_rfl
theorem Tryz.infoBoolS : (Tryz.prog.info? 80).map (fun i => (i.zero, i.size, i.bytes)) = some (some (.slice none 0 0), 1, 24) := by kernel_rfl

/-- The table while it is made: kW rows of the one list, kD of the other. -/
def NewIn (ws : List Int) (aP : Option Addr) (cP lP : Nat) (aw : Option Addr) (cw : Nat) (w : World) (vW vD : Value) (bW bD τ : Nat → Nat) (kW kD : Nat) (wr : World) : Prop :=
  Half w.heap.size (w.heap.size + 1) 2 42 25 (ws.length + 1) (.slice none 0 0) 1 τ vW bW kW wr ∧ Half w.heap.size (w.heap.size + 1) 3 80 4 (ws.length + 1) (.bool false) 2 τ vD bD kD wr ∧ τ w.heap.size = 0 ∧ τ (w.heap.size + 1) = 0 ∧
    Below w.heap.size w wr ∧ w.heap.size + 1 < wr.heap.size ∧ wr.cell? ⟨w.heap.size, 0, none⟩ = some (.slice aP lP cP) ∧ wr.cell? ⟨w.heap.size + 1, 0, none⟩ = some (.slice aP lP cP) ∧ wr.cell? ⟨w.heap.size + 1, 1, none⟩ = some (.slice aw ws.length cw) ∧ ∀ i, wr.frozen? ⟨w.heap.size + 1, i, none⟩ = false
section
variable {ws : List Int} {aP : Option Addr} {cP lP : Nat} {aw : Option Addr} {cw : Nat} {w : World} {vW vD : Value} {bW bD τ : Nat → Nat} {kW kD : Nat} {wr w1 w3 : World} {g3 cap3 : Nat}
theorem NewIn.start {tG tT : TypeId} : NewIn ws aP cP lP aw cw w (.slice none 0 0) (.slice none 0 0) (fun _ => 0) (fun _ => 0) (fun _ => 0) 0 0 ((w.alloc (.cells #[.slice aP lP cP] tG)).alloc (.cells #[.slice aP lP cP, .slice aw ws.length cw, .slice none 0 0, .slice none 0 0] tT)) := by
  have hb : Below w.heap.size w ((w.alloc (.cells #[.slice aP lP cP] tG)).alloc (.cells #[.slice aP lP cP, .slice aw ws.length cw, .slice none 0 0, .slice none 0 0] tT)) := ((Below.refl _ _).alloc (Nat.le_refl _) _).alloc (by simp) _
  have hs : (w.alloc (.cells #[.slice aP lP cP] tG)).heap.size = w.heap.size + 1 := by simp
  have key : ∀ (W : World) (cs : Array Value) (t : TypeId) (i : Nat), (W.alloc (.cells cs t)).cell? ⟨W.heap.size, i, none⟩ = cs[i]? := fun W cs t i => by simp
  have k2 := fun i => key (w.alloc (.cells #[.slice aP lP cP] tG)) #[.slice aP lP cP, .slice aw ws.length cw, .slice none 0 0, .slice none 0 0] tT i
  rw [hs] at k2
  refine ⟨⟨k2 2, World.ownsRow_nil _ _ _ _, fun i h => by omega, fun i h => by omega, fun g h => by simp [Value.ownBlock] at h, fun i h => by omega⟩, ⟨k2 3, World.ownsRow_nil _ _ _ _, fun i h => by omega, fun i h => by omega, fun g h => by simp [Value.ownBlock] at h, fun i h => by omega⟩, rfl, rfl, hb, by simp, ?_, k2 0, k2 1, fun i => ?_⟩
  · rw [World.cell?_alloc_lt _ _ _ (by simp)]; exact key w _ _ 0
  · rw [frozen?_alloc_cells, frozen?_alloc_cells]; simp [World.frozen?]
theorem NewIn.stepW (h : NewIn ws aP cP lP aw cw w vW vD bW bD τ kW kD wr) (hb1 : Below wr.heap.size wr w1) (hs1 : w1.heap.size = wr.heap.size + 2) (hrow : w1.rowIs wr.heap.size 25 (ws.length + 1) (fun _ => .slice none 0 0))
    (hown : w3.ownsRow w.heap.size 42 1 (.slice (some ⟨g3, 0, none⟩) (kW + 1) cap3) (kW + 1) (rowsAt bW (ws.length + 1) kW ++ [.slice (some ⟨wr.heap.size, 0, none⟩) (ws.length + 1) (ws.length + 1)])) (hgr : w1.grownBy w3 vW.ownBlock) (hat : vW.ownBlock = some g3 ∨ g3 = wr.heap.size + 2) :
    (w3.cell? ⟨w.heap.size + 1, 2, none⟩ = some vW ∧ w3.frozen? ⟨w.heap.size + 1, 2, none⟩ = false) ∧ ∃ v' b' τ', NewIn ws aP cP lP aw cw w v' vD b' bD τ' (kW + 1) kD (w3.setCell ⟨w.heap.size + 1, 2, none⟩ (.slice (some ⟨g3, 0, none⟩) (kW + 1) cap3)) := by
  obtain ⟨HW, HD, t0, t1, hb, hl, c0, c1, c2, hf⟩ := h
  have hgw : wr.grownBy w3 vW.ownBlock := grownBy_trans (grownBy_of_below hb1 _) hgr
  have nT : ∀ b, τ b = 0 → some b ≠ vW.ownBlock := fun b e e2 => by have := HW.tagV b e2.symm; omega
  have k0 := hgw.block w.heap.size (by omega) (nT _ t0)
  have k1 := hgw.block (w.heap.size + 1) hl (nT _ t1)
  refine ⟨⟨by rw [blk_cell k1]; exact HW.cell, by rw [blk_frozen k1]; exact hf 2⟩, ?_⟩
  obtain ⟨τ', e1, H'⟩ := HW.grown (.inl rfl) hb1 (Nat.le_refl _) hb.size hrow hown hgr (hat.imp id (fun e => by omega)) rfl hl t1
  have t0' : τ' w.heap.size = 0 := by rw [e1 _ (by omega)]; exact t0
  have t1' : τ' (w.heap.size + 1) = 0 := by rw [e1 _ hl]; exact t1
  have D1 := HD.kept (τ' := τ') (blk_cell k1) hgw (fun b e => by
    have := HW.tagV b e
    exact ⟨by omega, fun i _ => by omega⟩) e1
  have D2 := D1.kept (τ' := τ') (cell_set_off (x := .slice (some ⟨g3, 0, none⟩) (kW + 1) cap3) (.inr (by decide))) (setCell_grows w3 (w.heap.size + 1) 2 (.slice (some ⟨g3, 0, none⟩) (kW + 1) cap3)) (fun b e => by
    obtain rfl := Option.some.inj e
    exact ⟨by omega, fun i _ => by omega⟩) (fun _ _ => rfl)
  refine ⟨_, _, τ', H', D2, t0', t1', ?_, ?_, ?_, ?_, ?_, fun i => ?_⟩
  · exact (hb.grown hgw hb.size (fun k hk => (HW.own.lt k hk).1)).setCell (Nat.le_succ _) _
  · have := hgw.size; simp; omega
  · rw [cell_set_off (.inl (by omega)), blk_cell k0]; exact c0
  · rw [cell_set_off (.inr (by decide)), blk_cell k1]; exact c1
  · rw [cell_set_off (.inr (by decide)), blk_cell k1]; exact c2
  · rw [World.frozen?_setCell, blk_frozen k1]; exact hf i
theorem NewIn.stepD (h : NewIn ws aP cP lP aw cw w vW vD bW bD τ kW kD wr) (hb1 : Below wr.heap.size wr w1) (hs1 : w1.heap.size = wr.heap.size + 2) (hrow : w1.rowIs wr.heap.size 4 (ws.length + 1) (fun _ => .bool false))
    (hown : w3.ownsRow w.heap.size 80 1 (.slice (some ⟨g3, 0, none⟩) (kD + 1) cap3) (kD + 1) (rowsAt bD (ws.length + 1) kD ++ [.slice (some ⟨wr.heap.size, 0, none⟩) (ws.length + 1) (ws.length + 1)])) (hgr : w1.grownBy w3 vD.ownBlock) (hat : vD.ownBlock = some g3 ∨ g3 = wr.heap.size + 2) :
    (w3.cell? ⟨w.heap.size + 1, 3, none⟩ = some vD ∧ w3.frozen? ⟨w.heap.size + 1, 3, none⟩ = false) ∧ ∃ v' b' τ', NewIn ws aP cP lP aw cw w vW v' bW b' τ' kW (kD + 1) (w3.setCell ⟨w.heap.size + 1, 3, none⟩ (.slice (some ⟨g3, 0, none⟩) (kD + 1) cap3)) := by
  obtain ⟨HY, HX, t0, t1, hb, hl, c0, c1, c2, hf⟩ := h
  have hgw : wr.grownBy w3 vD.ownBlock := grownBy_trans (grownBy_of_below hb1 _) hgr
  have nT : ∀ b, τ b = 0 → some b ≠ vD.ownBlock := fun b e e2 => by have := HX.tagV b e2.symm; omega
  have k0 := hgw.block w.heap.size (by omega) (nT _ t0)
  have k1 := hgw.block (w.heap.size + 1) hl (nT _ t1)
  refine ⟨⟨by rw [blk_cell k1]; exact HX.cell, by rw [blk_frozen k1]; exact hf 3⟩, ?_⟩
  obtain ⟨τ', e1, H'⟩ := HX.grown (.inr rfl) hb1 (Nat.le_refl _) hb.size hrow hown hgr (hat.imp id (fun e => by omega)) rfl hl t1
  have t0' : τ' w.heap.size = 0 := by rw [e1 _ (by omega)]; exact t0
  have t1' : τ' (w.heap.size + 1) = 0 := by rw [e1 _ hl]; exact t1
  have D1 := HY.kept (τ' := τ') (blk_cell k1) hgw (fun b e => by
    have := HX.tagV b e
    exact ⟨by omega, fun i _ => by omega⟩) e1
  have D2 := D1.kept (τ' := τ') (cell_set_off (x := .slice (some ⟨g3, 0, none⟩) (kD + 1) cap3) (.inr (by decide))) (setCell_grows w3 (w.heap.size + 1) 3 (.slice (some ⟨g3, 0, none⟩) (kD + 1) cap3)) (fun b e => by
    obtain rfl := Option.some.inj e
    exact ⟨by omega, fun i _ => by omega⟩) (fun _ _ => rfl)
  refine ⟨_, _, τ', D2, H', t0', t1', ?_, ?_, ?_, ?_, ?_, fun i => ?_⟩
  · exact (hb.grown hgw hb.size (fun k hk => (HX.own.lt k hk).1)).setCell (Nat.le_succ _) _
  · have := hgw.size; simp; omega
  · rw [cell_set_off (.inl (by omega)), blk_cell k0]; exact c0
  · rw [cell_set_off (.inr (by decide)), blk_cell k1]; exact c1
  · rw [cell_set_off (.inr (by decide)), blk_cell k1]; exact c2
  · rw [World.frozen?_setCell, blk_frozen k1]; exact hf i
end

theorem new_one (w : World) (o : Obj) (v : Value) (t : TypeId) (h : Nat) (j : Nat) (u : Value) (hu : ([v] : List Value)[j]? = some u) : ((w.alloc o).alloc (.cells #[v] t)).drew.cell? ((⟨w.heap.size + 1, h * 0, none⟩ : Addr).add j) = some u := by
  cases j with
  | zero =>
    simp at hu
    subst hu
    simp [Addr.add]
  | succ j => simp at hu
set_option maxHeartbeats 8000000 in
set_option maxRecDepth 100000 in
theorem l7New_any (P : List (List (List Int))) (ws : List Int) (aP : Option Addr) (cP : Nat) (aw : Option Addr) (cw : Nat) (w : World) (hn : ws.length ≤ 10) (hp : P.length ≤ 20) :
    Calls Tryz.prog 51 #[.agg #[.slice aP P.length cP], .slice aw ws.length cw] w fun e w' => e = .returned (.pointer (some ⟨w.heap.size + 1, 0, none⟩)) ∧ Hid (∃ vW vD bW bD τ, NewIn ws aP cP P.length aw cw w vW vD bW bD τ P.length P.length w') := by
  go_enter Tryz.func51, Tryz.ntmps51
  go_wp2
  go_loopw [6] (fun sk wr => ∃ k : Nat, k ≤ P.length ∧ sk = .int .i64 (k : Int) ∧ Hid (∃ vW vD bW bD τ, NewIn ws aP cP P.length aw cw w vW vD bW bD τ k k wr)) (fun sk _ => P.length - (intOf sk).toNat)
  case atStart =>
    exact ⟨0, Nat.zero_le _, rfl, _, _, _, _, _, NewIn.start⟩
  case round =>
    obtain ⟨wA, hwA⟩ : ∃ y, y = wr := ⟨_, rfl⟩
    subst hwA
    obtain ⟨k, hk, rfl, HK⟩ := hrel
    obtain ⟨vW, vD, bW, bD, τ, HI⟩ := HK.out
    have q0 := HI.2.2.2.2.2.2.1
    by_cases hlt : k < P.length
    · have hmk5 := fun wx => run_make_row' (P := Tryz.prog) 42 25 (.slice none 0 0) 24 Tryz.underlying42 Tryz.infoIntS rfl .i64 .i64 (ws.length + 1) (by omega) (by omega) wx
      have hmk6 := fun wx => run_make_row' (P := Tryz.prog) 80 4 (.bool false) 1 Tryz.underlying80 Tryz.infoBool rfl .i64 .i64 (ws.length + 1) (by omega) (by omega) wx
      rw [show ((ws.length + 1 : Nat) : Int) = (ws.length : Int) + 1 from rfl] at hmk5 hmk6
      go_upto_region 5 with fail
      go_cut [] from 11 to 43 (fun wx => Hid (∃ vW vD bW bD τ, NewIn ws aP cP P.length aw cw w vW vD bW bD τ (k + 1) k wx))
      case first =>
        have qc := HI.1.cell
        have hlA := HI.2.2.2.2.2.1
        have n1 : w.heap.size + 1 ≠ wA.heap.size := by omega
        have n2 : w.heap.size ≠ wA.heap.size := by omega
        have HBN : Hid (Below wA.heap.size wA ((wA.alloc (.cells (madeCells #[.slice none 0 0] (ws.length + 1)) 25)).alloc (.cells #[.slice (some ⟨wA.heap.size, 0, none⟩) (ws.length + 1) (ws.length + 1)] 42)).drew) := (((Below.refl _ _).alloc (Nat.le_refl _) _).alloc (by simp) _).drew
        have HRN : Hid (((wA.alloc (.cells (madeCells #[.slice none 0 0] (ws.length + 1)) 25)).alloc (.cells #[.slice (some ⟨wA.heap.size, 0, none⟩) (ws.length + 1) (ws.length + 1)] 42)).drew.rowIs wA.heap.size 25 (ws.length + 1) (fun _ => .slice none 0 0)) := rowIs_below (World.rowIs_made wA (.slice none 0 0) (ws.length + 1) 25) ((Below.refl _ _).alloc (Nat.le_refl _) _).drew
        have HOWN : Hid (((wA.alloc (.cells (madeCells #[.slice none 0 0] (ws.length + 1)) 25)).alloc (.cells #[.slice (some ⟨wA.heap.size, 0, none⟩) (ws.length + 1) (ws.length + 1)] 42)).drew.ownsRow w.heap.size 42 1 vW k (rowsAt bW (ws.length + 1) k)) := HI.1.own.kept (grownBy_of_below HBN.out none) (by cases vW.ownBlock <;> simp)
        have HNEW : Hid (∀ (j : Nat) (u : Value), ([.slice (some ⟨wA.heap.size, 0, none⟩) (ws.length + 1) (ws.length + 1)] : List Value)[j]? = some u → ((wA.alloc (.cells (madeCells #[.slice none 0 0] (ws.length + 1)) 25)).alloc (.cells #[.slice (some ⟨wA.heap.size, 0, none⟩) (ws.length + 1) (ws.length + 1)] 42)).drew.cell? ((⟨wA.heap.size + 1, 0, none⟩ : Addr).add j) = some u) := fun j u hu => new_one wA _ _ _ 0 j u hu
        have qc2 : ((wA.alloc (.cells (madeCells #[.slice none 0 0] (ws.length + 1)) 25)).alloc (.cells #[.slice (some ⟨wA.heap.size, 0, none⟩) (ws.length + 1) (ws.length + 1)] 42)).cell? ⟨w.heap.size + 1, 2, none⟩ = some vW := (HBN.out.cell (p := ⟨w.heap.size + 1, 2, none⟩) hlA).trans qc
        have HBAS : Hid (w.heap.size ≤ ((wA.alloc (.cells (madeCells #[.slice none 0 0] (ws.length + 1)) 25)).alloc (.cells #[.slice (some ⟨wA.heap.size, 0, none⟩) (ws.length + 1) (ws.length + 1)] 42)).drew.heap.size) := by have := HBN.out.size; have := HI.2.2.2.2.1.size; show _ ≤ _; omega
        have HFIN : Hid (∀ g3 cap3 w3, w3.ownsRow w.heap.size 42 1 (.slice (some ⟨g3, 0, none⟩) (k + 1) cap3) (k + 1) (rowsAt bW (ws.length + 1) k ++ [.slice (some ⟨wA.heap.size, 0, none⟩) (ws.length + 1) (ws.length + 1)]) → ((wA.alloc (.cells (madeCells #[.slice none 0 0] (ws.length + 1)) 25)).alloc (.cells #[.slice (some ⟨wA.heap.size, 0, none⟩) (ws.length + 1) (ws.length + 1)] 42)).drew.grownBy w3 vW.ownBlock → (vW.ownBlock = some g3 ∨ g3 = wA.heap.size + 2) →
          w3.cell? ⟨w.heap.size + 1, 2, none⟩ = some vW ∧ w3.frozen? ⟨w.heap.size + 1, 2, none⟩ = false ∧ Hid (∃ vW vD bW bD τ, NewIn ws aP cP P.length aw cw w vW vD bW bD τ (k + 1) k (w3.setCell ⟨w.heap.size + 1, 2, none⟩ (.slice (some ⟨g3, 0, none⟩) (k + 1) cap3)))) := fun g3 cap3 w3 h1 h2 h3 => by
            obtain ⟨⟨r1, r2⟩, v', b', τ', r3⟩ := HI.stepW HBN.out (by simp) HRN.out h1 h2 h3
            exact ⟨r1, r2, ⟨v', vD, b', bD, τ', r3⟩⟩
        clear HI HK HBN HRN
        refine wp_region_held_drew (S := (fun w' => True)) (by kernel_rfl) trivial (fun hHeld => ?_)
        refine take_atL (i := 0) (d := some 18) (v := .pointer (some ⟨w.heap.size + 1, 0, none⟩)) rfl rfl (by kernel_rfl) (by kernel_rfl) (by kernel_rfl) (fun _ _ _ h => h) (by rfl) ?_ hHeld ?_
        · intro w' hSw; clear hSw; go_simp; first | done | rfl | (refine wrap_in ?_ ?_ <;> omega) | (intro hbad; exfalso; omega)
        try simp only [Act.put, List.setIfInBounds_toArray, List.set_cons_zero, List.set_cons_succ]
        refine take_atL (i := 1) (d := some 19) (v := .pointer (some ⟨w.heap.size + 1, 0, none⟩)) rfl rfl (by kernel_rfl) (by kernel_rfl) (by kernel_rfl) (fun _ _ _ h => h) (by rfl) ?_ hHeld ?_
        · intro w' hSw; clear hSw; go_simp; first | done | rfl | (refine wrap_in ?_ ?_ <;> omega) | (intro hbad; exfalso; omega)
        try simp only [Act.put, List.setIfInBounds_toArray, List.set_cons_zero, List.set_cons_succ]
        refine take_atL (i := 2) (d := some 20) (v := .pointer (some ⟨w.heap.size + 1, 0, none⟩)) rfl rfl (by kernel_rfl) (by kernel_rfl) (by kernel_rfl) (fun _ _ _ h => h) (by rfl) ?_ hHeld ?_
        · intro w' hSw; clear hSw; go_simp; first | done | rfl | (refine wrap_in ?_ ?_ <;> omega) | (intro hbad; exfalso; omega)
        try simp only [Act.put, List.setIfInBounds_toArray, List.set_cons_zero, List.set_cons_succ]
        refine take_atL (i := 3) (d := some 21) (v := .pointer (some ⟨w.heap.size + 1, 2, none⟩)) rfl rfl (by kernel_rfl) (by kernel_rfl) (by kernel_rfl) (fun _ _ _ h => h) (by rfl) ?_ hHeld ?_
        · intro w' hSw; clear hSw; go_simp; first | done | rfl | (refine wrap_in ?_ ?_ <;> omega) | (intro hbad; exfalso; omega)
        try simp only [Act.put, List.setIfInBounds_toArray, List.set_cons_zero, List.set_cons_succ]
        refine take_atL (i := 5) (d := some 23) (v := .slice aw ws.length cw) rfl rfl (by kernel_rfl) (by kernel_rfl) (by kernel_rfl) (fun _ _ _ h => h) (by rfl) ?_ hHeld ?_
        · intro w' hSw; clear hSw; go_simp; first | done | rfl | (refine wrap_in ?_ ?_ <;> omega) | (intro hbad; exfalso; omega)
        try simp only [Act.put, List.setIfInBounds_toArray, List.set_cons_zero, List.set_cons_succ]
        refine take_atL (i := 6) (d := some 24) (v := .int .i64 ((ws.length : Int))) rfl rfl (by kernel_rfl) (by kernel_rfl) (by kernel_rfl) (fun _ _ _ h => h) (by rfl) ?_ hHeld ?_
        · intro w' hSw; clear hSw; go_simp; first | done | rfl | (refine wrap_in ?_ ?_ <;> omega) | (intro hbad; exfalso; omega)
        try simp only [Act.put, List.setIfInBounds_toArray, List.set_cons_zero, List.set_cons_succ]
        refine take_atL (i := 7) (d := some 25) (v := .int .i64 ((ws.length : Int) + 1)) rfl rfl (by kernel_rfl) (by kernel_rfl) (by kernel_rfl) (fun _ _ _ h => h) (by rfl) ?_ hHeld ?_
        · intro w' hSw; clear hSw; go_simp; first | done | rfl | (refine wrap_in ?_ ?_ <;> omega) | (intro hbad; exfalso; omega)
        try simp only [Act.put, List.setIfInBounds_toArray, List.set_cons_zero, List.set_cons_succ]
        refine wpAnyH_ready (rs := [4, 8]) (by kernel_rfl) (by simp) ?_
        refine AllReadyH.cons (o := _) rfl (fun K hK => ?_) (AllReadyH.cons (o := _) rfl (fun K hK => ?_) AllReadyH.nil)
        · rw [if_pos (by rfl)]
          go_simp
          refine hK.out _ _ trivial (fun hHeld => ?_)
          clear hK K
          try simp only [Act.put, List.setIfInBounds_toArray, List.set_cons_zero, List.set_cons_succ]
          refine wpAnyH_ready (rs := [8]) (by kernel_rfl) (by simp) ?_
          refine AllReadyH.cons (o := _) rfl (fun K hK => ?_) AllReadyH.nil
          rw [if_pos (by rfl)]
          go_simp
          refine hK.out _ _ trivial (fun hHeld => ?_)
          clear hK K
          try simp only [Act.put, List.setIfInBounds_toArray, List.set_cons_zero, List.set_cons_succ]
          refine wpAnyH_ready (rs := [9]) (by kernel_rfl) (by simp) ?_
          refine AllReadyH.cons (o := _) rfl (fun K hK => ?_) AllReadyH.nil
          rw [if_pos (by rfl)]
          go_simp
          refine hK.out _ _ trivial (fun hHeld => ?_)
          clear hK K
          try simp only [Act.put, List.setIfInBounds_toArray, List.set_cons_zero, List.set_cons_succ]
          refine wpAnyH_ready (rs := [10]) (by kernel_rfl) (by simp) ?_
          refine AllReadyH.cons (o := _) rfl (fun K hK => ?_) AllReadyH.nil
          obtain ⟨i0, hi0, hz0, hz1, hz2⟩ := info_parts Tryz.infoIntSS
          refine step_append_lies _ (by rfl) _ _ 22 (by rfl) w.heap.size 42 i0 (.slice none 0 0) 1 24 Tryz.underlying22 hi0 hz0 hz1 hz2 rfl (by decide) vW k (rowsAt bW (ws.length + 1) k) (by rfl) HOWN.out ⟨wA.heap.size + 1, 0, none⟩ 1 1 [.slice (some ⟨wA.heap.size, 0, none⟩) (ws.length + 1) (ws.length + 1)] (by rfl) rfl (fun j u hu => HNEW.out j u hu) (by intro u hu; simp at hu; subst hu; rfl) (by decide) (by unfold maxLen; omega) (by omega) HBAS.out (wA.heap.size + 2) (by simp) ?_
          intro g3 cap3 w3 hown3 hgr3 hat3 hlt3
          have HF := HFIN.out g3 cap3 w3 hown3 hgr3 hat3
          clear HFIN
          refine hK.out _ _ trivial (fun hHeld => ?_)
          clear hK K
          try simp only [Act.put, List.setIfInBounds_toArray]
          refine take_atL (i := 11) (d := some 29) (v := .pointer (some ⟨w.heap.size + 1, 0, none⟩)) rfl rfl (by kernel_rfl) (by kernel_rfl) (by kernel_rfl) (fun _ _ _ h => h) (by rfl) ?_ hHeld ?_
          · intro w' hSw; clear hSw; go_simp; first | done | rfl | (refine wrap_in ?_ ?_ <;> omega) | (intro hbad; exfalso; omega)
          try simp only [Act.put]
          refine take_atL (i := 12) (d := some 30) (v := .pointer (some ⟨w.heap.size + 1, 2, none⟩)) rfl rfl (by kernel_rfl) (by kernel_rfl) (by kernel_rfl) (fun _ _ _ h => h) (by rfl) ?_ hHeld ?_
          · intro w' hSw; clear hSw; go_simp; first | done | rfl | (refine wrap_in ?_ ?_ <;> omega) | (intro hbad; exfalso; omega)
          try simp only [Act.put]
          have hc3 := HF.1
          have hf3 := HF.2.1
          refine wpAnyH_ready (rs := [13]) (by kernel_rfl) (by simp) ?_
          refine AllReadyH.cons (o := _) rfl (fun K hK => ?_) AllReadyH.nil
          rw [if_pos (by rfl)]
          go_simp
          refine hK.out _ _ trivial (fun hHeld => ?_)
          clear hK K
          try simp only [Act.put, List.setIfInBounds_toArray, List.set_cons_zero, List.set_cons_succ]
          refine wpAnyH_done (by kernel_rfl) ?_ _
          clear hHeld
          go_wp2_with fail
          go_meet
          case rel => exact HF.2.2
        · rw [if_pos (by rfl)]
          go_simp
          refine hK.out _ _ trivial (fun hHeld => ?_)
          clear hK K
          try simp only [Act.put, List.setIfInBounds_toArray, List.set_cons_zero, List.set_cons_succ]
          refine wpAnyH_ready (rs := [4, 9]) (by kernel_rfl) (by simp) ?_
          refine AllReadyH.cons (o := _) rfl (fun K hK => ?_) (AllReadyH.cons (o := _) rfl (fun K hK => ?_) AllReadyH.nil)
          · rw [if_pos (by rfl)]
            go_simp
            refine hK.out _ _ trivial (fun hHeld => ?_)
            clear hK K
            try simp only [Act.put, List.setIfInBounds_toArray, List.set_cons_zero, List.set_cons_succ]
            refine wpAnyH_ready (rs := [9]) (by kernel_rfl) (by simp) ?_
            refine AllReadyH.cons (o := _) rfl (fun K hK => ?_) AllReadyH.nil
            rw [if_pos (by rfl)]
            go_simp
            refine hK.out _ _ trivial (fun hHeld => ?_)
            clear hK K
            try simp only [Act.put, List.setIfInBounds_toArray, List.set_cons_zero, List.set_cons_succ]
            refine wpAnyH_ready (rs := [10]) (by kernel_rfl) (by simp) ?_
            refine AllReadyH.cons (o := _) rfl (fun K hK => ?_) AllReadyH.nil
            obtain ⟨i0, hi0, hz0, hz1, hz2⟩ := info_parts Tryz.infoIntSS
            refine step_append_lies _ (by rfl) _ _ 22 (by rfl) w.heap.size 42 i0 (.slice none 0 0) 1 24 Tryz.underlying22 hi0 hz0 hz1 hz2 rfl (by decide) vW k (rowsAt bW (ws.length + 1) k) (by rfl) HOWN.out ⟨wA.heap.size + 1, 0, none⟩ 1 1 [.slice (some ⟨wA.heap.size, 0, none⟩) (ws.length + 1) (ws.length + 1)] (by rfl) rfl (fun j u hu => HNEW.out j u hu) (by intro u hu; simp at hu; subst hu; rfl) (by decide) (by unfold maxLen; omega) (by omega) HBAS.out (wA.heap.size + 2) (by simp) ?_
            intro g3 cap3 w3 hown3 hgr3 hat3 hlt3
            have HF := HFIN.out g3 cap3 w3 hown3 hgr3 hat3
            clear HFIN
            refine hK.out _ _ trivial (fun hHeld => ?_)
            clear hK K
            try simp only [Act.put, List.setIfInBounds_toArray]
            refine take_atL (i := 11) (d := some 29) (v := .pointer (some ⟨w.heap.size + 1, 0, none⟩)) rfl rfl (by kernel_rfl) (by kernel_rfl) (by kernel_rfl) (fun _ _ _ h => h) (by rfl) ?_ hHeld ?_
            · intro w' hSw; clear hSw; go_simp; first | done | rfl | (refine wrap_in ?_ ?_ <;> omega) | (intro hbad; exfalso; omega)
            try simp only [Act.put]
            refine take_atL (i := 12) (d := some 30) (v := .pointer (some ⟨w.heap.size + 1, 2, none⟩)) rfl rfl (by kernel_rfl) (by kernel_rfl) (by kernel_rfl) (fun _ _ _ h => h) (by rfl) ?_ hHeld ?_
            · intro w' hSw; clear hSw; go_simp; first | done | rfl | (refine wrap_in ?_ ?_ <;> omega) | (intro hbad; exfalso; omega)
            try simp only [Act.put]
            have hc3 := HF.1
            have hf3 := HF.2.1
            refine wpAnyH_ready (rs := [13]) (by kernel_rfl) (by simp) ?_
            refine AllReadyH.cons (o := _) rfl (fun K hK => ?_) AllReadyH.nil
            rw [if_pos (by rfl)]
            go_simp
            refine hK.out _ _ trivial (fun hHeld => ?_)
            clear hK K
            try simp only [Act.put, List.setIfInBounds_toArray, List.set_cons_zero, List.set_cons_succ]
            refine wpAnyH_done (by kernel_rfl) ?_ _
            clear hHeld
            go_wp2_with fail
            go_meet
            case rel => exact HF.2.2
          · rw [if_pos (by rfl)]
            go_simp
            refine hK.out _ _ trivial (fun hHeld => ?_)
            clear hK K
            try simp only [Act.put, List.setIfInBounds_toArray, List.set_cons_zero, List.set_cons_succ]
            refine wpAnyH_ready (rs := [4]) (by kernel_rfl) (by simp) ?_
            refine AllReadyH.cons (o := _) rfl (fun K hK => ?_) AllReadyH.nil
            rw [if_pos (by rfl)]
            go_simp
            refine hK.out _ _ trivial (fun hHeld => ?_)
            clear hK K
            try simp only [Act.put, List.setIfInBounds_toArray, List.set_cons_zero, List.set_cons_succ]
            refine wpAnyH_ready (rs := [10]) (by kernel_rfl) (by simp) ?_
            refine AllReadyH.cons (o := _) rfl (fun K hK => ?_) AllReadyH.nil
            obtain ⟨i0, hi0, hz0, hz1, hz2⟩ := info_parts Tryz.infoIntSS
            refine step_append_lies _ (by rfl) _ _ 22 (by rfl) w.heap.size 42 i0 (.slice none 0 0) 1 24 Tryz.underlying22 hi0 hz0 hz1 hz2 rfl (by decide) vW k (rowsAt bW (ws.length + 1) k) (by rfl) HOWN.out ⟨wA.heap.size + 1, 0, none⟩ 1 1 [.slice (some ⟨wA.heap.size, 0, none⟩) (ws.length + 1) (ws.length + 1)] (by rfl) rfl (fun j u hu => HNEW.out j u hu) (by intro u hu; simp at hu; subst hu; rfl) (by decide) (by unfold maxLen; omega) (by omega) HBAS.out (wA.heap.size + 2) (by simp) ?_
            intro g3 cap3 w3 hown3 hgr3 hat3 hlt3
            have HF := HFIN.out g3 cap3 w3 hown3 hgr3 hat3
            clear HFIN
            refine hK.out _ _ trivial (fun hHeld => ?_)
            clear hK K
            try simp only [Act.put, List.setIfInBounds_toArray]
            refine take_atL (i := 11) (d := some 29) (v := .pointer (some ⟨w.heap.size + 1, 0, none⟩)) rfl rfl (by kernel_rfl) (by kernel_rfl) (by kernel_rfl) (fun _ _ _ h => h) (by rfl) ?_ hHeld ?_
            · intro w' hSw; clear hSw; go_simp; first | done | rfl | (refine wrap_in ?_ ?_ <;> omega) | (intro hbad; exfalso; omega)
            try simp only [Act.put]
            refine take_atL (i := 12) (d := some 30) (v := .pointer (some ⟨w.heap.size + 1, 2, none⟩)) rfl rfl (by kernel_rfl) (by kernel_rfl) (by kernel_rfl) (fun _ _ _ h => h) (by rfl) ?_ hHeld ?_
            · intro w' hSw; clear hSw; go_simp; first | done | rfl | (refine wrap_in ?_ ?_ <;> omega) | (intro hbad; exfalso; omega)
            try simp only [Act.put]
            have hc3 := HF.1
            have hf3 := HF.2.1
            refine wpAnyH_ready (rs := [13]) (by kernel_rfl) (by simp) ?_
            refine AllReadyH.cons (o := _) rfl (fun K hK => ?_) AllReadyH.nil
            rw [if_pos (by rfl)]
            go_simp
            refine hK.out _ _ trivial (fun hHeld => ?_)
            clear hK K
            try simp only [Act.put, List.setIfInBounds_toArray, List.set_cons_zero, List.set_cons_succ]
            refine wpAnyH_done (by kernel_rfl) ?_ _
            clear hHeld
            go_wp2_with fail
            go_meet
            case rel => exact HF.2.2
      case rest =>
        clear HI HK q0
        obtain ⟨wA2, hwA⟩ : ∃ y, y = wc := ⟨_, rfl⟩
        subst hwA
        have HK2 : Hid (∃ vW vD bW bD τ, NewIn ws aP cP P.length aw cw w vW vD bW bD τ (k + 1) k wA2) := hcut
        clear hcut hmk5
        obtain ⟨vW, vD, bW, bD, τ, HI⟩ := HK2.out
        obtain ⟨wA, hwA⟩ : ∃ y, y = wA2 := ⟨_, rfl⟩
        subst hwA
        go_upto_region 6 with fail
        have qc := HI.2.1.cell
        have hlA := HI.2.2.2.2.2.1
        have n1 : w.heap.size + 1 ≠ wA.heap.size := by omega
        have n2 : w.heap.size ≠ wA.heap.size := by omega
        have HBN : Hid (Below wA.heap.size wA ((wA.alloc (.cells (madeCells #[.bool false] (ws.length + 1)) 4)).alloc (.cells #[.slice (some ⟨wA.heap.size, 0, none⟩) (ws.length + 1) (ws.length + 1)] 80)).drew) := (((Below.refl _ _).alloc (Nat.le_refl _) _).alloc (by simp) _).drew
        have HRN : Hid (((wA.alloc (.cells (madeCells #[.bool false] (ws.length + 1)) 4)).alloc (.cells #[.slice (some ⟨wA.heap.size, 0, none⟩) (ws.length + 1) (ws.length + 1)] 80)).drew.rowIs wA.heap.size 4 (ws.length + 1) (fun _ => .bool false)) := rowIs_below (World.rowIs_made wA (.bool false) (ws.length + 1) 4) ((Below.refl _ _).alloc (Nat.le_refl _) _).drew
        have HOWN : Hid (((wA.alloc (.cells (madeCells #[.bool false] (ws.length + 1)) 4)).alloc (.cells #[.slice (some ⟨wA.heap.size, 0, none⟩) (ws.length + 1) (ws.length + 1)] 80)).drew.ownsRow w.heap.size 80 1 vD k (rowsAt bD (ws.length + 1) k)) := HI.2.1.own.kept (grownBy_of_below HBN.out none) (by cases vD.ownBlock <;> simp)
        have HNEW : Hid (∀ (j : Nat) (u : Value), ([.slice (some ⟨wA.heap.size, 0, none⟩) (ws.length + 1) (ws.length + 1)] : List Value)[j]? = some u → ((wA.alloc (.cells (madeCells #[.bool false] (ws.length + 1)) 4)).alloc (.cells #[.slice (some ⟨wA.heap.size, 0, none⟩) (ws.length + 1) (ws.length + 1)] 80)).drew.cell? ((⟨wA.heap.size + 1, 0, none⟩ : Addr).add j) = some u) := fun j u hu => new_one wA _ _ _ 0 j u hu
        have qc2 : ((wA.alloc (.cells (madeCells #[.bool false] (ws.length + 1)) 4)).alloc (.cells #[.slice (some ⟨wA.heap.size, 0, none⟩) (ws.length + 1) (ws.length + 1)] 80)).cell? ⟨w.heap.size + 1, 3, none⟩ = some vD := (HBN.out.cell (p := ⟨w.heap.size + 1, 3, none⟩) hlA).trans qc
        have HBAS : Hid (w.heap.size ≤ ((wA.alloc (.cells (madeCells #[.bool false] (ws.length + 1)) 4)).alloc (.cells #[.slice (some ⟨wA.heap.size, 0, none⟩) (ws.length + 1) (ws.length + 1)] 80)).drew.heap.size) := by have := HBN.out.size; have := HI.2.2.2.2.1.size; show _ ≤ _; omega
        have HFIN : Hid (∀ g3 cap3 w3, w3.ownsRow w.heap.size 80 1 (.slice (some ⟨g3, 0, none⟩) (k + 1) cap3) (k + 1) (rowsAt bD (ws.length + 1) k ++ [.slice (some ⟨wA.heap.size, 0, none⟩) (ws.length + 1) (ws.length + 1)]) → ((wA.alloc (.cells (madeCells #[.bool false] (ws.length + 1)) 4)).alloc (.cells #[.slice (some ⟨wA.heap.size, 0, none⟩) (ws.length + 1) (ws.length + 1)] 80)).drew.grownBy w3 vD.ownBlock → (vD.ownBlock = some g3 ∨ g3 = wA.heap.size + 2) →
          w3.cell? ⟨w.heap.size + 1, 3, none⟩ = some vD ∧ w3.frozen? ⟨w.heap.size + 1, 3, none⟩ = false ∧ Hid (∃ vW vD bW bD τ, NewIn ws aP cP P.length aw cw w vW vD bW bD τ (k + 1) (k + 1) (w3.setCell ⟨w.heap.size + 1, 3, none⟩ (.slice (some ⟨g3, 0, none⟩) (k + 1) cap3)))) := fun g3 cap3 w3 h1 h2 h3 => by
            obtain ⟨⟨r1, r2⟩, v', b', τ', r3⟩ := HI.stepD HBN.out (by simp) HRN.out h1 h2 h3
            exact ⟨r1, r2, ⟨vW, v', bW, b', τ', r3⟩⟩
        clear HI HK2 HBN HRN
        refine wp_region_held_drew (S := (fun w' => True)) (by kernel_rfl) trivial (fun hHeld => ?_)
        refine take_atL (i := 0) (d := some 31) (v := .pointer (some ⟨w.heap.size + 1, 0, none⟩)) rfl rfl (by kernel_rfl) (by kernel_rfl) (by kernel_rfl) (fun _ _ _ h => h) (by rfl) ?_ hHeld ?_
        · intro w' hSw; clear hSw; go_simp; first | done | rfl | (refine wrap_in ?_ ?_ <;> omega) | (intro hbad; exfalso; omega)
        try simp only [Act.put, List.setIfInBounds_toArray, List.set_cons_zero, List.set_cons_succ]
        refine take_atL (i := 1) (d := some 32) (v := .pointer (some ⟨w.heap.size + 1, 0, none⟩)) rfl rfl (by kernel_rfl) (by kernel_rfl) (by kernel_rfl) (fun _ _ _ h => h) (by rfl) ?_ hHeld ?_
        · intro w' hSw; clear hSw; go_simp; first | done | rfl | (refine wrap_in ?_ ?_ <;> omega) | (intro hbad; exfalso; omega)
        try simp only [Act.put, List.setIfInBounds_toArray, List.set_cons_zero, List.set_cons_succ]
        refine take_atL (i := 2) (d := some 33) (v := .pointer (some ⟨w.heap.size + 1, 0, none⟩)) rfl rfl (by kernel_rfl) (by kernel_rfl) (by kernel_rfl) (fun _ _ _ h => h) (by rfl) ?_ hHeld ?_
        · intro w' hSw; clear hSw; go_simp; first | done | rfl | (refine wrap_in ?_ ?_ <;> omega) | (intro hbad; exfalso; omega)
        try simp only [Act.put, List.setIfInBounds_toArray, List.set_cons_zero, List.set_cons_succ]
        refine take_atL (i := 3) (d := some 34) (v := .pointer (some ⟨w.heap.size + 1, 3, none⟩)) rfl rfl (by kernel_rfl) (by kernel_rfl) (by kernel_rfl) (fun _ _ _ h => h) (by rfl) ?_ hHeld ?_
        · intro w' hSw; clear hSw; go_simp; first | done | rfl | (refine wrap_in ?_ ?_ <;> omega) | (intro hbad; exfalso; omega)
        try simp only [Act.put, List.setIfInBounds_toArray, List.set_cons_zero, List.set_cons_succ]
        refine take_atL (i := 5) (d := some 36) (v := .slice aw ws.length cw) rfl rfl (by kernel_rfl) (by kernel_rfl) (by kernel_rfl) (fun _ _ _ h => h) (by rfl) ?_ hHeld ?_
        · intro w' hSw; clear hSw; go_simp; first | done | rfl | (refine wrap_in ?_ ?_ <;> omega) | (intro hbad; exfalso; omega)
        try simp only [Act.put, List.setIfInBounds_toArray, List.set_cons_zero, List.set_cons_succ]
        refine take_atL (i := 6) (d := some 37) (v := .int .i64 ((ws.length : Int))) rfl rfl (by kernel_rfl) (by kernel_rfl) (by kernel_rfl) (fun _ _ _ h => h) (by rfl) ?_ hHeld ?_
        · intro w' hSw; clear hSw; go_simp; first | done | rfl | (refine wrap_in ?_ ?_ <;> omega) | (intro hbad; exfalso; omega)
        try simp only [Act.put, List.setIfInBounds_toArray, List.set_cons_zero, List.set_cons_succ]
        refine take_atL (i := 7) (d := some 38) (v := .int .i64 ((ws.length : Int) + 1)) rfl rfl (by kernel_rfl) (by kernel_rfl) (by kernel_rfl) (fun _ _ _ h => h) (by rfl) ?_ hHeld ?_
        · intro w' hSw; clear hSw; go_simp; first | done | rfl | (refine wrap_in ?_ ?_ <;> omega) | (intro hbad; exfalso; omega)
        try simp only [Act.put, List.setIfInBounds_toArray, List.set_cons_zero, List.set_cons_succ]
        refine wpAnyH_ready (rs := [4, 8]) (by kernel_rfl) (by simp) ?_
        refine AllReadyH.cons (o := _) rfl (fun K hK => ?_) (AllReadyH.cons (o := _) rfl (fun K hK => ?_) AllReadyH.nil)
        · rw [if_pos (by rfl)]
          go_simp
          refine hK.out _ _ trivial (fun hHeld => ?_)
          clear hK K
          try simp only [Act.put, List.setIfInBounds_toArray, List.set_cons_zero, List.set_cons_succ]
          refine wpAnyH_ready (rs := [8]) (by kernel_rfl) (by simp) ?_
          refine AllReadyH.cons (o := _) rfl (fun K hK => ?_) AllReadyH.nil
          rw [if_pos (by rfl)]
          go_simp
          refine hK.out _ _ trivial (fun hHeld => ?_)
          clear hK K
          try simp only [Act.put, List.setIfInBounds_toArray, List.set_cons_zero, List.set_cons_succ]
          refine wpAnyH_ready (rs := [9]) (by kernel_rfl) (by simp) ?_
          refine AllReadyH.cons (o := _) rfl (fun K hK => ?_) AllReadyH.nil
          rw [if_pos (by rfl)]
          go_simp
          refine hK.out _ _ trivial (fun hHeld => ?_)
          clear hK K
          try simp only [Act.put, List.setIfInBounds_toArray, List.set_cons_zero, List.set_cons_succ]
          refine wpAnyH_ready (rs := [10]) (by kernel_rfl) (by simp) ?_
          refine AllReadyH.cons (o := _) rfl (fun K hK => ?_) AllReadyH.nil
          obtain ⟨i0, hi0, hz0, hz1, hz2⟩ := info_parts Tryz.infoBoolS
          refine step_append_lies _ (by rfl) _ _ 65 (by rfl) w.heap.size 80 i0 (.slice none 0 0) 1 24 Tryz.underlying65 hi0 hz0 hz1 hz2 rfl (by decide) vD k (rowsAt bD (ws.length + 1) k) (by rfl) HOWN.out ⟨wA.heap.size + 1, 0, none⟩ 1 1 [.slice (some ⟨wA.heap.size, 0, none⟩) (ws.length + 1) (ws.length + 1)] (by rfl) rfl (fun j u hu => HNEW.out j u hu) (by intro u hu; simp at hu; subst hu; rfl) (by decide) (by unfold maxLen; omega) (by omega) HBAS.out (wA.heap.size + 2) (by simp) ?_
          intro g3 cap3 w3 hown3 hgr3 hat3 hlt3
          have HF := HFIN.out g3 cap3 w3 hown3 hgr3 hat3
          clear HFIN
          refine hK.out _ _ trivial (fun hHeld => ?_)
          clear hK K
          try simp only [Act.put, List.setIfInBounds_toArray]
          refine take_atL (i := 11) (d := some 42) (v := .pointer (some ⟨w.heap.size + 1, 0, none⟩)) rfl rfl (by kernel_rfl) (by kernel_rfl) (by kernel_rfl) (fun _ _ _ h => h) (by rfl) ?_ hHeld ?_
          · intro w' hSw; clear hSw; go_simp; first | done | rfl | (refine wrap_in ?_ ?_ <;> omega) | (intro hbad; exfalso; omega)
          try simp only [Act.put]
          refine take_atL (i := 12) (d := some 43) (v := .pointer (some ⟨w.heap.size + 1, 3, none⟩)) rfl rfl (by kernel_rfl) (by kernel_rfl) (by kernel_rfl) (fun _ _ _ h => h) (by rfl) ?_ hHeld ?_
          · intro w' hSw; clear hSw; go_simp; first | done | rfl | (refine wrap_in ?_ ?_ <;> omega) | (intro hbad; exfalso; omega)
          try simp only [Act.put]
          have hc3 := HF.1
          have hf3 := HF.2.1
          refine wpAnyH_ready (rs := [13]) (by kernel_rfl) (by simp) ?_
          refine AllReadyH.cons (o := _) rfl (fun K hK => ?_) AllReadyH.nil
          rw [if_pos (by rfl)]
          go_simp
          refine hK.out _ _ trivial (fun hHeld => ?_)
          clear hK K
          try simp only [Act.put, List.setIfInBounds_toArray, List.set_cons_zero, List.set_cons_succ]
          refine wpAnyH_done (by kernel_rfl) ?_ _
          clear hHeld
          go_wp2
          go_roundw
          case rel => exact ⟨k + 1, by omega, by go_num, HF.2.2⟩
          case measure => simp [intOf]; omega
        · rw [if_pos (by rfl)]
          go_simp
          refine hK.out _ _ trivial (fun hHeld => ?_)
          clear hK K
          try simp only [Act.put, List.setIfInBounds_toArray, List.set_cons_zero, List.set_cons_succ]
          refine wpAnyH_ready (rs := [4, 9]) (by kernel_rfl) (by simp) ?_
          refine AllReadyH.cons (o := _) rfl (fun K hK => ?_) (AllReadyH.cons (o := _) rfl (fun K hK => ?_) AllReadyH.nil)
          · rw [if_pos (by rfl)]
            go_simp
            refine hK.out _ _ trivial (fun hHeld => ?_)
            clear hK K
            try simp only [Act.put, List.setIfInBounds_toArray, List.set_cons_zero, List.set_cons_succ]
            refine wpAnyH_ready (rs := [9]) (by kernel_rfl) (by simp) ?_
            refine AllReadyH.cons (o := _) rfl (fun K hK => ?_) AllReadyH.nil
            rw [if_pos (by rfl)]
            go_simp
            refine hK.out _ _ trivial (fun hHeld => ?_)
            clear hK K
            try simp only [Act.put, List.setIfInBounds_toArray, List.set_cons_zero, List.set_cons_succ]
            refine wpAnyH_ready (rs := [10]) (by kernel_rfl) (by simp) ?_
            refine AllReadyH.cons (o := _) rfl (fun K hK => ?_) AllReadyH.nil
            obtain ⟨i0, hi0, hz0, hz1, hz2⟩ := info_parts Tryz.infoBoolS
            refine step_append_lies _ (by rfl) _ _ 65 (by rfl) w.heap.size 80 i0 (.slice none 0 0) 1 24 Tryz.underlying65 hi0 hz0 hz1 hz2 rfl (by decide) vD k (rowsAt bD (ws.length + 1) k) (by rfl) HOWN.out ⟨wA.heap.size + 1, 0, none⟩ 1 1 [.slice (some ⟨wA.heap.size, 0, none⟩) (ws.length + 1) (ws.length + 1)] (by rfl) rfl (fun j u hu => HNEW.out j u hu) (by intro u hu; simp at hu; subst hu; rfl) (by decide) (by unfold maxLen; omega) (by omega) HBAS.out (wA.heap.size + 2) (by simp) ?_
            intro g3 cap3 w3 hown3 hgr3 hat3 hlt3
            have HF := HFIN.out g3 cap3 w3 hown3 hgr3 hat3
            clear HFIN
            refine hK.out _ _ trivial (fun hHeld => ?_)
            clear hK K
            try simp only [Act.put, List.setIfInBounds_toArray]
            refine take_atL (i := 11) (d := some 42) (v := .pointer (some ⟨w.heap.size + 1, 0, none⟩)) rfl rfl (by kernel_rfl) (by kernel_rfl) (by kernel_rfl) (fun _ _ _ h => h) (by rfl) ?_ hHeld ?_
            · intro w' hSw; clear hSw; go_simp; first | done | rfl | (refine wrap_in ?_ ?_ <;> omega) | (intro hbad; exfalso; omega)
            try simp only [Act.put]
            refine take_atL (i := 12) (d := some 43) (v := .pointer (some ⟨w.heap.size + 1, 3, none⟩)) rfl rfl (by kernel_rfl) (by kernel_rfl) (by kernel_rfl) (fun _ _ _ h => h) (by rfl) ?_ hHeld ?_
            · intro w' hSw; clear hSw; go_simp; first | done | rfl | (refine wrap_in ?_ ?_ <;> omega) | (intro hbad; exfalso; omega)
            try simp only [Act.put]
            have hc3 := HF.1
            have hf3 := HF.2.1
            refine wpAnyH_ready (rs := [13]) (by kernel_rfl) (by simp) ?_
            refine AllReadyH.cons (o := _) rfl (fun K hK => ?_) AllReadyH.nil
            rw [if_pos (by rfl)]
            go_simp
            refine hK.out _ _ trivial (fun hHeld => ?_)
            clear hK K
            try simp only [Act.put, List.setIfInBounds_toArray, List.set_cons_zero, List.set_cons_succ]
            refine wpAnyH_done (by kernel_rfl) ?_ _
            clear hHeld
            go_wp2
            go_roundw
            case rel => exact ⟨k + 1, by omega, by go_num, HF.2.2⟩
            case measure => simp [intOf]; omega
          · rw [if_pos (by rfl)]
            go_simp
            refine hK.out _ _ trivial (fun hHeld => ?_)
            clear hK K
            try simp only [Act.put, List.setIfInBounds_toArray, List.set_cons_zero, List.set_cons_succ]
            refine wpAnyH_ready (rs := [4]) (by kernel_rfl) (by simp) ?_
            refine AllReadyH.cons (o := _) rfl (fun K hK => ?_) AllReadyH.nil
            rw [if_pos (by rfl)]
            go_simp
            refine hK.out _ _ trivial (fun hHeld => ?_)
            clear hK K
            try simp only [Act.put, List.setIfInBounds_toArray, List.set_cons_zero, List.set_cons_succ]
            refine wpAnyH_ready (rs := [10]) (by kernel_rfl) (by simp) ?_
            refine AllReadyH.cons (o := _) rfl (fun K hK => ?_) AllReadyH.nil
            obtain ⟨i0, hi0, hz0, hz1, hz2⟩ := info_parts Tryz.infoBoolS
            refine step_append_lies _ (by rfl) _ _ 65 (by rfl) w.heap.size 80 i0 (.slice none 0 0) 1 24 Tryz.underlying65 hi0 hz0 hz1 hz2 rfl (by decide) vD k (rowsAt bD (ws.length + 1) k) (by rfl) HOWN.out ⟨wA.heap.size + 1, 0, none⟩ 1 1 [.slice (some ⟨wA.heap.size, 0, none⟩) (ws.length + 1) (ws.length + 1)] (by rfl) rfl (fun j u hu => HNEW.out j u hu) (by intro u hu; simp at hu; subst hu; rfl) (by decide) (by unfold maxLen; omega) (by omega) HBAS.out (wA.heap.size + 2) (by simp) ?_
            intro g3 cap3 w3 hown3 hgr3 hat3 hlt3
            have HF := HFIN.out g3 cap3 w3 hown3 hgr3 hat3
            clear HFIN
            refine hK.out _ _ trivial (fun hHeld => ?_)
            clear hK K
            try simp only [Act.put, List.setIfInBounds_toArray]
            refine take_atL (i := 11) (d := some 42) (v := .pointer (some ⟨w.heap.size + 1, 0, none⟩)) rfl rfl (by kernel_rfl) (by kernel_rfl) (by kernel_rfl) (fun _ _ _ h => h) (by rfl) ?_ hHeld ?_
            · intro w' hSw; clear hSw; go_simp; first | done | rfl | (refine wrap_in ?_ ?_ <;> omega) | (intro hbad; exfalso; omega)
            try simp only [Act.put]
            refine take_atL (i := 12) (d := some 43) (v := .pointer (some ⟨w.heap.size + 1, 3, none⟩)) rfl rfl (by kernel_rfl) (by kernel_rfl) (by kernel_rfl) (fun _ _ _ h => h) (by rfl) ?_ hHeld ?_
            · intro w' hSw; clear hSw; go_simp; first | done | rfl | (refine wrap_in ?_ ?_ <;> omega) | (intro hbad; exfalso; omega)
            try simp only [Act.put]
            have hc3 := HF.1
            have hf3 := HF.2.1
            refine wpAnyH_ready (rs := [13]) (by kernel_rfl) (by simp) ?_
            refine AllReadyH.cons (o := _) rfl (fun K hK => ?_) AllReadyH.nil
            rw [if_pos (by rfl)]
            go_simp
            refine hK.out _ _ trivial (fun hHeld => ?_)
            clear hK K
            try simp only [Act.put, List.setIfInBounds_toArray, List.set_cons_zero, List.set_cons_succ]
            refine wpAnyH_done (by kernel_rfl) ?_ _
            clear hHeld
            go_wp2
            go_roundw
            case rel => exact ⟨k + 1, by omega, by go_num, HF.2.2⟩
            case measure => simp [intOf]; omega
    · have e : k = P.length := by omega
      subst e
      clear HI
      go_wp2
      go_ret
      exact ⟨rfl, HK⟩
end Go.Proofs.YthnppodnjokaoaaGreatDoor
