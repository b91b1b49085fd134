/-
  Contracts and plain mathematics, joined: L7Go, L7Part. No statement is proved here.
-/
import Derived.Test.YthnppodnjokaoaaDoorG10
import Derived.Test.YthnppodnjokaoaaDoorG3
import Derived.Test.YthnppodnjokaoaaDoorG5
namespace Go.Proofs.YthnppodnjokaoaaDoor
open Go.RowKit

theorem l1Min_any (x y : Int) (w : World) : Calls Tryd.prog 92 #[.int .i64 x, .int .i64 y] w fun e w' => e = .returned (.int .i64 (min x y)) ∧ w' = w := by
  by_cases h1 : x < y
  · go_enter Tryd.func92, Tryd.ntmps92
    go_wp2
    go_ret
    exact ⟨ret_int (by omega), rfl⟩
  · go_enter Tryd.func92, Tryd.ntmps92
    go_wp2
    go_ret
    exact ⟨ret_int (by omega), rfl⟩

theorem wrap_in {a : Int} (h1 : -9223372036854775808 ≤ a) (h2 : a ≤ 9223372036854775807) : IntKind.i64.wrap a = a := by rw [IntKind.wrap_i64]; omega
/-- Behind a letter, the first i places gone through. -/
def letTo (ws : List Int) (c : Int) (v : Nat → Nat) (i : Nat) : Nat → Nat := fun j => if j ≤ i then letNx ws c v j else 0
theorem letTo_skip {ws : List Int} {c : Int} {v : Nat → Nat} {i : Nat} (h : letNx ws c v (i + 1) = 0) : letTo ws c v (i + 1) = letTo ws c v i := by
  funext j
  unfold letTo
  by_cases e : j = i + 1
  · subst e; rw [if_pos (Nat.le_refl _), if_neg (by omega), h]
  · by_cases e2 : j ≤ i
    · rw [if_pos (by omega), if_pos e2]
    · rw [if_neg (by omega), if_neg e2]
theorem letTo_put (ws : List Int) (c : Int) (v : Nat → Nat) (i j : Nat) : letTo ws c v (i + 1) j = if j = i + 1 then letNx ws c v (i + 1) else letTo ws c v i j := by
  unfold letTo
  by_cases e : j = i + 1
  · subst e; rw [if_pos (Nat.le_refl _), if_pos rfl]
  · rw [if_neg e]
    by_cases e2 : j ≤ i
    · rw [if_pos (by omega), if_pos e2]
    · rw [if_neg (by omega), if_neg e2]
theorem letTo_end {ws : List Int} {c : Int} {v : Nat → Nat} {j : Nat} (h : j ≤ ws.length) : letTo ws c v (ws.length + 1) j = letNx ws c v j := by
  unfold letTo; rw [if_pos (by omega)]
/-- Behind a part, the first i places gone through. -/
def partTo (W : Nat → Nat → Nat) (v : Nat → Nat) (i : Nat) : Nat → Nat := fun j => capN (sumTo (fun i => v i * W i j) i)
/-- .. and of the next one the places below m. -/
def partTo2 (W : Nat → Nat → Nat) (v : Nat → Nat) (i m : Nat) : Nat → Nat := fun j => if j < m then partTo W v (i + 1) j else partTo W v i j
theorem partTo_skip {W : Nat → Nat → Nat} {v : Nat → Nat} {i : Nat} (h : v i = 0) : partTo W v (i + 1) = partTo W v i := by
  funext j; unfold partTo; rw [sumTo, h, Nat.zero_mul, Nat.add_zero]
theorem partTo_step {W : Nat → Nat → Nat} {v : Nat → Nat} {i j : Nat} : partTo W v (i + 1) j = capN (partTo W v i j + v i * W i j) := by
  unfold partTo; rw [sumTo, capN_add]
theorem partTo_le (W : Nat → Nat → Nat) (v : Nat → Nat) (i j : Nat) : partTo W v i j ≤ 1000 := capN_le _
theorem partTo2_start {W : Nat → Nat → Nat} {v : Nat → Nat} {i : Nat} (h : ∀ j, W i j ≠ 0 → i ≤ j) : partTo2 W v i i = partTo W v i := by
  funext j
  unfold partTo2
  split
  · have : W i j = 0 := by
      by_cases e : W i j = 0
      · exact e
      · have := h j e; omega
    rw [partTo_step, this, Nat.mul_zero, Nat.add_zero]
    exact capN_of_le (partTo_le _ _ _ _)
  · rfl
theorem partTo2_step {W : Nat → Nat → Nat} {v : Nat → Nat} {i j : Nat} (m : Nat) : partTo2 W v i (j + 1) m = if m = j then partTo W v (i + 1) j else partTo2 W v i j m := by
  unfold partTo2
  by_cases e : m = j
  · subst e; rw [if_pos (Nat.lt_succ_self _), if_pos rfl]
  · rw [if_neg e]
    by_cases e2 : m < j
    · rw [if_pos (by omega), if_pos e2]
    · rw [if_neg (by omega), if_neg e2]
theorem Within.comp {w W W' : World} {P T : Nat → Prop} (h : Within w W P) (g : Within W W' T) (hT : ∀ k, T k → P k ∨ w.heap.size ≤ k) : Within w W' P :=
  ⟨g.os.trans h.os, g.tape.trans h.tape, g.output.trans h.output, Nat.le_trans h.size g.size, fun k hk hn => by
    rw [g.block k (Nat.lt_of_lt_of_le hk h.size) (fun e => by
      rcases hT k e with e | e
      · exact hn e
      · omega)]
    exact h.block k hk hn⟩
theorem row_put {w : World} {g : Nat} {t : TypeId} {n : Nat} {u v : Nat → Nat} {p x : Nat} (h : w.rowIs g t n (fun j => .int .i64 (u j : Int))) (hv : ∀ j, j < n → v j = if j = p then x else u j) :
    (w.setCell ⟨g, p, none⟩ (.int .i64 (x : Int))).rowIs g t n (fun j => .int .i64 (v j : Int)) :=
  (h.set p (.int .i64 (x : Int))).congr (fun j hj => by
    rw [hv j hj]
    by_cases e : j = p <;> simp [e])
theorem row_reads {w : World} {g : Nat} {t : TypeId} {n : Nat} {u : Nat → Nat} (h : w.rowIs g t (n + 1) (fun j => .int .i64 (u j : Int))) : Reads w (some ⟨g, 0, none⟩) (vecL u n) := by
  refine Reads.of_row (b := g) (t := t) ?_
  rw [vecL_length]
  exact h.congr (fun j hj => by rw [vecL_get _ _ (by omega)])
theorem rowIs_within {w w' : World} {g : Nat} {t : TypeId} {n : Nat} {f : Nat → Value} {M : Nat → Prop} (h : w.rowIs g t n f) (hw : Within w w' M) (hg : ¬ M g) : w'.rowIs g t n f := h.of_block (hw.block g h.lt hg)

section
variable {P : List (List (List Int))} {ws : List Int} {w0 : World} {t : TP} {aP : Option Addr} {cP : Nat} {aw : Option Addr} {cw : Nat}
/-- spec.l7Part does what it should at a part and a place. -/
def PartOk (P : List (List (List Int))) (ws : List Int) (w0 : World) (t : TP) (aP : Option Addr) (cP : Nat) (aw : Option Addr) (cw k i : Nat) : Prop :=
  ∀ (N : Nat → Prop) (W : World), (∀ b, N b → b < W.heap.size) → Tab P ws w0 t aP cP aw cw N W → Calls Tryd.prog 93 #[.pointer (some ⟨t.bT, 0, none⟩), .int .i64 (k : Int), .int .i64 (i : Int)] W (GoPost P ws w0 t aP cP aw cw N W (way P ws k i))
theorem reads_vec {w : World} {g : Nat} {v : Nat → Nat} {n : Nat} (h : Reads w (some ⟨g, 0, none⟩) (vecL v n)) {j : Nat} (hj : j ≤ n) : w.cell? ⟨g, j, none⟩ = some (.int .i64 (v j : Int)) := by
  obtain ⟨b, off, e, _, hc⟩ := h.at (i := j) (by rw [vecL_length]; omega)
  obtain ⟨rfl, rfl, _⟩ := Addr.mk.inj (Option.some.inj e)
  have := hc j (by rw [vecL_length]; omega)
  rw [Nat.zero_add, vecL_get _ _ hj] at this
  exact this
theorem min_cap (x y : Nat) : min ((x : Int) + (y : Int)) 1000 = ((capN (x + y) : Nat) : Int) := by unfold capN; omega

set_option maxHeartbeats 8000000 in
set_option maxRecDepth 100000 in
theorem l7Go_any (row : List Int) (ar : Option Addr) (cr : Nat) (v : Nat → Nat) (b0 c0 : Nat) (N : Nat → Prop) (w : World) (hN : ∀ b, N b → b < w.heap.size) (hT : Tab P ws w0 t aP cP aw cw N w) (hws : Reads w0 aw ws) (hn : ws.length ≤ 10) (hr : Reads w0 ar row) (hrl : row.length ≤ 1048576)
    (hf2 : Reads w (some ⟨b0, 0, none⟩) (vecL v ws.length)) (hv : ∀ j, v j ≤ 1000) (hrow : ∀ x ∈ row, 0 ≤ x ∧ x < 120)
    (hcall : ∀ s (hs : s < row.length), 100 ≤ row[s] → ∀ i, i ≤ ws.length → rowNx ws (way P ws) v (row.take s) i ≠ 0 → PartOk P ws w0 t aP cP aw cw (row[s] - 100).toNat i) :
    Calls Tryd.prog 69 #[.pointer (some ⟨t.bT, 0, none⟩), .slice ar row.length cr, .slice (some ⟨b0, 0, none⟩) (ws.length + 1) c0] w (GoPost P ws w0 t aP cP aw cw N w (rowNx ws (way P ws) v row)) := by
  have HC : Hid (∀ s (hs : s < row.length), 100 ≤ row[s] → ∀ i, i ≤ ws.length → rowNx ws (way P ws) v (row.take s) i ≠ 0 → PartOk P ws w0 t aP cP aw cw (row[s] - 100).toNat i) := hcall
  have HV : Hid (∀ s i, rowNx ws (way P ws) v (row.take s) i ≤ 1000) := fun s i => rowNx_le hv i
  have HR : Hid (∀ x ∈ row, 0 ≤ x ∧ x < 120) := hrow
  have HWN : Hid (∀ k i, i ≤ ws.length → ∀ j, way P ws k i j ≠ 0 → i ≤ j) := fun k i hi j h => (way_ne k i hi j h).1
  have HWL : Hid (∀ k i j, way P ws k i j ≤ 1000) := way_le
  have HPOST : Hid (∀ W g c, ¬ t.M P.length g → ¬ N g → g < W.heap.size → Reads W (some ⟨g, 0, none⟩) (vecL (rowNx ws (way P ws) v row) ws.length) → Tab P ws w0 t aP cP aw cw N W → Within w W (t.M P.length) → GoPost P ws w0 t aP cP aw cw N w (rowNx ws (way P ws) v row) (.returned (.slice (some ⟨g, 0, none⟩) (ws.length + 1) c)) W) := fun W g c h0 h1 h2 h3 h4 h5 => ⟨g, c, rfl, h0, h1, h2, h3, h4, h5⟩
  have HWS : Hid (Reads w0 aw ws) := hws
  have HRD : Hid (Reads w0 ar row) := hr
  have HT : Hid (Tab P ws w0 t aP cP aw cw N w) := hT
  have HF2 : Hid (Reads w (some ⟨b0, 0, none⟩) (vecL v ws.length)) := hf2
  have HNN : Hid (∀ b, N b → b < w.heap.size) := hN
  obtain ⟨POST, HPO⟩ : ∃ Q, Hid (GoPost P ws w0 t aP cP aw cw N w (rowNx ws (way P ws) v row) = Q) := ⟨_, rfl⟩
  rw [HPO.out] at HPOST ⊢
  show Calls _ _ _ _ (fun e w' => POST e w')
  clear HPO hcall hv hrow hws hr hT hf2 hN
  go_enter Tryd.func69, Tryd.ntmps69
  go_wp2_with (at_builtin; refine wpList_append_ints _ rfl (.tmp 13) (.tmp 14) 25 rfl w.heap.size 3 Tryd.underlying25 Tryd.infoInt _ _ rfl (OwnInts.empty (Nat.le_refl _)) _ _ _ (vecL v ws.length) rfl (by rw [vecL_length]) (HF2.out.below ((Below.refl _ _).alloc (Nat.le_refl _) _)) (by simp [vecL_length]; omega) (by simp) ?_)
  intro v1 w1 hO1 hg1
  have hb1 : Below w.heap.size w w1 := ((Below.refl _ _).alloc (Nat.le_refl _) _).grown hg1 (by simp) (fun k hk => by simp [Value.ownBlock] at hk; omega)
  have hO2 : OwnInts w1 w.heap.size 3 v1 (vecL v ws.length) := hO1
  obtain ⟨a1, cg1, rfl, hr1, hne1⟩ := hO2.shape
  have hblk := hO2.block
  obtain ⟨g1, rfl⟩ := hne1 (by intro e; have := congrArg List.length e; rw [vecL_length] at this; simp at this)
  have hgb := hblk g1 rfl
  have HLT : Hid (∀ b, t.M P.length b → b < w.heap.size) := HT.out.lt.2.2.2
  have HL3 : Hid (t.bT < w.heap.size ∧ t.oW < w.heap.size ∧ t.oD < w.heap.size) := ⟨HT.out.lt.1, HT.out.lt.2.1, HT.out.lt.2.2.1⟩
  have HLOW : Hid (w0.heap.size ≤ w.heap.size) := HT.out.low.size
  have HG1 : Hid (w.heap.size ≤ g1) := hgb.1
  have HT1 : Hid (Tab P ws w0 t aP cP aw cw N w1) := HT.out.later hb1
  have HW1 : Hid (Within w w1 (t.M P.length)) := Within.of_below hb1 _
  have HR1 : Hid (Reads w1 (some ⟨g1, 0, none⟩) (vecL (rowNx ws (way P ws) v (row.take 0)) ws.length)) := hr1
  have hg1l : g1 < w1.heap.size := hgb.2
  clear hO1 hO2 hg1 hr1 hne1 hblk hgb HF2 HT hb1
  rw [vecL_length]
  go_wp2
  go_loopw [7, 8] (fun snow ss wr => ∃ s g cg : Nat, s ≤ row.length ∧ ss = .int .i64 (s : Int) ∧ snow = .slice (some ⟨g, 0, none⟩) (ws.length + 1) cg ∧ g < wr.heap.size ∧ Hid (w.heap.size ≤ g) ∧ Hid (Reads wr (some ⟨g, 0, none⟩) (vecL (rowNx ws (way P ws) v (row.take s)) ws.length)) ∧ Hid (Tab P ws w0 t aP cP aw cw N wr) ∧ Hid (Within w wr (t.M P.length))) (fun _ ss _ => row.length - (intOf ss).toNat)
  case atStart => exact ⟨0, g1, cg1, Nat.zero_le _, rfl, rfl, hg1l, HG1, HR1, HT1, HW1⟩
  case round =>
    obtain ⟨wA, hwA⟩ : ∃ y, y = wr := ⟨_, rfl⟩
    subst hwA
    obtain ⟨s, g, cg, hs, rfl, rfl, hgl, HG, HRV, HTr, HWr⟩ := hrel
    clear HG1 HR1 HT1 HW1 hg1l
    have HNG : Hid (¬ t.M P.length g ∧ ¬ N g) := ⟨fun h => by have := HLT.out g h; have := HG.out; omega, fun h => by have := HNN.out g h; have := HG.out; omega⟩
    by_cases hlt : s < row.length
    · obtain ⟨br, ofr, rfl, hbr, hcr⟩ := (HRD.out.below HTr.out.low).at hlt
      have qr := hcr s hlt
      rw [List.getD_eq_getElem?_getD, List.getElem?_eq_getElem hlt, Option.getD_some] at qr
      have hz := HR.out row[s] (List.getElem_mem hlt)
      have HCs : Hid (100 ≤ row[s] → ∀ i, i ≤ ws.length → rowNx ws (way P ws) v (row.take s) i ≠ 0 → PartOk P ws w0 t aP cP aw cw (row[s] - 100).toNat i) := HC.out s hlt
      have HSt : Hid (rowNx ws (way P ws) v (row.take (s + 1)) = stepNx ws (way P ws) (rowNx ws (way P ws) v (row.take s)) row[s]) := rowNx_step hlt
      have HVs : Hid (∀ i, rowNx ws (way P ws) v (row.take s) i ≤ 1000) := HV.out s
      have qc := HTr.out.c1
      have hmk := fun wx => run_make_row' (P := Tryd.prog) 25 3 (.int .i64 0) 8 Tryd.underlying25 Tryd.infoInt rfl .i64 .i64 (ws.length + 1) (by omega) (by omega) wx
      rw [show ((ws.length + 1 : Nat) : Int) = (ws.length : Int) + 1 from rfl] at hmk
      have hwl : w.heap.size ≤ wA.heap.size := HWr.out.size
      have HO : Hid (t.bT ≠ wA.heap.size ∧ t.oW ≠ wA.heap.size ∧ t.oD ≠ wA.heap.size ∧ ¬ t.M P.length wA.heap.size ∧ ¬ N wA.heap.size) := by
        have := HL3.out
        exact ⟨by omega, by omega, by omega, fun h => by have := HLT.out _ h; omega, fun h => by have := HNN.out _ h; omega⟩
      generalize rowNx ws (way P ws) v (row.take s) = x at *
      generalize row[s] = z at *
      clear hcr HC HV HR
      by_cases hx : z < 100
      · have HS2 : Hid (rowNx ws (way P ws) v (row.take (s + 1)) = letNx ws z x) := by show _ = _; rw [HSt.out, stepNx, if_pos hx]
        have HN2 : Hid (∀ i, x i = 0 → letTo ws z x (i + 1) = letTo ws z x i) := fun i h => letTo_skip (by simp only [letNx, h]; split <;> rfl)
        have HA : Hid ((wA.alloc (.cells (madeCells #[Value.int .i64 0] (ws.length + 1)) 3)).rowIs wA.heap.size 3 (ws.length + 1) (fun j => .int .i64 (letTo ws z x 0 j : Int))) := (World.rowIs_made wA (.int .i64 0) _ _).congr (fun j _ => by
          have : letTo ws z x 0 j = 0 := by
            unfold letTo
            split
            · have : j = 0 := by omega
              subst this; rfl
            · rfl
          rw [this]; rfl)
        have HB : Hid (Below wA.heap.size wA (wA.alloc (.cells (madeCells #[Value.int .i64 0] (ws.length + 1)) 3))) := (Below.refl _ _).alloc (Nat.le_refl _) _
        clear HCs HSt
        go_wp2
        clear hmk qc
        go_loopw [10] (fun si wr => ∃ i : Nat, i ≤ ws.length + 1 ∧ si = .int .i64 (i : Int) ∧ Hid (wr.rowIs wA.heap.size 3 (ws.length + 1) (fun j => .int .i64 (letTo ws z x i j : Int))) ∧ Hid (Below wA.heap.size wA wr)) (fun si _ => ws.length + 1 - (intOf si).toNat)
        case atStart => exact ⟨0, Nat.zero_le _, rfl, HA, HB⟩
        case round =>
          obtain ⟨i, hi, rfl, HRo, HBe⟩ := hrel
          clear HA HB
          have qc := (HTr.out.later HBe.out).c1
          have qr2 := (HBe.out.cell (p := ⟨br, ofr + s, none⟩) hbr).trans qr
          by_cases hil : i ≤ ws.length
          · have q0 := reads_vec (HRV.out.below HBe.out) hil
            have hvl := HVs.out i
            have HSk : Hid (x i = 0 → letTo ws z x (i + 1) = letTo ws z x i) := HN2.out i
            have HSn : Hid (letNx ws z x (i + 1) = 0 → letTo ws z x (i + 1) = letTo ws z x i) := letTo_skip
            have HLn : Hid (letNx ws z x (i + 1) = if ws[i]? = some z then x i else 0) := rfl
            have HPu : Hid (∀ j, letTo ws z x (i + 1) j = if j = i + 1 then letNx ws z x (i + 1) else letTo ws z x i j) := letTo_put ws z x i
            have HXo : Hid (letTo ws z x i (i + 1) = 0) := by show _ = _; unfold letTo; rw [if_neg (by omega)]
            generalize x i = vi at *
            by_cases hz0 : vi = 0
            · subst hz0
              have q1 : wr.cell? ⟨g, i, none⟩ = some (.int .i64 0) := q0
              clear q0
              go_wp2
              go_roundw
              case rel => exact ⟨i + 1, by omega, by go_num, by rw [HSk.out rfl]; exact HRo, HBe⟩
              case measure => simp [intOf]; omega
            · have hz1 : ((vi : Int) == 0) = false := by simp; omega
              by_cases hin : i < ws.length
              · obtain ⟨bw, ofw, rfl, hbw, hcw⟩ := (HWS.out.below (HTr.out.later HBe.out).low).at hin
                have qw := hcw i hin
                rw [List.getD_eq_getElem?_getD, List.getElem?_eq_getElem hin, Option.getD_some] at qw
                have ei : ws[i]? = some ws[i] := List.getElem?_eq_getElem hin
                rw [ei] at HLn
                have hinI : (i : Int) < (ws.length : Int) := by omega
                have hgd : decide ((i : Int) < (ws.length : Int)) = true := by simpa using hinI
                clear hcw ei
                generalize ws[i] = y at *
                by_cases he : y = z
                · have heb : (y == z) = true := by simp [he]
                  have HLv : Hid (letNx ws z x (i + 1) = vi) := by show _ = _; rw [HLn.out, if_pos (by rw [he])]
                  have hfr := HRo.out.frozen (i + 1)
                  have qn := HRo.out.cell (i := i + 1) (by omega)
                  rw [HXo.out] at qn
                  have hgN : wA.heap.size ≠ g := by omega
                  have hmin : min (vi : Int) 1000 = (vi : Int) := by omega
                  clear HSk HSn HLn HXo
                  go_wp2
                  go_quiet (fail)
                  have HBq : Hid (Below wA.heap.size wA (wr.drewN nq)) := HBe.out.trans ((below_drew (w := wr) nq).mono HBe.out.size)
                  have HRq : Hid ((wr.drewN nq).rowIs wA.heap.size 3 (ws.length + 1) (fun j => .int .i64 (letTo ws z x i j : Int))) := rowIs_below HRo.out (below_drew nq)
                  replace q0 : (wr.drewN nq).cell? ⟨g, i, none⟩ = some (.int .i64 (vi : Int)) := q0
                  replace qn : (wr.drewN nq).cell? ⟨wA.heap.size, i + 1, none⟩ = some (.int .i64 0) := qn
                  replace hfr : (wr.drewN nq).frozen? ⟨wA.heap.size, i + 1, none⟩ = false := hfr
                  clear HRo HBe qr2 qw qc HRV HVs hz
                  generalize wr.drewN nq = wq at *
                  go_wp2
                  refine wp_region_held_drew (S := (fun w' => w'.cell? ⟨g, i, none⟩ = some (.int .i64 (vi : Int)) ∧ True)) (by kernel_rfl) ⟨q0, trivial⟩ (fun hHeld => ?_)
                  refine take_atL (i := 0) (d := some 69) (v := .slice (some ⟨wA.heap.size, 0, none⟩) (ws.length + 1) (ws.length + 1)) rfl rfl (by kernel_rfl) (by kernel_rfl) (by kernel_rfl) (fun _ _ _ h => h) (by rfl) ?_ hHeld ?_
                  · intro w' hSw; obtain ⟨s0, _⟩ := hSw; go_simp; first | done | rfl | (refine wrap_in ?_ ?_ <;> omega) | (intro hbad; exfalso; omega)
                  try simp only [Act.put, List.setIfInBounds_toArray, List.set_cons_zero, List.set_cons_succ]
                  refine take_atL (i := 1) (d := some 70) (v := .int .i64 ((i : Int))) rfl rfl (by kernel_rfl) (by kernel_rfl) (by kernel_rfl) (fun _ _ _ h => h) (by rfl) ?_ hHeld ?_
                  · intro w' hSw; obtain ⟨s0, _⟩ := hSw; go_simp; first | done | rfl | (refine wrap_in ?_ ?_ <;> omega) | (intro hbad; exfalso; omega)
                  try simp only [Act.put, List.setIfInBounds_toArray, List.set_cons_zero, List.set_cons_succ]
                  refine take_atL (i := 2) (d := some 71) (v := .int .i64 ((i : Int) + 1)) rfl rfl (by kernel_rfl) (by kernel_rfl) (by kernel_rfl) (fun _ _ _ h => h) (by rfl) ?_ hHeld ?_
                  · intro w' hSw; obtain ⟨s0, _⟩ := hSw; go_simp; first | done | rfl | (refine wrap_in ?_ ?_ <;> omega) | (intro hbad; exfalso; omega)
                  try simp only [Act.put, List.setIfInBounds_toArray, List.set_cons_zero, List.set_cons_succ]
                  refine take_atL (i := 3) (d := some 72) (v := .slice (some ⟨wA.heap.size, 0, none⟩) (ws.length + 1) (ws.length + 1)) rfl rfl (by kernel_rfl) (by kernel_rfl) (by kernel_rfl) (fun _ _ _ h => h) (by rfl) ?_ hHeld ?_
                  · intro w' hSw; obtain ⟨s0, _⟩ := hSw; go_simp; first | done | rfl | (refine wrap_in ?_ ?_ <;> omega) | (intro hbad; exfalso; omega)
                  try simp only [Act.put, List.setIfInBounds_toArray, List.set_cons_zero, List.set_cons_succ]
                  refine take_atL (i := 4) (d := some 73) (v := .int .i64 ((i : Int))) rfl rfl (by kernel_rfl) (by kernel_rfl) (by kernel_rfl) (fun _ _ _ h => h) (by rfl) ?_ hHeld ?_
                  · intro w' hSw; obtain ⟨s0, _⟩ := hSw; go_simp; first | done | rfl | (refine wrap_in ?_ ?_ <;> omega) | (intro hbad; exfalso; omega)
                  try simp only [Act.put, List.setIfInBounds_toArray, List.set_cons_zero, List.set_cons_succ]
                  refine take_atL (i := 5) (d := some 74) (v := .int .i64 ((i : Int) + 1)) rfl rfl (by kernel_rfl) (by kernel_rfl) (by kernel_rfl) (fun _ _ _ h => h) (by rfl) ?_ hHeld ?_
                  · intro w' hSw; obtain ⟨s0, _⟩ := hSw; go_simp; first | done | rfl | (refine wrap_in ?_ ?_ <;> omega) | (intro hbad; exfalso; omega)
                  try simp only [Act.put, List.setIfInBounds_toArray, List.set_cons_zero, List.set_cons_succ]
                  refine take_atL (i := 6) (d := some 75) (v := .pointer (some ⟨wA.heap.size, i + 1, none⟩)) rfl rfl (by kernel_rfl) (by kernel_rfl) (by kernel_rfl) (fun _ _ _ h => h) (by rfl) ?_ hHeld ?_
                  · intro w' hSw; obtain ⟨s0, _⟩ := hSw; go_simp; first | done | rfl | (refine wrap_in ?_ ?_ <;> omega) | (intro hbad; exfalso; omega)
                  try simp only [Act.put, List.setIfInBounds_toArray, List.set_cons_zero, List.set_cons_succ]
                  refine take_atL (i := 8) (d := some 77) (v := .slice (some ⟨g, 0, none⟩) (ws.length + 1) cg) rfl rfl (by kernel_rfl) (by kernel_rfl) (by kernel_rfl) (fun _ _ _ h => h) (by rfl) ?_ hHeld ?_
                  · intro w' hSw; obtain ⟨s0, _⟩ := hSw; go_simp; first | done | rfl | (refine wrap_in ?_ ?_ <;> omega) | (intro hbad; exfalso; omega)
                  try simp only [Act.put, List.setIfInBounds_toArray, List.set_cons_zero, List.set_cons_succ]
                  refine take_atL (i := 9) (d := some 78) (v := .int .i64 ((i : Int))) rfl rfl (by kernel_rfl) (by kernel_rfl) (by kernel_rfl) (fun _ _ _ h => h) (by rfl) ?_ hHeld ?_
                  · intro w' hSw; obtain ⟨s0, _⟩ := hSw; go_simp; first | done | rfl | (refine wrap_in ?_ ?_ <;> omega) | (intro hbad; exfalso; omega)
                  try simp only [Act.put, List.setIfInBounds_toArray, List.set_cons_zero, List.set_cons_succ]
                  refine take_atL (i := 10) (d := some 79) (v := .pointer (some ⟨g, i, none⟩)) rfl rfl (by kernel_rfl) (by kernel_rfl) (by kernel_rfl) (fun _ _ _ h => h) (by rfl) ?_ hHeld ?_
                  · intro w' hSw; obtain ⟨s0, _⟩ := hSw; go_simp; first | done | rfl | (refine wrap_in ?_ ?_ <;> omega) | (intro hbad; exfalso; omega)
                  try simp only [Act.put, List.setIfInBounds_toArray, List.set_cons_zero, List.set_cons_succ]
                  refine take_atL (i := 11) (d := some 80) (v := .int .i64 ((vi : Int))) rfl rfl (by kernel_rfl) (by kernel_rfl) (by kernel_rfl) (fun _ _ _ h => h) (by rfl) ?_ hHeld ?_
                  · intro w' hSw; obtain ⟨s0, _⟩ := hSw; go_simp; first | done | rfl | (refine wrap_in ?_ ?_ <;> omega) | (intro hbad; exfalso; omega)
                  try simp only [Act.put, List.setIfInBounds_toArray, List.set_cons_zero, List.set_cons_succ]
                  refine wpAnyH_ready (rs := [7]) (by kernel_rfl) (by simp) ?_
                  refine AllReadyH.cons (o := _) rfl (fun K hK => ?_) AllReadyH.nil
                  rw [if_pos (by rfl)]
                  go_simp
                  refine hK.out _ _ ⟨q0, trivial⟩ (fun hHeld => ?_)
                  clear hK K
                  try simp only [Act.put, List.setIfInBounds_toArray, List.set_cons_zero, List.set_cons_succ]
                  refine take_atL (i := 12) (d := some 81) (v := .int .i64 ((vi : Int))) rfl rfl (by kernel_rfl) (by kernel_rfl) (by kernel_rfl) (fun _ _ _ h => h) (by rfl) ?_ hHeld ?_
                  · intro w' hSw; obtain ⟨s0, _⟩ := hSw; go_simp; first | done | rfl | (refine wrap_in ?_ ?_ <;> omega) | (intro hbad; exfalso; omega)
                  try simp only [Act.put, List.setIfInBounds_toArray, List.set_cons_zero, List.set_cons_succ]
                  refine wpAnyH_ready (rs := [13]) (by kernel_rfl) (by simp) ?_
                  refine AllReadyH.cons (o := _) rfl (fun K hK => ?_) AllReadyH.nil
                  rw [if_pos (by rfl)]
                  go_simp
                  refine (l1Min_any _ _ _).mono ?_
                  rintro e w' ⟨rfl, rfl⟩
                  rw [hmin]
                  go_wp2_with fail
                  refine hK.out _ _ ⟨q0, trivial⟩ (fun hHeld => ?_)
                  clear hK K
                  try simp only [Act.put, List.setIfInBounds_toArray, List.set_cons_zero, List.set_cons_succ]
                  refine take_atL (i := 14) (d := some 83) (v := .pointer (some ⟨wA.heap.size, i + 1, none⟩)) rfl rfl (by kernel_rfl) (by kernel_rfl) (by kernel_rfl) (fun _ _ _ h => h) (by rfl) ?_ hHeld ?_
                  · intro w' hSw; obtain ⟨s0, _⟩ := hSw; go_simp; first | done | rfl | (refine wrap_in ?_ ?_ <;> omega) | (intro hbad; exfalso; omega)
                  try simp only [Act.put, List.setIfInBounds_toArray, List.set_cons_zero, List.set_cons_succ]
                  refine wpAnyH_ready (rs := [15]) (by kernel_rfl) (by simp) ?_
                  refine AllReadyH.cons (o := _) rfl (fun K hK => ?_) AllReadyH.nil
                  rw [if_pos (by rfl)]
                  go_simp
                  refine hK.out _ _ ⟨(cell_set_off (.inl hgN)).trans q0, trivial⟩ (fun hHeld => ?_)
                  clear hK K
                  try simp only [Act.put, List.setIfInBounds_toArray, List.set_cons_zero, List.set_cons_succ]
                  refine wpAnyH_done (by kernel_rfl) ?_ _
                  clear hHeld
                  go_wp2
                  go_roundw
                  case rel => exact ⟨i + 1, by omega, by go_num, rowIs_below (row_put (x := vi) (p := i + 1) HRq.out (fun j _ => by rw [HPu.out, HLv.out])) (below_drew 1), below_drewN (HBq.out.setCell (p := ⟨wA.heap.size, i + 1, none⟩) (Nat.le_refl _) _) 1⟩
                  case measure => simp [intOf]; omega
                · have heb : (y == z) = false := by simp [he]
                  have HSx : Hid (letTo ws z x (i + 1) = letTo ws z x i) := HSn.out (by rw [HLn.out, if_neg (fun e => he (Option.some.inj e))])
                  clear HSk HSn HLn HXo HPu
                  go_wp2
                  go_quiet (fail)
                  have HBq : Hid (Below wA.heap.size wA (wr.drewN nq)) := HBe.out.trans ((below_drew (w := wr) nq).mono HBe.out.size)
                  have HRq : Hid ((wr.drewN nq).rowIs wA.heap.size 3 (ws.length + 1) (fun j => .int .i64 (letTo ws z x i j : Int))) := rowIs_below HRo.out (below_drew nq)
                  clear HRo HBe qr2 qw qc HRV HVs hz q0
                  generalize wr.drewN nq = wq at *
                  go_wp2
                  go_roundw
                  case rel => exact ⟨i + 1, by omega, by go_num, by rw [HSx.out]; exact HRq, HBq⟩
                  case measure => simp [intOf]; omega
              · have hinI : (ws.length : Int) ≤ (i : Int) := by omega
                have hgd : decide ((i : Int) < (ws.length : Int)) = false := by simp; omega
                have HSx : Hid (letTo ws z x (i + 1) = letTo ws z x i) := HSn.out (by rw [HLn.out, List.getElem?_eq_none (by omega)]; simp)
                clear HSk HSn HLn HXo HPu
                go_wp2
                go_quiet (fail)
                have HBq : Hid (Below wA.heap.size wA (wr.drewN nq)) := HBe.out.trans ((below_drew (w := wr) nq).mono HBe.out.size)
                have HRq : Hid ((wr.drewN nq).rowIs wA.heap.size 3 (ws.length + 1) (fun j => .int .i64 (letTo ws z x i j : Int))) := rowIs_below HRo.out (below_drew nq)
                clear HRo HBe qr2 qc HRV HVs hz q0
                generalize wr.drewN nq = wq at *
                go_wp2
                go_roundw
                case rel => exact ⟨i + 1, by omega, by go_num, by rw [HSx.out]; exact HRq, HBq⟩
                case measure => simp [intOf]; omega
          · have e : i = ws.length + 1 := by omega
            subst e
            have HEn : Hid (Reads wr (some ⟨wA.heap.size, 0, none⟩) (vecL (rowNx ws (way P ws) v (row.take (s + 1))) ws.length)) := by
              have := row_reads HRo.out
              rw [vecL_congr (fun j hj => letTo_end hj)] at this
              show Reads _ _ _
              rw [HS2.out]; exact this
            have HTn : Hid (Tab P ws w0 t aP cP aw cw N wr) := HTr.out.later HBe.out
            have HWn : Hid (Within w wr (t.M P.length)) := HWr.out.trans (Within.of_below HBe.out _)
            have hgn : wA.heap.size < wr.heap.size := HRo.out.lt
            clear HRo HBe qr2 HRV HVs hz
            go_wp2
            go_roundw
            case rel => exact ⟨s + 1, wA.heap.size, ws.length + 1, by omega, by go_num, rfl, hgn, hwl, HEn, HTn, HWn⟩
            case measure => simp [intOf]; omega
      · have hx' : 100 ≤ z := by omega
        have HS2 : Hid (rowNx ws (way P ws) v (row.take (s + 1)) = partNx ws.length (way P ws (z - 100).toNat) x) := by show _ = _; rw [HSt.out, stepNx, if_neg hx]
        have HCz : Hid (∀ i, i ≤ ws.length → x i ≠ 0 → PartOk P ws w0 t aP cP aw cw (z - 100).toNat i) := HCs.out hx'
        have hzk := part_nat hx'
        have HWi : Hid (∀ i, i ≤ ws.length → ∀ j, way P ws (z - 100).toNat i j ≠ 0 → i ≤ j) := HWN.out _
        have HWm : Hid (∀ i j, way P ws (z - 100).toNat i j ≤ 1000) := HWL.out _
        obtain ⟨W, HWD⟩ : ∃ W, Hid (way P ws (z - 100).toNat = W) := ⟨_, rfl⟩
        rw [HWD.out] at HS2 HWi HWm
        have HA : Hid ((wA.alloc (.cells (madeCells #[Value.int .i64 0] (ws.length + 1)) 3)).rowIs wA.heap.size 3 (ws.length + 1) (fun j => .int .i64 (partTo W x 0 j : Int))) := (World.rowIs_made wA (.int .i64 0) _ _)
        have HTA : Hid (Tab P ws w0 t aP cP aw cw (fun b => N b ∨ b = wA.heap.size) (wA.alloc (.cells (madeCells #[Value.int .i64 0] (ws.length + 1)) 3))) := (HTr.out.turn (N' := fun b => N b ∨ b = wA.heap.size) (fun b h => h.imp id (fun e => by omega))).later ((Below.refl _ _).alloc (Nat.le_refl _) _)
        have HB : Hid (Within wA (wA.alloc (.cells (madeCells #[Value.int .i64 0] (ws.length + 1)) 3)) (t.M P.length)) := Within.of_below ((Below.refl _ _).alloc (Nat.le_refl _) _) _
        have HNs : Hid (∀ b, (N b ∨ b = wA.heap.size) → b < wA.heap.size + 1) := fun b h => by
          rcases h with h | h
          · have := HNN.out b h; omega
          · omega
        have HOo : Hid (∀ b, b = wA.heap.size → (N b ∨ b = wA.heap.size) ∧ w0.heap.size ≤ b ∧ b ≠ t.bT ∧ b ≠ t.oW ∧ b ≠ t.oD ∧ ¬ t.M P.length b) := fun b e => by
          have h1 := HO.out
          have h2 := HLOW.out
          subst e
          exact ⟨.inr rfl, by omega, fun e => h1.1 e.symm, fun e => h1.2.1 e.symm, fun e => h1.2.2.1 e.symm, h1.2.2.2.1⟩
        clear HCs HSt
        go_wp2
        clear hmk qc
        go_loopw [10] (fun si w2 => ∃ i : Nat, i ≤ ws.length + 1 ∧ si = .int .i64 (i : Int) ∧ Hid (w2.rowIs wA.heap.size 3 (ws.length + 1) (fun j => .int .i64 (partTo W x i j : Int))) ∧ Hid (Tab P ws w0 t aP cP aw cw (fun b => N b ∨ b = wA.heap.size) w2) ∧ Hid (Within wA w2 (t.M P.length))) (fun si _ => ws.length + 1 - (intOf si).toNat)
        case atStart => exact ⟨0, Nat.zero_le _, rfl, HA, HTA, HB⟩
        case round =>
          obtain ⟨wB, hwB⟩ : ∃ y, y = wr := ⟨_, rfl⟩
          subst hwB
          obtain ⟨i, hi, rfl, HRo, HTb, HBe⟩ := hrel
          clear HA HTA HB
          have qc := HTb.out.c1
          have hszB : wA.heap.size ≤ wB.heap.size := HBe.out.size
          have hgB : wA.heap.size < wB.heap.size := HRo.out.lt
          have qr2 : wB.cell? ⟨br, ofr + s, none⟩ = some (.int .i64 z) := by
            obtain ⟨b', o', e', _, hc'⟩ := (HRD.out.below HTb.out.low).at hlt
            obtain ⟨rfl, rfl, _⟩ := Addr.mk.inj (Option.some.inj e')
            have h1 := hc' s hlt
            obtain ⟨b'', o'', e'', _, hc''⟩ := (HRD.out.below HTr.out.low).at hlt
            obtain ⟨rfl, rfl, _⟩ := Addr.mk.inj (Option.some.inj e'')
            have h2 := hc'' s hlt
            rw [qr] at h2
            rw [h1, ← h2]
          by_cases hil : i ≤ ws.length
          · have q0 := reads_vec (reads_within HRV.out HBe.out HNG.out.1) hil
            have hvl := HVs.out i
            have HSk : Hid (x i = 0 → partTo W x (i + 1) = partTo W x i) := partTo_skip
            have HX : Hid (x i ≠ 0 → PartOk P ws w0 t aP cP aw cw (z - 100).toNat i) := HCz.out i hil
            have HS1 : Hid (∀ j, partTo W x (i + 1) j = capN (partTo W x i j + x i * W i j)) := fun j => partTo_step
            have HS0 : Hid (partTo2 W x i i = partTo W x i) := partTo2_start (HWi.out i hil)
            have HWo : Hid (way P ws (z - 100).toNat i = W i) := by show _ = _; rw [HWD.out]
            by_cases hz0 : x i = 0
            · have q1 : wB.cell? ⟨g, i, none⟩ = some (.int .i64 0) := by rw [q0, hz0]; rfl
              have HSx := HSk.out hz0
              clear q0 HSk HX HS1 HS0
              go_wp2
              go_roundw
              case rel => exact ⟨i + 1, by omega, by go_num, by rw [HSx]; exact HRo, HTb, HBe⟩
              case measure => simp [intOf]; omega
            · have X : Hid (Calls Tryd.prog 93 #[.pointer (some ⟨t.bT, 0, none⟩), .int .i64 (z - 100), .int .i64 (i : Int)] wB (GoPost P ws w0 t aP cP aw cw (fun b => N b ∨ b = wA.heap.size) wB (W i))) := by
                have := HX.out hz0 (fun b => N b ∨ b = wA.heap.size) wB (fun b h => by have := HNs.out b h; omega) HTb.out
                rw [hzk, HWo.out] at this
                exact this
              have HXE : Hid (∃ vi, x i = vi) := ⟨_, rfl⟩
              obtain ⟨vi, hvi⟩ : ∃ vi, x i = vi := ⟨_, rfl⟩
              rw [hvi] at q0 hvl hz0
              have HVI : Hid (x i = vi) := hvi
              have hz1 : ((vi : Int) == 0) = false := by simp; omega
              clear HSk HX hvi HXE HWo
              go_wp2_with (go_at_call 93; refine X.out.mono ?_; rintro e w3 ⟨gp, cp, rfl, hpM, hpN, hpl, hpR, hpT, hpW⟩)
              have HR3 : Hid (w3.rowIs wA.heap.size 3 (ws.length + 1) (fun j => .int .i64 (partTo2 W x i i j : Int))) := by show World.rowIs _ _ _ _ _; rw [HS0.out]; exact rowIs_within HRo.out hpW HO.out.2.2.2.1
              have HB3 : Hid (Within wA w3 (t.M P.length)) := HBe.out.trans hpW
              have HT3 : Hid (Tab P ws w0 t aP cP aw cw (fun b => N b ∨ b = wA.heap.size) w3) := hpT
              have HRp : Hid (Reads w3 (some ⟨gp, 0, none⟩) (vecL (W i) ws.length)) := hpR
              have HGN : Hid (gp ≠ wA.heap.size) := fun e => hpN (.inr e)
              have HW3 : Hid (Within w3 w3 (fun b => b = wA.heap.size)) := Within.refl _ _
              clear X hpM hpN hpR hpT hpW HRo HBe HTb qr2 q0 qc HS0
              go_wp2
              go_loopw [12] (fun sj w4 => ∃ j : Nat, j ≤ ws.length + 1 ∧ i ≤ j ∧ sj = .int .i64 (j : Int) ∧ Hid (w4.rowIs wA.heap.size 3 (ws.length + 1) (fun m => .int .i64 (partTo2 W x i j m : Int))) ∧ Hid (Within w3 w4 (fun b => b = wA.heap.size))) (fun sj _ => ws.length + 1 - (intOf sj).toNat)
              case atStart => exact ⟨i, by omega, Nat.le_refl _, rfl, HR3, HW3⟩
              case round =>
                obtain ⟨j, hj, hij, rfl, HRj, HBj⟩ := hrel
                clear HR3 HW3
                have qc := (HT3.out.kept HBj.out HOo.out).c1
                by_cases hjl : j ≤ ws.length
                · have q0 := reads_vec (reads_within (reads_within HRV.out HB3.out HNG.out.1) HBj.out (by omega)) hil
                  rw [HVI.out] at q0
                  have q1 := reads_vec (reads_within HRp.out HBj.out HGN.out) hjl
                  have qn := HRj.out.cell (i := j) (by omega)
                  have hfr := HRj.out.frozen j
                  rw [show partTo2 W x i j j = partTo W x i j from if_neg (Nat.lt_irrefl _)] at qn
                  have hpj := HWm.out i j
                  have hnj := partTo_le W x i j
                  have HMJ : Hid (partTo W x (i + 1) j = capN (partTo W x i j + vi * W i j)) := by show _ = _; rw [← HVI.out]; exact HS1.out j
                  have HSj : Hid (∀ m, partTo2 W x i (j + 1) m = if m = j then partTo W x (i + 1) j else partTo2 W x i j m) := partTo2_step
                  generalize W i j = pj at *
                  generalize partTo W x i j = nj at *
                  generalize partTo W x (i + 1) j = mj at *
                  have hmul : ((vi : Int) * (pj : Int)) = ((vi * pj : Nat) : Int) := by simp
                  have hml : vi * pj ≤ 1000 * 1000 := Nat.mul_le_mul hvl hpj
                  have hm0 : (0 : Int) ≤ (vi : Int) * (pj : Int) := by rw [hmul]; omega
                  have hm1 : (vi : Int) * (pj : Int) ≤ 1000000 := by rw [hmul]; omega
                  have hmin : min ((nj : Int) + (vi : Int) * (pj : Int)) 1000 = (mj : Int) := by rw [hmul, HMJ.out]; exact min_cap _ _
                  have hgN : wA.heap.size ≠ g := by omega
                  have hgp : wA.heap.size ≠ gp := fun e => HGN.out e.symm
                  clear hmul hml HMJ
                  go_wp2
                  refine wp_region_held_drew (S := (fun w' => w'.cell? ⟨g, i, none⟩ = some (.int .i64 (vi : Int)) ∧ w'.cell? ⟨gp, j, none⟩ = some (.int .i64 (pj : Int)))) (by kernel_rfl) ⟨q0, q1⟩ (fun hHeld => ?_)
                  refine take_atL (i := 0) (d := some 102) (v := .slice (some ⟨wA.heap.size, 0, none⟩) (ws.length + 1) (ws.length + 1)) rfl rfl (by kernel_rfl) (by kernel_rfl) (by kernel_rfl) (fun _ _ _ h => h) (by rfl) ?_ hHeld ?_
                  · intro w' hSw; obtain ⟨s0, s1⟩ := hSw; go_simp; first | done | rfl | (refine wrap_in ?_ ?_ <;> omega) | (intro hbad; exfalso; omega)
                  try simp only [Act.put, List.setIfInBounds_toArray, List.set_cons_zero, List.set_cons_succ]
                  refine take_atL (i := 1) (d := some 103) (v := .int .i64 ((j : Int))) rfl rfl (by kernel_rfl) (by kernel_rfl) (by kernel_rfl) (fun _ _ _ h => h) (by rfl) ?_ hHeld ?_
                  · intro w' hSw; obtain ⟨s0, s1⟩ := hSw; go_simp; first | done | rfl | (refine wrap_in ?_ ?_ <;> omega) | (intro hbad; exfalso; omega)
                  try simp only [Act.put, List.setIfInBounds_toArray, List.set_cons_zero, List.set_cons_succ]
                  refine take_atL (i := 2) (d := some 104) (v := .slice (some ⟨wA.heap.size, 0, none⟩) (ws.length + 1) (ws.length + 1)) rfl rfl (by kernel_rfl) (by kernel_rfl) (by kernel_rfl) (fun _ _ _ h => h) (by rfl) ?_ hHeld ?_
                  · intro w' hSw; obtain ⟨s0, s1⟩ := hSw; go_simp; first | done | rfl | (refine wrap_in ?_ ?_ <;> omega) | (intro hbad; exfalso; omega)
                  try simp only [Act.put, List.setIfInBounds_toArray, List.set_cons_zero, List.set_cons_succ]
                  refine take_atL (i := 3) (d := some 105) (v := .int .i64 ((j : Int))) rfl rfl (by kernel_rfl) (by kernel_rfl) (by kernel_rfl) (fun _ _ _ h => h) (by rfl) ?_ hHeld ?_
                  · intro w' hSw; obtain ⟨s0, s1⟩ := hSw; go_simp; first | done | rfl | (refine wrap_in ?_ ?_ <;> omega) | (intro hbad; exfalso; omega)
                  try simp only [Act.put, List.setIfInBounds_toArray, List.set_cons_zero, List.set_cons_succ]
                  refine take_atL (i := 4) (d := some 106) (v := .pointer (some ⟨wA.heap.size, j, none⟩)) rfl rfl (by kernel_rfl) (by kernel_rfl) (by kernel_rfl) (fun _ _ _ h => h) (by rfl) ?_ hHeld ?_
                  · intro w' hSw; obtain ⟨s0, s1⟩ := hSw; go_simp; first | done | rfl | (refine wrap_in ?_ ?_ <;> omega) | (intro hbad; exfalso; omega)
                  try simp only [Act.put, List.setIfInBounds_toArray, List.set_cons_zero, List.set_cons_succ]
                  refine take_atL (i := 6) (d := some 108) (v := .slice (some ⟨g, 0, none⟩) (ws.length + 1) cg) rfl rfl (by kernel_rfl) (by kernel_rfl) (by kernel_rfl) (fun _ _ _ h => h) (by rfl) ?_ hHeld ?_
                  · intro w' hSw; obtain ⟨s0, s1⟩ := hSw; go_simp; first | done | rfl | (refine wrap_in ?_ ?_ <;> omega) | (intro hbad; exfalso; omega)
                  try simp only [Act.put, List.setIfInBounds_toArray, List.set_cons_zero, List.set_cons_succ]
                  refine take_atL (i := 7) (d := some 109) (v := .int .i64 ((i : Int))) rfl rfl (by kernel_rfl) (by kernel_rfl) (by kernel_rfl) (fun _ _ _ h => h) (by rfl) ?_ hHeld ?_
                  · intro w' hSw; obtain ⟨s0, s1⟩ := hSw; go_simp; first | done | rfl | (refine wrap_in ?_ ?_ <;> omega) | (intro hbad; exfalso; omega)
                  try simp only [Act.put, List.setIfInBounds_toArray, List.set_cons_zero, List.set_cons_succ]
                  refine take_atL (i := 8) (d := some 110) (v := .pointer (some ⟨g, i, none⟩)) rfl rfl (by kernel_rfl) (by kernel_rfl) (by kernel_rfl) (fun _ _ _ h => h) (by rfl) ?_ hHeld ?_
                  · intro w' hSw; obtain ⟨s0, s1⟩ := hSw; go_simp; first | done | rfl | (refine wrap_in ?_ ?_ <;> omega) | (intro hbad; exfalso; omega)
                  try simp only [Act.put, List.setIfInBounds_toArray, List.set_cons_zero, List.set_cons_succ]
                  refine take_atL (i := 9) (d := some 111) (v := .int .i64 ((vi : Int))) rfl rfl (by kernel_rfl) (by kernel_rfl) (by kernel_rfl) (fun _ _ _ h => h) (by rfl) ?_ hHeld ?_
                  · intro w' hSw; obtain ⟨s0, s1⟩ := hSw; go_simp; first | done | rfl | (refine wrap_in ?_ ?_ <;> omega) | (intro hbad; exfalso; omega)
                  try simp only [Act.put, List.setIfInBounds_toArray, List.set_cons_zero, List.set_cons_succ]
                  refine take_atL (i := 10) (d := some 112) (v := .slice (some ⟨gp, 0, none⟩) (ws.length + 1) cp) rfl rfl (by kernel_rfl) (by kernel_rfl) (by kernel_rfl) (fun _ _ _ h => h) (by rfl) ?_ hHeld ?_
                  · intro w' hSw; obtain ⟨s0, s1⟩ := hSw; go_simp; first | done | rfl | (refine wrap_in ?_ ?_ <;> omega) | (intro hbad; exfalso; omega)
                  try simp only [Act.put, List.setIfInBounds_toArray, List.set_cons_zero, List.set_cons_succ]
                  refine take_atL (i := 11) (d := some 113) (v := .int .i64 ((j : Int))) rfl rfl (by kernel_rfl) (by kernel_rfl) (by kernel_rfl) (fun _ _ _ h => h) (by rfl) ?_ hHeld ?_
                  · intro w' hSw; obtain ⟨s0, s1⟩ := hSw; go_simp; first | done | rfl | (refine wrap_in ?_ ?_ <;> omega) | (intro hbad; exfalso; omega)
                  try simp only [Act.put, List.setIfInBounds_toArray, List.set_cons_zero, List.set_cons_succ]
                  refine take_atL (i := 12) (d := some 114) (v := .pointer (some ⟨gp, j, none⟩)) rfl rfl (by kernel_rfl) (by kernel_rfl) (by kernel_rfl) (fun _ _ _ h => h) (by rfl) ?_ hHeld ?_
                  · intro w' hSw; obtain ⟨s0, s1⟩ := hSw; go_simp; first | done | rfl | (refine wrap_in ?_ ?_ <;> omega) | (intro hbad; exfalso; omega)
                  try simp only [Act.put, List.setIfInBounds_toArray, List.set_cons_zero, List.set_cons_succ]
                  refine take_atL (i := 13) (d := some 115) (v := .int .i64 ((pj : Int))) rfl rfl (by kernel_rfl) (by kernel_rfl) (by kernel_rfl) (fun _ _ _ h => h) (by rfl) ?_ hHeld ?_
                  · intro w' hSw; obtain ⟨s0, s1⟩ := hSw; go_simp; first | done | rfl | (refine wrap_in ?_ ?_ <;> omega) | (intro hbad; exfalso; omega)
                  try simp only [Act.put, List.setIfInBounds_toArray, List.set_cons_zero, List.set_cons_succ]
                  refine take_atL (i := 14) (d := some 116) (v := .int .i64 ((vi : Int) * (pj : Int))) rfl rfl (by kernel_rfl) (by kernel_rfl) (by kernel_rfl) (fun _ _ _ h => h) (by rfl) ?_ hHeld ?_
                  · intro w' hSw; obtain ⟨s0, s1⟩ := hSw; go_simp; first | done | rfl | (refine wrap_in ?_ ?_ <;> omega) | (intro hbad; exfalso; omega)
                  try simp only [Act.put, List.setIfInBounds_toArray, List.set_cons_zero, List.set_cons_succ]
                  refine wpAnyH_ready (rs := [5]) (by kernel_rfl) (by simp) ?_
                  refine AllReadyH.cons (o := _) rfl (fun K hK => ?_) AllReadyH.nil
                  rw [if_pos (by rfl)]
                  go_simp
                  refine hK.out _ _ ⟨q0, q1⟩ (fun hHeld => ?_)
                  clear hK K
                  try simp only [Act.put, List.setIfInBounds_toArray, List.set_cons_zero, List.set_cons_succ]
                  refine take_atL (i := 15) (d := some 117) (v := .int .i64 ((nj : Int) + (vi : Int) * (pj : Int))) rfl rfl (by kernel_rfl) (by kernel_rfl) (by kernel_rfl) (fun _ _ _ h => h) (by rfl) ?_ hHeld ?_
                  · intro w' hSw; obtain ⟨s0, s1⟩ := hSw; go_simp; first | done | rfl | (refine wrap_in ?_ ?_ <;> omega) | (intro hbad; exfalso; omega)
                  try simp only [Act.put, List.setIfInBounds_toArray, List.set_cons_zero, List.set_cons_succ]
                  refine wpAnyH_ready (rs := [16]) (by kernel_rfl) (by simp) ?_
                  refine AllReadyH.cons (o := _) rfl (fun K hK => ?_) AllReadyH.nil
                  rw [if_pos (by rfl)]
                  go_simp
                  refine (l1Min_any _ _ _).mono ?_
                  rintro e w' ⟨rfl, rfl⟩
                  rw [hmin]
                  go_wp2_with fail
                  refine hK.out _ _ ⟨q0, q1⟩ (fun hHeld => ?_)
                  clear hK K
                  try simp only [Act.put, List.setIfInBounds_toArray, List.set_cons_zero, List.set_cons_succ]
                  refine take_atL (i := 17) (d := some 119) (v := .pointer (some ⟨wA.heap.size, j, none⟩)) rfl rfl (by kernel_rfl) (by kernel_rfl) (by kernel_rfl) (fun _ _ _ h => h) (by rfl) ?_ hHeld ?_
                  · intro w' hSw; obtain ⟨s0, s1⟩ := hSw; go_simp; first | done | rfl | (refine wrap_in ?_ ?_ <;> omega) | (intro hbad; exfalso; omega)
                  try simp only [Act.put, List.setIfInBounds_toArray, List.set_cons_zero, List.set_cons_succ]
                  refine wpAnyH_ready (rs := [18]) (by kernel_rfl) (by simp) ?_
                  refine AllReadyH.cons (o := _) rfl (fun K hK => ?_) AllReadyH.nil
                  rw [if_pos (by rfl)]
                  go_simp
                  refine hK.out _ _ ⟨(cell_set_off (.inl hgN)).trans q0, (cell_set_off (.inl hgp)).trans q1⟩ (fun hHeld => ?_)
                  clear hK K
                  try simp only [Act.put, List.setIfInBounds_toArray, List.set_cons_zero, List.set_cons_succ]
                  refine wpAnyH_done (by kernel_rfl) ?_ _
                  clear hHeld
                  go_wp2
                  go_roundw
                  case rel => exact ⟨j + 1, by omega, by omega, by go_num, rowIs_below (row_put (x := mj) (p := j) HRj.out (fun m _ => HSj.out m)) (below_drew 1), (HBj.out.setCell ⟨wA.heap.size, j, none⟩ _ rfl).drew⟩
                  case measure => simp [intOf]; omega
                · have e : j = ws.length + 1 := by omega
                  subst e
                  have HRn : Hid (wr.rowIs wA.heap.size 3 (ws.length + 1) (fun m => .int .i64 (partTo W x (i + 1) m : Int))) := HRj.out.congr (fun m hm => by rw [show partTo2 W x i (ws.length + 1) m = partTo W x (i + 1) m from if_pos hm])
                  have HTn : Hid (Tab P ws w0 t aP cP aw cw (fun b => N b ∨ b = wA.heap.size) wr) := HT3.out.kept HBj.out HOo.out
                  have HBn : Hid (Within wA wr (t.M P.length)) := HB3.out.comp HBj.out (fun k e => .inr (by omega))
                  clear HRj HBj HT3 HB3 HRp
                  go_wp2
                  go_roundw
                  case rel => exact ⟨i + 1, by omega, by go_num, HRn, HTn, HBn⟩
                  case measure => simp [intOf]; omega
          · have e : i = ws.length + 1 := by omega
            subst e
            have HEn : Hid (Reads wB (some ⟨wA.heap.size, 0, none⟩) (vecL (rowNx ws (way P ws) v (row.take (s + 1))) ws.length)) := by
              show Reads _ _ _
              rw [HS2.out]
              exact row_reads HRo.out
            have HTn : Hid (Tab P ws w0 t aP cP aw cw N wB) := HTb.out.turn (fun b h => .inl (.inl h))
            have HWn : Hid (Within w wB (t.M P.length)) := HWr.out.trans HBe.out
            have hgn : wA.heap.size < wB.heap.size := HRo.out.lt
            clear HRo HTb HBe qr2 HRV HVs hz
            go_wp2
            go_roundw
            case rel => exact ⟨s + 1, wA.heap.size, ws.length + 1, by omega, by go_num, rfl, hgn, hwl, HEn, HTn, HWn⟩
            case measure => simp [intOf]; omega
    · have e : row.take s = row := List.take_of_length_le (by omega)
      have HE : Hid _ := HPOST.out wA g cg HNG.out.1 HNG.out.2 hgl (e ▸ HRV.out) HTr.out HWr.out
      clear HPOST HRV HTr HWr HC HV HR e
      go_wp2
      exact HE.out
end
end Go.Proofs.YthnppodnjokaoaaDoor
namespace Go.Proofs.YthnppodnjokaoaaDoor
open Go.RowKit

/-- The first a alternatives together; of the next one the places below m. -/
def altTo (f : Nat → Nat → Nat) (a : Nat) : Nat → Nat := fun j => capN (sumTo (fun a => f a j) a)
def altTo2 (f : Nat → Nat → Nat) (a m : Nat) : Nat → Nat := fun j => if j < m then altTo f (a + 1) j else altTo f a j
theorem altTo_step {f : Nat → Nat → Nat} {a j : Nat} : altTo f (a + 1) j = capN (altTo f a j + f a j) := by
  unfold altTo; rw [sumTo, capN_add]
theorem altTo_le (f : Nat → Nat → Nat) (a j : Nat) : altTo f a j ≤ 1000 := capN_le _
theorem altTo2_start (f : Nat → Nat → Nat) (a : Nat) : altTo2 f a 0 = altTo f a := by
  funext j; exact if_neg (Nat.not_lt_zero _)
theorem altTo2_step {f : Nat → Nat → Nat} {a j : Nat} (m : Nat) : altTo2 f a (j + 1) m = if m = j then altTo f (a + 1) j else altTo2 f a j m := by
  unfold altTo2
  by_cases e : m = j
  · subst e; rw [if_pos (Nat.lt_succ_self _), if_pos rfl]
  · rw [if_neg e]
    by_cases e2 : m < j
    · rw [if_pos (by omega), if_pos e2]
    · rw [if_neg (by omega), if_neg e2]

theorem gram_part {P : List (List (List Int))} (hok : gramOkB P = true) {k a s : Nat} (hk : k < P.length) (ha : a < P[k].length) (hs : s < P[k][a].length) : (P[k][a][s] - 100).toNat < P.length := by
  simp only [gramOkB, Bool.and_eq_true, List.all_eq_true, partOk, rowOk] at hok
  have := symOk_true.1 ((((hok.2 _ (List.getElem_mem hk)).2 _ (List.getElem_mem ha)).2) _ (List.getElem_mem hs))
  omega
section
variable {P : List (List (List Int))} {ws : List Int} {w0 : World} {t : TP} {aP : Option Addr} {cP : Nat} {aw : Option Addr} {cw : Nat}
set_option maxHeartbeats 8000000 in
set_option maxRecDepth 100000 in
theorem l7Part_walk (k i : Nat) (N : Nat → Prop) (w : World) (hk : k < P.length) (hi : i ≤ ws.length) (hN : ∀ b, N b → b < w.heap.size) (hT : Tab P ws w0 t aP cP aw cw N w) (hn : ws.length ≤ 10)
    (hP : RD w0 (.slice aP P.length cP) (slD (Lay.list (Lay.list Lay.int)) P)) (hp8 : P[k].length ≤ 8) (f : Nat → Nat → Nat) (hf : ∀ a (ha : a < P[k].length), f a = rowNx ws (way P ws) (deltaV i) P[k][a]) (hfl : ∀ a j, f a j ≤ 1000)
    (hgo : ∀ a (ha : a < P[k].length) (N' : Nat → Prop) (W : World) (ar : Option Addr) (cr b0 c0 : Nat), (∀ b, N' b → b < W.heap.size) → Tab P ws w0 t aP cP aw cw N' W → Reads w0 ar P[k][a] → Reads W (some ⟨b0, 0, none⟩) (vecL (deltaV i) ws.length) →
      Calls Tryd.prog 69 #[.pointer (some ⟨t.bT, 0, none⟩), .slice ar P[k][a].length cr, .slice (some ⟨b0, 0, none⟩) (ws.length + 1) c0] W (GoPost P ws w0 t aP cP aw cw N' W (rowNx ws (way P ws) (deltaV i) P[k][a])))
    (heq : ∀ j, way P ws k i j = altTo f P[k].length j) :
    Calls Tryd.prog 93 #[.pointer (some ⟨t.bT, 0, none⟩), .int .i64 (k : Int), .int .i64 (i : Int)] w (GoPost P ws w0 t aP cP aw cw N w (way P ws k i)) := by
  obtain ⟨d, hd⟩ := hT.known
  obtain ⟨qd, u, qu, hru⟩ := hd k i hk hi
  have c3 := hT.c3
  have rD := hT.rD k hk
  have hkI : (k : Int) < (P.length : Int) := by omega
  have hiI : (i : Int) < (ws.length : Int) + 1 := by omega
  by_cases hdk : d k i = true
  · obtain ⟨b, c, rfl, hM, hNb, hl, hr⟩ := hru hdk
    have HE : Hid (GoPost P ws w0 t aP cP aw cw N w (way P ws k i) (.returned (.slice (some ⟨b, 0, none⟩) (ws.length + 1) c)) w) := ⟨b, c, rfl, hM, hNb, hl, hr, hT, Within.refl _ _⟩
    have c2 := hT.c2
    have rW := hT.rW k hk
    rw [vecL_length] at qu
    rw [hdk] at qd
    clear hru hd hT hgo hf heq hP hr
    go_enter Tryd.func93, Tryd.ntmps93
    go_wp2
    go_ret
    exact HE.out
  · have hdf : d k i = false := by simpa using hdk
    rw [hdf] at qd
    have HN : Hid (∀ b, (N b ∨ b = w.heap.size) → b < w.heap.size + 1) := fun b h => by
      rcases h with h | h
      · have := hN b h; omega
      · omega
    have HNS : Hid (¬ N w.heap.size) := fun h => by have := hN _ h; omega
    have HT : Hid (Tab P ws w0 t aP cP aw cw N w) := hT
    have HO : Hid (∀ b, b = w.heap.size → (N b ∨ b = w.heap.size) ∧ w0.heap.size ≤ b ∧ b ≠ t.bT ∧ b ≠ t.oW ∧ b ≠ t.oD ∧ ¬ t.M P.length b) := fun b e => by
      have h1 := hT.lt
      have h2 := hT.low.size
      subst e
      exact ⟨.inr rfl, h2, by omega, by omega, by omega, fun h => by have := h1.2.2.2 _ h; omega⟩
    have HP : Hid (RD w0 (.slice aP P.length cP) (slD (Lay.list (Lay.list Lay.int)) P)) := hP
    have HGO : Hid (∀ a (ha : a < P[k].length) (N' : Nat → Prop) (W : World) (ar : Option Addr) (cr b0 c0 : Nat), (∀ b, N' b → b < W.heap.size) → Tab P ws w0 t aP cP aw cw N' W → Reads w0 ar P[k][a] → Reads W (some ⟨b0, 0, none⟩) (vecL (deltaV i) ws.length) →
      Calls Tryd.prog 69 #[.pointer (some ⟨t.bT, 0, none⟩), .slice ar P[k][a].length cr, .slice (some ⟨b0, 0, none⟩) (ws.length + 1) c0] W (GoPost P ws w0 t aP cP aw cw N' W (f a))) := fun a ha N' W ar cr b0 c0 h1 h2 h3 h4 => by rw [hf a ha]; exact hgo a ha N' W ar cr b0 c0 h1 h2 h3 h4
    have HFL : Hid (∀ a j, f a j ≤ 1000) := hfl
    have HEQ : Hid (∀ j, way P ws k i j = altTo f P[k].length j) := heq
    have c1 := hT.c1
    have hmk := fun wx => run_make_row' (P := Tryd.prog) 25 3 (.int .i64 0) 8 Tryd.underlying25 Tryd.infoInt rfl .i64 .i64 (ws.length + 1) (by omega) (by omega) wx
    rw [show ((ws.length + 1 : Nat) : Int) = (ws.length : Int) + 1 from rfl] at hmk
    have HA : Hid ((w.alloc (.cells (madeCells #[Value.int .i64 0] (ws.length + 1)) 3)).rowIs w.heap.size 3 (ws.length + 1) (fun j => .int .i64 (altTo f 0 j : Int))) := (World.rowIs_made w (.int .i64 0) _ _)
    have HTA : Hid (Tab P ws w0 t aP cP aw cw (fun b => N b ∨ b = w.heap.size) (w.alloc (.cells (madeCells #[Value.int .i64 0] (ws.length + 1)) 3))) := (hT.turn (N' := fun b => N b ∨ b = w.heap.size) (fun b h => h.imp id (fun e => by omega))).later ((Below.refl _ _).alloc (Nat.le_refl _) _)
    have HB : Hid (Within w (w.alloc (.cells (madeCells #[Value.int .i64 0] (ws.length + 1)) 3)) (t.M P.length)) := Within.of_below ((Below.refl _ _).alloc (Nat.le_refl _) _) _
    clear hgo hf hfl heq hd hru qu hdk hdf hT hP hN
    go_enter Tryd.func93, Tryd.ntmps93
    go_wp2
    clear hmk c1 c3 rD qd
    go_loopw [8] (fun sa wr => ∃ a : Nat, a ≤ P[k].length ∧ sa = .int .i64 (a : Int) ∧ Hid (wr.rowIs w.heap.size 3 (ws.length + 1) (fun j => .int .i64 (altTo f a j : Int))) ∧ Hid (Tab P ws w0 t aP cP aw cw (fun b => N b ∨ b = w.heap.size) wr) ∧ Hid (Within w wr (t.M P.length))) (fun sa _ => P[k].length - (intOf sa).toNat)
    case atStart => exact ⟨0, Nat.zero_le _, rfl, HA, HTA, HB⟩
    case round =>
      obtain ⟨wA, hwA⟩ : ∃ y, y = wr := ⟨_, rfl⟩
      subst hwA
      obtain ⟨a, ha, rfl, HRo, HTa, HWa⟩ := hrel
      clear HA HTA HB
      obtain ⟨b1, o1, rfl, hb1, a1, ca1, q1, r1⟩ := HP.out.listAt hk
      have hgS : w.heap.size < wA.heap.size := HRo.out.lt
      have hlo := HTa.out.low
      have q0 := HTa.out.c0
      have q1a := (hlo.cell (p := ⟨b1, o1 + k, none⟩) hb1).trans q1
      by_cases hlt : a < P[k].length
      · obtain ⟨b2, o2, rfl, hb2, a2, ca2, q2, r2⟩ := r1.listAt hlt
        have q2a := (hlo.cell (p := ⟨b2, o2 + a, none⟩) hb2).trans q2
        have X : Hid (∀ W' : World, Below wA.heap.size wA W' → Calls Tryd.prog 70 #[.pointer (some ⟨t.bT, 0, none⟩), .int .i64 (i : Int)] W' (fun e w' => ∃ g5, e = .returned (.slice (some ⟨g5, 0, none⟩) (ws.length + 1) (ws.length + 1)) ∧ Reads w' (some ⟨g5, 0, none⟩) (vecL (deltaV i) ws.length) ∧ Below W'.heap.size W' w')) := fun W' hW' => (l7At_any t.bT aw cw ws.length i W' hn hi (HTa.out.later hW').c1).mono (fun e w' h => ⟨_, h.1, h.2.2.1, h.2.2.2⟩)
        have Y : Hid (∀ (W' : World) (g5 : Nat), Below wA.heap.size wA W' → Reads W' (some ⟨g5, 0, none⟩) (vecL (deltaV i) ws.length) → Calls Tryd.prog 69 #[.pointer (some ⟨t.bT, 0, none⟩), .slice a2 P[k][a].length ca2, .slice (some ⟨g5, 0, none⟩) (ws.length + 1) (ws.length + 1)] W' (GoPost P ws w0 t (some ⟨b1, o1, none⟩) cP aw cw (fun b => N b ∨ b = w.heap.size) W' (f a))) := fun W' g5 hW' hR => HGO.out a hlt _ W' a2 ca2 g5 (ws.length + 1) (fun b h => by have := HN.out b h; have := hW'.size; omega) (HTa.out.later hW') r2.reads hR
        have hM1 : ¬ t.M P.length b1 := fun h => by have := HTa.out.ok.base _ h; omega
        have hM2 : ¬ t.M P.length b2 := fun h => by have := HTa.out.ok.base _ h; omega
        have hMT := HTa.out.ok.T
        have hlT := HTa.out.lt.1
        have hlA := hlo.size
        have HST : Hid (∀ j, altTo f (a + 1) j = capN (altTo f a j + f a j)) := fun j => altTo_step
        have HFa : Hid (∀ j, f a j ≤ 1000) := HFL.out a
        have HKP : Hid (∀ w', Within wA w' (t.M P.length) → w'.rowIs w.heap.size 3 (ws.length + 1) (fun j => .int .i64 (altTo2 f a 0 j : Int))) := fun w' h => by rw [altTo2_start]; exact rowIs_within HRo.out h (HO.out _ rfl).2.2.2.2.2
        have haI : (a : Int) < (P[k].length : Int) := by omega
        have HW0 : Hid (Within w wA (t.M P.length)) := HWa
        generalize P[k][a] = row at *
        clear r1 r2 q1 q2 HRo HGO
        go_wp2
        refine wp_region_held_drew (S := (fun w' => w'.cell? ⟨t.bT, 0, none⟩ = some (.slice (some ⟨b1, o1, none⟩) P.length cP) ∧ w'.cell? ⟨b1, o1 + k, none⟩ = some (.slice (some ⟨b2, o2, none⟩) P[k].length ca1) ∧ w'.cell? ⟨b2, o2 + a, none⟩ = some (.slice a2 row.length ca2))) (by kernel_rfl) ⟨q0, q1a, q2a⟩ (fun hHeld => ?_)
        refine take_atL (i := 0) (d := some 51) (v := .pointer (some ⟨t.bT, 0, none⟩)) rfl rfl (by kernel_rfl) (by kernel_rfl) (by kernel_rfl) (fun _ _ _ h => h) (by rfl) ?_ hHeld ?_
        · intro w' hSw; obtain ⟨s0, s1, s2⟩ := hSw; go_simp; first | done | rfl | (intro hbad; exfalso; omega)
        try simp only [Act.put, List.setIfInBounds_toArray, List.set_cons_zero, List.set_cons_succ]
        refine take_atL (i := 1) (d := some 52) (v := .pointer (some ⟨t.bT, 0, none⟩)) rfl rfl (by kernel_rfl) (by kernel_rfl) (by kernel_rfl) (fun _ _ _ h => h) (by rfl) ?_ hHeld ?_
        · intro w' hSw; obtain ⟨s0, s1, s2⟩ := hSw; go_simp; first | done | rfl | (intro hbad; exfalso; omega)
        try simp only [Act.put, List.setIfInBounds_toArray, List.set_cons_zero, List.set_cons_succ]
        refine take_atL (i := 2) (d := some 53) (v := .pointer (some ⟨t.bT, 0, none⟩)) rfl rfl (by kernel_rfl) (by kernel_rfl) (by kernel_rfl) (fun _ _ _ h => h) (by rfl) ?_ hHeld ?_
        · intro w' hSw; obtain ⟨s0, s1, s2⟩ := hSw; go_simp; first | done | rfl | (intro hbad; exfalso; omega)
        try simp only [Act.put, List.setIfInBounds_toArray, List.set_cons_zero, List.set_cons_succ]
        refine take_atL (i := 3) (d := some 54) (v := .pointer (some ⟨t.bT, 0, none⟩)) rfl rfl (by kernel_rfl) (by kernel_rfl) (by kernel_rfl) (fun _ _ _ h => h) (by rfl) ?_ hHeld ?_
        · intro w' hSw; obtain ⟨s0, s1, s2⟩ := hSw; go_simp; first | done | rfl | (intro hbad; exfalso; omega)
        try simp only [Act.put, List.setIfInBounds_toArray, List.set_cons_zero, List.set_cons_succ]
        refine take_atL (i := 4) (d := some 55) (v := .pointer (some ⟨t.bT, 0, none⟩)) rfl rfl (by kernel_rfl) (by kernel_rfl) (by kernel_rfl) (fun _ _ _ h => h) (by rfl) ?_ hHeld ?_
        · intro w' hSw; obtain ⟨s0, s1, s2⟩ := hSw; go_simp; first | done | rfl | (intro hbad; exfalso; omega)
        try simp only [Act.put, List.setIfInBounds_toArray, List.set_cons_zero, List.set_cons_succ]
        refine take_atL (i := 5) (d := some 56) (v := .slice (some ⟨b1, o1, none⟩) P.length cP) rfl rfl (by kernel_rfl) (by kernel_rfl) (by kernel_rfl) (fun _ _ _ h => h) (by rfl) ?_ hHeld ?_
        · intro w' hSw; obtain ⟨s0, s1, s2⟩ := hSw; go_simp; first | done | rfl | (intro hbad; exfalso; omega)
        try simp only [Act.put, List.setIfInBounds_toArray, List.set_cons_zero, List.set_cons_succ]
        refine take_atL (i := 6) (d := some 57) (v := .int .i64 ((k : Int))) rfl rfl (by kernel_rfl) (by kernel_rfl) (by kernel_rfl) (fun _ _ _ h => h) (by rfl) ?_ hHeld ?_
        · intro w' hSw; obtain ⟨s0, s1, s2⟩ := hSw; go_simp; first | done | rfl | (intro hbad; exfalso; omega)
        try simp only [Act.put, List.setIfInBounds_toArray, List.set_cons_zero, List.set_cons_succ]
        refine take_atL (i := 7) (d := some 58) (v := .pointer (some ⟨b1, o1 + k, none⟩)) rfl rfl (by kernel_rfl) (by kernel_rfl) (by kernel_rfl) (fun _ _ _ h => h) (by rfl) ?_ hHeld ?_
        · intro w' hSw; obtain ⟨s0, s1, s2⟩ := hSw; go_simp; first | done | rfl | (intro hbad; exfalso; omega)
        try simp only [Act.put, List.setIfInBounds_toArray, List.set_cons_zero, List.set_cons_succ]
        refine take_atL (i := 8) (d := some 59) (v := .slice (some ⟨b2, o2, none⟩) P[k].length ca1) rfl rfl (by kernel_rfl) (by kernel_rfl) (by kernel_rfl) (fun _ _ _ h => h) (by rfl) ?_ hHeld ?_
        · intro w' hSw; obtain ⟨s0, s1, s2⟩ := hSw; go_simp; first | done | rfl | (intro hbad; exfalso; omega)
        try simp only [Act.put, List.setIfInBounds_toArray, List.set_cons_zero, List.set_cons_succ]
        refine take_atL (i := 9) (d := some 60) (v := .int .i64 ((a : Int))) rfl rfl (by kernel_rfl) (by kernel_rfl) (by kernel_rfl) (fun _ _ _ h => h) (by rfl) ?_ hHeld ?_
        · intro w' hSw; obtain ⟨s0, s1, s2⟩ := hSw; go_simp; first | done | rfl | (intro hbad; exfalso; omega)
        try simp only [Act.put, List.setIfInBounds_toArray, List.set_cons_zero, List.set_cons_succ]
        refine take_atL (i := 10) (d := some 61) (v := .pointer (some ⟨b2, o2 + a, none⟩)) rfl rfl (by kernel_rfl) (by kernel_rfl) (by kernel_rfl) (fun _ _ _ h => h) (by rfl) ?_ hHeld ?_
        · intro w' hSw; obtain ⟨s0, s1, s2⟩ := hSw; go_simp; first | done | rfl | (intro hbad; exfalso; omega)
        try simp only [Act.put, List.setIfInBounds_toArray, List.set_cons_zero, List.set_cons_succ]
        refine take_atL (i := 11) (d := some 62) (v := .slice a2 row.length ca2) rfl rfl (by kernel_rfl) (by kernel_rfl) (by kernel_rfl) (fun _ _ _ h => h) (by rfl) ?_ hHeld ?_
        · intro w' hSw; obtain ⟨s0, s1, s2⟩ := hSw; go_simp; first | done | rfl | (intro hbad; exfalso; omega)
        try simp only [Act.put, List.setIfInBounds_toArray, List.set_cons_zero, List.set_cons_succ]
        refine take_atL (i := 12) (d := some 63) (v := .pointer (some ⟨t.bT, 0, none⟩)) rfl rfl (by kernel_rfl) (by kernel_rfl) (by kernel_rfl) (fun _ _ _ h => h) (by rfl) ?_ hHeld ?_
        · intro w' hSw; obtain ⟨s0, s1, s2⟩ := hSw; go_simp; first | done | rfl | (intro hbad; exfalso; omega)
        try simp only [Act.put, List.setIfInBounds_toArray, List.set_cons_zero, List.set_cons_succ]
        refine take_atL (i := 13) (d := some 64) (v := .int .i64 ((i : Int))) rfl rfl (by kernel_rfl) (by kernel_rfl) (by kernel_rfl) (fun _ _ _ h => h) (by rfl) ?_ hHeld ?_
        · intro w' hSw; obtain ⟨s0, s1, s2⟩ := hSw; go_simp; first | done | rfl | (intro hbad; exfalso; omega)
        try simp only [Act.put, List.setIfInBounds_toArray, List.set_cons_zero, List.set_cons_succ]
        refine wpAnyH_ready (rs := [14]) (by kernel_rfl) (by simp) ?_
        refine AllReadyH.cons (o := _) rfl (fun K hK => ?_) AllReadyH.nil
        rw [if_pos (by rfl)]
        go_simp
        refine (X.out _ (Below.drew (Below.refl _ _))).mono ?_
        rintro e w5 ⟨g5, rfl, hR5, hb5⟩
        have hb5r : Below wA.heap.size wA w5 := Below.drewed (by simpa using hb5)
        have p0 := (hb5r.cell (p := ⟨t.bT, 0, none⟩) hlT).trans q0
        have p1 := (hb5r.cell (p := ⟨b1, o1 + k, none⟩) (by show b1 < _; omega)).trans q1a
        have p2 := (hb5r.cell (p := ⟨b2, o2 + a, none⟩) (by show b2 < _; omega)).trans q2a
        have Z := Y.out w5 g5 hb5r hR5
        clear X Y hR5 hb5
        go_wp2_with fail
        refine hK.out _ _ ⟨p0, p1, p2⟩ (fun hHeld => ?_)
        clear hK K
        try simp only [Act.put, List.setIfInBounds_toArray, List.set_cons_zero, List.set_cons_succ]
        refine wpAnyH_ready (rs := [15]) (by kernel_rfl) (by simp) ?_
        refine AllReadyH.cons (o := _) rfl (fun K hK => ?_) AllReadyH.nil
        rw [if_pos (by rfl)]
        go_simp
        refine Z.mono ?_
        rintro e w6 ⟨g6, c6, rfl, h6M, h6N, h6l, h6R, h6T, h6W⟩
        have s0 := (blk_cell (o := 0) (h6W.block t.bT (Nat.lt_of_lt_of_le hlT hb5r.size) hMT)).trans p0
        have s1 := (blk_cell (o := o1 + k) (h6W.block b1 (by have := hb5r.size; omega) hM1)).trans p1
        have s2 := (blk_cell (o := o2 + a) (h6W.block b2 (by have := hb5r.size; omega) hM2)).trans p2
        have HW6 : Hid (Within wA w6 (t.M P.length)) := (Within.of_below hb5r _).trans h6W
        have HT6 : Hid (Tab P ws w0 t (some ⟨b1, o1, none⟩) cP aw cw (fun b => N b ∨ b = w.heap.size) w6) := h6T
        have HR6 : Hid (Reads w6 (some ⟨g6, 0, none⟩) (vecL (f a) ws.length)) := h6R
        have HG6 : Hid (g6 ≠ w.heap.size) := fun e => h6N (.inr e)
        clear Z p0 p1 p2 h6M h6N h6R h6T h6W
        go_wp2_with fail
        refine hK.out _ _ ⟨s0, s1, s2⟩ (fun hHeld => ?_)
        clear hK K
        try simp only [Act.put, List.setIfInBounds_toArray, List.set_cons_zero, List.set_cons_succ]
        refine take_atL (i := 16) (d := some 9) (v := .slice (some ⟨g6, 0, none⟩) (ws.length + 1) c6) rfl rfl (by kernel_rfl) (by kernel_rfl) (by kernel_rfl) (fun _ _ _ h => h) (by rfl) ?_ hHeld ?_
        · intro w' hSw; obtain ⟨s0, s1, s2⟩ := hSw; go_simp; first | done | rfl | (intro hbad; exfalso; omega)
        try simp only [Act.put, List.setIfInBounds_toArray, List.set_cons_zero, List.set_cons_succ]
        refine wpAnyH_done (by kernel_rfl) ?_ _
        clear hHeld
        have HR7 : Hid (w6.rowIs w.heap.size 3 (ws.length + 1) (fun j => .int .i64 (altTo2 f a 0 j : Int))) := HKP.out w6 HW6.out
        have HW7 : Hid (Within w6 w6 (fun b => b = w.heap.size)) := Within.refl _ _
        clear HKP s0 s1 s2 q0 q1a q2a HWa HTa hlo hb5r
        go_wp2
        go_loopw [10] (fun sj w4 => ∃ j : Nat, j ≤ ws.length + 1 ∧ sj = .int .i64 (j : Int) ∧ Hid (w4.rowIs w.heap.size 3 (ws.length + 1) (fun m => .int .i64 (altTo2 f a j m : Int))) ∧ Hid (Within w6 w4 (fun b => b = w.heap.size))) (fun sj _ => ws.length + 1 - (intOf sj).toNat)
        case atStart => exact ⟨0, Nat.zero_le _, rfl, HR7, HW7⟩
        case round =>
          obtain ⟨j, hj, rfl, HRj, HBj⟩ := hrel
          clear HR7 HW7
          have qc := (HT6.out.kept HBj.out HO.out).c1
          by_cases hjl : j ≤ ws.length
          · have q1 := reads_vec (reads_within HR6.out HBj.out HG6.out) hjl
            have qn := HRj.out.cell (i := j) (by omega)
            have hfr := HRj.out.frozen j
            rw [show altTo2 f a j j = altTo f a j from if_neg (Nat.lt_irrefl _)] at qn
            have hoj := HFa.out j
            have hnj := altTo_le f a j
            have HMJ : Hid (altTo f (a + 1) j = capN (altTo f a j + f a j)) := HST.out j
            have HSj : Hid (∀ m, altTo2 f a (j + 1) m = if m = j then altTo f (a + 1) j else altTo2 f a j m) := altTo2_step
            generalize f a j = oj at *
            generalize altTo f a j = nj at *
            generalize altTo f (a + 1) j = mj at *
            have hmin : min ((nj : Int) + (oj : Int)) 1000 = (mj : Int) := by rw [HMJ.out]; exact min_cap _ _
            have hgp : w.heap.size ≠ g6 := fun e => HG6.out e.symm
            clear HMJ
            go_wp2
            refine wp_region_held_drew (S := (fun w' => w'.cell? ⟨g6, j, none⟩ = some (.int .i64 (oj : Int)) ∧ True)) (by kernel_rfl) ⟨q1, trivial⟩ (fun hHeld => ?_)
            refine take_atL (i := 0) (d := some 76) (v := .slice (some ⟨w.heap.size, 0, none⟩) (ws.length + 1) (ws.length + 1)) rfl rfl (by kernel_rfl) (by kernel_rfl) (by kernel_rfl) (fun _ _ _ h => h) (by rfl) ?_ hHeld ?_
            · intro w' hSw; obtain ⟨s0, _⟩ := hSw; go_simp; first | done | rfl | (refine wrap_in ?_ ?_ <;> omega) | (intro hbad; exfalso; omega)
            try simp only [Act.put, List.setIfInBounds_toArray, List.set_cons_zero, List.set_cons_succ]
            refine take_atL (i := 1) (d := some 77) (v := .int .i64 ((j : Int))) rfl rfl (by kernel_rfl) (by kernel_rfl) (by kernel_rfl) (fun _ _ _ h => h) (by rfl) ?_ hHeld ?_
            · intro w' hSw; obtain ⟨s0, _⟩ := hSw; go_simp; first | done | rfl | (refine wrap_in ?_ ?_ <;> omega) | (intro hbad; exfalso; omega)
            try simp only [Act.put, List.setIfInBounds_toArray, List.set_cons_zero, List.set_cons_succ]
            refine take_atL (i := 2) (d := some 78) (v := .slice (some ⟨w.heap.size, 0, none⟩) (ws.length + 1) (ws.length + 1)) rfl rfl (by kernel_rfl) (by kernel_rfl) (by kernel_rfl) (fun _ _ _ h => h) (by rfl) ?_ hHeld ?_
            · intro w' hSw; obtain ⟨s0, _⟩ := hSw; go_simp; first | done | rfl | (refine wrap_in ?_ ?_ <;> omega) | (intro hbad; exfalso; omega)
            try simp only [Act.put, List.setIfInBounds_toArray, List.set_cons_zero, List.set_cons_succ]
            refine take_atL (i := 3) (d := some 79) (v := .int .i64 ((j : Int))) rfl rfl (by kernel_rfl) (by kernel_rfl) (by kernel_rfl) (fun _ _ _ h => h) (by rfl) ?_ hHeld ?_
            · intro w' hSw; obtain ⟨s0, _⟩ := hSw; go_simp; first | done | rfl | (refine wrap_in ?_ ?_ <;> omega) | (intro hbad; exfalso; omega)
            try simp only [Act.put, List.setIfInBounds_toArray, List.set_cons_zero, List.set_cons_succ]
            refine take_atL (i := 4) (d := some 80) (v := .pointer (some ⟨w.heap.size, j, none⟩)) rfl rfl (by kernel_rfl) (by kernel_rfl) (by kernel_rfl) (fun _ _ _ h => h) (by rfl) ?_ hHeld ?_
            · intro w' hSw; obtain ⟨s0, _⟩ := hSw; go_simp; first | done | rfl | (refine wrap_in ?_ ?_ <;> omega) | (intro hbad; exfalso; omega)
            try simp only [Act.put, List.setIfInBounds_toArray, List.set_cons_zero, List.set_cons_succ]
            refine take_atL (i := 6) (d := some 82) (v := .slice (some ⟨g6, 0, none⟩) (ws.length + 1) c6) rfl rfl (by kernel_rfl) (by kernel_rfl) (by kernel_rfl) (fun _ _ _ h => h) (by rfl) ?_ hHeld ?_
            · intro w' hSw; obtain ⟨s0, _⟩ := hSw; go_simp; first | done | rfl | (refine wrap_in ?_ ?_ <;> omega) | (intro hbad; exfalso; omega)
            try simp only [Act.put, List.setIfInBounds_toArray, List.set_cons_zero, List.set_cons_succ]
            refine take_atL (i := 7) (d := some 83) (v := .int .i64 ((j : Int))) rfl rfl (by kernel_rfl) (by kernel_rfl) (by kernel_rfl) (fun _ _ _ h => h) (by rfl) ?_ hHeld ?_
            · intro w' hSw; obtain ⟨s0, _⟩ := hSw; go_simp; first | done | rfl | (refine wrap_in ?_ ?_ <;> omega) | (intro hbad; exfalso; omega)
            try simp only [Act.put, List.setIfInBounds_toArray, List.set_cons_zero, List.set_cons_succ]
            refine take_atL (i := 8) (d := some 84) (v := .pointer (some ⟨g6, j, none⟩)) rfl rfl (by kernel_rfl) (by kernel_rfl) (by kernel_rfl) (fun _ _ _ h => h) (by rfl) ?_ hHeld ?_
            · intro w' hSw; obtain ⟨s0, _⟩ := hSw; go_simp; first | done | rfl | (refine wrap_in ?_ ?_ <;> omega) | (intro hbad; exfalso; omega)
            try simp only [Act.put, List.setIfInBounds_toArray, List.set_cons_zero, List.set_cons_succ]
            refine take_atL (i := 9) (d := some 85) (v := .int .i64 ((oj : Int))) rfl rfl (by kernel_rfl) (by kernel_rfl) (by kernel_rfl) (fun _ _ _ h => h) (by rfl) ?_ hHeld ?_
            · intro w' hSw; obtain ⟨s0, _⟩ := hSw; go_simp; first | done | rfl | (refine wrap_in ?_ ?_ <;> omega) | (intro hbad; exfalso; omega)
            try simp only [Act.put, List.setIfInBounds_toArray, List.set_cons_zero, List.set_cons_succ]
            refine wpAnyH_ready (rs := [5]) (by kernel_rfl) (by simp) ?_
            refine AllReadyH.cons (o := _) rfl (fun K hK => ?_) AllReadyH.nil
            rw [if_pos (by rfl)]
            go_simp
            refine hK.out _ _ ⟨q1, trivial⟩ (fun hHeld => ?_)
            clear hK K
            try simp only [Act.put, List.setIfInBounds_toArray, List.set_cons_zero, List.set_cons_succ]
            refine take_atL (i := 10) (d := some 86) (v := .int .i64 ((nj : Int) + (oj : Int))) rfl rfl (by kernel_rfl) (by kernel_rfl) (by kernel_rfl) (fun _ _ _ h => h) (by rfl) ?_ hHeld ?_
            · intro w' hSw; obtain ⟨s0, _⟩ := hSw; go_simp; first | done | rfl | (refine wrap_in ?_ ?_ <;> omega) | (intro hbad; exfalso; omega)
            try simp only [Act.put, List.setIfInBounds_toArray, List.set_cons_zero, List.set_cons_succ]
            refine wpAnyH_ready (rs := [11]) (by kernel_rfl) (by simp) ?_
            refine AllReadyH.cons (o := _) rfl (fun K hK => ?_) AllReadyH.nil
            rw [if_pos (by rfl)]
            go_simp
            refine (l1Min_any _ _ _).mono ?_
            rintro e w' ⟨rfl, rfl⟩
            rw [hmin]
            go_wp2_with fail
            refine hK.out _ _ ⟨q1, trivial⟩ (fun hHeld => ?_)
            clear hK K
            try simp only [Act.put, List.setIfInBounds_toArray, List.set_cons_zero, List.set_cons_succ]
            refine take_atL (i := 12) (d := some 88) (v := .pointer (some ⟨w.heap.size, j, none⟩)) rfl rfl (by kernel_rfl) (by kernel_rfl) (by kernel_rfl) (fun _ _ _ h => h) (by rfl) ?_ hHeld ?_
            · intro w' hSw; obtain ⟨s0, _⟩ := hSw; go_simp; first | done | rfl | (refine wrap_in ?_ ?_ <;> omega) | (intro hbad; exfalso; omega)
            try simp only [Act.put, List.setIfInBounds_toArray, List.set_cons_zero, List.set_cons_succ]
            refine wpAnyH_ready (rs := [13]) (by kernel_rfl) (by simp) ?_
            refine AllReadyH.cons (o := _) rfl (fun K hK => ?_) AllReadyH.nil
            rw [if_pos (by rfl)]
            go_simp
            refine hK.out _ _ ⟨(cell_set_off (.inl hgp)).trans q1, trivial⟩ (fun hHeld => ?_)
            clear hK K
            try simp only [Act.put, List.setIfInBounds_toArray, List.set_cons_zero, List.set_cons_succ]
            refine wpAnyH_done (by kernel_rfl) ?_ _
            clear hHeld
            go_wp2
            go_roundw
            case rel => exact ⟨j + 1, by omega, by go_num, rowIs_below (row_put (x := mj) (p := j) HRj.out (fun m _ => HSj.out m)) (below_drew 1), (HBj.out.setCell ⟨w.heap.size, j, none⟩ _ rfl).drew⟩
            case measure => simp [intOf]; omega
          · have e : j = ws.length + 1 := by omega
            subst e
            have HRn : Hid (wr.rowIs w.heap.size 3 (ws.length + 1) (fun m => .int .i64 (altTo f (a + 1) m : Int))) := HRj.out.congr (fun m hm => by rw [show altTo2 f a (ws.length + 1) m = altTo f (a + 1) m from if_pos hm])
            have HTn : Hid (Tab P ws w0 t (some ⟨b1, o1, none⟩) cP aw cw (fun b => N b ∨ b = w.heap.size) wr) := HT6.out.kept HBj.out HO.out
            have HBn : Hid (Within w wr (t.M P.length)) := (HW0.out.trans HW6.out).comp HBj.out (fun k e => .inr (by omega))
            clear HRj HBj HT6 HW6 HR6 HW0
            go_wp2
            go_roundw
            case rel => exact ⟨a + 1, by omega, by go_num, HRn, HTn, HBn⟩
            case measure => simp [intOf]; omega
      · have e : a = P[k].length := by omega
        subst e
        have haI : (P[k].length : Int) ≤ (P[k].length : Int) := Int.le_refl _
        have HTN : Tab P ws w0 t (some ⟨b1, o1, none⟩) cP aw cw N wA := HTa.out.turn (fun b h => .inl (.inl h))
        have hRV : RowV wA (t.M P.length) N (vecL (way P ws k i) ws.length) (.slice (some ⟨w.heap.size, 0, none⟩) (ws.length + 1) (ws.length + 1)) := by
          refine ⟨w.heap.size, ws.length + 1, by rw [vecL_length], (HO.out _ rfl).2.2.2.2.2, HNS.out, hgS, ?_⟩
          rw [vecL_congr (fun j _ => HEQ.out j)]
          exact row_reads HRo.out
        have T1 := HTN.storeW hk hRV
        have mW : t.M P.length (t.bW k) := ⟨k, hk, .inl rfl⟩
        have mD : t.M P.length (t.bD k) := ⟨k, hk, .inr rfl⟩
        have hW1 : Within wA (wA.setCell ⟨t.bW k, i, none⟩ (.slice (some ⟨w.heap.size, 0, none⟩) (ws.length + 1) (ws.length + 1))) (t.M P.length) := set_within _ _ _ _ mW
        obtain ⟨d1, hd1⟩ := HTN.known
        obtain ⟨pd, u1, pu, _⟩ := hd1 k i hk hi
        have T2 := T1.storeD hk (cell_set pu) (hRV.kept hW1 (fun _ e => .inl e))
        have hW2 := hW1.trans (set_within (wA.setCell ⟨t.bW k, i, none⟩ (.slice (some ⟨w.heap.size, 0, none⟩) (ws.length + 1) (ws.length + 1))) (t.bD k) i (.bool true) mD)
        have HE : Hid (GoPost P ws w0 t (some ⟨b1, o1, none⟩) cP aw cw N w (way P ws k i) (.returned (.slice (some ⟨w.heap.size, 0, none⟩) (ws.length + 1) (ws.length + 1))) ((wA.setCell ⟨t.bW k, i, none⟩ (.slice (some ⟨w.heap.size, 0, none⟩) (ws.length + 1) (ws.length + 1))).setCell ⟨t.bD k, i, none⟩ (.bool true))) := by
          obtain ⟨b, c, e, h1, h2, h3, h4⟩ := hRV.kept hW2 (fun _ e => .inl e)
          rw [vecL_length] at e
          cases e
          exact ⟨_, _, rfl, h1, h2, h3, h4, T2, HWa.out.trans hW2⟩
        have c2 := HTN.c2
        have rW := HTN.rW k hk
        have fW := HTN.fr _ mW i
        have c3 := T1.c3
        have rD := T1.rD k hk
        have fD := T1.fr _ mD i
        have qd := (cell_set_off (x := .slice (some ⟨w.heap.size, 0, none⟩) (ws.length + 1) (ws.length + 1)) (i := i) (o := i) (.inl (HTN.ok.wD k k hk hk))).trans pd
        have n1 : t.bW k ≠ t.bT := fun e => HTN.ok.T (e ▸ mW)
        have n2 : t.bW k ≠ t.oD := fun e => HTN.ok.oD (e ▸ mW)
        have n3 : t.bW k ≠ t.bD k := HTN.ok.wD k k hk hk
        clear HTN T1 T2 hW1 hW2 hRV hd1 HRo HTa HWa HEQ HP HGO r1 mW mD
        go_wp2
        go_ret
        exact HE.out
/-- spec.l7Part at every part and place. -/
theorem l7Part_ok (hok : gramOkB P = true) (hL : NoLoop P) (hws : Reads w0 aw ws) (hn : ws.length ≤ 10) (hP : RD w0 (.slice aP P.length cP) (slD (Lay.list (Lay.list Lay.int)) P)) (m : Nat) :
    ∀ k i, k < P.length → i ≤ ws.length → muP P ws.length k i < m → PartOk P ws w0 t aP cP aw cw k i := by
  have F := Fits.of hok
  induction m with
  | zero => intro k i _ _ h; omega
  | succ m ih =>
    intro k i hk hi hm N w hN hT
    have hmem := List.getElem_mem hk
    refine l7Part_walk k i N w hk hi hN hT hn hP (F.alts _ hmem) (fun a => rowNx ws (way P ws) (deltaV i) (P[k].getD a [])) (fun a ha => by simp [List.getD, ha]) (fun a j => rowNx_le (deltaV_le i) j) ?_ (fun j => way_eq F hL hk hi j)
    intro a ha N' W ar cr b0 c0 h1 h2 h3 h4
    have hmem2 := List.getElem_mem ha
    refine l7Go_any P[k][a] ar cr (deltaV i) b0 c0 N' W h1 h2 hws hn h3 (by have := F.rows _ hmem _ hmem2; omega) h4 (deltaV_le i) (F.syms _ hmem _ hmem2) ?_
    intro s hs hx i' hi' hne
    obtain ⟨_, _, h5⟩ := way_lt F hL hk ha hi hs hx hne
    exact ih _ i' (gram_part hok hk ha hs) hi' (by omega)
/-- spec.l7Go at a row of symbols. -/
theorem l7Go_ok (hok : gramOkB P = true) (hL : NoLoop P) (hws : Reads w0 aw ws) (hn : ws.length ≤ 10) (hP : RD w0 (.slice aP P.length cP) (slD (Lay.list (Lay.list Lay.int)) P)) (row : List Int) (ar : Option Addr) (cr : Nat) (v : Nat → Nat) (b0 c0 : Nat) (N : Nat → Prop) (w : World)
    (hN : ∀ b, N b → b < w.heap.size) (hT : Tab P ws w0 t aP cP aw cw N w) (hr : Reads w0 ar row) (hrl : row.length ≤ 1048576) (hf2 : Reads w (some ⟨b0, 0, none⟩) (vecL v ws.length)) (hv : ∀ j, v j ≤ 1000) (hrow : ∀ x ∈ row, symOk P.length x = true) (hp : P.length ≤ 20) :
    Calls Tryd.prog 69 #[.pointer (some ⟨t.bT, 0, none⟩), .slice ar row.length cr, .slice (some ⟨b0, 0, none⟩) (ws.length + 1) c0] w (GoPost P ws w0 t aP cP aw cw N w (rowNx ws (way P ws) v row)) := by
  refine l7Go_any row ar cr v b0 c0 N w hN hT hws hn hr hrl hf2 hv (fun x hx => by have := symOk_true.1 (hrow x hx); omega) ?_
  intro s hs hx i hi _
  have := symOk_true.1 (hrow row[s] (List.getElem_mem hs))
  exact l7Part_ok hok hL hws hn hP _ _ i (by omega) hi (Nat.lt_succ_self _)
end
end Go.Proofs.YthnppodnjokaoaaDoor
