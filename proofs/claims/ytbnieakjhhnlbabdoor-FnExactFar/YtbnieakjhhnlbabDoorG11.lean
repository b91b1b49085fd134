/-
  Contracts and plain mathematics, joined: StrOf, TrFar, Far, MIntS, MIntSS, MIntSSS, MGram, FarLaw. No statement is proved here.
-/
import Derived.Test.YtbnieakjhhnlbabDoorG10
import Derived.Test.YtbnieakjhhnlbabDoorG4
import Derived.Test.YtbnieakjhhnlbabDoorG5
import Derived.Test.YtbnieakjhhnlbabDoorG8
namespace Go.Proofs.YtbnieakjhhnlbabDoor
open Go.RowKit

section
variable {Q8 : Program}
theorem exec_loadP {ρ : Operand → Value} {o : Oper} {w : World} {ty e : TypeId} {x : Operand} {p : Addr} {v : Value} (ho : o.op = .load ty x) (hx : ρ x = .pointer (some p)) (hu : Q8.underlying ty = some (.pointer e)) (hc : w.cell? p = some v) :
    (execOp ρ o).run Q8 w = .ok (.value v) w := by
  have hg : (isAgg ty).run Q8 w = .ok false w := by simp [isAgg, run_underlying hu]
  unfold execOp
  simp [ho, hx, Instr.loadAt, Instr.sureAddr, loadVar, hg, hc]
theorem exec_storeP {ρ : Operand → Value} {o : Oper} {w : World} {ty : TypeId} {x y : Operand} {p : Addr} {v u : Value} {u8 : Option Addr} (ho : o.op = .store ty x y) (hx : ρ x = .pointer (some p)) (hy : ρ y = .pointer u8) (hv : v = .pointer u8) (hz : (Q8.info? ty).map (·.size) = some 1) (hc : w.cell? p = some u) (hf : w.frozen? p = false) :
    (execOp ρ o).run Q8 w = .ok .skip (w.setCell p v) := by
  subst hv
  have hs : (sizeOf ty).run Q8 w = .ok 1 w := by
    cases hq : Q8.info? ty with
    | none => simp [hq] at hz
    | some j => simp [hq] at hz; simp [sizeOf, typeInfo, hq, hz]
  have hp : p.add 0 = p := by obtain ⟨b, o, e⟩ := p; simp [Addr.add]
  have hst : (store p (.pointer u8)).run Q8 w = .ok () (w.setCell p (.pointer u8)) := by rw [run_store Q8 w p (.pointer u8) _ rfl, hc]; simp [hf]
  unfold execOp
  simp [ho, hx, hy, Instr.storeAt, Instr.sureAddr, storeVar, hs, Value.cells, storeCells, hp, hst]
theorem wpList_loadP {ops : Array Oper} {rest : List Oper} {o : Oper} {a : Act} {w : World} {Q : Exit → Act → World → Prop} (hgd : Region.wanted o (yielded ops a.tmps) = true) (ty e : TypeId) (x : Operand) (ho : o.op = .load ty x) (p : Addr) (v : Value) (hx : a.eval x = .pointer (some p)) (hu : Q8.underlying ty = some (.pointer e)) (hc : w.cell? p = some v)
    (h : wpList Q8 ops Q rest (a.put o.dst v) w) : wpList Q8 ops Q (o :: rest) a w :=
  wpList_val hgd (exec_loadP ho hx hu hc) h
theorem wpList_storeP {ops : Array Oper} {rest : List Oper} {o : Oper} {a : Act} {w : World} {Q : Exit → Act → World → Prop} (hgd : Region.wanted o (yielded ops a.tmps) = true) (ty : TypeId) (x y : Operand) (ho : o.op = .store ty x y) (p : Addr) (u8 : Option Addr) (u : Value) (hx : a.eval x = .pointer (some p)) (hy : a.eval y = .pointer u8) (hz : (Q8.info? ty).map (·.size) = some 1) (hc : w.cell? p = some u) (hf : w.frozen? p = false)
    (h : wpList Q8 ops Q rest (a.put o.dst undef) (w.setCell p (.pointer u8))) : wpList Q8 ops Q (o :: rest) a w :=
  wpList_unit hgd (exec_storeP ho hx hy rfl hz hc hf) h
end
theorem u_pstr : Tryd.prog.underlying 38 = some (.pointer 64) := by kernel_rfl
theorem pstr_size : (Tryd.prog.info? 38).map (·.size) = some 1 := by kernel_rfl
/-- What the first alternatives lead to. -/
def altTo8 (f : Nat → Nat → Nat) (a : Nat) : Nat → Nat := fun j => sumTo (fun x => f x j) a
theorem altTo8_end {P : List (List (List Int))} {ws : List Int} (F : Fits P) (hL : NoLoop P) {k i : Nat} (hk : k < P.length) (hi : i ≤ ws.length) (j : Nat) : altTo8 (fun a => rowNx ws (way P ws) (deltaV i) (P[k].getD a [])) P[k].length j ≠ 0 ↔ way P ws k i j ≠ 0 := by
  rw [way_eq F hL hk hi]
  show sumTo (fun a => rowNx ws (way P ws) (deltaV i) (P[k].getD a []) j) P[k].length ≠ 0 ↔ capN (sumTo (fun a => rowNx ws (way P ws) (deltaV i) (P[k].getD a []) j) P[k].length) ≠ 0
  generalize sumTo (fun a => rowNx ws (way P ws) (deltaV i) (P[k].getD a []) j) P[k].length = y
  unfold capN
  omega
section
variable {P : List (List (List Int))} {ws : List Int} {w0 : World} {bT : Nat} {aP : Option Addr} {cP : Nat} {aw : Option Addr} {cw : Nat} {K : Nat → Prop}
set_option maxHeartbeats 8000000 in
set_option maxRecDepth 100000 in
theorem strOf_walk (k i : Nat) (w : World) (hT : TrIn P ws w0 bT aP cP aw cw K w) (hk : k < P.length) (hi : i ≤ ws.length) (hn : ws.length ≤ 10) (hp : P.length ≤ 20) (hp8 : P[k].length ≤ 8) (h0 : RD w0 (.slice aP P.length cP) (slD (Lay.list (Lay.list Lay.int)) P)) (fr : Nat → Nat) (nx : Nat → Nat → Nat)
    (hrow : ∀ a (ha : a < P[k].length) (W : World) (K : Nat → Prop) (ar : Option Addr) (cr : Nat), TrIn P ws w0 bT aP cP aw cw K W → RD w0 (.slice ar P[k][a].length cr) (slD Lay.int P[k][a]) → Calls Tryd.prog 31 #[.pointer (some ⟨bT, 0, none⟩), .slice ar P[k][a].length cr, .int .i64 (i : Int)] W fun e w' => e = .returned (aggV (strV (fr a) (nx a))) ∧ Hid (∃ K', TrIn P ws w0 bT aP cP aw cw K' w' ∧ ∀ b, K' b → K b ∨ W.heap.size ≤ b) ∧ Within W w' (fun b => b = bT))
    (heq : farP P ws k i = maxOn fr i P[k].length) (heq2 : ∀ j, altTo8 nx P[k].length j ≠ 0 ↔ way P ws k i j ≠ 0) :
    Calls Tryd.prog 58 #[.pointer (some ⟨bT, 0, none⟩), .int .i64 (k : Int), .int .i64 (i : Int)] w fun e w' => e = .returned (aggV (strV (farP P ws k i) (way P ws k i))) ∧ Hid (∃ K', TrIn P ws w0 bT aP cP aw cw K' w' ∧ ∀ b, K' b → K b ∨ w.heap.size ≤ b) ∧ Within w w' (fun b => b = bT) := by
  have HT : Hid (TrIn P ws w0 bT aP cP aw cw K w) := hT
  have hbl := hT.lt
  have hb0 := hT.low.size
  have HKB : Hid (∀ b, K b → b < w.heap.size ∧ b ≠ bT) := fun b e => ⟨(hT.kb b e).2.2, (hT.kb b e).1⟩
  have HP : Hid (RD w0 (.slice aP P.length cP) (slD (Lay.list (Lay.list Lay.int)) P)) := h0
  have HRO : Hid (∀ a (ha : a < P[k].length) (W : World) (K : Nat → Prop) (ar : Option Addr) (cr : Nat), TrIn P ws w0 bT aP cP aw cw K W → RD w0 (.slice ar P[k][a].length cr) (slD Lay.int P[k][a]) → Calls Tryd.prog 31 #[.pointer (some ⟨bT, 0, none⟩), .slice ar P[k][a].length cr, .int .i64 (i : Int)] W fun e w' => e = .returned (aggV (strV (fr a) (nx a))) ∧ Hid (∃ K', TrIn P ws w0 bT aP cP aw cw K' w' ∧ ∀ b, K' b → K b ∨ W.heap.size ≤ b) ∧ Within W w' (fun b => b = bT)) := hrow
  have HEQ : Hid (maxOn fr i P[k].length = farP P ws k i) := heq.symm
  have HEQ2 : Hid (∀ j, altTo8 nx P[k].length j ≠ 0 ↔ way P ws k i j ≠ 0) := heq2
  have hk20 : (k : Int) < 20 := by omega
  have hi11 : (i : Int) < 11 := by omega
  have hkI : (k : Int) < (P.length : Int) := by omega
  clear hT hrow heq heq2 h0
  obtain ⟨u, qu, hu⟩ := HT.out.known k i hk hi
  cases u with
  | some ad =>
    obtain ⟨b, rfl, hKb, hSb⟩ := hu ad rfl
    have HSb : Hid (Str w b (farP P ws k i) (way P ws k i)) := hSb
    clear hu hSb HEQ HEQ2 HRO HP hKb
    generalize farP P ws k i = m at *
    generalize way P ws k i = v at *
    go_enter Tryd.func58, Tryd.ntmps58
    go_wp2_with (first
      | (refine wpList_allocS (w := w) rfl rfl ?_; intro w1 hA1 hb1 hs1; have l1 : w.heap.size < w1.heap.size := (by omega); clear hs1; have qu1 := (hb1.cell (p := ⟨bT, 2 + k * 11 + i, none⟩) hbl).trans qu)
      | (refine wpList_loadS rfl _ rfl b m v rfl (HSb.out.later hb1) ?_)
      | (refine wpList_storeS rfl _ _ rfl w.heap.size 0 (fun _ => 0) m v rfl rfl hA1 ?_; intro w6 hS6 hg6))
    have HT1 : Hid (TrIn P ws w0 bT aP cP aw cw K w1) := HT.out.later hb1
    have hWn : Within w1 w6 (fun b => b = w.heap.size) := Within.of_grown hg6 (fun k e => by cases e; rfl)
    exact bodyPost_ret (v := aggV (strV m v)) (ret_cellS rfl rfl hS6) rfl ⟨rfl, ⟨K, HT1.out.kept hWn (fun b e => by subst e; exact ⟨by omega, by omega, fun h => by have := (HKB.out _ h).1; omega⟩), fun b e => .inl e⟩, (Within.of_below hb1 (fun b => b = bT)).comp hWn (fun b e => .inr (by omega))⟩
  | none =>
    clear hu
    obtain ⟨b1, o1, rfl, hb1a, a1, ca1, p1, r1⟩ := HP.out.listAt hk
    have HR1 : Hid (RD w0 (.slice a1 P[k].length ca1) (slD (Lay.list Lay.int) P[k])) := r1
    have q0 := HT.out.c0
    have p1a := (HT.out.low.cell (p := ⟨b1, o1 + k, none⟩) hb1a).trans p1
    have hlow1 := HT.out.low.size
    have HC : Hid (∀ W, Below w.heap.size w W → W.cell? ⟨bT, 0, none⟩ = some (.slice (some ⟨b1, o1, none⟩) P.length cP) ∧ W.cell? ⟨b1, o1 + k, none⟩ = some (.slice a1 P[k].length ca1)) := fun W hW => ⟨(hW.cell (p := ⟨bT, 0, none⟩) HT.out.lt).trans q0, (hW.cell (p := ⟨b1, o1 + k, none⟩) (by show b1 < _; omega)).trans p1a⟩
    clear p1 r1 q0 p1a
    go_enter Tryd.func58, Tryd.ntmps58
    go_wp2_with (first
      | (refine wpList_allocS (w := w) rfl rfl ?_; intro w1 hA1 hb1 hs1; have l1 : w.heap.size < w1.heap.size := (by omega); clear hs1; have qu1 := (hb1.cell (p := ⟨bT, 2 + k * 11 + i, none⟩) hbl).trans qu)
      | (refine wpList_str1 rfl _ rfl i rfl ?_)
      | (refine wpList_allocS (w := w1) rfl rfl ?_; intro w2 hA2 hb2 hs2; clear hs2)
      | (refine wpList_storeS rfl _ _ rfl w1.heap.size 0 (fun _ => 0) i (fun _ => 0) rfl rfl hA2 ?_; intro w4 hS4 hg4; have g4 : Below w1.heap.size w1 w4 := (hb2.grown hg4 hb2.size (fun k e => by cases e; omega)); have g40 : Below w.heap.size w w4 := hb1.trans (g4.mono hb1.size); obtain ⟨q0, p1a⟩ := HC.out w4 g40))
    have HA1 : Hid (Str w1 w.heap.size 0 (fun _ => 0)) := hA1
    have HB1 : Hid (Below w.heap.size w w1) := hb1
    have HT1 : Hid (TrIn P ws w0 bT (some ⟨b1, o1, none⟩) cP aw cw K w1) := HT.out.later hb1
    have HS0 : Hid (Str w4 w1.heap.size (maxOn fr i 0) (altTo8 nx 0)) := hS4
    have HA4 : Hid (Str w4 w.heap.size 0 (fun _ => 0)) := (HA1.out.later hb2).grown hg4 (fun e => by have := Option.some.inj e; omega)
    have HT4 : Hid (TrIn P ws w0 bT (some ⟨b1, o1, none⟩) cP aw cw K w4) := HT1.out.later g4
    have HB4 : Hid (Below w.heap.size w w4) := HB1.out.trans (g4.mono HB1.out.size)
    have hSl : w1.heap.size < w4.heap.size := hS4.lt
    have HG0 : Hid (Within w4 w4 (fun b => b = bT ∨ b = w1.heap.size)) := Within.refl _ _
    have HC4 : Hid (∀ b, b ≠ bT → b < w.heap.size → b ≠ w1.heap.size) := fun b _ h => by omega
    clear hA2 hb2 hS4 hg4 g4 g40 HA1 HT1 HB1 HC qu qu1 q0 p1a hA1 hb1 HT
    have hb1w : b1 < w.heap.size := by omega
    have hbT1 : bT < w1.heap.size := by omega
    clear HC4
    generalize w1.heap.size = nS at *
    go_loopw [35] (fun s35 wr => ∃ a : Nat, a ≤ P[k].length ∧ s35 = .int .i64 (a : Int) ∧ Hid (Str wr nS (maxOn fr i a) (altTo8 nx a)) ∧ Hid (Within w4 wr (fun b => b = bT ∨ b = nS)) ∧ Hid (∃ K', TrIn P ws w0 bT (some ⟨b1, o1, none⟩) cP aw cw K' wr ∧ ∀ b, K' b → K b ∨ w4.heap.size ≤ b)) (fun s35 _ => P[k].length - (intOf s35).toNat)
    case atStart => exact ⟨0, Nat.zero_le _, rfl, HS0, HG0, ⟨K, HT4.out, fun b e => .inl e⟩⟩
    case round =>
      obtain ⟨a, ha, rfl, HSq, HGq, HKq⟩ := hrel
      obtain ⟨wA, hwA⟩ : ∃ y, y = wr := ⟨_, rfl⟩
      subst hwA
      clear HS0 HG0
      obtain ⟨K1, hT1, hK1⟩ := HKq.out
      have HT1 : Hid (TrIn P ws w0 bT (some ⟨b1, o1, none⟩) cP aw cw K1 wA) := hT1
      have HK1 : Hid (∀ b, K1 b → K b ∨ w4.heap.size ≤ b) := hK1
      have hszA := HGq.out.size
      clear hT1 hK1 HKq
      by_cases hlt : a < P[k].length
      · obtain ⟨b2, o2, rfl, hb2, a2, ca2, q2, r2⟩ := HR1.out.listAt hlt
        have q2a := (HT1.out.low.cell (p := ⟨b2, o2 + a, none⟩) hb2).trans q2
        have X := HRO.out a hlt wA K1 a2 ca2 HT1.out r2
        have haI : (a : Int) < (P[k].length : Int) := by omega
        have HSn0 : Hid (∀ w7, Str w7 nS (max (maxOn fr i a) (fr a)) (fun j => altTo8 nx a j + nx a j) → Str w7 nS (maxOn fr i (a + 1)) (altTo8 nx (a + 1))) := fun w7 h => h
        clear r2 q2 HRO HEQ HEQ2
        generalize P[k][a].length = n2 at *
        go_wp2_with (first
          | (go_at_call 31; refine X.mono ?_; rintro e w6 ⟨rfl, HK6, hW6⟩; have hS6 := HSq.out.kept (hW6.block nS HSq.out.lt (by omega)))
          | (go_at_call 57; refine (strJoin_any nS _ _ _ _ w6 hS6).mono ?_; rintro e w7 ⟨rfl, hS7, hg7⟩))
        obtain ⟨K2, hT2, hK2⟩ := HK6.out
        have hWn : Within w6 w7 (fun b => b = nS) := Within.of_grown hg7 (fun k e => by cases e; rfl)
        have hNS : ¬ K2 nS := fun e => by
          rcases hK2 nS e with e | e
          · rcases HK1.out nS e with e | e
            · have := (HKB.out nS e).1; omega
            · omega
          · omega
        have HKn : Hid (∃ K', TrIn P ws w0 bT (some ⟨b1, o1, none⟩) cP aw cw K' w7 ∧ ∀ b, K' b → K b ∨ w4.heap.size ≤ b) := ⟨K2, hT2.kept hWn (fun b e => by subst e; exact ⟨by omega, by omega, hNS⟩), fun b e => by
          rcases hK2 b e with e | e
          · exact HK1.out b e
          · right; omega⟩
        have HSn : Hid (Str w7 nS (maxOn fr i (a + 1)) (altTo8 nx (a + 1))) := HSn0.out w7 hS7
        have HGn : Hid (Within w4 w7 (fun b => b = bT ∨ b = nS)) := (HGq.out.trans (hW6.mono (fun b e => .inl e))).trans (hWn.mono (fun b e => .inr e))
        clear hT2 hK2 hS6 hS7 hg7 hW6 hWn X HK6 HSn0
        go_wp2
        go_roundw
        case rel => exact ⟨a + 1, by omega, by go_num, HSn, HGn, HKn⟩
        case measure => simp [intOf]; omega
      · have e : a = P[k].length := by omega
        subst e
        have HSf : Hid (Str wA nS (farP P ws k i) (way P ws k i)) := by
          have := HSq.out.congr (fun j _ => HEQ2.out j)
          rw [HEQ.out] at this
          exact this
        have HAr : Hid (Str wA w.heap.size 0 (fun _ => 0)) := HA4.out.kept (HGq.out.block _ HA4.out.lt (by omega))
        obtain ⟨u', qu', _⟩ := HT1.out.known k i hk hi
        have fu := HT1.out.fr (2 + k * 11 + i)
        have HPUT := HT1.out.put (k := k) (i := i) hi hn (by omega : nS ≠ bT) (by omega) HSf.out
        have HPh : Hid (TrIn P ws w0 bT (some ⟨b1, o1, none⟩) cP aw cw (fun x => K1 x ∨ x = nS) (wA.setCell ⟨bT, 2 + k * 11 + i, none⟩ (.pointer (some ⟨nS, 0, none⟩)))) := HPUT
        have hW8 : Within wA (wA.setCell ⟨bT, 2 + k * 11 + i, none⟩ (.pointer (some ⟨nS, 0, none⟩))) (fun b => b = bT) := set_within _ _ _ _ rfl
        have HS8 : Hid (Str (wA.setCell ⟨bT, 2 + k * 11 + i, none⟩ (.pointer (some ⟨nS, 0, none⟩))) nS (farP P ws k i) (way P ws k i)) := HSf.out.kept (hW8.block nS HSf.out.lt (by omega))
        have HA8 : Hid (Str (wA.setCell ⟨bT, 2 + k * 11 + i, none⟩ (.pointer (some ⟨nS, 0, none⟩))) w.heap.size 0 (fun _ => 0)) := HAr.out.kept (hW8.block _ HAr.out.lt (by omega))
        have HW8 : Hid (Within w4 (wA.setCell ⟨bT, 2 + k * 11 + i, none⟩ (.pointer (some ⟨nS, 0, none⟩))) (fun b => b = bT ∨ b = nS)) := HGq.out.trans (hW8.mono (fun b e => .inl e))
        clear HPUT hW8 HSf HAr HSq HGq HRO HEQ HEQ2 HT1 HR1
        go_wp2_with (first
          | (refine wpList_storeP rfl 38 _ _ rfl ⟨bT, 2 + k * 11 + i, none⟩ (some ⟨nS, 0, none⟩) _ rfl rfl pstr_size qu' fu ?_)
          | (refine wpList_loadS rfl _ rfl nS (farP P ws k i) (way P ws k i) rfl HS8.out ?_)
          | (refine wpList_storeS rfl _ _ rfl w.heap.size 0 (fun _ => 0) (farP P ws k i) (way P ws k i) rfl rfl HA8.out ?_; intro w9 hS9 hg9))
        have hWn : Within (wA.setCell ⟨bT, 2 + k * 11 + i, none⟩ (.pointer (some ⟨nS, 0, none⟩))) w9 (fun b => b = w.heap.size) := Within.of_grown hg9 (fun k e => by cases e; rfl)
        have hs4 := HB4.out.size
        exact bodyPost_ret (v := aggV (strV (farP P ws k i) (way P ws k i))) (ret_cellS rfl rfl hS9) rfl ⟨rfl, ⟨_, HPh.out.kept hWn (fun b e => by
          subst e
          refine ⟨by omega, by omega, fun h => ?_⟩
          rcases h with h | h
          · rcases HK1.out _ h with h | h
            · have := (HKB.out _ h).1; omega
            · omega
          · omega), fun b e => by
          rcases e with e | e
          · exact (HK1.out b e).imp id (fun h => by omega)
          · right; omega⟩, ((Within.of_below HB4.out (fun b => b = bT)).comp HW8.out (fun b e => by rcases e with e | e; exact .inl e; exact .inr (by omega))).comp hWn (fun b e => .inr (by omega))⟩
/-- impl.tracer.ofPart at every part and place. -/
theorem strOf_ok (hok : gramOkB P = true) (hL : NoLoop P) (hws : Reads w0 aw ws) (hn : ws.length ≤ 10) (hP : RD w0 (.slice aP P.length cP) (slD (Lay.list (Lay.list Lay.int)) P)) (m : Nat) :
    ∀ k i, k < P.length → i ≤ ws.length → muP P ws.length k i < m → StrPartOk P ws w0 bT aP cP aw cw k i := by
  have F := Fits.of hok
  induction m with
  | zero => intro k i _ _ h; omega
  | succ m ih =>
    intro k i hk hi hm W K hC
    have hmem := List.getElem_mem hk
    refine strOf_walk k i W hC hk hi hn F.parts (F.alts _ hmem) hP (fun a => farRow ws (way P ws) (farP P ws) i (P[k].getD a [])) (fun a => rowNx ws (way P ws) (deltaV i) (P[k].getD a [])) ?_ (far_eq F hL hk hi) (fun j => altTo8_end F hL hk hi j)
    intro a ha W' K' ar cr h1 h2
    have hmem2 := List.getElem_mem ha
    have ea : P[k].getD a [] = P[k][a] := by simp [List.getD, ha]
    show Calls _ _ _ _ (fun e w' => e = .returned (aggV (strV (farRow ws (way P ws) (farP P ws) i (P[k].getD a [])) (rowNx ws (way P ws) (deltaV i) (P[k].getD a [])))) ∧ _)
    rw [ea]
    refine strRow_any P[k][a] ar cr i W' h1 hws h2.reads (by have := F.rows _ hmem _ hmem2; omega) hn hi ?_ F hL ?_
    · intro x hx
      simp only [gramOkB, Bool.and_eq_true, List.all_eq_true, partOk, rowOk] at hok
      exact (((hok.2 _ hmem).2 _ hmem2).2) x hx
    · intro s hs hx j hj hne
      obtain ⟨_, _, h5⟩ := way_lt F hL hk ha hi hs hx hne
      exact ih _ j (gram_part hok hk ha hs) hj (by omega)
end
end Go.Proofs.YtbnieakjhhnlbabDoor
namespace Go.Proofs.YtbnieakjhhnlbabDoor
open Go.RowKit

/-- The values of a tracer that knows nothing. -/
def trV (u v : Value) : List Value := u :: v :: List.replicate 220 (.pointer none)
theorem trV_length (u v : Value) : (trV u v).length = 222 := by rw [trV, List.length_cons, List.length_cons, List.length_replicate]
theorem trV_ones {u v : Value} (hu : u.oneCell' = true) (hv : v.oneCell' = true) : Ones (trV u v) := fun x hx => by
  simp only [trV, List.mem_cons] at hx
  rcases hx with rfl | rfl | hx
  · exact hu
  · exact hv
  · rw [(List.mem_replicate.1 hx).2]; rfl
theorem trV_known (u v : Value) {n : Nat} (h : n < 220) : (trV u v)[2 + n]? = some (.pointer none) := by
  rw [Nat.add_comm]
  show (List.replicate 220 (Value.pointer none))[n]? = _
  rw [List.getElem?_replicate, if_pos h]
set_option maxRecDepth 100000 in
theorem rt_tr : RowT Tryd.prog 42 (trV (.slice none 0 0) (.slice none 0 0)) := ⟨by kernel_rfl, row_of (by kernel_rfl)⟩
theorem fill_tr {place : Nat → Option (Nat × Nat)} (h0 : place 0 = some (0, 1)) (h1 : place 1 = some (1, 1)) (u0 v0 u : Value) (R : List Value) (a : Option Addr) (l c : Nat) :
    Instr.fill place (u0 :: v0 :: R).toArray [(0, .agg #[u]), (1, .slice a l c)] = some (u :: .slice a l c :: R).toArray := by
  simp [Instr.fill, h0, h1, Value.cells]
set_option maxRecDepth 100000 in
set_option maxHeartbeats 1000000 in
theorem exec_tr {ρ : Operand → Value} {o : Oper} {x y : Operand} {aP : Option Addr} {lP cP : Nat} {aw : Option Addr} {lw cw : Nat} (ho : o.op = .build 42 #[(0, x), (1, y)]) (hx : ρ x = .agg #[.slice aP lP cP]) (hy : ρ y = .slice aw lw cw) (w : World) :
    (execOp ρ o).run Tryd.prog w = .ok (.value (aggV (trV (.slice aP lP cP) (.slice aw lw cw)))) w := by
  have hf := fill_tr (place := fun x => ([((0 : Nat), (1 : Nat)), (1, 1), (2, 220)] : List (Nat × Nat))[x]?) rfl rfl (.slice none 0 0) (.slice none 0 0) (.slice aP lP cP) (List.replicate 220 (.pointer none)) aw lw cw
  have hz := rt_tr.zero w
  unfold trV at *
  generalize List.replicate 220 (Value.pointer none) = Z at *
  unfold execOp
  simp [ho, Instr.build, hz, run_underlying Tryd.underlying42, hx, hy, Value.cells, aggV]
  rw [hf]
  rfl
theorem wpList_tr {ops : Array Oper} {rest : List Oper} {o : Oper} {a : Act} {w : World} {Q : Exit → Act → World → Prop} (hgd : Region.wanted o (yielded ops a.tmps) = true) (x y : Operand) (ho : o.op = .build 42 #[(0, x), (1, y)]) (aP : Option Addr) (lP cP : Nat) (aw : Option Addr) (lw cw : Nat) (hx : a.eval x = .agg #[.slice aP lP cP]) (hy : a.eval y = .slice aw lw cw)
    (h : wpList Tryd.prog ops Q rest (a.put o.dst (aggV (trV (.slice aP lP cP) (.slice aw lw cw)))) w) : wpList Tryd.prog ops Q (o :: rest) a w :=
  wpList_val hgd (exec_tr ho hx hy w) h
section
variable {P : List (List (List Int))} {ws : List Int} {w0 : World} {bT : Nat} {aP : Option Addr} {cP : Nat} {aw : Option Addr} {cw : Nat} {K : Nat → Prop}
theorem TrIn.new {w : World} (hV : Vals w bT 42 (trV (.slice aP P.length cP) (.slice aw ws.length cw))) (hlow : Below w0.heap.size w0 w) (hb : w0.heap.size ≤ bT) (hp : P.length ≤ 20) (hn : ws.length ≤ 10) : TrIn P ws w0 bT aP cP aw cw (fun _ => False) w :=
  ⟨hlow, hb, hV.lt, by rw [hV.cell]; rfl, by rw [hV.cell]; rfl, fun i => hV.frozen i, fun b e => e.elim, fun k i hk hi => ⟨none, by rw [hV.cell, Nat.add_assoc, trV_known _ _ (by omega)], fun a e => by cases e⟩⟩
theorem wholeFar_any (a : Option Addr) (n c i : Nat) (w : World) (hn : n ≤ 10) (hi : i ≤ n) : Calls Tryd.prog 32 #[.slice a n c, .int .i64 (i : Int)] w fun e w' => e = .returned (.int .i64 ((n - i + 1 : Nat) : Int)) ∧ w' = w := by
  have hiI : (i : Int) ≤ (n : Int) := by omega
  have hnI : (n : Int) ≤ 10 := by omega
  go_enter Tryd.func32, Tryd.ntmps32
  go_wp2
  go_ret
  exact ⟨ret_int (by omega), rfl⟩
set_option maxHeartbeats 4000000 in
set_option maxRecDepth 100000 in
theorem trFar_any (row : List Int) (ar : Option Addr) (cr i : Nat) (w : World) (hT : TrIn P ws w0 bT aP cP aw cw K w) (hws : Reads w0 aw ws) (hr : Reads w0 ar row) (hrl : row.length ≤ 1048576) (hn : ws.length ≤ 10) (hi : i ≤ ws.length) (hrow : ∀ x ∈ row, symOk P.length x = true) (hok : gramOkB P = true) (hL : NoLoop P) (hP : RD w0 (.slice aP P.length cP) (slD (Lay.list (Lay.list Lay.int)) P)) :
    Calls Tryd.prog 18 #[.pointer (some ⟨bT, 0, none⟩), .slice ar row.length cr, .int .i64 (i : Int)] w fun e w' => e = .returned (.int .i64 (farOf P row ws i : Int)) ∧ Hid (∃ K', TrIn P ws w0 bT aP cP aw cw K' w' ∧ ∀ b, K' b → K b ∨ w.heap.size ≤ b) ∧ Within w w' (fun b => b = bT) := by
  have X := strRow_any row ar cr i w hT hws hr hrl hn hi hrow (Fits.of hok) hL (fun s hs hx j hj _ => by
    have := symOk_true.1 (hrow row[s] (List.getElem_mem hs))
    exact strOf_ok hok hL hws hn hP _ _ j (by omega) hj (Nat.lt_succ_self _))
  have HK0 : Hid (∀ b, K b → b < w.heap.size) := fun b e => (hT.kb b e).2.2
  have hge : i ≤ farRow ws (way P ws) (farP P ws) i row := farRow_ge _ _ _ _ _
  have hle : farRow ws (way P ws) (farP P ws) i row ≤ ws.length := farRow_le hi (fun k j hj => farP_le P ws k j hj)
  have E1 : Hid (rowNx ws (way P ws) (deltaV i) row ws.length ≠ 0 → farOf P row ws i = ws.length - i + 1) := farOf_end hi
  have E2 : Hid (rowNx ws (way P ws) (deltaV i) row ws.length = 0 → farOf P row ws i = farRow ws (way P ws) (farP P ws) i row - i) := farOf_not
  have hbT := hT.lt
  have hb0 := hT.low.size
  generalize farRow ws (way P ws) (farP P ws) i row = n at *
  generalize farOf P row ws i = r at *
  generalize rowNx ws (way P ws) (deltaV i) row = v at *
  clear hT hws hr hrow hok hL hP
  have hgeI : (i : Int) ≤ (n : Int) := by omega
  have hleI : (n : Int) ≤ 10 := by omega
  have hn11 : ws.length < 11 := by omega
  by_cases hv : v ws.length = 0
  · have E : Hid (r = n - i) := E2.out hv
    clear E1 E2
    go_enter Tryd.func18, Tryd.ntmps18
    go_wp2_with (first
      | (go_at_call 31; refine X.mono ?_; rintro e w1 ⟨rfl, HK1, hW1⟩)
      | (refine wpList_allocS (w := w1) rfl rfl ?_; intro w2 hA2 hb2 hs2; clear hs2)
      | (refine wpList_storeS rfl _ _ rfl w1.heap.size 0 (fun _ => 0) n v rfl rfl hA2 ?_; intro w3 hS3 hg3; have q3 := hS3.end hn11; rw [show decide (v ws.length ≠ 0) = false by simp [hv]] at q3; have qf := hS3.far; have hT3 := HK1.out; obtain ⟨K1, hT1, hK1⟩ := hT3; have hW3 : Within w1 w3 (fun b => b = w1.heap.size) := (Within.of_below hb2 _).trans (Within.of_grown hg3 (fun k e => by cases e; rfl)); have hs1 := hW1.size; have HT3 : Hid (TrIn P ws w0 bT aP cP aw cw K1 w3) := hT1.kept hW3 (fun b e => by subst e; exact ⟨by omega, by omega, fun h => by have := (hT1.kb _ h).2.2; omega⟩); have c1 := HT3.out.c1))
    go_ret
    exact ⟨ret_int (by have := E.out; omega), ⟨K1, HT3.out, hK1⟩, hW1.comp hW3 (fun b e => .inr (by omega))⟩
  · have E : Hid (r = ws.length - i + 1) := E1.out hv
    clear E1 E2
    go_enter Tryd.func18, Tryd.ntmps18
    go_wp2_with (first
      | (go_at_call 31; refine X.mono ?_; rintro e w1 ⟨rfl, HK1, hW1⟩)
      | (refine wpList_allocS (w := w1) rfl rfl ?_; intro w2 hA2 hb2 hs2; clear hs2)
      | (refine wpList_storeS rfl _ _ rfl w1.heap.size 0 (fun _ => 0) n v rfl rfl hA2 ?_; intro w3 hS3 hg3; have q3 := hS3.end hn11; rw [show decide (v ws.length ≠ 0) = true by simp [hv]] at q3; have qf := hS3.far; have hT3 := HK1.out; obtain ⟨K1, hT1, hK1⟩ := hT3; have hW3 : Within w1 w3 (fun b => b = w1.heap.size) := (Within.of_below hb2 _).trans (Within.of_grown hg3 (fun k e => by cases e; rfl)); have hs1 := hW1.size; have HT3 : Hid (TrIn P ws w0 bT aP cP aw cw K1 w3) := hT1.kept hW3 (fun b e => by subst e; exact ⟨by omega, by omega, fun h => by have := (hT1.kb _ h).2.2; omega⟩); have c1 := HT3.out.c1)
      | (go_at_call 32; refine (wholeFar_any aw ws.length cw i _ hn hi).mono ?_; rintro e w5 ⟨rfl, h5⟩; replace h5 := h5.symm; subst h5))
    go_ret
    exact ⟨ret_int (by have := E.out; omega), ⟨K1, HT3.out, hK1⟩, hW1.comp hW3 (fun b e => .inr (by omega))⟩
end
end Go.Proofs.YtbnieakjhhnlbabDoor
namespace Go.Proofs.YtbnieakjhhnlbabDoor
open Go.RowKit

set_option maxHeartbeats 1000000 in
set_option maxRecDepth 100000 in
theorem far_any (x : Gm) (a0 : Option Addr) (c0 : Nat) (z1 : List Int) (a1 : Option Addr) (c1 : Nat) (z2 : List Int) (a2 : Option Addr) (c2 : Nat) (n : Int) (w : World) (h0 : RD w (.slice a0 x.parts.length c0) (slD (Lay.list (Lay.list Lay.int)) x.parts)) (h1 : RD w (.slice a1 z1.length c1) (slD Lay.int z1)) (h2 : RD w (.slice a2 z2.length c2) (slD Lay.int z2)) (hn : Lay.gram.wt x ≤ 1048576) (hf : Lay.gram.fit x) (hl1 : z1.length ≤ 1048576) (hz1 : (Lay.list Lay.int).fit z1) (hl2 : z2.length ≤ 1048576) (hz2 : (Lay.list Lay.int).fit z2) (wf : (Lit.int .i64 n).wf = true) (hE : ErrsIs w) :
    Calls Tryd.prog 8 #[.agg #[.slice a0 x.parts.length c0], .slice a1 z1.length c1, .slice a2 z2.length c2, .int .i64 n] w fun e w' => e = .returned (.int .i64 (resFar x z1 z2 n)) ∧ Below w.heap.size w w' := by
  have B0 := (Below.refl w.heap.size w).alloc (Nat.le_refl _) (.cells #[.slice a0 x.parts.length c0] 28)
  have HK : Hid (∀ W : World, Below w.heap.size w W → Calls Tryd.prog 16 #[.agg #[.slice a0 x.parts.length c0], .slice a2 z2.length c2, .int .i64 n] W fun e w' => e = .returned (.bool (rightAt x z2 n)) ∧ Below W.heap.size W w') := fun W hW => canBeAskedAt_any x a0 c0 z2 a2 c2 n W (h0.later hW) (h2.later hW) hn hf hl2 hz2 wf (hE.later hW)
  have HR : Hid (rightAt x z2 n = true → ∀ W : World, Below w.heap.size w W → Calls Tryd.prog 17 #[.agg #[.slice a0 x.parts.length c0], .slice a1 z1.length c1] W fun e w' => e = .returned (.bool (knownB x.parts.length z1)) ∧ Below W.heap.size W w') := fun hr W hW => canGo_any x.parts.length a0 c0 z1 a1 c1 W (h1.later hW).reads (by have := (Fits.of (resCheck_ok (rightAt_yes hr).1).1).parts; omega) (by omega) (fit_ints hz1)
  have HW : Hid (rightAt x z2 n = true → knownB x.parts.length z1 = true → ∀ (W W2 : World) (bT : Nat), Below w.heap.size w W → Below W.heap.size W W2 → bT = W.heap.size → Vals W2 bT 42 (trV (.slice a0 x.parts.length c0) (.slice a2 z2.length c2)) → Calls Tryd.prog 18 #[.pointer (some ⟨bT, 0, none⟩), .slice a1 z1.length c1, .int .i64 n] W2 fun e w' => e = .returned (.int .i64 (farOf x.parts z1 z2 n.toNat : Int)) ∧ Below w.heap.size w w') := fun hr hk W W2 bT hW hW2 hbT hV => by
    obtain ⟨r1, r2, r3, r4⟩ := rightAt_yes hr
    have F := Fits.of (resCheck_ok r1).1
    have hT := TrIn.new (P := x.parts) (ws := z2) (w0 := w) hV (hW.trans (hW2.mono hW.size)) (by rw [hbT]; exact hW.size) F.parts (inputOkB_len r2)
    have := trFar_any z1 a1 c1 n.toNat W2 hT h2.reads h1.reads hl1 (inputOkB_len r2) (by omega) (knownB_sym hk) (resCheck_ok r1).1 (resCheck_ok r1).2 h0
    rw [nat_of r3] at this
    refine this.mono (fun e w' h => ⟨h.1, ?_⟩)
    exact h.2.2.below (hW.trans (hW2.mono hW.size)) (fun b e => by rw [e, hbT]; exact hW.size)
  have D1 : Hid (rightAt x z2 n = false → resFar x z1 z2 n = -1) := resFar_wrong
  have D2 : Hid (knownB x.parts.length z1 = false → resFar x z1 z2 n = -1) := resFar_row
  have D3 : Hid (rightAt x z2 n = true → knownB x.parts.length z1 = true → resFar x z1 z2 n = (farOf x.parts z1 z2 n.toNat : Int)) := resFar_all
  have hgl : w.heap.size < (w.alloc (.cells #[.slice a0 x.parts.length c0] 28)).heap.size := by simp
  have qg : (w.alloc (.cells #[.slice a0 x.parts.length c0] 28)).cell? ⟨w.heap.size, 0, none⟩ = some (.slice a0 x.parts.length c0) := by simp
  clear h0 h1 h2 hn hf hl1 hl2 hz1 hz2 wf hE
  generalize resFar x z1 z2 n = R at *
  generalize farOf x.parts z1 z2 n.toNat = r at *
  generalize knownB x.parts.length z1 = kb at *
  generalize rightAt x z2 n = ra at *
  generalize x.parts = P at *
  cases ra
  · have E : Hid (R = -1) := D1.out rfl
    clear HR HW D1 D2 D3
    go_enter Tryd.func8, Tryd.ntmps8
    go_wp2_with (go_at_call 16; refine (HK.out _ B0).mono ?_; rintro e w1 ⟨rfl, hb1⟩; have g1 := (hb1.cell (p := ⟨w.heap.size, 0, none⟩) hgl).trans qg; have B1 := B0.trans (hb1.mono B0.size); have l1 := Nat.lt_of_lt_of_le hgl hb1.size)
    go_ret
    exact ⟨ret_int E.out.symm, B1⟩
  · cases kb
    · have HRr : Hid _ := HR.out rfl
      have E : Hid (R = -1) := D2.out rfl
      clear HR HW D1 D2 D3
      go_enter Tryd.func8, Tryd.ntmps8
      go_wp2_with (first | (go_at_call 16; refine (HK.out _ B0).mono ?_; rintro e w1 ⟨rfl, hb1⟩; have g1 := (hb1.cell (p := ⟨w.heap.size, 0, none⟩) hgl).trans qg; have B1 := B0.trans (hb1.mono B0.size); have l1 := Nat.lt_of_lt_of_le hgl hb1.size) | (go_at_call 17; refine (HRr.out _ B1).mono ?_; rintro e w2 ⟨rfl, hb2⟩; have g2 := (hb2.cell (p := ⟨w.heap.size, 0, none⟩) l1).trans g1; have B2 := B1.trans (hb2.mono B1.size)))
      go_ret
      exact ⟨ret_int E.out.symm, B2⟩
    · have HRr : Hid _ := HR.out rfl
      have HWr : Hid _ := HW.out rfl rfl
      have E : Hid (R = (r : Int)) := D3.out rfl rfl
      clear HR HW D1 D2 D3
      go_enter Tryd.func8, Tryd.ntmps8
      go_wp2_with (first
        | (go_at_call 16; refine (HK.out _ B0).mono ?_; rintro e w1 ⟨rfl, hb1⟩; have g1 := (hb1.cell (p := ⟨w.heap.size, 0, none⟩) hgl).trans qg; have B1 := B0.trans (hb1.mono B0.size); have l1 := Nat.lt_of_lt_of_le hgl hb1.size)
        | (go_at_call 17; refine (HRr.out _ B1).mono ?_; rintro e w2 ⟨rfl, hb2⟩; have g2 := (hb2.cell (p := ⟨w.heap.size, 0, none⟩) l1).trans g1; have B2 := B1.trans (hb2.mono B1.size))
        | (refine wpList_tr rfl _ _ rfl a0 P.length c0 a2 z2.length c2 rfl rfl ?_)
        | (refine wpList_allocV (w := w2) rfl 42 rfl _ rt_tr ?_; intro w3 hV3 hb3 hs3; clear hs3)
        | (refine wpList_storeV rfl 42 _ _ rfl w2.heap.size 0 42 _ (trV (.slice a0 P.length c0) (.slice a2 z2.length c2)) _ rfl rfl rt_tr (by rw [trV_length, trV_length]) hV3 (by rw [trV_length, trV_length]; decide) (trV_ones rfl rfl) ?_; intro w4 hV4 hg4; rw [putV_whole (by rw [trV_length, trV_length])] at hV4; have hb4 : Below w2.heap.size w2 w4 := hb3.grown hg4 hb3.size (fun k e => by cases e; exact Nat.le_refl _))
        | (go_at_call 18; refine (HWr.out w2 w4 _ B2 hb4 rfl hV4).mono ?_; rintro e w5 ⟨rfl, hb5⟩))
      go_ret
      exact ⟨ret_int E.out.symm, hb5⟩
end Go.Proofs.YtbnieakjhhnlbabDoor
namespace Go.Proofs.YtbnieakjhhnlbabDoor
open Go.RowKit

end Go.Proofs.YtbnieakjhhnlbabDoor
namespace Go.Proofs.YtbnieakjhhnlbabDoor
open Go.RowKit

def cntIntSS : List (List Int) → Nat := cntL cntIntS
def mkIntSS : Nat → List (List Int) → List (List Int) := mkL cntIntS mkIntS
theorem cntIntSS_le (xs : List (List Int)) : cntIntSS xs ≤ (Lay.list (Lay.list Lay.int)).wt xs := cntL_le _ (fun x => by have := cntIntS_le x; omega) xs
theorem cntIntSS_room {xs : List (List Int)} {j k M : Nat} (hlt : j < xs.length) (hk : k + (xs.length + (Lay.list Lay.int).sumL xs) ≤ M) : k + cntIntSS (xs.take j) + (Lay.list Lay.int).wt xs[j] ≤ M := by
  have h1 := cntIntSS_le (xs.take j)
  rw [Lay.wt_list, List.length_take] at h1
  have h2 := Lay.sumL_take (Lay.list Lay.int) hlt
  have h3 := Lay.sumL_take_le (Lay.list Lay.int) xs (j + 1)
  omega

end Go.Proofs.YtbnieakjhhnlbabDoor
namespace Go.Proofs.YtbnieakjhhnlbabDoor
open Go.RowKit

def cntIntSSS : List (List (List Int)) → Nat := cntL cntIntSS
def mkIntSSS : Nat → List (List (List Int)) → List (List (List Int)) := mkL cntIntSS mkIntSS
theorem cntIntSSS_le (xs : List (List (List Int))) : cntIntSSS xs ≤ (Lay.list (Lay.list (Lay.list Lay.int))).wt xs := cntL_le _ (fun x => by have := cntIntSS_le x; omega) xs
theorem cntIntSSS_room {xs : List (List (List Int))} {j k M : Nat} (hlt : j < xs.length) (hk : k + (xs.length + (Lay.list (Lay.list Lay.int)).sumL xs) ≤ M) : k + cntIntSSS (xs.take j) + (Lay.list (Lay.list Lay.int)).wt xs[j] ≤ M := by
  have h1 := cntIntSSS_le (xs.take j)
  rw [Lay.wt_list, List.length_take] at h1
  have h2 := Lay.sumL_take (Lay.list (Lay.list Lay.int)) hlt
  have h3 := Lay.sumL_take_le (Lay.list (Lay.list Lay.int)) xs (j + 1)
  omega

end Go.Proofs.YtbnieakjhhnlbabDoor
namespace Go.Proofs.YtbnieakjhhnlbabDoor
open Go.RowKit

def cntGram (x : Gm) : Nat := cntIntSSS x.parts
def mkGram (k : Nat) (x : Gm) : Gm := ⟨mkIntSSS k x.parts⟩
theorem cntGram_le (x : Gm) : cntGram x ≤ Lay.gram.wt x := cntIntSSS_le x.parts
theorem mkGram_len (k : Nat) (x : Gm) : (mkGram k x).parts.length = x.parts.length := mkL_length _ _ _ _

end Go.Proofs.YtbnieakjhhnlbabDoor
namespace Go.Proofs.YtbnieakjhhnlbabDoor
open Go.RowKit

set_option maxHeartbeats 4000000 in
set_option maxRecDepth 100000 in
theorem fnExactFar_law (x0 : Gm) (a0 : Option Addr) (c0 : Nat) (z1 : List Int) (a1 : Option Addr) (c1 : Nat) (z2 : List Int) (a2 : Option Addr) (c2 : Nat) (n3 : Int) (w : World) (h0 : RD w (.slice a0 x0.parts.length c0) (slD (Lay.list (Lay.list Lay.int)) x0.parts)) (h1 : RD w (.slice a1 z1.length c1) (slD Lay.int z1)) (h2 : RD w (.slice a2 z2.length c2) (slD Lay.int z2)) (hf0 : Lay.gram.fit x0) (hf1 : (Lay.list Lay.int).fit z1) (hf2 : (Lay.list Lay.int).fit z2) (wf3 : (Lit.int .i64 n3).wf = true) (hT : ErrsIs w) :
    Calls Tryd.prog 3 #[.agg #[.slice a0 x0.parts.length c0], .slice a1 z1.length c1, .slice a2 z2.length c2, .int .i64 n3] w fun e w' => e = .returned (.bool true) ∧ Below w.heap.size w w' := by
  have HH0 : Hid (Holds w w [] []) := Holds.start w
  have HT : Hid (ErrsIs w) := hT
  clear hT
  have H0 : Hid (RD w (.slice a0 x0.parts.length c0) (slD (Lay.list (Lay.list Lay.int)) x0.parts)) := h0
  clear h0
  have HF0 : Hid (Lay.gram.fit x0) := hf0
  have H1 : Hid (RD w (.slice a1 z1.length c1) (slD Lay.int z1)) := h1
  clear h1
  have HF1 : Hid ((Lay.list Lay.int).fit z1) := hf1
  have H2 : Hid (RD w (.slice a2 z2.length c2) (slD Lay.int z2)) := h2
  clear h2
  have HF2 : Hid ((Lay.list Lay.int).fit z2) := hf2
  have HH1 : Hid (Holds w (w.alloc (.cells #[.slice a0 x0.parts.length c0] 24)) [(w.heap.size, [.slice a0 x0.parts.length c0])] []) := by show Holds _ _ _ _; simpa using HH0.out.box [.slice a0 x0.parts.length c0] 24
  clear HH0
  have hm1 := hf1.1
  unfold maxLen at hm1
  clear hf1
  have hm2 := hf2.1
  unfold maxLen at hm2
  clear hf2
  by_cases hl1 : 1048576 < z1.length
  · go_enter Tryd.func3, Tryd.ntmps3
    go_wp2
    go_ret
    exact ⟨rfl, HH1.out.below⟩
  by_cases hl2 : 1048576 < z2.length
  · go_enter Tryd.func3, Tryd.ntmps3
    go_wp2
    go_ret
    exact ⟨rfl, HH1.out.below⟩
  go_enter Tryd.func3, Tryd.ntmps3
  have q0 : (w.alloc (.cells #[.slice a0 x0.parts.length c0] 24)).cell? ⟨w.heap.size, 0, none⟩ = some (.slice a0 x0.parts.length c0) := HH1.out.cell (w.heap.size, [.slice a0 x0.parts.length c0]) List.mem_cons_self 0 (by simp)
  go_wp2_with fail
  refine (szGram_l x0 a0 c0 _ _ (H0.out.later HH1.out.below) HF0.out (by omega) (by omega)).mono ?_
  rintro e w3 ⟨r0, rfl, hr0, B2⟩
  clear q0
  have HH4 : Hid (Holds w w3 [(w.heap.size, [.slice a0 x0.parts.length c0])] []) := HH1.out.later B2
  clear HH1
  clear B2
  rcases hr0 with rfl | ⟨hr0a, hr0b⟩
  · go_wp2
    go_ret
    exact ⟨rfl, HH4.out.below⟩
  have HW0 : Hid (Lay.gram.wt x0 ≤ 1048576) := by show _ ≤ _; omega
  have hr0c : r0 ≤ 1048576 := by omega
  clear hr0b hf0
  have q0 : w3.cell? ⟨w.heap.size, 0, none⟩ = some (.slice a0 x0.parts.length c0) := HH4.out.cell (w.heap.size, [.slice a0 x0.parts.length c0]) List.mem_cons_self 0 (by simp)
  go_wp2_with fail
  refine (toGram_l x0 a0 c0 _ (H0.out.later HH4.out.below) (by have := HW0.out; omega)).mono ?_
  rintro e w7 ⟨a0s, c0s, S0s, rfl, O6, B5⟩
  clear q0
  have HH8 : Hid (Holds w w7 [(w.heap.size, [.slice a0 x0.parts.length c0])] [([.slice a0s x0.parts.length c0s], Lay.gram.cells x0)]) := HH4.out.push B5 O6
  clear HH4
  clear B5 O6
  have q0 : w7.cell? ⟨w.heap.size, 0, none⟩ = some (.slice a0 x0.parts.length c0) := HH8.out.cell (w.heap.size, [.slice a0 x0.parts.length c0]) List.mem_cons_self 0 (by simp)
  go_wp2_with fail
  refine (toIntS_l z1 a1 c1 _ (H1.out.later HH8.out.below) (by rw [Lay.wt_ints]; omega)).mono ?_
  rintro e w11 ⟨v1s, S1s, rfl, O10o, B9⟩
  clear q0
  obtain ⟨a1s, c1s, rfl, _⟩ := OD.shapeL O10o
  have O10 := Cells.one O10o
  clear O10o
  have HH12 : Hid (Holds w w11 [(w.heap.size, [.slice a0 x0.parts.length c0])] [([.slice a1s z1.length c1s], [slD Lay.int z1]), ([.slice a0s x0.parts.length c0s], Lay.gram.cells x0)]) := HH8.out.push B9 O10
  clear HH8
  clear B9 O10
  have q0 : w11.cell? ⟨w.heap.size, 0, none⟩ = some (.slice a0 x0.parts.length c0) := HH12.out.cell (w.heap.size, [.slice a0 x0.parts.length c0]) List.mem_cons_self 0 (by simp)
  go_wp2_with fail
  refine (toIntS_l z2 a2 c2 _ (H2.out.later HH12.out.below) (by rw [Lay.wt_ints]; omega)).mono ?_
  rintro e w15 ⟨v2s, S2s, rfl, O14o, B13⟩
  clear q0
  obtain ⟨a2s, c2s, rfl, _⟩ := OD.shapeL O14o
  have O14 := Cells.one O14o
  clear O14o
  have HH16 : Hid (Holds w w15 [(w.heap.size, [.slice a0 x0.parts.length c0])] [([.slice a2s z2.length c2s], [slD Lay.int z2]), ([.slice a1s z1.length c1s], [slD Lay.int z1]), ([.slice a0s x0.parts.length c0s], Lay.gram.cells x0)]) := HH12.out.push B13 O14
  clear HH12
  clear B13 O14
  have R17 : Hid (RD w15 (.slice a0s x0.parts.length c0s) (slD (Lay.list (Lay.list Lay.int)) x0.parts)) := HH16.out.rd ([.slice a0s x0.parts.length c0s], Lay.gram.cells x0) (List.mem_cons_of_mem _ (List.mem_cons_of_mem _ List.mem_cons_self)) 0 (by simp) (by simp [Lay.gram])
  have R18 : Hid (RD w15 (.slice a1s z1.length c1s) (slD Lay.int z1)) := HH16.out.rd ([.slice a1s z1.length c1s], [slD Lay.int z1]) (List.mem_cons_of_mem _ List.mem_cons_self) 0 (by simp) (by simp)
  have R19 : Hid (RD w15 (.slice a2s z2.length c2s) (slD Lay.int z2)) := HH16.out.rd ([.slice a2s z2.length c2s], [slD Lay.int z2]) List.mem_cons_self 0 (by simp) (by simp)
  have q0 : w15.cell? ⟨w.heap.size, 0, none⟩ = some (.slice a0 x0.parts.length c0) := HH16.out.cell (w.heap.size, [.slice a0 x0.parts.length c0]) List.mem_cons_self 0 (by simp)
  go_wp2_with fail
  refine (specFar_any x0 a0s c0s z1 a1s c1s z2 a2s c2s n3 _ R17.out R18.out R19.out (by have := HW0.out; omega) HF0.out (by omega) HF1.out (by omega) HF2.out wf3).mono ?_
  rintro e w21 ⟨rfl, B20⟩
  clear q0
  have HH22 : Hid (Holds w w21 [(w.heap.size, [.slice a0 x0.parts.length c0])] [([.slice a2s z2.length c2s], [slD Lay.int z2]), ([.slice a1s z1.length c1s], [slD Lay.int z1]), ([.slice a0s x0.parts.length c0s], Lay.gram.cells x0)]) := HH16.out.later B20
  clear HH16
  clear B20
  clear R17 R18 R19
  have HH23 : Hid (Holds w w21 [(w.heap.size, [.slice a0 x0.parts.length c0])] [([.slice a2s z2.length c2s], [slD Lay.int z2]), ([.slice a1s z1.length c1s], [slD Lay.int z1])]) := Holds.drop (P := [([.slice a2s z2.length c2s], [slD Lay.int z2]), ([.slice a1s z1.length c1s], [slD Lay.int z1])]) (x := ([.slice a0s x0.parts.length c0s], Lay.gram.cells x0)) (Q := []) HH22.out
  clear HH22
  have HH24 : Hid (Holds w w21 [(w.heap.size, [.slice a0 x0.parts.length c0])] [([.slice a2s z2.length c2s], [slD Lay.int z2])]) := Holds.drop (P := [([.slice a2s z2.length c2s], [slD Lay.int z2])]) (x := ([.slice a1s z1.length c1s], [slD Lay.int z1])) (Q := []) HH23.out
  clear HH23
  have HH25 : Hid (Holds w w21 [(w.heap.size, [.slice a0 x0.parts.length c0])] []) := Holds.drop (P := []) (x := ([.slice a2s z2.length c2s], [slD Lay.int z2])) (Q := []) HH24.out
  clear HH24
  have q0 : w21.cell? ⟨w.heap.size, 0, none⟩ = some (.slice a0 x0.parts.length c0) := HH25.out.cell (w.heap.size, [.slice a0 x0.parts.length c0]) List.mem_cons_self 0 (by simp)
  go_wp2_with fail
  refine (toGram_l x0 a0 c0 _ (H0.out.later HH25.out.below) (by have := HW0.out; omega)).mono ?_
  rintro e w28 ⟨a0m, c0m, S0m, rfl, O27, B26⟩
  clear q0
  have HH29 : Hid (Holds w w28 [(w.heap.size, [.slice a0 x0.parts.length c0])] [([.slice a0m x0.parts.length c0m], Lay.gram.cells x0)]) := HH25.out.push B26 O27
  clear HH25
  clear B26 O27
  have HH30 : Hid (Holds w (w28.alloc (.cells #[.slice a0m x0.parts.length c0m] 28)) [(w28.heap.size, [.slice a0m x0.parts.length c0m]), (w.heap.size, [.slice a0 x0.parts.length c0])] [([.slice a0m x0.parts.length c0m], Lay.gram.cells x0)]) := by show Holds _ _ _ _; simpa using HH29.out.box [.slice a0m x0.parts.length c0m] 28
  clear HH29
  have q0 : (w28.alloc (.cells #[.slice a0m x0.parts.length c0m] 28)).cell? ⟨w28.heap.size, 0, none⟩ = some (.slice a0m x0.parts.length c0m) := HH30.out.cell (w28.heap.size, [.slice a0m x0.parts.length c0m]) List.mem_cons_self 0 (by simp)
  have q1 : (w28.alloc (.cells #[.slice a0m x0.parts.length c0m] 28)).cell? ⟨w.heap.size, 0, none⟩ = some (.slice a0 x0.parts.length c0) := HH30.out.cell (w.heap.size, [.slice a0 x0.parts.length c0]) (List.mem_cons_of_mem _ List.mem_cons_self) 0 (by simp)
  go_wp2_with fail
  refine (toIntS_l z1 a1 c1 _ (H1.out.later HH30.out.below) (by rw [Lay.wt_ints]; omega)).mono ?_
  rintro e w33 ⟨v1m, S1m, rfl, O32o, B31⟩
  clear q0 q1
  obtain ⟨a1m, c1m, rfl, _⟩ := OD.shapeL O32o
  have O32 := Cells.one O32o
  clear O32o
  have HH34 : Hid (Holds w w33 [(w28.heap.size, [.slice a0m x0.parts.length c0m]), (w.heap.size, [.slice a0 x0.parts.length c0])] [([.slice a1m z1.length c1m], [slD Lay.int z1]), ([.slice a0m x0.parts.length c0m], Lay.gram.cells x0)]) := HH30.out.push B31 O32
  clear HH30
  clear B31 O32
  have q0 : w33.cell? ⟨w28.heap.size, 0, none⟩ = some (.slice a0m x0.parts.length c0m) := HH34.out.cell (w28.heap.size, [.slice a0m x0.parts.length c0m]) List.mem_cons_self 0 (by simp)
  have q1 : w33.cell? ⟨w.heap.size, 0, none⟩ = some (.slice a0 x0.parts.length c0) := HH34.out.cell (w.heap.size, [.slice a0 x0.parts.length c0]) (List.mem_cons_of_mem _ List.mem_cons_self) 0 (by simp)
  go_wp2_with fail
  refine (toIntS_l z2 a2 c2 _ (H2.out.later HH34.out.below) (by rw [Lay.wt_ints]; omega)).mono ?_
  rintro e w37 ⟨v2m, S2m, rfl, O36o, B35⟩
  clear q0 q1
  obtain ⟨a2m, c2m, rfl, _⟩ := OD.shapeL O36o
  have O36 := Cells.one O36o
  clear O36o
  have HH38 : Hid (Holds w w37 [(w28.heap.size, [.slice a0m x0.parts.length c0m]), (w.heap.size, [.slice a0 x0.parts.length c0])] [([.slice a2m z2.length c2m], [slD Lay.int z2]), ([.slice a1m z1.length c1m], [slD Lay.int z1]), ([.slice a0m x0.parts.length c0m], Lay.gram.cells x0)]) := HH34.out.push B35 O36
  clear HH34
  clear B35 O36
  have R39 : Hid (RD w37 (.slice a0m x0.parts.length c0m) (slD (Lay.list (Lay.list Lay.int)) x0.parts)) := HH38.out.rd ([.slice a0m x0.parts.length c0m], Lay.gram.cells x0) (List.mem_cons_of_mem _ (List.mem_cons_of_mem _ List.mem_cons_self)) 0 (by simp) (by simp [Lay.gram])
  have R40 : Hid (RD w37 (.slice a1m z1.length c1m) (slD Lay.int z1)) := HH38.out.rd ([.slice a1m z1.length c1m], [slD Lay.int z1]) (List.mem_cons_of_mem _ List.mem_cons_self) 0 (by simp) (by simp)
  have R41 : Hid (RD w37 (.slice a2m z2.length c2m) (slD Lay.int z2)) := HH38.out.rd ([.slice a2m z2.length c2m], [slD Lay.int z2]) List.mem_cons_self 0 (by simp) (by simp)
  have q0 : w37.cell? ⟨w28.heap.size, 0, none⟩ = some (.slice a0m x0.parts.length c0m) := HH38.out.cell (w28.heap.size, [.slice a0m x0.parts.length c0m]) List.mem_cons_self 0 (by simp)
  have q1 : w37.cell? ⟨w.heap.size, 0, none⟩ = some (.slice a0 x0.parts.length c0) := HH38.out.cell (w.heap.size, [.slice a0 x0.parts.length c0]) (List.mem_cons_of_mem _ List.mem_cons_self) 0 (by simp)
  go_wp2_with fail
  refine (far_any x0 a0m c0m z1 a1m c1m z2 a2m c2m n3 _ R39.out R40.out R41.out (by have := HW0.out; omega) HF0.out (by omega) HF1.out (by omega) HF2.out wf3 (HT.out.later HH38.out.below)).mono ?_
  rintro e w43 ⟨rfl, B42⟩
  clear q0 q1
  have HH44 : Hid (Holds w w43 [(w28.heap.size, [.slice a0m x0.parts.length c0m]), (w.heap.size, [.slice a0 x0.parts.length c0])] [([.slice a2m z2.length c2m], [slD Lay.int z2]), ([.slice a1m z1.length c1m], [slD Lay.int z1]), ([.slice a0m x0.parts.length c0m], Lay.gram.cells x0)]) := HH38.out.later B42
  clear HH38
  clear B42
  clear R39 R40 R41
  generalize resFar x0 z1 z2 n3 = T at *
  have hTT : (T != T) = false := by simp
  have q0 : w43.cell? ⟨w28.heap.size, 0, none⟩ = some (.slice a0m x0.parts.length c0m) := HH44.out.cell (w28.heap.size, [.slice a0m x0.parts.length c0m]) List.mem_cons_self 0 (by simp)
  have q1 : w43.cell? ⟨w.heap.size, 0, none⟩ = some (.slice a0 x0.parts.length c0) := HH44.out.cell (w.heap.size, [.slice a0 x0.parts.length c0]) (List.mem_cons_of_mem _ List.mem_cons_self) 0 (by simp)
  go_wp2_with fail
  refine wp_region_held_drew (S := fun w' => Keeps w' [(w28.heap.size, [.slice a0m x0.parts.length c0m]), (w.heap.size, [.slice a0 x0.parts.length c0])]) (by kernel_rfl) HH44.out.boxes.drew (fun hHeld => ?_)
  refine take_atL (i := 0) (d := some 48) (v := .agg #[.slice a0m x0.parts.length c0m]) rfl rfl (by kernel_rfl) (by kernel_rfl) (by kernel_rfl) (fun _ _ _ h => h) (by rfl) ?_ hHeld ?_
  · intro w' hSw
    have p0 : w'.cell? ⟨w28.heap.size, 0, none⟩ = some (.slice a0m x0.parts.length c0m) := hSw (w28.heap.size, [.slice a0m x0.parts.length c0m]) List.mem_cons_self 0 (by simp)
    go_simp; try rfl
  try simp only [Act.put, List.setIfInBounds_toArray, List.set_cons_zero, List.set_cons_succ]
  refine take_atL (i := 1) (d := some 49) (v := .agg #[.slice a0 x0.parts.length c0]) rfl rfl (by kernel_rfl) (by kernel_rfl) (by kernel_rfl) (fun _ _ _ h => h) (by rfl) ?_ hHeld ?_
  · intro w' hSw
    have p0 : w'.cell? ⟨w.heap.size, 0, none⟩ = some (.slice a0 x0.parts.length c0) := hSw (w.heap.size, [.slice a0 x0.parts.length c0]) (List.mem_cons_of_mem _ List.mem_cons_self) 0 (by simp)
    go_simp; try rfl
  try simp only [Act.put, List.setIfInBounds_toArray, List.set_cons_zero, List.set_cons_succ]
  clear q0 q1
  refine wpAnyH_ready (rs := [2]) (by kernel_rfl) (by simp) ?_
  refine AllReadyH.cons (o := _) rfl (fun K hK => ?_) AllReadyH.nil
  rw [if_pos (by rfl)]
  go_simp
  refine (toGram_l x0 a0 c0 _ (H0.out.later (Below.drew HH44.out.below)) (by have := HW0.out; omega)).mono ?_
  rintro e w45 ⟨a0e, c0e, S0e, rfl, O47, B46d⟩
  have B46 : Below (w43).heap.size w43 w45 := Below.drewed (by simpa using B46d)
  clear B46d hHeld
  have HH48 : Hid (Holds w w45 [(w28.heap.size, [.slice a0m x0.parts.length c0m]), (w.heap.size, [.slice a0 x0.parts.length c0])] [([.slice a0e x0.parts.length c0e], Lay.gram.cells x0), ([.slice a2m z2.length c2m], [slD Lay.int z2]), ([.slice a1m z1.length c1m], [slD Lay.int z1]), ([.slice a0m x0.parts.length c0m], Lay.gram.cells x0)]) := HH44.out.push B46 O47
  clear HH44
  clear B46 O47
  go_wp2_with fail
  refine hK.out _ _ HH48.out.boxes (fun hHeld => ?_)
  clear hK K
  try simp only [Act.put, List.setIfInBounds_toArray, List.set_cons_zero, List.set_cons_succ]
  refine wpAnyH_ready (rs := [3]) (by kernel_rfl) (by simp) ?_
  refine AllReadyH.cons (o := _) rfl (fun K hK => ?_) AllReadyH.nil
  rw [if_pos (by rfl)]
  go_simp
  have R49 : Hid (RD w45 (.slice a0m x0.parts.length c0m) (slD (Lay.list (Lay.list Lay.int)) x0.parts)) := HH48.out.rd ([.slice a0m x0.parts.length c0m], Lay.gram.cells x0) (List.mem_cons_of_mem _ (List.mem_cons_of_mem _ (List.mem_cons_of_mem _ List.mem_cons_self))) 0 (by simp) (by simp [Lay.gram])
  have R50 : Hid (RD w45 (.slice a0e x0.parts.length c0e) (slD (Lay.list (Lay.list Lay.int)) x0.parts)) := HH48.out.rd ([.slice a0e x0.parts.length c0e], Lay.gram.cells x0) List.mem_cons_self 0 (by simp) (by simp [Lay.gram])
  refine (eqGram_l x0 a0m a0e c0m c0e _ R49.out R50.out (by have := HW0.out; omega)).mono ?_
  rintro e w51 ⟨rfl, B52⟩
  clear hHeld R49 R50
  have HH53 : Hid (Holds w w51 [(w28.heap.size, [.slice a0m x0.parts.length c0m]), (w.heap.size, [.slice a0 x0.parts.length c0])] [([.slice a0e x0.parts.length c0e], Lay.gram.cells x0), ([.slice a2m z2.length c2m], [slD Lay.int z2]), ([.slice a1m z1.length c1m], [slD Lay.int z1]), ([.slice a0m x0.parts.length c0m], Lay.gram.cells x0)]) := HH48.out.later B52
  clear HH48
  clear B52
  have HH54 : Hid (Holds w w51 [(w28.heap.size, [.slice a0m x0.parts.length c0m]), (w.heap.size, [.slice a0 x0.parts.length c0])] [([.slice a2m z2.length c2m], [slD Lay.int z2]), ([.slice a1m z1.length c1m], [slD Lay.int z1]), ([.slice a0m x0.parts.length c0m], Lay.gram.cells x0)]) := Holds.drop (P := []) (x := ([.slice a0e x0.parts.length c0e], Lay.gram.cells x0)) (Q := [([.slice a2m z2.length c2m], [slD Lay.int z2]), ([.slice a1m z1.length c1m], [slD Lay.int z1]), ([.slice a0m x0.parts.length c0m], Lay.gram.cells x0)]) HH53.out
  clear HH53
  go_wp2_with fail
  refine hK.out _ _ HH54.out.boxes (fun hHeld => ?_)
  clear hK K
  try simp only [Act.put, List.setIfInBounds_toArray, List.set_cons_zero, List.set_cons_succ]
  refine take_atL (i := 4) (d := some 52) (v := .bool false) rfl rfl (by kernel_rfl) (by kernel_rfl) (by kernel_rfl) (fun _ _ _ h => h) (by rfl) ?_ hHeld ?_
  · intro w' hSw; go_simp; try rfl
  try simp only [Act.put, List.setIfInBounds_toArray, List.set_cons_zero, List.set_cons_succ]
  refine wpAnyH_done (by kernel_rfl) ?_ _
  clear hHeld
  have q0 : w51.cell? ⟨w28.heap.size, 0, none⟩ = some (.slice a0m x0.parts.length c0m) := HH54.out.cell (w28.heap.size, [.slice a0m x0.parts.length c0m]) List.mem_cons_self 0 (by simp)
  have q1 : w51.cell? ⟨w.heap.size, 0, none⟩ = some (.slice a0 x0.parts.length c0) := HH54.out.cell (w.heap.size, [.slice a0 x0.parts.length c0]) (List.mem_cons_of_mem _ List.mem_cons_self) 0 (by simp)
  go_wp2_with fail
  refine (toIntS_l z1 a1 c1 _ (H1.out.later HH54.out.below) (by rw [Lay.wt_ints]; omega)).mono ?_
  rintro e w57 ⟨v1e, S1e, rfl, O56o, B55⟩
  clear q0 q1
  obtain ⟨a1e, c1e, rfl, _⟩ := OD.shapeL O56o
  have O56 := Cells.one O56o
  clear O56o
  have HH58 : Hid (Holds w w57 [(w28.heap.size, [.slice a0m x0.parts.length c0m]), (w.heap.size, [.slice a0 x0.parts.length c0])] [([.slice a1e z1.length c1e], [slD Lay.int z1]), ([.slice a2m z2.length c2m], [slD Lay.int z2]), ([.slice a1m z1.length c1m], [slD Lay.int z1]), ([.slice a0m x0.parts.length c0m], Lay.gram.cells x0)]) := HH54.out.push B55 O56
  clear HH54
  clear B55 O56
  have R59 : Hid (RD w57 (.slice a1m z1.length c1m) (slD Lay.int z1)) := HH58.out.rd ([.slice a1m z1.length c1m], [slD Lay.int z1]) (List.mem_cons_of_mem _ (List.mem_cons_of_mem _ List.mem_cons_self)) 0 (by simp) (by simp)
  have R60 : Hid (RD w57 (.slice a1e z1.length c1e) (slD Lay.int z1)) := HH58.out.rd ([.slice a1e z1.length c1e], [slD Lay.int z1]) List.mem_cons_self 0 (by simp) (by simp)
  have q0 : w57.cell? ⟨w28.heap.size, 0, none⟩ = some (.slice a0m x0.parts.length c0m) := HH58.out.cell (w28.heap.size, [.slice a0m x0.parts.length c0m]) List.mem_cons_self 0 (by simp)
  have q1 : w57.cell? ⟨w.heap.size, 0, none⟩ = some (.slice a0 x0.parts.length c0) := HH58.out.cell (w.heap.size, [.slice a0 x0.parts.length c0]) (List.mem_cons_of_mem _ List.mem_cons_self) 0 (by simp)
  go_wp2_with fail
  refine (eqIntS_l z1 a1m a1e c1m c1e _ R59.out R60.out (by rw [Lay.wt_ints]; omega)).mono ?_
  rintro e w62 ⟨rfl, B61⟩
  clear q0 q1
  clear R59 R60
  have HH63 : Hid (Holds w w62 [(w28.heap.size, [.slice a0m x0.parts.length c0m]), (w.heap.size, [.slice a0 x0.parts.length c0])] [([.slice a1e z1.length c1e], [slD Lay.int z1]), ([.slice a2m z2.length c2m], [slD Lay.int z2]), ([.slice a1m z1.length c1m], [slD Lay.int z1]), ([.slice a0m x0.parts.length c0m], Lay.gram.cells x0)]) := HH58.out.later B61
  clear HH58
  clear B61
  have HH64 : Hid (Holds w w62 [(w28.heap.size, [.slice a0m x0.parts.length c0m]), (w.heap.size, [.slice a0 x0.parts.length c0])] [([.slice a2m z2.length c2m], [slD Lay.int z2]), ([.slice a1m z1.length c1m], [slD Lay.int z1]), ([.slice a0m x0.parts.length c0m], Lay.gram.cells x0)]) := Holds.drop (P := []) (x := ([.slice a1e z1.length c1e], [slD Lay.int z1])) (Q := [([.slice a2m z2.length c2m], [slD Lay.int z2]), ([.slice a1m z1.length c1m], [slD Lay.int z1]), ([.slice a0m x0.parts.length c0m], Lay.gram.cells x0)]) HH63.out
  clear HH63
  have q0 : w62.cell? ⟨w28.heap.size, 0, none⟩ = some (.slice a0m x0.parts.length c0m) := HH64.out.cell (w28.heap.size, [.slice a0m x0.parts.length c0m]) List.mem_cons_self 0 (by simp)
  have q1 : w62.cell? ⟨w.heap.size, 0, none⟩ = some (.slice a0 x0.parts.length c0) := HH64.out.cell (w.heap.size, [.slice a0 x0.parts.length c0]) (List.mem_cons_of_mem _ List.mem_cons_self) 0 (by simp)
  go_wp2_with fail
  refine (toIntS_l z2 a2 c2 _ (H2.out.later HH64.out.below) (by rw [Lay.wt_ints]; omega)).mono ?_
  rintro e w67 ⟨v2e, S2e, rfl, O66o, B65⟩
  clear q0 q1
  obtain ⟨a2e, c2e, rfl, _⟩ := OD.shapeL O66o
  have O66 := Cells.one O66o
  clear O66o
  have HH68 : Hid (Holds w w67 [(w28.heap.size, [.slice a0m x0.parts.length c0m]), (w.heap.size, [.slice a0 x0.parts.length c0])] [([.slice a2e z2.length c2e], [slD Lay.int z2]), ([.slice a2m z2.length c2m], [slD Lay.int z2]), ([.slice a1m z1.length c1m], [slD Lay.int z1]), ([.slice a0m x0.parts.length c0m], Lay.gram.cells x0)]) := HH64.out.push B65 O66
  clear HH64
  clear B65 O66
  have R69 : Hid (RD w67 (.slice a2m z2.length c2m) (slD Lay.int z2)) := HH68.out.rd ([.slice a2m z2.length c2m], [slD Lay.int z2]) (List.mem_cons_of_mem _ List.mem_cons_self) 0 (by simp) (by simp)
  have R70 : Hid (RD w67 (.slice a2e z2.length c2e) (slD Lay.int z2)) := HH68.out.rd ([.slice a2e z2.length c2e], [slD Lay.int z2]) List.mem_cons_self 0 (by simp) (by simp)
  have q0 : w67.cell? ⟨w28.heap.size, 0, none⟩ = some (.slice a0m x0.parts.length c0m) := HH68.out.cell (w28.heap.size, [.slice a0m x0.parts.length c0m]) List.mem_cons_self 0 (by simp)
  have q1 : w67.cell? ⟨w.heap.size, 0, none⟩ = some (.slice a0 x0.parts.length c0) := HH68.out.cell (w.heap.size, [.slice a0 x0.parts.length c0]) (List.mem_cons_of_mem _ List.mem_cons_self) 0 (by simp)
  go_wp2_with fail
  refine (eqIntS_l z2 a2m a2e c2m c2e _ R69.out R70.out (by rw [Lay.wt_ints]; omega)).mono ?_
  rintro e w72 ⟨rfl, B71⟩
  clear q0 q1
  clear R69 R70
  have HH73 : Hid (Holds w w72 [(w28.heap.size, [.slice a0m x0.parts.length c0m]), (w.heap.size, [.slice a0 x0.parts.length c0])] [([.slice a2e z2.length c2e], [slD Lay.int z2]), ([.slice a2m z2.length c2m], [slD Lay.int z2]), ([.slice a1m z1.length c1m], [slD Lay.int z1]), ([.slice a0m x0.parts.length c0m], Lay.gram.cells x0)]) := HH68.out.later B71
  clear HH68
  clear B71
  have HH74 : Hid (Holds w w72 [(w28.heap.size, [.slice a0m x0.parts.length c0m]), (w.heap.size, [.slice a0 x0.parts.length c0])] [([.slice a2m z2.length c2m], [slD Lay.int z2]), ([.slice a1m z1.length c1m], [slD Lay.int z1]), ([.slice a0m x0.parts.length c0m], Lay.gram.cells x0)]) := Holds.drop (P := []) (x := ([.slice a2e z2.length c2e], [slD Lay.int z2])) (Q := [([.slice a2m z2.length c2m], [slD Lay.int z2]), ([.slice a1m z1.length c1m], [slD Lay.int z1]), ([.slice a0m x0.parts.length c0m], Lay.gram.cells x0)]) HH73.out
  clear HH73
  go_wp2
  go_ret
  exact ⟨rfl, HH74.out.below⟩
end Go.Proofs.YtbnieakjhhnlbabDoor
