/-
  Contracts and plain mathematics, joined: ReachableOf, IsThere, StartsB, StartsUp, LeastS, StartsOf, CheckParts, AnyLoop, ErrIs, Errs, Check, ErrsLaid. No statement is proved here.
-/
import Derived.Test.YthnppodnjokaoaaDoorG9
import Derived.Test.YthnppodnjokaoaaDoorG6
import Derived.Test.YthnppodnjokaoaaDoorG5
import Derived.Test.YthnppodnjokaoaaDoorG1
import Derived.Test.YthnppodnjokaoaaDoorG3
import Derived.Test.YthnppodnjokaoaaDoorG2
import Derived.Test.YthnppodnjokaoaaDoorChecked
import Derived.WalkKit
import Derived.LaidEql
import Derived.Stop.Asserts
import Derived.RowKitTokens
import Derived.Stop.LaidErr
import Derived.Test.YthnppodnjokaoaaDoorRows
import Derived.Stop.LaidTwo
namespace Go.Proofs.YthnppodnjokaoaaDoor
open Go.RowKit

set_option maxHeartbeats 4000000 in
set_option maxRecDepth 100000 in
theorem reachableOf_any (P : List (List (List Int))) (a0 : Option Addr) (c0 : Nat) (w : World) (h0 : RD w (.slice a0 P.length c0) (slD (Lay.list (Lay.list Lay.int)) P)) (hok : gramOkB P = true) :
    Calls Tryd.prog 103 #[.agg #[.slice a0 P.length c0]] w fun e w' => e = .returned (aggB (flagsOf (reachL P))) ∧ Below w.heap.size w w' := by
  have hp0 : 0 < P.length := by
    simp only [gramOkB, Bool.and_eq_true] at hok
    have := inB_true.1 hok.1
    omega
  have HX : Hid (∀ (W : World) (b : Nat), Below w.heap.size w W → w.heap.size ≤ b → Bits W b 134 (List.replicate 27 false) → Calls Tryd.prog 114 #[.agg #[.slice a0 P.length c0], .int .i64 0, .pointer (some ⟨b, 0, none⟩)] W fun e w' => e = .returned (.tuple #[]) ∧ Bits w' b 134 (flagsOf (reachL P)) ∧ W.grownBy w' (some b)) := by
    intro W b hW hb hB
    refine (reach_go P a0 c0 w h0 hok b 134 hb 27 0 (List.replicate 27 false) W hp0 hB (by simp) (by omega) hW).mono ?_
    rintro e w' ⟨rfl, T', h1, h2, h3, h4⟩
    rw [reachOf_is hok h2 h1] at h3
    exact ⟨rfl, h3, h4⟩
  have B0 := (Below.refl w.heap.size w).alloc (Nat.le_refl _) (.cells #[.slice a0 P.length c0] 28)
  have hsb : (w.alloc (.cells #[.slice a0 P.length c0] 28)).heap.size = w.heap.size + 1 := by simp
  have HQ0 : Hid ((w.alloc (.cells #[.slice a0 P.length c0] 28)).cell? ⟨w.heap.size, 0, none⟩ = some (.slice a0 P.length c0)) := by show _ = _; simp
  have hTl := flagsOf_length (reachL P)
  clear h0 hok hp0
  generalize flagsOf (reachL P) = T at *
  go_enter Tryd.func103, Tryd.ntmps103
  go_wp2_with (first | (refine wpList_allocB (w := w.alloc _) rfl 134 rfl 27 bt_flags ?_; rw [hsb]; intro w1 hB1 hb1 hs1; have q1 := (hb1.cell (p := ⟨w.heap.size, 0, none⟩) (by simp)).trans HQ0.out; have h1 : w.heap.size + 1 < w1.heap.size := (by omega); clear hs1) | (refine wpList_allocB (w := w1) rfl 134 rfl 27 bt_flags ?_; intro w2 hB2 hb2 hs2; have q2 := (hb2.cell (p := ⟨w.heap.size, 0, none⟩) (by simp; omega)).trans q1; have h2 : w1.heap.size < w2.heap.size := (by omega); clear hs2 q1) | (go_at_call 114; refine (HX.out _ w1.heap.size ((B0.trans (hb1.mono (by omega))).trans (hb2.mono (by omega))) (by omega) hB2).mono ?_; rintro e w3 ⟨rfl, hB3, hg3⟩; have hB1b := (hB1.later (w' := w2) hb2).grown hg3 (fun h => by have := Option.some.inj h; omega)) | (refine wpList_loadW (w := w3) rfl 134 _ rfl w1.heap.size 134 T rfl (at27 hTl) hB3 ?_) | (refine wpList_storeB (w := w3) rfl 134 _ _ rfl (w.heap.size + 1) 0 134 _ T rfl rfl (at27 hTl) hB1b (by simp [hTl]) ?_; intro w4 hB4 hg4))
  have e5 : putB (List.replicate 27 false) 0 T = T := putB_whole (by simp [hTl])
  rw [e5] at hB4
  have b1 : Below w.heap.size w w1 := B0.trans (hb1.mono (by omega))
  have b2 : Below w.heap.size w w2 := b1.trans (hb2.mono b1.size)
  have b3 : Below w.heap.size w w3 := b2.grown hg3 b2.size (fun j hj => by cases hj; exact b1.size)
  have b4 : Below w.heap.size w w4 := b3.grown hg4 b3.size (fun j hj => by cases hj; omega)
  exact bodyPost_ret (v := aggB T) (ret_cell 134 rfl rfl hB4 (at27 hTl)) rfl ⟨rfl, b4⟩
end Go.Proofs.YthnppodnjokaoaaDoor
namespace Go.Proofs.YthnppodnjokaoaaDoor
open Go.RowKit

theorem some_ne {a b : Nat} (h : a ≠ b) : some a ≠ some b := fun e => h (Option.some.inj e)
theorem exec_build0 {P : Program} {ρ : Operand → Value} {o : Oper} {w : World} {ty e : TypeId} {n m q : Nat} (ho : o.op = .build ty #[]) (hT : BitT P ty n) (hu : P.underlying ty = some (.array m e)) (hz : (P.info? e).map (·.size) = some q) :
    (execOp ρ o).run P w = .ok (.value (aggB (List.replicate n false))) w := by
  have hs : (sizeOf e).run P w = .ok q w := by
    cases hq : P.info? e with
    | none => simp [hq] at hz
    | some j => simp [hq] at hz; simp [sizeOf, typeInfo, hq, hz]
  unfold execOp
  simp only [ho, Instr.build, Sem.run_bind, hT.zero, Result.andThen_ok, run_underlying hu, hs, List.map_toArray, List.map_nil, Instr.fill, Value.cells]
  rw [aggB, cellsB_rep]
  rfl
theorem wpList_build0 {P : Program} {ops : Array Oper} {rest : List Oper} {o : Oper} {a : Act} {w : World} {Q : Exit → Act → World → Prop} (hgd : Region.wanted o (yielded ops a.tmps) = true) (ty e : TypeId) (n m q : Nat) (ho : o.op = .build ty #[]) (hT : BitT P ty n) (hu : P.underlying ty = some (.array m e)) (hz : (P.info? e).map (·.size) = some q)
    (h : wpList P ops Q rest (a.put o.dst (aggB (List.replicate n false))) w) : wpList P ops Q (o :: rest) a w :=
  wpList_val hgd (exec_build0 ho hT hu hz) h
theorem u_table : Tryd.prog.underlying 148 = some (.array 20 134) := by kernel_rfl

set_option maxRecDepth 100000 in
theorem isThere_any (x : Gm) (a0 : Option Addr) (c0 : Nat) (n : Int) (w : World) (h0 : RD w (.slice a0 x.parts.length c0) (slD (Lay.list (Lay.list Lay.int)) x.parts)) (hn : Lay.gram.wt x ≤ 1048576) (hf : Lay.gram.fit x) (_ : (Lit.int .i64 n).wf = true) :
    Calls Tryd.prog 46 #[.agg #[.slice a0 x.parts.length c0], .int .i64 n] w fun e w' => e = .returned (.bool (gramOkB x.parts && inB n 0 (x.parts.length - 1))) ∧ Below w.heap.size w w' := by
  have B0 := (Below.refl w.heap.size w).alloc (Nat.le_refl _) (.cells #[.slice a0 x.parts.length c0] 28)
  have HOK : Hid (∀ W : World, Below w.heap.size w W → Calls Tryd.prog 71 #[.agg #[.slice a0 x.parts.length c0]] W fun e w' => e = .returned (.bool (gramOkB x.parts)) ∧ Below W.heap.size W w') := fun W hW => gramOk_any x a0 c0 W (h0.later hW) hn hf
  have hpl : gramOkB x.parts = true → x.parts.length ≤ 20 := fun h => (Fits.of h).parts
  clear h0 hn hf
  generalize x.parts = P at *
  by_cases hok : gramOkB P = true
  · have hp := hpl hok
    clear hpl
    rw [hok] at HOK ⊢
    rw [Bool.true_and]
    clear hok
    by_cases h1 : 0 ≤ n
    · by_cases h2 : n < (P.length : Int)
      · have e : inB n 0 ((P.length : Int) - 1) = true := inB_true.2 (by omega)
        rw [e]
        clear e
        go_enter Tryd.func46, Tryd.ntmps46
        go_wp2_with (go_at_call 71; refine (HOK.out _ B0).mono ?_; rintro e w1 ⟨rfl, hb1⟩; have g0 : w1.cell? ⟨w.heap.size, 0, none⟩ = some (.slice a0 P.length c0) := (hb1.cell (p := ⟨w.heap.size, 0, none⟩) (by simp)).trans (by simp))
        go_ret
        exact ⟨rfl, B0.trans (hb1.mono B0.size)⟩
      · have e : inB n 0 ((P.length : Int) - 1) = false := inB_false.2 (by omega)
        rw [e]
        clear e
        go_enter Tryd.func46, Tryd.ntmps46
        go_wp2_with (go_at_call 71; refine (HOK.out _ B0).mono ?_; rintro e w1 ⟨rfl, hb1⟩; have g0 : w1.cell? ⟨w.heap.size, 0, none⟩ = some (.slice a0 P.length c0) := (hb1.cell (p := ⟨w.heap.size, 0, none⟩) (by simp)).trans (by simp))
        go_ret
        exact ⟨ret_bool (by simp; omega), B0.trans (hb1.mono B0.size)⟩
    · have e : inB n 0 ((P.length : Int) - 1) = false := inB_false.2 (by omega)
      rw [e]
      clear e
      go_enter Tryd.func46, Tryd.ntmps46
      go_wp2_with (go_at_call 71; refine (HOK.out _ B0).mono ?_; rintro e w1 ⟨rfl, hb1⟩)
      go_ret
      exact ⟨rfl, B0.trans (hb1.mono B0.size)⟩
  · have hok2 : gramOkB P = false := by simpa using hok
    rw [hok2] at HOK ⊢
    rw [Bool.false_and]
    clear hok hok2 hpl
    go_enter Tryd.func46, Tryd.ntmps46
    go_wp2_with (go_at_call 71; refine (HOK.out _ B0).mono ?_; rintro e w1 ⟨rfl, hb1⟩)
    go_ret
    exact ⟨rfl, B0.trans (hb1.mono B0.size)⟩

end Go.Proofs.YthnppodnjokaoaaDoor
namespace Go.Proofs.YthnppodnjokaoaaDoor
open Go.RowKit

/-- One symbol's step; one row's. -/
def stX (k n : Nat) (T : List Bool) : List Bool := joinB (T.set (k * 27 + n) true) (k * 27) (((T.set (k * 27 + n) true).drop (n * 27)).take 27)
def stB (E : List Bool) (k : Nat) : List Bool → List Int → List Bool
  | T, [] => T
  | T, x :: xs => if 100 ≤ x then (if E.getD (x - 100).toNat false then stB E k (stX k (x - 100).toNat T) xs else stX k (x - 100).toNat T) else T
theorem stX_length (k n : Nat) (T : List Bool) : (stX k n T).length = T.length := by rw [stX, joinB_length, List.length_set]
theorem stB_end {E T : List Bool} {k j : Nat} {R : List Int} (h : ¬ j < R.length) : stB E k T (R.drop j) = T := by rw [List.drop_eq_nil_of_le (by omega), stB]
theorem stB_letter {E T : List Bool} {k j : Nat} {R : List Int} (h : j < R.length) (g : R[j] ≤ 25) : stB E k T (R.drop j) = T := by rw [List.drop_eq_getElem_cons h, stB, if_neg (by omega)]
theorem stB_go {E T : List Bool} {k j n : Nat} {R : List Int} (h : j < R.length) (e : R[j] = 100 + (n : Int)) (g : E.getD n false = true) : stB E k T (R.drop j) = stB E k (stX k n T) (R.drop (j + 1)) := by
  have e2 : (R[j] - 100).toNat = n := by omega
  rw [List.drop_eq_getElem_cons h, stB, if_pos (by omega), e2, if_pos g]
theorem stB_stop {E T : List Bool} {k j n : Nat} {R : List Int} (h : j < R.length) (e : R[j] = 100 + (n : Int)) (g : E.getD n false = false) : stB E k T (R.drop j) = stX k n T := by
  have e2 : (R[j] - 100).toNat = n := by omega
  rw [List.drop_eq_getElem_cons h, stB, if_pos (by omega), e2, if_neg (by rw [g]; simp)]
theorem chunk_length {T : List Bool} {n : Nat} (h : T.length = 540) (hn : n < 20) : ((T.drop (n * 27)).take 27).length = 27 := by rw [List.length_take, List.length_drop]; omega

set_option maxHeartbeats 4000000 in
set_option maxRecDepth 100000 in
theorem startsStep_any (b bE : Nat) (tE : TypeId) (T E : List Bool) (k : Nat) (R : List Int) (a : Option Addr) (c : Nat) (w : World) (hB : Bits w b 148 T) (hT : T.length = 540) (hE : Bits w bE tE E) (hEl : 20 ≤ E.length) (hne : bE ≠ b) (hk : k < 20) (w0 : World) (hR : Reads w0 a R) (hw0 : Below w0.heap.size w0 w) (hb0 : w0.heap.size ≤ b) (hz : ∀ z ∈ R, (0 ≤ z ∧ z ≤ 25) ∨ (100 ≤ z ∧ z < 120)) (hrl : R.length ≤ 1048576) :
    Calls Tryd.prog 120 #[.pointer (some ⟨b, 0, none⟩), .int .i64 (k : Int), .slice a R.length c, .pointer (some ⟨bE, 0, none⟩)] w fun e w' => e = .returned (.tuple #[]) ∧ Bits w' b 148 (stB E k T R) ∧ w.grownBy w' (some b) := by
  have HZ : Hid (∀ z ∈ R, (0 ≤ z ∧ z ≤ 25) ∨ (100 ≤ z ∧ z < 120)) := hz
  have HR : Hid (∀ W : World, w.grownBy W (some b) → Reads W a R) := by
    intro W hW
    rcases hR with rfl | ⟨g, off, rfl, hlt, hc⟩
    · exact .inl rfl
    · have hgw := Nat.lt_of_lt_of_le hlt hw0.size
      refine .inr ⟨g, off, rfl, Nat.lt_of_lt_of_le hgw hW.size, fun i hi => ?_⟩
      have hgb : g ≠ b := by omega
      have := World.cell?_of_block (w := w) (w' := W) (a := ⟨g, off + i, none⟩) (hW.block g hgw (by intro h; cases h; exact hgb rfl))
      rw [this]; exact (hw0.cell (p := ⟨g, off + i, none⟩) hlt).trans (hc i hi)
  have HEE : Hid (∀ W : World, w.grownBy W (some b) → Bits W bE tE E) := fun W hW => hE.grown hW (by intro h; cases h; exact hne rfl)
  have hk0 : (0 : Int) ≤ (k : Int) := by omega
  have hk1 : (k : Int) < 20 := by omega
  clear hz hR hw0 hE
  go_enter Tryd.func120, Tryd.ntmps120
  go_wp2
  go_loopw [11] (fun s wr => ∃ (j : Nat) (Tj : List Bool), j ≤ R.length ∧ s = .int .i64 j ∧ Hid (stB E k Tj (R.drop j) = stB E k T R) ∧ Bits wr b 148 Tj ∧ Hid (Tj.length = 540) ∧ w.grownBy wr (some b)) (fun s _ => R.length - (intOf s).toNat)
  case atStart => exact ⟨0, T, Nat.zero_le _, rfl, by show _ = _; rw [List.drop_zero], hB, hT, World.grownBy.refl _ _⟩
  case round =>
    obtain ⟨j, Tj, hj, rfl, HJ0, hBj, HTl, hgj⟩ := hrel
    clear hB hT
    by_cases hlt : j < R.length
    · obtain ⟨g, off, rfl, hgl, hc⟩ := (HR.out wr hgj).at hlt
      have q1 := hc j hlt
      rw [List.getD_eq_getElem?_getD, List.getElem?_eq_getElem hlt, Option.getD_some] at q1
      have hzr := HZ.out _ (List.getElem_mem hlt)
      have HLt : Hid (R[j] ≤ 25 → stB E k Tj (R.drop j) = Tj) := fun h => stB_letter hlt h
      have HGo : Hid (∀ n : Nat, R[j] = 100 + (n : Int) → E.getD n false = true → stB E k Tj (R.drop j) = stB E k (stX k n Tj) (R.drop (j + 1))) := fun n h1 h2 => stB_go hlt h1 h2
      have HSt : Hid (∀ n : Nat, R[j] = 100 + (n : Int) → E.getD n false = false → stB E k Tj (R.drop j) = stX k n Tj) := fun n h1 h2 => stB_stop hlt h1 h2
      clear hc
      generalize R[j] = z at *
      by_cases hlet : z ≤ 25
      · have hin : inB z 0 25 = true := inB_true.2 (by omega)
        have HF : Hid (stB E k T R = Tj) := by show _ = _; rw [← HJ0.out]; exact HLt.out hlet
        have X : Hid (∀ W : World, Calls Tryd.prog 79 #[.int .i64 z] W fun e w' => e = .returned (.bool true) ∧ w' = W) := fun W => by have := isLetter_any z W; rwa [hin] at this
        clear hin HGo HSt HLt
        go_wp2_with (go_at_call 79; refine (X.out _).mono ?_; rintro e w' ⟨rfl, hw'⟩; have hw2 := hw'.symm; clear hw'; subst hw2)
        exact bodyPost_ret (results_none rfl _ _ _) rfl ⟨rfl, by rw [HF.out]; exact hBj, hgj⟩
      · have hin : inB z 0 25 = false := inB_false.2 (by omega)
        have X : Hid (∀ W : World, Calls Tryd.prog 79 #[.int .i64 z] W fun e w' => e = .returned (.bool false) ∧ w' = W) := fun W => by have := isLetter_any z W; rwa [hin] at this
        obtain ⟨n, hn⟩ : ∃ n : Nat, z = 100 + (n : Int) := ⟨(z - 100).toNat, by omega⟩
        subst hn
        have hn0 : (0 : Int) ≤ (n : Int) := by omega
        have hn1 : (n : Int) < 20 := by omega
        have hn2 : (n : Int) < 27 := by omega
        have q2 := hBj.cell (n := k * 27 + n) (by rw [HTl.out]; omega)
        have f2 := hBj.frozen (k * 27 + n)
        have hBs := hBj.set (k * 27 + n) true
        have hgs : w.grownBy (wr.setCell ⟨b, k * 27 + n, none⟩ (.bool true)) (some b) := grownBy_trans hgj (setCell_grown wr b _ _)
        have HT1 : Hid ((Tj.set (k * 27 + n) true).length = 540) := by show _ = _; rw [List.length_set]; exact HTl.out
        have HX2 : Hid (joinB (Tj.set (k * 27 + n) true) (k * 27) (((Tj.set (k * 27 + n) true).drop (n * 27)).take 27) = stX k n Tj) := rfl
        have HXl : Hid ((stX k n Tj).length = 540) := by show _ = _; rw [stX_length]; exact HTl.out
        generalize Tj.getD (k * 27 + n) false = y at *
        clear hin HLt hlet hzr
        generalize hT1e : Tj.set (k * 27 + n) true = T1 at *
        clear hT1e
        have HD : Hid (∀ W : World, Bits W b 148 T1 → Calls Tryd.prog 121 #[.pointer (some ⟨b, k * 27, none⟩), aggB ((T1.drop (n * 27)).take 27)] W fun e w' => e = .returned (.tuple #[]) ∧ Bits w' b 148 (stX k n Tj) ∧ W.grownBy w' (some b)) := fun W hW => by
          have := join_any b (k * 27) 148 T1 ((T1.drop (n * 27)).take 27) W hW (by rw [HT1.out]; omega) (chunk_length HT1.out (by omega))
          rwa [HX2.out] at this
        have HBS : Hid (Bits (wr.setCell ⟨b, k * 27 + n, none⟩ (.bool true)) b 148 T1) := hBs
        have HGS : Hid (w.grownBy (wr.setCell ⟨b, k * 27 + n, none⟩ (.bool true)) (some b)) := hgs
        clear hBs hgs hBj hgj HX2
        go_wp2_with (go_at_call 79; refine (X.out _).mono ?_; rintro e w' ⟨rfl, hw'⟩; have hw2 := hw'.symm; clear hw'; subst hw2)
        clear q2 f2 q1
        generalize wr.setCell ⟨b, k * 27 + n, none⟩ (.bool true) = ws at *
        have HBd : Hid (Bits ws.drew b 148 T1) := HBS.out.later (Below.drew (Below.refl _ _))
        have HJ : Hid (Calls Tryd.prog 121 #[.pointer (some ⟨b, k * 27, none⟩), aggB ((T1.drop (n * 27)).take 27)] ws.drew fun e w' => e = .returned (.tuple #[]) ∧ Bits w' b 148 (stX k n Tj) ∧ ws.drew.grownBy w' (some b)) := HD.out ws.drew HBd.out
        have HW : Hid (IntKind.i64.wrap (100 + (n : Int) - 100) = n) := by
          show _ = _
          rw [show (100 + (n : Int) - 100) = n by omega]
          first | exact IntKind.wrap_of_wf (by simp [Lit.wf]; omega) | (unfold IntKind.wrap; simp; omega) | (simp [IntKind.wrap, IntKind.bits]; omega) | (go_num)
        have hT1b : n * 27 + 27 ≤ T1.length := by rw [HT1.out]; omega
        refine wp_region_held_drew (S := fun _ => True) (by kernel_rfl) trivial (fun hHeld => ?_)
        refine take_atL (i := 0) (d := some 24) (v := .pointer (some ⟨b, 0, none⟩)) rfl rfl (by kernel_rfl) (by kernel_rfl) (by kernel_rfl) (fun _ _ _ h => h) (by rfl) ?_ hHeld ?_
        · intro w' _; go_simp; first | done | rfl | exact HW.out
        try simp only [Act.put, List.setIfInBounds_toArray, List.set_cons_zero, List.set_cons_succ]
        refine take_atL (i := 1) (d := some 25) (v := .int .i64 (k : Int)) rfl rfl (by kernel_rfl) (by kernel_rfl) (by kernel_rfl) (fun _ _ _ h => h) (by rfl) ?_ hHeld ?_
        · intro w' _; go_simp; first | done | rfl | exact HW.out
        try simp only [Act.put, List.setIfInBounds_toArray, List.set_cons_zero, List.set_cons_succ]
        refine take_atL (i := 2) (d := some 26) (v := .pointer (some ⟨b, 0, none⟩)) rfl rfl (by kernel_rfl) (by kernel_rfl) (by kernel_rfl) (fun _ _ _ h => h) (by rfl) ?_ hHeld ?_
        · intro w' _; go_simp; first | done | rfl | exact HW.out
        try simp only [Act.put, List.setIfInBounds_toArray, List.set_cons_zero, List.set_cons_succ]
        refine take_atL (i := 3) (d := some 27) (v := .pointer (some ⟨b, k * 27, none⟩)) rfl rfl (by kernel_rfl) (by kernel_rfl) (by kernel_rfl) (fun _ _ _ h => h) (by rfl) ?_ hHeld ?_
        · intro w' _; go_simp; first | done | rfl | exact HW.out
        try simp only [Act.put, List.setIfInBounds_toArray, List.set_cons_zero, List.set_cons_succ]
        refine take_atL (i := 4) (d := some 28) (v := .pointer (some ⟨b, 0, none⟩)) rfl rfl (by kernel_rfl) (by kernel_rfl) (by kernel_rfl) (fun _ _ _ h => h) (by rfl) ?_ hHeld ?_
        · intro w' _; go_simp; first | done | rfl | exact HW.out
        try simp only [Act.put, List.setIfInBounds_toArray, List.set_cons_zero, List.set_cons_succ]
        refine take_atL (i := 5) (d := some 29) (v := .int .i64 (100 + (n : Int))) rfl rfl (by kernel_rfl) (by kernel_rfl) (by kernel_rfl) (fun _ _ _ h => h) (by rfl) ?_ hHeld ?_
        · intro w' _; go_simp; first | done | rfl | exact HW.out
        try simp only [Act.put, List.setIfInBounds_toArray, List.set_cons_zero, List.set_cons_succ]
        refine take_atL (i := 6) (d := some 30) (v := .int .i64 (n : Int)) rfl rfl (by kernel_rfl) (by kernel_rfl) (by kernel_rfl) (fun _ _ _ h => h) (by rfl) ?_ hHeld ?_
        · intro w' _; go_simp; first | done | rfl | exact HW.out
        try simp only [Act.put, List.setIfInBounds_toArray, List.set_cons_zero, List.set_cons_succ]
        refine take_atL (i := 7) (d := some 31) (v := .pointer (some ⟨b, 0, none⟩)) rfl rfl (by kernel_rfl) (by kernel_rfl) (by kernel_rfl) (fun _ _ _ h => h) (by rfl) ?_ hHeld ?_
        · intro w' _; go_simp; first | done | rfl | exact HW.out
        try simp only [Act.put, List.setIfInBounds_toArray, List.set_cons_zero, List.set_cons_succ]
        refine take_atL (i := 8) (d := some 32) (v := .pointer (some ⟨b, n * 27, none⟩)) rfl rfl (by kernel_rfl) (by kernel_rfl) (by kernel_rfl) (fun _ _ _ h => h) (by rfl) ?_ hHeld ?_
        · intro w' _; go_simp; first | done | rfl | exact HW.out
        try simp only [Act.put, List.setIfInBounds_toArray, List.set_cons_zero, List.set_cons_succ]
        refine wpAnyH_ready (rs := [9]) (by kernel_rfl) (by simp) ?_
        refine AllReadyH.cons (o := _) rfl (fun K hK => ?_) AllReadyH.nil
        rw [if_pos (by rfl)]
        unfold Oper.wp
        rw [exec_loadB (t := 148) (b := b) (off := n * 27) (n := 27) (bs := T1) rfl rfl bt_flags HBd.out (by omega), Oper.upon_value]
        refine hK.out _ _ trivial (fun hHeld => ?_)
        clear hK K
        simp only [Act.put, List.setIfInBounds_toArray]
        refine wpAnyH_ready (rs := [10]) (by kernel_rfl) (by simp) ?_
        refine AllReadyH.cons (o := _) rfl (fun K hK => ?_) AllReadyH.nil
        rw [if_pos (by rfl)]
        go_simp
        refine (HJ.out).mono ?_
        rintro e w5 ⟨rfl, hB5, hg5⟩
        go_wp2_with fail
        refine hK.out _ _ trivial (fun hHeld => ?_)
        clear hK K
        try simp only [Act.put, List.setIfInBounds_toArray, List.set_cons_zero, List.set_cons_succ]
        refine wpAnyH_done (by kernel_rfl) ?_ _
        clear hHeld
        have hg6 : w.grownBy w5 (some b) := grownBy_trans HGS.out (grownBy_trans (grownBy_of_below (Below.drew (Below.refl _ _)) _) hg5)
        have q6 := (HEE.out w5 hg6).cell (n := n) (by omega)
        clear HBS HGS HBd HJ hg5 HD HT1 hT1b
        by_cases hup : E.getD n false = true
        · rw [hup] at q6
          have HF : Hid (stB E k (stX k n Tj) (R.drop (j + 1)) = stB E k T R) := by show _ = _; rw [← HGo.out n rfl hup]; exact HJ0.out
          clear HGo HSt hup HJ0
          go_wp2
          go_roundw
          case rel => exact ⟨j + 1, stX k n Tj, by omega, by go_num, HF, hB5, HXl, hg6⟩
          case measure => simp [intOf]; omega
        · have hdn : E.getD n false = false := by simpa using hup
          rw [hdn] at q6
          have HF : Hid (stX k n Tj = stB E k T R) := by show _ = _; rw [← HSt.out n rfl hdn]; exact HJ0.out
          clear HGo HSt hup hdn HJ0
          go_wp2
          exact bodyPost_ret (results_none rfl _ _ _) rfl ⟨rfl, by rw [← HF.out]; exact hB5, hg6⟩
    · have HF : Hid (stB E k T R = Tj) := by show _ = _; rw [← HJ0.out]; exact stB_end hlt
      go_wp2
      go_end0
      exact ⟨rfl, by rw [HF.out]; exact hBj, hgj⟩
end Go.Proofs.YthnppodnjokaoaaDoor
namespace Go.Proofs.YthnppodnjokaoaaDoor
open Go.RowKit

/-- As it was, or with more flags. -/
def Up (A B : List Bool) : Prop := B.length = A.length ∧ (B = A ∨ cntB A < cntB B)
theorem Up.refl (A : List Bool) : Up A A := ⟨rfl, .inl rfl⟩
theorem Up.trans {A B C : List Bool} (h : Up A B) (g : Up B C) : Up A C := by
  refine ⟨by rw [g.1, h.1], ?_⟩
  rcases h.2 with rfl | h2
  · exact g.2
  · rcases g.2 with rfl | g2
    · exact .inr h2
    · exact .inr (by omega)
theorem Up.fix {A B C : List Bool} (h : Up A B) (g : Up B C) (e : C = A) : B = A := by
  rcases h.2 with h2 | h2
  · exact h2
  · rcases g.2 with g2 | g2
    · rw [← g2]; exact e
    · subst e; omega
theorem Up.bstep (A : List Bool) (s : Nat × (List Bool → Bool)) : Up A (bstep A s) := ⟨bstep_length _ _, bstep_or _ _⟩
theorem Up.set (A : List Bool) (i : Nat) : Up A (A.set i true) := by
  have := Up.bstep A (i, fun _ => true)
  simpa only [Go.Proofs.YthnppodnjokaoaaDoor.bstep, Bool.or_true] using this
theorem Up.joinTo (A : List Bool) (off : Nat) (cs : List Bool) (k : Nat) : Up A (joinTo A off cs k) := by
  induction k with
  | zero => exact Up.refl _
  | succ k ih => exact ih.trans (Up.bstep _ (off + k, fun _ => cs.getD k false))
theorem Up.joinB (A : List Bool) (off : Nat) (cs : List Bool) : Up A (joinB A off cs) := Up.joinTo _ _ _ _
theorem Up.stX (k n : Nat) (T : List Bool) : Up T (stX k n T) := (Up.set T _).trans (Up.joinB _ _ _)
theorem Up.stB (E : List Bool) (k : Nat) : ∀ (row : List Int) (T : List Bool), Up T (stB E k T row)
  | [], T => by rw [Go.Proofs.YthnppodnjokaoaaDoor.stB]; exact Up.refl _
  | x :: xs, T => by
    rw [Go.Proofs.YthnppodnjokaoaaDoor.stB]
    split
    · split
      · exact (Up.stX _ _ _).trans (Up.stB E k xs _)
      · exact Up.stX _ _ _
    · exact Up.refl _
theorem chunk_get (T : List Bool) (n c : Nat) (hc : c < 27) : ((T.drop (n * 27)).take 27).getD c false = T.getD (n * 27 + c) false := by
  simp [List.getD, hc]
theorem stX_get {k n : Nat} {T : List Bool} (hT : T.length = 540) (hk : k < 20) (hn : n < 20) {j c : Nat} (hj : j < 20) (hc : c < 27) :
    (stX k n T).getD (j * 27 + c) false = true ↔ (T.getD (j * 27 + c) false = true ∨ (j = k ∧ (c = n ∨ T.getD (n * 27 + c) false = true))) := by
  have hl : (T.set (k * 27 + n) true).length = 540 := by rw [List.length_set]; exact hT
  have g : ∀ i d, i < 20 → d < 27 → (T.set (k * 27 + n) true).getD (i * 27 + d) false = (T.getD (i * 27 + d) false || decide (i = k ∧ d = n)) := by
    intro i d hi hd
    rw [getD_setB]
    by_cases e : i = k ∧ d = n
    · rw [if_pos ⟨by rw [e.1, e.2], by omega⟩, decide_eq_true e, Bool.or_true]
    · rw [if_neg (by intro h; omega), decide_eq_false e, Bool.or_false]
  rw [stX, joinB_get (by rw [hl]; omega), g j c hj hc]
  by_cases e : j = k
  · subst e
    rw [decide_eq_true (show j * 27 ≤ j * 27 + c ∧ j * 27 + c < j * 27 + 27 by omega), Bool.true_and, show j * 27 + c - j * 27 = c by omega, chunk_get _ _ _ hc, g n c hn hc]
    simp only [Bool.or_eq_true, decide_eq_true_eq, true_and]
    constructor
    · rintro ((h | h) | (h | ⟨_, h⟩))
      · exact .inl h
      · exact .inr (.inl h)
      · exact .inr (.inr h)
      · exact .inr (.inl h)
    · rintro (h | h | h)
      · exact .inl (.inl h)
      · exact .inl (.inr h)
      · exact .inr (.inl h)
  · rw [decide_eq_false (show ¬ (k * 27 ≤ j * 27 + c ∧ j * 27 + c < k * 27 + 27) by omega), Bool.false_and, Bool.or_false, decide_eq_false (by intro h; exact e h.1), Bool.or_false]
    constructor
    · exact .inl
    · rintro (h | ⟨h, _⟩)
      · exact h
      · exact absurd h e
theorem symsOk {P : List (List (List Int))} (h : gramOkB P = true) {k i : Nat} (hk : k < P.length) (hi : i < P[k].length) : ∀ z ∈ P[k][i], (0 ≤ z ∧ z ≤ 25) ∨ (100 ≤ z ∧ z < 100 + P.length) := by
  simp only [gramOkB, Bool.and_eq_true, inB_true, List.all_eq_true, partOk, rowOk, decide_eq_true_eq] at h
  intro z hz
  have := symOk_true.1 (((h.2 _ (List.getElem_mem hk)).2 _ (List.getElem_mem hi)).2 z hz)
  omega
def stR (E : List Bool) (k : Nat) (row : List Int) (T : List Bool) : List Bool := stB E k T row
theorem stR_raises (E : List Bool) (P : List (List (List Int))) : Raises (stR E) P 540 := fun k _ i _ T hT => by
  have := Up.stB E k P[k][i] T
  exact ⟨by rw [stR, this.1]; exact hT, this.2⟩
theorem stB_fix {E : List Int} {k : Nat} (hk : k < 20) : ∀ (row : List Int) (T : List Bool), (∀ z ∈ row, (0 ≤ z ∧ z ≤ 25) ∨ (100 ≤ z ∧ z < 120)) → T.length = 540 → stB (flagsOf E) k T row = T → ∀ x ∈ lead E row, T.getD (k * 27 + (x - 100).toNat) false = true ∧ ∀ c, c < 27 → T.getD ((x - 100).toNat * 27 + c) false = true → T.getD (k * 27 + c) false = true
  | [], T, _, _, _, x, hx => by simp [lead] at hx
  | y :: ys, T, hz, hT, he, x, hx => by
    have hy := hz y List.mem_cons_self
    by_cases h100 : 100 ≤ y
    · have hn : (y - 100).toNat < 20 := by omega
      have hyn : (((y - 100).toNat : Nat) : Int) = y - 100 := by omega
      have hfl : (flagsOf E).getD (y - 100).toNat false = hasL E (y - 100) := by rw [flagsOf_get _ (by omega), hyn]
      rw [stB, if_pos h100, hfl] at he
      rw [lead, if_pos h100] at hx
      have e1 : stX k (y - 100).toNat T = T := by
        split at he
        · exact Up.fix (Up.stX _ _ _) (Up.stB _ _ _ _) he
        · exact he
      have here : T.getD (k * 27 + (y - 100).toNat) false = true ∧ ∀ c, c < 27 → T.getD ((y - 100).toNat * 27 + c) false = true → T.getD (k * 27 + c) false = true := by
        refine ⟨?_, fun c hc h => ?_⟩
        · have := (stX_get (T := T) hT hk hn hk (show (y - 100).toNat < 27 by omega)).2 (.inr ⟨rfl, .inl rfl⟩)
          rwa [e1] at this
        · have := (stX_get (T := T) hT hk hn hk hc).2 (.inr ⟨rfl, .inr h⟩)
          rwa [e1] at this
      rcases List.mem_cons.1 hx with rfl | hx
      · exact here
      · split at hx
        · rename_i hE
          rw [if_pos hE, e1] at he
          exact stB_fix hk ys T (fun z h => hz z (List.mem_cons_of_mem _ h)) hT he x hx
        · simp at hx
    · rw [lead, if_neg h100] at hx; simp at hx
theorem stB_keeps {E : List Int} {k : Nat} (hk : k < 20) {S : Nat → Int → Prop} : ∀ (row : List Int) (T : List Bool), (∀ z ∈ row, (0 ≤ z ∧ z ≤ 25) ∨ (100 ≤ z ∧ z < 120)) → T.length = 540 → (∀ x ∈ lead E row, S k (x - 100) ∧ ∀ c, S (x - 100).toNat c → S k c) → (∀ j c, j < 20 → c < 27 → T.getD (j * 27 + c) false = true → S j (c : Int)) → ∀ j c, j < 20 → c < 27 → (stB (flagsOf E) k T row).getD (j * 27 + c) false = true → S j (c : Int)
  | [], T, _, _, _, h, j, c, hj, hc, hg => by rw [stB] at hg; exact h j c hj hc hg
  | y :: ys, T, hz, hT, hS, h, j, c, hj, hc, hg => by
    have hy := hz y List.mem_cons_self
    by_cases h100 : 100 ≤ y
    · have hn : (y - 100).toNat < 20 := by omega
      have hyn : (((y - 100).toNat : Nat) : Int) = y - 100 := by omega
      have hfl : (flagsOf E).getD (y - 100).toNat false = hasL E (y - 100) := by rw [flagsOf_get _ (by omega), hyn]
      rw [stB, if_pos h100, hfl] at hg
      have hy2 := hS y (by rw [lead, if_pos h100]; exact List.mem_cons_self)
      have hX : ∀ j c, j < 20 → c < 27 → (stX k (y - 100).toNat T).getD (j * 27 + c) false = true → S j (c : Int) := by
        intro j c hj hc hg
        rcases (stX_get hT hk hn hj hc).1 hg with h1 | ⟨rfl, h1 | h1⟩
        · exact h j c hj hc h1
        · rw [h1, hyn]; exact hy2.1
        · exact hy2.2 _ (h _ c hn hc h1)
      split at hg
      · rename_i hE
        refine stB_keeps hk ys _ (fun z h => hz z (List.mem_cons_of_mem _ h)) (by rw [stX_length]; exact hT) (fun x hx => hS x ?_) hX j c hj hc hg
        rw [lead, if_pos h100, if_pos hE]; exact List.mem_cons_of_mem _ hx
      · exact hX j c hj hc hg
    · rw [stB, if_neg h100] at hg
      exact h j c hj hc hg
theorem lead_part {E : List Int} : ∀ {row : List Int}, (∀ z ∈ row, (0 ≤ z ∧ z ≤ 25) ∨ (100 ≤ z ∧ z < 120)) → ∀ {x : Int}, x ∈ lead E row → 100 ≤ x ∧ x < 120
  | [], _, x, h => by simp [lead] at h
  | y :: ys, hz, x, h => by
    rw [lead] at h
    split at h
    · rcases List.mem_cons.1 h with rfl | h
      · have := hz x List.mem_cons_self; omega
      · split at h
        · exact lead_part (fun z hz2 => hz z (List.mem_cons_of_mem _ hz2)) h
        · simp at h
    · simp at h
/-- The table that startsOf answers. -/
theorem startsOf_is {P : List (List (List Int))} (hok : gramOkB P = true) {T : List Bool} (hl : T.length = 540) (hG : Grows (stR (flagsOf (emptiesL P))) P (List.replicate 540 false) T) (hx : leK (stR (flagsOf (emptiesL P))) P T P.length = T) {k : Nat} (hk : k < P.length) :
    numsB (fun c => T.getD (k * 27 + c) false) 27 = (startsL P).getD k [] := by
  have F := Fits.of hok
  have hp := F.parts
  have sy : ∀ k (hk : k < P.length) i (hi : i < P[k].length), ∀ z ∈ P[k][i], (0 ≤ z ∧ z ≤ 25) ∨ (100 ≤ z ∧ z < 120) := fun k hk i hi z hz => by have := symsOk hok hk hi z hz; omega
  have sound := hG (fun T => T.length = 540 ∧ ∀ j c, j < 20 → c < 27 → T.getD (j * 27 + c) false = true → (c : Int) ∈ (startsL P).getD j []) ⟨List.length_replicate, fun j c _ _ h => by rw [rep_getD] at h; cases h⟩
    (fun k hk i hi T hT => ⟨by rw [stR, (Up.stB _ _ _ _).1]; exact hT.1, stB_keeps (S := fun j c => c ∈ (startsL P).getD j []) (by omega) P[k][i] T (sy k hk i hi) hT.1 (fun x hx => ⟨stT_closed hk hi hx (.inl rfl), fun c hc => stT_closed hk hi hx (.inr hc)⟩) hT.2⟩)
  have compl : ∀ c ∈ (startsL P).getD k [], T.getD (k * 27 + c.toNat) false = true := by
    have := stT_sound (E := emptiesL P) (P := P) (S := fun j c => 0 ≤ c ∧ c < 27 ∧ T.getD (j * 27 + c.toNat) false = true) (fun k hk i hi x hm => by
      have hfx := (stR_raises (flagsOf (emptiesL P)) P).fix hl hx hk hi
      have hb := stB_fix (E := emptiesL P) (k := k) (by omega) P[k][i] T (sy k hk i hi) hl hfx x hm
      have hxr : 100 ≤ x ∧ x < 120 := lead_part (sy k hk i hi) hm
      refine ⟨⟨by omega, by omega, hb.1⟩, fun c hc => ⟨hc.1, hc.2.1, hb.2 c.toNat (by omega) hc.2.2⟩⟩) (P.length + 1) k
    exact fun c hc => (this c hc).2.2
  have hset := (stT_sets (emptiesL P) F (P.length + 1)).get (k := k)
  refine nums_flags (stT_sorted _ _ _ _) (fun x h => by have := hset.lt x h; omega) (fun n hn => ?_)
  rw [Bool.eq_iff_iff]
  constructor
  · intro h; exact hasL_yes (sound.2 k n (by omega) hn h)
  · intro h
    have h2 := compl n (of_decide_eq_true h)
    simpa using h2
end Go.Proofs.YthnppodnjokaoaaDoor
namespace Go.Proofs.YthnppodnjokaoaaDoor
open Go.RowKit

theorem at540S {T : List Bool} (hl : T.length = 540) : BitT Tryd.prog 148 T.length := by rw [hl]; exact bt_table
theorem eq_table540S {w : World} {cs bs : List Bool} (h1 : cs.length = 540) (h2 : bs.length = 540) : (Op.equalIn 10000 148 (aggB cs) (aggB bs)).run Tryd.prog w = .ok (decide (cs = bs)) w := run_eq_table (m := 20) (n := 27) 9997 (by kernel_rfl) u_flags u_bool bt_flags.size bool_size h1 h2
theorem guard_tableS : Tryd.prog.eqGuardType Tryd.prog.depth 148 = false := by kernel_rfl
theorem ahead_tableS {n1 nR : Nat} {w2 wr w3 w4 : World} {t : TypeId} {T Z : List Bool} (hbel : Below n1 w2 wr) (hn : n1 < wr.heap.size) (hBT : Bits wr n1 t T) (hBR : Bits wr nR t Z) (hb3 : Below wr.heap.size wr w3) (hs3 : w3.heap.size = wr.heap.size + 1) (hTl : T.length = 540) (hB4 : Bits w4 wr.heap.size 148 (putB (List.replicate 540 false) 0 T)) (hg4 : w3.grownBy w4 (some wr.heap.size)) :
    Below n1 w2 w4 ∧ Bits w4 n1 t T ∧ Bits w4 wr.heap.size 148 T ∧ Bits w4 nR t Z := by
  have e : putB (List.replicate 540 false) 0 T = T := putB_whole (by rw [List.length_replicate]; exact hTl)
  rw [e] at hB4
  have hl2 := hBR.lt
  refine ⟨?_, ?_, hB4, ?_⟩
  · exact (hbel.trans (hb3.mono (by omega))).grown hg4 (by omega) (fun k hk => by cases hk; omega)
  · exact (hBT.later hb3).grown hg4 (by intro h; cases h; omega)
  · exact (hBR.later hb3).grown hg4 (by intro h; cases h; omega)

set_option maxHeartbeats 4000000 in
set_option maxRecDepth 100000 in
theorem least_S (st : Nat → List Int → List Bool → List Bool) (cap : Value) (P : List (List (List Int))) (a0 : Option Addr) (c0 : Nat) (T0 : List Bool) (w : World) (h0 : RD w (.slice a0 P.length c0) (slD (Lay.list (Lay.list Lay.int)) P)) (hok : gramOkB P = true) (hT0 : T0.length = 540) (hRz : Raises st P 540)
    (hcl : ∀ (W : World) (b : Nat) (T : List Bool) (k : Nat) (hk : k < P.length) (i : Nat) (hi : i < P[k].length) (a : Option Addr) (c : Nat), Below w.heap.size w W → w.heap.size ≤ b → Bits W b 148 T → T.length = 540 → RD w (.slice a P[k][i].length c) (slD Lay.int P[k][i]) →
      Calls Tryd.prog 120 #[.pointer (some ⟨b, 0, none⟩), .int .i64 (k : Int), .slice a P[k][i].length c, cap] W fun e w' => e = .returned (.tuple #[]) ∧ Bits w' b 148 (st k P[k][i] T) ∧ W.grownBy w' (some b)) :
    Calls Tryd.prog 119 #[.agg #[.slice a0 P.length c0], aggB T0, .func (.func 120) #[] #[cap]] w fun e w' => ∃ T, e = .returned (aggB T) ∧ T.length = 540 ∧ Grows st P T0 T ∧ leK st P T P.length = T ∧ Below w.heap.size w w' := by
  have F := Fits.of hok
  have HF : Hid (Fits P) := F
  have hp := F.parts
  have HRz : Hid (Raises st P 540) := hRz
  have HCL : Hid (∀ (W : World) (b : Nat) (T : List Bool) (k : Nat) (hk : k < P.length) (i : Nat) (hi : i < P[k].length) (a : Option Addr) (c : Nat), Below w.heap.size w W → w.heap.size ≤ b → Bits W b 148 T → T.length = 540 → RD w (.slice a P[k][i].length c) (slD Lay.int P[k][i]) →
      Calls Tryd.prog 120 #[.pointer (some ⟨b, 0, none⟩), .int .i64 (k : Int), .slice a P[k][i].length c, cap] W fun e w' => e = .returned (.tuple #[]) ∧ Bits w' b 148 (st k P[k][i] T) ∧ W.grownBy w' (some b)) := hcl
  clear F hok hRz hcl
  have B0 := (Below.refl w.heap.size w).alloc (Nat.le_refl _) (.cells #[.slice a0 P.length c0] 28)
  have HQ0 : Hid ((w.alloc (.cells #[.slice a0 P.length c0] 28)).cell? ⟨w.heap.size, 0, none⟩ = some (.slice a0 P.length c0)) := by show _ = _; simp
  have HR0 : Hid (RD w (.slice a0 P.length c0) (slD (Lay.list (Lay.list Lay.int)) P)) := h0
  have hsb : (w.alloc (.cells #[.slice a0 P.length c0] 28)).heap.size = w.heap.size + 1 := by simp
  clear h0
  go_enter Tryd.func119, Tryd.ntmps119
  go_wp2_with (first | (refine wpList_boxB (w := w.alloc _) rfl 148 _ rfl T0 rfl ?_; rw [hsb]; intro w1 hB1 hb1 hs1) | (refine wpList_allocB (w := w1) rfl 148 rfl 540 bt_table ?_; intro w2 hB2 hb2 hs2))
  generalize w.alloc (.cells #[.slice a0 P.length c0] 28) = wb at *
  simp only [Act.put, List.setIfInBounds_toArray, List.set_cons_zero, List.set_cons_succ]
  have hB12 := hB1.below hb2 (by omega)
  have HQ : Hid (∀ W, Below (w.heap.size + 1) w2 W → W.cell? ⟨w.heap.size, 0, none⟩ = some (.slice a0 P.length c0) ∧ Below w.heap.size w W) := by
    intro W hW
    have b1 : Below (w.heap.size + 1) wb W := hb1.trans ((hb2.mono (by omega)).trans hW)
    exact ⟨(b1.cell (p := ⟨w.heap.size, 0, none⟩) (by simp)).trans HQ0.out, B0.trans (b1.mono (by omega))⟩
  have hnR : w1.heap.size = w.heap.size + 2 := by omega
  have hwr0 : w.heap.size ≤ w1.heap.size := by omega
  have hneq : w1.heap.size ≠ w.heap.size + 1 := by omega
  clear HQ0 B0 hB1 hb1 hs1 hb2 hs2 hnR
  generalize w1.heap.size = nR at *
  have HNR : Hid (nR ≠ w.heap.size + 1) := hneq
  have HWR : Hid (w.heap.size ≤ nR) := hwr0
  have hnw : w.heap.size < w.heap.size + 1 := by omega
  obtain ⟨n1, Hn1⟩ : ∃ n1, Hid (w.heap.size + 1 = n1) := ⟨_, rfl⟩
  rw [Hn1.out] at hB12 HQ HNR hnw
  rw [Hn1.out]
  clear hneq hsb Hn1 hwr0
  go_loopg [] 540 (fun g wr => ∃ T : List Bool, Aside (T.length = 540 ∧ 540 ≤ cntB T + g ∧ Grows st P T0 T ∧ Bits wr n1 148 T ∧ Below n1 w2 wr ∧ Bits wr nR 148 (List.replicate 540 false)))
  case atStart => exact ⟨T0, hT0, by omega, Grows.refl _ _, hB12, Below.refl _ _, hB2⟩
  case round =>
    obtain ⟨T, A⟩ := hrel
    have hTl := A.out.1
    have HTg : Hid (540 ≤ cntB T + gk) := A.out.2.1
    have HTG : Hid (Grows st P T0 T) := A.out.2.2.1
    have hBT := A.out.2.2.2.1
    have hbel := A.out.2.2.2.2.1
    have hBR := A.out.2.2.2.2.2
    clear A hB2 hB12
    have hnr := hBT.lt
    go_wp2_with (first | (refine wpList_loadW rfl 148 _ rfl n1 148 T rfl (at540S hTl) hBT ?_) | (refine wpList_allocB rfl 148 rfl 540 bt_table ?_; intro w3 hB3 hb3 hs3) | (refine wpList_storeB rfl 148 _ _ rfl wr.heap.size 0 148 _ T rfl rfl (at540S hTl) hB3 (by rw [List.length_replicate, hTl]; decide) ?_; intro w4 hB4 hg4; obtain ⟨hbel4, hBT4, hBA4, hBR4⟩ := ahead_tableS hbel hnr hBT hBR hb3 hs3 hTl hB4 hg4; obtain ⟨q4, _⟩ := HQ.out w4 hbel4))
    have hnA : n1 < wr.heap.size := hnr
    have hnA2 : nR < wr.heap.size := hBR.lt
    generalize wr.heap.size = nA at *
    clear hB3 hb3 hs3 hB4 hg4 hBT hbel hnr hBR
    go_loopw [16] (fun s wk => ∃ k : Nat, k ≤ P.length ∧ s = .int .i64 k ∧ Bits wk n1 148 (leK st P T k) ∧ Bits wk nA 148 T ∧ Below n1 w2 wk ∧ Bits wk nR 148 (List.replicate 540 false)) (fun s _ => P.length - (intOf s).toNat)
    case atStart => exact ⟨0, Nat.zero_le _, rfl, hBT4, hBA4, hbel4, hBR4⟩
    case round =>
      obtain ⟨k, hk, rfl, hBk, hBA, hbk, hBR⟩ := hrel
      clear hBT4 hBA4 hbel4 q4 hBR4
      by_cases hlk : k < P.length
      · have HK : Hid (leK st P T (k + 1) = leI st k P[k] (leK st P T k) P[k].length) := leK_next hlk
        have hm := List.getElem_mem hlk
        have hQ := HF.out.alts _ hm
        have HLe : Hid (∀ i, i ≤ P[k].length → (leI st k P[k] (leK st P T k) i).length = 540) := fun i hi => (HRz.out.leI hlk (HRz.out.leK hTl k hk).1 i hi).1
        have HC1 : Hid (∀ (W : World) (b : Nat) (T : List Bool) (i : Nat) (hi : i < P[k].length) (a : Option Addr) (c : Nat), Below w.heap.size w W → w.heap.size ≤ b → Bits W b 148 T → T.length = 540 → RD w (.slice a P[k][i].length c) (slD Lay.int P[k][i]) →
          Calls Tryd.prog 120 #[.pointer (some ⟨b, 0, none⟩), .int .i64 (k : Int), .slice a P[k][i].length c, cap] W fun e w' => e = .returned (.tuple #[]) ∧ Bits w' b 148 (st k P[k][i] T) ∧ W.grownBy w' (some b)) := fun W b T i hi a c => HCL.out W b T k hlk i hi a c
        obtain ⟨b1, o1, ea0, hb1, a1, c1, q0', r1⟩ := HR0.out.listAt hlk
        have HR1 : Hid (RD w (.slice a1 P[k].length c1) (slD (Lay.list Lay.int) P[k])) := r1
        have q0 := ((HQ.out wr hbk).2.cell (p := ⟨b1, o1 + k, none⟩) hb1).trans q0'
        subst ea0
        clear r1 q0' hm hb1
        generalize leK st P T k = Tk at *
        generalize P[k] = Q at *
        go_wp2
        go_loopw [23] (fun s wk => ∃ i : Nat, i ≤ Q.length ∧ s = .int .i64 i ∧ Bits wk n1 148 (leI st k Q Tk i) ∧ Bits wk nA 148 T ∧ Below n1 w2 wk ∧ Bits wk nR 148 (List.replicate 540 false)) (fun s _ => Q.length - (intOf s).toNat)
        case atStart => exact ⟨0, Nat.zero_le _, rfl, hBk, hBA, hbk, hBR⟩
        case round =>
          obtain ⟨i, hi, rfl, hBi, hBAi, hbi, hBRi⟩ := hrel
          clear hBk hBA hbk q0 hBR
          by_cases hli : i < Q.length
          · have HE : Hid (leI st k Q Tk (i + 1) = st k Q[i] (leI st k Q Tk i)) := leI_next hli
            have hTi := HLe.out i hi
            obtain ⟨b2, o2, ea1, hb2, a2, c2, q1', r2⟩ := HR1.out.listAt hli
            have hbw := (HQ.out wr hbi).2
            have q1 := (hbw.cell (p := ⟨b2, o2 + i, none⟩) hb2).trans q1'
            subst ea1
            have X := HC1.out wr n1 _ i hli a2 c2 hbw (by omega) hBi hTi r2
            have HX : Hid (Calls Tryd.prog 120 #[.pointer (some ⟨n1, 0, none⟩), .int .i64 (k : Int), .slice a2 Q[i].length c2, cap] wr fun e w' => e = .returned (.tuple #[]) ∧ Bits w' n1 148 (st k Q[i] (leI st k Q Tk i)) ∧ wr.grownBy w' (some n1)) := X
            rw [← HE.out] at HX
            have hn1r := hBi.lt
            clear r2 q1' hb2 X HE hbw
            generalize Q[i] = R at *
            go_wp2_with (go_at_call 120; refine HX.out.mono ?_; rintro e w5 ⟨rfl, hB5, hg5⟩)
            go_roundw
            case rel => exact ⟨i + 1, by omega, by go_num, hB5, hBAi.grown hg5 (by intro h; cases h; omega), hbi.grown hg5 (by omega) (fun j hj => by cases hj; omega), hBRi.grown hg5 (by intro h; cases h; exact HNR.out rfl)⟩
            case measure => simp [intOf]; omega
          · have e : i = Q.length := by omega
            subst e
            have HKe := HK
            clear HK
            go_wp2
            go_roundw
            case rel => exact ⟨k + 1, by omega, by go_num, by rw [HKe.out]; exact hBi, hBAi, hbi, hBRi⟩
            case measure => simp [intOf]; omega
      · have e : k = P.length := by omega
        subst e
        have hLl := (HRz.out.leK hTl P.length (Nat.le_refl _))
        have HL2 : Hid (leK st P T P.length = T ∨ cntB T < cntB (leK st P T P.length)) := hLl.2
        have hLl1 := hLl.1
        have HLG : Hid (Grows st P T0 (leK st P T P.length)) := HTG.out.leK _ (Nat.le_refl _)
        have HLc : Hid (cntB (leK st P T P.length) ≤ 540) := by show _ ≤ _; have := cntB_le (leK st P T P.length); omega
        clear hLl
        by_cases hfix : leK st P T P.length = T
        · have HX : Hid (leK st P T P.length = T) := hfix
          rw [hfix] at hBk
          clear hfix HL2 hLl1
          have hBel := (HQ.out wr hbk).2
          go_wp2_with (first | (refine wpList_loadW rfl 148 _ rfl n1 148 T rfl (at540S hTl) hBk ?_) | (refine wpList_loadW rfl 148 _ rfl nA 148 T rfl (at540S hTl) hBA ?_) | (refine wpList_eqlB rfl 148 _ _ _ rfl T T rfl rfl guard_tableS (eq_table540S hTl hTl) ?_; rw [decide_eq_true (rfl : T = T)]) | (refine wpList_storeB rfl 148 _ _ rfl nR 0 148 _ T rfl rfl (at540S hTl) hBR (by rw [List.length_replicate, hTl]; decide) ?_; intro w5 hB5 hg5))
          have e5 : putB (List.replicate 540 false) 0 T = T := putB_whole (by rw [List.length_replicate]; exact hTl)
          rw [e5] at hB5
          have hb5 : Below w.heap.size w w5 := hBel.grown hg5 hBel.size (fun j hj => by cases hj; exact HWR.out)
          refine bodyPost_ret (v := aggB T) (ret_cell 148 rfl rfl hB5 (at540S hTl)) rfl ⟨T, rfl, hTl, HTG.out, HX.out, hb5⟩
        · have hcnt : cntB T < cntB (leK st P T P.length) := HL2.out.resolve_left hfix
          have hdec : decide (leK st P T P.length = T) = false := decide_eq_false hfix
          clear hfix HL2
          generalize leK st P T P.length = T2 at *
          go_wp2_with (first | (refine wpList_loadW rfl 148 _ rfl n1 148 T2 rfl (at540S hLl1) hBk ?_) | (refine wpList_loadW rfl 148 _ rfl nA 148 T rfl (at540S hTl) hBA ?_) | (refine wpList_eqlB rfl 148 _ _ _ rfl T2 T rfl rfl guard_tableS (eq_table540S hLl1 hTl) ?_; rw [hdec]))
          go_roundg (gk - 1)
          case measure => have := HTg.out; have := HLc.out; omega
          case rel => exact ⟨T2, hLl1, by have := HTg.out; have := HLc.out; omega, HLG.out, hBk, hbk, hBR⟩
end Go.Proofs.YthnppodnjokaoaaDoor
namespace Go.Proofs.YthnppodnjokaoaaDoor
open Go.RowKit

set_option maxHeartbeats 2000000 in
set_option maxRecDepth 100000 in
theorem startsOf_any (P : List (List (List Int))) (a0 : Option Addr) (c0 : Nat) (w : World) (h0 : RD w (.slice a0 P.length c0) (slD (Lay.list (Lay.list Lay.int)) P)) (hok : gramOkB P = true) :
    Calls Tryd.prog 111 #[.agg #[.slice a0 P.length c0]] w fun e w' => ∃ T, e = .returned (aggB T) ∧ T.length = 540 ∧ Hid (∀ k, k < P.length → numsB (fun c => T.getD (k * 27 + c) false) 27 = (startsL P).getD k []) ∧ Below w.heap.size w w' := by
  have hfl := flagsOf_length (emptiesL P)
  have HIS : Hid (∀ T : List Bool, T.length = 540 → Grows (stR (flagsOf (emptiesL P))) P (List.replicate 540 false) T → leK (stR (flagsOf (emptiesL P))) P T P.length = T → ∀ k, k < P.length → numsB (fun c => T.getD (k * 27 + c) false) 27 = (startsL P).getD k []) := fun T h1 h2 h3 k hk => startsOf_is hok h1 h2 h3 hk
  have HE : Hid (∀ W : World, Below w.heap.size w W → Calls Tryd.prog 118 #[.agg #[.slice a0 P.length c0]] W fun e w' => e = .returned (aggB (flagsOf (emptiesL P))) ∧ Below W.heap.size W w') := fun W hW => emptiesOf_any P a0 c0 W (h0.later hW) hok
  have HRZ : Hid (Raises (stR (flagsOf (emptiesL P))) P 540) := stR_raises _ _
  have HCL : Hid (∀ (W0 : World) (bE : Nat), Bits W0 bE 134 (flagsOf (emptiesL P)) → ∀ (W : World) (b : Nat) (T : List Bool) (k : Nat) (hk : k < P.length) (i : Nat) (hi : i < P[k].length) (a : Option Addr) (c : Nat), Below W0.heap.size W0 W → W0.heap.size ≤ b → Bits W b 148 T → T.length = 540 → RD W0 (.slice a P[k][i].length c) (slD Lay.int P[k][i]) →
      Calls Tryd.prog 120 #[.pointer (some ⟨b, 0, none⟩), .int .i64 (k : Int), .slice a P[k][i].length c, .pointer (some ⟨bE, 0, none⟩)] W fun e w' => e = .returned (.tuple #[]) ∧ Bits w' b 148 (stR (flagsOf (emptiesL P)) k P[k][i] T) ∧ W.grownBy w' (some b)) := by
    intro W0 bE hE W b T k hk i hi a c hW hb hB hT hr
    have hp := (Fits.of hok).parts
    have hl8 := (Fits.of hok).rows _ (List.getElem_mem hk) _ (List.getElem_mem hi)
    have hlt := hE.lt
    exact startsStep_any b bE 134 T (flagsOf (emptiesL P)) k P[k][i] a c W hB hT (hE.later hW) (by rw [flagsOf_length]; decide) (by omega) (by omega) W0 hr.reads hW hb (fun z hz => by have := symsOk hok hk hi z hz; omega) (by omega)
  have HOK : Hid (gramOkB P = true) := hok
  have HR0 : Hid (RD w (.slice a0 P.length c0) (slD (Lay.list (Lay.list Lay.int)) P)) := h0
  have B0 := (Below.refl w.heap.size w).alloc (Nat.le_refl _) (.cells #[.slice a0 P.length c0] 28)
  have hsb : (w.alloc (.cells #[.slice a0 P.length c0] 28)).heap.size = w.heap.size + 1 := by simp
  have HQ0 : Hid ((w.alloc (.cells #[.slice a0 P.length c0] 28)).cell? ⟨w.heap.size, 0, none⟩ = some (.slice a0 P.length c0)) := by show _ = _; simp
  clear h0 hok
  generalize flagsOf (emptiesL P) = E at *
  go_enter Tryd.func111, Tryd.ntmps111
  go_wp2_with (refine wpList_allocB (w := w.alloc _) rfl 148 rfl 540 bt_table ?_; rw [hsb]; intro w1 hB1 hb1 hs1; have g1 := (hb1.cell (p := ⟨w.heap.size, 0, none⟩) (by simp)).trans HQ0.out)
  have b1 : Below w.heap.size w w1 := B0.trans (hb1.mono (by omega))
  refine (HE.out _ b1).mono ?_
  rintro e w2 ⟨rfl, hb2⟩
  have g2 := (hb2.cell (p := ⟨w.heap.size, 0, none⟩) (by simp; omega)).trans g1
  have b2 := b1.trans (hb2.mono b1.size)
  have hB2 := hB1.later hb2
  have hnr := hB2.lt
  clear HE HQ0 hB1 hb1 g1 B0 hb2 b1
  go_wp2_with (first | (refine wpList_allocB (w := w2) rfl 134 rfl 27 bt_flags ?_; intro w3 hB3 hb3 hs3) | (refine wpList_storeB (w := w3) rfl 134 _ _ rfl w2.heap.size 0 134 _ E rfl rfl (at27 hfl) hB3 (by simp [hfl]) ?_; intro w4 hB4 hg4; have g4 : w4.cell? ⟨w.heap.size, 0, none⟩ = some (.slice a0 P.length c0) := (World.cell?_of_block (w := w3) (a := ⟨w.heap.size, 0, none⟩) (hg4.block w.heap.size (by omega) (some_ne (by omega)))).trans ((hb3.cell (p := ⟨w.heap.size, 0, none⟩) (by simp; omega)).trans g2)) | (refine wpList_build0 rfl 148 134 540 20 27 rfl bt_table u_table bt_flags.size ?_))
  have e4 : putB (List.replicate 27 false) 0 E = E := putB_whole (by simp [hfl])
  rw [e4] at hB4
  have b4 : Below w.heap.size w w4 := (b2.trans (hb3.mono b2.size)).grown hg4 (by have := b2.size; omega) (fun j hj => by cases hj; exact b2.size)
  have hBR : Bits w4 (w.heap.size + 1) 148 (List.replicate 540 false) := (hB2.later hb3).grown hg4 (some_ne (by omega))
  refine (least_S (stR E) (.pointer (some ⟨w2.heap.size, 0, none⟩)) P a0 c0 (List.replicate 540 false) w4 (HR0.out.later b4) HOK.out List.length_replicate HRZ.out (fun W b T k hk i hi a c h1 h2 h3 h4 h5 => HCL.out w4 w2.heap.size hB4 W b T k hk i hi a c h1 h2 h3 h4 h5)).mono ?_
  rintro e w5 ⟨T, rfl, hTl, hG, hfx, hb5⟩
  have HI : Hid (∀ k, k < P.length → numsB (fun c => T.getD (k * 27 + c) false) 27 = (startsL P).getD k []) := HIS.out T hTl hG hfx
  have b5 := b4.trans (hb5.mono b4.size)
  have hB5 := hBR.later hb5
  clear hG hfx hb5 hBR hB4 hg4 hb3 hs3 hB3 hB2 b2 b4 HIS HCL HRZ HR0 HOK g4 e4
  go_wp2_with (refine wpList_storeB (w := w5) rfl 148 _ _ rfl (w.heap.size + 1) 0 148 _ T rfl rfl (at540S hTl) hB5 (by rw [List.length_replicate, hTl]; decide) ?_; intro w6 hB6 hg6)
  have e6 : putB (List.replicate 540 false) 0 T = T := putB_whole (by rw [List.length_replicate]; exact hTl)
  rw [e6] at hB6
  have b6 : Below w.heap.size w w6 := b5.grown hg6 b5.size (fun j hj => by cases hj; omega)
  refine bodyPost_ret (v := aggB T) (ret_cell 148 rfl rfl hB6 (at540S hTl)) rfl ⟨T, rfl, hTl, HI, b6⟩
end Go.Proofs.YthnppodnjokaoaaDoor
namespace Go.Proofs.YthnppodnjokaoaaDoor
open Go.RowKit

/-- The flags of the first n parts. -/
def parB (n : Nat) : List Bool := (List.range 27).map fun i => decide (i < n)
theorem parB_length (n : Nat) : (parB n).length = 27 := by simp [parB]
theorem parB_get {n i : Nat} (h : i < 27) : (parB n).getD i false = decide (i < n) := by simp [parB, List.getD, h]
theorem parB_zero : parB 0 = List.replicate 27 false := by
  apply list_ext_getD (by rw [parB_length, List.length_replicate])
  intro i hi
  rw [parB_length] at hi
  rw [parB_get hi, rep_getD]; simp
theorem parB_next {k : Nat} (hk : k < 27) : parB (k + 1) = (parB k).set k true := by
  apply list_ext_getD (by rw [List.length_set, parB_length, parB_length])
  intro i hi
  rw [parB_length] at hi
  rw [parB_get hi, getD_setB, parB_length, parB_get hi]
  by_cases e : i = k
  · subst e; simp [hk]
  · rw [if_neg (fun h => e h.1)]
    rw [Bool.eq_iff_iff]; simp; omega
theorem nums_par_len (n : Nat) : ∀ m, (numsB (fun i => decide (i < n)) m).length = min n m
  | 0 => by simp [numsB]
  | m + 1 => by
    rw [numsB]
    have ih := nums_par_len n m
    split
    · rename_i h
      have := of_decide_eq_true h
      rw [List.length_append, List.length_singleton]; omega
    · rename_i h
      have : ¬ m < n := fun g => h (decide_eq_true g)
      omega
/-- Flags of a set of parts are those of all just where there are as many. -/
theorem flags_all {n : Nat} (hn : n ≤ 20) {E : List Int} (hs : E.Pairwise (· < ·)) (hb : SetB (n : Int) E) : flagsOf E = parB n ↔ ¬ E.length < n := by
  constructor
  · intro h
    have e := nums_flags (E := E) hs (fun x hx => by have := hb.lt x hx; omega) (f := fun i => (flagsOf E).getD i false) (fun i hi => flagsOf_get E hi)
    have e2 : numsB (fun i => (flagsOf E).getD i false) 27 = numsB (fun i => decide (i < n)) 27 := by
      have : ∀ m, m ≤ 27 → numsB (fun i => (flagsOf E).getD i false) m = numsB (fun i => decide (i < n)) m := by
        intro m
        induction m with
        | zero => intro _; rfl
        | succ m ih =>
          intro hm
          rw [numsB, numsB, ih (by omega), h, parB_get (by omega)]
      exact this 27 (Nat.le_refl _)
    rw [← e, e2, nums_par_len]; omega
  · intro h
    apply list_ext_getD (by rw [flagsOf_length, parB_length])
    intro i hi
    rw [flagsOf_length] at hi
    rw [flagsOf_get _ hi, parB_get hi, Bool.eq_iff_iff]
    constructor
    · intro g
      have : (i : Int) ∈ E := of_decide_eq_true g
      have := hb.lt _ this
      exact decide_eq_true (by omega)
    · intro g
      have hi2 := of_decide_eq_true g
      by_cases hm : (i : Int) ∈ E
      · exact hasL_yes hm
      · exfalso
        have : ((i : Int) :: E).length ≤ n := nodup_le (List.nodup_cons.2 ⟨hm, hb.nodup⟩) (fun x hx => by
          rcases List.mem_cons.1 hx with rfl | hx
          · omega
          · exact hb.lt x hx)
        rw [List.length_cons] at this
        omega

set_option maxHeartbeats 2000000 in
set_option maxRecDepth 100000 in
theorem partsIn_any (n : Nat) (a0 : Option Addr) (c0 : Nat) (w : World) (hn : n ≤ 20) :
    Calls Tryd.prog 100 #[.agg #[.slice a0 n c0]] w fun e w' => e = .returned (aggB (parB n)) ∧ Below w.heap.size w w' := by
  have B0 := (Below.refl w.heap.size w).alloc (Nat.le_refl _) (.cells #[.slice a0 n c0] 28)
  have hsb : (w.alloc (.cells #[.slice a0 n c0] 28)).heap.size = w.heap.size + 1 := by simp
  have HQ0 : Hid ((w.alloc (.cells #[.slice a0 n c0] 28)).cell? ⟨w.heap.size, 0, none⟩ = some (.slice a0 n c0)) := by show _ = _; simp
  go_enter Tryd.func100, Tryd.ntmps100
  go_wp2_with (first | (refine wpList_allocB (w := w.alloc _) rfl 134 rfl 27 bt_flags ?_; rw [hsb]; intro w1 hB1 hb1 hs1; have q1 := (hb1.cell (p := ⟨w.heap.size, 0, none⟩) (by simp)).trans HQ0.out; have h1 : w.heap.size + 1 < w1.heap.size := (by omega); clear hs1) | (refine wpList_allocB (w := w1) rfl 134 rfl 27 bt_flags ?_; intro w2 hB2 hb2 hs2; have q2 := (hb2.cell (p := ⟨w.heap.size, 0, none⟩) (by simp; omega)).trans q1; have h2 : w1.heap.size < w2.heap.size := (by omega); clear hs2 q1))
  have hB12 := hB1.later hb2
  have b1 : Below w.heap.size w w1 := B0.trans (hb1.mono (by omega))
  have b2 : Below w.heap.size w w2 := b1.trans (hb2.mono b1.size)
  have hw1 := b1.size
  clear hB1 hb1 hb2 q2 HQ0 B0 b1
  generalize w1.heap.size = n1 at *
  go_loopw [8] (fun s wr => ∃ k : Nat, k ≤ n ∧ s = .int .i64 k ∧ Bits wr n1 134 (parB k) ∧ Bits wr (w.heap.size + 1) 134 (List.replicate 27 false) ∧ Below w.heap.size w wr) (fun s _ => n - (intOf s).toNat)
  case atStart => exact ⟨0, Nat.zero_le _, rfl, by rw [parB_zero]; exact hB2, hB12, b2⟩
  case round =>
    obtain ⟨k, hk, rfl, hBk, hBr, hbk⟩ := hrel
    clear hB2 hB12 b2
    by_cases hlt : k < n
    · have hk0 : (0 : Int) ≤ (k : Int) := by omega
      have hk1 : (k : Int) < 27 := by omega
      have q := hBk.cell (n := k) (by rw [parB_length]; omega)
      have f := hBk.frozen k
      have hBs := hBk.set k true
      have HN : Hid (parB (k + 1) = (parB k).set k true) := parB_next (by omega)
      rw [← HN.out] at hBs
      have hBrs := hBr.grown (setCell_grown wr n1 k (.bool true)) (fun h => by have := Option.some.inj h; omega)
      have hbs : Below w.heap.size w (wr.setCell ⟨n1, k, none⟩ (.bool true)) := hbk.setCell (p := ⟨n1, k, none⟩) hw1 _
      have HE : Hid (Bits (wr.setCell ⟨n1, k, none⟩ (.bool true)) n1 134 (parB (k + 1)) ∧ Bits (wr.setCell ⟨n1, k, none⟩ (.bool true)) (w.heap.size + 1) 134 (List.replicate 27 false) ∧ Below w.heap.size w (wr.setCell ⟨n1, k, none⟩ (.bool true))) := ⟨hBs, hBrs, hbs⟩
      clear hBs hBrs hbs HN hBk hBr hbk
      generalize (parB k).getD k false = y at *
      go_wp2
      go_roundw
      case rel => exact ⟨k + 1, by omega, by go_num, HE.out.1, HE.out.2.1, HE.out.2.2⟩
      case measure => simp [intOf]; omega
    · have e : k = n := by omega
      subst e
      have hl := parB_length k
      obtain ⟨T, HT⟩ : ∃ T, Hid (parB k = T) := ⟨_, rfl⟩
      rw [HT.out] at hBk hl
      go_wp2_with (first | (refine wpList_loadW rfl 134 _ rfl n1 134 T rfl (at27 hl) hBk ?_) | (refine wpList_storeB rfl 134 _ _ rfl (w.heap.size + 1) 0 134 _ T rfl rfl (at27 hl) hBr (by rw [List.length_replicate, hl]; decide) ?_; intro w5 hB5 hg5))
      rw [putB_whole (by rw [List.length_replicate]; exact hl)] at hB5
      have b5 : Below w.heap.size w w5 := hbk.grown hg5 hbk.size (fun j hj => by cases hj; omega)
      exact bodyPost_ret (v := aggB T) (ret_cell 134 rfl rfl hB5 (at27 hl)) rfl ⟨by rw [HT.out], b5⟩
end Go.Proofs.YthnppodnjokaoaaDoor
namespace Go.Proofs.YthnppodnjokaoaaDoor
open Go.RowKit

theorem any_loop {P : List (List (List Int))} {T : List Bool} (hp : P.length ≤ 20) (hM : (startsL P).length = P.length) (h : ∀ k, k < P.length → numsB (fun c => T.getD (k * 27 + c) false) 27 = (startsL P).getD k []) (k : Nat) (hk : k < P.length) : T.getD (k * 27 + k) false = hasL ((startsL P)[k]'(hM.symm ▸ hk)) (k : Int) := by
  have e : (startsL P).getD k [] = (startsL P)[k]'(hM.symm ▸ hk) := by simp [List.getD, show k < (startsL P).length by omega]
  rw [← e, ← h k hk, Bool.eq_iff_iff]
  constructor
  · intro g; exact hasL_yes (mem_numsB.2 ⟨k, by omega, rfl, g⟩)
  · intro g
    obtain ⟨n, _, e, g⟩ := mem_numsB.1 (of_decide_eq_true g)
    have : k = n := by omega
    subst this; exact g

set_option maxHeartbeats 2000000 in
set_option maxRecDepth 100000 in
theorem anyLoop_any (P : List (List (List Int))) (a0 : Option Addr) (c0 : Nat) (w : World) (h0 : RD w (.slice a0 P.length c0) (slD (Lay.list (Lay.list Lay.int)) P)) (hok : gramOkB P = true) :
    Calls Tryd.prog 101 #[.agg #[.slice a0 P.length c0]] w fun e w' => e = .returned (.bool (loopB (startsL P))) ∧ Below w.heap.size w w' := by
  have F := Fits.of hok
  have hp := F.parts
  have hM : (startsL P).length = P.length := (stT_sets (emptiesL P) F (P.length + 1)).1
  have HM : Hid ((startsL P).length = P.length) := hM
  have HS : Hid (∀ W : World, Below w.heap.size w W → Calls Tryd.prog 111 #[.agg #[.slice a0 P.length c0]] W fun e w' => ∃ T, e = .returned (aggB T) ∧ T.length = 540 ∧ Hid (∀ k, k < P.length → numsB (fun c => T.getD (k * 27 + c) false) 27 = (startsL P).getD k []) ∧ Below W.heap.size W w') := fun W hW => startsOf_any P a0 c0 W (h0.later hW) hok
  have B0 := (Below.refl w.heap.size w).alloc (Nat.le_refl _) (.cells #[.slice a0 P.length c0] 28)
  clear h0 hok F hM
  go_enter Tryd.func101, Tryd.ntmps101
  go_wp2_with fail
  refine (HS.out _ B0).mono ?_
  rintro e w1 ⟨T, rfl, hTl, HI, hb1⟩
  have g0 : w1.cell? ⟨w.heap.size, 0, none⟩ = some (.slice a0 P.length c0) := (hb1.cell (p := ⟨w.heap.size, 0, none⟩) (by simp)).trans (by simp)
  have B1 := B0.trans (hb1.mono B0.size)
  have HL : Hid (∀ (k : Nat) (hk : k < P.length), T.getD (k * 27 + k) false = hasL ((startsL P)[k]'(HM.out.symm ▸ hk)) (k : Int)) := fun k hk => any_loop hp HM.out HI.out k hk
  have HYes : Hid (∀ (k : Nat) (hk : k < P.length), T.getD (k * 27 + k) false = true → loopB (startsL P) = true) := fun k hk g => loopB_yes (HM.out.symm ▸ hk) (by rw [← HL.out k hk]; exact g)
  have HNo : Hid ((∀ k, k < P.length → T.getD (k * 27 + k) false = false) → loopB (startsL P) = false) := fun g => loopB_no (fun k hk => by rw [← HL.out k (HM.out ▸ hk)]; exact g k (HM.out ▸ hk))
  have hwl : w.heap.size < w1.heap.size := World.block_lt_of_cell? w1 _ g0
  clear HS B0 hb1 HI HL HM
  go_wp2_with (first | (refine wpList_allocB (w := w1) rfl 148 rfl 540 bt_table ?_; intro w3 hB3 hb3 hs3) | (refine wpList_storeB (w := w3) rfl 148 _ _ rfl w1.heap.size 0 148 _ T rfl rfl (at540S hTl) hB3 (by rw [List.length_replicate, hTl]; decide) ?_; intro w4 hB4 hg4; rw [putB_whole (by rw [List.length_replicate]; exact hTl)] at hB4; have g4 : w4.cell? ⟨w.heap.size, 0, none⟩ = some (.slice a0 P.length c0) := (World.cell?_of_block (w := w3) (a := ⟨w.heap.size, 0, none⟩) (hg4.block w.heap.size (by omega) (some_ne (by omega)))).trans ((hb3.cell (p := ⟨w.heap.size, 0, none⟩) (by simp; omega)).trans g0)))
  have B4 : Below w.heap.size w w4 := (B1.trans (hb3.mono B1.size)).grown hg4 (by have := B1.size; omega) (fun j hj => by cases hj; exact B1.size)
  clear hB3 hb3 hs3 hg4 g0 B1
  generalize w1.heap.size = n1 at *
  go_loop [10] (fun s => ∃ k : Nat, k ≤ P.length ∧ s = .int .i64 k ∧ Hid (∀ j, j < k → T.getD (j * 27 + j) false = false)) (fun s => P.length - (intOf s).toNat)
  case atStart => exact ⟨0, Nat.zero_le _, rfl, fun j hj => by omega⟩
  case round =>
    obtain ⟨k, hk, rfl, HK⟩ := hrel
    by_cases hlt : k < P.length
    · have hk0 : (0 : Int) ≤ (k : Int) := by omega
      have hk1 : (k : Int) < 20 := by omega
      have hk2 : (k : Int) < 27 := by omega
      have q := hB4.cell (n := k * 27 + k) (by omega)
      have HY2 : Hid (T.getD (k * 27 + k) false = true → loopB (startsL P) = true) := HYes.out k hlt
      by_cases hup : T.getD (k * 27 + k) false = true
      · rw [hup] at q
        have HF : Hid (loopB (startsL P) = true) := HY2.out hup
        clear HY2 hup HYes HNo HK
        go_wp2
        go_ret
        exact ⟨ret_bool (by rw [HF.out]), B4⟩
      · have hdn : T.getD (k * 27 + k) false = false := by simpa using hup
        rw [hdn] at q
        have HK2 : Hid (∀ j, j < k + 1 → T.getD (j * 27 + j) false = false) := fun j hj => by
          by_cases e : j = k
          · rw [e]; exact hdn
          · exact HK.out j (by omega)
        clear HY2 hup hdn HYes HNo HK
        go_wp2
        go_round
        case rel => exact ⟨k + 1, by omega, by go_num, HK2⟩
        case measure => simp [intOf]; omega
    · have e : k = P.length := by omega
      subst e
      have HF : Hid (loopB (startsL P) = false) := HNo.out HK.out
      clear HYes HNo HK
      go_wp2
      go_ret
      exact ⟨ret_bool (by rw [HF.out]), B4⟩
end Go.Proofs.YthnppodnjokaoaaDoor
namespace Go.Proofs.YthnppodnjokaoaaDoor
open Go.RowKit Go.Extern.Stop Go.Stop Go.Extern

theorem is_typeOf (v : Value) (w : World) : (Extern.ReflectliteType.typeOf #[.iface 171 v]).run Tryd.prog w = .ok (.iface 157 (.agg #[.pointer (some ⟨4, 171, none⟩)])) w := by kernel_rfl
theorem is_comparable (w : World) : ((Extern.ReflectliteType.method fun t => do Extern.Rtype.noPackHeld "Comparable" t; pure (.bool (← typeInfo t).comparable)) #[.agg #[.pointer (some ⟨4, 171, none⟩)]]).run Tryd.prog w = .ok (.bool true) w := by kernel_rfl
theorem is_called (w : World) : (callFunc 141 #[.agg #[.pointer (some ⟨4, 171, none⟩)]]).run Tryd.prog w = .ok (.value (.bool true)) w := by
  have h32 := @run_callFunc_extern Tryd.prog 141 _ (Extern.ReflectliteType.method fun t => do Extern.Rtype.noPackHeld "Comparable" t; pure (.bool (← typeInfo t).comparable)) Tryd.func141 (by kernel_rfl) (by kernel_rfl) (by kernel_rfl) (by kernel_rfl)
  rw [h32, is_comparable, Result.andThen_ok]
theorem is_method (v : Value) (w : World) : (Go.method 309 157 v "Comparable").run Tryd.prog w = .ok (141, v) w := by kernel_rfl
theorem is_comp : (Tryd.prog.info? 171).map (·.comparable) = some true := by kernel_rfl
theorem is_size : (Tryd.prog.info? 197).map (·.size) = some 1 := by kernel_rfl
theorem no_Is (v : Value) (xT : TypeId) (w : World) : (Instr.typeAssert (.iface 171 v) xT 159 true).run Tryd.prog w = .ok (.tuple #[.nilIface, .bool false]) w := run_typeAssert_lacksB Tryd.underlying159 (by kernel_rfl) (by kernel_rfl) v xT w
theorem no_Unwrap (v : Value) (xT : TypeId) (w : World) : (Instr.typeAssert (.iface 171 v) xT 162 true).run Tryd.prog w = .ok (.tuple #[.nilIface, .bool false]) w := run_typeAssert_lacksB Tryd.underlying162 (by kernel_rfl) (by kernel_rfl) v xT w
theorem no_Unwraps (v : Value) (xT : TypeId) (w : World) : (Instr.typeAssert (.iface 171 v) xT 164 true).run Tryd.prog w = .ok (.tuple #[.nilIface, .bool false]) w := run_typeAssert_lacksB Tryd.underlying164 (by kernel_rfl) (by kernel_rfl) v xT w

set_option maxRecDepth 100000 in
theorem errIs_same (a : Addr) (w : World) :
    Calls Tryd.prog 99 #[.iface 171 (.pointer (some a)), .iface 171 (.pointer (some a))] w fun e w' => e = .returned (.bool true) ∧ w' = w := by
  obtain ⟨i, hi, hcmp⟩ := Option.map_eq_some_iff.1 is_comp
  obtain ⟨j, hj, hjs⟩ := Option.map_eq_some_iff.1 is_size
  have h8 := @run_callFunc_extern Tryd.prog 109 _ Extern.ReflectliteType.typeOf Tryd.func109 (by kernel_rfl) (by kernel_rfl) (by kernel_rfl) (by kernel_rfl)
  have hC := is_called
  have tT := is_typeOf
  have mR := is_method
  have heq := run_eql_iface_ptr_same (P := Tryd.prog) w a Tryd.underlying108 Tryd.underlying171 hi hcmp hj
  go_enter Tryd.func99, Tryd.ntmps99
  go_wp2
  refine wp_loop_rounds 1 ?_
  rw [rounds_succ]
  go_wp2
  go_ret
  exact ⟨rfl, rfl⟩
set_option maxRecDepth 100000 in
theorem errIs_nil (b : Addr) (w : World) :
    Calls Tryd.prog 99 #[.nilIface, .iface 171 (.pointer (some b))] w fun e w' => e = .returned (.bool false) ∧ w' = w := by
  have hn := run_eql_iface_nil_left (P := Tryd.prog) w 171 (.pointer (some b)) Tryd.underlying108
  go_enter Tryd.func99, Tryd.ntmps99
  go_wp2
  go_ret
  exact ⟨rfl, rfl⟩
set_option maxRecDepth 100000 in
theorem errIs_other (a b : Addr) (ca cb : Array Value) (ta tb : TypeId) (w : World) (hne : a ≠ b) (ha : w.heap[a.block]? = some (.cells ca ta (0, 0))) (hb : w.heap[b.block]? = some (.cells cb tb (0, 0))) :
    Calls Tryd.prog 99 #[.iface 171 (.pointer (some a)), .iface 171 (.pointer (some b))] w fun e w' => e = .returned (.bool false) ∧ w' = w := by
  obtain ⟨i, hi, hcmp⟩ := Option.map_eq_some_iff.1 is_comp
  obtain ⟨j, hj, hjs⟩ := Option.map_eq_some_iff.1 is_size
  have h8 := @run_callFunc_extern Tryd.prog 109 _ Extern.ReflectliteType.typeOf Tryd.func109 (by kernel_rfl) (by kernel_rfl) (by kernel_rfl) (by kernel_rfl)
  have hC := is_called
  have tT := is_typeOf
  have mR := is_method
  have nE := no_Is
  have uE := no_Unwrap
  have vE := no_Unwraps
  have heq := run_eql_iface_ptr_other (P := Tryd.prog) w Tryd.underlying108 Tryd.underlying171 hi hcmp hj (by rw [hjs]; decide) hne ha hb
  go_enter Tryd.func99, Tryd.ntmps99
  go_wp2
  refine wp_loop_rounds 1 ?_
  rw [rounds_succ]
  go_wp2
  go_ret
  exact ⟨rfl, rfl⟩
end Go.Proofs.YthnppodnjokaoaaDoor
namespace Go.Proofs.YthnppodnjokaoaaDoor
open Go.RowKit

abbrev errV (a : Addr) : Value := .iface 171 (.pointer (some a))
/-- The four variables hold four errors of errors.New's make. -/
structure Errs (w : World) (a0 a1 a2 a3 : Addr) : Prop where
  g0 : w.cell? ⟨0, 0, none⟩ = some (errV a0)
  g1 : w.cell? ⟨1, 0, none⟩ = some (errV a1)
  g2 : w.cell? ⟨2, 0, none⟩ = some (errV a2)
  g3 : w.cell? ⟨3, 0, none⟩ = some (errV a3)
  r0 : ∃ c t, w.heap[a0.block]? = some (.cells c t (0, 0))
  r1 : ∃ c t, w.heap[a1.block]? = some (.cells c t (0, 0))
  r2 : ∃ c t, w.heap[a2.block]? = some (.cells c t (0, 0))
  r3 : ∃ c t, w.heap[a3.block]? = some (.cells c t (0, 0))
  n01 : a0 ≠ a1
  n02 : a0 ≠ a2
  n03 : a0 ≠ a3
  n12 : a1 ≠ a2
  n13 : a1 ≠ a3
  n23 : a2 ≠ a3
theorem row_later {w w' : World} {a : Addr} (h : ∃ c t, w.heap[a.block]? = some (.cells c t (0, 0))) (hb : Below w.heap.size w w') : ∃ c t, w'.heap[a.block]? = some (.cells c t (0, 0)) := by
  obtain ⟨c, t, h⟩ := h
  exact ⟨c, t, by rw [hb.block _ (Array.getElem?_eq_some_iff.1 h).1]; exact h⟩
theorem Errs.later {w w' : World} {a0 a1 a2 a3 : Addr} (h : Errs w a0 a1 a2 a3) (hb : Below w.heap.size w w') : Errs w' a0 a1 a2 a3 :=
  ⟨(hb.cell (World.block_lt_of_cell? w _ h.g0)).trans h.g0, (hb.cell (World.block_lt_of_cell? w _ h.g1)).trans h.g1, (hb.cell (World.block_lt_of_cell? w _ h.g2)).trans h.g2, (hb.cell (World.block_lt_of_cell? w _ h.g3)).trans h.g3,
   row_later h.r0 hb, row_later h.r1 hb, row_later h.r2 hb, row_later h.r3 hb, h.n01, h.n02, h.n03, h.n12, h.n13, h.n23⟩
theorem errIs_no {a b : Addr} (w : World) (hne : a ≠ b) (ha : ∃ c t, w.heap[a.block]? = some (.cells c t (0, 0))) (hb : ∃ c t, w.heap[b.block]? = some (.cells c t (0, 0))) :
    Calls Tryd.prog 99 #[errV a, errV b] w fun e w' => e = .returned (.bool false) ∧ w' = w := by
  obtain ⟨ca, ta, ha⟩ := ha
  obtain ⟨cb, tb, hb⟩ := hb
  exact errIs_other a b ca cb ta tb w hne ha hb

section
variable {w : World} {a0 a1 a2 a3 : Addr}
theorem codeOf_nil (E : Errs w a0 a1 a2 a3) : Calls Tryd.prog 80 #[.nilIface] w fun e w' => e = .returned (.int .i64 0) ∧ w' = w := by
  have g0 := E.g0
  have g1 := E.g1
  have g2 := E.g2
  have g3 := E.g3
  have X : Hid (∀ b, Calls Tryd.prog 99 #[.nilIface, errV b] w fun e w' => e = .returned (.bool false) ∧ w' = w) := fun b => errIs_nil b w
  clear E
  go_enter Tryd.func80, Tryd.ntmps80
  go_wp2_with (go_at_call 99; refine (X.out _).mono ?_; rintro e w' ⟨rfl, hw'⟩; have hw2 := hw'.symm; clear hw'; subst hw2)
  go_ret
  exact ⟨rfl, rfl⟩
theorem codeOf_bad (E : Errs w a0 a1 a2 a3) : Calls Tryd.prog 80 #[errV a0] w fun e w' => e = .returned (.int .i64 1) ∧ w' = w := by
  have g0 := E.g0
  have X : Hid (Calls Tryd.prog 99 #[errV a0, errV a0] w fun e w' => e = .returned (.bool true) ∧ w' = w) := errIs_same a0 w
  clear E
  go_enter Tryd.func80, Tryd.ntmps80
  go_wp2_with (go_at_call 99; refine X.out.mono ?_; rintro e w' ⟨rfl, hw'⟩; have hw2 := hw'.symm; clear hw'; subst hw2)
  go_ret
  exact ⟨rfl, rfl⟩
theorem codeOf_loop (E : Errs w a0 a1 a2 a3) : Calls Tryd.prog 80 #[errV a1] w fun e w' => e = .returned (.int .i64 2) ∧ w' = w := by
  have g0 := E.g0
  have g1 := E.g1
  have X0 : Hid (Calls Tryd.prog 99 #[errV a1, errV a0] w fun e w' => e = .returned (.bool false) ∧ w' = w) := errIs_no w E.n01.symm E.r1 E.r0
  have X : Hid (Calls Tryd.prog 99 #[errV a1, errV a1] w fun e w' => e = .returned (.bool true) ∧ w' = w) := errIs_same a1 w
  clear E
  go_enter Tryd.func80, Tryd.ntmps80
  go_wp2_with fail
  refine X0.out.mono ?_
  rintro e w' ⟨rfl, hw'⟩
  have hw2 := hw'.symm
  clear hw'
  subst hw2
  go_wp2_with fail
  refine X.out.mono ?_
  rintro e w' ⟨rfl, hw'⟩
  have hw2 := hw'.symm
  clear hw'
  subst hw2
  go_wp2
  go_ret
  exact ⟨rfl, rfl⟩
theorem codeOf_dead (E : Errs w a0 a1 a2 a3) : Calls Tryd.prog 80 #[errV a2] w fun e w' => e = .returned (.int .i64 3) ∧ w' = w := by
  have g0 := E.g0
  have g1 := E.g1
  have g2 := E.g2
  have X0 : Hid (Calls Tryd.prog 99 #[errV a2, errV a0] w fun e w' => e = .returned (.bool false) ∧ w' = w) := errIs_no w E.n02.symm E.r2 E.r0
  have X1 : Hid (Calls Tryd.prog 99 #[errV a2, errV a1] w fun e w' => e = .returned (.bool false) ∧ w' = w) := errIs_no w E.n12.symm E.r2 E.r1
  have X : Hid (Calls Tryd.prog 99 #[errV a2, errV a2] w fun e w' => e = .returned (.bool true) ∧ w' = w) := errIs_same a2 w
  clear E
  go_enter Tryd.func80, Tryd.ntmps80
  go_wp2_with fail
  refine X0.out.mono ?_
  rintro e w' ⟨rfl, hw'⟩
  have hw2 := hw'.symm
  clear hw'
  subst hw2
  go_wp2_with fail
  refine X1.out.mono ?_
  rintro e w' ⟨rfl, hw'⟩
  have hw2 := hw'.symm
  clear hw'
  subst hw2
  go_wp2_with fail
  refine X.out.mono ?_
  rintro e w' ⟨rfl, hw'⟩
  have hw2 := hw'.symm
  clear hw'
  subst hw2
  go_wp2
  go_ret
  exact ⟨rfl, rfl⟩
theorem codeOf_far (E : Errs w a0 a1 a2 a3) : Calls Tryd.prog 80 #[errV a3] w fun e w' => e = .returned (.int .i64 4) ∧ w' = w := by
  have g0 := E.g0
  have g1 := E.g1
  have g2 := E.g2
  have g3 := E.g3
  have X0 : Hid (Calls Tryd.prog 99 #[errV a3, errV a0] w fun e w' => e = .returned (.bool false) ∧ w' = w) := errIs_no w E.n03.symm E.r3 E.r0
  have X1 : Hid (Calls Tryd.prog 99 #[errV a3, errV a1] w fun e w' => e = .returned (.bool false) ∧ w' = w) := errIs_no w E.n13.symm E.r3 E.r1
  have X2 : Hid (Calls Tryd.prog 99 #[errV a3, errV a2] w fun e w' => e = .returned (.bool false) ∧ w' = w) := errIs_no w E.n23.symm E.r3 E.r2
  have X : Hid (Calls Tryd.prog 99 #[errV a3, errV a3] w fun e w' => e = .returned (.bool true) ∧ w' = w) := errIs_same a3 w
  clear E
  go_enter Tryd.func80, Tryd.ntmps80
  go_wp2_with fail
  refine X0.out.mono ?_
  rintro e w' ⟨rfl, hw'⟩
  have hw2 := hw'.symm
  clear hw'
  subst hw2
  go_wp2_with fail
  refine X1.out.mono ?_
  rintro e w' ⟨rfl, hw'⟩
  have hw2 := hw'.symm
  clear hw'
  subst hw2
  go_wp2_with fail
  refine X2.out.mono ?_
  rintro e w' ⟨rfl, hw'⟩
  have hw2 := hw'.symm
  clear hw'
  subst hw2
  go_wp2_with fail
  refine X.out.mono ?_
  rintro e w' ⟨rfl, hw'⟩
  have hw2 := hw'.symm
  clear hw'
  subst hw2
  go_wp2
  go_ret
  exact ⟨rfl, rfl⟩
end
end Go.Proofs.YthnppodnjokaoaaDoor
namespace Go.Proofs.YthnppodnjokaoaaDoor
open Go.RowKit

section
variable {P : Program}
theorem exec_neqB {ρ : Operand → Value} {o : Oper} {w : World} {ty rt : TypeId} {x y : Operand} {us bs : List Bool} (ho : o.op = .binOp .neq ty x y rt) (hx : ρ x = aggB us) (hy : ρ y = aggB bs) (hg : P.eqGuardType P.depth ty = false) (he : (Op.equalIn 10000 ty (aggB us) (aggB bs)).run P w = .ok (decide (us = bs)) w) :
    (execOp ρ o).run P w = .ok (.value (.bool (!decide (us = bs)))) w := by
  unfold execOp
  unfold aggB at *
  simp only [ho, hx, hy, Sem.run_bind, run_eqGuard_agg w _ _ _ _ _ _ hg, Result.andThen_ok, run_neq_struct, he, Sem.run_pure]
end

/-- What is refused. -/
def refV (a0 a1 a2 a3 : Addr) (P : List (List (List Int))) : Value :=
  if gramOkB P then (if loopB (startsL P) then errV a1 else if decide (flagsOf (aliveL P) = parB P.length) then (if decide (flagsOf (reachL P) = parB P.length) then .nilIface else errV a3) else errV a2) else errV a0

set_option maxHeartbeats 4000000 in
set_option maxRecDepth 100000 in
theorem refusalOf_any (x : Gm) (a0 : Option Addr) (c0 : Nat) (e0 e1 e2 e3 : Addr) (w : World) (h0 : RD w (.slice a0 x.parts.length c0) (slD (Lay.list (Lay.list Lay.int)) x.parts)) (hn : Lay.gram.wt x ≤ 1048576) (hf : Lay.gram.fit x) (hE : Errs w e0 e1 e2 e3) :
    Calls Tryd.prog 81 #[.agg #[.slice a0 x.parts.length c0]] w fun e w' => e = .returned (refV e0 e1 e2 e3 x.parts) ∧ Below w.heap.size w w' := by
  have B0 := (Below.refl w.heap.size w).alloc (Nat.le_refl _) (.cells #[.slice a0 x.parts.length c0] 28)
  have HOK : Hid (∀ W : World, Below w.heap.size w W → Calls Tryd.prog 71 #[.agg #[.slice a0 x.parts.length c0]] W fun e w' => e = .returned (.bool (gramOkB x.parts)) ∧ Below W.heap.size W w') := fun W hW => gramOk_any x a0 c0 W (h0.later hW) hn hf
  have HPI : Hid (gramOkB x.parts = true → ∀ W : World, Calls Tryd.prog 100 #[.agg #[.slice a0 x.parts.length c0]] W fun e w' => e = .returned (aggB (parB x.parts.length)) ∧ Below W.heap.size W w') := fun hk W => partsIn_any x.parts.length a0 c0 W (Fits.of hk).parts
  have HAL : Hid (gramOkB x.parts = true → ∀ W : World, Below w.heap.size w W → Calls Tryd.prog 101 #[.agg #[.slice a0 x.parts.length c0]] W fun e w' => e = .returned (.bool (loopB (startsL x.parts))) ∧ Below W.heap.size W w') := fun hk W hW => anyLoop_any x.parts a0 c0 W (h0.later hW) hk
  have HPR : Hid (gramOkB x.parts = true → ∀ W : World, Below w.heap.size w W → Calls Tryd.prog 102 #[.agg #[.slice a0 x.parts.length c0]] W fun e w' => e = .returned (aggB (flagsOf (aliveL x.parts))) ∧ Below W.heap.size W w') := fun hk W hW => productiveOf_any x.parts a0 c0 W (h0.later hW) hk
  have HRE : Hid (gramOkB x.parts = true → ∀ W : World, Below w.heap.size w W → Calls Tryd.prog 103 #[.agg #[.slice a0 x.parts.length c0]] W fun e w' => e = .returned (aggB (flagsOf (reachL x.parts))) ∧ Below W.heap.size W w') := fun hk W hW => reachableOf_any x.parts a0 c0 W (h0.later hW) hk
  have HEE : Hid (∀ W : World, Below w.heap.size w W → Errs W e0 e1 e2 e3) := fun W hW => hE.later hW
  have hPl := parB_length x.parts.length
  have hAl := flagsOf_length (aliveL x.parts)
  have hRl := flagsOf_length (reachL x.parts)
  obtain ⟨rv, HRV⟩ : ∃ rv, Hid (refV e0 e1 e2 e3 x.parts = rv) := ⟨_, rfl⟩
  have HR2 : Hid (refV e0 e1 e2 e3 x.parts = if gramOkB x.parts then (if loopB (startsL x.parts) then errV e1 else if decide (flagsOf (aliveL x.parts) = parB x.parts.length) then (if decide (flagsOf (reachL x.parts) = parB x.parts.length) then .nilIface else errV e3) else errV e2) else errV e0) := rfl
  rw [HRV.out] at HR2 ⊢
  clear HRV
  clear h0 hn hf hE
  generalize loopB (startsL x.parts) = lp at *
  generalize flagsOf (aliveL x.parts) = TA at *
  generalize flagsOf (reachL x.parts) = TR at *
  generalize gramOkB x.parts = ok at *
  generalize x.parts = P at *
  cases ok
  · have HF : Hid (rv = errV e0) := HR2.out
    clear HPI HAL HPR HRE HR2
    go_enter Tryd.func81, Tryd.ntmps81
    go_wp2_with fail
    refine (HOK.out _ B0).mono ?_
    rintro e w1 ⟨rfl, hb1⟩
    have B1 := B0.trans (hb1.mono B0.size)
    have q := (HEE.out w1 B1).g0
    clear HOK HEE B0 hb1
    go_wp2
    go_ret
    exact ⟨by rw [HF.out]; rfl, B1⟩
  · have HF : Hid (rv = if lp then errV e1 else if decide (TA = parB P.length) then (if decide (TR = parB P.length) then .nilIface else errV e3) else errV e2) := HR2.out
    have HPI2 : Hid (∀ W : World, Calls Tryd.prog 100 #[.agg #[.slice a0 P.length c0]] W fun e w' => e = .returned (aggB (parB P.length)) ∧ Below W.heap.size W w') := HPI.out rfl
    have HAL2 : Hid (∀ W : World, Below w.heap.size w W → Calls Tryd.prog 101 #[.agg #[.slice a0 P.length c0]] W fun e w' => e = .returned (.bool lp) ∧ Below W.heap.size W w') := HAL.out rfl
    have HPR2 : Hid (∀ W : World, Below w.heap.size w W → Calls Tryd.prog 102 #[.agg #[.slice a0 P.length c0]] W fun e w' => e = .returned (aggB TA) ∧ Below W.heap.size W w') := HPR.out rfl
    have HRE2 : Hid (∀ W : World, Below w.heap.size w W → Calls Tryd.prog 103 #[.agg #[.slice a0 P.length c0]] W fun e w' => e = .returned (aggB TR) ∧ Below W.heap.size W w') := HRE.out rfl
    clear HPI HAL HPR HRE HR2
    obtain ⟨PB, HPB⟩ : ∃ PB, Hid (parB P.length = PB) := ⟨_, rfl⟩
    rw [HPB.out] at HF HPI2 hPl
    clear HPB
    go_enter Tryd.func81, Tryd.ntmps81
    go_wp2_with fail
    refine (HOK.out _ B0).mono ?_
    rintro e w1 ⟨rfl, hb1⟩
    have g1 : w1.cell? ⟨w.heap.size, 0, none⟩ = some (.slice a0 P.length c0) := (hb1.cell (p := ⟨w.heap.size, 0, none⟩) (by simp)).trans (by simp)
    have b1 := B0.trans (hb1.mono B0.size)
    clear HOK B0 hb1
    go_wp2_with fail
    refine (HPI2.out _).mono ?_
    rintro e w2 ⟨rfl, hb2⟩
    have hl1 : w.heap.size < w1.heap.size := World.block_lt_of_cell? _ _ g1
    have g2 := (hb2.cell (p := ⟨w.heap.size, 0, none⟩) hl1).trans g1
    have b2 := b1.trans (hb2.mono b1.size)
    have hl2 : w.heap.size < w2.heap.size := World.block_lt_of_cell? _ _ g2
    clear HPI2 hb2 g1 b1 hl1
    go_wp2_with (first | (refine wpList_allocB (w := w2) rfl 134 rfl 27 bt_flags ?_; intro w3 hB3 hb3 hs3) | (refine wpList_storeB (w := w3) rfl 134 _ _ rfl w2.heap.size 0 134 _ PB rfl rfl (at27 hPl) hB3 (by rw [List.length_replicate, hPl]; decide) ?_; intro w4 hB4 hg4; rw [putB_whole (by rw [List.length_replicate]; exact hPl)] at hB4; have g4 : w4.cell? ⟨w.heap.size, 0, none⟩ = some (.slice a0 P.length c0) := (World.cell?_of_block (w := w3) (a := ⟨w.heap.size, 0, none⟩) (hg4.block w.heap.size (by omega) (some_ne (by omega)))).trans ((hb3.cell (p := ⟨w.heap.size, 0, none⟩) hl2).trans g2)))
    have b4 : Below w.heap.size w w4 := (b2.trans (hb3.mono b2.size)).grown hg4 (by have := b2.size; omega) (fun j hj => by cases hj; exact b2.size)
    clear hB3 hb3 hs3 hg4 g2 b2
    have hl4 : w.heap.size < w4.heap.size := World.block_lt_of_cell? _ _ g4
    generalize w2.heap.size = nA at *
    refine (HAL2.out _ b4).mono ?_
    rintro e w5 ⟨rfl, hb5⟩
    have b5 := b4.trans (hb5.mono b4.size)
    have g5 := (hb5.cell (p := ⟨w.heap.size, 0, none⟩) hl4).trans g4
    have hB5 := hB4.later hb5
    have hl5 : w.heap.size < w5.heap.size := World.block_lt_of_cell? _ _ g5
    clear HAL2 hb5 g4 b4 hB4 hl4 hl2
    cases lp
    · have HF2 : Hid (rv = if decide (TA = PB) then (if decide (TR = PB) then .nilIface else errV e3) else errV e2) := HF.out
      clear HF
      go_wp2_with fail
      refine wp_region_held_drew (S := fun X => X.cell? ⟨w.heap.size, 0, none⟩ = some (.slice a0 P.length c0) ∧ Bits X nA 134 PB) (by kernel_rfl) ⟨by rw [World.cell?_drew]; exact g5, hB5.later (Below.drew (Below.refl _ _))⟩ (fun hHeld => ?_)
      refine take_atL (i := 0) (d := some 15) (v := .agg #[.slice a0 P.length c0]) rfl rfl (by kernel_rfl) (by kernel_rfl) (by kernel_rfl) (fun _ _ _ h => h) (by rfl) ?_ hHeld ?_
      · intro w' hSw; obtain ⟨s0, _⟩ := hSw; go_simp; try rfl
      try simp only [Act.put, List.setIfInBounds_toArray, List.set_cons_zero, List.set_cons_succ]
      refine take_atL (i := 2) (d := some 17) (v := aggB PB) rfl rfl (by kernel_rfl) (by kernel_rfl) (by kernel_rfl) (fun _ _ _ h => h) (by rfl) ?_ hHeld ?_
      · intro w' hSw; exact exec_loadW (t := 134) (b := nA) rfl rfl (at27 hPl) hSw.2
      try simp only [Act.put, List.setIfInBounds_toArray, List.set_cons_zero, List.set_cons_succ]
      refine wpAnyH_ready (rs := [1]) (by kernel_rfl) (by simp) ?_
      refine AllReadyH.cons (o := _) rfl (fun K hK => ?_) AllReadyH.nil
      rw [if_pos (by rfl)]
      go_simp
      refine (HPR2.out _ (Below.drew b5)).mono ?_
      rintro e w6 ⟨rfl, hb6⟩
      have b6 : Below w.heap.size w w6 := (Below.drew b5).trans (hb6.mono (Below.drew b5).size)
      have k6 : Below w5.heap.size w5 w6 := Below.drewed (by simpa using hb6)
      have g6 := (k6.cell (p := ⟨w.heap.size, 0, none⟩) hl5).trans g5
      have hB6 := hB5.later k6
      have hl6 : w.heap.size < w6.heap.size := World.block_lt_of_cell? _ _ g6
      go_wp2_with fail
      refine hK.out _ _ ⟨g6, hB6⟩ (fun hHeld => ?_)
      clear hK K
      try simp only [Act.put, List.setIfInBounds_toArray, List.set_cons_zero, List.set_cons_succ]
      refine take_atL (i := 3) (d := some 18) (v := .bool (!decide (TA = PB))) rfl rfl (by kernel_rfl) (by kernel_rfl) (by kernel_rfl) (fun _ _ _ h => h) (by rfl) ?_ hHeld ?_
      · intro w' hSw; exact exec_neqB rfl rfl rfl guard_flags (eq_flags27 hAl hPl)
      try simp only [Act.put, List.setIfInBounds_toArray, List.set_cons_zero, List.set_cons_succ]
      refine take_atL (i := 4) (d := some 14) (v := .bool (!decide (TA = PB))) rfl rfl (by kernel_rfl) (by kernel_rfl) (by kernel_rfl) (fun _ _ _ h => h) (by rfl) ?_ hHeld ?_
      · intro w' hSw; go_simp; try rfl
      try simp only [Act.put, List.setIfInBounds_toArray, List.set_cons_zero, List.set_cons_succ]
      refine wpAnyH_done (by kernel_rfl) ?_ _
      clear hHeld
      by_cases hA : TA = PB
      · have dA : decide (TA = PB) = true := decide_eq_true hA
        have HF3 : Hid (rv = if decide (TR = PB) then .nilIface else errV e3) := by show _ = _; rw [HF2.out, if_pos dA]
        rw [dA]
        clear HF2 dA hA
        go_wp2_with fail
        refine wp_region_held_drew (S := fun X => X.cell? ⟨w.heap.size, 0, none⟩ = some (.slice a0 P.length c0) ∧ Bits X nA 134 PB) (by kernel_rfl) ⟨by rw [World.cell?_drew]; exact g6, hB6.later (Below.drew (Below.refl _ _))⟩ (fun hHeld => ?_)
        refine take_atL (i := 0) (d := some 21) (v := .agg #[.slice a0 P.length c0]) rfl rfl (by kernel_rfl) (by kernel_rfl) (by kernel_rfl) (fun _ _ _ h => h) (by rfl) ?_ hHeld ?_
        · intro w' hSw; obtain ⟨s0, _⟩ := hSw; go_simp; try rfl
        try simp only [Act.put, List.setIfInBounds_toArray, List.set_cons_zero, List.set_cons_succ]
        refine take_atL (i := 2) (d := some 23) (v := aggB PB) rfl rfl (by kernel_rfl) (by kernel_rfl) (by kernel_rfl) (fun _ _ _ h => h) (by rfl) ?_ hHeld ?_
        · intro w' hSw; exact exec_loadW (t := 134) (b := nA) rfl rfl (at27 hPl) hSw.2
        try simp only [Act.put, List.setIfInBounds_toArray, List.set_cons_zero, List.set_cons_succ]
        refine wpAnyH_ready (rs := [1]) (by kernel_rfl) (by simp) ?_
        refine AllReadyH.cons (o := _) rfl (fun K hK => ?_) AllReadyH.nil
        rw [if_pos (by rfl)]
        go_simp
        refine (HRE2.out _ (Below.drew b6)).mono ?_
        rintro e w7 ⟨rfl, hb7⟩
        have b7 : Below w.heap.size w w7 := (Below.drew b6).trans (hb7.mono (Below.drew b6).size)
        have k7 : Below w6.heap.size w6 w7 := Below.drewed (by simpa using hb7)
        have g7 := (k7.cell (p := ⟨w.heap.size, 0, none⟩) hl6).trans g6
        have hB7 := hB6.later k7
        have hl7 : w.heap.size < w7.heap.size := World.block_lt_of_cell? _ _ g7
        go_wp2_with fail
        refine hK.out _ _ ⟨g7, hB7⟩ (fun hHeld => ?_)
        clear hK K
        try simp only [Act.put, List.setIfInBounds_toArray, List.set_cons_zero, List.set_cons_succ]
        refine take_atL (i := 3) (d := some 24) (v := .bool (!decide (TR = PB))) rfl rfl (by kernel_rfl) (by kernel_rfl) (by kernel_rfl) (fun _ _ _ h => h) (by rfl) ?_ hHeld ?_
        · intro w' hSw; exact exec_neqB rfl rfl rfl guard_flags (eq_flags27 hRl hPl)
        try simp only [Act.put, List.setIfInBounds_toArray, List.set_cons_zero, List.set_cons_succ]
        refine take_atL (i := 4) (d := some 20) (v := .bool (!decide (TR = PB))) rfl rfl (by kernel_rfl) (by kernel_rfl) (by kernel_rfl) (fun _ _ _ h => h) (by rfl) ?_ hHeld ?_
        · intro w' hSw; go_simp; try rfl
        try simp only [Act.put, List.setIfInBounds_toArray, List.set_cons_zero, List.set_cons_succ]
        refine wpAnyH_done (by kernel_rfl) ?_ _
        clear hHeld
        by_cases hR : TR = PB
        · have dR : decide (TR = PB) = true := decide_eq_true hR
          have HF4 : Hid (rv = .nilIface) := by show _ = _; rw [HF3.out, if_pos dR]
          rw [dR]
          clear HF3 dR hR
          go_wp2
          go_ret
          exact ⟨by rw [HF4.out]; rfl, b7⟩
        · have dR : decide (TR = PB) = false := decide_eq_false hR
          have HF4 : Hid (rv = errV e3) := by show _ = _; rw [HF3.out, if_neg (by rw [dR]; simp)]
          rw [dR]
          have q := (HEE.out w7 b7).g3
          clear HF3 dR hR HEE
          go_wp2
          go_ret
          exact ⟨by rw [HF4.out]; rfl, b7⟩
      · have dA : decide (TA = PB) = false := decide_eq_false hA
        have HF3 : Hid (rv = errV e2) := by show _ = _; rw [HF2.out, if_neg (by rw [dA]; simp)]
        rw [dA]
        have q := (HEE.out w6 b6).g2
        clear HF2 dA hA HEE
        go_wp2
        go_ret
        exact ⟨by rw [HF3.out]; rfl, b6⟩
    · have HF2 : Hid (rv = errV e1) := HF.out
      have q := (HEE.out w5 b5).g1
      clear HF HEE
      go_wp2
      go_ret
      exact ⟨by rw [HF2.out]; rfl, b5⟩

set_option maxRecDepth 100000 in
theorem codeOf_ref {w : World} {e0 e1 e2 e3 : Addr} (E : Errs w e0 e1 e2 e3) (x : Gm) (hok : gramOkB x.parts = true → x.parts.length ≤ 20) :
    Calls Tryd.prog 80 #[refV e0 e1 e2 e3 x.parts] w fun e w' => e = .returned (.int .i64 (resCheck x)) ∧ w' = w := by
  unfold refV resCheck
  by_cases h1 : gramOkB x.parts = true
  · rw [if_pos h1, if_pos h1]
    have F := Fits.of h1
    have hp := hok h1
    have h0 : 0 < x.parts.length := by
      simp only [gramOkB, Bool.and_eq_true] at h1
      have := inB_true.1 h1.1
      omega
    by_cases h2 : loopB (startsL x.parts) = true
    · rw [if_pos h2, if_pos h2]; exact codeOf_loop E
    · rw [if_neg h2, if_neg h2]
      have hA : flagsOf (aliveL x.parts) = parB x.parts.length ↔ ¬ (aliveL x.parts).length < x.parts.length := flags_all hp (growT_sorted (p := aliveE) x.parts (x.parts.length + 1)) (growT_setB (p := aliveE) x.parts (x.parts.length + 1))
      have hR : flagsOf (reachL x.parts) = parB x.parts.length ↔ ¬ (reachL x.parts).length < x.parts.length := flags_all hp (reachT_sorted x.parts (x.parts.length + 1)) (reachT_setB (SymsIn.of h1) h0 (x.parts.length + 1))
      by_cases h3 : flagsOf (aliveL x.parts) = parB x.parts.length
      · rw [if_pos (decide_eq_true h3), if_neg (hA.1 h3)]
        by_cases h4 : flagsOf (reachL x.parts) = parB x.parts.length
        · rw [if_pos (decide_eq_true h4), if_neg (hR.1 h4)]; exact codeOf_nil E
        · rw [if_neg (by simpa using h4), if_pos (Decidable.not_not.1 (fun h => h4 (hR.2 h)))]; exact codeOf_far E
      · rw [if_neg (by simpa using h3), if_pos (Decidable.not_not.1 (fun h => h3 (hA.2 h)))]; exact codeOf_dead E
  · rw [if_neg h1, if_neg h1]; exact codeOf_bad E
set_option maxRecDepth 100000 in
theorem check_at (x : Gm) (a0 : Option Addr) (c0 : Nat) (e0 e1 e2 e3 : Addr) (w : World) (h0 : RD w (.slice a0 x.parts.length c0) (slD (Lay.list (Lay.list Lay.int)) x.parts)) (hn : Lay.gram.wt x ≤ 1048576) (hf : Lay.gram.fit x) (hE : Errs w e0 e1 e2 e3) :
    Calls Tryd.prog 60 #[.agg #[.slice a0 x.parts.length c0]] w fun e w' => e = .returned (.int .i64 (resCheck x)) ∧ Below w.heap.size w w' := by
  have B0 := (Below.refl w.heap.size w).alloc (Nat.le_refl _) (.cells #[.slice a0 x.parts.length c0] 28)
  have HRF : Hid (∀ W : World, Below w.heap.size w W → Calls Tryd.prog 81 #[.agg #[.slice a0 x.parts.length c0]] W fun e w' => e = .returned (refV e0 e1 e2 e3 x.parts) ∧ Below W.heap.size W w') := fun W hW => refusalOf_any x a0 c0 e0 e1 e2 e3 W (h0.later hW) hn hf (hE.later hW)
  have HCO : Hid (∀ W : World, Below w.heap.size w W → Calls Tryd.prog 80 #[refV e0 e1 e2 e3 x.parts] W fun e w' => e = .returned (.int .i64 (resCheck x)) ∧ w' = W) := fun W hW => codeOf_ref (hE.later hW) x (fun h => (Fits.of h).parts)
  clear h0 hn hf hE
  generalize refV e0 e1 e2 e3 x.parts = rv at *
  obtain ⟨rc, Hrc⟩ : ∃ rc, Hid (resCheck x = rc) := ⟨_, rfl⟩
  rw [Hrc.out] at HCO ⊢
  clear Hrc
  generalize x.parts.length = n at *
  go_enter Tryd.func60, Tryd.ntmps60
  go_wp2_with fail
  refine (HRF.out _ B0).mono ?_
  rintro e w1 ⟨rfl, hb1⟩
  have B1 := B0.trans (hb1.mono B0.size)
  clear HRF hb1 B0
  go_wp2_with fail
  refine (HCO.out _ B1).mono ?_
  rintro e w' ⟨rfl, hw'⟩
  have hw2 := hw'.symm
  clear hw'
  subst hw2
  go_wp2
  go_ret
  exact ⟨rfl, B1⟩
end Go.Proofs.YthnppodnjokaoaaDoor
namespace Go.Proofs.YthnppodnjokaoaaDoor
open Go.RowKit

/-- The four variables hold four errors. -/
def ErrsIs (w : World) : Prop := ∃ e0 e1 e2 e3, Errs w e0 e1 e2 e3
theorem ErrsIs.later {w w' : World} (h : ErrsIs w) (hb : Below w.heap.size w w') : ErrsIs w' := by
  obtain ⟨e0, e1, e2, e3, h⟩ := h
  exact ⟨e0, e1, e2, e3, h.later hb⟩
theorem check_any (x : Gm) (a0 : Option Addr) (c0 : Nat) (w : World) (h0 : RD w (.slice a0 x.parts.length c0) (slD (Lay.list (Lay.list Lay.int)) x.parts)) (hn : Lay.gram.wt x ≤ 1048576) (hf : Lay.gram.fit x) (hE : ErrsIs w) :
    Calls Tryd.prog 60 #[.agg #[.slice a0 x.parts.length c0]] w fun e w' => e = .returned (.int .i64 (resCheck x)) ∧ Below w.heap.size w w' := by
  obtain ⟨e0, e1, e2, e3, h⟩ := hE
  exact check_at x a0 c0 e0 e1 e2 e3 w h0 hn hf h
theorem err_star : "*" ++ "errors.errorString" = "*errors.errorString" := by decide
theorem err_row (u : TypeId) (h : Tryd.prog.typeName? 3 u = some "*errors.errorString") : u = 171 :=
  typeName_ptr_named (nm := "errors.errorString") (by rw [err_star]; kernel_rfl) (by kernel_rfl) (by decide) u (by rw [err_star]; exact h)
theorem laid4 {P : Program} {n0 n1 n2 n3 nm : String} {x0 x1 x2 x3 : List UInt8} {W : World} {g0 g1 g2 g3 : Nat} {ti tp te ts : TypeId} {ms : Array (String × TypeId)} {f : Field}
    (h : laidMet P [(n0, .iface nm (.ptr (.agg [.lit (.string x0)]))), (n1, .iface nm (.ptr (.agg [.lit (.string x1)]))), (n2, .iface nm (.ptr (.agg [.lit (.string x2)]))), (n3, .iface nm (.ptr (.agg [.lit (.string x3)])))] W)
    (hg0 : P.globalNamed n0 = some g0) (ht0 : (P.globals[g0]?).map (·.type) = some ti) (hg1 : P.globalNamed n1 = some g1) (ht1 : (P.globals[g1]?).map (·.type) = some ti) (hg2 : P.globalNamed n2 = some g2) (ht2 : (P.globals[g2]?).map (·.type) = some ti) (hg3 : P.globalNamed n3 = some g3) (ht3 : (P.globals[g3]?).map (·.type) = some ti)
    (hi : P.underlying ti = some (.interface ms)) (hrow : ∀ u, P.typeName? 3 u = some nm → u = tp)
    (hp : P.underlying tp = some (.pointer te)) (he : P.underlying te = some (.struct #[f])) (hft : f.type = ts) (hfo : f.offset = 0) (hs : P.underlying ts = some .string) (hc : P.cellsOf te = 1) (hcs : P.cellsOf ts = 1) :
    ∃ a0 a1 a2 a3 : Addr, (W.cell? ⟨g0, 0, none⟩ = some (.iface tp (.pointer (some a0))) ∧ W.cell? ⟨g1, 0, none⟩ = some (.iface tp (.pointer (some a1))) ∧ W.cell? ⟨g2, 0, none⟩ = some (.iface tp (.pointer (some a2))) ∧ W.cell? ⟨g3, 0, none⟩ = some (.iface tp (.pointer (some a3)))) ∧
      ((∃ c t, W.heap[a0.block]? = some (.cells c t (0, 0))) ∧ (∃ c t, W.heap[a1.block]? = some (.cells c t (0, 0))) ∧ (∃ c t, W.heap[a2.block]? = some (.cells c t (0, 0))) ∧ (∃ c t, W.heap[a3.block]? = some (.cells c t (0, 0)))) ∧
      (a0 ≠ a1 ∧ a0 ≠ a2 ∧ a0 ≠ a3 ∧ a1 ≠ a2 ∧ a1 ≠ a3 ∧ a2 ≠ a3) := by
  obtain ⟨ps, ⟨g0', t0', cs0, f0, p0, q0, hg0', ht0', hv0, hd0, ⟨g1', t1', cs1, f1, p1, q1, hg1', ht1', hv1, hd1, ⟨g2', t2', cs2, f2, p2, q2, hg2', ht2', hv2, hd2, ⟨g3', t3', cs3, f3, p3, q3, hg3', ht3', hv3, hd3, eq, e3⟩, e2⟩, e1⟩, e0⟩, hnd, hrows⟩ := h
  obtain rfl := Option.some.inj (hg0.symm.trans hg0')
  obtain rfl := Option.some.inj (hg1.symm.trans hg1')
  obtain rfl := Option.some.inj (hg2.symm.trans hg2')
  obtain rfl := Option.some.inj (hg3.symm.trans hg3')
  obtain rfl := Option.some.inj (ht0.symm.trans ht0')
  obtain rfl := Option.some.inj (ht1.symm.trans ht1')
  obtain rfl := Option.some.inj (ht2.symm.trans ht2')
  obtain rfl := Option.some.inj (ht3.symm.trans ht3')
  subst e3
  subst e2
  subst e1
  subst e0
  obtain ⟨l0⟩ := cs0
  obtain ⟨l1⟩ := cs1
  obtain ⟨l2⟩ := cs2
  obtain ⟨l3⟩ := cs3
  have ok0 : ∀ u v, l0 = [.iface u v] → Value.okWide P W .any 0 u v := fun u v e => by
    subst e
    exact (hrows g0 0 (by simp [MemPlace.row])).2 u v (by simpa using World.var?_cell hg0' hv0 0)
  have ok1 : ∀ u v, l1 = [.iface u v] → Value.okWide P W .any 0 u v := fun u v e => by
    subst e
    exact (hrows g1 0 (by simp [MemPlace.row])).2 u v (by simpa using World.var?_cell hg1' hv1 0)
  have ok2 : ∀ u v, l2 = [.iface u v] → Value.okWide P W .any 0 u v := fun u v e => by
    subst e
    exact (hrows g2 0 (by simp [MemPlace.row])).2 u v (by simpa using World.var?_cell hg2' hv2 0)
  have ok3 : ∀ u v, l3 = [.iface u v] → Value.okWide P W .any 0 u v := fun u v e => by
    subst e
    exact (hrows g3 0 (by simp [MemPlace.row])).2 u v (by simpa using World.var?_cell hg3' hv3 0)
  obtain ⟨a0, s0, rfl, hc0, hs0, hz0, rfl⟩ := errorString_of_trod hi hrow hp he hft hfo hs hc hcs hd0 ok0
  obtain ⟨a1, s1, rfl, hc1, hs1, hz1, rfl⟩ := errorString_of_trod hi hrow hp he hft hfo hs hc hcs hd1 ok1
  obtain ⟨a2, s2, rfl, hc2, hs2, hz2, rfl⟩ := errorString_of_trod hi hrow hp he hft hfo hs hc hcs hd2 ok2
  obtain ⟨a3, s3, rfl, hc3, hs3, hz3, rfl⟩ := errorString_of_trod hi hrow hp he hft hfo hs hc hcs hd3 ok3
  refine ⟨a0, a1, a2, a3, ⟨by simpa using World.var?_cell hg0' hv0 0, by simpa using World.var?_cell hg1' hv1 0, by simpa using World.var?_cell hg2' hv2 0, by simpa using World.var?_cell hg3' hv3 0⟩,
    ⟨(hrows a0.block a0.off (by simp [MemPlace.row])).1, (hrows a1.block a1.off (by simp [MemPlace.row])).1, (hrows a2.block a2.off (by simp [MemPlace.row])).1, (hrows a3.block a3.off (by simp [MemPlace.row])).1⟩, ?_, ?_, ?_, ?_, ?_, ?_⟩
  all_goals
    rintro rfl
    simp [MemPlace.row] at hnd
theorem errs_laid {W : World} (h : laidMet Tryd.prog Rows.fnExactSureRow.laid W) : ErrsIs W := by
  obtain ⟨a0, a1, a2, a3, ⟨c0, c1, c2, c3⟩, ⟨r0, r1, r2, r3⟩, n01, n02, n03, n12, n13, n23⟩ := laid4 h (ti := 108) (tp := 171) (te := 197) (ts := 9) (g0 := 0) (g1 := 1) (g2 := 2) (g3 := 3) (by kernel_rfl) (by kernel_rfl) (by kernel_rfl) (by kernel_rfl) (by kernel_rfl) (by kernel_rfl) (by kernel_rfl) (by kernel_rfl) Tryd.underlying108 err_row Tryd.underlying171 Tryd.underlying197 rfl rfl Tryd.underlying9 (by kernel_rfl) (by kernel_rfl)
  exact ⟨a0, a1, a2, a3, c0, c1, c2, c3, r0, r1, r2, r3, n01, n02, n03, n12, n13, n23⟩
end Go.Proofs.YthnppodnjokaoaaDoor
