/-
  Contracts of impl.isThere, impl.startsOf and impl.Starts over this translation. No statement is proved here.
-/
import Derived.Test.YtdniejpblhbjkabStartsUp
import Derived.Test.YtdniejpblhbjkabLeastS
import Derived.Test.YtdniejpblhbjkabSpecStarts
namespace Go.Proofs.Ytdniejpblhbjkab
open Go.RowKit

theorem some_ne {a b : Nat} (h : a ≠ b) : some a ≠ some b := fun e => h (Option.some.inj e)
theorem exec_build0 {P : Program} {ρ : Operand → Value} {o : Oper} {w : World} {ty e : TypeId} {n m q : Nat} (ho : o.op = .build ty #[]) (hT : BitT P ty n) (hu : P.underlying ty = some (.array m e)) (hz : (P.info? e).map (·.size) = some q) :
    (execOp ρ o).run P w = .ok (.value (aggB (List.replicate n false))) w := by
  have hs : (sizeOf e).run P w = .ok q w := by
    cases hq : P.info? e with
    | none => simp [hq] at hz
    | some j => simp [hq] at hz; simp [sizeOf, typeInfo, hq, hz]
  unfold execOp
  simp only [ho, Instr.build, Sem.run_bind, hT.zero, Result.andThen_ok, run_underlying hu, hs, List.map_toArray, List.map_nil, Instr.fill, Value.cells]
  rw [aggB, cellsB_rep]
  rfl
theorem wpList_build0 {P : Program} {ops : Array Oper} {rest : List Oper} {o : Oper} {a : Act} {w : World} {Q : Exit → Act → World → Prop} (hgd : Region.wanted o (yielded ops a.tmps) = true) (ty e : TypeId) (n m q : Nat) (ho : o.op = .build ty #[]) (hT : BitT P ty n) (hu : P.underlying ty = some (.array m e)) (hz : (P.info? e).map (·.size) = some q)
    (h : wpList P ops Q rest (a.put o.dst (aggB (List.replicate n false))) w) : wpList P ops Q (o :: rest) a w :=
  wpList_val hgd (exec_build0 ho hT hu hz) h
theorem u_table : Try.prog.underlying 50 = some (.array 20 47) := by kernel_rfl

set_option maxRecDepth 100000 in
theorem isThere_any (x : Gm) (a0 : Option Addr) (c0 : Nat) (n : Int) (w : World) (h0 : RD w (.slice a0 x.parts.length c0) (slD (Lay.list (Lay.list Lay.int)) x.parts)) (hn : Lay.gram.wt x ≤ 1048576) (hf : Lay.gram.fit x) (_ : (Lit.int .i64 n).wf = true) :
    Calls Try.prog 40 #[.agg #[.slice a0 x.parts.length c0], .int .i64 n] w fun e w' => e = .returned (.bool (gramOkB x.parts && inB n 0 (x.parts.length - 1))) ∧ Below w.heap.size w w' := by
  have B0 := (Below.refl w.heap.size w).alloc (Nat.le_refl _) (.cells #[.slice a0 x.parts.length c0] 28)
  have HOK : Hid (∀ W : World, Below w.heap.size w W → Calls Try.prog 32 #[.agg #[.slice a0 x.parts.length c0]] W fun e w' => e = .returned (.bool (gramOkB x.parts)) ∧ Below W.heap.size W w') := fun W hW => gramOk_any x a0 c0 W (h0.later hW) hn hf
  have hpl : gramOkB x.parts = true → x.parts.length ≤ 20 := fun h => (Fits.of h).parts
  clear h0 hn hf
  generalize x.parts = P at *
  by_cases hok : gramOkB P = true
  · have hp := hpl hok
    clear hpl
    rw [hok] at HOK ⊢
    rw [Bool.true_and]
    clear hok
    by_cases h1 : 0 ≤ n
    · by_cases h2 : n < (P.length : Int)
      · have e : inB n 0 ((P.length : Int) - 1) = true := inB_true.2 (by omega)
        rw [e]
        clear e
        go_enter Try.func40, Try.ntmps40
        go_wp2_with (go_at_call 32; refine (HOK.out _ B0).mono ?_; rintro e w1 ⟨rfl, hb1⟩; have g0 : w1.cell? ⟨w.heap.size, 0, none⟩ = some (.slice a0 P.length c0) := (hb1.cell (p := ⟨w.heap.size, 0, none⟩) (by simp)).trans (by simp))
        go_ret
        exact ⟨rfl, B0.trans (hb1.mono B0.size)⟩
      · have e : inB n 0 ((P.length : Int) - 1) = false := inB_false.2 (by omega)
        rw [e]
        clear e
        go_enter Try.func40, Try.ntmps40
        go_wp2_with (go_at_call 32; refine (HOK.out _ B0).mono ?_; rintro e w1 ⟨rfl, hb1⟩; have g0 : w1.cell? ⟨w.heap.size, 0, none⟩ = some (.slice a0 P.length c0) := (hb1.cell (p := ⟨w.heap.size, 0, none⟩) (by simp)).trans (by simp))
        go_ret
        exact ⟨ret_bool (by simp; omega), B0.trans (hb1.mono B0.size)⟩
    · have e : inB n 0 ((P.length : Int) - 1) = false := inB_false.2 (by omega)
      rw [e]
      clear e
      go_enter Try.func40, Try.ntmps40
      go_wp2_with (go_at_call 32; refine (HOK.out _ B0).mono ?_; rintro e w1 ⟨rfl, hb1⟩)
      go_ret
      exact ⟨rfl, B0.trans (hb1.mono B0.size)⟩
  · have hok2 : gramOkB P = false := by simpa using hok
    rw [hok2] at HOK ⊢
    rw [Bool.false_and]
    clear hok hok2 hpl
    go_enter Try.func40, Try.ntmps40
    go_wp2_with (go_at_call 32; refine (HOK.out _ B0).mono ?_; rintro e w1 ⟨rfl, hb1⟩)
    go_ret
    exact ⟨rfl, B0.trans (hb1.mono B0.size)⟩

set_option maxHeartbeats 2000000 in
set_option maxRecDepth 100000 in
theorem startsOf_any (P : List (List (List Int))) (a0 : Option Addr) (c0 : Nat) (w : World) (h0 : RD w (.slice a0 P.length c0) (slD (Lay.list (Lay.list Lay.int)) P)) (hok : gramOkB P = true) :
    Calls Try.prog 43 #[.agg #[.slice a0 P.length c0]] w fun e w' => ∃ T, e = .returned (aggB T) ∧ T.length = 540 ∧ Hid (∀ k, k < P.length → numsB (fun c => T.getD (k * 27 + c) false) 27 = (startsL P).getD k []) ∧ Below w.heap.size w w' := by
  have hfl := flagsOf_length (emptiesL P)
  have HIS : Hid (∀ T : List Bool, T.length = 540 → Grows (stR (flagsOf (emptiesL P))) P (List.replicate 540 false) T → leK (stR (flagsOf (emptiesL P))) P T P.length = T → ∀ k, k < P.length → numsB (fun c => T.getD (k * 27 + c) false) 27 = (startsL P).getD k []) := fun T h1 h2 h3 k hk => startsOf_is hok h1 h2 h3 hk
  have HE : Hid (∀ W : World, Below w.heap.size w W → Calls Try.prog 54 #[.agg #[.slice a0 P.length c0]] W fun e w' => e = .returned (aggB (flagsOf (emptiesL P))) ∧ Below W.heap.size W w') := fun W hW => emptiesOf_any P a0 c0 W (h0.later hW) hok
  have HRZ : Hid (Raises (stR (flagsOf (emptiesL P))) P 540) := stR_raises _ _
  have HCL : Hid (∀ (W0 : World) (bE : Nat), Bits W0 bE 47 (flagsOf (emptiesL P)) → ∀ (W : World) (b : Nat) (T : List Bool) (k : Nat) (hk : k < P.length) (i : Nat) (hi : i < P[k].length) (a : Option Addr) (c : Nat), Below W0.heap.size W0 W → W0.heap.size ≤ b → Bits W b 50 T → T.length = 540 → RD W0 (.slice a P[k][i].length c) (slD Lay.int P[k][i]) →
      Calls Try.prog 62 #[.pointer (some ⟨b, 0, none⟩), .int .i64 (k : Int), .slice a P[k][i].length c, .pointer (some ⟨bE, 0, none⟩)] W fun e w' => e = .returned (.tuple #[]) ∧ Bits w' b 50 (stR (flagsOf (emptiesL P)) k P[k][i] T) ∧ W.grownBy w' (some b)) := by
    intro W0 bE hE W b T k hk i hi a c hW hb hB hT hr
    have hp := (Fits.of hok).parts
    have hl8 := (Fits.of hok).rows _ (List.getElem_mem hk) _ (List.getElem_mem hi)
    have hlt := hE.lt
    exact startsStep_any b bE 47 T (flagsOf (emptiesL P)) k P[k][i] a c W hB hT (hE.later hW) (by rw [flagsOf_length]; decide) (by omega) (by omega) W0 hr.reads hW hb (fun z hz => by have := symsOk hok hk hi z hz; omega) (by omega)
  have HOK : Hid (gramOkB P = true) := hok
  have HR0 : Hid (RD w (.slice a0 P.length c0) (slD (Lay.list (Lay.list Lay.int)) P)) := h0
  have B0 := (Below.refl w.heap.size w).alloc (Nat.le_refl _) (.cells #[.slice a0 P.length c0] 28)
  have hsb : (w.alloc (.cells #[.slice a0 P.length c0] 28)).heap.size = w.heap.size + 1 := by simp
  have HQ0 : Hid ((w.alloc (.cells #[.slice a0 P.length c0] 28)).cell? ⟨w.heap.size, 0, none⟩ = some (.slice a0 P.length c0)) := by show _ = _; simp
  clear h0 hok
  generalize flagsOf (emptiesL P) = E at *
  go_enter Try.func43, Try.ntmps43
  go_wp2_with (refine wpList_allocB (w := w.alloc _) rfl 50 rfl 540 bt_table ?_; rw [hsb]; intro w1 hB1 hb1 hs1; have g1 := (hb1.cell (p := ⟨w.heap.size, 0, none⟩) (by simp)).trans HQ0.out)
  have b1 : Below w.heap.size w w1 := B0.trans (hb1.mono (by omega))
  refine (HE.out _ b1).mono ?_
  rintro e w2 ⟨rfl, hb2⟩
  have g2 := (hb2.cell (p := ⟨w.heap.size, 0, none⟩) (by simp; omega)).trans g1
  have b2 := b1.trans (hb2.mono b1.size)
  have hB2 := hB1.later hb2
  have hnr := hB2.lt
  clear HE HQ0 hB1 hb1 g1 B0 hb2 b1
  go_wp2_with (first | (refine wpList_allocB (w := w2) rfl 47 rfl 27 bt_flags ?_; intro w3 hB3 hb3 hs3) | (refine wpList_storeB (w := w3) rfl 47 _ _ rfl w2.heap.size 0 47 _ E rfl rfl (at27 hfl) hB3 (by simp [hfl]) ?_; intro w4 hB4 hg4; have g4 : w4.cell? ⟨w.heap.size, 0, none⟩ = some (.slice a0 P.length c0) := (World.cell?_of_block (w := w3) (a := ⟨w.heap.size, 0, none⟩) (hg4.block w.heap.size (by omega) (some_ne (by omega)))).trans ((hb3.cell (p := ⟨w.heap.size, 0, none⟩) (by simp; omega)).trans g2)) | (refine wpList_build0 rfl 50 47 540 20 27 rfl bt_table u_table bt_flags.size ?_))
  have e4 : putB (List.replicate 27 false) 0 E = E := putB_whole (by simp [hfl])
  rw [e4] at hB4
  have b4 : Below w.heap.size w w4 := (b2.trans (hb3.mono b2.size)).grown hg4 (by have := b2.size; omega) (fun j hj => by cases hj; exact b2.size)
  have hBR : Bits w4 (w.heap.size + 1) 50 (List.replicate 540 false) := (hB2.later hb3).grown hg4 (some_ne (by omega))
  refine (least_S (stR E) (.pointer (some ⟨w2.heap.size, 0, none⟩)) P a0 c0 (List.replicate 540 false) w4 (HR0.out.later b4) HOK.out List.length_replicate HRZ.out (fun W b T k hk i hi a c h1 h2 h3 h4 h5 => HCL.out w4 w2.heap.size hB4 W b T k hk i hi a c h1 h2 h3 h4 h5)).mono ?_
  rintro e w5 ⟨T, rfl, hTl, hG, hfx, hb5⟩
  have HI : Hid (∀ k, k < P.length → numsB (fun c => T.getD (k * 27 + c) false) 27 = (startsL P).getD k []) := HIS.out T hTl hG hfx
  have b5 := b4.trans (hb5.mono b4.size)
  have hB5 := hBR.later hb5
  clear hG hfx hb5 hBR hB4 hg4 hb3 hs3 hB3 hB2 b2 b4 HIS HCL HRZ HR0 HOK g4 e4
  go_wp2_with (refine wpList_storeB (w := w5) rfl 50 _ _ rfl (w.heap.size + 1) 0 50 _ T rfl rfl (at540S hTl) hB5 (by rw [List.length_replicate, hTl]; decide) ?_; intro w6 hB6 hg6)
  have e6 : putB (List.replicate 540 false) 0 T = T := putB_whole (by rw [List.length_replicate]; exact hTl)
  rw [e6] at hB6
  have b6 : Below w.heap.size w w6 := b5.grown hg6 b5.size (fun j hj => by cases hj; omega)
  refine bodyPost_ret (v := aggB T) (ret_cell 50 rfl rfl hB6 (at540S hTl)) rfl ⟨T, rfl, hTl, HI, b6⟩
end Go.Proofs.Ytdniejpblhbjkab
