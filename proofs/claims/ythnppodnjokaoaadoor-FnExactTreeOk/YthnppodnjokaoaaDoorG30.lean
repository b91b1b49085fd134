/-
  Contracts and plain mathematics, joined: LeavesAre. No statement is proved here.
-/
import Derived.Test.YthnppodnjokaoaaDoorG13
import Derived.Test.YthnppodnjokaoaaDoorG29
import Derived.Test.YthnppodnjokaoaaDoorG6
namespace Go.Proofs.YthnppodnjokaoaaDoor
open Go.RowKit Go.Shelf

attribute [local go_sem] Oper.semAt_some wide_fn wide_fn_in wide_depth wide_depth_in

def ndsOf (pre : List Lf) : List Nd := pre.map (fun y => y.1)
theorem ndsOf_length (pre : List Lf) : (ndsOf pre).length = pre.length := by simp [ndsOf]
theorem leavesOf_pos (ns : List Nd) (w : World) (a : Option Addr) : ndsOf (leavesOf ns w a) = (leafPos ns 0).map (fun z => ndAt ns z.toNat) := by
  unfold ndsOf leavesOf leafPos
  rw [List.map_filterMap, List.map_filterMap]
  congr 1
  funext v
  unfold leafOf isLf
  split <;> simp

theorem leafRight_iff {ns : List Nd} {ws : List Int} {M : List Nd} (hM : M = (leafPos ns 0).map (fun z => ndAt ns z.toNat)) : leafRight ns ws = true ↔ M.length = ws.length ∧ ∀ i (h : i < M.length), M[i].pl = i ∧ M[i].sym = ws.getD i 0 := by
  subst hM
  simp only [leafRight, Bool.and_eq_true, decide_eq_true_eq, List.all_eq_true, List.mem_range, List.length_map, leafOk]
  refine and_congr_right (fun hl => ⟨fun h i hi => ?_, fun h i hi => ?_⟩)
  · have hi2 : i < (leafPos ns 0).length := by simpa using hi
    have := h i (by omega)
    rw [List.getD_eq_getElem?_getD, List.getElem?_eq_getElem hi2, Option.getD_some] at this
    simpa using this
  · have hi2 : i < (leafPos ns 0).length := by omega
    have := h i (by simpa using hi2)
    rw [List.getD_eq_getElem?_getD, List.getElem?_eq_getElem hi2, Option.getD_some]
    simpa using this
set_option maxRecDepth 100000 in
theorem results_cell {fn : Func} {t : Tmp} {tmps : Array Value} {p : Addr} {v : Value} {w : World} (h : fn.results = #[.cell t 4]) (hp : tmps.getD t undef = .pointer (some p)) (hc : w.cell? p = some v) : (results fn tmps).run Tryd.prog w = .ok v w := by
  have hi := Tryd.underlying4
  have hp2 : tmps[t]?.getD undef = .pointer (some p) := by rw [← hp]; simp [Array.getD_eq_getD_getElem?]
  have ha : (isAgg 4).run Tryd.prog w = .ok false w := by simp [isAgg, run_underlying hi]
  simp [results, h, hp2, asAddr, loadVar, ha, hc]
theorem kept3_set {W : World} {B n c : Nat} {t : TypeId} {v u : Value} (h : Boxed W B t v) (hn : n ≤ B) (ht : ¬ lvTk t) : Kept3 n c lvTk W (W.setCell ⟨B, 0, none⟩ u) := by
  have hw : Within W (W.setCell ⟨B, 0, none⟩ u) (fun k => k = B) := by
    refine Within.setCell (Within.refl _ _) _ _ ?_
    rfl
  refine ⟨(Below.refl n W).setCell (p := ⟨B, 0, none⟩) hn _, fun k cur t2 q h2 hk => hw.same hk (fun e => ?_), hw.size, fun k o _ ho hc => hw.same ho (fun e => ?_)⟩
  · subst e
    rw [show W.heap[k]? = _ from h] at hk
    cases hk
    exact ht h2
  · subst e
    rw [show W.heap[k]? = _ from h] at ho
    cases ho
    cases hc

theorem kept3_setN {W : World} {B n c : Nat} {t : TypeId} {v u : Value} (nq : Nat) (h : Boxed W B t v) (hn : n ≤ B) (hw : n ≤ W.heap.size) (ht : ¬ lvTk t) : Kept3 n c lvTk W ((W.drewN nq).setCell ⟨B, 0, none⟩ u) :=
  (Kept3.of_below (below_drew nq) hw).trans (kept3_set (W := W.drewN nq) h hn ht)

set_option maxHeartbeats 400000 in
set_option maxRecDepth 100000 in
theorem leavesAre_any (ns : List Nd) (a0 : Option Addr) (c0 : Nat) (ws : List Int) (aw : Option Addr) (cw : Nat) (w : World) (h0 : RD w (.slice a0 ns.length c0) (slD Lay.node ns)) (h1 : Reads w aw ws) (hs : Shaped ns) (hlen : ns.length ≤ 1048576) (hsum : Lay.node.sumL ns ≤ 1048576) (hwl : ws.length ≤ 1048576) :
    Calls Tryd.prog 37 #[.agg #[.slice a0 ns.length c0], .slice aw ws.length cw] w fun e w' => e = .returned (.bool (leafRight ns ws)) ∧ Below w.heap.size w w' := by
  refine (callsIn_wide (n := 0)).1 (callsIn_of_wp_marks Tryd.func37 rfl trivial ?_ rfl)
  simp only [Tryd.ntmps37, List.size_toArray, List.length_cons, List.length_nil, Nat.reduceAdd, Nat.reduceSub, Array.replicate_succ, Array.replicate_zero, List.push_toArray, List.append_toArray, List.nil_append, List.cons_append]
  gi_wp2_with (gi_at_call 64; refine (callsIn_wide.2 (leaves_any _ _ _ _)).mono ?_; rintro e w' ⟨rfl, rfl⟩)
  obtain ⟨Wz, hWz⟩ : ∃ Wz, ((((w.alloc (.cells #[.slice a0 ns.length c0] 43)).alloc (.cells #[.slice aw ws.length cw] 25)).alloc (.cells #[.bool false] 4)).alloc (.cells #[.int .i64 0] 3)).alloc (.cells #[.slice a0 ns.length c0] 43) = Wz := ⟨_, rfl⟩
  rw [hWz]
  have bz : Below w.heap.size w Wz := by rw [← hWz]; exact (((((Below.refl _ _).alloc (Nat.le_refl _) _).alloc (by simp) _).alloc (by simp; omega) _).alloc (by simp; omega) _).alloc (by simp; omega) _
  have hz1 : w.heap.size + 5 ≤ Wz.heap.size := by rw [← hWz]; simp
  have e1 : (w.alloc (.cells #[.slice a0 ns.length c0] 43)).heap.size = w.heap.size + 1 := by simp
  have e2 : ((w.alloc (.cells #[.slice a0 ns.length c0] 43)).alloc (.cells #[.slice aw ws.length cw] 25)).heap.size = w.heap.size + 1 + 1 := by simp
  have e3 : (((w.alloc (.cells #[.slice a0 ns.length c0] 43)).alloc (.cells #[.slice aw ws.length cw] 25)).alloc (.cells #[.bool false] 4)).heap.size = w.heap.size + 1 + 1 + 1 := by simp
  have e4 : ((((w.alloc (.cells #[.slice a0 ns.length c0] 43)).alloc (.cells #[.slice aw ws.length cw] 25)).alloc (.cells #[.bool false] 4)).alloc (.cells #[.int .i64 0] 3)).heap.size = w.heap.size + 1 + 1 + 1 + 1 := by simp
  have hS0 : Boxed Wz (w.heap.size + 1) 25 (.slice aw ws.length cw) := by
    rw [← hWz, ← e1]
    exact (((Boxed.new _ _ _).alloc _).alloc _).alloc _
  have hR0 : Boxed Wz (w.heap.size + 1 + 1) 4 (.bool false) := by
    rw [← hWz, ← e2]
    exact ((Boxed.new _ _ _).alloc _).alloc _
  have hC0 : Boxed Wz (w.heap.size + 1 + 1 + 1) 3 (.int .i64 0) := by
    rw [← hWz, ← e3]
    exact (Boxed.new _ _ _).alloc _
  have ht0 : Wz.heap[w.heap.size + 1 + 1 + 1 + 1]? = some (.cells #[.slice a0 ns.length c0] 43) := by
    rw [← hWz, ← e4]
    exact heap_alloc_new _ _
  have hseq := leaves_seq ns hs hlen hsum w a0 c0 h0 Wz bz (w.heap.size + 1 + 1 + 1 + 1) ht0
  have HM := leafRight_iff (ws := ws) (leavesOf_pos ns w a0)
  obtain ⟨R, HR⟩ : ∃ R, leafRight ns ws = R := ⟨_, rfl⟩
  rw [HR] at HM
  have hlr : leafRight ns ws = R := HR
  have HNO : Hid (∀ (pre : List Lf) (y : Lf), pre ++ [y] <+: leavesOf ns w a0 → (pre.length = ws.length ∨ y.1.sym ≠ ws.getD pre.length 0 ∨ y.1.pl ≠ pre.length) → R = false) := fun pre y hp h => by
    cases R with
    | false => rfl
    | true =>
      obtain ⟨m1, m2⟩ := HM.1 rfl
      have hlt : pre.length < (leavesOf ns w a0).length := by have := hp.length_le; simp at this; omega
      obtain ⟨t, ht⟩ := hp
      have hy : (ndsOf (leavesOf ns w a0))[pre.length]'(by rw [ndsOf_length]; exact hlt) = y.1 := by
        simp [ndsOf, ← ht]
      have h2 := m2 pre.length (by rw [ndsOf_length]; exact hlt)
      rw [hy] at h2
      rw [ndsOf_length] at m1
      rcases h with h | h | h
      · omega
      · exact absurd h2.2 h
      · exact absurd h2.1 h
  have HYES : Hid ((leavesOf ns w a0).length = ws.length → (∀ i (h : i < (ndsOf (leavesOf ns w a0)).length), (ndsOf (leavesOf ns w a0))[i].pl = i ∧ (ndsOf (leavesOf ns w a0))[i].sym = ws.getD i 0) → R = true) := fun h1 h2 => HM.2 ⟨by rw [ndsOf_length]; exact h1, h2⟩
  have HSH : Hid ((leavesOf ns w a0).length ≠ ws.length → R = false) := fun h => by
    cases R with
    | false => rfl
    | true => exact absurd (by have := (HM.1 rfl).1; rw [ndsOf_length] at this; exact this) h
  clear hWz e1 e2 e3 e4 ht0 HM
  refine wpIn_rangeT (gf := 87) (lb := #[.pointer (some ⟨w.heap.size + 1 + 1 + 1 + 1, 0, none⟩)]) rfl (enters_of Tryd.func87 (by kernel_rfl) rfl) hseq (Below.refl _ _) (by omega) (fun _ => rfl)
    (fun pre W' => (Boxed W' (w.heap.size + 1) 25 (.slice aw ws.length cw) ∧ Boxed W' (w.heap.size + 1 + 1) 4 (.bool false) ∧ Boxed W' (w.heap.size + 1 + 1 + 1) 3 (.int .i64 (pre.length : Int))) ∧ (Below w.heap.size w W' ∧ Wz.heap.size ≤ W'.heap.size) ∧ (pre.length ≤ ws.length ∧ ∀ i (h : i < (ndsOf pre).length), (ndsOf pre)[i].pl = i ∧ (ndsOf pre)[i].sym = ws.getD i 0))
    (fun c _ W' => c = .ret ∧ R = false ∧ Boxed W' (w.heap.size + 1 + 1) 4 (.bool false) ∧ Below w.heap.size w W' ∧ Wz.heap.size ≤ W'.heap.size)
    ?hI ?hIx ⟨⟨hS0, hR0, hC0⟩, ⟨bz, Nat.le_refl _⟩, Nat.zero_le _, fun i h => by simp [ndsOf] at h⟩
    (fun x a' W' => ∃ Bv, W'.heap[Bv]? = some (.cells #[.int .i64 x.1.kind, .int .i64 x.1.sym, .int .i64 x.1.alt, .int .i64 x.1.pl, .slice x.2.1 x.1.kids.length x.2.2] 55) ∧ a' = { tmps := #[.agg #[.slice a0 ns.length c0], .slice aw ws.length cw, .pointer (some ⟨w.heap.size, 0, none⟩), .pointer (some ⟨w.heap.size + 1, 0, none⟩), .pointer (some ⟨w.heap.size + 1 + 1, 0, none⟩), .pointer (some ⟨w.heap.size + 1 + 1 + 1, 0, none⟩), .pointer (some ⟨Bv, 0, none⟩), .agg #[.slice a0 ns.length c0], .func (.func 87) #[] #[.pointer (some ⟨w.heap.size + 1 + 1 + 1 + 1, 0, none⟩)], .agg #[.int .i64 x.1.kind, .int .i64 x.1.sym, .int .i64 x.1.alt, .int .i64 x.1.pl, .slice x.2.1 x.1.kids.length x.2.2], undef, undef, undef, undef, undef, undef, undef, undef, undef, undef, undef, undef, undef, undef, undef, undef, undef, undef, undef, undef, undef, undef, undef, undef, undef], defers := [] }) ?hAx ?assign ?body ?done ?stop
  case hI =>
    rintro pre W' W'' ⟨⟨h2, h3, h4⟩, ⟨hb, hsz⟩, h5⟩ hw
    exact ⟨⟨hw.same h2 (fun hk => by have := hk.1; omega), hw.same h3 (fun hk => by have := hk.1; omega), hw.same h4 (fun hk => by have := hk.1; omega)⟩, ⟨hb.trans (within_below hw (by omega) (by omega)), Nat.le_trans hsz hw.size⟩, h5⟩
  case hIx =>
    rintro c pre W' W'' ⟨rfl, h2, h3, hb, hsz⟩ hw
    exact ⟨rfl, h2, hw.same h3 (fun hk => by have := hk.1; omega), hb.trans (within_below hw (by omega) (by omega)), Nat.le_trans hsz hw.size⟩
  case hAx =>
    rintro x a' W' l' r r' ⟨Bv, h1, h2⟩ hr
    exact ⟨Bv, (World.putObj_heap_other (fun e => by subst e; rw [h1] at hr; cases hr)).trans h1, h2⟩
  case assign =>
    intro l2 m pre x W' K2 hI hp hK2
    unfold ndEnc
    gi_wp2
    exact hK2 _ _ ((Below.refl _ _).alloc (Nat.le_refl _) _) ⟨W'.heap.size, heap_alloc_new W' _, rfl⟩
  case body =>
    rintro l2 m pre ⟨y, kv⟩ a' W' hl2 hl3 ⟨⟨hS, hRc, hC⟩, ⟨hb, hsz⟩, hpl, hal⟩ ⟨Bv, hbv, rfl⟩ hp
    have HN := HNO.out pre (y, kv) hp
    have hbl : Bv < W'.heap.size := (Array.getElem?_eq_some_iff.1 hbv).1
    have hlC : w.heap.size + 1 + 1 + 1 < W'.heap.size := by omega
    have hlR : w.heap.size + 1 + 1 < W'.heap.size := by omega
    have hlS : w.heap.size + 1 < W'.heap.size := by omega
    have qv1 : W'.cell? ⟨Bv, 1, none⟩ = some (.int .i64 y.sym) := by simp [World.cell?, hbv]
    have qv3 : W'.cell? ⟨Bv, 3, none⟩ = some (.int .i64 y.pl) := by simp [World.cell?, hbv]
    have cS := hS.cell
    have cR := hRc.cell
    have fR := hRc.frozen
    have cC := hC.cell
    have fC := hC.frozen
    have HW : Hid (Reads W' aw ws) := h1.below hb
    have HAL : Hid (y.pl = pre.length ∧ y.sym = ws.getD pre.length 0 → ∀ i (h : i < (ndsOf (pre ++ [(y, kv)])).length), (ndsOf (pre ++ [(y, kv)]))[i].pl = i ∧ (ndsOf (pre ++ [(y, kv)]))[i].sym = ws.getD i 0) := fun hy i hi => by
      have e : ndsOf (pre ++ [(y, kv)]) = ndsOf pre ++ [y] := by simp [ndsOf]
      rw [ndsOf_length, List.length_append, List.length_singleton] at hi
      simp only [e]
      by_cases hlt : i < pre.length
      · rw [List.getElem_append_left (by rw [ndsOf_length]; exact hlt)]
        exact hal i (by rw [ndsOf_length]; exact hlt)
      · have e2 : i = pre.length := by omega
        subst e2
        rw [List.getElem_append_right (by rw [ndsOf_length]; exact Nat.le_refl _)]
        simpa [ndsOf_length] using hy
    have HLE : Hid ((pre ++ [(y, kv)]).length = pre.length + 1) := by show _ = _; simp
    clear HNO HYES HSH hal h0 h1 hseq hp bz hS0 hR0 hC0
    obtain ⟨n, hn⟩ : ∃ n, pre.length = n := ⟨_, rfl⟩
    rw [hn] at hpl HN cC hC HAL HLE
    clear hn
    have hWW : w.heap.size ≤ W'.heap.size := by omega
    have HBAD : Hid (R = false → ∀ nq, KeepsFrom Wz.heap.size W' ((W'.drewN nq).setCell ⟨w.heap.size + 1 + 1, 0, none⟩ (.bool false)) ∧ (R = false ∧ Boxed ((W'.drewN nq).setCell ⟨w.heap.size + 1 + 1, 0, none⟩ (.bool false)) (w.heap.size + 1 + 1) 4 (.bool false) ∧ Below w.heap.size w ((W'.drewN nq).setCell ⟨w.heap.size + 1 + 1, 0, none⟩ (.bool false)) ∧ Wz.heap.size ≤ ((W'.drewN nq).setCell ⟨w.heap.size + 1 + 1, 0, none⟩ (.bool false)).heap.size)) := fun hr nq => ⟨(kept3_setN (n := w.heap.size) nq hRc (by omega) (by omega) (by unfold lvTk visTk visTv; decide)).other, hr, Boxed.set (W := W'.drewN nq) _ hRc, (hb.trans ((below_drew nq).mono hWW)).setCell (p := ⟨w.heap.size + 1 + 1, 0, none⟩) (by show w.heap.size ≤ w.heap.size + 1 + 1; omega) _, by simpa using hsz⟩
    by_cases hE : n = ws.length
    · have HRF : Hid (R = false) := HN (.inl hE)
      have hcb : ((n : Int) == (ws.length : Int)) = true := by simp; omega
      clear HN HW HAL HLE hE hRc hC hS
      gi_wp2_with fail
      refine region_quietR (by kernel_rfl) (by kernel_rfl) (by kernel_rfl) ?_
      repeat (gi_big_quiet_step (fail))
      refine wpQuietIn_nil ?_
      rintro _ ⟨nq, rfl⟩
      gi_wp2
      exact ⟨(HBAD.out HRF.out nq).1, rfl, (HBAD.out HRF.out nq).2⟩
    · have hcb : ((n : Int) == (ws.length : Int)) = false := by simp; omega
      have hlt : n < ws.length := by omega
      have hltI : (n : Int) < (ws.length : Int) := by omega
      obtain ⟨b2, o2, rfl, hb2, hc2⟩ := HW.out.at hlt
      have q5 := hc2 n hlt
      clear hc2 HW
      generalize ws.getD n 0 = z at *
      by_cases hsy : y.sym = z
      · have hsb : (y.sym != z) = false := by simpa using hsy
        by_cases hpp : y.pl = (n : Int)
        · have hpb : (y.pl != (n : Int)) = false := by simpa using hpp
          have HST := HAL.out ⟨hpp, hsy⟩
          have HGO : Hid (∀ nq, Kept3 w.heap.size Wz.heap.size lvTk W' ((W'.drewN nq).setCell ⟨w.heap.size + 1 + 1 + 1, 0, none⟩ (.int .i64 ((n : Int) + 1))) ∧ (Boxed ((W'.drewN nq).setCell ⟨w.heap.size + 1 + 1 + 1, 0, none⟩ (.int .i64 ((n : Int) + 1))) (w.heap.size + 1) 25 (.slice (some ⟨b2, o2, none⟩) ws.length cw) ∧ Boxed ((W'.drewN nq).setCell ⟨w.heap.size + 1 + 1 + 1, 0, none⟩ (.int .i64 ((n : Int) + 1))) (w.heap.size + 1 + 1) 4 (.bool false) ∧ Boxed ((W'.drewN nq).setCell ⟨w.heap.size + 1 + 1 + 1, 0, none⟩ (.int .i64 ((n : Int) + 1))) (w.heap.size + 1 + 1 + 1) 3 (.int .i64 ((pre ++ [(y, kv)]).length : Int))) ∧ (Below w.heap.size w ((W'.drewN nq).setCell ⟨w.heap.size + 1 + 1 + 1, 0, none⟩ (.int .i64 ((n : Int) + 1))) ∧ Wz.heap.size ≤ ((W'.drewN nq).setCell ⟨w.heap.size + 1 + 1 + 1, 0, none⟩ (.int .i64 ((n : Int) + 1))).heap.size) ∧ ((pre ++ [(y, kv)]).length ≤ ws.length ∧ ∀ i (h : i < (ndsOf (pre ++ [(y, kv)])).length), (ndsOf (pre ++ [(y, kv)]))[i].pl = i ∧ (ndsOf (pre ++ [(y, kv)]))[i].sym = ws.getD i 0)) := fun nq => ⟨kept3_setN nq hC (by omega) (by omega) (by unfold lvTk visTk visTv; decide), ⟨Boxed.other (W := W'.drewN nq) hS (by omega) _, Boxed.other (W := W'.drewN nq) hRc (by omega) _, by rw [HLE.out]; exact Boxed.set (W := W'.drewN nq) _ hC⟩, ⟨(hb.trans ((below_drew nq).mono hWW)).setCell (p := ⟨w.heap.size + 1 + 1 + 1, 0, none⟩) (by show w.heap.size ≤ w.heap.size + 1 + 1 + 1; omega) _, by simpa using hsz⟩, by rw [HLE.out]; omega, HST⟩
          clear HN HAL HLE hE hRc hC hS HBAD HST hsy hpp
          gi_wp2_with fail
          refine region_quietR (by kernel_rfl) (by kernel_rfl) (by kernel_rfl) ?_
          repeat (gi_big_quiet_step (fail))
          refine wpQuietIn_nil ?_
          rintro _ ⟨nq, rfl⟩
          gi_wp2
          exact HGO.out nq
        · have HRF : Hid (R = false) := HN (.inr (.inr hpp))
          have hpb : (y.pl != (n : Int)) = true := by simpa using hpp
          clear HN HAL HLE hE hRc hC hS hsy
          gi_wp2_with fail
          refine region_quietR (by kernel_rfl) (by kernel_rfl) (by kernel_rfl) ?_
          repeat (gi_big_quiet_step (fail))
          refine wpQuietIn_nil ?_
          rintro _ ⟨nq, rfl⟩
          gi_wp2
          exact ⟨(HBAD.out HRF.out nq).1, rfl, (HBAD.out HRF.out nq).2⟩
      · have HRF : Hid (R = false) := HN (.inr (.inl hsy))
        have hsb : (y.sym != z) = true := by simpa using hsy
        clear HN HAL HLE hE hRc hC hS
        gi_wp2_with fail
        refine region_quietR (by kernel_rfl) (by kernel_rfl) (by kernel_rfl) ?_
        repeat (gi_big_quiet_step (fail))
        refine wpQuietIn_nil ?_
        rintro _ ⟨nq, rfl⟩
        gi_wp2
        exact ⟨(HBAD.out HRF.out nq).1, rfl, (HBAD.out HRF.out nq).2⟩
  case done =>
    rintro D W' hD ⟨⟨hS, hRc, hC⟩, ⟨hb, hsz⟩, hpl, hal⟩ hd
    have cS := hS.cell
    have cR := hRc.cell
    have fR := hRc.frozen
    have cC := hC.cell
    have hlC : w.heap.size + 1 + 1 + 1 < W'.heap.size := by omega
    have hlR : w.heap.size + 1 + 1 < W'.heap.size := by omega
    have hlS : w.heap.size + 1 < W'.heap.size := by omega
    have hRR : R = decide ((leavesOf ns w a0).length = ws.length) := by
      by_cases e : (leavesOf ns w a0).length = ws.length
      · rw [HYES.out e hal, decide_eq_true e]
      · rw [HSH.out e, decide_eq_false e]
    have HRR : Hid (R = (((leavesOf ns w a0).length : Int) == (ws.length : Int))) := by
      show _ = _
      rw [hRR]
      by_cases e : (leavesOf ns w a0).length = ws.length
      · rw [decide_eq_true e, e]; simp
      · rw [decide_eq_false e]; symm; simp; omega
    have HRC : Hid (Boxed W' (w.heap.size + 1 + 1) 4 (.bool false)) := hRc
    have HBB : Hid (Below w.heap.size w W' ∧ Wz.heap.size ≤ W'.heap.size) := ⟨hb, hsz⟩
    clear HNO HYES HSH hal h0 h1 hseq bz hS0 hR0 hC0 hRR hS hC hRc
    obtain ⟨b, HBE⟩ : ∃ b, Hid ((((leavesOf ns w a0).length : Int) == (ws.length : Int)) = b) := ⟨_, rfl⟩
    gi_wp2
    have hRs : Boxed (W'.setCell ⟨w.heap.size + 1 + 1, 0, none⟩ (.bool (((leavesOf ns w a0).length : Int) == (ws.length : Int)))) (w.heap.size + 1 + 1) 4 (.bool (((leavesOf ns w a0).length : Int) == (ws.length : Int))) := HRC.out.set _
    have hds : (W'.setCell ⟨w.heap.size + 1 + 1, 0, none⟩ (.bool (((leavesOf ns w a0).length : Int) == (ws.length : Int)))).heap[D]? = some (.deferred (some [])) := by
      have hw : Within W' (W'.setCell ⟨w.heap.size + 1 + 1, 0, none⟩ (.bool (((leavesOf ns w a0).length : Int) == (ws.length : Int)))) (fun k => k = w.heap.size + 1 + 1) := by
        refine Within.setCell (Within.refl _ _) _ _ ?_
        rfl
      exact hw.same hd (fun e => by omega)
    refine leaves_marks (B := Wz.heap.size) [D] _ ⟨by simp, fun x hx => ?_⟩ fun w' hw' => ?_
    · simp at hx; subst hx; exact ⟨hD, hds⟩
    · have hr' : Boxed w' (w.heap.size + 1 + 1) 4 (.bool (((leavesOf ns w a0).length : Int) == (ws.length : Int))) := hw'.same hRs (fun hk => by have := hk.1; omega)
      refine ⟨_, results_cell rfl rfl hr'.cell, by rw [hlr, HRR.out], ?_⟩
      have hst : Within (W'.setCell ⟨w.heap.size + 1 + 1, 0, none⟩ (.bool (((leavesOf ns w a0).length : Int) == (ws.length : Int)))) w' (Theirs (fun _ => False) Wz.heap.size (W'.setCell ⟨w.heap.size + 1 + 1, 0, none⟩ (.bool (((leavesOf ns w a0).length : Int) == (ws.length : Int))))) := hw'.mono (fun k hk => ⟨hk.1, hk.2.elim fun o ho => ⟨o, ho.1, .inl ho.2⟩⟩)
      exact (HBB.out.1.setCell (p := ⟨w.heap.size + 1 + 1, 0, none⟩) (by show w.heap.size ≤ w.heap.size + 1 + 1; omega) _).trans (within_below hst (by omega) (by have := HBB.out.1.size; simpa using this))
  case stop =>
    rintro D c pre x W' hD hp ⟨rfl, hr, hRc, hb, hsz⟩ hd
    have HRC := hRc
    clear HNO HYES HSH h0 h1 hseq bz hS0 hR0 hC0
    gi_wp2
    refine leaves_marks (B := Wz.heap.size) [D] W' ⟨by simp, fun x hx => ?_⟩ fun w' hw' => ?_
    · simp at hx; subst hx; exact ⟨hD, hd⟩
    · have hr' : Boxed w' (w.heap.size + 1 + 1) 4 (.bool false) := hw'.same HRC (fun hk => by have := hk.1; omega)
      refine ⟨_, results_cell rfl rfl hr'.cell, by rw [hlr, hr], ?_⟩
      have hst : Within W' w' (Theirs (fun _ => False) Wz.heap.size W') := hw'.mono (fun k hk => ⟨hk.1, hk.2.elim fun o ho => ⟨o, ho.1, .inl ho.2⟩⟩)
      exact hb.trans (within_below hst (by omega) hb.size)
end Go.Proofs.YthnppodnjokaoaaDoor
