/-
  Contracts and plain mathematics, joined: ErrsLaid, CanAsk. No statement is proved here.
-/
import Derived.Test.YthnppodnjokaoaaDoorG28
import Derived.Test.YthnppodnjokaoaaDoorRows
import Derived.Stop.LaidTwo
import Derived.Test.YthnppodnjokaoaaDoorG11
namespace Go.Proofs.YthnppodnjokaoaaDoor
open Go.RowKit

/-- The four variables hold four errors. -/
def ErrsIs (w : World) : Prop := ∃ e0 e1 e2 e3, Errs w e0 e1 e2 e3
theorem ErrsIs.later {w w' : World} (h : ErrsIs w) (hb : Below w.heap.size w w') : ErrsIs w' := by
  obtain ⟨e0, e1, e2, e3, h⟩ := h
  exact ⟨e0, e1, e2, e3, h.later hb⟩
theorem check_any (x : Gm) (a0 : Option Addr) (c0 : Nat) (w : World) (h0 : RD w (.slice a0 x.parts.length c0) (slD (Lay.list (Lay.list Lay.int)) x.parts)) (hn : Lay.gram.wt x ≤ 1048576) (hf : Lay.gram.fit x) (hE : ErrsIs w) :
    Calls Tryd.prog 60 #[.agg #[.slice a0 x.parts.length c0]] w fun e w' => e = .returned (.int .i64 (resCheck x)) ∧ Below w.heap.size w w' := by
  obtain ⟨e0, e1, e2, e3, h⟩ := hE
  exact check_at x a0 c0 e0 e1 e2 e3 w h0 hn hf h
theorem err_star : "*" ++ "errors.errorString" = "*errors.errorString" := by decide
theorem err_row (u : TypeId) (h : Tryd.prog.typeName? 3 u = some "*errors.errorString") : u = 171 :=
  typeName_ptr_named (nm := "errors.errorString") (by rw [err_star]; kernel_rfl) (by kernel_rfl) (by decide) u (by rw [err_star]; exact h)
theorem laid4 {P : Program} {n0 n1 n2 n3 nm : String} {x0 x1 x2 x3 : List UInt8} {W : World} {g0 g1 g2 g3 : Nat} {ti tp te ts : TypeId} {ms : Array (String × TypeId)} {f : Field}
    (h : laidMet P [(n0, .iface nm (.ptr (.agg [.lit (.string x0)]))), (n1, .iface nm (.ptr (.agg [.lit (.string x1)]))), (n2, .iface nm (.ptr (.agg [.lit (.string x2)]))), (n3, .iface nm (.ptr (.agg [.lit (.string x3)])))] W)
    (hg0 : P.globalNamed n0 = some g0) (ht0 : (P.globals[g0]?).map (·.type) = some ti) (hg1 : P.globalNamed n1 = some g1) (ht1 : (P.globals[g1]?).map (·.type) = some ti) (hg2 : P.globalNamed n2 = some g2) (ht2 : (P.globals[g2]?).map (·.type) = some ti) (hg3 : P.globalNamed n3 = some g3) (ht3 : (P.globals[g3]?).map (·.type) = some ti)
    (hi : P.underlying ti = some (.interface ms)) (hrow : ∀ u, P.typeName? 3 u = some nm → u = tp)
    (hp : P.underlying tp = some (.pointer te)) (he : P.underlying te = some (.struct #[f])) (hft : f.type = ts) (hfo : f.offset = 0) (hs : P.underlying ts = some .string) (hc : P.cellsOf te = 1) (hcs : P.cellsOf ts = 1) :
    ∃ a0 a1 a2 a3 : Addr, (W.cell? ⟨g0, 0, none⟩ = some (.iface tp (.pointer (some a0))) ∧ W.cell? ⟨g1, 0, none⟩ = some (.iface tp (.pointer (some a1))) ∧ W.cell? ⟨g2, 0, none⟩ = some (.iface tp (.pointer (some a2))) ∧ W.cell? ⟨g3, 0, none⟩ = some (.iface tp (.pointer (some a3)))) ∧
      ((∃ c t, W.heap[a0.block]? = some (.cells c t (0, 0))) ∧ (∃ c t, W.heap[a1.block]? = some (.cells c t (0, 0))) ∧ (∃ c t, W.heap[a2.block]? = some (.cells c t (0, 0))) ∧ (∃ c t, W.heap[a3.block]? = some (.cells c t (0, 0)))) ∧
      (a0 ≠ a1 ∧ a0 ≠ a2 ∧ a0 ≠ a3 ∧ a1 ≠ a2 ∧ a1 ≠ a3 ∧ a2 ≠ a3) := by
  obtain ⟨ps, ⟨g0', t0', cs0, f0, p0, q0, hg0', ht0', hv0, hd0, ⟨g1', t1', cs1, f1, p1, q1, hg1', ht1', hv1, hd1, ⟨g2', t2', cs2, f2, p2, q2, hg2', ht2', hv2, hd2, ⟨g3', t3', cs3, f3, p3, q3, hg3', ht3', hv3, hd3, eq, e3⟩, e2⟩, e1⟩, e0⟩, hnd, hrows⟩ := h
  obtain rfl := Option.some.inj (hg0.symm.trans hg0')
  obtain rfl := Option.some.inj (hg1.symm.trans hg1')
  obtain rfl := Option.some.inj (hg2.symm.trans hg2')
  obtain rfl := Option.some.inj (hg3.symm.trans hg3')
  obtain rfl := Option.some.inj (ht0.symm.trans ht0')
  obtain rfl := Option.some.inj (ht1.symm.trans ht1')
  obtain rfl := Option.some.inj (ht2.symm.trans ht2')
  obtain rfl := Option.some.inj (ht3.symm.trans ht3')
  subst e3
  subst e2
  subst e1
  subst e0
  obtain ⟨l0⟩ := cs0
  obtain ⟨l1⟩ := cs1
  obtain ⟨l2⟩ := cs2
  obtain ⟨l3⟩ := cs3
  have ok0 : ∀ u v, l0 = [.iface u v] → Value.okWide P W .any 0 u v := fun u v e => by
    subst e
    exact (hrows g0 0 (by simp [MemPlace.row])).2 u v (by simpa using World.var?_cell hg0' hv0 0)
  have ok1 : ∀ u v, l1 = [.iface u v] → Value.okWide P W .any 0 u v := fun u v e => by
    subst e
    exact (hrows g1 0 (by simp [MemPlace.row])).2 u v (by simpa using World.var?_cell hg1' hv1 0)
  have ok2 : ∀ u v, l2 = [.iface u v] → Value.okWide P W .any 0 u v := fun u v e => by
    subst e
    exact (hrows g2 0 (by simp [MemPlace.row])).2 u v (by simpa using World.var?_cell hg2' hv2 0)
  have ok3 : ∀ u v, l3 = [.iface u v] → Value.okWide P W .any 0 u v := fun u v e => by
    subst e
    exact (hrows g3 0 (by simp [MemPlace.row])).2 u v (by simpa using World.var?_cell hg3' hv3 0)
  obtain ⟨a0, s0, rfl, hc0, hs0, hz0, rfl⟩ := errorString_of_trod hi hrow hp he hft hfo hs hc hcs hd0 ok0
  obtain ⟨a1, s1, rfl, hc1, hs1, hz1, rfl⟩ := errorString_of_trod hi hrow hp he hft hfo hs hc hcs hd1 ok1
  obtain ⟨a2, s2, rfl, hc2, hs2, hz2, rfl⟩ := errorString_of_trod hi hrow hp he hft hfo hs hc hcs hd2 ok2
  obtain ⟨a3, s3, rfl, hc3, hs3, hz3, rfl⟩ := errorString_of_trod hi hrow hp he hft hfo hs hc hcs hd3 ok3
  refine ⟨a0, a1, a2, a3, ⟨by simpa using World.var?_cell hg0' hv0 0, by simpa using World.var?_cell hg1' hv1 0, by simpa using World.var?_cell hg2' hv2 0, by simpa using World.var?_cell hg3' hv3 0⟩,
    ⟨(hrows a0.block a0.off (by simp [MemPlace.row])).1, (hrows a1.block a1.off (by simp [MemPlace.row])).1, (hrows a2.block a2.off (by simp [MemPlace.row])).1, (hrows a3.block a3.off (by simp [MemPlace.row])).1⟩, ?_, ?_, ?_, ?_, ?_, ?_⟩
  all_goals
    rintro rfl
    simp [MemPlace.row] at hnd
theorem errs_laid {W : World} (h : laidMet Tryd.prog Rows.fnExactSureRow.laid W) : ErrsIs W := by
  obtain ⟨a0, a1, a2, a3, ⟨c0, c1, c2, c3⟩, ⟨r0, r1, r2, r3⟩, n01, n02, n03, n12, n13, n23⟩ := laid4 h (ti := 108) (tp := 171) (te := 197) (ts := 9) (g0 := 0) (g1 := 1) (g2 := 2) (g3 := 3) (by kernel_rfl) (by kernel_rfl) (by kernel_rfl) (by kernel_rfl) (by kernel_rfl) (by kernel_rfl) (by kernel_rfl) (by kernel_rfl) Tryd.underlying108 err_row Tryd.underlying171 Tryd.underlying197 rfl rfl Tryd.underlying9 (by kernel_rfl) (by kernel_rfl)
  exact ⟨a0, a1, a2, a3, c0, c1, c2, c3, r0, r1, r2, r3, n01, n02, n03, n12, n13, n23⟩
end Go.Proofs.YthnppodnjokaoaaDoor
namespace Go.Proofs.YthnppodnjokaoaaDoor
open Go.RowKit

set_option maxHeartbeats 1000000 in
set_option maxRecDepth 100000 in
theorem canBeAsked_any (x : Gm) (a0 : Option Addr) (c0 : Nat) (ws : List Int) (aw : Option Addr) (cw : Nat) (w : World) (h0 : RD w (.slice a0 x.parts.length c0) (slD (Lay.list (Lay.list Lay.int)) x.parts)) (h1 : RD w (.slice aw ws.length cw) (slD Lay.int ws)) (hn : Lay.gram.wt x ≤ 1048576) (hf : Lay.gram.fit x) (hl : ws.length ≤ 1048576) (hz : (Lay.list Lay.int).fit ws) (hE : ErrsIs w) :
    Calls Tryd.prog 34 #[.agg #[.slice a0 x.parts.length c0], .slice aw ws.length cw] w fun e w' => e = .returned (.bool (inputOkB ws && decide (resCheck x = 0))) ∧ Below w.heap.size w w' := by
  have B0 := (Below.refl w.heap.size w).alloc (Nat.le_refl _) (.cells #[.slice a0 x.parts.length c0] 28)
  have HI : Hid (∀ W : World, Below w.heap.size w W → Calls Tryd.prog 59 #[.slice aw ws.length cw] W fun e w' => e = .returned (.bool (inputOkB ws)) ∧ Below W.heap.size W w') := fun W hW => inputOk_any ws aw cw W (h1.later hW) hl hz
  have HK : Hid (∀ W : World, Below w.heap.size w W → Calls Tryd.prog 60 #[.agg #[.slice a0 x.parts.length c0]] W fun e w' => e = .returned (.int .i64 (resCheck x)) ∧ Below W.heap.size W w') := fun W hW => check_any x a0 c0 W (h0.later hW) hn hf (hE.later hW)
  have hgl : w.heap.size < (w.alloc (.cells #[.slice a0 x.parts.length c0] 28)).heap.size := by simp
  have qg : (w.alloc (.cells #[.slice a0 x.parts.length c0] 28)).cell? ⟨w.heap.size, 0, none⟩ = some (.slice a0 x.parts.length c0) := by simp
  clear h0 h1 hn hf hl hz hE
  generalize resCheck x = rc at *
  generalize x.parts = P at *
  by_cases hi : inputOkB ws = true
  · rw [hi] at HI ⊢
    by_cases hc : rc = 0
    · subst hc
      go_enter Tryd.func34, Tryd.ntmps34
      go_wp2_with (first | (go_at_call 59; refine (HI.out _ B0).mono ?_; rintro e w1 ⟨rfl, hb1⟩; have g1 := (hb1.cell (p := ⟨w.heap.size, 0, none⟩) hgl).trans qg; have B1 := B0.trans (hb1.mono B0.size)) | (go_at_call 60; refine (HK.out _ B1).mono ?_; rintro e w2 ⟨rfl, hb2⟩))
      go_ret
      exact ⟨rfl, B1.trans (hb2.mono B1.size)⟩
    · have hcb : (rc == 0) = false := by simp [hc]
      go_enter Tryd.func34, Tryd.ntmps34
      go_wp2_with (first | (go_at_call 59; refine (HI.out _ B0).mono ?_; rintro e w1 ⟨rfl, hb1⟩; have g1 := (hb1.cell (p := ⟨w.heap.size, 0, none⟩) hgl).trans qg; have B1 := B0.trans (hb1.mono B0.size)) | (go_at_call 60; refine (HK.out _ B1).mono ?_; rintro e w2 ⟨rfl, hb2⟩))
      go_ret
      exact ⟨ret_bool (by simp [hc]), B1.trans (hb2.mono B1.size)⟩
  · have hi' : inputOkB ws = false := by simpa using hi
    rw [hi'] at HI ⊢
    clear hi hi'
    go_enter Tryd.func34, Tryd.ntmps34
    go_wp2_with (go_at_call 59; refine (HI.out _ B0).mono ?_; rintro e w1 ⟨rfl, hb1⟩)
    go_ret
    exact ⟨rfl, B0.trans (hb1.mono B0.size)⟩
end Go.Proofs.YthnppodnjokaoaaDoor
