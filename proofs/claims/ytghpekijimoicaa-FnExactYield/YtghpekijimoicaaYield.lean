/-
  The contract of impl.Yield over this translation. No statement is proved here.
-/
import Derived.Test.YtghpekijimoicaaLeafIter
import Derived.Test.YtghpekijimoicaaHIntS
namespace Go.Proofs.Ytghpekijimoicaa
open Go.RowKit Go.Shelf

attribute [local go_sem] Oper.semAt_some wide_fn wide_fn_in wide_depth wide_depth_in

/-- The letters of the leaves, from the left. -/
def leafSyms (ns : List Nd) : List Int := (visAt ns 0).filterMap fun v => if v.2 = false ∧ (ndAt ns v.1).kind = 0 then some (ndAt ns v.1).sym else none
def resYield (x : Tr) : List Int := if shapeB x.nodes = true then leafSyms x.nodes else []
theorem leavesOf_syms (ns : List Nd) (w : World) (a : Option Addr) : (leavesOf ns w a).map (fun y => y.1.sym) = leafSyms ns := by
  unfold leavesOf leafSyms
  rw [List.map_filterMap]
  congr 1
  funext v
  unfold leafOf
  split <;> simp
theorem leafSyms_length {ns : List Nd} (s : Shaped ns) : (leafSyms ns).length ≤ 2 * ns.length := Nat.le_trans (List.length_filterMap_le _ _) (visits_le s)
theorem resYield_le (x : Tr) (hw : Lay.tree.wt x ≤ 1048576) (_ : Lay.tree.fit x) : (Lay.list Lay.int).wt (resYield x) ≤ 2097152 := by
  rw [Lay.wt_ints]
  rw [Lay_tree_wt, Lay.wt_list] at hw
  unfold resYield
  split
  · rename_i h
    have := leafSyms_length (shapeB_true.1 h)
    omega
  · simp

/-- An append into a boxed slice: only the box and the row, or new memory. -/
theorem appended_within {W w1 : World} {B : Nat} {v v' : Value} {tmp : Obj} (hgrow : (W.alloc tmp).grownBy w1 v.ownBlock) : Within W (w1.setCell ⟨B, 0, none⟩ v') (fun k => k = B ∨ v.ownBlock = some k) := by
  have hw1 : Within W w1 (fun k => v.ownBlock = some k) := (within_none ((Below.refl _ _).alloc (Nat.le_refl _) tmp) _).trans (Within.of_grown hgrow (fun k e => e))
  have hw2 : Within w1 (w1.setCell ⟨B, 0, none⟩ v') (fun k => k = B) := by
    refine Within.setCell (Within.refl _ _) _ _ ?_
    rfl
  exact (hw1.mono (fun k h => .inr h)).trans (hw2.mono (fun k h => .inl h))
theorem boxed_row_typed {W X : World} {n₀ B : Nat} {t e : TypeId} {size : Nat} {v : Value} {k : Nat} {xs : List Value} (hv : Boxed W B t v) (hrow : W.ownsRow n₀ e size v k xs) (hw : Within W X (fun k => k = B ∨ v.ownBlock = some k)) {j : Nat} {cur : Array Value} {u : TypeId} {p : Nat × Nat} (hj : W.heap[j]? = some (.cells cur u p)) (h1 : u ≠ t) (h2 : u ≠ e) : X.heap[j]? = some (.cells cur u p) :=
  hw.same hj (fun h => by
    rcases h with rfl | h
    · rw [show W.heap[j]? = _ from hv] at hj
      cases hj
      exact h1 rfl
    · rcases hrow.2 with ⟨rfl, _⟩ | ⟨g, cap, c, rfl, _, hg, _⟩
      · simp [Value.ownBlock] at h
      · have : g = j := by simpa [Value.ownBlock] using h
        subst this
        rw [hg] at hj
        cases hj
        exact h2 rfl)
theorem ownsRow_stays {W X : World} {n₀ b : Nat} {e : TypeId} {size : Nat} {v : Value} {k : Nat} {xs : List Value} {tv : TypeId → Prop} (h : W.ownsRow n₀ e size v k xs) (hw : Within W X (Theirs tv b W)) (he : ¬ tv e) : X.ownsRow n₀ e size v k xs := by
  refine ⟨h.1, ?_⟩
  rcases h.2 with hx | ⟨g, cap, cur, rfl, hb, hg, r⟩
  · exact .inl hx
  · refine .inr ⟨g, cap, cur, rfl, hb, hw.same hg (fun ⟨_, o, ho, hc⟩ => ?_), r⟩
    rw [hg] at ho
    cases ho
    rcases hc with hc | ⟨_, _, _, ht, e2⟩
    · cases hc
    · cases e2; exact he ht

theorem new_one_c (W : World) (x : Value) (t : TypeId) : ∀ (j : Nat) (u : Value), ([x] : List Value)[j]? = some u → (W.alloc (.cells #[x] t)).cell? ((⟨W.heap.size, 0, none⟩ : Addr).add j) = some u := by
  intro j u hu
  have e := Lib.cell_of_heap (heap_alloc_new W (.cells #[x] t)) j
  rw [Addr.add_lit, Nat.zero_add, e]
  simpa using hu
theorem box_later {w w1 : World} {v : Value} {t : TypeId} (hb : Below (w.alloc (.cells #[v] t)).heap.size (w.alloc (.cells #[v] t)) w1) : w1.cell? ⟨w.heap.size, 0, none⟩ = some v ∧ w.heap.size < w1.heap.size := by
  have h := (hb.block w.heap.size (by simp)).trans (heap_alloc_new w (.cells #[v] t))
  exact ⟨(boxed_of h).1, (Array.getElem?_eq_some_iff.1 h).1⟩

set_option maxRecDepth 100000 in
set_option maxHeartbeats 4000000 in
theorem yield_any (x : Tr) (a0 : Option Addr) (c0 : Nat) (w : World) (h0 : RD w (.slice a0 x.nodes.length c0) (slD Lay.node x.nodes)) (hw : Lay.tree.wt x ≤ 1048576) (hf : Lay.tree.fit x) :
    Calls Try.prog 11 #[.agg #[.slice a0 x.nodes.length c0]] w fun e w' => ∃ v S, e = .returned v ∧ OD w' w.heap.size v (slD Lay.int (resYield x)) S ∧ Below w.heap.size w w' := by
  have HT : Hid (∀ W : World, Below w.heap.size w W → Calls Try.prog 8 #[.agg #[.slice a0 x.nodes.length c0]] W fun e w' => e = .returned (.bool (shapeB x.nodes)) ∧ Below W.heap.size W w') := fun W hW => treeShape_any x a0 c0 W (h0.later hW) hw hf
  rw [Lay_tree_wt, Lay.wt_list] at hw
  have hlen : x.nodes.length ≤ 1048576 := by omega
  have hsum : Lay.node.sumL x.nodes ≤ 1048576 := by omega
  unfold resYield
  clear hf hw
  generalize x.nodes = ns at *
  obtain ⟨i0, hi0, hz0, hz1, hz2⟩ := info_parts Try.infoInt
  refine (callsIn_wide (n := 0)).1 (callsIn_of_wp_marks Try.func11 rfl trivial ?_ rfl)
  simp only [Try.ntmps11, List.size_toArray, List.length_cons, List.length_nil, Nat.reduceAdd, Nat.reduceSub, Array.replicate_succ, Array.replicate_zero, List.push_toArray, List.append_toArray, List.nil_append, List.cons_append]
  have B0 := (Below.refl w.heap.size w).alloc (Nat.le_refl _) (.cells #[.slice a0 ns.length c0] 29)
  cases hsb : shapeB ns with
  | false =>
    have X := HT.out _ B0
    rw [hsb] at X
    gi_wp2_with (gi_at_call 8; refine (callsIn_wide.2 X).mono ?_; rintro e w1 ⟨rfl, hb1⟩)
    exact ⟨_, results_tmp rfl _ _ _, _, rfl, ⟨_, OD.nil 0 rfl⟩, B0.trans (hb1.mono (by simp))⟩
  | true =>
    have X := HT.out _ B0
    rw [hsb] at X
    have hs := shapeB_true.1 hsb
    gi_wp2_with (first
      | (gi_at_call 8; refine (callsIn_wide.2 X).mono ?_; rintro e w1 ⟨rfl, hb1⟩; obtain ⟨g1, l1⟩ := box_later hb1)
      | (gi_at_call 23; refine (callsIn_wide.2 (leaves_any _ _ _ _)).mono ?_; rintro e w' ⟨rfl, rfl⟩))
    -- the loop over the leaves
    have hW1 : Below w.heap.size w w1 := B0.trans (hb1.mono (by simp))
    obtain ⟨Wz, hWz⟩ : ∃ Wz, (w1.alloc (.cells #[.slice none 0 0] 33)).alloc (.cells #[.slice a0 ns.length c0] 29) = Wz := ⟨_, rfl⟩
    rw [hWz]
    have bz : Below w.heap.size w Wz := by rw [← hWz]; exact (hW1.alloc (by omega) _).alloc (by simp; omega) _
    have hz1' : w1.heap.size + 2 ≤ Wz.heap.size := by rw [← hWz]; simp
    have ho0 : Boxed Wz w1.heap.size 33 (.slice none 0 0) := by rw [← hWz]; exact (Boxed.new w1 33 (.slice none 0 0)).alloc _
    have ht0 : Wz.heap[w1.heap.size + 1]? = some (.cells #[.slice a0 ns.length c0] 29) := by
      rw [← hWz]
      have := heap_alloc_new (w1.alloc (.cells #[.slice none 0 0] 33)) (.cells #[.slice a0 ns.length c0] 29)
      simpa using this
    have hseq := leaves_seq ns hs hlen hsum w a0 c0 h0 Wz bz (w1.heap.size + 1) ht0
    have HLL : Hid ((leavesOf ns w a0).length ≤ 2 * ns.length) := by
      have := leafSyms_length hs
      rw [← leavesOf_syms ns w a0, List.length_map] at this
      exact this
    have HLE : Hid ((leavesOf ns w a0).map (fun y => y.1.sym) = leafSyms ns) := leavesOf_syms ns w a0
    clear hWz X hb1 g1 ht0
    refine wpIn_rangeT (gf := 29) (lb := #[.pointer (some ⟨w1.heap.size + 1, 0, none⟩)]) rfl (enters_of Try.func29 (by kernel_rfl) rfl) hseq (Below.refl _ _) (by omega) (fun _ => rfl)
      (fun pre W' => (∃ v, Boxed W' w1.heap.size 33 v ∧ OwnInts W' w.heap.size 3 v (pre.map (fun y => y.1.sym))) ∧ Below w.heap.size w W' ∧ Wz.heap.size ≤ W'.heap.size)
      (fun _ _ _ => False)
      ?hI (fun _ _ _ _ hx _ => hx) ⟨⟨_, ho0, OwnInts.nil _ _ _⟩, bz, Nat.le_refl _⟩
      (fun x a' W' => ∃ Bv, W'.heap[Bv]? = some (.cells #[.int .i64 x.1.kind, .int .i64 x.1.sym, .int .i64 x.1.alt, .int .i64 x.1.pl, .slice x.2.1 x.1.kids.length x.2.2] 40) ∧ a' = { tmps := #[.agg #[.slice a0 ns.length c0], .pointer (some ⟨w.heap.size, 0, none⟩), .slice none 0 0, .pointer (some ⟨w1.heap.size, 0, none⟩), .pointer (some ⟨Bv, 0, none⟩), .agg #[.slice a0 ns.length c0], .bool true, .bool false, .agg #[.slice a0 ns.length c0], .func (.func 29) #[] #[.pointer (some ⟨w1.heap.size + 1, 0, none⟩)], .agg #[.int .i64 x.1.kind, .int .i64 x.1.sym, .int .i64 x.1.alt, .int .i64 x.1.pl, .slice x.2.1 x.1.kids.length x.2.2], undef, undef, undef, undef, undef, undef], defers := [] }) ?hAx ?assign ?body ?done ?stop
    case hI =>
      rintro pre W' W'' ⟨⟨v, hv, ho⟩, hb, hsz⟩ hw
      refine ⟨⟨v, ?_, ownsRow_stays ho hw (by unfold visTv; decide)⟩, hb.trans (within_below hw (by omega) (by omega)), Nat.le_trans hsz hw.size⟩
      exact hw.same hv (fun hk => by have := hk.1; omega)
    case hAx =>
      rintro x a' W' l' r r' ⟨Bv, h1, h2⟩ hr
      exact ⟨Bv, (World.putObj_heap_other (fun e => by subst e; rw [h1] at hr; cases hr)).trans h1, h2⟩
    case assign =>
      intro l2 m pre x W' K2 hI hp hK2
      unfold ndEnc
      gi_wp2
      exact hK2 _ _ ((Below.refl _ _).alloc (Nat.le_refl _) _) ⟨W'.heap.size, heap_alloc_new W' _, rfl⟩
    case body =>
      rintro l2 m pre ⟨y, kv⟩ a' W' hl2 hl3 ⟨⟨v, hv, ho⟩, hb, hsz⟩ ⟨Bv, hbv, rfl⟩ hp
      have hpl : pre.length + 1 ≤ 2097152 := by
        have := hp.length_le
        have := HLL.out
        rw [List.length_append, List.length_singleton] at *
        omega
      have hc := hv.cell
      have hbl : Bv < W'.heap.size := (Array.getElem?_eq_some_iff.1 hbv).1
      have hb1 : w1.heap.size < W'.heap.size := by omega
      have qv1 : W'.cell? ⟨Bv, 1, none⟩ = some (.int .i64 y.sym) := by simp [World.cell?, hbv]
      have hww : w.heap.size ≤ W'.heap.size := by omega
      have hrow : W'.ownsRow w.heap.size 3 1 v pre.length ((pre.map (fun y => y.1.sym)).map (Value.int .i64)) := by
        have := ho
        unfold OwnInts at this
        rwa [List.length_map] at this
      gi_wp2_with (first
        | (gi_at_builtin; refine wpListIn_append_own _ rfl _ _ 33 rfl w.heap.size 3 i0 (.int .i64 0) 1 8 Try.underlying33 hi0 hz0 hz1 hz2 rfl (by decide) _ _ _ rfl (World.ownsRow.alloc hrow _) ⟨W'.heap.size, 0, none⟩ 1 1 [.int .i64 y.sym] rfl rfl (new_one_c _ _ _) (by simp [Value.oneCell']) (by simp [maxLen]; omega) (by omega) (by simp; omega) ?_; intro v' w4 hown' hgrow _; obtain ⟨g4, cap4, rfl⟩ := ownsRow_succ hown'; obtain ⟨hv4, hv5, hr5, hk5, hb5⟩ := hv.appended (by decide) hrow hww (by omega) hown' hgrow; have hc4 := hv4.cell; have hf4 := hv4.frozen; have hw5 : Within W' (w4.setCell ⟨w1.heap.size, 0, none⟩ (.slice (some ⟨g4, 0, none⟩) (pre.length + 1) cap4)) (fun k => k = w1.heap.size ∨ v.ownBlock = some k) := appended_within hgrow))
      refine ⟨⟨hb5, fun k cur t p ht hk2 => boxed_row_typed hv hrow hw5 hk2 (by rintro rfl; revert ht; unfold lvTk visTk visTv; decide) (by rintro rfl; revert ht; unfold lvTk visTk visTv; decide), hk5.from _⟩, ⟨_, hv5, ?_⟩, hb.trans hb5, Nat.le_trans hsz hk5.size⟩
      unfold OwnInts
      simpa using hr5
    case done =>
      rintro D W' hD ⟨⟨v, hv, ho⟩, hb, hsz⟩ hd
      have hc := hv.cell
      have HO : Hid (OwnInts W' w.heap.size 3 v (leafSyms ns)) := by rw [HLE.out] at ho; exact ho
      obtain ⟨av, cv, rfl, _⟩ := ho.shape
      clear ho
      gi_wp2
      refine leaves_marks (B := Wz.heap.size) [D] W' ⟨by simp, fun x hx => ?_⟩ fun w' hw' => ⟨_, results_tmp rfl _ _ _, _, rfl, ?_⟩
      · simp at hx; subst hx; exact ⟨hD, hd⟩
      · have hst : Within W' w' (Theirs (fun _ => False) Wz.heap.size W') := hw'.mono (fun k hk => ?_)
        · have HO2 : OwnInts w' w.heap.size 3 (.slice av (leavesOf ns w a0).length cv) (leafSyms ns) := by
            have := ownsRow_stays HO.out hst (fun e => e)
            rwa [List.length_map] at this
          exact ⟨⟨_, HO2.od⟩, hb.trans (within_below hst (by omega) (by omega))⟩
        · exact ⟨hk.1, hk.2.elim fun o ho => ⟨o, ho.1, .inl ho.2⟩⟩
    case stop =>
      rintro D c pre x W' _ _ h _
      exact h.elim
end Go.Proofs.Ytghpekijimoicaa
