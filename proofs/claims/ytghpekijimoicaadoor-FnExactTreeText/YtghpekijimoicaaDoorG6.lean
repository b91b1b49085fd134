/-
  Contracts and plain mathematics, joined: TreeText, MarkLib, MIntS, MNodeS, MTree, Laid, TreeTextLaw. No statement is proved here.
-/
import Derived.Test.YtghpekijimoicaaDoorG4
import Derived.Test.YtghpekijimoicaaDoorG5
import Derived.Test.YtghpekijimoicaaDoorG1
import Derived.Test.YtghpekijimoicaaDoorG2
import Derived.Test.YtghpekijimoicaaDoorG3
import Derived.Test.YtghpekijimoicaaDoorRows
import Derived.Lib.LaidTab
namespace Go.Proofs.YtghpekijimoicaaDoor
open Go.RowKit Go.Shelf

attribute [local go_sem] Oper.semAt_some wide_fn wide_fn_in wide_depth wide_depth_in

/-- A builder stays where an iterator writes typed memory of its own. -/
theorem IsB.stays {W X : World} {B b n : Nat} {bs : List Value} {tv : TypeId → Prop} (h : IsB B b bs W) (hw : Within W X (Theirs tv n W)) (h1 : ¬ tv 68) (h2 : ¬ tv 5) : IsB B b bs X := by
  have key : ∀ p, Lib.BuilderAtF 68 5 B b p bs W → Lib.BuilderAtF 68 5 B b p bs X := by
    rintro p ⟨hB, v, hb, hown, hne⟩
    refine ⟨hB, v, hw.same hb (fun ⟨_, o, ho, hc⟩ => ?_), ?_, hne⟩
    · rw [hb] at ho
      cases ho
      rcases hc with hc | ⟨_, _, _, ht, e2⟩
      · cases hc
      · cases e2; exact h1 ht
    · refine ⟨hown.1, ?_⟩
      rcases hown.2 with hx | ⟨g, cap, cur, fz, rfl, hb2, hg, r⟩
      · exact .inl hx
      · refine .inr ⟨g, cap, cur, fz, rfl, hb2, hw.same hg (fun ⟨_, o, ho, hc⟩ => ?_), r⟩
        rw [hg] at ho
        cases ho
        rcases hc with hc | ⟨_, _, _, ht, e2⟩
        · cases hc
        · cases e2; exact h2 ht
  exact h.imp (key _) (key _)
theorem IsB.head {W : World} {B b : Nat} {bs : List Value} (h : IsB B b bs W) : B ≤ b ∧ ∃ p v, W.heap[b]? = some (.cells #[p, v] 68 (0, 0)) := by
  rcases h with ⟨hB, v, hb, _⟩ | ⟨hB, v, hb, _⟩
  · exact ⟨hB, _, v, hb⟩
  · exact ⟨hB, _, v, hb⟩
theorem kept3_of {W X : World} {B b n c : Nat} {bs : List Value} (h : IsB B b bs W) (hb : Below B W X) (hk : KeptB b W X) (hn : n ≤ B) : Kept3 n c visTk W X := by
  obtain ⟨_, p, v, hp⟩ := h.head
  refine ⟨hb.mono hn, fun k cur t q ht hk2 => hk k _ hk2 (fun e => ?_) (fun c2 fz e => ?_), hb.size, fun k o _ ho hc => hk k o ho (fun e => ?_) (fun c2 fz e => ?_)⟩
  · cases e
    rw [hp] at hk2
    cases hk2
    revert ht; unfold visTk visTv; decide
  · cases e
    revert ht; unfold visTk visTv; decide
  · cases e
    rw [hp] at ho
    cases ho
    cases hc
  · subst e; cases hc
theorem writeK (B b : Nat) (pre s : List UInt8) (w : World) (h : IsB B b (Lib.byteCells pre) w) (hlen : pre.length + s.length ≤ 1099511627776) (hBw : B ≤ w.heap.size) (n c : Nat) (hn : n ≤ B) :
    Calls Tryd.prog 41 #[.pointer (some ⟨b, 0, none⟩), .string ⟨s.toArray⟩] w fun e w' => e = .returned (.tuple #[.int .i64 (⟨s.toArray⟩ : ByteArray).size, .nilIface]) ∧ Hid (IsB B b (Lib.byteCells (pre ++ s)) w') ∧ Below B w w' ∧ Hid (Kept3 n c visTk w w') := by
  refine (writeString_any B b _ ⟨s.toArray⟩ w h (by rw [Lib.byteCells_length, sizeL]; omega) hBw).mono ?_
  rintro e w' ⟨rfl, hU, hb, hk⟩
  refine ⟨rfl, ?_, hb, kept3_of h hb hk hn⟩
  show IsB _ _ _ _
  rw [Lib.byteCells_append, ← strCells_list s]
  exact .inr hU
theorem writeB (B b : Nat) (pre : List UInt8) (x : UInt8) (z : Int) (hz : z = x.toNat) (w : World) (h : IsB B b (Lib.byteCells pre) w) (hlen : pre.length + 1 ≤ 1099511627776) (hBw : B ≤ w.heap.size) (n c : Nat) (hn : n ≤ B) :
    Calls Tryd.prog 40 #[.pointer (some ⟨b, 0, none⟩), .int .u8 z] w fun e w' => e = .returned .nilIface ∧ Hid (IsB B b (Lib.byteCells (pre ++ [x])) w') ∧ Below B w w' ∧ Hid (Kept3 n c visTk w w') := by
  refine (writeByte_any B b _ z w h (by rw [Lib.byteCells_length]; omega) hBw).mono ?_
  rintro e w' ⟨rfl, hU, hb, hk⟩
  refine ⟨rfl, ?_, hb, kept3_of h hb hk hn⟩
  show IsB _ _ _ _
  rw [Lib.byteCells_append]
  subst hz
  exact .inr hU

set_option maxHeartbeats 1000000 in
set_option maxRecDepth 100000 in
theorem treeText_any (x : Tr) (a0 : Option Addr) (c0 : Nat) (w : World) (h0 : RD w (.slice a0 x.nodes.length c0) (slD Lay.node x.nodes)) (hw : Lay.tree.wt x ≤ 1048576) (hf : Lay.tree.fit x) (ht : PowIs w) :
    Calls Tryd.prog 18 #[.agg #[.slice a0 x.nodes.length c0]] w fun e w' => e = .returned (.string (resTreeText x)) ∧ Below w.heap.size w w' := by
  have HT : Hid (∀ W : World, Below w.heap.size w W → Calls Tryd.prog 33 #[.agg #[.slice a0 x.nodes.length c0]] W fun e w' => e = .returned (.bool (shapeB x.nodes)) ∧ Below W.heap.size W w') := fun W hW => treeShape_any x a0 c0 W (h0.later hW) hw hf
  have HNF : Hid (∀ p, NumIn (ndAt x.nodes p)) := fun p => numIn_at hf p
  have HLN : Hid (∀ vs, (List.flatMap (ndT x.nodes) vs).length ≤ 47 * vs.length) := flatMap_le hf
  have HP : Hid (∀ W : World, Below w.heap.size w W → PowIs W) := fun W hW => ht.later hW
  rw [Lay_tree_wt, Lay.wt_list] at hw
  have hlen : x.nodes.length ≤ 1048576 := by omega
  have hsum : Lay.node.sumL x.nodes ≤ 1048576 := by omega
  unfold resTreeText
  clear hf hw ht
  generalize x.nodes = ns at *
  refine (callsIn_wide (n := 0)).1 (callsIn_of_wp_marks Tryd.func18 rfl trivial ?_ rfl)
  simp only [Tryd.ntmps18, List.size_toArray, List.length_cons, List.length_nil, Nat.reduceAdd, Nat.reduceSub, Array.replicate_succ, Array.replicate_zero, List.push_toArray, List.append_toArray, List.nil_append, List.cons_append]
  have B0 := (Below.refl w.heap.size w).alloc (Nat.le_refl _) (.cells #[.slice a0 ns.length c0] 36)
  cases hsb : shapeB ns with
  | false =>
    have X := HT.out _ B0
    rw [hsb] at X
    gi_wp2_with (gi_at_call 33; refine (callsIn_wide.2 X).mono ?_; rintro e w1 ⟨rfl, hb1⟩)
    exact ⟨_, results_tmp rfl _ _ _, rfl, B0.trans (hb1.mono (by simp))⟩
  | true =>
    have X := HT.out _ B0
    rw [hsb] at X
    rw [if_pos rfl, show txtAt ns 0 = (visAt ns 0).flatMap (ndT ns) from rfl]
    have hs := shapeB_true.1 hsb
    gi_wp2_with (first
      | (gi_at_call 33; refine (callsIn_wide.2 X).mono ?_; rintro e w1 ⟨rfl, hb1⟩; obtain ⟨g1, l1⟩ := box_later hb1)
      | (gi_at_call 39; refine (callsIn_wide.2 (visits_any _ _ _ _)).mono ?_; rintro e w' ⟨rfl, rfl⟩))
    have hW1 : Below w.heap.size w w1 := B0.trans (hb1.mono (by simp))
    obtain ⟨Wz, hWz⟩ : ∃ Wz, (w1.alloc (.cells #[.pointer none, .slice none 0 0] 68)).alloc (.cells #[.slice a0 ns.length c0] 36) = Wz := ⟨_, rfl⟩
    rw [hWz]
    have bz : Below w.heap.size w Wz := by rw [← hWz]; exact (hW1.alloc (by omega) _).alloc (by simp; omega) _
    have hz1' : w1.heap.size + 2 ≤ Wz.heap.size := by rw [← hWz]; simp
    have ho0 : Hid (IsB w1.heap.size w1.heap.size (Lib.byteCells []) Wz) := by
      rw [← hWz]
      have h1 : IsB w1.heap.size w1.heap.size [] (w1.alloc (.cells #[.pointer none, .slice none 0 0] 68)) := .of (Lib.fresh_isBuilder _ _ w1)
      exact h1.keptR ((Below.refl _ _).alloc (Nat.le_refl _) _)
    have ht0 : Wz.heap[w1.heap.size + 1]? = some (.cells #[.slice a0 ns.length c0] 36) := by
      rw [← hWz]
      have := heap_alloc_new (w1.alloc (.cells #[.pointer none, .slice none 0 0] 68)) (.cells #[.slice a0 ns.length c0] 36)
      simpa using this
    have g2 : Wz.cell? ⟨w.heap.size, 0, none⟩ = some (.slice a0 ns.length c0) := by
      rw [← hWz]
      exact ((((Below.refl w1.heap.size w1).alloc (Nat.le_refl _) _).alloc (by simp) _).cell (p := ⟨w.heap.size, 0, none⟩) l1).trans g1
    have hseq := visits_seq ns hs hlen hsum w a0 c0 h0 Wz bz (w1.heap.size + 1) ht0
    have HVL : Hid ((visAt ns 0).length ≤ 2 * ns.length) := visits_le hs
    clear hWz X hb1 g1 ht0
    refine wpIn_rangeT (gf := 69) (lb := #[.pointer (some ⟨w1.heap.size + 1, 0, none⟩)]) rfl (enters_of Tryd.func69 (by kernel_rfl) rfl) hseq (Below.refl _ _) (by omega) (fun _ => rfl)
      (fun pre W' => Hid (IsB w1.heap.size w1.heap.size (Lib.byteCells (pre.flatMap (ndT ns))) W') ∧ Below w.heap.size w W' ∧ Wz.heap.size ≤ W'.heap.size ∧ Below w1.heap.size Wz W')
      (fun _ _ _ => False)
      ?hI (fun _ _ _ _ hx _ => hx) ⟨ho0, bz, Nat.le_refl _, Below.refl _ _⟩
      (fun x a' W' => ∃ Bv, W'.heap[Bv]? = some (.cells #[.int .i64 (x.1 : Int), .bool x.2] 73) ∧ a' = { tmps := #[.agg #[.slice a0 ns.length c0], .pointer (some ⟨w.heap.size, 0, none⟩), .string ⟨#[]⟩, .pointer (some ⟨w1.heap.size, 0, none⟩), .pointer (some ⟨Bv, 0, none⟩), .agg #[.slice a0 ns.length c0], .bool true, .bool false, .agg #[.slice a0 ns.length c0], .func (.func 69) #[] #[.pointer (some ⟨w1.heap.size + 1, 0, none⟩)], .agg #[.int .i64 (x.1 : Int), .bool x.2], undef, undef, undef, undef, undef, undef, undef, undef, undef, undef, undef, undef, undef, undef, undef, undef], defers := [] }) ?hAx ?assign ?body ?done ?stop
    case hI =>
      rintro pre W' W'' ⟨ho, hb, hsz, hbz⟩ hw
      exact ⟨ho.out.stays hw (by unfold visTv; decide) (by unfold visTv; decide), hb.trans (within_below hw (by omega) (by omega)), Nat.le_trans hsz hw.size, hbz.trans (within_below hw (by omega) (by omega))⟩
    case hAx =>
      rintro x a' W' l' r r' ⟨Bv, h1, h2⟩ hr
      exact ⟨Bv, (World.putObj_heap_other (fun e => by subst e; rw [h1] at hr; cases hr)).trans h1, h2⟩
    case assign =>
      intro l2 m pre x W' K2 hI hp hK2
      unfold vzEnc
      gi_wp2
      exact hK2 _ _ ((Below.refl _ _).alloc (Nat.le_refl _) _) ⟨W'.heap.size, heap_alloc_new W' _, rfl⟩
    case body =>
      rintro l2 m pre ⟨p, b⟩ a' W' hl2 hl3 ⟨HB, hb, hsz, hbz⟩ ⟨Bv, hbv, rfl⟩ hp
      obtain ⟨hpl, hpt⟩ := vis_lt hs _ 0 (List.length_pos_iff.2 hs.1) (p, b) (hp.subset (by simp))
      have hpre : pre.length ≤ 2 * ns.length := by
        have h1 := hp.length_le
        have h2 := HVL.out
        rw [List.length_append] at h1
        omega
      have hll := HLN.out pre
      have hlm : (pre.flatMap (ndT ns)).length ≤ 100000000 := by omega
      have HNX : Hid ((pre ++ [(p, b)]).flatMap (ndT ns) = pre.flatMap (ndT ns) ++ ndT ns (p, b)) := by show _ = _; rw [List.flatMap_append, List.flatMap_singleton]
      have hbl : Bv < W'.heap.size := (Array.getElem?_eq_some_iff.1 hbv).1
      have hww : w.heap.size ≤ W'.heap.size := by omega
      have hw1 : w1.heap.size ≤ W'.heap.size := by omega
      have qv0 : W'.cell? ⟨Bv, 0, none⟩ = some (.int .i64 (p : Int)) := by simp [World.cell?, hbv]
      have qv1 : W'.cell? ⟨Bv, 1, none⟩ = some (.bool b) := by simp [World.cell?, hbv]
      have qG : W'.cell? ⟨w.heap.size, 0, none⟩ = some (.slice a0 ns.length c0) := (hbz.cell (p := ⟨w.heap.size, 0, none⟩) l1).trans g2
      clear HLN HVL hll hp hpt
      cases b with
      | true =>
        have HND : Hid (ndT ns (p, true) = [41]) := rfl
        rw [HND.out] at HNX
        generalize pre.flatMap (ndT ns) = tx at *
        gi_wp2_with (gi_at_call 40; refine (callsIn_wide.2 (writeB w1.heap.size w1.heap.size tx 41 41 rfl _ HB.out (by omega) hw1 w.heap.size Wz.heap.size (by omega))).mono ?_; rintro e w5 ⟨rfl, HB5, hb5, hk5⟩)
        exact ⟨hk5.out, by show IsB _ _ _ _; rw [HNX.out]; exact HB5.out, hb.trans (hb5.mono (by omega)), by have := hb5.size; omega, hbz.trans hb5⟩
      | false =>
        obtain ⟨b1, o1, rfl, hb1, ⟨p0, p1, p2, p3⟩, a1, c1, p4, r1⟩ := h0.atNode hpl
        have p0' := (hb.cell (p := ⟨b1, _, none⟩) hb1).trans p0
        have p1' := (hb.cell (p := ⟨b1, _, none⟩) hb1).trans p1
        have p2' := (hb.cell (p := ⟨b1, _, none⟩) hb1).trans p2
        have p3' := (hb.cell (p := ⟨b1, _, none⟩) hb1).trans p3
        have p4' := (hb.cell (p := ⟨b1, _, none⟩) hb1).trans p4
        have hpI : (p : Int) < (ns.length : Int) := by omega
        have hb1W : b1 < W'.heap.size := by omega
        have HN : Hid (∀ W, Below w.heap.size w W → Calls Tryd.prog 42 #[.agg #[.int .i64 ns[p].kind, .int .i64 ns[p].sym, .int .i64 ns[p].alt, .int .i64 ns[p].pl, .slice a1 ns[p].kids.length c1]] W fun e w' => e = .returned (.string ⟨(headT (ndAt ns p)).toArray⟩) ∧ Below W.heap.size W w') := fun W hW => by
          have h1 := HNF.out p
          rw [ndAt_get hpl] at h1 ⊢
          exact headText_any ns[p] a1 c1 W h1 (HP.out W hW)
        have hhl : (headT (ndAt ns p)).length ≤ 46 := headT_le (HNF.out p)
        clear HNF HT p0 p1 p2 p3 p4 r1 h0 HP
        by_cases hp0 : 0 < p
        · have HND : Hid (ndT ns (p, false) = [32] ++ headT (ndAt ns p)) := by show _ = _; unfold ndT; rw [if_neg (by simp), if_pos hp0]
          rw [HND.out, ← List.append_assoc] at HNX
          clear HND
          have hpI0 : (0 : Int) < (p : Int) := by omega
          generalize headT (ndAt ns p) = hx at *
          generalize ns[p] = y at *
          generalize pre.flatMap (ndT ns) = tx at *
          gi_wp2_with fail
          refine (callsIn_wide.2 (writeB w1.heap.size w1.heap.size tx 32 32 rfl _ HB.out (by omega) hw1 w.heap.size Wz.heap.size (by omega))).mono ?_
          rintro e w5 ⟨rfl, HB5, hb5, hk5⟩
          have hv5 := hk5.out.typed _ _ _ _ (.inl (.inl rfl)) hbv
          have qv5 : w5.cell? ⟨Bv, 0, none⟩ = some (.int .i64 (p : Int)) := by simp [World.cell?, hv5]
          have hbl5 := (Array.getElem?_eq_some_iff.1 hv5).1
          have hs5 := hb5.size
          have qG5 := (hb5.cell (p := ⟨w.heap.size, 0, none⟩) l1).trans qG
          have s0 := (hb5.cell (p := ⟨b1, _, none⟩) (by show b1 < _; omega)).trans p0'
          have s1 := (hb5.cell (p := ⟨b1, _, none⟩) (by show b1 < _; omega)).trans p1'
          have s2 := (hb5.cell (p := ⟨b1, _, none⟩) (by show b1 < _; omega)).trans p2'
          have s3 := (hb5.cell (p := ⟨b1, _, none⟩) (by show b1 < _; omega)).trans p3'
          have s4 := (hb5.cell (p := ⟨b1, _, none⟩) (by show b1 < _; omega)).trans p4'
          have hb1w5 : b1 < w5.heap.size := by omega
          have hww5 : w.heap.size < w5.heap.size := by omega
          clear qv0 qv1 qG p0' p1' p2' p3' p4' hbv
          gi_wp2_with fail
          refine (callsIn_wide.2 (HN.out _ (hb.trans (hb5.mono (by omega))))).mono ?_
          rintro e w6 ⟨rfl, hb6⟩
          gi_wp2_with fail
          refine (callsIn_wide.2 (writeK w1.heap.size w1.heap.size (tx ++ [32]) hx _ (HB5.out.keptR hb6) (by simp; omega) (by have := hb6.size; omega) w.heap.size Wz.heap.size (by omega))).mono ?_
          rintro e w7 ⟨rfl, HB7, hb7, hk7⟩
          have hs6 := hb6.size
          gi_wp2
          exact ⟨hk5.out.trans ((Kept3.of_below hb6 (by omega)).trans hk7.out), by show IsB _ _ _ _; rw [HNX.out]; exact HB7.out, hb.trans ((hb5.mono (by omega)).trans ((hb6.mono (by omega)).trans (hb7.mono (by omega)))), by have := hb7.size; omega, hbz.trans (hb5.trans ((hb6.mono (by omega)).trans hb7))⟩
        · have HND : Hid (ndT ns (p, false) = headT (ndAt ns p)) := by show _ = _; unfold ndT; rw [if_neg (by simp), if_neg hp0, List.nil_append]
          rw [HND.out] at HNX
          clear HND
          have hpI0 : ¬ (0 : Int) < (p : Int) := by omega
          generalize headT (ndAt ns p) = hx at *
          generalize ns[p] = y at *
          generalize pre.flatMap (ndT ns) = tx at *
          have hpz : p = 0 := by omega
          clear hp0 hpI0
          subst hpz
          simp only [Nat.zero_mul, Nat.add_zero] at p0' p1' p2' p3' p4'
          gi_wp2_with fail
          refine (callsIn_wide.2 (HN.out _ hb)).mono ?_
          rintro e w6 ⟨rfl, hb6⟩
          gi_wp2_with fail
          refine (callsIn_wide.2 (writeK w1.heap.size w1.heap.size tx hx _ (HB.out.keptR hb6) (by omega) (by have := hb6.size; omega) w.heap.size Wz.heap.size (by omega))).mono ?_
          rintro e w7 ⟨rfl, HB7, hb7, hk7⟩
          gi_wp2
          have hs6 := hb6.size
          exact ⟨(Kept3.of_below hb6 (by omega)).trans hk7.out, by show IsB _ _ _ _; rw [HNX.out]; exact HB7.out, hb.trans ((hb6.mono (by omega)).trans (hb7.mono (by omega))), by have := hb7.size; omega, hbz.trans ((hb6.mono (by omega)).trans hb7)⟩
    case done =>
      rintro D W' hD ⟨HB, hb, hsz, hbz⟩ hd
      gi_wp2_with (gi_at_call 43; refine (callsIn_wide.2 (Tryd.Builder_String_any_k w1.heap.size w1.heap.size _ _ HB.out (by omega))).mono ?_; rintro e w2 ⟨rfl, _, hb2, hk2⟩)
      have hd2 : w2.heap[D]? = some (.deferred (some [])) := hk2 D _ hd (fun e => by
        cases e
        obtain ⟨_, p, v, hp⟩ := HB.out.head
        rw [hd] at hp
        cases hp) (fun c fz e => by cases e)
      refine leaves_marks (B := Wz.heap.size) [D] w2 ⟨by simp, fun x hx => ?_⟩ fun w' hw' => ⟨_, results_tmp rfl _ _ _, rfl, ?_⟩
      · simp at hx; subst hx; exact ⟨hD, hd2⟩
      · have hst : Within w2 w' (Theirs (fun _ => False) Wz.heap.size w2) := hw'.mono (fun k hk => ⟨hk.1, hk.2.elim fun o ho => ⟨o, ho.1, .inl ho.2⟩⟩)
        have := hb2.size
        exact hb.trans ((hb2.mono (by omega)).trans (within_below hst (by omega) (by omega)))
    case stop =>
      rintro D c pre x W' _ _ h _
      exact h.elim
end Go.Proofs.YtghpekijimoicaaDoor
namespace Go.Proofs.YtghpekijimoicaaDoor
open Go.RowKit

section
variable {α : Type} (cnt : α → Nat) (mk : Nat → α → α)
def cntL : List α → Nat
  | [] => 0
  | x :: xs => cnt x + cntL xs
def mkL : Nat → List α → List α
  | _, [] => []
  | k, x :: xs => mk k x :: mkL (k + cnt x) xs
theorem mkL_length (k : Nat) (xs : List α) : (mkL cnt mk k xs).length = xs.length := by
  induction xs generalizing k with
  | nil => rfl
  | cons x xs ih => simp [mkL, ih]
theorem cntL_append (xs ys : List α) : cntL cnt (xs ++ ys) = cntL cnt xs + cntL cnt ys := by
  induction xs with
  | nil => simp [cntL]
  | cons x xs ih => simp [cntL, ih]; omega
theorem mkL_append (k : Nat) (xs ys : List α) : mkL cnt mk k (xs ++ ys) = mkL cnt mk k xs ++ mkL cnt mk (k + cntL cnt xs) ys := by
  induction xs generalizing k with
  | nil => simp [mkL, cntL]
  | cons x xs ih => simp [mkL, cntL, ih, Nat.add_assoc]
theorem cntL_take {xs : List α} {j : Nat} (h : j < xs.length) : cntL cnt (xs.take (j + 1)) = cntL cnt (xs.take j) + cnt xs[j] := by
  rw [List.take_succ_eq_append_getElem h, cntL_append]; simp [cntL]
theorem cntL_take_le (xs : List α) (j : Nat) : cntL cnt (xs.take j) ≤ cntL cnt xs := by
  have h : cntL cnt xs = cntL cnt (xs.take j) + cntL cnt (xs.drop j) := by rw [← cntL_append, List.take_append_drop]
  omega
theorem mid_length {k j : Nat} {xs : List α} (h : j ≤ xs.length) : (mkL cnt mk k (xs.take j) ++ xs.drop j).length = xs.length := by
  rw [List.length_append, mkL_length, List.length_take, List.length_drop]; omega
theorem mid_get {k j : Nat} {xs : List α} (h : j < xs.length) (h' : j < (mkL cnt mk k (xs.take j) ++ xs.drop j).length) : (mkL cnt mk k (xs.take j) ++ xs.drop j)[j] = xs[j] := by
  have hl : (mkL cnt mk k (xs.take j)).length = j := by rw [mkL_length, List.length_take]; omega
  rw [List.getElem_append_right (by omega)]
  simp only [hl, Nat.sub_self, List.getElem_drop, Nat.add_zero]
theorem mid_set {k j : Nat} {xs : List α} (h : j < xs.length) : (mkL cnt mk k (xs.take j) ++ xs.drop j).set j (mk (k + cntL cnt (xs.take j)) xs[j]) = mkL cnt mk k (xs.take (j + 1)) ++ xs.drop (j + 1) := by
  have hl : (mkL cnt mk k (xs.take j)).length = j := by rw [mkL_length, List.length_take]; omega
  rw [List.set_append_right _ _ (by omega), hl, Nat.sub_self, List.drop_eq_getElem_cons h, List.set_cons_zero, List.take_succ_eq_append_getElem h, mkL_append]
  simp [mkL]
theorem mkL_get {k j : Nat} {xs : List α} (h : j < xs.length) (h' : j < (mkL cnt mk k xs).length) : (mkL cnt mk k xs)[j] = mk (k + cntL cnt (xs.take j)) xs[j] := by
  have hs : xs = xs.take j ++ xs[j] :: xs.drop (j + 1) := by rw [← List.drop_eq_getElem_cons h, List.take_append_drop]
  have hl : (mkL cnt mk k (xs.take j)).length = j := by rw [mkL_length, List.length_take]; omega
  have e : (mkL cnt mk k xs)[j]? = some (mk (k + cntL cnt (xs.take j)) xs[j]) := by
    conv => lhs; rw [hs]
    rw [mkL_append, List.getElem?_append_right (by omega), hl, Nat.sub_self, mkL]; rfl
  rw [List.getElem?_eq_getElem h'] at e
  exact Option.some.inj e
theorem cntL_le {L : Lay α} (h : ∀ x, cnt x ≤ L.wt x + 1) (xs : List α) : cntL cnt xs ≤ (Lay.list L).wt xs := by
  rw [Lay.wt_list]
  induction xs with
  | nil => simp [cntL]
  | cons x xs ih => have := h x; simp only [cntL, List.length_cons, Lay.sumL]; omega
end
def cntInt : Int → Nat := fun _ => 1
def mkInt : Nat → Int → Int := fun k _ => (k : Int)
def cntIntS : List Int → Nat := cntL cntInt
def mkIntS : Nat → List Int → List Int := mkL cntInt mkInt
theorem cntIntS_eq (xs : List Int) : cntIntS xs = xs.length := by
  unfold cntIntS
  induction xs with
  | nil => rfl
  | cons x xs ih => simp [cntL, cntInt, ih]; omega
theorem cntIntS_le (xs : List Int) : cntIntS xs ≤ (Lay.list Lay.int).wt xs := cntL_le _ (fun _ => by simp [cntInt]) xs
theorem mkIntS_marks (k : Nat) (xs : List Int) : mkIntS k xs = marks (k : Int) xs.length := by
  apply List.ext_getElem?
  intro i
  by_cases h : i < xs.length
  · rw [marks_get _ _ _ h, List.getElem?_eq_getElem (by rw [mkIntS, mkL_length]; exact h)]
    simp only [mkIntS]
    rw [mkL_get cntInt mkInt h]
    have : cntL cntInt (xs.take i) = i := by have := cntIntS_eq (xs.take i); rw [cntIntS] at this; rw [this, List.length_take]; omega
    simp [mkInt, this]
  · rw [List.getElem?_eq_none (by rw [mkIntS, mkL_length]; omega), List.getElem?_eq_none (by rw [marks_length]; omega)]

/-- An integer stored into an own list of integers. -/
theorem OD.intStore {w : World} {base g n c : Nat} {M : List Int} {S : Nat → Prop} (h : OD w base (.slice (some ⟨g, 0, none⟩) n c) (slD Lay.int M) S) {i : Nat} (hi : i < M.length) (x : Int) :
    OD (w.setCell ⟨g, i, none⟩ (.int .i64 x)) base (.slice (some ⟨g, 0, none⟩) n c) (slD Lay.int (M.set i x)) S ∧ Within w (w.setCell ⟨g, i, none⟩ (.int .i64 x)) S ∧ (∃ z, w.cell? ⟨g, i, none⟩ = some z) ∧ w.frozen? ⟨g, i, none⟩ = false := by
  have := OD.elemStore Lay.int.len h hi (j := 0) (by decide) (.int .i64 M[i]) (.int .i64 x) (by simp [Lay.int]) (by simp [Lay.int]) x (by simp [Lay.int])
  have e : i * Lay.int.sz + 0 = i := by show i * 1 + 0 = i; omega
  rw [e] at this
  exact this
/-- What lies behind place i of an own list of lists. -/
theorem OD.listInto {α : Type} {L : Lay α} {w : World} {base g n c : Nat} {M : List (List α)} {S : Nat → Prop} (h : OD w base (.slice (some ⟨g, 0, none⟩) n c) (slD (Lay.list L) M) S) {i : Nat} (hi : i < M.length) :
    ∃ a' c' T, w.cell? ⟨g, i, none⟩ = some (.slice a' M[i].length c') ∧ OD w base (.slice a' M[i].length c') (slD L M[i]) T ∧ (∀ k, T k → S k) ∧
      ∀ w' xs, OD w' base (.slice a' M[i].length c') (slD L xs) T → Within w w' T → OD w' base (.slice (some ⟨g, 0, none⟩) n c) (slD (Lay.list L) (M.set i xs)) S := by
  obtain ⟨u, T, hc, ho, hT, _, hput⟩ := OD.elemInto (Lay.list L).len h hi (j := 0) (by show 0 < 1; decide) (by show 0 < 1; decide)
  have e : i * (Lay.list L).sz + 0 = i := by show i * 1 + 0 = i; omega
  rw [e] at hc
  have ho' : OD w base u (slD L M[i]) T := ho
  obtain ⟨a', c', rfl, _⟩ := OD.shapeL ho'
  exact ⟨a', c', T, hc, ho', hT, fun w' xs h' hw => hput w' (slD L xs) xs rfl h' hw⟩

/-- The values of E, each a few cells, all made by the call, in the blocks S, no block twice. -/
def Ents (w : World) (base : Nat) : List (List Value × List Dat) → (Nat → Prop) → Prop
  | [], S => ∀ k, ¬ S k
  | x :: E, S => ∃ T U, Cells w base x.1 x.2 T ∧ Ents w base E U ∧ (∀ k, T k → ¬ U k) ∧ ∀ k, S k ↔ T k ∨ U k
theorem Ents.kept {w w' : World} {base : Nat} {V : Nat → Prop} (hw : Within w w' V) : ∀ {E : List (List Value × List Dat)} {S : Nat → Prop}, Ents w base E S → (∀ k, S k → ¬ V k) → Ents w' base E S
  | [], _, h, _ => h
  | _ :: _, _, ⟨T, U, hT, hU, hd, hS⟩, hn => ⟨T, U, hT.kept hw (fun k hk => hn k ((hS k).2 (.inl hk))), hU.kept hw (fun k hk => hn k ((hS k).2 (.inr hk))), hd, hS⟩
theorem Ents.lt {w : World} {base : Nat} : ∀ {E : List (List Value × List Dat)} {S : Nat → Prop}, Ents w base E S → ∀ k, S k → base ≤ k ∧ k < w.heap.size
  | [], _, h, k, hk => absurd hk (h k)
  | _ :: _, _, ⟨_, _, hT, hU, _, hS⟩, k, hk => by
    rcases (hS k).1 hk with hk | hk
    · exact hT.lt k hk
    · exact hU.lt k hk
theorem Ents.at {w : World} {base : Nat} : ∀ {E : List (List Value × List Dat)} {S : Nat → Prop}, Ents w base E S → ∀ x ∈ E, ∀ j (hj : j < x.1.length) (hj' : j < x.2.length), RD w x.1[j] x.2[j]
  | [], _, _, _, hx, _, _, _ => by simp at hx
  | y :: E, _, ⟨_, _, hT, hU, _, _⟩, x, hx, j, hj, hj' => by
    rcases List.mem_cons.1 hx with rfl | hx
    · exact hT.rdAt j hj hj'
    · exact hU.at x hx j hj hj'
/-- One of the values, and how all are put together again when it alone has turned. -/
theorem Ents.turn {w : World} {base : Nat} : ∀ {P Q : List (List Value × List Dat)} {x : List Value × List Dat} {S : Nat → Prop}, Ents w base (P ++ x :: Q) S →
    ∃ T, Cells w base x.1 x.2 T ∧ (∀ k, T k → S k) ∧ ∀ w' ds, Cells w' base x.1 ds T → Within w w' T → Ents w' base (P ++ (x.1, ds) :: Q) S
  | [], _, _, _, ⟨T, U, hT, hU, hd, hS⟩ => ⟨T, hT, fun k hk => (hS k).2 (.inl hk), fun _ _ h' hw => ⟨T, U, h', hU.kept hw (fun k hk hk2 => hd k hk2 hk), hd, hS⟩⟩
  | _ :: _, _, _, _, ⟨T, U, hT, hU, hd, hS⟩ => by
    obtain ⟨T', h1, h2, h3⟩ := hU.turn
    exact ⟨T', h1, fun k hk => (hS k).2 (.inr (h2 k hk)), fun w' ds h' hw => ⟨T, U, hT.kept hw (fun k hk hk2 => hd k hk (h2 k hk2)), h3 w' ds h' hw, hd, hS⟩⟩
/-- One of the values is let go. -/
theorem Ents.drop {w : World} {base : Nat} : ∀ {P Q : List (List Value × List Dat)} {x : List Value × List Dat} {S : Nat → Prop}, Ents w base (P ++ x :: Q) S → ∃ S', Ents w base (P ++ Q) S' ∧ ∀ k, S' k → S k
  | [], _, _, _, ⟨_, U, _, hU, _, hS⟩ => ⟨U, hU, fun k hk => (hS k).2 (.inr hk)⟩
  | _ :: _, _, _, _, ⟨T, U, hT, hU, hd, hS⟩ => by
    obtain ⟨S', h1, h2⟩ := hU.drop
    exact ⟨fun k => T k ∨ S' k, ⟨T, S', hT, h1, fun k hk hk2 => hd k hk (h2 k hk2), fun _ => Iff.rfl⟩, fun k hk => (hS k).2 (hk.imp id (h2 k))⟩

/-- What a walk holds that began at w0: nothing old has turned, the boxes B stand, the values E are as told; nothing lies in anything else. -/
structure Holds (w0 w : World) (B : List (Nat × List Value)) (E : List (List Value × List Dat)) : Prop where
  below : Below w0.heap.size w0 w
  boxes : Keeps w B
  boxlt : ∀ p ∈ B, p.1 < w.heap.size
  ents : ∃ S, Ents w w0.heap.size E S ∧ ∀ p ∈ B, ¬ S p.1
theorem Holds.start (w : World) : Holds w w [] [] := ⟨Below.refl _ _, Keeps.nil w, fun _ h => by simp at h, fun _ => False, fun _ h => h, fun _ h => by simp at h⟩
section
variable {w0 w w' : World} {B : List (Nat × List Value)} {E P Q : List (List Value × List Dat)}
theorem Holds.size (h : Holds w0 w B E) : w0.heap.size ≤ w.heap.size := h.below.size
theorem Holds.later (h : Holds w0 w B E) (hb : Below w.heap.size w w') : Holds w0 w' B E := by
  obtain ⟨S, h1, h2⟩ := h.ents
  exact ⟨h.below.trans (hb.mono h.size), h.boxes.later hb, fun p hp => Nat.lt_of_lt_of_le (h.boxlt p hp) hb.size, S, h1.kept (Within.of_below hb (fun _ => False)) (fun _ _ h => h), h2⟩
theorem Holds.drew (h : Holds w0 w B E) : Holds w0 w.drew B E := h.later (Below.drew (Below.refl _ _))
theorem Holds.box (h : Holds w0 w B E) (vs : List Value) (t : TypeId) : Holds w0 (w.alloc (.cells vs.toArray t)) ((w.heap.size, vs) :: B) E := by
  obtain ⟨S, h1, h2⟩ := h.ents
  have hb : Below w.heap.size w (w.alloc (.cells vs.toArray t)) := (Below.refl _ _).alloc (Nat.le_refl _) _
  refine ⟨h.below.trans (hb.mono h.size), h.boxes.box vs t, fun p hp => ?_, S, h1.kept (Within.of_below hb (fun _ => False)) (fun _ _ h => h), fun p hp => ?_⟩
  · rcases List.mem_cons.1 hp with rfl | hp
    · simp
    · exact Nat.lt_of_lt_of_le (h.boxlt p hp) hb.size
  · rcases List.mem_cons.1 hp with rfl | hp
    · intro hk; have := (h1.lt _ hk).2; simp at this
    · exact h2 p hp
theorem Holds.push (h : Holds w0 w B E) (hb : Below w.heap.size w w') {vs : List Value} {ds : List Dat} {T : Nat → Prop} (hc : Cells w' w.heap.size vs ds T) : Holds w0 w' B ((vs, ds) :: E) := by
  obtain ⟨S0, h10, h20⟩ := h.ents
  have hS0 : Ents w' w0.heap.size E S0 := h10.kept (Within.of_below hb (fun _ => False)) (fun _ _ h => h)
  refine ⟨(h.later hb).below, (h.later hb).boxes, (h.later hb).boxlt, fun k => T k ∨ S0 k, ⟨T, S0, hc.base h.size, hS0, fun k hk hk2 => ?_, fun _ => Iff.rfl⟩, fun p hp hk => ?_⟩
  · have := (hc.lt k hk).1; have := (h10.lt k hk2).2; omega
  · rcases hk with hk | hk
    · have := (hc.lt _ hk).1; have := h.boxlt p hp; omega
    · exact h20 p hp hk
theorem Cells.one {w : World} {base : Nat} {v : Value} {d : Dat} {T : Nat → Prop} (h : OD w base v d T) : Cells w base [v] [d] T := Cells.last [] h
theorem Cells.od {w : World} {base : Nat} {v : Value} {d : Dat} {T : Nat → Prop} (h : Cells w base [v] [d] T) : OD w base v d T := by
  obtain ⟨G, _, hr, _, hT⟩ := h
  have e : T = G 0 := by
    funext k
    apply propext
    rw [hT k]
    exact ⟨fun ⟨i, hi, hk⟩ => by have : i = 0 := by simpa using hi
                                 exact this ▸ hk, fun hk => ⟨0, by simp, hk⟩⟩
  rw [e]
  exact hr 0 (by simp) (by simp)
theorem Holds.rd (h : Holds w0 w B E) (x : List Value × List Dat) (hx : x ∈ E) (j : Nat) (hj : j < x.1.length) (hj' : j < x.2.length) : RD w x.1[j] x.2[j] := by
  obtain ⟨S, h1, _⟩ := h.ents
  exact h1.at x hx j hj hj'
/-- A value of the walk's own, handed to what turns it alone. -/
theorem Holds.turn {x : List Value × List Dat} (h : Holds w0 w B (P ++ x :: Q)) : ∃ T, Cells w w0.heap.size x.1 x.2 T ∧ ∀ w' ds, Cells w' w0.heap.size x.1 ds T → Within w w' T → Holds w0 w' B (P ++ (x.1, ds) :: Q) := by
  obtain ⟨S, h1, h2⟩ := h.ents
  obtain ⟨T, g1, g2, g3⟩ := h1.turn
  refine ⟨T, g1, fun w' ds hc hw => ⟨hw.below h.below (fun k hk => (g1.lt k hk).1), fun p hp j hj => ?_, fun p hp => Nat.lt_of_lt_of_le (h.boxlt p hp) hw.size, S, g3 w' ds hc hw, h2⟩⟩
  have c := h.boxes p hp j hj
  have e := hw.block p.1 (h.boxlt p hp) (fun hk => h2 p hp (g2 _ hk))
  rw [← c]
  simp only [World.cell?, e]
theorem Holds.drop {x : List Value × List Dat} (h : Holds w0 w B (P ++ x :: Q)) : Holds w0 w B (P ++ Q) := by
  obtain ⟨S, h1, h2⟩ := h.ents
  obtain ⟨S', g1, g2⟩ := h1.drop
  exact ⟨h.below, h.boxes, h.boxlt, S', g1, fun p hp hk => h2 p hp (g2 _ hk)⟩
theorem Holds.cell (h : Holds w0 w B E) (p : Nat × List Value) (hp : p ∈ B) (j : Nat) (hj : j < p.2.length) : w.cell? ⟨p.1, j, none⟩ = some p.2[j] := h.boxes p hp j hj
end
end Go.Proofs.YtghpekijimoicaaDoor
namespace Go.Proofs.YtghpekijimoicaaDoor
open Go.RowKit

end Go.Proofs.YtghpekijimoicaaDoor
namespace Go.Proofs.YtghpekijimoicaaDoor
open Go.RowKit

def cntNode (x : Nd) : Nat := 4 + cntIntS x.kids
def mkNode (k : Nat) (x : Nd) : Nd := ⟨(k : Int), ((k + 1 : Nat) : Int), ((k + 2 : Nat) : Int), ((k + 3 : Nat) : Int), mkIntS (k + 4) x.kids⟩
def cntNodeS : List Nd → Nat := cntL cntNode
def mkNodeS : Nat → List Nd → List Nd := mkL cntNode mkNode
theorem cntNode_le (x : Nd) : cntNode x ≤ 5 * (Lay.node.wt x + 1) := by
  have := cntIntS_le x.kids
  rw [Lay_node_wt]
  unfold cntNode
  omega
theorem cntNodeS_le (xs : List Nd) : cntNodeS xs ≤ 5 * (Lay.list Lay.node).wt xs := by
  rw [Lay.wt_list]
  unfold cntNodeS
  induction xs with
  | nil => simp [cntL]
  | cons x xs ih => have := cntNode_le x; simp only [cntL, List.length_cons, Lay.sumL]; omega
theorem cntNodeS_room {xs : List Nd} {j k M : Nat} (hlt : j < xs.length) (hk : k + 5 * (xs.length + Lay.node.sumL xs) ≤ M) : k + cntNodeS (xs.take j) + 5 * (Lay.node.wt xs[j] + 1) ≤ M := by
  have h1 := cntNodeS_le (xs.take j)
  rw [Lay.wt_list, List.length_take] at h1
  have h2 := Lay.sumL_take Lay.node hlt
  have h3 := Lay.sumL_take_le Lay.node xs (j + 1)
  have h4 : min j xs.length = j := by omega
  rw [h4] at h1
  omega
theorem OD.markNode {w : World} {base g n c : Nat} {M : List Nd} {S : Nat → Prop} (h : OD w base (.slice (some ⟨g, 0, none⟩) n c) (slD Lay.node M) S) {i : Nat} (hi : i < M.length) (v0 v1 v2 v3 : Int) :
    ((∃ z, w.cell? ⟨g, i * 5, none⟩ = some z) ∧ w.frozen? ⟨g, i * 5, none⟩ = false) ∧ ((∃ z, (w.setCell ⟨g, i * 5, none⟩ (.int .i64 v0)).cell? ⟨g, i * 5 + 1, none⟩ = some z) ∧ (w.setCell ⟨g, i * 5, none⟩ (.int .i64 v0)).frozen? ⟨g, i * 5 + 1, none⟩ = false) ∧ ((∃ z, ((w.setCell ⟨g, i * 5, none⟩ (.int .i64 v0)).setCell ⟨g, i * 5 + 1, none⟩ (.int .i64 v1)).cell? ⟨g, i * 5 + 2, none⟩ = some z) ∧ ((w.setCell ⟨g, i * 5, none⟩ (.int .i64 v0)).setCell ⟨g, i * 5 + 1, none⟩ (.int .i64 v1)).frozen? ⟨g, i * 5 + 2, none⟩ = false) ∧ ((∃ z, (((w.setCell ⟨g, i * 5, none⟩ (.int .i64 v0)).setCell ⟨g, i * 5 + 1, none⟩ (.int .i64 v1)).setCell ⟨g, i * 5 + 2, none⟩ (.int .i64 v2)).cell? ⟨g, i * 5 + 3, none⟩ = some z) ∧ (((w.setCell ⟨g, i * 5, none⟩ (.int .i64 v0)).setCell ⟨g, i * 5 + 1, none⟩ (.int .i64 v1)).setCell ⟨g, i * 5 + 2, none⟩ (.int .i64 v2)).frozen? ⟨g, i * 5 + 3, none⟩ = false) ∧ ∃ a1 c1 T, ((((w.setCell ⟨g, i * 5, none⟩ (.int .i64 v0)).setCell ⟨g, i * 5 + 1, none⟩ (.int .i64 v1)).setCell ⟨g, i * 5 + 2, none⟩ (.int .i64 v2)).setCell ⟨g, i * 5 + 3, none⟩ (.int .i64 v3)).cell? ⟨g, i * 5 + 4, none⟩ = some (.slice a1 M[i].kids.length c1) ∧ OD ((((w.setCell ⟨g, i * 5, none⟩ (.int .i64 v0)).setCell ⟨g, i * 5 + 1, none⟩ (.int .i64 v1)).setCell ⟨g, i * 5 + 2, none⟩ (.int .i64 v2)).setCell ⟨g, i * 5 + 3, none⟩ (.int .i64 v3)) base (.slice a1 M[i].kids.length c1) (slD Lay.int M[i].kids) T ∧ (∀ k, T k → S k) ∧ ∀ w' ks, OD w' base (.slice a1 M[i].kids.length c1) (slD Lay.int ks) T → Within ((((w.setCell ⟨g, i * 5, none⟩ (.int .i64 v0)).setCell ⟨g, i * 5 + 1, none⟩ (.int .i64 v1)).setCell ⟨g, i * 5 + 2, none⟩ (.int .i64 v2)).setCell ⟨g, i * 5 + 3, none⟩ (.int .i64 v3)) w' T → OD w' base (.slice (some ⟨g, 0, none⟩) n c) (slD Lay.node (M.set i ⟨v0, v1, v2, v3, ks⟩)) S ∧ Within w w' S := by
  obtain ⟨O1, W1, z0, f0⟩ := OD.elemStore Lay.node.len h hi (j := 0) (by decide) (.int .i64 M[i].kind) (.int .i64 v0) (by simp [Lay.node]) (by simp [Lay.node]) ⟨v0, M[i].sym, M[i].alt, M[i].pl, M[i].kids⟩ (by simp [Lay.node])
  rw [show i * Lay.node.sz + 0 = i * 5 from rfl] at O1 W1 z0 f0
  have i1 : i < (M.set i ⟨v0, M[i].sym, M[i].alt, M[i].pl, M[i].kids⟩).length := by simpa using hi
  obtain ⟨O2, W2, z1, f1⟩ := OD.elemStore Lay.node.len O1 i1 (j := 1) (by decide) (.int .i64 M[i].sym) (.int .i64 v1) (by simp [Lay.node]) (by simp [Lay.node]) ⟨v0, v1, M[i].alt, M[i].pl, M[i].kids⟩ (by simp [Lay.node])
  rw [show i * Lay.node.sz + 1 = i * 5 + 1 from rfl] at O2 W2 z1 f1
  rw [List.set_set] at O2
  have i2 : i < (M.set i ⟨v0, v1, M[i].alt, M[i].pl, M[i].kids⟩).length := by simpa using hi
  obtain ⟨O3, W3, z2, f2⟩ := OD.elemStore Lay.node.len O2 i2 (j := 2) (by decide) (.int .i64 M[i].alt) (.int .i64 v2) (by simp [Lay.node]) (by simp [Lay.node]) ⟨v0, v1, v2, M[i].pl, M[i].kids⟩ (by simp [Lay.node])
  rw [show i * Lay.node.sz + 2 = i * 5 + 2 from rfl] at O3 W3 z2 f2
  rw [List.set_set] at O3
  have i3 : i < (M.set i ⟨v0, v1, v2, M[i].pl, M[i].kids⟩).length := by simpa using hi
  obtain ⟨O4, W4, z3, f3⟩ := OD.elemStore Lay.node.len O3 i3 (j := 3) (by decide) (.int .i64 M[i].pl) (.int .i64 v3) (by simp [Lay.node]) (by simp [Lay.node]) ⟨v0, v1, v2, v3, M[i].kids⟩ (by simp [Lay.node])
  rw [show i * Lay.node.sz + 3 = i * 5 + 3 from rfl] at O4 W4 z3 f3
  rw [List.set_set] at O4
  have i4 : i < (M.set i ⟨v0, v1, v2, v3, M[i].kids⟩).length := by simpa using hi
  have WW := (((W1.trans W2).trans W3).trans W4)
  obtain ⟨u, T, hc, ho, hT, _, hput⟩ := OD.elemInto Lay.node.len O4 i4 (j := 4) (by decide) (by simp [Lay.node])
  rw [show i * Lay.node.sz + 4 = i * 5 + 4 from rfl] at hc
  have ho2 : OD ((((w.setCell ⟨g, i * 5, none⟩ (.int .i64 v0)).setCell ⟨g, i * 5 + 1, none⟩ (.int .i64 v1)).setCell ⟨g, i * 5 + 2, none⟩ (.int .i64 v2)).setCell ⟨g, i * 5 + 3, none⟩ (.int .i64 v3)) base u (slD Lay.int M[i].kids) T := by simpa [Lay.node] using ho
  obtain ⟨a1, c1, rfl, _⟩ := OD.shapeL ho2
  refine ⟨⟨z0, f0⟩, ⟨z1, f1⟩, ⟨z2, f2⟩, ⟨z3, f3⟩, a1, c1, T, hc, ho2, hT, fun w' ks h1 hw => ⟨?_, WW.trans (hw.mono hT)⟩⟩
  have := hput w' (slD Lay.int ks) ⟨v0, v1, v2, v3, ks⟩ (by simp [Lay.node]) h1 hw
  rw [List.set_set] at this
  exact this

end Go.Proofs.YtghpekijimoicaaDoor
namespace Go.Proofs.YtghpekijimoicaaDoor
open Go.RowKit

def cntTree (x : Tr) : Nat := cntNodeS x.nodes
def mkTree (k : Nat) (x : Tr) : Tr := ⟨mkNodeS k x.nodes⟩
theorem cntTree_le (x : Tr) : cntTree x ≤ 5 * Lay.tree.wt x := cntNodeS_le x.nodes
theorem mkTree_len (k : Nat) (x : Tr) : (mkTree k x).nodes.length = x.nodes.length := mkL_length _ _ _ _

end Go.Proofs.YtghpekijimoicaaDoor
namespace Go.Proofs.YtghpekijimoicaaDoor

theorem laidVars_mem {P : Program} {w : World} {name : String} {d : DataW Unit} : ∀ {laid : List (String × DataW Unit)} {ps : List MemPlace}, DataW.LaidVars P w laid ps → (name, d) ∈ laid →
    ∃ g t cs fuel p, P.globalNamed name = some g ∧ (P.globals[g]?).map (·.type) = some t ∧ w.var? P name = some cs ∧ DataW.trod (fun _ => ()) P w 0 (fun _ => true) false fuel t cs.toList = some (d, p)
  | [], _, _, hm => by cases hm
  | (n, d') :: r, ps, h, hm => by
    obtain ⟨g, t, cs, fuel, p, q, h1, h2, h3, h4, h5, _⟩ := h
    rcases List.mem_cons.1 hm with e | hm
    · cases e
      exact ⟨g, t, cs, fuel, p, h1, h2, h3, h4⟩
    · exact laidVars_mem h5 hm

theorem tab_of_mem {P : Program} {W : World} {name : String} {k : IntKind} {zs : List Int} {laid : List (String × DataW Unit)} {g : Nat} {t e : TypeId} {n : Nat}
    (hg : P.globalNamed name = some g) (hty : (P.globals[g]?).map (·.type) = some t) (ht : P.underlying t = some (.array n e)) (he : P.underlying e = some (.int k)) (hce : P.cellsOf e = 1) (hct : P.cellsOf t = n)
    (hm : (name, Lib.tabData k zs) ∈ laid) (h : laidMet P laid W) : Lib.TabIs P W name k zs := by
  obtain ⟨ps, hv, _⟩ := h
  obtain ⟨g', t', cs, fuel, p, hg', ht', hvar, hd⟩ := laidVars_mem hv hm
  obtain rfl := Option.some.inj (hg.symm.trans hg')
  obtain rfl := Option.some.inj (hty.symm.trans ht')
  unfold Lib.TabIs
  rw [hvar, ← Lib.cells_of_tab ht he hce hct hd]

theorem pow_is : (Rows.laid_internal_strconv_uint64pow10 : DataW Unit) = Lib.tabData .u64 Lib.pow10Tab := by kernel_rfl
theorem powType : (Tryd.prog.globals[4]?).map (·.type) = some 163 := by kernel_rfl
theorem pow_tab {W : World} {laid : List (String × DataW Unit)} (hm : ("internal/strconv.uint64pow10", Rows.laid_internal_strconv_uint64pow10) ∈ laid) (h : laidMet Tryd.prog laid W) : Lib.TabIs Tryd.prog W "internal/strconv.uint64pow10" .u64 Lib.pow10Tab :=
  tab_of_mem gPow powType Tryd.underlying163 Tryd.underlying156 (by kernel_rfl) (by kernel_rfl) (pow_is ▸ hm) h
end Go.Proofs.YtghpekijimoicaaDoor
namespace Go.Proofs.YtghpekijimoicaaDoor
open Go.RowKit

set_option maxHeartbeats 4000000 in
set_option maxRecDepth 100000 in
theorem fnExactTreeText_law (x0 : Tr) (a0 : Option Addr) (c0 : Nat) (w : World) (h0 : RD w (.slice a0 x0.nodes.length c0) (slD Lay.node x0.nodes)) (hf0 : Lay.tree.fit x0) (hT : PowIs w) :
    Calls Tryd.prog 4 #[.agg #[.slice a0 x0.nodes.length c0]] w fun e w' => e = .returned (.bool true) ∧ Below w.heap.size w w' := by
  have HH0 : Hid (Holds w w [] []) := Holds.start w
  have HT : Hid (PowIs w) := hT
  clear hT
  have H0 : Hid (RD w (.slice a0 x0.nodes.length c0) (slD Lay.node x0.nodes)) := h0
  clear h0
  have HF0 : Hid (Lay.tree.fit x0) := hf0
  have HH1 : Hid (Holds w (w.alloc (.cells #[.slice a0 x0.nodes.length c0] 27)) [(w.heap.size, [.slice a0 x0.nodes.length c0])] []) := by show Holds _ _ _ _; simpa using HH0.out.box [.slice a0 x0.nodes.length c0] 27
  clear HH0
  go_enter Tryd.func4, Tryd.ntmps4
  have q0 : (w.alloc (.cells #[.slice a0 x0.nodes.length c0] 27)).cell? ⟨w.heap.size, 0, none⟩ = some (.slice a0 x0.nodes.length c0) := HH1.out.cell (w.heap.size, [.slice a0 x0.nodes.length c0]) List.mem_cons_self 0 (by simp)
  go_wp2_with fail
  refine (szTree_l x0 a0 c0 _ _ (H0.out.later HH1.out.below) HF0.out (by omega) (by omega)).mono ?_
  rintro e w3 ⟨r0, rfl, hr0, B2⟩
  clear q0
  have HH4 : Hid (Holds w w3 [(w.heap.size, [.slice a0 x0.nodes.length c0])] []) := HH1.out.later B2
  clear HH1
  clear B2
  rcases hr0 with rfl | ⟨hr0a, hr0b⟩
  · go_wp2
    go_ret
    exact ⟨rfl, HH4.out.below⟩
  have HW0 : Hid (Lay.tree.wt x0 ≤ 1048576) := by show _ ≤ _; omega
  have hr0c : r0 ≤ 1048576 := by omega
  clear hr0b hf0
  have q0 : w3.cell? ⟨w.heap.size, 0, none⟩ = some (.slice a0 x0.nodes.length c0) := HH4.out.cell (w.heap.size, [.slice a0 x0.nodes.length c0]) List.mem_cons_self 0 (by simp)
  go_wp2_with fail
  refine (toTree_l x0 a0 c0 _ (H0.out.later HH4.out.below) (by have := HW0.out; omega)).mono ?_
  rintro e w7 ⟨a0s, c0s, S0s, rfl, O6, B5⟩
  clear q0
  have HH8 : Hid (Holds w w7 [(w.heap.size, [.slice a0 x0.nodes.length c0])] [([.slice a0s x0.nodes.length c0s], Lay.tree.cells x0)]) := HH4.out.push B5 O6
  clear HH4
  clear B5 O6
  have R9 : Hid (RD w7 (.slice a0s x0.nodes.length c0s) (slD Lay.node x0.nodes)) := HH8.out.rd ([.slice a0s x0.nodes.length c0s], Lay.tree.cells x0) List.mem_cons_self 0 (by simp) (by simp [Lay.tree])
  have q0 : w7.cell? ⟨w.heap.size, 0, none⟩ = some (.slice a0 x0.nodes.length c0) := HH8.out.cell (w.heap.size, [.slice a0 x0.nodes.length c0]) List.mem_cons_self 0 (by simp)
  go_wp2_with fail
  refine (specTreeText_any x0 a0s c0s _ R9.out (by have := HW0.out; omega) HF0.out).mono ?_
  rintro e w11 ⟨rfl, B10⟩
  clear q0
  have HH12 : Hid (Holds w w11 [(w.heap.size, [.slice a0 x0.nodes.length c0])] [([.slice a0s x0.nodes.length c0s], Lay.tree.cells x0)]) := HH8.out.later B10
  clear HH8
  clear B10
  clear R9
  have HH13 : Hid (Holds w w11 [(w.heap.size, [.slice a0 x0.nodes.length c0])] []) := Holds.drop (P := []) (x := ([.slice a0s x0.nodes.length c0s], Lay.tree.cells x0)) (Q := []) HH12.out
  clear HH12
  have q0 : w11.cell? ⟨w.heap.size, 0, none⟩ = some (.slice a0 x0.nodes.length c0) := HH13.out.cell (w.heap.size, [.slice a0 x0.nodes.length c0]) List.mem_cons_self 0 (by simp)
  go_wp2_with fail
  refine (toTree_l x0 a0 c0 _ (H0.out.later HH13.out.below) (by have := HW0.out; omega)).mono ?_
  rintro e w16 ⟨a0m, c0m, S0m, rfl, O15, B14⟩
  clear q0
  have HH17 : Hid (Holds w w16 [(w.heap.size, [.slice a0 x0.nodes.length c0])] [([.slice a0m x0.nodes.length c0m], Lay.tree.cells x0)]) := HH13.out.push B14 O15
  clear HH13
  clear B14 O15
  have HH18 : Hid (Holds w (w16.alloc (.cells #[.slice a0m x0.nodes.length c0m] 36)) [(w16.heap.size, [.slice a0m x0.nodes.length c0m]), (w.heap.size, [.slice a0 x0.nodes.length c0])] [([.slice a0m x0.nodes.length c0m], Lay.tree.cells x0)]) := by show Holds _ _ _ _; simpa using HH17.out.box [.slice a0m x0.nodes.length c0m] 36
  clear HH17
  have R19 : Hid (RD (w16.alloc (.cells #[.slice a0m x0.nodes.length c0m] 36)) (.slice a0m x0.nodes.length c0m) (slD Lay.node x0.nodes)) := HH18.out.rd ([.slice a0m x0.nodes.length c0m], Lay.tree.cells x0) List.mem_cons_self 0 (by simp) (by simp [Lay.tree])
  have q0 : (w16.alloc (.cells #[.slice a0m x0.nodes.length c0m] 36)).cell? ⟨w16.heap.size, 0, none⟩ = some (.slice a0m x0.nodes.length c0m) := HH18.out.cell (w16.heap.size, [.slice a0m x0.nodes.length c0m]) List.mem_cons_self 0 (by simp)
  have q1 : (w16.alloc (.cells #[.slice a0m x0.nodes.length c0m] 36)).cell? ⟨w.heap.size, 0, none⟩ = some (.slice a0 x0.nodes.length c0) := HH18.out.cell (w.heap.size, [.slice a0 x0.nodes.length c0]) (List.mem_cons_of_mem _ List.mem_cons_self) 0 (by simp)
  go_wp2_with fail
  refine (treeText_any x0 a0m c0m _ R19.out (by have := HW0.out; omega) HF0.out (HT.out.later HH18.out.below)).mono ?_
  rintro e w21 ⟨rfl, B20⟩
  clear q0 q1
  have HH22 : Hid (Holds w w21 [(w16.heap.size, [.slice a0m x0.nodes.length c0m]), (w.heap.size, [.slice a0 x0.nodes.length c0])] [([.slice a0m x0.nodes.length c0m], Lay.tree.cells x0)]) := HH18.out.later B20
  clear HH18
  clear B20
  clear R19
  generalize resTreeText x0 = T at *
  have q0 : w21.cell? ⟨w16.heap.size, 0, none⟩ = some (.slice a0m x0.nodes.length c0m) := HH22.out.cell (w16.heap.size, [.slice a0m x0.nodes.length c0m]) List.mem_cons_self 0 (by simp)
  have q1 : w21.cell? ⟨w.heap.size, 0, none⟩ = some (.slice a0 x0.nodes.length c0) := HH22.out.cell (w.heap.size, [.slice a0 x0.nodes.length c0]) (List.mem_cons_of_mem _ List.mem_cons_self) 0 (by simp)
  go_wp2_with fail
  refine wp_region_held_drew (S := fun w' => Keeps w' [(w16.heap.size, [.slice a0m x0.nodes.length c0m]), (w.heap.size, [.slice a0 x0.nodes.length c0])]) (by kernel_rfl) HH22.out.boxes.drew (fun hHeld => ?_)
  refine take_atL (i := 0) (d := some 22) (v := .agg #[.slice a0m x0.nodes.length c0m]) rfl rfl (by kernel_rfl) (by kernel_rfl) (by kernel_rfl) (fun _ _ _ h => h) (by rfl) ?_ hHeld ?_
  · intro w' hSw
    have p0 : w'.cell? ⟨w16.heap.size, 0, none⟩ = some (.slice a0m x0.nodes.length c0m) := hSw (w16.heap.size, [.slice a0m x0.nodes.length c0m]) List.mem_cons_self 0 (by simp)
    go_simp; try rfl
  try simp only [Act.put, List.setIfInBounds_toArray, List.set_cons_zero, List.set_cons_succ]
  refine take_atL (i := 1) (d := some 23) (v := .agg #[.slice a0 x0.nodes.length c0]) rfl rfl (by kernel_rfl) (by kernel_rfl) (by kernel_rfl) (fun _ _ _ h => h) (by rfl) ?_ hHeld ?_
  · intro w' hSw
    have p0 : w'.cell? ⟨w.heap.size, 0, none⟩ = some (.slice a0 x0.nodes.length c0) := hSw (w.heap.size, [.slice a0 x0.nodes.length c0]) (List.mem_cons_of_mem _ List.mem_cons_self) 0 (by simp)
    go_simp; try rfl
  try simp only [Act.put, List.setIfInBounds_toArray, List.set_cons_zero, List.set_cons_succ]
  clear q0 q1
  refine wpAnyH_ready (rs := [2]) (by kernel_rfl) (by simp) ?_
  refine AllReadyH.cons (o := _) rfl (fun K hK => ?_) AllReadyH.nil
  rw [if_pos (by rfl)]
  go_simp
  refine (toTree_l x0 a0 c0 _ (H0.out.later (Below.drew HH22.out.below)) (by have := HW0.out; omega)).mono ?_
  rintro e w23 ⟨a0e, c0e, S0e, rfl, O25, B24d⟩
  have B24 : Below (w21).heap.size w21 w23 := Below.drewed (by simpa using B24d)
  clear B24d hHeld
  have HH26 : Hid (Holds w w23 [(w16.heap.size, [.slice a0m x0.nodes.length c0m]), (w.heap.size, [.slice a0 x0.nodes.length c0])] [([.slice a0e x0.nodes.length c0e], Lay.tree.cells x0), ([.slice a0m x0.nodes.length c0m], Lay.tree.cells x0)]) := HH22.out.push B24 O25
  clear HH22
  clear B24 O25
  go_wp2_with fail
  refine hK.out _ _ HH26.out.boxes (fun hHeld => ?_)
  clear hK K
  try simp only [Act.put, List.setIfInBounds_toArray, List.set_cons_zero, List.set_cons_succ]
  refine wpAnyH_ready (rs := [3]) (by kernel_rfl) (by simp) ?_
  refine AllReadyH.cons (o := _) rfl (fun K hK => ?_) AllReadyH.nil
  rw [if_pos (by rfl)]
  go_simp
  have R27 : Hid (RD w23 (.slice a0m x0.nodes.length c0m) (slD Lay.node x0.nodes)) := HH26.out.rd ([.slice a0m x0.nodes.length c0m], Lay.tree.cells x0) (List.mem_cons_of_mem _ List.mem_cons_self) 0 (by simp) (by simp [Lay.tree])
  have R28 : Hid (RD w23 (.slice a0e x0.nodes.length c0e) (slD Lay.node x0.nodes)) := HH26.out.rd ([.slice a0e x0.nodes.length c0e], Lay.tree.cells x0) List.mem_cons_self 0 (by simp) (by simp [Lay.tree])
  refine (eqTree_l x0 a0m a0e c0m c0e _ R27.out R28.out (by have := HW0.out; omega)).mono ?_
  rintro e w29 ⟨rfl, B30⟩
  clear hHeld R27 R28
  have HH31 : Hid (Holds w w29 [(w16.heap.size, [.slice a0m x0.nodes.length c0m]), (w.heap.size, [.slice a0 x0.nodes.length c0])] [([.slice a0e x0.nodes.length c0e], Lay.tree.cells x0), ([.slice a0m x0.nodes.length c0m], Lay.tree.cells x0)]) := HH26.out.later B30
  clear HH26
  clear B30
  have HH32 : Hid (Holds w w29 [(w16.heap.size, [.slice a0m x0.nodes.length c0m]), (w.heap.size, [.slice a0 x0.nodes.length c0])] [([.slice a0m x0.nodes.length c0m], Lay.tree.cells x0)]) := Holds.drop (P := []) (x := ([.slice a0e x0.nodes.length c0e], Lay.tree.cells x0)) (Q := [([.slice a0m x0.nodes.length c0m], Lay.tree.cells x0)]) HH31.out
  clear HH31
  go_wp2_with fail
  refine hK.out _ _ HH32.out.boxes (fun hHeld => ?_)
  clear hK K
  try simp only [Act.put, List.setIfInBounds_toArray, List.set_cons_zero, List.set_cons_succ]
  refine take_atL (i := 4) (d := some 26) (v := .bool false) rfl rfl (by kernel_rfl) (by kernel_rfl) (by kernel_rfl) (fun _ _ _ h => h) (by rfl) ?_ hHeld ?_
  · intro w' hSw; go_simp; try rfl
  try simp only [Act.put, List.setIfInBounds_toArray, List.set_cons_zero, List.set_cons_succ]
  refine wpAnyH_done (by kernel_rfl) ?_ _
  clear hHeld
  go_wp2
  go_ret
  exact ⟨rfl, HH32.out.below⟩
end Go.Proofs.YtghpekijimoicaaDoor
