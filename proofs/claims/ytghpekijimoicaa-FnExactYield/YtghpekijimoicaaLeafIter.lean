/-
  impl.leaves, as an iterator: the leaves of a tree, from the left. No statement is proved here.
-/
import Derived.Test.YtghpekijimoicaaVisitIter
namespace Go.Proofs.Ytghpekijimoicaa
open Go.RowKit Go.Shelf

attribute [local go_sem] Oper.semAt_some wide_fn wide_fn_in wide_depth wide_depth_in

theorem leaves_any (a : Option Addr) (len cap : Nat) (w : World) :
    Calls Try.prog 23 #[.agg #[.slice a len cap]] w fun e w' => e = .returned (.func (.func 29) #[] #[.pointer (some ⟨w.heap.size, 0, none⟩)]) ∧ w' = w.alloc (.cells #[.slice a len cap] 29) := by
  go_enter Try.func23, Try.ntmps23
  go_wp2
  go_ret
  exact ⟨rfl, rfl⟩

/-- The value of a node's Kids, as the tree's memory has it. -/
def kvAt (w : World) (a : Option Addr) (p : Nat) : Option Addr × Nat := match a with
  | some x => (match w.cell? ⟨x.block, x.off + p * 5 + 4, none⟩ with
    | some (.slice b _ c) => (b, c)
    | _ => (none, 0))
  | none => (none, 0)
abbrev Lf := Nd × (Option Addr × Nat)
def ndEnc (y : Lf) : Array Value := #[.agg #[.int .i64 y.1.kind, .int .i64 y.1.sym, .int .i64 y.1.alt, .int .i64 y.1.pl, .slice y.2.1 y.1.kids.length y.2.2]]
def leafOf (ns : List Nd) (w : World) (a : Option Addr) (v : Nat × Bool) : Option Lf := if v.2 = false ∧ (ndAt ns v.1).kind = 0 then some (ndAt ns v.1, kvAt w a v.1) else none
def leavesOf (ns : List Nd) (w : World) (a : Option Addr) : List Lf := (visAt ns 0).filterMap (leafOf ns w a)
def lvTk (t : TypeId) : Prop := visTk t ∨ t = 57
theorem filterMap_prefix {α β : Type} {f : α → Option β} {xs ys : List α} (h : xs <+: ys) : xs.filterMap f <+: ys.filterMap f := by
  obtain ⟨t, rfl⟩ := h
  exact ⟨t.filterMap f, by rw [List.filterMap_append]⟩
theorem filterMap_snoc {α β : Type} (f : α → Option β) (xs : List α) (x : α) : (xs ++ [x]).filterMap f = xs.filterMap f ++ (f x).toList := by
  rw [List.filterMap_append]
  cases h : f x <;> simp [h]
/-- Of the visits of a tree all are to its nodes. -/
theorem vis_lt {ns : List Nd} (s : Shaped ns) : ∀ (f p : Nat), p < ns.length → ∀ v ∈ vis ns f p, v.1 < ns.length ∧ (v.2 = true → (ndAt ns v.1).kind = 1)
  | 0, _, _, v, hv => by simp [vis] at hv
  | f + 1, p, hp, v, hv => by
    rw [vis] at hv
    rcases List.mem_cons.1 hv with rfl | hv
    · exact ⟨hp, fun h => by cases h⟩
    · split at hv
      · rename_i hk1
        rcases List.mem_append.1 hv with hv | hv
        · obtain ⟨k, hk, hv⟩ := List.mem_flatMap.1 hv
          exact vis_lt s f k (kid_lt s hp hk).2 v hv
        · simp at hv; subst hv; exact ⟨hp, fun _ => hk1⟩
      · simp at hv

set_option maxRecDepth 100000 in
set_option maxHeartbeats 4000000 in
theorem leaves_seq (ns : List Nd) (hs : Shaped ns) (hlen : ns.length ≤ 1048576) (hsum : Lay.node.sumL ns ≤ 1048576) (wA : World) (a0 : Option Addr) (c0 : Nat) (hR : RD wA (.slice a0 ns.length c0) (slD Lay.node ns)) (w : World) (hA : Below wA.heap.size wA w) (Bt : Nat) (hB : w.heap[Bt]? = some (.cells #[.slice a0 ns.length c0] 29)) :
    SeqT Try.prog 29 #[.pointer (some ⟨Bt, 0, none⟩)] ndEnc (leavesOf ns wA a0) visTv lvTk wA.heap.size w := by
  intro n l J Jx W hW hl hJ hJx hY h0
  refine callsIn_of_wp_marks Try.func29 rfl trivial ?_ rfl
  simp only [Try.ntmps29, List.size_toArray, List.length_cons, List.length_nil, Nat.reduceAdd, Nat.reduceSub, Array.replicate_succ, Array.replicate_zero, List.push_toArray, List.append_toArray, List.nil_append, List.cons_append]
  have hB1 : W.heap[Bt]? = some (.cells #[.slice a0 ns.length c0] 29) := (hW.block Bt (Array.getElem?_eq_some_iff.1 hB).1).trans hB
  have hBl : Bt < W.heap.size := (Array.getElem?_eq_some_iff.1 hB1).1
  obtain ⟨qt, _⟩ := boxed_of hB1
  have hAW : Below wA.heap.size wA W := hA.trans (hW.mono hA.size)
  have hnW := hAW.size
  gi_wp2_with (gi_at_call 30; refine (callsIn_wide.2 (visits_any _ _ _ _)).mono ?_; rintro e w' ⟨rfl, rfl⟩)
  obtain ⟨Wz, hWz⟩ : ∃ Wz, (W.alloc (.cells #[.func (.yield l) #[] #[]] 57)).alloc (.cells #[.slice a0 ns.length c0] 29) = Wz := ⟨_, rfl⟩
  rw [hWz]
  have bz : Below W.heap.size W Wz := by rw [← hWz]; exact ((Below.refl _ _).alloc (Nat.le_refl _) _).alloc (by simp) _
  have hz1 : W.heap.size + 2 ≤ Wz.heap.size := by rw [← hWz]; simp
  have hy0 : Wz.heap[W.heap.size]? = some (.cells #[.func (.yield l) #[] #[]] 57) := by
    rw [← hWz]; exact (Below.heap_alloc _ _ _ (by simp)).trans (heap_alloc_new W _)
  have ht0 : Wz.heap[W.heap.size + 1]? = some (.cells #[.slice a0 ns.length c0] 29) := by
    rw [← hWz]
    have := heap_alloc_new (W.alloc (.cells #[.func (.yield l) #[] #[]] 57)) (.cells #[.slice a0 ns.length c0] 29)
    simpa using this
  have hB2 : Wz.heap[Bt]? = some (.cells #[.slice a0 ns.length c0] 29) := (bz.block Bt hBl).trans hB1
  have hJz : J [] Wz := hJ.later h0 bz
  have hAz : Below wA.heap.size wA Wz := hAW.trans (bz.mono hnW)
  have hseq := visits_seq ns hs hlen hsum wA a0 c0 hR Wz hAz (W.heap.size + 1) ht0
  clear hWz hB1 h0 qt
  refine wpIn_rangeT (gf := 33) (lb := #[.pointer (some ⟨W.heap.size + 1, 0, none⟩)]) rfl (enters_of Try.func33 (by kernel_rfl) rfl) hseq (Below.refl _ _) (by omega) (fun _ => rfl)
    (fun pre W' => J (pre.filterMap (leafOf ns wA a0)) W' ∧ W'.heap[W.heap.size]? = some (.cells #[.func (.yield l) #[] #[]] 57) ∧ W'.heap[Bt]? = some (.cells #[.slice a0 ns.length c0] 29) ∧ Below wA.heap.size Wz W')
    (fun c _ W' => c = .ret ∧ ∃ q y, q ++ [y] <+: leavesOf ns wA a0 ∧ Jx (q ++ [y]) W')
    ?hI ?hIx ⟨hJz, hy0, hB2, Below.refl _ _⟩
    (fun x a' W' => ∃ Bv, W'.heap[Bv]? = some (.cells #[.int .i64 (x.1 : Int), .bool x.2] 62) ∧ a' = { tmps := #[.func (.yield l) #[] #[], .pointer (some ⟨Bt, 0, none⟩), .pointer (some ⟨W.heap.size, 0, none⟩), .pointer (some ⟨Bv, 0, none⟩), undef, .agg #[.slice a0 ns.length c0], .func (.func 33) #[] #[.pointer (some ⟨W.heap.size + 1, 0, none⟩)], .agg #[.int .i64 (x.1 : Int), .bool x.2], undef, undef, undef, undef, undef, undef, undef, undef, undef, undef, undef, undef, undef, undef, undef], defers := [] }) ?hAx ?assign ?body ?done ?stop
  case hI =>
    rintro pre W' W'' ⟨h1, h2, h3, h4⟩ hw
    exact ⟨hJ _ _ _ h1 (hw.mono (fun k hk => ⟨by have := hk.1; omega, hk.2⟩)), hw.same h2 (fun hk => by have := hk.1; omega), hw.same h3 (fun hk => by have := hk.1; omega), h4.trans (within_below hw (by omega) (by have := h4.size; omega))⟩
  case hIx =>
    rintro c pre W' W'' ⟨h1, q, y, h2, h3⟩ hw
    exact ⟨h1, q, y, h2, hJx _ _ _ h3 (hw.mono (fun k hk => ⟨by have := hk.1; omega, hk.2⟩))⟩
  case hAx =>
    rintro x a' W' l' r r' ⟨Bv, h1, h2⟩ hr
    exact ⟨Bv, (World.putObj_heap_other (fun e => by subst e; rw [h1] at hr; cases hr)).trans h1, h2⟩
  case assign =>
    intro l2 m pre x W' K2 hI hp hK2
    unfold vzEnc
    gi_wp2
    exact hK2 _ _ ((Below.refl _ _).alloc (Nat.le_refl _) _) ⟨W'.heap.size, heap_alloc_new W' _, rfl⟩
  case body =>
    rintro l2 m pre ⟨p, b⟩ a' W' hl2 hl3 ⟨h1, h2, h3, h4⟩ ⟨Bv, hv, rfl⟩ hp
    obtain ⟨hpl, hpt⟩ := vis_lt hs _ 0 (List.length_pos_iff.2 hs.1) (p, b) (hp.subset (by simp))
    obtain ⟨qt, _⟩ := boxed_of h3
    obtain ⟨qy, _⟩ := boxed_of h2
    have qv0 : W'.cell? ⟨Bv, 0, none⟩ = some (.int .i64 (p : Int)) := by simp [World.cell?, hv]
    have hbv : Bv < W'.heap.size := (Array.getElem?_eq_some_iff.1 hv).1
    have hWW : W.heap.size + 2 ≤ W'.heap.size := by have := h4.size; omega
    have hWl : W.heap.size < W'.heap.size := by omega
    obtain ⟨b1, o1, rfl, hb1, ⟨p0, p1, p2, p3⟩, a1, c1, p4, r1⟩ := hR.atNode hpl
    have bA : Below wA.heap.size wA W' := hAz.trans h4
    have p0' := (bA.cell (p := ⟨b1, _, none⟩) hb1).trans p0
    have p1' := (bA.cell (p := ⟨b1, _, none⟩) hb1).trans p1
    have p2' := (bA.cell (p := ⟨b1, _, none⟩) hb1).trans p2
    have p3' := (bA.cell (p := ⟨b1, _, none⟩) hb1).trans p3
    have p4' := (bA.cell (p := ⟨b1, _, none⟩) hb1).trans p4
    have HLF : Hid (leafOf ns wA (some ⟨b1, o1, none⟩) (p, b) = if b = false ∧ ns[p].kind = 0 then some (ns[p], (a1, c1)) else none) := by
      show _ = _
      simp only [leafOf, kvAt, ndAt_get hpl, p4]
    have HPT : Hid (b = true → ns[p].kind = 1) := by rw [ndAt_get hpl] at hpt; exact hpt
    have HFM : Hid ((pre ++ [(p, b)]).filterMap (leafOf ns wA (some ⟨b1, o1, none⟩)) = pre.filterMap (leafOf ns wA (some ⟨b1, o1, none⟩)) ++ (leafOf ns wA (some ⟨b1, o1, none⟩) (p, b)).toList) := by
      exact filterMap_snoc _ _ _
    have HPX : Hid ((pre ++ [(p, b)]).filterMap (leafOf ns wA (some ⟨b1, o1, none⟩)) <+: leavesOf ns wA (some ⟨b1, o1, none⟩)) := filterMap_prefix hp
    clear p0 p1 p2 p3 p4 r1 hpt hp
    generalize ns[p] = y at *
    by_cases hkd : y.kind = 0
    · have hbf : b = false := by
        cases b with
        | false => rfl
        | true => have := HPT.out rfl; omega
      subst hbf
      rw [if_pos ⟨rfl, hkd⟩] at HLF
      rw [HLF.out] at HFM
      rw [HFM.out] at HPX
      have HY : Hid (YieldAt Fence.wide (m - 1) Try.prog l #[.agg #[.int .i64 0, .int .i64 y.sym, .int .i64 y.alt, .int .i64 y.pl, .slice a1 y.kids.length c1]] (W'.alloc (.cells #[.int .i64 0, .int .i64 y.sym, .int .i64 y.alt, .int .i64 y.pl, .slice a1 y.kids.length c1] 40)) fun e W2 =>
          (e = .returned (.bool true) ∧ J (pre.filterMap (leafOf ns wA (some ⟨b1, o1, none⟩)) ++ [(y, (a1, c1))]) W2 ∧ Kept3 wA.heap.size (l + 1) lvTk (W'.alloc (.cells #[.int .i64 0, .int .i64 y.sym, .int .i64 y.alt, .int .i64 y.pl, .slice a1 y.kids.length c1] 40)) W2) ∨
          (e = .returned (.bool false) ∧ Jx (pre.filterMap (leafOf ns wA (some ⟨b1, o1, none⟩)) ++ [(y, (a1, c1))]) W2 ∧ KeepsFrom (l + 1) (W'.alloc (.cells #[.int .i64 0, .int .i64 y.sym, .int .i64 y.alt, .int .i64 y.pl, .slice a1 y.kids.length c1] 40)) W2)) := by
        have := hY (m - 1) (pre.filterMap (leafOf ns wA (some ⟨b1, o1, none⟩))) (y, (a1, c1)) (W'.alloc (.cells #[.int .i64 0, .int .i64 y.sym, .int .i64 y.alt, .int .i64 y.pl, .slice a1 y.kids.length c1] 40)) (hJ.later h1 ((Below.refl _ _).alloc (Nat.le_refl _) _)) HPX.out
        unfold ndEnc at this
        simp only [hkd] at this
        exact this
      obtain ⟨fn, tmps, asg, bdy, hyr, hYR⟩ := HY.out
      rw [hkd] at p0'
      have hk0 : Kept3 wA.heap.size Wz.heap.size visTk W' (W'.alloc (.cells #[.int .i64 0, .int .i64 y.sym, .int .i64 y.alt, .int .i64 y.pl, .slice a1 y.kids.length c1] 40)) := Kept3.of_below ((Below.refl _ _).alloc (Nat.le_refl _) _) (by omega)
      have h2' : (W'.alloc (.cells #[.int .i64 0, .int .i64 y.sym, .int .i64 y.alt, .int .i64 y.pl, .slice a1 y.kids.length c1] 40)).heap[W.heap.size]? = some (.cells #[.func (.yield l) #[] #[]] 57) := (Below.heap_alloc _ _ _ (by omega)).trans h2
      have h3' : (W'.alloc (.cells #[.int .i64 0, .int .i64 y.sym, .int .i64 y.alt, .int .i64 y.pl, .slice a1 y.kids.length c1] 40)).heap[Bt]? = some (.cells #[.slice (some ⟨b1, o1, none⟩) ns.length c0] 29) := (Below.heap_alloc _ _ _ (by omega)).trans h3
      have h4' : Below wA.heap.size Wz (W'.alloc (.cells #[.int .i64 0, .int .i64 y.sym, .int .i64 y.alt, .int .i64 y.pl, .slice a1 y.kids.length c1] 40)) := h4.alloc (by omega) _
      have HPQ : Hid (pre.filterMap (leafOf ns wA (some ⟨b1, o1, none⟩)) ++ [(y, (a1, c1))] <+: leavesOf ns wA (some ⟨b1, o1, none⟩)) := HPX.out
      clear HY hY HLF HPX hJ hJx hseq h1 h2 h3 h4 hkd
      gi_wp2
      refine hYR.mono ?_
      rintro e W2 (⟨rfl, hJ2, hk2⟩ | ⟨rfl, hJx2, hk2⟩)
      · gi_wp2
        refine ⟨hk0.trans (hk2.mono (Nat.le_refl _) (by omega) (fun t ht => .inl ht)), ?_, hk2.typed _ _ _ _ (.inr rfl) h2', hk2.typed _ _ _ _ (.inl (.inr rfl)) h3', h4'.trans hk2.below⟩
        rw [HFM.out]
        exact hJ2
      · gi_wp2
        exact ⟨hk0.other.trans (keepsFrom_mono hk2 (by omega)), rfl, _, _, HPQ.out, hJx2⟩
    · rw [if_neg (fun h => hkd h.2)] at HLF
      rw [HLF.out, Option.toList_none, List.append_nil] at HFM
      have hI2 : J (pre.filterMap (leafOf ns wA (some ⟨b1, o1, none⟩))) (W'.alloc (.cells #[.int .i64 y.kind, .int .i64 y.sym, .int .i64 y.alt, .int .i64 y.pl, .slice a1 y.kids.length c1] 40)) := hJ.later h1 ((Below.refl _ _).alloc (Nat.le_refl _) _)
      have h2' : (W'.alloc (.cells #[.int .i64 y.kind, .int .i64 y.sym, .int .i64 y.alt, .int .i64 y.pl, .slice a1 y.kids.length c1] 40)).heap[W.heap.size]? = some (.cells #[.func (.yield l) #[] #[]] 57) := (Below.heap_alloc _ _ _ (by omega)).trans h2
      have h3' : (W'.alloc (.cells #[.int .i64 y.kind, .int .i64 y.sym, .int .i64 y.alt, .int .i64 y.pl, .slice a1 y.kids.length c1] 40)).heap[Bt]? = some (.cells #[.slice (some ⟨b1, o1, none⟩) ns.length c0] 29) := (Below.heap_alloc _ _ _ (by omega)).trans h3
      have h4' : Below wA.heap.size Wz (W'.alloc (.cells #[.int .i64 y.kind, .int .i64 y.sym, .int .i64 y.alt, .int .i64 y.pl, .slice a1 y.kids.length c1] 40)) := h4.alloc (by omega) _
      have hk0 : Kept3 wA.heap.size Wz.heap.size visTk W' (W'.alloc (.cells #[.int .i64 y.kind, .int .i64 y.sym, .int .i64 y.alt, .int .i64 y.pl, .slice a1 y.kids.length c1] 40)) := Kept3.of_below ((Below.refl _ _).alloc (Nat.le_refl _) _) (by omega)
      clear hY HLF HPX hJ hJx hseq h1 h2 h3 h4
      gi_wp2
      refine ⟨hk0, ?_, h2', h3', h4'⟩
      rw [HFM.out]
      exact hI2
  case done =>
    rintro D W' hD ⟨h1, h2, h3, h4⟩ hd
    gi_wp2
    refine leaves_marks (B := Wz.heap.size) [D] W' ⟨by simp, fun x hx => ?_⟩ fun w' hw' => ⟨_, results_none rfl _ _ _, ⟨_, rfl⟩, .inl ?_⟩
    · simp at hx; subst hx; exact ⟨hD, hd⟩
    · exact hJ _ _ _ h1 (hw'.mono (fun x hx => ⟨by have := hx.1; omega, hx.2.elim fun o ho => ⟨o, ho.1, .inl ho.2⟩⟩))
  case stop =>
    rintro D c pre x W' hD hp ⟨rfl, q, y, h1, h2⟩ hd
    gi_wp2
    refine leaves_marks (B := Wz.heap.size) [D] W' ⟨by simp, fun x hx => ?_⟩ fun w' hw' => ⟨_, results_none rfl _ _ _, ⟨_, rfl⟩, .inr ⟨q, y, h1, ?_⟩⟩
    · simp at hx; subst hx; exact ⟨hD, hd⟩
    · exact hJx _ _ _ h2 (hw'.mono (fun x hx => ⟨by have := hx.1; omega, hx.2.elim fun o ho => ⟨o, ho.1, .inl ho.2⟩⟩))
end Go.Proofs.Ytghpekijimoicaa
