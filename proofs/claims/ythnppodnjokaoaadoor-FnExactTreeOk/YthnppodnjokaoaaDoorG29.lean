/-
  Contracts and plain mathematics, joined: VisitIter, LeafIter. No statement is proved here.
-/
import Derived.Test.YthnppodnjokaoaaDoorG11
import Derived.Test.YthnppodnjokaoaaDoorG21
import Derived.Test.YthnppodnjokaoaaDoorG24
import Derived.Test.YthnppodnjokaoaaDoorG20
namespace Go.Proofs.YthnppodnjokaoaaDoor
open Go.RowKit Go.Shelf

attribute [local go_sem] Oper.semAt_some wide_fn wide_fn_in wide_depth wide_depth_in

theorem visits_any (a : Option Addr) (len cap : Nat) (w : World) :
    Calls Tryd.prog 88 #[.agg #[.slice a len cap]] w fun e w' => e = .returned (.func (.func 104) #[] #[.pointer (some ⟨w.heap.size, 0, none⟩)]) ∧ w' = w.alloc (.cells #[.slice a len cap] 43) := by
  go_enter Tryd.func88, Tryd.ntmps88
  go_wp2
  go_ret
  exact ⟨rfl, rfl⟩

/-- The types of the iterator's own memory: its stack, what it visits. -/
def visTv (t : TypeId) : Prop := t = 119 ∨ t = 137
def visTk (t : TypeId) : Prop := visTv t ∨ t = 43
def vzEnc (v : Nat × Bool) : Array Value := #[.agg #[.int .i64 (v.1 : Int), .bool v.2]]
def vzCells (st : List (Nat × Bool)) : List Value := st.flatMap fun v => [.int .i64 (v.1 : Int), .bool v.2]
theorem vzCells_length (st : List (Nat × Bool)) : (vzCells st).length = st.length * 2 := by
  induction st with
  | nil => rfl
  | cons v st ih => simp only [vzCells, List.flatMap_cons, List.length_append, List.length_cons, List.length_nil] at *; omega
theorem vzCells_snoc (st : List (Nat × Bool)) (v : Nat × Bool) : vzCells (st ++ [v]) = vzCells st ++ [.int .i64 (v.1 : Int), .bool v.2] := by simp [vzCells]
/-- The iterator's stack in memory. -/
def StackIn (base B : Nat) (st : List (Nat × Bool)) (w : World) (v : Value) : Prop := Boxed w B 137 v ∧ w.ownsRow base 119 2 v st.length (vzCells st)
theorem StackIn.top {base B : Nat} {st : List (Nat × Bool)} {u : Nat × Bool} {w : World} {v : Value} (h : StackIn base B (st ++ [u]) w v) :
    ∃ g cap, v = .slice (some ⟨g, 0, none⟩) (st.length + 1) cap ∧ st.length + 1 ≤ cap ∧ w.cell? ⟨g, st.length * 2, none⟩ = some (.int .i64 (u.1 : Int)) ∧ w.cell? ⟨g, st.length * 2 + 1, none⟩ = some (.bool u.2) ∧ w.ownsRow base 119 2 (.slice (some ⟨g, 0, none⟩) st.length cap) st.length (vzCells st) := by
  obtain ⟨_, hl, h2⟩ := h
  rw [List.length_append, List.length_singleton] at h2
  rcases h2 with ⟨_, h0⟩ | ⟨g, cap, cur, rfl, hb, hg, hnc, hcm, hcs, ht⟩
  · omega
  · have hown : w.ownsRow base 119 2 (.slice (some ⟨g, 0, none⟩) (st.length + 1) cap) (st.length + 1) (vzCells (st ++ [u])) := ⟨by rw [vzCells_length, List.length_append, List.length_singleton], .inr ⟨g, cap, cur, rfl, hb, hg, hnc, hcm, hcs, ht⟩⟩
    have hlen := vzCells_length st
    refine ⟨g, cap, rfl, hnc, ?_, ?_, ?_, .inr ⟨g, cap, cur, rfl, hb, hg, by omega, hcm, hcs, ?_⟩⟩
    · have := World.ownsRow.cellAt (g := g) (cap := cap) hown (st.length * 2) (by omega)
      rw [this, vzCells_snoc, List.getElem?_append_right (by omega), hlen]
      simp
    · have := World.ownsRow.cellAt (g := g) (cap := cap) hown (st.length * 2 + 1) (by omega)
      rw [this, vzCells_snoc, List.getElem?_append_right (by omega), hlen]
      simp
    · exact hlen
    · have e : vzCells (st ++ [u]) = vzCells st ++ [.int .i64 (u.1 : Int), .bool u.2] := vzCells_snoc st u
      rw [e] at ht
      have h3 := congrArg (List.take (st.length * 2)) ht
      rw [List.take_take, List.take_left' hlen, Nat.min_eq_left (by omega)] at h3
      exact h3
theorem StackIn.typed {base B : Nat} {st : List (Nat × Bool)} {w w' : World} {v : Value} (h : StackIn base B st w v) (hk : ∀ (k : Nat) (cur : Array Value) (t : TypeId) (p : Nat × Nat), visTk t → w.heap[k]? = some (.cells cur t p) → w'.heap[k]? = some (.cells cur t p)) : StackIn base B st w' v := by
  obtain ⟨h1, hl, h2⟩ := h
  refine ⟨hk _ _ _ _ (.inl (.inr rfl)) h1, hl, ?_⟩
  rcases h2 with h2 | ⟨g, cap, cur, rfl, hb, hg, r⟩
  · exact .inl h2
  · exact .inr ⟨g, cap, cur, rfl, hb, hk _ _ _ _ (.inl (.inl rfl)) hg, r⟩

/-- What holds between two rounds of the iterator's own loop. -/
structure VIn (ns : List Nd) (J : List (Nat × Bool) → World → Prop) (n₀ Bt : Nat) (tv : Value) (W : World) (i : Nat) (st : List (Nat × Bool)) (k : Nat) (ds : List Nat) (v : Value) (wr : World) : Prop where
  all : visAt ns 0 = (visAt ns 0).take i ++ toCome ns st
  done : J ((visAt ns 0).take i) wr
  lt : ∀ u ∈ st, u.1 < ns.length
  stack : StackIn W.heap.size (W.heap.size + 1) st wr v
  tree : wr.heap[Bt]? = some (.cells #[tv] 43)
  below : Below n₀ W wr
  num : (toCome ns st).length = k
  marks : MarksIn W.heap.size ds wr
theorem take_next {α : Type} {L : List α} {i : Nat} {u : α} {r : List α} (h : L = L.take i ++ u :: r) : L.take (i + 1) = L.take i ++ [u] := by
  have h1 := congrArg List.length h
  rw [List.length_append, List.length_cons, List.length_take] at h1
  have h2 : (L.take i).length = i := by rw [List.length_take]; omega
  conv => lhs; rw [h]
  rw [List.take_append, h2, List.take_of_length_le (by omega)]
  simp
theorem toCome_start (ns : List Nd) : toCome ns [(0, false)] = visAt ns 0 := by simp [toCome, unfold1]
theorem boxed_of {W : World} {B : Nat} {v : Value} {t : TypeId} (h : W.heap[B]? = some (.cells #[v] t)) : W.cell? ⟨B, 0, none⟩ = some v ∧ W.frozen? ⟨B, 0, none⟩ = false := by simp [World.cell?, World.frozen?, h]
theorem theirs_box {W : World} {B base : Nat} {v : Value} {t : TypeId} {tv : TypeId → Prop} (h : W.heap[B]? = some (.cells #[v] t)) (hb : base ≤ B) (ht : tv t) : Theirs tv base W B := ⟨hb, _, h, .inr ⟨_, _, _, ht, rfl⟩⟩
theorem theirs_row {W : World} {base : Nat} {v : Value} {n : Nat} {xs : List Value} (h : W.ownsRow base 119 2 v n xs) {k : Nat} (hk : v.ownBlock = some k) : Theirs visTv base W k := by
  rcases h.2 with ⟨rfl, _⟩ | ⟨g, cap, cur, rfl, hb, hg, _⟩
  · simp [Value.ownBlock] at hk
  · have : g = k := by simpa [Value.ownBlock] using hk
    subst this
    exact ⟨hb, _, hg, .inr ⟨_, _, _, .inl rfl, rfl⟩⟩
theorem new_two (W : World) (x y : Value) (t : TypeId) : ∀ (j : Nat) (u : Value), ([x, y] : List Value)[j]? = some u → (W.alloc (.cells #[x, y] t)).cell? ((⟨W.heap.size, 0, none⟩ : Addr).add j) = some u := by
  intro j u hu
  have e := Lib.cell_of_heap (heap_alloc_new W (.cells #[x, y] t)) j
  rw [Addr.add_lit, Nat.zero_add, e]
  simpa using hu
/-- The turn of a push: only the box and the row, or new memory. -/
theorem StackIn.turn {base B : Nat} {st : List (Nat × Bool)} {w w1 : World} {v v' : Value} {tmp : Obj} {u : Nat × Bool} (h : StackIn base B st w v) (hb : base ≤ w.heap.size) (hB : base ≤ B)
    (hown : w1.ownsRow base 119 2 v' (st.length + 1) (vzCells st ++ [.int .i64 (u.1 : Int), .bool u.2])) (hg : (w.alloc tmp).grownBy w1 v.ownBlock) :
    (w1.cell? ⟨B, 0, none⟩ = some v ∧ w1.frozen? ⟨B, 0, none⟩ = false) ∧ StackIn base B (st ++ [u]) (w1.setCell ⟨B, 0, none⟩ v') v' ∧ Within w w1 (fun k => v.ownBlock = some k) ∧ Within w (w1.setCell ⟨B, 0, none⟩ v') (Theirs visTv base w) ∧ w.heap.size < w1.heap.size ∧ KeepsOthers w (w1.setCell ⟨B, 0, none⟩ v') := by
  obtain ⟨h1, h2, h3, h4, h5⟩ := h.1.appended (by decide) h.2 hb hB hown hg
  have hw1 : Within w w1 (fun k => v.ownBlock = some k) := (within_none ((Below.refl _ _).alloc (Nat.le_refl _) tmp) _).trans (Within.of_grown hg (fun k e => e))
  have hs1 : w.heap.size < w1.heap.size := by have := hg.size; simp at this; omega
  refine ⟨⟨h1.cell, h1.frozen⟩, ⟨h2, ?_⟩, hw1, ?_, hs1, h4⟩
  · rw [List.length_append, vzCells_snoc]; exact h3
  · have hw2 : Within w1 (w1.setCell ⟨B, 0, none⟩ v') (fun k => k = B) := by
      refine Within.setCell (Within.refl _ _) _ _ ?_
      rfl
    refine (hw1.mono (fun k hk => theirs_row h.2 hk)).trans (hw2.mono (fun k e => ?_))
    subst e
    exact theirs_box h.1 hB (.inr rfl)
theorem Within.after {A B C : World} {tv : TypeId → Prop} {base : Nat} (h : Below A.heap.size A B) (g : Within B C (Theirs tv base B)) : Within A C (Theirs tv base A) :=
  ⟨g.os.trans h.os, g.tape.trans h.tape, g.output.trans h.output, Nat.le_trans h.size g.size, fun k hk hn => by
    have e := h.block k hk
    refine (g.block k (Nat.lt_of_lt_of_le hk h.size) (fun ⟨h1, o, ho, h2⟩ => hn ⟨h1, o, ?_, h2⟩)).trans e
    rw [← e]; exact ho⟩
theorem Within.beyond {A B C : World} {S T : Nat → Prop} (h : Within A B S) (g : Within B C T) (hT : ∀ k, k < A.heap.size → T k → S k) : Within A C S :=
  ⟨g.os.trans h.os, g.tape.trans h.tape, g.output.trans h.output, Nat.le_trans h.size g.size, fun k hk hn => (g.block k (Nat.lt_of_lt_of_le hk h.size) (fun ht => hn (hT k hk ht))).trans (h.block k hk hn)⟩
theorem Theirs.back {A B : World} {tv : TypeId → Prop} {base : Nat} (h : Within A B (Theirs tv base A)) {k : Nat} (hk : k < A.heap.size) (ht : Theirs tv base B k) : Theirs tv base A k := by
  by_cases hn : Theirs tv base A k
  · exact hn
  · obtain ⟨h1, o, ho, h2⟩ := ht
    rw [h.block k hk hn] at ho
    exact ⟨h1, o, ho, h2⟩
theorem within_theirs {A B C : World} {tv : TypeId → Prop} {base : Nat} (h : Within A B (Theirs tv base A)) (g : Within B C (Theirs tv base B)) : Within A C (Theirs tv base A) := h.beyond g (fun _ hk ht => Theirs.back h hk ht)
theorem within_below {w w' : World} {tv : TypeId → Prop} {base n : Nat} (h : Within w w' (Theirs tv base w)) (hn : n ≤ base) (hw : n ≤ w.heap.size) : Below n w w' :=
  ⟨h.os, h.tape, h.output, h.size, fun k hk => h.block k (Nat.lt_of_lt_of_le hk hw) (fun ht => by have := ht.1; omega)⟩
theorem StackIn.stays {base B b : Nat} {st : List (Nat × Bool)} {w w' : World} {v : Value} (h : StackIn base B st w v) (hw : Within w w' (Theirs (fun _ => False) b w)) : StackIn base B st w' v :=
  h.typed (fun k cur t p _ hk => hw.same hk (fun ⟨_, o, ho, hc⟩ => by
    rw [hk] at ho
    cases ho
    rcases hc with hc | ⟨_, _, _, ht2, _⟩
    · cases hc
    · exact ht2))
theorem backs_map (zs : List Int) : (backs zs).map (fun x => (x.1.toNat, false)) = ((zs.map Int.toNat).reverse).map (fun k => (k, false)) := by
  rw [backs, List.map_reverse, ← List.map_reverse]
  have e : zs.zipIdx.map (fun x => (x.1.toNat, false)) = (zs.map Int.toNat).map (fun k => (k, false)) := by
    conv => rhs; rw [← List.zipIdx_map_fst 0 zs]
    rw [List.map_map, List.map_map]
    rfl
  rw [List.map_reverse, e, List.map_reverse]
theorem backs_mem {zs : List Int} {x : Int × Nat} (h : x ∈ backs zs) : x.1 ∈ zs := by
  rw [backs, List.mem_reverse] at h
  have := List.mem_map_of_mem (f := Prod.fst) h
  rwa [List.zipIdx_map_fst] at this
theorem node_at {w w1 : World} {g n cap N : Nat} {cs : Array Value} {t : TypeId} (hw : Within w w1 (fun k => (Value.slice (some ⟨g, 0, none⟩) n cap).ownBlock = some k)) (hN : w.heap[N]? = some (.cells cs t)) (hg : g < N) (j : Nat) : w1.cell? ⟨N, j, none⟩ = cs[j]? := by
  have h := hw.same hN (fun e => by simp [Value.ownBlock] at e; omega)
  exact Lib.cell_of_heap h j
theorem Within.typed {w w' : World} {base : Nat} (h : Within w w' (Theirs visTv base w)) {k : Nat} {cur : Array Value} {t : TypeId} {p : Nat × Nat} (hk : w.heap[k]? = some (.cells cur t p)) (ht : ¬ visTv t) : w'.heap[k]? = some (.cells cur t p) :=
  h.same hk (fun ⟨_, o, ho, hc⟩ => by
    rw [hk] at ho
    cases ho
    rcases hc with hc | ⟨_, _, _, ht2, e⟩
    · cases hc
    · cases e; exact ht ht2)

theorem Tryd.infoVisit : (Tryd.prog.info? 119).map (fun i => (i.zero, i.size, i.bytes)) = some (some (.agg #[.int .i64 0, .bool false]), 2, 16) := by kernel_rfl

set_option maxRecDepth 100000 in
set_option maxHeartbeats 4000000 in
theorem visits_seq (ns : List Nd) (hs : Shaped ns) (hlen : ns.length ≤ 1048576) (hsum : Lay.node.sumL ns ≤ 1048576) (wA : World) (a0 : Option Addr) (c0 : Nat) (hR : RD wA (.slice a0 ns.length c0) (slD Lay.node ns)) (w : World) (hA : Below wA.heap.size wA w) (Bt : Nat) (hB : w.heap[Bt]? = some (.cells #[.slice a0 ns.length c0] 43)) :
    SeqT Tryd.prog 104 #[.pointer (some ⟨Bt, 0, none⟩)] vzEnc (visAt ns 0) visTv visTk wA.heap.size w := by
  intro n l J Jx W hW hl hJ hJx hY h0
  refine callsIn_of_wp_marks Tryd.func104 rfl trivial ?_ rfl
  simp only [Tryd.ntmps104, List.size_toArray, List.length_cons, List.length_nil, Nat.reduceAdd, Nat.reduceSub, Array.replicate_succ, Array.replicate_zero, List.push_toArray, List.append_toArray, List.nil_append, List.cons_append]
  have hB1 : W.heap[Bt]? = some (.cells #[.slice a0 ns.length c0] 43) := (hW.block Bt (Array.getElem?_eq_some_iff.1 hB).1).trans hB
  have hAW : Below wA.heap.size wA W := hA.trans (hW.mono hA.size)
  have hnW := hAW.size
  have hpos : 0 < ns.length := List.length_pos_iff.2 hs.1
  have HL : Hid ((visAt ns 0).length ≤ 2 * ns.length) := visits_le hs
  have HY : Hid (∀ (m : Nat) (pre : List (Nat × Bool)) (x : Nat × Bool) (W1 : World), J pre W1 → pre ++ [x] <+: visAt ns 0 → YieldAt Fence.wide m Tryd.prog l (vzEnc x) W1 fun e W' =>
      (e = .returned (.bool true) ∧ J (pre ++ [x]) W' ∧ Kept3 wA.heap.size (l + 1) visTk W1 W') ∨ (e = .returned (.bool false) ∧ Jx (pre ++ [x]) W' ∧ KeepsFrom (l + 1) W1 W')) := hY
  have HS : Hid (VIn ns J wA.heap.size Bt (.slice a0 ns.length c0) W 0 [(0, false)] (visAt ns 0).length [] (.slice (some ⟨W.heap.size, 0, none⟩) 1 1) ((W.alloc (.cells #[.int .i64 0, .bool false] 119)).alloc (.cells #[.slice (some ⟨W.heap.size, 0, none⟩) 1 1] 137))) := by
    have b2 : Below W.heap.size W ((W.alloc (.cells #[.int .i64 0, .bool false] 119)).alloc (.cells #[.slice (some ⟨W.heap.size, 0, none⟩) 1 1] 137)) := ((Below.refl _ _).alloc (Nat.le_refl _) _).alloc (by simp) _
    refine ⟨by rw [toCome_start]; simp, hJ.later h0 b2, fun u hu => ?_, ⟨?_, ?_⟩, (b2.block Bt (Array.getElem?_eq_some_iff.1 hB1).1).trans hB1, b2.mono hnW, by rw [toCome_start], MarksIn.nil _ _⟩
    · simp at hu; subst hu; exact hpos
    · have := Boxed.new (W.alloc (.cells #[.int .i64 0, .bool false] 119)) 137 (.slice (some ⟨W.heap.size, 0, none⟩) 1 1)
      simpa using this
    · have ho : (W.alloc (.cells #[.int .i64 0, .bool false] 119)).ownsRow W.heap.size 119 2 (.slice (some ⟨W.heap.size, 0, none⟩) 1 1) 1 [.int .i64 0, .bool false] := ⟨rfl, .inr ⟨W.heap.size, 1, _, rfl, Nat.le_refl _, heap_alloc_new W _, Nat.le_refl _, by decide, rfl, rfl⟩⟩
      exact ho.alloc _
  clear hY h0 hB hB1
  gi_wp2
  refine wpIn_loop_num (fun k a wr => ∃ u4 u5 u6 u7 u8 u11 u12 u13 u14 u15 u16 u17 u18 u19 u20 u21 u22 u23 u24 u25 u26 u27 u28 u29 u30 u31 u32 u33 u34 u35 u36 u37 u38 u39 u40 u41 u42 u43 u44 u45 u46 u47 u48 u49 u50 u51 u52 u53 u54 u55 u56, ∃ ds, (∃ i st v, Hid (VIn ns J wA.heap.size Bt (.slice a0 ns.length c0) W i st k ds v wr)) ∧ a = { tmps := #[.func (.yield l) #[] #[], .pointer (some ⟨Bt, 0, none⟩), undef, .pointer (some ⟨W.heap.size + 1, 0, none⟩), u4, u5, u6, u7, u8, .agg #[.int .i64 0, .bool false], .slice (some ⟨W.heap.size, 0, none⟩) 1 1, u11, u12, u13, u14, u15, u16, u17, u18, u19, u20, u21, u22, u23, u24, u25, u26, u27, u28, u29, u30, u31, u32, u33, u34, u35, u36, u37, u38, u39, u40, u41, u42, u43, u44, u45, u46, u47, u48, u49, u50, u51, u52, u53, u54, u55, u56], defers := marksOf ds }) _ ⟨_, _, _, _, _, _, _, _, _, _, _, _, _, _, _, _, _, _, _, _, _, _, _, _, _, _, _, _, _, _, _, _, _, _, _, _, _, _, _, _, _, _, _, _, _, _, _, _, _, _, _, [], ⟨0, _, _, HS⟩, rfl⟩ ?_
  rintro k a wr ⟨u4, u5, u6, u7, u8, u11, u12, u13, u14, u15, u16, u17, u18, u19, u20, u21, u22, u23, u24, u25, u26, u27, u28, u29, u30, u31, u32, u33, u34, u35, u36, u37, u38, u39, u40, u41, u42, u43, u44, u45, u46, u47, u48, u49, u50, u51, u52, u53, u54, u55, u56, ds, ⟨i, st, v, HV⟩, rfl⟩ K hK
  rcases List.eq_nil_or_concat st with rfl | ⟨st, u, rfl⟩
  · obtain ⟨a, cap, rfl⟩ : ∃ a cap, v = .slice a 0 cap := by
      rcases HV.out.stack.2.2 with ⟨rfl, _⟩ | ⟨g, cap, _, rfl, _⟩
      · exact ⟨none, 0, rfl⟩
      · exact ⟨_, cap, rfl⟩
    obtain ⟨qb, _⟩ := boxed_of HV.out.stack.1
    have HJE : Hid (J (visAt ns 0) wr) := by
      have h1 := HV.out.all
      rw [show toCome ns [] = [] from rfl, List.append_nil] at h1
      have h2 := HV.out.done
      rw [← h1] at h2
      exact h2
    have HM : Hid (MarksIn W.heap.size ds wr) := HV.out.marks
    clear HV
    gi_wp2
    refine leaves_marks ds wr HM.out fun w' hw' => ⟨_, results_none rfl _ _ _, ⟨_, rfl⟩, .inl ?_⟩
    exact hJ _ _ _ HJE.out (hw'.mono (fun x hx => ⟨hx.1, hx.2.elim fun o ho => ⟨o, ho.1, .inl ho.2⟩⟩))
  · rw [List.concat_eq_append] at HV
    obtain ⟨g, cap, rfl, hcap, q0, q1, HOW⟩ := HV.out.stack.top
    obtain ⟨qb, fb⟩ := boxed_of HV.out.stack.1
    have hbl : W.heap.size + 1 < wr.heap.size := HV.out.stack.1.lt
    have hgl : g < wr.heap.size := World.block_lt_of_cell? wr _ q0
    have hst : st.length + 1 ≤ 2097152 := by
      have h1 := toCome_length_ge ns _ HV.out.lt
      have h2 := congrArg List.length HV.out.all
      have h3 := HL.out
      rw [List.length_append] at h1 h2
      simp only [List.length_singleton] at h1
      omega
    have hu : u.1 < ns.length := HV.out.lt u (by simp)
    have HTC : Hid (toCome ns (st ++ [u]) = u :: toCome ns (st ++ pushed ns u)) := toCome_step hs st u hu
    have HT : Hid ((visAt ns 0).take (i + 1) = (visAt ns 0).take i ++ [u]) := by
      have h1 := HV.out.all
      rw [HTC.out] at h1
      exact take_next h1
    have HAL : Hid (visAt ns 0 = (visAt ns 0).take (i + 1) ++ toCome ns (st ++ pushed ns u)) := by
      have h1 := HV.out.all
      rw [HTC.out] at h1
      show _ = _
      rw [HT.out, List.append_assoc]
      exact h1
    have HNUM : Hid ((toCome ns (st ++ pushed ns u)).length < k) := by
      have := HV.out.num
      rw [HTC.out, List.length_cons] at this
      show _ < _
      omega
    have HLT : Hid (∀ x ∈ st, x.1 < ns.length) := fun x hx => HV.out.lt x (by simp [hx])
    -- the world that is handed to the round
    have WYW : Within wr ((wr.setCell ⟨W.heap.size + 1, 0, none⟩ (.slice (some ⟨g, 0, none⟩) st.length cap)).alloc (.cells #[.int .i64 (u.1 : Int), .bool u.2] 119)) (fun x => x = W.heap.size + 1) := by
      have h1 : Within wr (wr.setCell ⟨W.heap.size + 1, 0, none⟩ (.slice (some ⟨g, 0, none⟩) st.length cap)) (fun x => x = W.heap.size + 1) := by
        refine Within.setCell (Within.refl _ _) _ _ ?_
        rfl
      exact h1.trans (within_none ((Below.refl _ _).alloc (Nat.le_refl _) _) _)
    have HJY : Hid (J ((visAt ns 0).take i) ((wr.setCell ⟨W.heap.size + 1, 0, none⟩ (.slice (some ⟨g, 0, none⟩) st.length cap)).alloc (.cells #[.int .i64 (u.1 : Int), .bool u.2] 119))) :=
      hJ _ _ _ HV.out.done (WYW.mono (fun x hx => by subst hx; exact theirs_box HV.out.stack.1 (Nat.le_succ _) (.inr rfl)))
    have HSY : Hid (StackIn W.heap.size (W.heap.size + 1) st ((wr.setCell ⟨W.heap.size + 1, 0, none⟩ (.slice (some ⟨g, 0, none⟩) st.length cap)).alloc (.cells #[.int .i64 (u.1 : Int), .bool u.2] 119)) (.slice (some ⟨g, 0, none⟩) st.length cap)) := by
      refine ⟨(HV.out.stack.1.set _).alloc _, ?_⟩
      exact (HOW.kept (grownBy_setCell' wr (W.heap.size + 1) _) (.inr (HV.out.stack.1.not_row (by decide) HOW).symm)).alloc _
    have HTY : Hid (((wr.setCell ⟨W.heap.size + 1, 0, none⟩ (.slice (some ⟨g, 0, none⟩) st.length cap)).alloc (.cells #[.int .i64 (u.1 : Int), .bool u.2] 119)).heap[Bt]? = some (.cells #[.slice a0 ns.length c0] 43)) :=
      WYW.same HV.out.tree (fun e => by have h1 := HV.out.tree; rw [e] at h1; rw [show wr.heap[W.heap.size + 1]? = _ from HV.out.stack.1] at h1; injection (Option.some.inj h1) with _ e2; exact absurd e2 (by decide))
    have HBY : Hid (Below wA.heap.size W ((wr.setCell ⟨W.heap.size + 1, 0, none⟩ (.slice (some ⟨g, 0, none⟩) st.length cap)).alloc (.cells #[.int .i64 (u.1 : Int), .bool u.2] 119))) :=
      (HV.out.below.setCell (p := ⟨W.heap.size + 1, 0, none⟩) (by simp; omega) _).alloc (by simp; omega) _
    have HMY : Hid (MarksIn W.heap.size ds ((wr.setCell ⟨W.heap.size + 1, 0, none⟩ (.slice (some ⟨g, 0, none⟩) st.length cap)).alloc (.cells #[.int .i64 (u.1 : Int), .bool u.2] 119))) :=
      HV.out.marks.within WYW (fun x o hx ho e => by subst e; rw [show wr.heap[W.heap.size + 1]? = _ from HV.out.stack.1] at hx; cases hx; cases ho)
    have HNY : Hid (((wr.setCell ⟨W.heap.size + 1, 0, none⟩ (.slice (some ⟨g, 0, none⟩) st.length cap)).alloc (.cells #[.int .i64 (u.1 : Int), .bool u.2] 119)).heap[wr.heap.size]? = some (.cells #[.int .i64 (u.1 : Int), .bool u.2] 119)) := by
      show _ = _
      have := heap_alloc_new (wr.setCell ⟨W.heap.size + 1, 0, none⟩ (.slice (some ⟨g, 0, none⟩) st.length cap)) (.cells #[.int .i64 (u.1 : Int), .bool u.2] 119)
      simpa using this
    have hy := HY.out (n - 1) _ u _ HJY.out (by rw [← HT.out]; exact List.take_prefix _ _)
    rw [← HT.out] at hy
    unfold vzEnc at hy
    obtain ⟨fn, tmps, assign, body, hy, hYR⟩ := hy
    clear HV WYW HJY
    gi_wp2
    refine hYR.mono ?_
    rintro e W6 (⟨rfl, hJ6, hk6⟩ | ⟨rfl, hJx6, hk6⟩)
    · have HS6 : Hid (StackIn W.heap.size (W.heap.size + 1) st W6 (.slice (some ⟨g, 0, none⟩) st.length cap)) := HSY.out.typed hk6.typed
      have HT6 : Hid (W6.heap[Bt]? = some (.cells #[.slice a0 ns.length c0] 43)) := hk6.typed _ _ _ _ (.inr rfl) HTY.out
      have HN6 : Hid (W6.heap[wr.heap.size]? = some (.cells #[.int .i64 (u.1 : Int), .bool u.2] 119)) := hk6.typed _ _ _ _ (.inl (.inl rfl)) HNY.out
      have HM6 : Hid (MarksIn W.heap.size ds W6) := HMY.out.kept (by omega) hk6.other
      have HB6 : Hid (Below wA.heap.size W W6) := HBY.out.trans hk6.below
      clear HSY HTY HNY HMY HBY hk6 hy hYR q0 q1 qb fb HOW hgl
      obtain ⟨qt, _⟩ := boxed_of HT6.out
      have hnl : wr.heap.size < W6.heap.size := (Array.getElem?_eq_some_iff.1 HN6.out).1
      have hb6 : W.heap.size + 1 < W6.heap.size := HS6.out.1.lt
      have qn0 : W6.cell? ⟨wr.heap.size, 0, none⟩ = some (.int .i64 (u.1 : Int)) := by simp [World.cell?, HN6.out]
      have qn1 : W6.cell? ⟨wr.heap.size, 1, none⟩ = some (.bool u.2) := by simp [World.cell?, HN6.out]
      obtain ⟨b1, o1, rfl, hb1, ⟨p0, p1, p2, p3⟩, a1, c1, p4, r1⟩ := hR.atNode hu
      have bA6 : Below wA.heap.size wA W6 := hAW.trans HB6.out
      have p0' := (bA6.cell (p := ⟨b1, _, none⟩) hb1).trans p0
      have p1' := (bA6.cell (p := ⟨b1, _, none⟩) hb1).trans p1
      have p2' := (bA6.cell (p := ⟨b1, _, none⟩) hb1).trans p2
      have p3' := (bA6.cell (p := ⟨b1, _, none⟩) hb1).trans p3
      have p4' := (bA6.cell (p := ⟨b1, _, none⟩) hb1).trans p4
      have HPU : Hid (pushed ns u = if u.2 = false ∧ ns[u.1].kind = 1 then (u.1, true) :: (kidsAt ns u.1).reverse.map (fun k => (k, false)) else []) := by show _ = _; rw [pushed, ndAt_get hu]
      have HKA : Hid (kidsAt ns u.1 = ns[u.1].kids.map Int.toNat) := by show _ = _; rw [kidsAt, ndAt_get hu]
      have HKN : Hid (∀ z ∈ ns[u.1].kids, (u.1 : Int) < z ∧ z < ns.length) := (hs.2.1 u.1 hu).2.2
      have HKR : Hid (Reads wA a1 ns[u.1].kids) := r1.reads
      have hkl : ns[u.1].kids.length ≤ 1048576 := by have := Lay.sumL_at Lay.node hu; rw [Lay_node_wt, Lay.wt_ints] at this; omega
      clear p0 p1 p2 p3 p4 r1
      generalize ns[u.1] = y at *
      generalize y.kind = kd at *
      by_cases hpush : u.2 = false ∧ kd = 1
      · obtain ⟨u1, u2⟩ := u
        obtain ⟨rfl, rfl⟩ : u2 = false ∧ kd = 1 := hpush
        obtain ⟨i0, hi0, hz0, hz1, hz2⟩ := info_parts Tryd.infoVisit
        have B7 : Below W6.heap.size W6 (W6.alloc (.cells #[.int .i64 1, .int .i64 y.sym, .int .i64 y.alt, .int .i64 y.pl, .slice a1 y.kids.length c1] 55)) := (Below.refl _ _).alloc (Nat.le_refl _) _
        have HS7 : Hid (StackIn W.heap.size (W.heap.size + 1) st (W6.alloc (.cells #[.int .i64 1, .int .i64 y.sym, .int .i64 y.alt, .int .i64 y.pl, .slice a1 y.kids.length c1] 55)) (.slice (some ⟨g, 0, none⟩) st.length cap)) := ⟨HS6.out.1.alloc _, World.ownsRow.alloc HS6.out.2 _⟩
        have HOT : Hid (((W6.alloc (.cells #[.int .i64 1, .int .i64 y.sym, .int .i64 y.alt, .int .i64 y.pl, .slice a1 y.kids.length c1] 55)).alloc (.cells #[.int .i64 (u1 : Int), .bool true] 119)).ownsRow W.heap.size 119 2 (.slice (some ⟨g, 0, none⟩) st.length cap) st.length (vzCells st)) := World.ownsRow.alloc HS7.out.2 _
        have HNW : Hid (∀ (j : Nat) (u : Value), ([.int .i64 (u1 : Int), .bool true] : List Value)[j]? = some u → ((W6.alloc (.cells #[.int .i64 1, .int .i64 y.sym, .int .i64 y.alt, .int .i64 y.pl, .slice a1 y.kids.length c1] 55)).alloc (.cells #[.int .i64 (u1 : Int), .bool true] 119)).cell? ((⟨W6.heap.size + 1, 0, none⟩ : Addr).add j) = some u) := by
          have := new_two (W6.alloc (.cells #[.int .i64 1, .int .i64 y.sym, .int .i64 y.alt, .int .i64 y.pl, .slice a1 y.kids.length c1] 55)) (.int .i64 (u1 : Int)) (.bool true) 119
          intro j u hu
          have h1 := this j u hu
          rwa [World.size_alloc] at h1
        have HCN : Hid ((W6.alloc (.cells #[.int .i64 1, .int .i64 y.sym, .int .i64 y.alt, .int .i64 y.pl, .slice a1 y.kids.length c1] 55)).heap[W6.heap.size]? = some (.cells #[.int .i64 1, .int .i64 y.sym, .int .i64 y.alt, .int .i64 y.pl, .slice a1 y.kids.length c1] 55)) := heap_alloc_new W6 _
        have hW6 : W.heap.size ≤ W6.heap.size := by omega
        obtain ⟨q6b, f6b⟩ := boxed_of HS6.out.1
        have hg6 : g < W6.heap.size := (HS6.out.2.lt g rfl).2
        clear HTC HN6
        gi_wp2_with (first
          | (gi_at_call 105; refine (callsIn_wide.2 (backward_any _ _ _ _)).mono ?_; rintro e w' ⟨rfl, rfl⟩)
          | (gi_at_builtin; refine wpListIn_append_own _ rfl _ _ 137 rfl W.heap.size 119 i0 (.agg #[.int .i64 0, .bool false]) 2 16 Tryd.underlying137 hi0 hz0 hz1 hz2 rfl (by decide) _ _ _ rfl HOT.out ⟨W6.heap.size + 1, 0, none⟩ 1 1 [.int .i64 (u1 : Int), .bool true] rfl rfl HNW.out (by simp [Value.oneCell']) (by simp [maxLen]; omega) (by omega) (by simp; omega) ?_; intro v' w3 hown' hgrow _; obtain ⟨g', cap', rfl⟩ := ownsRow_succ hown'; obtain ⟨⟨hc3, hf3⟩, HS8, hw3, HW8, hs3, hko⟩ := HS7.out.turn (u := (u1, true)) (by simp; omega) (Nat.le_succ _) hown' hgrow; have q4n : w3.cell? ⟨W6.heap.size, 4, none⟩ = some (.slice a1 y.kids.length c1) := node_at hw3 HCN.out hg6 4; clear hown' hgrow))
        -- behind the push of the part's end
        obtain ⟨Wz, hWz⟩ : ∃ Wz, (w3.setCell ⟨W.heap.size + 1, 0, none⟩ (.slice (some ⟨g', 0, none⟩) (st.length + 1) cap')).alloc (.cells #[.slice a1 y.kids.length c1] 25) = Wz := ⟨_, rfl⟩
        rw [hWz]
        have b8 : Below (w3.setCell ⟨W.heap.size + 1, 0, none⟩ (.slice (some ⟨g', 0, none⟩) (st.length + 1) cap')).heap.size (w3.setCell ⟨W.heap.size + 1, 0, none⟩ (.slice (some ⟨g', 0, none⟩) (st.length + 1) cap')) Wz := by rw [← hWz]; exact (Below.refl _ _).alloc (Nat.le_refl _) _
        have hbk : Wz.heap[w3.heap.size]? = some (.cells #[.slice a1 y.kids.length c1] 25) := by
          rw [← hWz]
          have := heap_alloc_new (w3.setCell ⟨W.heap.size + 1, 0, none⟩ (.slice (some ⟨g', 0, none⟩) (st.length + 1) cap')) (.cells #[.slice a1 y.kids.length c1] 25)
          simpa using this
        have hzs : Wz.heap.size = w3.heap.size + 1 := by rw [← hWz]; simp
        have hs4 : W6.heap.size < w3.heap.size := by rw [World.size_alloc] at hs3; omega
        clear hs3
        have HSz : Hid (StackIn W.heap.size (W.heap.size + 1) (st ++ [(u1, true)]) Wz (.slice (some ⟨g', 0, none⟩) (st.length + 1) cap')) := by
          rw [← hWz]
          exact ⟨HS8.1.alloc _, World.ownsRow.alloc HS8.2 _⟩
        have HW68 : Within W6 (w3.setCell ⟨W.heap.size + 1, 0, none⟩ (.slice (some ⟨g', 0, none⟩) (st.length + 1) cap')) (Theirs visTv W.heap.size W6) := Within.after B7 HW8
        have HWz : Hid (Within W6 Wz (Theirs visTv W.heap.size W6)) := HW68.trans (within_none b8 _)
        have HMz0 : MarksIn W.heap.size ds Wz := ((HM6.out.within (within_none B7 (fun _ => False)) (fun _ _ _ _ h => h)).kept (Nat.le_refl _) (hko.from _)).within (within_none b8 (fun _ => False)) (fun _ _ _ _ h => h)
        clear hko hWz b8 HS8 HW8 HW68 hw3 q4n hc3 hf3 HOT HNW HCN HS7 B7
        have HJz : Hid (J ((visAt ns 0).take (i + 1)) Wz) := hJ _ _ _ hJ6 HWz.out
        have HTz : Hid (Wz.heap[Bt]? = some (.cells #[.slice (some ⟨b1, o1, none⟩) ns.length c0] 43)) := HWz.out.typed HT6.out (by unfold visTv; decide)
        have HMz : Hid (MarksIn W.heap.size ds Wz) := HMz0
        have HBz : Hid (Below wA.heap.size wA Wz) := HWz.out.below (hAW.trans HB6.out) (fun k hk => by have := hk.1; omega)
        have HKr : Hid (y.kids = [] ∨ ∃ b off, a1 = some ⟨b, off, none⟩ ∧ b < wA.heap.size ∧ ∀ j (hj : j < y.kids.length), Wz.cell? ⟨b, off + j, none⟩ = some (.int .i64 y.kids[j])) := by
          rcases HKR.out with e | ⟨b, off, e, hb, hc⟩
          · exact .inl e
          · refine .inr ⟨b, off, e, hb, fun j hj => (HBz.out.cell (p := ⟨b, off + j, none⟩) hb).trans ?_⟩
            rw [hc j hj, List.getD_eq_getElem?_getD, List.getElem?_eq_getElem hj, Option.getD_some]
        clear HMz0 HKR HS6 HT6 HM6 q6b f6b
        obtain ⟨bk, ok, hbk2⟩ : ∃ bk ok, y.kids = [] ∨ (a1 = some ⟨bk, ok, none⟩ ∧ bk < wA.heap.size ∧ ∀ j (hj : j < y.kids.length), Wz.cell? ⟨bk, ok + j, none⟩ = some (.int .i64 y.kids[j])) := by
          rcases HKr.out with e | ⟨b, off, h⟩
          · exact ⟨0, 0, .inl e⟩
          · exact ⟨b, off, .inr h⟩
        have hseq := backward_seq w3.heap.size wA.heap.size bk ok c1 a1 y.kids hkl Wz hbk (by omega) hbk2
        clear hbk hbk2 HKr
        refine wpIn_rangeT (gf := 115) (lb := #[.pointer (some ⟨w3.heap.size, 0, none⟩)]) rfl (enters_of Tryd.func115 (by kernel_rfl) rfl) hseq (Below.refl _ _) (by omega) (fun _ => rfl)
          (fun pre W' => (∃ v, StackIn W.heap.size (W.heap.size + 1) (st ++ (u1, true) :: pre.map (fun x => (x.1.toNat, false))) W' v) ∧ Within Wz W' (Theirs visTv W.heap.size Wz) ∧ KeepsFrom W.heap.size Wz W')
          (fun _ _ _ => False)
          ?hI (fun _ _ _ _ hs _ => hs) ⟨⟨_, HSz.out⟩, Within.refl _ _, KeepsFrom.refl _ _⟩
          (fun x a' _ => a' = { tmps := #[.func (.yield l) #[] #[], .pointer (some ⟨Bt, 0, none⟩), undef, .pointer (some ⟨W.heap.size + 1, 0, none⟩), .int .i64 (st.length : Int), .pointer (some ⟨wr.heap.size, 0, none⟩), .pointer (some ⟨W6.heap.size, 0, none⟩), u7, .int .i64 x.1, .agg #[.int .i64 0, .bool false], .slice (some ⟨W.heap.size, 0, none⟩) 1 1, .slice (some ⟨g, 0, none⟩) (st.length + 1) cap, .int .i64 ((st.length : Int) + 1), .bool true, .slice (some ⟨g, 0, none⟩) (st.length + 1) cap, .int .i64 ((st.length : Int) + 1), .int .i64 (st.length : Int), .slice (some ⟨g, 0, none⟩) (st.length + 1) cap, .int .i64 (st.length : Int), .pointer (some ⟨g, st.length * 2, none⟩), .agg #[.int .i64 (u1 : Int), .bool false], .slice (some ⟨g, 0, none⟩) (st.length + 1) cap, .int .i64 (st.length : Int), .slice (some ⟨g, 0, none⟩) st.length cap, .func (.yield l) #[] #[], .agg #[.int .i64 (u1 : Int), .bool false], .bool true, .bool false, .pointer (some ⟨Bt, 0, none⟩), .slice (some ⟨b1, o1, none⟩) ns.length c0, .pointer (some ⟨wr.heap.size, 0, none⟩), .int .i64 (u1 : Int), .pointer (some ⟨b1, o1 + u1 * 5, none⟩), .agg #[.int .i64 1, .int .i64 y.sym, .int .i64 y.alt, .int .i64 y.pl, .slice a1 y.kids.length c1], .pointer (some ⟨wr.heap.size, 1, none⟩), .bool false, .bool false, .pointer (some ⟨W6.heap.size, 0, none⟩), .int .i64 1, .bool false, .bool false, .slice (some ⟨g, 0, none⟩) st.length cap, .pointer (some ⟨wr.heap.size, 0, none⟩), .int .i64 (u1 : Int), .agg #[.int .i64 (u1 : Int), .bool true], .slice (some ⟨W6.heap.size + 1, 0, none⟩) 1 1, .slice (some ⟨g', 0, none⟩) (st.length + 1) cap', .pointer (some ⟨W6.heap.size, 4, none⟩), .slice a1 y.kids.length c1, .func (.func 115) #[] #[.pointer (some ⟨w3.heap.size, 0, none⟩)], .int .i64 (x.2 : Int), .int .i64 x.1, u52, u53, u54, u55, u56], defers := [] }) (fun _ _ _ _ _ _ h _ => h) ?assign ?body ?done ?stop
        case hI =>
          rintro pre W' W'' ⟨⟨v, hv⟩, hw, hk⟩ hw2
          refine ⟨⟨v, hv.stays hw2⟩, hw.beyond hw2 (fun k hk ht => absurd ht.1 (by omega)), ⟨Nat.le_trans hk.size hw2.size, fun k o hb ho hc => hw2.same (hk.same k o hb ho hc) (fun ht => ?_)⟩⟩
          have h1 := (Array.getElem?_eq_some_iff.1 ho).1
          have h2 := ht.1
          omega
        case assign =>
          intro l2 m pre x W' K2 hI hp hK2
          gi_wp2
          exact hK2 _ _ (Below.refl _ _) rfl
        case body =>
          rintro l2 m pre ⟨z, zi⟩ a' W' hl2 hl3 ⟨⟨v, hv⟩, hw, hk⟩ rfl hp
          have hzn := HKN.out z (backs_mem (hp.subset (by simp) : (z, zi) ∈ backs y.kids))
          obtain ⟨kz, rfl⟩ : ∃ kz : Nat, z = kz := ⟨z.toNat, by omega⟩
          have hpl : pre.length + 1 ≤ 1048576 := by
            have := hp.length_le
            rw [backs_length, List.length_append, List.length_singleton] at this
            omega
          have hc := hv.1.cell
          have hsl : (st ++ (u1, true) :: pre.map (fun x => (x.1.toNat, false))).length = st.length + 1 + pre.length := by simp; omega
          have hWW : W.heap.size ≤ W'.heap.size := by omega
          gi_wp2_with (first
            | (gi_at_builtin; refine wpListIn_append_own _ rfl _ _ 137 rfl W.heap.size 119 i0 (.agg #[.int .i64 0, .bool false]) 2 16 Tryd.underlying137 hi0 hz0 hz1 hz2 rfl (by decide) _ _ _ rfl (World.ownsRow.alloc hv.2 _) ⟨W'.heap.size, 0, none⟩ 1 1 [.int .i64 (kz : Int), .bool false] rfl rfl (new_two _ _ _ _) (by simp [Value.oneCell']) (by rw [hsl]; simp [maxLen]; omega) (by rw [hsl]; omega) (by simp; omega) ?_; intro v' w4 hown' hgrow _; obtain ⟨g4, cap4, rfl⟩ := ownsRow_succ hown'; obtain ⟨⟨hc4, hf4⟩, HS9, _, HW9, hs9, hko9⟩ := hv.turn (u := (kz, false)) hWW (Nat.le_succ _) hown' hgrow; clear hown' hgrow))
          rw [hsl] at HW9 hko9 HS9
          refine ⟨⟨within_below HW9 hnW (by omega), fun k cur t p e hk2 => HW9.typed hk2 (by subst e; unfold visTv; decide), hko9.from _⟩, ⟨.slice (some ⟨g4, 0, none⟩) (st.length + 1 + pre.length + 1) cap4, ?_⟩, within_theirs hw HW9, hk.trans (hko9.from _)⟩
          have e : st ++ (u1, true) :: (pre ++ [((kz : Int), zi)]).map (fun x => (x.1.toNat, false)) = (st ++ (u1, true) :: pre.map (fun x => (x.1.toNat, false))) ++ [(kz, false)] := by simp
          rw [e]
          exact HS9
        case done =>
          rintro D W' hD ⟨⟨v, hv⟩, hw, hk⟩ hd
          have hpe : pushed ns (u1, false) = (u1, true) :: (backs y.kids).map (fun x => (x.1.toNat, false)) := by rw [HPU.out, backs_map, HKA.out]; simp
          rw [← hpe] at hv
          have HV9 : VIn ns J wA.heap.size Bt (.slice (some ⟨b1, o1, none⟩) ns.length c0) W (i + 1) (st ++ pushed ns (u1, false)) (toCome ns (st ++ pushed ns (u1, false))).length (D :: ds) v W' := by
            refine ⟨HAL.out, hJ _ _ _ HJz.out (hw), fun x hx => ?_, hv, hw.typed HTz.out (by unfold visTv; decide), ?_, rfl, (HMz.out.kept (Nat.le_refl _) hk).push HMz.out.lt hD (by omega) hd⟩
            · rcases List.mem_append.1 hx with hx | hx
              · exact HLT.out x hx
              · exact pushed_lt hs hu x hx
            · have h1 : Below wA.heap.size W W6 := HB6.out
              exact h1.trans (((within_below HWz.out hnW (by omega))).trans (within_below hw hnW (by omega)))
          exact hK _ _ _ HNUM.out ⟨_, _, _, _, _, _, _, _, _, _, _, _, _, _, _, _, _, _, _, _, _, _, _, _, _, _, _, _, _, _, _, _, _, _, _, _, _, _, _, _, _, _, _, _, _, _, _, _, _, _, _, D :: ds, ⟨i + 1, _, _, HV9⟩, rfl⟩
        case stop =>
          rintro D c pre x W' _ _ h _
          exact h.elim
      · have HSK : Hid (Hid (VIn ns J wA.heap.size Bt (.slice (some ⟨b1, o1, none⟩) ns.length c0) W (i + 1) st (toCome ns (st ++ pushed ns u)).length ds (.slice (some ⟨g, 0, none⟩) st.length cap) (W6.alloc (.cells #[.int .i64 kd, .int .i64 y.sym, .int .i64 y.alt, .int .i64 y.pl, .slice a1 y.kids.length c1] 55)))) := by
          have e : pushed ns u = [] := by rw [HPU.out, if_neg hpush]
          have b6 : Below W6.heap.size W6 (W6.alloc (.cells #[.int .i64 kd, .int .i64 y.sym, .int .i64 y.alt, .int .i64 y.pl, .slice a1 y.kids.length c1] 55)) := (Below.refl _ _).alloc (Nat.le_refl _) _
          have hA := HAL.out
          rw [e, List.append_nil] at hA
          rw [e, List.append_nil]
          exact ⟨hA, hJ.later hJ6 b6, HLT.out, ⟨HS6.out.1.alloc _, World.ownsRow.alloc HS6.out.2 _⟩, (b6.block Bt (Array.getElem?_eq_some_iff.1 HT6.out).1).trans HT6.out, HB6.out.alloc (by have := HB6.out.size; omega) _, rfl, HM6.out.within (within_none b6 (fun _ => False)) (fun _ _ _ _ h => h)⟩
        have hnum := HNUM.out
        clear HPU HKA HKN HKR HTC HT HAL HNUM HLT HS6 HT6 HN6 HM6 HB6 HY HL bA6
        obtain ⟨u1, u2⟩ := u
        cases u2 with
        | true =>
          gi_wp2
          exact hK _ _ _ hnum ⟨_, _, _, _, _, _, _, _, _, _, _, _, _, _, _, _, _, _, _, _, _, _, _, _, _, _, _, _, _, _, _, _, _, _, _, _, _, _, _, _, _, _, _, _, _, _, _, _, _, _, _, ds, ⟨i + 1, st, _, HSK.out⟩, rfl⟩
        | false =>
          have hkd : ¬ kd = 1 := fun e => hpush ⟨rfl, e⟩
          gi_wp2
          exact hK _ _ _ hnum ⟨_, _, _, _, _, _, _, _, _, _, _, _, _, _, _, _, _, _, _, _, _, _, _, _, _, _, _, _, _, _, _, _, _, _, _, _, _, _, _, _, _, _, _, _, _, _, _, _, _, _, _, ds, ⟨i + 1, st, _, HSK.out⟩, rfl⟩
    · clear HSY HTY HNY HBY hy hYR q0 q1 qb fb HOW hgl
      have HM6 : Hid (MarksIn W.heap.size ds W6) := HMY.out.kept (by omega) hk6
      have HP6 : Hid ((visAt ns 0).take i ++ [u] <+: visAt ns 0) := by show _ <+: _; rw [← HT.out]; exact List.take_prefix _ _
      clear HMY
      gi_wp2
      refine leaves_marks ds W6 HM6.out fun w' hw' => ⟨_, results_none rfl _ _ _, ⟨_, rfl⟩, .inr ⟨(visAt ns 0).take i, u, HP6.out, ?_⟩⟩
      rw [← HT.out]
      exact hJx _ _ _ hJx6 (hw'.mono (fun x hx => ⟨hx.1, hx.2.elim fun o ho => ⟨o, ho.1, .inl ho.2⟩⟩))
end Go.Proofs.YthnppodnjokaoaaDoor
namespace Go.Proofs.YthnppodnjokaoaaDoor
open Go.RowKit Go.Shelf

attribute [local go_sem] Oper.semAt_some wide_fn wide_fn_in wide_depth wide_depth_in

theorem leaves_any (a : Option Addr) (len cap : Nat) (w : World) :
    Calls Tryd.prog 64 #[.agg #[.slice a len cap]] w fun e w' => e = .returned (.func (.func 87) #[] #[.pointer (some ⟨w.heap.size, 0, none⟩)]) ∧ w' = w.alloc (.cells #[.slice a len cap] 43) := by
  go_enter Tryd.func64, Tryd.ntmps64
  go_wp2
  go_ret
  exact ⟨rfl, rfl⟩

/-- The value of a node's Kids, as the tree's memory has it. -/
def kvAt (w : World) (a : Option Addr) (p : Nat) : Option Addr × Nat := match a with
  | some x => (match w.cell? ⟨x.block, x.off + p * 5 + 4, none⟩ with
    | some (.slice b _ c) => (b, c)
    | _ => (none, 0))
  | none => (none, 0)
abbrev Lf := Nd × (Option Addr × Nat)
def ndEnc (y : Lf) : Array Value := #[.agg #[.int .i64 y.1.kind, .int .i64 y.1.sym, .int .i64 y.1.alt, .int .i64 y.1.pl, .slice y.2.1 y.1.kids.length y.2.2]]
def leafOf (ns : List Nd) (w : World) (a : Option Addr) (v : Nat × Bool) : Option Lf := if v.2 = false ∧ (ndAt ns v.1).kind = 0 then some (ndAt ns v.1, kvAt w a v.1) else none
def leavesOf (ns : List Nd) (w : World) (a : Option Addr) : List Lf := (visAt ns 0).filterMap (leafOf ns w a)
def lvTk (t : TypeId) : Prop := visTk t ∨ t = 114
theorem filterMap_prefix {α β : Type} {f : α → Option β} {xs ys : List α} (h : xs <+: ys) : xs.filterMap f <+: ys.filterMap f := by
  obtain ⟨t, rfl⟩ := h
  exact ⟨t.filterMap f, by rw [List.filterMap_append]⟩
theorem filterMap_snoc {α β : Type} (f : α → Option β) (xs : List α) (x : α) : (xs ++ [x]).filterMap f = xs.filterMap f ++ (f x).toList := by
  rw [List.filterMap_append]
  cases h : f x <;> simp [h]
/-- Of the visits of a tree all are to its nodes. -/
theorem vis_lt {ns : List Nd} (s : Shaped ns) : ∀ (f p : Nat), p < ns.length → ∀ v ∈ vis ns f p, v.1 < ns.length ∧ (v.2 = true → (ndAt ns v.1).kind = 1)
  | 0, _, _, v, hv => by simp [vis] at hv
  | f + 1, p, hp, v, hv => by
    rw [vis] at hv
    rcases List.mem_cons.1 hv with rfl | hv
    · exact ⟨hp, fun h => by cases h⟩
    · split at hv
      · rename_i hk1
        rcases List.mem_append.1 hv with hv | hv
        · obtain ⟨k, hk, hv⟩ := List.mem_flatMap.1 hv
          exact vis_lt s f k (kid_lt s hp hk).2 v hv
        · simp at hv; subst hv; exact ⟨hp, fun _ => hk1⟩
      · simp at hv

set_option maxRecDepth 100000 in
set_option maxHeartbeats 4000000 in
theorem leaves_seq (ns : List Nd) (hs : Shaped ns) (hlen : ns.length ≤ 1048576) (hsum : Lay.node.sumL ns ≤ 1048576) (wA : World) (a0 : Option Addr) (c0 : Nat) (hR : RD wA (.slice a0 ns.length c0) (slD Lay.node ns)) (w : World) (hA : Below wA.heap.size wA w) (Bt : Nat) (hB : w.heap[Bt]? = some (.cells #[.slice a0 ns.length c0] 43)) :
    SeqT Tryd.prog 87 #[.pointer (some ⟨Bt, 0, none⟩)] ndEnc (leavesOf ns wA a0) visTv lvTk wA.heap.size w := by
  intro n l J Jx W hW hl hJ hJx hY h0
  refine callsIn_of_wp_marks Tryd.func87 rfl trivial ?_ rfl
  simp only [Tryd.ntmps87, List.size_toArray, List.length_cons, List.length_nil, Nat.reduceAdd, Nat.reduceSub, Array.replicate_succ, Array.replicate_zero, List.push_toArray, List.append_toArray, List.nil_append, List.cons_append]
  have hB1 : W.heap[Bt]? = some (.cells #[.slice a0 ns.length c0] 43) := (hW.block Bt (Array.getElem?_eq_some_iff.1 hB).1).trans hB
  have hBl : Bt < W.heap.size := (Array.getElem?_eq_some_iff.1 hB1).1
  obtain ⟨qt, _⟩ := boxed_of hB1
  have hAW : Below wA.heap.size wA W := hA.trans (hW.mono hA.size)
  have hnW := hAW.size
  gi_wp2_with (gi_at_call 88; refine (callsIn_wide.2 (visits_any _ _ _ _)).mono ?_; rintro e w' ⟨rfl, rfl⟩)
  obtain ⟨Wz, hWz⟩ : ∃ Wz, (W.alloc (.cells #[.func (.yield l) #[] #[]] 114)).alloc (.cells #[.slice a0 ns.length c0] 43) = Wz := ⟨_, rfl⟩
  rw [hWz]
  have bz : Below W.heap.size W Wz := by rw [← hWz]; exact ((Below.refl _ _).alloc (Nat.le_refl _) _).alloc (by simp) _
  have hz1 : W.heap.size + 2 ≤ Wz.heap.size := by rw [← hWz]; simp
  have hy0 : Wz.heap[W.heap.size]? = some (.cells #[.func (.yield l) #[] #[]] 114) := by
    rw [← hWz]; exact (Below.heap_alloc _ _ _ (by simp)).trans (heap_alloc_new W _)
  have ht0 : Wz.heap[W.heap.size + 1]? = some (.cells #[.slice a0 ns.length c0] 43) := by
    rw [← hWz]
    have := heap_alloc_new (W.alloc (.cells #[.func (.yield l) #[] #[]] 114)) (.cells #[.slice a0 ns.length c0] 43)
    simpa using this
  have hB2 : Wz.heap[Bt]? = some (.cells #[.slice a0 ns.length c0] 43) := (bz.block Bt hBl).trans hB1
  have hJz : J [] Wz := hJ.later h0 bz
  have hAz : Below wA.heap.size wA Wz := hAW.trans (bz.mono hnW)
  have hseq := visits_seq ns hs hlen hsum wA a0 c0 hR Wz hAz (W.heap.size + 1) ht0
  clear hWz hB1 h0 qt
  refine wpIn_rangeT (gf := 104) (lb := #[.pointer (some ⟨W.heap.size + 1, 0, none⟩)]) rfl (enters_of Tryd.func104 (by kernel_rfl) rfl) hseq (Below.refl _ _) (by omega) (fun _ => rfl)
    (fun pre W' => J (pre.filterMap (leafOf ns wA a0)) W' ∧ W'.heap[W.heap.size]? = some (.cells #[.func (.yield l) #[] #[]] 114) ∧ W'.heap[Bt]? = some (.cells #[.slice a0 ns.length c0] 43) ∧ Below wA.heap.size Wz W')
    (fun c _ W' => c = .ret ∧ ∃ q y, q ++ [y] <+: leavesOf ns wA a0 ∧ Jx (q ++ [y]) W')
    ?hI ?hIx ⟨hJz, hy0, hB2, Below.refl _ _⟩
    (fun x a' W' => ∃ Bv, W'.heap[Bv]? = some (.cells #[.int .i64 (x.1 : Int), .bool x.2] 119) ∧ a' = { tmps := #[.func (.yield l) #[] #[], .pointer (some ⟨Bt, 0, none⟩), .pointer (some ⟨W.heap.size, 0, none⟩), .pointer (some ⟨Bv, 0, none⟩), undef, .agg #[.slice a0 ns.length c0], .func (.func 104) #[] #[.pointer (some ⟨W.heap.size + 1, 0, none⟩)], .agg #[.int .i64 (x.1 : Int), .bool x.2], undef, undef, undef, undef, undef, undef, undef, undef, undef, undef, undef, undef, undef, undef, undef], defers := [] }) ?hAx ?assign ?body ?done ?stop
  case hI =>
    rintro pre W' W'' ⟨h1, h2, h3, h4⟩ hw
    exact ⟨hJ _ _ _ h1 (hw.mono (fun k hk => ⟨by have := hk.1; omega, hk.2⟩)), hw.same h2 (fun hk => by have := hk.1; omega), hw.same h3 (fun hk => by have := hk.1; omega), h4.trans (within_below hw (by omega) (by have := h4.size; omega))⟩
  case hIx =>
    rintro c pre W' W'' ⟨h1, q, y, h2, h3⟩ hw
    exact ⟨h1, q, y, h2, hJx _ _ _ h3 (hw.mono (fun k hk => ⟨by have := hk.1; omega, hk.2⟩))⟩
  case hAx =>
    rintro x a' W' l' r r' ⟨Bv, h1, h2⟩ hr
    exact ⟨Bv, (World.putObj_heap_other (fun e => by subst e; rw [h1] at hr; cases hr)).trans h1, h2⟩
  case assign =>
    intro l2 m pre x W' K2 hI hp hK2
    unfold vzEnc
    gi_wp2
    exact hK2 _ _ ((Below.refl _ _).alloc (Nat.le_refl _) _) ⟨W'.heap.size, heap_alloc_new W' _, rfl⟩
  case body =>
    rintro l2 m pre ⟨p, b⟩ a' W' hl2 hl3 ⟨h1, h2, h3, h4⟩ ⟨Bv, hv, rfl⟩ hp
    obtain ⟨hpl, hpt⟩ := vis_lt hs _ 0 (List.length_pos_iff.2 hs.1) (p, b) (hp.subset (by simp))
    obtain ⟨qt, _⟩ := boxed_of h3
    obtain ⟨qy, _⟩ := boxed_of h2
    have qv0 : W'.cell? ⟨Bv, 0, none⟩ = some (.int .i64 (p : Int)) := by simp [World.cell?, hv]
    have hbv : Bv < W'.heap.size := (Array.getElem?_eq_some_iff.1 hv).1
    have hWW : W.heap.size + 2 ≤ W'.heap.size := by have := h4.size; omega
    have hWl : W.heap.size < W'.heap.size := by omega
    obtain ⟨b1, o1, rfl, hb1, ⟨p0, p1, p2, p3⟩, a1, c1, p4, r1⟩ := hR.atNode hpl
    have bA : Below wA.heap.size wA W' := hAz.trans h4
    have p0' := (bA.cell (p := ⟨b1, _, none⟩) hb1).trans p0
    have p1' := (bA.cell (p := ⟨b1, _, none⟩) hb1).trans p1
    have p2' := (bA.cell (p := ⟨b1, _, none⟩) hb1).trans p2
    have p3' := (bA.cell (p := ⟨b1, _, none⟩) hb1).trans p3
    have p4' := (bA.cell (p := ⟨b1, _, none⟩) hb1).trans p4
    have HLF : Hid (leafOf ns wA (some ⟨b1, o1, none⟩) (p, b) = if b = false ∧ ns[p].kind = 0 then some (ns[p], (a1, c1)) else none) := by
      show _ = _
      simp only [leafOf, kvAt, ndAt_get hpl, p4]
    have HPT : Hid (b = true → ns[p].kind = 1) := by rw [ndAt_get hpl] at hpt; exact hpt
    have HFM : Hid ((pre ++ [(p, b)]).filterMap (leafOf ns wA (some ⟨b1, o1, none⟩)) = pre.filterMap (leafOf ns wA (some ⟨b1, o1, none⟩)) ++ (leafOf ns wA (some ⟨b1, o1, none⟩) (p, b)).toList) := by
      exact filterMap_snoc _ _ _
    have HPX : Hid ((pre ++ [(p, b)]).filterMap (leafOf ns wA (some ⟨b1, o1, none⟩)) <+: leavesOf ns wA (some ⟨b1, o1, none⟩)) := filterMap_prefix hp
    clear p0 p1 p2 p3 p4 r1 hpt hp
    generalize ns[p] = y at *
    by_cases hkd : y.kind = 0
    · have hbf : b = false := by
        cases b with
        | false => rfl
        | true => have := HPT.out rfl; omega
      subst hbf
      rw [if_pos ⟨rfl, hkd⟩] at HLF
      rw [HLF.out] at HFM
      rw [HFM.out] at HPX
      have HY : Hid (YieldAt Fence.wide (m - 1) Tryd.prog l #[.agg #[.int .i64 0, .int .i64 y.sym, .int .i64 y.alt, .int .i64 y.pl, .slice a1 y.kids.length c1]] (W'.alloc (.cells #[.int .i64 0, .int .i64 y.sym, .int .i64 y.alt, .int .i64 y.pl, .slice a1 y.kids.length c1] 55)) fun e W2 =>
          (e = .returned (.bool true) ∧ J (pre.filterMap (leafOf ns wA (some ⟨b1, o1, none⟩)) ++ [(y, (a1, c1))]) W2 ∧ Kept3 wA.heap.size (l + 1) lvTk (W'.alloc (.cells #[.int .i64 0, .int .i64 y.sym, .int .i64 y.alt, .int .i64 y.pl, .slice a1 y.kids.length c1] 55)) W2) ∨
          (e = .returned (.bool false) ∧ Jx (pre.filterMap (leafOf ns wA (some ⟨b1, o1, none⟩)) ++ [(y, (a1, c1))]) W2 ∧ KeepsFrom (l + 1) (W'.alloc (.cells #[.int .i64 0, .int .i64 y.sym, .int .i64 y.alt, .int .i64 y.pl, .slice a1 y.kids.length c1] 55)) W2)) := by
        have := hY (m - 1) (pre.filterMap (leafOf ns wA (some ⟨b1, o1, none⟩))) (y, (a1, c1)) (W'.alloc (.cells #[.int .i64 0, .int .i64 y.sym, .int .i64 y.alt, .int .i64 y.pl, .slice a1 y.kids.length c1] 55)) (hJ.later h1 ((Below.refl _ _).alloc (Nat.le_refl _) _)) HPX.out
        unfold ndEnc at this
        simp only [hkd] at this
        exact this
      obtain ⟨fn, tmps, asg, bdy, hyr, hYR⟩ := HY.out
      rw [hkd] at p0'
      have hk0 : Kept3 wA.heap.size Wz.heap.size visTk W' (W'.alloc (.cells #[.int .i64 0, .int .i64 y.sym, .int .i64 y.alt, .int .i64 y.pl, .slice a1 y.kids.length c1] 55)) := Kept3.of_below ((Below.refl _ _).alloc (Nat.le_refl _) _) (by omega)
      have h2' : (W'.alloc (.cells #[.int .i64 0, .int .i64 y.sym, .int .i64 y.alt, .int .i64 y.pl, .slice a1 y.kids.length c1] 55)).heap[W.heap.size]? = some (.cells #[.func (.yield l) #[] #[]] 114) := (Below.heap_alloc _ _ _ (by omega)).trans h2
      have h3' : (W'.alloc (.cells #[.int .i64 0, .int .i64 y.sym, .int .i64 y.alt, .int .i64 y.pl, .slice a1 y.kids.length c1] 55)).heap[Bt]? = some (.cells #[.slice (some ⟨b1, o1, none⟩) ns.length c0] 43) := (Below.heap_alloc _ _ _ (by omega)).trans h3
      have h4' : Below wA.heap.size Wz (W'.alloc (.cells #[.int .i64 0, .int .i64 y.sym, .int .i64 y.alt, .int .i64 y.pl, .slice a1 y.kids.length c1] 55)) := h4.alloc (by omega) _
      have HPQ : Hid (pre.filterMap (leafOf ns wA (some ⟨b1, o1, none⟩)) ++ [(y, (a1, c1))] <+: leavesOf ns wA (some ⟨b1, o1, none⟩)) := HPX.out
      clear HY hY HLF HPX hJ hJx hseq h1 h2 h3 h4 hkd
      gi_wp2
      refine hYR.mono ?_
      rintro e W2 (⟨rfl, hJ2, hk2⟩ | ⟨rfl, hJx2, hk2⟩)
      · gi_wp2
        refine ⟨hk0.trans (hk2.mono (Nat.le_refl _) (by omega) (fun t ht => .inl ht)), ?_, hk2.typed _ _ _ _ (.inr rfl) h2', hk2.typed _ _ _ _ (.inl (.inr rfl)) h3', h4'.trans hk2.below⟩
        rw [HFM.out]
        exact hJ2
      · gi_wp2
        exact ⟨hk0.other.trans (keepsFrom_mono hk2 (by omega)), rfl, _, _, HPQ.out, hJx2⟩
    · rw [if_neg (fun h => hkd h.2)] at HLF
      rw [HLF.out, Option.toList_none, List.append_nil] at HFM
      have hI2 : J (pre.filterMap (leafOf ns wA (some ⟨b1, o1, none⟩))) (W'.alloc (.cells #[.int .i64 y.kind, .int .i64 y.sym, .int .i64 y.alt, .int .i64 y.pl, .slice a1 y.kids.length c1] 55)) := hJ.later h1 ((Below.refl _ _).alloc (Nat.le_refl _) _)
      have h2' : (W'.alloc (.cells #[.int .i64 y.kind, .int .i64 y.sym, .int .i64 y.alt, .int .i64 y.pl, .slice a1 y.kids.length c1] 55)).heap[W.heap.size]? = some (.cells #[.func (.yield l) #[] #[]] 114) := (Below.heap_alloc _ _ _ (by omega)).trans h2
      have h3' : (W'.alloc (.cells #[.int .i64 y.kind, .int .i64 y.sym, .int .i64 y.alt, .int .i64 y.pl, .slice a1 y.kids.length c1] 55)).heap[Bt]? = some (.cells #[.slice (some ⟨b1, o1, none⟩) ns.length c0] 43) := (Below.heap_alloc _ _ _ (by omega)).trans h3
      have h4' : Below wA.heap.size Wz (W'.alloc (.cells #[.int .i64 y.kind, .int .i64 y.sym, .int .i64 y.alt, .int .i64 y.pl, .slice a1 y.kids.length c1] 55)) := h4.alloc (by omega) _
      have hk0 : Kept3 wA.heap.size Wz.heap.size visTk W' (W'.alloc (.cells #[.int .i64 y.kind, .int .i64 y.sym, .int .i64 y.alt, .int .i64 y.pl, .slice a1 y.kids.length c1] 55)) := Kept3.of_below ((Below.refl _ _).alloc (Nat.le_refl _) _) (by omega)
      clear hY HLF HPX hJ hJx hseq h1 h2 h3 h4
      gi_wp2
      refine ⟨hk0, ?_, h2', h3', h4'⟩
      rw [HFM.out]
      exact hI2
  case done =>
    rintro D W' hD ⟨h1, h2, h3, h4⟩ hd
    gi_wp2
    refine leaves_marks (B := Wz.heap.size) [D] W' ⟨by simp, fun x hx => ?_⟩ fun w' hw' => ⟨_, results_none rfl _ _ _, ⟨_, rfl⟩, .inl ?_⟩
    · simp at hx; subst hx; exact ⟨hD, hd⟩
    · exact hJ _ _ _ h1 (hw'.mono (fun x hx => ⟨by have := hx.1; omega, hx.2.elim fun o ho => ⟨o, ho.1, .inl ho.2⟩⟩))
  case stop =>
    rintro D c pre x W' hD hp ⟨rfl, q, y, h1, h2⟩ hd
    gi_wp2
    refine leaves_marks (B := Wz.heap.size) [D] W' ⟨by simp, fun x hx => ?_⟩ fun w' hw' => ⟨_, results_none rfl _ _ _, ⟨_, rfl⟩, .inr ⟨q, y, h1, ?_⟩⟩
    · simp at hx; subst hx; exact ⟨hD, hd⟩
    · exact hJx _ _ _ h2 (hw'.mono (fun x hx => ⟨by have := hx.1; omega, hx.2.elim fun o ho => ⟨o, ho.1, .inl ho.2⟩⟩))
end Go.Proofs.YthnppodnjokaoaaDoor
