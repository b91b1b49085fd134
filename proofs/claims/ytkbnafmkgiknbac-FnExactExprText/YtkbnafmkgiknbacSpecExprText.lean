/-
  Contract of spec.ExprText over this translation. No statement is proved here.
-/
import Derived.Test.YtkbnafmkgiknbacExStr
import Derived.Deep.RegionHeld
namespace Go.Proofs.Ytkbnafmkgiknbac
open Go.RowKit

theorem str_val {s : ByteArray} {l : List UInt8} (h : s.data.toList = l) : s = ⟨l.toArray⟩ := by
  apply ByteArray.ext; apply Array.ext'; simpa using h

/-- What is known of expressions with fewer nodes. -/
def TextBelow (N : Nat) : Prop := ∀ (x : Ex), x.nodes < N → ∀ (a : Option Addr) (c : Nat) (w : World), RD w (.slice a x.kids.length c) (exD x.kids) → x.wt ≤ 1099511627776 →
    Calls Try.prog 18 #[.agg #[.int .i64 x.kind, .string x.text, .slice a x.kids.length c]] w fun e w' => e = .returned (strOfB x.str) ∧ Below w.heap.size w w'

set_option maxRecDepth 100000 in
theorem specText_text (x : Ex) (a : Option Addr) (c : Nat) (w : World) (h01 : x.kind = 0 ∨ x.kind = 1) :
    Calls Try.prog 18 #[.agg #[.int .i64 x.kind, .string x.text, .slice a x.kids.length c]] w fun e w' => e = .returned (strOfB x.str) ∧ Below w.heap.size w w' := by
  have E : Hid (x.str = x.text.data.toList) := str_text h01
  have B0 := (Below.refl w.heap.size w).alloc (Nat.le_refl _) (.cells #[.int .i64 x.kind, .string x.text, .slice a x.kids.length c] 42)
  rcases h01 with h01 | h01
  all_goals
    rw [h01] at B0 ⊢
    go_enter Try.func18, Try.ntmps18
    go_wp2
    go_ret
    exact ⟨by rw [E.out]; exact congrArg (fun s => Ending.returned (Value.string s)) (str_val rfl), B0⟩

set_option maxRecDepth 100000 in
theorem specText_none (x : Ex) (a : Option Addr) (c : Nat) (w : World) (h01 : ¬ (x.kind = 0 ∨ x.kind = 1)) (h23 : ¬ (x.kind = 2 ∨ x.kind = 3)) (h46 : ¬ ((x.kind = 4 ∨ x.kind = 5 ∨ x.kind = 6) ∧ x.kids.length = 1)) :
    Calls Try.prog 18 #[.agg #[.int .i64 x.kind, .string x.text, .slice a x.kids.length c]] w fun e w' => e = .returned (strOfB x.str) ∧ Below w.heap.size w w' := by
  have B0 := (Below.refl w.heap.size w).alloc (Nat.le_refl _) (.cells #[.int .i64 x.kind, .string x.text, .slice a x.kids.length c] 42)
  have e0 : (x.kind == 0) = false := by simp; omega
  have e1 : (x.kind == 1) = false := by simp; omega
  have e2 : (x.kind == 2) = false := by simp; omega
  have e3 : (x.kind == 3) = false := by simp; omega
  by_cases h4 : x.kind = 4 ∨ x.kind = 5 ∨ x.kind = 6
  · have el : ((x.kids.length : Int) == 1) = false := by simp; omega
    have E : Hid (x.str = []) := str_none (.inr ⟨h4, by omega⟩)
    rcases h4 with h4 | h4 | h4
    all_goals
      rw [h4] at B0 ⊢
      go_enter Try.func18, Try.ntmps18
      go_wp2
      go_ret
      exact ⟨by rw [E.out]; rfl, B0⟩
  · have e4 : (x.kind == 4) = false := by simp; omega
    have e5 : (x.kind == 5) = false := by simp; omega
    have e6 : (x.kind == 6) = false := by simp; omega
    have E : Hid (x.str = []) := str_none (.inl (by omega))
    go_enter Try.func18, Try.ntmps18
    go_wp2
    go_ret
    exact ⟨by rw [E.out]; rfl, B0⟩

set_option maxHeartbeats 1000000 in
set_option maxRecDepth 100000 in
theorem specText_join (N : Nat) (ih : TextBelow N) (x : Ex) (hN : x.nodes < N + 1) (a : Option Addr) (c : Nat) (w : World) (h : RD w (.slice a x.kids.length c) (exD x.kids)) (hw : x.wt ≤ 1099511627776) (h23 : x.kind = 2 ∨ x.kind = 3) :
    Calls Try.prog 18 #[.agg #[.int .i64 x.kind, .string x.text, .slice a x.kids.length c]] w fun e w' => e = .returned (strOfB x.str) ∧ Below w.heap.size w w' := by
  have hwe := Ex.wt_eq x
  have hne := Ex.nodes_eq x
  have hlen := Ex.length_le_wtL x.kids
  have HIH : Hid (TextBelow N) := ih
  clear ih
  have B0 := (Below.refl w.heap.size w).alloc (Nat.le_refl _) (.cells #[.int .i64 x.kind, .string x.text, .slice a x.kids.length c] 42)
  obtain ⟨sep, J, hsep, HJ0, HJ1, HJn, HJl, E⟩ : ∃ (sep : UInt8) (J : Nat → List UInt8), ((x.kind = 2 ∧ sep = 32) ∨ (x.kind = 3 ∧ sep = 124)) ∧ J 0 = [] ∧ Hid (∀ h : 0 < x.kids.length, J (0 + 1) = x.kids[0].str) ∧
      Hid (∀ k (h : k < x.kids.length), k ≠ 0 → J (k + 1) = (J k ++ [sep]) ++ x.kids[k].str) ∧ Hid (∀ k, k ≤ x.kids.length → (J k).length ≤ 3 * Ex.wtL x.kids) ∧ Hid (x.str = [40] ++ J x.kids.length ++ [41]) := by
    rcases h23 with hk | hk
    · exact ⟨32, joinTo 32 (x.kids.map Ex.str), .inl ⟨hk, rfl⟩, rfl, fun h => joinTo_first h, fun k h h0 => joinTo_next h h0, fun k hk => joinTo_le _ _ k hk, str_seq hk⟩
    · exact ⟨124, joinTo 124 (x.kids.map Ex.str), .inr ⟨hk, rfl⟩, rfl, fun h => joinTo_first h, fun k h h0 => joinTo_next h h0, fun k hk => joinTo_le _ _ k hk, str_alt hk⟩
  have hw3 : 3 * Ex.wtL x.kids ≤ 3298534883328 := by omega
  have HWT : Hid (∀ k (h : k < x.kids.length), x.kids[k].wt ≤ 1099511627776 ∧ x.kids[k].nodes < N ∧ x.kids[k].str.length ≤ 3298534883328) := by
    intro k hk
    have h1 := Ex.wtL_take hk
    have h2 : Ex.wtL x.kids = Ex.wtL (x.kids.take (k + 1)) + Ex.wtL (x.kids.drop (k + 1)) := by rw [← Ex.wtL_append, List.take_append_drop]
    have h3 := Ex.nodes_le hk
    have h4 := Ex.str_le x.kids[k]
    exact ⟨by omega, by omega, by omega⟩
  clear h23 hwe hne
  rcases hsep with ⟨hk, rfl⟩ | ⟨hk, rfl⟩
  all_goals
    rw [hk] at B0 ⊢
    have h0 := h.later B0
    generalize hW : w.alloc (.cells #[.int .i64 _, .string x.text, .slice a x.kids.length c] 42) = W0 at B0 h0
    have b0 : W0.cell? ⟨w.heap.size, 0, none⟩ = some (.int .i64 x.kind) := by rw [← hW, hk]; simp
    have b2 : W0.cell? ⟨w.heap.size, 2, none⟩ = some (.slice a x.kids.length c) := by rw [← hW]; simp
    have hz0 : w.heap.size < W0.heap.size := by rw [← hW]; simp
    rw [hk] at b0
    have HW : Hid (w.alloc (.cells #[.int .i64 _, .string x.text, .slice a x.kids.length c] 42) = W0) := hW
    clear hW
    go_enter Try.func18, Try.ntmps18
    go_wp2
    rw [HW.out]
    go_loopw [3, 4] (fun t i wr => ∃ k : Nat, k ≤ x.kids.length ∧ i = .int .i64 k ∧ t = .string ⟨(40 :: J k).toArray⟩ ∧ Below W0.heap.size W0 wr) (fun _ i _ => x.kids.length - (intOf i).toNat)
    case atStart => exact ⟨0, Nat.zero_le _, rfl, by rw [HJ0], Below.refl _ _⟩
    case round =>
      obtain ⟨k, hkl, rfl, rfl, hbel⟩ := hrel
      have c0 := (hbel.cell (p := ⟨w.heap.size, 0, none⟩) hz0).trans b0
      have c2 := (hbel.cell (p := ⟨w.heap.size, 2, none⟩) hz0).trans b2
      have hJk := HJl.out k hkl
      by_cases hlt : k < x.kids.length
      · obtain ⟨b1, o1, rfl, hb1, q0, q1, a1, c1, q2, r1⟩ := (h0.later hbel).ex hlt
        obtain ⟨g1, g2, g3⟩ := HWT.out k hlt
        have X : Hid (Calls Try.prog 18 #[.agg #[.int .i64 x.kids[k].kind, .string x.kids[k].text, .slice a1 x.kids[k].kids.length c1]] wr fun e w' => e = .returned (strOfB x.kids[k].str) ∧ Below wr.heap.size wr w') :=
          HIH.out x.kids[k] g2 a1 c1 wr r1 g1
        clear r1 h h0 HIH
        by_cases hk0 : 0 < k
        · have EJ : Hid (J (k + 1) = (J k ++ [_]) ++ x.kids[k].str) := HJn.out k hlt (by omega)
          generalize J k = pre at *
          go_wp2_with fail
          refine X.out.mono ?_
          rintro e w1 ⟨rfl, hb2⟩
          have B1 := hbel.trans (hb2.mono hbel.size)
          generalize x.kids[k].str = ys at *
          clear X q0 q1 q2 c0 c2 hb2
          simp only [strOfB]
          go_wp2
          go_roundw
          case rel => exact ⟨k + 1, by omega, by go_num, by rw [EJ.out]; exact congrArg Value.string (by apply ByteArray.ext; apply Array.ext'; simp), B1⟩
          case measure => simp [intOf]; omega
        · have ez : k = 0 := by omega
          have EJ : Hid (J (k + 1) = x.kids[k].str) := by subst ez; exact HJ1.out hlt
          have EZ : J k = [] := by subst ez; exact HJ0
          rw [EZ]
          clear ez EZ
          go_wp2_with fail
          refine X.out.mono ?_
          rintro e w1 ⟨rfl, hb2⟩
          have B1 := hbel.trans (hb2.mono hbel.size)
          generalize x.kids[k].str = ys at *
          clear X q0 q1 q2 c0 c2 hb2
          simp only [strOfB]
          go_wp2
          go_roundw
          case rel => exact ⟨k + 1, by omega, by go_num, by rw [EJ.out]; exact congrArg Value.string (by apply ByteArray.ext; apply Array.ext'; simp), B1⟩
          case measure => simp [intOf]; omega
      · have e : k = x.kids.length := by omega
        subst e
        have EE : Hid ((40 :: J x.kids.length) ++ [41] = x.str) := by show _ = _; rw [E.out]; simp
        generalize J x.kids.length = pre at *
        have B1 := B0.trans (hbel.mono B0.size)
        clear h h0 HIH E
        go_wp2
        go_ret
        exact ⟨by rw [← EE.out]; exact congrArg (fun s => Ending.returned (Value.string s)) (by apply ByteArray.ext; apply Array.ext'; simp), B1⟩

/-- One operation of a drawn region, taken first: its slot and its value are said. -/
theorem take_at {P : Program} {ops : Array Oper} {Q : Exit → Act → World → Prop} {md : Region.Mode} {S : World → Prop} {i : Nat} {oi : Oper} {d : Option Tmp} {v : Value} {fuel : Nat} {listed : Array Bool} {a : Act} {w : World} (hi : ops[i]? = some oi) (hd : oi.dst = d)
    (hs : Region.noSelect ops = true) (hf : Region.free md ops listed i = true) (hr : (Region.ready md ops listed).contains i = true)
    (hQ : ∀ c a w, Q (.panic c) (a.put d v) w → Q (.panic c) a w) (hw : Region.wanted oi (yielded ops a.tmps) = true) (hv : ∀ w, S w → (execOp a.eval oi).run P w = .ok (.value v) w) (hS : S w)
    (h : wpAnyH P md ops Q S fuel (listed.setIfInBounds i true) (a.put d v) w) : wpAnyH P md ops Q S (fuel + 1) listed a w := by
  subst hd
  exact wpAnyH_take hi hs hf hr hQ (.inl ⟨hw, hv⟩) hS h

-- REP
-- REP
-- REP
-- REP
-- REP
-- REP
set_option maxHeartbeats 2000000 in
set_option maxRecDepth 100000 in
theorem specText_opt (N : Nat) (ih : TextBelow N) (x : Ex) (hN : x.nodes < N + 1) (a : Option Addr) (c : Nat) (w : World) (h : RD w (.slice a x.kids.length c) (exD x.kids)) (hw : x.wt ≤ 1099511627776) (h46 : x.kind = 4) (h1 : x.kids.length = 1) :
    Calls Try.prog 18 #[.agg #[.int .i64 x.kind, .string x.text, .slice a x.kids.length c]] w fun e w' => e = .returned (strOfB x.str) ∧ Below w.heap.size w w' := by
  have hwe := Ex.wt_eq x
  have hne := Ex.nodes_eq x
  have hlen := Ex.length_le_wtL x.kids
  have HIH : Hid (TextBelow N) := ih
  clear ih
  have B0 := (Below.refl w.heap.size w).alloc (Nat.le_refl _) (.cells #[.int .i64 x.kind, .string x.text, .slice a x.kids.length c] 42)
  have h0l : 0 < x.kids.length := by omega
  have E : Hid (x.str = (x.kids[0]'h0l).str ++ [63]) := by
    have e := str_rep (by omega) h1 h0l
    rw [h46] at e
    exact e
  have g1 := Ex.nodes_le h0l
  have g2 := Ex.wtL_take h0l
  have g3 : Ex.wtL x.kids = Ex.wtL (x.kids.take (0 + 1)) + Ex.wtL (x.kids.drop (0 + 1)) := by rw [← Ex.wtL_append, List.take_append_drop]
  have g4 := Ex.str_le (x.kids[0]'h0l)
  obtain ⟨b1, o1, rfl, hb1, q0, q1, a1, c1, q2, r1⟩ := h.ex h0l
  have IH1 : Hid (∀ W : World, Below w.heap.size w W →
    Calls Try.prog 18 #[.agg #[.int .i64 (x.kids[0]'h0l).kind, .string (x.kids[0]'h0l).text, .slice a1 (x.kids[0]'h0l).kids.length c1]] W fun e w' => e = .returned (strOfB (x.kids[0]'h0l).str) ∧ Below W.heap.size W w') :=
    fun W hW => HIH.out (x.kids[0]'h0l) (by omega) a1 c1 W (r1.later hW) (by omega)
  have hy3 : (x.kids[0]'h0l).str.length ≤ 3298534883328 := by omega
  have HSTR : Hid (strOfB (x.kids[0]'h0l).str = .string ⟨((x.kids[0]'h0l).str).toArray⟩) := rfl
  clear HIH h r1 hwe hne g2 g3 g4 g1
  generalize (x.kids[0]'h0l).str = ys at *
  generalize (x.kids[0]'h0l).kids = yk at *
  generalize (x.kids[0]'h0l).kind = yd at *
  generalize (x.kids[0]'h0l).text = yt at *
  rw [Nat.zero_mul, Nat.add_zero] at q0 q1 q2
  clear hlen h0l
  rw [h1] at B0 ⊢
  clear h1
  rw [h46] at B0 ⊢
  clear h46
  go_enter Try.func18, Try.ntmps18
  go_wp2
  refine wp_region_held_drew (S := (fun w' => w'.cell? ⟨w.heap.size, 0, none⟩ = some (.int .i64 4) ∧ w'.cell? ⟨w.heap.size, 2, none⟩ = some (.slice (some ⟨b1, o1, none⟩) 1 c) ∧ w'.cell? ⟨b1, o1, none⟩ = some (.int .i64 yd) ∧ w'.cell? ⟨b1, o1 + 1, none⟩ = some (.string yt) ∧ w'.cell? ⟨b1, o1 + 2, none⟩ = some (.slice a1 yk.length c1))) (by kernel_rfl) ?_ (fun hHeld => ?_)
  · go_keep
  refine take_at (i := 0) (d := some 53) (v := .pointer (some ⟨w.heap.size, 2, none⟩)) rfl rfl (by kernel_rfl) (by kernel_rfl) (by kernel_rfl) (fun _ _ _ h => h) (by rfl) ?_ hHeld ?_
  · intro w hSw; (try dsimp only at hSw); go_simp; try rfl
  try simp only [Act.put, List.setIfInBounds_toArray, List.set_cons_zero, List.set_cons_succ]
  refine take_at (i := 1) (d := some 54) (v := .slice (some ⟨b1, o1, none⟩) 1 c) rfl rfl (by kernel_rfl) (by kernel_rfl) (by kernel_rfl) (fun _ _ _ h => h) (by rfl) ?_ hHeld ?_
  · intro w hSw; (try dsimp only at hSw); go_simp; try rfl
  try simp only [Act.put, List.setIfInBounds_toArray, List.set_cons_zero, List.set_cons_succ]
  refine take_at (i := 2) (d := some 55) (v := .pointer (some ⟨b1, o1, none⟩)) rfl rfl (by kernel_rfl) (by kernel_rfl) (by kernel_rfl) (fun _ _ _ h => h) (by rfl) ?_ hHeld ?_
  · intro w hSw; (try dsimp only at hSw); go_simp; try rfl
  try simp only [Act.put, List.setIfInBounds_toArray, List.set_cons_zero, List.set_cons_succ]
  refine take_at (i := 3) (d := some 56) (v := .agg #[.int .i64 yd, .string yt, .slice a1 yk.length c1]) rfl rfl (by kernel_rfl) (by kernel_rfl) (by kernel_rfl) (fun _ _ _ h => h) (by rfl) ?_ hHeld ?_
  · intro w hSw; (try dsimp only at hSw); go_simp; try rfl
  try simp only [Act.put, List.setIfInBounds_toArray, List.set_cons_zero, List.set_cons_succ]
  refine take_at (i := 6) (d := some 59) (v := .pointer (some ⟨w.heap.size, 0, none⟩)) rfl rfl (by kernel_rfl) (by kernel_rfl) (by kernel_rfl) (fun _ _ _ h => h) (by rfl) ?_ hHeld ?_
  · intro w hSw; (try dsimp only at hSw); go_simp; try rfl
  try simp only [Act.put, List.setIfInBounds_toArray, List.set_cons_zero, List.set_cons_succ]
  refine take_at (i := 7) (d := some 60) (v := .int .i64 4) rfl rfl (by kernel_rfl) (by kernel_rfl) (by kernel_rfl) (fun _ _ _ h => h) (by rfl) ?_ hHeld ?_
  · intro w hSw; (try dsimp only at hSw); go_simp; try rfl
  try simp only [Act.put, List.setIfInBounds_toArray, List.set_cons_zero, List.set_cons_succ]
  refine take_at (i := 8) (d := some 61) (v := .int .i64 0) rfl rfl (by kernel_rfl) (by kernel_rfl) (by kernel_rfl) (fun _ _ _ h => h) (by rfl) ?_ hHeld ?_
  · intro w hSw; (try dsimp only at hSw); go_simp; try rfl
  try simp only [Act.put, List.setIfInBounds_toArray, List.set_cons_zero, List.set_cons_succ]
  refine wpAnyH_ready (rs := [4, 5]) (by kernel_rfl) (by simp) ?_
  refine AllReadyH.cons (o := _) rfl (fun K hK => ?_) ?_
  · skip
    rw [if_pos (by rfl)]
    go_simp
    refine (IH1.out _ (by go_grown)).mono ?_
    rw [HSTR.out]
    rintro e w1 ⟨rfl, hl1⟩
    have hz1 := hl1.size
    simp only [World.size_alloc, World.size_drew] at hz1
    have s0 : w1.cell? ⟨w.heap.size, 0, none⟩ = some (.int .i64 4) := (hl1.cell (p := ⟨w.heap.size, 0, none⟩) (by simp; try omega)).trans (by simp [*])
    have s2 : w1.cell? ⟨w.heap.size, 2, none⟩ = some (.slice (some ⟨b1, o1, none⟩) 1 c) := (hl1.cell (p := ⟨w.heap.size, 2, none⟩) (by simp; try omega)).trans (by simp [*])
    have t0 : w1.cell? ⟨b1, o1, none⟩ = some (.int .i64 yd) := (hl1.cell (p := ⟨b1, o1, none⟩) (by simp; omega)).trans (by simp [*])
    have t1 : w1.cell? ⟨b1, o1 + 1, none⟩ = some (.string yt) := (hl1.cell (p := ⟨b1, o1 + 1, none⟩) (by simp; omega)).trans (by simp [*])
    have t2 : w1.cell? ⟨b1, o1 + 2, none⟩ = some (.slice a1 yk.length c1) := (hl1.cell (p := ⟨b1, o1 + 2, none⟩) (by simp; omega)).trans (by simp [*])
    have hb2 : w.heap.size < w1.heap.size := by omega
    go_wp2_with fail
    refine hK.out _ _ ⟨s0, s2, t0, t1, t2⟩ (fun hHeld => ?_)
    clear hK K
    try simp only [Act.put, List.setIfInBounds_toArray, List.set_cons_zero, List.set_cons_succ]
    refine wpAnyH_ready (rs := [5]) (by kernel_rfl) (by simp) ?_
    refine AllReadyH.cons (o := _) rfl (fun K hK => ?_) ?_
    · skip
      rw [if_pos (by rfl)]
      go_simp
      refine hK.out _ _ (by go_keep) (fun hHeld => ?_)
      clear hK K
      try simp only [Act.put, List.setIfInBounds_toArray, List.set_cons_zero, List.set_cons_succ]
      refine take_at (i := 9) (d := some 62) (v := .pointer (some ⟨w1.heap.size, 0, none⟩)) rfl rfl (by kernel_rfl) (by kernel_rfl) (by kernel_rfl) (fun _ _ _ h => h) (by rfl) ?_ hHeld ?_
      · intro w hSw; (try dsimp only at hSw); go_simp; first | done | rfl | omega
      try simp only [Act.put, List.setIfInBounds_toArray, List.set_cons_zero, List.set_cons_succ]
      refine wpAnyH_ready (rs := [10]) (by kernel_rfl) (by simp) ?_
      refine AllReadyH.cons (o := _) rfl (fun K hK => ?_) ?_
      · skip
        rw [if_pos (by rfl)]
        go_simp
        refine hK.out _ _ hHeld (fun hHeld => ?_)
        clear hK K
        try simp only [Act.put, List.setIfInBounds_toArray, List.set_cons_zero, List.set_cons_succ]
        refine take_at (i := 11) (d := some 64) (v := .string (⟨ys.toArray⟩ ++ ⟨#[63]⟩)) rfl rfl (by kernel_rfl) (by kernel_rfl) (by kernel_rfl) (fun _ _ _ h => h) (by rfl) ?_ hHeld ?_
        · intro w hSw; (try dsimp only at hSw); go_simp; first | done | rfl | omega
        try simp only [Act.put, List.setIfInBounds_toArray, List.set_cons_zero, List.set_cons_succ]
        refine take_at (i := 12) (d := some 2) (v := .string (⟨ys.toArray⟩ ++ ⟨#[63]⟩)) rfl rfl (by kernel_rfl) (by kernel_rfl) (by kernel_rfl) (fun _ _ _ h => h) (by rfl) ?_ hHeld ?_
        · intro w hSw; (try dsimp only at hSw); go_simp; first | done | rfl | omega
        try simp only [Act.put, List.setIfInBounds_toArray, List.set_cons_zero, List.set_cons_succ]
        refine wpAnyH_done (by kernel_rfl) ?_ _
        go_wp2
        go_ret
        exact ⟨by rw [E.out]; exact congrArg (fun s => Ending.returned (Value.string s)) (by apply ByteArray.ext; apply Array.ext'; simp), ((B0.drew.trans (hl1.mono (by simp))).alloc (by omega) _)⟩
      exact AllReadyH.nil
    exact AllReadyH.nil
  refine AllReadyH.cons (o := _) rfl (fun K hK => ?_) ?_
  · skip
    rw [if_pos (by rfl)]
    go_simp
    refine hK.out _ _ (by go_keep) (fun hHeld => ?_)
    clear hK K
    try simp only [Act.put, List.setIfInBounds_toArray, List.set_cons_zero, List.set_cons_succ]
    refine take_at (i := 9) (d := some 62) (v := .pointer (some ⟨w.heap.size + 1, 0, none⟩)) rfl rfl (by kernel_rfl) (by kernel_rfl) (by kernel_rfl) (fun _ _ _ h => h) (by rfl) ?_ hHeld ?_
    · intro w hSw; (try dsimp only at hSw); go_simp; first | done | rfl | omega
    try simp only [Act.put, List.setIfInBounds_toArray, List.set_cons_zero, List.set_cons_succ]
    refine wpAnyH_ready (rs := [4, 10]) (by kernel_rfl) (by simp) ?_
    refine AllReadyH.cons (o := _) rfl (fun K hK => ?_) ?_
    · skip
      rw [if_pos (by rfl)]
      go_simp
      refine (IH1.out _ (by go_grown)).mono ?_
      rw [HSTR.out]
      rintro e w1 ⟨rfl, hl1⟩
      have hz1 := hl1.size
      simp only [World.size_alloc, World.size_drew] at hz1
      have s0 : w1.cell? ⟨w.heap.size, 0, none⟩ = some (.int .i64 4) := (hl1.cell (p := ⟨w.heap.size, 0, none⟩) (by simp; try omega)).trans (by simp [*])
      have s2 : w1.cell? ⟨w.heap.size, 2, none⟩ = some (.slice (some ⟨b1, o1, none⟩) 1 c) := (hl1.cell (p := ⟨w.heap.size, 2, none⟩) (by simp; try omega)).trans (by simp [*])
      have t0 : w1.cell? ⟨b1, o1, none⟩ = some (.int .i64 yd) := (hl1.cell (p := ⟨b1, o1, none⟩) (by simp; omega)).trans (by simp [*])
      have t1 : w1.cell? ⟨b1, o1 + 1, none⟩ = some (.string yt) := (hl1.cell (p := ⟨b1, o1 + 1, none⟩) (by simp; omega)).trans (by simp [*])
      have t2 : w1.cell? ⟨b1, o1 + 2, none⟩ = some (.slice a1 yk.length c1) := (hl1.cell (p := ⟨b1, o1 + 2, none⟩) (by simp; omega)).trans (by simp [*])
      have hb2 : w.heap.size < w1.heap.size := by omega
      have u0 : w1.cell? ⟨w.heap.size + 1, 0, none⟩ = some (.string ⟨#[63]⟩) := (hl1.cell (p := ⟨w.heap.size + 1, 0, none⟩) (by simp)).trans (by simp [*])
      go_wp2_with fail
      refine hK.out _ _ ⟨s0, s2, t0, t1, t2⟩ (fun hHeld => ?_)
      clear hK K
      try simp only [Act.put, List.setIfInBounds_toArray, List.set_cons_zero, List.set_cons_succ]
      refine wpAnyH_ready (rs := [10]) (by kernel_rfl) (by simp) ?_
      refine AllReadyH.cons (o := _) rfl (fun K hK => ?_) ?_
      · skip
        rw [if_pos (by rfl)]
        go_simp
        refine hK.out _ _ hHeld (fun hHeld => ?_)
        clear hK K
        try simp only [Act.put, List.setIfInBounds_toArray, List.set_cons_zero, List.set_cons_succ]
        refine take_at (i := 11) (d := some 64) (v := .string (⟨ys.toArray⟩ ++ ⟨#[63]⟩)) rfl rfl (by kernel_rfl) (by kernel_rfl) (by kernel_rfl) (fun _ _ _ h => h) (by rfl) ?_ hHeld ?_
        · intro w hSw; (try dsimp only at hSw); go_simp; first | done | rfl | omega
        try simp only [Act.put, List.setIfInBounds_toArray, List.set_cons_zero, List.set_cons_succ]
        refine take_at (i := 12) (d := some 2) (v := .string (⟨ys.toArray⟩ ++ ⟨#[63]⟩)) rfl rfl (by kernel_rfl) (by kernel_rfl) (by kernel_rfl) (fun _ _ _ h => h) (by rfl) ?_ hHeld ?_
        · intro w hSw; (try dsimp only at hSw); go_simp; first | done | rfl | omega
        try simp only [Act.put, List.setIfInBounds_toArray, List.set_cons_zero, List.set_cons_succ]
        refine wpAnyH_done (by kernel_rfl) ?_ _
        go_wp2
        go_ret
        exact ⟨by rw [E.out]; exact congrArg (fun s => Ending.returned (Value.string s)) (by apply ByteArray.ext; apply Array.ext'; simp), ((B0.drew.alloc (by simp) _).trans (hl1.mono (by simp; omega)))⟩
      exact AllReadyH.nil
    refine AllReadyH.cons (o := _) rfl (fun K hK => ?_) ?_
    · skip
      rw [if_pos (by rfl)]
      go_simp
      refine hK.out _ _ hHeld (fun hHeld => ?_)
      clear hK K
      try simp only [Act.put, List.setIfInBounds_toArray, List.set_cons_zero, List.set_cons_succ]
      refine wpAnyH_ready (rs := [4]) (by kernel_rfl) (by simp) ?_
      refine AllReadyH.cons (o := _) rfl (fun K hK => ?_) ?_
      · skip
        rw [if_pos (by rfl)]
        go_simp
        refine (IH1.out _ (by go_grown)).mono ?_
        rw [HSTR.out]
        rintro e w1 ⟨rfl, hl1⟩
        have hz1 := hl1.size
        simp only [World.size_alloc, World.size_drew] at hz1
        have s0 : w1.cell? ⟨w.heap.size, 0, none⟩ = some (.int .i64 4) := (hl1.cell (p := ⟨w.heap.size, 0, none⟩) (by simp; try omega)).trans (by simp [*])
        have s2 : w1.cell? ⟨w.heap.size, 2, none⟩ = some (.slice (some ⟨b1, o1, none⟩) 1 c) := (hl1.cell (p := ⟨w.heap.size, 2, none⟩) (by simp; try omega)).trans (by simp [*])
        have t0 : w1.cell? ⟨b1, o1, none⟩ = some (.int .i64 yd) := (hl1.cell (p := ⟨b1, o1, none⟩) (by simp; omega)).trans (by simp [*])
        have t1 : w1.cell? ⟨b1, o1 + 1, none⟩ = some (.string yt) := (hl1.cell (p := ⟨b1, o1 + 1, none⟩) (by simp; omega)).trans (by simp [*])
        have t2 : w1.cell? ⟨b1, o1 + 2, none⟩ = some (.slice a1 yk.length c1) := (hl1.cell (p := ⟨b1, o1 + 2, none⟩) (by simp; omega)).trans (by simp [*])
        have hb2 : w.heap.size < w1.heap.size := by omega
        go_wp2_with fail
        refine hK.out _ _ ⟨s0, s2, t0, t1, t2⟩ (fun hHeld => ?_)
        clear hK K
        try simp only [Act.put, List.setIfInBounds_toArray, List.set_cons_zero, List.set_cons_succ]
        refine take_at (i := 11) (d := some 64) (v := .string (⟨ys.toArray⟩ ++ ⟨#[63]⟩)) rfl rfl (by kernel_rfl) (by kernel_rfl) (by kernel_rfl) (fun _ _ _ h => h) (by rfl) ?_ hHeld ?_
        · intro w hSw; (try dsimp only at hSw); go_simp; first | done | rfl | omega
        try simp only [Act.put, List.setIfInBounds_toArray, List.set_cons_zero, List.set_cons_succ]
        refine take_at (i := 12) (d := some 2) (v := .string (⟨ys.toArray⟩ ++ ⟨#[63]⟩)) rfl rfl (by kernel_rfl) (by kernel_rfl) (by kernel_rfl) (fun _ _ _ h => h) (by rfl) ?_ hHeld ?_
        · intro w hSw; (try dsimp only at hSw); go_simp; first | done | rfl | omega
        try simp only [Act.put, List.setIfInBounds_toArray, List.set_cons_zero, List.set_cons_succ]
        refine wpAnyH_done (by kernel_rfl) ?_ _
        go_wp2
        go_ret
        exact ⟨by rw [E.out]; exact congrArg (fun s => Ending.returned (Value.string s)) (by apply ByteArray.ext; apply Array.ext'; simp), ((B0.drew.alloc (by simp) _).trans (hl1.mono (by simp; omega)))⟩
      exact AllReadyH.nil
    exact AllReadyH.nil
  exact AllReadyH.nil

set_option maxHeartbeats 2000000 in
set_option maxRecDepth 100000 in
theorem specText_star (N : Nat) (ih : TextBelow N) (x : Ex) (hN : x.nodes < N + 1) (a : Option Addr) (c : Nat) (w : World) (h : RD w (.slice a x.kids.length c) (exD x.kids)) (hw : x.wt ≤ 1099511627776) (h46 : x.kind = 5) (h1 : x.kids.length = 1) :
    Calls Try.prog 18 #[.agg #[.int .i64 x.kind, .string x.text, .slice a x.kids.length c]] w fun e w' => e = .returned (strOfB x.str) ∧ Below w.heap.size w w' := by
  have hwe := Ex.wt_eq x
  have hne := Ex.nodes_eq x
  have hlen := Ex.length_le_wtL x.kids
  have HIH : Hid (TextBelow N) := ih
  clear ih
  have B0 := (Below.refl w.heap.size w).alloc (Nat.le_refl _) (.cells #[.int .i64 x.kind, .string x.text, .slice a x.kids.length c] 42)
  have h0l : 0 < x.kids.length := by omega
  have E : Hid (x.str = (x.kids[0]'h0l).str ++ [42]) := by
    have e := str_rep (by omega) h1 h0l
    rw [h46] at e
    exact e
  have g1 := Ex.nodes_le h0l
  have g2 := Ex.wtL_take h0l
  have g3 : Ex.wtL x.kids = Ex.wtL (x.kids.take (0 + 1)) + Ex.wtL (x.kids.drop (0 + 1)) := by rw [← Ex.wtL_append, List.take_append_drop]
  have g4 := Ex.str_le (x.kids[0]'h0l)
  obtain ⟨b1, o1, rfl, hb1, q0, q1, a1, c1, q2, r1⟩ := h.ex h0l
  have IH1 : Hid (∀ W : World, Below w.heap.size w W →
    Calls Try.prog 18 #[.agg #[.int .i64 (x.kids[0]'h0l).kind, .string (x.kids[0]'h0l).text, .slice a1 (x.kids[0]'h0l).kids.length c1]] W fun e w' => e = .returned (strOfB (x.kids[0]'h0l).str) ∧ Below W.heap.size W w') :=
    fun W hW => HIH.out (x.kids[0]'h0l) (by omega) a1 c1 W (r1.later hW) (by omega)
  have hy3 : (x.kids[0]'h0l).str.length ≤ 3298534883328 := by omega
  have HSTR : Hid (strOfB (x.kids[0]'h0l).str = .string ⟨((x.kids[0]'h0l).str).toArray⟩) := rfl
  clear HIH h r1 hwe hne g2 g3 g4 g1
  generalize (x.kids[0]'h0l).str = ys at *
  generalize (x.kids[0]'h0l).kids = yk at *
  generalize (x.kids[0]'h0l).kind = yd at *
  generalize (x.kids[0]'h0l).text = yt at *
  rw [Nat.zero_mul, Nat.add_zero] at q0 q1 q2
  clear hlen h0l
  rw [h1] at B0 ⊢
  clear h1
  rw [h46] at B0 ⊢
  clear h46
  go_enter Try.func18, Try.ntmps18
  go_wp2
  refine wp_region_held_drew (S := (fun w' => w'.cell? ⟨w.heap.size, 0, none⟩ = some (.int .i64 5) ∧ w'.cell? ⟨w.heap.size, 2, none⟩ = some (.slice (some ⟨b1, o1, none⟩) 1 c) ∧ w'.cell? ⟨b1, o1, none⟩ = some (.int .i64 yd) ∧ w'.cell? ⟨b1, o1 + 1, none⟩ = some (.string yt) ∧ w'.cell? ⟨b1, o1 + 2, none⟩ = some (.slice a1 yk.length c1))) (by kernel_rfl) ?_ (fun hHeld => ?_)
  · go_keep
  refine take_at (i := 0) (d := some 53) (v := .pointer (some ⟨w.heap.size, 2, none⟩)) rfl rfl (by kernel_rfl) (by kernel_rfl) (by kernel_rfl) (fun _ _ _ h => h) (by rfl) ?_ hHeld ?_
  · intro w hSw; (try dsimp only at hSw); go_simp; try rfl
  try simp only [Act.put, List.setIfInBounds_toArray, List.set_cons_zero, List.set_cons_succ]
  refine take_at (i := 1) (d := some 54) (v := .slice (some ⟨b1, o1, none⟩) 1 c) rfl rfl (by kernel_rfl) (by kernel_rfl) (by kernel_rfl) (fun _ _ _ h => h) (by rfl) ?_ hHeld ?_
  · intro w hSw; (try dsimp only at hSw); go_simp; try rfl
  try simp only [Act.put, List.setIfInBounds_toArray, List.set_cons_zero, List.set_cons_succ]
  refine take_at (i := 2) (d := some 55) (v := .pointer (some ⟨b1, o1, none⟩)) rfl rfl (by kernel_rfl) (by kernel_rfl) (by kernel_rfl) (fun _ _ _ h => h) (by rfl) ?_ hHeld ?_
  · intro w hSw; (try dsimp only at hSw); go_simp; try rfl
  try simp only [Act.put, List.setIfInBounds_toArray, List.set_cons_zero, List.set_cons_succ]
  refine take_at (i := 3) (d := some 56) (v := .agg #[.int .i64 yd, .string yt, .slice a1 yk.length c1]) rfl rfl (by kernel_rfl) (by kernel_rfl) (by kernel_rfl) (fun _ _ _ h => h) (by rfl) ?_ hHeld ?_
  · intro w hSw; (try dsimp only at hSw); go_simp; try rfl
  try simp only [Act.put, List.setIfInBounds_toArray, List.set_cons_zero, List.set_cons_succ]
  refine take_at (i := 6) (d := some 59) (v := .pointer (some ⟨w.heap.size, 0, none⟩)) rfl rfl (by kernel_rfl) (by kernel_rfl) (by kernel_rfl) (fun _ _ _ h => h) (by rfl) ?_ hHeld ?_
  · intro w hSw; (try dsimp only at hSw); go_simp; try rfl
  try simp only [Act.put, List.setIfInBounds_toArray, List.set_cons_zero, List.set_cons_succ]
  refine take_at (i := 7) (d := some 60) (v := .int .i64 5) rfl rfl (by kernel_rfl) (by kernel_rfl) (by kernel_rfl) (fun _ _ _ h => h) (by rfl) ?_ hHeld ?_
  · intro w hSw; (try dsimp only at hSw); go_simp; try rfl
  try simp only [Act.put, List.setIfInBounds_toArray, List.set_cons_zero, List.set_cons_succ]
  refine take_at (i := 8) (d := some 61) (v := .int .i64 1) rfl rfl (by kernel_rfl) (by kernel_rfl) (by kernel_rfl) (fun _ _ _ h => h) (by rfl) ?_ hHeld ?_
  · intro w hSw; (try dsimp only at hSw); go_simp; try rfl
  try simp only [Act.put, List.setIfInBounds_toArray, List.set_cons_zero, List.set_cons_succ]
  refine wpAnyH_ready (rs := [4, 5]) (by kernel_rfl) (by simp) ?_
  refine AllReadyH.cons (o := _) rfl (fun K hK => ?_) ?_
  · skip
    rw [if_pos (by rfl)]
    go_simp
    refine (IH1.out _ (by go_grown)).mono ?_
    rw [HSTR.out]
    rintro e w1 ⟨rfl, hl1⟩
    have hz1 := hl1.size
    simp only [World.size_alloc, World.size_drew] at hz1
    have s0 : w1.cell? ⟨w.heap.size, 0, none⟩ = some (.int .i64 5) := (hl1.cell (p := ⟨w.heap.size, 0, none⟩) (by simp; try omega)).trans (by simp [*])
    have s2 : w1.cell? ⟨w.heap.size, 2, none⟩ = some (.slice (some ⟨b1, o1, none⟩) 1 c) := (hl1.cell (p := ⟨w.heap.size, 2, none⟩) (by simp; try omega)).trans (by simp [*])
    have t0 : w1.cell? ⟨b1, o1, none⟩ = some (.int .i64 yd) := (hl1.cell (p := ⟨b1, o1, none⟩) (by simp; omega)).trans (by simp [*])
    have t1 : w1.cell? ⟨b1, o1 + 1, none⟩ = some (.string yt) := (hl1.cell (p := ⟨b1, o1 + 1, none⟩) (by simp; omega)).trans (by simp [*])
    have t2 : w1.cell? ⟨b1, o1 + 2, none⟩ = some (.slice a1 yk.length c1) := (hl1.cell (p := ⟨b1, o1 + 2, none⟩) (by simp; omega)).trans (by simp [*])
    have hb2 : w.heap.size < w1.heap.size := by omega
    go_wp2_with fail
    refine hK.out _ _ ⟨s0, s2, t0, t1, t2⟩ (fun hHeld => ?_)
    clear hK K
    try simp only [Act.put, List.setIfInBounds_toArray, List.set_cons_zero, List.set_cons_succ]
    refine wpAnyH_ready (rs := [5]) (by kernel_rfl) (by simp) ?_
    refine AllReadyH.cons (o := _) rfl (fun K hK => ?_) ?_
    · skip
      rw [if_pos (by rfl)]
      go_simp
      refine hK.out _ _ (by go_keep) (fun hHeld => ?_)
      clear hK K
      try simp only [Act.put, List.setIfInBounds_toArray, List.set_cons_zero, List.set_cons_succ]
      refine take_at (i := 9) (d := some 62) (v := .pointer (some ⟨w1.heap.size, 1, none⟩)) rfl rfl (by kernel_rfl) (by kernel_rfl) (by kernel_rfl) (fun _ _ _ h => h) (by rfl) ?_ hHeld ?_
      · intro w hSw; (try dsimp only at hSw); go_simp; first | done | rfl | omega
      try simp only [Act.put, List.setIfInBounds_toArray, List.set_cons_zero, List.set_cons_succ]
      refine wpAnyH_ready (rs := [10]) (by kernel_rfl) (by simp) ?_
      refine AllReadyH.cons (o := _) rfl (fun K hK => ?_) ?_
      · skip
        rw [if_pos (by rfl)]
        go_simp
        refine hK.out _ _ hHeld (fun hHeld => ?_)
        clear hK K
        try simp only [Act.put, List.setIfInBounds_toArray, List.set_cons_zero, List.set_cons_succ]
        refine take_at (i := 11) (d := some 64) (v := .string (⟨ys.toArray⟩ ++ ⟨#[42]⟩)) rfl rfl (by kernel_rfl) (by kernel_rfl) (by kernel_rfl) (fun _ _ _ h => h) (by rfl) ?_ hHeld ?_
        · intro w hSw; (try dsimp only at hSw); go_simp; first | done | rfl | omega
        try simp only [Act.put, List.setIfInBounds_toArray, List.set_cons_zero, List.set_cons_succ]
        refine take_at (i := 12) (d := some 2) (v := .string (⟨ys.toArray⟩ ++ ⟨#[42]⟩)) rfl rfl (by kernel_rfl) (by kernel_rfl) (by kernel_rfl) (fun _ _ _ h => h) (by rfl) ?_ hHeld ?_
        · intro w hSw; (try dsimp only at hSw); go_simp; first | done | rfl | omega
        try simp only [Act.put, List.setIfInBounds_toArray, List.set_cons_zero, List.set_cons_succ]
        refine wpAnyH_done (by kernel_rfl) ?_ _
        go_wp2
        go_ret
        exact ⟨by rw [E.out]; exact congrArg (fun s => Ending.returned (Value.string s)) (by apply ByteArray.ext; apply Array.ext'; simp), ((B0.drew.trans (hl1.mono (by simp))).alloc (by omega) _)⟩
      exact AllReadyH.nil
    exact AllReadyH.nil
  refine AllReadyH.cons (o := _) rfl (fun K hK => ?_) ?_
  · skip
    rw [if_pos (by rfl)]
    go_simp
    refine hK.out _ _ (by go_keep) (fun hHeld => ?_)
    clear hK K
    try simp only [Act.put, List.setIfInBounds_toArray, List.set_cons_zero, List.set_cons_succ]
    refine take_at (i := 9) (d := some 62) (v := .pointer (some ⟨w.heap.size + 1, 1, none⟩)) rfl rfl (by kernel_rfl) (by kernel_rfl) (by kernel_rfl) (fun _ _ _ h => h) (by rfl) ?_ hHeld ?_
    · intro w hSw; (try dsimp only at hSw); go_simp; first | done | rfl | omega
    try simp only [Act.put, List.setIfInBounds_toArray, List.set_cons_zero, List.set_cons_succ]
    refine wpAnyH_ready (rs := [4, 10]) (by kernel_rfl) (by simp) ?_
    refine AllReadyH.cons (o := _) rfl (fun K hK => ?_) ?_
    · skip
      rw [if_pos (by rfl)]
      go_simp
      refine (IH1.out _ (by go_grown)).mono ?_
      rw [HSTR.out]
      rintro e w1 ⟨rfl, hl1⟩
      have hz1 := hl1.size
      simp only [World.size_alloc, World.size_drew] at hz1
      have s0 : w1.cell? ⟨w.heap.size, 0, none⟩ = some (.int .i64 5) := (hl1.cell (p := ⟨w.heap.size, 0, none⟩) (by simp; try omega)).trans (by simp [*])
      have s2 : w1.cell? ⟨w.heap.size, 2, none⟩ = some (.slice (some ⟨b1, o1, none⟩) 1 c) := (hl1.cell (p := ⟨w.heap.size, 2, none⟩) (by simp; try omega)).trans (by simp [*])
      have t0 : w1.cell? ⟨b1, o1, none⟩ = some (.int .i64 yd) := (hl1.cell (p := ⟨b1, o1, none⟩) (by simp; omega)).trans (by simp [*])
      have t1 : w1.cell? ⟨b1, o1 + 1, none⟩ = some (.string yt) := (hl1.cell (p := ⟨b1, o1 + 1, none⟩) (by simp; omega)).trans (by simp [*])
      have t2 : w1.cell? ⟨b1, o1 + 2, none⟩ = some (.slice a1 yk.length c1) := (hl1.cell (p := ⟨b1, o1 + 2, none⟩) (by simp; omega)).trans (by simp [*])
      have hb2 : w.heap.size < w1.heap.size := by omega
      have u0 : w1.cell? ⟨w.heap.size + 1, 1, none⟩ = some (.string ⟨#[42]⟩) := (hl1.cell (p := ⟨w.heap.size + 1, 1, none⟩) (by simp)).trans (by simp [*])
      go_wp2_with fail
      refine hK.out _ _ ⟨s0, s2, t0, t1, t2⟩ (fun hHeld => ?_)
      clear hK K
      try simp only [Act.put, List.setIfInBounds_toArray, List.set_cons_zero, List.set_cons_succ]
      refine wpAnyH_ready (rs := [10]) (by kernel_rfl) (by simp) ?_
      refine AllReadyH.cons (o := _) rfl (fun K hK => ?_) ?_
      · skip
        rw [if_pos (by rfl)]
        go_simp
        refine hK.out _ _ hHeld (fun hHeld => ?_)
        clear hK K
        try simp only [Act.put, List.setIfInBounds_toArray, List.set_cons_zero, List.set_cons_succ]
        refine take_at (i := 11) (d := some 64) (v := .string (⟨ys.toArray⟩ ++ ⟨#[42]⟩)) rfl rfl (by kernel_rfl) (by kernel_rfl) (by kernel_rfl) (fun _ _ _ h => h) (by rfl) ?_ hHeld ?_
        · intro w hSw; (try dsimp only at hSw); go_simp; first | done | rfl | omega
        try simp only [Act.put, List.setIfInBounds_toArray, List.set_cons_zero, List.set_cons_succ]
        refine take_at (i := 12) (d := some 2) (v := .string (⟨ys.toArray⟩ ++ ⟨#[42]⟩)) rfl rfl (by kernel_rfl) (by kernel_rfl) (by kernel_rfl) (fun _ _ _ h => h) (by rfl) ?_ hHeld ?_
        · intro w hSw; (try dsimp only at hSw); go_simp; first | done | rfl | omega
        try simp only [Act.put, List.setIfInBounds_toArray, List.set_cons_zero, List.set_cons_succ]
        refine wpAnyH_done (by kernel_rfl) ?_ _
        go_wp2
        go_ret
        exact ⟨by rw [E.out]; exact congrArg (fun s => Ending.returned (Value.string s)) (by apply ByteArray.ext; apply Array.ext'; simp), ((B0.drew.alloc (by simp) _).trans (hl1.mono (by simp; omega)))⟩
      exact AllReadyH.nil
    refine AllReadyH.cons (o := _) rfl (fun K hK => ?_) ?_
    · skip
      rw [if_pos (by rfl)]
      go_simp
      refine hK.out _ _ hHeld (fun hHeld => ?_)
      clear hK K
      try simp only [Act.put, List.setIfInBounds_toArray, List.set_cons_zero, List.set_cons_succ]
      refine wpAnyH_ready (rs := [4]) (by kernel_rfl) (by simp) ?_
      refine AllReadyH.cons (o := _) rfl (fun K hK => ?_) ?_
      · skip
        rw [if_pos (by rfl)]
        go_simp
        refine (IH1.out _ (by go_grown)).mono ?_
        rw [HSTR.out]
        rintro e w1 ⟨rfl, hl1⟩
        have hz1 := hl1.size
        simp only [World.size_alloc, World.size_drew] at hz1
        have s0 : w1.cell? ⟨w.heap.size, 0, none⟩ = some (.int .i64 5) := (hl1.cell (p := ⟨w.heap.size, 0, none⟩) (by simp; try omega)).trans (by simp [*])
        have s2 : w1.cell? ⟨w.heap.size, 2, none⟩ = some (.slice (some ⟨b1, o1, none⟩) 1 c) := (hl1.cell (p := ⟨w.heap.size, 2, none⟩) (by simp; try omega)).trans (by simp [*])
        have t0 : w1.cell? ⟨b1, o1, none⟩ = some (.int .i64 yd) := (hl1.cell (p := ⟨b1, o1, none⟩) (by simp; omega)).trans (by simp [*])
        have t1 : w1.cell? ⟨b1, o1 + 1, none⟩ = some (.string yt) := (hl1.cell (p := ⟨b1, o1 + 1, none⟩) (by simp; omega)).trans (by simp [*])
        have t2 : w1.cell? ⟨b1, o1 + 2, none⟩ = some (.slice a1 yk.length c1) := (hl1.cell (p := ⟨b1, o1 + 2, none⟩) (by simp; omega)).trans (by simp [*])
        have hb2 : w.heap.size < w1.heap.size := by omega
        go_wp2_with fail
        refine hK.out _ _ ⟨s0, s2, t0, t1, t2⟩ (fun hHeld => ?_)
        clear hK K
        try simp only [Act.put, List.setIfInBounds_toArray, List.set_cons_zero, List.set_cons_succ]
        refine take_at (i := 11) (d := some 64) (v := .string (⟨ys.toArray⟩ ++ ⟨#[42]⟩)) rfl rfl (by kernel_rfl) (by kernel_rfl) (by kernel_rfl) (fun _ _ _ h => h) (by rfl) ?_ hHeld ?_
        · intro w hSw; (try dsimp only at hSw); go_simp; first | done | rfl | omega
        try simp only [Act.put, List.setIfInBounds_toArray, List.set_cons_zero, List.set_cons_succ]
        refine take_at (i := 12) (d := some 2) (v := .string (⟨ys.toArray⟩ ++ ⟨#[42]⟩)) rfl rfl (by kernel_rfl) (by kernel_rfl) (by kernel_rfl) (fun _ _ _ h => h) (by rfl) ?_ hHeld ?_
        · intro w hSw; (try dsimp only at hSw); go_simp; first | done | rfl | omega
        try simp only [Act.put, List.setIfInBounds_toArray, List.set_cons_zero, List.set_cons_succ]
        refine wpAnyH_done (by kernel_rfl) ?_ _
        go_wp2
        go_ret
        exact ⟨by rw [E.out]; exact congrArg (fun s => Ending.returned (Value.string s)) (by apply ByteArray.ext; apply Array.ext'; simp), ((B0.drew.alloc (by simp) _).trans (hl1.mono (by simp; omega)))⟩
      exact AllReadyH.nil
    exact AllReadyH.nil
  exact AllReadyH.nil

set_option maxHeartbeats 2000000 in
set_option maxRecDepth 100000 in
theorem specText_plus (N : Nat) (ih : TextBelow N) (x : Ex) (hN : x.nodes < N + 1) (a : Option Addr) (c : Nat) (w : World) (h : RD w (.slice a x.kids.length c) (exD x.kids)) (hw : x.wt ≤ 1099511627776) (h46 : x.kind = 6) (h1 : x.kids.length = 1) :
    Calls Try.prog 18 #[.agg #[.int .i64 x.kind, .string x.text, .slice a x.kids.length c]] w fun e w' => e = .returned (strOfB x.str) ∧ Below w.heap.size w w' := by
  have hwe := Ex.wt_eq x
  have hne := Ex.nodes_eq x
  have hlen := Ex.length_le_wtL x.kids
  have HIH : Hid (TextBelow N) := ih
  clear ih
  have B0 := (Below.refl w.heap.size w).alloc (Nat.le_refl _) (.cells #[.int .i64 x.kind, .string x.text, .slice a x.kids.length c] 42)
  have h0l : 0 < x.kids.length := by omega
  have E : Hid (x.str = (x.kids[0]'h0l).str ++ [43]) := by
    have e := str_rep (by omega) h1 h0l
    rw [h46] at e
    exact e
  have g1 := Ex.nodes_le h0l
  have g2 := Ex.wtL_take h0l
  have g3 : Ex.wtL x.kids = Ex.wtL (x.kids.take (0 + 1)) + Ex.wtL (x.kids.drop (0 + 1)) := by rw [← Ex.wtL_append, List.take_append_drop]
  have g4 := Ex.str_le (x.kids[0]'h0l)
  obtain ⟨b1, o1, rfl, hb1, q0, q1, a1, c1, q2, r1⟩ := h.ex h0l
  have IH1 : Hid (∀ W : World, Below w.heap.size w W →
    Calls Try.prog 18 #[.agg #[.int .i64 (x.kids[0]'h0l).kind, .string (x.kids[0]'h0l).text, .slice a1 (x.kids[0]'h0l).kids.length c1]] W fun e w' => e = .returned (strOfB (x.kids[0]'h0l).str) ∧ Below W.heap.size W w') :=
    fun W hW => HIH.out (x.kids[0]'h0l) (by omega) a1 c1 W (r1.later hW) (by omega)
  have hy3 : (x.kids[0]'h0l).str.length ≤ 3298534883328 := by omega
  have HSTR : Hid (strOfB (x.kids[0]'h0l).str = .string ⟨((x.kids[0]'h0l).str).toArray⟩) := rfl
  clear HIH h r1 hwe hne g2 g3 g4 g1
  generalize (x.kids[0]'h0l).str = ys at *
  generalize (x.kids[0]'h0l).kids = yk at *
  generalize (x.kids[0]'h0l).kind = yd at *
  generalize (x.kids[0]'h0l).text = yt at *
  rw [Nat.zero_mul, Nat.add_zero] at q0 q1 q2
  clear hlen h0l
  rw [h1] at B0 ⊢
  clear h1
  rw [h46] at B0 ⊢
  clear h46
  go_enter Try.func18, Try.ntmps18
  go_wp2
  refine wp_region_held_drew (S := (fun w' => w'.cell? ⟨w.heap.size, 0, none⟩ = some (.int .i64 6) ∧ w'.cell? ⟨w.heap.size, 2, none⟩ = some (.slice (some ⟨b1, o1, none⟩) 1 c) ∧ w'.cell? ⟨b1, o1, none⟩ = some (.int .i64 yd) ∧ w'.cell? ⟨b1, o1 + 1, none⟩ = some (.string yt) ∧ w'.cell? ⟨b1, o1 + 2, none⟩ = some (.slice a1 yk.length c1))) (by kernel_rfl) ?_ (fun hHeld => ?_)
  · go_keep
  refine take_at (i := 0) (d := some 53) (v := .pointer (some ⟨w.heap.size, 2, none⟩)) rfl rfl (by kernel_rfl) (by kernel_rfl) (by kernel_rfl) (fun _ _ _ h => h) (by rfl) ?_ hHeld ?_
  · intro w hSw; (try dsimp only at hSw); go_simp; try rfl
  try simp only [Act.put, List.setIfInBounds_toArray, List.set_cons_zero, List.set_cons_succ]
  refine take_at (i := 1) (d := some 54) (v := .slice (some ⟨b1, o1, none⟩) 1 c) rfl rfl (by kernel_rfl) (by kernel_rfl) (by kernel_rfl) (fun _ _ _ h => h) (by rfl) ?_ hHeld ?_
  · intro w hSw; (try dsimp only at hSw); go_simp; try rfl
  try simp only [Act.put, List.setIfInBounds_toArray, List.set_cons_zero, List.set_cons_succ]
  refine take_at (i := 2) (d := some 55) (v := .pointer (some ⟨b1, o1, none⟩)) rfl rfl (by kernel_rfl) (by kernel_rfl) (by kernel_rfl) (fun _ _ _ h => h) (by rfl) ?_ hHeld ?_
  · intro w hSw; (try dsimp only at hSw); go_simp; try rfl
  try simp only [Act.put, List.setIfInBounds_toArray, List.set_cons_zero, List.set_cons_succ]
  refine take_at (i := 3) (d := some 56) (v := .agg #[.int .i64 yd, .string yt, .slice a1 yk.length c1]) rfl rfl (by kernel_rfl) (by kernel_rfl) (by kernel_rfl) (fun _ _ _ h => h) (by rfl) ?_ hHeld ?_
  · intro w hSw; (try dsimp only at hSw); go_simp; try rfl
  try simp only [Act.put, List.setIfInBounds_toArray, List.set_cons_zero, List.set_cons_succ]
  refine take_at (i := 6) (d := some 59) (v := .pointer (some ⟨w.heap.size, 0, none⟩)) rfl rfl (by kernel_rfl) (by kernel_rfl) (by kernel_rfl) (fun _ _ _ h => h) (by rfl) ?_ hHeld ?_
  · intro w hSw; (try dsimp only at hSw); go_simp; try rfl
  try simp only [Act.put, List.setIfInBounds_toArray, List.set_cons_zero, List.set_cons_succ]
  refine take_at (i := 7) (d := some 60) (v := .int .i64 6) rfl rfl (by kernel_rfl) (by kernel_rfl) (by kernel_rfl) (fun _ _ _ h => h) (by rfl) ?_ hHeld ?_
  · intro w hSw; (try dsimp only at hSw); go_simp; try rfl
  try simp only [Act.put, List.setIfInBounds_toArray, List.set_cons_zero, List.set_cons_succ]
  refine take_at (i := 8) (d := some 61) (v := .int .i64 2) rfl rfl (by kernel_rfl) (by kernel_rfl) (by kernel_rfl) (fun _ _ _ h => h) (by rfl) ?_ hHeld ?_
  · intro w hSw; (try dsimp only at hSw); go_simp; try rfl
  try simp only [Act.put, List.setIfInBounds_toArray, List.set_cons_zero, List.set_cons_succ]
  refine wpAnyH_ready (rs := [4, 5]) (by kernel_rfl) (by simp) ?_
  refine AllReadyH.cons (o := _) rfl (fun K hK => ?_) ?_
  · skip
    rw [if_pos (by rfl)]
    go_simp
    refine (IH1.out _ (by go_grown)).mono ?_
    rw [HSTR.out]
    rintro e w1 ⟨rfl, hl1⟩
    have hz1 := hl1.size
    simp only [World.size_alloc, World.size_drew] at hz1
    have s0 : w1.cell? ⟨w.heap.size, 0, none⟩ = some (.int .i64 6) := (hl1.cell (p := ⟨w.heap.size, 0, none⟩) (by simp; try omega)).trans (by simp [*])
    have s2 : w1.cell? ⟨w.heap.size, 2, none⟩ = some (.slice (some ⟨b1, o1, none⟩) 1 c) := (hl1.cell (p := ⟨w.heap.size, 2, none⟩) (by simp; try omega)).trans (by simp [*])
    have t0 : w1.cell? ⟨b1, o1, none⟩ = some (.int .i64 yd) := (hl1.cell (p := ⟨b1, o1, none⟩) (by simp; omega)).trans (by simp [*])
    have t1 : w1.cell? ⟨b1, o1 + 1, none⟩ = some (.string yt) := (hl1.cell (p := ⟨b1, o1 + 1, none⟩) (by simp; omega)).trans (by simp [*])
    have t2 : w1.cell? ⟨b1, o1 + 2, none⟩ = some (.slice a1 yk.length c1) := (hl1.cell (p := ⟨b1, o1 + 2, none⟩) (by simp; omega)).trans (by simp [*])
    have hb2 : w.heap.size < w1.heap.size := by omega
    go_wp2_with fail
    refine hK.out _ _ ⟨s0, s2, t0, t1, t2⟩ (fun hHeld => ?_)
    clear hK K
    try simp only [Act.put, List.setIfInBounds_toArray, List.set_cons_zero, List.set_cons_succ]
    refine wpAnyH_ready (rs := [5]) (by kernel_rfl) (by simp) ?_
    refine AllReadyH.cons (o := _) rfl (fun K hK => ?_) ?_
    · skip
      rw [if_pos (by rfl)]
      go_simp
      refine hK.out _ _ (by go_keep) (fun hHeld => ?_)
      clear hK K
      try simp only [Act.put, List.setIfInBounds_toArray, List.set_cons_zero, List.set_cons_succ]
      refine take_at (i := 9) (d := some 62) (v := .pointer (some ⟨w1.heap.size, 2, none⟩)) rfl rfl (by kernel_rfl) (by kernel_rfl) (by kernel_rfl) (fun _ _ _ h => h) (by rfl) ?_ hHeld ?_
      · intro w hSw; (try dsimp only at hSw); go_simp; first | done | rfl | omega
      try simp only [Act.put, List.setIfInBounds_toArray, List.set_cons_zero, List.set_cons_succ]
      refine wpAnyH_ready (rs := [10]) (by kernel_rfl) (by simp) ?_
      refine AllReadyH.cons (o := _) rfl (fun K hK => ?_) ?_
      · skip
        rw [if_pos (by rfl)]
        go_simp
        refine hK.out _ _ hHeld (fun hHeld => ?_)
        clear hK K
        try simp only [Act.put, List.setIfInBounds_toArray, List.set_cons_zero, List.set_cons_succ]
        refine take_at (i := 11) (d := some 64) (v := .string (⟨ys.toArray⟩ ++ ⟨#[43]⟩)) rfl rfl (by kernel_rfl) (by kernel_rfl) (by kernel_rfl) (fun _ _ _ h => h) (by rfl) ?_ hHeld ?_
        · intro w hSw; (try dsimp only at hSw); go_simp; first | done | rfl | omega
        try simp only [Act.put, List.setIfInBounds_toArray, List.set_cons_zero, List.set_cons_succ]
        refine take_at (i := 12) (d := some 2) (v := .string (⟨ys.toArray⟩ ++ ⟨#[43]⟩)) rfl rfl (by kernel_rfl) (by kernel_rfl) (by kernel_rfl) (fun _ _ _ h => h) (by rfl) ?_ hHeld ?_
        · intro w hSw; (try dsimp only at hSw); go_simp; first | done | rfl | omega
        try simp only [Act.put, List.setIfInBounds_toArray, List.set_cons_zero, List.set_cons_succ]
        refine wpAnyH_done (by kernel_rfl) ?_ _
        go_wp2
        go_ret
        exact ⟨by rw [E.out]; exact congrArg (fun s => Ending.returned (Value.string s)) (by apply ByteArray.ext; apply Array.ext'; simp), ((B0.drew.trans (hl1.mono (by simp))).alloc (by omega) _)⟩
      exact AllReadyH.nil
    exact AllReadyH.nil
  refine AllReadyH.cons (o := _) rfl (fun K hK => ?_) ?_
  · skip
    rw [if_pos (by rfl)]
    go_simp
    refine hK.out _ _ (by go_keep) (fun hHeld => ?_)
    clear hK K
    try simp only [Act.put, List.setIfInBounds_toArray, List.set_cons_zero, List.set_cons_succ]
    refine take_at (i := 9) (d := some 62) (v := .pointer (some ⟨w.heap.size + 1, 2, none⟩)) rfl rfl (by kernel_rfl) (by kernel_rfl) (by kernel_rfl) (fun _ _ _ h => h) (by rfl) ?_ hHeld ?_
    · intro w hSw; (try dsimp only at hSw); go_simp; first | done | rfl | omega
    try simp only [Act.put, List.setIfInBounds_toArray, List.set_cons_zero, List.set_cons_succ]
    refine wpAnyH_ready (rs := [4, 10]) (by kernel_rfl) (by simp) ?_
    refine AllReadyH.cons (o := _) rfl (fun K hK => ?_) ?_
    · skip
      rw [if_pos (by rfl)]
      go_simp
      refine (IH1.out _ (by go_grown)).mono ?_
      rw [HSTR.out]
      rintro e w1 ⟨rfl, hl1⟩
      have hz1 := hl1.size
      simp only [World.size_alloc, World.size_drew] at hz1
      have s0 : w1.cell? ⟨w.heap.size, 0, none⟩ = some (.int .i64 6) := (hl1.cell (p := ⟨w.heap.size, 0, none⟩) (by simp; try omega)).trans (by simp [*])
      have s2 : w1.cell? ⟨w.heap.size, 2, none⟩ = some (.slice (some ⟨b1, o1, none⟩) 1 c) := (hl1.cell (p := ⟨w.heap.size, 2, none⟩) (by simp; try omega)).trans (by simp [*])
      have t0 : w1.cell? ⟨b1, o1, none⟩ = some (.int .i64 yd) := (hl1.cell (p := ⟨b1, o1, none⟩) (by simp; omega)).trans (by simp [*])
      have t1 : w1.cell? ⟨b1, o1 + 1, none⟩ = some (.string yt) := (hl1.cell (p := ⟨b1, o1 + 1, none⟩) (by simp; omega)).trans (by simp [*])
      have t2 : w1.cell? ⟨b1, o1 + 2, none⟩ = some (.slice a1 yk.length c1) := (hl1.cell (p := ⟨b1, o1 + 2, none⟩) (by simp; omega)).trans (by simp [*])
      have hb2 : w.heap.size < w1.heap.size := by omega
      have u0 : w1.cell? ⟨w.heap.size + 1, 2, none⟩ = some (.string ⟨#[43]⟩) := (hl1.cell (p := ⟨w.heap.size + 1, 2, none⟩) (by simp)).trans (by simp [*])
      go_wp2_with fail
      refine hK.out _ _ ⟨s0, s2, t0, t1, t2⟩ (fun hHeld => ?_)
      clear hK K
      try simp only [Act.put, List.setIfInBounds_toArray, List.set_cons_zero, List.set_cons_succ]
      refine wpAnyH_ready (rs := [10]) (by kernel_rfl) (by simp) ?_
      refine AllReadyH.cons (o := _) rfl (fun K hK => ?_) ?_
      · skip
        rw [if_pos (by rfl)]
        go_simp
        refine hK.out _ _ hHeld (fun hHeld => ?_)
        clear hK K
        try simp only [Act.put, List.setIfInBounds_toArray, List.set_cons_zero, List.set_cons_succ]
        refine take_at (i := 11) (d := some 64) (v := .string (⟨ys.toArray⟩ ++ ⟨#[43]⟩)) rfl rfl (by kernel_rfl) (by kernel_rfl) (by kernel_rfl) (fun _ _ _ h => h) (by rfl) ?_ hHeld ?_
        · intro w hSw; (try dsimp only at hSw); go_simp; first | done | rfl | omega
        try simp only [Act.put, List.setIfInBounds_toArray, List.set_cons_zero, List.set_cons_succ]
        refine take_at (i := 12) (d := some 2) (v := .string (⟨ys.toArray⟩ ++ ⟨#[43]⟩)) rfl rfl (by kernel_rfl) (by kernel_rfl) (by kernel_rfl) (fun _ _ _ h => h) (by rfl) ?_ hHeld ?_
        · intro w hSw; (try dsimp only at hSw); go_simp; first | done | rfl | omega
        try simp only [Act.put, List.setIfInBounds_toArray, List.set_cons_zero, List.set_cons_succ]
        refine wpAnyH_done (by kernel_rfl) ?_ _
        go_wp2
        go_ret
        exact ⟨by rw [E.out]; exact congrArg (fun s => Ending.returned (Value.string s)) (by apply ByteArray.ext; apply Array.ext'; simp), ((B0.drew.alloc (by simp) _).trans (hl1.mono (by simp; omega)))⟩
      exact AllReadyH.nil
    refine AllReadyH.cons (o := _) rfl (fun K hK => ?_) ?_
    · skip
      rw [if_pos (by rfl)]
      go_simp
      refine hK.out _ _ hHeld (fun hHeld => ?_)
      clear hK K
      try simp only [Act.put, List.setIfInBounds_toArray, List.set_cons_zero, List.set_cons_succ]
      refine wpAnyH_ready (rs := [4]) (by kernel_rfl) (by simp) ?_
      refine AllReadyH.cons (o := _) rfl (fun K hK => ?_) ?_
      · skip
        rw [if_pos (by rfl)]
        go_simp
        refine (IH1.out _ (by go_grown)).mono ?_
        rw [HSTR.out]
        rintro e w1 ⟨rfl, hl1⟩
        have hz1 := hl1.size
        simp only [World.size_alloc, World.size_drew] at hz1
        have s0 : w1.cell? ⟨w.heap.size, 0, none⟩ = some (.int .i64 6) := (hl1.cell (p := ⟨w.heap.size, 0, none⟩) (by simp; try omega)).trans (by simp [*])
        have s2 : w1.cell? ⟨w.heap.size, 2, none⟩ = some (.slice (some ⟨b1, o1, none⟩) 1 c) := (hl1.cell (p := ⟨w.heap.size, 2, none⟩) (by simp; try omega)).trans (by simp [*])
        have t0 : w1.cell? ⟨b1, o1, none⟩ = some (.int .i64 yd) := (hl1.cell (p := ⟨b1, o1, none⟩) (by simp; omega)).trans (by simp [*])
        have t1 : w1.cell? ⟨b1, o1 + 1, none⟩ = some (.string yt) := (hl1.cell (p := ⟨b1, o1 + 1, none⟩) (by simp; omega)).trans (by simp [*])
        have t2 : w1.cell? ⟨b1, o1 + 2, none⟩ = some (.slice a1 yk.length c1) := (hl1.cell (p := ⟨b1, o1 + 2, none⟩) (by simp; omega)).trans (by simp [*])
        have hb2 : w.heap.size < w1.heap.size := by omega
        go_wp2_with fail
        refine hK.out _ _ ⟨s0, s2, t0, t1, t2⟩ (fun hHeld => ?_)
        clear hK K
        try simp only [Act.put, List.setIfInBounds_toArray, List.set_cons_zero, List.set_cons_succ]
        refine take_at (i := 11) (d := some 64) (v := .string (⟨ys.toArray⟩ ++ ⟨#[43]⟩)) rfl rfl (by kernel_rfl) (by kernel_rfl) (by kernel_rfl) (fun _ _ _ h => h) (by rfl) ?_ hHeld ?_
        · intro w hSw; (try dsimp only at hSw); go_simp; first | done | rfl | omega
        try simp only [Act.put, List.setIfInBounds_toArray, List.set_cons_zero, List.set_cons_succ]
        refine take_at (i := 12) (d := some 2) (v := .string (⟨ys.toArray⟩ ++ ⟨#[43]⟩)) rfl rfl (by kernel_rfl) (by kernel_rfl) (by kernel_rfl) (fun _ _ _ h => h) (by rfl) ?_ hHeld ?_
        · intro w hSw; (try dsimp only at hSw); go_simp; first | done | rfl | omega
        try simp only [Act.put, List.setIfInBounds_toArray, List.set_cons_zero, List.set_cons_succ]
        refine wpAnyH_done (by kernel_rfl) ?_ _
        go_wp2
        go_ret
        exact ⟨by rw [E.out]; exact congrArg (fun s => Ending.returned (Value.string s)) (by apply ByteArray.ext; apply Array.ext'; simp), ((B0.drew.alloc (by simp) _).trans (hl1.mono (by simp; omega)))⟩
      exact AllReadyH.nil
    exact AllReadyH.nil
  exact AllReadyH.nil

theorem specExprText_any : ∀ (N : Nat), TextBelow N := by
  intro N
  induction N with
  | zero => intro x hN; omega
  | succ N ih =>
    intro x hN a c w h hw
    by_cases h01 : x.kind = 0 ∨ x.kind = 1
    · exact specText_text x a c w h01
    · by_cases h23 : x.kind = 2 ∨ x.kind = 3
      · exact specText_join N ih x hN a c w h hw h23
      · by_cases h46 : (x.kind = 4 ∨ x.kind = 5 ∨ x.kind = 6) ∧ x.kids.length = 1
        · rcases h46.1 with hd | hd | hd
          · exact specText_opt N ih x hN a c w h hw hd h46.2
          · exact specText_star N ih x hN a c w h hw hd h46.2
          · exact specText_plus N ih x hN a c w h hw hd h46.2
        · exact specText_none x a c w h01 h23 h46
end Go.Proofs.Ytkbnafmkgiknbac
