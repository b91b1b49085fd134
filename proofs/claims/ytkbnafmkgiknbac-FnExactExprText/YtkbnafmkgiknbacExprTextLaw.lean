/-
  The walk of the exact law of ExprText over this translation, out of the contracts. No statement is proved here (the frame is in the text that imports this one).
-/
import Derived.Test.YtkbnafmkgiknbacExprText
import Derived.Test.YtkbnafmkgiknbacEqExpr
import Derived.Test.YtkbnafmkgiknbacSpecExprText
namespace Go.Proofs.Ytkbnafmkgiknbac
open Go.RowKit

theorem szExpr_any (x : Ex) (a : Option Addr) (c : Nat) (l : Int) (w : World) (h : RD w (.slice a x.kids.length c) (exD x.kids)) (hf : x.fit) (h0 : 0 ≤ l) (h1 : l ≤ 1048576) :
    Calls Try.prog 17 #[.agg #[.int .i64 x.kind, .string x.text, .slice a x.kids.length c], .int .i64 l] w fun e w' => ∃ r, e = .returned (.int .i64 r) ∧ SzEnd x.wt l r ∧ Below w.heap.size w w' := by
  have hf' := (Ex.fit_eq x).1 hf
  rw [Ex.wt_eq]
  exact szExpr_step x.kind x.text x.kids.length a c (Ex.wtL x.kids) l w h0 h1 hf'.1 (fun W l' hW g0 g1 => szExprS_any _ x.kids (Nat.le_refl _) a c l' W (h.later hW) hf'.2.1 hf'.2.2 g0 g1)
theorem toExpr_any (x : Ex) (a : Option Addr) (c : Nat) (w : World) (h : RD w (.slice a x.kids.length c) (exD x.kids)) (hn : Ex.nodesL x.kids ≤ 1099511627776) :
    Calls Try.prog 19 #[.agg #[.int .i64 x.kind, .string x.text, .slice a x.kids.length c]] w fun e w' => ∃ a' c' S, e = .returned (.agg #[.int .i64 x.kind, .string x.text, .slice a' x.kids.length c']) ∧ OD w' w.heap.size (.slice a' x.kids.length c') (exD x.kids) S ∧ Below w.heap.size w w' := by
  refine (toExpr_step x.kind x.text x.kids.length a c x.kids w (fun W hW => toExprS_any _ x.kids (Nat.lt_succ_self _) a c W (h.later hW) hn)).mono ?_
  rintro e w1 ⟨v, S, rfl, O, B⟩
  obtain ⟨a1, c1, rfl, _⟩ := OD.exShape O
  exact ⟨a1, c1, S, rfl, O, B⟩
theorem eqExpr_any (x : Ex) (a b : Option Addr) (c d : Nat) (w : World) (h : RD w (.slice a x.kids.length c) (exD x.kids)) (g : RD w (.slice b x.kids.length d) (exD x.kids)) (hn : Ex.nodesL x.kids ≤ 1099511627776) :
    Calls Try.prog 21 #[.agg #[.int .i64 x.kind, .string x.text, .slice a x.kids.length c], .agg #[.int .i64 x.kind, .string x.text, .slice b x.kids.length d]] w fun e w' => e = .returned (.bool true) ∧ Below w.heap.size w w' :=
  eqExpr_step x.kind x.text x.kids.length a b c d w (fun W hW => eqExprS_same _ x.kids (Nat.le_refl _) a b c d W (h.later hW) (g.later hW) (Nat.le_trans (Ex.length_le _) hn) hn)

set_option maxHeartbeats 1000000 in
set_option maxRecDepth 100000 in
theorem fnExactExprText_law (x : Ex) (a : Option Addr) (c : Nat) (w : World) (h : RD w (.slice a x.kids.length c) (exD x.kids)) (hf : x.fit) :
    Calls Try.prog 5 #[.agg #[.int .i64 x.kind, .string x.text, .slice a x.kids.length c]] w fun e w' => e = .returned (.bool true) ∧ Below w.heap.size w w' := by
  have HB0 : Hid (Below w.heap.size w (w.alloc (.cells #[.int .i64 x.kind, .string x.text, .slice a x.kids.length c] 37))) := (Below.refl _ _).alloc (Nat.le_refl _) _
  have H : Hid (RD w (.slice a x.kids.length c) (exD x.kids)) := h
  have q0 : (w.alloc (.cells #[.int .i64 x.kind, .string x.text, .slice a x.kids.length c] 37)).cell? ⟨w.heap.size, 0, none⟩ = some (.int .i64 x.kind) := by simp [go_sem]
  have q1 : (w.alloc (.cells #[.int .i64 x.kind, .string x.text, .slice a x.kids.length c] 37)).cell? ⟨w.heap.size, 1, none⟩ = some (.string x.text) := by simp [go_sem]
  have q2 : (w.alloc (.cells #[.int .i64 x.kind, .string x.text, .slice a x.kids.length c] 37)).cell? ⟨w.heap.size, 2, none⟩ = some (.slice a x.kids.length c) := by simp [go_sem]
  have HQ : Hid (∀ W : World, Below (w.heap.size + 1) (w.alloc (.cells #[.int .i64 x.kind, .string x.text, .slice a x.kids.length c] 37)) W → W.cell? ⟨w.heap.size, 0, none⟩ = some (.int .i64 x.kind) ∧ W.cell? ⟨w.heap.size, 1, none⟩ = some (.string x.text) ∧ W.cell? ⟨w.heap.size, 2, none⟩ = some (.slice a x.kids.length c) ∧ RD W (.slice a x.kids.length c) (exD x.kids) ∧ Below w.heap.size w W) := by
    intro W hW
    refine ⟨(hW.cell (p := ⟨w.heap.size, 0, none⟩) (by simp)).trans q0, (hW.cell (p := ⟨w.heap.size, 1, none⟩) (by simp)).trans q1, (hW.cell (p := ⟨w.heap.size, 2, none⟩) (by simp)).trans q2, ?_, HB0.out.trans (hW.mono (by omega))⟩
    exact H.out.later (HB0.out.trans (hW.mono (by omega)))
  clear q0 q1 q2
  clear h
  go_enter Try.func5, Try.ntmps5
  go_wp2_with fail
  refine (szExpr_any x a c _ _ (H.out.later HB0.out) hf (by decide) (by decide)).mono ?_
  rintro e w1 ⟨r, rfl, hr, B1'⟩
  have B1 : Below (w.heap.size + 1) (w.alloc (.cells #[.int .i64 x.kind, .string x.text, .slice a x.kids.length c] 37)) w1 := by simpa using B1'
  clear B1'
  obtain ⟨q0, q1, q2, R1, BB1⟩ := HQ.out w1 B1
  rcases hr with rfl | ⟨hr0, hsum⟩
  · clear q0 q1 q2 R1
    go_wp2
    go_ret
    exact ⟨rfl, BB1⟩
  · have HB1 : Hid (Below (w.heap.size + 1) (w.alloc (.cells #[.int .i64 x.kind, .string x.text, .slice a x.kids.length c] 37)) w1) := B1
    have hwt : x.wt ≤ 1048576 := by omega
    have hnd : Ex.nodesL x.kids ≤ 1048576 := by have := Ex.nodesL_le_wtL _ x.kids (Nat.le_refl _); have := Ex.wt_eq x; omega
    have HS : Hid (x.wt ≤ 1048576 ∧ Ex.nodesL x.kids ≤ 1048576) := ⟨hwt, hnd⟩
    have HR1 : Hid (RD w1 (.slice a x.kids.length c) (exD x.kids)) := R1
    clear B1 BB1 R1 hwt hnd hsum hf
    go_wp2_with fail
    refine (toExpr_any x a c w1 HR1.out (by have := HS.out.2; omega)).mono ?_
    rintro e w2 ⟨a2, c2, S2, rfl, O2, B2⟩
    have HR2 : Hid (RD w2 (.slice a2 x.kids.length c2) (exD x.kids)) := O2.rd
    have HB2 : Hid (Below (w.heap.size + 1) (w.alloc (.cells #[.int .i64 x.kind, .string x.text, .slice a x.kids.length c] 37)) w2) := HB1.out.trans (B2.mono (by simpa using HB1.out.size))
    clear q0 q1 q2 HR1 HB1 O2 B2
    obtain ⟨q0, q1, q2, R2, _⟩ := HQ.out w2 HB2.out
    clear R2
    go_wp2_with fail
    refine (specExprText_any (x.nodes + 1) x (Nat.lt_succ_self _) a2 c2 w2 HR2.out (by have := HS.out.1; omega)).mono ?_
    rintro e w3 ⟨rfl, B3⟩
    have HB3 : Hid (Below (w.heap.size + 1) (w.alloc (.cells #[.int .i64 x.kind, .string x.text, .slice a x.kids.length c] 37)) w3) := HB2.out.trans (B3.mono (by simpa using HB2.out.size))
    clear q0 q1 q2 HR2 HB2 B3
    obtain ⟨q0, q1, q2, R3, _⟩ := HQ.out w3 HB3.out
    have HR3 : Hid (RD w3 (.slice a x.kids.length c) (exD x.kids)) := R3
    clear R3
    go_wp2_with fail
    refine (toExpr_any x a c _ HR3.out (by have := HS.out.2; omega)).mono ?_
    rintro e w4 ⟨a4, c4, S4, rfl, O4, B4⟩
    have HR4 : Hid (RD w4 (.slice a4 x.kids.length c4) (exD x.kids)) := O4.rd
    have HB4 : Hid (Below (w.heap.size + 1) (w.alloc (.cells #[.int .i64 x.kind, .string x.text, .slice a x.kids.length c] 37)) w4) := HB3.out.trans (B4.mono (by simpa using HB3.out.size))
    clear q0 q1 q2 HR3 HB3 O4 B4
    have B4a : Below w4.heap.size w4 (w4.alloc (.cells #[.int .i64 x.kind, .string x.text, .slice a4 x.kids.length c4] 42)) := (Below.refl _ _).alloc (Nat.le_refl _) _
    have HR4b : Hid (RD (w4.alloc (.cells #[.int .i64 x.kind, .string x.text, .slice a4 x.kids.length c4] 42)) (.slice a4 x.kids.length c4) (exD x.kids)) := HR4.out.later B4a
    have HB4b : Hid (Below (w.heap.size + 1) (w.alloc (.cells #[.int .i64 x.kind, .string x.text, .slice a x.kids.length c] 37)) (w4.alloc (.cells #[.int .i64 x.kind, .string x.text, .slice a4 x.kids.length c4] 42))) := HB4.out.trans (B4a.mono (by simpa using HB4.out.size))
    have hs4 : w.heap.size + 1 ≤ w4.heap.size := by simpa using HB4.out.size
    clear HR4 HB4 B4a
    go_wp2_with fail
    refine (exprText_any x a4 c4 _ HR4b.out (by have := HS.out.1; omega)).mono ?_
    rintro e w5 ⟨rfl, B5⟩
    have HB5 : Hid (Below (w.heap.size + 1) (w.alloc (.cells #[.int .i64 x.kind, .string x.text, .slice a x.kids.length c] 37)) w5) := HB4b.out.trans (B5.mono (by simp; omega))
    have p0 : w5.cell? ⟨w4.heap.size, 0, none⟩ = some (.int .i64 x.kind) := (B5.cell (p := ⟨w4.heap.size, 0, none⟩) (by simp)).trans (by simp [go_sem])
    have p1 : w5.cell? ⟨w4.heap.size, 1, none⟩ = some (.string x.text) := (B5.cell (p := ⟨w4.heap.size, 1, none⟩) (by simp)).trans (by simp [go_sem])
    have p2 : w5.cell? ⟨w4.heap.size, 2, none⟩ = some (.slice a4 x.kids.length c4) := (B5.cell (p := ⟨w4.heap.size, 2, none⟩) (by simp)).trans (by simp [go_sem])
    have hs5 : w4.heap.size < w5.heap.size := by have := B5.size; simp at this; omega
    have HR5 : Hid (RD w5 (.slice a4 x.kids.length c4) (exD x.kids)) := HR4b.out.later B5
    clear B5 HR4b HB4b
    obtain ⟨q0, q1, q2, R5, _⟩ := HQ.out w5 HB5.out
    have HR5a : Hid (RD w5 (.slice a x.kids.length c) (exD x.kids)) := R5
    clear R5
    unfold strOfB
    generalize x.str = T at *
    go_wp2_with fail
    refine wp_region_held_drew (S := (fun w' => w'.cell? ⟨w4.heap.size, 0, none⟩ = some (.int .i64 x.kind) ∧ w'.cell? ⟨w4.heap.size, 1, none⟩ = some (.string x.text) ∧ w'.cell? ⟨w4.heap.size, 2, none⟩ = some (.slice a4 x.kids.length c4) ∧ w'.cell? ⟨w.heap.size, 0, none⟩ = some (.int .i64 x.kind) ∧ w'.cell? ⟨w.heap.size, 1, none⟩ = some (.string x.text) ∧ w'.cell? ⟨w.heap.size, 2, none⟩ = some (.slice a x.kids.length c))) (by kernel_rfl) ?_ (fun hHeld => ?_)
    · go_keep
    refine take_at (i := 0) (d := some 22) (v := .agg #[.int .i64 x.kind, .string x.text, .slice a4 x.kids.length c4]) rfl rfl (by kernel_rfl) (by kernel_rfl) (by kernel_rfl) (fun _ _ _ h => h) (by rfl) ?_ hHeld ?_
    · intro w hSw; (try dsimp only at hSw); go_simp; try rfl
    try simp only [Act.put, List.setIfInBounds_toArray, List.set_cons_zero, List.set_cons_succ]
    refine take_at (i := 1) (d := some 23) (v := .agg #[.int .i64 x.kind, .string x.text, .slice a x.kids.length c]) rfl rfl (by kernel_rfl) (by kernel_rfl) (by kernel_rfl) (fun _ _ _ h => h) (by rfl) ?_ hHeld ?_
    · intro w hSw; (try dsimp only at hSw); go_simp; try rfl
    try simp only [Act.put, List.setIfInBounds_toArray, List.set_cons_zero, List.set_cons_succ]
    have HR5d : Hid (RD w5.drew (.slice a x.kids.length c) (exD x.kids)) := HR5a.out.later (Below.drew (Below.refl _ _))
    refine wpAnyH_ready (rs := [2]) (by kernel_rfl) (by simp) ?_
    refine AllReadyH.cons (o := _) rfl (fun K hK => ?_) ?_
    · rw [if_pos (by rfl)]
      go_simp
      refine (toExpr_any x a c _ HR5d.out (by have := HS.out.2; omega)).mono ?_
      rintro e w6 ⟨a6, c6, S6, rfl, O6, B6⟩
      have HR6 : Hid (RD w6 (.slice a4 x.kids.length c4) (exD x.kids)) := (HR5.out.later (Below.drew (Below.refl _ _))).later B6
      have HR6a : Hid (RD w6 (.slice a6 x.kids.length c6) (exD x.kids)) := O6.rd
      have HB6 : Hid (Below w.heap.size w w6) := (HB0.out.trans (HB5.out.mono (by omega))).trans ((Below.drew (Below.refl w5.heap.size w5)).trans (by simpa using B6) |>.mono (by omega))
      have hcc : ∀ b o, b < w5.heap.size → w6.cell? ⟨b, o, none⟩ = w5.cell? ⟨b, o, none⟩ := fun b o hb => (B6.cell (p := ⟨b, o, none⟩) (by simpa using hb)).trans (by simp)
      have hw5 : w.heap.size < w5.heap.size := by omega
      have s0 := (hcc w4.heap.size 0 hs5).trans p0
      have s1 := (hcc w4.heap.size 1 hs5).trans p1
      have s2 := (hcc w4.heap.size 2 hs5).trans p2
      have t0 := (hcc w.heap.size 0 hw5).trans q0
      have t1 := (hcc w.heap.size 1 hw5).trans q1
      have t2 := (hcc w.heap.size 2 hw5).trans q2
      clear O6 B6 hHeld hcc
      go_wp2_with fail
      refine hK.out _ _ ⟨s0, s1, s2, t0, t1, t2⟩ (fun hHeld => ?_)
      clear hK K
      try simp only [Act.put, List.setIfInBounds_toArray, List.set_cons_zero, List.set_cons_succ]
      refine wpAnyH_ready (rs := [3]) (by kernel_rfl) (by simp) ?_
      refine AllReadyH.cons (o := _) rfl (fun K hK => ?_) ?_
      · rw [if_pos (by rfl)]
        go_simp
        refine (eqExpr_any x a4 a6 c4 c6 _ HR6.out HR6a.out (by have := HS.out.2; omega)).mono ?_
        rintro e w7 ⟨rfl, B7⟩
        have HB7 : Hid (Below w.heap.size w w7) := HB6.out.trans (B7.mono HB6.out.size)
        have r0 := (B7.cell (p := ⟨w4.heap.size, 0, none⟩) (World.block_lt_of_cell? w6 _ s0)).trans s0
        have r1 := (B7.cell (p := ⟨w4.heap.size, 1, none⟩) (World.block_lt_of_cell? w6 _ s1)).trans s1
        have r2 := (B7.cell (p := ⟨w4.heap.size, 2, none⟩) (World.block_lt_of_cell? w6 _ s2)).trans s2
        have v0 := (B7.cell (p := ⟨w.heap.size, 0, none⟩) (World.block_lt_of_cell? w6 _ t0)).trans t0
        have v1 := (B7.cell (p := ⟨w.heap.size, 1, none⟩) (World.block_lt_of_cell? w6 _ t1)).trans t1
        have v2 := (B7.cell (p := ⟨w.heap.size, 2, none⟩) (World.block_lt_of_cell? w6 _ t2)).trans t2
        go_wp2_with fail
        refine hK.out _ _ ⟨r0, r1, r2, v0, v1, v2⟩ (fun hHeld => ?_)
        clear hK K
        try simp only [Act.put, List.setIfInBounds_toArray, List.set_cons_zero, List.set_cons_succ]
        refine take_at (i := 4) (d := some 26) (v := .bool false) rfl rfl (by kernel_rfl) (by kernel_rfl) (by kernel_rfl) (fun _ _ _ h => h) (by rfl) ?_ hHeld ?_
        · intro w hSw; (try dsimp only at hSw); go_simp; try rfl
        try simp only [Act.put, List.setIfInBounds_toArray, List.set_cons_zero, List.set_cons_succ]
        refine wpAnyH_done (by kernel_rfl) ?_ _
        go_wp2
        go_ret
        exact ⟨rfl, HB7.out⟩
      exact AllReadyH.nil
    exact AllReadyH.nil
end Go.Proofs.Ytkbnafmkgiknbac
