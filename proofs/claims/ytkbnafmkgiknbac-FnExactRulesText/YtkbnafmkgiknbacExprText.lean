/-
  Contract of the project's ExprText over this translation. No statement is proved here.
-/
import Derived.Test.YtkbnafmkgiknbacWriter5
namespace Go.Proofs.Ytkbnafmkgiknbac
open Go.RowKit

theorem OwnT.pop {α : Type} {E : Enc α} {w : World} {base : Nat} {e : TypeId} {g n cap : Nat} {xs : List α} {x : α} (h : OwnT E w base e (.slice (some ⟨g, 0, none⟩) n cap) (xs ++ [x])) : OwnT E w base e (.slice (some ⟨g, 0, none⟩) xs.length cap) xs := by
  refine ⟨E.row_length _, .inr ?_⟩
  rcases h.2 with ⟨h0, _⟩ | ⟨g', cap', cur, hv, hb, hg, hnc, hcm, hcs, ht⟩
  · cases h0
  · cases hv
    have hl : (xs ++ [x]).length = xs.length + 1 := by simp
    refine ⟨g, cap, cur, rfl, hb, hg, by omega, hcm, hcs, ?_⟩
    have e1 : (E.row (xs ++ [x])).take (xs.length * E.size) = E.row xs := by
      rw [E.row_append, ← E.row_length xs, List.take_left']
      rfl
    rw [← e1, ← ht, List.take_take]
    congr 1
    rw [hl, Nat.add_mul]; omega

/-- What is popped off the writer's list. -/
theorem Wr.pop {W0 w : World} {b : Nat} {bs : List UInt8} {L : List Pc} (h : Wr W0 w b bs L) (hne : L ≠ []) :
    ∃ (L' : List Pc) (p : Pc) (g cap : Nat), L = L' ++ [p] ∧ Means W0 p.mv p.ex ∧ w.cell? ⟨b, 2, none⟩ = some (.slice (some ⟨g, 0, none⟩) (L'.length + 1) cap) ∧ w.frozen? ⟨b, 2, none⟩ = false ∧ L'.length + 1 ≤ cap ∧ cap ≤ maxLen ∧ g < w.heap.size ∧ b < w.heap.size ∧
      w.cell? ⟨g, L'.length * 2, none⟩ = some (.string p.text) ∧ w.cell? ⟨g, L'.length * 2 + 1, none⟩ = some p.mv.val ∧
      ∀ o, Wr W0 ((w.setCell ⟨b, 2, none⟩ (.slice (some ⟨g, 0, none⟩) L'.length cap)).alloc o) b bs L' := by
  obtain ⟨t, hw, ho, hb, hm⟩ := h
  obtain ⟨L', p, rfl⟩ : ∃ L' p, L = L' ++ [p] := ⟨L.dropLast, L.getLast hne, (List.dropLast_concat_getLast hne).symm⟩
  have hl : (L' ++ [p]).length = L'.length + 1 := by simp
  obtain ⟨a, cap, rfl, _, hg, hc, hcm⟩ := ho.shape
  obtain ⟨g, rfl⟩ := hg hne
  rw [hl] at ho hw hc
  have c0 := (OwnT.at (E := pcE) (by simp) ho (i := L'.length) (by simp) 0 (by decide)).1
  have c1 := (OwnT.at (E := pcE) (by simp) ho (i := L'.length) (by simp) 1 (by decide)).1
  simp only [List.getElem_append_right (Nat.le_refl _), Nat.sub_self, List.getElem_cons_zero, pcE, List.getElem?_cons_zero, List.getElem?_cons_succ, Nat.add_zero] at c0 c1
  have R : Wr W0 (w.setCell ⟨b, 2, none⟩ (.slice (some ⟨g, 0, none⟩) L'.length cap)) b bs L' := by
    refine ⟨_, hw.list _, ?_, hb.setCell (p := ⟨b, 2, none⟩) hw.1 _, fun q hq => hm q (List.mem_append_left _ hq)⟩
    have ho' := OwnT.pop ho
    obtain ⟨c', fz, hbk⟩ := hw.block
    exact ho'.kept (row := some b) ⟨rfl, rfl, rfl, by simp [World.setCell], fun k _ hk => Below.heap_setCell _ _ _ _ (fun e => hk (by simp [e]))⟩ (.inr (own_ne ho' hbk (by decide)))
  exact ⟨L', p, g, cap, rfl, hm p (by simp), hw.cell2, hw.frozen2, hc, hcm, (ho.block g rfl).2, hw.lt, c0, c1, fun o => R.later ((Below.refl _ _).alloc (Nat.le_refl _) o)⟩
theorem Wr.empty {W0 w : World} {b : Nat} {bs : List UInt8} (h : Wr W0 w b bs []) : ∃ a cap t, w.cell? ⟨b, 2, none⟩ = some (.slice a 0 cap) ∧ WB w W0.heap.size b bs t := by
  obtain ⟨t, hw, ho, hb, hm⟩ := h
  obtain ⟨a, cap, rfl, _⟩ := ho.shape
  exact ⟨a, cap, _, hw.cell2, hw⟩

theorem writeStringWr (W0 : World) (b : Nat) (bs : List UInt8) (L : List Pc) (tx : ByteArray) (w : World) (h : Wr W0 w b bs L) (hl : bs.length + tx.size ≤ 140737488355328) :
    Calls Try.prog 29 #[.pointer (some ⟨b, 0, none⟩), .string tx] w fun e w' => e = .returned (.tuple #[.int .i64 tx.size, .nilIface]) ∧ Wr W0 w' b (bs ++ tx.data.toList) L ∧ KeptB b w w' := by
  obtain ⟨t, hw, ho, hb, hm⟩ := h
  refine (writeStringW W0.heap.size b bs tx t w hw hl hb.size).mono ?_
  rintro e w1 ⟨rfl, hw1, hb1, hk1⟩
  exact ⟨rfl, Wr.wrote hw ho hb hm hw1 hb1 hk1, hk1⟩

set_option maxHeartbeats 1000000 in
set_option maxRecDepth 100000 in
theorem exprText_any (x : Ex) (a : Option Addr) (c : Nat) (w : World) (h : RD w (.slice a x.kids.length c) (exD x.kids)) (hw : x.wt ≤ 274877906944) :
    Calls Try.prog 20 #[.agg #[.int .i64 x.kind, .string x.text, .slice a x.kids.length c]] w fun e w' => e = .returned (strOfB x.str) ∧ Below w.heap.size w w' := by
  have H : Hid (RD w (.slice a x.kids.length c) (exD x.kids)) := h
  have hnd := Ex.nodes_eq x
  have hwt := Ex.wt_eq x
  have hnw := Ex.nodesL_le_wtL _ x.kids (Nat.le_refl _)
  have hst := Ex.str_le x
  have HN : Hid (3 * x.nodes + 3 ≤ 824633720841 ∧ x.str.length ≤ 824633720834) := ⟨by omega, by omega⟩
  clear h hnd hwt hnw hst hw
  have B0 : Below w.heap.size w ((w.alloc (.cells #[.int .i64 x.kind, .string x.text, .slice a x.kids.length c] 42)).alloc (.cells #[.pointer none, .slice none 0 0, .slice none 0 0] 92)) := ((Below.refl _ _).alloc (Nat.le_refl _) _).alloc (by simp) _
  have R0 : Hid (Wr w ((w.alloc (.cells #[.int .i64 x.kind, .string x.text, .slice a x.kids.length c] 42)).alloc (.cells #[.pointer none, .slice none 0 0, .slice none 0 0] 92)) (w.heap.size + 1) [] []) := by
    refine ⟨.slice none 0 0, ⟨by omega, .pointer none, .slice none 0 0, .inl rfl, ?_, World.ownsRowF_nil _ _ _ _, fun _ => rfl⟩, OwnT.nil _ _ _, B0, by simp⟩
    have := heap_alloc_new (w.alloc (.cells #[.int .i64 x.kind, .string x.text, .slice a x.kids.length c] 42)) (.cells #[.pointer none, .slice none 0 0, .slice none 0 0] 92)
    simpa using this
  have HB0 : Hid (Below w.heap.size w ((w.alloc (.cells #[.int .i64 x.kind, .string x.text, .slice a x.kids.length c] 42)).alloc (.cells #[.pointer none, .slice none 0 0, .slice none 0 0] 92))) := B0
  clear B0
  go_enter Try.func20, Try.ntmps20
  go_wp2_with fail
  refine (meaning_any x a c w _ H.out HB0.out).mono ?_
  rintro e w1 ⟨m, rfl, hm, hb1⟩
  have R1 : Hid (Wr w w1 (w.heap.size + 1) [] []) := R0.out.later hb1
  have HM : Hid (Means w m x) := hm
  clear hm hb1 R0 HB0 H
  go_wp2_with fail
  refine (later_any w (w.heap.size + 1) [] [] ⟨⟨#[]⟩, m, x⟩ w1 R1.out HM.out (by simp)).mono ?_
  rintro e w2 ⟨rfl, R2, _⟩
  have HR2 : Hid (Wr w w2 (w.heap.size + 1) [] [⟨⟨#[]⟩, m, x⟩]) := R2
  clear R2 R1
  go_wp2
  go_loopg [] (3 * x.nodes) (fun k wr => ∃ (bs : List UInt8) (L : List Pc), Aside (Wr w wr (w.heap.size + 1) bs L ∧ bs ++ restP L = x.str ∧ wtP L ≤ k ∧ k ≤ 3 * x.nodes))
  case atStart => exact ⟨[], [⟨⟨#[]⟩, m, x⟩], HR2.out, by simp [restP], by rw [wtP_one]; exact Pc.wt_le _, Nat.le_refl _⟩
  case round =>
    obtain ⟨bs, L, A0⟩ := hrel
    clear HR2
    by_cases hL : L = []
    · subst hL
      obtain ⟨a2, cap2, t2, c2, hwb⟩ := A0.out.1.empty
      have HWB : Hid (WB wr w.heap.size (w.heap.size + 1) bs t2) := hwb
      have HBL : Hid (Below w.heap.size w wr) := A0.out.1.bel
      have HE : Hid (bs = x.str) := by show bs = x.str; have := A0.out.2.1; simpa [restP] using this
      clear hwb A0
      go_wp2_with fail
      refine (stringW w.heap.size (w.heap.size + 1) bs t2 wr HWB.out).mono ?_
      rintro e w3 ⟨rfl, hb3⟩
      go_wp2
      go_ret
      exact ⟨by rw [HE.out]; rfl, HBL.out.trans hb3⟩
    · obtain ⟨L', p, g, cap, rfl, hmn, c2, f2, hcl, hcm, hgl, hbl, q0, q1, hput⟩ := A0.out.1.pop hL
      have HP : Hid (∀ o, Wr w ((wr.setCell ⟨w.heap.size + 1, 2, none⟩ (.slice (some ⟨g, 0, none⟩) L'.length cap)).alloc o) (w.heap.size + 1) bs L') := hput
      have HMN : Hid (Means w p.mv p.ex) := hmn
      have hwl := length_le_wtP L'
      have hpw := p.wt_pos
      have hwtA : wtP (L' ++ [p]) = wtP L' + p.wt := by rw [wtP_append, wtP_one]
      have hres := A0.out.2.1
      rw [restP_snoc] at hres
      have hlenS : bs.length + (p.text.data.toList.length + p.ex.str.length) ≤ x.str.length := by
        have := congrArg List.length hres
        simp only [List.length_append] at this; omega
      have htl : p.text.data.toList.length = p.text.size := by simp
      have h3 := A0.out.2.2.1
      have h4 := A0.out.2.2.2
      have hn1 := HN.out.1
      have hn2 := HN.out.2
      unfold maxLen at hcm
      have hL1 : L'.length ≤ 824633720841 := by omega
      have hne1 : g ≠ w.heap.size + 1 := by
        intro e
        subst e
        obtain ⟨t', hw', ho', _⟩ := A0.out.1
        have e2 : t' = .slice (some ⟨w.heap.size + 1, 0, none⟩) (L'.length + 1) cap := by have := hw'.cell2.symm.trans c2; simpa using this
        obtain ⟨c', fz', hbk'⟩ := hw'.block
        refine own_ne ho' hbk' (by decide) ?_
        rw [e2]; rfl
      have hpn : p.wt ≤ 3 * p.ex.nodes := p.wt_le
      have HQ : Hid (bs.length + p.text.size ≤ 140737488355328 ∧ bs.length + p.text.size + p.ex.str.length + 1 ≤ 140737488355328) := ⟨by omega, by omega⟩
      have HLEN : Hid (p.mv ≠ .nil → L'.length + (p.ex.nodes + 2) ≤ 1099511627776) := by
        intro hnil
        have : p.wt = 3 * p.ex.nodes := by unfold Pc.wt; cases hmv : p.mv <;> simp_all
        omega
      have hmw : ∀ t', (Pc.mk t' p.mv p.ex).wt = p.wt := fun _ => rfl
      have ST : Aside ((bs ++ p.text.data.toList ++ p.ex.str) ++ restP L' = x.str ∧ wtP L' + p.wt ≤ gk ∧ gk ≤ 3 * x.nodes) := ⟨by rw [← hres]; simp, by omega, h4⟩
      have hvc := p.mv.val_cases
      clear hput hmn A0 hres hlenS htl h3 h4 hn1 hn2 hwl hpw hwtA hpn hL
      obtain ⟨tx, mv, ex⟩ := p
      simp only at q0 q1 hvc HMN HQ HLEN hmw ST
      generalize hv : mv.val = v at *
      have HW : Hid (∀ (W : World), Wr w W (w.heap.size + 1) (bs ++ tx.data.toList) L' → Calls Try.prog 48 #[.pointer (some ⟨w.heap.size + 1, 0, none⟩), v] W fun e w' => e = .returned (.tuple #[]) ∧ Wrote w w' (w.heap.size + 1) (bs ++ tx.data.toList) L' mv ex) := by
        intro W hW
        have := write_any w (w.heap.size + 1) (bs ++ tx.data.toList) L' mv ex W hW HMN.out (by have := HQ.out.2; rw [List.length_append]; simpa using this) HLEN.out
        rw [hv] at this
        exact this
      have n1 : w.heap.size + 1 ≠ wr.heap.size := by omega
      have n2 : g ≠ wr.heap.size := by omega
      have n3 : wr.heap.size ≠ w.heap.size + 1 := by omega
      clear HMN HLEN
      rcases hvc with rfl | ⟨ty, u, rfl⟩
      all_goals
        go_wp2_with fail
        refine (writeStringWr w (w.heap.size + 1) bs L' tx _ (HP.out _) HQ.out.1).mono ?_
        rintro e w3 ⟨rfl, R3, K3⟩
        have hk3 := K3 _ _ (heap_alloc_new _ _) (by simpa using n3) (fun c fz => by simp)
        simp only [World.size_setCell] at hk3
        have d0 : w3.cell? ⟨wr.heap.size, 0, none⟩ = some (.string tx) := by rw [Lib.cell_of_heap hk3]; rfl
        have d1 := Lib.cell_of_heap hk3 1
        simp only [List.getElem?_toArray, List.getElem?_cons_succ, List.getElem?_cons_zero] at d1
        have HR3 : Hid (Wr w w3 (w.heap.size + 1) (bs ++ tx.data.toList) L') := R3
        clear R3 K3 hk3 q0 q1 c2 f2
        go_wp2_with fail
        refine (HW.out w3 HR3.out).mono ?_
        rintro e w4 ⟨rfl, hd, L4, R4, E4, W4⟩
        have HR4 : Hid (Wr w w4 (w.heap.size + 1) (bs ++ tx.data.toList ++ hd) L4) := R4
        have ST4 : Aside ((bs ++ tx.data.toList ++ hd) ++ restP L4 = x.str ∧ wtP L4 ≤ gk - 1 ∧ gk - 1 ≤ 3 * x.nodes ∧ gk - 1 < gk) := by
          obtain ⟨s1, s2, s3⟩ := ST.out
          rw [hmw] at W4
          refine ⟨?_, by omega, by omega, by omega⟩
          rw [List.append_assoc, E4, ← s1]
          simp
        clear R4 E4 W4 ST HR3 hmw
        go_wp2
        go_roundg (gk - 1)
        case measure => exact ST4.out.2.2.2
        case rel => exact ⟨_, L4, HR4.out, ST4.out.1, ST4.out.2.1, ST4.out.2.2.1⟩
end Go.Proofs.Ytkbnafmkgiknbac
