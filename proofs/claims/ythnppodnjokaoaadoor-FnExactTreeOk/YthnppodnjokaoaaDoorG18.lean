/-
  Contracts and plain mathematics, joined: StartsB. No statement is proved here.
-/
import Derived.Test.YthnppodnjokaoaaDoorG9
import Derived.Test.YthnppodnjokaoaaDoorG11
import Derived.Test.YthnppodnjokaoaaDoorG5
namespace Go.Proofs.YthnppodnjokaoaaDoor
open Go.RowKit

/-- One symbol's step; one row's. -/
def stX (k n : Nat) (T : List Bool) : List Bool := joinB (T.set (k * 27 + n) true) (k * 27) (((T.set (k * 27 + n) true).drop (n * 27)).take 27)
def stB (E : List Bool) (k : Nat) : List Bool → List Int → List Bool
  | T, [] => T
  | T, x :: xs => if 100 ≤ x then (if E.getD (x - 100).toNat false then stB E k (stX k (x - 100).toNat T) xs else stX k (x - 100).toNat T) else T
theorem stX_length (k n : Nat) (T : List Bool) : (stX k n T).length = T.length := by rw [stX, joinB_length, List.length_set]
theorem stB_end {E T : List Bool} {k j : Nat} {R : List Int} (h : ¬ j < R.length) : stB E k T (R.drop j) = T := by rw [List.drop_eq_nil_of_le (by omega), stB]
theorem stB_letter {E T : List Bool} {k j : Nat} {R : List Int} (h : j < R.length) (g : R[j] ≤ 25) : stB E k T (R.drop j) = T := by rw [List.drop_eq_getElem_cons h, stB, if_neg (by omega)]
theorem stB_go {E T : List Bool} {k j n : Nat} {R : List Int} (h : j < R.length) (e : R[j] = 100 + (n : Int)) (g : E.getD n false = true) : stB E k T (R.drop j) = stB E k (stX k n T) (R.drop (j + 1)) := by
  have e2 : (R[j] - 100).toNat = n := by omega
  rw [List.drop_eq_getElem_cons h, stB, if_pos (by omega), e2, if_pos g]
theorem stB_stop {E T : List Bool} {k j n : Nat} {R : List Int} (h : j < R.length) (e : R[j] = 100 + (n : Int)) (g : E.getD n false = false) : stB E k T (R.drop j) = stX k n T := by
  have e2 : (R[j] - 100).toNat = n := by omega
  rw [List.drop_eq_getElem_cons h, stB, if_pos (by omega), e2, if_neg (by rw [g]; simp)]
theorem chunk_length {T : List Bool} {n : Nat} (h : T.length = 540) (hn : n < 20) : ((T.drop (n * 27)).take 27).length = 27 := by rw [List.length_take, List.length_drop]; omega

set_option maxHeartbeats 4000000 in
set_option maxRecDepth 100000 in
theorem startsStep_any (b bE : Nat) (tE : TypeId) (T E : List Bool) (k : Nat) (R : List Int) (a : Option Addr) (c : Nat) (w : World) (hB : Bits w b 148 T) (hT : T.length = 540) (hE : Bits w bE tE E) (hEl : 20 ≤ E.length) (hne : bE ≠ b) (hk : k < 20) (w0 : World) (hR : Reads w0 a R) (hw0 : Below w0.heap.size w0 w) (hb0 : w0.heap.size ≤ b) (hz : ∀ z ∈ R, (0 ≤ z ∧ z ≤ 25) ∨ (100 ≤ z ∧ z < 120)) (hrl : R.length ≤ 1048576) :
    Calls Tryd.prog 120 #[.pointer (some ⟨b, 0, none⟩), .int .i64 (k : Int), .slice a R.length c, .pointer (some ⟨bE, 0, none⟩)] w fun e w' => e = .returned (.tuple #[]) ∧ Bits w' b 148 (stB E k T R) ∧ w.grownBy w' (some b) := by
  have HZ : Hid (∀ z ∈ R, (0 ≤ z ∧ z ≤ 25) ∨ (100 ≤ z ∧ z < 120)) := hz
  have HR : Hid (∀ W : World, w.grownBy W (some b) → Reads W a R) := by
    intro W hW
    rcases hR with rfl | ⟨g, off, rfl, hlt, hc⟩
    · exact .inl rfl
    · have hgw := Nat.lt_of_lt_of_le hlt hw0.size
      refine .inr ⟨g, off, rfl, Nat.lt_of_lt_of_le hgw hW.size, fun i hi => ?_⟩
      have hgb : g ≠ b := by omega
      have := World.cell?_of_block (w := w) (w' := W) (a := ⟨g, off + i, none⟩) (hW.block g hgw (by intro h; cases h; exact hgb rfl))
      rw [this]; exact (hw0.cell (p := ⟨g, off + i, none⟩) hlt).trans (hc i hi)
  have HEE : Hid (∀ W : World, w.grownBy W (some b) → Bits W bE tE E) := fun W hW => hE.grown hW (by intro h; cases h; exact hne rfl)
  have hk0 : (0 : Int) ≤ (k : Int) := by omega
  have hk1 : (k : Int) < 20 := by omega
  clear hz hR hw0 hE
  go_enter Tryd.func120, Tryd.ntmps120
  go_wp2
  go_loopw [11] (fun s wr => ∃ (j : Nat) (Tj : List Bool), j ≤ R.length ∧ s = .int .i64 j ∧ Hid (stB E k Tj (R.drop j) = stB E k T R) ∧ Bits wr b 148 Tj ∧ Hid (Tj.length = 540) ∧ w.grownBy wr (some b)) (fun s _ => R.length - (intOf s).toNat)
  case atStart => exact ⟨0, T, Nat.zero_le _, rfl, by show _ = _; rw [List.drop_zero], hB, hT, World.grownBy.refl _ _⟩
  case round =>
    obtain ⟨j, Tj, hj, rfl, HJ0, hBj, HTl, hgj⟩ := hrel
    clear hB hT
    by_cases hlt : j < R.length
    · obtain ⟨g, off, rfl, hgl, hc⟩ := (HR.out wr hgj).at hlt
      have q1 := hc j hlt
      rw [List.getD_eq_getElem?_getD, List.getElem?_eq_getElem hlt, Option.getD_some] at q1
      have hzr := HZ.out _ (List.getElem_mem hlt)
      have HLt : Hid (R[j] ≤ 25 → stB E k Tj (R.drop j) = Tj) := fun h => stB_letter hlt h
      have HGo : Hid (∀ n : Nat, R[j] = 100 + (n : Int) → E.getD n false = true → stB E k Tj (R.drop j) = stB E k (stX k n Tj) (R.drop (j + 1))) := fun n h1 h2 => stB_go hlt h1 h2
      have HSt : Hid (∀ n : Nat, R[j] = 100 + (n : Int) → E.getD n false = false → stB E k Tj (R.drop j) = stX k n Tj) := fun n h1 h2 => stB_stop hlt h1 h2
      clear hc
      generalize R[j] = z at *
      by_cases hlet : z ≤ 25
      · have hin : inB z 0 25 = true := inB_true.2 (by omega)
        have HF : Hid (stB E k T R = Tj) := by show _ = _; rw [← HJ0.out]; exact HLt.out hlet
        have X : Hid (∀ W : World, Calls Tryd.prog 79 #[.int .i64 z] W fun e w' => e = .returned (.bool true) ∧ w' = W) := fun W => by have := isLetter_any z W; rwa [hin] at this
        clear hin HGo HSt HLt
        go_wp2_with (go_at_call 79; refine (X.out _).mono ?_; rintro e w' ⟨rfl, hw'⟩; have hw2 := hw'.symm; clear hw'; subst hw2)
        exact bodyPost_ret (results_none rfl _ _ _) rfl ⟨rfl, by rw [HF.out]; exact hBj, hgj⟩
      · have hin : inB z 0 25 = false := inB_false.2 (by omega)
        have X : Hid (∀ W : World, Calls Tryd.prog 79 #[.int .i64 z] W fun e w' => e = .returned (.bool false) ∧ w' = W) := fun W => by have := isLetter_any z W; rwa [hin] at this
        obtain ⟨n, hn⟩ : ∃ n : Nat, z = 100 + (n : Int) := ⟨(z - 100).toNat, by omega⟩
        subst hn
        have hn0 : (0 : Int) ≤ (n : Int) := by omega
        have hn1 : (n : Int) < 20 := by omega
        have hn2 : (n : Int) < 27 := by omega
        have q2 := hBj.cell (n := k * 27 + n) (by rw [HTl.out]; omega)
        have f2 := hBj.frozen (k * 27 + n)
        have hBs := hBj.set (k * 27 + n) true
        have hgs : w.grownBy (wr.setCell ⟨b, k * 27 + n, none⟩ (.bool true)) (some b) := grownBy_trans hgj (setCell_grown wr b _ _)
        have HT1 : Hid ((Tj.set (k * 27 + n) true).length = 540) := by show _ = _; rw [List.length_set]; exact HTl.out
        have HX2 : Hid (joinB (Tj.set (k * 27 + n) true) (k * 27) (((Tj.set (k * 27 + n) true).drop (n * 27)).take 27) = stX k n Tj) := rfl
        have HXl : Hid ((stX k n Tj).length = 540) := by show _ = _; rw [stX_length]; exact HTl.out
        generalize Tj.getD (k * 27 + n) false = y at *
        clear hin HLt hlet hzr
        generalize hT1e : Tj.set (k * 27 + n) true = T1 at *
        clear hT1e
        have HD : Hid (∀ W : World, Bits W b 148 T1 → Calls Tryd.prog 121 #[.pointer (some ⟨b, k * 27, none⟩), aggB ((T1.drop (n * 27)).take 27)] W fun e w' => e = .returned (.tuple #[]) ∧ Bits w' b 148 (stX k n Tj) ∧ W.grownBy w' (some b)) := fun W hW => by
          have := join_any b (k * 27) 148 T1 ((T1.drop (n * 27)).take 27) W hW (by rw [HT1.out]; omega) (chunk_length HT1.out (by omega))
          rwa [HX2.out] at this
        have HBS : Hid (Bits (wr.setCell ⟨b, k * 27 + n, none⟩ (.bool true)) b 148 T1) := hBs
        have HGS : Hid (w.grownBy (wr.setCell ⟨b, k * 27 + n, none⟩ (.bool true)) (some b)) := hgs
        clear hBs hgs hBj hgj HX2
        go_wp2_with (go_at_call 79; refine (X.out _).mono ?_; rintro e w' ⟨rfl, hw'⟩; have hw2 := hw'.symm; clear hw'; subst hw2)
        clear q2 f2 q1
        generalize wr.setCell ⟨b, k * 27 + n, none⟩ (.bool true) = ws at *
        have HBd : Hid (Bits ws.drew b 148 T1) := HBS.out.later (Below.drew (Below.refl _ _))
        have HJ : Hid (Calls Tryd.prog 121 #[.pointer (some ⟨b, k * 27, none⟩), aggB ((T1.drop (n * 27)).take 27)] ws.drew fun e w' => e = .returned (.tuple #[]) ∧ Bits w' b 148 (stX k n Tj) ∧ ws.drew.grownBy w' (some b)) := HD.out ws.drew HBd.out
        have HW : Hid (IntKind.i64.wrap (100 + (n : Int) - 100) = n) := by
          show _ = _
          rw [show (100 + (n : Int) - 100) = n by omega]
          first | exact IntKind.wrap_of_wf (by simp [Lit.wf]; omega) | (unfold IntKind.wrap; simp; omega) | (simp [IntKind.wrap, IntKind.bits]; omega) | (go_num)
        have hT1b : n * 27 + 27 ≤ T1.length := by rw [HT1.out]; omega
        refine wp_region_held_drew (S := fun _ => True) (by kernel_rfl) trivial (fun hHeld => ?_)
        refine take_atL (i := 0) (d := some 24) (v := .pointer (some ⟨b, 0, none⟩)) rfl rfl (by kernel_rfl) (by kernel_rfl) (by kernel_rfl) (fun _ _ _ h => h) (by rfl) ?_ hHeld ?_
        · intro w' _; go_simp; first | done | rfl | exact HW.out
        try simp only [Act.put, List.setIfInBounds_toArray, List.set_cons_zero, List.set_cons_succ]
        refine take_atL (i := 1) (d := some 25) (v := .int .i64 (k : Int)) rfl rfl (by kernel_rfl) (by kernel_rfl) (by kernel_rfl) (fun _ _ _ h => h) (by rfl) ?_ hHeld ?_
        · intro w' _; go_simp; first | done | rfl | exact HW.out
        try simp only [Act.put, List.setIfInBounds_toArray, List.set_cons_zero, List.set_cons_succ]
        refine take_atL (i := 2) (d := some 26) (v := .pointer (some ⟨b, 0, none⟩)) rfl rfl (by kernel_rfl) (by kernel_rfl) (by kernel_rfl) (fun _ _ _ h => h) (by rfl) ?_ hHeld ?_
        · intro w' _; go_simp; first | done | rfl | exact HW.out
        try simp only [Act.put, List.setIfInBounds_toArray, List.set_cons_zero, List.set_cons_succ]
        refine take_atL (i := 3) (d := some 27) (v := .pointer (some ⟨b, k * 27, none⟩)) rfl rfl (by kernel_rfl) (by kernel_rfl) (by kernel_rfl) (fun _ _ _ h => h) (by rfl) ?_ hHeld ?_
        · intro w' _; go_simp; first | done | rfl | exact HW.out
        try simp only [Act.put, List.setIfInBounds_toArray, List.set_cons_zero, List.set_cons_succ]
        refine take_atL (i := 4) (d := some 28) (v := .pointer (some ⟨b, 0, none⟩)) rfl rfl (by kernel_rfl) (by kernel_rfl) (by kernel_rfl) (fun _ _ _ h => h) (by rfl) ?_ hHeld ?_
        · intro w' _; go_simp; first | done | rfl | exact HW.out
        try simp only [Act.put, List.setIfInBounds_toArray, List.set_cons_zero, List.set_cons_succ]
        refine take_atL (i := 5) (d := some 29) (v := .int .i64 (100 + (n : Int))) rfl rfl (by kernel_rfl) (by kernel_rfl) (by kernel_rfl) (fun _ _ _ h => h) (by rfl) ?_ hHeld ?_
        · intro w' _; go_simp; first | done | rfl | exact HW.out
        try simp only [Act.put, List.setIfInBounds_toArray, List.set_cons_zero, List.set_cons_succ]
        refine take_atL (i := 6) (d := some 30) (v := .int .i64 (n : Int)) rfl rfl (by kernel_rfl) (by kernel_rfl) (by kernel_rfl) (fun _ _ _ h => h) (by rfl) ?_ hHeld ?_
        · intro w' _; go_simp; first | done | rfl | exact HW.out
        try simp only [Act.put, List.setIfInBounds_toArray, List.set_cons_zero, List.set_cons_succ]
        refine take_atL (i := 7) (d := some 31) (v := .pointer (some ⟨b, 0, none⟩)) rfl rfl (by kernel_rfl) (by kernel_rfl) (by kernel_rfl) (fun _ _ _ h => h) (by rfl) ?_ hHeld ?_
        · intro w' _; go_simp; first | done | rfl | exact HW.out
        try simp only [Act.put, List.setIfInBounds_toArray, List.set_cons_zero, List.set_cons_succ]
        refine take_atL (i := 8) (d := some 32) (v := .pointer (some ⟨b, n * 27, none⟩)) rfl rfl (by kernel_rfl) (by kernel_rfl) (by kernel_rfl) (fun _ _ _ h => h) (by rfl) ?_ hHeld ?_
        · intro w' _; go_simp; first | done | rfl | exact HW.out
        try simp only [Act.put, List.setIfInBounds_toArray, List.set_cons_zero, List.set_cons_succ]
        refine wpAnyH_ready (rs := [9]) (by kernel_rfl) (by simp) ?_
        refine AllReadyH.cons (o := _) rfl (fun K hK => ?_) AllReadyH.nil
        rw [if_pos (by rfl)]
        unfold Oper.wp
        rw [exec_loadB (t := 148) (b := b) (off := n * 27) (n := 27) (bs := T1) rfl rfl bt_flags HBd.out (by omega), Oper.upon_value]
        refine hK.out _ _ trivial (fun hHeld => ?_)
        clear hK K
        simp only [Act.put, List.setIfInBounds_toArray]
        refine wpAnyH_ready (rs := [10]) (by kernel_rfl) (by simp) ?_
        refine AllReadyH.cons (o := _) rfl (fun K hK => ?_) AllReadyH.nil
        rw [if_pos (by rfl)]
        go_simp
        refine (HJ.out).mono ?_
        rintro e w5 ⟨rfl, hB5, hg5⟩
        go_wp2_with fail
        refine hK.out _ _ trivial (fun hHeld => ?_)
        clear hK K
        try simp only [Act.put, List.setIfInBounds_toArray, List.set_cons_zero, List.set_cons_succ]
        refine wpAnyH_done (by kernel_rfl) ?_ _
        clear hHeld
        have hg6 : w.grownBy w5 (some b) := grownBy_trans HGS.out (grownBy_trans (grownBy_of_below (Below.drew (Below.refl _ _)) _) hg5)
        have q6 := (HEE.out w5 hg6).cell (n := n) (by omega)
        clear HBS HGS HBd HJ hg5 HD HT1 hT1b
        by_cases hup : E.getD n false = true
        · rw [hup] at q6
          have HF : Hid (stB E k (stX k n Tj) (R.drop (j + 1)) = stB E k T R) := by show _ = _; rw [← HGo.out n rfl hup]; exact HJ0.out
          clear HGo HSt hup HJ0
          go_wp2
          go_roundw
          case rel => exact ⟨j + 1, stX k n Tj, by omega, by go_num, HF, hB5, HXl, hg6⟩
          case measure => simp [intOf]; omega
        · have hdn : E.getD n false = false := by simpa using hup
          rw [hdn] at q6
          have HF : Hid (stX k n Tj = stB E k T R) := by show _ = _; rw [← HSt.out n rfl hdn]; exact HJ0.out
          clear HGo HSt hup hdn HJ0
          go_wp2
          exact bodyPost_ret (results_none rfl _ _ _) rfl ⟨rfl, by rw [← HF.out]; exact hB5, hg6⟩
    · have HF : Hid (stB E k T R = Tj) := by show _ = _; rw [← HJ0.out]; exact stB_end hlt
      go_wp2
      go_end0
      exact ⟨rfl, by rw [HF.out]; exact hBj, hgj⟩
end Go.Proofs.YthnppodnjokaoaaDoor
