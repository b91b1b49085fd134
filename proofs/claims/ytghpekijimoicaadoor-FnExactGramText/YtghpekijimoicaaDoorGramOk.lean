/-
  Contracts of impl.GramOk and what it calls over this translation. No statement is proved here.
-/
import Derived.Test.YtghpekijimoicaaDoorSpecGramOk
namespace Go.Proofs.YtghpekijimoicaaDoor
open Go.RowKit

theorem wf_i64 {z : Int} (h : (Lit.int .i64 z).wf = true) : -9223372036854775808 ≤ z ∧ z ≤ 9223372036854775807 := bounds_i64 h
theorem fit_ints {zs : List Int} (h : (Lay.list Lay.int).fit zs) : ∀ z ∈ zs, -9223372036854775808 ≤ z ∧ z ≤ 9223372036854775807 := fun z hz => wf_i64 (h.2 z hz)
theorem part_upto {n : Nat} {x : Int} : inB x 100 (100 + n - 1) = decide (100 ≤ x ∧ x - 100 < n) := by
  rw [Bool.eq_iff_iff]; simp [inB]; omega

theorem isLetter_any (x : Int) (w : World) : Calls Tryd.prog 80 #[.int .i64 x] w fun e w' => e = .returned (.bool (inB x 0 25)) ∧ w' = w := by
  by_cases h1 : 0 ≤ x
  · by_cases h2 : x ≤ 25
    · go_enter Tryd.func80, Tryd.ntmps80
      go_wp2
      go_ret
      exact ⟨ret_bool (by simp [inB, h1, h2]), rfl⟩
    · go_enter Tryd.func80, Tryd.ntmps80
      go_wp2
      go_ret
      exact ⟨ret_bool (by simp [inB, h1, h2]), rfl⟩
  · go_enter Tryd.func80, Tryd.ntmps80
    go_wp2
    go_ret
    exact ⟨ret_bool (by simp [inB]; omega), rfl⟩

theorem isPartOf_any (n : Nat) (a : Option Addr) (c : Nat) (x : Int) (w : World) (hx : x ≤ 9223372036854775807) (_ : n ≤ 1048576) :
    Calls Tryd.prog 100 #[.agg #[.slice a n c], .int .i64 x] w fun e w' => e = .returned (.bool (inB x 100 (100 + n - 1))) ∧ Below w.heap.size w w' := by
  have B := (Below.refl w.heap.size w).alloc (Nat.le_refl _) (.cells #[.slice a n c] 32)
  rw [part_upto]
  by_cases h1 : 100 ≤ x
  · by_cases h2 : x - 100 < n
    · go_enter Tryd.func100, Tryd.ntmps100
      go_wp2
      go_ret
      exact ⟨ret_bool (decide_eq_true ⟨h1, h2⟩).symm, B⟩
    · go_enter Tryd.func100, Tryd.ntmps100
      go_wp2
      go_ret
      exact ⟨ret_bool (decide_eq_false (fun h => by omega)).symm, B⟩
  · go_enter Tryd.func100, Tryd.ntmps100
    go_wp2
    go_ret
    exact ⟨ret_bool (by simp; intro h; omega), B⟩

set_option maxRecDepth 100000 in
theorem symbolsOf_any (n : Nat) (a : Option Addr) (c : Nat) (zs : List Int) (a1 : Option Addr) (c1 : Nat) (w : World) (h : Reads w a1 zs) (hn : n ≤ 1048576) (hl : zs.length ≤ 1048576) (hz : ∀ z ∈ zs, -9223372036854775808 ≤ z ∧ z ≤ 9223372036854775807) :
    Calls Tryd.prog 92 #[.agg #[.slice a n c], .slice a1 zs.length c1] w fun e w' => e = .returned (.bool (zs.all (symOk n))) ∧ Below w.heap.size w w' := by
  have HZ : Hid (∀ z ∈ zs, -9223372036854775808 ≤ z ∧ z ≤ 9223372036854775807) := hz
  have B0 := (Below.refl w.heap.size w).alloc (Nat.le_refl _) (.cells #[.slice a n c] 32)
  have q0 : (w.alloc (.cells #[.slice a n c] 32)).cell? ⟨w.heap.size, 0, none⟩ = some (.slice a n c) := by simp
  clear hz
  go_enter Tryd.func92, Tryd.ntmps92
  go_wp2
  go_loopw [9] (fun s9 wr => ∃ k : Nat, k ≤ zs.length ∧ s9 = .int .i64 k ∧ Hid ((zs.take k).all (symOk n) = true) ∧ Below w.heap.size w wr ∧ wr.cell? ⟨w.heap.size, 0, none⟩ = some (.slice a n c)) (fun s9 _ => zs.length - (intOf s9).toNat)
  case atStart => exact ⟨0, Nat.zero_le _, rfl, by show _ = _; simp, B0, q0⟩
  case round =>
    obtain ⟨k, hk, rfl, HK, hbel, qk⟩ := hrel
    clear q0 B0
    have hwl : w.heap.size < wr.heap.size := World.block_lt_of_cell? wr _ qk
    by_cases hlt : k < zs.length
    · obtain ⟨b, off, rfl, hb, hc⟩ := (h.below hbel).at hlt
      have q1 := hc k hlt
      rw [List.getD_eq_getElem?_getD, List.getElem?_eq_getElem hlt, Option.getD_some] at q1
      have hr := (HZ.out zs[k] (List.getElem_mem hlt)).2
      have HS : Hid (symOk n zs[k] = true → (zs.take (k + 1)).all (symOk n) = true) := fun g => all_step HK.out hlt g
      have HN : Hid (symOk n zs[k] = false → zs.all (symOk n) = false) := fun g => all_no hlt g
      clear hc h HK
      generalize zs[k] = z at *
      by_cases z1 : inB z 0 25 = true
      · go_wp2_with (go_at_call 80; refine (isLetter_any _ _).mono ?_; rintro e w' ⟨rfl, rfl⟩)
        go_roundw
        case rel => exact ⟨k + 1, by omega, by go_num, HS.out (by simp [symOk, z1]), hbel, qk⟩
        case measure => simp [intOf]; omega
      · have z1' : inB z 0 25 = false := by simpa using z1
        clear z1
        by_cases z2 : inB z 100 (100 + n - 1) = true
        · go_wp2_with (first | (go_at_call 80; refine (isLetter_any _ _).mono ?_; rintro e w' ⟨rfl, rfl⟩) | (go_at_call 100; refine (isPartOf_any n a c _ _ hr hn).mono ?_; rintro e w1 ⟨rfl, hb1⟩))
          go_roundw
          case rel => exact ⟨k + 1, by omega, by go_num, HS.out (by simp [symOk, z2]), hbel.trans (hb1.mono hbel.size), (hb1.cell (p := ⟨w.heap.size, 0, none⟩) hwl).trans qk⟩
          case measure => simp [intOf]; omega
        · have z2' : inB z 100 (100 + n - 1) = false := by simpa using z2
          clear z2
          go_wp2_with (first | (go_at_call 80; refine (isLetter_any _ _).mono ?_; rintro e w' ⟨rfl, rfl⟩) | (go_at_call 100; refine (isPartOf_any n a c _ _ hr hn).mono ?_; rintro e w1 ⟨rfl, hb1⟩))
          go_ret
          exact ⟨ret_bool (by rw [HN.out (by simp [symOk, z1', z2'])]), hbel.trans (hb1.mono hbel.size)⟩
    · have HE : Hid (zs.all (symOk n) = true) := all_end HK.out hlt
      clear h HK
      go_wp2
      go_ret
      exact ⟨ret_bool (by rw [HE.out]), hbel⟩

set_option maxRecDepth 100000 in
theorem altsOk_any (n : Nat) (a : Option Addr) (c : Nat) (Q : List (List Int)) (a1 : Option Addr) (c1 : Nat) (w : World) (h : RD w (.slice a1 Q.length c1) (slD (Lay.list Lay.int) Q)) (hn : n ≤ 1048576) (hl : (Lay.list (Lay.list Lay.int)).wt Q ≤ 1048576) (hf : (Lay.list (Lay.list Lay.int)).fit Q) :
    Calls Tryd.prog 74 #[.agg #[.slice a n c], .slice a1 Q.length c1] w fun e w' => e = .returned (.bool (partOk n Q)) ∧ Below w.heap.size w w' := by
  have HF : Hid ((Lay.list (Lay.list Lay.int)).fit Q) := hf
  have HL : Hid (∀ row ∈ Q, row.length ≤ 1048576) := by
    intro row hrow
    obtain ⟨i, hi, rfl⟩ := List.getElem_of_mem hrow
    have := Lay.sumL_at (Lay.list Lay.int) hi
    rw [Lay.wt_list] at hl
    rw [Lay.wt_ints] at this
    omega
  rw [Lay.wt_list] at hl
  have hq : Q.length ≤ 1048576 := by omega
  clear hf hl
  by_cases hbig : inB Q.length 1 8 = true
  · have hb2 := inB_true.1 hbig
    have B0 := (Below.refl w.heap.size w).alloc (Nat.le_refl _) (.cells #[.slice a n c] 32)
    have q0 : (w.alloc (.cells #[.slice a n c] 32)).cell? ⟨w.heap.size, 0, none⟩ = some (.slice a n c) := by simp
    go_enter Tryd.func74, Tryd.ntmps74
    go_wp2
    go_loopw [17] (fun s wr => ∃ k : Nat, k ≤ Q.length ∧ s = .int .i64 k ∧ Hid ((Q.take k).all (rowOk n) = true) ∧ Below w.heap.size w wr ∧ wr.cell? ⟨w.heap.size, 0, none⟩ = some (.slice a n c)) (fun s _ => Q.length - (intOf s).toNat)
    case atStart => exact ⟨0, Nat.zero_le _, rfl, by show _ = _; simp, B0, q0⟩
    case round =>
      obtain ⟨k, hk, rfl, HK, hbel, qk⟩ := hrel
      clear q0 B0
      have hwl : w.heap.size < wr.heap.size := World.block_lt_of_cell? wr _ qk
      by_cases hlt : k < Q.length
      · obtain ⟨b, off, rfl, hb, a2, c2, q1, r2⟩ := (h.later hbel).listAt hlt
        have hrl := HL.out Q[k] (List.getElem_mem hlt)
        have HS : Hid (rowOk n Q[k] = true → (Q.take (k + 1)).all (rowOk n) = true) := fun g => all_step HK.out hlt g
        have HN : Hid (rowOk n Q[k] = false → partOk n Q = false) := fun g => partOk_no (all_no hlt g)
        have X : Hid (Calls Tryd.prog 92 #[.agg #[.slice a n c], .slice a2 Q[k].length c2] wr fun e w' => e = .returned (.bool (Q[k].all (symOk n))) ∧ Below wr.heap.size wr w') :=
          symbolsOf_any n a c Q[k] a2 c2 wr r2.reads hn hrl (fit_ints (HF.out.2 _ (List.getElem_mem hlt)))
        clear h r2 HK
        generalize Q[k] = R at *
        by_cases hr : R.length ≤ 8
        · by_cases hs : R.all (symOk n) = true
          · rw [hs] at X
            go_wp2_with (go_at_call 92; refine X.out.mono ?_; rintro e w1 ⟨rfl, hb1⟩)
            go_roundw
            case rel => exact ⟨k + 1, by omega, by go_num, HS.out (rowOk_yes hr hs), hbel.trans (hb1.mono hbel.size), (hb1.cell (p := ⟨w.heap.size, 0, none⟩) hwl).trans qk⟩
            case measure => simp [intOf]; omega
          · have hs' : R.all (symOk n) = false := by simpa using hs
            rw [hs'] at X
            clear hs
            go_wp2_with (go_at_call 92; refine X.out.mono ?_; rintro e w1 ⟨rfl, hb1⟩)
            go_ret
            exact ⟨ret_bool (by rw [HN.out (rowOk_no hs')]), hbel.trans (hb1.mono hbel.size)⟩
        · clear X
          go_wp2
          go_ret
          exact ⟨ret_bool (by rw [HN.out (rowOk_long hr)]), hbel⟩
      · have HE : Hid (Q.all (rowOk n) = true) := all_end HK.out hlt
        clear h HK
        go_wp2
        go_ret
        exact ⟨ret_bool (by rw [partOk_yes hbig HE.out]), hbel⟩
  · have hb2 : inB Q.length 1 8 = false := by simpa using hbig
    have hb3 := inB_false.1 hb2
    have B0 := (Below.refl w.heap.size w).alloc (Nat.le_refl _) (.cells #[.slice a n c] 32)
    clear hbig
    by_cases h1 : 1 ≤ Q.length
    · have h2 : 8 < Q.length := by omega
      go_enter Tryd.func74, Tryd.ntmps74
      go_wp2
      go_ret
      exact ⟨ret_bool (by rw [partOk_many hb2]), B0⟩
    · go_enter Tryd.func74, Tryd.ntmps74
      go_wp2
      go_ret
      exact ⟨ret_bool (by rw [partOk_many hb2]), B0⟩

set_option maxRecDepth 100000 in
theorem gramOk_any (x : Gm) (a0 : Option Addr) (c0 : Nat) (w : World) (h0 : RD w (.slice a0 x.parts.length c0) (slD (Lay.list (Lay.list Lay.int)) x.parts)) (hn : Lay.gram.wt x ≤ 1048576) (hf : Lay.gram.fit x) :
    Calls Tryd.prog 46 #[.agg #[.slice a0 x.parts.length c0]] w fun e w' => e = .returned (.bool (resGramOk x)) ∧ Below w.heap.size w w' := by
  unfold resGramOk
  rw [Lay_gram_wt, Lay.wt_list] at hn
  rw [Lay_gram_fit] at hf
  have h := h0
  have HF : Hid ((Lay.list (Lay.list (Lay.list Lay.int))).fit x.parts) := hf
  have hnl : x.parts.length ≤ 1048576 := by omega
  have HL : Hid (∀ alts ∈ x.parts, (Lay.list (Lay.list Lay.int)).wt alts ≤ 1048576) := by
    intro alts hal
    obtain ⟨i, hi, rfl⟩ := List.getElem_of_mem hal
    have := Lay.sumL_at (Lay.list (Lay.list Lay.int)) hi
    omega
  clear h0 hn hf
  generalize x.parts = P at *
  have B0 := (Below.refl w.heap.size w).alloc (Nat.le_refl _) (.cells #[.slice a0 P.length c0] 32)
  by_cases hbig : inB P.length 1 20 = true
  · have hb2 := inB_true.1 hbig
    have q0 : (w.alloc (.cells #[.slice a0 P.length c0] 32)).cell? ⟨w.heap.size, 0, none⟩ = some (.slice a0 P.length c0) := by simp
    go_enter Tryd.func46, Tryd.ntmps46
    go_wp2
    go_loopw [18] (fun s wr => ∃ k : Nat, k ≤ P.length ∧ s = .int .i64 k ∧ Hid ((P.take k).all (partOk P.length) = true) ∧ Below w.heap.size w wr ∧ wr.cell? ⟨w.heap.size, 0, none⟩ = some (.slice a0 P.length c0)) (fun s _ => P.length - (intOf s).toNat)
    case atStart => exact ⟨0, Nat.zero_le _, rfl, by show _ = _; simp, B0, q0⟩
    case round =>
      obtain ⟨k, hk, rfl, HK, hbel, qk⟩ := hrel
      clear q0 B0
      have hwl : w.heap.size < wr.heap.size := World.block_lt_of_cell? wr _ qk
      by_cases hlt : k < P.length
      · obtain ⟨b, off, rfl, hb, a2, c2, q1, r2⟩ := (h.later hbel).listAt hlt
        have HS : Hid (partOk P.length P[k] = true → (P.take (k + 1)).all (partOk P.length) = true) := fun g => all_step HK.out hlt g
        have HN : Hid (partOk P.length P[k] = false → gramOkB P = false) := fun g => gramOkB_no (all_no hlt g)
        have X : Hid (Calls Tryd.prog 74 #[.agg #[.slice (some ⟨b, off, none⟩) P.length c0], .slice a2 P[k].length c2] wr fun e w' => e = .returned (.bool (partOk P.length P[k])) ∧ Below wr.heap.size wr w') :=
          altsOk_any P.length _ c0 P[k] a2 c2 wr r2 hnl (HL.out _ (List.getElem_mem hlt)) (HF.out.2 _ (List.getElem_mem hlt))
        clear h r2 HK
        generalize P[k] = R at *
        by_cases hs : partOk P.length R = true
        · rw [hs] at X
          go_wp2_with (go_at_call 74; refine X.out.mono ?_; rintro e w1 ⟨rfl, hb1⟩)
          go_roundw
          case rel => exact ⟨k + 1, by omega, by go_num, HS.out hs, hbel.trans (hb1.mono hbel.size), (hb1.cell (p := ⟨w.heap.size, 0, none⟩) hwl).trans qk⟩
          case measure => simp [intOf]; omega
        · have hs' : partOk P.length R = false := by simpa using hs
          rw [hs'] at X
          clear hs
          go_wp2_with (go_at_call 74; refine X.out.mono ?_; rintro e w1 ⟨rfl, hb1⟩)
          go_ret
          exact ⟨ret_bool (by rw [HN.out hs']), hbel.trans (hb1.mono hbel.size)⟩
      · have HE : Hid (P.all (partOk P.length) = true) := all_end HK.out hlt
        clear h HK
        go_wp2
        go_ret
        exact ⟨ret_bool (by rw [gramOkB_yes hbig HE.out]), hbel⟩
  · have hb2 : inB P.length 1 20 = false := by simpa using hbig
    have hb3 := inB_false.1 hb2
    clear hbig
    by_cases h1 : 1 ≤ P.length
    · have h2 : 20 < P.length := by omega
      go_enter Tryd.func46, Tryd.ntmps46
      go_wp2
      go_ret
      exact ⟨ret_bool (by rw [gramOkB_many hb2]), B0⟩
    · go_enter Tryd.func46, Tryd.ntmps46
      go_wp2
      go_ret
      exact ⟨ret_bool (by rw [gramOkB_many hb2]), B0⟩
end Go.Proofs.YtghpekijimoicaaDoor
