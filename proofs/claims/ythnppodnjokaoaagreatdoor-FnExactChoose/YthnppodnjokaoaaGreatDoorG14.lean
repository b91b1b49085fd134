/-
  Contracts and plain mathematics, joined: HGram, SpecGramOk, GramOk, InputOk, SpecInputOk. No statement is proved here.
-/
import Derived.Test.YthnppodnjokaoaaGreatDoorG6
import Derived.Test.YthnppodnjokaoaaGreatDoorG10
import Derived.Deep.RegionWith
import Derived.Test.YthnppodnjokaoaaGreatDoorG4
namespace Go.Proofs.YthnppodnjokaoaaGreatDoor
open Go.RowKit

/-- As the program has it. -/
structure Gm where
  parts : (List (List (List Int)))
def Lay.gram : Lay Gm := { cells := fun x => [slD (Lay.list (Lay.list Lay.int)) x.parts], sz := 1, len := fun _ => rfl, pos := by decide, wt := fun x => (Lay.list (Lay.list (Lay.list Lay.int))).wt x.parts, fit := fun x => (Lay.list (Lay.list (Lay.list Lay.int))).fit x.parts }
theorem Lay_gram_wt (x : Gm) : Lay.gram.wt x = (Lay.list (Lay.list (Lay.list Lay.int))).wt x.parts := rfl
theorem Lay_gram_fit (x : Gm) : Lay.gram.fit x = ((Lay.list (Lay.list (Lay.list Lay.int))).fit x.parts) := rfl

section
variable {H : Type} {enc : TypeId × Value → H} {P : Program} {w : World} {base : Nat} {spare : Nat → Bool} {held : Bool}
theorem Opens.gram {t : TypeId} {f0 : Field} (hu : P.underlying t = some (.struct #[f0])) (o0 : f0.offset = 0) (s0 : P.cellsOf f0.type = 1) (h0 : Opens enc P w base spare held f0.type (Lay.list (Lay.list (Lay.list Lay.int)))) (hc : P.cellsOf t = 1) : Opens enc P w base spare held t Lay.gram := by
  intro n cs y h
  obtain ⟨xs, m, _, _, hl, hlen, hf⟩ := DataW.trod_struct hu h
  rw [hc] at hl
  match xs, hlen, cs, hl with
  | [y0], _, [v0], _ =>
    have g0 := hf 0 f0 rfl
    rw [o0, s0] at g0
    obtain ⟨z0, fit0, _, r0⟩ := h0 m _ y0 (by simpa using g0)
    refine ⟨⟨z0⟩, fit0, rfl, fun j hj hj' => ?_⟩
    match j, hj with
    | 0, _ => exact r0 0 (by simp) (by rw [(Lay.list (Lay.list (Lay.list Lay.int))).len]; decide)
end

theorem eqGram_l (x : Gm) (a0 b0 : Option Addr) (c0 d0 : Nat) (w : World) (h0 : RD w (.slice a0 x.parts.length c0) (slD (Lay.list (Lay.list Lay.int)) x.parts)) (g0 : RD w (.slice b0 x.parts.length d0) (slD (Lay.list (Lay.list Lay.int)) x.parts)) (hn : Lay.gram.wt x ≤ 4194304) :
    Calls Tryz.prog 9 #[.agg #[.slice a0 x.parts.length c0], .agg #[.slice b0 x.parts.length d0]] w fun e w' => e = .returned (.bool true) ∧ Below w.heap.size w w' := by
  rw [Lay_gram_wt] at hn
  have B := ((Below.refl w.heap.size w).alloc (Nat.le_refl _) (.cells #[.slice a0 x.parts.length c0] 29)).alloc (by simp) (.cells #[.slice b0 x.parts.length d0] 29)
  have X : Hid (∀ W : World, Below w.heap.size w W → Calls Tryz.prog 18 #[.slice a0 x.parts.length c0, .slice b0 x.parts.length d0] W fun e w' => e = .returned (.bool true) ∧ Below W.heap.size W w') :=
    fun W hW => eqIntSSS_l x.parts a0 b0 c0 d0 W (h0.later hW) (g0.later hW) hn
  clear h0 g0 hn
  generalize x.parts = y at *
  go_enter Tryz.func9, Tryz.ntmps9
  go_wp2_with fail
  refine (X.out _ B).mono ?_
  rintro e w1 ⟨rfl, hb⟩
  go_wp2
  go_ret
  exact ⟨rfl, B.trans (hb.mono B.size)⟩

set_option maxRecDepth 100000 in
theorem szGram_l (x : Gm) (a0 : Option Addr) (c0 : Nat) (l : Int) (w : World) (h0 : RD w (.slice a0 x.parts.length c0) (slD (Lay.list (Lay.list Lay.int)) x.parts)) (hf : Lay.gram.fit x) (hl0 : 0 ≤ l) (hl1 : l ≤ 1048576) :
    Calls Tryz.prog 4 #[.agg #[.slice a0 x.parts.length c0], .int .i64 l] w fun e w' => ∃ r, e = .returned (.int .i64 r) ∧ SzE (Lay.gram.wt x) l r ∧ Below w.heap.size w w' := by
  rw [Lay_gram_wt]
  rw [Lay_gram_fit] at hf
  have B := (Below.refl w.heap.size w).alloc (Nat.le_refl _) (.cells #[.slice a0 x.parts.length c0] 24)
  have X : Hid (∀ W : World, Below w.heap.size w W → Calls Tryz.prog 11 #[.slice a0 x.parts.length c0, .int .i64 l] W fun e w' => ∃ r, e = .returned (.int .i64 r) ∧ SzE ((Lay.list (Lay.list (Lay.list Lay.int))).wt x.parts) l r ∧ Below W.heap.size W w') :=
    fun W hW => szIntSSS_l x.parts a0 c0 l W (h0.later hW) hf hl0 hl1
  clear h0 hf
  generalize (Lay.list (Lay.list (Lay.list Lay.int))).wt x.parts = wk at *
  generalize x.parts = y at *
  go_enter Tryz.func4, Tryz.ntmps4
  go_wp2_with fail
  refine (X.out _ B).mono ?_
  rintro e w1 ⟨r, rfl, hr, hb⟩
  have B1 := B.trans (hb.mono B.size)
  clear X
  rcases hr with rfl | ⟨hr0, hr1⟩
  · go_wp2
    go_ret
    exact ⟨_, rfl, .inl rfl, B1⟩
  · have HR : Hid (r = l - wk) := hr1
    clear hr1
    go_wp2
    go_ret
    exact ⟨_, rfl, .inr ⟨hr0, HR.out⟩, B1⟩

set_option maxRecDepth 100000 in
theorem toGram_l (x : Gm) (a0 : Option Addr) (c0 : Nat) (w : World) (h0 : RD w (.slice a0 x.parts.length c0) (slD (Lay.list (Lay.list Lay.int)) x.parts)) (hn : Lay.gram.wt x ≤ 1048576) :
    Calls Tryz.prog 6 #[.agg #[.slice a0 x.parts.length c0]] w fun e w' => ∃ a1 c1 S, e = .returned (.agg #[.slice a1 x.parts.length c1]) ∧ Cells w' w.heap.size [.slice a1 x.parts.length c1] (Lay.gram.cells x) S ∧ Below w.heap.size w w' := by
  show Calls _ _ _ _ fun e w' => ∃ a1 c1 S, e = .returned (.agg #[.slice a1 x.parts.length c1]) ∧ Cells w' w.heap.size [.slice a1 x.parts.length c1] [slD (Lay.list (Lay.list Lay.int)) x.parts] S ∧ Below w.heap.size w w'
  rw [Lay_gram_wt] at hn
  have X : Hid (∀ W : World, Below w.heap.size w W → Calls Tryz.prog 15 #[.slice a0 x.parts.length c0] W fun e w' => ∃ v S, e = .returned v ∧ OD w' W.heap.size v (slD (Lay.list (Lay.list Lay.int)) x.parts) S ∧ Below W.heap.size W w') :=
    fun W hW => toIntSSS_l x.parts a0 c0 W (h0.later hW) hn
  clear h0 hn
  generalize x.parts = y at *
  have B : Below w.heap.size w (((w.alloc (.cells #[.slice a0 y.length c0] 24)).alloc (.cells #[.slice none 0 0] 29)).alloc (.cells #[.slice none 0 0] 29)) :=
    (((Below.refl _ _).alloc (Nat.le_refl _) _).alloc (by simp) _).alloc (by simp; omega) _
  go_enter Tryz.func6, Tryz.ntmps6
  go_wp2_with fail
  refine (X.out _ B).mono ?_
  rintro e w1 ⟨v, S, rfl, O1, hb1⟩
  obtain ⟨hc, hf⟩ := bcellH hb1
  have hz := hb1.size
  simp only [World.size_alloc] at hc hf hz
  have B1 := B.trans (hb1.mono B.size)
  obtain ⟨a1, c1, rfl, _⟩ := OD.shapeL O1
  clear X B hb1
  go_wp2
  refine bodyPost_ret (v := .agg #[.slice a1 y.length c1]) (by simp [results, Tryz.results6, go_sem, hc]) rfl ⟨a1, c1, S, rfl, ?_, ?_⟩
  · have hW : Within w1 ((w1.setCell ⟨w.heap.size + 1 + 1, 0, none⟩ (.slice a1 y.length c1)).setCell ⟨w.heap.size + 1, 0, none⟩ (.slice a1 y.length c1)) (fun k => k < w.heap.size + 1 + 1 + 1) :=
      ((Within.refl _ _).setCell _ _ (by simp)).setCell _ _ (by simp)
    refine Cells.last [] ((O1.kept hW (fun k hk hk2 => ?_)).base (by simp; omega))
    have := (O1.lt k hk).1
    simp at this
    omega
  · exact (B1.setCell (p := ⟨w.heap.size + 1 + 1, 0, none⟩) (by simp; omega) _).setCell (p := ⟨w.heap.size + 1, 0, none⟩) (by simp) _

end Go.Proofs.YthnppodnjokaoaaGreatDoor
namespace Go.Proofs.YthnppodnjokaoaaGreatDoor
open Go.RowKit

/-- What GramOk answers. -/
def resGramOk (x : Gm) : Bool := gramOkB x.parts

set_option maxHeartbeats 1000000 in
set_option maxRecDepth 100000 in
theorem specGramOk_any (x : Gm) (a0 : Option Addr) (c0 : Nat) (w : World) (h0 : RD w (.slice a0 x.parts.length c0) (slD (Lay.list (Lay.list Lay.int)) x.parts)) (hn : Lay.gram.wt x ≤ 1048576) (_ : Lay.gram.fit x) :
    Calls Tryz.prog 46 #[.agg #[.slice a0 x.parts.length c0]] w fun e w' => e = .returned (.bool (resGramOk x)) ∧ Below w.heap.size w w' := by
  unfold resGramOk
  rw [Lay_gram_wt, Lay.wt_list] at hn
  have B := (Below.refl w.heap.size w).alloc (Nat.le_refl _) (.cells #[.slice a0 x.parts.length c0] 29)
  have HR : Hid (RD (w.alloc (.cells #[.slice a0 x.parts.length c0] 29)) (.slice a0 x.parts.length c0) (slD (Lay.list (Lay.list Lay.int)) x.parts)) := h0.later B
  clear h0
  generalize x.parts = P at *
  by_cases hbig : inB P.length 1 20 = true
  · have hb2 := inB_true.1 hbig
    go_enter Tryz.func46, Tryz.ntmps46
    go_wp2_with (first | (go_at_call 21; refine (l1In_any _ _ _ _).mono ?_; rintro e w' ⟨rfl, rfl⟩))
    go_loop [4] (fun s4 => ∃ k : Nat, k ≤ P.length ∧ s4 = .int .i64 k ∧ Hid ((P.take k).all (partOk P.length) = true)) (fun s4 => P.length - (intOf s4).toNat)
    case atStart => exact ⟨0, Nat.zero_le _, rfl, by show _ = _; simp⟩
    case round =>
      obtain ⟨k, hk, rfl, HK⟩ := hrel
      by_cases hlt : k < P.length
      · obtain ⟨b1, o1, rfl, hb1, a1, c1, q0, r1⟩ := HR.out.listAt hlt
        have HR1 : Hid (RD (w.alloc (.cells #[.slice (some ⟨b1, o1, none⟩) P.length c0] 29)) (.slice a1 P[k].length c1) (slD (Lay.list Lay.int) P[k])) := r1
        have hw1 : P[k].length ≤ 4194304 := by have := Lay.sumL_at (Lay.list (Lay.list Lay.int)) hlt; rw [Lay.wt_list] at this; omega
        have HKs : Hid (partOk P.length P[k] = true → (P.take (k + 1)).all (partOk P.length) = true) := fun g => all_step HK.out hlt g
        have HKn : Hid (partOk P.length P[k] = false → gramOkB P = false) := fun g => gramOkB_no (all_no hlt g)
        clear r1 HR HK
        generalize P[k] = Q at *
        by_cases hq : inB Q.length 1 8 = true
        · have hq2 := inB_true.1 hq
          go_wp2_with (first | (go_at_call 21; refine (l1In_any _ _ _ _).mono ?_; rintro e w' ⟨rfl, rfl⟩))
          go_loop [5] (fun s5 => ∃ i : Nat, i ≤ Q.length ∧ s5 = .int .i64 i ∧ Hid ((Q.take i).all (rowOk P.length) = true)) (fun s5 => Q.length - (intOf s5).toNat)
          case atStart => exact ⟨0, Nat.zero_le _, rfl, by show _ = _; simp⟩
          case round =>
            obtain ⟨i, hi, rfl, HI⟩ := hrel
            by_cases hlt2 : i < Q.length
            · obtain ⟨b2, o2, rfl, hb2', a2, c2, q1, r2⟩ := HR1.out.listAt hlt2
              have R2 : Hid (Reads (w.alloc (.cells #[.slice (some ⟨b1, o1, none⟩) P.length c0] 29)) a2 Q[i]) := r2.reads
              have HIs : Hid (rowOk P.length Q[i] = true → (Q.take (i + 1)).all (rowOk P.length) = true) := fun g => all_step HI.out hlt2 g
              have HIn : Hid (rowOk P.length Q[i] = false → gramOkB P = false) := fun g => HKn.out (partOk_no (all_no hlt2 g))
              clear r2 HR1 HI
              generalize Q[i] = R at *
              by_cases hr : R.length ≤ 8
              · go_wp2
                go_loop [7] (fun s7 => ∃ j : Nat, j ≤ R.length ∧ s7 = .int .i64 j ∧ Hid ((R.take j).all (symOk P.length) = true)) (fun s7 => R.length - (intOf s7).toNat)
                case atStart => exact ⟨0, Nat.zero_le _, rfl, by show _ = _; simp⟩
                case round =>
                  obtain ⟨j, hj, rfl, HJ⟩ := hrel
                  by_cases hlt3 : j < R.length
                  · obtain ⟨b3, o3, rfl, hb3, q2'⟩ := R2.out.at hlt3
                    have q2 := q2' j hlt3
                    rw [List.getD_eq_getElem?_getD, List.getElem?_eq_getElem hlt3, Option.getD_some] at q2
                    have HJs : Hid (symOk P.length R[j] = true → (R.take (j + 1)).all (symOk P.length) = true) := fun g => all_step HJ.out hlt3 g
                    have HJn : Hid (symOk P.length R[j] = false → gramOkB P = false) := fun g => HIn.out (rowOk_no (all_no hlt3 g))
                    clear q2' R2 HJ
                    generalize R[j] = z at *
                    by_cases z1 : inB z 0 25 = true
                    · go_wp2_with (first | (go_at_call 21; refine (l1In_any _ _ _ _).mono ?_; rintro e w' ⟨rfl, rfl⟩))
                      go_round
                      case rel => exact ⟨j + 1, by omega, by go_num, HJs.out (by simp [symOk, z1])⟩
                      case measure => simp [intOf]; omega
                    · have z1' : inB z 0 25 = false := by simpa using z1
                      clear z1
                      by_cases z2 : inB z 100 (100 + P.length - 1) = true
                      · go_wp2_with (first | (go_at_call 21; refine (l1In_any _ _ _ _).mono ?_; rintro e w' ⟨rfl, rfl⟩))
                        go_round
                        case rel => exact ⟨j + 1, by omega, by go_num, HJs.out (by simp [symOk, z2])⟩
                        case measure => simp [intOf]; omega
                      · have z2' : inB z 100 (100 + P.length - 1) = false := by simpa using z2
                        clear z2
                        go_wp2_with (first | (go_at_call 21; refine (l1In_any _ _ _ _).mono ?_; rintro e w' ⟨rfl, rfl⟩))
                        go_ret
                        exact ⟨ret_bool (by rw [HJn.out (by simp [symOk, z1', z2'])]), B⟩
                  · have HE : Hid (R.all (symOk P.length) = true) := all_end HJ.out hlt3
                    clear R2 HJ
                    go_wp2
                    go_round
                    case rel => exact ⟨i + 1, by omega, by go_num, HIs.out (rowOk_yes hr HE.out)⟩
                    case measure => simp [intOf]; omega
              · go_wp2
                go_ret
                exact ⟨ret_bool (by rw [HIn.out (rowOk_long hr)]), B⟩
            · have HE : Hid (Q.all (rowOk P.length) = true) := all_end HI.out hlt2
              clear HR1 HI
              go_wp2
              go_round
              case rel => exact ⟨k + 1, by omega, by go_num, HKs.out (partOk_yes hq HE.out)⟩
              case measure => simp [intOf]; omega
        · have hq2 : inB Q.length 1 8 = false := by simpa using hq
          clear hq
          go_wp2_with (first | (go_at_call 21; refine (l1In_any _ _ _ _).mono ?_; rintro e w' ⟨rfl, rfl⟩))
          go_ret
          exact ⟨ret_bool (by rw [HKn.out (partOk_many hq2)]), B⟩
      · have HE : Hid (P.all (partOk P.length) = true) := all_end HK.out hlt
        clear HR HK
        go_wp2
        go_ret
        exact ⟨ret_bool (by rw [gramOkB_yes hbig HE.out]), B⟩
  · have hb2 : inB P.length 1 20 = false := by simpa using hbig
    clear hbig
    go_enter Tryz.func46, Tryz.ntmps46
    go_wp2_with (first | (go_at_call 21; refine (l1In_any _ _ _ _).mono ?_; rintro e w' ⟨rfl, rfl⟩))
    go_ret
    exact ⟨ret_bool (by rw [gramOkB_many hb2]), B⟩
end Go.Proofs.YthnppodnjokaoaaGreatDoor
namespace Go.Proofs.YthnppodnjokaoaaGreatDoor
open Go.RowKit

theorem wf_i64 {z : Int} (h : (Lit.int .i64 z).wf = true) : -9223372036854775808 ≤ z ∧ z ≤ 9223372036854775807 := bounds_i64 h
theorem fit_ints {zs : List Int} (h : (Lay.list Lay.int).fit zs) : ∀ z ∈ zs, -9223372036854775808 ≤ z ∧ z ≤ 9223372036854775807 := fun z hz => wf_i64 (h.2 z hz)
theorem part_upto {n : Nat} {x : Int} : inB x 100 (100 + n - 1) = decide (100 ≤ x ∧ x - 100 < n) := by
  rw [Bool.eq_iff_iff]; simp [inB]; omega

theorem isLetter_any (x : Int) (w : World) : Calls Tryz.prog 71 #[.int .i64 x] w fun e w' => e = .returned (.bool (inB x 0 25)) ∧ w' = w := by
  by_cases h1 : 0 ≤ x
  · by_cases h2 : x ≤ 25
    · go_enter Tryz.func71, Tryz.ntmps71
      go_wp2
      go_ret
      exact ⟨ret_bool (by simp [inB, h1, h2]), rfl⟩
    · go_enter Tryz.func71, Tryz.ntmps71
      go_wp2
      go_ret
      exact ⟨ret_bool (by simp [inB, h1, h2]), rfl⟩
  · go_enter Tryz.func71, Tryz.ntmps71
    go_wp2
    go_ret
    exact ⟨ret_bool (by simp [inB]; omega), rfl⟩

theorem isPartOf_any (n : Nat) (a : Option Addr) (c : Nat) (x : Int) (w : World) (hx : x ≤ 9223372036854775807) (_ : n ≤ 1048576) :
    Calls Tryz.prog 74 #[.agg #[.slice a n c], .int .i64 x] w fun e w' => e = .returned (.bool (inB x 100 (100 + n - 1))) ∧ Below w.heap.size w w' := by
  have B := (Below.refl w.heap.size w).alloc (Nat.le_refl _) (.cells #[.slice a n c] 29)
  rw [part_upto]
  by_cases h1 : 100 ≤ x
  · by_cases h2 : x - 100 < n
    · go_enter Tryz.func74, Tryz.ntmps74
      go_wp2
      go_ret
      exact ⟨ret_bool (decide_eq_true ⟨h1, h2⟩).symm, B⟩
    · go_enter Tryz.func74, Tryz.ntmps74
      go_wp2
      go_ret
      exact ⟨ret_bool (decide_eq_false (fun h => by omega)).symm, B⟩
  · go_enter Tryz.func74, Tryz.ntmps74
    go_wp2
    go_ret
    exact ⟨ret_bool (by simp; intro h; omega), B⟩

set_option maxRecDepth 100000 in
theorem symbolsOf_any (n : Nat) (a : Option Addr) (c : Nat) (zs : List Int) (a1 : Option Addr) (c1 : Nat) (w : World) (h : Reads w a1 zs) (hn : n ≤ 1048576) (hl : zs.length ≤ 1048576) (hz : ∀ z ∈ zs, -9223372036854775808 ≤ z ∧ z ≤ 9223372036854775807) :
    Calls Tryz.prog 61 #[.agg #[.slice a n c], .slice a1 zs.length c1] w fun e w' => e = .returned (.bool (zs.all (symOk n))) ∧ Below w.heap.size w w' := by
  have HZ : Hid (∀ z ∈ zs, -9223372036854775808 ≤ z ∧ z ≤ 9223372036854775807) := hz
  have B0 := (Below.refl w.heap.size w).alloc (Nat.le_refl _) (.cells #[.slice a n c] 29)
  have q0 : (w.alloc (.cells #[.slice a n c] 29)).cell? ⟨w.heap.size, 0, none⟩ = some (.slice a n c) := by simp
  clear hz
  go_enter Tryz.func61, Tryz.ntmps61
  go_wp2
  go_loopw [9] (fun s9 wr => ∃ k : Nat, k ≤ zs.length ∧ s9 = .int .i64 k ∧ Hid ((zs.take k).all (symOk n) = true) ∧ Below w.heap.size w wr ∧ wr.cell? ⟨w.heap.size, 0, none⟩ = some (.slice a n c)) (fun s9 _ => zs.length - (intOf s9).toNat)
  case atStart => exact ⟨0, Nat.zero_le _, rfl, by show _ = _; simp, B0, q0⟩
  case round =>
    obtain ⟨k, hk, rfl, HK, hbel, qk⟩ := hrel
    clear q0 B0
    have hwl : w.heap.size < wr.heap.size := World.block_lt_of_cell? wr _ qk
    by_cases hlt : k < zs.length
    · obtain ⟨b, off, rfl, hb, hc⟩ := (h.below hbel).at hlt
      have q1 := hc k hlt
      rw [List.getD_eq_getElem?_getD, List.getElem?_eq_getElem hlt, Option.getD_some] at q1
      have hr := (HZ.out zs[k] (List.getElem_mem hlt)).2
      have HS : Hid (symOk n zs[k] = true → (zs.take (k + 1)).all (symOk n) = true) := fun g => all_step HK.out hlt g
      have HN : Hid (symOk n zs[k] = false → zs.all (symOk n) = false) := fun g => all_no hlt g
      clear hc h HK
      generalize zs[k] = z at *
      by_cases z1 : inB z 0 25 = true
      · go_wp2_with (go_at_call 71; refine (isLetter_any _ _).mono ?_; rintro e w' ⟨rfl, rfl⟩)
        go_roundw
        case rel => exact ⟨k + 1, by omega, by go_num, HS.out (by simp [symOk, z1]), hbel, qk⟩
        case measure => simp [intOf]; omega
      · have z1' : inB z 0 25 = false := by simpa using z1
        clear z1
        by_cases z2 : inB z 100 (100 + n - 1) = true
        · go_wp2_with (first | (go_at_call 71; refine (isLetter_any _ _).mono ?_; rintro e w' ⟨rfl, rfl⟩) | (go_at_call 74; refine (isPartOf_any n a c _ _ hr hn).mono ?_; rintro e w1 ⟨rfl, hb1⟩))
          go_roundw
          case rel => exact ⟨k + 1, by omega, by go_num, HS.out (by simp [symOk, z2]), hbel.trans (hb1.mono hbel.size), (hb1.cell (p := ⟨w.heap.size, 0, none⟩) hwl).trans qk⟩
          case measure => simp [intOf]; omega
        · have z2' : inB z 100 (100 + n - 1) = false := by simpa using z2
          clear z2
          go_wp2_with (first | (go_at_call 71; refine (isLetter_any _ _).mono ?_; rintro e w' ⟨rfl, rfl⟩) | (go_at_call 74; refine (isPartOf_any n a c _ _ hr hn).mono ?_; rintro e w1 ⟨rfl, hb1⟩))
          go_ret
          exact ⟨ret_bool (by rw [HN.out (by simp [symOk, z1', z2'])]), hbel.trans (hb1.mono hbel.size)⟩
    · have HE : Hid (zs.all (symOk n) = true) := all_end HK.out hlt
      clear h HK
      go_wp2
      go_ret
      exact ⟨ret_bool (by rw [HE.out]), hbel⟩

set_option maxRecDepth 100000 in
theorem altsOk_any (n : Nat) (a : Option Addr) (c : Nat) (Q : List (List Int)) (a1 : Option Addr) (c1 : Nat) (w : World) (h : RD w (.slice a1 Q.length c1) (slD (Lay.list Lay.int) Q)) (hn : n ≤ 1048576) (hl : (Lay.list (Lay.list Lay.int)).wt Q ≤ 1048576) (hf : (Lay.list (Lay.list Lay.int)).fit Q) :
    Calls Tryz.prog 59 #[.agg #[.slice a n c], .slice a1 Q.length c1] w fun e w' => e = .returned (.bool (partOk n Q)) ∧ Below w.heap.size w w' := by
  have HF : Hid ((Lay.list (Lay.list Lay.int)).fit Q) := hf
  have HL : Hid (∀ row ∈ Q, row.length ≤ 1048576) := by
    intro row hrow
    obtain ⟨i, hi, rfl⟩ := List.getElem_of_mem hrow
    have := Lay.sumL_at (Lay.list Lay.int) hi
    rw [Lay.wt_list] at hl
    rw [Lay.wt_ints] at this
    omega
  rw [Lay.wt_list] at hl
  have hq : Q.length ≤ 1048576 := by omega
  clear hf hl
  by_cases hbig : inB Q.length 1 8 = true
  · have hb2 := inB_true.1 hbig
    have B0 := (Below.refl w.heap.size w).alloc (Nat.le_refl _) (.cells #[.slice a n c] 29)
    have q0 : (w.alloc (.cells #[.slice a n c] 29)).cell? ⟨w.heap.size, 0, none⟩ = some (.slice a n c) := by simp
    go_enter Tryz.func59, Tryz.ntmps59
    go_wp2
    go_loopw [17] (fun s wr => ∃ k : Nat, k ≤ Q.length ∧ s = .int .i64 k ∧ Hid ((Q.take k).all (rowOk n) = true) ∧ Below w.heap.size w wr ∧ wr.cell? ⟨w.heap.size, 0, none⟩ = some (.slice a n c)) (fun s _ => Q.length - (intOf s).toNat)
    case atStart => exact ⟨0, Nat.zero_le _, rfl, by show _ = _; simp, B0, q0⟩
    case round =>
      obtain ⟨k, hk, rfl, HK, hbel, qk⟩ := hrel
      clear q0 B0
      have hwl : w.heap.size < wr.heap.size := World.block_lt_of_cell? wr _ qk
      by_cases hlt : k < Q.length
      · obtain ⟨b, off, rfl, hb, a2, c2, q1, r2⟩ := (h.later hbel).listAt hlt
        have hrl := HL.out Q[k] (List.getElem_mem hlt)
        have HS : Hid (rowOk n Q[k] = true → (Q.take (k + 1)).all (rowOk n) = true) := fun g => all_step HK.out hlt g
        have HN : Hid (rowOk n Q[k] = false → partOk n Q = false) := fun g => partOk_no (all_no hlt g)
        have X : Hid (Calls Tryz.prog 61 #[.agg #[.slice a n c], .slice a2 Q[k].length c2] wr fun e w' => e = .returned (.bool (Q[k].all (symOk n))) ∧ Below wr.heap.size wr w') :=
          symbolsOf_any n a c Q[k] a2 c2 wr r2.reads hn hrl (fit_ints (HF.out.2 _ (List.getElem_mem hlt)))
        clear h r2 HK
        generalize Q[k] = R at *
        by_cases hr : R.length ≤ 8
        · by_cases hs : R.all (symOk n) = true
          · rw [hs] at X
            go_wp2_with (go_at_call 61; refine X.out.mono ?_; rintro e w1 ⟨rfl, hb1⟩)
            go_roundw
            case rel => exact ⟨k + 1, by omega, by go_num, HS.out (rowOk_yes hr hs), hbel.trans (hb1.mono hbel.size), (hb1.cell (p := ⟨w.heap.size, 0, none⟩) hwl).trans qk⟩
            case measure => simp [intOf]; omega
          · have hs' : R.all (symOk n) = false := by simpa using hs
            rw [hs'] at X
            clear hs
            go_wp2_with (go_at_call 61; refine X.out.mono ?_; rintro e w1 ⟨rfl, hb1⟩)
            go_ret
            exact ⟨ret_bool (by rw [HN.out (rowOk_no hs')]), hbel.trans (hb1.mono hbel.size)⟩
        · clear X
          go_wp2
          go_ret
          exact ⟨ret_bool (by rw [HN.out (rowOk_long hr)]), hbel⟩
      · have HE : Hid (Q.all (rowOk n) = true) := all_end HK.out hlt
        clear h HK
        go_wp2
        go_ret
        exact ⟨ret_bool (by rw [partOk_yes hbig HE.out]), hbel⟩
  · have hb2 : inB Q.length 1 8 = false := by simpa using hbig
    have hb3 := inB_false.1 hb2
    have B0 := (Below.refl w.heap.size w).alloc (Nat.le_refl _) (.cells #[.slice a n c] 29)
    clear hbig
    by_cases h1 : 1 ≤ Q.length
    · have h2 : 8 < Q.length := by omega
      go_enter Tryz.func59, Tryz.ntmps59
      go_wp2
      go_ret
      exact ⟨ret_bool (by rw [partOk_many hb2]), B0⟩
    · go_enter Tryz.func59, Tryz.ntmps59
      go_wp2
      go_ret
      exact ⟨ret_bool (by rw [partOk_many hb2]), B0⟩

set_option maxRecDepth 100000 in
theorem gramOk_any (x : Gm) (a0 : Option Addr) (c0 : Nat) (w : World) (h0 : RD w (.slice a0 x.parts.length c0) (slD (Lay.list (Lay.list Lay.int)) x.parts)) (hn : Lay.gram.wt x ≤ 1048576) (hf : Lay.gram.fit x) :
    Calls Tryz.prog 42 #[.agg #[.slice a0 x.parts.length c0]] w fun e w' => e = .returned (.bool (resGramOk x)) ∧ Below w.heap.size w w' := by
  unfold resGramOk
  rw [Lay_gram_wt, Lay.wt_list] at hn
  rw [Lay_gram_fit] at hf
  have h := h0
  have HF : Hid ((Lay.list (Lay.list (Lay.list Lay.int))).fit x.parts) := hf
  have hnl : x.parts.length ≤ 1048576 := by omega
  have HL : Hid (∀ alts ∈ x.parts, (Lay.list (Lay.list Lay.int)).wt alts ≤ 1048576) := by
    intro alts hal
    obtain ⟨i, hi, rfl⟩ := List.getElem_of_mem hal
    have := Lay.sumL_at (Lay.list (Lay.list Lay.int)) hi
    omega
  clear h0 hn hf
  generalize x.parts = P at *
  have B0 := (Below.refl w.heap.size w).alloc (Nat.le_refl _) (.cells #[.slice a0 P.length c0] 29)
  by_cases hbig : inB P.length 1 20 = true
  · have hb2 := inB_true.1 hbig
    have q0 : (w.alloc (.cells #[.slice a0 P.length c0] 29)).cell? ⟨w.heap.size, 0, none⟩ = some (.slice a0 P.length c0) := by simp
    go_enter Tryz.func42, Tryz.ntmps42
    go_wp2
    go_loopw [18] (fun s wr => ∃ k : Nat, k ≤ P.length ∧ s = .int .i64 k ∧ Hid ((P.take k).all (partOk P.length) = true) ∧ Below w.heap.size w wr ∧ wr.cell? ⟨w.heap.size, 0, none⟩ = some (.slice a0 P.length c0)) (fun s _ => P.length - (intOf s).toNat)
    case atStart => exact ⟨0, Nat.zero_le _, rfl, by show _ = _; simp, B0, q0⟩
    case round =>
      obtain ⟨k, hk, rfl, HK, hbel, qk⟩ := hrel
      clear q0 B0
      have hwl : w.heap.size < wr.heap.size := World.block_lt_of_cell? wr _ qk
      by_cases hlt : k < P.length
      · obtain ⟨b, off, rfl, hb, a2, c2, q1, r2⟩ := (h.later hbel).listAt hlt
        have HS : Hid (partOk P.length P[k] = true → (P.take (k + 1)).all (partOk P.length) = true) := fun g => all_step HK.out hlt g
        have HN : Hid (partOk P.length P[k] = false → gramOkB P = false) := fun g => gramOkB_no (all_no hlt g)
        have X : Hid (Calls Tryz.prog 59 #[.agg #[.slice (some ⟨b, off, none⟩) P.length c0], .slice a2 P[k].length c2] wr fun e w' => e = .returned (.bool (partOk P.length P[k])) ∧ Below wr.heap.size wr w') :=
          altsOk_any P.length _ c0 P[k] a2 c2 wr r2 hnl (HL.out _ (List.getElem_mem hlt)) (HF.out.2 _ (List.getElem_mem hlt))
        clear h r2 HK
        generalize P[k] = R at *
        by_cases hs : partOk P.length R = true
        · rw [hs] at X
          go_wp2_with (go_at_call 59; refine X.out.mono ?_; rintro e w1 ⟨rfl, hb1⟩)
          go_roundw
          case rel => exact ⟨k + 1, by omega, by go_num, HS.out hs, hbel.trans (hb1.mono hbel.size), (hb1.cell (p := ⟨w.heap.size, 0, none⟩) hwl).trans qk⟩
          case measure => simp [intOf]; omega
        · have hs' : partOk P.length R = false := by simpa using hs
          rw [hs'] at X
          clear hs
          go_wp2_with (go_at_call 59; refine X.out.mono ?_; rintro e w1 ⟨rfl, hb1⟩)
          go_ret
          exact ⟨ret_bool (by rw [HN.out hs']), hbel.trans (hb1.mono hbel.size)⟩
      · have HE : Hid (P.all (partOk P.length) = true) := all_end HK.out hlt
        clear h HK
        go_wp2
        go_ret
        exact ⟨ret_bool (by rw [gramOkB_yes hbig HE.out]), hbel⟩
  · have hb2 : inB P.length 1 20 = false := by simpa using hbig
    have hb3 := inB_false.1 hb2
    clear hbig
    by_cases h1 : 1 ≤ P.length
    · have h2 : 20 < P.length := by omega
      go_enter Tryz.func42, Tryz.ntmps42
      go_wp2
      go_ret
      exact ⟨ret_bool (by rw [gramOkB_many hb2]), B0⟩
    · go_enter Tryz.func42, Tryz.ntmps42
      go_wp2
      go_ret
      exact ⟨ret_bool (by rw [gramOkB_many hb2]), B0⟩
end Go.Proofs.YthnppodnjokaoaaGreatDoor
namespace Go.Proofs.YthnppodnjokaoaaGreatDoor
open Go.RowKit

/-- A letter. -/
def letB (x : Int) : Bool := inB x 0 25
def inputOkB (zs : List Int) : Bool := decide (zs.length ≤ 10) && zs.all letB
/-- What InputOk answers. -/
def resInputOk (zs : List Int) : Bool := inputOkB zs
theorem inputOkB_long {zs : List Int} (h : ¬ zs.length ≤ 10) : inputOkB zs = false := by simp [inputOkB, h]
theorem inputOkB_no {zs : List Int} (h : zs.all letB = false) : inputOkB zs = false := by simp [inputOkB, h]
theorem inputOkB_yes {zs : List Int} (h : zs.length ≤ 10) (g : zs.all letB = true) : inputOkB zs = true := by simp [inputOkB, h, g]
theorem inputOkB_len {zs : List Int} (h : inputOkB zs = true) : zs.length ≤ 10 := by simp [inputOkB] at h; exact h.1
theorem inputOkB_mem {zs : List Int} (h : inputOkB zs = true) : ∀ z ∈ zs, 0 ≤ z ∧ z ≤ 25 := by
  intro z hz; simp only [inputOkB, Bool.and_eq_true, List.all_eq_true] at h
  have := h.2 z hz; unfold letB at this; exact inB_true.1 this

set_option maxRecDepth 100000 in
theorem specInputOk_any (zs : List Int) (a : Option Addr) (c : Nat) (w : World) (h : RD w (.slice a zs.length c) (slD Lay.int zs)) (hl : zs.length ≤ 1048576) (_ : (Lay.list Lay.int).fit zs) :
    Calls Tryz.prog 34 #[.slice a zs.length c] w fun e w' => e = .returned (.bool (resInputOk zs)) ∧ Below w.heap.size w w' := by
  unfold resInputOk
  have hr : Reads w a zs := h.reads
  clear h
  by_cases hlong : zs.length ≤ 10
  · have hb : ¬ (10 : Int) < (zs.length : Int) := by omega
    go_enter Tryz.func34, Tryz.ntmps34
    go_wp2
    go_loopw [3] (fun i wr => ∃ k : Nat, k ≤ zs.length ∧ i = .int .i64 k ∧ Hid ((zs.take k).all letB = true) ∧ Below w.heap.size w wr) (fun i _ => zs.length - (intOf i).toNat)
    case atStart => exact ⟨0, Nat.zero_le _, rfl, by show _ = _; simp, Below.refl _ _⟩
    case round =>
      obtain ⟨k, hk, rfl, HK, hbel⟩ := hrel
      by_cases hlt : k < zs.length
      · obtain ⟨b, off, rfl, hb1, hc⟩ := (hr.below hbel).at hlt
        have q1 := hc k hlt
        rw [List.getD_eq_getElem?_getD, List.getElem?_eq_getElem hlt, Option.getD_some] at q1
        have HS : Hid (letB zs[k] = true → (zs.take (k + 1)).all letB = true) := fun g => all_step HK.out hlt g
        have HN : Hid (letB zs[k] = false → inputOkB zs = false) := fun g => inputOkB_no (all_no hlt g)
        clear hc hr HK
        generalize zs[k] = z at *
        by_cases z1 : inB z 0 25 = true
        · go_wp2_with (go_at_call 21; refine (l1In_any _ _ _ _).mono ?_; rintro e w' ⟨rfl, rfl⟩)
          go_roundw
          case rel => exact ⟨k + 1, by omega, by go_num, HS.out z1, hbel⟩
          case measure => simp [intOf]; omega
        · have z1' : inB z 0 25 = false := by simpa using z1
          clear z1
          go_wp2_with (go_at_call 21; refine (l1In_any _ _ _ _).mono ?_; rintro e w' ⟨rfl, rfl⟩)
          go_ret
          exact ⟨ret_bool (by rw [HN.out z1']), hbel⟩
      · have HE : Hid (inputOkB zs = true) := inputOkB_yes hlong (all_end HK.out hlt)
        clear hr HK
        go_wp2
        go_ret
        exact ⟨ret_bool (by rw [HE.out]), hbel⟩
  · have hb : (10 : Int) < (zs.length : Int) := by omega
    rw [inputOkB_long hlong]
    go_enter Tryz.func34, Tryz.ntmps34
    go_wp2
    go_ret
    exact ⟨rfl, Below.refl _ _⟩
set_option maxRecDepth 100000 in
theorem inputOk_any (zs : List Int) (a : Option Addr) (c : Nat) (w : World) (h : RD w (.slice a zs.length c) (slD Lay.int zs)) (hl : zs.length ≤ 1048576) (_ : (Lay.list Lay.int).fit zs) :
    Calls Tryz.prog 57 #[.slice a zs.length c] w fun e w' => e = .returned (.bool (resInputOk zs)) ∧ Below w.heap.size w w' := by
  unfold resInputOk
  have hr : Reads w a zs := h.reads
  clear h
  by_cases hlong : zs.length ≤ 10
  · have hb : ¬ (10 : Int) < (zs.length : Int) := by omega
    go_enter Tryz.func57, Tryz.ntmps57
    go_wp2
    go_loopw [10] (fun i wr => ∃ k : Nat, k ≤ zs.length ∧ i = .int .i64 k ∧ Hid ((zs.take k).all letB = true) ∧ Below w.heap.size w wr) (fun i _ => zs.length - (intOf i).toNat)
    case atStart => exact ⟨0, Nat.zero_le _, rfl, by show _ = _; simp, Below.refl _ _⟩
    case round =>
      obtain ⟨k, hk, rfl, HK, hbel⟩ := hrel
      by_cases hlt : k < zs.length
      · obtain ⟨b, off, rfl, hb1, hc⟩ := (hr.below hbel).at hlt
        have q1 := hc k hlt
        rw [List.getD_eq_getElem?_getD, List.getElem?_eq_getElem hlt, Option.getD_some] at q1
        have HS : Hid (letB zs[k] = true → (zs.take (k + 1)).all letB = true) := fun g => all_step HK.out hlt g
        have HN : Hid (letB zs[k] = false → inputOkB zs = false) := fun g => inputOkB_no (all_no hlt g)
        clear hc hr HK
        generalize zs[k] = z at *
        by_cases z1 : inB z 0 25 = true
        · go_wp2_with (go_at_call 71; refine (isLetter_any _ _).mono ?_; rintro e w' ⟨rfl, rfl⟩)
          go_roundw
          case rel => exact ⟨k + 1, by omega, by go_num, HS.out z1, hbel⟩
          case measure => simp [intOf]; omega
        · have z1' : inB z 0 25 = false := by simpa using z1
          clear z1
          go_wp2_with (go_at_call 71; refine (isLetter_any _ _).mono ?_; rintro e w' ⟨rfl, rfl⟩)
          go_ret
          exact ⟨ret_bool (by rw [HN.out z1']), hbel⟩
      · have HE : Hid (inputOkB zs = true) := inputOkB_yes hlong (all_end HK.out hlt)
        clear hr HK
        go_wp2
        go_ret
        exact ⟨ret_bool (by rw [HE.out]), hbel⟩
  · have hb : (10 : Int) < (zs.length : Int) := by omega
    rw [inputOkB_long hlong]
    go_enter Tryz.func57, Tryz.ntmps57
    go_wp2
    go_ret
    exact ⟨rfl, Below.refl _ _⟩
end Go.Proofs.YthnppodnjokaoaaGreatDoor
