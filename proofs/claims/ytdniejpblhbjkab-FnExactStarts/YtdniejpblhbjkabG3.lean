/-
  Contracts and plain mathematics, joined: MIntS, MIntSS, MIntSSS, MGram, DecMath, RowMath, GramTextMath, FirstMath, SetHas, SetAdd, SetJoin, SetMath. No statement is proved here.
-/
import Derived.Test.YtdniejpblhbjkabG2
import Derived.Test.YtdniejpblhbjkabG1
import Derived.Lib.ItoaNum
import Derived.Laws.IdiomStrings
namespace Go.Proofs.Ytdniejpblhbjkab
open Go.RowKit

set_option maxRecDepth 100000 in
theorem markIntS_l (xs : List Int) (base : Nat) (v : Value) (S : Nat → Prop) (k : Nat) (w : World) (h : OD w base v (slD Lay.int xs) S) (hk : k + (Lay.list Lay.int).wt xs ≤ 8388608) :
    Calls Try.prog 16 #[v, .int .i64 (k : Int)] w fun e w' => e = .returned (.int .i64 ((k + cntIntS xs : Nat) : Int)) ∧ OD w' base v (slD Lay.int (mkIntS k xs)) S ∧ Within w w' S := by
  rw [Lay.wt_ints] at hk
  rw [cntIntS_eq]
  obtain ⟨a, c, rfl, hg⟩ := OD.shapeL h
  go_enter Try.func16, Try.ntmps16
  go_wp2
  go_loopw [1, 5] (fun sk i wr => ∃ j : Nat, j ≤ xs.length ∧ i = .int .i64 j ∧ sk = .int .i64 ((k : Int) + (j : Int)) ∧ OD wr base (.slice a xs.length c) (slD Lay.int (mkIntS k (xs.take j) ++ xs.drop j)) S ∧ Within w wr S) (fun _ i _ => xs.length - (intOf i).toNat)
  case atStart => exact ⟨0, Nat.zero_le _, rfl, by simp, by simpa [mkIntS, mkL] using h, Within.refl _ _⟩
  case round =>
    obtain ⟨j, hj, rfl, rfl, hown, hwi⟩ := hrel
    by_cases hlt : j < xs.length
    · obtain ⟨g, rfl⟩ := hg (by intro e; simp [e] at hlt)
      have hjL : j < (mkIntS k (xs.take j) ++ xs.drop j).length := by rw [mkIntS, mid_length _ _ hj]; exact hlt
      have HC : cntL cntInt (xs.take j) = j := by have := cntIntS_eq (xs.take j); rw [cntIntS] at this; rw [this, List.length_take]; omega
      have HS : Hid ((mkIntS k (xs.take j) ++ xs.drop j).set j ((k : Int) + (j : Int)) = mkIntS k (xs.take (j + 1)) ++ xs.drop (j + 1)) := by
        have e := mid_set cntInt mkInt (k := k) hlt
        rw [HC] at e
        show _ = _
        unfold mkIntS
        rw [← e]
        congr 1
      obtain ⟨R1, R2, ⟨u, hu⟩, hf⟩ := hown.intStore hjL ((k : Int) + (j : Int))
      rw [HS.out] at R1
      clear hg hown HC hjL
      go_wp2
      go_roundw
      case rel => exact ⟨j + 1, by omega, by go_num, by go_num, R1, hwi.trans R2⟩
      case measure => simp [intOf]; omega
    · have e : j = xs.length := by omega
      subst e
      go_wp2
      go_ret
      exact ⟨ret_int (by omega), by simpa using hown, hwi⟩

theorem markIntS_c (xs : List Int) (base : Nat) (v : Value) (S : Nat → Prop) (k : Nat) (w : World) (h : Cells w base [v] [slD Lay.int xs] S) (hk : k + (Lay.list Lay.int).wt xs ≤ 8388608) :
    Calls Try.prog 16 #[v, .int .i64 (k : Int)] w fun e w' => e = .returned (.int .i64 ((k + cntIntS xs : Nat) : Int)) ∧ Cells w' base [v] [slD Lay.int (mkIntS k xs)] S ∧ Within w w' S := by
  refine (markIntS_l xs base v S k w h.od hk).mono ?_
  rintro e w' ⟨rfl, h1, h2⟩
  exact ⟨rfl, Cells.one h1, h2⟩

theorem heldIntS_l (xs : List Int) (a : Option Addr) (n c : Nat) (k : Nat) (w : World) (h : RD w (.slice a n c) (slD Lay.int (mkIntS k xs))) (hk : k + (Lay.list Lay.int).wt xs ≤ 8388608) :
    Calls Try.prog 17 #[.slice a n c, .int .i64 (k : Int)] w fun e w' => e = .returned (.int .i64 ((k + cntIntS xs : Nat) : Int)) ∧ Below w.heap.size w w' := by
  rw [Lay.wt_ints] at hk
  rw [cntIntS_eq]
  have e := h.lenL
  rw [mkIntS, mkL_length] at e
  subst e
  have r := h.reads
  rw [mkIntS_marks] at r
  refine (heldIntS_any a xs.length c (k : Int) w r (by omega) (by omega) (by omega)).mono ?_
  rintro e w' ⟨rfl, hb⟩
  exact ⟨ret_int (by omega), hb⟩

end Go.Proofs.Ytdniejpblhbjkab
namespace Go.Proofs.Ytdniejpblhbjkab
open Go.RowKit

def cntIntSS : List (List Int) → Nat := cntL cntIntS
def mkIntSS : Nat → List (List Int) → List (List Int) := mkL cntIntS mkIntS
theorem cntIntSS_le (xs : List (List Int)) : cntIntSS xs ≤ (Lay.list (Lay.list Lay.int)).wt xs := cntL_le _ (fun x => by have := cntIntS_le x; omega) xs
theorem cntIntSS_room {xs : List (List Int)} {j k M : Nat} (hlt : j < xs.length) (hk : k + (xs.length + (Lay.list Lay.int).sumL xs) ≤ M) : k + cntIntSS (xs.take j) + (Lay.list Lay.int).wt xs[j] ≤ M := by
  have h1 := cntIntSS_le (xs.take j)
  rw [Lay.wt_list, List.length_take] at h1
  have h2 := Lay.sumL_take (Lay.list Lay.int) hlt
  have h3 := Lay.sumL_take_le (Lay.list Lay.int) xs (j + 1)
  omega

set_option maxRecDepth 100000 in
theorem markIntSS_l (xs : List (List Int)) (base : Nat) (v : Value) (S : Nat → Prop) (k : Nat) (w : World) (h : OD w base v (slD (Lay.list Lay.int) xs) S) (hk : k + (Lay.list (Lay.list Lay.int)).wt xs ≤ 8388608) :
    Calls Try.prog 60 #[v, .int .i64 (k : Int)] w fun e w' => e = .returned (.int .i64 ((k + cntIntSS xs : Nat) : Int)) ∧ OD w' base v (slD (Lay.list Lay.int) (mkIntSS k xs)) S ∧ Within w w' S := by
  rw [Lay.wt_list] at hk
  obtain ⟨a, c, rfl, hg⟩ := OD.shapeL h
  go_enter Try.func60, Try.ntmps60
  go_wp2
  go_loopw [1, 5] (fun sk i wr => ∃ j : Nat, j ≤ xs.length ∧ i = .int .i64 j ∧ sk = .int .i64 ((k + cntIntSS (xs.take j) : Nat) : Int) ∧ Hid (OD wr base (.slice a xs.length c) (slD (Lay.list Lay.int) (mkIntSS k (xs.take j) ++ xs.drop j)) S ∧ Within w wr S)) (fun _ i _ => xs.length - (intOf i).toNat)
  case atStart => exact ⟨0, Nat.zero_le _, rfl, by simp [cntIntSS, cntL], by simpa [mkIntSS, mkL] using h, Within.refl _ _⟩
  case round =>
    obtain ⟨j, hj, rfl, rfl, HO⟩ := hrel
    by_cases hlt : j < xs.length
    · obtain ⟨g, rfl⟩ := hg (by intro e; simp [e] at hlt)
      have hjL : j < (mkIntSS k (xs.take j) ++ xs.drop j).length := by rw [mkIntSS, mid_length _ _ hj]; exact hlt
      have HX : (mkIntSS k (xs.take j) ++ xs.drop j)[j] = xs[j] := mid_get cntIntS mkIntS hlt hjL
      have HS : Hid ((mkIntSS k (xs.take j) ++ xs.drop j).set j (mkIntS (k + cntIntSS (xs.take j)) xs[j]) = mkIntSS k (xs.take (j + 1)) ++ xs.drop (j + 1)) := mid_set cntIntS mkIntS hlt
      have HN : Hid (k + cntIntSS (xs.take (j + 1)) = k + cntIntSS (xs.take j) + cntIntS xs[j]) := by show _ = _; unfold cntIntSS; rw [cntL_take _ hlt]; omega
      have hle := cntIntSS_room hlt hk
      have hle2 := cntIntS_le xs[j]
      obtain ⟨a1, c1, Tj, q0, O1, hT, hput⟩ := HO.out.1.listInto hjL
      rw [HX] at q0 O1 hput
      have X : Hid (Calls Try.prog 16 #[.slice a1 xs[j].length c1, .int .i64 ((k + cntIntSS (xs.take j) : Nat) : Int)] wr fun e w' => e = .returned (.int .i64 ((k + cntIntSS (xs.take j) + cntIntS xs[j] : Nat) : Int)) ∧ OD w' base (.slice a1 xs[j].length c1) (slD Lay.int (mkIntS (k + cntIntSS (xs.take j)) xs[j])) Tj ∧ Within wr w' Tj) :=
        markIntS_l xs[j] base _ Tj (k + cntIntSS (xs.take j)) wr O1 hle
      have HP : Hid (∀ w', OD w' base (.slice a1 xs[j].length c1) (slD Lay.int (mkIntS (k + cntIntSS (xs.take j)) xs[j])) Tj ∧ Within wr w' Tj → OD w' base (.slice (some ⟨g, 0, none⟩) xs.length c) (slD (Lay.list Lay.int) (mkIntSS k (xs.take (j + 1)) ++ xs.drop (j + 1))) S ∧ Within w w' S) := by
        intro w' hx
        have := hput w' _ hx.1 hx.2
        rw [HS.out] at this
        exact ⟨this, HO.out.2.trans (hx.2.mono hT)⟩
      clear hg h HO HX HS hput O1 hjL
      generalize (Lay.list Lay.int).wt xs[j] = wk at *
      generalize k + cntIntSS (xs.take j) = m at *
      generalize mkIntS m xs[j] = mk at *
      generalize cntIntS xs[j] = ck at *
      generalize xs[j] = y at *
      have hgl : g < wr.heap.size := World.block_lt_of_cell? wr _ q0
      go_wp2_with fail
      refine X.out.mono ?_
      rintro e w1 ⟨rfl, hx⟩
      have HE : Hid (OD w1 base (.slice (some ⟨g, 0, none⟩) xs.length c) (slD (Lay.list Lay.int) (mkIntSS k (xs.take (j + 1)) ++ xs.drop (j + 1))) S ∧ Within w w1 S) := HP.out w1 hx
      clear X HP hx
      go_wp2
      go_roundw
      case rel => exact ⟨j + 1, by omega, by go_num, by rw [HN.out]; simp, HE⟩
      case measure => simp [intOf]; omega
    · have e : j = xs.length := by omega
      subst e
      have HE : Hid (OD wr base (.slice a xs.length c) (slD (Lay.list Lay.int) (mkIntSS k xs)) S ∧ Within w wr S) := by show _ ∧ _; simpa using HO.out
      have HC : Hid (cntIntSS (xs.take xs.length) = cntIntSS xs) := by show _ = _; rw [List.take_length]
      clear HO
      generalize cntIntSS (xs.take xs.length) = m at *
      go_wp2
      go_ret
      exact ⟨ret_int (by rw [HC.out]), HE.out⟩

end Go.Proofs.Ytdniejpblhbjkab
namespace Go.Proofs.Ytdniejpblhbjkab
open Go.RowKit

def cntIntSSS : List (List (List Int)) → Nat := cntL cntIntSS
def mkIntSSS : Nat → List (List (List Int)) → List (List (List Int)) := mkL cntIntSS mkIntSS
theorem cntIntSSS_le (xs : List (List (List Int))) : cntIntSSS xs ≤ (Lay.list (Lay.list (Lay.list Lay.int))).wt xs := cntL_le _ (fun x => by have := cntIntSS_le x; omega) xs
theorem cntIntSSS_room {xs : List (List (List Int))} {j k M : Nat} (hlt : j < xs.length) (hk : k + (xs.length + (Lay.list (Lay.list Lay.int)).sumL xs) ≤ M) : k + cntIntSSS (xs.take j) + (Lay.list (Lay.list Lay.int)).wt xs[j] ≤ M := by
  have h1 := cntIntSSS_le (xs.take j)
  rw [Lay.wt_list, List.length_take] at h1
  have h2 := Lay.sumL_take (Lay.list (Lay.list Lay.int)) hlt
  have h3 := Lay.sumL_take_le (Lay.list (Lay.list Lay.int)) xs (j + 1)
  omega

set_option maxRecDepth 100000 in
theorem markIntSSS_l (xs : List (List (List Int))) (base : Nat) (v : Value) (S : Nat → Prop) (k : Nat) (w : World) (h : OD w base v (slD (Lay.list (Lay.list Lay.int)) xs) S) (hk : k + (Lay.list (Lay.list (Lay.list Lay.int))).wt xs ≤ 8388608) :
    Calls Try.prog 37 #[v, .int .i64 (k : Int)] w fun e w' => e = .returned (.int .i64 ((k + cntIntSSS xs : Nat) : Int)) ∧ OD w' base v (slD (Lay.list (Lay.list Lay.int)) (mkIntSSS k xs)) S ∧ Within w w' S := by
  rw [Lay.wt_list] at hk
  obtain ⟨a, c, rfl, hg⟩ := OD.shapeL h
  go_enter Try.func37, Try.ntmps37
  go_wp2
  go_loopw [1, 5] (fun sk i wr => ∃ j : Nat, j ≤ xs.length ∧ i = .int .i64 j ∧ sk = .int .i64 ((k + cntIntSSS (xs.take j) : Nat) : Int) ∧ Hid (OD wr base (.slice a xs.length c) (slD (Lay.list (Lay.list Lay.int)) (mkIntSSS k (xs.take j) ++ xs.drop j)) S ∧ Within w wr S)) (fun _ i _ => xs.length - (intOf i).toNat)
  case atStart => exact ⟨0, Nat.zero_le _, rfl, by simp [cntIntSSS, cntL], by simpa [mkIntSSS, mkL] using h, Within.refl _ _⟩
  case round =>
    obtain ⟨j, hj, rfl, rfl, HO⟩ := hrel
    by_cases hlt : j < xs.length
    · obtain ⟨g, rfl⟩ := hg (by intro e; simp [e] at hlt)
      have hjL : j < (mkIntSSS k (xs.take j) ++ xs.drop j).length := by rw [mkIntSSS, mid_length _ _ hj]; exact hlt
      have HX : (mkIntSSS k (xs.take j) ++ xs.drop j)[j] = xs[j] := mid_get cntIntSS mkIntSS hlt hjL
      have HS : Hid ((mkIntSSS k (xs.take j) ++ xs.drop j).set j (mkIntSS (k + cntIntSSS (xs.take j)) xs[j]) = mkIntSSS k (xs.take (j + 1)) ++ xs.drop (j + 1)) := mid_set cntIntSS mkIntSS hlt
      have HN : Hid (k + cntIntSSS (xs.take (j + 1)) = k + cntIntSSS (xs.take j) + cntIntSS xs[j]) := by show _ = _; unfold cntIntSSS; rw [cntL_take _ hlt]; omega
      have hle := cntIntSSS_room hlt hk
      have hle2 := cntIntSS_le xs[j]
      obtain ⟨a1, c1, Tj, q0, O1, hT, hput⟩ := HO.out.1.listInto hjL
      rw [HX] at q0 O1 hput
      have X : Hid (Calls Try.prog 60 #[.slice a1 xs[j].length c1, .int .i64 ((k + cntIntSSS (xs.take j) : Nat) : Int)] wr fun e w' => e = .returned (.int .i64 ((k + cntIntSSS (xs.take j) + cntIntSS xs[j] : Nat) : Int)) ∧ OD w' base (.slice a1 xs[j].length c1) (slD (Lay.list Lay.int) (mkIntSS (k + cntIntSSS (xs.take j)) xs[j])) Tj ∧ Within wr w' Tj) :=
        markIntSS_l xs[j] base _ Tj (k + cntIntSSS (xs.take j)) wr O1 hle
      have HP : Hid (∀ w', OD w' base (.slice a1 xs[j].length c1) (slD (Lay.list Lay.int) (mkIntSS (k + cntIntSSS (xs.take j)) xs[j])) Tj ∧ Within wr w' Tj → OD w' base (.slice (some ⟨g, 0, none⟩) xs.length c) (slD (Lay.list (Lay.list Lay.int)) (mkIntSSS k (xs.take (j + 1)) ++ xs.drop (j + 1))) S ∧ Within w w' S) := by
        intro w' hx
        have := hput w' _ hx.1 hx.2
        rw [HS.out] at this
        exact ⟨this, HO.out.2.trans (hx.2.mono hT)⟩
      clear hg h HO HX HS hput O1 hjL
      generalize (Lay.list (Lay.list Lay.int)).wt xs[j] = wk at *
      generalize k + cntIntSSS (xs.take j) = m at *
      generalize mkIntSS m xs[j] = mk at *
      generalize cntIntSS xs[j] = ck at *
      generalize xs[j] = y at *
      have hgl : g < wr.heap.size := World.block_lt_of_cell? wr _ q0
      go_wp2_with fail
      refine X.out.mono ?_
      rintro e w1 ⟨rfl, hx⟩
      have HE : Hid (OD w1 base (.slice (some ⟨g, 0, none⟩) xs.length c) (slD (Lay.list (Lay.list Lay.int)) (mkIntSSS k (xs.take (j + 1)) ++ xs.drop (j + 1))) S ∧ Within w w1 S) := HP.out w1 hx
      clear X HP hx
      go_wp2
      go_roundw
      case rel => exact ⟨j + 1, by omega, by go_num, by rw [HN.out]; simp, HE⟩
      case measure => simp [intOf]; omega
    · have e : j = xs.length := by omega
      subst e
      have HE : Hid (OD wr base (.slice a xs.length c) (slD (Lay.list (Lay.list Lay.int)) (mkIntSSS k xs)) S ∧ Within w wr S) := by show _ ∧ _; simpa using HO.out
      have HC : Hid (cntIntSSS (xs.take xs.length) = cntIntSSS xs) := by show _ = _; rw [List.take_length]
      clear HO
      generalize cntIntSSS (xs.take xs.length) = m at *
      go_wp2
      go_ret
      exact ⟨ret_int (by rw [HC.out]), HE.out⟩

end Go.Proofs.Ytdniejpblhbjkab
namespace Go.Proofs.Ytdniejpblhbjkab
open Go.RowKit

def cntGram (x : Gm) : Nat := cntIntSSS x.parts
def mkGram (k : Nat) (x : Gm) : Gm := ⟨mkIntSSS k x.parts⟩
theorem cntGram_le (x : Gm) : cntGram x ≤ Lay.gram.wt x := cntIntSSS_le x.parts
theorem mkGram_len (k : Nat) (x : Gm) : (mkGram k x).parts.length = x.parts.length := mkL_length _ _ _ _

set_option maxRecDepth 100000 in
theorem markGram_l (x : Gm) (base : Nat) (a0 : Option Addr) (n0 c0 : Nat) (S : Nat → Prop) (k : Nat) (w : World) (h : Cells w base [.slice a0 n0 c0] (Lay.gram.cells x) S) (hk : k + Lay.gram.wt x ≤ 8388608) :
    Calls Try.prog 15 #[.agg #[.slice a0 n0 c0], .int .i64 (k : Int)] w fun e w' => e = .returned (.int .i64 ((k + cntGram x : Nat) : Int)) ∧ Cells w' base [.slice a0 n0 c0] (Lay.gram.cells (mkGram k x)) S ∧ Within w w' S := by
  have hO : OD w base (.slice a0 n0 c0) (slD (Lay.list (Lay.list Lay.int)) x.parts) S := Cells.od h
  have B := (Below.refl w.heap.size w).alloc (Nat.le_refl _) (.cells #[.slice a0 n0 c0] 28)
  have X := markIntSSS_l x.parts base _ S k _ (hO.later B) hk
  have hcnt : cntIntSSS x.parts = cntGram x := rfl
  have hmk : Hid (∀ W, OD W base (.slice a0 n0 c0) (slD (Lay.list (Lay.list Lay.int)) (mkIntSSS k x.parts)) S → Cells W base [.slice a0 n0 c0] (Lay.gram.cells (mkGram k x)) S) := fun W h => Cells.one h
  have hle := cntGram_le x
  rw [hcnt] at X
  clear h hO hcnt
  generalize cntGram x = ck at *
  go_enter Try.func15, Try.ntmps15
  go_wp2_with fail
  refine X.mono ?_
  rintro e w1 ⟨rfl, hx, hw⟩
  have HX := hmk.out _ hx
  have hW : Within w w1 S := (Within.of_below B S).trans hw
  clear X hmk hx hw
  go_wp2
  go_ret
  exact ⟨rfl, HX, hW⟩

end Go.Proofs.Ytdniejpblhbjkab
namespace Go.Proofs.Ytdniejpblhbjkab
open Go.RowKit

theorem conv_one {P : Program} (src dst e : TypeId) (hs : P.underlying src = some (.slice e)) (he : P.underlying e = some (.int .u8)) (hd : P.underlying dst = some .string) (W : World) (b : UInt8) (x : Int) (hx : x = (b.toNat : Int)) :
    (convert src dst (.slice (some ⟨W.heap.size, 0, none⟩) 1 1)).run P (W.alloc (.cells #[.int .u8 x] e)) = .ok (.string ⟨#[b]⟩) (W.alloc (.cells #[.int .u8 x] e)) := by
  have := run_convert_bytes_back (P := P) (W.alloc (.cells #[.int .u8 x] e)) src dst e ⟨W.heap.size, 0, none⟩ 1 [b] hs he hd (by
    intro j hj
    have : j = 0 := by simpa using hj
    subst this
    simp [Addr.add, hx])
  simpa using this

/-- The digits of m; nothing for 0. -/
def decD (m : Nat) : List UInt8 := if m = 0 then [] else Lib.decDigits m
theorem decD_pos {m : Nat} (h : 1 ≤ m) : decD m = Lib.decDigits m := by rw [decD, if_neg (by omega)]
theorem decD_step {m : Nat} (h : 1 ≤ m) : decD m = decD (m / 10) ++ [UInt8.ofNat (48 + m % 10)] := by
  rw [decD_pos h, Lib.decDigits]
  by_cases h2 : m < 10
  · rw [dif_pos h2, decD, if_pos (by omega), Nat.mod_eq_of_lt h2]; rfl
  · rw [dif_neg h2, decD_pos (by omega)]
theorem digit_toNat (m : Nat) : ((UInt8.ofNat (48 + m % 10)).toNat : Int) = 48 + (m : Int) % 10 := by
  have : (UInt8.ofNat (48 + m % 10)).toNat = 48 + m % 10 := by
    rw [UInt8.toNat_ofNat']; omega
  rw [this]; omega
theorem nDigits_le : ∀ (k u : Nat), u < 10 ^ (k + 1) → Lib.nDigits u ≤ k + 1
  | 0, u, h => by rw [Lib.nDigits_small (by simpa using h)]; exact Nat.le_refl _
  | k + 1, u, h => by
    by_cases hu : u < 10
    · rw [Lib.nDigits_small hu]; omega
    · rw [Lib.nDigits_big hu]
      have := nDigits_le k (u / 10) (by rw [Nat.pow_succ] at h; omega)
      omega
theorem decDigits_le {N : Nat} (h : (N : Int) ≤ 9223372036854775808) : (Lib.decDigits N).length ≤ 20 := by
  rw [Lib.decDigits_length]
  exact nDigits_le 19 N (by have : N ≤ 9223372036854775808 := by omega
                            exact Nat.lt_of_le_of_lt this (by decide))
theorem digit_is (m : Nat) : ∃ b : UInt8, (b.toNat : Int) = 48 + (m : Int) % 10 ∧ b = UInt8.ofNat (48 + m % 10) := ⟨_, digit_toNat m, rfl⟩
end Go.Proofs.Ytdniejpblhbjkab
namespace Go.Proofs.Ytdniejpblhbjkab
open Go.RowKit

/-- A symbol's text. -/
def symText (x : Int) : List UInt8 := if inB x 0 25 then [UInt8.ofNat (97 + x.toNat)] else if 100 ≤ x then 80 :: Lib.itoa (x - 100) else [63]
theorem symText_letter {x : Int} (h : inB x 0 25 = true) : symText x = [UInt8.ofNat (97 + x.toNat)] := by rw [symText, if_pos h]
theorem symText_part {x : Int} (h : 100 ≤ x) : symText x = 80 :: Lib.itoa (x - 100) := by
  rw [symText, if_neg (by rw [inB_true]; omega), if_pos h]
theorem symText_none {x : Int} (h : inB x 0 25 = false) (g : x < 100) : symText x = [63] := by
  rw [symText, if_neg (by rw [h]; decide), if_neg (by omega)]
theorem itoa_le {n : Int} (h0 : 0 ≤ n) (h1 : n ≤ 9223372036854775807) : (Lib.itoa n).length ≤ 20 := by
  obtain ⟨N, rfl⟩ := Int.eq_ofNat_of_zero_le h0
  have : Lib.itoa (N : Int) = Lib.decDigits N := by rw [Lib.itoa, if_neg (by omega)]; congr 1
  rw [this]; exact decDigits_le (by omega)
theorem symText_le {x : Int} (h1 : x ≤ 9223372036854775807) : (symText x).length ≤ 21 := by
  unfold symText
  split
  · simp
  · split
    · have := itoa_le (n := x - 100) (by omega) (by omega); simp; omega
    · simp
theorem letter_byte {x : Int} (h : inB x 0 25 = true) : (97 + x) = ((UInt8.ofNat (97 + x.toNat)).toNat : Int) := by
  have := inB_true.1 h
  rw [UInt8.toNat_ofNat']
  have : (97 + x.toNat) % 2 ^ 8 = 97 + x.toNat := Nat.mod_eq_of_lt (by omega)
  rw [this]; omega
/-- The text of the first k symbols, a blank between. -/
def rowTo (zs : List Int) : Nat → List UInt8
  | 0 => []
  | k + 1 => (if k = 0 then [] else rowTo zs k ++ [32]) ++ symText (zs.getD k 0)
def rowText (zs : List Int) : List UInt8 := rowTo zs zs.length
theorem rowTo_le {zs : List Int} (hz : ∀ z ∈ zs, z ≤ 9223372036854775807) (k : Nat) (hk : k ≤ zs.length) : (rowTo zs k).length ≤ 22 * k := by
  induction k with
  | zero => simp [rowTo]
  | succ k ih =>
    have := ih (by omega)
    have h2 := symText_le (hz (zs.getD k 0) (by rw [List.getD_eq_getElem?_getD, List.getElem?_eq_getElem (by omega)]; exact List.getElem_mem _))
    simp only [rowTo, List.length_append]
    generalize symText (zs.getD k 0) = t at *
    split <;> simp <;> omega
theorem rowTo_first {zs : List Int} (h : 0 < zs.length) : rowTo zs (0 + 1) = symText zs[0] := by simp [rowTo, h]
theorem rowTo_next {zs : List Int} {k : Nat} (h : k < zs.length) (hk : k ≠ 0) : rowTo zs (k + 1) = (rowTo zs k ++ [32]) ++ symText zs[k] := by simp [rowTo, hk, h]
end Go.Proofs.Ytdniejpblhbjkab
namespace Go.Proofs.Ytdniejpblhbjkab
open Go.RowKit

/-- An alternative's text, a blank ahead of each symbol. -/
def altText (row : List Int) : List UInt8 := if row.length = 0 then [] else 32 :: rowText row
def altsTo (alts : List (List Int)) : Nat → List UInt8
  | 0 => []
  | i + 1 => (altsTo alts i ++ (if i = 0 then [] else [32, 124])) ++ altText (alts.getD i [])
def partText (k : Nat) (alts : List (List Int)) : List UInt8 := (80 :: Lib.itoa (k : Int) ++ [32, 61]) ++ (altsTo alts alts.length ++ [10])
def partsTo (P : List (List (List Int))) : Nat → List UInt8
  | 0 => []
  | k + 1 => partsTo P k ++ partText k (P.getD k [])
def gramText (P : List (List (List Int))) : List UInt8 := if gramOkB P then partsTo P P.length else []

/-- What is known of the sizes of a right grammar. -/
structure Fits (P : List (List (List Int))) : Prop where
  parts : P.length ≤ 20
  alts : ∀ alts ∈ P, alts.length ≤ 8
  rows : ∀ alts ∈ P, ∀ row ∈ alts, row.length ≤ 8
  syms : ∀ alts ∈ P, ∀ row ∈ alts, ∀ z ∈ row, 0 ≤ z ∧ z < 120
theorem Fits.of {P : List (List (List Int))} (h : gramOkB P = true) : Fits P := by
  simp only [gramOkB, Bool.and_eq_true, inB_true, List.all_eq_true, partOk, rowOk, decide_eq_true_eq] at h
  obtain ⟨hp, ha⟩ := h
  refine ⟨by omega, fun alts h1 => ?_, fun alts h1 row h2 => ((ha alts h1).2 row h2).1, fun alts h1 row h2 z h3 => ?_⟩
  · have := (ha alts h1).1; omega
  · have := symOk_true.1 (((ha alts h1).2 row h2).2 z h3); omega
theorem rowText_le8 {row : List Int} (h : row.length ≤ 8) (hz : ∀ z ∈ row, 0 ≤ z ∧ z < 120) : (rowText row).length ≤ 176 := by
  have := rowTo_le (zs := row) (fun z hz' => by have := hz z hz'; omega) row.length (Nat.le_refl _)
  unfold rowText; omega
theorem altText_le {row : List Int} (h : row.length ≤ 8) (hz : ∀ z ∈ row, 0 ≤ z ∧ z < 120) : (altText row).length ≤ 177 := by
  unfold altText
  have := rowText_le8 h hz
  split
  · simp
  · simp; omega
theorem altsTo_le {alts : List (List Int)} (h : ∀ row ∈ alts, row.length ≤ 8) (hz : ∀ row ∈ alts, ∀ z ∈ row, 0 ≤ z ∧ z < 120) (i : Nat) (hi : i ≤ alts.length) : (altsTo alts i).length ≤ 180 * i := by
  induction i with
  | zero => simp [altsTo]
  | succ i ih =>
    have h1 := ih (by omega)
    have e : alts.getD i [] = alts[i] := by simp [List.getD, show i < alts.length by omega]
    have h2 := altText_le (h alts[i] (List.getElem_mem _)) (hz alts[i] (List.getElem_mem _))
    simp only [altsTo, List.length_append, e]
    split <;> simp <;> omega
theorem partText_le {k : Nat} (hk : k ≤ 20) {alts : List (List Int)} (h8 : alts.length ≤ 8) (h : ∀ row ∈ alts, row.length ≤ 8) (hz : ∀ row ∈ alts, ∀ z ∈ row, 0 ≤ z ∧ z < 120) : (partText k alts).length ≤ 1500 := by
  have h1 := altsTo_le h hz alts.length (Nat.le_refl _)
  have h2 := itoa_le (n := (k : Int)) (by omega) (by omega)
  simp only [partText, List.length_append, List.length_cons, List.length_nil]
  omega
theorem partsTo_le {P : List (List (List Int))} (F : Fits P) (k : Nat) (hk : k ≤ P.length) : (partsTo P k).length ≤ 1500 * k := by
  induction k with
  | zero => simp [partsTo]
  | succ k ih =>
    have h1 := ih (by omega)
    have e : P.getD k [] = P[k] := by simp [List.getD, show k < P.length by omega]
    have hm := List.getElem_mem (l := P) (show k < P.length by omega)
    have h2 := partText_le (k := k) (by have := F.parts; omega) (F.alts _ hm) (F.rows _ hm) (F.syms _ hm)
    simp only [partsTo, List.length_append, e]
    omega
theorem partsTo_next {P : List (List (List Int))} {k : Nat} (h : k < P.length) : partsTo P (k + 1) = partsTo P k ++ partText k P[k] := by simp [partsTo, h]
theorem altsTo_first {alts : List (List Int)} (h : 0 < alts.length) : altsTo alts (0 + 1) = altText alts[0] := by simp [altsTo, h]
theorem altsTo_next {alts : List (List Int)} {i : Nat} (h : i < alts.length) (hi : i ≠ 0) : altsTo alts (i + 1) = (altsTo alts i ++ [32, 124]) ++ altText alts[i] := by simp [altsTo, h, hi]
theorem altText_nil {row : List Int} (h : row.length = 0) : altText row = [] := by simp [altText, h]
theorem altText_some {row : List Int} (h : row.length ≠ 0) : altText row = 32 :: rowText row := by simp [altText, h]
end Go.Proofs.Ytdniejpblhbjkab
namespace Go.Proofs.Ytdniejpblhbjkab
open Go.RowKit

/-- All symbols of the row are of those parts. -/
def allE (row E : List Int) : Bool := row.all fun x => decide (100 ≤ x) && hasL E (x - 100)
/-- All parts of the row are those. -/
def aliveE (row E : List Int) : Bool := row.all fun x => !decide (100 ≤ x) || hasL E (x - 100)

section
variable (p : List Int → List Int → Bool)
/-- Part k is put in for each of the first i alternatives that p lets. -/
def growI (k : Nat) (Q : List (List Int)) (E : List Int) : Nat → List Int
  | 0 => E
  | i + 1 => if p (Q.getD i []) (growI k Q E i) then addL (growI k Q E i) k else growI k Q E i
def growK (P : List (List (List Int))) (E : List Int) : Nat → List Int
  | 0 => E
  | k + 1 => growI p k (P.getD k []) (growK P E k) (P.getD k []).length
def growT (P : List (List (List Int))) : Nat → List Int
  | 0 => []
  | t + 1 => growK p P (growT P t) P.length
theorem growI_yes {k i : Nat} {Q : List (List Int)} {E : List Int} (h : i < Q.length) (g : p Q[i] (growI p k Q E i) = true) : growI p k Q E (i + 1) = addL (growI p k Q E i) k := by
  have e : Q.getD i [] = Q[i] := by simp [List.getD, h]
  rw [growI, e, if_pos g]
theorem growI_no {k i : Nat} {Q : List (List Int)} {E : List Int} (h : i < Q.length) (g : p Q[i] (growI p k Q E i) = false) : growI p k Q E (i + 1) = growI p k Q E i := by
  have e : Q.getD i [] = Q[i] := by simp [List.getD, h]
  rw [growI, e, if_neg (by simp [g])]
theorem growK_next {P : List (List (List Int))} {E : List Int} {k : Nat} (h : k < P.length) : growK p P E (k + 1) = growI p k P[k] (growK p P E k) P[k].length := by
  have e : P.getD k [] = P[k] := by simp [List.getD, h]
  rw [growK, e]
theorem growI_le (k : Nat) (Q : List (List Int)) (E : List Int) (i : Nat) : (growI p k Q E i).length ≤ E.length + i := by
  induction i with
  | zero => simp [growI]
  | succ i ih =>
    rw [growI]
    split
    · have := addL_length_le (growI p k Q E i) k; omega
    · omega
theorem growK_le {P : List (List (List Int))} (h8 : ∀ alts ∈ P, alts.length ≤ 8) (E : List Int) (k : Nat) (hk : k ≤ P.length) : (growK p P E k).length ≤ E.length + 8 * k := by
  induction k with
  | zero => simp [growK]
  | succ k ih =>
    have h1 := ih (by omega)
    have h2 := growI_le p k (P.getD k []) (growK p P E k) (P.getD k []).length
    have e : P.getD k [] = P[k] := by simp [List.getD, show k < P.length by omega]
    have h3 := h8 P[k] (List.getElem_mem _)
    rw [growK]; rw [e] at h2 ⊢; omega
theorem growT_le {P : List (List (List Int))} (hp : P.length ≤ 20) (h8 : ∀ alts ∈ P, alts.length ≤ 8) (t : Nat) : (growT p P t).length ≤ 160 * t := by
  induction t with
  | zero => simp [growT]
  | succ t ih =>
    have h2 := growK_le p h8 (growT p P t) P.length (Nat.le_refl _)
    rw [growT]; omega
end
/-- The parts that can become nothing; those that can become letters. -/
def emptiesL (P : List (List (List Int))) : List Int := growT allE P (P.length + 1)
def aliveL (P : List (List (List Int))) : List Int := growT aliveE P (P.length + 1)
theorem emptiesL_le {P : List (List (List Int))} (F : Fits P) : (emptiesL P).length ≤ 3360 := by
  have h1 := F.parts
  have h2 := growT_le allE F.parts F.alts (P.length + 1)
  have h3 : 160 * (P.length + 1) ≤ 3360 := by omega
  exact Nat.le_trans h2 h3
theorem aliveL_le {P : List (List (List Int))} (F : Fits P) : (aliveL P).length ≤ 3360 := by
  have h1 := F.parts
  have h2 := growT_le aliveE F.parts F.alts (P.length + 1)
  have h3 : 160 * (P.length + 1) ≤ 3360 := by omega
  exact Nat.le_trans h2 h3
/-- What Reachable grows: the parts of a row; of all rows of a part; of all parts that are there. -/
def reachJ (R : List Int) (E : List Int) : Nat → List Int
  | 0 => E
  | j + 1 => if 100 ≤ R.getD j 0 then addL (reachJ R E j) (R.getD j 0 - 100) else reachJ R E j
def reachI (Q : List (List Int)) (E : List Int) : Nat → List Int
  | 0 => E
  | i + 1 => reachJ (Q.getD i []) (reachI Q E i) (Q.getD i []).length
def reachK (P : List (List (List Int))) (E : List Int) : Nat → List Int
  | 0 => E
  | k + 1 => if hasL (reachK P E k) k then reachI (P.getD k []) (reachK P E k) (P.getD k []).length else reachK P E k
def reachT (P : List (List (List Int))) : Nat → List Int
  | 0 => [0]
  | t + 1 => reachK P (reachT P t) P.length
def reachL (P : List (List (List Int))) : List Int := reachT P (P.length + 1)
theorem reachJ_yes {R E : List Int} {j : Nat} (h : j < R.length) (g : 100 ≤ R[j]) : reachJ R E (j + 1) = addL (reachJ R E j) (R[j] - 100) := by
  have e : R.getD j 0 = R[j] := by simp [List.getD, h]
  rw [reachJ, e, if_pos g]
theorem reachJ_no {R E : List Int} {j : Nat} (h : j < R.length) (g : ¬ 100 ≤ R[j]) : reachJ R E (j + 1) = reachJ R E j := by
  have e : R.getD j 0 = R[j] := by simp [List.getD, h]
  rw [reachJ, e, if_neg g]
theorem reachI_next {Q : List (List Int)} {E : List Int} {i : Nat} (h : i < Q.length) : reachI Q E (i + 1) = reachJ Q[i] (reachI Q E i) Q[i].length := by
  have e : Q.getD i [] = Q[i] := by simp [List.getD, h]
  rw [reachI, e]
theorem reachK_yes {P : List (List (List Int))} {E : List Int} {k : Nat} (h : k < P.length) (g : hasL (reachK P E k) k = true) : reachK P E (k + 1) = reachI P[k] (reachK P E k) P[k].length := by
  have e : P.getD k [] = P[k] := by simp [List.getD, h]
  rw [reachK, e, if_pos g]
theorem reachK_no {P : List (List (List Int))} {E : List Int} {k : Nat} (g : hasL (reachK P E k) k = false) : reachK P E (k + 1) = reachK P E k := by
  rw [reachK, if_neg (by simp [g])]
theorem reachJ_le (R E : List Int) (j : Nat) : (reachJ R E j).length ≤ E.length + j := by
  induction j with
  | zero => simp [reachJ]
  | succ j ih =>
    rw [reachJ]
    split
    · have := addL_length_le (reachJ R E j) (R.getD j 0 - 100); omega
    · omega
theorem reachI_le {Q : List (List Int)} (h8 : ∀ row ∈ Q, row.length ≤ 8) (E : List Int) (i : Nat) (hi : i ≤ Q.length) : (reachI Q E i).length ≤ E.length + 8 * i := by
  induction i with
  | zero => simp [reachI]
  | succ i ih =>
    have h1 := ih (by omega)
    have h2 := reachJ_le (Q.getD i []) (reachI Q E i) (Q.getD i []).length
    have e : Q.getD i [] = Q[i] := by simp [List.getD, show i < Q.length by omega]
    have h3 := h8 Q[i] (List.getElem_mem _)
    rw [reachI]; rw [e] at h2 ⊢; omega
theorem reachK_le {P : List (List (List Int))} (F : Fits P) (E : List Int) (k : Nat) (hk : k ≤ P.length) : (reachK P E k).length ≤ E.length + 64 * k := by
  induction k with
  | zero => simp [reachK]
  | succ k ih =>
    have h1 := ih (by omega)
    have e : P.getD k [] = P[k] := by simp [List.getD, show k < P.length by omega]
    have hm := List.getElem_mem (l := P) (show k < P.length by omega)
    have h2 := reachI_le (F.rows _ hm) (reachK P E k) P[k].length (Nat.le_refl _)
    have h3 := F.alts _ hm
    rw [reachK]
    split
    · rw [e]; omega
    · omega
theorem reachT_le {P : List (List (List Int))} (F : Fits P) (t : Nat) : (reachT P t).length ≤ 1 + 1280 * t := by
  induction t with
  | zero => simp [reachT]
  | succ t ih =>
    have h2 := reachK_le F (reachT P t) P.length (Nat.le_refl _)
    have := F.parts
    rw [reachT]; omega
theorem reachL_le {P : List (List (List Int))} (F : Fits P) : (reachL P).length ≤ 26881 := by
  have h1 := F.parts
  have h2 := reachT_le F (P.length + 1)
  have h3 : 1 + 1280 * (P.length + 1) ≤ 26881 := by omega
  exact Nat.le_trans h2 h3
end Go.Proofs.Ytdniejpblhbjkab
namespace Go.Proofs.Ytdniejpblhbjkab
open Go.RowKit

theorem specSetHas_same (a : Option Addr) (c : Nat) (zs : List Int) (x : Int) (w : World) (h : Reads w a zs) (hl : zs.length ≤ 1048576 * 4) :
    Calls Try.prog 47 #[.slice a zs.length c, .int .i64 x] w fun e w' => e = .returned (.bool (hasL zs x)) ∧ w' = w := by
  go_enter Try.func47, Try.ntmps47
  go_wp2
  go_loop [5] (fun i => ∃ k : Nat, k ≤ zs.length ∧ i = .int .i64 k ∧ x ∉ zs.take k) (fun i => zs.length - (intOf i).toNat)
  case atStart => exact ⟨0, Nat.zero_le _, rfl, by simp⟩
  case round =>
    obtain ⟨k, hk, rfl, hnot⟩ := hrel
    have HN : Hid (x ∉ zs.take k) := hnot
    clear hnot
    by_cases hlt : k < zs.length
    · obtain ⟨b1, o1, rfl, hb1, hc1⟩ := h.at hlt
      have hcx := hc1 k hlt
      go_wp2
      · go_ret
        exact ⟨ret_bool (hasL_yes (in_at hlt ‹_›)).symm, rfl⟩
      · go_round
        case rel => exact ⟨k + 1, by omega, by go_num, notin_step HN.out hlt ‹_›⟩
        case measure => simp [intOf]; omega
    · go_wp2
      go_ret
      exact ⟨ret_bool (hasL_no (notin_end HN.out hlt)).symm, rfl⟩

theorem specSetHas_any (a : Option Addr) (c : Nat) (zs : List Int) (x : Int) (w : World) (h : Reads w a zs) (hl : zs.length ≤ 1048576 * 4) :
    Calls Try.prog 47 #[.slice a zs.length c, .int .i64 x] w fun e w' => e = .returned (.bool (hasL zs x)) ∧ Below w.heap.size w w' := by
  refine (specSetHas_same a c zs x w h hl).mono ?_
  rintro e w' ⟨rfl, rfl⟩
  exact ⟨rfl, Below.refl _ _⟩

end Go.Proofs.Ytdniejpblhbjkab
namespace Go.Proofs.Ytdniejpblhbjkab
open Go.RowKit

/-- A slice of integers, nil or a whole block's beginning, with its room. -/
def PartsI (w : World) (v : Value) (xs : List Int) : Prop :=
  (v = .slice none 0 0 ∧ xs = []) ∨ ∃ g cap, v = .slice (some ⟨g, 0, none⟩) xs.length cap ∧ xs.length ≤ cap ∧ cap ≤ maxLen ∧ g < w.heap.size ∧ ∀ i, i < xs.length → w.cell? ⟨g, i, none⟩ = some (.int .i64 (xs.getD i 0))
theorem PartsI.shape {w : World} {v : Value} {xs : List Int} (h : PartsI w v xs) : ∃ a cap, v = .slice a xs.length cap ∧ Reads w a xs := by
  rcases h with ⟨rfl, rfl⟩ | ⟨g, cap, rfl, _, _, hg, hc⟩
  · exact ⟨none, 0, rfl, .inl rfl⟩
  · exact ⟨_, cap, rfl, .inr ⟨g, 0, rfl, hg, fun i hi => by simpa using hc i hi⟩⟩

theorem specSetAdd_p (v : Value) (zs : List Int) (x : Int) (w : World) (h : PartsI w v zs) (hl : zs.length ≤ 1048576 * 3) :
    Calls Try.prog 45 #[v, .int .i64 x] w fun e w' => ∃ v', e = .returned v' ∧ OwnInts w' w.heap.size 3 v' (addL zs x) ∧ Below w.heap.size w w' := by
  cases hh : hasL zs x
  · have hp := placeL_le zs x
    rcases h with ⟨rfl, rfl⟩ | ⟨g, cap, rfl, hnc, hcm, hgw, hcell⟩
    · have hr : Reads w none [] := .inl rfl
      go_enter Try.func45, Try.ntmps45
      go_wp2_with fail
      refine (specSetHas_any _ _ [] x _ hr (by simp)).mono ?_
      rintro e w1 ⟨rfl, hl1⟩
      rw [hh]
      go_wp2
      refine wp_loop_rounds 1 ?_
      rw [rounds_succ]
      go_wp2_with (at_builtin; refine wpList_append_ints _ rfl (.tmp 30) (.tmp 33) 25 rfl w.heap.size 3 Try.underlying25 Try.infoInt _ [] rfl (OwnInts.empty hl1.size) _ _ _ [] rfl rfl (.inl rfl) (by simp) (Nat.le_trans hl1.size (by simp)) ?_)
      intro v4 w4 hown4 hgr4
      have k4 := (hl1.alloc hl1.size _).grown hgr4 (Nat.le_trans hl1.size (by simp)) (fun k hk => by cases hk; exact hl1.size)
      go_wp2_with (at_builtin; refine wpList_append_ints _ rfl (.tmp 35) (.tmp 37) 25 rfl w.heap.size 3 Try.underlying25 Try.infoInt _ _ rfl (hown4.alloc _) _ _ _ [x] rfl rfl (Reads.new _ _ _) (by simp) (Nat.le_trans k4.size (by simp)) ?_)
      intro v5 w5 hown5 hgr5
      have k5 := (k4.alloc k4.size _).grown hgr5 (Nat.le_trans k4.size (by simp)) (fun k hk => (hown4.block k hk).1)
      go_wp2_with (at_builtin; refine wpList_append_ints _ rfl (.tmp 39) (.tmp 42) 25 rfl w.heap.size 3 Try.underlying25 Try.infoInt _ _ rfl hown5 _ _ _ [] rfl rfl (.inl rfl) (by simp) k5.size ?_)
      intro v6 w6 hown6 hgr6
      have k6 := k5.grown hgr6 k5.size (fun k hk => (hown5.block k hk).1)
      go_wp2
      go_ret
      refine ⟨v6, rfl, ?_, k6⟩
      rw [addL_no hh]
      exact hown6
    · obtain ⟨p, hP⟩ : ∃ p, placeL zs x = p := ⟨_, rfl⟩
      have HP : Hid (placeL zs x = p) := hP
      rw [hP] at hp
      have hr : Reads w (some ⟨g, 0, none⟩) zs := .inr ⟨g, 0, rfl, hgw, fun i hi => by simpa using hcell i hi⟩
      unfold maxLen at hcm
      clear hP
      go_enter Try.func45, Try.ntmps45
      go_wp2_with fail
      refine (specSetHas_any _ _ zs x _ hr (by omega)).mono ?_
      rintro e w1 ⟨rfl, hl1⟩
      rw [hh]
      have c1 : ∀ i, i < zs.length → w1.cell? ⟨g, i, none⟩ = some (.int .i64 (zs.getD i 0)) := fun i hi => (hl1.cell (p := ⟨g, i, none⟩) hgw).trans (hcell i hi)
      go_wp2
      go_loop [5, 6] (fun t i => ∃ m : Nat, m ≤ zs.length ∧ i = .int .i64 ((m : Int) - 1) ∧ t = .int .i64 (placeFrom zs x m)) (fun _ i => (intOf i + 1).toNat)
      case atStart => exact ⟨zs.length, Nat.le_refl _, rfl, by rw [placeFrom_end]⟩
      case round =>
        obtain ⟨m, hm, rfl, rfl⟩ := hrel
        have hpm := placeFrom_le zs x m hm
        cases m with
        | succ k =>
          have hlt : k < zs.length := by omega
          have hcx := c1 k hlt
          have ek : ((k + 1 : Nat) : Int) - 1 = (k : Int) := by omega
          rw [ek]
          clear ek
          go_wp2
          · go_round
            case rel => exact ⟨k, by omega, rfl, by rw [placeFrom_yes hlt ‹_›]⟩
            case measure => simp [intOf]
          · go_round
            case rel => exact ⟨k, by omega, rfl, by rw [placeFrom_no hlt (Int.not_lt.2 ‹_›)]⟩
            case measure => simp [intOf]
        | zero =>
          rw [placeFrom_zero, HP.out]
          go_wp2_with (at_builtin; refine wpList_append_ints _ rfl (.tmp 30) (.tmp 33) 25 rfl w.heap.size 3 Try.underlying25 Try.infoInt _ [] rfl (OwnInts.empty hl1.size) _ _ _ (zs.take p) rfl (by simp; omega) ((hr.below (hl1.alloc hl1.size _)).take p) (by simp; omega) (Nat.le_trans hl1.size (by simp)) ?_)
          intro v4 w4 hown4 hgr4
          have k4 := (hl1.alloc hl1.size _).grown hgr4 (Nat.le_trans hl1.size (by simp)) (fun k hk => by cases hk; exact hl1.size)
          go_wp2_with (at_builtin; refine wpList_append_ints _ rfl (.tmp 35) (.tmp 37) 25 rfl w.heap.size 3 Try.underlying25 Try.infoInt _ _ rfl (hown4.alloc _) _ _ _ [x] rfl rfl (Reads.new _ _ _) (by simp; omega) (Nat.le_trans k4.size (by simp)) ?_)
          intro v5 w5 hown5 hgr5
          have k5 := (k4.alloc k4.size _).grown hgr5 (Nat.le_trans k4.size (by simp)) (fun k hk => (hown4.block k hk).1)
          have C5 : Hid (∀ i, i < zs.length → w5.cell? ⟨g, i, none⟩ = some (.int .i64 (zs.getD i 0))) := fun i hi => (k5.cell (p := ⟨g, i, none⟩) hgw).trans (hcell i hi)
          clear c1 hcell
          have gw5 := Nat.lt_of_lt_of_le hgw k5.size
          have hlen5 : (zs.take p ++ [x]).length + (zs.drop p).length ≤ 1099511627776 := by simp; omega
          go_wp2_with (at_builtin; refine wpList_append_ints _ rfl (.tmp 39) (.tmp 42) 25 rfl w.heap.size 3 Try.underlying25 Try.infoInt _ _ rfl hown5 _ _ _ (zs.drop p) rfl (by simp) (Reads.drop gw5 C5.out (by intro hk; first | rfl | rw [if_neg (by omega)] | (exfalso; omega))) hlen5 k5.size ?_)
          all_goals
            intro v6 w6 hown6 hgr6
            have k6 := k5.grown hgr6 k5.size (fun k hk => (hown5.block k hk).1)
            go_wp2
            go_ret
            refine ⟨v6, rfl, ?_, k6⟩
            rw [addL_no hh, HP.out]
            simpa using hown6
  · obtain ⟨a, cap, rfl, hr⟩ := h.shape
    go_enter Try.func45, Try.ntmps45
    go_wp2_with fail
    refine (specSetHas_any _ _ zs x _ hr (by omega)).mono ?_
    rintro e w1 ⟨rfl, hl1⟩
    rw [hh]
    go_wp2_with (at_builtin; refine wpList_append_ints _ rfl (.tmp 11) (.tmp 12) 25 rfl w.heap.size 3 Try.underlying25 Try.infoInt _ [] rfl (OwnInts.empty hl1.size) _ _ _ zs rfl rfl (hr.below (hl1.alloc hl1.size _)) (by simp; omega) (Nat.le_trans hl1.size (by simp)) ?_)
    intro v2 w2 hown2 hgr2
    go_wp2
    go_ret
    rw [addL_yes hh]
    exact ⟨v2, rfl, by simpa using hown2, (hl1.alloc hl1.size _).grown hgr2 (Nat.le_trans hl1.size (by simp)) (fun k hk => by cases hk; exact hl1.size)⟩

theorem specSetAdd_any (base : Nat) (v : Value) (zs : List Int) (x : Int) (w : World) (h : OwnInts w base 3 v zs) (hl : zs.length ≤ 1048576 * 3) :
    Calls Try.prog 45 #[v, .int .i64 x] w fun e w' => ∃ v', e = .returned v' ∧ OwnInts w' w.heap.size 3 v' (addL zs x) ∧ Below w.heap.size w w' := specSetAdd_p v zs x w h.parts hl
end Go.Proofs.Ytdniejpblhbjkab
namespace Go.Proofs.Ytdniejpblhbjkab
open Go.RowKit

theorem specSetJoin_r (a : Option Addr) (c : Nat) (a2 : Option Addr) (c2 : Nat) (xs ys : List Int) (w : World) (hr : Reads w a xs) (gr : Reads w a2 ys) (hl : xs.length ≤ 1048576) (gl : ys.length ≤ 1048576) :
    Calls Try.prog 50 #[.slice a xs.length c, .slice a2 ys.length c2] w fun e w' => ∃ v', e = .returned v' ∧ OwnInts w' w.heap.size 3 v' (joinL xs ys) ∧ Below w.heap.size w w' := by
  go_enter Try.func50, Try.ntmps50
  go_wp2_with (at_builtin; refine wpList_append_ints _ rfl (.tmp 7) (.tmp 8) 25 rfl w.heap.size 3 Try.underlying25 Try.infoInt _ [] rfl (OwnInts.empty (Nat.le_refl _)) _ _ _ xs rfl rfl (hr.below ((Below.refl _ _).alloc (Nat.le_refl _) _)) (by simp; omega) (by simp) ?_)
  intro v1 w1 o1 hg1
  have hl1 := ((Below.refl w.heap.size w).alloc (Nat.le_refl _) _).grown hg1 (by simp) (fun k hk => by cases hk; exact Nat.le_refl _)
  go_wp2
  go_loopw [5, 6] (fun t i wr => ∃ k : Nat, k ≤ ys.length ∧ i = .int .i64 k ∧ OwnInts wr w.heap.size 3 t (joinL xs (ys.take k)) ∧ Below w.heap.size w wr) (fun _ i _ => ys.length - (intOf i).toNat)
  case atStart => exact ⟨0, Nat.zero_le _, rfl, by simpa [joinL] using o1, hl1⟩
  case round =>
    obtain ⟨k, hk, rfl, hown, hbel⟩ := hrel
    have hj := joinL_length_le xs (ys.take k)
    rw [List.length_take, Nat.min_eq_left hk] at hj
    by_cases hlt : k < ys.length
    · obtain ⟨b, o, rfl, hb, hc⟩ := gr.at hlt
      have hcx := (hbel.cell (p := ⟨b, o + k, none⟩) hb).trans (hc k hlt)
      go_wp2_with fail
      refine (specSetAdd_any _ _ _ _ _ hown (by omega)).mono ?_
      rintro e w2 ⟨v2, rfl, o2, hl2⟩
      go_wp2
      go_roundw
      case rel => exact ⟨k + 1, by omega, by go_num, by rw [← joinL_step hlt]; exact o2.base hbel.size, hbel.trans (hl2.mono hbel.size)⟩
      case measure => simp [intOf]; omega
    · go_wp2
      go_ret
      exact ⟨_, rfl, by rw [List.take_of_length_le (by omega)] at hown; exact hown, hbel⟩

theorem specSetJoin_any (b1 b2 : Nat) (u v : Value) (xs ys : List Int) (w : World) (h : OwnInts w b1 3 u xs) (g : OwnInts w b2 3 v ys) (hl : xs.length ≤ 1048576) (gl : ys.length ≤ 1048576) :
    Calls Try.prog 50 #[u, v] w fun e w' => ∃ v', e = .returned v' ∧ OwnInts w' w.heap.size 3 v' (joinL xs ys) ∧ Below w.heap.size w w' := by
  obtain ⟨a, c, rfl, hr, _⟩ := h.shape
  obtain ⟨a2, c2, rfl, gr, _⟩ := g.shape
  exact specSetJoin_r a c a2 c2 xs ys w hr gr hl gl
end Go.Proofs.Ytdniejpblhbjkab
namespace Go.Proofs.Ytdniejpblhbjkab

theorem mem_addL {zs : List Int} {x z : Int} : z ∈ addL zs x ↔ z = x ∨ z ∈ zs := by
  unfold addL
  split
  · constructor
    · exact .inr
    · rintro (rfl | h)
      · assumption
      · exact h
  · have e : ∀ p, z ∈ zs.take p ++ [x] ++ zs.drop p ↔ z = x ∨ z ∈ zs := by
      intro p
      have : z ∈ zs ↔ z ∈ zs.take p ∨ z ∈ zs.drop p := by rw [← List.mem_append, List.take_append_drop]
      rw [this]; simp only [List.mem_append, List.mem_singleton]
      constructor
      · rintro ((h | h) | h)
        · exact .inr (.inl h)
        · exact .inl h
        · exact .inr (.inr h)
      · rintro (h | h | h)
        · exact .inl (.inr h)
        · exact .inl (.inl h)
        · exact .inr h
    exact e _

theorem mem_joinL {xs ys : List Int} {z : Int} : z ∈ joinL xs ys ↔ z ∈ xs ∨ z ∈ ys := by
  induction ys generalizing xs with
  | nil => simp [joinL]
  | cons y ys ih =>
    show z ∈ joinL (addL xs y) ys ↔ _
    rw [ih, mem_addL]
    simp only [List.mem_cons]
    constructor
    · rintro ((h | h) | h)
      · exact .inr (.inl h)
      · exact .inl h
      · exact .inr (.inr h)
    · rintro (h | h | h)
      · exact .inl (.inr h)
      · exact .inl (.inl h)
      · exact .inr h

theorem hasL_join_left {xs ys : List Int} {k : Nat} (h : k < xs.length) : hasL (joinL xs ys) xs[k] = true := hasL_yes (mem_joinL.2 (.inl (List.getElem_mem h)))
theorem hasL_join_right {xs ys : List Int} {k : Nat} (h : k < ys.length) : hasL (joinL xs ys) ys[k] = true := hasL_yes (mem_joinL.2 (.inr (List.getElem_mem h)))

/-- Each number is below all that follow. -/
theorem pair_of_ok {zs : List Int} (h : okL zs = true) : zs.Pairwise (· < ·) := by
  simp only [okL, decide_eq_true_eq] at h
  have step : ∀ d i, i + d + 1 < zs.length → zs.getD i 0 < zs.getD (i + d + 1) 0 := by
    intro d
    induction d with
    | zero => intro i hi; exact h i (by omega)
    | succ d ih =>
      intro i hi
      have h1 := ih i (by omega)
      have h2 := h (i + d + 1) (by omega)
      have e : i + (d + 1) + 1 = i + d + 1 + 1 := by omega
      rw [e]
      omega
  rw [List.pairwise_iff_getElem]
  intro i j hi hj hij
  have := step (j - i - 1) i (by omega)
  rw [show i + (j - i - 1) + 1 = j by omega] at this
  simpa [List.getD, hi, hj] using this

theorem ok_of_pair {zs : List Int} (h : zs.Pairwise (· < ·)) : okL zs = true := by
  simp only [okL, decide_eq_true_eq]
  intro j hj
  rw [List.pairwise_iff_getElem] at h
  have := h j (j + 1) (by omega) (by omega) (by omega)
  have h1 : j < zs.length := by omega
  have h2 : j + 1 < zs.length := by omega
  simpa [List.getD, h1, h2] using this

theorem place_cons (z : Int) (zs : List Int) (x : Int) : placeL (z :: zs) x = if x < z then 0 else placeL zs x + 1 := by
  unfold placeL
  rw [List.findIdx_cons]
  by_cases h : x < z <;> simp [h]

theorem pair_add {zs : List Int} {x : Int} (h : zs.Pairwise (· < ·)) (hx : x ∉ zs) : (zs.take (placeL zs x) ++ [x] ++ zs.drop (placeL zs x)).Pairwise (· < ·) := by
  induction zs with
  | nil => simp [placeL]
  | cons z zs ih =>
    rw [List.pairwise_cons] at h
    rw [place_cons]
    by_cases hz : x < z
    · rw [if_pos hz]
      simp only [List.take_zero, List.nil_append, List.drop_zero, List.singleton_append]
      rw [List.pairwise_cons, List.pairwise_cons]
      refine ⟨fun a ha => ?_, h⟩
      rcases List.mem_cons.1 ha with rfl | ha
      · exact hz
      · have := h.1 a ha; omega
    · rw [if_neg hz]
      simp only [List.take_succ_cons, List.drop_succ_cons, List.cons_append]
      rw [List.pairwise_cons]
      refine ⟨fun a ha => ?_, ih h.2 (fun hm => hx (List.mem_cons_of_mem _ hm))⟩
      have hne : x ≠ z := fun e => hx (by rw [e]; exact List.mem_cons_self ..)
      have : a = x ∨ a ∈ zs := by
        simp only [List.mem_append, List.mem_singleton] at ha
        rcases ha with (ha | ha) | ha
        · exact .inr (List.mem_of_mem_take ha)
        · exact .inl ha
        · exact .inr (List.mem_of_mem_drop ha)
      rcases this with rfl | hm
      · omega
      · exact h.1 a hm

theorem pair_addL {zs : List Int} {x : Int} (h : zs.Pairwise (· < ·)) : (addL zs x).Pairwise (· < ·) := by
  unfold addL
  split
  · exact h
  · exact pair_add h ‹_›

theorem pair_joinL {xs ys : List Int} (h : xs.Pairwise (· < ·)) : (joinL xs ys).Pairwise (· < ·) := by
  induction ys generalizing xs with
  | nil => exact h
  | cons y ys ih => exact ih (pair_addL h)

theorem eq_of_pair : ∀ {xs ys : List Int}, xs.Pairwise (· < ·) → ys.Pairwise (· < ·) → (∀ z, z ∈ xs ↔ z ∈ ys) → xs = ys
  | [], [], _, _, _ => rfl
  | [], y :: ys, _, _, h => absurd ((h y).2 (List.mem_cons_self ..)) (by simp)
  | x :: xs, [], _, _, h => absurd ((h x).1 (List.mem_cons_self ..)) (by simp)
  | x :: xs, y :: ys, hx, hy, h => by
    rw [List.pairwise_cons] at hx hy
    have hxy : x = y := by
      have h1 := (h x).1 (List.mem_cons_self ..)
      have h2 := (h y).2 (List.mem_cons_self ..)
      rcases List.mem_cons.1 h1 with e | h1
      · exact e
      · rcases List.mem_cons.1 h2 with e | h2
        · exact e.symm
        · have a := hy.1 x h1
          have b := hx.1 y h2
          omega
    subst hxy
    congr 1
    refine eq_of_pair hx.2 hy.2 fun z => ⟨fun hz => ?_, fun hz => ?_⟩
    · have := hx.1 z hz
      rcases List.mem_cons.1 ((h z).1 (List.mem_cons_of_mem _ hz)) with e | e
      · omega
      · exact e
    · have := hy.1 z hz
      rcases List.mem_cons.1 ((h z).2 (List.mem_cons_of_mem _ hz)) with e | e
      · omega
      · exact e

theorem join_comm {xs ys : List Int} (hx : okL xs = true) (hy : okL ys = true) : joinL xs ys = joinL ys xs :=
  eq_of_pair (pair_joinL (pair_of_ok hx)) (pair_joinL (pair_of_ok hy)) fun z => by rw [mem_joinL, mem_joinL, Or.comm]
theorem join_ok {xs ys : List Int} (hx : okL xs = true) : okL (joinL xs ys) = true := ok_of_pair (pair_joinL (pair_of_ok hx))

theorem cmpL_self (xs : List Int) : cmpL xs xs = 0 := by
  induction xs with
  | nil => rfl
  | cons x xs ih => simp [cmpL, ih]
theorem cmpL_bound : ∀ xs ys : List Int, -1 ≤ cmpL xs ys ∧ cmpL xs ys ≤ 1
  | [], [] => by simp [cmpL]
  | [], _ :: _ => by simp [cmpL]
  | _ :: _, [] => by simp [cmpL]
  | x :: xs, y :: ys => by
    have := cmpL_bound xs ys
    rw [cmpL]
    split
    · omega
    · split <;> omega
theorem cmpL_swap : ∀ xs ys : List Int, cmpL ys xs = - cmpL xs ys
  | [], [] => rfl
  | [], _ :: _ => rfl
  | _ :: _, [] => rfl
  | x :: xs, y :: ys => by
    have := cmpL_swap xs ys
    rw [cmpL, cmpL]
    by_cases h1 : x < y
    · rw [if_neg (by omega), if_pos h1, if_pos h1]; rfl
    · by_cases h2 : y < x
      · rw [if_pos h2, if_neg h1, if_pos h2]
      · rw [if_neg h2, if_neg h1, if_neg h1, if_neg h2, this]
theorem cmpL_trans : ∀ xs ys zs : List Int, cmpL xs ys ≤ 0 → cmpL ys zs ≤ 0 → cmpL xs zs ≤ 0
  | [], _, [], _, _ => by simp [cmpL]
  | [], _, _ :: _, _, _ => by simp [cmpL]
  | _ :: _, [], _, h, _ => by simp [cmpL] at h
  | _ :: _, _ :: _, [], _, h => by simp [cmpL] at h
  | x :: xs, y :: ys, z :: zs, h, g => by
    rw [cmpL] at h g ⊢
    have ih := cmpL_trans xs ys zs
    split at h
    · split at g
      · rw [if_pos (by omega)]; omega
      · split at g
        · omega
        · rw [if_pos (by omega)]; omega
    · split at h
      · omega
      · split at g
        · rw [if_pos (by omega)]; omega
        · split at g
          · omega
          · rw [if_neg (by omega), if_neg (by omega)]
            exact ih h g
end Go.Proofs.Ytdniejpblhbjkab
