/-
  Contracts and plain mathematics, joined: L8Known, FarRes, FarsRes, SureRes, ChooseRes, SpecL8Ok, L8Tab, Flags, SliceLo, L8Row, L8Part. No statement is proved here.
-/
import Derived.Test.YthnppodnjokaoaaGreatDoorG6
import Derived.Test.YthnppodnjokaoaaGreatDoorG2
import Derived.Test.YthnppodnjokaoaaGreatDoorG3
import Derived.Deep.MidRow
import Derived.ChangeKeysEq
import Derived.Test.YthnppodnjokaoaaGreatDoorG4
namespace Go.Proofs.YthnppodnjokaoaaGreatDoor
open Go.RowKit

/-- A row whose symbols are symbols, at most 200. -/
def knownB (n : Nat) (row : List Int) : Bool := decide (row.length ≤ 200) && row.all (symOk n)
theorem knownB_long {n : Nat} {row : List Int} (h : ¬ row.length ≤ 200) : knownB n row = false := by simp [knownB, h]
theorem knownB_no {n : Nat} {row : List Int} (h : row.all (symOk n) = false) : knownB n row = false := by simp [knownB, h]
theorem knownB_yes {n : Nat} {row : List Int} (h : row.length ≤ 200) (g : row.all (symOk n) = true) : knownB n row = true := by simp [knownB, h, g]

set_option maxHeartbeats 1000000 in
set_option maxRecDepth 100000 in
theorem l8Known_any (P : List (List (List Int))) (row : List Int) (aP : Option Addr) (cP : Nat) (ar : Option Addr) (cr : Nat) (w : World) (hr : Reads w ar row) (hp : P.length ≤ 20) (hl : row.length ≤ 4194304) :
    Calls Tryz.prog 22 #[.agg #[.slice aP P.length cP], .slice ar row.length cr] w fun e w' => e = .returned (.bool (knownB P.length row)) ∧ Below w.heap.size w w' := by
  have hb0 : Below w.heap.size w (w.alloc (.cells #[.slice aP P.length cP] 29)) := (Below.refl _ _).alloc (Nat.le_refl _) _
  by_cases hlong : row.length ≤ 200
  · have hbI : ¬ (200 : Int) < (row.length : Int) := by omega
    have HR : Hid (Reads w ar row) := hr
    have HB0 : Hid (Below w.heap.size w (w.alloc (.cells #[.slice aP P.length cP] 29))) := hb0
    have qg : (w.alloc (.cells #[.slice aP P.length cP] 29)).cell? ⟨w.heap.size, 0, none⟩ = some (.slice aP P.length cP) := by simp
    have hgl : w.heap.size < (w.alloc (.cells #[.slice aP P.length cP] 29)).heap.size := by simp
    have HQ : Hid (∀ W, Below (w.alloc (.cells #[.slice aP P.length cP] 29)).heap.size (w.alloc (.cells #[.slice aP P.length cP] 29)) W → W.cell? ⟨w.heap.size, 0, none⟩ = some (.slice aP P.length cP)) := fun W hW => (hW.cell (p := ⟨w.heap.size, 0, none⟩) hgl).trans qg
    have HRF : Hid (Below (w.alloc (.cells #[.slice aP P.length cP] 29)).heap.size (w.alloc (.cells #[.slice aP P.length cP] 29)) (w.alloc (.cells #[.slice aP P.length cP] 29))) := Below.refl _ _
    clear hr hb0 qg hgl
    go_enter Tryz.func22, Tryz.ntmps22
    go_wp2
    generalize w.alloc (.cells #[.slice aP P.length cP] 29) = wG at *
    go_loopw [5] (fun i wr => ∃ k : Nat, k ≤ row.length ∧ i = .int .i64 k ∧ Hid ((row.take k).all (symOk P.length) = true) ∧ Hid (Below wG.heap.size wG wr)) (fun i _ => row.length - (intOf i).toNat)
    case atStart => exact ⟨0, Nat.zero_le _, rfl, by show _ = _; simp, HRF⟩
    case round =>
      obtain ⟨k, hk, rfl, HK, HBe⟩ := hrel
      have hbw : Below w.heap.size w wr := HB0.out.trans (HBe.out.mono HB0.out.size)
      by_cases hlt : k < row.length
      · obtain ⟨b, off, rfl, hb1, hc⟩ := (HR.out.below hbw).at hlt
        have q1 := hc k hlt
        rw [List.getD_eq_getElem?_getD, List.getElem?_eq_getElem hlt, Option.getD_some] at q1
        have qg := HQ.out wr HBe.out
        have HS : Hid (symOk P.length row[k] = true → (row.take (k + 1)).all (symOk P.length) = true) := fun g => all_step HK.out hlt g
        have HN : Hid (symOk P.length row[k] = false → knownB P.length row = false) := fun g => knownB_no (all_no hlt g)
        clear hc HK
        generalize row[k] = z at *
        by_cases z1 : inB z 0 25 = true
        · have HSS := HS.out (by simp [symOk, z1])
          clear HS HN
          go_wp2
          go_quiet ((go_at_call 21; exact Calls.quiet_of_same (l1In_any _ _ _ _)))
          have HBn : Hid (Below wG.heap.size wG (wr.drewN nq)) := HBe.out.trans ((below_drew (w := wr) nq).mono HBe.out.size)
          clear HBe q1 qg hbw hb1
          generalize wr.drewN nq = wq at *
          go_wp2
          go_roundw
          case rel => exact ⟨k + 1, by omega, by go_num, HSS, HBn⟩
          case measure => simp [intOf]; omega
        · have z1' : inB z 0 25 = false := by simpa using z1
          clear z1
          by_cases z2 : inB z 100 (100 + P.length - 1) = true
          · have HSS := HS.out (by simp [symOk, z2])
            clear HS HN
            go_wp2
            go_quiet ((go_at_call 21; exact Calls.quiet_of_same (l1In_any _ _ _ _)))
            have HBn : Hid (Below wG.heap.size wG (wr.drewN nq)) := HBe.out.trans ((below_drew (w := wr) nq).mono HBe.out.size)
            clear HBe q1 qg hbw hb1
            generalize wr.drewN nq = wq at *
            go_wp2
            go_roundw
            case rel => exact ⟨k + 1, by omega, by go_num, HSS, HBn⟩
            case measure => simp [intOf]; omega
          · have z2' : inB z 100 (100 + P.length - 1) = false := by simpa using z2
            have HNN := HN.out (by simp [symOk, z1', z2'])
            clear HS HN z2
            go_wp2
            go_quiet ((go_at_call 21; exact Calls.quiet_of_same (l1In_any _ _ _ _)))
            have HBn : Hid (Below w.heap.size w (wr.drewN nq)) := hbw.trans ((below_drew (w := wr) nq).mono hbw.size)
            clear HBe q1 qg hbw hb1
            generalize wr.drewN nq = wq at *
            go_wp2
            go_ret
            exact ⟨ret_bool (by rw [HNN]), HBn.out⟩
      · have HE : Hid (knownB P.length row = true) := knownB_yes hlong (all_end HK.out hlt)
        have HBn : Hid (Below w.heap.size w wr) := hbw
        clear HK HBe hbw
        go_wp2
        go_ret
        exact ⟨ret_bool (by rw [HE.out]), HBn.out⟩
  · have hbI : (200 : Int) < (row.length : Int) := by omega
    rw [knownB_long hlong]
    go_enter Tryz.func22, Tryz.ntmps22
    go_wp2
    go_ret
    exact ⟨rfl, hb0⟩
end Go.Proofs.YthnppodnjokaoaaGreatDoor
namespace Go.Proofs.YthnppodnjokaoaaGreatDoor
open Go.RowKit

/-- All is right for a question at place n. -/
def rightAt (x : Gm) (ws : List Int) (n : Int) : Bool := decide (resCheck x = 0) && inputOkB ws && inB n 0 ws.length
theorem rightAt_check {x : Gm} {ws : List Int} {n : Int} (h : resCheck x ≠ 0) : rightAt x ws n = false := by simp [rightAt, h]
theorem rightAt_input {x : Gm} {ws : List Int} {n : Int} (h : inputOkB ws = false) : rightAt x ws n = false := by simp [rightAt, h]
theorem rightAt_all {x : Gm} {ws : List Int} {n : Int} (h1 : resCheck x = 0) (h2 : inputOkB ws = true) : rightAt x ws n = inB n 0 ws.length := by simp [rightAt, h1, h2]
theorem rightAt_yes {x : Gm} {ws : List Int} {n : Int} (h : rightAt x ws n = true) : resCheck x = 0 ∧ inputOkB ws = true ∧ 0 ≤ n ∧ n ≤ ws.length := by
  simp only [rightAt, Bool.and_eq_true, decide_eq_true_eq, inB_true] at h
  exact ⟨h.1.1, h.1.2, h.2.1, h.2.2⟩
/-- What Far answers. -/
def resFar (x : Gm) (row ws : List Int) (n : Int) : Int := if (rightAt x ws n && knownB x.parts.length row) = true then (farOf x.parts row ws n.toNat : Int) else -1
theorem resFar_wrong {x : Gm} {row ws : List Int} {n : Int} (h : rightAt x ws n = false) : resFar x row ws n = -1 := by simp [resFar, h]
theorem resFar_row {x : Gm} {row ws : List Int} {n : Int} (h : knownB x.parts.length row = false) : resFar x row ws n = -1 := by simp [resFar, h]
theorem resFar_all {x : Gm} {row ws : List Int} {n : Int} (h1 : rightAt x ws n = true) (h2 : knownB x.parts.length row = true) : resFar x row ws n = (farOf x.parts row ws n.toNat : Int) := by simp [resFar, h1, h2]
theorem knownB_len {n : Nat} {row : List Int} (h : knownB n row = true) : row.length ≤ 200 := by simp only [knownB, Bool.and_eq_true, decide_eq_true_eq] at h; exact h.1
theorem knownB_sym {n : Nat} {row : List Int} (h : knownB n row = true) : ∀ x ∈ row, symOk n x = true := by
  simp only [knownB, Bool.and_eq_true, List.all_eq_true] at h; exact h.2
theorem nat_of {n : Int} (h : 0 ≤ n) : ((n.toNat : Nat) : Int) = n := by omega
end Go.Proofs.YthnppodnjokaoaaGreatDoor
namespace Go.Proofs.YthnppodnjokaoaaGreatDoor
open Go.RowKit

/-- Far of each alternative of part k with rest behind it. -/
def altFars (P : List (List (List Int))) (k : Nat) (rest ws : List Int) (n : Nat) : List Int := (P.getD k []).map fun a => (farOf P (a ++ rest) ws n : Int)
def altsKnown (P : List (List (List Int))) (k : Nat) (rest : List Int) : Bool := (P.getD k []).all fun a => knownB P.length (a ++ rest)
/-- None, where something is not as it should be. -/
def farsL (x : Gm) (k : Int) (rest ws : List Int) (n : Int) : List Int :=
  if (rightAt x ws n && inB k 0 (x.parts.length - 1) && altsKnown x.parts k.toNat rest) = true then altFars x.parts k.toNat rest ws n.toNat else []
theorem farsL_wrong {x : Gm} {k : Int} {rest ws : List Int} {n : Int} (h : rightAt x ws n = false) : farsL x k rest ws n = [] := by simp [farsL, h]
theorem farsL_part {x : Gm} {k : Int} {rest ws : List Int} {n : Int} (h : inB k 0 (x.parts.length - 1) = false) : farsL x k rest ws n = [] := by simp [farsL, h]
theorem farsL_row {x : Gm} {k : Nat} {rest ws : List Int} {n : Int} {a : Nat} (hk : k < x.parts.length) (ha : a < x.parts[k].length) (h : knownB x.parts.length (x.parts[k][a] ++ rest) = false) : farsL x (k : Int) rest ws n = [] := by
  have : altsKnown x.parts k rest = false := by
    unfold altsKnown
    have e : x.parts.getD k [] = x.parts[k] := by simp [List.getD, hk]
    rw [e, List.all_eq_false]
    exact ⟨x.parts[k][a], List.getElem_mem ha, by simp [h]⟩
  simp [farsL, this]
theorem farsL_all {x : Gm} {k : Nat} {rest ws : List Int} {n : Int} (h1 : rightAt x ws n = true) (hk : k < x.parts.length) (h : ∀ a (ha : a < x.parts[k].length), knownB x.parts.length (x.parts[k][a] ++ rest) = true) : farsL x (k : Int) rest ws n = altFars x.parts k rest ws n.toNat := by
  have h2 : inB (k : Int) 0 (x.parts.length - 1) = true := by rw [inB_true]; omega
  have h3 : altsKnown x.parts k rest = true := by
    unfold altsKnown
    have e : x.parts.getD k [] = x.parts[k] := by simp [List.getD, hk]
    rw [e, List.all_eq_true]
    intro y hy
    obtain ⟨a, ha, rfl⟩ := List.getElem_of_mem hy
    exact h a ha
  unfold farsL
  rw [h1, h2, Int.toNat_natCast, h3]; rfl
theorem altFars_length {P : List (List (List Int))} {k : Nat} (hk : k < P.length) (rest ws : List Int) (n : Nat) : (altFars P k rest ws n).length = P[k].length := by simp [altFars, List.getD, hk]
theorem altFars_take {P : List (List (List Int))} {k a : Nat} (hk : k < P.length) (ha : a < P[k].length) (rest ws : List Int) (n : Nat) : (altFars P k rest ws n).take (a + 1) = (altFars P k rest ws n).take a ++ [(farOf P (P[k][a] ++ rest) ws n : Int)] := by
  have h : a < (altFars P k rest ws n).length := by rw [altFars_length hk]; exact ha
  rw [List.take_succ_eq_append_getElem h]
  congr 2
  simp [altFars, List.getD, hk]
end Go.Proofs.YthnppodnjokaoaaGreatDoor
namespace Go.Proofs.YthnppodnjokaoaaGreatDoor
open Go.RowKit

/-- The places of t among the first. -/
def sureTo (fs : List Int) (t : Int) : Nat → List Int
  | 0 => []
  | a + 1 => if fs.getD a 0 = t then sureTo fs t a ++ [(a : Int)] else sureTo fs t a
theorem sureTo_len (fs : List Int) (t : Int) (a : Nat) : (sureTo fs t a).length ≤ a := by
  induction a with
  | zero => simp [sureTo]
  | succ a ih =>
    rw [sureTo]
    split
    · rw [List.length_append, List.length_singleton]; omega
    · omega
def resSure (x : Gm) (k : Int) (rest ws : List Int) (n : Int) : List Int := sureTo (farsL x k rest ws n) (ws.length - n + 1) (farsL x k rest ws n).length
theorem farsL_len {x : Gm} {k : Int} {rest ws : List Int} {n : Int} : (farsL x k rest ws n).length ≤ 8 := by
  unfold farsL
  split
  · rename_i h
    simp only [Bool.and_eq_true] at h
    obtain ⟨⟨h1, h2⟩, _⟩ := h
    have F := Fits.of (resCheck_ok (rightAt_yes h1).1).1
    obtain ⟨k1, k2⟩ := inB_true.1 h2
    have hk : k.toNat < x.parts.length := by omega
    rw [altFars_length hk]
    exact F.alts _ (List.getElem_mem hk)
  · simp
theorem farsL_right {x : Gm} {k : Int} {rest ws : List Int} {n : Int} (h : farsL x k rest ws n ≠ []) : 0 ≤ n ∧ n ≤ ws.length ∧ ws.length ≤ 10 := by
  cases hr : rightAt x ws n
  · exact absurd (farsL_wrong hr) h
  · obtain ⟨_, r2, r3, r4⟩ := rightAt_yes hr
    exact ⟨r3, r4, inputOkB_len r2⟩
theorem resSure_len (x : Gm) (k : Int) (rest ws : List Int) (n : Int) : (resSure x k rest ws n).length ≤ 8 := Nat.le_trans (sureTo_len _ _ _) farsL_len
theorem resSure_le (x : Gm) (k : Int) (rest ws : List Int) (n : Int) (_ : Lay.gram.wt x ≤ 1048576) (_ : Lay.gram.fit x) (_ : (Lit.int .i64 k).wf = true) (_ : rest.length ≤ 1048576) (_ : (Lay.list Lay.int).fit rest) (_ : ws.length ≤ 1048576) (_ : (Lay.list Lay.int).fit ws) (_ : (Lit.int .i64 n).wf = true) : (Lay.list Lay.int).wt (resSure x k rest ws n) ≤ 2097152 := by
  have := resSure_len x k rest ws n
  rw [Lay.wt_ints]; omega
theorem farsL_range {x : Gm} {k : Int} {rest ws : List Int} {n : Int} : ∀ y ∈ farsL x k rest ws n, 0 ≤ y ∧ y ≤ 11 := by
  intro y hy
  unfold farsL at hy
  split at hy
  · rename_i h
    simp only [Bool.and_eq_true] at h
    obtain ⟨⟨h1, _⟩, _⟩ := h
    obtain ⟨_, r2, r3, r4⟩ := rightAt_yes h1
    have hl := inputOkB_len r2
    simp only [altFars, List.mem_map] at hy
    obtain ⟨a, _, rfl⟩ := hy
    have hle : farRow ws (way x.parts ws) (farP x.parts ws) n.toNat (a ++ rest) ≤ ws.length := farRow_le (by omega) (fun k j hj => farP_le x.parts ws k j hj)
    unfold farOf
    split <;> omega
  · simp at hy
end Go.Proofs.YthnppodnjokaoaaGreatDoor
namespace Go.Proofs.YthnppodnjokaoaaGreatDoor
open Go.RowKit

/-- The first of the greatest among the first. -/
def bestTo (fs : List Int) : Nat → Nat
  | 0 => 0
  | a + 1 => if fs.getD a 0 > fs.getD (bestTo fs a) 0 then a else bestTo fs a
/-- The greatest among the first, b left out; -1 where there is none. -/
def secTo (fs : List Int) (b : Nat) : Nat → Int
  | 0 => -1
  | a + 1 => if a = b then secTo fs b a else max (secTo fs b a) (fs.getD a 0)
theorem bestTo_lt (fs : List Int) (a : Nat) : bestTo fs a ≤ a - 1 := by
  induction a with
  | zero => simp [bestTo]
  | succ a ih =>
    rw [bestTo]
    split <;> omega
theorem bestTo_one (fs : List Int) : bestTo fs 1 = 0 := by
  have := bestTo_lt fs 1
  omega
theorem secTo_range (fs : List Int) (b : Nat) (h : ∀ y ∈ fs, 0 ≤ y ∧ y ≤ 11) (a : Nat) : -1 ≤ secTo fs b a ∧ secTo fs b a ≤ 11 := by
  induction a with
  | zero => simp [secTo]
  | succ a ih =>
    rw [secTo]
    split
    · exact ih
    · have : fs.getD a 0 ≤ 11 := by
        rw [List.getD_eq_getElem?_getD]
        by_cases ha : a < fs.length
        · rw [List.getElem?_eq_getElem ha]
          exact (h _ (List.getElem_mem ha)).2
        · rw [List.getElem?_eq_none (by omega)]; decide
      omega
def resChoose (x : Gm) (k : Int) (rest ws : List Int) (n : Int) : Int × Int :=
  if farsL x k rest ws n = [] then (-1, 0)
  else ((bestTo (farsL x k rest ws n) (farsL x k rest ws n).length : Int), min (ws.length - n) (secTo (farsL x k rest ws n) (bestTo (farsL x k rest ws n) (farsL x k rest ws n).length) (farsL x k rest ws n).length + 1))
end Go.Proofs.YthnppodnjokaoaaGreatDoor
namespace Go.Proofs.YthnppodnjokaoaaGreatDoor
open Go.RowKit

set_option maxHeartbeats 1000000 in
set_option maxRecDepth 100000 in
theorem l8Ok_any (x : Gm) (a0 : Option Addr) (c0 : Nat) (z2 : List Int) (a2 : Option Addr) (c2 : Nat) (n : Int) (w : World) (h0 : RD w (.slice a0 x.parts.length c0) (slD (Lay.list (Lay.list Lay.int)) x.parts)) (h2 : RD w (.slice a2 z2.length c2) (slD Lay.int z2)) (hn : Lay.gram.wt x ≤ 1048576) (hf : Lay.gram.fit x) (hl2 : z2.length ≤ 1048576) (hz2 : (Lay.list Lay.int).fit z2) :
    Calls Tryz.prog 20 #[.agg #[.slice a0 x.parts.length c0], .slice a2 z2.length c2, .int .i64 n] w fun e w' => e = .returned (.bool (rightAt x z2 n)) ∧ Below w.heap.size w w' := by
  have B0 := (Below.refl w.heap.size w).alloc (Nat.le_refl _) (.cells #[.slice a0 x.parts.length c0] 29)
  have HK : Hid (∀ W : World, Below w.heap.size w W → Calls Tryz.prog 33 #[.agg #[.slice a0 x.parts.length c0]] W fun e w' => e = .returned (.int .i64 (resCheck x)) ∧ Below W.heap.size W w') := fun W hW => specCheck_any x a0 c0 W (h0.later hW) hn hf
  have HI : Hid (∀ W : World, Below w.heap.size w W → Calls Tryz.prog 34 #[.slice a2 z2.length c2] W fun e w' => e = .returned (.bool (inputOkB z2)) ∧ Below W.heap.size W w') := fun W hW => specInputOk_any z2 a2 c2 W (h2.later hW) hl2 hz2
  have D1 : Hid (resCheck x ≠ 0 → rightAt x z2 n = false) := rightAt_check
  have D2 : Hid (inputOkB z2 = false → rightAt x z2 n = false) := rightAt_input
  have D3 : Hid (resCheck x = 0 → inputOkB z2 = true → rightAt x z2 n = inB n 0 z2.length) := rightAt_all
  have hgl : w.heap.size < (w.alloc (.cells #[.slice a0 x.parts.length c0] 29)).heap.size := by simp
  have qg : (w.alloc (.cells #[.slice a0 x.parts.length c0] 29)).cell? ⟨w.heap.size, 0, none⟩ = some (.slice a0 x.parts.length c0) := by simp
  clear h0 h2 hn hf hz2
  generalize rightAt x z2 n = R at *
  generalize resCheck x = rc at *
  generalize x.parts = P at *
  by_cases hc : rc = 0
  · have D3c := D3.out hc
    subst hc
    by_cases hi : inputOkB z2 = true
    · have E : Hid (R = inB n 0 z2.length) := D3c hi
      rw [hi] at HI
      clear D1 D2 D3 D3c hi
      go_enter Tryz.func20, Tryz.ntmps20
      go_wp2_with (first | (go_at_call 33; refine (HK.out _ B0).mono ?_; rintro e w1 ⟨rfl, hb1⟩; have g1 := (hb1.cell (p := ⟨w.heap.size, 0, none⟩) hgl).trans qg; have B1 := B0.trans (hb1.mono B0.size); have l1 := Nat.lt_of_lt_of_le hgl hb1.size) | (go_at_call 34; refine (HI.out _ B1).mono ?_; rintro e w2 ⟨rfl, hb2⟩; have g2 := (hb2.cell (p := ⟨w.heap.size, 0, none⟩) l1).trans g1; have B2 := B1.trans (hb2.mono B1.size); have l2 := Nat.lt_of_lt_of_le l1 hb2.size) | (go_at_call 21; refine (l1In_any _ _ _ _).mono ?_; rintro e w3 ⟨rfl, h3⟩; replace h3 := h3.symm; subst h3))
      go_ret
      exact ⟨ret_bool (by rw [E.out]), B2⟩
    · have hi' : inputOkB z2 = false := by simpa using hi
      have E : Hid (R = false) := D2.out hi'
      rw [hi'] at HI
      clear D1 D2 D3 D3c hi hi'
      go_enter Tryz.func20, Tryz.ntmps20
      go_wp2_with (first | (go_at_call 33; refine (HK.out _ B0).mono ?_; rintro e w1 ⟨rfl, hb1⟩; have g1 := (hb1.cell (p := ⟨w.heap.size, 0, none⟩) hgl).trans qg; have B1 := B0.trans (hb1.mono B0.size); have l1 := Nat.lt_of_lt_of_le hgl hb1.size) | (go_at_call 34; refine (HI.out _ B1).mono ?_; rintro e w2 ⟨rfl, hb2⟩; have g2 := (hb2.cell (p := ⟨w.heap.size, 0, none⟩) l1).trans g1; have B2 := B1.trans (hb2.mono B1.size); have l2 := Nat.lt_of_lt_of_le l1 hb2.size))
      go_ret
      exact ⟨ret_bool E.out.symm, B2⟩
  · have E : Hid (R = false) := D1.out hc
    have hcb : (rc == 0) = false := by simp [hc]
    clear D1 D2 D3
    go_enter Tryz.func20, Tryz.ntmps20
    go_wp2_with (go_at_call 33; refine (HK.out _ B0).mono ?_; rintro e w1 ⟨rfl, hb1⟩; have g1 := (hb1.cell (p := ⟨w.heap.size, 0, none⟩) hgl).trans qg; have B1 := B0.trans (hb1.mono B0.size); have l1 := Nat.lt_of_lt_of_le hgl hb1.size)
    go_ret
    exact ⟨ret_bool E.out.symm, B1⟩
end Go.Proofs.YthnppodnjokaoaaGreatDoor
namespace Go.Proofs.YthnppodnjokaoaaGreatDoor
open Go.RowKit

/-- Where it lies. -/
structure FP where
  bS : Nat
  oF : Nat
  oD : Nat
  cF : Nat
  cD : Nat
  bF : Nat → Nat
  bD : Nat → Nat
/-- Its rows' blocks: they alone turn. -/
def FP.M (f : FP) (K : Nat) (b : Nat) : Prop := ∃ k, k < K ∧ (b = f.bF k ∨ b = f.bD k)
structure FPOk (f : FP) (t : TP) (K base : Nat) : Prop where
  fF : ∀ i j, i < K → j < K → f.bF i = f.bF j → i = j
  dD : ∀ i j, i < K → j < K → f.bD i = f.bD j → i = j
  fD : ∀ i j, i < K → j < K → f.bF i ≠ f.bD j
  S : ¬ f.M K f.bS
  oF : ¬ f.M K f.oF
  oD : ¬ f.M K f.oD
  base : ∀ b, f.M K b → base ≤ b
  off : ∀ b, t.M K b → ¬ f.M K b ∧ b ≠ f.bS ∧ b ≠ f.oF ∧ b ≠ f.oD
  offT : ∀ b, f.M K b → b ≠ t.bT ∧ b ≠ t.oW ∧ b ≠ t.oD

section
variable (P : List (List (List Int))) (ws : List Int) (w0 : World) (t : TP) (f : FP)
structure FarT (w : World) : Prop where
  ok : FPOk f t P.length w0.heap.size
  lt : f.bS < w.heap.size ∧ f.oF < w.heap.size ∧ f.oD < w.heap.size ∧ ∀ b, f.M P.length b → b < w.heap.size
  c0 : w.cell? ⟨f.bS, 0, none⟩ = some (.pointer (some ⟨t.bT, 0, none⟩))
  c1 : w.cell? ⟨f.bS, 1, none⟩ = some (.slice (some ⟨f.oF, 0, none⟩) P.length f.cF)
  c2 : w.cell? ⟨f.bS, 2, none⟩ = some (.slice (some ⟨f.oD, 0, none⟩) P.length f.cD)
  rF : ∀ k, k < P.length → w.cell? ⟨f.oF, k, none⟩ = some (.slice (some ⟨f.bF k, 0, none⟩) (ws.length + 1) (ws.length + 1))
  rD : ∀ k, k < P.length → w.cell? ⟨f.oD, k, none⟩ = some (.slice (some ⟨f.bD k, 0, none⟩) (ws.length + 1) (ws.length + 1))
  fr : ∀ b, f.M P.length b → ∀ i, w.frozen? ⟨b, i, none⟩ = false
  known : ∃ (d : Nat → Nat → Bool) (v : Nat → Nat → Nat), ∀ k i, k < P.length → i ≤ ws.length → w.cell? ⟨f.bD k, i, none⟩ = some (.bool (d k i)) ∧ w.cell? ⟨f.bF k, i, none⟩ = some (.int .i64 (v k i : Int)) ∧ (d k i = true → v k i = farP P ws k i)
end
section
variable {P : List (List (List Int))} {ws : List Int} {w0 : World} {t : TP} {f : FP} {w w' : World}
theorem FP.mF (f : FP) {K k : Nat} (h : k < K) : f.M K (f.bF k) := ⟨k, h, .inl rfl⟩
theorem FP.mD (f : FP) {K k : Nat} (h : k < K) : f.M K (f.bD k) := ⟨k, h, .inr rfl⟩
/-- What is elsewhere turns nothing here. -/
theorem FarT.kept {T : Nat → Prop} (h : FarT P ws w0 t f w) (hw : Within w w' T) (hT : ∀ b, T b → b ≠ f.bS ∧ b ≠ f.oF ∧ b ≠ f.oD ∧ ¬ f.M P.length b) : FarT P ws w0 t f w' := by
  obtain ⟨l1, l2, l3, l4⟩ := h.lt
  have k1 := hw.block f.bS l1 (fun e => (hT _ e).1 rfl)
  have k2 := hw.block f.oF l2 (fun e => (hT _ e).2.1 rfl)
  have k3 := hw.block f.oD l3 (fun e => (hT _ e).2.2.1 rfl)
  have k4 : ∀ b, f.M P.length b → w'.heap[b]? = w.heap[b]? := fun b hm => hw.block b (l4 b hm) (fun e => (hT _ e).2.2.2 hm)
  obtain ⟨d, v, hd⟩ := h.known
  refine ⟨h.ok, ⟨Nat.lt_of_lt_of_le l1 hw.size, Nat.lt_of_lt_of_le l2 hw.size, Nat.lt_of_lt_of_le l3 hw.size, fun b hm => Nat.lt_of_lt_of_le (l4 b hm) hw.size⟩, ?_, ?_, ?_, fun k hk => ?_, fun k hk => ?_, fun b hm i => ?_, d, v, fun k i hk hi => ⟨?_, ?_, (hd k i hk hi).2.2⟩⟩
  · rw [blk_cell k1]; exact h.c0
  · rw [blk_cell k1]; exact h.c1
  · rw [blk_cell k1]; exact h.c2
  · rw [blk_cell k2]; exact h.rF k hk
  · rw [blk_cell k3]; exact h.rD k hk
  · rw [blk_frozen (k4 b hm)]; exact h.fr b hm i
  · rw [blk_cell (k4 _ (f.mD hk))]; exact (hd k i hk hi).1
  · rw [blk_cell (k4 _ (f.mF hk))]; exact (hd k i hk hi).2.1
theorem FarT.later (h : FarT P ws w0 t f w) (hb : Below w.heap.size w w') : FarT P ws w0 t f w' := h.kept (T := fun _ => False) (Within.of_below hb _) (fun _ e => e.elim)
/-- A step over the table of ways turns nothing here. -/
theorem FarT.ways (h : FarT P ws w0 t f w) (hw : Within w w' (t.M P.length)) : FarT P ws w0 t f w' := h.kept hw (fun b e => ⟨(h.ok.off b e).2.1, (h.ok.off b e).2.2.1, (h.ok.off b e).2.2.2, (h.ok.off b e).1⟩)
/-- A number is put in. -/
theorem FarT.storeF (h : FarT P ws w0 t f w) {k i : Nat} (hk : k < P.length) : FarT P ws w0 t f (w.setCell ⟨f.bF k, i, none⟩ (.int .i64 (farP P ws k i : Int))) := by
  obtain ⟨l1, l2, l3, l4⟩ := h.lt
  obtain ⟨d, v, hd⟩ := h.known
  have nS : f.bF k ≠ f.bS := fun e => h.ok.S (e ▸ f.mF hk)
  have nF : f.bF k ≠ f.oF := fun e => h.ok.oF (e ▸ f.mF hk)
  have nD : f.bF k ≠ f.oD := fun e => h.ok.oD (e ▸ f.mF hk)
  refine ⟨h.ok, ⟨by simpa using l1, by simpa using l2, by simpa using l3, fun b hm => by simpa using l4 b hm⟩, ?_, ?_, ?_, fun k' hk' => ?_, fun k' hk' => ?_, fun b hm j => ?_, d, (fun k' i' => if k' = k ∧ i' = i then farP P ws k i else v k' i'), fun k' i' hk' hi' => ⟨?_, ?_, ?_⟩⟩
  · rw [cell_set_off (.inl nS)]; exact h.c0
  · rw [cell_set_off (.inl nS)]; exact h.c1
  · rw [cell_set_off (.inl nS)]; exact h.c2
  · rw [cell_set_off (.inl nF)]; exact h.rF k' hk'
  · rw [cell_set_off (.inl nD)]; exact h.rD k' hk'
  · rw [World.frozen?_setCell]; exact h.fr b hm j
  · rw [cell_set_off (.inl (h.ok.fD k k' hk hk'))]; exact (hd k' i' hk' hi').1
  · have hv := (hd k' i' hk' hi').2.1
    by_cases e : k' = k ∧ i' = i
    · obtain ⟨rfl, rfl⟩ := e
      simp only [and_self, if_true]; exact cell_set hv
    · simp only [if_neg e]
      rw [cell_set_off (by
        by_cases e2 : k = k'
        · exact .inr (fun e3 => e ⟨e2.symm, e3.symm⟩)
        · exact .inl (fun e3 => e2 (h.ok.fF k k' hk hk' e3)))]
      exact hv
  · intro g
    by_cases e : k' = k ∧ i' = i
    · obtain ⟨rfl, rfl⟩ := e
      simp only [and_self, if_true]
    · simp only [if_neg e]; exact (hd k' i' hk' hi').2.2 g
/-- It is told that it is there. -/
theorem FarT.storeD (h : FarT P ws w0 t f w) {k i : Nat} (hk : k < P.length) (hc : w.cell? ⟨f.bF k, i, none⟩ = some (.int .i64 (farP P ws k i : Int))) : FarT P ws w0 t f (w.setCell ⟨f.bD k, i, none⟩ (.bool true)) := by
  obtain ⟨l1, l2, l3, l4⟩ := h.lt
  obtain ⟨d, v, hd⟩ := h.known
  have nS : f.bD k ≠ f.bS := fun e => h.ok.S (e ▸ f.mD hk)
  have nF : f.bD k ≠ f.oF := fun e => h.ok.oF (e ▸ f.mD hk)
  have nD : f.bD k ≠ f.oD := fun e => h.ok.oD (e ▸ f.mD hk)
  refine ⟨h.ok, ⟨by simpa using l1, by simpa using l2, by simpa using l3, fun b hm => by simpa using l4 b hm⟩, ?_, ?_, ?_, fun k' hk' => ?_, fun k' hk' => ?_, fun b hm j => ?_, (fun k' i' => if k' = k ∧ i' = i then true else d k' i'), v, fun k' i' hk' hi' => ⟨?_, ?_, ?_⟩⟩
  · rw [cell_set_off (.inl nS)]; exact h.c0
  · rw [cell_set_off (.inl nS)]; exact h.c1
  · rw [cell_set_off (.inl nS)]; exact h.c2
  · rw [cell_set_off (.inl nF)]; exact h.rF k' hk'
  · rw [cell_set_off (.inl nD)]; exact h.rD k' hk'
  · rw [World.frozen?_setCell]; exact h.fr b hm j
  · have hb := (hd k' i' hk' hi').1
    by_cases e : k' = k ∧ i' = i
    · obtain ⟨rfl, rfl⟩ := e
      simp only [and_self, if_true]; exact cell_set hb
    · simp only [if_neg e]
      rw [cell_set_off (by
        by_cases e2 : k = k'
        · exact .inr (fun e3 => e ⟨e2.symm, e3.symm⟩)
        · exact .inl (fun e3 => e2 (h.ok.dD k k' hk hk' e3)))]
      exact hb
  · rw [cell_set_off (.inl (fun e2 => h.ok.fD k' k hk' hk e2.symm))]; exact (hd k' i' hk' hi').2.1
  · intro g
    by_cases e : k' = k ∧ i' = i
    · obtain ⟨rfl, rfl⟩ := e
      have h1 := (hd k' i' hk' hi').2.1
      rw [hc] at h1
      injection h1 with h1
      injection h1 with _ h1
      omega
    · simp only [if_neg e] at g; exact (hd k' i' hk' hi').2.2 g
end
section
variable {P : List (List (List Int))} {ws : List Int} {w0 : World} {t : TP} {f : FP} {aP : Option Addr} {cP : Nat} {aw : Option Addr} {cw : Nat} {w w' : World}
/-- A store into the one table turns nothing in the other. -/
theorem Tab.far (h : Tab P ws w0 t aP cP aw cw (f.M P.length) w) (hf : FPOk f t P.length w0.heap.size) (hw : Within w w' (f.M P.length)) : Tab P ws w0 t aP cP aw cw (f.M P.length) w' :=
  h.kept hw (fun b e => ⟨e, hf.base b e, (hf.offT b e).1, (hf.offT b e).2.1, (hf.offT b e).2.2, fun g => (hf.off b g).1 e⟩)
end
/-- Both tables. -/
structure Two (P : List (List (List Int))) (ws : List Int) (w0 : World) (t : TP) (f : FP) (aP : Option Addr) (cP : Nat) (aw : Option Addr) (cw : Nat) (w : World) : Prop where
  tab : Tab P ws w0 t aP cP aw cw (f.M P.length) w
  far : FarT P ws w0 t f w
/-- What may turn in a step over both. -/
def TwoM (t : TP) (f : FP) (K : Nat) (b : Nat) : Prop := t.M K b ∨ f.M K b
section
variable {P : List (List (List Int))} {ws : List Int} {w0 : World} {t : TP} {f : FP} {aP : Option Addr} {cP : Nat} {aw : Option Addr} {cw : Nat} {w w' : World}
theorem Two.later (h : Two P ws w0 t f aP cP aw cw w) (hb : Below w.heap.size w w') : Two P ws w0 t f aP cP aw cw w' := ⟨h.tab.later hb, h.far.later hb⟩
theorem Two.ways (h : Two P ws w0 t f aP cP aw cw w) (hT : Tab P ws w0 t aP cP aw cw (f.M P.length) w') (hw : Within w w' (t.M P.length)) : Two P ws w0 t f aP cP aw cw w' := ⟨hT, h.far.ways hw⟩
theorem Two.storeF (h : Two P ws w0 t f aP cP aw cw w) {k i : Nat} (hk : k < P.length) : Two P ws w0 t f aP cP aw cw (w.setCell ⟨f.bF k, i, none⟩ (.int .i64 (farP P ws k i : Int))) := ⟨h.tab.far h.far.ok (set_within _ _ _ _ (f.mF hk)), h.far.storeF hk⟩
theorem Two.storeD (h : Two P ws w0 t f aP cP aw cw w) {k i : Nat} (hk : k < P.length) (hc : w.cell? ⟨f.bF k, i, none⟩ = some (.int .i64 (farP P ws k i : Int))) : Two P ws w0 t f aP cP aw cw (w.setCell ⟨f.bD k, i, none⟩ (.bool true)) := ⟨h.tab.far h.far.ok (set_within _ _ _ _ (f.mD hk)), h.far.storeD hk hc⟩
end
/-- What l8Part and l8Row come to: a number, and both tables still. -/
def FarPost (P : List (List (List Int))) (ws : List Int) (w0 : World) (t : TP) (f : FP) (aP : Option Addr) (cP : Nat) (aw : Option Addr) (cw : Nat) (w : World) (n : Nat) (e : Ending) (w' : World) : Prop :=
  e = .returned (.int .i64 (n : Int)) ∧ Two P ws w0 t f aP cP aw cw w' ∧ Within w w' (TwoM t f P.length)
end Go.Proofs.YthnppodnjokaoaaGreatDoor
namespace Go.Proofs.YthnppodnjokaoaaGreatDoor
open Go.RowKit

def cellsB (bs : List Bool) : Array Value := (bs.map Value.bool).toArray
/-- The value of such an array. -/
def aggB (bs : List Bool) : Value := .agg (cellsB bs)
/-- Block b is such an array. -/
def Bits (w : World) (b : Nat) (t : TypeId) (bs : List Bool) : Prop := w.heap[b]? = some (.cells (cellsB bs) t)

theorem cellsB_size (bs : List Bool) : (cellsB bs).size = bs.length := by simp [cellsB]
theorem cellsB_get (bs : List Bool) (i : Nat) : (cellsB bs)[i]? = bs[i]?.map Value.bool := by simp [cellsB]
theorem cellsB_one (bs : List Bool) : (cellsB bs).all (·.oneCell') = true := by
  refine Array.all_eq_true_iff_forall_mem.2 fun v hv => ?_
  simp only [cellsB, List.mem_toArray, List.mem_map] at hv
  obtain ⟨x, _, rfl⟩ := hv
  rfl
section
variable {w w' : World} {b : Nat} {t : TypeId} {bs : List Bool}
theorem Bits.lt (h : Bits w b t bs) : b < w.heap.size := (Array.getElem?_eq_some_iff.1 h).1
theorem Bits.cell (h : Bits w b t bs) {n : Nat} (hn : n < bs.length) : w.cell? ⟨b, n, none⟩ = some (.bool (bs.getD n false)) := by
  rw [cell_of_row w b n _ t (0, 0) h, cellsB_get]
  simp [List.getD, hn]
theorem Bits.frozen (h : Bits w b t bs) (n : Nat) : w.frozen? ⟨b, n, none⟩ = false := by
  unfold Bits at h
  simp [World.frozen?, h]
theorem Bits.kept (h : Bits w b t bs) (hb : w'.heap[b]? = w.heap[b]?) : Bits w' b t bs := by unfold Bits at *; rw [hb]; exact h
theorem Bits.below (h : Bits w b t bs) {N : Nat} (hb : Below N w w') (hN : b < N) : Bits w' b t bs := h.kept (hb.block b hN)
theorem Bits.later (h : Bits w b t bs) (hb : Below w.heap.size w w') : Bits w' b t bs := h.below hb h.lt
theorem Bits.grown (h : Bits w b t bs) {row : Option Nat} (hg : w.grownBy w' row) (hne : row ≠ some b) : Bits w' b t bs := h.kept (hg.block b h.lt (fun e => hne e.symm))
theorem Bits.set (h : Bits w b t bs) (n : Nat) (v : Bool) : Bits (w.setCell ⟨b, n, none⟩ (.bool v)) b t (bs.set n v) := by
  unfold Bits at *
  have e : cellsB (bs.set n v) = (cellsB bs).setIfInBounds n (.bool v) := by
    simp [cellsB, List.map_set]
  rw [e]
  simp [World.setCell, Array.getElem?_modify, h]
theorem Bits.range (h : Bits w b t bs) (o n : Nat) : w.rangeAt b o (((bs.drop o).take n).map Value.bool) := by
  intro j v hv
  rw [cell_of_row w b (o + j) _ t (0, 0) h, cellsB_get]
  rw [List.getElem?_map, List.getElem?_take] at hv
  split at hv
  · rw [List.getElem?_drop] at hv; exact hv
  · simp at hv
theorem Bits.there (h : Bits w b t bs) (o n : Nat) (hn : o + n ≤ bs.length) : w.there b o n := fun j hj => ⟨by rw [h.cell (by omega)]; rfl, h.frozen _⟩
end
theorem Bits.new (w : World) (t : TypeId) (bs : List Bool) : Bits (w.alloc (.cells (cellsB bs) t)) w.heap.size t bs := by
  exact heap_alloc_new w _
theorem setCell_grown (w : World) (b n : Nat) (v : Value) : w.grownBy (w.setCell ⟨b, n, none⟩ v) (some b) :=
  ⟨rfl, rfl, rfl, by simp, fun k _ hne => Below.heap_setCell w _ v k (fun e => hne (by rw [e]))⟩

/-- What is there behind the flags cs are put in from o on. -/
def putB : List Bool → Nat → List Bool → List Bool
  | bs, _, [] => bs
  | bs, o, v :: r => putB (bs.set o v) (o + 1) r
theorem putB_length : ∀ (cs : List Bool) (bs : List Bool) (o : Nat), (putB bs o cs).length = bs.length
  | [], _, _ => rfl
  | v :: r, bs, o => by rw [putB, putB_length r]; simp
theorem putB_get : ∀ (cs : List Bool) (bs : List Bool) (o i : Nat), o + cs.length ≤ bs.length → (putB bs o cs).getD i false = if o ≤ i ∧ i < o + cs.length then cs.getD (i - o) false else bs.getD i false
  | [], bs, o, i, _ => by rw [putB, if_neg (by simp)]
  | v :: r, bs, o, i, h => by
    simp only [List.length_cons] at h
    rw [putB, putB_get r (bs.set o v) (o + 1) i (by simp; omega)]
    simp only [List.length_cons]
    by_cases e : i = o
    · subst e
      rw [if_neg (by omega), if_pos (by omega), Nat.sub_self]
      simp [List.getD, show i < bs.length by omega]
    · by_cases g : o + 1 ≤ i ∧ i < o + 1 + r.length
      · rw [if_pos g, if_pos (by omega), show i - o = (i - (o + 1)) + 1 by omega]
        rfl
      · rw [if_neg g, if_neg (by omega)]
        simp [List.getD, Ne.symm e]
theorem list_ext_getD {us bs : List Bool} (hl : us.length = bs.length) (h : ∀ i, i < us.length → us.getD i false = bs.getD i false) : us = bs := by
  apply List.ext_getElem hl
  intro i h1 h2
  have := h i h1
  simpa [List.getD, h1, h2] using this
theorem putB_whole {bs cs : List Bool} (h : cs.length = bs.length) : putB bs 0 cs = cs := by
  apply list_ext_getD (by rw [putB_length]; exact h.symm)
  intro i hi
  rw [putB_length] at hi
  rw [putB_get _ _ _ _ (by omega), if_pos (by omega), Nat.sub_zero]
theorem putB_tail {us bs cs : List Bool} (h : cs.length = bs.length) : putB (us ++ bs) us.length cs = us ++ cs := by
  apply list_ext_getD (by rw [putB_length]; simp [h])
  intro i hi
  rw [putB_length] at hi
  rw [putB_get _ _ _ _ (by simp [h])]
  simp only [List.length_append] at hi
  by_cases g : us.length ≤ i
  · rw [if_pos ⟨g, by omega⟩, List.getD_eq_getElem?_getD, List.getD_eq_getElem?_getD, List.getElem?_append_right g]
  · rw [if_neg (by omega), List.getD_eq_getElem?_getD, List.getD_eq_getElem?_getD, List.getElem?_append_left (by omega), List.getElem?_append_left (by omega)]
theorem setCells_bits : ∀ (cs bs : List Bool) (o : Nat) (w : World) (b : Nat) (t : TypeId), Bits w b t bs → Bits (w.setCells b o (cs.map Value.bool)) b t (putB bs o cs) ∧ w.grownBy (w.setCells b o (cs.map Value.bool)) (some b)
  | [], bs, o, w, b, t, h => ⟨h, World.grownBy.refl _ _⟩
  | v :: r, bs, o, w, b, t, h => by
    rw [List.map_cons, World.setCells, putB]
    have := setCells_bits r (bs.set o v) (o + 1) _ b t (h.set o v)
    exact ⟨this.1, grownBy_trans (setCell_grown w b o _) this.2⟩

section
variable {P : Program}
theorem wpList_val {ops : Array Oper} {rest : List Oper} {o : Oper} {a : Act} {w w' : World} {v : Value} {Q : Exit → Act → World → Prop} (hgd : Region.wanted o (yielded ops a.tmps) = true) (hr : (execOp a.eval o).run P w = .ok (.value v) w') (h : wpList P ops Q rest (a.put o.dst v) w') : wpList P ops Q (o :: rest) a w := by
  refine wpList_step fun K hK => ?_
  rw [if_pos hgd]
  unfold Oper.wp
  rw [hr, Oper.upon_value]
  exact hK _ _ h
theorem wpList_unit {ops : Array Oper} {rest : List Oper} {o : Oper} {a : Act} {w w' : World} {Q : Exit → Act → World → Prop} (hgd : Region.wanted o (yielded ops a.tmps) = true) (hr : (execOp a.eval o).run P w = .ok .skip w') (h : wpList P ops Q rest (a.put o.dst undef) w') : wpList P ops Q (o :: rest) a w := by
  refine wpList_step fun K hK => ?_
  rw [if_pos hgd]
  unfold Oper.wp
  rw [hr, Oper.upon_skip]
  exact hK _ _ h

/-- A type of such arrays: its cells, its form. -/
structure BitT (P : Program) (ty : TypeId) (n : Nat) : Prop where
  info : (P.info? ty).map (fun i => (i.zero, i.size)) = some (some (.agg (Array.replicate n (.bool false))), n)
  desc : ∃ d, P.underlying ty = some d ∧ d.isRow = true
theorem BitT.size {ty : TypeId} {n : Nat} (h : BitT P ty n) : (P.info? ty).map (·.size) = some n := by
  have := h.info
  cases hq : P.info? ty with
  | none => simp [hq] at this
  | some i => simp [hq] at this; simp [this.2]
theorem BitT.zero {ty : TypeId} {n : Nat} (h : BitT P ty n) (w : World) : (zeroValue ty).run P w = .ok (.agg (Array.replicate n (.bool false))) w := by
  have := h.info
  cases hq : P.info? ty with
  | none => simp [hq] at this
  | some i => simp [hq] at this; simp [zeroValue, typeInfo, hq, this.1]
theorem cellsB_rep (n : Nat) : cellsB (List.replicate n false) = Array.replicate n (.bool false) := by
  simp [cellsB]

/-- The whole array, or a part of it, is read. -/
theorem exec_loadB {ρ : Operand → Value} {o : Oper} {w : World} {ty t : TypeId} {x : Operand} {b off n : Nat} {bs : List Bool} (ho : o.op = .load ty x) (hx : ρ x = .pointer (some ⟨b, off, none⟩)) (hT : BitT P ty n) (hB : Bits w b t bs) (hn : off + n ≤ bs.length) :
    (execOp ρ o).run P w = .ok (.value (aggB ((bs.drop off).take n))) w := by
  obtain ⟨d, hu, hd⟩ := hT.desc
  have hl : (((bs.drop off).take n).map Value.bool).length = n := by simp; omega
  have := run_loadVar_mid (P := P) w b off ty (((bs.drop off).take n).map Value.bool) d (hB.range off n) hu hd (by rw [hl]; exact hT.size)
  unfold execOp
  simp only [ho, hx, Instr.loadAt, Instr.sureAddr, Sem.run_bind, Sem.run_pure, Result.andThen_ok, this]
  rfl
theorem exec_loadW {ρ : Operand → Value} {o : Oper} {w : World} {ty t : TypeId} {x : Operand} {b : Nat} {bs : List Bool} (ho : o.op = .load ty x) (hx : ρ x = .pointer (some ⟨b, 0, none⟩)) (hT : BitT P ty bs.length) (hB : Bits w b t bs) :
    (execOp ρ o).run P w = .ok (.value (aggB bs)) w := by
  have := exec_loadB (P := P) ho hx hT hB (by omega)
  simpa using this
/-- It is stored. -/
theorem exec_storeB {ρ : Operand → Value} {o : Oper} {w : World} {ty t : TypeId} {x y : Operand} {b off : Nat} {bs cs : List Bool} (ho : o.op = .store ty x y) (hx : ρ x = .pointer (some ⟨b, off, none⟩)) (hy : ρ y = aggB cs) (hT : BitT P ty cs.length) (hB : Bits w b t bs) (hn : off + cs.length ≤ bs.length) :
    ∃ w', (execOp ρ o).run P w = .ok .skip w' ∧ Bits w' b t (putB bs off cs) ∧ w.grownBy w' (some b) := by
  have h1 := run_storeVar_mid (P := P) w b off ty (cellsB cs) (hB.there off _ (by rw [cellsB_size]; exact hn)) (by rw [cellsB_size]; exact hT.size) (cellsB_one cs)
  have h2 := setCells_bits cs bs off w b t hB
  refine ⟨_, ?_, h2.1, h2.2⟩
  unfold execOp
  simp only [ho, hx, hy, aggB, Instr.storeAt, Instr.sureAddr, Sem.run_bind, Sem.run_pure, Result.andThen_ok, h1]
  rfl
theorem exec_boxB {ρ : Operand → Value} {o : Oper} {w : World} {ty : TypeId} {x : Operand} {bs : List Bool} (ho : o.op = .box ty x) (hx : ρ x = aggB bs) :
    ∃ w', (execOp ρ o).run P w = .ok (.value (.pointer (some ⟨w.heap.size, 0, none⟩))) w' ∧ Bits w' w.heap.size ty bs ∧ Below w.heap.size w w' ∧ w'.heap.size = w.heap.size + 1 := by
  refine ⟨w.alloc (.cells (cellsB bs) ty), ?_, Bits.new w ty bs, (Below.refl _ _).alloc (Nat.le_refl _) _, by simp⟩
  unfold execOp
  simp only [ho, hx, aggB, Instr.box, newVar, newRow, Value.cells]
  simp
theorem exec_allocB {ρ : Operand → Value} {o : Oper} {w : World} {ty : TypeId} {n : Nat} (ho : o.op = .alloc ty) (hT : BitT P ty n) :
    ∃ w', (execOp ρ o).run P w = .ok (.value (.pointer (some ⟨w.heap.size, 0, none⟩))) w' ∧ Bits w' w.heap.size ty (List.replicate n false) ∧ Below w.heap.size w w' ∧ w'.heap.size = w.heap.size + 1 := by
  refine ⟨w.alloc (.cells (cellsB (List.replicate n false)) ty), ?_, Bits.new w ty _, (Below.refl _ _).alloc (Nat.le_refl _) _, by simp⟩
  unfold execOp
  simp only [ho, Instr.alloc, newVar, newRow, Sem.run_bind, hT.zero, Result.andThen_ok, Value.cells, cellsB_rep]
  simp
theorem exec_indexB {ρ : Operand → Value} {o : Oper} {w : World} {ty e : TypeId} {x y : Operand} {bs : List Bool} {i : Nat} (ho : o.op = .index ty x y) (hx : ρ x = aggB bs) (hy : ρ y = .int .i64 i) (hu : P.underlying ty = some (.array bs.length e)) (he : P.underlying e = some .bool) (hz : (P.info? e).map (·.size) = some 1) (hi : i < bs.length) :
    (execOp ρ o).run P w = .ok (.value (.bool (bs.getD i false))) w := by
  have hz' : (sizeOf e).run P w = .ok 1 w := by
    cases hq : P.info? e with
    | none => simp [hq] at hz
    | some j => simp [hq] at hz; simp [sizeOf, typeInfo, hq, hz]
  have hg : (isAgg e).run P w = .ok false w := by simp [isAgg, run_underlying he]
  have hc : (cellsB bs)[i]? = some (.bool (bs.getD i false)) := by rw [cellsB_get]; simp [List.getD, hi]
  unfold execOp
  simp only [ho, hx, hy, aggB, Instr.index, asIntOf]
  simp [run_underlying hu, hz', part, hg, hi, hc]
end
end Go.Proofs.YthnppodnjokaoaaGreatDoor
namespace Go.Proofs.YthnppodnjokaoaaGreatDoor
open Go.RowKit

/-- Where such a part begins. -/
def addrLo (a : Option Addr) (c lo : Nat) : Option Addr := if c = lo then a else a.map (·.add lo)
theorem Reads.lo {w : World} {a : Option Addr} {R : List Int} {c lo : Nat} (h : Reads w a R) (hc : R.length ≤ c) : Reads w (addrLo a c lo) (R.drop lo) := by
  by_cases g : R.length ≤ lo
  · exact .inl (List.drop_eq_nil_of_le g)
  · rcases h with rfl | ⟨b, off, rfl, hlt, hcell⟩
    · simp at g
    · refine .inr ⟨b, off + lo, ?_, hlt, fun i hi => ?_⟩
      · rw [addrLo, if_neg (by omega)]; simp [Addr.add]
      · rw [List.length_drop] at hi
        have := hcell (lo + i) (by omega)
        rw [Nat.add_assoc, this]
        simp [List.getD]
section
variable {P : Program}
theorem exec_sliceLo {ρ : Operand → Value} {o : Oper} {ty e : TypeId} {x y : Operand} {a : Option Addr} {len cap lo : Nat} (ho : o.op = .slice ty x (some y) none none) (hx : ρ x = .slice a len cap) (hy : ρ y = .int .i64 (lo : Int)) (hu : P.underlying ty = some (.slice e)) (hz : (P.info? e).map (·.size) = some 1) (hlo : lo ≤ len) (w : World) :
    (execOp ρ o).run P w = .ok (.value (.slice (addrLo a cap lo) (len - lo) (cap - lo))) w := by
  have hs : (sizeOf e).run P w = .ok 1 w := by
    cases hq : P.info? e with
    | none => simp [hq] at hz
    | some j => simp [hq] at hz; simp [sizeOf, typeInfo, hq, hz]
  unfold execOp
  simp [ho, hx, hy, Instr.sliceAt, Instr.slice, run_underlying hu, Instr.sliceBounds, Instr.sliceBound, hs, addrLo, hlo, asIntOf]
theorem wpList_sliceLo {ops : Array Oper} {rest : List Oper} {o : Oper} {act : Act} {w : World} {Q : Exit → Act → World → Prop} (hgd : Region.wanted o (yielded ops act.tmps) = true) (ty e : TypeId) (x y : Operand) (a : Option Addr) (len cap lo : Nat) (ho : o.op = .slice ty x (some y) none none) (hx : act.eval x = .slice a len cap) (hy : act.eval y = .int .i64 (lo : Int)) (hu : P.underlying ty = some (.slice e)) (hz : (P.info? e).map (·.size) = some 1) (hlo : lo ≤ len)
    (h : wpList P ops Q rest (act.put o.dst (.slice (addrLo a cap lo) (len - lo) (cap - lo))) w) : wpList P ops Q (o :: rest) act w :=
  wpList_val hgd (exec_sliceLo ho hx hy hu hz hlo w) h
end
theorem int_size : (Tryz.prog.info? 3).map (·.size) = some 1 := by kernel_rfl
end Go.Proofs.YthnppodnjokaoaaGreatDoor
namespace Go.Proofs.YthnppodnjokaoaaGreatDoor
open Go.RowKit

theorem l8Max_any (x y : Int) (w : World) : Calls Tryz.prog 13 #[.int .i64 x, .int .i64 y] w fun e w' => e = .returned (.int .i64 (max x y)) ∧ w' = w := by
  by_cases h1 : y < x
  · go_enter Tryz.func13, Tryz.ntmps13
    go_wp2
    go_ret
    exact ⟨ret_int (by omega), rfl⟩
  · go_enter Tryz.func13, Tryz.ntmps13
    go_wp2
    go_ret
    exact ⟨ret_int (by omega), rfl⟩
/-- 'row[lo : lo + n]' of a slice of integers, where there is room. -/
theorem exec_sliceLH {P : Program} {ρ : Operand → Value} {o : Oper} {ty e : TypeId} {x y z : Operand} {b off len cap lo n : Nat} (ho : o.op = .slice ty x (some y) (some z) none) (hx : ρ x = .slice (some ⟨b, off, none⟩) len cap) (hy : ρ y = .int .i64 (lo : Int)) (hh : ρ z = .int .i64 ((lo + n : Nat) : Int)) (hu : P.underlying ty = some (.slice e)) (hz : (P.info? e).map (·.size) = some 1) (hlo : lo < cap) (hhi : lo + n ≤ cap) (w : World) :
    (execOp ρ o).run P w = .ok (.value (.slice (some ⟨b, off + lo, none⟩) n (cap - lo))) w := by
  have hs : (sizeOf e).run P w = .ok 1 w := by
    cases hq : P.info? e with
    | none => simp [hq] at hz
    | some j => simp [hq] at hz; simp [sizeOf, typeInfo, hq, hz]
  have hne : ¬ cap = lo := by omega
  have h0 : (0 : Int) ≤ (lo : Int) + (n : Int) ∧ (lo : Int) + (n : Int) ≤ (cap : Int) := by omega
  have h1 : ((lo : Int) + (n : Int)).toNat = lo + n := by omega
  have h2 : lo ≤ lo + n := by omega
  have h3 : lo + n - lo = n := by omega
  have h4 : (if lo = 0 then ({ block := b, off := off } : Addr) else { block := b, off := off + lo }) = { block := b, off := off + lo } := by
    by_cases e : lo = 0
    · subst e; rfl
    · rw [if_neg e]
  unfold execOp
  simp [ho, hx, hy, hh, Instr.sliceAt, Instr.slice, run_underlying hu, Instr.sliceBounds, Instr.sliceBound, hs, asIntOf, hne, Addr.add]
  rw [if_pos h0, if_pos (by rw [h1]; exact h2), h1, h3, h4]

/-- spec.l8Part does what it should at a part and a place. -/
def FarPartOk (P : List (List (List Int))) (ws : List Int) (w0 : World) (t : TP) (f : FP) (aP : Option Addr) (cP : Nat) (aw : Option Addr) (cw k i : Nat) : Prop :=
  ∀ (W : World), Two P ws w0 t f aP cP aw cw W → Calls Tryz.prog 52 #[.pointer (some ⟨f.bS, 0, none⟩), .int .i64 (k : Int), .int .i64 (i : Int)] W (FarPost P ws w0 t f aP cP aw cw W (farP P ws k i))
theorem spot_none {F : Nat → Nat → Nat} {x : Int} {v : Nat → Nat} {b j : Nat} (h : v j = 0) : maxOn (spot F x v) b (j + 1) = maxOn (spot F x v) b j := by
  rw [maxOn, spot, if_pos h]; omega
theorem spot_letter {F : Nat → Nat → Nat} {x : Int} {v : Nat → Nat} {b j : Nat} (h : v j ≠ 0) (hx : ¬ 100 ≤ x) : maxOn (spot F x v) b (j + 1) = max (maxOn (spot F x v) b j) j := by
  rw [maxOn, spot, if_neg h, if_neg hx]
theorem spot_part {F : Nat → Nat → Nat} {x : Int} {v : Nat → Nat} {b j : Nat} (h : v j ≠ 0) (hx : 100 ≤ x) : maxOn (spot F x v) b (j + 1) = max (max (maxOn (spot F x v) b j) j) (F (x - 100).toNat j) := by
  rw [maxOn, spot, if_neg h, if_pos hx]; omega
theorem there_none {v : Nat → Nat} {b j : Nat} (h : v j = 0) : maxOn (there v) b (j + 1) = maxOn (there v) b j := by
  rw [maxOn, there, if_pos h]; omega
theorem there_one {v : Nat → Nat} {b j : Nat} (h : v j ≠ 0) : maxOn (there v) b (j + 1) = max (maxOn (there v) b j) j := by
  rw [maxOn, there, if_neg h]

section
variable {P : List (List (List Int))} {ws : List Int} {w0 : World} {t : TP} {f : FP} {aP : Option Addr} {cP : Nat} {aw : Option Addr} {cw : Nat}
set_option maxHeartbeats 8000000 in
set_option maxRecDepth 100000 in
theorem l8Row_any (row : List Int) (ar : Option Addr) (cr i : Nat) (w : World) (hT : Two P ws w0 t f aP cP aw cw w) (hws : Reads w0 aw ws) (hn : ws.length ≤ 10) (hi : i ≤ ws.length) (hr : Reads w0 ar row) (hrl : row.length ≤ 1048576) (hcr : row.length ≤ cr) (hrow : ∀ x ∈ row, symOk P.length x = true)
    (hok : gramOkB P = true) (hL : NoLoop P) (hP : RD w0 (.slice aP P.length cP) (slD (Lay.list (Lay.list Lay.int)) P)) (hp : P.length ≤ 20)
    (hpart : ∀ s (hs : s < row.length), 100 ≤ row[s] → ∀ j, j ≤ ws.length → rowNx ws (way P ws) (deltaV i) (row.take s) j ≠ 0 → FarPartOk P ws w0 t f aP cP aw cw (row[s] - 100).toNat j) :
    Calls Tryz.prog 36 #[.pointer (some ⟨f.bS, 0, none⟩), .slice ar row.length cr, .int .i64 (i : Int)] w (FarPost P ws w0 t f aP cP aw cw w (farRow ws (way P ws) (farP P ws) i row)) := by
  have HPA : Hid (∀ s (hs : s < row.length), 100 ≤ row[s] → ∀ j, j ≤ ws.length → rowNx ws (way P ws) (deltaV i) (row.take s) j ≠ 0 → FarPartOk P ws w0 t f aP cP aw cw (row[s] - 100).toNat j) := hpart
  have HGO : Hid (∀ (z : Int) (a : Option Addr) (c : Nat) (v : Nat → Nat) (b0 c0 : Nat) (W : World), Two P ws w0 t f aP cP aw cw W → Reads w0 a [z] → Reads W (some ⟨b0, 0, none⟩) (vecL v ws.length) → (∀ j, v j ≤ 1000) → symOk P.length z = true →
      Calls Tryz.prog 37 #[.pointer (some ⟨t.bT, 0, none⟩), .slice a 1 c, .slice (some ⟨b0, 0, none⟩) (ws.length + 1) c0] W (GoPost P ws w0 t aP cP aw cw (f.M P.length) W (stepNx ws (way P ws) v z))) := fun z a c v b0 c0 W h1 h2 h3 h4 h5 =>
    l7Go_ok hok hL hws hn hP [z] a c v b0 c0 (f.M P.length) W h1.far.lt.2.2.2 h1.tab h2 (by simp) h3 h4 (fun x hx => by rw [List.mem_singleton.1 hx]; exact h5) hp
  have HV : Hid (∀ s j, rowNx ws (way P ws) (deltaV i) (row.take s) j ≤ 1000) := fun s j => rowNx_le (deltaV_le i) j
  have HR : Hid (∀ x ∈ row, symOk P.length x = true) := hrow
  have HRD : Hid (Reads w0 ar row) := hr
  have HT : Hid (Two P ws w0 t f aP cP aw cw w) := hT
  have HM : Hid (∀ b, TwoM t f P.length b → b < w.heap.size) := fun b h => h.elim (hT.tab.lt.2.2.2 b) (hT.far.lt.2.2.2 b)
  have HPOST : Hid (∀ (W : World) (n : Nat), n = farRow ws (way P ws) (farP P ws) i row → Two P ws w0 t f aP cP aw cw W → Within w W (TwoM t f P.length) → FarPost P ws w0 t f aP cP aw cw w (farRow ws (way P ws) (farP P ws) i row) (.returned (.int .i64 (n : Int))) W) := fun W n h1 h2 h3 => ⟨by rw [h1], h2, h3⟩
  have HEND : Hid (∀ v b, v = rowNx ws (way P ws) (deltaV i) row → b = farPre ws (way P ws) (farP P ws) i row row.length → maxOn (there v) b (ws.length + 1) = farRow ws (way P ws) (farP P ws) i row) := fun v b h1 h2 => by rw [h1, h2]; rfl
  obtain ⟨POST, HPO⟩ : ∃ Q, Hid (FarPost P ws w0 t f aP cP aw cw w (farRow ws (way P ws) (farP P ws) i row) = Q) := ⟨_, rfl⟩
  rw [HPO.out] at HPOST ⊢
  show Calls _ _ _ _ (fun e w' => POST e w')
  have qS := hT.far.c0
  have X := l7At_any t.bT aw cw ws.length i w hn hi hT.tab.c1
  have hwl : i ≤ 10 := by omega
  clear HPO hpart hrow hr hT hws hok hL hP
  go_enter Tryz.func36, Tryz.ntmps36
  go_wp2_with fail
  refine X.mono ?_
  rintro e w1 ⟨rfl, hg1, hR1, hb1⟩
  have HNG1 : Hid (¬ TwoM t f P.length w.heap.size) := fun h => by have := HM.out _ h; omega
  have HR1 : Hid (Reads w1 (some ⟨w.heap.size, 0, none⟩) (vecL (rowNx ws (way P ws) (deltaV i) (row.take 0)) ws.length)) := hR1
  have HT1 : Hid (Two P ws w0 t f aP cP aw cw w1) := HT.out.later hb1
  have HW1 : Hid (Within w w1 (TwoM t f P.length)) := Within.of_below hb1 _
  have HB1 : Hid (i = farPre ws (way P ws) (farP P ws) i row 0) := rfl
  clear X hR1 hb1 HT qS
  go_wp2
  go_loopw [7, 8, 9] (fun s7 s8 s9 wr => ∃ s g cg bb : Nat, s ≤ row.length ∧ s9 = .int .i64 (s : Int) ∧ s8 = .slice (some ⟨g, 0, none⟩) (ws.length + 1) cg ∧ s7 = .int .i64 (bb : Int) ∧ g < wr.heap.size ∧ Hid (¬ TwoM t f P.length g) ∧ Hid (bb = farPre ws (way P ws) (farP P ws) i row s) ∧ Hid (Reads wr (some ⟨g, 0, none⟩) (vecL (rowNx ws (way P ws) (deltaV i) (row.take s)) ws.length)) ∧ Hid (Two P ws w0 t f aP cP aw cw wr) ∧ Hid (Within w wr (TwoM t f P.length))) (fun _ _ s9 _ => row.length - (intOf s9).toNat)
  case atStart => exact ⟨0, w.heap.size, ws.length + 1, i, Nat.zero_le _, rfl, rfl, rfl, hg1, HNG1, HB1, HR1, HT1, HW1⟩
  case round =>
    obtain ⟨wA, hwA⟩ : ∃ y, y = wr := ⟨_, rfl⟩
    subst hwA
    obtain ⟨s, g, cg, bb, hs, rfl, rfl, rfl, hgl, HNG, HB, HRV, HTr, HWr⟩ := hrel
    clear HNG1 HB1 HR1 HT1 HW1 hg1
    by_cases hlt : s < row.length
    · obtain ⟨br, ofr, rfl, hbr, hcell⟩ := HRD.out.at hlt
      have qr0 := hcell s hlt
      rw [List.getD_eq_getElem?_getD, List.getElem?_eq_getElem hlt, Option.getD_some] at qr0
      have hzz := HR.out row[s] (List.getElem_mem hlt)
      have hz := symOk_true.1 hzz
      have HZ : Hid (symOk P.length row[s] = true) := hzz
      have HR1z : Hid (Reads w0 (some ⟨br, ofr + s, none⟩) [row[s]]) := .inr ⟨br, ofr + s, rfl, hbr, fun i hi => by
        simp at hi
        subst hi
        exact qr0⟩
      have HPs : Hid (100 ≤ row[s] → ∀ j, j ≤ ws.length → rowNx ws (way P ws) (deltaV i) (row.take s) j ≠ 0 → ∀ W : World, Two P ws w0 t f (aP) cP aw cw W → Calls Tryz.prog 52 #[.pointer (some ⟨f.bS, 0, none⟩), .int .i64 (row[s] - 100), .int .i64 (j : Int)] W (FarPost P ws w0 t f aP cP aw cw W (farP P ws (row[s] - 100).toNat j))) := fun h1 j h2 h3 W h4 => by
        have := HPA.out s hlt h1 j h2 h3 W h4
        rwa [part_nat h1] at this
      have HSt : Hid (rowNx ws (way P ws) (deltaV i) (row.take (s + 1)) = stepNx ws (way P ws) (rowNx ws (way P ws) (deltaV i) (row.take s)) row[s]) := rowNx_step hlt
      have HVs : Hid (∀ j, rowNx ws (way P ws) (deltaV i) (row.take s) j ≤ 1000) := HV.out s
      have HPre : Hid (∀ v, v = rowNx ws (way P ws) (deltaV i) (row.take s) → ∀ b, b = farPre ws (way P ws) (farP P ws) i row s → maxOn (spot (farP P ws) row[s] v) b (ws.length + 1) = farPre ws (way P ws) (farP P ws) i row (s + 1)) := fun v hv b hb => by
        rw [farPre, hv, hb]
        have : row.getD s 0 = row[s] := by simp [List.getD, hlt]
        rw [this]
      have HPre2 : Hid (maxOn (spot (farP P ws) row[s] (rowNx ws (way P ws) (deltaV i) (row.take s))) bb (ws.length + 1) = farPre ws (way P ws) (farP P ws) i row (s + 1)) := HPre.out _ rfl bb HB.out
      have hsc : s + 1 ≤ cr := by omega
      generalize rowNx ws (way P ws) (deltaV i) (row.take s) = x at *
      generalize row[s] = z at *
      clear hcell HPA HV HR HPre hzz
      have HS0 : Hid (Two P ws w0 t f aP cP aw cw wA) := HTr
      have HWA : Hid (Within wA wA (TwoM t f P.length)) := Within.refl _ _
      have HBA : Hid (bb = maxOn (spot (farP P ws) z x) bb 0) := rfl
      go_wp2
      go_loopw [7, 10] (fun s7 s10 wr => ∃ j b1 : Nat, j ≤ ws.length + 1 ∧ s10 = .int .i64 (j : Int) ∧ s7 = .int .i64 (b1 : Int) ∧ Hid (b1 = maxOn (spot (farP P ws) z x) bb j) ∧ Hid (Two P ws w0 t f aP cP aw cw wr) ∧ Hid (Within wA wr (TwoM t f P.length))) (fun _ s10 _ => ws.length + 1 - (intOf s10).toNat)
      case atStart => exact ⟨0, bb, Nat.zero_le _, rfl, rfl, HBA, HS0, HWA⟩
      case round =>
        obtain ⟨wB, hwB⟩ : ∃ y, y = wr := ⟨_, rfl⟩
        subst hwB
        obtain ⟨j, b1, hj, rfl, rfl, HBj, HTj, HWj⟩ := hrel
        clear HS0 HWA HBA
        have q0 := HTj.out.far.c0
        have q1 := HTj.out.tab.c1
        by_cases hjl : j ≤ ws.length
        · have q2 := reads_vec (reads_within HRV.out HWj.out HNG.out) hjl
          have q3 := (HTj.out.tab.low.cell (p := ⟨br, ofr + s, none⟩) hbr).trans qr0
          by_cases hx0 : x j = 0
          · rw [hx0] at q2
            have HBn : Hid (b1 = maxOn (spot (farP P ws) z x) bb (j + 1)) := by show _ = _; rw [spot_none hx0]; exact HBj.out
            clear HBj HPs
            go_wp2
            go_roundw
            case rel => exact ⟨j + 1, b1, by omega, by go_num, rfl, HBn, HTj, HWj⟩
            case measure => simp [intOf]; omega
          · have HX : Hid (x j ≠ 0) := hx0
            have hxI : ¬ ((x j : Int) = 0) := by omega
            generalize hxy : x j = y at q2 hxI
            have hmx : max (b1 : Int) (j : Int) = ((max b1 j : Nat) : Int) := by omega
            obtain ⟨b2, hb2⟩ : ∃ b, b = max b1 j := ⟨_, rfl⟩
            rw [← hb2] at hmx
            by_cases hx : 100 ≤ z
            · have Y := HPs.out hx j hjl HX.out
              have HBn : Hid (∀ n, n = farP P ws (z - 100).toNat j → max b2 n = maxOn (spot (farP P ws) z x) bb (j + 1)) := fun n hn' => by
                rw [spot_part HX.out hx, ← HBj.out, hb2, hn']
              have HJ : Hid (b2 = max b1 j) := hb2
              clear HBj HPs hxy hb2
              generalize farP P ws (z - 100).toNat j = n at *
              have hmn : max (b2 : Int) (n : Int) = ((max b2 n : Nat) : Int) := by omega
              have HBm : Hid (max b2 n = maxOn (spot (farP P ws) z x) bb (j + 1)) := HBn.out n rfl
              have Z : Hid (Calls Tryz.prog 52 #[.pointer (some ⟨f.bS, 0, none⟩), .int .i64 (z - 100), .int .i64 (j : Int)] wB (FarPost P ws w0 t f aP cP aw cw wB n)) := Y wB HTj.out
              clear HBn Y hx0
              go_wp2_with (first | (go_at_call 13; refine (l8Max_any _ _ _).mono ?_; rintro e w6 ⟨rfl, h6⟩; replace h6 := h6.symm; subst h6; first | rw [hmx] | rw [hmn]) | (go_at_call 52; refine Z.out.mono ?_; rintro e w7 ⟨rfl, HT7, HW7⟩))
              have HTn : Hid (Two P ws w0 t f aP cP aw cw w7) := HT7
              have HWn : Hid (Within wA w7 (TwoM t f P.length)) := HWj.out.trans HW7
              clear HT7 HW7
              go_roundw
              case rel => exact ⟨j + 1, max b2 n, by omega, by go_num, rfl, HBm, HTn, HWn⟩
              case measure => simp [intOf]; omega
            · have HBn : Hid (b2 = maxOn (spot (farP P ws) z x) bb (j + 1)) := by show _ = _; rw [spot_letter HX.out hx, ← HBj.out, hb2]
              clear HBj HPs hxy hb2 hx0
              go_wp2_with (go_at_call 13; refine (l8Max_any _ _ _).mono ?_; rintro e w6 ⟨rfl, h6⟩; replace h6 := h6.symm; subst h6; rw [hmx])
              go_roundw
              case rel => exact ⟨j + 1, b2, by omega, by go_num, rfl, HBn, HTj, HWj⟩
              case measure => simp [intOf]; omega
        · have e : j = ws.length + 1 := by omega
          subst e
          have HBE : Hid (b1 = farPre ws (way P ws) (farP P ws) i row (s + 1)) := by show _ = _; rw [← HPre2.out]; exact HBj.out
          have Z : Hid (∀ W : World, Two P ws w0 t f aP cP aw cw W → Reads W (some ⟨g, 0, none⟩) (vecL x ws.length) → Calls Tryz.prog 37 #[.pointer (some ⟨t.bT, 0, none⟩), .slice (some ⟨br, ofr + s, none⟩) 1 (cr - s), .slice (some ⟨g, 0, none⟩) (ws.length + 1) cg] W (GoPost P ws w0 t aP cP aw cw (f.M P.length) W (stepNx ws (way P ws) x z))) := fun W h1 h2 => HGO.out z _ _ x g cg W h1 HR1z.out h2 HVs.out HZ.out
          have HRN : Hid (Reads wB (some ⟨g, 0, none⟩) (vecL x ws.length)) := reads_within HRV.out HWj.out HNG.out
          clear HBj HPre2 HPs
          go_wp2
          refine wp_region_held_drew (S := (fun w' => w'.cell? ⟨f.bS, 0, none⟩ = some (.pointer (some ⟨t.bT, 0, none⟩)) ∧ True)) (by kernel_rfl) ⟨q0, trivial⟩ (fun hHeld => ?_)
          refine take_atL (i := 0) (d := some 60) (v := .pointer (some ⟨f.bS, 0, none⟩)) rfl rfl (by kernel_rfl) (by kernel_rfl) (by kernel_rfl) (fun _ _ _ h => h) (by rfl) ?_ hHeld ?_
          · intro w' hSw; obtain ⟨s0, _⟩ := hSw; go_simp; first | done | rfl | (refine wrap_in ?_ ?_ <;> omega) | (intro hbad; exfalso; omega)
          try simp only [Act.put, List.setIfInBounds_toArray, List.set_cons_zero, List.set_cons_succ]
          refine take_atL (i := 1) (d := some 61) (v := .pointer (some ⟨f.bS, 0, none⟩)) rfl rfl (by kernel_rfl) (by kernel_rfl) (by kernel_rfl) (fun _ _ _ h => h) (by rfl) ?_ hHeld ?_
          · intro w' hSw; obtain ⟨s0, _⟩ := hSw; go_simp; first | done | rfl | (refine wrap_in ?_ ?_ <;> omega) | (intro hbad; exfalso; omega)
          try simp only [Act.put, List.setIfInBounds_toArray, List.set_cons_zero, List.set_cons_succ]
          refine take_atL (i := 2) (d := some 62) (v := .pointer (some ⟨f.bS, 0, none⟩)) rfl rfl (by kernel_rfl) (by kernel_rfl) (by kernel_rfl) (fun _ _ _ h => h) (by rfl) ?_ hHeld ?_
          · intro w' hSw; obtain ⟨s0, _⟩ := hSw; go_simp; first | done | rfl | (refine wrap_in ?_ ?_ <;> omega) | (intro hbad; exfalso; omega)
          try simp only [Act.put, List.setIfInBounds_toArray, List.set_cons_zero, List.set_cons_succ]
          refine take_atL (i := 3) (d := some 63) (v := .pointer (some ⟨t.bT, 0, none⟩)) rfl rfl (by kernel_rfl) (by kernel_rfl) (by kernel_rfl) (fun _ _ _ h => h) (by rfl) ?_ hHeld ?_
          · intro w' hSw; obtain ⟨s0, _⟩ := hSw; go_simp; first | done | rfl | (refine wrap_in ?_ ?_ <;> omega) | (intro hbad; exfalso; omega)
          try simp only [Act.put, List.setIfInBounds_toArray, List.set_cons_zero, List.set_cons_succ]
          refine take_atL (i := 4) (d := some 64) (v := .slice (some ⟨br, ofr, none⟩) row.length cr) rfl rfl (by kernel_rfl) (by kernel_rfl) (by kernel_rfl) (fun _ _ _ h => h) (by rfl) ?_ hHeld ?_
          · intro w' hSw; obtain ⟨s0, _⟩ := hSw; go_simp; first | done | rfl | (refine wrap_in ?_ ?_ <;> omega) | (intro hbad; exfalso; omega)
          try simp only [Act.put, List.setIfInBounds_toArray, List.set_cons_zero, List.set_cons_succ]
          refine take_atL (i := 5) (d := some 65) (v := .int .i64 ((s : Int))) rfl rfl (by kernel_rfl) (by kernel_rfl) (by kernel_rfl) (fun _ _ _ h => h) (by rfl) ?_ hHeld ?_
          · intro w' hSw; obtain ⟨s0, _⟩ := hSw; go_simp; first | done | rfl | (refine wrap_in ?_ ?_ <;> omega) | (intro hbad; exfalso; omega)
          try simp only [Act.put, List.setIfInBounds_toArray, List.set_cons_zero, List.set_cons_succ]
          refine take_atL (i := 6) (d := some 66) (v := .int .i64 ((s : Int))) rfl rfl (by kernel_rfl) (by kernel_rfl) (by kernel_rfl) (fun _ _ _ h => h) (by rfl) ?_ hHeld ?_
          · intro w' hSw; obtain ⟨s0, _⟩ := hSw; go_simp; first | done | rfl | (refine wrap_in ?_ ?_ <;> omega) | (intro hbad; exfalso; omega)
          try simp only [Act.put, List.setIfInBounds_toArray, List.set_cons_zero, List.set_cons_succ]
          refine take_atL (i := 7) (d := some 67) (v := .int .i64 (((s + 1 : Nat) : Int))) rfl rfl (by kernel_rfl) (by kernel_rfl) (by kernel_rfl) (fun _ _ _ h => h) (by rfl) ?_ hHeld ?_
          · intro w' hSw; obtain ⟨s0, _⟩ := hSw; go_simp; first | done | rfl | (refine wrap_in ?_ ?_ <;> omega) | (intro hbad; exfalso; omega)
          try simp only [Act.put, List.setIfInBounds_toArray, List.set_cons_zero, List.set_cons_succ]
          refine take_atL (i := 8) (d := some 68) (v := .slice (some ⟨br, ofr + s, none⟩) 1 (cr - s)) rfl rfl (by kernel_rfl) (by kernel_rfl) (by kernel_rfl) (fun _ _ _ h => h) (by rfl) ?_ hHeld ?_
          · intro w' _; exact exec_sliceLH (lo := s) (n := 1) rfl rfl rfl rfl Tryz.underlying25 int_size (by omega) (by omega) w'
          try simp only [Act.put, List.setIfInBounds_toArray, List.set_cons_zero, List.set_cons_succ]
          refine take_atL (i := 9) (d := some 69) (v := .slice (some ⟨g, 0, none⟩) (ws.length + 1) cg) rfl rfl (by kernel_rfl) (by kernel_rfl) (by kernel_rfl) (fun _ _ _ h => h) (by rfl) ?_ hHeld ?_
          · intro w' hSw; obtain ⟨s0, _⟩ := hSw; go_simp; first | done | rfl | (refine wrap_in ?_ ?_ <;> omega) | (intro hbad; exfalso; omega)
          try simp only [Act.put, List.setIfInBounds_toArray, List.set_cons_zero, List.set_cons_succ]
          refine wpAnyH_ready (rs := [10]) (by kernel_rfl) (by simp) ?_
          refine AllReadyH.cons (o := _) rfl (fun K hK => ?_) AllReadyH.nil
          rw [if_pos (by rfl)]
          go_simp
          refine (Z.out _ (HTj.out.later (Below.drew (Below.refl wB.heap.size wB))) (HRN.out.below (Below.drew (Below.refl wB.heap.size wB)))).mono ?_
          rintro e w6 ⟨g6, c6, rfl, h6M, h6N, h6l, h6R, h6T, h6W⟩
          have HT6 : Hid (Two P ws w0 t f aP cP aw cw w6) := (HTj.out.later (Below.drew (Below.refl wB.heap.size wB))).ways h6T h6W
          have HW6 : Hid (Within w w6 (TwoM t f P.length)) := HWr.out.trans (HWj.out.trans ((Within.of_below (Below.drew (Below.refl wB.heap.size wB)) _).trans (h6W.mono (fun _ e => .inl e))))
          have HR6 : Hid (Reads w6 (some ⟨g6, 0, none⟩) (vecL (rowNx ws (way P ws) (deltaV i) (row.take (s + 1))) ws.length)) := by show Reads _ _ _; rw [HSt.out]; exact h6R
          have HG6 : Hid (¬ TwoM t f P.length g6) := fun e => e.elim h6M h6N
          have s0 := HT6.out.far.c0
          clear Z h6M h6N h6R h6T h6W HRN
          go_wp2_with fail
          refine hK.out _ _ ⟨s0, trivial⟩ (fun hHeld => ?_)
          clear hK K
          try simp only [Act.put, List.setIfInBounds_toArray, List.set_cons_zero, List.set_cons_succ]
          refine take_atL (i := 11) (d := some 8) (v := .slice (some ⟨g6, 0, none⟩) (ws.length + 1) c6) rfl rfl (by kernel_rfl) (by kernel_rfl) (by kernel_rfl) (fun _ _ _ h => h) (by rfl) ?_ hHeld ?_
          · intro w' hSw; obtain ⟨s0, _⟩ := hSw; go_simp; first | done | rfl | (refine wrap_in ?_ ?_ <;> omega) | (intro hbad; exfalso; omega)
          try simp only [Act.put, List.setIfInBounds_toArray, List.set_cons_zero, List.set_cons_succ]
          refine wpAnyH_done (by kernel_rfl) ?_ _
          clear hHeld
          go_wp2
          go_roundw
          case rel => exact ⟨s + 1, g6, c6, b1, by omega, by go_num, rfl, rfl, h6l, HG6, HBE, HR6, HT6, HW6⟩
          case measure => simp [intOf]; omega
    · have e : s = row.length := by omega
      subst e
      have HRl : Hid (Reads wA (some ⟨g, 0, none⟩) (vecL (rowNx ws (way P ws) (deltaV i) row) ws.length)) := by
        have := HRV.out
        rw [List.take_length] at this
        exact this
      have HE2 : Hid (∀ b, b = maxOn (there (rowNx ws (way P ws) (deltaV i) row)) bb (ws.length + 1) → b = farRow ws (way P ws) (farP P ws) i row) := fun b h => by rw [h]; exact HEND.out _ _ rfl HB.out
      generalize rowNx ws (way P ws) (deltaV i) row = x at *
      have HB0 : Hid (bb = maxOn (there x) bb 0) := rfl
      clear HEND HB HRV HPA HV HR
      go_wp2
      go_loopw [7, 11] (fun s7 s11 wr => ∃ j b1 : Nat, j ≤ ws.length + 1 ∧ s11 = .int .i64 (j : Int) ∧ s7 = .int .i64 (b1 : Int) ∧ Hid (b1 = maxOn (there x) bb j) ∧ wr = wA) (fun _ s11 _ => ws.length + 1 - (intOf s11).toNat)
      case atStart => exact ⟨0, bb, Nat.zero_le _, rfl, rfl, HB0, rfl⟩
      case round =>
        obtain ⟨j, b1, hj, rfl, rfl, HBj, hwr⟩ := hrel
        replace hwr := hwr.symm
        subst hwr
        have q0 := HTr.out.far.c0
        have q1 := HTr.out.tab.c1
        by_cases hjl : j ≤ ws.length
        · have q2 := reads_vec HRl.out hjl
          by_cases hx0 : x j = 0
          · rw [hx0] at q2
            have HBn : Hid (b1 = maxOn (there x) bb (j + 1)) := by show _ = _; rw [there_none hx0]; exact HBj.out
            clear HBj HB0
            go_wp2
            go_roundw
            case rel => exact ⟨j + 1, b1, by omega, by go_num, rfl, HBn, trivial⟩
            case measure => simp [intOf]; omega
          · have hmx : max (b1 : Int) (j : Int) = ((max b1 j : Nat) : Int) := by omega
            have HBn : Hid (max b1 j = maxOn (there x) bb (j + 1)) := by show _ = _; rw [there_one hx0, ← HBj.out]
            have hxI : (0 : Int) < (x j : Int) := by omega
            clear HBj HB0
            generalize x j = y at q2 hxI
            go_wp2_with (go_at_call 13; refine (l8Max_any _ _ _).mono ?_; rintro e w6 ⟨rfl, h6⟩; replace h6 := h6.symm; subst h6; rw [hmx])
            go_roundw
            case rel => exact ⟨j + 1, max b1 j, by omega, by go_num, rfl, HBn, trivial⟩
            case measure => simp [intOf]; omega
        · have e : j = ws.length + 1 := by omega
          subst e
          have HE := HE2.out b1 HBj.out
          have HQ : Hid (POST (.returned (.int .i64 (b1 : Int))) wA) := HPOST.out wA b1 HE HTr.out HWr.out
          clear HBj HB0 HE
          go_wp2
          exact HQ.out
end
end Go.Proofs.YthnppodnjokaoaaGreatDoor
namespace Go.Proofs.YthnppodnjokaoaaGreatDoor
open Go.RowKit

section
variable {P : List (List (List Int))} {ws : List Int} {w0 : World} {t : TP} {f : FP} {aP : Option Addr} {cP : Nat} {aw : Option Addr} {cw : Nat}
set_option maxHeartbeats 8000000 in
set_option maxRecDepth 100000 in
theorem l8Part_walk (k i : Nat) (w : World) (hk : k < P.length) (hi : i ≤ ws.length) (hT : Two P ws w0 t f aP cP aw cw w) (hP : RD w0 (.slice aP P.length cP) (slD (Lay.list (Lay.list Lay.int)) P)) (hp8 : P[k].length ≤ 8) (r : Nat → Nat)
    (hrow : ∀ a (ha : a < P[k].length) (W : World) (ar : Option Addr) (cr : Nat), Two P ws w0 t f aP cP aw cw W → RD w0 (.slice ar P[k][a].length cr) (slD Lay.int P[k][a]) → Calls Tryz.prog 36 #[.pointer (some ⟨f.bS, 0, none⟩), .slice ar P[k][a].length cr, .int .i64 (i : Int)] W (FarPost P ws w0 t f aP cP aw cw W (r a)))
    (heq : farP P ws k i = maxOn r i P[k].length) :
    Calls Tryz.prog 52 #[.pointer (some ⟨f.bS, 0, none⟩), .int .i64 (k : Int), .int .i64 (i : Int)] w (FarPost P ws w0 t f aP cP aw cw w (farP P ws k i)) := by
  obtain ⟨d, v, hd⟩ := hT.far.known
  obtain ⟨qd, qv, hv⟩ := hd k i hk hi
  have c2 := hT.far.c2
  have rD := hT.far.rD k hk
  have hkI : (k : Int) < (P.length : Int) := by omega
  have hiI : (i : Int) < (ws.length : Int) + 1 := by omega
  by_cases hdk : d k i = true
  · have HE : Hid (FarPost P ws w0 t f aP cP aw cw w (farP P ws k i) (.returned (.int .i64 (v k i : Int))) w) := ⟨by rw [hv hdk], hT, Within.refl _ _⟩
    have c1 := hT.far.c1
    have rF := hT.far.rF k hk
    rw [hdk] at qd
    generalize v k i = y at *
    clear hd hT hrow heq hP hv
    go_enter Tryz.func52, Tryz.ntmps52
    go_wp2
    go_ret
    exact HE.out
  · have hdf : d k i = false := by simpa using hdk
    rw [hdf] at qd
    have HT : Hid (Two P ws w0 t f aP cP aw cw w) := hT
    have HP : Hid (RD w0 (.slice aP P.length cP) (slD (Lay.list (Lay.list Lay.int)) P)) := hP
    have HRO : Hid (∀ a (ha : a < P[k].length) (W : World) (ar : Option Addr) (cr : Nat), Two P ws w0 t f aP cP aw cw W → RD w0 (.slice ar P[k][a].length cr) (slD Lay.int P[k][a]) → Calls Tryz.prog 36 #[.pointer (some ⟨f.bS, 0, none⟩), .slice ar P[k][a].length cr, .int .i64 (i : Int)] W (FarPost P ws w0 t f aP cP aw cw W (r a))) := hrow
    have HEQ : Hid (farP P ws k i = maxOn r i P[k].length) := heq
    have HB0 : Hid (i = maxOn r i 0) := rfl
    have HW0 : Hid (Within w w (TwoM t f P.length)) := Within.refl _ _
    clear hrow heq hd hdk hdf hT hP hv qv
    go_enter Tryz.func52, Tryz.ntmps52
    go_wp2
    clear c2 rD qd
    go_loopw [7, 8] (fun s7 s8 wr => ∃ a b : Nat, a ≤ P[k].length ∧ s8 = .int .i64 (a : Int) ∧ s7 = .int .i64 (b : Int) ∧ Hid (b = maxOn r i a) ∧ Hid (Two P ws w0 t f aP cP aw cw wr) ∧ Hid (Within w wr (TwoM t f P.length))) (fun _ s8 _ => P[k].length - (intOf s8).toNat)
    case atStart => exact ⟨0, i, Nat.zero_le _, rfl, rfl, HB0, HT, HW0⟩
    case round =>
      obtain ⟨wA, hwA⟩ : ∃ y, y = wr := ⟨_, rfl⟩
      subst hwA
      obtain ⟨a, b, ha, rfl, rfl, HB, HTa, HWa⟩ := hrel
      clear HB0 HT HW0
      obtain ⟨b1, o1, rfl, hb1, a1, ca1, q1, r1⟩ := HP.out.listAt hk
      have hlo := HTa.out.tab.low
      have q00 := HTa.out.far.c0
      have q0 := HTa.out.tab.c0
      have q1a := (hlo.cell (p := ⟨b1, o1 + k, none⟩) hb1).trans q1
      by_cases hlt : a < P[k].length
      · obtain ⟨b2, o2, rfl, hb2, a2, ca2, q2, r2⟩ := r1.listAt hlt
        have q2a := (hlo.cell (p := ⟨b2, o2 + a, none⟩) hb2).trans q2
        have Z : Hid (Calls Tryz.prog 36 #[.pointer (some ⟨f.bS, 0, none⟩), .slice a2 P[k][a].length ca2, .int .i64 (i : Int)] wA (FarPost P ws w0 t f (some ⟨b1, o1, none⟩) cP aw cw wA (r a))) := HRO.out a hlt wA a2 ca2 HTa.out r2
        have haI : (a : Int) < (P[k].length : Int) := by omega
        have hmx : max (b : Int) ((r a : Nat) : Int) = ((max b (r a) : Nat) : Int) := by omega
        have HBn : Hid (max b (r a) = maxOn r i (a + 1)) := by show _ = _; rw [maxOn, ← HB.out]
        generalize r a = n at *
        generalize P[k][a] = row at *
        clear r1 r2 q1 q2 HB HRO
        go_wp2_with (first | (go_at_call 13; refine (l8Max_any _ _ _).mono ?_; rintro e w6 ⟨rfl, h6⟩; replace h6 := h6.symm; subst h6; rw [hmx]) | (go_at_call 36; refine Z.out.mono ?_; rintro e w7 ⟨rfl, HT7, HW7⟩))
        have HTn : Hid (Two P ws w0 t f (some ⟨b1, o1, none⟩) cP aw cw w7) := HT7
        have HWn : Hid (Within w w7 (TwoM t f P.length)) := HWa.out.trans HW7
        clear HT7 HW7
        go_roundw
        case rel => exact ⟨a + 1, max b n, by omega, by go_num, rfl, HBn, HTn, HWn⟩
        case measure => simp [intOf]; omega
      · have e : a = P[k].length := by omega
        subst e
        have haI : (P[k].length : Int) ≤ (P[k].length : Int) := Int.le_refl _
        have hb : b = farP P ws k i := by rw [HEQ.out]; exact HB.out
        have T1 := HTa.out.storeF (i := i) hk
        obtain ⟨d1, v1, hd1⟩ := HTa.out.far.known
        obtain ⟨pd, pv, _⟩ := hd1 k i hk hi
        have T2 := T1.storeD hk (cell_set pv)
        have mF := f.mF hk
        have mD := f.mD hk
        have hW2 : Within wA ((wA.setCell ⟨f.bF k, i, none⟩ (.int .i64 (farP P ws k i : Int))).setCell ⟨f.bD k, i, none⟩ (.bool true)) (TwoM t f P.length) := (set_within wA (f.bF k) i (.int .i64 (farP P ws k i : Int)) (M := TwoM t f P.length) (.inr mF)).trans (set_within _ (f.bD k) i (.bool true) (.inr mD))
        have HE : Hid (FarPost P ws w0 t f (some ⟨b1, o1, none⟩) cP aw cw w (farP P ws k i) (.returned (.int .i64 (farP P ws k i : Int))) ((wA.setCell ⟨f.bF k, i, none⟩ (.int .i64 (farP P ws k i : Int))).setCell ⟨f.bD k, i, none⟩ (.bool true))) := ⟨rfl, T2, HWa.out.trans hW2⟩
        have c1 := HTa.out.far.c1
        have rF := HTa.out.far.rF k hk
        have fF := HTa.out.far.fr _ mF i
        have c2 := T1.far.c2
        have rD := T1.far.rD k hk
        have fD := T1.far.fr _ mD i
        have qd := (cell_set_off (x := .int .i64 (farP P ws k i : Int)) (i := i) (o := i) (.inl (HTa.out.far.ok.fD k k hk hk))).trans pd
        have n1 : f.bF k ≠ f.bS := fun e => HTa.out.far.ok.S (e ▸ mF)
        have n2 : f.bF k ≠ f.oD := fun e => HTa.out.far.ok.oD (e ▸ mF)
        have n3 : f.bF k ≠ f.bD k := HTa.out.far.ok.fD k k hk hk
        subst hb
        clear T1 T2 hW2 hd1 HTa HWa HEQ HP HRO HB r1 mF mD
        generalize farP P ws k i = n at *
        go_wp2
        go_ret
        exact HE.out
/-- spec.l8Part at every part and place. -/
theorem l8Part_ok (hok : gramOkB P = true) (hL : NoLoop P) (hws : Reads w0 aw ws) (hn : ws.length ≤ 10) (hP : RD w0 (.slice aP P.length cP) (slD (Lay.list (Lay.list Lay.int)) P)) (hp : P.length ≤ 20) (m : Nat) :
    ∀ k i, k < P.length → i ≤ ws.length → muP P ws.length k i < m → FarPartOk P ws w0 t f aP cP aw cw k i := by
  have F := Fits.of hok
  induction m with
  | zero => intro k i _ _ h; omega
  | succ m ih =>
    intro k i hk hi hm w hT
    have hmem := List.getElem_mem hk
    refine l8Part_walk k i w hk hi hT hP (F.alts _ hmem) (fun a => farRow ws (way P ws) (farP P ws) i (P[k].getD a [])) ?_ (far_eq F hL hk hi)
    intro a ha W ar cr h1 h2
    have ea : P[k].getD a [] = P[k][a] := by simp [List.getD, ha]
    show Calls _ _ _ _ (FarPost P ws w0 t f aP cP aw cw W (farRow ws (way P ws) (farP P ws) i (P[k].getD a [])))
    rw [ea]
    have hmem2 := List.getElem_mem ha
    refine l8Row_any P[k][a] ar cr i W h1 hws hn hi h2.reads (by have := F.rows _ hmem _ hmem2; omega) ?_ ?_ hok hL hP hp ?_
    · exact h2.capL
    · intro x hx
      simp only [gramOkB, Bool.and_eq_true, List.all_eq_true, partOk, rowOk] at hok
      exact (((hok.2 _ hmem).2 _ hmem2).2) x hx
    · intro s hs hx j hj hne
      obtain ⟨_, _, h5⟩ := way_lt F hL hk ha hi hs hx hne
      exact ih _ j (gram_part hok hk ha hs) hj (by omega)
end
end Go.Proofs.YthnppodnjokaoaaGreatDoor
