/-
  Contracts and plain mathematics, joined: L7Ways, SpecDerives, L8Known, FarRes, FarsRes, SureRes, ChooseRes, SpecL8Ok. No statement is proved here.
-/
import Derived.Test.YthnppodnjokaoaaGreatDoorG21
import Derived.Test.YthnppodnjokaoaaGreatDoorG22
import Derived.Test.YthnppodnjokaoaaGreatDoorG14
import Derived.Test.YthnppodnjokaoaaGreatDoorG8
namespace Go.Proofs.YthnppodnjokaoaaGreatDoor
open Go.RowKit

theorem NewIn.tab {P : List (List (List Int))} {ws : List Int} {aP : Option Addr} {cP : Nat} {aw : Option Addr} {cw : Nat} {w : World} {vW vD : Value} {bW bD τ : Nat → Nat} {wr : World} (h : NewIn ws aP cP P.length aw cw w vW vD bW bD τ P.length P.length wr) (hp : 0 < P.length) :
    ∃ t : TP, t.bT = w.heap.size + 1 ∧ Tab P ws w t aP cP aw cw (fun _ => False) wr := by
  obtain ⟨HW, HD, t0, t1, hb, hl, c0, c1, c2, hf⟩ := h
  obtain ⟨oW, cW, rfl, lW1, lW2⟩ := HW.own.form hp
  obtain ⟨oD, cD, rfl, lD1, lD2⟩ := HD.own.form hp
  have tW := HW.tagV oW rfl
  have tD := HD.tagV oD rfl
  have fW := HW.tagF
  have fD := HD.tagF
  have lW : ∀ k, k < P.length → bW k < wr.heap.size := fun k hk => (HW.rows k hk).lt
  have lD : ∀ k, k < P.length → bD k < wr.heap.size := fun k hk => (HD.rows k hk).lt
  refine ⟨⟨w.heap.size + 1, oW, oD, cW, cD, bW, bD⟩, rfl, ⟨⟨fun i j hi hj e => ?_, fun i j hi hj e => ?_, fun i j hi hj e => ?_, fun ⟨k, hk, e⟩ => ?_, fun ⟨k, hk, e⟩ => ?_, fun ⟨k, hk, e⟩ => ?_, fun b ⟨k, hk, e⟩ => ?_⟩, hb, ⟨hl, lW2, lD2, fun b ⟨k, hk, e⟩ => ?_⟩, c1, c2, HW.cell, HD.cell, fun k hk => ?_, fun k hk => ?_, fun b ⟨k, hk, e⟩ i => ?_, fun _ _ => false, fun k i hk hi => ⟨?_, .slice none 0 0, ?_, fun e => by cases e⟩⟩⟩
  · have h1 := fW i hi; have h2 := fW j hj; dsimp only at e; rw [e] at h1; omega
  · have h1 := fD i hi; have h2 := fD j hj; dsimp only at e; rw [e] at h1; omega
  · have h1 := fW i hi; have h2 := fD j hj; dsimp only at e; rw [e] at h1; omega
  · dsimp only at e
    rcases e with e | e
    · have h1 := fW k hk; rw [← e] at h1; omega
    · have h1 := fD k hk; rw [← e] at h1; omega
  · dsimp only at e
    rcases e with e | e
    · have h1 := fW k hk; rw [← e] at h1; omega
    · have h1 := fD k hk; rw [← e] at h1; omega
  · dsimp only at e
    rcases e with e | e
    · have h1 := fW k hk; rw [← e] at h1; omega
    · have h1 := fD k hk; rw [← e] at h1; omega
  · dsimp only at e
    rcases e with e | e
    · rw [e]; exact HW.low k hk
    · rw [e]; exact HD.low k hk
  · dsimp only at e
    rcases e with e | e
    · rw [e]; exact lW k hk
    · rw [e]; exact lD k hk
  · have := HW.own.cellAt k (by omega)
    rw [this, rowsAt_get _ _ hk]
  · have := HD.own.cellAt k (by omega)
    rw [this, rowsAt_get _ _ hk]
  · dsimp only at e
    rcases e with e | e
    · rw [e]; exact (HW.rows k hk).frozen i
    · rw [e]; exact (HD.rows k hk).frozen i
  · exact (HD.rows k hk).cell (by omega)
  · exact (HW.rows k hk).cell (by omega)

end Go.Proofs.YthnppodnjokaoaaGreatDoor
namespace Go.Proofs.YthnppodnjokaoaaGreatDoor
open Go.RowKit

theorem resCheck_ok {x : Gm} (h : resCheck x = 0) : gramOkB x.parts = true ∧ NoLoop x.parts := by
  unfold resCheck at h
  split at h
  · rename_i hg
    refine ⟨hg, fun k hk => ?_⟩
    split at h
    · cases h
    · rename_i hl
      by_cases e : hasL (startsL x.parts)[k] (k : Int) = true
      · exact absurd (loopB_yes hk e) hl
      · simpa using e
  · cases h
/-- What Derives answers. -/
def resDerives (x : Gm) (row ws : List Int) : Bool := decide (resCheck x = 0) && inputOkB ws && rowOk x.parts.length row && decide (0 < rowWays x.parts row ws)
theorem resDerives_check {x : Gm} {row ws : List Int} (h : resCheck x ≠ 0) : resDerives x row ws = false := by simp [resDerives, h]
theorem resDerives_input {x : Gm} {row ws : List Int} (h : inputOkB ws = false) : resDerives x row ws = false := by simp [resDerives, h]
theorem resDerives_row {x : Gm} {row ws : List Int} (h : rowOk x.parts.length row = false) : resDerives x row ws = false := by simp [resDerives, h]
theorem resDerives_all {x : Gm} {row ws : List Int} (h1 : resCheck x = 0) (h2 : inputOkB ws = true) (h3 : rowOk x.parts.length row = true) : resDerives x row ws = decide (0 < rowWays x.parts row ws) := by simp [resDerives, h1, h2, h3]
/-- What Accepts answers. -/
def resAccepts (x : Gm) (ws : List Int) : Bool := resDerives x [100] ws
theorem fit_one : (Lay.list Lay.int).fit [100] := ⟨by simp [maxLen], fun x hx => by rw [List.mem_singleton.1 hx]; rfl⟩
theorem OwnInts.oneD {w : World} {base : Nat} {e : TypeId} (x : Int) (h : base ≤ w.heap.size) : OwnInts (w.alloc (.cells #[.int .i64 x] e)) base e (.slice (some ⟨w.heap.size, 0, none⟩) 1 1) [x] :=
  World.ownsRow_lit w #[.int .i64 x] 1 h (by simp [maxLen]) rfl
/-- What Ways answers. -/
def resWays (x : Gm) (ws : List Int) (n : Int) : Int := if resCheck x = 0 ∧ inputOkB ws = true ∧ 0 ≤ n ∧ n ≤ 1000 then min (rowWays x.parts [100] ws : Int) n else 0
theorem one_row {n : Nat} (h : 1 ≤ n) : rowOk n [100] = true := by
  have : symOk n 100 = true := symOk_true.2 (.inr (by omega))
  simp [rowOk, this]
theorem gram_one {P : List (List (List Int))} (h : gramOkB P = true) : 1 ≤ P.length := by simp only [gramOkB, Bool.and_eq_true, inB_true] at h; omega

end Go.Proofs.YthnppodnjokaoaaGreatDoor
namespace Go.Proofs.YthnppodnjokaoaaGreatDoor
open Go.RowKit

/-- A row whose symbols are symbols, at most 200. -/
def knownB (n : Nat) (row : List Int) : Bool := decide (row.length ≤ 200) && row.all (symOk n)
theorem knownB_long {n : Nat} {row : List Int} (h : ¬ row.length ≤ 200) : knownB n row = false := by simp [knownB, h]
theorem knownB_no {n : Nat} {row : List Int} (h : row.all (symOk n) = false) : knownB n row = false := by simp [knownB, h]
theorem knownB_yes {n : Nat} {row : List Int} (h : row.length ≤ 200) (g : row.all (symOk n) = true) : knownB n row = true := by simp [knownB, h, g]

set_option maxHeartbeats 1000000 in
set_option maxRecDepth 100000 in
theorem l8Known_any (P : List (List (List Int))) (row : List Int) (aP : Option Addr) (cP : Nat) (ar : Option Addr) (cr : Nat) (w : World) (hr : Reads w ar row) (hp : P.length ≤ 20) (hl : row.length ≤ 4194304) :
    Calls Tryz.prog 22 #[.agg #[.slice aP P.length cP], .slice ar row.length cr] w fun e w' => e = .returned (.bool (knownB P.length row)) ∧ Below w.heap.size w w' := by
  have hb0 : Below w.heap.size w (w.alloc (.cells #[.slice aP P.length cP] 29)) := (Below.refl _ _).alloc (Nat.le_refl _) _
  by_cases hlong : row.length ≤ 200
  · have hbI : ¬ (200 : Int) < (row.length : Int) := by omega
    have HR : Hid (Reads w ar row) := hr
    have HB0 : Hid (Below w.heap.size w (w.alloc (.cells #[.slice aP P.length cP] 29))) := hb0
    have qg : (w.alloc (.cells #[.slice aP P.length cP] 29)).cell? ⟨w.heap.size, 0, none⟩ = some (.slice aP P.length cP) := by simp
    have hgl : w.heap.size < (w.alloc (.cells #[.slice aP P.length cP] 29)).heap.size := by simp
    have HQ : Hid (∀ W, Below (w.alloc (.cells #[.slice aP P.length cP] 29)).heap.size (w.alloc (.cells #[.slice aP P.length cP] 29)) W → W.cell? ⟨w.heap.size, 0, none⟩ = some (.slice aP P.length cP)) := fun W hW => (hW.cell (p := ⟨w.heap.size, 0, none⟩) hgl).trans qg
    have HRF : Hid (Below (w.alloc (.cells #[.slice aP P.length cP] 29)).heap.size (w.alloc (.cells #[.slice aP P.length cP] 29)) (w.alloc (.cells #[.slice aP P.length cP] 29))) := Below.refl _ _
    clear hr hb0 qg hgl
    go_enter Tryz.func22, Tryz.ntmps22
    go_wp2
    generalize w.alloc (.cells #[.slice aP P.length cP] 29) = wG at *
    go_loopw [5] (fun i wr => ∃ k : Nat, k ≤ row.length ∧ i = .int .i64 k ∧ Hid ((row.take k).all (symOk P.length) = true) ∧ Hid (Below wG.heap.size wG wr)) (fun i _ => row.length - (intOf i).toNat)
    case atStart => exact ⟨0, Nat.zero_le _, rfl, by show _ = _; simp, HRF⟩
    case round =>
      obtain ⟨k, hk, rfl, HK, HBe⟩ := hrel
      have hbw : Below w.heap.size w wr := HB0.out.trans (HBe.out.mono HB0.out.size)
      by_cases hlt : k < row.length
      · obtain ⟨b, off, rfl, hb1, hc⟩ := (HR.out.below hbw).at hlt
        have q1 := hc k hlt
        rw [List.getD_eq_getElem?_getD, List.getElem?_eq_getElem hlt, Option.getD_some] at q1
        have qg := HQ.out wr HBe.out
        have HS : Hid (symOk P.length row[k] = true → (row.take (k + 1)).all (symOk P.length) = true) := fun g => all_step HK.out hlt g
        have HN : Hid (symOk P.length row[k] = false → knownB P.length row = false) := fun g => knownB_no (all_no hlt g)
        clear hc HK
        generalize row[k] = z at *
        by_cases z1 : inB z 0 25 = true
        · have HSS := HS.out (by simp [symOk, z1])
          clear HS HN
          go_wp2
          go_quiet ((go_at_call 21; exact Calls.quiet_of_same (l1In_any _ _ _ _)))
          have HBn : Hid (Below wG.heap.size wG (wr.drewN nq)) := HBe.out.trans ((below_drew (w := wr) nq).mono HBe.out.size)
          clear HBe q1 qg hbw hb1
          generalize wr.drewN nq = wq at *
          go_wp2
          go_roundw
          case rel => exact ⟨k + 1, by omega, by go_num, HSS, HBn⟩
          case measure => simp [intOf]; omega
        · have z1' : inB z 0 25 = false := by simpa using z1
          clear z1
          by_cases z2 : inB z 100 (100 + P.length - 1) = true
          · have HSS := HS.out (by simp [symOk, z2])
            clear HS HN
            go_wp2
            go_quiet ((go_at_call 21; exact Calls.quiet_of_same (l1In_any _ _ _ _)))
            have HBn : Hid (Below wG.heap.size wG (wr.drewN nq)) := HBe.out.trans ((below_drew (w := wr) nq).mono HBe.out.size)
            clear HBe q1 qg hbw hb1
            generalize wr.drewN nq = wq at *
            go_wp2
            go_roundw
            case rel => exact ⟨k + 1, by omega, by go_num, HSS, HBn⟩
            case measure => simp [intOf]; omega
          · have z2' : inB z 100 (100 + P.length - 1) = false := by simpa using z2
            have HNN := HN.out (by simp [symOk, z1', z2'])
            clear HS HN z2
            go_wp2
            go_quiet ((go_at_call 21; exact Calls.quiet_of_same (l1In_any _ _ _ _)))
            have HBn : Hid (Below w.heap.size w (wr.drewN nq)) := hbw.trans ((below_drew (w := wr) nq).mono hbw.size)
            clear HBe q1 qg hbw hb1
            generalize wr.drewN nq = wq at *
            go_wp2
            go_ret
            exact ⟨ret_bool (by rw [HNN]), HBn.out⟩
      · have HE : Hid (knownB P.length row = true) := knownB_yes hlong (all_end HK.out hlt)
        have HBn : Hid (Below w.heap.size w wr) := hbw
        clear HK HBe hbw
        go_wp2
        go_ret
        exact ⟨ret_bool (by rw [HE.out]), HBn.out⟩
  · have hbI : (200 : Int) < (row.length : Int) := by omega
    rw [knownB_long hlong]
    go_enter Tryz.func22, Tryz.ntmps22
    go_wp2
    go_ret
    exact ⟨rfl, hb0⟩
end Go.Proofs.YthnppodnjokaoaaGreatDoor
namespace Go.Proofs.YthnppodnjokaoaaGreatDoor
open Go.RowKit

/-- All is right for a question at place n. -/
def rightAt (x : Gm) (ws : List Int) (n : Int) : Bool := decide (resCheck x = 0) && inputOkB ws && inB n 0 ws.length
theorem rightAt_check {x : Gm} {ws : List Int} {n : Int} (h : resCheck x ≠ 0) : rightAt x ws n = false := by simp [rightAt, h]
theorem rightAt_input {x : Gm} {ws : List Int} {n : Int} (h : inputOkB ws = false) : rightAt x ws n = false := by simp [rightAt, h]
theorem rightAt_all {x : Gm} {ws : List Int} {n : Int} (h1 : resCheck x = 0) (h2 : inputOkB ws = true) : rightAt x ws n = inB n 0 ws.length := by simp [rightAt, h1, h2]
theorem rightAt_yes {x : Gm} {ws : List Int} {n : Int} (h : rightAt x ws n = true) : resCheck x = 0 ∧ inputOkB ws = true ∧ 0 ≤ n ∧ n ≤ ws.length := by
  simp only [rightAt, Bool.and_eq_true, decide_eq_true_eq, inB_true] at h
  exact ⟨h.1.1, h.1.2, h.2.1, h.2.2⟩
/-- What Far answers. -/
def resFar (x : Gm) (row ws : List Int) (n : Int) : Int := if (rightAt x ws n && knownB x.parts.length row) = true then (farOf x.parts row ws n.toNat : Int) else -1
theorem resFar_wrong {x : Gm} {row ws : List Int} {n : Int} (h : rightAt x ws n = false) : resFar x row ws n = -1 := by simp [resFar, h]
theorem resFar_row {x : Gm} {row ws : List Int} {n : Int} (h : knownB x.parts.length row = false) : resFar x row ws n = -1 := by simp [resFar, h]
theorem resFar_all {x : Gm} {row ws : List Int} {n : Int} (h1 : rightAt x ws n = true) (h2 : knownB x.parts.length row = true) : resFar x row ws n = (farOf x.parts row ws n.toNat : Int) := by simp [resFar, h1, h2]
theorem knownB_len {n : Nat} {row : List Int} (h : knownB n row = true) : row.length ≤ 200 := by simp only [knownB, Bool.and_eq_true, decide_eq_true_eq] at h; exact h.1
theorem knownB_sym {n : Nat} {row : List Int} (h : knownB n row = true) : ∀ x ∈ row, symOk n x = true := by
  simp only [knownB, Bool.and_eq_true, List.all_eq_true] at h; exact h.2
theorem nat_of {n : Int} (h : 0 ≤ n) : ((n.toNat : Nat) : Int) = n := by omega
end Go.Proofs.YthnppodnjokaoaaGreatDoor
namespace Go.Proofs.YthnppodnjokaoaaGreatDoor
open Go.RowKit

/-- Far of each alternative of part k with rest behind it. -/
def altFars (P : List (List (List Int))) (k : Nat) (rest ws : List Int) (n : Nat) : List Int := (P.getD k []).map fun a => (farOf P (a ++ rest) ws n : Int)
def altsKnown (P : List (List (List Int))) (k : Nat) (rest : List Int) : Bool := (P.getD k []).all fun a => knownB P.length (a ++ rest)
/-- None, where something is not as it should be. -/
def farsL (x : Gm) (k : Int) (rest ws : List Int) (n : Int) : List Int :=
  if (rightAt x ws n && inB k 0 (x.parts.length - 1) && altsKnown x.parts k.toNat rest) = true then altFars x.parts k.toNat rest ws n.toNat else []
theorem farsL_wrong {x : Gm} {k : Int} {rest ws : List Int} {n : Int} (h : rightAt x ws n = false) : farsL x k rest ws n = [] := by simp [farsL, h]
theorem farsL_part {x : Gm} {k : Int} {rest ws : List Int} {n : Int} (h : inB k 0 (x.parts.length - 1) = false) : farsL x k rest ws n = [] := by simp [farsL, h]
theorem farsL_row {x : Gm} {k : Nat} {rest ws : List Int} {n : Int} {a : Nat} (hk : k < x.parts.length) (ha : a < x.parts[k].length) (h : knownB x.parts.length (x.parts[k][a] ++ rest) = false) : farsL x (k : Int) rest ws n = [] := by
  have : altsKnown x.parts k rest = false := by
    unfold altsKnown
    have e : x.parts.getD k [] = x.parts[k] := by simp [List.getD, hk]
    rw [e, List.all_eq_false]
    exact ⟨x.parts[k][a], List.getElem_mem ha, by simp [h]⟩
  simp [farsL, this]
theorem farsL_all {x : Gm} {k : Nat} {rest ws : List Int} {n : Int} (h1 : rightAt x ws n = true) (hk : k < x.parts.length) (h : ∀ a (ha : a < x.parts[k].length), knownB x.parts.length (x.parts[k][a] ++ rest) = true) : farsL x (k : Int) rest ws n = altFars x.parts k rest ws n.toNat := by
  have h2 : inB (k : Int) 0 (x.parts.length - 1) = true := by rw [inB_true]; omega
  have h3 : altsKnown x.parts k rest = true := by
    unfold altsKnown
    have e : x.parts.getD k [] = x.parts[k] := by simp [List.getD, hk]
    rw [e, List.all_eq_true]
    intro y hy
    obtain ⟨a, ha, rfl⟩ := List.getElem_of_mem hy
    exact h a ha
  unfold farsL
  rw [h1, h2, Int.toNat_natCast, h3]; rfl
theorem altFars_length {P : List (List (List Int))} {k : Nat} (hk : k < P.length) (rest ws : List Int) (n : Nat) : (altFars P k rest ws n).length = P[k].length := by simp [altFars, List.getD, hk]
theorem altFars_take {P : List (List (List Int))} {k a : Nat} (hk : k < P.length) (ha : a < P[k].length) (rest ws : List Int) (n : Nat) : (altFars P k rest ws n).take (a + 1) = (altFars P k rest ws n).take a ++ [(farOf P (P[k][a] ++ rest) ws n : Int)] := by
  have h : a < (altFars P k rest ws n).length := by rw [altFars_length hk]; exact ha
  rw [List.take_succ_eq_append_getElem h]
  congr 2
  simp [altFars, List.getD, hk]
end Go.Proofs.YthnppodnjokaoaaGreatDoor
namespace Go.Proofs.YthnppodnjokaoaaGreatDoor
open Go.RowKit

/-- The places of t among the first. -/
def sureTo (fs : List Int) (t : Int) : Nat → List Int
  | 0 => []
  | a + 1 => if fs.getD a 0 = t then sureTo fs t a ++ [(a : Int)] else sureTo fs t a
theorem sureTo_len (fs : List Int) (t : Int) (a : Nat) : (sureTo fs t a).length ≤ a := by
  induction a with
  | zero => simp [sureTo]
  | succ a ih =>
    rw [sureTo]
    split
    · rw [List.length_append, List.length_singleton]; omega
    · omega
def resSure (x : Gm) (k : Int) (rest ws : List Int) (n : Int) : List Int := sureTo (farsL x k rest ws n) (ws.length - n + 1) (farsL x k rest ws n).length
theorem farsL_len {x : Gm} {k : Int} {rest ws : List Int} {n : Int} : (farsL x k rest ws n).length ≤ 8 := by
  unfold farsL
  split
  · rename_i h
    simp only [Bool.and_eq_true] at h
    obtain ⟨⟨h1, h2⟩, _⟩ := h
    have F := Fits.of (resCheck_ok (rightAt_yes h1).1).1
    obtain ⟨k1, k2⟩ := inB_true.1 h2
    have hk : k.toNat < x.parts.length := by omega
    rw [altFars_length hk]
    exact F.alts _ (List.getElem_mem hk)
  · simp
theorem farsL_right {x : Gm} {k : Int} {rest ws : List Int} {n : Int} (h : farsL x k rest ws n ≠ []) : 0 ≤ n ∧ n ≤ ws.length ∧ ws.length ≤ 10 := by
  cases hr : rightAt x ws n
  · exact absurd (farsL_wrong hr) h
  · obtain ⟨_, r2, r3, r4⟩ := rightAt_yes hr
    exact ⟨r3, r4, inputOkB_len r2⟩
theorem resSure_len (x : Gm) (k : Int) (rest ws : List Int) (n : Int) : (resSure x k rest ws n).length ≤ 8 := Nat.le_trans (sureTo_len _ _ _) farsL_len
theorem resSure_le (x : Gm) (k : Int) (rest ws : List Int) (n : Int) (_ : Lay.gram.wt x ≤ 1048576) (_ : Lay.gram.fit x) (_ : (Lit.int .i64 k).wf = true) (_ : rest.length ≤ 1048576) (_ : (Lay.list Lay.int).fit rest) (_ : ws.length ≤ 1048576) (_ : (Lay.list Lay.int).fit ws) (_ : (Lit.int .i64 n).wf = true) : (Lay.list Lay.int).wt (resSure x k rest ws n) ≤ 2097152 := by
  have := resSure_len x k rest ws n
  rw [Lay.wt_ints]; omega
theorem farsL_range {x : Gm} {k : Int} {rest ws : List Int} {n : Int} : ∀ y ∈ farsL x k rest ws n, 0 ≤ y ∧ y ≤ 11 := by
  intro y hy
  unfold farsL at hy
  split at hy
  · rename_i h
    simp only [Bool.and_eq_true] at h
    obtain ⟨⟨h1, _⟩, _⟩ := h
    obtain ⟨_, r2, r3, r4⟩ := rightAt_yes h1
    have hl := inputOkB_len r2
    simp only [altFars, List.mem_map] at hy
    obtain ⟨a, _, rfl⟩ := hy
    have hle : farRow ws (way x.parts ws) (farP x.parts ws) n.toNat (a ++ rest) ≤ ws.length := farRow_le (by omega) (fun k j hj => farP_le x.parts ws k j hj)
    unfold farOf
    split <;> omega
  · simp at hy
end Go.Proofs.YthnppodnjokaoaaGreatDoor
namespace Go.Proofs.YthnppodnjokaoaaGreatDoor
open Go.RowKit

/-- The first of the greatest among the first. -/
def bestTo (fs : List Int) : Nat → Nat
  | 0 => 0
  | a + 1 => if fs.getD a 0 > fs.getD (bestTo fs a) 0 then a else bestTo fs a
/-- The greatest among the first, b left out; -1 where there is none. -/
def secTo (fs : List Int) (b : Nat) : Nat → Int
  | 0 => -1
  | a + 1 => if a = b then secTo fs b a else max (secTo fs b a) (fs.getD a 0)
theorem bestTo_lt (fs : List Int) (a : Nat) : bestTo fs a ≤ a - 1 := by
  induction a with
  | zero => simp [bestTo]
  | succ a ih =>
    rw [bestTo]
    split <;> omega
theorem bestTo_one (fs : List Int) : bestTo fs 1 = 0 := by
  have := bestTo_lt fs 1
  omega
theorem secTo_range (fs : List Int) (b : Nat) (h : ∀ y ∈ fs, 0 ≤ y ∧ y ≤ 11) (a : Nat) : -1 ≤ secTo fs b a ∧ secTo fs b a ≤ 11 := by
  induction a with
  | zero => simp [secTo]
  | succ a ih =>
    rw [secTo]
    split
    · exact ih
    · have : fs.getD a 0 ≤ 11 := by
        rw [List.getD_eq_getElem?_getD]
        by_cases ha : a < fs.length
        · rw [List.getElem?_eq_getElem ha]
          exact (h _ (List.getElem_mem ha)).2
        · rw [List.getElem?_eq_none (by omega)]; decide
      omega
def resChoose (x : Gm) (k : Int) (rest ws : List Int) (n : Int) : Int × Int :=
  if farsL x k rest ws n = [] then (-1, 0)
  else ((bestTo (farsL x k rest ws n) (farsL x k rest ws n).length : Int), min (ws.length - n) (secTo (farsL x k rest ws n) (bestTo (farsL x k rest ws n) (farsL x k rest ws n).length) (farsL x k rest ws n).length + 1))
end Go.Proofs.YthnppodnjokaoaaGreatDoor
namespace Go.Proofs.YthnppodnjokaoaaGreatDoor
open Go.RowKit

set_option maxHeartbeats 1000000 in
set_option maxRecDepth 100000 in
theorem l8Ok_any (x : Gm) (a0 : Option Addr) (c0 : Nat) (z2 : List Int) (a2 : Option Addr) (c2 : Nat) (n : Int) (w : World) (h0 : RD w (.slice a0 x.parts.length c0) (slD (Lay.list (Lay.list Lay.int)) x.parts)) (h2 : RD w (.slice a2 z2.length c2) (slD Lay.int z2)) (hn : Lay.gram.wt x ≤ 1048576) (hf : Lay.gram.fit x) (hl2 : z2.length ≤ 1048576) (hz2 : (Lay.list Lay.int).fit z2) :
    Calls Tryz.prog 20 #[.agg #[.slice a0 x.parts.length c0], .slice a2 z2.length c2, .int .i64 n] w fun e w' => e = .returned (.bool (rightAt x z2 n)) ∧ Below w.heap.size w w' := by
  have B0 := (Below.refl w.heap.size w).alloc (Nat.le_refl _) (.cells #[.slice a0 x.parts.length c0] 29)
  have HK : Hid (∀ W : World, Below w.heap.size w W → Calls Tryz.prog 33 #[.agg #[.slice a0 x.parts.length c0]] W fun e w' => e = .returned (.int .i64 (resCheck x)) ∧ Below W.heap.size W w') := fun W hW => specCheck_any x a0 c0 W (h0.later hW) hn hf
  have HI : Hid (∀ W : World, Below w.heap.size w W → Calls Tryz.prog 34 #[.slice a2 z2.length c2] W fun e w' => e = .returned (.bool (inputOkB z2)) ∧ Below W.heap.size W w') := fun W hW => specInputOk_any z2 a2 c2 W (h2.later hW) hl2 hz2
  have D1 : Hid (resCheck x ≠ 0 → rightAt x z2 n = false) := rightAt_check
  have D2 : Hid (inputOkB z2 = false → rightAt x z2 n = false) := rightAt_input
  have D3 : Hid (resCheck x = 0 → inputOkB z2 = true → rightAt x z2 n = inB n 0 z2.length) := rightAt_all
  have hgl : w.heap.size < (w.alloc (.cells #[.slice a0 x.parts.length c0] 29)).heap.size := by simp
  have qg : (w.alloc (.cells #[.slice a0 x.parts.length c0] 29)).cell? ⟨w.heap.size, 0, none⟩ = some (.slice a0 x.parts.length c0) := by simp
  clear h0 h2 hn hf hz2
  generalize rightAt x z2 n = R at *
  generalize resCheck x = rc at *
  generalize x.parts = P at *
  by_cases hc : rc = 0
  · have D3c := D3.out hc
    subst hc
    by_cases hi : inputOkB z2 = true
    · have E : Hid (R = inB n 0 z2.length) := D3c hi
      rw [hi] at HI
      clear D1 D2 D3 D3c hi
      go_enter Tryz.func20, Tryz.ntmps20
      go_wp2_with (first | (go_at_call 33; refine (HK.out _ B0).mono ?_; rintro e w1 ⟨rfl, hb1⟩; have g1 := (hb1.cell (p := ⟨w.heap.size, 0, none⟩) hgl).trans qg; have B1 := B0.trans (hb1.mono B0.size); have l1 := Nat.lt_of_lt_of_le hgl hb1.size) | (go_at_call 34; refine (HI.out _ B1).mono ?_; rintro e w2 ⟨rfl, hb2⟩; have g2 := (hb2.cell (p := ⟨w.heap.size, 0, none⟩) l1).trans g1; have B2 := B1.trans (hb2.mono B1.size); have l2 := Nat.lt_of_lt_of_le l1 hb2.size) | (go_at_call 21; refine (l1In_any _ _ _ _).mono ?_; rintro e w3 ⟨rfl, h3⟩; replace h3 := h3.symm; subst h3))
      go_ret
      exact ⟨ret_bool (by rw [E.out]), B2⟩
    · have hi' : inputOkB z2 = false := by simpa using hi
      have E : Hid (R = false) := D2.out hi'
      rw [hi'] at HI
      clear D1 D2 D3 D3c hi hi'
      go_enter Tryz.func20, Tryz.ntmps20
      go_wp2_with (first | (go_at_call 33; refine (HK.out _ B0).mono ?_; rintro e w1 ⟨rfl, hb1⟩; have g1 := (hb1.cell (p := ⟨w.heap.size, 0, none⟩) hgl).trans qg; have B1 := B0.trans (hb1.mono B0.size); have l1 := Nat.lt_of_lt_of_le hgl hb1.size) | (go_at_call 34; refine (HI.out _ B1).mono ?_; rintro e w2 ⟨rfl, hb2⟩; have g2 := (hb2.cell (p := ⟨w.heap.size, 0, none⟩) l1).trans g1; have B2 := B1.trans (hb2.mono B1.size); have l2 := Nat.lt_of_lt_of_le l1 hb2.size))
      go_ret
      exact ⟨ret_bool E.out.symm, B2⟩
  · have E : Hid (R = false) := D1.out hc
    have hcb : (rc == 0) = false := by simp [hc]
    clear D1 D2 D3
    go_enter Tryz.func20, Tryz.ntmps20
    go_wp2_with (go_at_call 33; refine (HK.out _ B0).mono ?_; rintro e w1 ⟨rfl, hb1⟩; have g1 := (hb1.cell (p := ⟨w.heap.size, 0, none⟩) hgl).trans qg; have B1 := B0.trans (hb1.mono B0.size); have l1 := Nat.lt_of_lt_of_le hgl hb1.size)
    go_ret
    exact ⟨ret_bool E.out.symm, B1⟩
end Go.Proofs.YthnppodnjokaoaaGreatDoor
