/-
  Contracts and plain mathematics, joined: TrFars, FarsOf, Sure, MIntS, MIntSS, MIntSSS, MGram, SureLaw. No statement is proved here.
-/
import Derived.Test.YthnppodnjokaoaaDoorG7
import Derived.Test.YthnppodnjokaoaaDoorG8
import Derived.Test.YthnppodnjokaoaaDoorG11
import Derived.Test.YthnppodnjokaoaaDoorG10
import Derived.Test.YthnppodnjokaoaaDoorG4
import Derived.Test.YthnppodnjokaoaaDoorG5
namespace Go.Proofs.YthnppodnjokaoaaDoor
open Go.RowKit

theorem within_grown8 {w w' : World} {b : Nat} (h : Within w w' (fun k => k = b)) : w.grownBy w' (some b) := ⟨h.os, h.tape, h.output, h.size, fun k hk hne => h.block k hk (fun e => hne (by rw [e]))⟩
/-- The Fars of a part's alternatives; none, where one of them has too much behind it. -/
def farsT (P : List (List (List Int))) (k : Nat) (rest ws : List Int) (i : Nat) : List Int := if altsKnown P k rest = true then altFars P k rest ws i else []
theorem farsT_all {P : List (List (List Int))} {k : Nat} {rest ws : List Int} {i : Nat} (hk : k < P.length) (h : ∀ a (ha : a < P[k].length), knownB P.length (P[k][a] ++ rest) = true) : farsT P k rest ws i = altFars P k rest ws i := by
  have h3 : altsKnown P k rest = true := by
    unfold altsKnown
    have e : P.getD k [] = P[k] := by simp [List.getD, hk]
    rw [e, List.all_eq_true]
    intro y hy
    obtain ⟨a, ha, rfl⟩ := List.getElem_of_mem hy
    exact h a ha
  rw [farsT, if_pos h3]
theorem farsT_row {P : List (List (List Int))} {k : Nat} {rest ws : List Int} {i : Nat} (hk : k < P.length) {a : Nat} (ha : a < P[k].length) (h : knownB P.length (P[k][a] ++ rest) = false) : farsT P k rest ws i = [] := by
  have h3 : ¬ altsKnown P k rest = true := by
    unfold altsKnown
    have e : P.getD k [] = P[k] := by simp [List.getD, hk]
    rw [e]
    intro hall
    have := List.all_eq_true.1 hall P[k][a] (List.getElem_mem ha)
    rw [h] at this
    cases this
  rw [farsT, if_neg h3]
theorem Reads.withinT {w w' : World} {a : Option Addr} {zs : List Int} {T : Nat → Prop} (h : Reads w a zs) (hw : Within w w' T) (hb : ∀ b off, zs ≠ [] → a = some ⟨b, off, none⟩ → ¬ T b) : Reads w' a zs := by
  by_cases h0 : zs = []
  · exact .inl h0
  · rcases h with h | ⟨b, off, rfl, hlt, hc⟩
    · exact absurd h h0
    · exact .inr ⟨b, off, rfl, Nat.lt_of_lt_of_le hlt hw.size, fun i hi => by
        rw [← hc i hi]
        exact World.cell?_of_block (a := ⟨b, off + i, none⟩) (hw.block b hlt (hb b off h0 rfl))⟩

section
variable {P : List (List (List Int))} {ws : List Int} {w0 : World} {bT : Nat} {aP : Option Addr} {cP : Nat} {aw : Option Addr} {cw : Nat} {K : Nat → Prop}
set_option maxHeartbeats 8000000 in
set_option maxRecDepth 100000 in
theorem trFars_any (kn : Nat) (z2 : List Int) (a2 : Option Addr) (c2 i : Nat) (w : World) (hT : TrIn P ws w0 bT aP cP aw cw K w) (hws : Reads w0 aw ws) (hr : Reads w a2 z2) (hrb : ∀ b off, z2 ≠ [] → a2 = some ⟨b, off, none⟩ → b ≠ bT) (hl2 : z2.length ≤ 1048576) (hz2 : ∀ z ∈ z2, -9223372036854775808 ≤ z ∧ z ≤ 9223372036854775807) (hn : ws.length ≤ 10) (hi : i ≤ ws.length) (hok : gramOkB P = true) (hL : NoLoop P) (hP : RD w0 (.slice aP P.length cP) (slD (Lay.list (Lay.list Lay.int)) P)) (hkn : kn < P.length) :
    Calls Tryd.prog 47 #[.pointer (some ⟨bT, 0, none⟩), .int .i64 (kn : Int), .slice a2 z2.length c2, .int .i64 (i : Int)] w fun e w' => ∃ v, e = .returned v ∧ OwnInts w' w.heap.size 3 v (farsT P kn z2 ws i) ∧ Hid (∃ K', TrIn P ws w0 bT aP cP aw cw K' w' ∧ (∀ b, K' b → K b ∨ w.heap.size ≤ b) ∧ ∀ b, v.ownBlock = some b → ¬ K' b) ∧ Within w w' (fun b => b = bT) := by
  have F := Fits.of hok
  have hp20 : P.length ≤ 20 := F.parts
  have HALL : Hid ((∀ a (ha : a < P[kn].length), knownB P.length (P[kn][a] ++ z2) = true) → farsT P kn z2 ws i = altFars P kn z2 ws i) := farsT_all hkn
  have HNO : Hid (∀ a (ha : a < P[kn].length), knownB P.length (P[kn][a] ++ z2) = false → farsT P kn z2 ws i = []) := fun a ha h => farsT_row hkn ha h
  have hp8 := F.alts _ (List.getElem_mem hkn)
  obtain ⟨b1, o1, rfl, hb1, a1, ca1, p1, q1⟩ := hP.listAt hkn
  have HR1 : Hid (RD w0 (.slice a1 P[kn].length ca1) (slD (Lay.list Lay.int) P[kn])) := q1
  have p1w := (hT.low.cell (p := ⟨b1, o1 + kn, none⟩) hb1).trans p1
  have HTK : Hid (∀ a (ha : a < P[kn].length), (altFars P kn z2 ws i).take (a + 1) = (altFars P kn z2 ws i).take a ++ [(farOf P (P[kn][a] ++ z2) ws i : Int)]) := fun a ha => altFars_take hkn ha z2 ws i
  have HLN : Hid ((altFars P kn z2 ws i).length = P[kn].length) := altFars_length hkn z2 ws i
  have HRE : Hid (∀ W, Within w W (fun b => b = bT) → Reads W a2 z2) := fun W hW => hr.withinT hW (fun b off h e => hrb b off h e)
  have HCG : Hid (∀ a (ha : a < P[kn].length) (ar : Option Addr) (cr : Nat) (W : World), Reads W ar (P[kn][a] ++ z2) → Calls Tryd.prog 73 #[.agg #[.slice (some ⟨b1, o1, none⟩) P.length cP], .slice ar (P[kn][a] ++ z2).length cr] W fun e w' => e = .returned (.bool (knownB P.length (P[kn][a] ++ z2))) ∧ Below W.heap.size W w') := fun a ha ar cr W h1 => canGo_any P.length _ cP _ ar cr W h1 (by omega) (by rw [List.length_append]; have := F.rows _ (List.getElem_mem hkn) _ (List.getElem_mem ha); omega) (fun z hz => by
    rcases List.mem_append.1 hz with hz | hz
    · have hs : symOk P.length z = true := by
        have := hok
        simp only [gramOkB, Bool.and_eq_true, List.all_eq_true, partOk, rowOk] at this
        exact (((this.2 _ (List.getElem_mem hkn)).2 _ (List.getElem_mem ha)).2) z hz
      have := symOk_true.1 hs
      omega
    · exact hz2 z hz)
  have HFR : Hid (∀ (row : List Int) (ar : Option Addr) (cr : Nat) (W : World) (K : Nat → Prop), TrIn P ws w0 bT (some ⟨b1, o1, none⟩) cP aw cw K W → Reads W ar row → (∀ b off, row ≠ [] → ar = some ⟨b, off, none⟩ → b ≠ bT) → knownB P.length row = true → Calls Tryd.prog 74 #[.pointer (some ⟨bT, 0, none⟩), .slice ar row.length cr, .int .i64 (i : Int)] W fun e w' => e = .returned (.int .i64 (farOf P row ws i : Int)) ∧ Hid (∃ K', TrIn P ws w0 bT (some ⟨b1, o1, none⟩) cP aw cw K' w' ∧ ∀ b, K' b → K b ∨ W.heap.size ≤ b) ∧ Within W w' (fun b => b = bT)) := fun row ar cr W K hT h1 hb hk =>
    trFar_any row ar cr i W hT hws h1 hb (by have := knownB_len hk; omega) hn hi (knownB_sym hk) hok hL hP
  have HR8 : Hid (∀ a (ha : a < P[kn].length), P[kn][a].length ≤ 8) := fun a ha => F.rows _ (List.getElem_mem hkn) _ (List.getElem_mem ha)
  have hkI : (kn : Int) < (P.length : Int) := by omega
  have hiI : (i : Int) ≤ 10 := by omega
  have HKB0 : Hid (∀ a (ha : a < P[kn].length), a < 0 → knownB P.length (P[kn][a] ++ z2) = true) := fun a _ h => by omega
  have qg0 := hT.c0
  have hbT := hT.lt
  have HT0 : Hid (TrIn P ws w0 bT (some ⟨b1, o1, none⟩) cP aw cw K w) := hT
  have HbT0 : Hid (w0.heap.size ≤ bT) := hT.lT
  clear hok F hr hrb hP hws hz2 q1 p1 hL hT
  generalize altFars P kn z2 ws i = L at *
  have HO0 : Hid (OwnInts w w.heap.size 3 (.slice none 0 0) (L.take 0)) := OwnInts.nil _ _ _
  go_enter Tryd.func47, Tryd.ntmps47
  go_wp2
  go_loopw [9, 22] (fun s12 s36 wr => ∃ (a : Nat) (vo : Value), a ≤ P[kn].length ∧ s36 = .int .i64 (a : Int) ∧ s12 = vo ∧ Hid (OwnInts wr w.heap.size 3 vo (L.take a)) ∧ Hid (Within w wr (fun b => b = bT)) ∧ Hid (∃ K', TrIn P ws w0 bT (some ⟨b1, o1, none⟩) cP aw cw K' wr ∧ (∀ b, K' b → K b ∨ w.heap.size ≤ b) ∧ ∀ b, vo.ownBlock = some b → ¬ K' b) ∧ Hid (∀ b (hb : b < P[kn].length), b < a → knownB P.length (P[kn][b] ++ z2) = true)) (fun _ s36 _ => P[kn].length - (intOf s36).toNat)
  case atStart => exact ⟨0, _, Nat.zero_le _, rfl, rfl, HO0, Within.refl _ _, ⟨K, HT0.out, fun _ h => .inl h, fun _ h => by simp [Value.ownBlock] at h⟩, HKB0⟩
  case round =>
    obtain ⟨a, vo, ha, rfl, hvo, HO, HBr, HTR, HKB⟩ := hrel
    replace hvo := hvo.symm
    subst hvo
    obtain ⟨wA, hwA⟩ : ∃ y, y = wr := ⟨_, rfl⟩
    subst hwA
    clear HO0 HKB0 HT0 qg0 p1w
    obtain ⟨K1, hT1, hK1, hK2⟩ := HTR.out
    have HT1 : Hid (TrIn P ws w0 bT (some ⟨b1, o1, none⟩) cP aw cw K1 wA) := hT1
    have HK1 : Hid (∀ b, vo.ownBlock = some b → ¬ K1 b) := hK2
    have HK1s : Hid (∀ b, K1 b → K b ∨ w.heap.size ≤ b) := hK1
    have hbTA := hT1.lt
    have qg := hT1.c0
    have hbw : Below w0.heap.size w0 wA := hT1.low
    have HBW : Hid (Below w0.heap.size w0 wA) := hbw
    have hszw := HBr.out.size
    have hsz0 := hbw.size
    clear hT1 hK1 hK2 HTR
    by_cases hlt : a < P[kn].length
    · obtain ⟨b2, o2, rfl, hb2, a5, c5, p2, q2⟩ := HR1.out.listAt hlt
      have p2a := (hbw.cell (p := ⟨b2, o2 + a, none⟩) hb2).trans p2
      have HRa : Hid (Reads w0 a5 P[kn][a]) := q2.reads
      have hl8 := HR8.out a hlt
      have HNa' : Hid (knownB P.length (P[kn][a] ++ z2) = false → farsT P kn z2 ws i = []) := HNO.out a hlt
      have HTa : Hid (L.take (a + 1) = L.take a ++ [(farOf P (P[kn][a] ++ z2) ws i : Int)]) := HTK.out a hlt
      have HKB2 : Hid (knownB P.length (P[kn][a] ++ z2) = true → ∀ b (hb : b < P[kn].length), b < a + 1 → knownB P.length (P[kn][b] ++ z2) = true) := fun h b hb hlt2 => by
        by_cases e : b = a
        · subst e; exact h
        · exact HKB.out b hb (by omega)
      have HCGa : Hid (∀ (ar : Option Addr) (cr : Nat) (W : World), Reads W ar (P[kn][a] ++ z2) → Calls Tryd.prog 73 #[.agg #[.slice (some ⟨b1, o1, none⟩) P.length cP], .slice ar (P[kn][a] ++ z2).length cr] W fun e w' => e = .returned (.bool (knownB P.length (P[kn][a] ++ z2))) ∧ Below W.heap.size W w') := HCG.out a hlt
      have haI : (a : Int) < (P[kn].length : Int) := by omega
      have hb2A : b2 < wA.heap.size := by omega
      have hLl : (L.take a).length ≤ 1048576 := by rw [List.length_take, HLN.out]; omega
      clear hbw p2 q2 HKB HALL HNO HTK HCG
      generalize P[kn][a] = alt at *
      have hBc : Below wA.heap.size wA (wA.alloc (.cells #[.slice a5 alt.length c5, .slice a2 z2.length c2] 25)) := (Below.refl _ _).alloc (Nat.le_refl _) _
      have X := concat_any wA.heap.size alt z2 a5 c5 a2 c2 (wA.alloc (.cells #[.slice a5 alt.length c5, .slice a2 z2.length c2] 25)) (by simp) (by simp) (HRa.out.below (HBW.out.trans (hBc.mono HBW.out.size))) ((HRE.out wA HBr.out).below hBc) (by omega) (by omega)
      go_wp2_with (go_at_call 72; refine X.mono ?_; rintro e w5 ⟨v5, rfl, hO5, hb5⟩; obtain ⟨a6, c6, rfl, hr6, _⟩ := hO5.shape; have qg6 := ((hBc.trans (hb5.mono hBc.size)).cell (p := ⟨bT, 0, none⟩) hbTA).trans qg)
      have hb6 : Below wA.heap.size wA w5 := hBc.trans (hb5.mono hBc.size)
      have hlo6 : ∀ b off, a6 = some ⟨b, off, none⟩ → b ≠ bT := fun b off e => by
        have h1 := (hO5.block b (by rw [e]; simp only [Value.ownBlock])).1
        simp at h1
        omega
      have HLO : Hid (∀ b off, a6 = some ⟨b, off, none⟩ → b ≠ bT) := hlo6
      have HR6 : Hid (Reads w5 a6 (alt ++ z2)) := hr6
      have HB6 : Hid (Within w w5 (fun b => b = bT)) := HBr.out.trans (Within.of_below hb6 _) 
      have HOut6 : Hid (OwnInts w5 w.heap.size 3 vo (L.take a)) := HO.out.below hb6
      have HT6 : Hid (TrIn P ws w0 bT (some ⟨b1, o1, none⟩) cP aw cw K1 w5) := HT1.out.later hb6
      have HOB : Hid (∀ b, vo.ownBlock = some b → w.heap.size ≤ b ∧ b < w5.heap.size) := HOut6.out.block
      have Y := HCGa.out a6 c6 w5 hr6
      have HFR6 : Hid (knownB P.length (alt ++ z2) = true → ∀ W, Below w5.heap.size w5 W → Calls Tryd.prog 74 #[.pointer (some ⟨bT, 0, none⟩), .slice a6 (alt ++ z2).length c6, .int .i64 (i : Int)] W fun e w' => e = .returned (.int .i64 (farOf P (alt ++ z2) ws i : Int)) ∧ Hid (∃ K', TrIn P ws w0 bT (some ⟨b1, o1, none⟩) cP aw cw K' w' ∧ ∀ b, K' b → K1 b ∨ W.heap.size ≤ b) ∧ Within W w' (fun b => b = bT)) := fun hk W hW => HFR.out (alt ++ z2) a6 c6 W K1 (HT6.out.later hW) (HR6.out.below hW) (fun b off _ e => HLO.out b off e) hk
      have hs56 := hb6.size
      clear hO5 hb5 hb6 hr6 hlo6 X HFR HCGa HRa HO HT1 HR6 HLO qg p2a hBc HRE HBr
      generalize farOf P (alt ++ z2) ws i = fo at *
      rw [List.length_append] at Y HFR6
      cases hkb : knownB P.length (alt ++ z2)
      · rw [hkb] at Y
        have E : Hid (farsT P kn z2 ws i = []) := HNa'.out hkb
        clear HFR6 HKB2 HTa HNa' hkb
        go_wp2_with (go_at_call 73; refine Y.mono ?_; rintro e w7 ⟨rfl, hb7⟩)
        go_ret
        exact ⟨_, rfl, by rw [E.out]; exact OwnInts.nil _ _ _, ⟨K1, HT6.out.later hb7, HK1s.out, fun b h => by simp [Value.ownBlock] at h⟩, HB6.out.trans (Within.of_below hb7 _)⟩
      · rw [hkb] at Y
        have HG7h : Hid (∀ W, Below w5.heap.size w5 W → Calls Tryd.prog 74 #[.pointer (some ⟨bT, 0, none⟩), .slice a6 (alt.length + z2.length) c6, .int .i64 (i : Int)] W fun e w' => e = .returned (.int .i64 (fo : Int)) ∧ Hid (∃ K', TrIn P ws w0 bT (some ⟨b1, o1, none⟩) cP aw cw K' w' ∧ ∀ b, K' b → K1 b ∨ W.heap.size ≤ b) ∧ Within W w' (fun b => b = bT)) := HFR6.out hkb
        have HK2h : Hid (∀ b (hb : b < P[kn].length), b < a + 1 → knownB P.length (P[kn][b] ++ z2) = true) := HKB2.out hkb
        clear HFR6 HKB2 HNa' hkb
        go_wp2_with (first
          | (go_at_call 73; refine Y.mono ?_; rintro e w7 ⟨rfl, hb7⟩)
          | (go_at_call 74; refine (HG7h.out w7 hb7).mono ?_; rintro e w8 ⟨rfl, HK8, hW8⟩; have hO8 : OwnInts w8 w.heap.size 3 vo (L.take a) := (HOut6.out.below hb7).kept (within_grown8 hW8) (by cases e : vo.ownBlock with | none => exact .inl rfl | some g => exact .inr (fun e2 => by have := (HOB.out g e).1; have := Option.some.inj e2; omega)))
          | (at_builtin; refine wpList_append_ints1 _ rfl (.tmp 37) (.tmp 42) 25 rfl w.heap.size 3 Tryd.underlying25 Tryd.infoInt _ _ rfl (hO8.alloc _) _ _ _ [(fo : Int)] (by simp) rfl rfl (Reads.new _ _ _) (by simp; omega) (by have := hb7.size; have := hW8.size; simp; omega) ?_))
        intro v9 w9 hO9 hg9 hat9
        obtain ⟨K2, hT8, hK2⟩ := HK8.out
        have hs78 := hW8.size
        have hs57 := hb7.size
        have HO9 : Hid (OwnInts w9 w.heap.size 3 v9 (L.take (a + 1))) := by show OwnInts _ _ _ _ _; rw [HTa.out]; exact hO9
        have hW8' : Within w w8 (fun b => b = bT) := (HB6.out.trans (Within.of_below hb7 _)).trans hW8
        have hnK : ∀ b, vo.ownBlock = some b → ¬ K2 b := fun b e h => by
          rcases hK2 b h with h | h
          · exact HK1.out b e h
          · have := (HOB.out b e).2; omega
        have hWn : Within (w8.alloc (.cells #[.int .i64 (fo : Int)] 3)) w9 (fun b => vo.ownBlock = some b) := Within.of_grown hg9 (fun k e => e)
        have HB9 : Hid (Within w w9 (fun b => b = bT)) := (hW8'.trans (Within.of_below ((Below.refl _ _).alloc (Nat.le_refl _) _) _)).comp hWn (fun b e => .inr (HOB.out b e).1)
        have HT9 : Hid (∃ K', TrIn P ws w0 bT (some ⟨b1, o1, none⟩) cP aw cw K' w9 ∧ (∀ b, K' b → K b ∨ w.heap.size ≤ b) ∧ ∀ b, v9.ownBlock = some b → ¬ K' b) := ⟨K2, (hT8.later ((Below.refl _ _).alloc (Nat.le_refl _) _)).kept hWn (fun b e => ⟨by have := (HOB.out b e).1; have := HbT0.out; omega, by have := (HOB.out b e).1; omega, hnK b e⟩), fun b h => by
            rcases hK2 b h with h | h
            · exact HK1s.out b h
            · right; omega, fun b e h => by
          rcases hat9 b e with e | e
          · exact hnK b e h
          · have := (hT8.kb b h).2.2
            first
              | omega
              | (simp at e; omega)⟩
        clear hO9 hg9 hat9 hT8 hK2 hW8' hnK hWn hO8 hW8 hb7 Y HG7h HTa HOut6 HK8
        go_wp2
        go_roundw
        case rel => exact ⟨a + 1, v9, by omega, by go_num, rfl, HO9, HB9, HT9, HK2h⟩
        case measure => simp [intOf]; omega
    · have e : a = P[kn].length := by omega
      have E : Hid (farsT P kn z2 ws i = L) := HALL.out (fun b hb => HKB.out b hb (by omega))
      have HOL : Hid (OwnInts wA w.heap.size 3 vo L) := by
        have := HO.out
        rw [e, List.take_of_length_le (by rw [HLN.out]; omega)] at this
        exact this
      clear HALL HNO HKB HTK
      go_wp2
      go_ret
      exact ⟨_, rfl, by rw [E.out]; exact HOL.out, ⟨K1, HT1.out, HK1s.out, HK1.out⟩, HBr.out⟩
end
end Go.Proofs.YthnppodnjokaoaaDoor
namespace Go.Proofs.YthnppodnjokaoaaDoor
open Go.RowKit

set_option maxHeartbeats 8000000 in
set_option maxRecDepth 100000 in
theorem farsOf_any (x : Gm) (a0 : Option Addr) (c0 : Nat) (k : Int) (z2 : List Int) (a2 : Option Addr) (c2 : Nat) (z3 : List Int) (a3 : Option Addr) (c3 : Nat) (n : Int) (w : World) (h0 : RD w (.slice a0 x.parts.length c0) (slD (Lay.list (Lay.list Lay.int)) x.parts)) (h2 : RD w (.slice a2 z2.length c2) (slD Lay.int z2)) (h3 : RD w (.slice a3 z3.length c3) (slD Lay.int z3)) (hn : Lay.gram.wt x ≤ 1048576) (hf : Lay.gram.fit x) (wfk : (Lit.int .i64 k).wf = true) (hl2 : z2.length ≤ 1048576) (hz2 : (Lay.list Lay.int).fit z2) (hl3 : z3.length ≤ 1048576) (hz3 : (Lay.list Lay.int).fit z3) (wfn : (Lit.int .i64 n).wf = true) (hE : ErrsIs w) :
    Calls Tryd.prog 23 #[.agg #[.slice a0 x.parts.length c0], .int .i64 k, .slice a2 z2.length c2, .slice a3 z3.length c3, .int .i64 n] w fun e w' => ∃ v, e = .returned v ∧ OwnInts w' w.heap.size 3 v (farsL x k z2 z3 n) ∧ Below w.heap.size w w' := by
  have BG : Below w.heap.size w (w.alloc (.cells #[.slice a0 x.parts.length c0] 28)) := (Below.refl w.heap.size w).alloc (Nat.le_refl _) _
  have hGs : w.heap.size < (w.alloc (.cells #[.slice a0 x.parts.length c0] 28)).heap.size := by simp
  have qG : (w.alloc (.cells #[.slice a0 x.parts.length c0] 28)).cell? ⟨w.heap.size, 0, none⟩ = some (.slice a0 x.parts.length c0) := by simp
  have HK : Hid (∀ W : World, Below w.heap.size w W → Calls Tryd.prog 45 #[.agg #[.slice a0 x.parts.length c0], .slice a3 z3.length c3, .int .i64 n] W fun e w' => e = .returned (.bool (rightAt x z3 n)) ∧ Below W.heap.size W w') := fun W hW => canBeAskedAt_any x a0 c0 z3 a3 c3 n W (h0.later hW) (h3.later hW) hn hf hl3 hz3 wfn (hE.later hW)
  have HT : Hid (∀ W : World, Below w.heap.size w W → Calls Tryd.prog 46 #[.agg #[.slice a0 x.parts.length c0], .int .i64 k] W fun e w' => e = .returned (.bool (gramOkB x.parts && inB k 0 (x.parts.length - 1))) ∧ Below W.heap.size W w') := fun W hW => isThere_any x a0 c0 k W (h0.later hW) hn hf wfk
  obtain ⟨wG, hwG⟩ : ∃ wG, wG = w.alloc (.cells #[.slice a0 x.parts.length c0] 28) := ⟨_, rfl⟩
  rw [← hwG] at BG hGs qG
  have HBG : Hid (Below w.heap.size w wG) := BG
  have HQ : Hid (∀ W, Below wG.heap.size wG W → W.cell? ⟨w.heap.size, 0, none⟩ = some (.slice a0 x.parts.length c0)) := fun W hW => (hW.cell (p := ⟨w.heap.size, 0, none⟩) hGs).trans qG
  have HBR : Hid (Below wG.heap.size wG wG) := Below.refl _ _
  by_cases hr : rightAt x z3 n = true
  · rw [hr] at HK
    obtain ⟨r1, r2, r3, r4⟩ := rightAt_yes hr
    have hok := (resCheck_ok r1).1
    have F := Fits.of hok
    have hp20 : x.parts.length ≤ 20 := F.parts
    rw [hok, Bool.true_and] at HT
    by_cases hk : inB k 0 (x.parts.length - 1) = true
    · obtain ⟨k1, k2⟩ := inB_true.1 hk
      rw [hk] at HT
      obtain ⟨kn, rfl⟩ : ∃ m : Nat, k = m := ⟨k.toNat, by omega⟩
      have hkn : kn < x.parts.length := by omega
      have E : Hid (farsL x (kn : Int) z2 z3 n = farsT x.parts kn z2 z3 n.toNat) := by
        show _ = _
        have h2 : inB (kn : Int) 0 (x.parts.length - 1) = true := by rw [inB_true]; omega
        unfold farsL farsT
        rw [hr, h2, Int.toNat_natCast]
        rfl
      obtain ⟨i, rfl⟩ : ∃ i : Nat, n = i := ⟨n.toNat, by omega⟩
      rw [Int.toNat_natCast] at E
      have hl10 := inputOkB_len r2
      have HTF : Hid (∀ (W : World) (bT : Nat), TrIn x.parts z3 w bT a0 c0 a3 c3 (fun _ => False) W → Calls Tryd.prog 47 #[.pointer (some ⟨bT, 0, none⟩), .int .i64 (kn : Int), .slice a2 z2.length c2, .int .i64 (i : Int)] W fun e w' => ∃ v, e = .returned v ∧ OwnInts w' W.heap.size 3 v (farsT x.parts kn z2 z3 i) ∧ Hid (∃ K', TrIn x.parts z3 w bT a0 c0 a3 c3 K' w' ∧ (∀ b, K' b → False ∨ W.heap.size ≤ b) ∧ ∀ b, v.ownBlock = some b → ¬ K' b) ∧ Within W w' (fun b => b = bT)) := fun W bT hT =>
        trFars_any kn z2 a2 c2 i W hT h3.reads (h2.reads.below hT.low) (fun b off hne e => by
          rcases h2.reads with h | ⟨b', off', e', hb', _⟩
          · exact absurd h hne
          · rw [e'] at e; cases e; have := hT.lT; omega) hl2 (fun z hz => fit_ints hz2 z hz) hl10 (by omega) hok (resCheck_ok r1).2 h0 hkn
      have HTRN : Hid (∀ (w2 w4 : World), Below wG.heap.size wG w2 → Below w2.heap.size w2 w4 → Vals w4 w2.heap.size 74 (trV (.slice a0 x.parts.length c0) (.slice a3 z3.length c3)) → TrIn x.parts z3 w w2.heap.size a0 c0 a3 c3 (fun _ => False) w4) := fun w2 w4 h1 h2 hV => by
        have hb2 : Below w.heap.size w w2 := BG.trans (h1.mono BG.size)
        exact TrIn.new hV (hb2.trans (h2.mono hb2.size)) hb2.size hp20 hl10
      clear hok F h0 h2 h3 hn hf hz2 hz3 wfk wfn hE hr hk r1 r2
      rw [E.out]
      generalize farsT x.parts kn z2 z3 i = L at *
      go_enter Tryd.func23, Tryd.ntmps23
      go_wp2_with (first
        | (go_at_call 45; rw [← hwG]; refine (HK.out _ HBG.out).mono ?_; rintro e w1 ⟨rfl, hb1w⟩; have qg1 := HQ.out w1 hb1w)
        | (go_at_call 46; refine (HT.out _ (HBG.out.trans (hb1w.mono HBG.out.size))).mono ?_; rintro e w2 ⟨rfl, hb2w⟩; have hB2 : Below wG.heap.size wG w2 := hb1w.trans (hb2w.mono hb1w.size); have qg2 := HQ.out w2 hB2)
        | (refine wpList_tr rfl _ _ rfl a0 x.parts.length c0 a3 z3.length c3 rfl rfl ?_)
        | (refine wpList_allocV (w := w2) rfl 74 rfl _ rt_tr ?_; intro w3 hV3 hb3 hs3; clear hs3)
        | (refine wpList_storeV rfl 74 _ _ rfl w2.heap.size 0 74 _ (trV (.slice a0 x.parts.length c0) (.slice a3 z3.length c3)) _ rfl rfl rt_tr (by rw [trV_length, trV_length]) hV3 (by rw [trV_length, trV_length]; decide) (trV_ones rfl rfl) ?_; intro w4 hV4 hg4; rw [putV_whole (by rw [trV_length, trV_length])] at hV4; have hb4 : Below w2.heap.size w2 w4 := hb3.grown hg4 hb3.size (fun k e => by cases e; exact Nat.le_refl _); have hB4 : Below wG.heap.size wG w4 := hB2.trans (hb4.mono hB2.size); have HT4 : Hid (TrIn x.parts z3 w w2.heap.size a0 c0 a3 c3 (fun _ => False) w4) := HTRN.out w2 w4 hB2 hb4 hV4)
        | (go_at_call 47; refine (HTF.out w4 _ HT4.out).mono ?_; rintro e w5 ⟨v5, rfl, hO5, HK5, hW5⟩))
      go_ret
      have hBw4 : Below w.heap.size w w4 := HBG.out.trans (hB4.mono HBG.out.size)
      exact ⟨_, rfl, hO5.base hBw4.size, hW5.below hBw4 (fun b e => by rw [e]; exact HT4.out.lT)⟩
    · have hk' : inB k 0 (x.parts.length - 1) = false := by simpa using hk
      have E : Hid (farsL x k z2 z3 n = []) := farsL_part hk'
      rw [hk'] at HT
      clear h0 h2 h3 hn hf hz2 hz3 hr hk wfk wfn hE
      generalize farsL x k z2 z3 n = R at *
      go_enter Tryd.func23, Tryd.ntmps23
      go_wp2_with (first
        | (go_at_call 45; rw [← hwG]; refine (HK.out _ HBG.out).mono ?_; rintro e w1 ⟨rfl, hb1w⟩; have qg1 := HQ.out w1 hb1w)
        | (go_at_call 46; refine (HT.out _ (HBG.out.trans (hb1w.mono HBG.out.size))).mono ?_; rintro e w2 ⟨rfl, hb2w⟩; have hB2 : Below wG.heap.size wG w2 := hb1w.trans (hb2w.mono hb1w.size)))
      go_ret
      exact ⟨_, rfl, by rw [E.out]; exact OwnInts.nil _ _ _, HBG.out.trans (hB2.mono HBG.out.size)⟩
  · have hr' : rightAt x z3 n = false := by simpa using hr
    have E : Hid (farsL x k z2 z3 n = []) := farsL_wrong hr'
    rw [hr'] at HK
    clear h0 h2 h3 hn hf hz2 hz3 hr wfk wfn hE
    generalize farsL x k z2 z3 n = R at *
    go_enter Tryd.func23, Tryd.ntmps23
    go_wp2_with (go_at_call 45; rw [← hwG]; refine (HK.out _ HBG.out).mono ?_; rintro e w1 ⟨rfl, hb1w⟩)
    go_ret
    exact ⟨_, rfl, by rw [E.out]; exact OwnInts.nil _ _ _, HBG.out.trans (hb1w.mono HBG.out.size)⟩
end Go.Proofs.YthnppodnjokaoaaDoor
namespace Go.Proofs.YthnppodnjokaoaaDoor
open Go.RowKit

set_option maxHeartbeats 2000000 in
set_option maxRecDepth 100000 in
theorem sure_any (x : Gm) (a0 : Option Addr) (c0 : Nat) (n1 : Int) (z2 : List Int) (a2 : Option Addr) (c2 : Nat) (z3 : List Int) (a3 : Option Addr) (c3 : Nat) (n4 : Int) (w : World) (h0 : RD w (.slice a0 x.parts.length c0) (slD (Lay.list (Lay.list Lay.int)) x.parts)) (h2 : RD w (.slice a2 z2.length c2) (slD Lay.int z2)) (h3 : RD w (.slice a3 z3.length c3) (slD Lay.int z3)) (hn : Lay.gram.wt x ≤ 1048576) (hf : Lay.gram.fit x) (wf1 : (Lit.int .i64 n1).wf = true) (hl2 : z2.length ≤ 1048576) (hz2 : (Lay.list Lay.int).fit z2) (hl3 : z3.length ≤ 1048576) (hz3 : (Lay.list Lay.int).fit z3) (wf4 : (Lit.int .i64 n4).wf = true) (hE : ErrsIs w) :
    Calls Tryd.prog 9 #[.agg #[.slice a0 x.parts.length c0], .int .i64 n1, .slice a2 z2.length c2, .slice a3 z3.length c3, .int .i64 n4] w fun e w' => ∃ v S, e = .returned v ∧ OD w' w.heap.size v (slD Lay.int (resSure x n1 z2 z3 n4)) S ∧ Below w.heap.size w w' := by
  have B0 : Below w.heap.size w (w.alloc (.cells #[.slice a0 x.parts.length c0] 28)) := (Below.refl w.heap.size w).alloc (Nat.le_refl _) _
  have HX : Hid (Calls Tryd.prog 23 #[.agg #[.slice a0 x.parts.length c0], .int .i64 n1, .slice a2 z2.length c2, .slice a3 z3.length c3, .int .i64 n4] (w.alloc (.cells #[.slice a0 x.parts.length c0] 28)) fun e w' => ∃ v, e = .returned v ∧ OwnInts w' (w.alloc (.cells #[.slice a0 x.parts.length c0] 28)).heap.size 3 v (farsL x n1 z2 z3 n4) ∧ Below (w.alloc (.cells #[.slice a0 x.parts.length c0] 28)).heap.size (w.alloc (.cells #[.slice a0 x.parts.length c0] 28)) w') := farsOf_any x a0 c0 n1 z2 a2 c2 z3 a3 c3 n4 _ (h0.later B0) (h2.later B0) (h3.later B0) hn hf wf1 hl2 hz2 hl3 hz3 wf4 (hE.later B0)
  have HB0 : Hid (Below w.heap.size w (w.alloc (.cells #[.slice a0 x.parts.length c0] 28))) := B0
  have HRI : Hid (farsL x n1 z2 z3 n4 ≠ [] → 0 ≤ n4 ∧ n4 ≤ z3.length ∧ z3.length ≤ 10) := farsL_right
  have hlen : (farsL x n1 z2 z3 n4).length ≤ 8 := farsL_len
  have HRES : Hid (resSure x n1 z2 z3 n4 = sureTo (farsL x n1 z2 z3 n4) (z3.length - n4 + 1) (farsL x n1 z2 z3 n4).length) := rfl
  generalize resSure x n1 z2 z3 n4 = R at *
  have HRG : Hid (∀ y ∈ farsL x n1 z2 z3 n4, 0 ≤ y ∧ y ≤ 11) := farsL_range
  generalize farsL x n1 z2 z3 n4 = L at *
  clear h0 h2 h3 hn hf hz2 hz3 B0 wf1 wf4 hE
  generalize x.parts = P at *
  go_enter Tryd.func9, Tryd.ntmps9
  go_wp2_with (go_at_call 23; refine HX.out.mono ?_; rintro e w2 ⟨v2, rfl, hO2, hb2⟩; obtain ⟨a5, c5, rfl, hr2, _⟩ := hO2.shape)
  have HR2 : Hid (Reads w2 a5 L) := hr2
  have HS0 : Hid (OwnInts w2 w.heap.size 3 (.slice none 0 0) (sureTo L (z3.length - n4 + 1) 0)) := OwnInts.nil _ _ _
  have HB2 : Hid (Below w.heap.size w w2) := HB0.out.trans (hb2.mono HB0.out.size)
  clear hO2 hb2 hr2 HB0 HX
  have hszb := HB2.out.size
  have HG0 : Hid (Within w2 w2 (fun _ => False)) := Within.refl _ _
  have HOB0 : Hid (∀ b, (.slice none 0 0 : Value).ownBlock = some b → False ∨ w2.heap.size ≤ b) := fun b e => by simp [Value.ownBlock] at e
  go_loopw [11, 21] (fun u1 u2 wr => ∃ (a : Nat) (vo : Value), a ≤ L.length ∧ u2 = .int .i64 (a : Int) ∧ u1 = vo ∧ Hid (OwnInts wr w.heap.size 3 vo (sureTo L (z3.length - n4 + 1) a)) ∧ Hid (Below w.heap.size w wr) ∧ Hid (Within w2 wr (fun _ => False)) ∧ Hid (∀ b, vo.ownBlock = some b → False ∨ w2.heap.size ≤ b)) (fun _ u2 _ => L.length - (intOf u2).toNat)
  case atStart => exact ⟨0, _, Nat.zero_le _, rfl, rfl, HS0, HB2, HG0, HOB0⟩
  case round =>
    obtain ⟨a, vo, ha, rfl, hvo, HO, HB, HG, HOB⟩ := hrel
    replace hvo := hvo.symm
    subst hvo
    obtain ⟨wA, hwA⟩ : ∃ y, y = wr := ⟨_, rfl⟩
    subst hwA
    clear HS0 HB2 HG0 HOB0
    by_cases hlt : a < L.length
    · obtain ⟨b5, o5, rfl, hb5, hcell⟩ := HR2.out.at hlt
      have hne : L ≠ [] := fun e => by rw [e] at hlt; simp at hlt
      obtain ⟨i1, i2, i3⟩ := HRI.out hne
      have hap : ¬ False := id
      have qr := (blk_cell (o := o5 + a) (HG.out.block b5 hb5 hap)).trans (hcell a hlt)
      rw [List.getD_eq_getElem?_getD, List.getElem?_eq_getElem hlt, Option.getD_some] at qr
      obtain ⟨g1, g2⟩ := HRG.out L[a] (List.getElem_mem hlt)
      have hgd : L.getD a 0 = L[a] := by simp [List.getD, hlt]
      have HST : Hid (sureTo L (z3.length - n4 + 1) (a + 1) = if L[a] = z3.length - n4 + 1 then sureTo L (z3.length - n4 + 1) a ++ [(a : Int)] else sureTo L (z3.length - n4 + 1) a) := by show _ = _; rw [sureTo, hgd]
      have haI : (a : Int) < (L.length : Int) := by omega
      have hsl := sureTo_len L (z3.length - n4 + 1) a
      have hszA := HB.out.size
      have hszG := HG.out.size
      clear hcell hgd
      obtain ⟨m, hm⟩ : ∃ m : Nat, n4 = m := ⟨n4.toNat, by omega⟩
      subst hm
      have hwh : ((z3.length - m + 1 : Nat) : Int) = z3.length - (m : Int) + 1 := by omega
      by_cases hy : L[a] = z3.length - (m : Int) + 1
      · have HN : Hid (sureTo L (z3.length - (m : Int) + 1) (a + 1) = sureTo L (z3.length - (m : Int) + 1) a ++ [(a : Int)]) := by show _ = _; rw [HST.out, if_pos hy]
        clear HST
        generalize L[a] = y at *
        go_wp2_with (first
          | (go_at_call 24; refine (wholeFar_any a3 z3.length c3 m _ i3 (by omega)).mono ?_; rintro e w5 ⟨rfl, h5⟩; replace h5 := h5.symm; subst h5)
          | (at_builtin; refine wpList_append_ints1 _ rfl (.tmp 31) (.tmp 33) 25 rfl w.heap.size 3 Tryd.underlying25 Tryd.infoInt _ _ rfl (HO.out.alloc _) _ _ _ [(a : Int)] (by simp) rfl rfl (Reads.new _ _ _) (by simp; omega) (by simp; omega) ?_))
        intro v9 w9 hO9 hg9 hat9
        have HO9 : Hid (OwnInts w9 w.heap.size 3 v9 (sureTo L (z3.length - (m : Int) + 1) (a + 1))) := by show OwnInts _ _ _ _ _; rw [HN.out]; exact hO9
        have hOb := HO.out.block
        have hbA : Below wA.heap.size wA (wA.alloc (.cells #[.int .i64 (a : Int)] 3)) := (Below.refl _ _).alloc (Nat.le_refl _) _
        have HB9 : Hid (Below w.heap.size w w9) := (HB.out.alloc HB.out.size _).grown hg9 (by simp; omega) (fun j hj => (hOb j hj).1)
        have hWn : Within (wA.alloc (.cells #[.int .i64 (a : Int)] 3)) w9 (fun b => vo.ownBlock = some b) := Within.of_grown hg9 (fun k e => e)
        have HG9 : Hid (Within w2 w9 (fun _ => False)) := (HG.out.trans (Within.of_below hbA _)).comp hWn (fun b e => HOB.out b e)
        have HOB9 : Hid (∀ b, v9.ownBlock = some b → False ∨ w2.heap.size ≤ b) := fun b e => by
          rcases hat9 b e with e | e
          · exact HOB.out b e
          · right; first | omega | (simp at e; omega)
        clear hO9 hg9 hat9 hWn hOb hbA HN HO HB HG HOB
        go_wp2
        go_roundw
        case rel => exact ⟨a + 1, v9, by omega, by go_num, rfl, HO9, HB9, HG9, HOB9⟩
        case measure => simp [intOf]; omega
      · have HO9 : Hid (OwnInts wA w.heap.size 3 vo (sureTo L (z3.length - (m : Int) + 1) (a + 1))) := by show OwnInts _ _ _ _ _; rw [HST.out, if_neg hy]; exact HO.out
        clear HST HO
        generalize L[a] = y at *
        go_wp2_with (go_at_call 24; refine (wholeFar_any a3 z3.length c3 m _ i3 (by omega)).mono ?_; rintro e w5 ⟨rfl, h5⟩; replace h5 := h5.symm; subst h5)
        go_roundw
        case rel => exact ⟨a + 1, vo, by omega, by go_num, rfl, HO9, HB, HG, HOB⟩
        case measure => simp [intOf]; omega
    · have e : a = L.length := by omega
      have HF : Hid (OwnInts wA w.heap.size 3 vo R) := by show OwnInts _ _ _ _ _; rw [HRES.out]; rw [e] at HO; exact HO.out
      clear HO HRES
      go_wp2
      go_ret
      exact ⟨_, _, rfl, HF.out.od, HB.out⟩
end Go.Proofs.YthnppodnjokaoaaDoor
namespace Go.Proofs.YthnppodnjokaoaaDoor
open Go.RowKit

set_option maxRecDepth 100000 in
theorem markIntS_l (xs : List Int) (base : Nat) (v : Value) (S : Nat → Prop) (k : Nat) (w : World) (h : OD w base v (slD Lay.int xs) S) (hk : k + (Lay.list Lay.int).wt xs ≤ 8388608) :
    Calls Tryd.prog 13 #[v, .int .i64 (k : Int)] w fun e w' => e = .returned (.int .i64 ((k + cntIntS xs : Nat) : Int)) ∧ OD w' base v (slD Lay.int (mkIntS k xs)) S ∧ Within w w' S := by
  rw [Lay.wt_ints] at hk
  rw [cntIntS_eq]
  obtain ⟨a, c, rfl, hg⟩ := OD.shapeL h
  go_enter Tryd.func13, Tryd.ntmps13
  go_wp2
  go_loopw [1, 5] (fun sk i wr => ∃ j : Nat, j ≤ xs.length ∧ i = .int .i64 j ∧ sk = .int .i64 ((k : Int) + (j : Int)) ∧ OD wr base (.slice a xs.length c) (slD Lay.int (mkIntS k (xs.take j) ++ xs.drop j)) S ∧ Within w wr S) (fun _ i _ => xs.length - (intOf i).toNat)
  case atStart => exact ⟨0, Nat.zero_le _, rfl, by simp, by simpa [mkIntS, mkL] using h, Within.refl _ _⟩
  case round =>
    obtain ⟨j, hj, rfl, rfl, hown, hwi⟩ := hrel
    by_cases hlt : j < xs.length
    · obtain ⟨g, rfl⟩ := hg (by intro e; simp [e] at hlt)
      have hjL : j < (mkIntS k (xs.take j) ++ xs.drop j).length := by rw [mkIntS, mid_length _ _ hj]; exact hlt
      have HC : cntL cntInt (xs.take j) = j := by have := cntIntS_eq (xs.take j); rw [cntIntS] at this; rw [this, List.length_take]; omega
      have HS : Hid ((mkIntS k (xs.take j) ++ xs.drop j).set j ((k : Int) + (j : Int)) = mkIntS k (xs.take (j + 1)) ++ xs.drop (j + 1)) := by
        have e := mid_set cntInt mkInt (k := k) hlt
        rw [HC] at e
        show _ = _
        unfold mkIntS
        rw [← e]
        congr 1
      obtain ⟨R1, R2, ⟨u, hu⟩, hf⟩ := hown.intStore hjL ((k : Int) + (j : Int))
      rw [HS.out] at R1
      clear hg hown HC hjL
      go_wp2
      go_roundw
      case rel => exact ⟨j + 1, by omega, by go_num, by go_num, R1, hwi.trans R2⟩
      case measure => simp [intOf]; omega
    · have e : j = xs.length := by omega
      subst e
      go_wp2
      go_ret
      exact ⟨ret_int (by omega), by simpa using hown, hwi⟩

theorem markIntS_c (xs : List Int) (base : Nat) (v : Value) (S : Nat → Prop) (k : Nat) (w : World) (h : Cells w base [v] [slD Lay.int xs] S) (hk : k + (Lay.list Lay.int).wt xs ≤ 8388608) :
    Calls Tryd.prog 13 #[v, .int .i64 (k : Int)] w fun e w' => e = .returned (.int .i64 ((k + cntIntS xs : Nat) : Int)) ∧ Cells w' base [v] [slD Lay.int (mkIntS k xs)] S ∧ Within w w' S := by
  refine (markIntS_l xs base v S k w h.od hk).mono ?_
  rintro e w' ⟨rfl, h1, h2⟩
  exact ⟨rfl, Cells.one h1, h2⟩

theorem heldIntS_l (xs : List Int) (a : Option Addr) (n c : Nat) (k : Nat) (w : World) (h : RD w (.slice a n c) (slD Lay.int (mkIntS k xs))) (hk : k + (Lay.list Lay.int).wt xs ≤ 8388608) :
    Calls Tryd.prog 14 #[.slice a n c, .int .i64 (k : Int)] w fun e w' => e = .returned (.int .i64 ((k + cntIntS xs : Nat) : Int)) ∧ Below w.heap.size w w' := by
  rw [Lay.wt_ints] at hk
  rw [cntIntS_eq]
  have e := h.lenL
  rw [mkIntS, mkL_length] at e
  subst e
  have r := h.reads
  rw [mkIntS_marks] at r
  refine (heldIntS_any a xs.length c (k : Int) w r (by omega) (by omega) (by omega)).mono ?_
  rintro e w' ⟨rfl, hb⟩
  exact ⟨ret_int (by omega), hb⟩

end Go.Proofs.YthnppodnjokaoaaDoor
namespace Go.Proofs.YthnppodnjokaoaaDoor
open Go.RowKit

def cntIntSS : List (List Int) → Nat := cntL cntIntS
def mkIntSS : Nat → List (List Int) → List (List Int) := mkL cntIntS mkIntS
theorem cntIntSS_le (xs : List (List Int)) : cntIntSS xs ≤ (Lay.list (Lay.list Lay.int)).wt xs := cntL_le _ (fun x => by have := cntIntS_le x; omega) xs
theorem cntIntSS_room {xs : List (List Int)} {j k M : Nat} (hlt : j < xs.length) (hk : k + (xs.length + (Lay.list Lay.int).sumL xs) ≤ M) : k + cntIntSS (xs.take j) + (Lay.list Lay.int).wt xs[j] ≤ M := by
  have h1 := cntIntSS_le (xs.take j)
  rw [Lay.wt_list, List.length_take] at h1
  have h2 := Lay.sumL_take (Lay.list Lay.int) hlt
  have h3 := Lay.sumL_take_le (Lay.list Lay.int) xs (j + 1)
  omega

set_option maxRecDepth 100000 in
theorem markIntSS_l (xs : List (List Int)) (base : Nat) (v : Value) (S : Nat → Prop) (k : Nat) (w : World) (h : OD w base v (slD (Lay.list Lay.int) xs) S) (hk : k + (Lay.list (Lay.list Lay.int)).wt xs ≤ 8388608) :
    Calls Tryd.prog 49 #[v, .int .i64 (k : Int)] w fun e w' => e = .returned (.int .i64 ((k + cntIntSS xs : Nat) : Int)) ∧ OD w' base v (slD (Lay.list Lay.int) (mkIntSS k xs)) S ∧ Within w w' S := by
  rw [Lay.wt_list] at hk
  obtain ⟨a, c, rfl, hg⟩ := OD.shapeL h
  go_enter Tryd.func49, Tryd.ntmps49
  go_wp2
  go_loopw [1, 5] (fun sk i wr => ∃ j : Nat, j ≤ xs.length ∧ i = .int .i64 j ∧ sk = .int .i64 ((k + cntIntSS (xs.take j) : Nat) : Int) ∧ Hid (OD wr base (.slice a xs.length c) (slD (Lay.list Lay.int) (mkIntSS k (xs.take j) ++ xs.drop j)) S ∧ Within w wr S)) (fun _ i _ => xs.length - (intOf i).toNat)
  case atStart => exact ⟨0, Nat.zero_le _, rfl, by simp [cntIntSS, cntL], by simpa [mkIntSS, mkL] using h, Within.refl _ _⟩
  case round =>
    obtain ⟨j, hj, rfl, rfl, HO⟩ := hrel
    by_cases hlt : j < xs.length
    · obtain ⟨g, rfl⟩ := hg (by intro e; simp [e] at hlt)
      have hjL : j < (mkIntSS k (xs.take j) ++ xs.drop j).length := by rw [mkIntSS, mid_length _ _ hj]; exact hlt
      have HX : (mkIntSS k (xs.take j) ++ xs.drop j)[j] = xs[j] := mid_get cntIntS mkIntS hlt hjL
      have HS : Hid ((mkIntSS k (xs.take j) ++ xs.drop j).set j (mkIntS (k + cntIntSS (xs.take j)) xs[j]) = mkIntSS k (xs.take (j + 1)) ++ xs.drop (j + 1)) := mid_set cntIntS mkIntS hlt
      have HN : Hid (k + cntIntSS (xs.take (j + 1)) = k + cntIntSS (xs.take j) + cntIntS xs[j]) := by show _ = _; unfold cntIntSS; rw [cntL_take _ hlt]; omega
      have hle := cntIntSS_room hlt hk
      have hle2 := cntIntS_le xs[j]
      obtain ⟨a1, c1, Tj, q0, O1, hT, hput⟩ := HO.out.1.listInto hjL
      rw [HX] at q0 O1 hput
      have X : Hid (Calls Tryd.prog 13 #[.slice a1 xs[j].length c1, .int .i64 ((k + cntIntSS (xs.take j) : Nat) : Int)] wr fun e w' => e = .returned (.int .i64 ((k + cntIntSS (xs.take j) + cntIntS xs[j] : Nat) : Int)) ∧ OD w' base (.slice a1 xs[j].length c1) (slD Lay.int (mkIntS (k + cntIntSS (xs.take j)) xs[j])) Tj ∧ Within wr w' Tj) :=
        markIntS_l xs[j] base _ Tj (k + cntIntSS (xs.take j)) wr O1 hle
      have HP : Hid (∀ w', OD w' base (.slice a1 xs[j].length c1) (slD Lay.int (mkIntS (k + cntIntSS (xs.take j)) xs[j])) Tj ∧ Within wr w' Tj → OD w' base (.slice (some ⟨g, 0, none⟩) xs.length c) (slD (Lay.list Lay.int) (mkIntSS k (xs.take (j + 1)) ++ xs.drop (j + 1))) S ∧ Within w w' S) := by
        intro w' hx
        have := hput w' _ hx.1 hx.2
        rw [HS.out] at this
        exact ⟨this, HO.out.2.trans (hx.2.mono hT)⟩
      clear hg h HO HX HS hput O1 hjL
      generalize (Lay.list Lay.int).wt xs[j] = wk at *
      generalize k + cntIntSS (xs.take j) = m at *
      generalize mkIntS m xs[j] = mk at *
      generalize cntIntS xs[j] = ck at *
      generalize xs[j] = y at *
      have hgl : g < wr.heap.size := World.block_lt_of_cell? wr _ q0
      go_wp2_with fail
      refine X.out.mono ?_
      rintro e w1 ⟨rfl, hx⟩
      have HE : Hid (OD w1 base (.slice (some ⟨g, 0, none⟩) xs.length c) (slD (Lay.list Lay.int) (mkIntSS k (xs.take (j + 1)) ++ xs.drop (j + 1))) S ∧ Within w w1 S) := HP.out w1 hx
      clear X HP hx
      go_wp2
      go_roundw
      case rel => exact ⟨j + 1, by omega, by go_num, by rw [HN.out]; simp, HE⟩
      case measure => simp [intOf]; omega
    · have e : j = xs.length := by omega
      subst e
      have HE : Hid (OD wr base (.slice a xs.length c) (slD (Lay.list Lay.int) (mkIntSS k xs)) S ∧ Within w wr S) := by show _ ∧ _; simpa using HO.out
      have HC : Hid (cntIntSS (xs.take xs.length) = cntIntSS xs) := by show _ = _; rw [List.take_length]
      clear HO
      generalize cntIntSS (xs.take xs.length) = m at *
      go_wp2
      go_ret
      exact ⟨ret_int (by rw [HC.out]), HE.out⟩

end Go.Proofs.YthnppodnjokaoaaDoor
namespace Go.Proofs.YthnppodnjokaoaaDoor
open Go.RowKit

def cntIntSSS : List (List (List Int)) → Nat := cntL cntIntSS
def mkIntSSS : Nat → List (List (List Int)) → List (List (List Int)) := mkL cntIntSS mkIntSS
theorem cntIntSSS_le (xs : List (List (List Int))) : cntIntSSS xs ≤ (Lay.list (Lay.list (Lay.list Lay.int))).wt xs := cntL_le _ (fun x => by have := cntIntSS_le x; omega) xs
theorem cntIntSSS_room {xs : List (List (List Int))} {j k M : Nat} (hlt : j < xs.length) (hk : k + (xs.length + (Lay.list (Lay.list Lay.int)).sumL xs) ≤ M) : k + cntIntSSS (xs.take j) + (Lay.list (Lay.list Lay.int)).wt xs[j] ≤ M := by
  have h1 := cntIntSSS_le (xs.take j)
  rw [Lay.wt_list, List.length_take] at h1
  have h2 := Lay.sumL_take (Lay.list (Lay.list Lay.int)) hlt
  have h3 := Lay.sumL_take_le (Lay.list (Lay.list Lay.int)) xs (j + 1)
  omega

set_option maxRecDepth 100000 in
theorem markIntSSS_l (xs : List (List (List Int))) (base : Nat) (v : Value) (S : Nat → Prop) (k : Nat) (w : World) (h : OD w base v (slD (Lay.list (Lay.list Lay.int)) xs) S) (hk : k + (Lay.list (Lay.list (Lay.list Lay.int))).wt xs ≤ 8388608) :
    Calls Tryd.prog 26 #[v, .int .i64 (k : Int)] w fun e w' => e = .returned (.int .i64 ((k + cntIntSSS xs : Nat) : Int)) ∧ OD w' base v (slD (Lay.list (Lay.list Lay.int)) (mkIntSSS k xs)) S ∧ Within w w' S := by
  rw [Lay.wt_list] at hk
  obtain ⟨a, c, rfl, hg⟩ := OD.shapeL h
  go_enter Tryd.func26, Tryd.ntmps26
  go_wp2
  go_loopw [1, 5] (fun sk i wr => ∃ j : Nat, j ≤ xs.length ∧ i = .int .i64 j ∧ sk = .int .i64 ((k + cntIntSSS (xs.take j) : Nat) : Int) ∧ Hid (OD wr base (.slice a xs.length c) (slD (Lay.list (Lay.list Lay.int)) (mkIntSSS k (xs.take j) ++ xs.drop j)) S ∧ Within w wr S)) (fun _ i _ => xs.length - (intOf i).toNat)
  case atStart => exact ⟨0, Nat.zero_le _, rfl, by simp [cntIntSSS, cntL], by simpa [mkIntSSS, mkL] using h, Within.refl _ _⟩
  case round =>
    obtain ⟨j, hj, rfl, rfl, HO⟩ := hrel
    by_cases hlt : j < xs.length
    · obtain ⟨g, rfl⟩ := hg (by intro e; simp [e] at hlt)
      have hjL : j < (mkIntSSS k (xs.take j) ++ xs.drop j).length := by rw [mkIntSSS, mid_length _ _ hj]; exact hlt
      have HX : (mkIntSSS k (xs.take j) ++ xs.drop j)[j] = xs[j] := mid_get cntIntSS mkIntSS hlt hjL
      have HS : Hid ((mkIntSSS k (xs.take j) ++ xs.drop j).set j (mkIntSS (k + cntIntSSS (xs.take j)) xs[j]) = mkIntSSS k (xs.take (j + 1)) ++ xs.drop (j + 1)) := mid_set cntIntSS mkIntSS hlt
      have HN : Hid (k + cntIntSSS (xs.take (j + 1)) = k + cntIntSSS (xs.take j) + cntIntSS xs[j]) := by show _ = _; unfold cntIntSSS; rw [cntL_take _ hlt]; omega
      have hle := cntIntSSS_room hlt hk
      have hle2 := cntIntSS_le xs[j]
      obtain ⟨a1, c1, Tj, q0, O1, hT, hput⟩ := HO.out.1.listInto hjL
      rw [HX] at q0 O1 hput
      have X : Hid (Calls Tryd.prog 49 #[.slice a1 xs[j].length c1, .int .i64 ((k + cntIntSSS (xs.take j) : Nat) : Int)] wr fun e w' => e = .returned (.int .i64 ((k + cntIntSSS (xs.take j) + cntIntSS xs[j] : Nat) : Int)) ∧ OD w' base (.slice a1 xs[j].length c1) (slD (Lay.list Lay.int) (mkIntSS (k + cntIntSSS (xs.take j)) xs[j])) Tj ∧ Within wr w' Tj) :=
        markIntSS_l xs[j] base _ Tj (k + cntIntSSS (xs.take j)) wr O1 hle
      have HP : Hid (∀ w', OD w' base (.slice a1 xs[j].length c1) (slD (Lay.list Lay.int) (mkIntSS (k + cntIntSSS (xs.take j)) xs[j])) Tj ∧ Within wr w' Tj → OD w' base (.slice (some ⟨g, 0, none⟩) xs.length c) (slD (Lay.list (Lay.list Lay.int)) (mkIntSSS k (xs.take (j + 1)) ++ xs.drop (j + 1))) S ∧ Within w w' S) := by
        intro w' hx
        have := hput w' _ hx.1 hx.2
        rw [HS.out] at this
        exact ⟨this, HO.out.2.trans (hx.2.mono hT)⟩
      clear hg h HO HX HS hput O1 hjL
      generalize (Lay.list (Lay.list Lay.int)).wt xs[j] = wk at *
      generalize k + cntIntSSS (xs.take j) = m at *
      generalize mkIntSS m xs[j] = mk at *
      generalize cntIntSS xs[j] = ck at *
      generalize xs[j] = y at *
      have hgl : g < wr.heap.size := World.block_lt_of_cell? wr _ q0
      go_wp2_with fail
      refine X.out.mono ?_
      rintro e w1 ⟨rfl, hx⟩
      have HE : Hid (OD w1 base (.slice (some ⟨g, 0, none⟩) xs.length c) (slD (Lay.list (Lay.list Lay.int)) (mkIntSSS k (xs.take (j + 1)) ++ xs.drop (j + 1))) S ∧ Within w w1 S) := HP.out w1 hx
      clear X HP hx
      go_wp2
      go_roundw
      case rel => exact ⟨j + 1, by omega, by go_num, by rw [HN.out]; simp, HE⟩
      case measure => simp [intOf]; omega
    · have e : j = xs.length := by omega
      subst e
      have HE : Hid (OD wr base (.slice a xs.length c) (slD (Lay.list (Lay.list Lay.int)) (mkIntSSS k xs)) S ∧ Within w wr S) := by show _ ∧ _; simpa using HO.out
      have HC : Hid (cntIntSSS (xs.take xs.length) = cntIntSSS xs) := by show _ = _; rw [List.take_length]
      clear HO
      generalize cntIntSSS (xs.take xs.length) = m at *
      go_wp2
      go_ret
      exact ⟨ret_int (by rw [HC.out]), HE.out⟩

end Go.Proofs.YthnppodnjokaoaaDoor
namespace Go.Proofs.YthnppodnjokaoaaDoor
open Go.RowKit

def cntGram (x : Gm) : Nat := cntIntSSS x.parts
def mkGram (k : Nat) (x : Gm) : Gm := ⟨mkIntSSS k x.parts⟩
theorem cntGram_le (x : Gm) : cntGram x ≤ Lay.gram.wt x := cntIntSSS_le x.parts
theorem mkGram_len (k : Nat) (x : Gm) : (mkGram k x).parts.length = x.parts.length := mkL_length _ _ _ _

set_option maxRecDepth 100000 in
theorem markGram_l (x : Gm) (base : Nat) (a0 : Option Addr) (n0 c0 : Nat) (S : Nat → Prop) (k : Nat) (w : World) (h : Cells w base [.slice a0 n0 c0] (Lay.gram.cells x) S) (hk : k + Lay.gram.wt x ≤ 8388608) :
    Calls Tryd.prog 12 #[.agg #[.slice a0 n0 c0], .int .i64 (k : Int)] w fun e w' => e = .returned (.int .i64 ((k + cntGram x : Nat) : Int)) ∧ Cells w' base [.slice a0 n0 c0] (Lay.gram.cells (mkGram k x)) S ∧ Within w w' S := by
  have hO : OD w base (.slice a0 n0 c0) (slD (Lay.list (Lay.list Lay.int)) x.parts) S := Cells.od h
  have B := (Below.refl w.heap.size w).alloc (Nat.le_refl _) (.cells #[.slice a0 n0 c0] 28)
  have X := markIntSSS_l x.parts base _ S k _ (hO.later B) hk
  have hcnt : cntIntSSS x.parts = cntGram x := rfl
  have hmk : Hid (∀ W, OD W base (.slice a0 n0 c0) (slD (Lay.list (Lay.list Lay.int)) (mkIntSSS k x.parts)) S → Cells W base [.slice a0 n0 c0] (Lay.gram.cells (mkGram k x)) S) := fun W h => Cells.one h
  have hle := cntGram_le x
  rw [hcnt] at X
  clear h hO hcnt
  generalize cntGram x = ck at *
  go_enter Tryd.func12, Tryd.ntmps12
  go_wp2_with fail
  refine X.mono ?_
  rintro e w1 ⟨rfl, hx, hw⟩
  have HX := hmk.out _ hx
  have hW : Within w w1 S := (Within.of_below B S).trans hw
  clear X hmk hx hw
  go_wp2
  go_ret
  exact ⟨rfl, HX, hW⟩

end Go.Proofs.YthnppodnjokaoaaDoor
namespace Go.Proofs.YthnppodnjokaoaaDoor
open Go.RowKit

set_option maxHeartbeats 4000000 in
set_option maxRecDepth 100000 in
theorem fnExactSure_law (x0 : Gm) (a0 : Option Addr) (c0 : Nat) (n1 : Int) (z2 : List Int) (a2 : Option Addr) (c2 : Nat) (z3 : List Int) (a3 : Option Addr) (c3 : Nat) (n4 : Int) (w : World) (h0 : RD w (.slice a0 x0.parts.length c0) (slD (Lay.list (Lay.list Lay.int)) x0.parts)) (h2 : RD w (.slice a2 z2.length c2) (slD Lay.int z2)) (h3 : RD w (.slice a3 z3.length c3) (slD Lay.int z3)) (hf0 : Lay.gram.fit x0) (wf1 : (Lit.int .i64 n1).wf = true) (hf2 : (Lay.list Lay.int).fit z2) (hf3 : (Lay.list Lay.int).fit z3) (wf4 : (Lit.int .i64 n4).wf = true) (hT : ErrsIs w) :
    Calls Tryd.prog 3 #[.agg #[.slice a0 x0.parts.length c0], .int .i64 n1, .slice a2 z2.length c2, .slice a3 z3.length c3, .int .i64 n4] w fun e w' => e = .returned (.bool true) ∧ Below w.heap.size w w' := by
  have HH0 : Hid (Holds w w [] []) := Holds.start w
  have HT : Hid (ErrsIs w) := hT
  clear hT
  have H0 : Hid (RD w (.slice a0 x0.parts.length c0) (slD (Lay.list (Lay.list Lay.int)) x0.parts)) := h0
  clear h0
  have HF0 : Hid (Lay.gram.fit x0) := hf0
  have H2 : Hid (RD w (.slice a2 z2.length c2) (slD Lay.int z2)) := h2
  clear h2
  have HF2 : Hid ((Lay.list Lay.int).fit z2) := hf2
  have H3 : Hid (RD w (.slice a3 z3.length c3) (slD Lay.int z3)) := h3
  clear h3
  have HF3 : Hid ((Lay.list Lay.int).fit z3) := hf3
  have HH1 : Hid (Holds w (w.alloc (.cells #[.slice a0 x0.parts.length c0] 24)) [(w.heap.size, [.slice a0 x0.parts.length c0])] []) := by show Holds _ _ _ _; simpa using HH0.out.box [.slice a0 x0.parts.length c0] 24
  clear HH0
  have hm2 := hf2.1
  unfold maxLen at hm2
  clear hf2
  have hm3 := hf3.1
  unfold maxLen at hm3
  clear hf3
  by_cases hl2 : 1048576 < z2.length
  · go_enter Tryd.func3, Tryd.ntmps3
    go_wp2
    go_ret
    exact ⟨rfl, HH1.out.below⟩
  by_cases hl3 : 1048576 < z3.length
  · go_enter Tryd.func3, Tryd.ntmps3
    go_wp2
    go_ret
    exact ⟨rfl, HH1.out.below⟩
  go_enter Tryd.func3, Tryd.ntmps3
  have q0 : (w.alloc (.cells #[.slice a0 x0.parts.length c0] 24)).cell? ⟨w.heap.size, 0, none⟩ = some (.slice a0 x0.parts.length c0) := HH1.out.cell (w.heap.size, [.slice a0 x0.parts.length c0]) List.mem_cons_self 0 (by simp)
  go_wp2_with fail
  refine (szGram_l x0 a0 c0 _ _ (H0.out.later HH1.out.below) HF0.out (by omega) (by omega)).mono ?_
  rintro e w3 ⟨r0, rfl, hr0, B2⟩
  clear q0
  have HH4 : Hid (Holds w w3 [(w.heap.size, [.slice a0 x0.parts.length c0])] []) := HH1.out.later B2
  clear HH1
  clear B2
  rcases hr0 with rfl | ⟨hr0a, hr0b⟩
  · go_wp2
    go_ret
    exact ⟨rfl, HH4.out.below⟩
  have HW0 : Hid (Lay.gram.wt x0 ≤ 1048576) := by show _ ≤ _; omega
  have hr0c : r0 ≤ 1048576 := by omega
  clear hr0b hf0
  have q0 : w3.cell? ⟨w.heap.size, 0, none⟩ = some (.slice a0 x0.parts.length c0) := HH4.out.cell (w.heap.size, [.slice a0 x0.parts.length c0]) List.mem_cons_self 0 (by simp)
  go_wp2_with fail
  refine (toGram_l x0 a0 c0 _ (H0.out.later HH4.out.below) (by have := HW0.out; omega)).mono ?_
  rintro e w7 ⟨a0s, c0s, S0s, rfl, O6, B5⟩
  clear q0
  have HH8 : Hid (Holds w w7 [(w.heap.size, [.slice a0 x0.parts.length c0])] [([.slice a0s x0.parts.length c0s], Lay.gram.cells x0)]) := HH4.out.push B5 O6
  clear HH4
  clear B5 O6
  have q0 : w7.cell? ⟨w.heap.size, 0, none⟩ = some (.slice a0 x0.parts.length c0) := HH8.out.cell (w.heap.size, [.slice a0 x0.parts.length c0]) List.mem_cons_self 0 (by simp)
  go_wp2_with fail
  refine (toIntS_l z2 a2 c2 _ (H2.out.later HH8.out.below) (by rw [Lay.wt_ints]; omega)).mono ?_
  rintro e w11 ⟨v2s, S2s, rfl, O10o, B9⟩
  clear q0
  obtain ⟨a2s, c2s, rfl, _⟩ := OD.shapeL O10o
  have O10 := Cells.one O10o
  clear O10o
  have HH12 : Hid (Holds w w11 [(w.heap.size, [.slice a0 x0.parts.length c0])] [([.slice a2s z2.length c2s], [slD Lay.int z2]), ([.slice a0s x0.parts.length c0s], Lay.gram.cells x0)]) := HH8.out.push B9 O10
  clear HH8
  clear B9 O10
  have q0 : w11.cell? ⟨w.heap.size, 0, none⟩ = some (.slice a0 x0.parts.length c0) := HH12.out.cell (w.heap.size, [.slice a0 x0.parts.length c0]) List.mem_cons_self 0 (by simp)
  go_wp2_with fail
  refine (toIntS_l z3 a3 c3 _ (H3.out.later HH12.out.below) (by rw [Lay.wt_ints]; omega)).mono ?_
  rintro e w15 ⟨v3s, S3s, rfl, O14o, B13⟩
  clear q0
  obtain ⟨a3s, c3s, rfl, _⟩ := OD.shapeL O14o
  have O14 := Cells.one O14o
  clear O14o
  have HH16 : Hid (Holds w w15 [(w.heap.size, [.slice a0 x0.parts.length c0])] [([.slice a3s z3.length c3s], [slD Lay.int z3]), ([.slice a2s z2.length c2s], [slD Lay.int z2]), ([.slice a0s x0.parts.length c0s], Lay.gram.cells x0)]) := HH12.out.push B13 O14
  clear HH12
  clear B13 O14
  have R17 : Hid (RD w15 (.slice a0s x0.parts.length c0s) (slD (Lay.list (Lay.list Lay.int)) x0.parts)) := HH16.out.rd ([.slice a0s x0.parts.length c0s], Lay.gram.cells x0) (List.mem_cons_of_mem _ (List.mem_cons_of_mem _ List.mem_cons_self)) 0 (by simp) (by simp [Lay.gram])
  have R18 : Hid (RD w15 (.slice a2s z2.length c2s) (slD Lay.int z2)) := HH16.out.rd ([.slice a2s z2.length c2s], [slD Lay.int z2]) (List.mem_cons_of_mem _ List.mem_cons_self) 0 (by simp) (by simp)
  have R19 : Hid (RD w15 (.slice a3s z3.length c3s) (slD Lay.int z3)) := HH16.out.rd ([.slice a3s z3.length c3s], [slD Lay.int z3]) List.mem_cons_self 0 (by simp) (by simp)
  have q0 : w15.cell? ⟨w.heap.size, 0, none⟩ = some (.slice a0 x0.parts.length c0) := HH16.out.cell (w.heap.size, [.slice a0 x0.parts.length c0]) List.mem_cons_self 0 (by simp)
  go_wp2_with fail
  refine (specSure_any x0 a0s c0s n1 z2 a2s c2s z3 a3s c3s n4 _ R17.out R18.out R19.out (by have := HW0.out; omega) HF0.out wf1 (by omega) HF2.out (by omega) HF3.out wf4).mono ?_
  rintro e w22 ⟨vW, SW, rfl, O21o, B20⟩
  clear q0
  obtain ⟨aW, cW, rfl, _⟩ := OD.shapeL O21o
  have O21 := Cells.one O21o
  clear O21o
  have HH23 : Hid (Holds w w22 [(w.heap.size, [.slice a0 x0.parts.length c0])] [([.slice aW (resSure x0 n1 z2 z3 n4).length cW], [slD Lay.int (resSure x0 n1 z2 z3 n4)]), ([.slice a3s z3.length c3s], [slD Lay.int z3]), ([.slice a2s z2.length c2s], [slD Lay.int z2]), ([.slice a0s x0.parts.length c0s], Lay.gram.cells x0)]) := HH16.out.push B20 O21
  clear HH16
  clear B20 O21
  clear R17 R18 R19
  have HH24 : Hid (Holds w w22 [(w.heap.size, [.slice a0 x0.parts.length c0])] [([.slice aW (resSure x0 n1 z2 z3 n4).length cW], [slD Lay.int (resSure x0 n1 z2 z3 n4)]), ([.slice a3s z3.length c3s], [slD Lay.int z3]), ([.slice a2s z2.length c2s], [slD Lay.int z2])]) := Holds.drop (P := [([.slice aW (resSure x0 n1 z2 z3 n4).length cW], [slD Lay.int (resSure x0 n1 z2 z3 n4)]), ([.slice a3s z3.length c3s], [slD Lay.int z3]), ([.slice a2s z2.length c2s], [slD Lay.int z2])]) (x := ([.slice a0s x0.parts.length c0s], Lay.gram.cells x0)) (Q := []) HH23.out
  clear HH23
  have HH25 : Hid (Holds w w22 [(w.heap.size, [.slice a0 x0.parts.length c0])] [([.slice aW (resSure x0 n1 z2 z3 n4).length cW], [slD Lay.int (resSure x0 n1 z2 z3 n4)]), ([.slice a3s z3.length c3s], [slD Lay.int z3])]) := Holds.drop (P := [([.slice aW (resSure x0 n1 z2 z3 n4).length cW], [slD Lay.int (resSure x0 n1 z2 z3 n4)]), ([.slice a3s z3.length c3s], [slD Lay.int z3])]) (x := ([.slice a2s z2.length c2s], [slD Lay.int z2])) (Q := []) HH24.out
  clear HH24
  have HH26 : Hid (Holds w w22 [(w.heap.size, [.slice a0 x0.parts.length c0])] [([.slice aW (resSure x0 n1 z2 z3 n4).length cW], [slD Lay.int (resSure x0 n1 z2 z3 n4)])]) := Holds.drop (P := [([.slice aW (resSure x0 n1 z2 z3 n4).length cW], [slD Lay.int (resSure x0 n1 z2 z3 n4)])]) (x := ([.slice a3s z3.length c3s], [slD Lay.int z3])) (Q := []) HH25.out
  clear HH25
  have q0 : w22.cell? ⟨w.heap.size, 0, none⟩ = some (.slice a0 x0.parts.length c0) := HH26.out.cell (w.heap.size, [.slice a0 x0.parts.length c0]) List.mem_cons_self 0 (by simp)
  go_wp2_with fail
  refine (toGram_l x0 a0 c0 _ (H0.out.later HH26.out.below) (by have := HW0.out; omega)).mono ?_
  rintro e w29 ⟨a0m, c0m, S0m, rfl, O28, B27⟩
  clear q0
  have HH30 : Hid (Holds w w29 [(w.heap.size, [.slice a0 x0.parts.length c0])] [([.slice a0m x0.parts.length c0m], Lay.gram.cells x0), ([.slice aW (resSure x0 n1 z2 z3 n4).length cW], [slD Lay.int (resSure x0 n1 z2 z3 n4)])]) := HH26.out.push B27 O28
  clear HH26
  clear B27 O28
  have HH31 : Hid (Holds w (w29.alloc (.cells #[.slice a0m x0.parts.length c0m] 28)) [(w29.heap.size, [.slice a0m x0.parts.length c0m]), (w.heap.size, [.slice a0 x0.parts.length c0])] [([.slice a0m x0.parts.length c0m], Lay.gram.cells x0), ([.slice aW (resSure x0 n1 z2 z3 n4).length cW], [slD Lay.int (resSure x0 n1 z2 z3 n4)])]) := by show Holds _ _ _ _; simpa using HH30.out.box [.slice a0m x0.parts.length c0m] 28
  clear HH30
  have q0 : (w29.alloc (.cells #[.slice a0m x0.parts.length c0m] 28)).cell? ⟨w29.heap.size, 0, none⟩ = some (.slice a0m x0.parts.length c0m) := HH31.out.cell (w29.heap.size, [.slice a0m x0.parts.length c0m]) List.mem_cons_self 0 (by simp)
  have q1 : (w29.alloc (.cells #[.slice a0m x0.parts.length c0m] 28)).cell? ⟨w.heap.size, 0, none⟩ = some (.slice a0 x0.parts.length c0) := HH31.out.cell (w.heap.size, [.slice a0 x0.parts.length c0]) (List.mem_cons_of_mem _ List.mem_cons_self) 0 (by simp)
  go_wp2_with fail
  refine (toIntS_l z2 a2 c2 _ (H2.out.later HH31.out.below) (by rw [Lay.wt_ints]; omega)).mono ?_
  rintro e w34 ⟨v2m, S2m, rfl, O33o, B32⟩
  clear q0 q1
  obtain ⟨a2m, c2m, rfl, _⟩ := OD.shapeL O33o
  have O33 := Cells.one O33o
  clear O33o
  have HH35 : Hid (Holds w w34 [(w29.heap.size, [.slice a0m x0.parts.length c0m]), (w.heap.size, [.slice a0 x0.parts.length c0])] [([.slice a2m z2.length c2m], [slD Lay.int z2]), ([.slice a0m x0.parts.length c0m], Lay.gram.cells x0), ([.slice aW (resSure x0 n1 z2 z3 n4).length cW], [slD Lay.int (resSure x0 n1 z2 z3 n4)])]) := HH31.out.push B32 O33
  clear HH31
  clear B32 O33
  have q0 : w34.cell? ⟨w29.heap.size, 0, none⟩ = some (.slice a0m x0.parts.length c0m) := HH35.out.cell (w29.heap.size, [.slice a0m x0.parts.length c0m]) List.mem_cons_self 0 (by simp)
  have q1 : w34.cell? ⟨w.heap.size, 0, none⟩ = some (.slice a0 x0.parts.length c0) := HH35.out.cell (w.heap.size, [.slice a0 x0.parts.length c0]) (List.mem_cons_of_mem _ List.mem_cons_self) 0 (by simp)
  go_wp2_with fail
  refine (toIntS_l z3 a3 c3 _ (H3.out.later HH35.out.below) (by rw [Lay.wt_ints]; omega)).mono ?_
  rintro e w38 ⟨v3m, S3m, rfl, O37o, B36⟩
  clear q0 q1
  obtain ⟨a3m, c3m, rfl, _⟩ := OD.shapeL O37o
  have O37 := Cells.one O37o
  clear O37o
  have HH39 : Hid (Holds w w38 [(w29.heap.size, [.slice a0m x0.parts.length c0m]), (w.heap.size, [.slice a0 x0.parts.length c0])] [([.slice a3m z3.length c3m], [slD Lay.int z3]), ([.slice a2m z2.length c2m], [slD Lay.int z2]), ([.slice a0m x0.parts.length c0m], Lay.gram.cells x0), ([.slice aW (resSure x0 n1 z2 z3 n4).length cW], [slD Lay.int (resSure x0 n1 z2 z3 n4)])]) := HH35.out.push B36 O37
  clear HH35
  clear B36 O37
  have R40 : Hid (RD w38 (.slice a0m x0.parts.length c0m) (slD (Lay.list (Lay.list Lay.int)) x0.parts)) := HH39.out.rd ([.slice a0m x0.parts.length c0m], Lay.gram.cells x0) (List.mem_cons_of_mem _ (List.mem_cons_of_mem _ List.mem_cons_self)) 0 (by simp) (by simp [Lay.gram])
  have R41 : Hid (RD w38 (.slice a2m z2.length c2m) (slD Lay.int z2)) := HH39.out.rd ([.slice a2m z2.length c2m], [slD Lay.int z2]) (List.mem_cons_of_mem _ List.mem_cons_self) 0 (by simp) (by simp)
  have R42 : Hid (RD w38 (.slice a3m z3.length c3m) (slD Lay.int z3)) := HH39.out.rd ([.slice a3m z3.length c3m], [slD Lay.int z3]) List.mem_cons_self 0 (by simp) (by simp)
  have q0 : w38.cell? ⟨w29.heap.size, 0, none⟩ = some (.slice a0m x0.parts.length c0m) := HH39.out.cell (w29.heap.size, [.slice a0m x0.parts.length c0m]) List.mem_cons_self 0 (by simp)
  have q1 : w38.cell? ⟨w.heap.size, 0, none⟩ = some (.slice a0 x0.parts.length c0) := HH39.out.cell (w.heap.size, [.slice a0 x0.parts.length c0]) (List.mem_cons_of_mem _ List.mem_cons_self) 0 (by simp)
  go_wp2_with fail
  refine (sure_any x0 a0m c0m n1 z2 a2m c2m z3 a3m c3m n4 _ R40.out R41.out R42.out (by have := HW0.out; omega) HF0.out wf1 (by omega) HF2.out (by omega) HF3.out wf4 (HT.out.later HH39.out.below)).mono ?_
  rintro e w45 ⟨vG, SG, rfl, O44o, B43⟩
  clear q0 q1
  obtain ⟨aG, cG, rfl, _⟩ := OD.shapeL O44o
  have O44 := Cells.one O44o
  clear O44o
  have HH46 : Hid (Holds w w45 [(w29.heap.size, [.slice a0m x0.parts.length c0m]), (w.heap.size, [.slice a0 x0.parts.length c0])] [([.slice aG (resSure x0 n1 z2 z3 n4).length cG], [slD Lay.int (resSure x0 n1 z2 z3 n4)]), ([.slice a3m z3.length c3m], [slD Lay.int z3]), ([.slice a2m z2.length c2m], [slD Lay.int z2]), ([.slice a0m x0.parts.length c0m], Lay.gram.cells x0), ([.slice aW (resSure x0 n1 z2 z3 n4).length cW], [slD Lay.int (resSure x0 n1 z2 z3 n4)])]) := HH39.out.push B43 O44
  clear HH39
  clear B43 O44
  clear R40 R41 R42
  have HRw : Hid ((Lay.list Lay.int).wt (resSure x0 n1 z2 z3 n4) ≤ 2097152) := resSure_le x0 n1 z2 z3 n4 (by have := HW0.out; omega) HF0.out wf1 (by omega) HF2.out (by omega) HF3.out wf4
  obtain ⟨R, HRe⟩ : ∃ R, Hid (resSure x0 n1 z2 z3 n4 = R) := ⟨_, rfl⟩
  have HH47 : Hid (Holds w w45 [(w29.heap.size, [.slice a0m x0.parts.length c0m]), (w.heap.size, [.slice a0 x0.parts.length c0])] [([.slice aG R.length cG], [slD Lay.int R]), ([.slice a3m z3.length c3m], [slD Lay.int z3]), ([.slice a2m z2.length c2m], [slD Lay.int z2]), ([.slice a0m x0.parts.length c0m], Lay.gram.cells x0), ([.slice aW R.length cW], [slD Lay.int R])]) := by show Holds _ _ _ _; have := HH46.out; rw [HRe.out] at this; exact this
  clear HH46
  have HRx : Hid ((Lay.list Lay.int).wt R ≤ 2097152) := by show _ ≤ _; rw [← HRe.out]; exact HRw.out
  clear HRw
  have HRw := HRx
  clear HRx
  rw [HRe.out]
  have R48 : Hid (RD w45 (.slice aG R.length cG) (slD Lay.int R)) := HH47.out.rd ([.slice aG R.length cG], [slD Lay.int R]) List.mem_cons_self 0 (by simp) (by simp)
  have R49 : Hid (RD w45 (.slice aW R.length cW) (slD Lay.int R)) := HH47.out.rd ([.slice aW R.length cW], [slD Lay.int R]) (List.mem_cons_of_mem _ (List.mem_cons_of_mem _ (List.mem_cons_of_mem _ (List.mem_cons_of_mem _ List.mem_cons_self)))) 0 (by simp) (by simp)
  have q0 : w45.cell? ⟨w29.heap.size, 0, none⟩ = some (.slice a0m x0.parts.length c0m) := HH47.out.cell (w29.heap.size, [.slice a0m x0.parts.length c0m]) List.mem_cons_self 0 (by simp)
  have q1 : w45.cell? ⟨w.heap.size, 0, none⟩ = some (.slice a0 x0.parts.length c0) := HH47.out.cell (w.heap.size, [.slice a0 x0.parts.length c0]) (List.mem_cons_of_mem _ List.mem_cons_self) 0 (by simp)
  go_wp2_with fail
  refine (eqIntS_l R aG aW cG cW _ R48.out R49.out (by have := HRw.out; omega)).mono ?_
  rintro e w51 ⟨rfl, B50⟩
  clear q0 q1
  clear R48 R49
  have HH52 : Hid (Holds w w51 [(w29.heap.size, [.slice a0m x0.parts.length c0m]), (w.heap.size, [.slice a0 x0.parts.length c0])] [([.slice aG R.length cG], [slD Lay.int R]), ([.slice a3m z3.length c3m], [slD Lay.int z3]), ([.slice a2m z2.length c2m], [slD Lay.int z2]), ([.slice a0m x0.parts.length c0m], Lay.gram.cells x0), ([.slice aW R.length cW], [slD Lay.int R])]) := HH47.out.later B50
  clear HH47
  clear B50
  have q0 : w51.cell? ⟨w29.heap.size, 0, none⟩ = some (.slice a0m x0.parts.length c0m) := HH52.out.cell (w29.heap.size, [.slice a0m x0.parts.length c0m]) List.mem_cons_self 0 (by simp)
  have q1 : w51.cell? ⟨w.heap.size, 0, none⟩ = some (.slice a0 x0.parts.length c0) := HH52.out.cell (w.heap.size, [.slice a0 x0.parts.length c0]) (List.mem_cons_of_mem _ List.mem_cons_self) 0 (by simp)
  go_wp2_with fail
  refine wp_region_held_drew (S := fun w' => Keeps w' [(w29.heap.size, [.slice a0m x0.parts.length c0m]), (w.heap.size, [.slice a0 x0.parts.length c0])]) (by kernel_rfl) HH52.out.boxes.drew (fun hHeld => ?_)
  refine take_atL (i := 0) (d := some 57) (v := .agg #[.slice a0m x0.parts.length c0m]) rfl rfl (by kernel_rfl) (by kernel_rfl) (by kernel_rfl) (fun _ _ _ h => h) (by rfl) ?_ hHeld ?_
  · intro w' hSw
    have p0 : w'.cell? ⟨w29.heap.size, 0, none⟩ = some (.slice a0m x0.parts.length c0m) := hSw (w29.heap.size, [.slice a0m x0.parts.length c0m]) List.mem_cons_self 0 (by simp)
    go_simp; try rfl
  try simp only [Act.put, List.setIfInBounds_toArray, List.set_cons_zero, List.set_cons_succ]
  refine take_atL (i := 1) (d := some 58) (v := .agg #[.slice a0 x0.parts.length c0]) rfl rfl (by kernel_rfl) (by kernel_rfl) (by kernel_rfl) (fun _ _ _ h => h) (by rfl) ?_ hHeld ?_
  · intro w' hSw
    have p0 : w'.cell? ⟨w.heap.size, 0, none⟩ = some (.slice a0 x0.parts.length c0) := hSw (w.heap.size, [.slice a0 x0.parts.length c0]) (List.mem_cons_of_mem _ List.mem_cons_self) 0 (by simp)
    go_simp; try rfl
  try simp only [Act.put, List.setIfInBounds_toArray, List.set_cons_zero, List.set_cons_succ]
  clear q0 q1
  refine wpAnyH_ready (rs := [2]) (by kernel_rfl) (by simp) ?_
  refine AllReadyH.cons (o := _) rfl (fun K hK => ?_) AllReadyH.nil
  rw [if_pos (by rfl)]
  go_simp
  refine (toGram_l x0 a0 c0 _ (H0.out.later (Below.drew HH52.out.below)) (by have := HW0.out; omega)).mono ?_
  rintro e w53 ⟨a0e, c0e, S0e, rfl, O55, B54d⟩
  have B54 : Below (w51).heap.size w51 w53 := Below.drewed (by simpa using B54d)
  clear B54d hHeld
  have HH56 : Hid (Holds w w53 [(w29.heap.size, [.slice a0m x0.parts.length c0m]), (w.heap.size, [.slice a0 x0.parts.length c0])] [([.slice a0e x0.parts.length c0e], Lay.gram.cells x0), ([.slice aG R.length cG], [slD Lay.int R]), ([.slice a3m z3.length c3m], [slD Lay.int z3]), ([.slice a2m z2.length c2m], [slD Lay.int z2]), ([.slice a0m x0.parts.length c0m], Lay.gram.cells x0), ([.slice aW R.length cW], [slD Lay.int R])]) := HH52.out.push B54 O55
  clear HH52
  clear B54 O55
  go_wp2_with fail
  refine hK.out _ _ HH56.out.boxes (fun hHeld => ?_)
  clear hK K
  try simp only [Act.put, List.setIfInBounds_toArray, List.set_cons_zero, List.set_cons_succ]
  refine wpAnyH_ready (rs := [3]) (by kernel_rfl) (by simp) ?_
  refine AllReadyH.cons (o := _) rfl (fun K hK => ?_) AllReadyH.nil
  rw [if_pos (by rfl)]
  go_simp
  have R57 : Hid (RD w53 (.slice a0m x0.parts.length c0m) (slD (Lay.list (Lay.list Lay.int)) x0.parts)) := HH56.out.rd ([.slice a0m x0.parts.length c0m], Lay.gram.cells x0) (List.mem_cons_of_mem _ (List.mem_cons_of_mem _ (List.mem_cons_of_mem _ (List.mem_cons_of_mem _ List.mem_cons_self)))) 0 (by simp) (by simp [Lay.gram])
  have R58 : Hid (RD w53 (.slice a0e x0.parts.length c0e) (slD (Lay.list (Lay.list Lay.int)) x0.parts)) := HH56.out.rd ([.slice a0e x0.parts.length c0e], Lay.gram.cells x0) List.mem_cons_self 0 (by simp) (by simp [Lay.gram])
  refine (eqGram_l x0 a0m a0e c0m c0e _ R57.out R58.out (by have := HW0.out; omega)).mono ?_
  rintro e w59 ⟨rfl, B60⟩
  clear hHeld R57 R58
  have HH61 : Hid (Holds w w59 [(w29.heap.size, [.slice a0m x0.parts.length c0m]), (w.heap.size, [.slice a0 x0.parts.length c0])] [([.slice a0e x0.parts.length c0e], Lay.gram.cells x0), ([.slice aG R.length cG], [slD Lay.int R]), ([.slice a3m z3.length c3m], [slD Lay.int z3]), ([.slice a2m z2.length c2m], [slD Lay.int z2]), ([.slice a0m x0.parts.length c0m], Lay.gram.cells x0), ([.slice aW R.length cW], [slD Lay.int R])]) := HH56.out.later B60
  clear HH56
  clear B60
  have HH62 : Hid (Holds w w59 [(w29.heap.size, [.slice a0m x0.parts.length c0m]), (w.heap.size, [.slice a0 x0.parts.length c0])] [([.slice aG R.length cG], [slD Lay.int R]), ([.slice a3m z3.length c3m], [slD Lay.int z3]), ([.slice a2m z2.length c2m], [slD Lay.int z2]), ([.slice a0m x0.parts.length c0m], Lay.gram.cells x0), ([.slice aW R.length cW], [slD Lay.int R])]) := Holds.drop (P := []) (x := ([.slice a0e x0.parts.length c0e], Lay.gram.cells x0)) (Q := [([.slice aG R.length cG], [slD Lay.int R]), ([.slice a3m z3.length c3m], [slD Lay.int z3]), ([.slice a2m z2.length c2m], [slD Lay.int z2]), ([.slice a0m x0.parts.length c0m], Lay.gram.cells x0), ([.slice aW R.length cW], [slD Lay.int R])]) HH61.out
  clear HH61
  go_wp2_with fail
  refine hK.out _ _ HH62.out.boxes (fun hHeld => ?_)
  clear hK K
  try simp only [Act.put, List.setIfInBounds_toArray, List.set_cons_zero, List.set_cons_succ]
  refine take_atL (i := 4) (d := some 61) (v := .bool false) rfl rfl (by kernel_rfl) (by kernel_rfl) (by kernel_rfl) (fun _ _ _ h => h) (by rfl) ?_ hHeld ?_
  · intro w' hSw; go_simp; try rfl
  try simp only [Act.put, List.setIfInBounds_toArray, List.set_cons_zero, List.set_cons_succ]
  refine wpAnyH_done (by kernel_rfl) ?_ _
  clear hHeld
  have q0 : w59.cell? ⟨w29.heap.size, 0, none⟩ = some (.slice a0m x0.parts.length c0m) := HH62.out.cell (w29.heap.size, [.slice a0m x0.parts.length c0m]) List.mem_cons_self 0 (by simp)
  have q1 : w59.cell? ⟨w.heap.size, 0, none⟩ = some (.slice a0 x0.parts.length c0) := HH62.out.cell (w.heap.size, [.slice a0 x0.parts.length c0]) (List.mem_cons_of_mem _ List.mem_cons_self) 0 (by simp)
  go_wp2_with fail
  refine (toIntS_l z2 a2 c2 _ (H2.out.later HH62.out.below) (by rw [Lay.wt_ints]; omega)).mono ?_
  rintro e w65 ⟨v2e, S2e, rfl, O64o, B63⟩
  clear q0 q1
  obtain ⟨a2e, c2e, rfl, _⟩ := OD.shapeL O64o
  have O64 := Cells.one O64o
  clear O64o
  have HH66 : Hid (Holds w w65 [(w29.heap.size, [.slice a0m x0.parts.length c0m]), (w.heap.size, [.slice a0 x0.parts.length c0])] [([.slice a2e z2.length c2e], [slD Lay.int z2]), ([.slice aG R.length cG], [slD Lay.int R]), ([.slice a3m z3.length c3m], [slD Lay.int z3]), ([.slice a2m z2.length c2m], [slD Lay.int z2]), ([.slice a0m x0.parts.length c0m], Lay.gram.cells x0), ([.slice aW R.length cW], [slD Lay.int R])]) := HH62.out.push B63 O64
  clear HH62
  clear B63 O64
  have R67 : Hid (RD w65 (.slice a2m z2.length c2m) (slD Lay.int z2)) := HH66.out.rd ([.slice a2m z2.length c2m], [slD Lay.int z2]) (List.mem_cons_of_mem _ (List.mem_cons_of_mem _ (List.mem_cons_of_mem _ List.mem_cons_self))) 0 (by simp) (by simp)
  have R68 : Hid (RD w65 (.slice a2e z2.length c2e) (slD Lay.int z2)) := HH66.out.rd ([.slice a2e z2.length c2e], [slD Lay.int z2]) List.mem_cons_self 0 (by simp) (by simp)
  have q0 : w65.cell? ⟨w29.heap.size, 0, none⟩ = some (.slice a0m x0.parts.length c0m) := HH66.out.cell (w29.heap.size, [.slice a0m x0.parts.length c0m]) List.mem_cons_self 0 (by simp)
  have q1 : w65.cell? ⟨w.heap.size, 0, none⟩ = some (.slice a0 x0.parts.length c0) := HH66.out.cell (w.heap.size, [.slice a0 x0.parts.length c0]) (List.mem_cons_of_mem _ List.mem_cons_self) 0 (by simp)
  go_wp2_with fail
  refine (eqIntS_l z2 a2m a2e c2m c2e _ R67.out R68.out (by rw [Lay.wt_ints]; omega)).mono ?_
  rintro e w70 ⟨rfl, B69⟩
  clear q0 q1
  clear R67 R68
  have HH71 : Hid (Holds w w70 [(w29.heap.size, [.slice a0m x0.parts.length c0m]), (w.heap.size, [.slice a0 x0.parts.length c0])] [([.slice a2e z2.length c2e], [slD Lay.int z2]), ([.slice aG R.length cG], [slD Lay.int R]), ([.slice a3m z3.length c3m], [slD Lay.int z3]), ([.slice a2m z2.length c2m], [slD Lay.int z2]), ([.slice a0m x0.parts.length c0m], Lay.gram.cells x0), ([.slice aW R.length cW], [slD Lay.int R])]) := HH66.out.later B69
  clear HH66
  clear B69
  have HH72 : Hid (Holds w w70 [(w29.heap.size, [.slice a0m x0.parts.length c0m]), (w.heap.size, [.slice a0 x0.parts.length c0])] [([.slice aG R.length cG], [slD Lay.int R]), ([.slice a3m z3.length c3m], [slD Lay.int z3]), ([.slice a2m z2.length c2m], [slD Lay.int z2]), ([.slice a0m x0.parts.length c0m], Lay.gram.cells x0), ([.slice aW R.length cW], [slD Lay.int R])]) := Holds.drop (P := []) (x := ([.slice a2e z2.length c2e], [slD Lay.int z2])) (Q := [([.slice aG R.length cG], [slD Lay.int R]), ([.slice a3m z3.length c3m], [slD Lay.int z3]), ([.slice a2m z2.length c2m], [slD Lay.int z2]), ([.slice a0m x0.parts.length c0m], Lay.gram.cells x0), ([.slice aW R.length cW], [slD Lay.int R])]) HH71.out
  clear HH71
  have q0 : w70.cell? ⟨w29.heap.size, 0, none⟩ = some (.slice a0m x0.parts.length c0m) := HH72.out.cell (w29.heap.size, [.slice a0m x0.parts.length c0m]) List.mem_cons_self 0 (by simp)
  have q1 : w70.cell? ⟨w.heap.size, 0, none⟩ = some (.slice a0 x0.parts.length c0) := HH72.out.cell (w.heap.size, [.slice a0 x0.parts.length c0]) (List.mem_cons_of_mem _ List.mem_cons_self) 0 (by simp)
  go_wp2_with fail
  refine (toIntS_l z3 a3 c3 _ (H3.out.later HH72.out.below) (by rw [Lay.wt_ints]; omega)).mono ?_
  rintro e w75 ⟨v3e, S3e, rfl, O74o, B73⟩
  clear q0 q1
  obtain ⟨a3e, c3e, rfl, _⟩ := OD.shapeL O74o
  have O74 := Cells.one O74o
  clear O74o
  have HH76 : Hid (Holds w w75 [(w29.heap.size, [.slice a0m x0.parts.length c0m]), (w.heap.size, [.slice a0 x0.parts.length c0])] [([.slice a3e z3.length c3e], [slD Lay.int z3]), ([.slice aG R.length cG], [slD Lay.int R]), ([.slice a3m z3.length c3m], [slD Lay.int z3]), ([.slice a2m z2.length c2m], [slD Lay.int z2]), ([.slice a0m x0.parts.length c0m], Lay.gram.cells x0), ([.slice aW R.length cW], [slD Lay.int R])]) := HH72.out.push B73 O74
  clear HH72
  clear B73 O74
  have R77 : Hid (RD w75 (.slice a3m z3.length c3m) (slD Lay.int z3)) := HH76.out.rd ([.slice a3m z3.length c3m], [slD Lay.int z3]) (List.mem_cons_of_mem _ (List.mem_cons_of_mem _ List.mem_cons_self)) 0 (by simp) (by simp)
  have R78 : Hid (RD w75 (.slice a3e z3.length c3e) (slD Lay.int z3)) := HH76.out.rd ([.slice a3e z3.length c3e], [slD Lay.int z3]) List.mem_cons_self 0 (by simp) (by simp)
  have q0 : w75.cell? ⟨w29.heap.size, 0, none⟩ = some (.slice a0m x0.parts.length c0m) := HH76.out.cell (w29.heap.size, [.slice a0m x0.parts.length c0m]) List.mem_cons_self 0 (by simp)
  have q1 : w75.cell? ⟨w.heap.size, 0, none⟩ = some (.slice a0 x0.parts.length c0) := HH76.out.cell (w.heap.size, [.slice a0 x0.parts.length c0]) (List.mem_cons_of_mem _ List.mem_cons_self) 0 (by simp)
  go_wp2_with fail
  refine (eqIntS_l z3 a3m a3e c3m c3e _ R77.out R78.out (by rw [Lay.wt_ints]; omega)).mono ?_
  rintro e w80 ⟨rfl, B79⟩
  clear q0 q1
  clear R77 R78
  have HH81 : Hid (Holds w w80 [(w29.heap.size, [.slice a0m x0.parts.length c0m]), (w.heap.size, [.slice a0 x0.parts.length c0])] [([.slice a3e z3.length c3e], [slD Lay.int z3]), ([.slice aG R.length cG], [slD Lay.int R]), ([.slice a3m z3.length c3m], [slD Lay.int z3]), ([.slice a2m z2.length c2m], [slD Lay.int z2]), ([.slice a0m x0.parts.length c0m], Lay.gram.cells x0), ([.slice aW R.length cW], [slD Lay.int R])]) := HH76.out.later B79
  clear HH76
  clear B79
  have HH82 : Hid (Holds w w80 [(w29.heap.size, [.slice a0m x0.parts.length c0m]), (w.heap.size, [.slice a0 x0.parts.length c0])] [([.slice aG R.length cG], [slD Lay.int R]), ([.slice a3m z3.length c3m], [slD Lay.int z3]), ([.slice a2m z2.length c2m], [slD Lay.int z2]), ([.slice a0m x0.parts.length c0m], Lay.gram.cells x0), ([.slice aW R.length cW], [slD Lay.int R])]) := Holds.drop (P := []) (x := ([.slice a3e z3.length c3e], [slD Lay.int z3])) (Q := [([.slice aG R.length cG], [slD Lay.int R]), ([.slice a3m z3.length c3m], [slD Lay.int z3]), ([.slice a2m z2.length c2m], [slD Lay.int z2]), ([.slice a0m x0.parts.length c0m], Lay.gram.cells x0), ([.slice aW R.length cW], [slD Lay.int R])]) HH81.out
  clear HH81
  have hcl0 := cntGram_le x0
  obtain ⟨T83, hcT83, htT83⟩ := Holds.turn (P := [([.slice aG R.length cG], [slD Lay.int R]), ([.slice a3m z3.length c3m], [slD Lay.int z3]), ([.slice a2m z2.length c2m], [slD Lay.int z2])]) (x := ([.slice a0m x0.parts.length c0m], Lay.gram.cells x0)) (Q := [([.slice aW R.length cW], [slD Lay.int R])]) HH82.out
  have q0 : w80.cell? ⟨w29.heap.size, 0, none⟩ = some (.slice a0m x0.parts.length c0m) := HH82.out.cell (w29.heap.size, [.slice a0m x0.parts.length c0m]) List.mem_cons_self 0 (by simp)
  have q1 : w80.cell? ⟨w.heap.size, 0, none⟩ = some (.slice a0 x0.parts.length c0) := HH82.out.cell (w.heap.size, [.slice a0 x0.parts.length c0]) (List.mem_cons_of_mem _ List.mem_cons_self) 0 (by simp)
  have HTT83 : Hid (∀ w' ds, Cells w' w.heap.size [.slice a0m x0.parts.length c0m] ds T83 → Within w80 w' T83 → Holds w w' [(w29.heap.size, [.slice a0m x0.parts.length c0m]), (w.heap.size, [.slice a0 x0.parts.length c0])] ([([.slice aG R.length cG], [slD Lay.int R]), ([.slice a3m z3.length c3m], [slD Lay.int z3]), ([.slice a2m z2.length c2m], [slD Lay.int z2])] ++ ([.slice a0m x0.parts.length c0m], ds) :: [([.slice aW R.length cW], [slD Lay.int R])])) := htT83
  clear htT83
  go_wp2_with fail
  refine (markGram_l x0 _ a0m x0.parts.length c0m _ 1 _ hcT83 (by have := HW0.out; omega)).mono ?_
  rintro e w84 ⟨rfl, hxT83, hwT83⟩
  have HH85 : Hid (Holds w w84 [(w29.heap.size, [.slice a0m x0.parts.length c0m]), (w.heap.size, [.slice a0 x0.parts.length c0])] [([.slice aG R.length cG], [slD Lay.int R]), ([.slice a3m z3.length c3m], [slD Lay.int z3]), ([.slice a2m z2.length c2m], [slD Lay.int z2]), ([.slice a0m x0.parts.length c0m], Lay.gram.cells (mkGram (1) x0)), ([.slice aW R.length cW], [slD Lay.int R])]) := HTT83.out _ _ hxT83 hwT83
  clear HH82
  clear q0 q1 HTT83 hxT83 hwT83 hcT83
  have hkb0 : 1 + cntGram x0 ≤ 4000000 := by have := HW0.out; omega
  clear hcl0
  have HH86 : Hid (Holds w w84 [(w29.heap.size, [.slice a0m x0.parts.length c0m]), (w.heap.size, [.slice a0 x0.parts.length c0])] [([.slice aG R.length cG], [slD Lay.int R]), ([.slice a3m z3.length c3m], [slD Lay.int z3]), ([.slice a2m z2.length c2m], [slD Lay.int z2]), ([.slice aW R.length cW], [slD Lay.int R])]) := Holds.drop (P := [([.slice aG R.length cG], [slD Lay.int R]), ([.slice a3m z3.length c3m], [slD Lay.int z3]), ([.slice a2m z2.length c2m], [slD Lay.int z2])]) (x := ([.slice a0m x0.parts.length c0m], Lay.gram.cells (mkGram (1) x0))) (Q := [([.slice aW R.length cW], [slD Lay.int R])]) HH85.out
  clear HH85
  generalize 1 + cntGram x0 = k0 at *
  have hcl2 := cntIntS_le z2
  rw [Lay.wt_ints] at hcl2
  obtain ⟨T87, hcT87, htT87⟩ := Holds.turn (P := [([.slice aG R.length cG], [slD Lay.int R]), ([.slice a3m z3.length c3m], [slD Lay.int z3])]) (x := ([.slice a2m z2.length c2m], [slD Lay.int z2])) (Q := [([.slice aW R.length cW], [slD Lay.int R])]) HH86.out
  have q0 : w84.cell? ⟨w29.heap.size, 0, none⟩ = some (.slice a0m x0.parts.length c0m) := HH86.out.cell (w29.heap.size, [.slice a0m x0.parts.length c0m]) List.mem_cons_self 0 (by simp)
  have q1 : w84.cell? ⟨w.heap.size, 0, none⟩ = some (.slice a0 x0.parts.length c0) := HH86.out.cell (w.heap.size, [.slice a0 x0.parts.length c0]) (List.mem_cons_of_mem _ List.mem_cons_self) 0 (by simp)
  have HTT87 : Hid (∀ w' ds, Cells w' w.heap.size [.slice a2m z2.length c2m] ds T87 → Within w84 w' T87 → Holds w w' [(w29.heap.size, [.slice a0m x0.parts.length c0m]), (w.heap.size, [.slice a0 x0.parts.length c0])] ([([.slice aG R.length cG], [slD Lay.int R]), ([.slice a3m z3.length c3m], [slD Lay.int z3])] ++ ([.slice a2m z2.length c2m], ds) :: [([.slice aW R.length cW], [slD Lay.int R])])) := htT87
  clear htT87
  go_wp2_with fail
  refine (markIntS_c z2 _ _ _ k0 _ hcT87 (by rw [Lay.wt_ints]; omega)).mono ?_
  rintro e w88 ⟨rfl, hxT87, hwT87⟩
  have HH89 : Hid (Holds w w88 [(w29.heap.size, [.slice a0m x0.parts.length c0m]), (w.heap.size, [.slice a0 x0.parts.length c0])] [([.slice aG R.length cG], [slD Lay.int R]), ([.slice a3m z3.length c3m], [slD Lay.int z3]), ([.slice a2m z2.length c2m], [slD Lay.int (mkIntS (k0) z2)]), ([.slice aW R.length cW], [slD Lay.int R])]) := HTT87.out _ _ hxT87 hwT87
  clear HH86
  clear q0 q1 HTT87 hxT87 hwT87 hcT87
  have hkb2 : k0 + cntIntS z2 ≤ 6000000 := by omega
  clear hcl2
  have HH90 : Hid (Holds w w88 [(w29.heap.size, [.slice a0m x0.parts.length c0m]), (w.heap.size, [.slice a0 x0.parts.length c0])] [([.slice aG R.length cG], [slD Lay.int R]), ([.slice a3m z3.length c3m], [slD Lay.int z3]), ([.slice aW R.length cW], [slD Lay.int R])]) := Holds.drop (P := [([.slice aG R.length cG], [slD Lay.int R]), ([.slice a3m z3.length c3m], [slD Lay.int z3])]) (x := ([.slice a2m z2.length c2m], [slD Lay.int (mkIntS (k0) z2)])) (Q := [([.slice aW R.length cW], [slD Lay.int R])]) HH89.out
  clear HH89
  generalize k0 + cntIntS z2 = k2 at *
  have hcl3 := cntIntS_le z3
  rw [Lay.wt_ints] at hcl3
  obtain ⟨T91, hcT91, htT91⟩ := Holds.turn (P := [([.slice aG R.length cG], [slD Lay.int R])]) (x := ([.slice a3m z3.length c3m], [slD Lay.int z3])) (Q := [([.slice aW R.length cW], [slD Lay.int R])]) HH90.out
  have q0 : w88.cell? ⟨w29.heap.size, 0, none⟩ = some (.slice a0m x0.parts.length c0m) := HH90.out.cell (w29.heap.size, [.slice a0m x0.parts.length c0m]) List.mem_cons_self 0 (by simp)
  have q1 : w88.cell? ⟨w.heap.size, 0, none⟩ = some (.slice a0 x0.parts.length c0) := HH90.out.cell (w.heap.size, [.slice a0 x0.parts.length c0]) (List.mem_cons_of_mem _ List.mem_cons_self) 0 (by simp)
  have HTT91 : Hid (∀ w' ds, Cells w' w.heap.size [.slice a3m z3.length c3m] ds T91 → Within w88 w' T91 → Holds w w' [(w29.heap.size, [.slice a0m x0.parts.length c0m]), (w.heap.size, [.slice a0 x0.parts.length c0])] ([([.slice aG R.length cG], [slD Lay.int R])] ++ ([.slice a3m z3.length c3m], ds) :: [([.slice aW R.length cW], [slD Lay.int R])])) := htT91
  clear htT91
  go_wp2_with fail
  refine (markIntS_c z3 _ _ _ k2 _ hcT91 (by rw [Lay.wt_ints]; omega)).mono ?_
  rintro e w92 ⟨rfl, hxT91, hwT91⟩
  have HH93 : Hid (Holds w w92 [(w29.heap.size, [.slice a0m x0.parts.length c0m]), (w.heap.size, [.slice a0 x0.parts.length c0])] [([.slice aG R.length cG], [slD Lay.int R]), ([.slice a3m z3.length c3m], [slD Lay.int (mkIntS (k2) z3)]), ([.slice aW R.length cW], [slD Lay.int R])]) := HTT91.out _ _ hxT91 hwT91
  clear HH90
  clear q0 q1 HTT91 hxT91 hwT91 hcT91
  have hkb3 : k2 + cntIntS z3 ≤ 8000000 := by omega
  clear hcl3
  have HH94 : Hid (Holds w w92 [(w29.heap.size, [.slice a0m x0.parts.length c0m]), (w.heap.size, [.slice a0 x0.parts.length c0])] [([.slice aG R.length cG], [slD Lay.int R]), ([.slice aW R.length cW], [slD Lay.int R])]) := Holds.drop (P := [([.slice aG R.length cG], [slD Lay.int R])]) (x := ([.slice a3m z3.length c3m], [slD Lay.int (mkIntS (k2) z3)])) (Q := [([.slice aW R.length cW], [slD Lay.int R])]) HH93.out
  clear HH93
  generalize k2 + cntIntS z3 = k3 at *
  have R95 : Hid (RD w92 (.slice aG R.length cG) (slD Lay.int R)) := HH94.out.rd ([.slice aG R.length cG], [slD Lay.int R]) List.mem_cons_self 0 (by simp) (by simp)
  have R96 : Hid (RD w92 (.slice aW R.length cW) (slD Lay.int R)) := HH94.out.rd ([.slice aW R.length cW], [slD Lay.int R]) (List.mem_cons_of_mem _ List.mem_cons_self) 0 (by simp) (by simp)
  have q0 : w92.cell? ⟨w29.heap.size, 0, none⟩ = some (.slice a0m x0.parts.length c0m) := HH94.out.cell (w29.heap.size, [.slice a0m x0.parts.length c0m]) List.mem_cons_self 0 (by simp)
  have q1 : w92.cell? ⟨w.heap.size, 0, none⟩ = some (.slice a0 x0.parts.length c0) := HH94.out.cell (w.heap.size, [.slice a0 x0.parts.length c0]) (List.mem_cons_of_mem _ List.mem_cons_self) 0 (by simp)
  go_wp2_with fail
  refine (eqIntS_l R aG aW cG cW _ R95.out R96.out (by have := HRw.out; omega)).mono ?_
  rintro e w98 ⟨rfl, B97⟩
  clear q0 q1
  clear R95 R96
  have HH99 : Hid (Holds w w98 [(w29.heap.size, [.slice a0m x0.parts.length c0m]), (w.heap.size, [.slice a0 x0.parts.length c0])] [([.slice aG R.length cG], [slD Lay.int R]), ([.slice aW R.length cW], [slD Lay.int R])]) := HH94.out.later B97
  clear HH94
  clear B97
  have hcR := cntIntS_le R
  have hcR2 : 1 + cntIntS R ≤ 4000000 := by have := HRw.out; omega
  obtain ⟨T100, hcT100, htT100⟩ := Holds.turn (P := []) (x := ([.slice aG R.length cG], [slD Lay.int R])) (Q := [([.slice aW R.length cW], [slD Lay.int R])]) HH99.out
  have q0 : w98.cell? ⟨w29.heap.size, 0, none⟩ = some (.slice a0m x0.parts.length c0m) := HH99.out.cell (w29.heap.size, [.slice a0m x0.parts.length c0m]) List.mem_cons_self 0 (by simp)
  have q1 : w98.cell? ⟨w.heap.size, 0, none⟩ = some (.slice a0 x0.parts.length c0) := HH99.out.cell (w.heap.size, [.slice a0 x0.parts.length c0]) (List.mem_cons_of_mem _ List.mem_cons_self) 0 (by simp)
  have HTT100 : Hid (∀ w' ds, Cells w' w.heap.size [.slice aG R.length cG] ds T100 → Within w98 w' T100 → Holds w w' [(w29.heap.size, [.slice a0m x0.parts.length c0m]), (w.heap.size, [.slice a0 x0.parts.length c0])] ([] ++ ([.slice aG R.length cG], ds) :: [([.slice aW R.length cW], [slD Lay.int R])])) := htT100
  clear htT100
  go_wp2_with fail
  refine (markIntS_c R _ _ _ 1 _ hcT100 (by have := HRw.out; omega)).mono ?_
  rintro e w101 ⟨rfl, hxT100, hwT100⟩
  have HH102 : Hid (Holds w w101 [(w29.heap.size, [.slice a0m x0.parts.length c0m]), (w.heap.size, [.slice a0 x0.parts.length c0])] [([.slice aG R.length cG], [slD Lay.int (mkIntS 1 R)]), ([.slice aW R.length cW], [slD Lay.int R])]) := HTT100.out _ _ hxT100 hwT100
  clear HH99
  clear q0 q1 HTT100 hxT100 hwT100 hcT100
  obtain ⟨m, Hm⟩ : ∃ m, Hid (1 + cntIntS R = m) := ⟨_, rfl⟩
  have hm : m ≤ 4000000 := by rw [← Hm.out]; exact hcR2
  rw [Hm.out]
  clear hcR hcR2
  have R103 : Hid (RD w101 (.slice aG R.length cG) (slD Lay.int (mkIntS 1 R))) := HH102.out.rd ([.slice aG R.length cG], [slD Lay.int (mkIntS 1 R)]) List.mem_cons_self 0 (by simp) (by simp)
  have XH : Hid (Calls Tryd.prog 14 #[.slice aG R.length cG, .int .i64 1] w101 fun e w' => e = .returned (.int .i64 (m : Int)) ∧ Below (w101).heap.size w101 w') := by have := heldIntS_l R aG R.length cG 1 w101 R103.out (by have := HRw.out; omega); rw [Hm.out] at this; exact this
  clear R103
  have q0 : w101.cell? ⟨w29.heap.size, 0, none⟩ = some (.slice a0m x0.parts.length c0m) := HH102.out.cell (w29.heap.size, [.slice a0m x0.parts.length c0m]) List.mem_cons_self 0 (by simp)
  have q1 : w101.cell? ⟨w.heap.size, 0, none⟩ = some (.slice a0 x0.parts.length c0) := HH102.out.cell (w.heap.size, [.slice a0 x0.parts.length c0]) (List.mem_cons_of_mem _ List.mem_cons_self) 0 (by simp)
  go_wp2_with fail
  refine (XH.out).mono ?_
  rintro e w105 ⟨rfl, B104⟩
  clear q0 q1
  clear XH
  have HH106 : Hid (Holds w w105 [(w29.heap.size, [.slice a0m x0.parts.length c0m]), (w.heap.size, [.slice a0 x0.parts.length c0])] [([.slice aG R.length cG], [slD Lay.int (mkIntS 1 R)]), ([.slice aW R.length cW], [slD Lay.int R])]) := HH102.out.later B104
  clear HH102
  clear B104
  have q0 : w105.cell? ⟨w29.heap.size, 0, none⟩ = some (.slice a0m x0.parts.length c0m) := HH106.out.cell (w29.heap.size, [.slice a0m x0.parts.length c0m]) List.mem_cons_self 0 (by simp)
  have q1 : w105.cell? ⟨w.heap.size, 0, none⟩ = some (.slice a0 x0.parts.length c0) := HH106.out.cell (w.heap.size, [.slice a0 x0.parts.length c0]) (List.mem_cons_of_mem _ List.mem_cons_self) 0 (by simp)
  go_wp2_with fail
  refine (toGram_l x0 a0 c0 _ (H0.out.later HH106.out.below) (by have := HW0.out; omega)).mono ?_
  rintro e w109 ⟨a0h, c0h, S0h, rfl, O108, B107⟩
  clear q0 q1
  have HH110 : Hid (Holds w w109 [(w29.heap.size, [.slice a0m x0.parts.length c0m]), (w.heap.size, [.slice a0 x0.parts.length c0])] [([.slice a0h x0.parts.length c0h], Lay.gram.cells x0), ([.slice aG R.length cG], [slD Lay.int (mkIntS 1 R)]), ([.slice aW R.length cW], [slD Lay.int R])]) := HH106.out.push B107 O108
  clear HH106
  clear B107 O108
  have q0 : w109.cell? ⟨w29.heap.size, 0, none⟩ = some (.slice a0m x0.parts.length c0m) := HH110.out.cell (w29.heap.size, [.slice a0m x0.parts.length c0m]) List.mem_cons_self 0 (by simp)
  have q1 : w109.cell? ⟨w.heap.size, 0, none⟩ = some (.slice a0 x0.parts.length c0) := HH110.out.cell (w.heap.size, [.slice a0 x0.parts.length c0]) (List.mem_cons_of_mem _ List.mem_cons_self) 0 (by simp)
  go_wp2_with fail
  refine (toIntS_l z2 a2 c2 _ (H2.out.later HH110.out.below) (by rw [Lay.wt_ints]; omega)).mono ?_
  rintro e w113 ⟨v2h, S2h, rfl, O112o, B111⟩
  clear q0 q1
  obtain ⟨a2h, c2h, rfl, _⟩ := OD.shapeL O112o
  have O112 := Cells.one O112o
  clear O112o
  have HH114 : Hid (Holds w w113 [(w29.heap.size, [.slice a0m x0.parts.length c0m]), (w.heap.size, [.slice a0 x0.parts.length c0])] [([.slice a2h z2.length c2h], [slD Lay.int z2]), ([.slice a0h x0.parts.length c0h], Lay.gram.cells x0), ([.slice aG R.length cG], [slD Lay.int (mkIntS 1 R)]), ([.slice aW R.length cW], [slD Lay.int R])]) := HH110.out.push B111 O112
  clear HH110
  clear B111 O112
  have q0 : w113.cell? ⟨w29.heap.size, 0, none⟩ = some (.slice a0m x0.parts.length c0m) := HH114.out.cell (w29.heap.size, [.slice a0m x0.parts.length c0m]) List.mem_cons_self 0 (by simp)
  have q1 : w113.cell? ⟨w.heap.size, 0, none⟩ = some (.slice a0 x0.parts.length c0) := HH114.out.cell (w.heap.size, [.slice a0 x0.parts.length c0]) (List.mem_cons_of_mem _ List.mem_cons_self) 0 (by simp)
  go_wp2_with fail
  refine (toIntS_l z3 a3 c3 _ (H3.out.later HH114.out.below) (by rw [Lay.wt_ints]; omega)).mono ?_
  rintro e w117 ⟨v3h, S3h, rfl, O116o, B115⟩
  clear q0 q1
  obtain ⟨a3h, c3h, rfl, _⟩ := OD.shapeL O116o
  have O116 := Cells.one O116o
  clear O116o
  have HH118 : Hid (Holds w w117 [(w29.heap.size, [.slice a0m x0.parts.length c0m]), (w.heap.size, [.slice a0 x0.parts.length c0])] [([.slice a3h z3.length c3h], [slD Lay.int z3]), ([.slice a2h z2.length c2h], [slD Lay.int z2]), ([.slice a0h x0.parts.length c0h], Lay.gram.cells x0), ([.slice aG R.length cG], [slD Lay.int (mkIntS 1 R)]), ([.slice aW R.length cW], [slD Lay.int R])]) := HH114.out.push B115 O116
  clear HH114
  clear B115 O116
  have R119 : Hid (RD w117 (.slice a0h x0.parts.length c0h) (slD (Lay.list (Lay.list Lay.int)) x0.parts)) := HH118.out.rd ([.slice a0h x0.parts.length c0h], Lay.gram.cells x0) (List.mem_cons_of_mem _ (List.mem_cons_of_mem _ List.mem_cons_self)) 0 (by simp) (by simp [Lay.gram])
  have R120 : Hid (RD w117 (.slice a2h z2.length c2h) (slD Lay.int z2)) := HH118.out.rd ([.slice a2h z2.length c2h], [slD Lay.int z2]) (List.mem_cons_of_mem _ List.mem_cons_self) 0 (by simp) (by simp)
  have R121 : Hid (RD w117 (.slice a3h z3.length c3h) (slD Lay.int z3)) := HH118.out.rd ([.slice a3h z3.length c3h], [slD Lay.int z3]) List.mem_cons_self 0 (by simp) (by simp)
  have q0 : w117.cell? ⟨w29.heap.size, 0, none⟩ = some (.slice a0m x0.parts.length c0m) := HH118.out.cell (w29.heap.size, [.slice a0m x0.parts.length c0m]) List.mem_cons_self 0 (by simp)
  have q1 : w117.cell? ⟨w.heap.size, 0, none⟩ = some (.slice a0 x0.parts.length c0) := HH118.out.cell (w.heap.size, [.slice a0 x0.parts.length c0]) (List.mem_cons_of_mem _ List.mem_cons_self) 0 (by simp)
  go_wp2_with fail
  refine (sure_any x0 a0h c0h n1 z2 a2h c2h z3 a3h c3h n4 _ R119.out R120.out R121.out (by have := HW0.out; omega) HF0.out wf1 (by omega) HF2.out (by omega) HF3.out wf4 (HT.out.later HH118.out.below)).mono ?_
  rintro e w124 ⟨vH, SH, rfl, O123o, B122⟩
  clear q0 q1
  rw [HRe.out] at O123o
  obtain ⟨aH, cH, rfl, _⟩ := OD.shapeL O123o
  have O123 := Cells.one O123o
  clear O123o
  have HH125 : Hid (Holds w w124 [(w29.heap.size, [.slice a0m x0.parts.length c0m]), (w.heap.size, [.slice a0 x0.parts.length c0])] [([.slice aH R.length cH], [slD Lay.int R]), ([.slice a3h z3.length c3h], [slD Lay.int z3]), ([.slice a2h z2.length c2h], [slD Lay.int z2]), ([.slice a0h x0.parts.length c0h], Lay.gram.cells x0), ([.slice aG R.length cG], [slD Lay.int (mkIntS 1 R)]), ([.slice aW R.length cW], [slD Lay.int R])]) := HH118.out.push B122 O123
  clear HH118
  clear B122 O123
  clear R119 R120 R121
  have HH126 : Hid (Holds w w124 [(w29.heap.size, [.slice a0m x0.parts.length c0m]), (w.heap.size, [.slice a0 x0.parts.length c0])] [([.slice aH R.length cH], [slD Lay.int R]), ([.slice a3h z3.length c3h], [slD Lay.int z3]), ([.slice a2h z2.length c2h], [slD Lay.int z2]), ([.slice aG R.length cG], [slD Lay.int (mkIntS 1 R)]), ([.slice aW R.length cW], [slD Lay.int R])]) := Holds.drop (P := [([.slice aH R.length cH], [slD Lay.int R]), ([.slice a3h z3.length c3h], [slD Lay.int z3]), ([.slice a2h z2.length c2h], [slD Lay.int z2])]) (x := ([.slice a0h x0.parts.length c0h], Lay.gram.cells x0)) (Q := [([.slice aG R.length cG], [slD Lay.int (mkIntS 1 R)]), ([.slice aW R.length cW], [slD Lay.int R])]) HH125.out
  clear HH125
  have HH127 : Hid (Holds w w124 [(w29.heap.size, [.slice a0m x0.parts.length c0m]), (w.heap.size, [.slice a0 x0.parts.length c0])] [([.slice aH R.length cH], [slD Lay.int R]), ([.slice a3h z3.length c3h], [slD Lay.int z3]), ([.slice aG R.length cG], [slD Lay.int (mkIntS 1 R)]), ([.slice aW R.length cW], [slD Lay.int R])]) := Holds.drop (P := [([.slice aH R.length cH], [slD Lay.int R]), ([.slice a3h z3.length c3h], [slD Lay.int z3])]) (x := ([.slice a2h z2.length c2h], [slD Lay.int z2])) (Q := [([.slice aG R.length cG], [slD Lay.int (mkIntS 1 R)]), ([.slice aW R.length cW], [slD Lay.int R])]) HH126.out
  clear HH126
  have HH128 : Hid (Holds w w124 [(w29.heap.size, [.slice a0m x0.parts.length c0m]), (w.heap.size, [.slice a0 x0.parts.length c0])] [([.slice aH R.length cH], [slD Lay.int R]), ([.slice aG R.length cG], [slD Lay.int (mkIntS 1 R)]), ([.slice aW R.length cW], [slD Lay.int R])]) := Holds.drop (P := [([.slice aH R.length cH], [slD Lay.int R])]) (x := ([.slice a3h z3.length c3h], [slD Lay.int z3])) (Q := [([.slice aG R.length cG], [slD Lay.int (mkIntS 1 R)]), ([.slice aW R.length cW], [slD Lay.int R])]) HH127.out
  clear HH127
  have R129 : Hid (RD w124 (.slice aH R.length cH) (slD Lay.int R)) := HH128.out.rd ([.slice aH R.length cH], [slD Lay.int R]) List.mem_cons_self 0 (by simp) (by simp)
  have R130 : Hid (RD w124 (.slice aW R.length cW) (slD Lay.int R)) := HH128.out.rd ([.slice aW R.length cW], [slD Lay.int R]) (List.mem_cons_of_mem _ (List.mem_cons_of_mem _ List.mem_cons_self)) 0 (by simp) (by simp)
  have q0 : w124.cell? ⟨w29.heap.size, 0, none⟩ = some (.slice a0m x0.parts.length c0m) := HH128.out.cell (w29.heap.size, [.slice a0m x0.parts.length c0m]) List.mem_cons_self 0 (by simp)
  have q1 : w124.cell? ⟨w.heap.size, 0, none⟩ = some (.slice a0 x0.parts.length c0) := HH128.out.cell (w.heap.size, [.slice a0 x0.parts.length c0]) (List.mem_cons_of_mem _ List.mem_cons_self) 0 (by simp)
  go_wp2_with fail
  refine (eqIntS_l R aH aW cH cW _ R129.out R130.out (by have := HRw.out; omega)).mono ?_
  rintro e w132 ⟨rfl, B131⟩
  clear q0 q1
  clear R129 R130
  have HH133 : Hid (Holds w w132 [(w29.heap.size, [.slice a0m x0.parts.length c0m]), (w.heap.size, [.slice a0 x0.parts.length c0])] [([.slice aH R.length cH], [slD Lay.int R]), ([.slice aG R.length cG], [slD Lay.int (mkIntS 1 R)]), ([.slice aW R.length cW], [slD Lay.int R])]) := HH128.out.later B131
  clear HH128
  clear B131
  have R134 : Hid (RD w132 (.slice aG R.length cG) (slD Lay.int (mkIntS 1 R))) := HH133.out.rd ([.slice aG R.length cG], [slD Lay.int (mkIntS 1 R)]) (List.mem_cons_of_mem _ List.mem_cons_self) 0 (by simp) (by simp)
  have XH : Hid (Calls Tryd.prog 14 #[.slice aG R.length cG, .int .i64 1] w132 fun e w' => e = .returned (.int .i64 (m : Int)) ∧ Below (w132).heap.size w132 w') := by have := heldIntS_l R aG R.length cG 1 w132 R134.out (by have := HRw.out; omega); rw [Hm.out] at this; exact this
  clear R134
  have q0 : w132.cell? ⟨w29.heap.size, 0, none⟩ = some (.slice a0m x0.parts.length c0m) := HH133.out.cell (w29.heap.size, [.slice a0m x0.parts.length c0m]) List.mem_cons_self 0 (by simp)
  have q1 : w132.cell? ⟨w.heap.size, 0, none⟩ = some (.slice a0 x0.parts.length c0) := HH133.out.cell (w.heap.size, [.slice a0 x0.parts.length c0]) (List.mem_cons_of_mem _ List.mem_cons_self) 0 (by simp)
  go_wp2_with fail
  refine (XH.out).mono ?_
  rintro e w136 ⟨rfl, B135⟩
  clear q0 q1
  clear XH
  have HH137 : Hid (Holds w w136 [(w29.heap.size, [.slice a0m x0.parts.length c0m]), (w.heap.size, [.slice a0 x0.parts.length c0])] [([.slice aH R.length cH], [slD Lay.int R]), ([.slice aG R.length cG], [slD Lay.int (mkIntS 1 R)]), ([.slice aW R.length cW], [slD Lay.int R])]) := HH133.out.later B135
  clear HH133
  clear B135
  go_wp2
  go_ret
  exact ⟨rfl, HH137.out.below⟩
end Go.Proofs.YthnppodnjokaoaaDoor
