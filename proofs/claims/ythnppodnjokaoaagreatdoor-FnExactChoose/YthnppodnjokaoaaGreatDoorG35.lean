/-
  Contracts and plain mathematics, joined: TrFars, FarsOf. No statement is proved here.
-/
import Derived.Test.YthnppodnjokaoaaGreatDoorG26
import Derived.Test.YthnppodnjokaoaaGreatDoorG7
import Derived.Test.YthnppodnjokaoaaGreatDoorG34
import Derived.Test.YthnppodnjokaoaaGreatDoorG30
import Derived.Test.YthnppodnjokaoaaGreatDoorG4
import Derived.Test.YthnppodnjokaoaaGreatDoorG25
namespace Go.Proofs.YthnppodnjokaoaaGreatDoor
open Go.RowKit

theorem within_grown8 {w w' : World} {b : Nat} (h : Within w w' (fun k => k = b)) : w.grownBy w' (some b) := ⟨h.os, h.tape, h.output, h.size, fun k hk hne => h.block k hk (fun e => hne (by rw [e]))⟩
/-- The Fars of a part's alternatives; none, where one of them has too much behind it. -/
def farsT (P : List (List (List Int))) (k : Nat) (rest ws : List Int) (i : Nat) : List Int := if altsKnown P k rest = true then altFars P k rest ws i else []
theorem farsT_all {P : List (List (List Int))} {k : Nat} {rest ws : List Int} {i : Nat} (hk : k < P.length) (h : ∀ a (ha : a < P[k].length), knownB P.length (P[k][a] ++ rest) = true) : farsT P k rest ws i = altFars P k rest ws i := by
  have h3 : altsKnown P k rest = true := by
    unfold altsKnown
    have e : P.getD k [] = P[k] := by simp [List.getD, hk]
    rw [e, List.all_eq_true]
    intro y hy
    obtain ⟨a, ha, rfl⟩ := List.getElem_of_mem hy
    exact h a ha
  rw [farsT, if_pos h3]
theorem farsT_row {P : List (List (List Int))} {k : Nat} {rest ws : List Int} {i : Nat} (hk : k < P.length) {a : Nat} (ha : a < P[k].length) (h : knownB P.length (P[k][a] ++ rest) = false) : farsT P k rest ws i = [] := by
  have h3 : ¬ altsKnown P k rest = true := by
    unfold altsKnown
    have e : P.getD k [] = P[k] := by simp [List.getD, hk]
    rw [e]
    intro hall
    have := List.all_eq_true.1 hall P[k][a] (List.getElem_mem ha)
    rw [h] at this
    cases this
  rw [farsT, if_neg h3]
theorem Reads.withinT {w w' : World} {a : Option Addr} {zs : List Int} {T : Nat → Prop} (h : Reads w a zs) (hw : Within w w' T) (hb : ∀ b off, zs ≠ [] → a = some ⟨b, off, none⟩ → ¬ T b) : Reads w' a zs := by
  by_cases h0 : zs = []
  · exact .inl h0
  · rcases h with h | ⟨b, off, rfl, hlt, hc⟩
    · exact absurd h h0
    · exact .inr ⟨b, off, rfl, Nat.lt_of_lt_of_le hlt hw.size, fun i hi => by
        rw [← hc i hi]
        exact World.cell?_of_block (a := ⟨b, off + i, none⟩) (hw.block b hlt (hb b off h0 rfl))⟩

section
variable {P : List (List (List Int))} {ws : List Int} {w0 : World} {bT : Nat} {aP : Option Addr} {cP : Nat} {aw : Option Addr} {cw : Nat} {K : Nat → Prop}
set_option maxHeartbeats 8000000 in
set_option maxRecDepth 100000 in
theorem trFars_any (kn : Nat) (z2 : List Int) (a2 : Option Addr) (c2 i : Nat) (w : World) (hT : TrIn P ws w0 bT aP cP aw cw K w) (hws : Reads w0 aw ws) (hr : Reads w a2 z2) (hrb : ∀ b off, z2 ≠ [] → a2 = some ⟨b, off, none⟩ → b ≠ bT) (hl2 : z2.length ≤ 1048576) (hz2 : ∀ z ∈ z2, -9223372036854775808 ≤ z ∧ z ≤ 9223372036854775807) (hn : ws.length ≤ 10) (hi : i ≤ ws.length) (hok : gramOkB P = true) (hL : NoLoop P) (hP : RD w0 (.slice aP P.length cP) (slD (Lay.list (Lay.list Lay.int)) P)) (hkn : kn < P.length) :
    Calls Tryz.prog 30 #[.pointer (some ⟨bT, 0, none⟩), .int .i64 (kn : Int), .slice a2 z2.length c2, .int .i64 (i : Int)] w fun e w' => ∃ v, e = .returned v ∧ OwnInts w' w.heap.size 3 v (farsT P kn z2 ws i) ∧ Hid (∃ K', TrIn P ws w0 bT aP cP aw cw K' w' ∧ (∀ b, K' b → K b ∨ w.heap.size ≤ b) ∧ ∀ b, v.ownBlock = some b → ¬ K' b) ∧ Within w w' (fun b => b = bT) := by
  have F := Fits.of hok
  have hp20 : P.length ≤ 20 := F.parts
  have HALL : Hid ((∀ a (ha : a < P[kn].length), knownB P.length (P[kn][a] ++ z2) = true) → farsT P kn z2 ws i = altFars P kn z2 ws i) := farsT_all hkn
  have HNO : Hid (∀ a (ha : a < P[kn].length), knownB P.length (P[kn][a] ++ z2) = false → farsT P kn z2 ws i = []) := fun a ha h => farsT_row hkn ha h
  have hp8 := F.alts _ (List.getElem_mem hkn)
  obtain ⟨b1, o1, rfl, hb1, a1, ca1, p1, q1⟩ := hP.listAt hkn
  have HR1 : Hid (RD w0 (.slice a1 P[kn].length ca1) (slD (Lay.list Lay.int) P[kn])) := q1
  have p1w := (hT.low.cell (p := ⟨b1, o1 + kn, none⟩) hb1).trans p1
  have HTK : Hid (∀ a (ha : a < P[kn].length), (altFars P kn z2 ws i).take (a + 1) = (altFars P kn z2 ws i).take a ++ [(farOf P (P[kn][a] ++ z2) ws i : Int)]) := fun a ha => altFars_take hkn ha z2 ws i
  have HLN : Hid ((altFars P kn z2 ws i).length = P[kn].length) := altFars_length hkn z2 ws i
  have HRE : Hid (∀ W, Within w W (fun b => b = bT) → Reads W a2 z2) := fun W hW => hr.withinT hW (fun b off h e => hrb b off h e)
  have HCG : Hid (∀ a (ha : a < P[kn].length) (ar : Option Addr) (cr : Nat) (W : World), Reads W ar (P[kn][a] ++ z2) → Calls Tryz.prog 44 #[.agg #[.slice (some ⟨b1, o1, none⟩) P.length cP], .slice ar (P[kn][a] ++ z2).length cr] W fun e w' => e = .returned (.bool (knownB P.length (P[kn][a] ++ z2))) ∧ Below W.heap.size W w') := fun a ha ar cr W h1 => canGo_any P.length _ cP _ ar cr W h1 (by omega) (by rw [List.length_append]; have := F.rows _ (List.getElem_mem hkn) _ (List.getElem_mem ha); omega) (fun z hz => by
    rcases List.mem_append.1 hz with hz | hz
    · have hs : symOk P.length z = true := by
        have := hok
        simp only [gramOkB, Bool.and_eq_true, List.all_eq_true, partOk, rowOk] at this
        exact (((this.2 _ (List.getElem_mem hkn)).2 _ (List.getElem_mem ha)).2) z hz
      have := symOk_true.1 hs
      omega
    · exact hz2 z hz)
  have HFR : Hid (∀ (row : List Int) (ar : Option Addr) (cr : Nat) (W : World) (K : Nat → Prop), TrIn P ws w0 bT (some ⟨b1, o1, none⟩) cP aw cw K W → Reads W ar row → (∀ b off, row ≠ [] → ar = some ⟨b, off, none⟩ → b ≠ bT) → knownB P.length row = true → Calls Tryz.prog 45 #[.pointer (some ⟨bT, 0, none⟩), .slice ar row.length cr, .int .i64 (i : Int)] W fun e w' => e = .returned (.int .i64 (farOf P row ws i : Int)) ∧ Hid (∃ K', TrIn P ws w0 bT (some ⟨b1, o1, none⟩) cP aw cw K' w' ∧ ∀ b, K' b → K b ∨ W.heap.size ≤ b) ∧ Within W w' (fun b => b = bT)) := fun row ar cr W K hT h1 hb hk =>
    trFar_any row ar cr i W hT hws h1 hb (by have := knownB_len hk; omega) hn hi (knownB_sym hk) hok hL hP
  have HR8 : Hid (∀ a (ha : a < P[kn].length), P[kn][a].length ≤ 8) := fun a ha => F.rows _ (List.getElem_mem hkn) _ (List.getElem_mem ha)
  have hkI : (kn : Int) < (P.length : Int) := by omega
  have hiI : (i : Int) ≤ 10 := by omega
  have HKB0 : Hid (∀ a (ha : a < P[kn].length), a < 0 → knownB P.length (P[kn][a] ++ z2) = true) := fun a _ h => by omega
  have qg0 := hT.c0
  have hbT := hT.lt
  have HT0 : Hid (TrIn P ws w0 bT (some ⟨b1, o1, none⟩) cP aw cw K w) := hT
  have HbT0 : Hid (w0.heap.size ≤ bT) := hT.lT
  clear hok F hr hrb hP hws hz2 q1 p1 hL hT
  generalize altFars P kn z2 ws i = L at *
  have HO0 : Hid (OwnInts w w.heap.size 3 (.slice none 0 0) (L.take 0)) := OwnInts.nil _ _ _
  go_enter Tryz.func30, Tryz.ntmps30
  go_wp2
  go_loopw [9, 22] (fun s12 s36 wr => ∃ (a : Nat) (vo : Value), a ≤ P[kn].length ∧ s36 = .int .i64 (a : Int) ∧ s12 = vo ∧ Hid (OwnInts wr w.heap.size 3 vo (L.take a)) ∧ Hid (Within w wr (fun b => b = bT)) ∧ Hid (∃ K', TrIn P ws w0 bT (some ⟨b1, o1, none⟩) cP aw cw K' wr ∧ (∀ b, K' b → K b ∨ w.heap.size ≤ b) ∧ ∀ b, vo.ownBlock = some b → ¬ K' b) ∧ Hid (∀ b (hb : b < P[kn].length), b < a → knownB P.length (P[kn][b] ++ z2) = true)) (fun _ s36 _ => P[kn].length - (intOf s36).toNat)
  case atStart => exact ⟨0, _, Nat.zero_le _, rfl, rfl, HO0, Within.refl _ _, ⟨K, HT0.out, fun _ h => .inl h, fun _ h => by simp [Value.ownBlock] at h⟩, HKB0⟩
  case round =>
    obtain ⟨a, vo, ha, rfl, hvo, HO, HBr, HTR, HKB⟩ := hrel
    replace hvo := hvo.symm
    subst hvo
    obtain ⟨wA, hwA⟩ : ∃ y, y = wr := ⟨_, rfl⟩
    subst hwA
    clear HO0 HKB0 HT0 qg0 p1w
    obtain ⟨K1, hT1, hK1, hK2⟩ := HTR.out
    have HT1 : Hid (TrIn P ws w0 bT (some ⟨b1, o1, none⟩) cP aw cw K1 wA) := hT1
    have HK1 : Hid (∀ b, vo.ownBlock = some b → ¬ K1 b) := hK2
    have HK1s : Hid (∀ b, K1 b → K b ∨ w.heap.size ≤ b) := hK1
    have hbTA := hT1.lt
    have qg := hT1.c0
    have hbw : Below w0.heap.size w0 wA := hT1.low
    have HBW : Hid (Below w0.heap.size w0 wA) := hbw
    have hszw := HBr.out.size
    have hsz0 := hbw.size
    clear hT1 hK1 hK2 HTR
    by_cases hlt : a < P[kn].length
    · obtain ⟨b2, o2, rfl, hb2, a5, c5, p2, q2⟩ := HR1.out.listAt hlt
      have p2a := (hbw.cell (p := ⟨b2, o2 + a, none⟩) hb2).trans p2
      have HRa : Hid (Reads w0 a5 P[kn][a]) := q2.reads
      have hl8 := HR8.out a hlt
      have HNa' : Hid (knownB P.length (P[kn][a] ++ z2) = false → farsT P kn z2 ws i = []) := HNO.out a hlt
      have HTa : Hid (L.take (a + 1) = L.take a ++ [(farOf P (P[kn][a] ++ z2) ws i : Int)]) := HTK.out a hlt
      have HKB2 : Hid (knownB P.length (P[kn][a] ++ z2) = true → ∀ b (hb : b < P[kn].length), b < a + 1 → knownB P.length (P[kn][b] ++ z2) = true) := fun h b hb hlt2 => by
        by_cases e : b = a
        · subst e; exact h
        · exact HKB.out b hb (by omega)
      have HCGa : Hid (∀ (ar : Option Addr) (cr : Nat) (W : World), Reads W ar (P[kn][a] ++ z2) → Calls Tryz.prog 44 #[.agg #[.slice (some ⟨b1, o1, none⟩) P.length cP], .slice ar (P[kn][a] ++ z2).length cr] W fun e w' => e = .returned (.bool (knownB P.length (P[kn][a] ++ z2))) ∧ Below W.heap.size W w') := HCG.out a hlt
      have haI : (a : Int) < (P[kn].length : Int) := by omega
      have hb2A : b2 < wA.heap.size := by omega
      have hLl : (L.take a).length ≤ 1048576 := by rw [List.length_take, HLN.out]; omega
      clear hbw p2 q2 HKB HALL HNO HTK HCG
      generalize P[kn][a] = alt at *
      have hBc : Below wA.heap.size wA (wA.alloc (.cells #[.slice a5 alt.length c5, .slice a2 z2.length c2] 25)) := (Below.refl _ _).alloc (Nat.le_refl _) _
      have X := concat_any wA.heap.size alt z2 a5 c5 a2 c2 (wA.alloc (.cells #[.slice a5 alt.length c5, .slice a2 z2.length c2] 25)) (by simp) (by simp) (HRa.out.below (HBW.out.trans (hBc.mono HBW.out.size))) ((HRE.out wA HBr.out).below hBc) (by omega) (by omega)
      go_wp2_with (go_at_call 43; refine X.mono ?_; rintro e w5 ⟨v5, rfl, hO5, hb5⟩; obtain ⟨a6, c6, rfl, hr6, _⟩ := hO5.shape; have qg6 := ((hBc.trans (hb5.mono hBc.size)).cell (p := ⟨bT, 0, none⟩) hbTA).trans qg)
      have hb6 : Below wA.heap.size wA w5 := hBc.trans (hb5.mono hBc.size)
      have hlo6 : ∀ b off, a6 = some ⟨b, off, none⟩ → b ≠ bT := fun b off e => by
        have h1 := (hO5.block b (by rw [e]; simp only [Value.ownBlock])).1
        simp at h1
        omega
      have HLO : Hid (∀ b off, a6 = some ⟨b, off, none⟩ → b ≠ bT) := hlo6
      have HR6 : Hid (Reads w5 a6 (alt ++ z2)) := hr6
      have HB6 : Hid (Within w w5 (fun b => b = bT)) := HBr.out.trans (Within.of_below hb6 _) 
      have HOut6 : Hid (OwnInts w5 w.heap.size 3 vo (L.take a)) := HO.out.below hb6
      have HT6 : Hid (TrIn P ws w0 bT (some ⟨b1, o1, none⟩) cP aw cw K1 w5) := HT1.out.later hb6
      have HOB : Hid (∀ b, vo.ownBlock = some b → w.heap.size ≤ b ∧ b < w5.heap.size) := HOut6.out.block
      have Y := HCGa.out a6 c6 w5 hr6
      have HFR6 : Hid (knownB P.length (alt ++ z2) = true → ∀ W, Below w5.heap.size w5 W → Calls Tryz.prog 45 #[.pointer (some ⟨bT, 0, none⟩), .slice a6 (alt ++ z2).length c6, .int .i64 (i : Int)] W fun e w' => e = .returned (.int .i64 (farOf P (alt ++ z2) ws i : Int)) ∧ Hid (∃ K', TrIn P ws w0 bT (some ⟨b1, o1, none⟩) cP aw cw K' w' ∧ ∀ b, K' b → K1 b ∨ W.heap.size ≤ b) ∧ Within W w' (fun b => b = bT)) := fun hk W hW => HFR.out (alt ++ z2) a6 c6 W K1 (HT6.out.later hW) (HR6.out.below hW) (fun b off _ e => HLO.out b off e) hk
      have hs56 := hb6.size
      clear hO5 hb5 hb6 hr6 hlo6 X HFR HCGa HRa HO HT1 HR6 HLO qg p2a hBc HRE HBr
      generalize farOf P (alt ++ z2) ws i = fo at *
      rw [List.length_append] at Y HFR6
      cases hkb : knownB P.length (alt ++ z2)
      · rw [hkb] at Y
        have E : Hid (farsT P kn z2 ws i = []) := HNa'.out hkb
        clear HFR6 HKB2 HTa HNa' hkb
        go_wp2_with (go_at_call 44; refine Y.mono ?_; rintro e w7 ⟨rfl, hb7⟩)
        go_ret
        exact ⟨_, rfl, by rw [E.out]; exact OwnInts.nil _ _ _, ⟨K1, HT6.out.later hb7, HK1s.out, fun b h => by simp [Value.ownBlock] at h⟩, HB6.out.trans (Within.of_below hb7 _)⟩
      · rw [hkb] at Y
        have HG7h : Hid (∀ W, Below w5.heap.size w5 W → Calls Tryz.prog 45 #[.pointer (some ⟨bT, 0, none⟩), .slice a6 (alt.length + z2.length) c6, .int .i64 (i : Int)] W fun e w' => e = .returned (.int .i64 (fo : Int)) ∧ Hid (∃ K', TrIn P ws w0 bT (some ⟨b1, o1, none⟩) cP aw cw K' w' ∧ ∀ b, K' b → K1 b ∨ W.heap.size ≤ b) ∧ Within W w' (fun b => b = bT)) := HFR6.out hkb
        have HK2h : Hid (∀ b (hb : b < P[kn].length), b < a + 1 → knownB P.length (P[kn][b] ++ z2) = true) := HKB2.out hkb
        clear HFR6 HKB2 HNa' hkb
        go_wp2_with (first
          | (go_at_call 44; refine Y.mono ?_; rintro e w7 ⟨rfl, hb7⟩)
          | (go_at_call 45; refine (HG7h.out w7 hb7).mono ?_; rintro e w8 ⟨rfl, HK8, hW8⟩; have hO8 : OwnInts w8 w.heap.size 3 vo (L.take a) := (HOut6.out.below hb7).kept (within_grown8 hW8) (by cases e : vo.ownBlock with | none => exact .inl rfl | some g => exact .inr (fun e2 => by have := (HOB.out g e).1; have := Option.some.inj e2; omega)))
          | (at_builtin; refine wpList_append_ints1 _ rfl (.tmp 37) (.tmp 42) 25 rfl w.heap.size 3 Tryz.underlying25 Tryz.infoInt _ _ rfl (hO8.alloc _) _ _ _ [(fo : Int)] (by simp) rfl rfl (Reads.new _ _ _) (by simp; omega) (by have := hb7.size; have := hW8.size; simp; omega) ?_))
        intro v9 w9 hO9 hg9 hat9
        obtain ⟨K2, hT8, hK2⟩ := HK8.out
        have hs78 := hW8.size
        have hs57 := hb7.size
        have HO9 : Hid (OwnInts w9 w.heap.size 3 v9 (L.take (a + 1))) := by show OwnInts _ _ _ _ _; rw [HTa.out]; exact hO9
        have hW8' : Within w w8 (fun b => b = bT) := (HB6.out.trans (Within.of_below hb7 _)).trans hW8
        have hnK : ∀ b, vo.ownBlock = some b → ¬ K2 b := fun b e h => by
          rcases hK2 b h with h | h
          · exact HK1.out b e h
          · have := (HOB.out b e).2; omega
        have hWn : Within (w8.alloc (.cells #[.int .i64 (fo : Int)] 3)) w9 (fun b => vo.ownBlock = some b) := Within.of_grown hg9 (fun k e => e)
        have HB9 : Hid (Within w w9 (fun b => b = bT)) := (hW8'.trans (Within.of_below ((Below.refl _ _).alloc (Nat.le_refl _) _) _)).comp hWn (fun b e => .inr (HOB.out b e).1)
        have HT9 : Hid (∃ K', TrIn P ws w0 bT (some ⟨b1, o1, none⟩) cP aw cw K' w9 ∧ (∀ b, K' b → K b ∨ w.heap.size ≤ b) ∧ ∀ b, v9.ownBlock = some b → ¬ K' b) := ⟨K2, (hT8.later ((Below.refl _ _).alloc (Nat.le_refl _) _)).kept hWn (fun b e => ⟨by have := (HOB.out b e).1; have := HbT0.out; omega, by have := (HOB.out b e).1; omega, hnK b e⟩), fun b h => by
            rcases hK2 b h with h | h
            · exact HK1s.out b h
            · right; omega, fun b e h => by
          rcases hat9 b e with e | e
          · exact hnK b e h
          · have := (hT8.kb b h).2.2
            first
              | omega
              | (simp at e; omega)⟩
        clear hO9 hg9 hat9 hT8 hK2 hW8' hnK hWn hO8 hW8 hb7 Y HG7h HTa HOut6 HK8
        go_wp2
        go_roundw
        case rel => exact ⟨a + 1, v9, by omega, by go_num, rfl, HO9, HB9, HT9, HK2h⟩
        case measure => simp [intOf]; omega
    · have e : a = P[kn].length := by omega
      have E : Hid (farsT P kn z2 ws i = L) := HALL.out (fun b hb => HKB.out b hb (by omega))
      have HOL : Hid (OwnInts wA w.heap.size 3 vo L) := by
        have := HO.out
        rw [e, List.take_of_length_le (by rw [HLN.out]; omega)] at this
        exact this
      clear HALL HNO HKB HTK
      go_wp2
      go_ret
      exact ⟨_, rfl, by rw [E.out]; exact HOL.out, ⟨K1, HT1.out, HK1s.out, HK1.out⟩, HBr.out⟩
end
end Go.Proofs.YthnppodnjokaoaaGreatDoor
namespace Go.Proofs.YthnppodnjokaoaaGreatDoor
open Go.RowKit

set_option maxHeartbeats 8000000 in
set_option maxRecDepth 100000 in
theorem farsOf_any (x : Gm) (a0 : Option Addr) (c0 : Nat) (k : Int) (z2 : List Int) (a2 : Option Addr) (c2 : Nat) (z3 : List Int) (a3 : Option Addr) (c3 : Nat) (n : Int) (w : World) (h0 : RD w (.slice a0 x.parts.length c0) (slD (Lay.list (Lay.list Lay.int)) x.parts)) (h2 : RD w (.slice a2 z2.length c2) (slD Lay.int z2)) (h3 : RD w (.slice a3 z3.length c3) (slD Lay.int z3)) (hn : Lay.gram.wt x ≤ 1048576) (hf : Lay.gram.fit x) (wfk : (Lit.int .i64 k).wf = true) (hl2 : z2.length ≤ 1048576) (hz2 : (Lay.list Lay.int).fit z2) (hl3 : z3.length ≤ 1048576) (hz3 : (Lay.list Lay.int).fit z3) (wfn : (Lit.int .i64 n).wf = true) (hE : ErrsIs w) :
    Calls Tryz.prog 17 #[.agg #[.slice a0 x.parts.length c0], .int .i64 k, .slice a2 z2.length c2, .slice a3 z3.length c3, .int .i64 n] w fun e w' => ∃ v, e = .returned v ∧ OwnInts w' w.heap.size 3 v (farsL x k z2 z3 n) ∧ Below w.heap.size w w' := by
  have BG : Below w.heap.size w (w.alloc (.cells #[.slice a0 x.parts.length c0] 29)) := (Below.refl w.heap.size w).alloc (Nat.le_refl _) _
  have hGs : w.heap.size < (w.alloc (.cells #[.slice a0 x.parts.length c0] 29)).heap.size := by simp
  have qG : (w.alloc (.cells #[.slice a0 x.parts.length c0] 29)).cell? ⟨w.heap.size, 0, none⟩ = some (.slice a0 x.parts.length c0) := by simp
  have HK : Hid (∀ W : World, Below w.heap.size w W → Calls Tryz.prog 28 #[.agg #[.slice a0 x.parts.length c0], .slice a3 z3.length c3, .int .i64 n] W fun e w' => e = .returned (.bool (rightAt x z3 n)) ∧ Below W.heap.size W w') := fun W hW => canBeAskedAt_any x a0 c0 z3 a3 c3 n W (h0.later hW) (h3.later hW) hn hf hl3 hz3 wfn (hE.later hW)
  have HT : Hid (∀ W : World, Below w.heap.size w W → Calls Tryz.prog 29 #[.agg #[.slice a0 x.parts.length c0], .int .i64 k] W fun e w' => e = .returned (.bool (gramOkB x.parts && inB k 0 (x.parts.length - 1))) ∧ Below W.heap.size W w') := fun W hW => isThere_any x a0 c0 k W (h0.later hW) hn hf wfk
  obtain ⟨wG, hwG⟩ : ∃ wG, wG = w.alloc (.cells #[.slice a0 x.parts.length c0] 29) := ⟨_, rfl⟩
  rw [← hwG] at BG hGs qG
  have HBG : Hid (Below w.heap.size w wG) := BG
  have HQ : Hid (∀ W, Below wG.heap.size wG W → W.cell? ⟨w.heap.size, 0, none⟩ = some (.slice a0 x.parts.length c0)) := fun W hW => (hW.cell (p := ⟨w.heap.size, 0, none⟩) hGs).trans qG
  have HBR : Hid (Below wG.heap.size wG wG) := Below.refl _ _
  by_cases hr : rightAt x z3 n = true
  · rw [hr] at HK
    obtain ⟨r1, r2, r3, r4⟩ := rightAt_yes hr
    have hok := (resCheck_ok r1).1
    have F := Fits.of hok
    have hp20 : x.parts.length ≤ 20 := F.parts
    rw [hok, Bool.true_and] at HT
    by_cases hk : inB k 0 (x.parts.length - 1) = true
    · obtain ⟨k1, k2⟩ := inB_true.1 hk
      rw [hk] at HT
      obtain ⟨kn, rfl⟩ : ∃ m : Nat, k = m := ⟨k.toNat, by omega⟩
      have hkn : kn < x.parts.length := by omega
      have E : Hid (farsL x (kn : Int) z2 z3 n = farsT x.parts kn z2 z3 n.toNat) := by
        show _ = _
        have h2 : inB (kn : Int) 0 (x.parts.length - 1) = true := by rw [inB_true]; omega
        unfold farsL farsT
        rw [hr, h2, Int.toNat_natCast]
        rfl
      obtain ⟨i, rfl⟩ : ∃ i : Nat, n = i := ⟨n.toNat, by omega⟩
      rw [Int.toNat_natCast] at E
      have hl10 := inputOkB_len r2
      have HTF : Hid (∀ (W : World) (bT : Nat), TrIn x.parts z3 w bT a0 c0 a3 c3 (fun _ => False) W → Calls Tryz.prog 30 #[.pointer (some ⟨bT, 0, none⟩), .int .i64 (kn : Int), .slice a2 z2.length c2, .int .i64 (i : Int)] W fun e w' => ∃ v, e = .returned v ∧ OwnInts w' W.heap.size 3 v (farsT x.parts kn z2 z3 i) ∧ Hid (∃ K', TrIn x.parts z3 w bT a0 c0 a3 c3 K' w' ∧ (∀ b, K' b → False ∨ W.heap.size ≤ b) ∧ ∀ b, v.ownBlock = some b → ¬ K' b) ∧ Within W w' (fun b => b = bT)) := fun W bT hT =>
        trFars_any kn z2 a2 c2 i W hT h3.reads (h2.reads.below hT.low) (fun b off hne e => by
          rcases h2.reads with h | ⟨b', off', e', hb', _⟩
          · exact absurd h hne
          · rw [e'] at e; cases e; have := hT.lT; omega) hl2 (fun z hz => fit_ints hz2 z hz) hl10 (by omega) hok (resCheck_ok r1).2 h0 hkn
      have HTRN : Hid (∀ (w2 w4 : World), Below wG.heap.size wG w2 → Below w2.heap.size w2 w4 → Vals w4 w2.heap.size 55 (trV (.slice a0 x.parts.length c0) (.slice a3 z3.length c3)) → TrIn x.parts z3 w w2.heap.size a0 c0 a3 c3 (fun _ => False) w4) := fun w2 w4 h1 h2 hV => by
        have hb2 : Below w.heap.size w w2 := BG.trans (h1.mono BG.size)
        exact TrIn.new hV (hb2.trans (h2.mono hb2.size)) hb2.size hp20 hl10
      clear hok F h0 h2 h3 hn hf hz2 hz3 wfk wfn hE hr hk r1 r2
      rw [E.out]
      generalize farsT x.parts kn z2 z3 i = L at *
      go_enter Tryz.func17, Tryz.ntmps17
      go_wp2_with (first
        | (go_at_call 28; rw [← hwG]; refine (HK.out _ HBG.out).mono ?_; rintro e w1 ⟨rfl, hb1w⟩; have qg1 := HQ.out w1 hb1w)
        | (go_at_call 29; refine (HT.out _ (HBG.out.trans (hb1w.mono HBG.out.size))).mono ?_; rintro e w2 ⟨rfl, hb2w⟩; have hB2 : Below wG.heap.size wG w2 := hb1w.trans (hb2w.mono hb1w.size); have qg2 := HQ.out w2 hB2)
        | (refine wpList_tr rfl _ _ rfl a0 x.parts.length c0 a3 z3.length c3 rfl rfl ?_)
        | (refine wpList_allocV (w := w2) rfl 55 rfl _ rt_tr ?_; intro w3 hV3 hb3 hs3; clear hs3)
        | (refine wpList_storeV rfl 55 _ _ rfl w2.heap.size 0 55 _ (trV (.slice a0 x.parts.length c0) (.slice a3 z3.length c3)) _ rfl rfl rt_tr (by rw [trV_length, trV_length]) hV3 (by rw [trV_length, trV_length]; decide) (trV_ones rfl rfl) ?_; intro w4 hV4 hg4; rw [putV_whole (by rw [trV_length, trV_length])] at hV4; have hb4 : Below w2.heap.size w2 w4 := hb3.grown hg4 hb3.size (fun k e => by cases e; exact Nat.le_refl _); have hB4 : Below wG.heap.size wG w4 := hB2.trans (hb4.mono hB2.size); have HT4 : Hid (TrIn x.parts z3 w w2.heap.size a0 c0 a3 c3 (fun _ => False) w4) := HTRN.out w2 w4 hB2 hb4 hV4)
        | (go_at_call 30; refine (HTF.out w4 _ HT4.out).mono ?_; rintro e w5 ⟨v5, rfl, hO5, HK5, hW5⟩))
      go_ret
      have hBw4 : Below w.heap.size w w4 := HBG.out.trans (hB4.mono HBG.out.size)
      exact ⟨_, rfl, hO5.base hBw4.size, hW5.below hBw4 (fun b e => by rw [e]; exact HT4.out.lT)⟩
    · have hk' : inB k 0 (x.parts.length - 1) = false := by simpa using hk
      have E : Hid (farsL x k z2 z3 n = []) := farsL_part hk'
      rw [hk'] at HT
      clear h0 h2 h3 hn hf hz2 hz3 hr hk wfk wfn hE
      generalize farsL x k z2 z3 n = R at *
      go_enter Tryz.func17, Tryz.ntmps17
      go_wp2_with (first
        | (go_at_call 28; rw [← hwG]; refine (HK.out _ HBG.out).mono ?_; rintro e w1 ⟨rfl, hb1w⟩; have qg1 := HQ.out w1 hb1w)
        | (go_at_call 29; refine (HT.out _ (HBG.out.trans (hb1w.mono HBG.out.size))).mono ?_; rintro e w2 ⟨rfl, hb2w⟩; have hB2 : Below wG.heap.size wG w2 := hb1w.trans (hb2w.mono hb1w.size)))
      go_ret
      exact ⟨_, rfl, by rw [E.out]; exact OwnInts.nil _ _ _, HBG.out.trans (hB2.mono HBG.out.size)⟩
  · have hr' : rightAt x z3 n = false := by simpa using hr
    have E : Hid (farsL x k z2 z3 n = []) := farsL_wrong hr'
    rw [hr'] at HK
    clear h0 h2 h3 hn hf hz2 hz3 hr wfk wfn hE
    generalize farsL x k z2 z3 n = R at *
    go_enter Tryz.func17, Tryz.ntmps17
    go_wp2_with (go_at_call 28; rw [← hwG]; refine (HK.out _ HBG.out).mono ?_; rintro e w1 ⟨rfl, hb1w⟩)
    go_ret
    exact ⟨_, rfl, by rw [E.out]; exact OwnInts.nil _ _ _, HBG.out.trans (hb1w.mono HBG.out.size)⟩
end Go.Proofs.YthnppodnjokaoaaGreatDoor
