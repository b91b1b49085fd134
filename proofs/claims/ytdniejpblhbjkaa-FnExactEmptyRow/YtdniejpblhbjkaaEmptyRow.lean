/-
  A contract of impl.EmptyRow over this translation. No statement is proved here.
-/
import Derived.Test.YtdniejpblhbjkaaEmptiesMath
import Derived.Test.YtdniejpblhbjkaaSpecEmpties
namespace Go.Proofs.Ytdniejpblhbjkaa
open Go.RowKit

set_option maxRecDepth 100000 in
theorem emptyRow_any (x : Gm) (a0 : Option Addr) (c0 : Nat) (zs : List Int) (a1 : Option Addr) (c1 : Nat) (w : World) (h0 : RD w (.slice a0 x.parts.length c0) (slD (Lay.list (Lay.list Lay.int)) x.parts)) (h1 : RD w (.slice a1 zs.length c1) (slD Lay.int zs)) (hn : Lay.gram.wt x ≤ 1048576) (hf : Lay.gram.fit x) (hl : zs.length ≤ 1048576) (hz : (Lay.list Lay.int).fit zs) :
    Calls Try.prog 17 #[.agg #[.slice a0 x.parts.length c0], .slice a1 zs.length c1] w fun e w' => e = .returned (.bool (resEmptyRow x zs)) ∧ Below w.heap.size w w' := by
  unfold resEmptyRow
  have B0 := (Below.refl w.heap.size w).alloc (Nat.le_refl _) (.cells #[.slice a0 x.parts.length c0] 31)
  have HOK : Hid (∀ W : World, Below w.heap.size w W → Calls Try.prog 52 #[.agg #[.slice a0 x.parts.length c0]] W fun e w' => e = .returned (.bool (gramOkB x.parts)) ∧ Below W.heap.size W w') := fun W hW => gramOk_any x a0 c0 W (h0.later hW) hn hf
  have HE : Hid (gramOkB x.parts = true → ∀ W : World, Below w.heap.size w W → Calls Try.prog 61 #[.agg #[.slice a0 x.parts.length c0]] W fun e w' => e = .returned (aggB (flagsOf (emptiesL x.parts))) ∧ Below W.heap.size W w') := fun hk W hW => emptiesOf_any x.parts a0 c0 W (h0.later hW) hk
  have HA : Hid (gramOkB x.parts = true → ∀ W : World, Below w.heap.size w W → Calls Try.prog 60 #[.slice a1 zs.length c1, aggB (flagsOf (emptiesL x.parts))] W fun e w' => e = .returned (.bool (allE zs (emptiesL x.parts))) ∧ Below W.heap.size W w') := fun hk W hW => by
    have := allOf_any zs a1 c1 (flagsOf (emptiesL x.parts)) W (h1.later hW).reads hl (fit_ints hz) (flagsOf_length _)
    rwa [allB_flags (fun z hz => emptiesL_mem (Fits.of hk) hz)] at this
  clear h0 hn hf h1 hz
  generalize flagsOf (emptiesL x.parts) = T at *
  generalize emptiesL x.parts = E at *
  generalize x.parts = P at *
  by_cases hok : gramOkB P = true
  · rw [hok, Bool.true_and]
    have HE2 : Hid (∀ W : World, Below w.heap.size w W → Calls Try.prog 61 #[.agg #[.slice a0 P.length c0]] W fun e w' => e = .returned (aggB T) ∧ Below W.heap.size W w') := HE.out hok
    have HA2 : Hid (∀ W : World, Below w.heap.size w W → Calls Try.prog 60 #[.slice a1 zs.length c1, aggB T] W fun e w' => e = .returned (.bool (allE zs E)) ∧ Below W.heap.size W w') := HA.out hok
    clear HE HA
    go_enter Try.func17, Try.ntmps17
    go_wp2_with fail
    refine (HOK.out _ B0).mono ?_
    rintro e w1 ⟨rfl, hb1⟩
    have g0 : w1.cell? ⟨w.heap.size, 0, none⟩ = some (.slice a0 P.length c0) := (hb1.cell (p := ⟨w.heap.size, 0, none⟩) (by simp)).trans (by simp)
    have B1 := B0.trans (hb1.mono B0.size)
    clear HOK hb1
    go_wp2_with fail
    refine (HE2.out _ B1).mono ?_
    rintro e w2 ⟨rfl, hb2⟩
    have B2 := B1.trans (hb2.mono B1.size)
    clear HE2 hb2 g0
    go_wp2_with fail
    refine (HA2.out _ B2).mono ?_
    rintro e w3 ⟨rfl, hb3⟩
    have B3 := B2.trans (hb3.mono B2.size)
    clear HA2 hb3
    go_wp2
    go_ret
    exact ⟨rfl, B3⟩
  · have hok2 : gramOkB P = false := by simpa using hok
    rw [hok2, Bool.false_and]
    clear hok HE HA
    go_enter Try.func17, Try.ntmps17
    go_wp2_with (go_at_call 52; refine (HOK.out _ B0).mono ?_; rintro e w1 ⟨rfl, hb1⟩)
    go_ret
    exact ⟨rfl, B0.trans (hb1.mono B0.size)⟩
end Go.Proofs.Ytdniejpblhbjkaa
