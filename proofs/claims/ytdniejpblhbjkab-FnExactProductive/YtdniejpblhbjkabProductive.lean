/-
  A contract of impl.Productive over this translation. No statement is proved here.
-/
import Derived.Test.YtdniejpblhbjkabProductiveOf
namespace Go.Proofs.Ytdniejpblhbjkab
open Go.RowKit

theorem aliveL_mem {P : List (List (List Int))} (F : Fits P) {x : Int} (h : x ∈ aliveL P) : 0 ≤ x ∧ x < 20 := by
  have := (growT_setB (p := aliveE) P (P.length + 1)).lt x h
  have := F.parts
  omega
set_option maxRecDepth 100000 in
theorem productive_any (x : Gm) (a0 : Option Addr) (c0 : Nat) (w : World) (h0 : RD w (.slice a0 x.parts.length c0) (slD (Lay.list (Lay.list Lay.int)) x.parts)) (hn : Lay.gram.wt x ≤ 1048576) (hf : Lay.gram.fit x) :
    Calls Try.prog 23 #[.agg #[.slice a0 x.parts.length c0]] w fun e w' => ∃ v S, e = .returned v ∧ OD w' w.heap.size v (slD Lay.int (resProductive x)) S ∧ Below w.heap.size w w' := by
  unfold resProductive
  have B0 := (Below.refl w.heap.size w).alloc (Nat.le_refl _) (.cells #[.slice a0 x.parts.length c0] 28)
  have HOK : Hid (∀ W : World, Below w.heap.size w W → Calls Try.prog 32 #[.agg #[.slice a0 x.parts.length c0]] W fun e w' => e = .returned (.bool (gramOkB x.parts)) ∧ Below W.heap.size W w') := fun W hW => gramOk_any x a0 c0 W (h0.later hW) hn hf
  have HE : Hid (gramOkB x.parts = true → ∀ W : World, Below w.heap.size w W → Calls Try.prog 46 #[.agg #[.slice a0 x.parts.length c0]] W fun e w' => e = .returned (aggB (flagsOf (aliveL x.parts))) ∧ Below W.heap.size W w') := fun hk W hW => productiveOf_any x.parts a0 c0 W (h0.later hW) hk
  have HM : Hid (gramOkB x.parts = true → numsB (fun n => (flagsOf (aliveL x.parts)).getD (0 + n) false) 27 = aliveL x.parts) := fun hk =>
    nums_flags (growT_sorted _ _) (fun z hz => by have := aliveL_mem (Fits.of hk) hz; omega) (fun n h => by rw [Nat.zero_add]; exact flagsOf_get _ h)
  clear h0 hn hf
  by_cases hok : gramOkB x.parts = true
  · rw [if_pos hok]
    have HE2 := HE.out hok
    have HME := HM.out hok
    have HM2 : Hid (numsB (fun n => (flagsOf (aliveL x.parts)).getD (0 + n) false) 27 = aliveL x.parts) := HME
    have HE3 : Hid (∀ W : World, Below w.heap.size w W → Calls Try.prog 46 #[.agg #[.slice a0 x.parts.length c0]] W fun e w' => e = .returned (aggB (flagsOf (aliveL x.parts))) ∧ Below W.heap.size W w') := HE2
    have hfl := flagsOf_length (aliveL x.parts)
    clear HE HM HE2 HME
    generalize flagsOf (aliveL x.parts) = T at *
    generalize aliveL x.parts = E at *
    generalize x.parts = P at *
    go_enter Try.func23, Try.ntmps23
    go_wp2_with fail
    refine (HOK.out _ B0).mono ?_
    rintro e w1 ⟨rfl, hb1⟩
    have g0 : w1.cell? ⟨w.heap.size, 0, none⟩ = some (.slice a0 P.length c0) := (hb1.cell (p := ⟨w.heap.size, 0, none⟩) (by simp)).trans (by simp)
    have B1 := B0.trans (hb1.mono B0.size)
    clear HOK hb1
    go_wp2_with fail
    refine (HE3.out _ B1).mono ?_
    rintro e w2 ⟨rfl, hb2⟩
    have B2 := B1.trans (hb2.mono B1.size)
    clear HE3 hb2 g0 B1 B0
    go_wp2_with (first | (refine wpList_allocB (w := w2) rfl 47 rfl 27 bt_flags ?_; intro w3 hB3 hb3 hs3) | (refine wpList_storeB (w := w3) rfl 47 _ _ rfl w2.heap.size 0 47 _ T rfl rfl (at27 hfl) hB3 (by simp [hfl]) ?_; intro w4 hB4 hg4))
    have e4 : putB (List.replicate 27 false) 0 T = T := putB_whole (by simp [hfl])
    rw [e4] at hB4
    have B4 : Below w.heap.size w w4 := (B2.trans (hb3.mono B2.size)).grown hg4 (by have := B2.size; omega) (fun j hj => by cases hj; exact B2.size)
    clear e4 hB3 hb3 hs3 hg4
    refine (numbers_any _ 0 _ T _ hB4 (by omega)).mono ?_
    rintro e w5 ⟨v, rfl, hO, hb5⟩
    rw [HM2.out] at hO
    have B5 := B4.trans (hb5.mono B4.size)
    have hs4 := B4.size
    have HD : Hid (OD w5 w.heap.size v (slD Lay.int E) (fun k => v.ownBlock = some k)) := (hO.base hs4).od
    clear hO hb5 hB4 B4 B2
    go_wp2
    go_ret
    exact ⟨_, _, rfl, HD.out, B5⟩
  · have hok2 : gramOkB x.parts = false := by simpa using hok
    rw [if_neg hok]
    clear hok HE HM
    generalize x.parts = P at *
    go_enter Try.func23, Try.ntmps23
    go_wp2_with (go_at_call 32; refine (HOK.out _ B0).mono ?_; rintro e w1 ⟨rfl, hb1⟩)
    go_ret
    have B1 := B0.trans (hb1.mono B0.size)
    exact ⟨_, _, rfl, (OwnInts.nil w1 w.heap.size 3).od, B1⟩
end Go.Proofs.Ytdniejpblhbjkab
