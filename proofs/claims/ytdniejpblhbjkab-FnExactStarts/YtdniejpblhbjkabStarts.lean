/-
  A contract of impl.Starts over this translation. No statement is proved here.
-/
import Derived.Test.YtdniejpblhbjkabStartsOf
namespace Go.Proofs.Ytdniejpblhbjkab
open Go.RowKit

set_option maxRecDepth 100000 in
theorem starts_any (x : Gm) (a0 : Option Addr) (c0 : Nat) (n : Int) (w : World) (h0 : RD w (.slice a0 x.parts.length c0) (slD (Lay.list (Lay.list Lay.int)) x.parts)) (hn : Lay.gram.wt x ≤ 1048576) (hf : Lay.gram.fit x) (hwf : (Lit.int .i64 n).wf = true) :
    Calls Try.prog 21 #[.agg #[.slice a0 x.parts.length c0], .int .i64 n] w fun e w' => ∃ v S, e = .returned v ∧ OD w' w.heap.size v (slD Lay.int (resStarts x n)) S ∧ Below w.heap.size w w' := by
  unfold resStarts
  have B0 := (Below.refl w.heap.size w).alloc (Nat.le_refl _) (.cells #[.slice a0 x.parts.length c0] 28)
  have HT : Hid (∀ W : World, Below w.heap.size w W → Calls Try.prog 40 #[.agg #[.slice a0 x.parts.length c0], .int .i64 n] W fun e w' => e = .returned (.bool (gramOkB x.parts && inB n 0 (x.parts.length - 1))) ∧ Below W.heap.size W w') := fun W hW => isThere_any x a0 c0 n W (h0.later hW) hn hf hwf
  have HS : Hid (gramOkB x.parts = true → ∀ W : World, Below w.heap.size w W → Calls Try.prog 43 #[.agg #[.slice a0 x.parts.length c0]] W fun e w' => ∃ T, e = .returned (aggB T) ∧ T.length = 540 ∧ Hid (∀ k, k < x.parts.length → numsB (fun c => T.getD (k * 27 + c) false) 27 = (startsL x.parts).getD k []) ∧ Below W.heap.size W w') := fun hk W hW => startsOf_any x.parts a0 c0 W (h0.later hW) hk
  have HP : Hid (gramOkB x.parts = true → x.parts.length ≤ 20) := fun h => (Fits.of h).parts
  clear h0 hn hf hwf
  generalize startsL x.parts = M at *
  generalize x.parts = P at *
  by_cases hth : (gramOkB P && inB n 0 ((P.length : Int) - 1)) = true
  · rw [if_pos hth]
    have hok : gramOkB P = true := by simp only [Bool.and_eq_true] at hth; exact hth.1
    have hin := inB_true.1 (by simp only [Bool.and_eq_true] at hth; exact hth.2)
    have hp := HP.out hok
    obtain ⟨k, rfl⟩ := Int.eq_ofNat_of_zero_le hin.1
    have hk : k < P.length := by omega
    have HS2 : Hid (∀ W : World, Below w.heap.size w W → Calls Try.prog 43 #[.agg #[.slice a0 P.length c0]] W fun e w' => ∃ T, e = .returned (aggB T) ∧ T.length = 540 ∧ Hid (∀ k, k < P.length → numsB (fun c => T.getD (k * 27 + c) false) 27 = M.getD k []) ∧ Below W.heap.size W w') := HS.out hok
    rw [hth] at HT
    have hk0 : (0 : Int) ≤ (k : Int) := by omega
    have hk1 : (k : Int) < 20 := by omega
    have HM : Hid (M.getD (k : Int).toNat [] = M.getD k []) := rfl
    rw [HM.out]
    clear HS HP hth hok hin HM
    go_enter Try.func21, Try.ntmps21
    go_wp2_with fail
    refine (HT.out _ B0).mono ?_
    rintro e w1 ⟨rfl, hb1⟩
    have g0 : w1.cell? ⟨w.heap.size, 0, none⟩ = some (.slice a0 P.length c0) := (hb1.cell (p := ⟨w.heap.size, 0, none⟩) (by simp)).trans (by simp)
    have B1 := B0.trans (hb1.mono B0.size)
    clear HT hb1
    go_wp2_with fail
    refine (HS2.out _ B1).mono ?_
    rintro e w2 ⟨T, rfl, hTl, HI, hb2⟩
    have B2 := B1.trans (hb2.mono B1.size)
    have HN : Hid (numsB (fun c => T.getD (k * 27 + c) false) 27 = M.getD k []) := HI.out k hk
    clear HS2 hb2 g0 B1 B0 HI
    go_wp2_with (first | (refine wpList_allocB (w := w2) rfl 50 rfl 540 bt_table ?_; intro w3 hB3 hb3 hs3) | (refine wpList_storeB (w := w3) rfl 50 _ _ rfl w2.heap.size 0 50 _ T rfl rfl (at540S hTl) hB3 (by rw [List.length_replicate, hTl]; decide) ?_; intro w4 hB4 hg4))
    have e4 : putB (List.replicate 540 false) 0 T = T := putB_whole (by rw [List.length_replicate]; exact hTl)
    rw [e4] at hB4
    have B4 : Below w.heap.size w w4 := (B2.trans (hb3.mono B2.size)).grown hg4 (by have := B2.size; omega) (fun j hj => by cases hj; exact B2.size)
    clear e4 hB3 hb3 hs3 hg4
    refine (numbers_any _ (k * 27) _ T _ hB4 (by omega)).mono ?_
    rintro e w5 ⟨v, rfl, hO, hb5⟩
    rw [HN.out] at hO
    have B5 := B4.trans (hb5.mono B4.size)
    have hs4 := B4.size
    have HD : Hid (OD w5 w.heap.size v (slD Lay.int (M.getD k [])) (fun j => v.ownBlock = some j)) := (hO.base hs4).od
    clear hO hb5 hB4 B4 B2
    go_wp2
    go_ret
    exact ⟨_, _, rfl, HD.out, B5⟩
  · rw [if_neg hth]
    have hth2 : (gramOkB P && inB n 0 ((P.length : Int) - 1)) = false := by simpa using hth
    rw [hth2] at HT
    clear hth HS HP hth2
    go_enter Try.func21, Try.ntmps21
    go_wp2_with (go_at_call 40; refine (HT.out _ B0).mono ?_; rintro e w1 ⟨rfl, hb1⟩)
    go_ret
    have B1 := B0.trans (hb1.mono B0.size)
    exact ⟨_, _, rfl, (OwnInts.nil w1 w.heap.size 3).od, B1⟩
end Go.Proofs.Ytdniejpblhbjkab
