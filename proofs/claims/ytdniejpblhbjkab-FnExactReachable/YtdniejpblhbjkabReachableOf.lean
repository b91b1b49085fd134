/-
  A contract of impl.reachableOf over this translation. No statement is proved here.
-/
import Derived.Test.YtdniejpblhbjkabReachOf
import Derived.Test.YtdniejpblhbjkabSpecReachable
namespace Go.Proofs.Ytdniejpblhbjkab
open Go.RowKit

set_option maxHeartbeats 4000000 in
set_option maxRecDepth 100000 in
theorem reachableOf_any (P : List (List (List Int))) (a0 : Option Addr) (c0 : Nat) (w : World) (h0 : RD w (.slice a0 P.length c0) (slD (Lay.list (Lay.list Lay.int)) P)) (hok : gramOkB P = true) :
    Calls Try.prog 48 #[.agg #[.slice a0 P.length c0]] w fun e w' => e = .returned (aggB (flagsOf (reachL P))) ∧ Below w.heap.size w w' := by
  have hp0 : 0 < P.length := by
    simp only [gramOkB, Bool.and_eq_true] at hok
    have := inB_true.1 hok.1
    omega
  have HX : Hid (∀ (W : World) (b : Nat), Below w.heap.size w W → w.heap.size ≤ b → Bits W b 47 (List.replicate 27 false) → Calls Try.prog 65 #[.agg #[.slice a0 P.length c0], .int .i64 0, .pointer (some ⟨b, 0, none⟩)] W fun e w' => e = .returned (.tuple #[]) ∧ Bits w' b 47 (flagsOf (reachL P)) ∧ W.grownBy w' (some b)) := by
    intro W b hW hb hB
    refine (reach_go P a0 c0 w h0 hok b 47 hb 27 0 (List.replicate 27 false) W hp0 hB (by simp) (by omega) hW).mono ?_
    rintro e w' ⟨rfl, T', h1, h2, h3, h4⟩
    rw [reachOf_is hok h2 h1] at h3
    exact ⟨rfl, h3, h4⟩
  have B0 := (Below.refl w.heap.size w).alloc (Nat.le_refl _) (.cells #[.slice a0 P.length c0] 28)
  have hsb : (w.alloc (.cells #[.slice a0 P.length c0] 28)).heap.size = w.heap.size + 1 := by simp
  have HQ0 : Hid ((w.alloc (.cells #[.slice a0 P.length c0] 28)).cell? ⟨w.heap.size, 0, none⟩ = some (.slice a0 P.length c0)) := by show _ = _; simp
  have hTl := flagsOf_length (reachL P)
  clear h0 hok hp0
  generalize flagsOf (reachL P) = T at *
  go_enter Try.func48, Try.ntmps48
  go_wp2_with (first | (refine wpList_allocB (w := w.alloc _) rfl 47 rfl 27 bt_flags ?_; rw [hsb]; intro w1 hB1 hb1 hs1; have q1 := (hb1.cell (p := ⟨w.heap.size, 0, none⟩) (by simp)).trans HQ0.out; have h1 : w.heap.size + 1 < w1.heap.size := (by omega); clear hs1) | (refine wpList_allocB (w := w1) rfl 47 rfl 27 bt_flags ?_; intro w2 hB2 hb2 hs2; have q2 := (hb2.cell (p := ⟨w.heap.size, 0, none⟩) (by simp; omega)).trans q1; have h2 : w1.heap.size < w2.heap.size := (by omega); clear hs2 q1) | (go_at_call 65; refine (HX.out _ w1.heap.size ((B0.trans (hb1.mono (by omega))).trans (hb2.mono (by omega))) (by omega) hB2).mono ?_; rintro e w3 ⟨rfl, hB3, hg3⟩; have hB1b := (hB1.later (w' := w2) hb2).grown hg3 (fun h => by have := Option.some.inj h; omega)) | (refine wpList_loadW (w := w3) rfl 47 _ rfl w1.heap.size 47 T rfl (at27 hTl) hB3 ?_) | (refine wpList_storeB (w := w3) rfl 47 _ _ rfl (w.heap.size + 1) 0 47 _ T rfl rfl (at27 hTl) hB1b (by simp [hTl]) ?_; intro w4 hB4 hg4))
  have e5 : putB (List.replicate 27 false) 0 T = T := putB_whole (by simp [hTl])
  rw [e5] at hB4
  have b1 : Below w.heap.size w w1 := B0.trans (hb1.mono (by omega))
  have b2 : Below w.heap.size w w2 := b1.trans (hb2.mono b1.size)
  have b3 : Below w.heap.size w w3 := b2.grown hg3 b2.size (fun j hj => by cases hj; exact b1.size)
  have b4 : Below w.heap.size w w4 := b3.grown hg4 b3.size (fun j hj => by cases hj; omega)
  exact bodyPost_ret (v := aggB T) (ret_cell 47 rfl rfl hB4 (at27 hTl)) rfl ⟨rfl, b4⟩
end Go.Proofs.Ytdniejpblhbjkab
