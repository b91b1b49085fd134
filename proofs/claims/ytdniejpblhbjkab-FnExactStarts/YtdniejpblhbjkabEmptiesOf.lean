/-
  A contract of impl.emptiesOf over this translation. No statement is proved here.
-/
import Derived.Test.YtdniejpblhbjkabLPartsE
namespace Go.Proofs.Ytdniejpblhbjkab
open Go.RowKit

/-- One row's step. -/
def eS (k : Nat) (row : List Int) (T : List Bool) : List Bool := bstep T (k, fun b => allB b row)
theorem eS_raises (P : List (List (List Int))) : Raises eS P 27 := fun k _ i _ T hT => ⟨by rw [eS, bstep_length]; exact hT, bstep_or _ _⟩

set_option maxHeartbeats 4000000 in
set_option maxRecDepth 100000 in
theorem emptiesOf_grow (P : List (List (List Int))) (a0 : Option Addr) (c0 : Nat) (w : World) (h0 : RD w (.slice a0 P.length c0) (slD (Lay.list (Lay.list Lay.int)) P)) (hok : gramOkB P = true) :
    Calls Try.prog 54 #[.agg #[.slice a0 P.length c0]] w fun e w' => ∃ T, e = .returned (aggB T) ∧ T.length = 27 ∧ Grows eS P (List.replicate 27 false) T ∧ leK eS P T P.length = T ∧ Below w.heap.size w w' := by
  have HX : Hid (∀ W : World, Below w.heap.size w W → Calls Try.prog 63 #[.agg #[.slice a0 P.length c0], .func (.func 68) #[] #[]] W fun e w' => ∃ T, e = .returned (aggB T) ∧ T.length = 27 ∧ Grows eS P (List.replicate 27 false) T ∧ leK eS P T P.length = T ∧ Below W.heap.size W w') := by
    intro W hW
    have F := Fits.of hok
    refine leastParts_E allB P a0 c0 W (h0.later hW) hok (fun W2 T k hk i hi a c hb hT hr => ?_)
    have hm := List.getElem_mem hk
    have hm2 := List.getElem_mem hi
    have h8 := F.rows _ hm _ hm2
    exact allOf_any _ a c T W2 (hr.later hb).reads (by omega) (fun z hz => by have := F.syms _ hm _ hm2 z hz; omega) hT
  have B0 := (Below.refl w.heap.size w).alloc (Nat.le_refl _) (.cells #[.slice a0 P.length c0] 28)
  have hsb : (w.alloc (.cells #[.slice a0 P.length c0] 28)).heap.size = w.heap.size + 1 := by simp
  have HQ0 : Hid ((w.alloc (.cells #[.slice a0 P.length c0] 28)).cell? ⟨w.heap.size, 0, none⟩ = some (.slice a0 P.length c0)) := by show _ = _; simp
  clear h0 hok
  go_enter Try.func54, Try.ntmps54
  go_wp2_with (first | (refine wpList_allocB (w := w.alloc _) rfl 47 rfl 27 bt_flags ?_; rw [hsb]; intro w1 hB1 hb1 hs1; have q1 := (hb1.cell (p := ⟨w.heap.size, 0, none⟩) (by simp)).trans HQ0.out) | (go_at_call 63; refine (HX.out _ (B0.trans (hb1.mono (by omega)))).mono ?_; rintro e w2 ⟨T, rfl, hTl, hG, hF, hb2⟩; have hB2 := hB1.later hb2) | (refine wpList_storeB (w := w2) rfl 47 _ _ rfl (w.heap.size + 1) 0 47 _ T rfl rfl (at27 hTl) hB2 (by simp [hTl]) ?_; intro w3 hB3 hg3))
  have e5 : putB (List.replicate 27 false) 0 T = T := putB_whole (by simp [hTl])
  rw [e5] at hB3
  have b1 : Below w.heap.size w w1 := B0.trans (hb1.mono (by omega))
  have b2 : Below w.heap.size w w2 := b1.trans (hb2.mono b1.size)
  have b3 : Below w.heap.size w w3 := b2.grown hg3 b2.size (fun j hj => by cases hj; omega)
  exact bodyPost_ret (v := aggB T) (ret_cell 47 rfl rfl hB3 (at27 hTl)) rfl ⟨T, rfl, hTl, hG, hF, b3⟩
end Go.Proofs.Ytdniejpblhbjkab
