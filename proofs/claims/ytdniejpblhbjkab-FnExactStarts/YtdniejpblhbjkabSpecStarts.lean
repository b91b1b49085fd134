/-
  Contract of spec.Starts over this translation. No statement is proved here.
-/
import Derived.Test.YtdniejpblhbjkabSpecL5Starts
namespace Go.Proofs.Ytdniejpblhbjkab
open Go.RowKit

/-- What Starts answers. -/
def resStarts (x : Gm) (n : Int) : List Int := if gramOkB x.parts && inB n 0 (x.parts.length - 1) then (startsL x.parts).getD n.toNat [] else []
theorem resStarts_le (x : Gm) (n : Int) (_ : Lay.gram.wt x ≤ 1048576) (_ : Lay.gram.fit x) (_ : (Lit.int .i64 n).wf = true) : (Lay.list Lay.int).wt (resStarts x n) ≤ 2097152 := by
  rw [Lay.wt_ints, resStarts]
  split
  · have hok : gramOkB x.parts = true := by rename_i h; simp only [Bool.and_eq_true] at h; exact h.1
    have := ((stT_sets (emptiesL x.parts) (Fits.of hok) (x.parts.length + 1)).get (k := n.toNat)).len (n := 27)
    unfold startsL; omega
  · simp

set_option maxHeartbeats 1000000 in
set_option maxRecDepth 100000 in
theorem specStarts_any (x : Gm) (a0 : Option Addr) (c0 : Nat) (n : Int) (w : World) (h0 : RD w (.slice a0 x.parts.length c0) (slD (Lay.list (Lay.list Lay.int)) x.parts)) (hn : Lay.gram.wt x ≤ 1048576) (hf : Lay.gram.fit x) (hwf : (Lit.int .i64 n).wf = true) :
    Calls Try.prog 20 #[.agg #[.slice a0 x.parts.length c0], .int .i64 n] w fun e w' => ∃ v S, e = .returned v ∧ OD w' w.heap.size v (slD Lay.int (resStarts x n)) S ∧ Below w.heap.size w w' := by
  unfold resStarts
  have B0 := (Below.refl w.heap.size w).alloc (Nat.le_refl _) (.cells #[.slice a0 x.parts.length c0] 28)
  have HOK : Hid (∀ W : World, Below w.heap.size w W → Calls Try.prog 27 #[.agg #[.slice a0 x.parts.length c0]] W fun e w' => e = .returned (.bool (gramOkB x.parts)) ∧ Below W.heap.size W w') := fun W hW => specGramOk_any x a0 c0 W (h0.later hW) hn hf
  have hnb := wf_i64 hwf
  by_cases hok : gramOkB x.parts = true
  · have HST : Hid (∀ W : World, Below w.heap.size w W → Calls Try.prog 42 #[.agg #[.slice a0 x.parts.length c0]] W fun e w' => ∃ v S, e = .returned v ∧ OD w' W.heap.size v (slD (Lay.list Lay.int) (startsL x.parts)) S ∧ Below W.heap.size W w') := fun W hW => l5Starts_any x.parts a0 c0 W (h0.later hW) hok
    have HS : Hid (Sets x.parts.length (startsL x.parts)) := stT_sets _ (Fits.of hok) _
    have hp := (Fits.of hok).parts
    rw [hok] at HOK ⊢
    rw [Bool.true_and]
    clear h0 hn hf hok hwf
    generalize startsL x.parts = M at *
    generalize x.parts = P at *
    by_cases hin : inB n 0 ((P.length : Int) - 1) = true
    · have hi2 := inB_true.1 hin
      obtain ⟨k, rfl⟩ := Int.eq_ofNat_of_zero_le hi2.1
      have hkP : k < P.length := by omega
      have hkM : k < M.length := by rw [HS.out.1]; exact hkP
      have eM : M.getD (k : Int).toNat [] = M[k] := by simp [List.getD, hkM]
      have h27 : M[k].length ≤ 27 := (HS.out.2 _ (List.getElem_mem hkM)).len (n := 27)
      rw [if_pos hin, eM]
      clear eM
      go_enter Try.func20, Try.ntmps20
      go_wp2_with fail
      refine (HOK.out _ B0).mono ?_
      rintro e w1 ⟨rfl, hb1⟩
      have g0 : w1.cell? ⟨w.heap.size, 0, none⟩ = some (.slice a0 P.length c0) := (hb1.cell (p := ⟨w.heap.size, 0, none⟩) (by simp)).trans (by simp)
      have B1 := B0.trans (hb1.mono B0.size)
      have hgl : w.heap.size < w1.heap.size := World.block_lt_of_cell? w1 _ g0
      clear HOK hb1 B0
      go_wp2_with fail
      refine (l1In_any _ _ _ _).mono ?_
      rintro e w' ⟨rfl, rfl⟩
      have B1a : Below w.heap.size w (w'.alloc (.cells #[] 3)) := B1.alloc B1.size _
      go_wp2_with fail
      refine (HST.out _ B1a).mono ?_
      rintro e w2 ⟨v2, S2, rfl, hO2, hb2⟩
      obtain ⟨a2, c2, rfl, _⟩ := OD.shapeL hO2
      obtain ⟨b2, o2, rfl, hb2l, a3, c3, q3, r3⟩ := hO2.rd.listAt hkM
      have hMl := HS.out.1
      have hO1 : OwnInts w2 w.heap.size 3 (.slice (some ⟨w'.heap.size, 0, none⟩) 0 0) [] := (OwnInts.empty (w := w') B1.size).below hb2
      have B2 := B1a.trans (hb2.mono B1a.size)
      have hsz := B2.size
      have R3 := r3.reads
      clear HST hb2 HS hO2 r3 g0
      go_wp2_with (at_builtin; refine wpList_append_ints _ rfl (.tmp 18) (.tmp 23) 25 rfl w.heap.size 3 Try.underlying25 Try.infoInt _ [] rfl hO1 _ _ _ M[k] rfl rfl R3 (by simp; omega) hsz ?_)
      intro v4 w4 hO4 hgr4
      have B4 := B2.grown hgr4 hsz (fun j hj => (hO1.block j hj).1)
      have HD : Hid (OD w4 w.heap.size v4 (slD Lay.int M[k]) (fun j => v4.ownBlock = some j)) := by
        have := hO4.od; show OD _ _ _ _ _; simpa using this
      clear hO4 hgr4 hO1 R3 q3
      go_wp2
      go_ret
      exact ⟨_, _, rfl, HD.out, B4⟩
    · have hin2 : inB n 0 ((P.length : Int) - 1) = false := by simpa using hin
      rw [if_neg hin]
      clear hin HST HS
      go_enter Try.func20, Try.ntmps20
      go_wp2_with fail
      refine (HOK.out _ B0).mono ?_
      rintro e w1 ⟨rfl, hb1⟩
      have g0 : w1.cell? ⟨w.heap.size, 0, none⟩ = some (.slice a0 P.length c0) := (hb1.cell (p := ⟨w.heap.size, 0, none⟩) (by simp)).trans (by simp)
      have B1 := B0.trans (hb1.mono B0.size)
      have hgl : w.heap.size < w1.heap.size := World.block_lt_of_cell? w1 _ g0
      clear HOK hb1 B0
      go_wp2_with (go_at_call 38; refine (l1In_any _ _ _ _).mono ?_; rintro e w' ⟨rfl, rfl⟩)
      go_ret
      exact ⟨_, _, rfl, (OwnInts.empty B1.size).od, B1.trans ((Below.refl _ _).alloc B1.size _)⟩
  · have hok2 : gramOkB x.parts = false := by simpa using hok
    rw [hok2] at HOK ⊢
    rw [Bool.false_and, if_neg (by decide)]
    clear hok h0 hn hf hok2 hwf
    generalize x.parts = P at *
    go_enter Try.func20, Try.ntmps20
    go_wp2_with (go_at_call 27; refine (HOK.out _ B0).mono ?_; rintro e w1 ⟨rfl, hb1⟩)
    go_ret
    have B1 := B0.trans (hb1.mono B0.size)
    exact ⟨_, _, rfl, (OwnInts.empty (w := w1) B1.size).od, B1.trans ((Below.refl _ _).alloc B1.size _)⟩
end Go.Proofs.Ytdniejpblhbjkab
