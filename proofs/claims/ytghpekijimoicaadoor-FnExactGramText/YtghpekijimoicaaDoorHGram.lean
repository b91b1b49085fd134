/-
  Contracts of the law package's helpers on Gram over this translation. No statement is proved here.
-/
import Derived.Test.YtghpekijimoicaaDoorHIntSSS
import Derived.Test.YtghpekijimoicaaDoorOpenL
import Derived.Deep.RegionWith
namespace Go.Proofs.YtghpekijimoicaaDoor
open Go.RowKit

/-- As the program has it. -/
structure Gm where
  parts : (List (List (List Int)))
def Lay.gram : Lay Gm := { cells := fun x => [slD (Lay.list (Lay.list Lay.int)) x.parts], sz := 1, len := fun _ => rfl, pos := by decide, wt := fun x => (Lay.list (Lay.list (Lay.list Lay.int))).wt x.parts, fit := fun x => (Lay.list (Lay.list (Lay.list Lay.int))).fit x.parts }
theorem Lay_gram_wt (x : Gm) : Lay.gram.wt x = (Lay.list (Lay.list (Lay.list Lay.int))).wt x.parts := rfl
theorem Lay_gram_fit (x : Gm) : Lay.gram.fit x = ((Lay.list (Lay.list (Lay.list Lay.int))).fit x.parts) := rfl

section
variable {H : Type} {enc : TypeId × Value → H} {P : Program} {w : World} {base : Nat} {spare : Nat → Bool} {held : Bool}
theorem Opens.gram {t : TypeId} {f0 : Field} (hu : P.underlying t = some (.struct #[f0])) (o0 : f0.offset = 0) (s0 : P.cellsOf f0.type = 1) (h0 : Opens enc P w base spare held f0.type (Lay.list (Lay.list (Lay.list Lay.int)))) (hc : P.cellsOf t = 1) : Opens enc P w base spare held t Lay.gram := by
  intro n cs y h
  obtain ⟨xs, m, _, _, hl, hlen, hf⟩ := DataW.trod_struct hu h
  rw [hc] at hl
  match xs, hlen, cs, hl with
  | [y0], _, [v0], _ =>
    have g0 := hf 0 f0 rfl
    rw [o0, s0] at g0
    obtain ⟨z0, fit0, _, r0⟩ := h0 m _ y0 (by simpa using g0)
    refine ⟨⟨z0⟩, fit0, rfl, fun j hj hj' => ?_⟩
    match j, hj with
    | 0, _ => exact r0 0 (by simp) (by rw [(Lay.list (Lay.list (Lay.list Lay.int))).len]; decide)
end

theorem eqGram_l (x : Gm) (a0 b0 : Option Addr) (c0 d0 : Nat) (w : World) (h0 : RD w (.slice a0 x.parts.length c0) (slD (Lay.list (Lay.list Lay.int)) x.parts)) (g0 : RD w (.slice b0 x.parts.length d0) (slD (Lay.list (Lay.list Lay.int)) x.parts)) (hn : Lay.gram.wt x ≤ 4194304) :
    Calls Tryd.prog 14 #[.agg #[.slice a0 x.parts.length c0], .agg #[.slice b0 x.parts.length d0]] w fun e w' => e = .returned (.bool true) ∧ Below w.heap.size w w' := by
  rw [Lay_gram_wt] at hn
  have B := ((Below.refl w.heap.size w).alloc (Nat.le_refl _) (.cells #[.slice a0 x.parts.length c0] 32)).alloc (by simp) (.cells #[.slice b0 x.parts.length d0] 32)
  have X : Hid (∀ W : World, Below w.heap.size w W → Calls Tryd.prog 36 #[.slice a0 x.parts.length c0, .slice b0 x.parts.length d0] W fun e w' => e = .returned (.bool true) ∧ Below W.heap.size W w') :=
    fun W hW => eqIntSSS_l x.parts a0 b0 c0 d0 W (h0.later hW) (g0.later hW) hn
  clear h0 g0 hn
  generalize x.parts = y at *
  go_enter Tryd.func14, Tryd.ntmps14
  go_wp2_with fail
  refine (X.out _ B).mono ?_
  rintro e w1 ⟨rfl, hb⟩
  go_wp2
  go_ret
  exact ⟨rfl, B.trans (hb.mono B.size)⟩

set_option maxRecDepth 100000 in
theorem szGram_l (x : Gm) (a0 : Option Addr) (c0 : Nat) (l : Int) (w : World) (h0 : RD w (.slice a0 x.parts.length c0) (slD (Lay.list (Lay.list Lay.int)) x.parts)) (hf : Lay.gram.fit x) (hl0 : 0 ≤ l) (hl1 : l ≤ 1048576) :
    Calls Tryd.prog 7 #[.agg #[.slice a0 x.parts.length c0], .int .i64 l] w fun e w' => ∃ r, e = .returned (.int .i64 r) ∧ SzE (Lay.gram.wt x) l r ∧ Below w.heap.size w w' := by
  rw [Lay_gram_wt]
  rw [Lay_gram_fit] at hf
  have B := (Below.refl w.heap.size w).alloc (Nat.le_refl _) (.cells #[.slice a0 x.parts.length c0] 24)
  have X : Hid (∀ W : World, Below w.heap.size w W → Calls Tryd.prog 23 #[.slice a0 x.parts.length c0, .int .i64 l] W fun e w' => ∃ r, e = .returned (.int .i64 r) ∧ SzE ((Lay.list (Lay.list (Lay.list Lay.int))).wt x.parts) l r ∧ Below W.heap.size W w') :=
    fun W hW => szIntSSS_l x.parts a0 c0 l W (h0.later hW) hf hl0 hl1
  clear h0 hf
  generalize (Lay.list (Lay.list (Lay.list Lay.int))).wt x.parts = wk at *
  generalize x.parts = y at *
  go_enter Tryd.func7, Tryd.ntmps7
  go_wp2_with fail
  refine (X.out _ B).mono ?_
  rintro e w1 ⟨r, rfl, hr, hb⟩
  have B1 := B.trans (hb.mono B.size)
  clear X
  rcases hr with rfl | ⟨hr0, hr1⟩
  · go_wp2
    go_ret
    exact ⟨_, rfl, .inl rfl, B1⟩
  · have HR : Hid (r = l - wk) := hr1
    clear hr1
    go_wp2
    go_ret
    exact ⟨_, rfl, .inr ⟨hr0, HR.out⟩, B1⟩

set_option maxRecDepth 100000 in
theorem toGram_l (x : Gm) (a0 : Option Addr) (c0 : Nat) (w : World) (h0 : RD w (.slice a0 x.parts.length c0) (slD (Lay.list (Lay.list Lay.int)) x.parts)) (hn : Lay.gram.wt x ≤ 1048576) :
    Calls Tryd.prog 10 #[.agg #[.slice a0 x.parts.length c0]] w fun e w' => ∃ a1 c1 S, e = .returned (.agg #[.slice a1 x.parts.length c1]) ∧ Cells w' w.heap.size [.slice a1 x.parts.length c1] (Lay.gram.cells x) S ∧ Below w.heap.size w w' := by
  show Calls _ _ _ _ fun e w' => ∃ a1 c1 S, e = .returned (.agg #[.slice a1 x.parts.length c1]) ∧ Cells w' w.heap.size [.slice a1 x.parts.length c1] [slD (Lay.list (Lay.list Lay.int)) x.parts] S ∧ Below w.heap.size w w'
  rw [Lay_gram_wt] at hn
  have X : Hid (∀ W : World, Below w.heap.size w W → Calls Tryd.prog 30 #[.slice a0 x.parts.length c0] W fun e w' => ∃ v S, e = .returned v ∧ OD w' W.heap.size v (slD (Lay.list (Lay.list Lay.int)) x.parts) S ∧ Below W.heap.size W w') :=
    fun W hW => toIntSSS_l x.parts a0 c0 W (h0.later hW) hn
  clear h0 hn
  generalize x.parts = y at *
  have B : Below w.heap.size w (((w.alloc (.cells #[.slice a0 y.length c0] 24)).alloc (.cells #[.slice none 0 0] 32)).alloc (.cells #[.slice none 0 0] 32)) :=
    (((Below.refl _ _).alloc (Nat.le_refl _) _).alloc (by simp) _).alloc (by simp; omega) _
  go_enter Tryd.func10, Tryd.ntmps10
  go_wp2_with fail
  refine (X.out _ B).mono ?_
  rintro e w1 ⟨v, S, rfl, O1, hb1⟩
  obtain ⟨hc, hf⟩ := bcellH hb1
  have hz := hb1.size
  simp only [World.size_alloc] at hc hf hz
  have B1 := B.trans (hb1.mono B.size)
  obtain ⟨a1, c1, rfl, _⟩ := OD.shapeL O1
  clear X B hb1
  go_wp2
  refine bodyPost_ret (v := .agg #[.slice a1 y.length c1]) (by simp [results, Tryd.results10, go_sem, hc]) rfl ⟨a1, c1, S, rfl, ?_, ?_⟩
  · have hW : Within w1 ((w1.setCell ⟨w.heap.size + 1 + 1, 0, none⟩ (.slice a1 y.length c1)).setCell ⟨w.heap.size + 1, 0, none⟩ (.slice a1 y.length c1)) (fun k => k < w.heap.size + 1 + 1 + 1) :=
      ((Within.refl _ _).setCell _ _ (by simp)).setCell _ _ (by simp)
    refine Cells.last [] ((O1.kept hW (fun k hk hk2 => ?_)).base (by simp; omega))
    have := (O1.lt k hk).1
    simp at this
    omega
  · exact (B1.setCell (p := ⟨w.heap.size + 1 + 1, 0, none⟩) (by simp; omega) _).setCell (p := ⟨w.heap.size + 1, 0, none⟩) (by simp) _

end Go.Proofs.YtghpekijimoicaaDoor
