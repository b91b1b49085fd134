/-
  Contracts of the law package's markGram and heldGram over this translation. No statement is proved here.
-/
import Derived.Test.YtdniejpblhbjkabHGram
import Derived.Test.YtdniejpblhbjkabMIntSSS
namespace Go.Proofs.Ytdniejpblhbjkab
open Go.RowKit

def cntGram (x : Gm) : Nat := cntIntSSS x.parts
def mkGram (k : Nat) (x : Gm) : Gm := ⟨mkIntSSS k x.parts⟩
theorem cntGram_le (x : Gm) : cntGram x ≤ Lay.gram.wt x := cntIntSSS_le x.parts
theorem mkGram_len (k : Nat) (x : Gm) : (mkGram k x).parts.length = x.parts.length := mkL_length _ _ _ _

set_option maxRecDepth 100000 in
theorem markGram_l (x : Gm) (base : Nat) (a0 : Option Addr) (n0 c0 : Nat) (S : Nat → Prop) (k : Nat) (w : World) (h : Cells w base [.slice a0 n0 c0] (Lay.gram.cells x) S) (hk : k + Lay.gram.wt x ≤ 8388608) :
    Calls Try.prog 15 #[.agg #[.slice a0 n0 c0], .int .i64 (k : Int)] w fun e w' => e = .returned (.int .i64 ((k + cntGram x : Nat) : Int)) ∧ Cells w' base [.slice a0 n0 c0] (Lay.gram.cells (mkGram k x)) S ∧ Within w w' S := by
  have hO : OD w base (.slice a0 n0 c0) (slD (Lay.list (Lay.list Lay.int)) x.parts) S := Cells.od h
  have B := (Below.refl w.heap.size w).alloc (Nat.le_refl _) (.cells #[.slice a0 n0 c0] 28)
  have X := markIntSSS_l x.parts base _ S k _ (hO.later B) hk
  have hcnt : cntIntSSS x.parts = cntGram x := rfl
  have hmk : Hid (∀ W, OD W base (.slice a0 n0 c0) (slD (Lay.list (Lay.list Lay.int)) (mkIntSSS k x.parts)) S → Cells W base [.slice a0 n0 c0] (Lay.gram.cells (mkGram k x)) S) := fun W h => Cells.one h
  have hle := cntGram_le x
  rw [hcnt] at X
  clear h hO hcnt
  generalize cntGram x = ck at *
  go_enter Try.func15, Try.ntmps15
  go_wp2_with fail
  refine X.mono ?_
  rintro e w1 ⟨rfl, hx, hw⟩
  have HX := hmk.out _ hx
  have hW : Within w w1 S := (Within.of_below B S).trans hw
  clear X hmk hx hw
  go_wp2
  go_ret
  exact ⟨rfl, HX, hW⟩

end Go.Proofs.Ytdniejpblhbjkab
