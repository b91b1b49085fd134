/-
  Contracts of the law package's markTree and heldTree over this translation. No statement is proved here.
-/
import Derived.Test.YthnppodnjokaoabHTree
import Derived.Test.YthnppodnjokaoabMNodeS
import Derived.Test.YthnppodnjokaoabMNodeSH
namespace Go.Proofs.Ythnppodnjokaoab
open Go.RowKit

def cntTree (x : Tr) : Nat := cntNodeS x.nodes
def mkTree (k : Nat) (x : Tr) : Tr := ⟨mkNodeS k x.nodes⟩
theorem cntTree_le (x : Tr) : cntTree x ≤ 5 * Lay.tree.wt x := cntNodeS_le x.nodes
theorem mkTree_len (k : Nat) (x : Tr) : (mkTree k x).nodes.length = x.nodes.length := mkL_length _ _ _ _

set_option maxRecDepth 100000 in
theorem markTree_l (x : Tr) (base : Nat) (a0 : Option Addr) (n0 c0 : Nat) (S : Nat → Prop) (k : Nat) (w : World) (h : Cells w base [.slice a0 n0 c0] (Lay.tree.cells x) S) (hk : k + 5 * Lay.tree.wt x ≤ 8388608) :
    Calls Try.prog 18 #[.agg #[.slice a0 n0 c0], .int .i64 (k : Int)] w fun e w' => e = .returned (.int .i64 ((k + cntTree x : Nat) : Int)) ∧ Cells w' base [.slice a0 n0 c0] (Lay.tree.cells (mkTree k x)) S ∧ Within w w' S := by
  have hO : OD w base (.slice a0 n0 c0) (slD Lay.node x.nodes) S := Cells.od h
  have B := (Below.refl w.heap.size w).alloc (Nat.le_refl _) (.cells #[.slice a0 n0 c0] 25)
  have X := markNodeS_l x.nodes base _ S k _ (hO.later B) hk
  have hcnt : cntNodeS x.nodes = cntTree x := rfl
  have hmk : Hid (∀ W, OD W base (.slice a0 n0 c0) (slD Lay.node (mkNodeS k x.nodes)) S → Cells W base [.slice a0 n0 c0] (Lay.tree.cells (mkTree k x)) S) := fun W h => Cells.one h
  have hle := cntTree_le x
  rw [hcnt] at X
  clear h hO hcnt
  generalize cntTree x = ck at *
  go_enter Try.func18, Try.ntmps18
  go_wp2_with fail
  refine X.mono ?_
  rintro e w1 ⟨rfl, hx, hw⟩
  have HX := hmk.out _ hx
  have hW : Within w w1 S := (Within.of_below B S).trans hw
  clear X hmk hx hw
  go_wp2
  go_ret
  exact ⟨rfl, HX, hW⟩

set_option maxRecDepth 100000 in
theorem heldTree_l (x : Tr) (a0 : Option Addr) (n0 c0 : Nat) (k : Nat) (w : World) (h : RD w (.slice a0 n0 c0) (slD Lay.node (mkTree k x).nodes)) (hk : k + 5 * Lay.tree.wt x ≤ 8388608) :
    Calls Try.prog 21 #[.agg #[.slice a0 n0 c0], .int .i64 (k : Int)] w fun e w' => e = .returned (.int .i64 ((k + cntTree x : Nat) : Int)) ∧ Below w.heap.size w w' := by
  have B := (Below.refl w.heap.size w).alloc (Nat.le_refl _) (.cells #[.slice a0 n0 c0] 25)
  have X := heldNodeS_l x.nodes a0 n0 c0 k _ (h.later B) hk
  have hcnt : cntNodeS x.nodes = cntTree x := rfl
  have hle := cntTree_le x
  rw [hcnt] at X
  clear h hcnt
  generalize cntTree x = ck at *
  go_enter Try.func21, Try.ntmps21
  go_wp2_with fail
  refine X.mono ?_
  rintro e w1 ⟨rfl, hb⟩
  have B1 := B.trans (hb.mono B.size)
  clear X hb
  go_wp2
  go_ret
  exact ⟨rfl, B1⟩

end Go.Proofs.Ythnppodnjokaoab
