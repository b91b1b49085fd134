/-
  Contracts of the law package's markIntSSS and heldIntSSS over this translation. No statement is proved here.
-/
import Derived.Test.YtghpekijimoicaaDoorHIntSSS
import Derived.Test.YtghpekijimoicaaDoorMIntSS
namespace Go.Proofs.YtghpekijimoicaaDoor
open Go.RowKit

def cntIntSSS : List (List (List Int)) → Nat := cntL cntIntSS
def mkIntSSS : Nat → List (List (List Int)) → List (List (List Int)) := mkL cntIntSS mkIntSS
theorem cntIntSSS_le (xs : List (List (List Int))) : cntIntSSS xs ≤ (Lay.list (Lay.list (Lay.list Lay.int))).wt xs := cntL_le _ (fun x => by have := cntIntSS_le x; omega) xs
theorem cntIntSSS_room {xs : List (List (List Int))} {j k M : Nat} (hlt : j < xs.length) (hk : k + (xs.length + (Lay.list (Lay.list Lay.int)).sumL xs) ≤ M) : k + cntIntSSS (xs.take j) + (Lay.list (Lay.list Lay.int)).wt xs[j] ≤ M := by
  have h1 := cntIntSSS_le (xs.take j)
  rw [Lay.wt_list, List.length_take] at h1
  have h2 := Lay.sumL_take (Lay.list (Lay.list Lay.int)) hlt
  have h3 := Lay.sumL_take_le (Lay.list (Lay.list Lay.int)) xs (j + 1)
  omega

end Go.Proofs.YtghpekijimoicaaDoor
