/-
  Contracts and plain mathematics, joined: MIntS, MIntSS, MIntSSS. No statement is proved here.
-/
import Derived.Test.YthnppodnjokaoaaGreatDoorG6
import Derived.Test.YthnppodnjokaoaaGreatDoorG5
namespace Go.Proofs.YthnppodnjokaoaaGreatDoor
open Go.RowKit

end Go.Proofs.YthnppodnjokaoaaGreatDoor
namespace Go.Proofs.YthnppodnjokaoaaGreatDoor
open Go.RowKit

def cntIntSS : List (List Int) → Nat := cntL cntIntS
def mkIntSS : Nat → List (List Int) → List (List Int) := mkL cntIntS mkIntS
theorem cntIntSS_le (xs : List (List Int)) : cntIntSS xs ≤ (Lay.list (Lay.list Lay.int)).wt xs := cntL_le _ (fun x => by have := cntIntS_le x; omega) xs
theorem cntIntSS_room {xs : List (List Int)} {j k M : Nat} (hlt : j < xs.length) (hk : k + (xs.length + (Lay.list Lay.int).sumL xs) ≤ M) : k + cntIntSS (xs.take j) + (Lay.list Lay.int).wt xs[j] ≤ M := by
  have h1 := cntIntSS_le (xs.take j)
  rw [Lay.wt_list, List.length_take] at h1
  have h2 := Lay.sumL_take (Lay.list Lay.int) hlt
  have h3 := Lay.sumL_take_le (Lay.list Lay.int) xs (j + 1)
  omega

end Go.Proofs.YthnppodnjokaoaaGreatDoor
namespace Go.Proofs.YthnppodnjokaoaaGreatDoor
open Go.RowKit

def cntIntSSS : List (List (List Int)) → Nat := cntL cntIntSS
def mkIntSSS : Nat → List (List (List Int)) → List (List (List Int)) := mkL cntIntSS mkIntSS
theorem cntIntSSS_le (xs : List (List (List Int))) : cntIntSSS xs ≤ (Lay.list (Lay.list (Lay.list Lay.int))).wt xs := cntL_le _ (fun x => by have := cntIntSS_le x; omega) xs
theorem cntIntSSS_room {xs : List (List (List Int))} {j k M : Nat} (hlt : j < xs.length) (hk : k + (xs.length + (Lay.list (Lay.list Lay.int)).sumL xs) ≤ M) : k + cntIntSSS (xs.take j) + (Lay.list (Lay.list Lay.int)).wt xs[j] ≤ M := by
  have h1 := cntIntSSS_le (xs.take j)
  rw [Lay.wt_list, List.length_take] at h1
  have h2 := Lay.sumL_take (Lay.list (Lay.list Lay.int)) hlt
  have h3 := Lay.sumL_take_le (Lay.list (Lay.list Lay.int)) xs (j + 1)
  omega

end Go.Proofs.YthnppodnjokaoaaGreatDoor
