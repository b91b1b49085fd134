/-
  What RunNew answers. Plain mathematics. No statement is proved here.
-/
import Derived.Test.YthnppodnjokaoabHRun
namespace Go.Proofs.Ythnppodnjokaoab
open Go.RowKit

def resRunNew : Rn := ⟨0, 0, 0, 0, [⟨100, -1⟩], ⟨[]⟩, []⟩
theorem resRunNew_le : Lay.run.wt resRunNew ≤ 1500000 := by decide
end Go.Proofs.Ythnppodnjokaoab
