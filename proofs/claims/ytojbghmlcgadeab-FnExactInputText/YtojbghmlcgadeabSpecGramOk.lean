/-
  Contract of spec.GramOk over this translation. No statement is proved here.
-/
import Derived.Test.YtojbghmlcgadeabHGram
import Derived.Test.YtojbghmlcgadeabSpecIn
namespace Go.Proofs.Ytojbghmlcgadeab
open Go.RowKit

/-- What GramOk answers. -/
def resGramOk (x : Gm) : Bool := gramOkB x.parts

end Go.Proofs.Ytojbghmlcgadeab
