/-
  Contract of spec.GramOk over this translation. No statement is proved here.
-/
import Derived.Test.YtojbghmlcgadeacHGram
import Derived.Test.YtojbghmlcgadeacSpecIn
namespace Go.Proofs.Ytojbghmlcgadeac
open Go.RowKit

/-- What GramOk answers. -/
def resGramOk (x : Gm) : Bool := gramOkB x.parts

end Go.Proofs.Ytojbghmlcgadeac
