/-
  Contracts of the law package's markIntS and heldIntS over this translation. No statement is proved here.
-/
import Derived.Test.YtojbghmlcgadeabHIntS
import Derived.Test.YtojbghmlcgadeabMarkLib
namespace Go.Proofs.Ytojbghmlcgadeab
open Go.RowKit

end Go.Proofs.Ytojbghmlcgadeab
