/-
  Contracts of the law package's markIntS and heldIntS over this translation. No statement is proved here.
-/
import Derived.Test.YtghpekijimoicaaDoorHIntS
import Derived.Test.YtghpekijimoicaaDoorMarkLib
namespace Go.Proofs.YtghpekijimoicaaDoor
open Go.RowKit

end Go.Proofs.YtghpekijimoicaaDoor
