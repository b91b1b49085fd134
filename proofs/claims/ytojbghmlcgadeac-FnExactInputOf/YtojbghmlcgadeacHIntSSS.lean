/-
  Contracts of the law package's helpers on IntSSS over this translation. No statement is proved here.
-/
import Derived.Test.YtojbghmlcgadeacHIntSS
import Derived.Deep.RegionWith
namespace Go.Proofs.Ytojbghmlcgadeac
open Go.RowKit

end Go.Proofs.Ytojbghmlcgadeac
