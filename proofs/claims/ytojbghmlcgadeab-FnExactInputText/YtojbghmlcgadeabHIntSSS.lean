/-
  Contracts of the law package's helpers on IntSSS over this translation. No statement is proved here.
-/
import Derived.Test.YtojbghmlcgadeabHIntSS
import Derived.Deep.RegionWith
namespace Go.Proofs.Ytojbghmlcgadeab
open Go.RowKit

end Go.Proofs.Ytojbghmlcgadeab
