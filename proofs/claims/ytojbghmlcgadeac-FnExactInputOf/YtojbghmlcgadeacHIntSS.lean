/-
  Contracts of the law package's helpers on IntSS over this translation. No statement is proved here.
-/
import Derived.Test.YtojbghmlcgadeacHIntS
import Derived.Deep.RegionWith
namespace Go.Proofs.Ytojbghmlcgadeac
open Go.RowKit

theorem Try.infoIntS : (Try.prog.info? 22).map (fun i => (i.zero, i.size, i.bytes)) = some (some (.slice none 0 0), 1, 24) := by kernel_rfl

end Go.Proofs.Ytojbghmlcgadeac
