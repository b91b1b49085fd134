/-
  What the program's table says of the type int. No statement is proved here.
-/
import Derived.Test.YthnppodnjokaoabBase
import Derived.Test.YthnppodnjokaoabChecked
namespace Go.Proofs.Ythnppodnjokaoab
theorem Try.infoInt : (Try.prog.info? 3).map (fun i => (i.zero, i.size, i.bytes)) = some (some (.int .i64 0), 1, 8) := by kernel_rfl
end Go.Proofs.Ythnppodnjokaoab
