/-
  Contract of spec.l1In over this translation. No statement is proved here.
-/
import Derived.Test.YthnppodnjokaoabChecked
import Derived.Test.YthnppodnjokaoabGramMath
namespace Go.Proofs.Ythnppodnjokaoab
open Go.RowKit

end Go.Proofs.Ythnppodnjokaoab
