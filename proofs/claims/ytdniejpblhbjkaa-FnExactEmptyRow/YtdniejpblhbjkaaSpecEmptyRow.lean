/-
  spec.EmptyRow's contract lies in the text on Empties. No statement is proved here.
-/
import Derived.Test.YtdniejpblhbjkaaSpecEmpties
