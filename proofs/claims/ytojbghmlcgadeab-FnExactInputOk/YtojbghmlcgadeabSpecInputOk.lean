/-
  spec.InputOk's contract lies in the text on InputOk. No statement is proved here.
-/
import Derived.Test.YtojbghmlcgadeabInputOk
