/-
  spec.InputOf's contract lies in the text on InputOf. No statement is proved here.
-/
import Derived.Test.YtojbghmlcgadeacInputOf
