/-
  spec.InputText's contract lies in the text on InputText. No statement is proved here.
-/
import Derived.Test.YtojbghmlcgadeabInputText
