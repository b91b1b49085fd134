/-
  Contracts and plain mathematics, joined: MGram. No statement is proved here.
-/
import Derived.Test.YthnppodnjokaoaaGreatDoorG14
import Derived.Test.YthnppodnjokaoaaGreatDoorG12
namespace Go.Proofs.YthnppodnjokaoaaGreatDoor
open Go.RowKit

def cntGram (x : Gm) : Nat := cntIntSSS x.parts
def mkGram (k : Nat) (x : Gm) : Gm := ⟨mkIntSSS k x.parts⟩
theorem cntGram_le (x : Gm) : cntGram x ≤ Lay.gram.wt x := cntIntSSS_le x.parts
theorem mkGram_len (k : Nat) (x : Gm) : (mkGram k x).parts.length = x.parts.length := mkL_length _ _ _ _

end Go.Proofs.YthnppodnjokaoaaGreatDoor
