/-
  No cell of these rows narrows 'for every input' (looked for: loops, veiled, ifaces, maps, wideKeys, modest, calm, conditions, laid).
  DERIVED. THE GIVEN ROWS OF THIS SEAT. 3 by the template 'for every input the law returns true; each argument reads behind the call as it read before'; 0 by the template 'total and deterministic' (their statements: YtkbnafmkgiknbaaTotals.lean).
  GIVEN WITH THE SEED: the statements are not yours to turn. If you find one false, say at which input.
  Laid BY PROGRAM, IN A SANDBOX (cutbox-rows.mjs): the forced cells as the released guide's own fill.sh prints them over the translation 1db7a001dc2f90d1… (all of the seat's roots in one cut). By AI agents, Wed Nov 11 2026. No macro, syntax, notation, axiom, sorry.
-/
import Derived.Test.YtkbnafmkgiknbaaChecked
import GoSem.Claim
import GoSem.ClaimJoined
import GoSem.ClaimMapViews
import Derived.JoinedTies
import Derived.KernelRfl
namespace Go.Proofs.Ytkbnafmkgiknbaa
/- THE CELL 'sum', in the pinned program and in every row, IS THE sha256 OF THE DUMP (.gsa) THAT YtkbnafmkgiknbaaProg.lean LOADS. Nothing in Lean hashes anything: it is a label: what it is worth is what the hold of that sum in a sandbox is worth. -/
noncomputable def Try.pinned : Pinned := { name := "ytkbnafmkgiknbaa", sum := "1db7a001dc2f90d1bcedd25c1e392e5cce329ecf9da66f248ecdb363bf4b0c7a", checked := Try.checked }
namespace Rows
def none {H : Type} : Left H := { results := [], args := [] }

/-- 'laws.FnSets': WHATEVER THE INPUT: true; the input reads as it did. -/
def fnSetsSpec : ChangeSpec := { name := "fnSets", fn := fun _ => fun
  | [d] => { results := [.lit (.bool true)], args := [d] }
  | _ => none }
def fnSetsRow : OpenClaim := { program := "ytkbnafmkgiknbaa", sum := "1db7a001dc2f90d1bcedd25c1e392e5cce329ecf9da66f248ecdb363bf4b0c7a", func := "loop.example/g00485/laws.FnSets", spec := "fnSets", apart := false }
def FnSetsSaid : Prop := fnSetsRow.holds Try.pinned (OpenSpec.ofChange fnSetsSpec)

/-- ITS FALSE NEIGHBOUR: 'it returns false'. Refute it at one input. -/
def fnSetsWrong : ChangeSpec := { name := "fnSets", fn := fun _ => fun
  | [d] => { results := [.lit (.bool false)], args := [d] }
  | _ => none }
def FnSetsWrongFalsely : Prop := fnSetsRow.holds Try.pinned (OpenSpec.ofChange fnSetsWrong)

/-- 'laws.FnWordsAgain': WHATEVER THE INPUT: true; the input reads as it did. -/
def fnWordsAgainSpec : ChangeSpec := { name := "fnWordsAgain", fn := fun _ => fun
  | [d] => { results := [.lit (.bool true)], args := [d] }
  | _ => none }
def fnWordsAgainRow : OpenClaim := { program := "ytkbnafmkgiknbaa", sum := "1db7a001dc2f90d1bcedd25c1e392e5cce329ecf9da66f248ecdb363bf4b0c7a", func := "loop.example/g00485/laws.FnWordsAgain", spec := "fnWordsAgain", inPlace := ["internal/bytealg.IndexByteString", "internal/abi.NoEscape"], apart := false }
def FnWordsAgainSaid : Prop := fnWordsAgainRow.holds Try.pinned (OpenSpec.ofChange fnWordsAgainSpec)

/-- ITS FALSE NEIGHBOUR: 'it returns false'. Refute it at one input. -/
def fnWordsAgainWrong : ChangeSpec := { name := "fnWordsAgain", fn := fun _ => fun
  | [d] => { results := [.lit (.bool false)], args := [d] }
  | _ => none }
def FnWordsAgainWrongFalsely : Prop := fnWordsAgainRow.holds Try.pinned (OpenSpec.ofChange fnWordsAgainWrong)

/-- 'laws.FnRulesAgain': WHATEVER THE INPUT: true; the input reads as it did. -/
def fnRulesAgainSpec : ChangeSpec := { name := "fnRulesAgain", fn := fun _ => fun
  | [d] => { results := [.lit (.bool true)], args := [d] }
  | _ => none }
def fnRulesAgainRow : OpenClaim := { program := "ytkbnafmkgiknbaa", sum := "1db7a001dc2f90d1bcedd25c1e392e5cce329ecf9da66f248ecdb363bf4b0c7a", func := "loop.example/g00485/laws.FnRulesAgain", spec := "fnRulesAgain", inPlace := ["internal/bytealg.IndexByteString", "internal/abi.NoEscape"], unfollowed := true, recurses := true, apart := false }
def FnRulesAgainSaid : Prop := fnRulesAgainRow.holds Try.pinned (OpenSpec.ofChange fnRulesAgainSpec)

/-- ITS FALSE NEIGHBOUR: 'it returns false'. Refute it at one input. -/
def fnRulesAgainWrong : ChangeSpec := { name := "fnRulesAgain", fn := fun _ => fun
  | [d] => { results := [.lit (.bool false)], args := [d] }
  | _ => none }
def FnRulesAgainWrongFalsely : Prop := fnRulesAgainRow.holds Try.pinned (OpenSpec.ofChange fnRulesAgainWrong)

/- THE SECOND FORM. 'bulk': how many values and letters a reading holds, each counted each time it is reached (what is shared counts as often as it is met; a slice's spare places count too). A statement '..UptoSaid' is the law's where the arguments, and the package variables that the reading takes, are together of bulk at most 1048576: NARROWER than '..Said'. Prove '..Said' where nothing that the law and all that it calls make is longer than what came in: it says more and counts as full. Else prove '..UptoSaid'. A law counts once. -/
mutual
def uptoBulk {H : Type} : DataW H → Nat
  | .lit (.string bytes) => bytes.length + 1
  | .lit _ => 1
  | .nil => 1
  | .ptr d => uptoBulk d + 1
  | .slice elems spare => uptoBulkAll elems + uptoBulkAll spare + 1
  | .agg parts => uptoBulkAll parts + 1
  | .iface _ d => uptoBulk d + 1
  | .map entries => uptoBulkEntries entries + 1
  | .held _ => 1
def uptoBulkAll {H : Type} : List (DataW H) → Nat
  | [] => 0
  | d :: r => uptoBulk d + uptoBulkAll r
def uptoBulkEntries {H : Type} : List (Lit × DataW H) → Nat
  | [] => 0
  | x :: r => uptoBulkEntry x + uptoBulkEntries r
def uptoBulkEntry {H : Type} : Lit × DataW H → Nat
  | (.string bytes, d) => bytes.length + uptoBulk d + 1
  | (_, d) => uptoBulk d + 1
 end
def uptoSmall : (H : Type) → List (DataW H) → Bool := fun _ ds => decide (uptoBulkAll ds ≤ 1048576)
def OpenSpec.upto (s : _root_.Go.ChangeSpec) : _root_.Go.OpenSpec := { _root_.Go.OpenSpec.ofChange s with cond := some uptoSmall }

/-- 'laws.FnSets', WHERE WHAT IT READS IS OF BULK AT MOST 1048576: true; the input reads as it did. -/
def fnSetsUptoRow : OpenClaim := { program := "ytkbnafmkgiknbaa", sum := "1db7a001dc2f90d1bcedd25c1e392e5cce329ecf9da66f248ecdb363bf4b0c7a", func := "loop.example/g00485/laws.FnSets", spec := "fnSets", apart := false, narrowed := true }
def FnSetsUptoSaid : Prop := fnSetsUptoRow.holds Try.pinned (OpenSpec.upto fnSetsSpec)

/-- 'laws.FnWordsAgain', WHERE WHAT IT READS IS OF BULK AT MOST 1048576: true; the input reads as it did. -/
def fnWordsAgainUptoRow : OpenClaim := { program := "ytkbnafmkgiknbaa", sum := "1db7a001dc2f90d1bcedd25c1e392e5cce329ecf9da66f248ecdb363bf4b0c7a", func := "loop.example/g00485/laws.FnWordsAgain", spec := "fnWordsAgain", inPlace := ["internal/bytealg.IndexByteString", "internal/abi.NoEscape"], apart := false, narrowed := true }
def FnWordsAgainUptoSaid : Prop := fnWordsAgainUptoRow.holds Try.pinned (OpenSpec.upto fnWordsAgainSpec)

/-- 'laws.FnRulesAgain', WHERE WHAT IT READS IS OF BULK AT MOST 1048576: true; the input reads as it did. -/
def fnRulesAgainUptoRow : OpenClaim := { program := "ytkbnafmkgiknbaa", sum := "1db7a001dc2f90d1bcedd25c1e392e5cce329ecf9da66f248ecdb363bf4b0c7a", func := "loop.example/g00485/laws.FnRulesAgain", spec := "fnRulesAgain", inPlace := ["internal/bytealg.IndexByteString", "internal/abi.NoEscape"], unfollowed := true, recurses := true, apart := false, narrowed := true }
def FnRulesAgainUptoSaid : Prop := fnRulesAgainUptoRow.holds Try.pinned (OpenSpec.upto fnRulesAgainSpec)

end Rows
end Go.Proofs.Ytkbnafmkgiknbaa
