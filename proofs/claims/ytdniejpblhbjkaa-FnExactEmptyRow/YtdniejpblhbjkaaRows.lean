/-
  No cell of these rows narrows 'for every input' (looked for: loops, veiled, ifaces, maps, wideKeys, modest, calm, conditions, laid).
  DERIVED. THE GIVEN ROWS OF THIS SEAT. 5 by the template 'for every input the law returns true; each argument reads behind the call as it read before'; 0 by the template 'total and deterministic' (their statements: YtdniejpblhbjkaaTotals.lean).
  GIVEN WITH THE SEED: the statements are not yours to turn. If you find one false, say at which input.
  Laid BY PROGRAM, IN A SANDBOX (cutbox-rows.mjs): the forced cells as the released guide's own fill.sh prints them over the translation 9bee78a446b368a4… (all of the seat's roots in one cut). By AI agents, Wed Nov 11 2026. No macro, syntax, notation, axiom, sorry.
-/
import Derived.Test.YtdniejpblhbjkaaChecked
import GoSem.Claim
import GoSem.ClaimJoined
import GoSem.ClaimMapViews
import Derived.JoinedTies
import Derived.KernelRfl
namespace Go.Proofs.Ytdniejpblhbjkaa
/- THE CELL 'sum', in the pinned program and in every row, IS THE sha256 OF THE DUMP (.gsa) THAT YtdniejpblhbjkaaProg.lean LOADS. Nothing in Lean hashes anything: it is a label: what it is worth is what the hold of that sum in a sandbox is worth. -/
noncomputable def Try.pinned : Pinned := { name := "ytdniejpblhbjkaa", sum := "9bee78a446b368a469109fbd22f1740849f8e2cbb45b21b52b890c071e45db56", checked := Try.checked }
namespace Rows
def none {H : Type} : Left H := { results := [], args := [] }

/-- 'laws.FnRulesAgain': WHATEVER THE INPUT: true; the input reads as it did. -/
def fnRulesAgainSpec : ChangeSpec := { name := "fnRulesAgain", fn := fun _ => fun
  | [d] => { results := [.lit (.bool true)], args := [d] }
  | _ => none }
def fnRulesAgainRow : OpenClaim := { program := "ytdniejpblhbjkaa", sum := "9bee78a446b368a469109fbd22f1740849f8e2cbb45b21b52b890c071e45db56", func := "loop.example/g00485/laws.FnRulesAgain", spec := "fnRulesAgain", inPlace := ["internal/bytealg.IndexByteString", "internal/abi.NoEscape"], unfollowed := true, recurses := true, apart := false }
def FnRulesAgainSaid : Prop := fnRulesAgainRow.holds Try.pinned (OpenSpec.ofChange fnRulesAgainSpec)

/-- ITS FALSE NEIGHBOUR: 'it returns false'. Refute it at one input. -/
def fnRulesAgainWrong : ChangeSpec := { name := "fnRulesAgain", fn := fun _ => fun
  | [d] => { results := [.lit (.bool false)], args := [d] }
  | _ => none }
def FnRulesAgainWrongFalsely : Prop := fnRulesAgainRow.holds Try.pinned (OpenSpec.ofChange fnRulesAgainWrong)

/-- 'laws.FnFirsts': WHATEVER THE INPUT: true; the input reads as it did. -/
def fnFirstsSpec : ChangeSpec := { name := "fnFirsts", fn := fun _ => fun
  | [d] => { results := [.lit (.bool true)], args := [d] }
  | _ => none }
def fnFirstsRow : OpenClaim := { program := "ytdniejpblhbjkaa", sum := "9bee78a446b368a469109fbd22f1740849f8e2cbb45b21b52b890c071e45db56", func := "loop.example/g00485/laws.FnFirsts", spec := "fnFirsts", unfollowed := true, recurses := true, apart := false }
def FnFirstsSaid : Prop := fnFirstsRow.holds Try.pinned (OpenSpec.ofChange fnFirstsSpec)

/-- ITS FALSE NEIGHBOUR: 'it returns false'. Refute it at one input. -/
def fnFirstsWrong : ChangeSpec := { name := "fnFirsts", fn := fun _ => fun
  | [d] => { results := [.lit (.bool false)], args := [d] }
  | _ => none }
def FnFirstsWrongFalsely : Prop := fnFirstsRow.holds Try.pinned (OpenSpec.ofChange fnFirstsWrong)

/-- 'laws.FnFollows': WHATEVER THE INPUT: true; the input reads as it did. -/
def fnFollowsSpec : ChangeSpec := { name := "fnFollows", fn := fun _ => fun
  | [d] => { results := [.lit (.bool true)], args := [d] }
  | _ => none }
def fnFollowsRow : OpenClaim := { program := "ytdniejpblhbjkaa", sum := "9bee78a446b368a469109fbd22f1740849f8e2cbb45b21b52b890c071e45db56", func := "loop.example/g00485/laws.FnFollows", spec := "fnFollows", unfollowed := true, recurses := true, apart := false }
def FnFollowsSaid : Prop := fnFollowsRow.holds Try.pinned (OpenSpec.ofChange fnFollowsSpec)

/-- ITS FALSE NEIGHBOUR: 'it returns false'. Refute it at one input. -/
def fnFollowsWrong : ChangeSpec := { name := "fnFollows", fn := fun _ => fun
  | [d] => { results := [.lit (.bool false)], args := [d] }
  | _ => none }
def FnFollowsWrongFalsely : Prop := fnFollowsRow.holds Try.pinned (OpenSpec.ofChange fnFollowsWrong)

/-- 'laws.FnExactEmpties': WHATEVER THE INPUT: true; the input reads as it did. -/
def fnExactEmptiesSpec : ChangeSpec := { name := "fnExactEmpties", fn := fun _ => fun
  | [d] => { results := [.lit (.bool true)], args := [d] }
  | _ => none }
def fnExactEmptiesRow : OpenClaim := { program := "ytdniejpblhbjkaa", sum := "9bee78a446b368a469109fbd22f1740849f8e2cbb45b21b52b890c071e45db56", func := "loop.example/g00485/laws.FnExactEmpties", spec := "fnExactEmpties", unfollowed := true, recurses := true, apart := false }
def FnExactEmptiesSaid : Prop := fnExactEmptiesRow.holds Try.pinned (OpenSpec.ofChange fnExactEmptiesSpec)

/-- ITS FALSE NEIGHBOUR: 'it returns false'. Refute it at one input. -/
def fnExactEmptiesWrong : ChangeSpec := { name := "fnExactEmpties", fn := fun _ => fun
  | [d] => { results := [.lit (.bool false)], args := [d] }
  | _ => none }
def FnExactEmptiesWrongFalsely : Prop := fnExactEmptiesRow.holds Try.pinned (OpenSpec.ofChange fnExactEmptiesWrong)

/-- 'laws.FnExactEmptyRow': WHATEVER THE INPUT: true; the input reads as it did. -/
def fnExactEmptyRowSpec : ChangeSpec := { name := "fnExactEmptyRow", fn := fun _ => fun
  | [d1, d2] => { results := [.lit (.bool true)], args := [d1, d2] }
  | _ => none }
def fnExactEmptyRowRow : OpenClaim := { program := "ytdniejpblhbjkaa", sum := "9bee78a446b368a469109fbd22f1740849f8e2cbb45b21b52b890c071e45db56", func := "loop.example/g00485/laws.FnExactEmptyRow", spec := "fnExactEmptyRow", unfollowed := true, recurses := true, apart := false }
def FnExactEmptyRowSaid : Prop := fnExactEmptyRowRow.holds Try.pinned (OpenSpec.ofChange fnExactEmptyRowSpec)

/-- ITS FALSE NEIGHBOUR: 'it returns false'. Refute it at one input. -/
def fnExactEmptyRowWrong : ChangeSpec := { name := "fnExactEmptyRow", fn := fun _ => fun
  | [d1, d2] => { results := [.lit (.bool false)], args := [d1, d2] }
  | _ => none }
def FnExactEmptyRowWrongFalsely : Prop := fnExactEmptyRowRow.holds Try.pinned (OpenSpec.ofChange fnExactEmptyRowWrong)

/- THE SECOND FORM. 'bulk': how many values and letters a reading holds, each counted each time it is reached (what is shared counts as often as it is met; a slice's spare places count too). A statement '..UptoSaid' is the law's where the arguments, and the package variables that the reading takes, are together of bulk at most 1048576: NARROWER than '..Said'. Prove '..Said' where nothing that the law and all that it calls make is longer than what came in: it says more and counts as full. Else prove '..UptoSaid'. A law counts once. -/
mutual
def uptoBulk {H : Type} : DataW H → Nat
  | .lit (.string bytes) => bytes.length + 1
  | .lit _ => 1
  | .nil => 1
  | .ptr d => uptoBulk d + 1
  | .slice elems spare => uptoBulkAll elems + uptoBulkAll spare + 1
  | .agg parts => uptoBulkAll parts + 1
  | .iface _ d => uptoBulk d + 1
  | .map entries => uptoBulkEntries entries + 1
  | .held _ => 1
def uptoBulkAll {H : Type} : List (DataW H) → Nat
  | [] => 0
  | d :: r => uptoBulk d + uptoBulkAll r
def uptoBulkEntries {H : Type} : List (Lit × DataW H) → Nat
  | [] => 0
  | x :: r => uptoBulkEntry x + uptoBulkEntries r
def uptoBulkEntry {H : Type} : Lit × DataW H → Nat
  | (.string bytes, d) => bytes.length + uptoBulk d + 1
  | (_, d) => uptoBulk d + 1
 end
def uptoSmall : (H : Type) → List (DataW H) → Bool := fun _ ds => decide (uptoBulkAll ds ≤ 1048576)
def OpenSpec.upto (s : _root_.Go.ChangeSpec) : _root_.Go.OpenSpec := { _root_.Go.OpenSpec.ofChange s with cond := some uptoSmall }

/-- 'laws.FnRulesAgain', WHERE WHAT IT READS IS OF BULK AT MOST 1048576: true; the input reads as it did. -/
def fnRulesAgainUptoRow : OpenClaim := { program := "ytdniejpblhbjkaa", sum := "9bee78a446b368a469109fbd22f1740849f8e2cbb45b21b52b890c071e45db56", func := "loop.example/g00485/laws.FnRulesAgain", spec := "fnRulesAgain", inPlace := ["internal/bytealg.IndexByteString", "internal/abi.NoEscape"], unfollowed := true, recurses := true, apart := false, narrowed := true }
def FnRulesAgainUptoSaid : Prop := fnRulesAgainUptoRow.holds Try.pinned (OpenSpec.upto fnRulesAgainSpec)

/-- 'laws.FnFirsts', WHERE WHAT IT READS IS OF BULK AT MOST 1048576: true; the input reads as it did. -/
def fnFirstsUptoRow : OpenClaim := { program := "ytdniejpblhbjkaa", sum := "9bee78a446b368a469109fbd22f1740849f8e2cbb45b21b52b890c071e45db56", func := "loop.example/g00485/laws.FnFirsts", spec := "fnFirsts", unfollowed := true, recurses := true, apart := false, narrowed := true }
def FnFirstsUptoSaid : Prop := fnFirstsUptoRow.holds Try.pinned (OpenSpec.upto fnFirstsSpec)

/-- 'laws.FnFollows', WHERE WHAT IT READS IS OF BULK AT MOST 1048576: true; the input reads as it did. -/
def fnFollowsUptoRow : OpenClaim := { program := "ytdniejpblhbjkaa", sum := "9bee78a446b368a469109fbd22f1740849f8e2cbb45b21b52b890c071e45db56", func := "loop.example/g00485/laws.FnFollows", spec := "fnFollows", unfollowed := true, recurses := true, apart := false, narrowed := true }
def FnFollowsUptoSaid : Prop := fnFollowsUptoRow.holds Try.pinned (OpenSpec.upto fnFollowsSpec)

/-- 'laws.FnExactEmpties', WHERE WHAT IT READS IS OF BULK AT MOST 1048576: true; the input reads as it did. -/
def fnExactEmptiesUptoRow : OpenClaim := { program := "ytdniejpblhbjkaa", sum := "9bee78a446b368a469109fbd22f1740849f8e2cbb45b21b52b890c071e45db56", func := "loop.example/g00485/laws.FnExactEmpties", spec := "fnExactEmpties", unfollowed := true, recurses := true, apart := false, narrowed := true }
def FnExactEmptiesUptoSaid : Prop := fnExactEmptiesUptoRow.holds Try.pinned (OpenSpec.upto fnExactEmptiesSpec)

/-- 'laws.FnExactEmptyRow', WHERE WHAT IT READS IS OF BULK AT MOST 1048576: true; the input reads as it did. -/
def fnExactEmptyRowUptoRow : OpenClaim := { program := "ytdniejpblhbjkaa", sum := "9bee78a446b368a469109fbd22f1740849f8e2cbb45b21b52b890c071e45db56", func := "loop.example/g00485/laws.FnExactEmptyRow", spec := "fnExactEmptyRow", unfollowed := true, recurses := true, apart := false, narrowed := true }
def FnExactEmptyRowUptoSaid : Prop := fnExactEmptyRowUptoRow.holds Try.pinned (OpenSpec.upto fnExactEmptyRowSpec)

end Rows
end Go.Proofs.Ytdniejpblhbjkaa
