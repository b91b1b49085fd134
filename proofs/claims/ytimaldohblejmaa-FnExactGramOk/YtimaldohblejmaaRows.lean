/-
  NARROWER THAN 'FOR EVERY INPUT', by the rows' own cells (each row's printed sentence says how): FnExactPlain: loops.
  DERIVED. THE GIVEN ROWS OF THIS SEAT. 3 by the template 'for every input the law returns true; each argument reads behind the call as it read before'; 0 by the template 'total and deterministic' (their statements: YtimaldohblejmaaTotals.lean).
  GIVEN WITH THE SEED: the statements are not yours to turn. If you find one false, say at which input.
  Laid BY PROGRAM, IN A SANDBOX (cutbox-rows.mjs): the forced cells as the released guide's own fill.sh prints them over the translation 60a0acd3ab4bfde4… (all of the seat's roots in one cut). By AI agents, Wed Nov 11 2026. No macro, syntax, notation, axiom, sorry.
-/
import Derived.Test.YtimaldohblejmaaChecked
import GoSem.Claim
import GoSem.ClaimJoined
import GoSem.ClaimMapViews
import Derived.JoinedTies
import Derived.KernelRfl
namespace Go.Proofs.Ytimaldohblejmaa
/- THE CELL 'sum', in the pinned program and in every row, IS THE sha256 OF THE DUMP (.gsa) THAT YtimaldohblejmaaProg.lean LOADS. Nothing in Lean hashes anything: it is a label: what it is worth is what the hold of that sum in a sandbox is worth. -/
noncomputable def Try.pinned : Pinned := { name := "ytimaldohblejmaa", sum := "60a0acd3ab4bfde421c70494f74f6d221d3e7ae4d9224d11779a5de00eb20c65", checked := Try.checked }
namespace Rows
def none {H : Type} : Left H := { results := [], args := [] }

/-- 'laws.FnRulesAgain': WHATEVER THE INPUT: true; the input reads as it did. -/
def fnRulesAgainSpec : ChangeSpec := { name := "fnRulesAgain", fn := fun _ => fun
  | [d] => { results := [.lit (.bool true)], args := [d] }
  | _ => none }
def fnRulesAgainRow : OpenClaim := { program := "ytimaldohblejmaa", sum := "60a0acd3ab4bfde421c70494f74f6d221d3e7ae4d9224d11779a5de00eb20c65", func := "loop.example/g00485/laws.FnRulesAgain", spec := "fnRulesAgain", inPlace := ["internal/bytealg.IndexByteString", "internal/abi.NoEscape"], unfollowed := true, recurses := true, apart := false }
def FnRulesAgainSaid : Prop := fnRulesAgainRow.holds Try.pinned (OpenSpec.ofChange fnRulesAgainSpec)

/-- ITS FALSE NEIGHBOUR: 'it returns false'. Refute it at one input. -/
def fnRulesAgainWrong : ChangeSpec := { name := "fnRulesAgain", fn := fun _ => fun
  | [d] => { results := [.lit (.bool false)], args := [d] }
  | _ => none }
def FnRulesAgainWrongFalsely : Prop := fnRulesAgainRow.holds Try.pinned (OpenSpec.ofChange fnRulesAgainWrong)

/-- 'laws.FnExactGramOk': WHATEVER THE INPUT: true; the input reads as it did. -/
def fnExactGramOkSpec : ChangeSpec := { name := "fnExactGramOk", fn := fun _ => fun
  | [d] => { results := [.lit (.bool true)], args := [d] }
  | _ => none }
def fnExactGramOkRow : OpenClaim := { program := "ytimaldohblejmaa", sum := "60a0acd3ab4bfde421c70494f74f6d221d3e7ae4d9224d11779a5de00eb20c65", func := "loop.example/g00485/laws.FnExactGramOk", spec := "fnExactGramOk", apart := false }
def FnExactGramOkSaid : Prop := fnExactGramOkRow.holds Try.pinned (OpenSpec.ofChange fnExactGramOkSpec)

/-- ITS FALSE NEIGHBOUR: 'it returns false'. Refute it at one input. -/
def fnExactGramOkWrong : ChangeSpec := { name := "fnExactGramOk", fn := fun _ => fun
  | [d] => { results := [.lit (.bool false)], args := [d] }
  | _ => none }
def FnExactGramOkWrongFalsely : Prop := fnExactGramOkRow.holds Try.pinned (OpenSpec.ofChange fnExactGramOkWrong)

/-- 'laws.FnExactPlain': WHATEVER THE INPUT: true; the input reads as it did. -/
def fnExactPlainSpec : ChangeSpec := { name := "fnExactPlain", fn := fun _ => fun
  | [d] => { results := [.lit (.bool true)], args := [d] }
  | _ => none }
def fnExactPlainRow : OpenClaim := { program := "ytimaldohblejmaa", sum := "60a0acd3ab4bfde421c70494f74f6d221d3e7ae4d9224d11779a5de00eb20c65", func := "loop.example/g00485/laws.FnExactPlain", spec := "fnExactPlain", recurses := true, loops := true, apart := false }
def FnExactPlainSaid : Prop := fnExactPlainRow.holds Try.pinned (OpenSpec.ofChange fnExactPlainSpec)

/-- ITS FALSE NEIGHBOUR: 'it returns false'. Refute it at one input. -/
def fnExactPlainWrong : ChangeSpec := { name := "fnExactPlain", fn := fun _ => fun
  | [d] => { results := [.lit (.bool false)], args := [d] }
  | _ => none }
def FnExactPlainWrongFalsely : Prop := fnExactPlainRow.holds Try.pinned (OpenSpec.ofChange fnExactPlainWrong)

/- THE SECOND FORM. 'bulk': how many values and letters a reading holds, each counted each time it is reached (what is shared counts as often as it is met; a slice's spare places count too). A statement '..UptoSaid' is the law's where the arguments, and the package variables that the reading takes, are together of bulk at most 1048576: NARROWER than '..Said'. Prove '..Said' where nothing that the law and all that it calls make is longer than what came in: it says more and counts as full. Else prove '..UptoSaid'. A law counts once. -/
mutual
def uptoBulk {H : Type} : DataW H → Nat
  | .lit (.string bytes) => bytes.length + 1
  | .lit _ => 1
  | .nil => 1
  | .ptr d => uptoBulk d + 1
  | .slice elems spare => uptoBulkAll elems + uptoBulkAll spare + 1
  | .agg parts => uptoBulkAll parts + 1
  | .iface _ d => uptoBulk d + 1
  | .map entries => uptoBulkEntries entries + 1
  | .held _ => 1
def uptoBulkAll {H : Type} : List (DataW H) → Nat
  | [] => 0
  | d :: r => uptoBulk d + uptoBulkAll r
def uptoBulkEntries {H : Type} : List (Lit × DataW H) → Nat
  | [] => 0
  | x :: r => uptoBulkEntry x + uptoBulkEntries r
def uptoBulkEntry {H : Type} : Lit × DataW H → Nat
  | (.string bytes, d) => bytes.length + uptoBulk d + 1
  | (_, d) => uptoBulk d + 1
 end
def uptoSmall : (H : Type) → List (DataW H) → Bool := fun _ ds => decide (uptoBulkAll ds ≤ 1048576)
def OpenSpec.upto (s : _root_.Go.ChangeSpec) : _root_.Go.OpenSpec := { _root_.Go.OpenSpec.ofChange s with cond := some uptoSmall }

/-- 'laws.FnRulesAgain', WHERE WHAT IT READS IS OF BULK AT MOST 1048576: true; the input reads as it did. -/
def fnRulesAgainUptoRow : OpenClaim := { program := "ytimaldohblejmaa", sum := "60a0acd3ab4bfde421c70494f74f6d221d3e7ae4d9224d11779a5de00eb20c65", func := "loop.example/g00485/laws.FnRulesAgain", spec := "fnRulesAgain", inPlace := ["internal/bytealg.IndexByteString", "internal/abi.NoEscape"], unfollowed := true, recurses := true, apart := false, narrowed := true }
def FnRulesAgainUptoSaid : Prop := fnRulesAgainUptoRow.holds Try.pinned (OpenSpec.upto fnRulesAgainSpec)

/-- 'laws.FnExactGramOk', WHERE WHAT IT READS IS OF BULK AT MOST 1048576: true; the input reads as it did. -/
def fnExactGramOkUptoRow : OpenClaim := { program := "ytimaldohblejmaa", sum := "60a0acd3ab4bfde421c70494f74f6d221d3e7ae4d9224d11779a5de00eb20c65", func := "loop.example/g00485/laws.FnExactGramOk", spec := "fnExactGramOk", apart := false, narrowed := true }
def FnExactGramOkUptoSaid : Prop := fnExactGramOkUptoRow.holds Try.pinned (OpenSpec.upto fnExactGramOkSpec)

/-- 'laws.FnExactPlain', WHERE WHAT IT READS IS OF BULK AT MOST 1048576: true; the input reads as it did. -/
def fnExactPlainUptoRow : OpenClaim := { program := "ytimaldohblejmaa", sum := "60a0acd3ab4bfde421c70494f74f6d221d3e7ae4d9224d11779a5de00eb20c65", func := "loop.example/g00485/laws.FnExactPlain", spec := "fnExactPlain", recurses := true, loops := true, apart := false, narrowed := true }
def FnExactPlainUptoSaid : Prop := fnExactPlainUptoRow.holds Try.pinned (OpenSpec.upto fnExactPlainSpec)

end Rows
end Go.Proofs.Ytimaldohblejmaa
