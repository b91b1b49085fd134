/-
  NARROWER THAN 'FOR EVERY INPUT', by the rows' own cells (each row's printed sentence says how): FnExactSure: ifaces, laid · FnExactTreeOk: ifaces, laid.
  DERIVED. THE GIVEN ROWS OF THIS SEAT. 2 by the template 'for every input the law returns true; each argument reads behind the call as it read before'; 0 by the template 'total and deterministic' (their statements: YthnppodnjokaoaaDoorTotals.lean).
  GIVEN WITH THE SEED: the statements are not yours to turn. If you find one false, say at which input.
  Laid BY PROGRAM, IN A SANDBOX (cutbox-rows.mjs): the forced cells as the released guide's own fill.sh prints them over the translation 6f3a0ab1f36b248b… (all of the seat's roots in one cut). By AI agents, Wed Nov 11 2026. No macro, syntax, notation, axiom, sorry.
-/
import Derived.Test.YthnppodnjokaoaaDoorChecked
import GoSem.Claim
import GoSem.ClaimJoined
import GoSem.ClaimMapViews
import Derived.JoinedTies
import Derived.KernelRfl
namespace Go.Proofs.YthnppodnjokaoaaDoor
/- THE CELL 'sum', in the pinned program and in every row, IS THE sha256 OF THE DUMP (.gsa) THAT YthnppodnjokaoaaDoorProg.lean LOADS. Nothing in Lean hashes anything: it is a label: what it is worth is what the hold of that sum in a sandbox is worth. -/
noncomputable def Tryd.pinned : Pinned := { name := "ythnppodnjokaoaadoor", sum := "6f3a0ab1f36b248b73933958e2756803ff4c77f9fe4a2753cf764683931f9e00", checked := Tryd.checked }
namespace Rows
def none {H : Type} : Left H := { results := [], args := [] }

/- WHAT THE LISTED PACKAGE-LEVEL VARIABLES READ AS WHEN THE CALL BEGINS. Each datum BY PROGRAM (the guide's laid-datum.mjs) off the statement by which the dump's own 'gosem.cut.vars' lays the variable. In a bare row this is a premise. The card (YthnppodnjokaoaaDoorCards.lean) ties it to the program's text. -/
def laid_loop_example_g00485_impl_errBad {H : Type} : DataW H := .iface "*errors.errorString" (.ptr (.agg [.lit (.string [116, 104, 105, 115, 32, 105, 115, 32, 110, 111, 32, 103, 114, 97, 109, 109, 97, 114])]))
def laid_loop_example_g00485_impl_errLoop {H : Type} : DataW H := .iface "*errors.errorString" (.ptr (.agg [.lit (.string [97, 32, 112, 97, 114, 116, 32, 98, 101, 103, 105, 110, 115, 32, 119, 105, 116, 104, 32, 105, 116, 115, 101, 108, 102])]))
def laid_loop_example_g00485_impl_errDead {H : Type} : DataW H := .iface "*errors.errorString" (.ptr (.agg [.lit (.string [97, 32, 112, 97, 114, 116, 32, 98, 101, 99, 111, 109, 101, 115, 32, 110, 111, 32, 114, 111, 119, 32, 111, 102, 32, 108, 101, 116, 116, 101, 114, 115])]))
def laid_loop_example_g00485_impl_errFar {H : Type} : DataW H := .iface "*errors.errorString" (.ptr (.agg [.lit (.string [97, 32, 112, 97, 114, 116, 32, 105, 115, 32, 110, 111, 116, 32, 114, 101, 97, 99, 104, 101, 100])]))

/-- 'laws.FnExactSure': WHATEVER THE INPUT: true; the input reads as it did. -/
def fnExactSureSpec : ChangeSpec := { name := "fnExactSure", vars := ["loop.example/g00485/impl.errBad", "loop.example/g00485/impl.errLoop", "loop.example/g00485/impl.errDead", "loop.example/g00485/impl.errFar"], fn := fun _ => fun
  | [d1, d2, d3, d4, d5, g1, g2, g3, g4] => { results := [.lit (.bool true)], args := [d1, d2, d3, d4, d5], vars := [g1, g2, g3, g4] }
  | _ => none }
def fnExactSureRow : OpenClaim := { program := "ythnppodnjokaoaadoor", sum := "6f3a0ab1f36b248b73933958e2756803ff4c77f9fe4a2753cf764683931f9e00", func := "loop.example/g00485/laws.FnExactSure", spec := "fnExactSure", inPlace := ["internal/reflectlite.TypeOf"], unfollowed := true, recurses := true, named := ["loop.example/g00485/impl.errBad", "loop.example/g00485/impl.errLoop", "loop.example/g00485/impl.errDead", "loop.example/g00485/impl.errFar"], ifaces := true, apart := false, laid := [("loop.example/g00485/impl.errBad", laid_loop_example_g00485_impl_errBad), ("loop.example/g00485/impl.errLoop", laid_loop_example_g00485_impl_errLoop), ("loop.example/g00485/impl.errDead", laid_loop_example_g00485_impl_errDead), ("loop.example/g00485/impl.errFar", laid_loop_example_g00485_impl_errFar)] }
def FnExactSureSaid : Prop := fnExactSureRow.holds Tryd.pinned (OpenSpec.ofChange fnExactSureSpec)

/-- ITS FALSE NEIGHBOUR: 'it returns false'. Refute it at one input. -/
def fnExactSureWrong : ChangeSpec := { name := "fnExactSure", vars := ["loop.example/g00485/impl.errBad", "loop.example/g00485/impl.errLoop", "loop.example/g00485/impl.errDead", "loop.example/g00485/impl.errFar"], fn := fun _ => fun
  | [d1, d2, d3, d4, d5, g1, g2, g3, g4] => { results := [.lit (.bool false)], args := [d1, d2, d3, d4, d5], vars := [g1, g2, g3, g4] }
  | _ => none }
def FnExactSureWrongFalsely : Prop := fnExactSureRow.holds Tryd.pinned (OpenSpec.ofChange fnExactSureWrong)

/-- 'laws.FnExactTreeOk': WHATEVER THE INPUT: true; the input reads as it did. -/
def fnExactTreeOkSpec : ChangeSpec := { name := "fnExactTreeOk", vars := ["loop.example/g00485/impl.errBad", "loop.example/g00485/impl.errLoop", "loop.example/g00485/impl.errDead", "loop.example/g00485/impl.errFar"], fn := fun _ => fun
  | [d1, d2, d3, g1, g2, g3, g4] => { results := [.lit (.bool true)], args := [d1, d2, d3], vars := [g1, g2, g3, g4] }
  | _ => none }
def fnExactTreeOkRow : OpenClaim := { program := "ythnppodnjokaoaadoor", sum := "6f3a0ab1f36b248b73933958e2756803ff4c77f9fe4a2753cf764683931f9e00", func := "loop.example/g00485/laws.FnExactTreeOk", spec := "fnExactTreeOk", inPlace := ["internal/reflectlite.TypeOf"], unfollowed := true, recurses := true, named := ["loop.example/g00485/impl.errBad", "loop.example/g00485/impl.errLoop", "loop.example/g00485/impl.errDead", "loop.example/g00485/impl.errFar"], ifaces := true, apart := false, laid := [("loop.example/g00485/impl.errBad", laid_loop_example_g00485_impl_errBad), ("loop.example/g00485/impl.errLoop", laid_loop_example_g00485_impl_errLoop), ("loop.example/g00485/impl.errDead", laid_loop_example_g00485_impl_errDead), ("loop.example/g00485/impl.errFar", laid_loop_example_g00485_impl_errFar)] }
def FnExactTreeOkSaid : Prop := fnExactTreeOkRow.holds Tryd.pinned (OpenSpec.ofChange fnExactTreeOkSpec)

/-- ITS FALSE NEIGHBOUR: 'it returns false'. Refute it at one input. -/
def fnExactTreeOkWrong : ChangeSpec := { name := "fnExactTreeOk", vars := ["loop.example/g00485/impl.errBad", "loop.example/g00485/impl.errLoop", "loop.example/g00485/impl.errDead", "loop.example/g00485/impl.errFar"], fn := fun _ => fun
  | [d1, d2, d3, g1, g2, g3, g4] => { results := [.lit (.bool false)], args := [d1, d2, d3], vars := [g1, g2, g3, g4] }
  | _ => none }
def FnExactTreeOkWrongFalsely : Prop := fnExactTreeOkRow.holds Tryd.pinned (OpenSpec.ofChange fnExactTreeOkWrong)

/- THE SECOND FORM. 'bulk': how many values and letters a reading holds, each counted each time it is reached (what is shared counts as often as it is met; a slice's spare places count too). A statement '..UptoSaid' is the law's where the arguments, and the package variables that the reading takes, are together of bulk at most 1048576: NARROWER than '..Said'. Prove '..Said' where nothing that the law and all that it calls make is longer than what came in: it says more and counts as full. Else prove '..UptoSaid'. A law counts once. -/
mutual
def uptoBulk {H : Type} : DataW H → Nat
  | .lit (.string bytes) => bytes.length + 1
  | .lit _ => 1
  | .nil => 1
  | .ptr d => uptoBulk d + 1
  | .slice elems spare => uptoBulkAll elems + uptoBulkAll spare + 1
  | .agg parts => uptoBulkAll parts + 1
  | .iface _ d => uptoBulk d + 1
  | .map entries => uptoBulkEntries entries + 1
  | .held _ => 1
def uptoBulkAll {H : Type} : List (DataW H) → Nat
  | [] => 0
  | d :: r => uptoBulk d + uptoBulkAll r
def uptoBulkEntries {H : Type} : List (Lit × DataW H) → Nat
  | [] => 0
  | x :: r => uptoBulkEntry x + uptoBulkEntries r
def uptoBulkEntry {H : Type} : Lit × DataW H → Nat
  | (.string bytes, d) => bytes.length + uptoBulk d + 1
  | (_, d) => uptoBulk d + 1
 end
def uptoSmall : (H : Type) → List (DataW H) → Bool := fun _ ds => decide (uptoBulkAll ds ≤ 1048576)
def OpenSpec.upto (s : _root_.Go.ChangeSpec) : _root_.Go.OpenSpec := { _root_.Go.OpenSpec.ofChange s with cond := some uptoSmall }

/-- 'laws.FnExactSure', WHERE WHAT IT READS IS OF BULK AT MOST 1048576: true; the input reads as it did. -/
def fnExactSureUptoRow : OpenClaim := { program := "ythnppodnjokaoaadoor", sum := "6f3a0ab1f36b248b73933958e2756803ff4c77f9fe4a2753cf764683931f9e00", func := "loop.example/g00485/laws.FnExactSure", spec := "fnExactSure", inPlace := ["internal/reflectlite.TypeOf"], unfollowed := true, recurses := true, named := ["loop.example/g00485/impl.errBad", "loop.example/g00485/impl.errLoop", "loop.example/g00485/impl.errDead", "loop.example/g00485/impl.errFar"], ifaces := true, apart := false, laid := [("loop.example/g00485/impl.errBad", laid_loop_example_g00485_impl_errBad), ("loop.example/g00485/impl.errLoop", laid_loop_example_g00485_impl_errLoop), ("loop.example/g00485/impl.errDead", laid_loop_example_g00485_impl_errDead), ("loop.example/g00485/impl.errFar", laid_loop_example_g00485_impl_errFar)], narrowed := true }
def FnExactSureUptoSaid : Prop := fnExactSureUptoRow.holds Tryd.pinned (OpenSpec.upto fnExactSureSpec)

/-- 'laws.FnExactTreeOk', WHERE WHAT IT READS IS OF BULK AT MOST 1048576: true; the input reads as it did. -/
def fnExactTreeOkUptoRow : OpenClaim := { program := "ythnppodnjokaoaadoor", sum := "6f3a0ab1f36b248b73933958e2756803ff4c77f9fe4a2753cf764683931f9e00", func := "loop.example/g00485/laws.FnExactTreeOk", spec := "fnExactTreeOk", inPlace := ["internal/reflectlite.TypeOf"], unfollowed := true, recurses := true, named := ["loop.example/g00485/impl.errBad", "loop.example/g00485/impl.errLoop", "loop.example/g00485/impl.errDead", "loop.example/g00485/impl.errFar"], ifaces := true, apart := false, laid := [("loop.example/g00485/impl.errBad", laid_loop_example_g00485_impl_errBad), ("loop.example/g00485/impl.errLoop", laid_loop_example_g00485_impl_errLoop), ("loop.example/g00485/impl.errDead", laid_loop_example_g00485_impl_errDead), ("loop.example/g00485/impl.errFar", laid_loop_example_g00485_impl_errFar)], narrowed := true }
def FnExactTreeOkUptoSaid : Prop := fnExactTreeOkUptoRow.holds Tryd.pinned (OpenSpec.upto fnExactTreeOkSpec)

end Rows
end Go.Proofs.YthnppodnjokaoaaDoor
