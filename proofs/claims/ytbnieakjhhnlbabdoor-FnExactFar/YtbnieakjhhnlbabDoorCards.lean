/-
  DERIVED. GIVEN WITH THE SEED: THE CARDS: each row of YtbnieakjhhnlbabDoorRows.lean that lists a variable, with what it lists TIED to the program's text (the seventh form; the later family's looks); each row that meets fmt, with fmt's text TOLD by the authors' own Lean function (tested against real Go, not proved from fmt's source: count such statements apart). THE CARD IS WHAT COUNTS. Prove the row's statement (the work); the ties are given (YtbnieakjhhnlbabDoorTie.lean); close each card by the builder's one call (the guide's Derived/Test/ToyasCard.lean, 'card_holds'). Laid BY PROGRAM, IN A SANDBOX (cutbox-door.mjs). By AI agents, Wed Nov 11 2026. No macro, syntax, notation, axiom, sorry.
-/
import Derived.Test.YtbnieakjhhnlbabDoorRows
import GoSem.ClaimSeven
namespace Go.Proofs.YtbnieakjhhnlbabDoor
namespace Rows

/-- THE TIED CARD OF 'laws.FnExactFar'. -/
def fnExactFarCard : Claim7 := { stood := { row := fnExactFarRow, standIns := [], harness := (true, "bf8a35236a53256725b020c1d1ee13b8e0865abc41c76425e6bccd273265e13c"), looks := true }, kinds := [], alts := [], laidByText := true, laidKinds := [.sentinel, .sentinel, .sentinel, .sentinel], laidTests := true, laidLooks := .later }
def FnExactFarCardSaid : Prop := Claim7.holds Tryd.pinned (.plain (OpenSpec.ofChange fnExactFarSpec)) fnExactFarCard

/-- THE SECOND FORM's CARD OF 'laws.FnExactFar'. -/
def fnExactFarUptoCard : Claim7 := { stood := { row := fnExactFarUptoRow, standIns := [], harness := (true, "bf8a35236a53256725b020c1d1ee13b8e0865abc41c76425e6bccd273265e13c"), looks := true }, kinds := [], alts := [], laidByText := true, laidKinds := [.sentinel, .sentinel, .sentinel, .sentinel], laidTests := true, laidLooks := .later }
def FnExactFarUptoCardSaid : Prop := Claim7.holds Tryd.pinned (.plain (OpenSpec.upto fnExactFarSpec)) fnExactFarUptoCard
end Rows
end Go.Proofs.YtbnieakjhhnlbabDoor
