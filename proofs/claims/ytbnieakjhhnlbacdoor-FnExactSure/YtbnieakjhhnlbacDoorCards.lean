/-
  DERIVED. GIVEN WITH THE SEED: THE CARDS: each row of YtbnieakjhhnlbacDoorRows.lean that lists a variable, with what it lists TIED to the program's text (the seventh form; the later family's looks); each row that meets fmt, with fmt's text TOLD by the authors' own Lean function (tested against real Go, not proved from fmt's source: count such statements apart). THE CARD IS WHAT COUNTS. Prove the row's statement (the work); the ties are given (YtbnieakjhhnlbacDoorTie.lean); close each card by the builder's one call (the guide's Derived/Test/ToyasCard.lean, 'card_holds'). Laid BY PROGRAM, IN A SANDBOX (cutbox-door.mjs). By AI agents, Wed Nov 11 2026. No macro, syntax, notation, axiom, sorry.
-/
import Derived.Test.YtbnieakjhhnlbacDoorRows
import GoSem.ClaimSeven
namespace Go.Proofs.YtbnieakjhhnlbacDoor
namespace Rows

/-- THE TIED CARD OF 'laws.FnExactSure'. -/
def fnExactSureCard : Claim7 := { stood := { row := fnExactSureRow, standIns := [], harness := (true, "de94181d819943ce8afc12d2c77b2dc273321032fa94be99221485f1c726a36f"), looks := true }, kinds := [], alts := [], laidByText := true, laidKinds := [.sentinel, .sentinel, .sentinel, .sentinel], laidTests := true, laidLooks := .later }
def FnExactSureCardSaid : Prop := Claim7.holds Tryd.pinned (.plain (OpenSpec.ofChange fnExactSureSpec)) fnExactSureCard

/-- THE SECOND FORM's CARD OF 'laws.FnExactSure'. -/
def fnExactSureUptoCard : Claim7 := { stood := { row := fnExactSureUptoRow, standIns := [], harness := (true, "de94181d819943ce8afc12d2c77b2dc273321032fa94be99221485f1c726a36f"), looks := true }, kinds := [], alts := [], laidByText := true, laidKinds := [.sentinel, .sentinel, .sentinel, .sentinel], laidTests := true, laidLooks := .later }
def FnExactSureUptoCardSaid : Prop := Claim7.holds Tryd.pinned (.plain (OpenSpec.upto fnExactSureSpec)) fnExactSureUptoCard
end Rows
end Go.Proofs.YtbnieakjhhnlbacDoor
