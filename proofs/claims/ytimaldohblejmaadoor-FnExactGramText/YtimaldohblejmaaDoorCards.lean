/-
  DERIVED. GIVEN WITH THE SEED: THE CARDS: each row of YtimaldohblejmaaDoorRows.lean that lists a variable, with what it lists TIED to the program's text (the seventh form; the later family's looks); each row that meets fmt, with fmt's text TOLD by the authors' own Lean function (tested against real Go, not proved from fmt's source: count such statements apart). THE CARD IS WHAT COUNTS. Prove the row's statement (the work); the ties are given (YtimaldohblejmaaDoorTie.lean); close each card by the builder's one call (the guide's Derived/Test/ToyasCard.lean, 'card_holds'). Laid BY PROGRAM, IN A SANDBOX (cutbox-door.mjs). By AI agents, Wed Nov 11 2026. No macro, syntax, notation, axiom, sorry.
-/
import Derived.Test.YtimaldohblejmaaDoorRows
import GoSem.ClaimSeven
namespace Go.Proofs.YtimaldohblejmaaDoor
namespace Rows

/-- THE TIED CARD OF 'laws.FnPlainSays'. -/
def fnPlainSaysCard : Claim7 := { stood := { row := fnPlainSaysRow, standIns := [], harness := (true, "2ff078a0a74eb515c1f4eb4dda5cb5f5e91f9ca0e3fa2967d7b241df21ad01ef"), looks := false }, kinds := [], alts := [], laidByText := true, laidKinds := [.data, .data, .data], laidTests := true, laidLooks := .later }
def FnPlainSaysCardSaid : Prop := Claim7.holds Tryd.pinned (.plain (OpenSpec.ofChange fnPlainSaysSpec)) fnPlainSaysCard

/-- THE TIED CARD OF 'laws.FnExactGramText'. -/
def fnExactGramTextCard : Claim7 := { stood := { row := fnExactGramTextRow, standIns := [], harness := (true, "2ff078a0a74eb515c1f4eb4dda5cb5f5e91f9ca0e3fa2967d7b241df21ad01ef"), looks := false }, kinds := [], alts := [], laidByText := true, laidKinds := [.data, .data, .data], laidTests := true, laidLooks := .later }
def FnExactGramTextCardSaid : Prop := Claim7.holds Tryd.pinned (.plain (OpenSpec.ofChange fnExactGramTextSpec)) fnExactGramTextCard

/-- THE TIED CARD OF 'laws.FnExactRowText'. -/
def fnExactRowTextCard : Claim7 := { stood := { row := fnExactRowTextRow, standIns := [], harness := (true, "2ff078a0a74eb515c1f4eb4dda5cb5f5e91f9ca0e3fa2967d7b241df21ad01ef"), looks := false }, kinds := [], alts := [], laidByText := true, laidKinds := [.data, .data, .data], laidTests := true, laidLooks := .later }
def FnExactRowTextCardSaid : Prop := Claim7.holds Tryd.pinned (.plain (OpenSpec.ofChange fnExactRowTextSpec)) fnExactRowTextCard

/-- THE SECOND FORM's CARD OF 'laws.FnPlainSays'. -/
def fnPlainSaysUptoCard : Claim7 := { stood := { row := fnPlainSaysUptoRow, standIns := [], harness := (true, "2ff078a0a74eb515c1f4eb4dda5cb5f5e91f9ca0e3fa2967d7b241df21ad01ef"), looks := false }, kinds := [], alts := [], laidByText := true, laidKinds := [.data, .data, .data], laidTests := true, laidLooks := .later }
def FnPlainSaysUptoCardSaid : Prop := Claim7.holds Tryd.pinned (.plain (OpenSpec.upto fnPlainSaysSpec)) fnPlainSaysUptoCard

/-- THE SECOND FORM's CARD OF 'laws.FnExactGramText'. -/
def fnExactGramTextUptoCard : Claim7 := { stood := { row := fnExactGramTextUptoRow, standIns := [], harness := (true, "2ff078a0a74eb515c1f4eb4dda5cb5f5e91f9ca0e3fa2967d7b241df21ad01ef"), looks := false }, kinds := [], alts := [], laidByText := true, laidKinds := [.data, .data, .data], laidTests := true, laidLooks := .later }
def FnExactGramTextUptoCardSaid : Prop := Claim7.holds Tryd.pinned (.plain (OpenSpec.upto fnExactGramTextSpec)) fnExactGramTextUptoCard

/-- THE SECOND FORM's CARD OF 'laws.FnExactRowText'. -/
def fnExactRowTextUptoCard : Claim7 := { stood := { row := fnExactRowTextUptoRow, standIns := [], harness := (true, "2ff078a0a74eb515c1f4eb4dda5cb5f5e91f9ca0e3fa2967d7b241df21ad01ef"), looks := false }, kinds := [], alts := [], laidByText := true, laidKinds := [.data, .data, .data], laidTests := true, laidLooks := .later }
def FnExactRowTextUptoCardSaid : Prop := Claim7.holds Tryd.pinned (.plain (OpenSpec.upto fnExactRowTextSpec)) fnExactRowTextUptoCard
end Rows
end Go.Proofs.YtimaldohblejmaaDoor
