/-
  DERIVED. GIVEN WITH THE SEED: THE CARDS: each row of YtomaanpmjlgpfaaDoorRows.lean that lists a variable, with what it lists TIED to the program's text (the seventh form; the later family's looks); each row that meets fmt, with fmt's text TOLD by the authors' own Lean function (tested against real Go, not proved from fmt's source: count such statements apart). THE CARD IS WHAT COUNTS. Prove the row's statement (the work); the ties are given (YtomaanpmjlgpfaaDoorTie.lean); close each card by the builder's one call (the guide's Derived/Test/ToyasCard.lean, 'card_holds'). Laid BY PROGRAM, IN A SANDBOX (cutbox-door.mjs). By AI agents, Wed Nov 11 2026. No macro, syntax, notation, axiom, sorry.
-/
import Derived.Test.YtomaanpmjlgpfaaDoorRows
import GoSem.ClaimSeven
namespace Go.Proofs.YtomaanpmjlgpfaaDoor
namespace Rows

/-- THE TIED CARD OF 'laws.FnExactShiftText'. -/
def fnExactShiftTextCard : Claim7 := { stood := { row := fnExactShiftTextRow, standIns := [], harness := (true, "fc300d4e5e258fc6d52beaa816b0fa397dde46f399e74b94f7f3a95af743b951"), looks := true }, kinds := [], alts := [], laidByText := true, laidKinds := [.data, .data, .data], laidTests := true, laidLooks := .later }
def FnExactShiftTextCardSaid : Prop := Claim7.holds Tryd.pinned (.plain (OpenSpec.ofChange fnExactShiftTextSpec)) fnExactShiftTextCard

/-- THE TIED CARD OF 'laws.FnExactParseShift'. -/
def fnExactParseShiftCard : Claim7 := { stood := { row := fnExactParseShiftRow, standIns := [], harness := (true, "fc300d4e5e258fc6d52beaa816b0fa397dde46f399e74b94f7f3a95af743b951"), looks := true }, kinds := [], alts := [], laidByText := true, laidKinds := [.data, .data, .data, .data, .sentinel, .sentinel, .pinned], laidTests := true, laidLooks := .later }
def FnExactParseShiftCardSaid : Prop := Claim7.holds Tryd.pinned (.plain (OpenSpec.ofChange fnExactParseShiftSpec)) fnExactParseShiftCard

/-- THE SECOND FORM's CARD OF 'laws.FnExactShiftText'. -/
def fnExactShiftTextUptoCard : Claim7 := { stood := { row := fnExactShiftTextUptoRow, standIns := [], harness := (true, "fc300d4e5e258fc6d52beaa816b0fa397dde46f399e74b94f7f3a95af743b951"), looks := true }, kinds := [], alts := [], laidByText := true, laidKinds := [.data, .data, .data], laidTests := true, laidLooks := .later }
def FnExactShiftTextUptoCardSaid : Prop := Claim7.holds Tryd.pinned (.plain (OpenSpec.upto fnExactShiftTextSpec)) fnExactShiftTextUptoCard

/-- THE SECOND FORM's CARD OF 'laws.FnExactParseShift'. -/
def fnExactParseShiftUptoCard : Claim7 := { stood := { row := fnExactParseShiftUptoRow, standIns := [], harness := (true, "fc300d4e5e258fc6d52beaa816b0fa397dde46f399e74b94f7f3a95af743b951"), looks := true }, kinds := [], alts := [], laidByText := true, laidKinds := [.data, .data, .data, .data, .sentinel, .sentinel, .pinned], laidTests := true, laidLooks := .later }
def FnExactParseShiftUptoCardSaid : Prop := Claim7.holds Tryd.pinned (.plain (OpenSpec.upto fnExactParseShiftSpec)) fnExactParseShiftUptoCard
end Rows
end Go.Proofs.YtomaanpmjlgpfaaDoor
