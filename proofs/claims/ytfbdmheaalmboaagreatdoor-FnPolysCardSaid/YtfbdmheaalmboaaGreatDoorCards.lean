/-
  DERIVED. GIVEN WITH THE SEED: THE CARDS: each row of YtfbdmheaalmboaaGreatDoorRows.lean that lists a variable, with what it lists TIED to the program's text (the seventh form; the later family's looks); each row that meets fmt, with fmt's text TOLD by the authors' own Lean function (tested against real Go, not proved from fmt's source: count such statements apart). THE CARD IS WHAT COUNTS. Prove the row's statement (the work); the ties are given (YtfbdmheaalmboaaGreatDoorTie.lean); close each card by the builder's one call (the guide's Derived/Test/ToyasCard.lean, 'card_holds'). Laid BY PROGRAM, IN A SANDBOX (cutbox-door.mjs). By AI agents, Wed Nov 11 2026. No macro, syntax, notation, axiom, sorry.
-/
import Derived.Test.YtfbdmheaalmboaaGreatDoorRows
import GoSem.ClaimSeven
namespace Go.Proofs.YtfbdmheaalmboaaGreatDoor
namespace Rows

/-- THE TIED CARD OF 'laws.FnPolys'. -/
def fnPolysCard : Claim7 := { stood := { row := fnPolysRow, standIns := [], harness := (true, "85f4d841ea885af1e893b8631849ed4271fe308a3c1dfadbb1657b780cf434dc"), looks := false }, kinds := [], alts := [], laidByText := true, laidKinds := [.data, .data, .data], laidTests := true, laidLooks := .later }
def FnPolysCardSaid : Prop := Claim7.holds Tryz.pinned (.plain (OpenSpec.ofChange fnPolysSpec)) fnPolysCard

/-- THE SECOND FORM's CARD OF 'laws.FnPolys'. -/
def fnPolysUptoCard : Claim7 := { stood := { row := fnPolysUptoRow, standIns := [], harness := (true, "85f4d841ea885af1e893b8631849ed4271fe308a3c1dfadbb1657b780cf434dc"), looks := false }, kinds := [], alts := [], laidByText := true, laidKinds := [.data, .data, .data], laidTests := true, laidLooks := .later }
def FnPolysUptoCardSaid : Prop := Claim7.holds Tryz.pinned (.plain (OpenSpec.upto fnPolysSpec)) fnPolysUptoCard
end Rows
end Go.Proofs.YtfbdmheaalmboaaGreatDoor
