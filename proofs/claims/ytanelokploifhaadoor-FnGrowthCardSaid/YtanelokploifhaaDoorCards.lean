/-
  DERIVED. GIVEN WITH THE SEED: THE CARDS: each row of YtanelokploifhaaDoorRows.lean that lists a variable, with what it lists TIED to the program's text (the seventh form; the later family's looks); each row that meets fmt, with fmt's text TOLD by the authors' own Lean function (tested against real Go, not proved from fmt's source: count such statements apart). THE CARD IS WHAT COUNTS. Prove the row's statement (the work); the ties are given (YtanelokploifhaaDoorTie.lean); close each card by the builder's one call (the guide's Derived/Test/ToyasCard.lean, 'card_holds'). Laid BY PROGRAM, IN A SANDBOX (cutbox-door.mjs). By AI agents, Wed Nov 11 2026. No macro, syntax, notation, axiom, sorry.
-/
import Derived.Test.YtanelokploifhaaDoorRows
import GoSem.ClaimSeven
namespace Go.Proofs.YtanelokploifhaaDoor
namespace Rows

/-- THE TIED CARD OF 'laws.FnGrowth'. -/
def fnGrowthCard : Claim7 := { stood := { row := fnGrowthRow, standIns := [], harness := (true, "c26e2fd2288808b0b8d811bed6a538db2eee6f516b0d2473f58ade43b2d68d35"), looks := false }, kinds := [], alts := [], laidByText := true, laidKinds := [.data, .data, .data], laidTests := true, laidLooks := .later }
def FnGrowthCardSaid : Prop := Claim7.holds Tryd.pinned (.plain (OpenSpec.ofChange fnGrowthSpec)) fnGrowthCard

/-- THE TIED CARD OF 'laws.FnExactGrowthText'. -/
def fnExactGrowthTextCard : Claim7 := { stood := { row := fnExactGrowthTextRow, standIns := [], harness := (true, "c26e2fd2288808b0b8d811bed6a538db2eee6f516b0d2473f58ade43b2d68d35"), looks := false }, kinds := [], alts := [], laidByText := true, laidKinds := [.data, .data, .data], laidTests := true, laidLooks := .later }
def FnExactGrowthTextCardSaid : Prop := Claim7.holds Tryd.pinned (.plain (OpenSpec.ofChange fnExactGrowthTextSpec)) fnExactGrowthTextCard

/-- THE SECOND FORM's CARD OF 'laws.FnGrowth'. -/
def fnGrowthUptoCard : Claim7 := { stood := { row := fnGrowthUptoRow, standIns := [], harness := (true, "c26e2fd2288808b0b8d811bed6a538db2eee6f516b0d2473f58ade43b2d68d35"), looks := false }, kinds := [], alts := [], laidByText := true, laidKinds := [.data, .data, .data], laidTests := true, laidLooks := .later }
def FnGrowthUptoCardSaid : Prop := Claim7.holds Tryd.pinned (.plain (OpenSpec.upto fnGrowthSpec)) fnGrowthUptoCard

/-- THE SECOND FORM's CARD OF 'laws.FnExactGrowthText'. -/
def fnExactGrowthTextUptoCard : Claim7 := { stood := { row := fnExactGrowthTextUptoRow, standIns := [], harness := (true, "c26e2fd2288808b0b8d811bed6a538db2eee6f516b0d2473f58ade43b2d68d35"), looks := false }, kinds := [], alts := [], laidByText := true, laidKinds := [.data, .data, .data], laidTests := true, laidLooks := .later }
def FnExactGrowthTextUptoCardSaid : Prop := Claim7.holds Tryd.pinned (.plain (OpenSpec.upto fnExactGrowthTextSpec)) fnExactGrowthTextUptoCard
end Rows
end Go.Proofs.YtanelokploifhaaDoor
