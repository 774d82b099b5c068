/-
  No cell of these rows narrows 'for every input' (looked for: loops, veiled, ifaces, maps, wideKeys, modest, calm, conditions, laid).
  DERIVED. THE GIVEN ROWS OF THIS SEAT. 5 by the template 'for every input the law returns true; each argument reads behind the call as it read before'; 0 by the template 'total and deterministic' (their statements: YtanelokploifhaaTotals.lean).
  GIVEN WITH THE SEED: the statements are not yours to turn. If you find one false, say at which input.
  Laid BY PROGRAM, IN A SANDBOX (cutbox-rows.mjs): the forced cells as the released guide's own fill.sh prints them over the translation b099479708240014… (all of the seat's roots in one cut). By AI agents, Wed Nov 11 2026. No macro, syntax, notation, axiom, sorry.
-/
import Derived.Test.YtanelokploifhaaChecked
import GoSem.Claim
import GoSem.ClaimJoined
import GoSem.ClaimMapViews
import Derived.JoinedTies
import Derived.KernelRfl
namespace Go.Proofs.Ytanelokploifhaa
/- THE CELL 'sum', in the pinned program and in every row, IS THE sha256 OF THE DUMP (.gsa) THAT YtanelokploifhaaProg.lean LOADS. Nothing in Lean hashes anything: it is a label: what it is worth is what the hold of that sum in a sandbox is worth. -/
noncomputable def Try.pinned : Pinned := { name := "ytanelokploifhaa", sum := "b099479708240014b6b051ebd7e797e90df1c92abfc7d6d3515c5c28346b3700", checked := Try.checked }
namespace Rows
def none {H : Type} : Left H := { results := [], args := [] }

/-- 'laws.FnExactIsBelow': WHATEVER THE INPUT: true; the input reads as it did. -/
def fnExactIsBelowSpec : ChangeSpec := { name := "fnExactIsBelow", fn := fun _ => fun
  | [d1, d2, d3] => { results := [.lit (.bool true)], args := [d1, d2, d3] }
  | _ => none }
def fnExactIsBelowRow : OpenClaim := { program := "ytanelokploifhaa", sum := "b099479708240014b6b051ebd7e797e90df1c92abfc7d6d3515c5c28346b3700", func := "loop.example/g03103/laws.FnExactIsBelow", spec := "fnExactIsBelow", unfollowed := true, recurses := true, apart := false }
def FnExactIsBelowSaid : Prop := fnExactIsBelowRow.holds Try.pinned (OpenSpec.ofChange fnExactIsBelowSpec)

/-- ITS FALSE NEIGHBOUR: 'it returns false'. Refute it at one input. -/
def fnExactIsBelowWrong : ChangeSpec := { name := "fnExactIsBelow", fn := fun _ => fun
  | [d1, d2, d3] => { results := [.lit (.bool false)], args := [d1, d2, d3] }
  | _ => none }
def FnExactIsBelowWrongFalsely : Prop := fnExactIsBelowRow.holds Try.pinned (OpenSpec.ofChange fnExactIsBelowWrong)

/-- 'laws.FnExactFloorOfGrowth': WHATEVER THE INPUT: true; the input reads as it did. -/
def fnExactFloorOfGrowthSpec : ChangeSpec := { name := "fnExactFloorOfGrowth", fn := fun _ => fun
  | [d1, d2] => { results := [.lit (.bool true)], args := [d1, d2] }
  | _ => none }
def fnExactFloorOfGrowthRow : OpenClaim := { program := "ytanelokploifhaa", sum := "b099479708240014b6b051ebd7e797e90df1c92abfc7d6d3515c5c28346b3700", func := "loop.example/g03103/laws.FnExactFloorOfGrowth", spec := "fnExactFloorOfGrowth", unfollowed := true, recurses := true, apart := false }
def FnExactFloorOfGrowthSaid : Prop := fnExactFloorOfGrowthRow.holds Try.pinned (OpenSpec.ofChange fnExactFloorOfGrowthSpec)

/-- ITS FALSE NEIGHBOUR: 'it returns false'. Refute it at one input. -/
def fnExactFloorOfGrowthWrong : ChangeSpec := { name := "fnExactFloorOfGrowth", fn := fun _ => fun
  | [d1, d2] => { results := [.lit (.bool false)], args := [d1, d2] }
  | _ => none }
def FnExactFloorOfGrowthWrongFalsely : Prop := fnExactFloorOfGrowthRow.holds Try.pinned (OpenSpec.ofChange fnExactFloorOfGrowthWrong)

/-- 'laws.FnExactRowBounds': WHATEVER THE INPUT: true; the input reads as it did. -/
def fnExactRowBoundsSpec : ChangeSpec := { name := "fnExactRowBounds", fn := fun _ => fun
  | [d] => { results := [.lit (.bool true)], args := [d] }
  | _ => none }
def fnExactRowBoundsRow : OpenClaim := { program := "ytanelokploifhaa", sum := "b099479708240014b6b051ebd7e797e90df1c92abfc7d6d3515c5c28346b3700", func := "loop.example/g03103/laws.FnExactRowBounds", spec := "fnExactRowBounds", unfollowed := true, recurses := true, apart := false }
def FnExactRowBoundsSaid : Prop := fnExactRowBoundsRow.holds Try.pinned (OpenSpec.ofChange fnExactRowBoundsSpec)

/-- ITS FALSE NEIGHBOUR: 'it returns false'. Refute it at one input. -/
def fnExactRowBoundsWrong : ChangeSpec := { name := "fnExactRowBounds", fn := fun _ => fun
  | [d] => { results := [.lit (.bool false)], args := [d] }
  | _ => none }
def FnExactRowBoundsWrongFalsely : Prop := fnExactRowBoundsRow.holds Try.pinned (OpenSpec.ofChange fnExactRowBoundsWrong)

/-- 'laws.FnExactCompareGrowth': WHATEVER THE INPUT: true; the input reads as it did. -/
def fnExactCompareGrowthSpec : ChangeSpec := { name := "fnExactCompareGrowth", fn := fun _ => fun
  | [d1, d2, d3] => { results := [.lit (.bool true)], args := [d1, d2, d3] }
  | _ => none }
def fnExactCompareGrowthRow : OpenClaim := { program := "ytanelokploifhaa", sum := "b099479708240014b6b051ebd7e797e90df1c92abfc7d6d3515c5c28346b3700", func := "loop.example/g03103/laws.FnExactCompareGrowth", spec := "fnExactCompareGrowth", unfollowed := true, recurses := true, apart := false }
def FnExactCompareGrowthSaid : Prop := fnExactCompareGrowthRow.holds Try.pinned (OpenSpec.ofChange fnExactCompareGrowthSpec)

/-- ITS FALSE NEIGHBOUR: 'it returns false'. Refute it at one input. -/
def fnExactCompareGrowthWrong : ChangeSpec := { name := "fnExactCompareGrowth", fn := fun _ => fun
  | [d1, d2, d3] => { results := [.lit (.bool false)], args := [d1, d2, d3] }
  | _ => none }
def FnExactCompareGrowthWrongFalsely : Prop := fnExactCompareGrowthRow.holds Try.pinned (OpenSpec.ofChange fnExactCompareGrowthWrong)

/-- 'laws.FnExactIsGrowthless': WHATEVER THE INPUT: true; the input reads as it did. -/
def fnExactIsGrowthlessSpec : ChangeSpec := { name := "fnExactIsGrowthless", fn := fun _ => fun
  | [d] => { results := [.lit (.bool true)], args := [d] }
  | _ => none }
def fnExactIsGrowthlessRow : OpenClaim := { program := "ytanelokploifhaa", sum := "b099479708240014b6b051ebd7e797e90df1c92abfc7d6d3515c5c28346b3700", func := "loop.example/g03103/laws.FnExactIsGrowthless", spec := "fnExactIsGrowthless", unfollowed := true, recurses := true, apart := false }
def FnExactIsGrowthlessSaid : Prop := fnExactIsGrowthlessRow.holds Try.pinned (OpenSpec.ofChange fnExactIsGrowthlessSpec)

/-- ITS FALSE NEIGHBOUR: 'it returns false'. Refute it at one input. -/
def fnExactIsGrowthlessWrong : ChangeSpec := { name := "fnExactIsGrowthless", fn := fun _ => fun
  | [d] => { results := [.lit (.bool false)], args := [d] }
  | _ => none }
def FnExactIsGrowthlessWrongFalsely : Prop := fnExactIsGrowthlessRow.holds Try.pinned (OpenSpec.ofChange fnExactIsGrowthlessWrong)

/- THE SECOND FORM. 'bulk': how many values and letters a reading holds, each counted each time it is reached (what is shared counts as often as it is met; a slice's spare places count too). A statement '..UptoSaid' is the law's where the arguments, and the package variables that the reading takes, are together of bulk at most 1048576: NARROWER than '..Said'. Prove '..Said' where nothing that the law and all that it calls make is longer than what came in: it says more and counts as full. Else prove '..UptoSaid'. A law counts once. -/
mutual
def uptoBulk {H : Type} : DataW H → Nat
  | .lit (.string bytes) => bytes.length + 1
  | .lit _ => 1
  | .nil => 1
  | .ptr d => uptoBulk d + 1
  | .slice elems spare => uptoBulkAll elems + uptoBulkAll spare + 1
  | .agg parts => uptoBulkAll parts + 1
  | .iface _ d => uptoBulk d + 1
  | .map entries => uptoBulkEntries entries + 1
  | .held _ => 1
def uptoBulkAll {H : Type} : List (DataW H) → Nat
  | [] => 0
  | d :: r => uptoBulk d + uptoBulkAll r
def uptoBulkEntries {H : Type} : List (Lit × DataW H) → Nat
  | [] => 0
  | x :: r => uptoBulkEntry x + uptoBulkEntries r
def uptoBulkEntry {H : Type} : Lit × DataW H → Nat
  | (.string bytes, d) => bytes.length + uptoBulk d + 1
  | (_, d) => uptoBulk d + 1
 end
def uptoSmall : (H : Type) → List (DataW H) → Bool := fun _ ds => decide (uptoBulkAll ds ≤ 1048576)
def OpenSpec.upto (s : _root_.Go.ChangeSpec) : _root_.Go.OpenSpec := { _root_.Go.OpenSpec.ofChange s with cond := some uptoSmall }

/-- 'laws.FnExactIsBelow', WHERE WHAT IT READS IS OF BULK AT MOST 1048576: true; the input reads as it did. -/
def fnExactIsBelowUptoRow : OpenClaim := { program := "ytanelokploifhaa", sum := "b099479708240014b6b051ebd7e797e90df1c92abfc7d6d3515c5c28346b3700", func := "loop.example/g03103/laws.FnExactIsBelow", spec := "fnExactIsBelow", unfollowed := true, recurses := true, apart := false, narrowed := true }
def FnExactIsBelowUptoSaid : Prop := fnExactIsBelowUptoRow.holds Try.pinned (OpenSpec.upto fnExactIsBelowSpec)

/-- 'laws.FnExactFloorOfGrowth', WHERE WHAT IT READS IS OF BULK AT MOST 1048576: true; the input reads as it did. -/
def fnExactFloorOfGrowthUptoRow : OpenClaim := { program := "ytanelokploifhaa", sum := "b099479708240014b6b051ebd7e797e90df1c92abfc7d6d3515c5c28346b3700", func := "loop.example/g03103/laws.FnExactFloorOfGrowth", spec := "fnExactFloorOfGrowth", unfollowed := true, recurses := true, apart := false, narrowed := true }
def FnExactFloorOfGrowthUptoSaid : Prop := fnExactFloorOfGrowthUptoRow.holds Try.pinned (OpenSpec.upto fnExactFloorOfGrowthSpec)

/-- 'laws.FnExactRowBounds', WHERE WHAT IT READS IS OF BULK AT MOST 1048576: true; the input reads as it did. -/
def fnExactRowBoundsUptoRow : OpenClaim := { program := "ytanelokploifhaa", sum := "b099479708240014b6b051ebd7e797e90df1c92abfc7d6d3515c5c28346b3700", func := "loop.example/g03103/laws.FnExactRowBounds", spec := "fnExactRowBounds", unfollowed := true, recurses := true, apart := false, narrowed := true }
def FnExactRowBoundsUptoSaid : Prop := fnExactRowBoundsUptoRow.holds Try.pinned (OpenSpec.upto fnExactRowBoundsSpec)

/-- 'laws.FnExactCompareGrowth', WHERE WHAT IT READS IS OF BULK AT MOST 1048576: true; the input reads as it did. -/
def fnExactCompareGrowthUptoRow : OpenClaim := { program := "ytanelokploifhaa", sum := "b099479708240014b6b051ebd7e797e90df1c92abfc7d6d3515c5c28346b3700", func := "loop.example/g03103/laws.FnExactCompareGrowth", spec := "fnExactCompareGrowth", unfollowed := true, recurses := true, apart := false, narrowed := true }
def FnExactCompareGrowthUptoSaid : Prop := fnExactCompareGrowthUptoRow.holds Try.pinned (OpenSpec.upto fnExactCompareGrowthSpec)

/-- 'laws.FnExactIsGrowthless', WHERE WHAT IT READS IS OF BULK AT MOST 1048576: true; the input reads as it did. -/
def fnExactIsGrowthlessUptoRow : OpenClaim := { program := "ytanelokploifhaa", sum := "b099479708240014b6b051ebd7e797e90df1c92abfc7d6d3515c5c28346b3700", func := "loop.example/g03103/laws.FnExactIsGrowthless", spec := "fnExactIsGrowthless", unfollowed := true, recurses := true, apart := false, narrowed := true }
def FnExactIsGrowthlessUptoSaid : Prop := fnExactIsGrowthlessUptoRow.holds Try.pinned (OpenSpec.upto fnExactIsGrowthlessSpec)

end Rows
end Go.Proofs.Ytanelokploifhaa
