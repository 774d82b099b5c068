/-
  No cell of these rows narrows 'for every input' (looked for: loops, veiled, ifaces, maps, wideKeys, modest, calm, conditions, laid).
  DERIVED. THE GIVEN ROWS OF THIS SEAT. 5 by the template 'for every input the law returns true; each argument reads behind the call as it read before'; 0 by the template 'total and deterministic' (their statements: YtfgjlpnmjfekhaaTotals.lean).
  GIVEN WITH THE SEED: the statements are not yours to turn. If you find one false, say at which input.
  Laid BY PROGRAM, IN A SANDBOX (cutbox-rows.mjs): the forced cells as the released guide's own fill.sh prints them over the translation d97ea96caa0b23b5… (all of the seat's roots in one cut). By AI agents, Wed Nov 11 2026. No macro, syntax, notation, axiom, sorry.
-/
import Derived.Test.YtfgjlpnmjfekhaaChecked
import GoSem.Claim
import GoSem.ClaimJoined
import GoSem.ClaimMapViews
import Derived.JoinedTies
import Derived.KernelRfl
namespace Go.Proofs.Ytfgjlpnmjfekhaa
/- THE CELL 'sum', in the pinned program and in every row, IS THE sha256 OF THE DUMP (.gsa) THAT YtfgjlpnmjfekhaaProg.lean LOADS. Nothing in Lean hashes anything: it is a label: what it is worth is what the hold of that sum in a sandbox is worth. -/
noncomputable def Try.pinned : Pinned := { name := "ytfgjlpnmjfekhaa", sum := "d97ea96caa0b23b519927ae428331b8fc6aa2c0595da88b95a7ce45ae76cdb9b", checked := Try.checked }
namespace Rows
def none {H : Type} : Left H := { results := [], args := [] }

/-- 'laws.FnExactBlockGraph': WHATEVER THE INPUT: true; the input reads as it did. -/
def fnExactBlockGraphSpec : ChangeSpec := { name := "fnExactBlockGraph", fn := fun _ => fun
  | [d] => { results := [.lit (.bool true)], args := [d] }
  | _ => none }
def fnExactBlockGraphRow : OpenClaim := { program := "ytfgjlpnmjfekhaa", sum := "d97ea96caa0b23b519927ae428331b8fc6aa2c0595da88b95a7ce45ae76cdb9b", func := "loop.example/g03103/laws.FnExactBlockGraph", spec := "fnExactBlockGraph", apart := false }
def FnExactBlockGraphSaid : Prop := fnExactBlockGraphRow.holds Try.pinned (OpenSpec.ofChange fnExactBlockGraphSpec)

/-- ITS FALSE NEIGHBOUR: 'it returns false'. Refute it at one input. -/
def fnExactBlockGraphWrong : ChangeSpec := { name := "fnExactBlockGraph", fn := fun _ => fun
  | [d] => { results := [.lit (.bool false)], args := [d] }
  | _ => none }
def FnExactBlockGraphWrongFalsely : Prop := fnExactBlockGraphRow.holds Try.pinned (OpenSpec.ofChange fnExactBlockGraphWrong)

/-- 'laws.FnExactPowerGraph': WHATEVER THE INPUT: true; the input reads as it did. -/
def fnExactPowerGraphSpec : ChangeSpec := { name := "fnExactPowerGraph", fn := fun _ => fun
  | [d1, d2] => { results := [.lit (.bool true)], args := [d1, d2] }
  | _ => none }
def fnExactPowerGraphRow : OpenClaim := { program := "ytfgjlpnmjfekhaa", sum := "d97ea96caa0b23b519927ae428331b8fc6aa2c0595da88b95a7ce45ae76cdb9b", func := "loop.example/g03103/laws.FnExactPowerGraph", spec := "fnExactPowerGraph", apart := false }
def FnExactPowerGraphSaid : Prop := fnExactPowerGraphRow.holds Try.pinned (OpenSpec.ofChange fnExactPowerGraphSpec)

/-- ITS FALSE NEIGHBOUR: 'it returns false'. Refute it at one input. -/
def fnExactPowerGraphWrong : ChangeSpec := { name := "fnExactPowerGraph", fn := fun _ => fun
  | [d1, d2] => { results := [.lit (.bool false)], args := [d1, d2] }
  | _ => none }
def FnExactPowerGraphWrongFalsely : Prop := fnExactPowerGraphRow.holds Try.pinned (OpenSpec.ofChange fnExactPowerGraphWrong)

/-- 'laws.FnExactJoinGraphs': WHATEVER THE INPUT: true; the input reads as it did. -/
def fnExactJoinGraphsSpec : ChangeSpec := { name := "fnExactJoinGraphs", fn := fun _ => fun
  | [d1, d2] => { results := [.lit (.bool true)], args := [d1, d2] }
  | _ => none }
def fnExactJoinGraphsRow : OpenClaim := { program := "ytfgjlpnmjfekhaa", sum := "d97ea96caa0b23b519927ae428331b8fc6aa2c0595da88b95a7ce45ae76cdb9b", func := "loop.example/g03103/laws.FnExactJoinGraphs", spec := "fnExactJoinGraphs", apart := false }
def FnExactJoinGraphsSaid : Prop := fnExactJoinGraphsRow.holds Try.pinned (OpenSpec.ofChange fnExactJoinGraphsSpec)

/-- ITS FALSE NEIGHBOUR: 'it returns false'. Refute it at one input. -/
def fnExactJoinGraphsWrong : ChangeSpec := { name := "fnExactJoinGraphs", fn := fun _ => fun
  | [d1, d2] => { results := [.lit (.bool false)], args := [d1, d2] }
  | _ => none }
def FnExactJoinGraphsWrongFalsely : Prop := fnExactJoinGraphsRow.holds Try.pinned (OpenSpec.ofChange fnExactJoinGraphsWrong)

/-- 'laws.FnExactPairGraph': WHATEVER THE INPUT: true; the input reads as it did. -/
def fnExactPairGraphSpec : ChangeSpec := { name := "fnExactPairGraph", fn := fun _ => fun
  | [d1, d2] => { results := [.lit (.bool true)], args := [d1, d2] }
  | _ => none }
def fnExactPairGraphRow : OpenClaim := { program := "ytfgjlpnmjfekhaa", sum := "d97ea96caa0b23b519927ae428331b8fc6aa2c0595da88b95a7ce45ae76cdb9b", func := "loop.example/g03103/laws.FnExactPairGraph", spec := "fnExactPairGraph", apart := false }
def FnExactPairGraphSaid : Prop := fnExactPairGraphRow.holds Try.pinned (OpenSpec.ofChange fnExactPairGraphSpec)

/-- ITS FALSE NEIGHBOUR: 'it returns false'. Refute it at one input. -/
def fnExactPairGraphWrong : ChangeSpec := { name := "fnExactPairGraph", fn := fun _ => fun
  | [d1, d2] => { results := [.lit (.bool false)], args := [d1, d2] }
  | _ => none }
def FnExactPairGraphWrongFalsely : Prop := fnExactPairGraphRow.holds Try.pinned (OpenSpec.ofChange fnExactPairGraphWrong)

/-- 'laws.FnExactIsBlockOf': WHATEVER THE INPUT: true; the input reads as it did. -/
def fnExactIsBlockOfSpec : ChangeSpec := { name := "fnExactIsBlockOf", fn := fun _ => fun
  | [d1, d2] => { results := [.lit (.bool true)], args := [d1, d2] }
  | _ => none }
def fnExactIsBlockOfRow : OpenClaim := { program := "ytfgjlpnmjfekhaa", sum := "d97ea96caa0b23b519927ae428331b8fc6aa2c0595da88b95a7ce45ae76cdb9b", func := "loop.example/g03103/laws.FnExactIsBlockOf", spec := "fnExactIsBlockOf", unfollowed := true, recurses := true, apart := false }
def FnExactIsBlockOfSaid : Prop := fnExactIsBlockOfRow.holds Try.pinned (OpenSpec.ofChange fnExactIsBlockOfSpec)

/-- ITS FALSE NEIGHBOUR: 'it returns false'. Refute it at one input. -/
def fnExactIsBlockOfWrong : ChangeSpec := { name := "fnExactIsBlockOf", fn := fun _ => fun
  | [d1, d2] => { results := [.lit (.bool false)], args := [d1, d2] }
  | _ => none }
def FnExactIsBlockOfWrongFalsely : Prop := fnExactIsBlockOfRow.holds Try.pinned (OpenSpec.ofChange fnExactIsBlockOfWrong)

/- THE SECOND FORM. 'bulk': how many values and letters a reading holds, each counted each time it is reached (what is shared counts as often as it is met; a slice's spare places count too). A statement '..UptoSaid' is the law's where the arguments, and the package variables that the reading takes, are together of bulk at most 1048576: NARROWER than '..Said'. Prove '..Said' where nothing that the law and all that it calls make is longer than what came in: it says more and counts as full. Else prove '..UptoSaid'. A law counts once. -/
mutual
def uptoBulk {H : Type} : DataW H → Nat
  | .lit (.string bytes) => bytes.length + 1
  | .lit _ => 1
  | .nil => 1
  | .ptr d => uptoBulk d + 1
  | .slice elems spare => uptoBulkAll elems + uptoBulkAll spare + 1
  | .agg parts => uptoBulkAll parts + 1
  | .iface _ d => uptoBulk d + 1
  | .map entries => uptoBulkEntries entries + 1
  | .held _ => 1
def uptoBulkAll {H : Type} : List (DataW H) → Nat
  | [] => 0
  | d :: r => uptoBulk d + uptoBulkAll r
def uptoBulkEntries {H : Type} : List (Lit × DataW H) → Nat
  | [] => 0
  | x :: r => uptoBulkEntry x + uptoBulkEntries r
def uptoBulkEntry {H : Type} : Lit × DataW H → Nat
  | (.string bytes, d) => bytes.length + uptoBulk d + 1
  | (_, d) => uptoBulk d + 1
 end
def uptoSmall : (H : Type) → List (DataW H) → Bool := fun _ ds => decide (uptoBulkAll ds ≤ 1048576)
def OpenSpec.upto (s : _root_.Go.ChangeSpec) : _root_.Go.OpenSpec := { _root_.Go.OpenSpec.ofChange s with cond := some uptoSmall }

/-- 'laws.FnExactBlockGraph', WHERE WHAT IT READS IS OF BULK AT MOST 1048576: true; the input reads as it did. -/
def fnExactBlockGraphUptoRow : OpenClaim := { program := "ytfgjlpnmjfekhaa", sum := "d97ea96caa0b23b519927ae428331b8fc6aa2c0595da88b95a7ce45ae76cdb9b", func := "loop.example/g03103/laws.FnExactBlockGraph", spec := "fnExactBlockGraph", apart := false, narrowed := true }
def FnExactBlockGraphUptoSaid : Prop := fnExactBlockGraphUptoRow.holds Try.pinned (OpenSpec.upto fnExactBlockGraphSpec)

/-- 'laws.FnExactPowerGraph', WHERE WHAT IT READS IS OF BULK AT MOST 1048576: true; the input reads as it did. -/
def fnExactPowerGraphUptoRow : OpenClaim := { program := "ytfgjlpnmjfekhaa", sum := "d97ea96caa0b23b519927ae428331b8fc6aa2c0595da88b95a7ce45ae76cdb9b", func := "loop.example/g03103/laws.FnExactPowerGraph", spec := "fnExactPowerGraph", apart := false, narrowed := true }
def FnExactPowerGraphUptoSaid : Prop := fnExactPowerGraphUptoRow.holds Try.pinned (OpenSpec.upto fnExactPowerGraphSpec)

/-- 'laws.FnExactJoinGraphs', WHERE WHAT IT READS IS OF BULK AT MOST 1048576: true; the input reads as it did. -/
def fnExactJoinGraphsUptoRow : OpenClaim := { program := "ytfgjlpnmjfekhaa", sum := "d97ea96caa0b23b519927ae428331b8fc6aa2c0595da88b95a7ce45ae76cdb9b", func := "loop.example/g03103/laws.FnExactJoinGraphs", spec := "fnExactJoinGraphs", apart := false, narrowed := true }
def FnExactJoinGraphsUptoSaid : Prop := fnExactJoinGraphsUptoRow.holds Try.pinned (OpenSpec.upto fnExactJoinGraphsSpec)

/-- 'laws.FnExactPairGraph', WHERE WHAT IT READS IS OF BULK AT MOST 1048576: true; the input reads as it did. -/
def fnExactPairGraphUptoRow : OpenClaim := { program := "ytfgjlpnmjfekhaa", sum := "d97ea96caa0b23b519927ae428331b8fc6aa2c0595da88b95a7ce45ae76cdb9b", func := "loop.example/g03103/laws.FnExactPairGraph", spec := "fnExactPairGraph", apart := false, narrowed := true }
def FnExactPairGraphUptoSaid : Prop := fnExactPairGraphUptoRow.holds Try.pinned (OpenSpec.upto fnExactPairGraphSpec)

/-- 'laws.FnExactIsBlockOf', WHERE WHAT IT READS IS OF BULK AT MOST 1048576: true; the input reads as it did. -/
def fnExactIsBlockOfUptoRow : OpenClaim := { program := "ytfgjlpnmjfekhaa", sum := "d97ea96caa0b23b519927ae428331b8fc6aa2c0595da88b95a7ce45ae76cdb9b", func := "loop.example/g03103/laws.FnExactIsBlockOf", spec := "fnExactIsBlockOf", unfollowed := true, recurses := true, apart := false, narrowed := true }
def FnExactIsBlockOfUptoSaid : Prop := fnExactIsBlockOfUptoRow.holds Try.pinned (OpenSpec.upto fnExactIsBlockOfSpec)

end Rows
end Go.Proofs.Ytfgjlpnmjfekhaa
