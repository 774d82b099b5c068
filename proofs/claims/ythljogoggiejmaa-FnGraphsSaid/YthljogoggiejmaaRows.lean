/-
  No cell of these rows narrows 'for every input' (looked for: loops, veiled, ifaces, maps, wideKeys, modest, calm, conditions, laid).
  DERIVED. THE GIVEN ROWS OF THIS SEAT. 9 by the template 'for every input the law returns true; each argument reads behind the call as it read before'; 0 by the template 'total and deterministic' (their statements: YthljogoggiejmaaTotals.lean).
  GIVEN WITH THE SEED: the statements are not yours to turn. If you find one false, say at which input.
  Laid BY PROGRAM, IN A SANDBOX (cutbox-rows.mjs): the forced cells as the released guide's own fill.sh prints them over the translation c8e54d7697d918be… (all of the seat's roots in one cut). By AI agents, Wed Nov 11 2026. No macro, syntax, notation, axiom, sorry.
-/
import Derived.Test.YthljogoggiejmaaChecked
import GoSem.Claim
import GoSem.ClaimJoined
import GoSem.ClaimMapViews
import Derived.JoinedTies
import Derived.KernelRfl
namespace Go.Proofs.Ythljogoggiejmaa
/- THE CELL 'sum', in the pinned program and in every row, IS THE sha256 OF THE DUMP (.gsa) THAT YthljogoggiejmaaProg.lean LOADS. Nothing in Lean hashes anything: it is a label: what it is worth is what the hold of that sum in a sandbox is worth. -/
noncomputable def Try.pinned : Pinned := { name := "ythljogoggiejmaa", sum := "c8e54d7697d918be8bbc0cc939f3b1d0817fd3601eeabcb4c886c77765d7ebb8", checked := Try.checked }
namespace Rows
def none {H : Type} : Left H := { results := [], args := [] }

/-- 'laws.FnGraphs': WHATEVER THE INPUT: true; the input reads as it did. -/
def fnGraphsSpec : ChangeSpec := { name := "fnGraphs", fn := fun _ => fun
  | [d] => { results := [.lit (.bool true)], args := [d] }
  | _ => none }
def fnGraphsRow : OpenClaim := { program := "ythljogoggiejmaa", sum := "c8e54d7697d918be8bbc0cc939f3b1d0817fd3601eeabcb4c886c77765d7ebb8", func := "loop.example/g03103/laws.FnGraphs", spec := "fnGraphs", unfollowed := true, recurses := true, apart := false }
def FnGraphsSaid : Prop := fnGraphsRow.holds Try.pinned (OpenSpec.ofChange fnGraphsSpec)

/-- ITS FALSE NEIGHBOUR: 'it returns false'. Refute it at one input. -/
def fnGraphsWrong : ChangeSpec := { name := "fnGraphs", fn := fun _ => fun
  | [d] => { results := [.lit (.bool false)], args := [d] }
  | _ => none }
def FnGraphsWrongFalsely : Prop := fnGraphsRow.holds Try.pinned (OpenSpec.ofChange fnGraphsWrong)

/-- 'laws.FnExactIsGraph': WHATEVER THE INPUT: true; the input reads as it did. -/
def fnExactIsGraphSpec : ChangeSpec := { name := "fnExactIsGraph", fn := fun _ => fun
  | [d] => { results := [.lit (.bool true)], args := [d] }
  | _ => none }
def fnExactIsGraphRow : OpenClaim := { program := "ythljogoggiejmaa", sum := "c8e54d7697d918be8bbc0cc939f3b1d0817fd3601eeabcb4c886c77765d7ebb8", func := "loop.example/g03103/laws.FnExactIsGraph", spec := "fnExactIsGraph", apart := false }
def FnExactIsGraphSaid : Prop := fnExactIsGraphRow.holds Try.pinned (OpenSpec.ofChange fnExactIsGraphSpec)

/-- ITS FALSE NEIGHBOUR: 'it returns false'. Refute it at one input. -/
def fnExactIsGraphWrong : ChangeSpec := { name := "fnExactIsGraph", fn := fun _ => fun
  | [d] => { results := [.lit (.bool false)], args := [d] }
  | _ => none }
def FnExactIsGraphWrongFalsely : Prop := fnExactIsGraphRow.holds Try.pinned (OpenSpec.ofChange fnExactIsGraphWrong)

/-- 'laws.FnExactArcsOf': WHATEVER THE INPUT: true; the input reads as it did. -/
def fnExactArcsOfSpec : ChangeSpec := { name := "fnExactArcsOf", fn := fun _ => fun
  | [d] => { results := [.lit (.bool true)], args := [d] }
  | _ => none }
def fnExactArcsOfRow : OpenClaim := { program := "ythljogoggiejmaa", sum := "c8e54d7697d918be8bbc0cc939f3b1d0817fd3601eeabcb4c886c77765d7ebb8", func := "loop.example/g03103/laws.FnExactArcsOf", spec := "fnExactArcsOf", apart := false }
def FnExactArcsOfSaid : Prop := fnExactArcsOfRow.holds Try.pinned (OpenSpec.ofChange fnExactArcsOfSpec)

/-- ITS FALSE NEIGHBOUR: 'it returns false'. Refute it at one input. -/
def fnExactArcsOfWrong : ChangeSpec := { name := "fnExactArcsOf", fn := fun _ => fun
  | [d] => { results := [.lit (.bool false)], args := [d] }
  | _ => none }
def FnExactArcsOfWrongFalsely : Prop := fnExactArcsOfRow.holds Try.pinned (OpenSpec.ofChange fnExactArcsOfWrong)

/-- 'laws.FnExactIsPath': WHATEVER THE INPUT: true; the input reads as it did. -/
def fnExactIsPathSpec : ChangeSpec := { name := "fnExactIsPath", fn := fun _ => fun
  | [d1, d2] => { results := [.lit (.bool true)], args := [d1, d2] }
  | _ => none }
def fnExactIsPathRow : OpenClaim := { program := "ythljogoggiejmaa", sum := "c8e54d7697d918be8bbc0cc939f3b1d0817fd3601eeabcb4c886c77765d7ebb8", func := "loop.example/g03103/laws.FnExactIsPath", spec := "fnExactIsPath", apart := false }
def FnExactIsPathSaid : Prop := fnExactIsPathRow.holds Try.pinned (OpenSpec.ofChange fnExactIsPathSpec)

/-- ITS FALSE NEIGHBOUR: 'it returns false'. Refute it at one input. -/
def fnExactIsPathWrong : ChangeSpec := { name := "fnExactIsPath", fn := fun _ => fun
  | [d1, d2] => { results := [.lit (.bool false)], args := [d1, d2] }
  | _ => none }
def FnExactIsPathWrongFalsely : Prop := fnExactIsPathRow.holds Try.pinned (OpenSpec.ofChange fnExactIsPathWrong)

/-- 'laws.FnExactCountPaths': WHATEVER THE INPUT: true; the input reads as it did. -/
def fnExactCountPathsSpec : ChangeSpec := { name := "fnExactCountPaths", fn := fun _ => fun
  | [d1, d2] => { results := [.lit (.bool true)], args := [d1, d2] }
  | _ => none }
def fnExactCountPathsRow : OpenClaim := { program := "ythljogoggiejmaa", sum := "c8e54d7697d918be8bbc0cc939f3b1d0817fd3601eeabcb4c886c77765d7ebb8", func := "loop.example/g03103/laws.FnExactCountPaths", spec := "fnExactCountPaths", apart := false }
def FnExactCountPathsSaid : Prop := fnExactCountPathsRow.holds Try.pinned (OpenSpec.ofChange fnExactCountPathsSpec)

/-- ITS FALSE NEIGHBOUR: 'it returns false'. Refute it at one input. -/
def fnExactCountPathsWrong : ChangeSpec := { name := "fnExactCountPaths", fn := fun _ => fun
  | [d1, d2] => { results := [.lit (.bool false)], args := [d1, d2] }
  | _ => none }
def FnExactCountPathsWrongFalsely : Prop := fnExactCountPathsRow.holds Try.pinned (OpenSpec.ofChange fnExactCountPathsWrong)

/-- 'laws.FnExactPathsOf': WHATEVER THE INPUT: true; the input reads as it did. -/
def fnExactPathsOfSpec : ChangeSpec := { name := "fnExactPathsOf", fn := fun _ => fun
  | [d1, d2] => { results := [.lit (.bool true)], args := [d1, d2] }
  | _ => none }
def fnExactPathsOfRow : OpenClaim := { program := "ythljogoggiejmaa", sum := "c8e54d7697d918be8bbc0cc939f3b1d0817fd3601eeabcb4c886c77765d7ebb8", func := "loop.example/g03103/laws.FnExactPathsOf", spec := "fnExactPathsOf", unfollowed := true, recurses := true, apart := false }
def FnExactPathsOfSaid : Prop := fnExactPathsOfRow.holds Try.pinned (OpenSpec.ofChange fnExactPathsOfSpec)

/-- ITS FALSE NEIGHBOUR: 'it returns false'. Refute it at one input. -/
def fnExactPathsOfWrong : ChangeSpec := { name := "fnExactPathsOf", fn := fun _ => fun
  | [d1, d2] => { results := [.lit (.bool false)], args := [d1, d2] }
  | _ => none }
def FnExactPathsOfWrongFalsely : Prop := fnExactPathsOfRow.holds Try.pinned (OpenSpec.ofChange fnExactPathsOfWrong)

/-- 'laws.FnExactLivelyOf': WHATEVER THE INPUT: true; the input reads as it did. -/
def fnExactLivelyOfSpec : ChangeSpec := { name := "fnExactLivelyOf", fn := fun _ => fun
  | [d] => { results := [.lit (.bool true)], args := [d] }
  | _ => none }
def fnExactLivelyOfRow : OpenClaim := { program := "ythljogoggiejmaa", sum := "c8e54d7697d918be8bbc0cc939f3b1d0817fd3601eeabcb4c886c77765d7ebb8", func := "loop.example/g03103/laws.FnExactLivelyOf", spec := "fnExactLivelyOf", unfollowed := true, recurses := true, apart := false }
def FnExactLivelyOfSaid : Prop := fnExactLivelyOfRow.holds Try.pinned (OpenSpec.ofChange fnExactLivelyOfSpec)

/-- ITS FALSE NEIGHBOUR: 'it returns false'. Refute it at one input. -/
def fnExactLivelyOfWrong : ChangeSpec := { name := "fnExactLivelyOf", fn := fun _ => fun
  | [d] => { results := [.lit (.bool false)], args := [d] }
  | _ => none }
def FnExactLivelyOfWrongFalsely : Prop := fnExactLivelyOfRow.holds Try.pinned (OpenSpec.ofChange fnExactLivelyOfWrong)

/-- 'laws.FnExactTrimGraph': WHATEVER THE INPUT: true; the input reads as it did. -/
def fnExactTrimGraphSpec : ChangeSpec := { name := "fnExactTrimGraph", fn := fun _ => fun
  | [d] => { results := [.lit (.bool true)], args := [d] }
  | _ => none }
def fnExactTrimGraphRow : OpenClaim := { program := "ythljogoggiejmaa", sum := "c8e54d7697d918be8bbc0cc939f3b1d0817fd3601eeabcb4c886c77765d7ebb8", func := "loop.example/g03103/laws.FnExactTrimGraph", spec := "fnExactTrimGraph", unfollowed := true, recurses := true, apart := false }
def FnExactTrimGraphSaid : Prop := fnExactTrimGraphRow.holds Try.pinned (OpenSpec.ofChange fnExactTrimGraphSpec)

/-- ITS FALSE NEIGHBOUR: 'it returns false'. Refute it at one input. -/
def fnExactTrimGraphWrong : ChangeSpec := { name := "fnExactTrimGraph", fn := fun _ => fun
  | [d] => { results := [.lit (.bool false)], args := [d] }
  | _ => none }
def FnExactTrimGraphWrongFalsely : Prop := fnExactTrimGraphRow.holds Try.pinned (OpenSpec.ofChange fnExactTrimGraphWrong)

/-- 'laws.FnExactIsLively': WHATEVER THE INPUT: true; the input reads as it did. -/
def fnExactIsLivelySpec : ChangeSpec := { name := "fnExactIsLively", fn := fun _ => fun
  | [d] => { results := [.lit (.bool true)], args := [d] }
  | _ => none }
def fnExactIsLivelyRow : OpenClaim := { program := "ythljogoggiejmaa", sum := "c8e54d7697d918be8bbc0cc939f3b1d0817fd3601eeabcb4c886c77765d7ebb8", func := "loop.example/g03103/laws.FnExactIsLively", spec := "fnExactIsLively", unfollowed := true, recurses := true, apart := false }
def FnExactIsLivelySaid : Prop := fnExactIsLivelyRow.holds Try.pinned (OpenSpec.ofChange fnExactIsLivelySpec)

/-- ITS FALSE NEIGHBOUR: 'it returns false'. Refute it at one input. -/
def fnExactIsLivelyWrong : ChangeSpec := { name := "fnExactIsLively", fn := fun _ => fun
  | [d] => { results := [.lit (.bool false)], args := [d] }
  | _ => none }
def FnExactIsLivelyWrongFalsely : Prop := fnExactIsLivelyRow.holds Try.pinned (OpenSpec.ofChange fnExactIsLivelyWrong)

/- THE SECOND FORM. 'bulk': how many values and letters a reading holds, each counted each time it is reached (what is shared counts as often as it is met; a slice's spare places count too). A statement '..UptoSaid' is the law's where the arguments, and the package variables that the reading takes, are together of bulk at most 1048576: NARROWER than '..Said'. Prove '..Said' where nothing that the law and all that it calls make is longer than what came in: it says more and counts as full. Else prove '..UptoSaid'. A law counts once. -/
mutual
def uptoBulk {H : Type} : DataW H → Nat
  | .lit (.string bytes) => bytes.length + 1
  | .lit _ => 1
  | .nil => 1
  | .ptr d => uptoBulk d + 1
  | .slice elems spare => uptoBulkAll elems + uptoBulkAll spare + 1
  | .agg parts => uptoBulkAll parts + 1
  | .iface _ d => uptoBulk d + 1
  | .map entries => uptoBulkEntries entries + 1
  | .held _ => 1
def uptoBulkAll {H : Type} : List (DataW H) → Nat
  | [] => 0
  | d :: r => uptoBulk d + uptoBulkAll r
def uptoBulkEntries {H : Type} : List (Lit × DataW H) → Nat
  | [] => 0
  | x :: r => uptoBulkEntry x + uptoBulkEntries r
def uptoBulkEntry {H : Type} : Lit × DataW H → Nat
  | (.string bytes, d) => bytes.length + uptoBulk d + 1
  | (_, d) => uptoBulk d + 1
 end
def uptoSmall : (H : Type) → List (DataW H) → Bool := fun _ ds => decide (uptoBulkAll ds ≤ 1048576)
def OpenSpec.upto (s : _root_.Go.ChangeSpec) : _root_.Go.OpenSpec := { _root_.Go.OpenSpec.ofChange s with cond := some uptoSmall }

/-- 'laws.FnGraphs', WHERE WHAT IT READS IS OF BULK AT MOST 1048576: true; the input reads as it did. -/
def fnGraphsUptoRow : OpenClaim := { program := "ythljogoggiejmaa", sum := "c8e54d7697d918be8bbc0cc939f3b1d0817fd3601eeabcb4c886c77765d7ebb8", func := "loop.example/g03103/laws.FnGraphs", spec := "fnGraphs", unfollowed := true, recurses := true, apart := false, narrowed := true }
def FnGraphsUptoSaid : Prop := fnGraphsUptoRow.holds Try.pinned (OpenSpec.upto fnGraphsSpec)

/-- 'laws.FnExactIsGraph', WHERE WHAT IT READS IS OF BULK AT MOST 1048576: true; the input reads as it did. -/
def fnExactIsGraphUptoRow : OpenClaim := { program := "ythljogoggiejmaa", sum := "c8e54d7697d918be8bbc0cc939f3b1d0817fd3601eeabcb4c886c77765d7ebb8", func := "loop.example/g03103/laws.FnExactIsGraph", spec := "fnExactIsGraph", apart := false, narrowed := true }
def FnExactIsGraphUptoSaid : Prop := fnExactIsGraphUptoRow.holds Try.pinned (OpenSpec.upto fnExactIsGraphSpec)

/-- 'laws.FnExactArcsOf', WHERE WHAT IT READS IS OF BULK AT MOST 1048576: true; the input reads as it did. -/
def fnExactArcsOfUptoRow : OpenClaim := { program := "ythljogoggiejmaa", sum := "c8e54d7697d918be8bbc0cc939f3b1d0817fd3601eeabcb4c886c77765d7ebb8", func := "loop.example/g03103/laws.FnExactArcsOf", spec := "fnExactArcsOf", apart := false, narrowed := true }
def FnExactArcsOfUptoSaid : Prop := fnExactArcsOfUptoRow.holds Try.pinned (OpenSpec.upto fnExactArcsOfSpec)

/-- 'laws.FnExactIsPath', WHERE WHAT IT READS IS OF BULK AT MOST 1048576: true; the input reads as it did. -/
def fnExactIsPathUptoRow : OpenClaim := { program := "ythljogoggiejmaa", sum := "c8e54d7697d918be8bbc0cc939f3b1d0817fd3601eeabcb4c886c77765d7ebb8", func := "loop.example/g03103/laws.FnExactIsPath", spec := "fnExactIsPath", apart := false, narrowed := true }
def FnExactIsPathUptoSaid : Prop := fnExactIsPathUptoRow.holds Try.pinned (OpenSpec.upto fnExactIsPathSpec)

/-- 'laws.FnExactCountPaths', WHERE WHAT IT READS IS OF BULK AT MOST 1048576: true; the input reads as it did. -/
def fnExactCountPathsUptoRow : OpenClaim := { program := "ythljogoggiejmaa", sum := "c8e54d7697d918be8bbc0cc939f3b1d0817fd3601eeabcb4c886c77765d7ebb8", func := "loop.example/g03103/laws.FnExactCountPaths", spec := "fnExactCountPaths", apart := false, narrowed := true }
def FnExactCountPathsUptoSaid : Prop := fnExactCountPathsUptoRow.holds Try.pinned (OpenSpec.upto fnExactCountPathsSpec)

/-- 'laws.FnExactPathsOf', WHERE WHAT IT READS IS OF BULK AT MOST 1048576: true; the input reads as it did. -/
def fnExactPathsOfUptoRow : OpenClaim := { program := "ythljogoggiejmaa", sum := "c8e54d7697d918be8bbc0cc939f3b1d0817fd3601eeabcb4c886c77765d7ebb8", func := "loop.example/g03103/laws.FnExactPathsOf", spec := "fnExactPathsOf", unfollowed := true, recurses := true, apart := false, narrowed := true }
def FnExactPathsOfUptoSaid : Prop := fnExactPathsOfUptoRow.holds Try.pinned (OpenSpec.upto fnExactPathsOfSpec)

/-- 'laws.FnExactLivelyOf', WHERE WHAT IT READS IS OF BULK AT MOST 1048576: true; the input reads as it did. -/
def fnExactLivelyOfUptoRow : OpenClaim := { program := "ythljogoggiejmaa", sum := "c8e54d7697d918be8bbc0cc939f3b1d0817fd3601eeabcb4c886c77765d7ebb8", func := "loop.example/g03103/laws.FnExactLivelyOf", spec := "fnExactLivelyOf", unfollowed := true, recurses := true, apart := false, narrowed := true }
def FnExactLivelyOfUptoSaid : Prop := fnExactLivelyOfUptoRow.holds Try.pinned (OpenSpec.upto fnExactLivelyOfSpec)

/-- 'laws.FnExactTrimGraph', WHERE WHAT IT READS IS OF BULK AT MOST 1048576: true; the input reads as it did. -/
def fnExactTrimGraphUptoRow : OpenClaim := { program := "ythljogoggiejmaa", sum := "c8e54d7697d918be8bbc0cc939f3b1d0817fd3601eeabcb4c886c77765d7ebb8", func := "loop.example/g03103/laws.FnExactTrimGraph", spec := "fnExactTrimGraph", unfollowed := true, recurses := true, apart := false, narrowed := true }
def FnExactTrimGraphUptoSaid : Prop := fnExactTrimGraphUptoRow.holds Try.pinned (OpenSpec.upto fnExactTrimGraphSpec)

/-- 'laws.FnExactIsLively', WHERE WHAT IT READS IS OF BULK AT MOST 1048576: true; the input reads as it did. -/
def fnExactIsLivelyUptoRow : OpenClaim := { program := "ythljogoggiejmaa", sum := "c8e54d7697d918be8bbc0cc939f3b1d0817fd3601eeabcb4c886c77765d7ebb8", func := "loop.example/g03103/laws.FnExactIsLively", spec := "fnExactIsLively", unfollowed := true, recurses := true, apart := false, narrowed := true }
def FnExactIsLivelyUptoSaid : Prop := fnExactIsLivelyUptoRow.holds Try.pinned (OpenSpec.upto fnExactIsLivelySpec)

end Rows
end Go.Proofs.Ythljogoggiejmaa
