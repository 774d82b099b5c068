/-
  No cell of these rows narrows 'for every input' (looked for: loops, veiled, ifaces, maps, wideKeys, modest, calm, conditions, laid).
  DERIVED. THE GIVEN ROWS OF THIS SEAT. 7 by the template 'for every input the law returns true; each argument reads behind the call as it read before'; 0 by the template 'total and deterministic' (their statements: YtlncehnbdhkaoaaTotals.lean).
  GIVEN WITH THE SEED: the statements are not yours to turn. If you find one false, say at which input.
  Laid BY PROGRAM, IN A SANDBOX (cutbox-rows.mjs): the forced cells as the released guide's own fill.sh prints them over the translation 43913dc634517851… (all of the seat's roots in one cut). By AI agents, Wed Nov 11 2026. No macro, syntax, notation, axiom, sorry.
-/
import Derived.Test.YtlncehnbdhkaoaaChecked
import GoSem.Claim
import GoSem.ClaimJoined
import GoSem.ClaimMapViews
import Derived.JoinedTies
import Derived.KernelRfl
namespace Go.Proofs.Ytlncehnbdhkaoaa
/- THE CELL 'sum', in the pinned program and in every row, IS THE sha256 OF THE DUMP (.gsa) THAT YtlncehnbdhkaoaaProg.lean LOADS. Nothing in Lean hashes anything: it is a label: what it is worth is what the hold of that sum in a sandbox is worth. -/
noncomputable def Try.pinned : Pinned := { name := "ytlncehnbdhkaoaa", sum := "43913dc634517851201f3a8ec5b957c92ac0fc45416f3c62f0dba9c6084b9c7a", checked := Try.checked }
namespace Rows
def none {H : Type} : Left H := { results := [], args := [] }

/-- 'laws.FnOnto': WHATEVER THE INPUT: true; the input reads as it did. -/
def fnOntoSpec : ChangeSpec := { name := "fnOnto", fn := fun _ => fun
  | [d] => { results := [.lit (.bool true)], args := [d] }
  | _ => none }
def fnOntoRow : OpenClaim := { program := "ytlncehnbdhkaoaa", sum := "43913dc634517851201f3a8ec5b957c92ac0fc45416f3c62f0dba9c6084b9c7a", func := "loop.example/g03103/laws.FnOnto", spec := "fnOnto", unfollowed := true, recurses := true, apart := false }
def FnOntoSaid : Prop := fnOntoRow.holds Try.pinned (OpenSpec.ofChange fnOntoSpec)

/-- ITS FALSE NEIGHBOUR: 'it returns false'. Refute it at one input. -/
def fnOntoWrong : ChangeSpec := { name := "fnOnto", fn := fun _ => fun
  | [d] => { results := [.lit (.bool false)], args := [d] }
  | _ => none }
def FnOntoWrongFalsely : Prop := fnOntoRow.holds Try.pinned (OpenSpec.ofChange fnOntoWrong)

/-- 'laws.FnExactCountSources': WHATEVER THE INPUT: true; the input reads as it did. -/
def fnExactCountSourcesSpec : ChangeSpec := { name := "fnExactCountSources", fn := fun _ => fun
  | [d1, d2] => { results := [.lit (.bool true)], args := [d1, d2] }
  | _ => none }
def fnExactCountSourcesRow : OpenClaim := { program := "ytlncehnbdhkaoaa", sum := "43913dc634517851201f3a8ec5b957c92ac0fc45416f3c62f0dba9c6084b9c7a", func := "loop.example/g03103/laws.FnExactCountSources", spec := "fnExactCountSources", unfollowed := true, recurses := true, apart := false }
def FnExactCountSourcesSaid : Prop := fnExactCountSourcesRow.holds Try.pinned (OpenSpec.ofChange fnExactCountSourcesSpec)

/-- ITS FALSE NEIGHBOUR: 'it returns false'. Refute it at one input. -/
def fnExactCountSourcesWrong : ChangeSpec := { name := "fnExactCountSources", fn := fun _ => fun
  | [d1, d2] => { results := [.lit (.bool false)], args := [d1, d2] }
  | _ => none }
def FnExactCountSourcesWrongFalsely : Prop := fnExactCountSourcesRow.holds Try.pinned (OpenSpec.ofChange fnExactCountSourcesWrong)

/-- 'laws.FnExactFirstSource': WHATEVER THE INPUT: true; the input reads as it did. -/
def fnExactFirstSourceSpec : ChangeSpec := { name := "fnExactFirstSource", fn := fun _ => fun
  | [d1, d2] => { results := [.lit (.bool true)], args := [d1, d2] }
  | _ => none }
def fnExactFirstSourceRow : OpenClaim := { program := "ytlncehnbdhkaoaa", sum := "43913dc634517851201f3a8ec5b957c92ac0fc45416f3c62f0dba9c6084b9c7a", func := "loop.example/g03103/laws.FnExactFirstSource", spec := "fnExactFirstSource", unfollowed := true, recurses := true, apart := false }
def FnExactFirstSourceSaid : Prop := fnExactFirstSourceRow.holds Try.pinned (OpenSpec.ofChange fnExactFirstSourceSpec)

/-- ITS FALSE NEIGHBOUR: 'it returns false'. Refute it at one input. -/
def fnExactFirstSourceWrong : ChangeSpec := { name := "fnExactFirstSource", fn := fun _ => fun
  | [d1, d2] => { results := [.lit (.bool false)], args := [d1, d2] }
  | _ => none }
def FnExactFirstSourceWrongFalsely : Prop := fnExactFirstSourceRow.holds Try.pinned (OpenSpec.ofChange fnExactFirstSourceWrong)

/-- 'laws.FnExactIsOnto': WHATEVER THE INPUT: true; the input reads as it did. -/
def fnExactIsOntoSpec : ChangeSpec := { name := "fnExactIsOnto", fn := fun _ => fun
  | [d] => { results := [.lit (.bool true)], args := [d] }
  | _ => none }
def fnExactIsOntoRow : OpenClaim := { program := "ytlncehnbdhkaoaa", sum := "43913dc634517851201f3a8ec5b957c92ac0fc45416f3c62f0dba9c6084b9c7a", func := "loop.example/g03103/laws.FnExactIsOnto", spec := "fnExactIsOnto", unfollowed := true, recurses := true, apart := false }
def FnExactIsOntoSaid : Prop := fnExactIsOntoRow.holds Try.pinned (OpenSpec.ofChange fnExactIsOntoSpec)

/-- ITS FALSE NEIGHBOUR: 'it returns false'. Refute it at one input. -/
def fnExactIsOntoWrong : ChangeSpec := { name := "fnExactIsOnto", fn := fun _ => fun
  | [d] => { results := [.lit (.bool false)], args := [d] }
  | _ => none }
def FnExactIsOntoWrongFalsely : Prop := fnExactIsOntoRow.holds Try.pinned (OpenSpec.ofChange fnExactIsOntoWrong)

/-- 'laws.FnExactFirstOrphan': WHATEVER THE INPUT: true; the input reads as it did. -/
def fnExactFirstOrphanSpec : ChangeSpec := { name := "fnExactFirstOrphan", fn := fun _ => fun
  | [d] => { results := [.lit (.bool true)], args := [d] }
  | _ => none }
def fnExactFirstOrphanRow : OpenClaim := { program := "ytlncehnbdhkaoaa", sum := "43913dc634517851201f3a8ec5b957c92ac0fc45416f3c62f0dba9c6084b9c7a", func := "loop.example/g03103/laws.FnExactFirstOrphan", spec := "fnExactFirstOrphan", unfollowed := true, recurses := true, apart := false }
def FnExactFirstOrphanSaid : Prop := fnExactFirstOrphanRow.holds Try.pinned (OpenSpec.ofChange fnExactFirstOrphanSpec)

/-- ITS FALSE NEIGHBOUR: 'it returns false'. Refute it at one input. -/
def fnExactFirstOrphanWrong : ChangeSpec := { name := "fnExactFirstOrphan", fn := fun _ => fun
  | [d] => { results := [.lit (.bool false)], args := [d] }
  | _ => none }
def FnExactFirstOrphanWrongFalsely : Prop := fnExactFirstOrphanRow.holds Try.pinned (OpenSpec.ofChange fnExactFirstOrphanWrong)

/-- 'laws.FnExactIsBalanced': WHATEVER THE INPUT: true; the input reads as it did. -/
def fnExactIsBalancedSpec : ChangeSpec := { name := "fnExactIsBalanced", fn := fun _ => fun
  | [d1, d2] => { results := [.lit (.bool true)], args := [d1, d2] }
  | _ => none }
def fnExactIsBalancedRow : OpenClaim := { program := "ytlncehnbdhkaoaa", sum := "43913dc634517851201f3a8ec5b957c92ac0fc45416f3c62f0dba9c6084b9c7a", func := "loop.example/g03103/laws.FnExactIsBalanced", spec := "fnExactIsBalanced", unfollowed := true, recurses := true, apart := false }
def FnExactIsBalancedSaid : Prop := fnExactIsBalancedRow.holds Try.pinned (OpenSpec.ofChange fnExactIsBalancedSpec)

/-- ITS FALSE NEIGHBOUR: 'it returns false'. Refute it at one input. -/
def fnExactIsBalancedWrong : ChangeSpec := { name := "fnExactIsBalanced", fn := fun _ => fun
  | [d1, d2] => { results := [.lit (.bool false)], args := [d1, d2] }
  | _ => none }
def FnExactIsBalancedWrongFalsely : Prop := fnExactIsBalancedRow.holds Try.pinned (OpenSpec.ofChange fnExactIsBalancedWrong)

/-- 'laws.FnExactTwinsOf': WHATEVER THE INPUT: true; the input reads as it did. -/
def fnExactTwinsOfSpec : ChangeSpec := { name := "fnExactTwinsOf", fn := fun _ => fun
  | [d] => { results := [.lit (.bool true)], args := [d] }
  | _ => none }
def fnExactTwinsOfRow : OpenClaim := { program := "ytlncehnbdhkaoaa", sum := "43913dc634517851201f3a8ec5b957c92ac0fc45416f3c62f0dba9c6084b9c7a", func := "loop.example/g03103/laws.FnExactTwinsOf", spec := "fnExactTwinsOf", unfollowed := true, recurses := true, apart := false }
def FnExactTwinsOfSaid : Prop := fnExactTwinsOfRow.holds Try.pinned (OpenSpec.ofChange fnExactTwinsOfSpec)

/-- ITS FALSE NEIGHBOUR: 'it returns false'. Refute it at one input. -/
def fnExactTwinsOfWrong : ChangeSpec := { name := "fnExactTwinsOf", fn := fun _ => fun
  | [d] => { results := [.lit (.bool false)], args := [d] }
  | _ => none }
def FnExactTwinsOfWrongFalsely : Prop := fnExactTwinsOfRow.holds Try.pinned (OpenSpec.ofChange fnExactTwinsOfWrong)

/- THE SECOND FORM. 'bulk': how many values and letters a reading holds, each counted each time it is reached (what is shared counts as often as it is met; a slice's spare places count too). A statement '..UptoSaid' is the law's where the arguments, and the package variables that the reading takes, are together of bulk at most 1048576: NARROWER than '..Said'. Prove '..Said' where nothing that the law and all that it calls make is longer than what came in: it says more and counts as full. Else prove '..UptoSaid'. A law counts once. -/
mutual
def uptoBulk {H : Type} : DataW H → Nat
  | .lit (.string bytes) => bytes.length + 1
  | .lit _ => 1
  | .nil => 1
  | .ptr d => uptoBulk d + 1
  | .slice elems spare => uptoBulkAll elems + uptoBulkAll spare + 1
  | .agg parts => uptoBulkAll parts + 1
  | .iface _ d => uptoBulk d + 1
  | .map entries => uptoBulkEntries entries + 1
  | .held _ => 1
def uptoBulkAll {H : Type} : List (DataW H) → Nat
  | [] => 0
  | d :: r => uptoBulk d + uptoBulkAll r
def uptoBulkEntries {H : Type} : List (Lit × DataW H) → Nat
  | [] => 0
  | x :: r => uptoBulkEntry x + uptoBulkEntries r
def uptoBulkEntry {H : Type} : Lit × DataW H → Nat
  | (.string bytes, d) => bytes.length + uptoBulk d + 1
  | (_, d) => uptoBulk d + 1
 end
def uptoSmall : (H : Type) → List (DataW H) → Bool := fun _ ds => decide (uptoBulkAll ds ≤ 1048576)
def OpenSpec.upto (s : _root_.Go.ChangeSpec) : _root_.Go.OpenSpec := { _root_.Go.OpenSpec.ofChange s with cond := some uptoSmall }

/-- 'laws.FnOnto', WHERE WHAT IT READS IS OF BULK AT MOST 1048576: true; the input reads as it did. -/
def fnOntoUptoRow : OpenClaim := { program := "ytlncehnbdhkaoaa", sum := "43913dc634517851201f3a8ec5b957c92ac0fc45416f3c62f0dba9c6084b9c7a", func := "loop.example/g03103/laws.FnOnto", spec := "fnOnto", unfollowed := true, recurses := true, apart := false, narrowed := true }
def FnOntoUptoSaid : Prop := fnOntoUptoRow.holds Try.pinned (OpenSpec.upto fnOntoSpec)

/-- 'laws.FnExactCountSources', WHERE WHAT IT READS IS OF BULK AT MOST 1048576: true; the input reads as it did. -/
def fnExactCountSourcesUptoRow : OpenClaim := { program := "ytlncehnbdhkaoaa", sum := "43913dc634517851201f3a8ec5b957c92ac0fc45416f3c62f0dba9c6084b9c7a", func := "loop.example/g03103/laws.FnExactCountSources", spec := "fnExactCountSources", unfollowed := true, recurses := true, apart := false, narrowed := true }
def FnExactCountSourcesUptoSaid : Prop := fnExactCountSourcesUptoRow.holds Try.pinned (OpenSpec.upto fnExactCountSourcesSpec)

/-- 'laws.FnExactFirstSource', WHERE WHAT IT READS IS OF BULK AT MOST 1048576: true; the input reads as it did. -/
def fnExactFirstSourceUptoRow : OpenClaim := { program := "ytlncehnbdhkaoaa", sum := "43913dc634517851201f3a8ec5b957c92ac0fc45416f3c62f0dba9c6084b9c7a", func := "loop.example/g03103/laws.FnExactFirstSource", spec := "fnExactFirstSource", unfollowed := true, recurses := true, apart := false, narrowed := true }
def FnExactFirstSourceUptoSaid : Prop := fnExactFirstSourceUptoRow.holds Try.pinned (OpenSpec.upto fnExactFirstSourceSpec)

/-- 'laws.FnExactIsOnto', WHERE WHAT IT READS IS OF BULK AT MOST 1048576: true; the input reads as it did. -/
def fnExactIsOntoUptoRow : OpenClaim := { program := "ytlncehnbdhkaoaa", sum := "43913dc634517851201f3a8ec5b957c92ac0fc45416f3c62f0dba9c6084b9c7a", func := "loop.example/g03103/laws.FnExactIsOnto", spec := "fnExactIsOnto", unfollowed := true, recurses := true, apart := false, narrowed := true }
def FnExactIsOntoUptoSaid : Prop := fnExactIsOntoUptoRow.holds Try.pinned (OpenSpec.upto fnExactIsOntoSpec)

/-- 'laws.FnExactFirstOrphan', WHERE WHAT IT READS IS OF BULK AT MOST 1048576: true; the input reads as it did. -/
def fnExactFirstOrphanUptoRow : OpenClaim := { program := "ytlncehnbdhkaoaa", sum := "43913dc634517851201f3a8ec5b957c92ac0fc45416f3c62f0dba9c6084b9c7a", func := "loop.example/g03103/laws.FnExactFirstOrphan", spec := "fnExactFirstOrphan", unfollowed := true, recurses := true, apart := false, narrowed := true }
def FnExactFirstOrphanUptoSaid : Prop := fnExactFirstOrphanUptoRow.holds Try.pinned (OpenSpec.upto fnExactFirstOrphanSpec)

/-- 'laws.FnExactIsBalanced', WHERE WHAT IT READS IS OF BULK AT MOST 1048576: true; the input reads as it did. -/
def fnExactIsBalancedUptoRow : OpenClaim := { program := "ytlncehnbdhkaoaa", sum := "43913dc634517851201f3a8ec5b957c92ac0fc45416f3c62f0dba9c6084b9c7a", func := "loop.example/g03103/laws.FnExactIsBalanced", spec := "fnExactIsBalanced", unfollowed := true, recurses := true, apart := false, narrowed := true }
def FnExactIsBalancedUptoSaid : Prop := fnExactIsBalancedUptoRow.holds Try.pinned (OpenSpec.upto fnExactIsBalancedSpec)

/-- 'laws.FnExactTwinsOf', WHERE WHAT IT READS IS OF BULK AT MOST 1048576: true; the input reads as it did. -/
def fnExactTwinsOfUptoRow : OpenClaim := { program := "ytlncehnbdhkaoaa", sum := "43913dc634517851201f3a8ec5b957c92ac0fc45416f3c62f0dba9c6084b9c7a", func := "loop.example/g03103/laws.FnExactTwinsOf", spec := "fnExactTwinsOf", unfollowed := true, recurses := true, apart := false, narrowed := true }
def FnExactTwinsOfUptoSaid : Prop := fnExactTwinsOfUptoRow.holds Try.pinned (OpenSpec.upto fnExactTwinsOfSpec)

end Rows
end Go.Proofs.Ytlncehnbdhkaoaa
