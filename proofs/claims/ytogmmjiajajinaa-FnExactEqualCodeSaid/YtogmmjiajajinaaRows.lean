/-
  No cell of these rows narrows 'for every input' (looked for: loops, veiled, ifaces, maps, wideKeys, modest, calm, conditions, laid).
  DERIVED. THE GIVEN ROWS OF THIS SEAT. 6 by the template 'for every input the law returns true; each argument reads behind the call as it read before'; 0 by the template 'total and deterministic' (their statements: YtogmmjiajajinaaTotals.lean).
  GIVEN WITH THE SEED: the statements are not yours to turn. If you find one false, say at which input.
  Laid BY PROGRAM, IN A SANDBOX (cutbox-rows.mjs): the forced cells as the released guide's own fill.sh prints them over the translation ebebacec43930637… (all of the seat's roots in one cut). By AI agents, Wed Nov 11 2026. No macro, syntax, notation, axiom, sorry.
-/
import Derived.Test.YtogmmjiajajinaaChecked
import GoSem.Claim
import GoSem.ClaimJoined
import GoSem.ClaimMapViews
import Derived.JoinedTies
import Derived.KernelRfl
namespace Go.Proofs.Ytogmmjiajajinaa
/- THE CELL 'sum', in the pinned program and in every row, IS THE sha256 OF THE DUMP (.gsa) THAT YtogmmjiajajinaaProg.lean LOADS. Nothing in Lean hashes anything: it is a label: what it is worth is what the hold of that sum in a sandbox is worth. -/
noncomputable def Try.pinned : Pinned := { name := "ytogmmjiajajinaa", sum := "ebebacec439306375d3f809523a0bda2e98da1918abca0072a7d2a3d7e8dc149", checked := Try.checked }
namespace Rows
def none {H : Type} : Left H := { results := [], args := [] }

/-- 'laws.FnExactIsCode': WHATEVER THE INPUT: true; the input reads as it did. -/
def fnExactIsCodeSpec : ChangeSpec := { name := "fnExactIsCode", fn := fun _ => fun
  | [d] => { results := [.lit (.bool true)], args := [d] }
  | _ => none }
def fnExactIsCodeRow : OpenClaim := { program := "ytogmmjiajajinaa", sum := "ebebacec439306375d3f809523a0bda2e98da1918abca0072a7d2a3d7e8dc149", func := "loop.example/g03103/laws.FnExactIsCode", spec := "fnExactIsCode", apart := false }
def FnExactIsCodeSaid : Prop := fnExactIsCodeRow.holds Try.pinned (OpenSpec.ofChange fnExactIsCodeSpec)

/-- ITS FALSE NEIGHBOUR: 'it returns false'. Refute it at one input. -/
def fnExactIsCodeWrong : ChangeSpec := { name := "fnExactIsCode", fn := fun _ => fun
  | [d] => { results := [.lit (.bool false)], args := [d] }
  | _ => none }
def FnExactIsCodeWrongFalsely : Prop := fnExactIsCodeRow.holds Try.pinned (OpenSpec.ofChange fnExactIsCodeWrong)

/-- 'laws.FnExactApplyCode': WHATEVER THE INPUT: true; the input reads as it did. -/
def fnExactApplyCodeSpec : ChangeSpec := { name := "fnExactApplyCode", fn := fun _ => fun
  | [d1, d2] => { results := [.lit (.bool true)], args := [d1, d2] }
  | _ => none }
def fnExactApplyCodeRow : OpenClaim := { program := "ytogmmjiajajinaa", sum := "ebebacec439306375d3f809523a0bda2e98da1918abca0072a7d2a3d7e8dc149", func := "loop.example/g03103/laws.FnExactApplyCode", spec := "fnExactApplyCode", unfollowed := true, recurses := true, apart := false }
def FnExactApplyCodeSaid : Prop := fnExactApplyCodeRow.holds Try.pinned (OpenSpec.ofChange fnExactApplyCodeSpec)

/-- ITS FALSE NEIGHBOUR: 'it returns false'. Refute it at one input. -/
def fnExactApplyCodeWrong : ChangeSpec := { name := "fnExactApplyCode", fn := fun _ => fun
  | [d1, d2] => { results := [.lit (.bool false)], args := [d1, d2] }
  | _ => none }
def FnExactApplyCodeWrongFalsely : Prop := fnExactApplyCodeRow.holds Try.pinned (OpenSpec.ofChange fnExactApplyCodeWrong)

/-- 'laws.FnExactApplyRing': WHATEVER THE INPUT: true; the input reads as it did. -/
def fnExactApplyRingSpec : ChangeSpec := { name := "fnExactApplyRing", fn := fun _ => fun
  | [d1, d2] => { results := [.lit (.bool true)], args := [d1, d2] }
  | _ => none }
def fnExactApplyRingRow : OpenClaim := { program := "ytogmmjiajajinaa", sum := "ebebacec439306375d3f809523a0bda2e98da1918abca0072a7d2a3d7e8dc149", func := "loop.example/g03103/laws.FnExactApplyRing", spec := "fnExactApplyRing", inPlace := ["internal/abi.NoEscape", "internal/bytealg.MakeNoZero"], unfollowed := true, recurses := true, apart := false }
def FnExactApplyRingSaid : Prop := fnExactApplyRingRow.holds Try.pinned (OpenSpec.ofChange fnExactApplyRingSpec)

/-- ITS FALSE NEIGHBOUR: 'it returns false'. Refute it at one input. -/
def fnExactApplyRingWrong : ChangeSpec := { name := "fnExactApplyRing", fn := fun _ => fun
  | [d1, d2] => { results := [.lit (.bool false)], args := [d1, d2] }
  | _ => none }
def FnExactApplyRingWrongFalsely : Prop := fnExactApplyRingRow.holds Try.pinned (OpenSpec.ofChange fnExactApplyRingWrong)

/-- 'laws.FnExactComposeCodes': WHATEVER THE INPUT: true; the input reads as it did. -/
def fnExactComposeCodesSpec : ChangeSpec := { name := "fnExactComposeCodes", fn := fun _ => fun
  | [d1, d2] => { results := [.lit (.bool true)], args := [d1, d2] }
  | _ => none }
def fnExactComposeCodesRow : OpenClaim := { program := "ytogmmjiajajinaa", sum := "ebebacec439306375d3f809523a0bda2e98da1918abca0072a7d2a3d7e8dc149", func := "loop.example/g03103/laws.FnExactComposeCodes", spec := "fnExactComposeCodes", unfollowed := true, recurses := true, apart := false }
def FnExactComposeCodesSaid : Prop := fnExactComposeCodesRow.holds Try.pinned (OpenSpec.ofChange fnExactComposeCodesSpec)

/-- ITS FALSE NEIGHBOUR: 'it returns false'. Refute it at one input. -/
def fnExactComposeCodesWrong : ChangeSpec := { name := "fnExactComposeCodes", fn := fun _ => fun
  | [d1, d2] => { results := [.lit (.bool false)], args := [d1, d2] }
  | _ => none }
def FnExactComposeCodesWrongFalsely : Prop := fnExactComposeCodesRow.holds Try.pinned (OpenSpec.ofChange fnExactComposeCodesWrong)

/-- 'laws.FnExactCopyCode': WHATEVER THE INPUT: true; the input reads as it did. -/
def fnExactCopyCodeSpec : ChangeSpec := { name := "fnExactCopyCode", fn := fun _ => fun
  | [d1, d2, d3] => { results := [.lit (.bool true)], args := [d1, d2, d3] }
  | _ => none }
def fnExactCopyCodeRow : OpenClaim := { program := "ytogmmjiajajinaa", sum := "ebebacec439306375d3f809523a0bda2e98da1918abca0072a7d2a3d7e8dc149", func := "loop.example/g03103/laws.FnExactCopyCode", spec := "fnExactCopyCode", unfollowed := true, recurses := true, apart := false }
def FnExactCopyCodeSaid : Prop := fnExactCopyCodeRow.holds Try.pinned (OpenSpec.ofChange fnExactCopyCodeSpec)

/-- ITS FALSE NEIGHBOUR: 'it returns false'. Refute it at one input. -/
def fnExactCopyCodeWrong : ChangeSpec := { name := "fnExactCopyCode", fn := fun _ => fun
  | [d1, d2, d3] => { results := [.lit (.bool false)], args := [d1, d2, d3] }
  | _ => none }
def FnExactCopyCodeWrongFalsely : Prop := fnExactCopyCodeRow.holds Try.pinned (OpenSpec.ofChange fnExactCopyCodeWrong)

/-- 'laws.FnExactEqualCode': WHATEVER THE INPUT: true; the input reads as it did. -/
def fnExactEqualCodeSpec : ChangeSpec := { name := "fnExactEqualCode", fn := fun _ => fun
  | [d1, d2] => { results := [.lit (.bool true)], args := [d1, d2] }
  | _ => none }
def fnExactEqualCodeRow : OpenClaim := { program := "ytogmmjiajajinaa", sum := "ebebacec439306375d3f809523a0bda2e98da1918abca0072a7d2a3d7e8dc149", func := "loop.example/g03103/laws.FnExactEqualCode", spec := "fnExactEqualCode", apart := false }
def FnExactEqualCodeSaid : Prop := fnExactEqualCodeRow.holds Try.pinned (OpenSpec.ofChange fnExactEqualCodeSpec)

/-- ITS FALSE NEIGHBOUR: 'it returns false'. Refute it at one input. -/
def fnExactEqualCodeWrong : ChangeSpec := { name := "fnExactEqualCode", fn := fun _ => fun
  | [d1, d2] => { results := [.lit (.bool false)], args := [d1, d2] }
  | _ => none }
def FnExactEqualCodeWrongFalsely : Prop := fnExactEqualCodeRow.holds Try.pinned (OpenSpec.ofChange fnExactEqualCodeWrong)

/- THE SECOND FORM. 'bulk': how many values and letters a reading holds, each counted each time it is reached (what is shared counts as often as it is met; a slice's spare places count too). A statement '..UptoSaid' is the law's where the arguments, and the package variables that the reading takes, are together of bulk at most 1048576: NARROWER than '..Said'. Prove '..Said' where nothing that the law and all that it calls make is longer than what came in: it says more and counts as full. Else prove '..UptoSaid'. A law counts once. -/
mutual
def uptoBulk {H : Type} : DataW H → Nat
  | .lit (.string bytes) => bytes.length + 1
  | .lit _ => 1
  | .nil => 1
  | .ptr d => uptoBulk d + 1
  | .slice elems spare => uptoBulkAll elems + uptoBulkAll spare + 1
  | .agg parts => uptoBulkAll parts + 1
  | .iface _ d => uptoBulk d + 1
  | .map entries => uptoBulkEntries entries + 1
  | .held _ => 1
def uptoBulkAll {H : Type} : List (DataW H) → Nat
  | [] => 0
  | d :: r => uptoBulk d + uptoBulkAll r
def uptoBulkEntries {H : Type} : List (Lit × DataW H) → Nat
  | [] => 0
  | x :: r => uptoBulkEntry x + uptoBulkEntries r
def uptoBulkEntry {H : Type} : Lit × DataW H → Nat
  | (.string bytes, d) => bytes.length + uptoBulk d + 1
  | (_, d) => uptoBulk d + 1
 end
def uptoSmall : (H : Type) → List (DataW H) → Bool := fun _ ds => decide (uptoBulkAll ds ≤ 1048576)
def OpenSpec.upto (s : _root_.Go.ChangeSpec) : _root_.Go.OpenSpec := { _root_.Go.OpenSpec.ofChange s with cond := some uptoSmall }

/-- 'laws.FnExactIsCode', WHERE WHAT IT READS IS OF BULK AT MOST 1048576: true; the input reads as it did. -/
def fnExactIsCodeUptoRow : OpenClaim := { program := "ytogmmjiajajinaa", sum := "ebebacec439306375d3f809523a0bda2e98da1918abca0072a7d2a3d7e8dc149", func := "loop.example/g03103/laws.FnExactIsCode", spec := "fnExactIsCode", apart := false, narrowed := true }
def FnExactIsCodeUptoSaid : Prop := fnExactIsCodeUptoRow.holds Try.pinned (OpenSpec.upto fnExactIsCodeSpec)

/-- 'laws.FnExactApplyCode', WHERE WHAT IT READS IS OF BULK AT MOST 1048576: true; the input reads as it did. -/
def fnExactApplyCodeUptoRow : OpenClaim := { program := "ytogmmjiajajinaa", sum := "ebebacec439306375d3f809523a0bda2e98da1918abca0072a7d2a3d7e8dc149", func := "loop.example/g03103/laws.FnExactApplyCode", spec := "fnExactApplyCode", unfollowed := true, recurses := true, apart := false, narrowed := true }
def FnExactApplyCodeUptoSaid : Prop := fnExactApplyCodeUptoRow.holds Try.pinned (OpenSpec.upto fnExactApplyCodeSpec)

/-- 'laws.FnExactApplyRing', WHERE WHAT IT READS IS OF BULK AT MOST 1048576: true; the input reads as it did. -/
def fnExactApplyRingUptoRow : OpenClaim := { program := "ytogmmjiajajinaa", sum := "ebebacec439306375d3f809523a0bda2e98da1918abca0072a7d2a3d7e8dc149", func := "loop.example/g03103/laws.FnExactApplyRing", spec := "fnExactApplyRing", inPlace := ["internal/abi.NoEscape", "internal/bytealg.MakeNoZero"], unfollowed := true, recurses := true, apart := false, narrowed := true }
def FnExactApplyRingUptoSaid : Prop := fnExactApplyRingUptoRow.holds Try.pinned (OpenSpec.upto fnExactApplyRingSpec)

/-- 'laws.FnExactComposeCodes', WHERE WHAT IT READS IS OF BULK AT MOST 1048576: true; the input reads as it did. -/
def fnExactComposeCodesUptoRow : OpenClaim := { program := "ytogmmjiajajinaa", sum := "ebebacec439306375d3f809523a0bda2e98da1918abca0072a7d2a3d7e8dc149", func := "loop.example/g03103/laws.FnExactComposeCodes", spec := "fnExactComposeCodes", unfollowed := true, recurses := true, apart := false, narrowed := true }
def FnExactComposeCodesUptoSaid : Prop := fnExactComposeCodesUptoRow.holds Try.pinned (OpenSpec.upto fnExactComposeCodesSpec)

/-- 'laws.FnExactCopyCode', WHERE WHAT IT READS IS OF BULK AT MOST 1048576: true; the input reads as it did. -/
def fnExactCopyCodeUptoRow : OpenClaim := { program := "ytogmmjiajajinaa", sum := "ebebacec439306375d3f809523a0bda2e98da1918abca0072a7d2a3d7e8dc149", func := "loop.example/g03103/laws.FnExactCopyCode", spec := "fnExactCopyCode", unfollowed := true, recurses := true, apart := false, narrowed := true }
def FnExactCopyCodeUptoSaid : Prop := fnExactCopyCodeUptoRow.holds Try.pinned (OpenSpec.upto fnExactCopyCodeSpec)

/-- 'laws.FnExactEqualCode', WHERE WHAT IT READS IS OF BULK AT MOST 1048576: true; the input reads as it did. -/
def fnExactEqualCodeUptoRow : OpenClaim := { program := "ytogmmjiajajinaa", sum := "ebebacec439306375d3f809523a0bda2e98da1918abca0072a7d2a3d7e8dc149", func := "loop.example/g03103/laws.FnExactEqualCode", spec := "fnExactEqualCode", apart := false, narrowed := true }
def FnExactEqualCodeUptoSaid : Prop := fnExactEqualCodeUptoRow.holds Try.pinned (OpenSpec.upto fnExactEqualCodeSpec)

end Rows
end Go.Proofs.Ytogmmjiajajinaa
