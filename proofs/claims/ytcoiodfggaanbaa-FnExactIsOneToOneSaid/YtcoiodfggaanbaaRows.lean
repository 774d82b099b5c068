/-
  No cell of these rows narrows 'for every input' (looked for: loops, veiled, ifaces, maps, wideKeys, modest, calm, conditions, laid).
  DERIVED. THE GIVEN ROWS OF THIS SEAT. 8 by the template 'for every input the law returns true; each argument reads behind the call as it read before'; 0 by the template 'total and deterministic' (their statements: YtcoiodfggaanbaaTotals.lean).
  GIVEN WITH THE SEED: the statements are not yours to turn. If you find one false, say at which input.
  Laid BY PROGRAM, IN A SANDBOX (cutbox-rows.mjs): the forced cells as the released guide's own fill.sh prints them over the translation b35d855ae21818ab… (all of the seat's roots in one cut). By AI agents, Wed Nov 11 2026. No macro, syntax, notation, axiom, sorry.
-/
import Derived.Test.YtcoiodfggaanbaaChecked
import GoSem.Claim
import GoSem.ClaimJoined
import GoSem.ClaimMapViews
import Derived.JoinedTies
import Derived.KernelRfl
namespace Go.Proofs.Ytcoiodfggaanbaa
/- THE CELL 'sum', in the pinned program and in every row, IS THE sha256 OF THE DUMP (.gsa) THAT YtcoiodfggaanbaaProg.lean LOADS. Nothing in Lean hashes anything: it is a label: what it is worth is what the hold of that sum in a sandbox is worth. -/
noncomputable def Try.pinned : Pinned := { name := "ytcoiodfggaanbaa", sum := "b35d855ae21818aba5c648e5931e5f34492cefed804a2cae699ce1f2ed27b226", checked := Try.checked }
namespace Rows
def none {H : Type} : Left H := { results := [], args := [] }

/-- 'laws.FnOnto': WHATEVER THE INPUT: true; the input reads as it did. -/
def fnOntoSpec : ChangeSpec := { name := "fnOnto", fn := fun _ => fun
  | [d] => { results := [.lit (.bool true)], args := [d] }
  | _ => none }
def fnOntoRow : OpenClaim := { program := "ytcoiodfggaanbaa", sum := "b35d855ae21818aba5c648e5931e5f34492cefed804a2cae699ce1f2ed27b226", func := "loop.example/g03103/laws.FnOnto", spec := "fnOnto", unfollowed := true, recurses := true, plainKeys := false, apart := false }
def FnOntoSaid : Prop := fnOntoRow.holds Try.pinned (OpenSpec.ofChange fnOntoSpec)

/-- ITS FALSE NEIGHBOUR: 'it returns false'. Refute it at one input. -/
def fnOntoWrong : ChangeSpec := { name := "fnOnto", fn := fun _ => fun
  | [d] => { results := [.lit (.bool false)], args := [d] }
  | _ => none }
def FnOntoWrongFalsely : Prop := fnOntoRow.holds Try.pinned (OpenSpec.ofChange fnOntoWrong)

/-- 'laws.FnExactIsOnto': WHATEVER THE INPUT: true; the input reads as it did. -/
def fnExactIsOntoSpec : ChangeSpec := { name := "fnExactIsOnto", fn := fun _ => fun
  | [d] => { results := [.lit (.bool true)], args := [d] }
  | _ => none }
def fnExactIsOntoRow : OpenClaim := { program := "ytcoiodfggaanbaa", sum := "b35d855ae21818aba5c648e5931e5f34492cefed804a2cae699ce1f2ed27b226", func := "loop.example/g03103/laws.FnExactIsOnto", spec := "fnExactIsOnto", unfollowed := true, recurses := true, plainKeys := false, apart := false }
def FnExactIsOntoSaid : Prop := fnExactIsOntoRow.holds Try.pinned (OpenSpec.ofChange fnExactIsOntoSpec)

/-- ITS FALSE NEIGHBOUR: 'it returns false'. Refute it at one input. -/
def fnExactIsOntoWrong : ChangeSpec := { name := "fnExactIsOnto", fn := fun _ => fun
  | [d] => { results := [.lit (.bool false)], args := [d] }
  | _ => none }
def FnExactIsOntoWrongFalsely : Prop := fnExactIsOntoRow.holds Try.pinned (OpenSpec.ofChange fnExactIsOntoWrong)

/-- 'laws.FnExactFirstOrphan': WHATEVER THE INPUT: true; the input reads as it did. -/
def fnExactFirstOrphanSpec : ChangeSpec := { name := "fnExactFirstOrphan", fn := fun _ => fun
  | [d] => { results := [.lit (.bool true)], args := [d] }
  | _ => none }
def fnExactFirstOrphanRow : OpenClaim := { program := "ytcoiodfggaanbaa", sum := "b35d855ae21818aba5c648e5931e5f34492cefed804a2cae699ce1f2ed27b226", func := "loop.example/g03103/laws.FnExactFirstOrphan", spec := "fnExactFirstOrphan", unfollowed := true, recurses := true, plainKeys := false, apart := false }
def FnExactFirstOrphanSaid : Prop := fnExactFirstOrphanRow.holds Try.pinned (OpenSpec.ofChange fnExactFirstOrphanSpec)

/-- ITS FALSE NEIGHBOUR: 'it returns false'. Refute it at one input. -/
def fnExactFirstOrphanWrong : ChangeSpec := { name := "fnExactFirstOrphan", fn := fun _ => fun
  | [d] => { results := [.lit (.bool false)], args := [d] }
  | _ => none }
def FnExactFirstOrphanWrongFalsely : Prop := fnExactFirstOrphanRow.holds Try.pinned (OpenSpec.ofChange fnExactFirstOrphanWrong)

/-- 'laws.FnExactIsOneToOne': WHATEVER THE INPUT: true; the input reads as it did. -/
def fnExactIsOneToOneSpec : ChangeSpec := { name := "fnExactIsOneToOne", fn := fun _ => fun
  | [d] => { results := [.lit (.bool true)], args := [d] }
  | _ => none }
def fnExactIsOneToOneRow : OpenClaim := { program := "ytcoiodfggaanbaa", sum := "b35d855ae21818aba5c648e5931e5f34492cefed804a2cae699ce1f2ed27b226", func := "loop.example/g03103/laws.FnExactIsOneToOne", spec := "fnExactIsOneToOne", unfollowed := true, recurses := true, plainKeys := false, apart := false }
def FnExactIsOneToOneSaid : Prop := fnExactIsOneToOneRow.holds Try.pinned (OpenSpec.ofChange fnExactIsOneToOneSpec)

/-- ITS FALSE NEIGHBOUR: 'it returns false'. Refute it at one input. -/
def fnExactIsOneToOneWrong : ChangeSpec := { name := "fnExactIsOneToOne", fn := fun _ => fun
  | [d] => { results := [.lit (.bool false)], args := [d] }
  | _ => none }
def FnExactIsOneToOneWrongFalsely : Prop := fnExactIsOneToOneRow.holds Try.pinned (OpenSpec.ofChange fnExactIsOneToOneWrong)

/-- 'laws.FnExactUndoingCode': WHATEVER THE INPUT: true; the input reads as it did. -/
def fnExactUndoingCodeSpec : ChangeSpec := { name := "fnExactUndoingCode", fn := fun _ => fun
  | [d1, d2] => { results := [.lit (.bool true)], args := [d1, d2] }
  | _ => none }
def fnExactUndoingCodeRow : OpenClaim := { program := "ytcoiodfggaanbaa", sum := "b35d855ae21818aba5c648e5931e5f34492cefed804a2cae699ce1f2ed27b226", func := "loop.example/g03103/laws.FnExactUndoingCode", spec := "fnExactUndoingCode", unfollowed := true, recurses := true, plainKeys := false, apart := false }
def FnExactUndoingCodeSaid : Prop := fnExactUndoingCodeRow.holds Try.pinned (OpenSpec.ofChange fnExactUndoingCodeSpec)

/-- ITS FALSE NEIGHBOUR: 'it returns false'. Refute it at one input. -/
def fnExactUndoingCodeWrong : ChangeSpec := { name := "fnExactUndoingCode", fn := fun _ => fun
  | [d1, d2] => { results := [.lit (.bool false)], args := [d1, d2] }
  | _ => none }
def FnExactUndoingCodeWrongFalsely : Prop := fnExactUndoingCodeRow.holds Try.pinned (OpenSpec.ofChange fnExactUndoingCodeWrong)

/-- 'laws.FnExactLeastUndoing': WHATEVER THE INPUT: true; the input reads as it did. -/
def fnExactLeastUndoingSpec : ChangeSpec := { name := "fnExactLeastUndoing", fn := fun _ => fun
  | [d] => { results := [.lit (.bool true)], args := [d] }
  | _ => none }
def fnExactLeastUndoingRow : OpenClaim := { program := "ytcoiodfggaanbaa", sum := "b35d855ae21818aba5c648e5931e5f34492cefed804a2cae699ce1f2ed27b226", func := "loop.example/g03103/laws.FnExactLeastUndoing", spec := "fnExactLeastUndoing", unfollowed := true, recurses := true, plainKeys := false, apart := false }
def FnExactLeastUndoingSaid : Prop := fnExactLeastUndoingRow.holds Try.pinned (OpenSpec.ofChange fnExactLeastUndoingSpec)

/-- ITS FALSE NEIGHBOUR: 'it returns false'. Refute it at one input. -/
def fnExactLeastUndoingWrong : ChangeSpec := { name := "fnExactLeastUndoing", fn := fun _ => fun
  | [d] => { results := [.lit (.bool false)], args := [d] }
  | _ => none }
def FnExactLeastUndoingWrongFalsely : Prop := fnExactLeastUndoingRow.holds Try.pinned (OpenSpec.ofChange fnExactLeastUndoingWrong)

/-- 'laws.FnExactIsPermutive': WHATEVER THE INPUT: true; the input reads as it did. -/
def fnExactIsPermutiveSpec : ChangeSpec := { name := "fnExactIsPermutive", fn := fun _ => fun
  | [d1, d2] => { results := [.lit (.bool true)], args := [d1, d2] }
  | _ => none }
def fnExactIsPermutiveRow : OpenClaim := { program := "ytcoiodfggaanbaa", sum := "b35d855ae21818aba5c648e5931e5f34492cefed804a2cae699ce1f2ed27b226", func := "loop.example/g03103/laws.FnExactIsPermutive", spec := "fnExactIsPermutive", inPlace := ["internal/bytealg.IndexByteString", "internal/bytealg.IndexString"], unfollowed := true, recurses := true, named := ["internal/bytealg.MaxLen"], plainKeys := false, apart := false }
def FnExactIsPermutiveSaid : Prop := fnExactIsPermutiveRow.holds Try.pinned (OpenSpec.ofChange fnExactIsPermutiveSpec)

/-- ITS FALSE NEIGHBOUR: 'it returns false'. Refute it at one input. -/
def fnExactIsPermutiveWrong : ChangeSpec := { name := "fnExactIsPermutive", fn := fun _ => fun
  | [d1, d2] => { results := [.lit (.bool false)], args := [d1, d2] }
  | _ => none }
def FnExactIsPermutiveWrongFalsely : Prop := fnExactIsPermutiveRow.holds Try.pinned (OpenSpec.ofChange fnExactIsPermutiveWrong)

/-- 'laws.FnExactSameOnRings': WHATEVER THE INPUT: true; the input reads as it did. -/
def fnExactSameOnRingsSpec : ChangeSpec := { name := "fnExactSameOnRings", fn := fun _ => fun
  | [d1, d2, d3] => { results := [.lit (.bool true)], args := [d1, d2, d3] }
  | _ => none }
def fnExactSameOnRingsRow : OpenClaim := { program := "ytcoiodfggaanbaa", sum := "b35d855ae21818aba5c648e5931e5f34492cefed804a2cae699ce1f2ed27b226", func := "loop.example/g03103/laws.FnExactSameOnRings", spec := "fnExactSameOnRings", inPlace := ["internal/abi.NoEscape", "internal/bytealg.MakeNoZero"], unfollowed := true, recurses := true, plainKeys := false, apart := false }
def FnExactSameOnRingsSaid : Prop := fnExactSameOnRingsRow.holds Try.pinned (OpenSpec.ofChange fnExactSameOnRingsSpec)

/-- ITS FALSE NEIGHBOUR: 'it returns false'. Refute it at one input. -/
def fnExactSameOnRingsWrong : ChangeSpec := { name := "fnExactSameOnRings", fn := fun _ => fun
  | [d1, d2, d3] => { results := [.lit (.bool false)], args := [d1, d2, d3] }
  | _ => none }
def FnExactSameOnRingsWrongFalsely : Prop := fnExactSameOnRingsRow.holds Try.pinned (OpenSpec.ofChange fnExactSameOnRingsWrong)

/- THE SECOND FORM. 'bulk': how many values and letters a reading holds, each counted each time it is reached (what is shared counts as often as it is met; a slice's spare places count too). A statement '..UptoSaid' is the law's where the arguments, and the package variables that the reading takes, are together of bulk at most 1048576: NARROWER than '..Said'. Prove '..Said' where nothing that the law and all that it calls make is longer than what came in: it says more and counts as full. Else prove '..UptoSaid'. A law counts once. -/
mutual
def uptoBulk {H : Type} : DataW H → Nat
  | .lit (.string bytes) => bytes.length + 1
  | .lit _ => 1
  | .nil => 1
  | .ptr d => uptoBulk d + 1
  | .slice elems spare => uptoBulkAll elems + uptoBulkAll spare + 1
  | .agg parts => uptoBulkAll parts + 1
  | .iface _ d => uptoBulk d + 1
  | .map entries => uptoBulkEntries entries + 1
  | .held _ => 1
def uptoBulkAll {H : Type} : List (DataW H) → Nat
  | [] => 0
  | d :: r => uptoBulk d + uptoBulkAll r
def uptoBulkEntries {H : Type} : List (Lit × DataW H) → Nat
  | [] => 0
  | x :: r => uptoBulkEntry x + uptoBulkEntries r
def uptoBulkEntry {H : Type} : Lit × DataW H → Nat
  | (.string bytes, d) => bytes.length + uptoBulk d + 1
  | (_, d) => uptoBulk d + 1
 end
def uptoSmall : (H : Type) → List (DataW H) → Bool := fun _ ds => decide (uptoBulkAll ds ≤ 1048576)
def OpenSpec.upto (s : _root_.Go.ChangeSpec) : _root_.Go.OpenSpec := { _root_.Go.OpenSpec.ofChange s with cond := some uptoSmall }

/-- 'laws.FnOnto', WHERE WHAT IT READS IS OF BULK AT MOST 1048576: true; the input reads as it did. -/
def fnOntoUptoRow : OpenClaim := { program := "ytcoiodfggaanbaa", sum := "b35d855ae21818aba5c648e5931e5f34492cefed804a2cae699ce1f2ed27b226", func := "loop.example/g03103/laws.FnOnto", spec := "fnOnto", unfollowed := true, recurses := true, plainKeys := false, apart := false, narrowed := true }
def FnOntoUptoSaid : Prop := fnOntoUptoRow.holds Try.pinned (OpenSpec.upto fnOntoSpec)

/-- 'laws.FnExactIsOnto', WHERE WHAT IT READS IS OF BULK AT MOST 1048576: true; the input reads as it did. -/
def fnExactIsOntoUptoRow : OpenClaim := { program := "ytcoiodfggaanbaa", sum := "b35d855ae21818aba5c648e5931e5f34492cefed804a2cae699ce1f2ed27b226", func := "loop.example/g03103/laws.FnExactIsOnto", spec := "fnExactIsOnto", unfollowed := true, recurses := true, plainKeys := false, apart := false, narrowed := true }
def FnExactIsOntoUptoSaid : Prop := fnExactIsOntoUptoRow.holds Try.pinned (OpenSpec.upto fnExactIsOntoSpec)

/-- 'laws.FnExactFirstOrphan', WHERE WHAT IT READS IS OF BULK AT MOST 1048576: true; the input reads as it did. -/
def fnExactFirstOrphanUptoRow : OpenClaim := { program := "ytcoiodfggaanbaa", sum := "b35d855ae21818aba5c648e5931e5f34492cefed804a2cae699ce1f2ed27b226", func := "loop.example/g03103/laws.FnExactFirstOrphan", spec := "fnExactFirstOrphan", unfollowed := true, recurses := true, plainKeys := false, apart := false, narrowed := true }
def FnExactFirstOrphanUptoSaid : Prop := fnExactFirstOrphanUptoRow.holds Try.pinned (OpenSpec.upto fnExactFirstOrphanSpec)

/-- 'laws.FnExactIsOneToOne', WHERE WHAT IT READS IS OF BULK AT MOST 1048576: true; the input reads as it did. -/
def fnExactIsOneToOneUptoRow : OpenClaim := { program := "ytcoiodfggaanbaa", sum := "b35d855ae21818aba5c648e5931e5f34492cefed804a2cae699ce1f2ed27b226", func := "loop.example/g03103/laws.FnExactIsOneToOne", spec := "fnExactIsOneToOne", unfollowed := true, recurses := true, plainKeys := false, apart := false, narrowed := true }
def FnExactIsOneToOneUptoSaid : Prop := fnExactIsOneToOneUptoRow.holds Try.pinned (OpenSpec.upto fnExactIsOneToOneSpec)

/-- 'laws.FnExactUndoingCode', WHERE WHAT IT READS IS OF BULK AT MOST 1048576: true; the input reads as it did. -/
def fnExactUndoingCodeUptoRow : OpenClaim := { program := "ytcoiodfggaanbaa", sum := "b35d855ae21818aba5c648e5931e5f34492cefed804a2cae699ce1f2ed27b226", func := "loop.example/g03103/laws.FnExactUndoingCode", spec := "fnExactUndoingCode", unfollowed := true, recurses := true, plainKeys := false, apart := false, narrowed := true }
def FnExactUndoingCodeUptoSaid : Prop := fnExactUndoingCodeUptoRow.holds Try.pinned (OpenSpec.upto fnExactUndoingCodeSpec)

/-- 'laws.FnExactLeastUndoing', WHERE WHAT IT READS IS OF BULK AT MOST 1048576: true; the input reads as it did. -/
def fnExactLeastUndoingUptoRow : OpenClaim := { program := "ytcoiodfggaanbaa", sum := "b35d855ae21818aba5c648e5931e5f34492cefed804a2cae699ce1f2ed27b226", func := "loop.example/g03103/laws.FnExactLeastUndoing", spec := "fnExactLeastUndoing", unfollowed := true, recurses := true, plainKeys := false, apart := false, narrowed := true }
def FnExactLeastUndoingUptoSaid : Prop := fnExactLeastUndoingUptoRow.holds Try.pinned (OpenSpec.upto fnExactLeastUndoingSpec)

/-- 'laws.FnExactIsPermutive', WHERE WHAT IT READS IS OF BULK AT MOST 1048576: true; the input reads as it did. -/
def fnExactIsPermutiveUptoRow : OpenClaim := { program := "ytcoiodfggaanbaa", sum := "b35d855ae21818aba5c648e5931e5f34492cefed804a2cae699ce1f2ed27b226", func := "loop.example/g03103/laws.FnExactIsPermutive", spec := "fnExactIsPermutive", inPlace := ["internal/bytealg.IndexByteString", "internal/bytealg.IndexString"], unfollowed := true, recurses := true, named := ["internal/bytealg.MaxLen"], plainKeys := false, apart := false, narrowed := true }
def FnExactIsPermutiveUptoSaid : Prop := fnExactIsPermutiveUptoRow.holds Try.pinned (OpenSpec.upto fnExactIsPermutiveSpec)

/-- 'laws.FnExactSameOnRings', WHERE WHAT IT READS IS OF BULK AT MOST 1048576: true; the input reads as it did. -/
def fnExactSameOnRingsUptoRow : OpenClaim := { program := "ytcoiodfggaanbaa", sum := "b35d855ae21818aba5c648e5931e5f34492cefed804a2cae699ce1f2ed27b226", func := "loop.example/g03103/laws.FnExactSameOnRings", spec := "fnExactSameOnRings", inPlace := ["internal/abi.NoEscape", "internal/bytealg.MakeNoZero"], unfollowed := true, recurses := true, plainKeys := false, apart := false, narrowed := true }
def FnExactSameOnRingsUptoSaid : Prop := fnExactSameOnRingsUptoRow.holds Try.pinned (OpenSpec.upto fnExactSameOnRingsSpec)

end Rows
end Go.Proofs.Ytcoiodfggaanbaa
