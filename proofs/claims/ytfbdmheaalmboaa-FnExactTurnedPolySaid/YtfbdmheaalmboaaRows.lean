/-
  No cell of these rows narrows 'for every input' (looked for: loops, veiled, ifaces, maps, wideKeys, modest, calm, conditions, laid).
  DERIVED. THE GIVEN ROWS OF THIS SEAT. 7 by the template 'for every input the law returns true; each argument reads behind the call as it read before'; 0 by the template 'total and deterministic' (their statements: YtfbdmheaalmboaaTotals.lean).
  GIVEN WITH THE SEED: the statements are not yours to turn. If you find one false, say at which input.
  Laid BY PROGRAM, IN A SANDBOX (cutbox-rows.mjs): the forced cells as the released guide's own fill.sh prints them over the translation 1ae31a38f7626638… (all of the seat's roots in one cut). By AI agents, Wed Nov 11 2026. No macro, syntax, notation, axiom, sorry.
-/
import Derived.Test.YtfbdmheaalmboaaChecked
import GoSem.Claim
import GoSem.ClaimJoined
import GoSem.ClaimMapViews
import Derived.JoinedTies
import Derived.KernelRfl
namespace Go.Proofs.Ytfbdmheaalmboaa
/- THE CELL 'sum', in the pinned program and in every row, IS THE sha256 OF THE DUMP (.gsa) THAT YtfbdmheaalmboaaProg.lean LOADS. Nothing in Lean hashes anything: it is a label: what it is worth is what the hold of that sum in a sandbox is worth. -/
noncomputable def Try.pinned : Pinned := { name := "ytfbdmheaalmboaa", sum := "1ae31a38f7626638ccb657aa75e25ae1e7e0d776152791b03292d20c769f9ed2", checked := Try.checked }
namespace Rows
def none {H : Type} : Left H := { results := [], args := [] }

/-- 'laws.FnExactIsSmall': WHATEVER THE INPUT: true; the input reads as it did. -/
def fnExactIsSmallSpec : ChangeSpec := { name := "fnExactIsSmall", fn := fun _ => fun
  | [d] => { results := [.lit (.bool true)], args := [d] }
  | _ => none }
def fnExactIsSmallRow : OpenClaim := { program := "ytfbdmheaalmboaa", sum := "1ae31a38f7626638ccb657aa75e25ae1e7e0d776152791b03292d20c769f9ed2", func := "loop.example/g03103/laws.FnExactIsSmall", spec := "fnExactIsSmall", apart := false }
def FnExactIsSmallSaid : Prop := fnExactIsSmallRow.holds Try.pinned (OpenSpec.ofChange fnExactIsSmallSpec)

/-- ITS FALSE NEIGHBOUR: 'it returns false'. Refute it at one input. -/
def fnExactIsSmallWrong : ChangeSpec := { name := "fnExactIsSmall", fn := fun _ => fun
  | [d] => { results := [.lit (.bool false)], args := [d] }
  | _ => none }
def FnExactIsSmallWrongFalsely : Prop := fnExactIsSmallRow.holds Try.pinned (OpenSpec.ofChange fnExactIsSmallWrong)

/-- 'laws.FnExactDeterminantOf': WHATEVER THE INPUT: true; the input reads as it did. -/
def fnExactDeterminantOfSpec : ChangeSpec := { name := "fnExactDeterminantOf", fn := fun _ => fun
  | [d] => { results := [.lit (.bool true)], args := [d] }
  | _ => none }
def fnExactDeterminantOfRow : OpenClaim := { program := "ytfbdmheaalmboaa", sum := "1ae31a38f7626638ccb657aa75e25ae1e7e0d776152791b03292d20c769f9ed2", func := "loop.example/g03103/laws.FnExactDeterminantOf", spec := "fnExactDeterminantOf", unfollowed := true, recurses := true, apart := false }
def FnExactDeterminantOfSaid : Prop := fnExactDeterminantOfRow.holds Try.pinned (OpenSpec.ofChange fnExactDeterminantOfSpec)

/-- ITS FALSE NEIGHBOUR: 'it returns false'. Refute it at one input. -/
def fnExactDeterminantOfWrong : ChangeSpec := { name := "fnExactDeterminantOf", fn := fun _ => fun
  | [d] => { results := [.lit (.bool false)], args := [d] }
  | _ => none }
def FnExactDeterminantOfWrongFalsely : Prop := fnExactDeterminantOfRow.holds Try.pinned (OpenSpec.ofChange fnExactDeterminantOfWrong)

/-- 'laws.FnExactTurnedPoly': WHATEVER THE INPUT: true; the input reads as it did. -/
def fnExactTurnedPolySpec : ChangeSpec := { name := "fnExactTurnedPoly", fn := fun _ => fun
  | [d] => { results := [.lit (.bool true)], args := [d] }
  | _ => none }
def fnExactTurnedPolyRow : OpenClaim := { program := "ytfbdmheaalmboaa", sum := "1ae31a38f7626638ccb657aa75e25ae1e7e0d776152791b03292d20c769f9ed2", func := "loop.example/g03103/laws.FnExactTurnedPoly", spec := "fnExactTurnedPoly", unfollowed := true, recurses := true, apart := false }
def FnExactTurnedPolySaid : Prop := fnExactTurnedPolyRow.holds Try.pinned (OpenSpec.ofChange fnExactTurnedPolySpec)

/-- ITS FALSE NEIGHBOUR: 'it returns false'. Refute it at one input. -/
def fnExactTurnedPolyWrong : ChangeSpec := { name := "fnExactTurnedPoly", fn := fun _ => fun
  | [d] => { results := [.lit (.bool false)], args := [d] }
  | _ => none }
def FnExactTurnedPolyWrongFalsely : Prop := fnExactTurnedPolyRow.holds Try.pinned (OpenSpec.ofChange fnExactTurnedPolyWrong)

/-- 'laws.FnExactCharPoly': WHATEVER THE INPUT: true; the input reads as it did. -/
def fnExactCharPolySpec : ChangeSpec := { name := "fnExactCharPoly", fn := fun _ => fun
  | [d] => { results := [.lit (.bool true)], args := [d] }
  | _ => none }
def fnExactCharPolyRow : OpenClaim := { program := "ytfbdmheaalmboaa", sum := "1ae31a38f7626638ccb657aa75e25ae1e7e0d776152791b03292d20c769f9ed2", func := "loop.example/g03103/laws.FnExactCharPoly", spec := "fnExactCharPoly", unfollowed := true, recurses := true, apart := false }
def FnExactCharPolySaid : Prop := fnExactCharPolyRow.holds Try.pinned (OpenSpec.ofChange fnExactCharPolySpec)

/-- ITS FALSE NEIGHBOUR: 'it returns false'. Refute it at one input. -/
def fnExactCharPolyWrong : ChangeSpec := { name := "fnExactCharPoly", fn := fun _ => fun
  | [d] => { results := [.lit (.bool false)], args := [d] }
  | _ => none }
def FnExactCharPolyWrongFalsely : Prop := fnExactCharPolyRow.holds Try.pinned (OpenSpec.ofChange fnExactCharPolyWrong)

/-- 'laws.FnExactMultiplyPolys': WHATEVER THE INPUT: true; the input reads as it did. -/
def fnExactMultiplyPolysSpec : ChangeSpec := { name := "fnExactMultiplyPolys", fn := fun _ => fun
  | [d1, d2] => { results := [.lit (.bool true)], args := [d1, d2] }
  | _ => none }
def fnExactMultiplyPolysRow : OpenClaim := { program := "ytfbdmheaalmboaa", sum := "1ae31a38f7626638ccb657aa75e25ae1e7e0d776152791b03292d20c769f9ed2", func := "loop.example/g03103/laws.FnExactMultiplyPolys", spec := "fnExactMultiplyPolys", unfollowed := true, recurses := true, apart := false }
def FnExactMultiplyPolysSaid : Prop := fnExactMultiplyPolysRow.holds Try.pinned (OpenSpec.ofChange fnExactMultiplyPolysSpec)

/-- ITS FALSE NEIGHBOUR: 'it returns false'. Refute it at one input. -/
def fnExactMultiplyPolysWrong : ChangeSpec := { name := "fnExactMultiplyPolys", fn := fun _ => fun
  | [d1, d2] => { results := [.lit (.bool false)], args := [d1, d2] }
  | _ => none }
def FnExactMultiplyPolysWrongFalsely : Prop := fnExactMultiplyPolysRow.holds Try.pinned (OpenSpec.ofChange fnExactMultiplyPolysWrong)

/-- 'laws.FnExactPolyAt': WHATEVER THE INPUT: true; the input reads as it did. -/
def fnExactPolyAtSpec : ChangeSpec := { name := "fnExactPolyAt", fn := fun _ => fun
  | [d1, d2] => { results := [.lit (.bool true)], args := [d1, d2] }
  | _ => none }
def fnExactPolyAtRow : OpenClaim := { program := "ytfbdmheaalmboaa", sum := "1ae31a38f7626638ccb657aa75e25ae1e7e0d776152791b03292d20c769f9ed2", func := "loop.example/g03103/laws.FnExactPolyAt", spec := "fnExactPolyAt", unfollowed := true, recurses := true, apart := false }
def FnExactPolyAtSaid : Prop := fnExactPolyAtRow.holds Try.pinned (OpenSpec.ofChange fnExactPolyAtSpec)

/-- ITS FALSE NEIGHBOUR: 'it returns false'. Refute it at one input. -/
def fnExactPolyAtWrong : ChangeSpec := { name := "fnExactPolyAt", fn := fun _ => fun
  | [d1, d2] => { results := [.lit (.bool false)], args := [d1, d2] }
  | _ => none }
def FnExactPolyAtWrongFalsely : Prop := fnExactPolyAtRow.holds Try.pinned (OpenSpec.ofChange fnExactPolyAtWrong)

/-- 'laws.FnExactIsRootless': WHATEVER THE INPUT: true; the input reads as it did. -/
def fnExactIsRootlessSpec : ChangeSpec := { name := "fnExactIsRootless", fn := fun _ => fun
  | [d] => { results := [.lit (.bool true)], args := [d] }
  | _ => none }
def fnExactIsRootlessRow : OpenClaim := { program := "ytfbdmheaalmboaa", sum := "1ae31a38f7626638ccb657aa75e25ae1e7e0d776152791b03292d20c769f9ed2", func := "loop.example/g03103/laws.FnExactIsRootless", spec := "fnExactIsRootless", unfollowed := true, recurses := true, apart := false }
def FnExactIsRootlessSaid : Prop := fnExactIsRootlessRow.holds Try.pinned (OpenSpec.ofChange fnExactIsRootlessSpec)

/-- ITS FALSE NEIGHBOUR: 'it returns false'. Refute it at one input. -/
def fnExactIsRootlessWrong : ChangeSpec := { name := "fnExactIsRootless", fn := fun _ => fun
  | [d] => { results := [.lit (.bool false)], args := [d] }
  | _ => none }
def FnExactIsRootlessWrongFalsely : Prop := fnExactIsRootlessRow.holds Try.pinned (OpenSpec.ofChange fnExactIsRootlessWrong)

/- THE SECOND FORM. 'bulk': how many values and letters a reading holds, each counted each time it is reached (what is shared counts as often as it is met; a slice's spare places count too). A statement '..UptoSaid' is the law's where the arguments, and the package variables that the reading takes, are together of bulk at most 1048576: NARROWER than '..Said'. Prove '..Said' where nothing that the law and all that it calls make is longer than what came in: it says more and counts as full. Else prove '..UptoSaid'. A law counts once. -/
mutual
def uptoBulk {H : Type} : DataW H → Nat
  | .lit (.string bytes) => bytes.length + 1
  | .lit _ => 1
  | .nil => 1
  | .ptr d => uptoBulk d + 1
  | .slice elems spare => uptoBulkAll elems + uptoBulkAll spare + 1
  | .agg parts => uptoBulkAll parts + 1
  | .iface _ d => uptoBulk d + 1
  | .map entries => uptoBulkEntries entries + 1
  | .held _ => 1
def uptoBulkAll {H : Type} : List (DataW H) → Nat
  | [] => 0
  | d :: r => uptoBulk d + uptoBulkAll r
def uptoBulkEntries {H : Type} : List (Lit × DataW H) → Nat
  | [] => 0
  | x :: r => uptoBulkEntry x + uptoBulkEntries r
def uptoBulkEntry {H : Type} : Lit × DataW H → Nat
  | (.string bytes, d) => bytes.length + uptoBulk d + 1
  | (_, d) => uptoBulk d + 1
 end
def uptoSmall : (H : Type) → List (DataW H) → Bool := fun _ ds => decide (uptoBulkAll ds ≤ 1048576)
def OpenSpec.upto (s : _root_.Go.ChangeSpec) : _root_.Go.OpenSpec := { _root_.Go.OpenSpec.ofChange s with cond := some uptoSmall }

/-- 'laws.FnExactIsSmall', WHERE WHAT IT READS IS OF BULK AT MOST 1048576: true; the input reads as it did. -/
def fnExactIsSmallUptoRow : OpenClaim := { program := "ytfbdmheaalmboaa", sum := "1ae31a38f7626638ccb657aa75e25ae1e7e0d776152791b03292d20c769f9ed2", func := "loop.example/g03103/laws.FnExactIsSmall", spec := "fnExactIsSmall", apart := false, narrowed := true }
def FnExactIsSmallUptoSaid : Prop := fnExactIsSmallUptoRow.holds Try.pinned (OpenSpec.upto fnExactIsSmallSpec)

/-- 'laws.FnExactDeterminantOf', WHERE WHAT IT READS IS OF BULK AT MOST 1048576: true; the input reads as it did. -/
def fnExactDeterminantOfUptoRow : OpenClaim := { program := "ytfbdmheaalmboaa", sum := "1ae31a38f7626638ccb657aa75e25ae1e7e0d776152791b03292d20c769f9ed2", func := "loop.example/g03103/laws.FnExactDeterminantOf", spec := "fnExactDeterminantOf", unfollowed := true, recurses := true, apart := false, narrowed := true }
def FnExactDeterminantOfUptoSaid : Prop := fnExactDeterminantOfUptoRow.holds Try.pinned (OpenSpec.upto fnExactDeterminantOfSpec)

/-- 'laws.FnExactTurnedPoly', WHERE WHAT IT READS IS OF BULK AT MOST 1048576: true; the input reads as it did. -/
def fnExactTurnedPolyUptoRow : OpenClaim := { program := "ytfbdmheaalmboaa", sum := "1ae31a38f7626638ccb657aa75e25ae1e7e0d776152791b03292d20c769f9ed2", func := "loop.example/g03103/laws.FnExactTurnedPoly", spec := "fnExactTurnedPoly", unfollowed := true, recurses := true, apart := false, narrowed := true }
def FnExactTurnedPolyUptoSaid : Prop := fnExactTurnedPolyUptoRow.holds Try.pinned (OpenSpec.upto fnExactTurnedPolySpec)

/-- 'laws.FnExactCharPoly', WHERE WHAT IT READS IS OF BULK AT MOST 1048576: true; the input reads as it did. -/
def fnExactCharPolyUptoRow : OpenClaim := { program := "ytfbdmheaalmboaa", sum := "1ae31a38f7626638ccb657aa75e25ae1e7e0d776152791b03292d20c769f9ed2", func := "loop.example/g03103/laws.FnExactCharPoly", spec := "fnExactCharPoly", unfollowed := true, recurses := true, apart := false, narrowed := true }
def FnExactCharPolyUptoSaid : Prop := fnExactCharPolyUptoRow.holds Try.pinned (OpenSpec.upto fnExactCharPolySpec)

/-- 'laws.FnExactMultiplyPolys', WHERE WHAT IT READS IS OF BULK AT MOST 1048576: true; the input reads as it did. -/
def fnExactMultiplyPolysUptoRow : OpenClaim := { program := "ytfbdmheaalmboaa", sum := "1ae31a38f7626638ccb657aa75e25ae1e7e0d776152791b03292d20c769f9ed2", func := "loop.example/g03103/laws.FnExactMultiplyPolys", spec := "fnExactMultiplyPolys", unfollowed := true, recurses := true, apart := false, narrowed := true }
def FnExactMultiplyPolysUptoSaid : Prop := fnExactMultiplyPolysUptoRow.holds Try.pinned (OpenSpec.upto fnExactMultiplyPolysSpec)

/-- 'laws.FnExactPolyAt', WHERE WHAT IT READS IS OF BULK AT MOST 1048576: true; the input reads as it did. -/
def fnExactPolyAtUptoRow : OpenClaim := { program := "ytfbdmheaalmboaa", sum := "1ae31a38f7626638ccb657aa75e25ae1e7e0d776152791b03292d20c769f9ed2", func := "loop.example/g03103/laws.FnExactPolyAt", spec := "fnExactPolyAt", unfollowed := true, recurses := true, apart := false, narrowed := true }
def FnExactPolyAtUptoSaid : Prop := fnExactPolyAtUptoRow.holds Try.pinned (OpenSpec.upto fnExactPolyAtSpec)

/-- 'laws.FnExactIsRootless', WHERE WHAT IT READS IS OF BULK AT MOST 1048576: true; the input reads as it did. -/
def fnExactIsRootlessUptoRow : OpenClaim := { program := "ytfbdmheaalmboaa", sum := "1ae31a38f7626638ccb657aa75e25ae1e7e0d776152791b03292d20c769f9ed2", func := "loop.example/g03103/laws.FnExactIsRootless", spec := "fnExactIsRootless", unfollowed := true, recurses := true, apart := false, narrowed := true }
def FnExactIsRootlessUptoSaid : Prop := fnExactIsRootlessUptoRow.holds Try.pinned (OpenSpec.upto fnExactIsRootlessSpec)

end Rows
end Go.Proofs.Ytfbdmheaalmboaa
