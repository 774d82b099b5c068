/-
  What the laws on shifts share: how long a shift is, its copy, and that two equal shifts are found equal. A shift is a number and a slice of strings.
-/
import Derived.Test.YtcoiodfggaanbaaStrOps
import Derived.Deep.RegionHeld3
import Derived.Deep.Onto
namespace Go.Proofs.Ytcoiodfggaanbaa
open Go Go.RowKit

def SzShiftPost (xs : List ByteArray) (w : World) (e : Ending) (w' : World) : Prop := ∃ r : Int, e = .returned (.int .i64 r) ∧ (r = -1 ∨ (0 ≤ r ∧ (xs.length : Int) + total xs ≤ 1048576)) ∧ Below w.heap.size w w'

/-- A copy: its own slice, in new memory. -/
def ToShiftPost (L : Int) (xs : List ByteArray) (w : World) (e : Ending) (w' : World) : Prop :=
  ∃ g, e = .returned (.agg #[.int .i64 L, .slice (some ⟨g, 0, none⟩) xs.length xs.length]) ∧ w'.ownsRow w.heap.size 9 1 (.slice (some ⟨g, 0, none⟩) xs.length xs.length) xs.length (xs.map Value.string) ∧ Below w.heap.size w w'

end Go.Proofs.Ytcoiodfggaanbaa
