/-
  The laws' helper that compares two slices of strings: two rows that hold the same strings are found equal.
-/
import Derived.Test.YtlncehnbdhkaoaaRows
import Derived.Test.YtlncehnbdhkaoaaStrs
import Derived.WalkLawsBesides
import Derived.Deep.QuietTactic
import Derived.BigQuiet
namespace Go.Proofs.Ytlncehnbdhkaoaa
open Go Go.RowKit

theorem infoStr : (Try.prog.info? 9).map (fun i => (i.zero, i.size, i.bytes)) = some (some (.string ByteArray.empty), 1, 16) := by kernel_rfl

/-- Two rows that hold the same strings are found equal. -/
def TrueBelow (w : World) (e : Ending) (w' : World) : Prop := e = .returned (.bool true) ∧ Below w.heap.size w w'

end Go.Proofs.Ytlncehnbdhkaoaa
