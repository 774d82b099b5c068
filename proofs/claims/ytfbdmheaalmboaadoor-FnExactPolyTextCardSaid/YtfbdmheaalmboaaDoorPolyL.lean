/-
  Contracts at lists of integers that the law owns, in every later world.
-/
import Derived.Test.YtfbdmheaalmboaaDoorIntsLaw
namespace Go.Proofs.YtfbdmheaalmboaaDoor
open Go Go.RowKit

def At1L (W : World) (f : Nat) (l : List Int) (P : World → Ending → World → Prop) : Prop := ∀ v w', Below W.heap.size W w' → SizeL l → OwnA w' W.heap.size v l → Calls Tryd.prog f #[v] w' (P w')
def At1LI (W : World) (f : Nat) (l : List Int) (n : Int) (P : World → Ending → World → Prop) : Prop := ∀ v w', Below W.heap.size W w' → SizeL l → OwnA w' W.heap.size v l → Calls Tryd.prog f #[v, .int .i64 n] w' (P w')
def At2L (W : World) (f : Nat) (l l2 : List Int) (P : World → Ending → World → Prop) : Prop := ∀ v v' w', Below W.heap.size W w' → SizeL l → SizeL l2 → OwnA w' W.heap.size v l → OwnA w' W.heap.size v' l2 → Calls Tryd.prog f #[v, v'] w' (P w')
end Go.Proofs.YtfbdmheaalmboaaDoor
