/-
  The law on AreSameShift: where the model's and the program's function answer alike at every copy of the two shifts, the law returns true; nothing that was there before is changed.
-/
import Derived.Test.YtalclebehbdliaaGreatPresArg
import Derived.Test.YtalclebehbdliaaGreatLangTexts
import Derived.Deep.RegionHeld3
namespace Go.Proofs.YtalclebehbdliaaGreat
open Go Go.RowKit

/-- What a function of two shifts answers at their copies. -/
def AtCopies2 (W : World) (f : Nat) (L : Int) (xs : List ByteArray) (L' : Int) (xs' : List ByteArray) (P : World → Ending → World → Prop) : Prop :=
  ∀ g c g' c' w', Below W.heap.size W w' → xs.length ≤ 1048576 → total xs ≤ 1048576 → xs'.length ≤ 1048576 → total xs' ≤ 1048576 → StrsAt w' g 0 xs → g < w'.heap.size → StrsAt w' g' 0 xs' → g' < w'.heap.size → Calls Tryz.prog f #[.agg #[.int .i64 L, .slice (some ⟨g, 0, none⟩) xs.length c], .agg #[.int .i64 L', .slice (some ⟨g', 0, none⟩) xs'.length c']] w' (P w')

end Go.Proofs.YtalclebehbdliaaGreat
