/-
  The law on StatesOf: where the model's and the program's function give the same list in new memory at every copy of the shift, the law returns true; nothing that was there before is changed.
-/
import Derived.Test.YtalclebehbdliaaGreatLangTexts
namespace Go.Proofs.YtalclebehbdliaaGreat
open Go Go.RowKit

/-- What a function of a shift answers at its copies: a list of strings, new. -/
def AtCopiesM (W : World) (f : Nat) (L : Int) (xs : List ByteArray) (ps : List ByteArray) : Prop :=
  ∀ g c w', Below W.heap.size W w' → xs.length ≤ 1048576 → total xs ≤ 1048576 → StrsAt w' g 0 xs → g < w'.heap.size → Calls Tryz.prog f #[.agg #[.int .i64 L, .slice (some ⟨g, 0, none⟩) xs.length c]] w' (ListPost ps w')

end Go.Proofs.YtalclebehbdliaaGreat
