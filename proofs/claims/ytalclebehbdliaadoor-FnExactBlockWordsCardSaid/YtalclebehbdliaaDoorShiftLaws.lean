/-
  The laws on AvoidsAll, InLanguage and IsEmptyShift: where the model's and the program's function answer the same at every copy of the shift, the law returns true; nothing that was there before is changed.
-/
import Derived.Test.YtalclebehbdliaaDoorShiftArg
namespace Go.Proofs.YtalclebehbdliaaDoor
open Go Go.RowKit

/-- What a function of a shift and a string answers at copies of the shift. -/
def AtCopiesS (W : World) (f : Nat) (L : Int) (xs : List ByteArray) (s : ByteArray) (b : Bool) : Prop :=
  ∀ g c w', Below W.heap.size W w' → s.size ≤ 1048576 → xs.length ≤ 1048576 → total xs ≤ 1048576 → StrsAt w' g 0 xs → g < w'.heap.size → Calls Tryd.prog f #[.agg #[.int .i64 L, .slice (some ⟨g, 0, none⟩) xs.length c], .string s] w' (BoolPost b w')
end Go.Proofs.YtalclebehbdliaaDoor
