/-
  The laws on functions of a shift that answer a bool: where the model's and the program's function answer the same at every copy of the shift, the law returns true; nothing that was there before is changed.
-/
import Derived.Test.YtcoiodfggaanbaaShiftOps
import Derived.Test.YtcoiodfggaanbaaShiftSpec
namespace Go.Proofs.Ytcoiodfggaanbaa
open Go Go.RowKit

/-- A block holds a shift. -/
def BoxAt (w : World) (g : Nat) (L : Int) (V : Value) : Prop := w.cell? ⟨g, 0, none⟩ = some (.int .i64 L) ∧ w.cell? ⟨g, 1, none⟩ = some V
theorem BoxAt.below {w w' : World} {g B : Nat} {L : Int} {V : Value} (h : BoxAt w g L V) (hb : Below B w w') (hg : g < B) : BoxAt w' g L V :=
  ⟨(hb.cell (p := ⟨g, 0, none⟩) hg).trans h.1, (hb.cell (p := ⟨g, 1, none⟩) hg).trans h.2⟩
theorem boxAt_new (w : World) (L : Int) (V : Value) (t : TypeId) : BoxAt (w.alloc (.cells #[.int .i64 L, V] t)) w.heap.size L V := ⟨by simp, by simp⟩
theorem below_after {w w1 w2 : World} (h : Below w.heap.size w w1) (k : Below w1.heap.size w1 w2) : Below w.heap.size w w2 := h.trans (k.mono h.size)

/-- What a function of a shift answers at its copies, in every world behind W in which nothing that was there has turned. -/
def AtCopies (W : World) (f : Nat) (L : Int) (xs : List ByteArray) (b : Bool) : Prop :=
  ∀ g c w', Below W.heap.size W w' → xs.length ≤ 1048576 → total xs ≤ 1048576 → StrsAt w' g 0 xs → g < w'.heap.size → Calls Try.prog f #[.agg #[.int .i64 L, .slice (some ⟨g, 0, none⟩) xs.length c]] w' (BoolPost b w')

end Go.Proofs.Ytcoiodfggaanbaa
