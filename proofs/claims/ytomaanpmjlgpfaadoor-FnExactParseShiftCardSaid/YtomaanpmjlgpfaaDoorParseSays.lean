/-
  What is said of ParseShift: the shift that it gives, its words in new memory, and whether there is one.
-/
import Derived.Test.YtomaanpmjlgpfaaDoorTailOps
namespace Go.Proofs.YtomaanpmjlgpfaaDoor
open Go Go.RowKit

/-- The slice A begins at the second cell of a row that the call owns. -/
def TailAt (w : World) (B : Nat) (A : Option Addr) (xs : List ByteArray) : Prop :=
  0 < xs.length → ∃ g p cap, A = some ⟨g, 1, none⟩ ∧ w.ownsRow B 9 1 (.slice (some ⟨g, 0, none⟩) (xs.length + 1) cap) (xs.length + 1) ((p :: xs).map Value.string)
def ParsedTail (L : Int) (xs : List ByteArray) (b : Bool) (w : World) (e : Ending) (w' : World) : Prop :=
  ∃ A c, e = .returned (.tuple #[.agg #[.int .i64 L, .slice A xs.length c], .bool b]) ∧ TailAt w' w.heap.size A xs ∧ Below w.heap.size w w'

def ParsedRow (L : Int) (xs : List ByteArray) (b : Bool) (w : World) (e : Ending) (w' : World) : Prop :=
  ∃ A c, e = .returned (.tuple #[.agg #[.int .i64 L, .slice A xs.length c], .bool b]) ∧ RowAt w' A xs ∧ Below w.heap.size w w'
theorem TailAt.ownO {w : World} {B : Nat} {A : Option Addr} {xs : List ByteArray} (h : TailAt w B A xs) : OwnO w B w.heap.size A xs := by
  intro hp
  obtain ⟨g, p, cap, hA, ho⟩ := h hp
  refine ⟨g, cap, [p], hA, Nat.le_refl _, (ho.lt g rfl).2, ?_⟩
  rw [show [p].length + xs.length = xs.length + 1 by simp; omega]
  exact ho
end Go.Proofs.YtomaanpmjlgpfaaDoor
