/-
  The laws' helper that compares two lists of strings: two lists that hold the same strings are found equal.
-/
import Derived.Test.YtalclebehbdliaaDoorAllW
import Derived.Test.YtalclebehbdliaaDoorStrSame
namespace Go.Proofs.YtalclebehbdliaaDoor
open Go Go.RowKit

/-- The slice A holds the strings ps. -/
def RowAt (w : World) (A : Option Addr) (ps : List ByteArray) : Prop := 0 < ps.length → ∃ g, A = some ⟨g, 0, none⟩ ∧ StrsAt w g 0 ps ∧ g < w.heap.size
theorem RowAt.below {w w' : World} {A : Option Addr} {ps : List ByteArray} (h : RowAt w A ps) (hb : Below w.heap.size w w') : RowAt w' A ps := by
  intro hp
  obtain ⟨g, hA, hs, hg⟩ := h hp
  exact ⟨g, hA, hs.below hb hg, Nat.lt_of_lt_of_le hg hb.size⟩
theorem ListPost.rowAt {ps : List ByteArray} {w w' : World} {e : Ending} (h : ListPost ps w e w') : ∃ A cap, e = .returned (.slice A ps.length cap) ∧ RowAt w' A ps ∧ Below w.heap.size w w' := by
  obtain ⟨v, rfl, ho, hb⟩ := h
  rcases ho.2 with ⟨rfl, h0⟩ | ⟨g, cap, cur, rfl, _, _, _⟩
  · exact ⟨none, 0, by rw [h0], fun hp => by omega, hb⟩
  · exact ⟨some ⟨g, 0, none⟩, cap, rfl, fun _ => ⟨g, rfl, StrsAt.of_owns ho rfl, (ho.lt g rfl).2⟩, hb⟩
end Go.Proofs.YtalclebehbdliaaDoor
