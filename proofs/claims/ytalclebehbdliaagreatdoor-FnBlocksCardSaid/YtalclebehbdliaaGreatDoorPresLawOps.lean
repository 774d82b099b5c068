/-
  The law's comparison of shifts: two that have the same letters and words are found equal.
-/
import Derived.Test.YtalclebehbdliaaGreatDoorLangTexts
import Derived.Test.YtalclebehbdliaaGreatDoorWordTexts
namespace Go.Proofs.YtalclebehbdliaaGreatDoor
open Go Go.RowKit

theorem rowAt_of_owns {w : World} {B c : Nat} {G : Option Addr} {ps : List ByteArray} (h : w.ownsRow B 9 1 (.slice G ps.length c) ps.length (ps.map Value.string)) : RowAt w G ps := by
  intro hp
  obtain ⟨g, c2, hv, _, _⟩ := World.ownsRow.form h hp
  simp only [Value.slice.injEq, true_and] at hv
  obtain ⟨rfl, rfl⟩ := hv
  exact ⟨g, rfl, StrsAt.of_owns h rfl, (h.lt g rfl).2⟩

end Go.Proofs.YtalclebehbdliaaGreatDoor
