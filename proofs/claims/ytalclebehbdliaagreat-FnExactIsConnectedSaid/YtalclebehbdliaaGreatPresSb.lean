/-
  What a function gives back that answers a shift, in memory of its own, and whether there is one.
-/
import Derived.Test.YtalclebehbdliaaGreatBaseTexts
namespace Go.Proofs.YtalclebehbdliaaGreat
open Go Go.RowKit

def SbPost (M : Int) (ps : List ByteArray) (b : Bool) (w : World) (e : Ending) (w' : World) : Prop :=
  ∃ A c, e = .returned (.tuple #[.agg #[.int .i64 M, .slice A ps.length c], .bool b]) ∧ w'.ownsRow w.heap.size 9 1 (.slice A ps.length c) ps.length (ps.map Value.string) ∧ Below w.heap.size w w'
theorem NewShB.sb {o : Option (Int × List ByteArray)} {w w' : World} {e : Ending} (h : NewShB o w e w') : SbPost (o.getD (0, [])).1 (o.getD (0, [])).2 o.isSome w e w' := by
  obtain ⟨v, rfl, ⟨G, c, rfl, ho⟩, hb⟩ := h
  exact ⟨G, c, rfl, ho, hb⟩
end Go.Proofs.YtalclebehbdliaaGreat
