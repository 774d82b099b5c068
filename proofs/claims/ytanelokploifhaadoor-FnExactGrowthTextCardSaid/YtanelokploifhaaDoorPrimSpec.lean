/-
  The model's IsPrimitive and PrimitiveStep: what the plain words say; nothing that was there before is changed.
-/
import Derived.Test.YtanelokploifhaaDoorPerSpec
namespace Go.Proofs.YtanelokploifhaaDoor
open Go Go.RowKit

theorem perS_irr {m : List (List Int)} (h : irrM m = true) : perS m = ((perM m : Nat) : Int) := by
  unfold perS
  rw [if_pos (irrM_iff.1 h).1]

/-- All marks of the rows ahead of i, and of row i ahead of j. -/
def allTo (m : List (List Int)) (k i j : Nat) : Bool := ((List.range i).all fun a => (List.range m.length).all fun b => wkB m k a b) && (List.range j).all fun b => wkB m k i b
theorem allTo_zero (m : List (List Int)) (k : Nat) : allTo m k 0 0 = true := rfl
theorem allTo_next (m : List (List Int)) (k i j : Nat) : allTo m k i (j + 1) = (allTo m k i j && wkB m k i j) := by
  unfold allTo
  rw [List.range_succ, List.all_append, Bool.and_assoc]
  simp
theorem allTo_row (m : List (List Int)) (k i : Nat) : allTo m k i m.length = allTo m k (i + 1) 0 := by
  unfold allTo
  rw [List.range_succ (n := i), List.all_append]
  simp
theorem allTo_end (m : List (List Int)) (k : Nat) : allTo m k m.length 0 = fullB m k := by
  unfold allTo fullB
  simp

end Go.Proofs.YtanelokploifhaaDoor
