/-
  The library's search in a slice of ints, for whatever function value that answers as a plain test does and lays nothing that is kept: whether one of them is hit; nothing that was there before is changed.
-/
import Derived.Test.YtanelokploifhaaDoorMidTexts
namespace Go.Proofs.YtanelokploifhaaDoor
open Go Go.RowKit

/-- The function value g with the captured places lb answers as p does, in every world behind W0 in which what lay below H0 lies. -/
def TestI (H0 : Nat) (W0 : World) (g : Nat) (lb : Array Value) (p : Int → Bool) (ok : Int → Prop) : Prop :=
  ∀ x W, ok x → Below H0 W0 W → Calls Tryd.prog g (#[.int .i64 x] ++ lb) W (Scalar (.bool (p x)) W)
/-- No int ahead of place k is hit. -/
def NoHitI (p : Int → Bool) (xs : List Int) (k : Nat) : Prop := ∀ j, j < k → p (xs.getD j 0) = false
theorem NoHitI.next {p : Int → Bool} {xs : List Int} {k : Nat} (h : NoHitI p xs k) (hk : p (xs.getD k 0) = false) : NoHitI p xs (k + 1) := by
  intro j hj
  by_cases e : j = k
  · subst e; exact hk
  · exact h j (by omega)
theorem int_mem {xs : List Int} {k : Nat} (h : k < xs.length) : xs.getD k 0 ∈ xs := by
  have e : xs.getD k 0 = xs[k] := by simp [List.getD, h]
  rw [e]; exact List.getElem_mem h
theorem any_none {p : Int → Bool} {xs : List Int} (h : NoHitI p xs xs.length) : xs.any p = false := by
  rw [List.any_eq_false]
  intro x hx
  obtain ⟨j, hj, rfl⟩ := List.getElem_of_mem hx
  have := h j hj
  rw [show xs.getD j 0 = xs[j] by simp [List.getD, hj]] at this
  rw [this]; simp
theorem any_some {p : Int → Bool} {xs : List Int} {k : Nat} (hk : k < xs.length) (h : p (xs.getD k 0) = true) : xs.any p = true := by
  rw [List.any_eq_true]
  exact ⟨_, int_mem hk, h⟩

end Go.Proofs.YtanelokploifhaaDoor
