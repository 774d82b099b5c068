/-
  The model's IsIrreducible and ComponentsOf: what the plain words say; nothing that was there before is changed.
-/
import Derived.Test.YtanelokploifhaaReachSpec
namespace Go.Proofs.Ytanelokploifhaa
open Go Go.RowKit

theorem reachM_facts (m : List (List Int)) : (reachM m).length = m.length ∧ (∀ i, i < m.length → ((reachM m).getD i []).length = m.length) ∧ ∀ i j, i < m.length → j < m.length → cellOf (reachM m) i j = bI (reachB m i j) := by
  unfold reachM
  refine ⟨tabOf_length _ _ _, fun i hi => ?_, fun i j hi hj => tabOf_cell hi hj⟩
  rw [tabOf_row hi]; simp
theorem irr_bad {m : List (List Int)} {i j : Nat} (hi : i < m.length) (hj : j < m.length) (h : reachB m i j = false) : irrM m = false := by
  cases e : irrM m with
  | false => rfl
  | true =>
    have := (reachB_iff hi hj).2 ((irrM_iff.1 e).2 i j hi hj)
    rw [h] at this; cases this
theorem irr_all {m : List (List Int)} (hm : isMat m = true) (h : ∀ i j, i < m.length → j < m.length → reachB m i j = true) : irrM m = true :=
  irrM_iff.2 ⟨hm, fun i j hi hj => (reachB_iff hi hj).1 (h i j hi hj)⟩

end Go.Proofs.Ytanelokploifhaa
