/-
  The model's PowerMatrix and TurnMatrix: what the plain words say, in new memory; nothing that was there before is changed.
-/
import Derived.Test.YtfbdmheaalmboaaMatTimes
import Derived.Test.YtfbdmheaalmboaaMatSize
namespace Go.Proofs.Ytfbdmheaalmboaa
open Go Go.RowKit

/-- The diagonal's first k ones. -/
def oneF (k : Nat) : Nat → Nat → Int := fun i j => if i = j ∧ i < k then 1 else 0
theorem oneF_zero (n : Nat) : tabOf n n (oneF 0) = tabOf n n fun _ _ => 0 := tabOf_congr fun i j _ _ => by unfold oneF; rw [if_neg (by omega)]
theorem oneF_next (n k : Nat) (hk : k < n) : (tabOf n n (oneF k)).set k (((tabOf n n (oneF k)).getD k []).set k 1) = tabOf n n (oneF (k + 1)) := by
  rw [tabOf_set _ _ hk]
  refine tabOf_congr fun i j _ _ => ?_
  unfold oneF
  by_cases e : i = k ∧ j = k
  · obtain ⟨rfl, rfl⟩ := e
    rw [if_pos ⟨rfl, rfl⟩, if_pos ⟨rfl, by omega⟩]
  · rw [if_neg e]
    by_cases h : i = j ∧ i < k
    · rw [if_pos h, if_pos (by omega)]
    · rw [if_neg h, if_neg (by omega)]
theorem oneF_all (n : Nat) : tabOf n n (oneF n) = oneM n := tabOf_congr fun i j hi _ => by
  unfold oneF
  by_cases h : i = j
  · rw [if_pos ⟨h, hi⟩, if_pos h]
  · rw [if_neg (fun e => h e.1), if_neg h]

/-- PowerMatrix. -/
def powS (m : List (List Int)) (n : Int) : Option (List (List Int)) := if isMat m = true ∧ 0 ≤ n ∧ n ≤ 30 then powM m n.toNat else none

/-- A table that is being filled: all columns ahead of i, and j numbers of column i. -/
def turnF (m : List (List Int)) (i j : Nat) : Nat → Nat → Int := fun i' j' => if j' < i ∨ (j' = i ∧ i' < j) then cellOf m j' i' else 0
theorem turnF_zero (m : List (List Int)) (n : Nat) : tabOf n n (turnF m 0 0) = tabOf n n fun _ _ => 0 := tabOf_congr fun i j _ _ => by unfold turnF; rw [if_neg (by omega)]
theorem turnF_next (m : List (List Int)) (n i j : Nat) (hj : j < n) : (tabOf n n (turnF m i j)).set j (((tabOf n n (turnF m i j)).getD j []).set i (cellOf m i j)) = tabOf n n (turnF m i (j + 1)) := by
  rw [tabOf_set _ _ hj]
  refine tabOf_congr fun i' j' _ _ => ?_
  unfold turnF
  by_cases e : i' = j ∧ j' = i
  · obtain ⟨rfl, rfl⟩ := e
    rw [if_pos ⟨rfl, rfl⟩, if_pos (by omega)]
  · rw [if_neg e]
    by_cases h : j' < i ∨ (j' = i ∧ i' < j)
    · rw [if_pos h, if_pos (by omega)]
    · rw [if_neg h, if_neg (by omega)]
theorem turnF_row (m : List (List Int)) (n i : Nat) : tabOf n n (turnF m i n) = tabOf n n (turnF m (i + 1) 0) := tabOf_congr fun i' j' hi _ => by
  unfold turnF
  by_cases h : j' < i ∨ (j' = i ∧ i' < n)
  · rw [if_pos h, if_pos (by omega)]
  · rw [if_neg h, if_neg (by omega)]
theorem turnF_all (m : List (List Int)) : tabOf m.length m.length (turnF m m.length 0) = turnM m := tabOf_congr fun i' j' _ hj => by
  unfold turnF; rw [if_pos (Or.inl hj)]

/-- TurnMatrix. -/
def turnS (m : List (List Int)) : List (List Int) := if isMat m = true then turnM m else []
end Go.Proofs.Ytfbdmheaalmboaa
