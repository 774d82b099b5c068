/-
  PLAIN FACTS (no program in this text): a square table that is filled row by row.
-/
import Derived.Test.YtfgjlpnmjfekhaaMatTimes
namespace Go.Proofs.Ytfgjlpnmjfekhaa
open Go Go.RowKit

/-- The numbers f up to place j of row i, zeros behind. -/
def fillF (f : Nat → Nat → Int) (i j : Nat) : Nat → Nat → Int := fun a b => if a < i ∨ (a = i ∧ b < j) then f a b else 0
theorem fillF_zero (f : Nat → Nat → Int) (n : Nat) : tabOf n n (fillF f 0 0) = tabOf n n fun _ _ => 0 := tabOf_congr fun i j _ _ => by unfold fillF; rw [if_neg (by omega)]
theorem fillF_next (f : Nat → Nat → Int) (n i j : Nat) (hi : i < n) : (tabOf n n (fillF f i j)).set i (((tabOf n n (fillF f i j)).getD i []).set j (f i j)) = tabOf n n (fillF f i (j + 1)) := by
  rw [tabOf_set _ _ hi]
  refine tabOf_congr fun a b _ _ => ?_
  unfold fillF
  by_cases e : a = i ∧ b = j
  · obtain ⟨rfl, rfl⟩ := e
    rw [if_pos ⟨rfl, rfl⟩, if_pos (by omega)]
  · rw [if_neg e]
    by_cases h : a < i ∨ (a = i ∧ b < j)
    · rw [if_pos h, if_pos (by omega)]
    · rw [if_neg h, if_neg (by omega)]
theorem fillF_row (f : Nat → Nat → Int) (n i : Nat) : tabOf n n (fillF f i n) = tabOf n n (fillF f (i + 1) 0) := tabOf_congr fun a b _ hb => by
  unfold fillF
  by_cases h : a < i ∨ (a = i ∧ b < n)
  · rw [if_pos h, if_pos (by omega)]
  · rw [if_neg h, if_neg (by omega)]
theorem fillF_all (f : Nat → Nat → Int) (n : Nat) : tabOf n n (fillF f n 0) = tabOf n n f := tabOf_congr fun a b ha _ => by unfold fillF; rw [if_pos (by omega)]

theorem fillF_still (f : Nat → Nat → Int) (n i j : Nat) (h : f i j = 0) : tabOf n n (fillF f i (j + 1)) = tabOf n n (fillF f i j) := tabOf_congr fun a b _ _ => by
  unfold fillF
  by_cases e : a = i ∧ b = j
  · obtain ⟨rfl, rfl⟩ := e
    rw [if_pos (by omega), if_neg (by omega), h]
  · by_cases h2 : a < i ∨ (a = i ∧ b < j)
    · rw [if_pos h2, if_pos (by omega)]
    · rw [if_neg h2, if_neg (by omega)]
end Go.Proofs.Ytfgjlpnmjfekhaa
