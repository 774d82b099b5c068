/-
  The model's products: what the plain words say, in new memory; nothing that was there before is changed.
-/
import Derived.Test.YtcoiodfggaanbaaMatZero
import Derived.Test.YtcoiodfggaanbaaMatSpec
namespace Go.Proofs.Ytcoiodfggaanbaa
open Go Go.RowKit

/-- The product's number at i and j, of its first t terms. -/
def termsM (a b : List (List Int)) (i j t : Nat) : Int := sumTo t fun k => cellOf a i k * cellOf b k j
/-- A product that is being made: all numbers ahead of i and j, and t terms there. -/
def timesF (a b : List (List Int)) (i j t : Nat) : Nat → Nat → Int := fun i' j' => if i' < i ∨ (i' = i ∧ j' < j) then termsM a b i' j' b.length else if i' = i ∧ j' = j then termsM a b i j t else 0
theorem timesF_zero (a b : List (List Int)) (n m : Nat) : tabOf n m (timesF a b 0 0 0) = tabOf n m fun _ _ => 0 := tabOf_congr fun i j _ _ => by
  unfold timesF termsM
  rw [if_neg (by omega)]
  split <;> rfl
theorem timesF_cell (a b : List (List Int)) (n m i j t : Nat) (hi : i < n) (hj : j < m) : cellOf (tabOf n m (timesF a b i j t)) i j = termsM a b i j t := by
  rw [tabOf_cell hi hj]
  unfold timesF
  rw [if_neg (by omega), if_pos ⟨rfl, rfl⟩]
theorem timesF_term (a b : List (List Int)) (n m i j t : Nat) (hi : i < n) : (tabOf n m (timesF a b i j t)).set i (((tabOf n m (timesF a b i j t)).getD i []).set j (termsM a b i j t + cellOf a i t * cellOf b t j)) = tabOf n m (timesF a b i j (t + 1)) := by
  rw [tabOf_set _ _ hi]
  refine tabOf_congr fun i' j' _ _ => ?_
  by_cases e : i' = i ∧ j' = j
  · obtain ⟨rfl, rfl⟩ := e
    rw [if_pos ⟨rfl, rfl⟩]
    unfold timesF
    rw [if_neg (by omega), if_pos ⟨rfl, rfl⟩]; rfl
  · rw [if_neg e]
    unfold timesF
    rw [if_neg e, if_neg e]
theorem timesF_next (a b : List (List Int)) (n m i j : Nat) : tabOf n m (timesF a b i j b.length) = tabOf n m (timesF a b i (j + 1) 0) := tabOf_congr fun i' j' _ _ => by
  unfold timesF
  by_cases h1 : i' < i ∨ (i' = i ∧ j' < j)
  · rw [if_pos h1, if_pos (by omega)]
  · rw [if_neg h1]
    by_cases h2 : i' = i ∧ j' = j
    · obtain ⟨rfl, rfl⟩ := h2
      rw [if_pos ⟨rfl, rfl⟩, if_pos (by omega)]
    · rw [if_neg h2, if_neg (by omega)]
      split <;> rfl
theorem timesF_row (a b : List (List Int)) (n m i : Nat) : tabOf n m (timesF a b i m 0) = tabOf n m (timesF a b (i + 1) 0 0) := tabOf_congr fun i' j' _ hj => by
  unfold timesF
  by_cases h1 : i' < i ∨ (i' = i ∧ j' < m)
  · rw [if_pos h1, if_pos (by omega)]
  · rw [if_neg h1, if_neg (by omega), if_neg (by omega)]
    split <;> rfl
theorem timesF_all (a b : List (List Int)) : tabOf a.length b.length (timesF a b a.length 0 0) = mulM a b := tabOf_congr fun i' j' hi _ => by
  unfold timesF termsM
  rw [if_pos (Or.inl hi)]
theorem termsM_le {a b : List (List Int)} (ha : MatFacts a) (hb : MatFacts b) (hab : a.length = b.length) {i j t : Nat} (hi : i < a.length) (hj : j < b.length) (ht : t ≤ b.length) : 0 ≤ termsM a b i j t ∧ termsM a b i j t ≤ t * 1000000000000 :=
  sumTo_le t fun k hk => by
    obtain ⟨x1, x2⟩ := ha.cell i k hi (by omega)
    obtain ⟨y1, y2⟩ := hb.cell k j (by omega) hj
    refine ⟨Int.mul_nonneg x1 y1, ?_⟩
    calc cellOf a i k * cellOf b k j ≤ 1000000 * cellOf b k j := Int.mul_le_mul_of_nonneg_right x2 y1
      _ ≤ 1000000 * 1000000 := Int.mul_le_mul_of_nonneg_left y2 (by decide)
theorem prod_le {x y : Int} (hx : 0 ≤ x ∧ x ≤ 1000000) (hy : 0 ≤ y ∧ y ≤ 1000000) : 0 ≤ x * y ∧ x * y ≤ 1000000000000 := by
  refine ⟨Int.mul_nonneg hx.1 hy.1, ?_⟩
  calc x * y ≤ 1000000 * y := Int.mul_le_mul_of_nonneg_right hx.2 hy.1
    _ ≤ 1000000 * 1000000 := Int.mul_le_mul_of_nonneg_left hy.2 (by decide)

/-- A table and whether there is one. -/
def NewGB (o : Option (List (List Int))) (w : World) (e : Ending) (w' : World) : Prop := ∃ v, e = .returned (.tuple #[v, .bool o.isSome]) ∧ OwnG w' w.heap.size v (o.getD []) ∧ Below w.heap.size w w'
theorem ownG_empty (w : World) : OwnG (w.alloc (.cells #[] 68)) w.heap.size (.slice (some ⟨w.heap.size, 0, none⟩) 0 0) [] := by
  have h := World.ownsRow_made (base := w.heap.size) (e := 68) (size := 1) w #[] 0 (Nat.le_refl _) (by unfold maxLen; omega) rfl
  exact ⟨[], h, RowsOwn.nil _ _ _⟩
theorem below_new {w : World} {o : Obj} : Below w.heap.size w (w.alloc o) := (Below.refl _ _).alloc (Nat.le_refl _) _
theorem prodM_none {a b : List (List Int)} (h : isMat a = false ∨ isMat b = false ∨ ¬ a.length = b.length) : prodM a b = none := by
  unfold prodM
  rw [if_neg]
  intro hc
  rw [Bool.and_eq_true, Bool.and_eq_true, Bool.and_eq_true, decide_eq_true_iff] at hc
  obtain ⟨⟨⟨h1, h2⟩, h3⟩, _⟩ := hc
  rcases h with h | h | h
  · rw [h] at h1; cases h1
  · rw [h] at h2; cases h2
  · exact h h3
theorem prodM_if {a b : List (List Int)} (h1 : isMat a = true) (h2 : isMat b = true) (h3 : a.length = b.length) : prodM a b = if isMat (mulM a b) = true then some (mulM a b) else none := by
  unfold prodM
  rw [h1, h2, decide_eq_true h3, Bool.true_and, Bool.true_and, Bool.true_and]
theorem mulM_length (a b : List (List Int)) : (mulM a b).length = a.length := tabOf_length _ _ _
theorem mulM_row {a b : List (List Int)} {k : Nat} (hk : k < (mulM a b).length) : ((mulM a b).getD k []).length = b.length := by
  rw [mulM_length] at hk
  unfold mulM
  rw [tabOf_row hk]; simp

end Go.Proofs.Ytcoiodfggaanbaa
