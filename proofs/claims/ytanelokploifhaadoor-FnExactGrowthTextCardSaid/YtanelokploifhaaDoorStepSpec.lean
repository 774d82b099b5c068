/-
  The model's step by one arc, and its greatest common divisor; nothing that was there before is changed.
-/
import Derived.Test.YtanelokploifhaaDoorModelTexts
namespace Go.Proofs.YtanelokploifhaaDoor
open Go Go.RowKit

/-- A table of marks. -/
def markM (A : Nat → Nat → Bool) (n : Nat) : List (List Int) := tabOf n n fun i j => bI (A i j)
theorem markM_length (A : Nat → Nat → Bool) (n : Nat) : (markM A n).length = n := tabOf_length _ _ _
theorem markM_row (A : Nat → Nat → Bool) {n i : Nat} (hi : i < n) : ((markM A n).getD i []).length = n := by
  unfold markM
  rw [tabOf_row hi]; simp
theorem markM_cell (A : Nat → Nat → Bool) {n i j : Nat} (hi : i < n) (hj : j < n) : cellOf (markM A n) i j = bI (A i j) := tabOf_cell hi hj
/-- The step so far: all marks ahead of i and j, and t vertices there. -/
def stepF (A : Nat → Nat → Bool) (m : List (List Int)) (i j t : Nat) : Nat → Nat → Int := fun a b => if a < i ∨ (a = i ∧ b < j) then bI (stepK A m m.length a b) else if a = i ∧ b = j then bI (stepK A m t i j) else 0
theorem stepF_zero (A : Nat → Nat → Bool) (m : List (List Int)) (n : Nat) : tabOf n n (stepF A m 0 0 0) = tabOf n n fun _ _ => 0 := tabOf_congr fun i j _ _ => by
  unfold stepF
  rw [if_neg (by omega)]
  split <;> rfl
theorem stepF_at (A : Nat → Nat → Bool) (m : List (List Int)) (i j t : Nat) : stepF A m i j t i j = bI (stepK A m t i j) := by
  unfold stepF
  rw [if_neg (by omega), if_pos ⟨rfl, rfl⟩]
theorem stepF_term (A : Nat → Nat → Bool) (m : List (List Int)) (n i j t : Nat) (hi : i < n) : (tabOf n n (stepF A m i j t)).set i (((tabOf n n (stepF A m i j t)).getD i []).set j (bI (stepK A m t i j || (A i t && arcB m t j)))) = tabOf n n (stepF A m i j (t + 1)) := by
  rw [tabOf_set _ _ hi]
  refine tabOf_congr fun a b _ _ => ?_
  by_cases e : a = i ∧ b = j
  · obtain ⟨rfl, rfl⟩ := e
    rw [if_pos ⟨rfl, rfl⟩, stepF_at, stepB_next]
  · rw [if_neg e]
    unfold stepF
    rw [if_neg e, if_neg e]
theorem stepF_next (A : Nat → Nat → Bool) (m : List (List Int)) (n i j : Nat) : tabOf n n (stepF A m i j m.length) = tabOf n n (stepF A m i (j + 1) 0) := tabOf_congr fun a b _ _ => by
  unfold stepF
  by_cases h1 : a < i ∨ (a = i ∧ b < j)
  · rw [if_pos h1, if_pos (by omega)]
  · rw [if_neg h1]
    by_cases h2 : a = i ∧ b = j
    · obtain ⟨rfl, rfl⟩ := h2
      rw [if_pos ⟨rfl, rfl⟩, if_pos (by omega)]
    · rw [if_neg h2, if_neg (by omega)]
      split <;> rfl
theorem stepF_row (A : Nat → Nat → Bool) (m : List (List Int)) (n i : Nat) : tabOf n n (stepF A m i n 0) = tabOf n n (stepF A m (i + 1) 0 0) := tabOf_congr fun a b _ hb => by
  unfold stepF
  by_cases h1 : a < i ∨ (a = i ∧ b < n)
  · rw [if_pos h1, if_pos (by omega)]
  · rw [if_neg h1, if_neg (by omega), if_neg (by omega)]
    split <;> rfl
theorem stepF_all (A : Nat → Nat → Bool) (m : List (List Int)) : tabOf m.length m.length (stepF A m m.length 0 0) = markM (stepK A m m.length) m.length := tabOf_congr fun a b ha _ => by
  unfold stepF
  rw [if_pos (Or.inl ha)]

theorem wk_step (m : List (List Int)) (n : Nat) : markM (stepK (wkB m n) m m.length) m.length = markM (wkB m (n + 1)) m.length := rfl
theorem wk_one (m : List (List Int)) : oneM m.length = markM (wkB m 0) m.length := (wkM_zero m).symm

set_option maxRecDepth 100000 in
set_option maxHeartbeats 800000 in
theorem m_max (a b : Int) (w : World) : Calls Tryd.prog 41 #[.int .i64 a, .int .i64 b] w fun e w' => e = .returned (.int .i64 (max a b)) ∧ w' = w := by
  go_enter Tryd.func41, Tryd.ntmps41
  by_cases h : b < a
  · rw [show max a b = a by omega]
    go_wp2; go_ret; exact ⟨rfl, rfl⟩
  · rw [show max a b = b by omega]
    go_wp2; go_ret; exact ⟨rfl, rfl⟩

end Go.Proofs.YtanelokploifhaaDoor
