/-
  The model's LivelyOf: the vertices through which endless paths go, in new memory; nothing that was there before is changed.
-/
import Derived.Test.YtalclebehbdliaaGreatDoorGridTexts
namespace Go.Proofs.YtalclebehbdliaaGreatDoor
open Go Go.RowKit

theorem infoBool : (Tryz.prog.info? 4).map (fun i => (i.zero, i.size, i.bytes)) = some (some (.bool false), 1, 1) := by kernel_rfl
def boolsOf (n : Nat) (S : Nat → Bool) : List Value := (List.range n).map fun i => Value.bool (S i)
theorem boolsOf_at {n : Nat} {S : Nat → Bool} {k : Nat} (hk : k < n) : (boolsOf n S)[k]? = some (.bool (S k)) := by simp [boolsOf, hk]
theorem boolsOf_set {n : Nat} {S : Nat → Bool} {k : Nat} (b : Bool) : (boolsOf n S).set k (.bool b) = boolsOf n fun i => if i = k then b else S i := by
  refine List.ext_getElem (by simp [boolsOf]) fun i h1 h2 => ?_
  rw [List.getElem_set]
  by_cases e : k = i
  · subst e; simp [boolsOf]
  · rw [if_neg e]; simp [boolsOf, Ne.symm e]
theorem boolsOf_congr {n : Nat} {S T : Nat → Bool} (h : ∀ i, i < n → S i = T i) : boolsOf n S = boolsOf n T := by
  unfold boolsOf
  exact List.map_congr_left fun i hi => by rw [h i (List.mem_range.1 hi)]
theorem boolsOf_false (n : Nat) : List.replicate n (Value.bool false) = boolsOf n fun i => decide (i < 0) := by
  unfold boolsOf
  refine List.ext_getElem (by simp) fun i h1 h2 => ?_
  simp

def outOf (m : List (List Int)) (S : Nat → Bool) (k t : Nat) : Bool := (List.range t).any fun j => S j && decide (0 < cellOf m k j)
def inOf (m : List (List Int)) (S : Nat → Bool) (k t : Nat) : Bool := (List.range t).any fun j => S j && decide (0 < cellOf m j k)
theorem outOf_next (m : List (List Int)) (S : Nat → Bool) (k t : Nat) : outOf m S k (t + 1) = (outOf m S k t || (S t && decide (0 < cellOf m k t))) := by
  unfold outOf; rw [List.range_succ, List.any_append]; simp
theorem inOf_next (m : List (List Int)) (S : Nat → Bool) (k t : Nat) : inOf m S k (t + 1) = (inOf m S k t || (S t && decide (0 < cellOf m t k))) := by
  unfold inOf; rw [List.range_succ, List.any_append]; simp
theorem liveStep_as (m : List (List Int)) (S : Nat → Bool) (k : Nat) : liveStep m S k = (S k && outOf m S k m.length && inOf m S k m.length) := rfl
def cnt (n : Nat) (S : Nat → Bool) : Nat := ((List.range n).filter S).length
theorem cnt_le (n : Nat) (S : Nat → Bool) : cnt n S ≤ n := by
  unfold cnt
  have := List.length_filter_le S (List.range n)
  rwa [List.length_range] at this
theorem cnt_less {n k : Nat} {S : Nat → Bool} (hk : k < n) (h : S k = true) : cnt n (fun i => if i = k then false else S i) < cnt n S := by
  refine filter_lt (fun x hx => ?_) _ ⟨k, List.mem_range.2 hk, h, by simp⟩
  by_cases e : x = k
  · simp [e] at hx
  · simpa [e] using hx

def isTrueV : Option Value → Bool
  | some (.bool b) => b
  | _ => false
/-- How many are left, while something has changed. -/
def liveMeas (g n : Nat) (v : Value) (w : World) : Nat := match v with
  | .bool true => 1 + ((List.range n).filter fun i => isTrueV (w.cell? ⟨g, i, none⟩)).length
  | _ => 0
theorem liveMeas_true {g n : Nat} {w : World} {S : Nat → Bool} (h : ∀ i, i < n → w.cell? ⟨g, i, none⟩ = some (.bool (S i))) : liveMeas g n (.bool true) w = 1 + cnt n S := by
  show 1 + ((List.range n).filter fun i => isTrueV (w.cell? ⟨g, i, none⟩)).length = 1 + ((List.range n).filter S).length
  rw [List.filter_congr (q := S) fun i hi => by rw [h i (List.mem_range.1 hi)]; rfl]
theorem liveMeas_false (g n : Nat) (w : World) : liveMeas g n (.bool false) w = 0 := rfl

/-- The booleans, in new memory. -/
def BoolsPost (n : Nat) (S : Nat → Bool) (w : World) (e : Ending) (w' : World) : Prop :=
  e = .returned (.slice (some ⟨w.heap.size, 0, none⟩) n n) ∧ w'.ownsRow w.heap.size 4 1 (.slice (some ⟨w.heap.size, 0, none⟩) n n) n (boolsOf n S) ∧ Below w.heap.size w w' ∧ w.heap.size < w'.heap.size

/-- What holds in the midst of a sweep. -/
structure Sweep (m : List (List Int)) (S0 S : Nat → Bool) (b : Bool) (k : Nat) : Prop where
  good : ∀ T, Good m T → ∀ i, T i = true → S i = true
  sub : ∀ i, S i = true → i < m.length
  same : b = false → (∀ i, i < m.length → S i = S0 i) ∧ ∀ i, i < k → S i = true → liveStep m S i = true
  less : b = true → cnt m.length S < cnt m.length S0
  le : cnt m.length S ≤ cnt m.length S0
theorem Sweep.keep {m : List (List Int)} {S0 S : Nat → Bool} {b : Bool} {k : Nat} (h : Sweep m S0 S b k) (hk : (S k && !(outOf m S k m.length && inOf m S k m.length)) = false) : Sweep m S0 S b (k + 1) := by
  refine ⟨h.good, h.sub, fun hb => ⟨(h.same hb).1, fun i hi hS => ?_⟩, h.less, h.le⟩
  by_cases e : i = k
  · subst e
    rw [liveStep_as]
    rw [hS] at hk ⊢
    cases h1 : outOf m S i m.length <;> cases h2 : inOf m S i m.length <;> simp [h1, h2] at hk ⊢
  · exact (h.same hb).2 i (by omega) hS
theorem Sweep.drop {m : List (List Int)} {S0 S : Nat → Bool} {b : Bool} {k : Nat} (h : Sweep m S0 S b k) (hkl : k < m.length) (hk : (S k && !(outOf m S k m.length && inOf m S k m.length)) = true) : Sweep m S0 (fun i => if i = k then false else S i) true (k + 1) := by
  rw [Bool.and_eq_true] at hk
  have hlt := cnt_less hkl hk.1
  refine ⟨fun T hT i hi => ?_, fun i hi => ?_, fun e => (by cases e), fun _ => Nat.lt_of_lt_of_le hlt h.le, Nat.le_of_lt (Nat.lt_of_lt_of_le hlt h.le)⟩
  · by_cases e : i = k
    · subst e
      have h1 := good_in_step hT (h.good T hT) i hi
      rw [liveStep_as, Bool.and_eq_true, Bool.and_eq_true] at h1
      rw [h1.1.2, h1.2] at hk
      simp at hk
    · rw [if_neg e]; exact h.good T hT i hi
  · by_cases e : i = k
    · rw [if_pos e] at hi; cases hi
    · rw [if_neg e] at hi; exact h.sub i hi

end Go.Proofs.YtalclebehbdliaaGreatDoor
