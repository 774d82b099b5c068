/-
  PLAIN FACTS (no program in this text): the vertices that an arc from one of a list enters and that an arc to one of the list leaves; doing so again and again ends at the vertices through which endless paths go.
-/
import Derived.Test.YtanelokploifhaaDoorMidTexts
namespace Go.Proofs.YtanelokploifhaaDoor
open Go Go.RowKit

def enteredM (m : List (List Int)) (v : Int) (u : Int) : Bool := decide (0 < cellOf m u.toNat v.toNat)
def leftM (m : List (List Int)) (v : Int) (u : Int) : Bool := decide (0 < cellOf m v.toNat u.toNat)
def keepM (m : List (List Int)) (xs : List Int) (v : Int) : Bool := xs.any (enteredM m v) && xs.any (leftM m v)
def contM (m : List (List Int)) (xs : List Int) : List Int := xs.filter (keepM m xs)
/-- What is left behind k rounds. -/
def leftK (m : List (List Int)) (k : Nat) : List Int := ((List.range m.length).filter (liveK m k)).map fun (i : Nat) => (i : Int)
theorem leftK_length (m : List (List Int)) (k : Nat) : (leftK m k).length = liveCount m k := by unfold leftK liveCount; rw [List.length_map]
theorem leftK_mem {m : List (List Int)} {k : Nat} {x : Int} : x ∈ leftK m k ↔ ∃ i : Nat, x = (i : Int) ∧ i < m.length ∧ liveK m k i = true := by
  unfold leftK
  rw [List.mem_map]
  constructor
  · rintro ⟨i, hi, rfl⟩
    obtain ⟨h1, h2⟩ := List.mem_filter.1 hi
    exact ⟨i, rfl, List.mem_range.1 h1, h2⟩
  · rintro ⟨i, rfl, h1, h2⟩
    exact ⟨i, List.mem_filter.2 ⟨List.mem_range.2 h1, h2⟩, rfl⟩
theorem any_leftK {m : List (List Int)} {k : Nat} (p : Int → Bool) : (leftK m k).any p = (List.range m.length).any fun (j : Nat) => liveK m k j && p (j : Int) := by
  rw [Bool.eq_iff_iff, List.any_eq_true, List.any_eq_true]
  constructor
  · rintro ⟨x, hx, hp⟩
    obtain ⟨i, rfl, h1, h2⟩ := leftK_mem.1 hx
    exact ⟨i, List.mem_range.2 h1, by rw [h2, hp]; rfl⟩
  · rintro ⟨i, hi, hp⟩
    rw [Bool.and_eq_true] at hp
    exact ⟨(i : Int), leftK_mem.2 ⟨i, rfl, List.mem_range.1 hi, hp.1⟩, hp.2⟩
theorem contM_next (m : List (List Int)) (k : Nat) : contM m (leftK m k) = leftK m (k + 1) := by
  have h : ∀ i : Nat, (liveK m k i && keepM m (leftK m k) (i : Int)) = liveK m (k + 1) i := by
    intro i
    unfold keepM
    rw [any_leftK, any_leftK]
    show _ = liveStep m (liveK m k) i
    unfold liveStep enteredM leftM
    simp only [Int.toNat_natCast]
    rw [Bool.and_assoc, Bool.and_comm ((List.range m.length).any _) ((List.range m.length).any _)]
  unfold contM
  conv => lhs; arg 2; unfold leftK
  rw [List.filter_map, List.filter_filter]
  unfold leftK
  congr 1
  refine List.filter_congr fun i _ => ?_
  have := h i
  rw [Bool.and_comm] at this
  exact this
theorem leftK_zero (m : List (List Int)) : leftK m 0 = (List.range m.length).map fun (i : Nat) => (i : Int) := by
  unfold leftK
  rw [List.filter_eq_self.2]
  intro i hi
  exact decide_eq_true (List.mem_range.1 hi)
/-- A round that takes nothing away is the last. -/
theorem left_end {m : List (List Int)} {k : Nat} (hk : liveCount m k + k ≤ m.length) (h : (leftK m (k + 1)).length = (leftK m k).length) : leftK m k = liveList m m.length := by
  rw [leftK_length, leftK_length] at h
  rcases live_step_or m k with hs | hs
  · have e := live_still hs (m.length - k)
    rw [show k + (m.length - k) = m.length by omega] at e
    unfold leftK liveList liveM
    rw [e]
  · omega
theorem left_less {m : List (List Int)} {k : Nat} (hk : liveCount m k + k ≤ m.length) (h : (leftK m (k + 1)).length ≠ (leftK m k).length) : (leftK m (k + 1)).length < (leftK m k).length ∧ liveCount m (k + 1) + (k + 1) ≤ m.length := by
  rw [leftK_length, leftK_length] at *
  rcases live_step_or m k with hs | hs
  · exfalso
    apply h
    have e := live_still hs 1
    unfold liveCount
    rw [e]
  · exact ⟨hs, by omega⟩
theorem count_zero (m : List (List Int)) : liveCount m 0 + 0 ≤ m.length := by
  unfold liveCount
  have := List.length_filter_le (liveK m 0) (List.range m.length)
  rw [List.length_range] at this
  omega
end Go.Proofs.YtanelokploifhaaDoor
