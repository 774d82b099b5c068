/-
  PLAIN FACTS ON TABLES OF NUMBERS (no program in this text): when a table is a matrix; products, powers, sums, the matrix that is turned around; slices of slices of numbers in memory.
-/
import Derived.WalkKit
import Derived.WalkSpells
import Derived.Lib.Hide
import Derived.Laws.OwnMore
namespace Go.Proofs.Ytcoiodfggaanbaa
open Go Go.RowKit

/-! ### Tables -/

def rowOk (n : Nat) (r : List Int) : Bool := decide (r.length = n) && r.all fun x => decide (0 ≤ x ∧ x ≤ 1000000)
def isMat (m : List (List Int)) : Bool := (m.all (rowOk m.length)) && decide (1 ≤ m.length ∧ m.length ≤ 9)
def cellOf (m : List (List Int)) (i j : Nat) : Int := (m.getD i []).getD j 0
theorem rowOk_iff {n : Nat} {r : List Int} : rowOk n r = true ↔ r.length = n ∧ ∀ k, k < r.length → 0 ≤ r.getD k 0 ∧ r.getD k 0 ≤ 1000000 := by
  unfold rowOk
  rw [Bool.and_eq_true, decide_eq_true_iff, List.all_eq_true]
  constructor
  · rintro ⟨h1, h2⟩
    refine ⟨h1, fun k hk => ?_⟩
    have := h2 r[k] (List.getElem_mem hk)
    simp only [decide_eq_true_eq] at this
    simpa [List.getD, hk] using this
  · rintro ⟨h1, h2⟩
    refine ⟨h1, fun x hx => ?_⟩
    obtain ⟨k, hk, rfl⟩ := List.getElem_of_mem hx
    have := h2 k hk
    simp only [decide_eq_true_eq]
    simpa [List.getD, hk] using this
theorem isMat_iff {m : List (List Int)} : isMat m = true ↔ (1 ≤ m.length ∧ m.length ≤ 9) ∧ ∀ i, i < m.length → (m.getD i []).length = m.length ∧ ∀ j, j < m.length → 0 ≤ cellOf m i j ∧ cellOf m i j ≤ 1000000 := by
  unfold isMat
  rw [Bool.and_eq_true, decide_eq_true_iff, List.all_eq_true, and_comm]
  refine and_congr_right fun _ => ⟨fun h i hi => ?_, fun h r hr => ?_⟩
  · have := rowOk_iff.1 (h m[i] (List.getElem_mem hi))
    have e : m.getD i [] = m[i] := by simp [List.getD, hi]
    unfold cellOf
    rw [e]
    exact ⟨this.1, fun j hj => this.2 j (by rw [this.1]; exact hj)⟩
  · obtain ⟨i, hi, rfl⟩ := List.getElem_of_mem hr
    have e : m.getD i [] = m[i] := by simp [List.getD, hi]
    have := h i hi
    unfold cellOf at this
    rw [e] at this
    exact rowOk_iff.2 ⟨this.1, fun k hk => this.2 k (by rw [← this.1]; exact hk)⟩

/-- f 0 + .. + f (n - 1). -/
def sumTo : Nat → (Nat → Int) → Int
  | 0, _ => 0
  | n + 1, f => sumTo n f + f n
theorem sumTo_congr {f g : Nat → Int} : ∀ (n : Nat), (∀ k, k < n → f k = g k) → sumTo n f = sumTo n g
  | 0, _ => rfl
  | n + 1, h => by rw [sumTo, sumTo, sumTo_congr n (fun k hk => h k (by omega)), h n (by omega)]
theorem sumTo_le {f : Nat → Int} {B : Int} : ∀ (n : Nat), (∀ k, k < n → 0 ≤ f k ∧ f k ≤ B) → 0 ≤ sumTo n f ∧ sumTo n f ≤ n * B
  | 0, _ => ⟨Int.le_refl _, by simp [sumTo]⟩
  | n + 1, h => by
    obtain ⟨h1, h2⟩ := sumTo_le n (fun k hk => h k (by omega))
    obtain ⟨h3, h4⟩ := h n (by omega)
    rw [sumTo]
    refine ⟨by omega, ?_⟩
    have : ((n + 1 : Nat) : Int) * B = n * B + B := by rw [Int.natCast_succ, Int.add_mul, Int.one_mul]
    omega
/-- A table by its numbers. -/
def tabOf (n m : Nat) (f : Nat → Nat → Int) : List (List Int) := (List.range n).map fun i => (List.range m).map (f i)
theorem tabOf_length (n m : Nat) (f : Nat → Nat → Int) : (tabOf n m f).length = n := by simp [tabOf]
theorem tabOf_row {n m : Nat} {f : Nat → Nat → Int} {i : Nat} (hi : i < n) : (tabOf n m f).getD i [] = (List.range m).map (f i) := by simp [tabOf, List.getD, hi]
theorem tabOf_cell {n m : Nat} {f : Nat → Nat → Int} {i j : Nat} (hi : i < n) (hj : j < m) : cellOf (tabOf n m f) i j = f i j := by
  unfold cellOf
  rw [tabOf_row hi]
  simp [List.getD, hj]
theorem tabOf_congr {n m : Nat} {f g : Nat → Nat → Int} (h : ∀ i j, i < n → j < m → f i j = g i j) : tabOf n m f = tabOf n m g := by
  unfold tabOf
  refine List.map_congr_left fun i hi => List.map_congr_left fun j hj => ?_
  exact h i j (List.mem_range.1 hi) (List.mem_range.1 hj)
theorem tabOf_self {m : List (List Int)} {n : Nat} (h : ∀ i, i < m.length → (m.getD i []).length = n) : tabOf m.length n (cellOf m) = m := by
  refine List.ext_getElem (tabOf_length _ _ _) fun i h1 h2 => ?_
  have hr := h i h2
  have e : m.getD i [] = m[i] := by simp [List.getD, h2]
  have e1 : (tabOf m.length n (cellOf m))[i] = (List.range n).map (cellOf m i) := by simp [tabOf]
  rw [e1]
  rw [e] at hr
  refine List.ext_getElem (by simp [hr]) fun j k1 k2 => ?_
  simp [cellOf, List.getD, h2, k2]
def mulM (a b : List (List Int)) : List (List Int) := tabOf a.length b.length fun i j => sumTo b.length fun k => cellOf a i k * cellOf b k j
def oneM (n : Nat) : List (List Int) := tabOf n n fun i j => if i = j then 1 else 0
def turnM (m : List (List Int)) : List (List Int) := tabOf m.length m.length fun i j => cellOf m j i
/-- The product of two matrices, where there is one. -/
def prodM (a b : List (List Int)) : Option (List (List Int)) := if isMat a && isMat b && decide (a.length = b.length) && isMat (mulM a b) then some (mulM a b) else none
/-- The products of k times m, made one after the other. -/
def powM (m : List (List Int)) : Nat → Option (List (List Int))
  | 0 => some (oneM m.length)
  | k + 1 => (powM m k).bind fun p => prodM p m
def traceM (m : List (List Int)) : Int := if isMat m then sumTo m.length fun k => cellOf m k k else -1
def sumM (m : List (List Int)) : Int := if isMat m then sumTo m.length fun i => sumTo m.length fun j => cellOf m i j else -1

theorem prodM_some {a b c : List (List Int)} (h : prodM a b = some c) : isMat a = true ∧ isMat b = true ∧ a.length = b.length ∧ isMat c = true ∧ c = mulM a b := by
  unfold prodM at h
  split at h
  · next hc =>
    rw [Bool.and_eq_true, Bool.and_eq_true, Bool.and_eq_true, decide_eq_true_iff] at hc
    obtain ⟨⟨⟨h1, h2⟩, h3⟩, h4⟩ := hc
    obtain rfl := Option.some.inj h
    exact ⟨h1, h2, h3, h4, rfl⟩
  · cases h
theorem oneM_isMat {n : Nat} (h1 : 1 ≤ n) (h2 : n ≤ 9) : isMat (oneM n) = true := by
  have hl : (oneM n).length = n := tabOf_length _ _ _
  refine isMat_iff.2 ⟨by omega, fun i hi => ⟨?_, fun j hj => ?_⟩⟩
  · rw [hl] at hi
    unfold oneM; rw [tabOf_row hi, List.length_map, List.length_range, tabOf_length]
  · rw [hl] at hi hj
    unfold oneM
    rw [tabOf_cell hi hj]
    split <;> omega
theorem powM_length {m : List (List Int)} : ∀ (k : Nat) {p : List (List Int)}, powM m k = some p → p.length = m.length
  | 0, p, h => by
    obtain rfl := Option.some.inj h
    exact tabOf_length _ _ _
  | k + 1, p, h => by
    rw [powM] at h
    obtain ⟨q, hq, hp⟩ := Option.bind_eq_some_iff.1 h
    obtain ⟨_, _, h3, _, rfl⟩ := prodM_some hp
    unfold mulM
    rw [tabOf_length, powM_length k hq]
theorem powM_isMat {m : List (List Int)} (hm : isMat m = true) : ∀ (k : Nat) {p : List (List Int)}, powM m k = some p → isMat p = true
  | 0, p, h => by
    obtain rfl := Option.some.inj h
    obtain ⟨⟨h1, h2⟩, _⟩ := isMat_iff.1 hm
    exact oneM_isMat h1 h2
  | k + 1, p, h => by
    rw [powM] at h
    obtain ⟨q, hq, hp⟩ := Option.bind_eq_some_iff.1 h
    exact (prodM_some hp).2.2.2.1
theorem powM_stuck {m : List (List Int)} {k : Nat} (h : powM m k = none) : ∀ (n : Nat), k ≤ n → powM m n = none := by
  intro n hn
  induction n with
  | zero => obtain rfl : k = 0 := by omega
            exact h
  | succ n ih =>
    by_cases hk : k = n + 1
    · subst hk; exact h
    · rw [powM, ih (by omega)]; rfl
end Go.Proofs.Ytcoiodfggaanbaa
