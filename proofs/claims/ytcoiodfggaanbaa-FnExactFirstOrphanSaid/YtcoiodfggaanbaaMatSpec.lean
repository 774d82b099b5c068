/-
  The model's IsMatrix, EqualMatrix, TraceOf and SumOf: at every table they answer what the plain words say, and change nothing.
-/
import Derived.Test.YtcoiodfggaanbaaGridOps
import Derived.Deep.RegionHeld3
namespace Go.Proofs.Ytcoiodfggaanbaa
open Go Go.RowKit

theorem m_in (x lo hi : Int) (w : World) :
    Calls Try.prog 65 #[.int .i64 x, .int .i64 lo, .int .i64 hi] w fun e w' => e = .returned (.bool (decide (lo ≤ x) && decide (x ≤ hi))) ∧ w' = w := by
  go_enter Try.func65, Try.ntmps65
  cases h1 : decide (lo ≤ x) with
  | false => go_wp2; go_ret; exact ⟨rfl, rfl⟩
  | true => go_wp2; go_ret; exact ⟨rfl, rfl⟩

theorem isMat_not {m : List (List Int)} {k : Nat} (hk : k < m.length) (h : rowOk m.length (m.getD k []) = false) : isMat m = false := by
  unfold isMat
  have : m.all (rowOk m.length) = false := by
    rw [List.all_eq_false]
    refine ⟨m[k], List.getElem_mem hk, ?_⟩
    rw [show m[k] = m.getD k [] by simp [List.getD, hk], h]; simp
  rw [this]; rfl
theorem isMat_rows {m : List (List Int)} (h : ∀ j, j < m.length → rowOk m.length (m.getD j []) = true) : isMat m = (decide (1 ≤ (m.length : Int)) && decide ((m.length : Int) ≤ 9)) := by
  unfold isMat
  have : m.all (rowOk m.length) = true := by
    rw [List.all_eq_true]
    intro r hr
    obtain ⟨i, hi, rfl⟩ := List.getElem_of_mem hr
    have := h i hi
    simpa [List.getD, hi] using this
  rw [this, Bool.true_and]
  by_cases h1 : 1 ≤ m.length <;> by_cases h2 : m.length ≤ 9 <;> simp [h1, h2] <;> omega
theorem rowOk_short {n : Nat} {r : List Int} (h : ¬ r.length = n) : rowOk n r = false := by unfold rowOk; simp [h]
theorem rowOk_bad {n k : Nat} {r : List Int} (hk : k < r.length) (h : (decide ((0 : Int) ≤ r.getD k 0) && decide (r.getD k 0 ≤ 1000000)) = false) : rowOk n r = false := by
  cases e : rowOk n r with
  | false => rfl
  | true =>
    have := (rowOk_iff.1 e).2 k hk
    rw [decide_eq_true this.1, decide_eq_true this.2] at h
    cases h

theorem take_same_next {xs ys : List Int} {k : Nat} (h : xs.take k = ys.take k) (h1 : k < xs.length) (h2 : k < ys.length) (he : xs.getD k 0 = ys.getD k 0) : xs.take (k + 1) = ys.take (k + 1) := by
  rw [ints_take_next xs k h1, ints_take_next ys k h2, h, he]
theorem rows_same_next {a b : List (List Int)} {k : Nat} (h : a.take k = b.take k) (h1 : k < a.length) (h2 : k < b.length) (he : a.getD k [] = b.getD k []) : a.take (k + 1) = b.take (k + 1) := by
  rw [rows_take_next a k h1, rows_take_next b k h2, h, he]
theorem lists_same {α : Type} {xs ys : List α} {n : Nat} (h : xs.take n = ys.take n) (h1 : xs.length = n) (h2 : ys.length = n) : xs = ys := by
  rwa [List.take_of_length_le (by omega), List.take_of_length_le (by omega)] at h

def BelowBool (b : Bool) (w : World) (e : Ending) (w' : World) : Prop := e = .returned (.bool b) ∧ Below w.heap.size w w'

/-- A matrix: at most nine rows, each as long, its numbers from 0 to a million. -/
structure MatFacts (m : List (List Int)) : Prop where
  pos : 1 ≤ m.length
  le : m.length ≤ 9
  row : ∀ i, i < m.length → (m.getD i []).length = m.length
  cell : ∀ i j, i < m.length → j < m.length → 0 ≤ cellOf m i j ∧ cellOf m i j ≤ 1000000
theorem isMat_facts {m : List (List Int)} (h : isMat m = true) : MatFacts m := by
  obtain ⟨⟨h1, h2⟩, h3⟩ := isMat_iff.1 h
  exact ⟨h1, h2, fun i hi => (h3 i hi).1, fun i j hi hj => (h3 i hi).2 j hj⟩
/-- A number of a matrix in memory. -/
theorem GridS.num {w : World} {A : Option Addr} {m : List (List Int)} (h : GridS w A m) {i j : Nat} (hi : i < m.length) (hj : j < (m.getD i []).length) :
    ∃ b off b2 off2 c', A = some ⟨b, off, none⟩ ∧ w.cell? ⟨b, off + i, none⟩ = some (.slice (some ⟨b2, off2, none⟩) (m.getD i []).length c') ∧ w.cell? ⟨b2, off2 + j, none⟩ = some (.int .i64 (cellOf m i j)) ∧ b < w.heap.size ∧ b2 < w.heap.size := by
  obtain ⟨b, off, A', c', hA, hc, hr, hb⟩ := h.row hi
  obtain ⟨b2, off2, rfl, hat, hb2⟩ := hr (by omega)
  exact ⟨b, off, b2, off2, c', hA, hc, hat j hj, hb, hb2⟩

end Go.Proofs.Ytcoiodfggaanbaa
