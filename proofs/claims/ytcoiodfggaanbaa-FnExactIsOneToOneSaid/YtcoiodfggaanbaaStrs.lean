/-
  PLAIN FACTS ON SLICES OF STRINGS IN MEMORY (no program in this text): what it means that a row of cells holds a list of strings; how long the strings are together.
-/
import Derived.WalkKit
import Derived.WalkSpells
import Derived.Lib.Hide
import Derived.Laws.OwnMore
namespace Go.Proofs.Ytcoiodfggaanbaa
open Go Go.RowKit

/-- From ⟨b, off⟩ on the cells hold the strings xs. -/
def StrsAt (w : World) (b off : Nat) (xs : List ByteArray) : Prop := ∀ k, k < xs.length → w.cell? ⟨b, off + k, none⟩ = some (.string (xs.getD k ByteArray.empty))
theorem StrsAt.below {B b off : Nat} {w w' : World} {xs : List ByteArray} (h : StrsAt w b off xs) (hb : Below B w w') (hlt : b < B) : StrsAt w' b off xs :=
  fun k hk => (hb.cell (p := ⟨b, off + k, none⟩) hlt).trans (h k hk)
theorem StrsAt.of_owns {w : World} {base e g n cap : Nat} {xs : List ByteArray} (h : w.ownsRow base e 1 (.slice (some ⟨g, 0, none⟩) n cap) n (xs.map Value.string)) (hn : n = xs.length) : StrsAt w g 0 xs := by
  intro k hk
  rw [Nat.zero_add, h.cellAt k (by omega)]
  simp [List.getD, List.getElem?_eq_getElem hk]
/-- How long the strings are together. -/
def total (xs : List ByteArray) : Nat := (xs.map (·.size)).sum
theorem take_next (xs : List ByteArray) (k : Nat) (h : k < xs.length) : xs.take (k + 1) = xs.take k ++ [xs.getD k ByteArray.empty] := by
  rw [List.take_succ_eq_append_getElem h]
  simp [List.getD, List.getElem?_eq_getElem h]
theorem total_next (xs : List ByteArray) (k : Nat) (h : k < xs.length) : total (xs.take (k + 1)) = total (xs.take k) + (xs.getD k ByteArray.empty).size := by
  rw [take_next xs k h]; simp [total]
theorem total_le_take (xs : List ByteArray) (k : Nat) : total (xs.take k) ≤ total xs := by
  have h2 : total (xs.take k ++ xs.drop k) = total (xs.take k) + total (xs.drop k) := by simp only [total, List.map_append, List.sum_append]
  rw [List.take_append_drop] at h2
  omega
theorem size_le_total {xs : List ByteArray} {k : Nat} (h : k < xs.length) : (xs.getD k ByteArray.empty).size ≤ total xs := by
  have := total_next xs k h
  have := total_le_take xs (k + 1)
  omega
theorem total_all {xs : List ByteArray} {k : Nat} (h : xs.length ≤ k) : total (xs.take k) = total xs := by rw [List.take_of_length_le h]
/-- A row that is being filled from the front. -/
def filled (xs : List ByteArray) (k n : Nat) : List Value := (xs.take k).map Value.string ++ List.replicate (n - k) (.string ByteArray.empty)
theorem filled_none (xs : List ByteArray) (n : Nat) : filled xs 0 n = List.replicate n (.string ByteArray.empty) := by simp [filled]
theorem filled_all (xs : List ByteArray) : filled xs xs.length xs.length = xs.map Value.string := by simp [filled]
theorem filled_set (xs : List ByteArray) (k : Nat) (h : k < xs.length) : (filled xs k xs.length).set k (.string (xs.getD k ByteArray.empty)) = filled xs (k + 1) xs.length := by
  have hl : ((xs.take k).map Value.string).length = k := by simp; omega
  have hr : List.replicate (xs.length - k) (Value.string ByteArray.empty) = .string ByteArray.empty :: List.replicate (xs.length - (k + 1)) (.string ByteArray.empty) := by
    rw [show xs.length - k = (xs.length - (k + 1)) + 1 by omega, List.replicate_succ]
  unfold filled
  rw [take_next xs k h, List.map_append, hr]
  rw [List.set_append_right _ _ (by omega), hl, Nat.sub_self]
  simp
theorem filled_at (xs : List ByteArray) (k : Nat) (h : k < xs.length) : (filled xs k xs.length)[k]? = some (.string ByteArray.empty) := by
  have hl : ((xs.take k).map Value.string).length = k := by simp; omega
  unfold filled
  rw [List.getElem?_append_right (by omega), hl, Nat.sub_self]
  rw [List.getElem?_replicate, if_pos (by omega)]
end Go.Proofs.Ytcoiodfggaanbaa
