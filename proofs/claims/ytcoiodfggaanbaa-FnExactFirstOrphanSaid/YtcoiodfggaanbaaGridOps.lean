/-
  The laws' helpers on slices of slices of numbers: how many numbers there are, counted down from a limit; a copy in new memory; two that hold the same are found equal.
-/
import Derived.Test.YtcoiodfggaanbaaRows
import Derived.Test.YtcoiodfggaanbaaGrid
import Derived.WalkLawsBesides
import Derived.Deep.QuietTactic
import Derived.BigQuiet
namespace Go.Proofs.Ytcoiodfggaanbaa
open Go Go.RowKit

theorem infoInt : (Try.prog.info? 3).map (fun i => (i.zero, i.size, i.bytes)) = some (some (.int .i64 0), 1, 8) := by kernel_rfl
theorem infoSl : (Try.prog.info? 68).map (fun i => (i.zero, i.size, i.bytes)) = some (some (.slice none 0 0), 1, 24) := by kernel_rfl

def TrueBelowG (w : World) (e : Ending) (w' : World) : Prop := e = .returned (.bool true) ∧ Below w.heap.size w w'
/-- What is left of the limit, or -1. -/
def LeftPost (L : Int) (n : Nat) (w : World) (e : Ending) (w' : World) : Prop := ∃ r : Int, e = .returned (.int .i64 r) ∧ (r = -1 ∨ (0 ≤ r ∧ r + n = L)) ∧ w' = w

/-- What is left of the limit behind a table, or -1. -/
def SzGPost (L : Int) (m : List (List Int)) (w : World) (e : Ending) (w' : World) : Prop := ∃ r : Int, e = .returned (.int .i64 r) ∧ (r = -1 ∨ (0 ≤ r ∧ r + m.length + tot m = L)) ∧ w' = w

/-- A row that is being filled from the front. -/
def filledI (xs : List Int) (k n : Nat) : List Value := (xs.take k).map (Value.int .i64) ++ List.replicate (n - k) (.int .i64 0)
theorem filledI_none (xs : List Int) (n : Nat) : filledI xs 0 n = List.replicate n (.int .i64 0) := by simp [filledI]
theorem filledI_all (xs : List Int) : filledI xs xs.length xs.length = xs.map (Value.int .i64) := by simp [filledI]
theorem ints_take_next (xs : List Int) (k : Nat) (h : k < xs.length) : xs.take (k + 1) = xs.take k ++ [xs.getD k 0] := by
  rw [List.take_succ_eq_append_getElem h]
  simp [List.getD, List.getElem?_eq_getElem h]
theorem filledI_set (xs : List Int) (k : Nat) (h : k < xs.length) : (filledI xs k xs.length).set k (.int .i64 (xs.getD k 0)) = filledI xs (k + 1) xs.length := by
  have hl : ((xs.take k).map (Value.int .i64)).length = k := by simp; omega
  have hr : List.replicate (xs.length - k) (Value.int .i64 0) = .int .i64 0 :: List.replicate (xs.length - (k + 1)) (.int .i64 0) := by
    rw [show xs.length - k = (xs.length - (k + 1)) + 1 by omega, List.replicate_succ]
  unfold filledI
  rw [ints_take_next xs k h, List.map_append, hr]
  rw [List.set_append_right _ _ (by omega), hl, Nat.sub_self]
  simp
theorem filledI_at (xs : List Int) (k : Nat) (h : k < xs.length) : (filledI xs k xs.length)[k]? = some (.int .i64 0) := by
  have hl : ((xs.take k).map (Value.int .i64)).length = k := by simp; omega
  unfold filledI
  rw [List.getElem?_append_right (by omega), hl, Nat.sub_self]
  rw [List.getElem?_replicate, if_pos (by omega)]

/-- A copy in new memory, at the heap's end. -/
def CopyIPost (xs : List Int) (w : World) (e : Ending) (w' : World) : Prop :=
  e = .returned (.slice (some ⟨w.heap.size, 0, none⟩) xs.length xs.length) ∧ w'.ownsRow w.heap.size 3 1 (.slice (some ⟨w.heap.size, 0, none⟩) xs.length xs.length) xs.length (xs.map (Value.int .i64)) ∧ Below w.heap.size w w' ∧ w.heap.size < w'.heap.size

end Go.Proofs.Ytcoiodfggaanbaa
