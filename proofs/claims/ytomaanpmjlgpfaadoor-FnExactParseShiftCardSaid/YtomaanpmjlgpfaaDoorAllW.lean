/-
  All words of a length: the model's list of them, where the letters are at most 3 and the words at most 729, in new memory; nothing that was there before is changed.
-/
import Derived.Test.YtomaanpmjlgpfaaDoorWordNum
import Derived.Test.YtomaanpmjlgpfaaDoorStrSame
import Derived.Test.YtomaanpmjlgpfaaDoorChecked
import Derived.Deep.Onto
import Derived.Deep.RegionHeld3
import Derived.Deep.AppendLies
import Derived.OwnWalk
namespace Go.Proofs.YtomaanpmjlgpfaaDoor
open Go Go.RowKit

/-- A list of strings in new memory. -/
def ListPost (ps : List ByteArray) (w : World) (e : Ending) (w' : World) : Prop :=
  ∃ v, e = .returned v ∧ w'.ownsRow w.heap.size 9 1 v ps.length (ps.map Value.string) ∧ Below w.heap.size w w'
theorem letter_at (x : Nat) (h : x < 3) : (⟨#[97, 98, 99]⟩ : ByteArray).extract x (x + 1) = letterB x := by
  match x, h with
  | 0, _ => rfl
  | 1, _ => rfl
  | 2, _ => rfl
theorem wrap_next (x : Nat) (h : x ≤ 1000000) : IntKind.i64.wrap ((x : Int) + 1) = (x : Int) + 1 := by
  simp [IntKind.wrap, IntKind.bits, IntKind.signed]
  omega
/-- The words with a letter behind each: j of them done, and the next with x letters. -/
def upTo (ws : List ByteArray) (k j x : Nat) : List ByteArray := longer (ws.take j) k ++ (List.range x).map fun y => ws.getD j ByteArray.empty ++ letterB y
theorem upTo_zero (ws : List ByteArray) (k j : Nat) : upTo ws k j 0 = longer (ws.take j) k := by simp [upTo]
theorem upTo_next (ws : List ByteArray) (k j x : Nat) : upTo ws k j (x + 1) = upTo ws k j x ++ [ws.getD j ByteArray.empty ++ letterB x] := by
  unfold upTo
  rw [range_next, List.append_assoc]
theorem upTo_full (ws : List ByteArray) (k j : Nat) (h : j < ws.length) : upTo ws k j k = longer (ws.take (j + 1)) k := by
  unfold upTo
  rw [longer_next ws k j h, List.getD_eq_getElem?_getD, List.getElem?_eq_getElem h]; rfl
theorem upTo_length (ws : List ByteArray) (k j x : Nat) (h : j ≤ ws.length) : (upTo ws k j x).length = j * k + x := by
  unfold upTo
  rw [List.length_append, longer_length, List.length_take, List.length_map, List.length_range, Nat.min_eq_left h]
theorem getD_size {ws : List ByteArray} {m j : Nat} (h : ∀ x ∈ ws, x.size = m) (hj : j < ws.length) : (ws.getD j ByteArray.empty).size = m := by
  rw [List.getD_eq_getElem?_getD, List.getElem?_eq_getElem hj]
  exact h _ (List.getElem_mem hj)

end Go.Proofs.YtomaanpmjlgpfaaDoor
