/-
  PLAIN FACTS ON THE LEAST SOURCE OF A WORD (no program in this text): a word that is completed letter by letter, the least letter first, given up where the code gives another letter than the word has.
-/
import Derived.Test.YtcoiodfggaanbaaCodeNum
namespace Go.Proofs.Ytcoiodfggaanbaa
open Go Go.RowKit

/-- The last letter that the code gives for v is another than the word has there. -/
def badF (k n : Nat) (o w v : ByteArray) : Bool := decide (n ≤ v.size) && !((oneB (letterC k o (v.extract (v.size - n) v.size))).toList == (w.extract (v.size - n) (v.size - n + 1)).toList)
/-- The least completion of v by d letters. -/
def firstW (k n : Nat) (o w : ByteArray) : Nat → ByteArray → Option ByteArray
  | 0, v => if badF k n o w v = true then none else some v
  | d + 1, v => if badF k n o w v = true then none else (List.range k).findSome? fun x => firstW k n o w d (v ++ letterB x)
def optS (r : Option ByteArray) : ByteArray := r.getD ⟨#[]⟩
theorem firstW_bad {k n : Nat} {o w : ByteArray} (d : Nat) {v : ByteArray} (h : badF k n o w v = true) : firstW k n o w d v = none := by
  cases d with
  | zero => unfold firstW; rw [if_pos h]
  | succ d => unfold firstW; rw [if_pos h]
theorem firstW_end {k n : Nat} {o w v : ByteArray} (h : badF k n o w v = false) : firstW k n o w 0 v = some v := by
  unfold firstW; rw [h]; rfl
theorem firstW_none {k n d : Nat} {o w v : ByteArray} (h : badF k n o w v = false) (hx : ∀ x, x < k → firstW k n o w d (v ++ letterB x) = none) : firstW k n o w (d + 1) v = none := by
  rw [firstW, h, if_neg (by decide), List.findSome?_eq_none_iff]
  intro x hm
  exact hx x (List.mem_range.1 hm)
theorem findSome_at {β : Type} {f : Nat → Option β} {k x : Nat} {r : β} (hk : x < k) (h0 : ∀ y, y < x → f y = none) (h : f x = some r) : (List.range k).findSome? f = some r := by
  obtain ⟨m, rfl⟩ : ∃ m, k = x + 1 + m := ⟨k - (x + 1), by omega⟩
  rw [List.range_add, List.findSome?_append, List.range_succ, List.findSome?_append]
  have e : (List.range x).findSome? f = none := by
    rw [List.findSome?_eq_none_iff]
    intro y hy
    exact h0 y (List.mem_range.1 hy)
  rw [e]
  simp [h]
theorem firstW_some {k n d x : Nat} {o w v r : ByteArray} (h : badF k n o w v = false) (hk : x < k) (h0 : ∀ y, y < x → firstW k n o w d (v ++ letterB y) = none) (hx : firstW k n o w d (v ++ letterB x) = some r) : firstW k n o w (d + 1) v = some r := by
  rw [firstW, h, if_neg (by decide)]
  exact findSome_at hk h0 hx
/-- What can be asked for. -/
def fitsB (K N : Int) (o w : ByteArray) : Bool := appOk K N o w && decide (w.size ≤ 8)
end Go.Proofs.Ytcoiodfggaanbaa
