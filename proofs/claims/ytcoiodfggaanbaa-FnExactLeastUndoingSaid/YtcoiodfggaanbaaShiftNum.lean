/-
  PLAIN FACTS ON SHIFTS (no program in this text): what a shift is, which words avoid its forbidden ones.
-/
import Derived.Test.YtcoiodfggaanbaaWordNum
import Derived.Test.YtcoiodfggaanbaaStrs
namespace Go.Proofs.Ytcoiodfggaanbaa
open Go Go.RowKit

/-- The forbidden word at place k is one, and stands behind the word ahead of it. -/
def okAt (L : Int) (ps : List ByteArray) (k : Nat) : Bool :=
  (isW L (ps.getD k ByteArray.empty) && (decide (1 ≤ (ps.getD k ByteArray.empty).size) && decide ((ps.getD k ByteArray.empty).size ≤ 3))) &&
    (decide (k = 0) || decide ((ps.getD (k - 1) ByteArray.empty).data.toList < (ps.getD k ByteArray.empty).data.toList))
def isShift (L : Int) (ps : List ByteArray) : Bool :=
  (List.range ps.length).all (okAt L ps) && ((decide (1 ≤ L) && decide (L ≤ 3)) && decide (ps.length ≤ 8))
def ShiftTo (L : Int) (ps : List ByteArray) (k : Nat) : Prop := ∀ j, j < k → okAt L ps j = true
theorem ShiftTo.zero (L : Int) (ps : List ByteArray) : ShiftTo L ps 0 := fun j h => by omega
theorem ShiftTo.next {L : Int} {ps : List ByteArray} {k : Nat} (h : ShiftTo L ps k) (hk : okAt L ps k = true) : ShiftTo L ps (k + 1) := by
  intro j hj
  by_cases e : j = k
  · subst e; exact hk
  · exact h j (by omega)
theorem isShift_not {L : Int} {ps : List ByteArray} {k : Nat} (hk : k < ps.length) (h : okAt L ps k = false) : isShift L ps = false := by
  have : (List.range ps.length).all (okAt L ps) = false := by
    rw [← Bool.not_eq_true, List.all_eq_true]
    intro hall
    have := hall k (List.mem_range.2 hk)
    rw [h] at this; cases this
  unfold isShift
  rw [this]; rfl
theorem isShift_end {L : Int} {ps : List ByteArray} (h : ShiftTo L ps ps.length) : isShift L ps = ((decide (1 ≤ L) && decide (L ≤ 3)) && decide (ps.length ≤ 8)) := by
  have : (List.range ps.length).all (okAt L ps) = true := by
    rw [List.all_eq_true]
    intro k hk
    exact h k (List.mem_range.1 hk)
  unfold isShift
  rw [this]; rfl
theorem isShift_letters {L : Int} {ps : List ByteArray} (h : isShift L ps = true) : 1 ≤ L ∧ L ≤ 3 ∧ ps.length ≤ 8 := by
  unfold isShift at h
  simp only [Bool.and_eq_true, decide_eq_true_eq] at h
  exact ⟨h.2.1.1, h.2.1.2, h.2.2⟩
theorem okAt_word {L : Int} {ps : List ByteArray} {k : Nat} (h : isW L (ps.getD k ByteArray.empty) = false) : okAt L ps k = false := by
  unfold okAt; rw [h]; rfl
theorem okAt_size {L : Int} {ps : List ByteArray} {k : Nat} (h : (decide (1 ≤ (ps.getD k ByteArray.empty).size) && decide ((ps.getD k ByteArray.empty).size ≤ 3)) = false) : okAt L ps k = false := by
  unfold okAt; rw [h, Bool.and_false]; rfl

/-! ### Words that avoid -/
/-- None of the words occurs in w. -/
def avoids (ps : List ByteArray) (w : ByteArray) : Bool := ps.all fun f => !Lib.contains w.data.toList f.data.toList
def AvoidTo (ps : List ByteArray) (w : ByteArray) (k : Nat) : Prop := ∀ j, j < k → Lib.contains w.data.toList (ps.getD j ByteArray.empty).data.toList = false
theorem AvoidTo.next {ps : List ByteArray} {w : ByteArray} {k : Nat} (h : AvoidTo ps w k) (hk : Lib.contains w.data.toList (ps.getD k ByteArray.empty).data.toList = false) : AvoidTo ps w (k + 1) := by
  intro j hj
  by_cases e : j = k
  · subst e; exact hk
  · exact h j (by omega)
theorem avoids_not {ps : List ByteArray} {w : ByteArray} {k : Nat} (hk : k < ps.length) (h : Lib.contains w.data.toList (ps.getD k ByteArray.empty).data.toList = true) : avoids ps w = false := by
  unfold avoids
  rw [← Bool.not_eq_true, List.all_eq_true]
  intro hall
  rw [List.getD_eq_getElem?_getD, List.getElem?_eq_getElem hk, Option.getD_some] at h
  have := hall _ (List.getElem_mem hk)
  rw [h] at this; cases this
theorem avoids_end {ps : List ByteArray} {w : ByteArray} (h : AvoidTo ps w ps.length) : avoids ps w = true := by
  unfold avoids
  rw [List.all_eq_true]
  intro f hf
  obtain ⟨k, hk, rfl⟩ := List.getElem_of_mem hf
  have := h k hk
  rw [List.getD_eq_getElem?_getD, List.getElem?_eq_getElem hk, Option.getD_some] at this
  rw [this]; rfl
def avoidsAll (L : Int) (ps : List ByteArray) (w : ByteArray) : Bool := (isShift L ps && isW L w) && avoids ps w
end Go.Proofs.Ytcoiodfggaanbaa
