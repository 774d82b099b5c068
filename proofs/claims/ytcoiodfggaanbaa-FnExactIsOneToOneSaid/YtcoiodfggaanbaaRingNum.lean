/-
  PLAIN FACTS ON CODES THAT ARE THE SAME ON RINGS (no program in this text), and the world behind two codes that come in.
-/
import Derived.Test.YtcoiodfggaanbaaCodeOps
namespace Go.Proofs.Ytcoiodfggaanbaa
open Go Go.RowKit

def ringEq (K N : Int) (o : ByteArray) (K' N' : Int) (o' : ByteArray) (x : ByteArray) : Bool := (ringS K N o x).toList == (ringS K' N' o' x).toList
def sameB (K N : Int) (o : ByteArray) (K' N' : Int) (o' : ByteArray) (m : Int) : Bool := ((isCodeB K N o && isCodeB K' N' o') && (decide (K = K') && (decide (1 ≤ m) && decide (m ≤ 6)))) && (allW K.toNat m.toNat).all (ringEq K N o K' N' o')
theorem same_no {K N K' N' m : Int} {o o' : ByteArray} (h : ¬ ((isCodeB K N o = true ∧ isCodeB K' N' o' = true) ∧ K = K' ∧ 1 ≤ m ∧ m ≤ 6)) : sameB K N o K' N' o' m = false := by
  rw [← Bool.not_eq_true]
  intro e
  unfold sameB at e
  simp only [Bool.and_eq_true, decide_eq_true_eq] at e
  exact h e.1
theorem same_yes {k n n' m : Nat} {o o' : ByteArray} (ok : CodeOk k n o) (ok' : CodeOk k n' o') (h1 : 1 ≤ m) (h6 : m ≤ 6) : sameB (k : Int) (n : Int) o (k : Int) (n' : Int) o' (m : Int) = (allW k m).all (ringEq (k : Int) (n : Int) o (k : Int) (n' : Int) o') := by
  unfold sameB
  rw [code_is ok, code_is ok', decide_eq_true rfl, decide_eq_true (show 1 ≤ (m : Int) by omega), decide_eq_true (show (m : Int) ≤ 6 by omega)]
  simp
def AllTo (p : ByteArray → Bool) (ws : List ByteArray) (i : Nat) : Prop := ∀ j, j < i → p (ws.getD j ByteArray.empty) = true
theorem AllTo.zero (p : ByteArray → Bool) (ws : List ByteArray) : AllTo p ws 0 := fun _ h => absurd h (Nat.not_lt_zero _)
theorem AllTo.next {p : ByteArray → Bool} {ws : List ByteArray} {i : Nat} (h : AllTo p ws i) (hi : p (ws.getD i ByteArray.empty) = true) : AllTo p ws (i + 1) := fun j hj => by
  by_cases e : j = i
  · rw [e]; exact hi
  · exact h j (by omega)
theorem AllTo.all {p : ByteArray → Bool} {ws : List ByteArray} (h : AllTo p ws ws.length) : ws.all p = true := by
  rw [List.all_eq_true]
  intro x hx
  obtain ⟨j, hj, rfl⟩ := List.getElem_of_mem hx
  have := h j hj
  rwa [List.getD_eq_getElem?_getD, List.getElem?_eq_getElem hj] at this
theorem allW_not {p : ByteArray → Bool} {ws : List ByteArray} {i : Nat} (hi : i < ws.length) (h : p (ws.getD i ByteArray.empty) = false) : ws.all p = false := by
  rw [← Bool.not_eq_true, List.all_eq_true]
  intro e
  have := e ws[i] (List.getElem_mem hi)
  rw [List.getD_eq_getElem?_getD, List.getElem?_eq_getElem hi] at h
  rw [show p ws[i] = false from h] at this
  cases this
/-- The world behind two codes that come in. -/
theorem two_start (K N K' N' : Int) (o o' : ByteArray) (w : World) : ∃ W2, (w.alloc (.cells #[.int .i64 K, .int .i64 N, .string o] 25)).alloc (.cells #[.int .i64 K', .int .i64 N', .string o'] 25) = W2 ∧
    Below w.heap.size w W2 ∧ W2.heap.size = w.heap.size + 2 ∧ CodeIn W2 w.heap.size K N o ∧ CodeIn W2 (w.heap.size + 1) K' N' o' := by
  refine ⟨_, rfl, ((Below.refl _ _).alloc (Nat.le_refl _) _).alloc (by simp) _, by simp, ?_, ?_⟩
  · exact (codeIn_new w K N o).below ((Below.refl _ _).alloc (Nat.le_refl _) _)
  · have h := codeIn_new (w.alloc (.cells #[.int .i64 K, .int .i64 N, .string o] 25)) K' N' o'
    rw [World.size_alloc] at h
    exact h
theorem six_pow {k m : Nat} (hk : k ≤ 3) (hm : m ≤ 6) : k ^ m ≤ 729 := Nat.le_trans (Nat.pow_le_pow_left hk m) (Nat.le_trans (Nat.pow_le_pow_right (by decide) hm) (by decide))
end Go.Proofs.Ytcoiodfggaanbaa
