/-
  A matrix is not too large; what a function answers at the laws' copies of tables.
-/
import Derived.Test.YtfgjlpnmjfekhaaMatSpec
import Derived.Test.YtfgjlpnmjfekhaaGridLaw
namespace Go.Proofs.Ytfgjlpnmjfekhaa
open Go Go.RowKit

theorem tot_le_of {m : List (List Int)} {n : Nat} (h : ∀ r, r ∈ m → r.length ≤ n) : tot m ≤ m.length * n := by
  induction m with
  | nil => simp [tot]
  | cons r m ih =>
    have h1 := h r (by simp)
    have h2 := ih fun s hs => h s (by simp [hs])
    have e : tot (r :: m) = r.length + tot m := by simp [tot]
    rw [e, List.length_cons, Nat.add_mul, Nat.one_mul]; omega
theorem tot_isMat {m : List (List Int)} (h : MatFacts m) : tot m ≤ 81 := by
  have h1 := tot_le_of (m := m) (n := 9) fun r hr => by
    obtain ⟨i, hi, rfl⟩ := List.getElem_of_mem hr
    have := h.row i hi
    have e : m.getD i [] = m[i] := by simp [List.getD, hi]
    rw [e] at this
    have := h.le
    omega
  have := h.le
  omega

theorem sizeB_facts {m : List (List Int)} (h : MatFacts m) : SizeB m := by
  have := h.le
  have := tot_isMat h
  unfold SizeB; omega
theorem sizeB_nil : SizeB [] := by unfold SizeB; decide
/-- What a function of one table, of two answers at the laws' copies. -/
def At1 (W : World) (f : Nat) (m : List (List Int)) (P : World → Ending → World → Prop) : Prop := ∀ v w', Below W.heap.size W w' → SizeB m → OwnG w' W.heap.size v m → Calls Try.prog f #[v] w' (P w')
def At1I (W : World) (f : Nat) (m : List (List Int)) (n : Int) (P : World → Ending → World → Prop) : Prop := ∀ v w', Below W.heap.size W w' → SizeB m → OwnG w' W.heap.size v m → Calls Try.prog f #[v, .int .i64 n] w' (P w')
def At2 (W : World) (f : Nat) (a b : List (List Int)) (P : World → Ending → World → Prop) : Prop := ∀ v v' w', Below W.heap.size W w' → SizeB a → SizeB b → OwnG w' W.heap.size v a → OwnG w' W.heap.size v' b → Calls Try.prog f #[v, v'] w' (P w')

theorem rows_le {m : List (List Int)} (h : SizeB m) : m.length ≤ 1048576 ∧ tot m ≤ 1048576 ∧ ∀ k, k < m.length → (m.getD k []).length ≤ 1099511627776 := by
  unfold SizeB at h
  exact ⟨by omega, by omega, fun k hk => by have := row_le_tot hk; omega⟩
end Go.Proofs.Ytfgjlpnmjfekhaa
