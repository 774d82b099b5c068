/-
  The program's sets of vertices: a set of one vertex and of all, whether a vertex is in one, a row of ones and zeros, and the greatest common divisor; nothing that was there before is changed.
-/
import Derived.Test.YtcoiodfggaanbaaBitsU
import Derived.Test.YtcoiodfggaanbaaIntsLaw
import Derived.BigQuiet
namespace Go.Proofs.Ytcoiodfggaanbaa
open Go Go.RowKit

set_option maxRecDepth 100000 in
theorem impl_onlyVertex (v : Nat) (hv : v < 16) (w : World) : Calls Try.prog 136 #[.int .i64 (v : Int)] w fun e w' => e = .returned (.int .u16 ((2 ^ v : Nat) : Int)) ∧ w' = w := by
  have HP := Lib.hid (pow_bitU v hv)
  go_enter Try.func136, Try.ntmps136
  go_wp2
  go_ret
  exact ⟨by rw [← HP.out]; simp, rfl⟩

set_option maxRecDepth 100000 in
theorem impl_allVertices (n : Nat) (hn : n < 16) (w : World) : Calls Try.prog 91 #[.int .i64 (n : Int)] w fun e w' => e = .returned (.int .u16 ((2 ^ n - 1 : Nat) : Int)) ∧ w' = w := by
  have HP := Lib.hid (pow_bitU n hn)
  have HA := Lib.hid (all_bit n hn)
  go_enter Try.func91, Try.ntmps91
  go_wp2
  go_ret
  exact ⟨by rw [← HA.out, ← HP.out]; simp, rfl⟩

set_option maxRecDepth 100000 in
theorem impl_hasV (s : Nat) (hs : s < 512) (v : Nat) (hv : v < 16) (w : World) : Calls Try.prog 135 #[.int .u16 (s : Int), .int .i64 (v : Int)] w fun e w' => e = .returned (.bool (s.testBit v)) ∧ w' = w := by
  have HT := Lib.hid (has_bitU s v (by omega))
  go_enter Try.func135, Try.ntmps135
  go_wp2
  go_ret
  exact ⟨by rw [← HT.out]; simp, rfl⟩

/-- Ones for the vertices of a set, zeros for the others. -/
def onesS (s n : Nat) : List Int := (List.range n).map fun v => bI (s.testBit v)
theorem onesS_length (s n : Nat) : (onesS s n).length = n := by unfold onesS; simp
theorem onesS_at (s : Nat) {n k : Nat} (hk : k < n) : (onesS s n).getD k 0 = bI (s.testBit k) := by
  unfold onesS
  simp [List.getD_eq_getElem?_getD, hk]

end Go.Proofs.Ytcoiodfggaanbaa
