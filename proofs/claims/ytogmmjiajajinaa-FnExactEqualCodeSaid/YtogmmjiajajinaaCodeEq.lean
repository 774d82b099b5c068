/-
  EqualCode: the model's and the program's, at every two codes, answer whether all fields are equal; nothing that was there before is changed.
-/
import Derived.Test.YtogmmjiajajinaaCodeOps
namespace Go.Proofs.Ytogmmjiajajinaa
open Go Go.RowKit

def sameC (K N : Int) (o : ByteArray) (K' N' : Int) (o' : ByteArray) : Bool := (K == K') && ((N == N') && (o.toList == o'.toList))

set_option maxRecDepth 100000 in
theorem spec_equalCode (K N K' N' : Int) (o o' : ByteArray) (w : World) :
    Calls Try.prog 22 #[.agg #[.int .i64 K, .int .i64 N, .string o], .agg #[.int .i64 K', .int .i64 N', .string o']] w (Says (.bool (sameC K N o K' N' o')) w) := by
  have HB := Lib.hid (((Below.refl w.heap.size w).alloc (Nat.le_refl _) (.cells #[.int .i64 K, .int .i64 N, .string o] 26)).alloc (by simp) (.cells #[.int .i64 K', .int .i64 N', .string o'] 26))
  by_cases h1 : K = K'
  · subst h1
    by_cases h2 : N = N'
    · subst h2
      by_cases h3 : o = o'
      · subst h3
        have HV : Hid (sameC K N o K N o = true) := Lib.hid (by unfold sameC; simp)
        go_enter Try.func22, Try.ntmps22
        go_wp2
        go_ret
        exact ⟨by simp [HV.out], HB.out⟩
      · have g3 : (o.toList == o'.toList) = false := by rw [ba_same]; exact decide_eq_false h3
        have HV : Hid (sameC K N o K N o' = false) := Lib.hid (by unfold sameC; rw [g3]; simp)
        go_enter Try.func22, Try.ntmps22
        go_wp2
        go_ret
        exact ⟨by simp [HV.out], HB.out⟩
    · have g2 : (N == N') = false := by rw [beq_eq_false_iff_ne]; exact h2
      have HV : Hid (sameC K N o K N' o' = false) := Lib.hid (by unfold sameC; rw [g2]; simp)
      go_enter Try.func22, Try.ntmps22
      go_wp2
      go_ret
      exact ⟨by simp [HV.out], HB.out⟩
  · have g1 : (K == K') = false := by rw [beq_eq_false_iff_ne]; exact h1
    have HV : Hid (sameC K N o K' N' o' = false) := Lib.hid (by unfold sameC; rw [g1]; simp)
    go_enter Try.func22, Try.ntmps22
    go_wp2
    go_ret
    exact ⟨by simp [HV.out], HB.out⟩

set_option maxRecDepth 100000 in
theorem impl_equalCode (K N K' N' : Int) (o o' : ByteArray) (w : World) :
    Calls Try.prog 23 #[.agg #[.int .i64 K, .int .i64 N, .string o], .agg #[.int .i64 K', .int .i64 N', .string o']] w (Says (.bool (sameC K N o K' N' o')) w) := by
  have HB := Lib.hid (((Below.refl w.heap.size w).alloc (Nat.le_refl _) (.cells #[.int .i64 K, .int .i64 N, .string o] 26)).alloc (by simp) (.cells #[.int .i64 K', .int .i64 N', .string o'] 26))
  by_cases h1 : K = K'
  · subst h1
    by_cases h2 : N = N'
    · subst h2
      by_cases h3 : o = o'
      · subst h3
        have HV : Hid (sameC K N o K N o = true) := Lib.hid (by unfold sameC; simp)
        go_enter Try.func23, Try.ntmps23
        go_wp2
        go_ret
        exact ⟨by simp [HV.out], HB.out⟩
      · have g3 : (o.toList == o'.toList) = false := by rw [ba_same]; exact decide_eq_false h3
        have HV : Hid (sameC K N o K N o' = false) := Lib.hid (by unfold sameC; rw [g3]; simp)
        go_enter Try.func23, Try.ntmps23
        go_wp2
        go_ret
        exact ⟨by simp [HV.out], HB.out⟩
    · have g2 : (N == N') = false := by rw [beq_eq_false_iff_ne]; exact h2
      have HV : Hid (sameC K N o K N' o' = false) := Lib.hid (by unfold sameC; rw [g2]; simp)
      go_enter Try.func23, Try.ntmps23
      go_wp2
      go_ret
      exact ⟨by simp [HV.out], HB.out⟩
  · have g1 : (K == K') = false := by rw [beq_eq_false_iff_ne]; exact h1
    have HV : Hid (sameC K N o K' N' o' = false) := Lib.hid (by unfold sameC; rw [g1]; simp)
    go_enter Try.func23, Try.ntmps23
    go_wp2
    go_ret
    exact ⟨by simp [HV.out], HB.out⟩
end Go.Proofs.Ytogmmjiajajinaa
