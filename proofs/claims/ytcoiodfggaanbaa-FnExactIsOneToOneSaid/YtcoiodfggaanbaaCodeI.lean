/-
  The program's side of codes: what a code is, the place of a word, and the function value that a code is turned into; nothing that was there before is changed.
-/
import Derived.Test.YtcoiodfggaanbaaCodeOps
namespace Go.Proofs.Ytcoiodfggaanbaa
open Go Go.RowKit

set_option maxRecDepth 100000 in
set_option maxHeartbeats 800000 in
theorem power_code (x : Int) (n : Nat) (hn : n ≤ 1000) (hB : ∀ k, k ≤ n → (x ^ k).natAbs ≤ 4611686018427387904) (w : World) :
    Calls Try.prog 88 #[.int .i64 x, .int .i64 (n : Int)] w fun e w' => e = .returned (.int .i64 (x ^ n)) ∧ w' = w := by
  have HB := Lib.hid hB
  have HS : Hid (∀ k : Nat, x ^ (k + 1) = x ^ k * x) := Lib.hid fun k => Int.pow_succ x k
  have H0 : Hid (x ^ 0 = 1) := Lib.hid (Int.pow_zero x)
  clear hB
  go_enter Try.func88, Try.ntmps88
  go_wp2
  go_loopw [5, 7] (fun p i wr => ∃ (k : Nat) (v : Int), k ≤ n ∧ i = .int .i64 k ∧ p = .int .i64 v ∧ Hid (v = x ^ k) ∧ wr = w) (fun _ i _ => n - (intOf i).toNat)
  case atStart => exact ⟨0, 1, Nat.zero_le _, rfl, rfl, Lib.hid H0.out.symm, rfl⟩
  case round =>
    obtain ⟨k, v, hk, rfl, rfl, hv, rfl⟩ := hrel
    by_cases hlt : k < n
    · have hb := HB.out (k + 1) (by omega)
      have hs := HS.out k
      rw [← hv.out] at hs
      obtain ⟨q, hq⟩ : ∃ q, x ^ (k + 1) = q := ⟨_, rfl⟩
      rw [hq] at hb hs
      have hw : RowKit.wrap64 (v * x) = q := by rw [← hs]; unfold RowKit.wrap64; omega
      have HQ := Lib.hid hq
      have g : (k : Int) < (n : Int) := by omega
      clear hs hb hq
      go_wp2
      go_roundw
      case rel => exact ⟨k + 1, _, by omega, by go_num, rfl, Lib.hid (hw.trans HQ.out.symm), trivial⟩
      case measure => simp [intOf]; omega
    · obtain rfl : k = n := by omega
      have HV := Lib.hid hv.out
      go_wp2
      go_ret
      exact ⟨by have := HV.out; simp [this], rfl⟩

theorem powerI (k n : Nat) (h3 : k ≤ 3) (h4 : n ≤ 4) (w : World) :
    Calls Try.prog 88 #[.int .i64 (k : Int), .int .i64 (n : Int)] w fun e w' => e = .returned (.int .i64 ((k ^ n : Nat) : Int)) ∧ w' = w := by
  have h := power_code (k : Int) n (by omega) (fun i hi => by
    have h1 : k ^ i ≤ 3 ^ i := Nat.pow_le_pow_left h3 i
    have h2 : 3 ^ i ≤ 3 ^ 4 := Nat.pow_le_pow_right (by decide) (by omega)
    have e : ((k : Int) ^ i) = ((k ^ i : Nat) : Int) := by rw [Int.natCast_pow]
    rw [e]; omega) w
  rw [show ((k : Int) ^ n) = ((k ^ n : Nat) : Int) by rw [Int.natCast_pow]] at h
  exact h

set_option maxRecDepth 100000 in
theorem impl_form (K N : Int) (w : World) :
    Calls Try.prog 76 #[.int .i64 K, .int .i64 N] w fun e w' => e = .returned (.bool (codeForm K N)) ∧ w' = w := by
  by_cases h1 : 2 ≤ K ∧ K ≤ 3
  · by_cases h2 : 1 ≤ N ∧ N ≤ 4
    · obtain ⟨k, rfl⟩ := Int.eq_ofNat_of_zero_le (show 0 ≤ K by omega)
      obtain ⟨n, rfl⟩ := Int.eq_ofNat_of_zero_le (show 0 ≤ N by omega)
      obtain ⟨P, hP⟩ : ∃ P, k ^ n = P := ⟨_, rfl⟩
      have hp := powerI k n (by omega) (by omega) w
      rw [hP] at hp
      have HP := Lib.hid hp
      have HE : Hid (codeForm (k : Int) (n : Int) = decide ((P : Int) ≤ 27)) := Lib.hid (by
        by_cases h : P ≤ 27
        · rw [decide_eq_true (by omega)]; exact form_is ⟨by omega, by omega, by omega, by omega, by rw [hP]; exact h⟩
        · rw [decide_eq_false (by omega)]; exact form_no (fun ok => h (by rw [← hP]; exact ok.le)))
      clear hp hP
      have g1 : ¬ (k : Int) < 2 := by omega
      have g2 : ¬ (3 : Int) < (k : Int) := by omega
      have g3 : ¬ (n : Int) < 1 := by omega
      have g4 : ¬ (4 : Int) < (n : Int) := by omega
      go_enter Try.func76, Try.ntmps76
      go_wp2_with fail
      refine HP.out.mono ?_
      rintro e w1 ⟨rfl, rfl⟩
      go_wp2
      go_ret
      exact ⟨by simp [HE.out], rfl⟩
    · have HE : Hid (codeForm K N = false) := Lib.hid (by rw [← Bool.not_eq_true]; intro h; obtain ⟨k, n, rfl, rfl, ok⟩ := formOk_of h; have := ok.n1; have := ok.n4; omega)
      have g1 : ¬ K < 2 := by omega
      have g2 : ¬ 3 < K := by omega
      clear h1
      by_cases h3 : N < 1
      · clear h2
        go_enter Try.func76, Try.ntmps76
        go_wp2
        go_ret
        exact ⟨by simp [HE.out], rfl⟩
      · have h4 : 4 < N := by omega
        clear h2
        go_enter Try.func76, Try.ntmps76
        go_wp2
        go_ret
        exact ⟨by simp [HE.out], rfl⟩
  · have HE : Hid (codeForm K N = false) := Lib.hid (by rw [← Bool.not_eq_true]; intro h; obtain ⟨k, n, rfl, rfl, ok⟩ := formOk_of h; have := ok.k2; have := ok.k3; omega)
    by_cases h3 : K < 2
    · clear h1
      go_enter Try.func76, Try.ntmps76
      go_wp2
      go_ret
      exact ⟨by simp [HE.out], rfl⟩
    · have h4 : 3 < K := by omega
      clear h1
      go_enter Try.func76, Try.ntmps76
      go_wp2
      go_ret
      exact ⟨by simp [HE.out], rfl⟩

set_option maxRecDepth 100000 in
set_option maxHeartbeats 800000 in
theorem impl_isCode (K N : Int) (o : ByteArray) (ho : o.size ≤ 1099511627776) (w : World) :
    Calls Try.prog 46 #[.agg #[.int .i64 K, .int .i64 N, .string o]] w (Says (.bool (isCodeB K N o)) w) := by
  have hk := codeIn_new w K N o
  have c0 := hk.c0
  have c1 := hk.c1
  have c2 := hk.c2
  have HB0 := Lib.hid ((Below.refl w.heap.size w).alloc (Nat.le_refl _) (.cells #[.int .i64 K, .int .i64 N, .string o] 25))
  clear hk
  have HF := Lib.hid (impl_form K N)
  cases hf : codeForm K N with
  | false =>
    rw [hf] at HF
    have HE : Hid (isCodeB K N o = false) := Lib.hid (code_none K N o hf)
    clear hf
    go_enter Try.func46, Try.ntmps46
    go_wp2
    go_quiet (first | (go_at_call 76; refine Calls.quiet_of_same (HF.out _)))
    go_wp2
    go_ret
    exact ⟨by simp [HE.out], drewN_below HB0.out _⟩
  | true =>
    rw [hf] at HF
    obtain ⟨k, n, rfl, rfl, ok⟩ := formOk_of hf
    obtain ⟨P, hP⟩ : ∃ P, k ^ n = P := ⟨_, rfl⟩
    have hp := fun w => powerI k n ok.k3 ok.n4 w
    rw [hP] at hp
    have HP := Lib.hid hp
    have HO := Lib.hid (impl_only (k : Int) (by have := ok.k2; have := ok.k3; omega) o ho)
    clear hp
    by_cases h4 : o.size = P
    · have HE : Hid (isCodeB (k : Int) (n : Int) o = allL (k : Int) o) := Lib.hid (by
        unfold isCodeB allL
        rw [hf, decide_eq_true (by rw [Int.toNat_natCast, Int.toNat_natCast, hP]; exact h4)]; rfl)
      subst h4
      have g2 : ((o.size : Int) == (o.size : Int)) = true := by simp
      clear hf hP ok
      generalize allL (k : Int) o = b at *
      go_enter Try.func46, Try.ntmps46
      go_wp2
      go_quiet (first | (go_at_call 76; refine Calls.quiet_of_same (HF.out _)) | (go_at_call 88; refine Calls.quiet_of_same (HP.out _)) | (go_at_call 89; refine Calls.quiet_of_same (HO.out _)))
      go_wp2
      go_ret
      exact ⟨by simp [HE.out], drewN_below HB0.out _⟩
    · have HE : Hid (isCodeB (k : Int) (n : Int) o = false) := Lib.hid (by
        unfold isCodeB
        rw [hf, decide_eq_false (by rw [Int.toNat_natCast, Int.toNat_natCast, hP]; exact h4)]; rfl)
      have g2 : ((o.size : Int) == (P : Int)) = false := by rw [beq_eq_false_iff_ne]; omega
      clear hf hP ok
      go_enter Try.func46, Try.ntmps46
      go_wp2
      go_quiet (first | (go_at_call 76; refine Calls.quiet_of_same (HF.out _)) | (go_at_call 88; refine Calls.quiet_of_same (HP.out _)))
      go_wp2
      go_ret
      exact ⟨by simp [HE.out], drewN_below HB0.out _⟩
end Go.Proofs.Ytcoiodfggaanbaa
