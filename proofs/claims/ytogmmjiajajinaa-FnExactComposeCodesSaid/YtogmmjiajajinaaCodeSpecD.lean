/-
  The model's ComposeCodes and CopyCode: as the plain words say; nothing that was there before is changed.
-/
import Derived.Test.YtogmmjiajajinaaCodeSpecA
import Derived.Test.YtogmmjiajajinaaAllW
namespace Go.Proofs.Ytogmmjiajajinaa
open Go Go.RowKit

theorem getD_in {ws : List ByteArray} {i : Nat} (h : i < ws.length) : ws.getD i ByteArray.empty ∈ ws := by
  rw [List.getD_eq_getElem?_getD, List.getElem?_eq_getElem h]; exact List.getElem_mem h
theorem pow_upTo {k n : Nat} (h1 : 1 ≤ k) (h : k ^ n ≤ 27) : ∀ i, i ≤ n → k ^ i ≤ 729 := fun i hi => Nat.le_trans (Nat.pow_le_pow_right h1 hi) (Nat.le_trans h (by decide))
theorem copyRes_no {K N a : Int} (h : copyB K N a = false) : CodeRes (copyB K N a) K N (copyO K N a) = .tuple #[.agg #[.int .i64 0, .int .i64 0, .string ⟨#[]⟩], .bool false] := by rw [h]; rfl
theorem copyB_form {K N a : Int} (h : codeForm K N = false) : copyB K N a = false := by unfold copyB; rw [h]; rfl
theorem copyB_at {K N a : Int} (h : ¬ (0 ≤ a ∧ a ≤ N - 1)) : copyB K N a = false := by
  unfold copyB
  by_cases h0 : 0 ≤ a
  · rw [decide_eq_false (show ¬ a < N from fun h1 => h ⟨h0, by omega⟩)]; simp
  · rw [decide_eq_false h0]; simp
theorem post_zero (w : World) : Below w.heap.size w (w.alloc (.cells #[.int .i64 0, .int .i64 0, .string ⟨#[]⟩] 26)) := (Below.refl _ _).alloc (Nat.le_refl _) _

set_option maxRecDepth 100000 in
set_option maxHeartbeats 1600000 in
theorem spec_copy_no (K N a : Int) (h : copyB K N a = false) (w : World) :
    Calls Try.prog 20 #[.int .i64 K, .int .i64 N, .int .i64 a] w (Says (CodeRes (copyB K N a) K N (copyO K N a)) w) := by
  rw [copyRes_no h]
  have HI := Lib.hid spec_inB
  have hk := codeIn_new w 0 0 ⟨#[]⟩
  have HK := Lib.hid hk
  clear hk
  by_cases h1 : 2 ≤ K ∧ K ≤ 3
  · have q1 := inB_yes h1
    by_cases h2 : 1 ≤ N ∧ N ≤ 4
    · have q2 := inB_yes h2
      obtain ⟨k, rfl⟩ := Int.eq_ofNat_of_zero_le (show 0 ≤ K by omega)
      obtain ⟨n, rfl⟩ := Int.eq_ofNat_of_zero_le (show 0 ≤ N by omega)
      obtain ⟨P, hP⟩ : ∃ P, k ^ n = P := ⟨_, rfl⟩
      have hp := fun w => spec_codePow k n (by omega) (by omega) w
      have hf : P ≤ 27 → codeForm (k : Int) (n : Int) = true := fun h => form_is ⟨by omega, by omega, by omega, by omega, by rw [hP]; exact h⟩
      rw [hP] at hp
      have HP := Lib.hid hp
      clear hp hP
      by_cases h3 : P ≤ 27
      · have g1 : decide ((27 : Int) < (P : Int)) = false := by simp; omega
        have ha : ¬ (0 ≤ a ∧ a ≤ (n : Int) - 1) := by
          rintro ⟨h5, h6⟩
          unfold copyB at h
          rw [hf h3, decide_eq_true h5, decide_eq_true (by omega)] at h
          cases h
        have q3 := inB_no ha
        have e1 : wrap64 ((n : Int) - 1) = (n : Int) - 1 := small_wrap (by omega)
        clear h ha hf
        go_enter Try.func20, Try.ntmps20
        go_wp2_with (first | (go_at_call 24; refine (HI.out _ _ _ _).mono ?_; rintro e w9 ⟨rfl, rfl⟩) | (go_at_call 25; refine (HP.out _).mono ?_; rintro e w9 ⟨rfl, rfl⟩))
        refine bodyPost_ret (results_code rfl _ _ _ 26 #[.int .i64 0, .int .i64 0, .string ⟨#[]⟩] (0, 0) _ rfl HK.out Try.underlying26 rfl (by kernel_rfl)) rfl ?_
        exact ⟨rfl, post_zero _⟩
      · have g1 : decide ((27 : Int) < (P : Int)) = true := by simp; omega
        clear h hf
        go_enter Try.func20, Try.ntmps20
        go_wp2_with (first | (go_at_call 24; refine (HI.out _ _ _ _).mono ?_; rintro e w9 ⟨rfl, rfl⟩) | (go_at_call 25; refine (HP.out _).mono ?_; rintro e w9 ⟨rfl, rfl⟩))
        refine bodyPost_ret (results_code rfl _ _ _ 26 #[.int .i64 0, .int .i64 0, .string ⟨#[]⟩] (0, 0) _ rfl HK.out Try.underlying26 rfl (by kernel_rfl)) rfl ?_
        exact ⟨rfl, post_zero _⟩
    · have q2 := inB_no h2
      clear h
      go_enter Try.func20, Try.ntmps20
      go_wp2_with (first | (go_at_call 24; refine (HI.out _ _ _ _).mono ?_; rintro e w9 ⟨rfl, rfl⟩))
      refine bodyPost_ret (results_code rfl _ _ _ 26 #[.int .i64 0, .int .i64 0, .string ⟨#[]⟩] (0, 0) _ rfl HK.out Try.underlying26 rfl (by kernel_rfl)) rfl ?_
      exact ⟨rfl, post_zero _⟩
  · have q1 := inB_no h1
    clear h
    go_enter Try.func20, Try.ntmps20
    go_wp2_with (first | (go_at_call 24; refine (HI.out _ _ _ _).mono ?_; rintro e w9 ⟨rfl, rfl⟩))
    refine bodyPost_ret (results_code rfl _ _ _ 26 #[.int .i64 0, .int .i64 0, .string ⟨#[]⟩] (0, 0) _ rfl HK.out Try.underlying26 rfl (by kernel_rfl)) rfl ?_
    exact ⟨rfl, post_zero _⟩
end Go.Proofs.Ytogmmjiajajinaa
