/-
  The model's side of codes: powers, what a code is, the letter that it gives to a word, and a word's letters: as the plain words say; nothing that was there before is changed.
-/
import Derived.Test.YtcoiodfggaanbaaCodeOps
import Derived.BigQuiet
namespace Go.Proofs.Ytcoiodfggaanbaa
open Go Go.RowKit

set_option maxRecDepth 100000 in
theorem spec_codePow (k n : Nat) (h3 : k ≤ 3) (h4 : n ≤ 4) (w : World) :
    Calls Try.prog 66 #[.int .i64 (k : Int), .int .i64 (n : Int)] w fun e w' => e = .returned (.int .i64 ((k ^ n : Nat) : Int)) ∧ w' = w := by
  have HS : Hid (∀ m : Nat, k ^ (m + 1) = k ^ m * k) := Lib.hid fun m => Nat.pow_succ k m
  have H0 : Hid (k ^ 0 = 1) := Lib.hid (Nat.pow_zero k)
  go_enter Try.func66, Try.ntmps66
  go_wp2
  go_loopw [5, 6] (fun p i wr => ∃ (m v : Nat), m ≤ n ∧ i = .int .i64 (m : Int) ∧ p = .int .i64 (v : Int) ∧ Hid (v = k ^ m) ∧ wr = w) (fun _ i _ => n - (intOf i).toNat)
  case atStart => exact ⟨0, 1, Nat.zero_le _, rfl, rfl, Lib.hid H0.out.symm, rfl⟩
  case round =>
    obtain ⟨m, v, hm, rfl, rfl, hv, rfl⟩ := hrel
    by_cases hlt : m < n
    · have hb : v ≤ 27 := by
        rw [hv.out]
        have h1 : k ^ m ≤ 3 ^ m := Nat.pow_le_pow_left h3 m
        have h2 : 3 ^ m ≤ 3 ^ 3 := Nat.pow_le_pow_right (by decide) (by omega)
        omega
      have hq : v * k ≤ 81 := Nat.mul_le_mul hb h3
      have HQ : Hid (v * k = k ^ (m + 1)) := Lib.hid (by rw [HS.out m, hv.out])
      have hc : ((v : Int) * (k : Int)) = ((v * k : Nat) : Int) := by rw [Int.natCast_mul]
      have hw : RowKit.wrap64 ((v : Int) * (k : Int)) = ((v * k : Nat) : Int) := by rw [hc]; unfold RowKit.wrap64; omega
      have HW := Lib.hid hw
      have g : (m : Int) < (n : Int) := by omega
      clear hc hw hq
      go_wp2
      go_roundw
      case rel => exact ⟨m + 1, v * k, by omega, by go_num, by rw [← HW.out], HQ, trivial⟩
      case measure => simp [intOf]; omega
    · obtain rfl : m = n := by omega
      have HV := Lib.hid hv.out
      go_wp2
      go_ret
      exact ⟨by have := HV.out; simp [this], rfl⟩

/-- x is from lo to hi. -/
def inB (x lo hi : Int) : Bool := decide (lo ≤ x) && decide (x ≤ hi)
theorem inB_yes {x lo hi : Int} (h : lo ≤ x ∧ x ≤ hi) : inB x lo hi = true := by simp [inB, h.1, h.2]
theorem inB_no {x lo hi : Int} (h : ¬ (lo ≤ x ∧ x ≤ hi)) : inB x lo hi = false := by
  unfold inB
  rw [← Bool.not_eq_true]
  simpa using h
theorem isL_in {k : Nat} {c : UInt8} {b : Bool} (h : isL (k : Int) c = b) : inB ((c.toNat : Int) - 97) 0 ((k : Int) - 1) = b := by
  rw [← h]
  unfold inB isL
  by_cases h1 : 97 ≤ c.toNat
  · by_cases h2 : (c.toNat : Int) - 97 < (k : Int)
    · rw [decide_eq_true h1, decide_eq_true h2, decide_eq_true (by omega : (0 : Int) ≤ _), decide_eq_true (by omega)]
    · rw [decide_eq_true h1, decide_eq_false h2, decide_eq_true (by omega : (0 : Int) ≤ _), decide_eq_false (by omega)]
  · rw [decide_eq_false h1, decide_eq_false (by omega : ¬ (0 : Int) ≤ _)]; rfl
theorem spec_inB (x lo hi : Int) (w : World) : Calls Try.prog 65 #[.int .i64 x, .int .i64 lo, .int .i64 hi] w fun e w' => e = .returned (.bool (inB x lo hi)) ∧ w' = w :=
  spec_in x lo hi w

set_option maxRecDepth 100000 in
set_option maxHeartbeats 1600000 in
theorem spec_isCode_a (K N : Int) (o : ByteArray) (h1 : ¬ (2 ≤ K ∧ K ≤ 3)) (w : World) :
    Calls Try.prog 30 #[.agg #[.int .i64 K, .int .i64 N, .string o]] w (Says (.bool false) w) := by
  have HI := Lib.hid spec_inB
  have hk := codeIn_new w K N o
  have c0 := hk.c0
  have c1 := hk.c1
  have c2 := hk.c2
  have HK := Lib.hid hk
  have HB0 := Lib.hid ((Below.refl w.heap.size w).alloc (Nat.le_refl _) (.cells #[.int .i64 K, .int .i64 N, .string o] 25))
  clear hk
  have q1 := inB_no h1
  go_enter Try.func30, Try.ntmps30
  go_wp2
  go_quiet (first | (go_at_call 65; refine Calls.quiet_of_same (HI.out _ _ _ _)))
  go_wp2
  go_ret
  exact ⟨rfl, drewN_below HB0.out _⟩

set_option maxRecDepth 100000 in
set_option maxHeartbeats 1600000 in
theorem spec_isCode_b (k : Nat) (N : Int) (o : ByteArray) (h1 : 2 ≤ k ∧ k ≤ 3) (h2 : ¬ (1 ≤ N ∧ N ≤ 4)) (w : World) :
    Calls Try.prog 30 #[.agg #[.int .i64 (k : Int), .int .i64 N, .string o]] w (Says (.bool false) w) := by
  have HI := Lib.hid spec_inB
  have hk := codeIn_new w (k : Int) N o
  have c0 := hk.c0
  have c1 := hk.c1
  have c2 := hk.c2
  have HK := Lib.hid hk
  have HB0 := Lib.hid ((Below.refl w.heap.size w).alloc (Nat.le_refl _) (.cells #[.int .i64 (k : Int), .int .i64 N, .string o] 25))
  clear hk
  have q1 := inB_yes (x := (k : Int)) (lo := 2) (hi := 3) (by omega)
  have q2 := inB_no h2
  go_enter Try.func30, Try.ntmps30
  go_wp2
  go_quiet (first | (go_at_call 65; refine Calls.quiet_of_same (HI.out _ _ _ _)))
  go_wp2
  go_ret
  exact ⟨rfl, drewN_below HB0.out _⟩

set_option maxRecDepth 100000 in
set_option maxHeartbeats 1600000 in
theorem spec_isCode_c (k n : Nat) (o : ByteArray) (P : Nat) (hP : k ^ n = P) (h1 : 2 ≤ k ∧ k ≤ 3) (h2 : 1 ≤ n ∧ n ≤ 4) (h3 : ¬ P ≤ 27) (w : World) :
    Calls Try.prog 30 #[.agg #[.int .i64 (k : Int), .int .i64 (n : Int), .string o]] w (Says (.bool false) w) := by
  have HI := Lib.hid spec_inB
  have hk := codeIn_new w (k : Int) (n : Int) o
  have c0 := hk.c0
  have c1 := hk.c1
  have c2 := hk.c2
  have HK := Lib.hid hk
  have HB0 := Lib.hid ((Below.refl w.heap.size w).alloc (Nat.le_refl _) (.cells #[.int .i64 (k : Int), .int .i64 (n : Int), .string o] 25))
  clear hk
  have q1 := inB_yes (x := (k : Int)) (lo := 2) (hi := 3) (by omega)
  have q2 := inB_yes (x := (n : Int)) (lo := 1) (hi := 4) (by omega)
  have hp := fun w => spec_codePow k n (by omega) (by omega) w
  rw [hP] at hp
  have HP := Lib.hid hp
  clear hp hP
  have g1 : decide ((27 : Int) < (P : Int)) = true := by simp; omega
  go_enter Try.func30, Try.ntmps30
  go_wp2
  go_quiet (first | (go_at_call 65; refine Calls.quiet_of_same (HI.out _ _ _ _)) | (go_at_call 66; refine Calls.quiet_of_same (HP.out _)))
  go_wp2
  go_ret
  exact ⟨rfl, drewN_below HB0.out _⟩

set_option maxRecDepth 100000 in
set_option maxHeartbeats 1600000 in
theorem spec_isCode_d (k n : Nat) (o : ByteArray) (P : Nat) (hP : k ^ n = P) (h1 : 2 ≤ k ∧ k ≤ 3) (h2 : 1 ≤ n ∧ n ≤ 4) (h3 : P ≤ 27) (h4 : ¬ o.size = P) (w : World) :
    Calls Try.prog 30 #[.agg #[.int .i64 (k : Int), .int .i64 (n : Int), .string o]] w (Says (.bool false) w) := by
  have HI := Lib.hid spec_inB
  have hk := codeIn_new w (k : Int) (n : Int) o
  have c0 := hk.c0
  have c1 := hk.c1
  have c2 := hk.c2
  have HK := Lib.hid hk
  have HB0 := Lib.hid ((Below.refl w.heap.size w).alloc (Nat.le_refl _) (.cells #[.int .i64 (k : Int), .int .i64 (n : Int), .string o] 25))
  clear hk
  have q1 := inB_yes (x := (k : Int)) (lo := 2) (hi := 3) (by omega)
  have q2 := inB_yes (x := (n : Int)) (lo := 1) (hi := 4) (by omega)
  have hp := fun w => spec_codePow k n (by omega) (by omega) w
  rw [hP] at hp
  have HP := Lib.hid hp
  clear hp hP
  have g1 : decide ((27 : Int) < (P : Int)) = false := by simp; omega
  have g2 : ((o.size : Int) != (P : Int)) = true := by rw [bne_iff_ne]; omega
  go_enter Try.func30, Try.ntmps30
  go_wp2
  go_quiet (first | (go_at_call 65; refine Calls.quiet_of_same (HI.out _ _ _ _)) | (go_at_call 66; refine Calls.quiet_of_same (HP.out _)))
  go_wp2
  go_ret
  exact ⟨rfl, drewN_below HB0.out _⟩

set_option maxRecDepth 100000 in
set_option maxHeartbeats 1600000 in
theorem spec_isCode_e (k n : Nat) (o : ByteArray) (ho : o.size ≤ 1099511627776) (P : Nat) (hP : k ^ n = P) (h1 : 2 ≤ k ∧ k ≤ 3) (h2 : 1 ≤ n ∧ n ≤ 4) (h3 : P ≤ 27) (h4 : o.size = P) (w : World) :
    Calls Try.prog 30 #[.agg #[.int .i64 (k : Int), .int .i64 (n : Int), .string o]] w (Says (.bool (allL (k : Int) o)) w) := by
  have HI := Lib.hid spec_inB
  have hk := codeIn_new w (k : Int) (n : Int) o
  have c0 := hk.c0
  have c1 := hk.c1
  have c2 := hk.c2
  have HK := Lib.hid hk
  have HB0 := Lib.hid ((Below.refl w.heap.size w).alloc (Nat.le_refl _) (.cells #[.int .i64 (k : Int), .int .i64 (n : Int), .string o] 25))
  clear hk
  have q1 := inB_yes (x := (k : Int)) (lo := 2) (hi := 3) (by omega)
  have q2 := inB_yes (x := (n : Int)) (lo := 1) (hi := 4) (by omega)
  have hp := fun w => spec_codePow k n (by omega) (by omega) w
  rw [hP] at hp
  have HP := Lib.hid hp
  clear hp hP
  have g1 : decide ((27 : Int) < (P : Int)) = false := by simp; omega
  subst h4
  have g2 : ((o.size : Int) != (o.size : Int)) = false := by simp
  go_enter Try.func30, Try.ntmps30
  go_wp2
  go_quiet (first | (go_at_call 65; refine Calls.quiet_of_same (HI.out _ _ _ _)) | (go_at_call 66; refine Calls.quiet_of_same (HP.out _)))
  go_wp2
  go_loopw [3] (fun v wr => ∃ i : Nat, i ≤ o.size ∧ v = .int .i64 (i : Int) ∧ Hid (OkTo (k : Int) o i) ∧ Hid (Below w.heap.size w wr) ∧ Hid (CodeIn wr w.heap.size (k : Int) (n : Int) o)) (fun v _ => o.size - (intOf v).toNat)
  case atStart => exact ⟨0, Nat.zero_le _, rfl, Lib.hid (OkTo.zero _ _), Lib.hid (drewN_below HB0.out _), HK⟩
  case round =>
    obtain ⟨i, hi, rfl, hok, HB, HC⟩ := hrel
    clear c0 c1 c2 HK HB0
    have c0 := HC.out.c0
    have c1 := HC.out.c1
    have c2 := HC.out.c2
    by_cases hlt : i < o.size
    · have hb : o[i].toNat < 256 := o[i].toNat_lt
      obtain ⟨W0, rfl⟩ : ∃ W0 : World, W0 = wr := ⟨_, rfl⟩
      cases hl : isL (k : Int) o[i] with
      | true =>
        have hnext := Lib.hid (hok.out.next hlt hl)
        have q3 := isL_in hl
        clear hl
        go_wp2
        go_quiet (first | (go_at_call 65; refine Calls.quiet_of_same (HI.out _ _ _ _)))
        have hb0 := drewN_below (Below.refl W0.heap.size W0) nq
        have HB2 := Lib.hid (HB.out.trans (hb0.mono HB.out.size))
        have HC2 := Lib.hid (HC.out.below hb0)
        clear hb0
        go_wp2
        go_roundw
        case rel => exact ⟨i + 1, by omega, by go_num, hnext, HB2, HC2⟩
        case measure => simp [intOf]; omega
      | false =>
        have HR : Hid (allL (k : Int) o = false) := Lib.hid (all_not hlt hl)
        have q3 := isL_in hl
        clear hl
        go_wp2
        go_quiet (first | (go_at_call 65; refine Calls.quiet_of_same (HI.out _ _ _ _)))
        go_wp2
        go_ret
        exact ⟨by simp [HR.out], drewN_below HB.out _⟩
    · obtain rfl : i = o.size := by omega
      have HA : Hid (allL (k : Int) o = true) := Lib.hid hok.out.all
      go_wp2
      go_ret
      exact ⟨by simp [HA.out], HB.out⟩

theorem spec_isCode (K N : Int) (o : ByteArray) (ho : o.size ≤ 1099511627776) (w : World) :
    Calls Try.prog 30 #[.agg #[.int .i64 K, .int .i64 N, .string o]] w (Says (.bool (isCodeB K N o)) w) := by
  by_cases h1 : 2 ≤ K ∧ K ≤ 3
  · obtain ⟨k, rfl⟩ := Int.eq_ofNat_of_zero_le (show 0 ≤ K by omega)
    by_cases h2 : 1 ≤ N ∧ N ≤ 4
    · obtain ⟨n, rfl⟩ := Int.eq_ofNat_of_zero_le (show 0 ≤ N by omega)
      obtain ⟨P, hP⟩ : ∃ P, k ^ n = P := ⟨_, rfl⟩
      have k1 : 2 ≤ k ∧ k ≤ 3 := by omega
      have n1 : 1 ≤ n ∧ n ≤ 4 := by omega
      by_cases h3 : P ≤ 27
      · have hf := form_is ⟨k1.1, k1.2, n1.1, n1.2, by rw [hP]; exact h3⟩
        by_cases h4 : o.size = P
        · have h := spec_isCode_e k n o ho P hP k1 n1 h3 h4 w
          have e : isCodeB (k : Int) (n : Int) o = allL (k : Int) o := by
            unfold isCodeB allL
            rw [hf, decide_eq_true (by rw [Int.toNat_natCast, Int.toNat_natCast, hP]; exact h4)]; rfl
          rw [e]; exact h
        · have h := spec_isCode_d k n o P hP k1 n1 h3 h4 w
          have e : isCodeB (k : Int) (n : Int) o = false := by
            unfold isCodeB
            rw [hf, decide_eq_false (by rw [Int.toNat_natCast, Int.toNat_natCast, hP]; exact h4)]; rfl
          rw [e]; exact h
      · have h := spec_isCode_c k n o P hP k1 n1 h3 w
        rw [code_none _ _ _ (form_no fun h => h3 (by rw [← hP]; exact h.le))]; exact h
    · have h := spec_isCode_b k N o (by omega) h2 w
      rw [code_none _ _ _ (by rw [← Bool.not_eq_true]; intro h; obtain ⟨_, n, _, rfl, ok⟩ := formOk_of h; have := ok.n1; have := ok.n4; omega)]; exact h
  · have h := spec_isCode_a K N o h1 w
    rw [code_none _ _ _ (by rw [← Bool.not_eq_true]; intro h; obtain ⟨k, _, rfl, _, ok⟩ := formOk_of h; have := ok.k2; have := ok.k3; omega)]; exact h
end Go.Proofs.Ytcoiodfggaanbaa
