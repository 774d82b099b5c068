/-
  The model's IsOneToOne, at each width; nothing that was there before is changed.
-/
import Derived.Test.YtcoiodfggaanbaaOneSpecA
namespace Go.Proofs.Ytcoiodfggaanbaa
open Go Go.RowKit

theorem nat_wraps {a : Nat} (h : a ≤ 1000) : wrap64 (a : Int) = (a : Int) ∧ IntKind.i64.wrap (a : Int) = (a : Int) := by
  rw [IntKind.wrap_i64]
  exact ⟨small_wrap (by omega), by omega⟩

set_option maxRecDepth 100000 in
set_option maxHeartbeats 400000 in
theorem spec_one2 (k n : Nat) (o : ByteArray) (ok : CodeOk k n o) (hn2 : 2 ≤ n) (ho : o.size ≤ 1099511627776) (w : World) :
    Calls Try.prog 33 #[.agg #[.int .i64 (k : Int), .int .i64 (n : Int), .string o]] w (Says (.bool (injB (k : Int) (n : Int) o)) w) := by
  have k2 := ok.k2
  have k3 := ok.k3
  have n4 := ok.n4
  have hq9 := side_le ok
  have hq1 : 0 < k ^ (n - 1) := Nat.pow_pos (by omega)
  have HP := Lib.hid (fun w' => spec_codePow k (n - 1) k3 (by omega) w')
  have HST := Lib.hid (fun w' => spec_steps k n o ok w')
  have HOK := Lib.hid (steps_ok (k := k) (out := outC o) hq1)
  have HROW := Lib.hid (fun c => lenS_le (k := k) (q := k ^ (n - 1)) (out := outC o) (n := k ^ (n - 1) * k ^ (n - 1)) k3 c)
  have HLEN := Lib.hid (stepsL_len k (k ^ (n - 1)) (outC o) (k ^ (n - 1) * k ^ (n - 1)))
  have HL := Lib.hid (fun L b => one_live (L := L) (b := b) ok hn2)
  obtain ⟨q, hq⟩ : ∃ q, k ^ (n - 1) = q := ⟨_, rfl⟩
  rw [hq] at HP HST HOK HROW HLEN HL hq9 hq1
  clear hq
  have hqq : q * q ≤ 9 * 9 := Nat.mul_le_mul hq9 hq9
  generalize stepsL k q (outC o) (q * q) = st at *
  have HLIVE := Lib.hid (fun A c w' => spec_live A c st HOK.out (by rw [HLEN.out]; omega) HROW.out w')
  have HI := Lib.hid (spec_isCode (k : Int) (n : Int) o ho)
  rw [code_is ok] at HI
  generalize injB (k : Int) (n : Int) o = R at *
  have hk := codeIn_new w (k : Int) (n : Int) o
  have HK := Lib.hid hk
  have c0 := hk.c0
  have c1 := hk.c1
  have c2 := hk.c2
  have HB0 := Lib.hid ((Below.refl w.heap.size w).alloc (Nat.le_refl _) (.cells #[.int .i64 (k : Int), .int .i64 (n : Int), .string o] 25))
  have e1 : wrap64 ((n : Int) - 1) = ((n - 1 : Nat) : Int) := by rw [small_wrap (by omega)]; omega
  have e2 : IntKind.i64.wrap ((n : Int) - 1) = ((n - 1 : Nat) : Int) := by rw [IntKind.wrap_i64]; omega
  have hnn : ((n : Int) == 1) = false := by rw [beq_eq_false_iff_ne]; omega
  have hstl : st.length ≤ 81 := by rw [HLEN.out]; exact hqq
  obtain ⟨m, hm⟩ : ∃ m, n - 1 = m := ⟨_, rfl⟩
  rw [hm] at HP e1 e2
  clear hk ok hm hqq
  go_enter Try.func33, Try.ntmps33
  go_wp2_with fail
  refine (HI.out _).mono ?_
  rintro e w1 ⟨rfl, hb1⟩
  have HB1 := Lib.hid (HB0.out.trans (hb1.mono HB0.out.size))
  have HK1 := Lib.hid (HK.out.below hb1)
  clear c0 c1 c2 hb1
  have c0 := HK1.out.c0
  have c1 := HK1.out.c1
  have c2 := HK1.out.c2
  go_wp2_with fail
  refine (HP.out _).mono ?_
  rintro e w1' ⟨rfl, hw1⟩
  subst hw1
  go_wp2_with fail
  refine (HST.out _).mono ?_
  rintro e w2 ⟨v, rfl, ho2, hb2⟩
  obtain ⟨A, cA, rfl, hg2⟩ := ho2.gridS
  have HB2 := Lib.hid (HB1.out.trans (hb2.mono HB1.out.size))
  have HLV := Lib.hid (HLIVE.out A cA w2 hg2)
  clear hg2 ho2 hb2
  go_wp2_with fail
  refine HLV.out.mono ?_
  rintro e w3 ⟨g, L, rfl, hbo, hcl, hsu, hb3⟩
  have HB3 := Lib.hid (HB2.out.trans (hb3.mono HB2.out.size))
  have HBO := Lib.hid hbo
  have hgl := hbo.lt.2
  have HT : Hid ((∀ c, c < st.length → onL L c = true → c / q = c % q) → R = true) := Lib.hid fun h => HL.out L true hcl hsu ⟨fun _ c hc => h c (hcl c hc).1 hc, fun _ => rfl⟩
  have HF : Hid (∀ c, onL L c = true → c / q ≠ c % q → R = false) := Lib.hid fun c hc hne => HL.out L false hcl hsu ⟨fun h => by (cases h), fun h => absurd (h c hc) hne⟩
  have HIN : Hid (∀ c, onL L c = true → c < st.length) := Lib.hid fun c hc => (hcl c hc).1
  clear hbo hcl hsu hb3 HL HIN c0 c1 c2 e1 e2 hnn
  go_wp2
  go_loopw [7] (fun cv wr => ∃ c : Nat, c ≤ st.length ∧ cv = .int .i64 (c : Int) ∧ Hid (∀ c', c' < c → onL L c' = true → c' / q = c' % q) ∧ Hid (Below w3.heap.size w3 wr)) (fun cv _ => st.length - (intOf cv).toNat)
  case atStart => exact ⟨0, Nat.zero_le _, rfl, Lib.hid (fun c h => absurd h (Nat.not_lt_zero _)), Lib.hid (Below.refl _ _)⟩
  case round =>
    obtain ⟨c, hc, rfl, HA, HB⟩ := hrel
    by_cases hcl : c < st.length
    · have kc := (HBO.out.later HB.out hgl).cell hcl
      have p0 : (0 : Int) ≤ (c : Int) := Int.natCast_nonneg c
      have p1 : (c : Int) < (st.length : Int) := Int.ofNat_lt.2 hcl
      have hq0 : ((q : Int) == 0) = false := by rw [beq_eq_false_iff_ne]; exact Int.ofNat_ne_zero.2 (Nat.pos_iff_ne_zero.1 hq1)
      have hqi : ¬ ((q : Int) = 0) := Int.ofNat_ne_zero.2 (Nat.pos_iff_ne_zero.1 hq1)
      have hqn : ¬ (q = 0) := Nat.pos_iff_ne_zero.1 hq1
      cases hon : onL L c with
      | false =>
        rw [hon] at kc
        have HA3 : Hid (∀ c', c' < c + 1 → onL L c' = true → c' / q = c' % q) := Lib.hid fun c' h h2 => by
          rcases Nat.lt_or_eq_of_le (Nat.le_of_lt_succ h) with h | rfl
          · exact HA.out c' h h2
          · rw [hon] at h2; cases h2
        clear hon
        go_wp2
        go_quiet (fail)
        go_wp2
        go_roundw
        case rel => exact ⟨c + 1, hcl, by clear hq0 hqi hqn; go_num, HA3, Lib.hid (drewN_below HB.out _)⟩
        case measure => simp [intOf]; exact Nat.sub_lt_sub_left hcl (Nat.lt_succ_self c)
      | true =>
        rw [hon] at kc
        have htm := rem_isE' c q
        have hdm := quo_isE' c q
        have ha81 : c / q ≤ 81 := Nat.le_trans (Nat.div_le_self _ _) (Nat.le_of_lt (Nat.lt_of_lt_of_le hcl hstl))
        have HF2 := Lib.hid (HF.out c hon)
        have HA3 : Hid (c / q = c % q → ∀ c', c' < c + 1 → onL L c' = true → c' / q = c' % q) := Lib.hid fun he c' h h2 => by
          rcases Nat.lt_or_eq_of_le (Nat.le_of_lt_succ h) with h | rfl
          · exact HA.out c' h h2
          · exact he
        obtain ⟨a, ha⟩ : ∃ a, c / q = a := ⟨_, rfl⟩
        obtain ⟨t, ht⟩ : ∃ t, c % q = t := ⟨_, rfl⟩
        rw [ha] at hdm ha81
        rw [ht] at htm
        rw [ha, ht] at HF2 HA3
        obtain ⟨hw1, hw2⟩ := nat_wraps (a := a) (Nat.le_trans ha81 (by decide))
        clear hon ha ht
        by_cases hat : a = t
        · subst hat
          have HA4 := Lib.hid (HA3.out rfl)
          clear HF2 HA3 ha81
          go_wp2
          go_quiet (fail)
          go_wp2
          go_roundw
          case rel => exact ⟨c + 1, hcl, by clear hw1 hw2 htm hdm hq0 hqi hqn; go_num, HA4, Lib.hid (drewN_below HB.out _)⟩
          case measure => simp [intOf]; exact Nat.sub_lt_sub_left hcl (Nat.lt_succ_self c)
        · have HRF := Lib.hid (HF2.out hat)
          have hne1 : ((a : Int) == (t : Int)) = false := by rw [beq_eq_false_iff_ne]; exact fun e => hat (Int.ofNat.inj e)
          have hne2 : ((a : Int) != (t : Int)) = true := by unfold bne; rw [hne1]; rfl
          clear HF2 HA3 ha81
          go_wp2
          go_quiet (fail)
          clear hne1 hat htm hdm hw1 hw2 hq0 hqi hqn kc p0 p1
          go_wp2
          go_ret
          exact ⟨by rw [HRF.out]; rfl, HB3.out.trans ((drewN_below HB.out _).mono HB3.out.size)⟩
    · obtain rfl : c = st.length := Nat.le_antisymm hc (Nat.le_of_not_lt hcl)
      have HRT := Lib.hid (HT.out HA.out)
      go_wp2
      go_ret
      exact ⟨by rw [HRT.out]; rfl, HB3.out.trans (HB.out.mono HB3.out.size)⟩

set_option maxRecDepth 100000 in
set_option maxHeartbeats 1600000 in
theorem spec_isOneToOne (K N : Int) (o : ByteArray) (ho : o.size ≤ 1099511627776) (w : World) :
    Calls Try.prog 33 #[.agg #[.int .i64 K, .int .i64 N, .string o]] w (Says (.bool (injB K N o)) w) := by
  cases hc : isCodeB K N o with
  | false =>
    have hk := codeIn_new w K N o
    have c0 := hk.c0
    have c1 := hk.c1
    have c2 := hk.c2
    have HB0 := Lib.hid ((Below.refl w.heap.size w).alloc (Nat.le_refl _) (.cells #[.int .i64 K, .int .i64 N, .string o] 25))
    have HI := Lib.hid (spec_isCode K N o ho)
    rw [hc] at HI
    have HR := Lib.hid (injB_no hc)
    clear hc hk
    go_enter Try.func33, Try.ntmps33
    go_wp2_with fail
    refine (HI.out _).mono ?_
    rintro e w1 ⟨rfl, hb1⟩
    have HB1 := Lib.hid (HB0.out.trans (hb1.mono HB0.out.size))
    clear hb1
    go_wp2
    go_ret
    exact ⟨by rw [HR.out]; rfl, HB1.out⟩
  | true =>
    obtain ⟨k, n, rfl, rfl, ok⟩ := codeOk_of hc
    rcases Nat.lt_or_ge n 2 with h | h
    · obtain rfl : n = 1 := by have := ok.n1; omega
      exact spec_one1 k o ok ho w
    · exact spec_one2 k n o ok h ho w
end Go.Proofs.Ytcoiodfggaanbaa
