/-
  The model's step from a set of states by a letter: as the plain words say; nothing that was there before is changed.
-/
import Derived.Test.YtcoiodfggaanbaaOrphBits
import Derived.Test.YtcoiodfggaanbaaCountSpec
namespace Go.Proofs.Ytcoiodfggaanbaa
open Go Go.RowKit

theorem letter_same {k c : Nat} {a : UInt8} (ha : isL (k : Int) a = true) : ((a.toNat : Int) == (97 + (c : Int))) = decide (a.toNat - 97 = c) := by
  have h1 := digit_lt ha
  by_cases h : a.toNat = 97 + c
  · rw [h]; simp
  · rw [decide_eq_false (by omega), beq_eq_false_iff_ne]; omega

theorem or_pow {a t : Nat} (ha : a < 65536) (h : 2 ^ t < 65536) : bits .or .i64 (a : Int) ((2 : Int) ^ t) = ((a ||| 2 ^ t : Nat) : Int) := by
  rw [← or_i64O a (2 ^ t) ha h]
  congr 1
theorem small64 {t : Nat} (h : t < 16) : (t : Int) < 18446744073709551616 := by omega
set_option maxRecDepth 100000 in
set_option maxHeartbeats 3200000 in
theorem spec_step (k n s c : Nat) (o : ByteArray) (ok : CodeOk k n o) (hs : s < 512) (w : World) :
    Calls Try.prog 93 #[.agg #[.int .i64 (k : Int), .int .i64 (n : Int), .string o], .int .i64 (s : Int), .int .u8 (97 + (c : Int))] w (Says (.int .i64 ((ostep k (k ^ (n - 1)) (outC o) s c : Nat) : Int)) w) := by
  have n1 := ok.n1
  have n4 := ok.n4
  have k2 := ok.k2
  have k3 := ok.k3
  have HP := Lib.hid (fun w' => spec_codePow k (n - 1) k3 (by omega) w')
  have hqk : k ^ (n - 1) * k ≤ 27 := by rw [← pow_split n1]; exact ok.le
  have hos : o.size = k ^ (n - 1) * k := by rw [← pow_split n1]; exact ok.len
  have hq1 : 0 < k ^ (n - 1) := Nat.pow_pos (by omega)
  have hq9 : k ^ (n - 1) ≤ 9 := states_le ok.toFormOk
  obtain ⟨q, hq⟩ : ∃ q, k ^ (n - 1) = q := ⟨_, rfl⟩
  rw [hq] at HP hqk hos hq1 hq9 ⊢
  clear hq
  have HSAME : Hid (∀ p (hp : p < o.size), ((o[p].toNat : Int) == (97 + (c : Int))) = decide (outC o p = c)) := Lib.hid fun p hp => by
    unfold outC
    rw [byteAt_is hp]
    have h1 := byteAt_all ok.all hp
    rw [byteAt_is hp] at h1
    exact letter_same h1
  have H0 := Lib.hid (opart_zero (k := k) (q := q) (out := outC o) (s := s) (c := c))
  have HALL := Lib.hid (opart_all (k := k) (q := q) (out := outC o) (s := s) (c := c))
  have HROW := Lib.hid (fun K => opart_row (k := k) (q := q) (out := outC o) (s := s) (c := c) K)
  have HSKIP := Lib.hid (fun K h => opart_skip (k := k) (q := q) (out := outC o) (s := s) (c := c) (K := K) h)
  have HNOT := Lib.hid (fun K X h => opart_not (k := k) (q := q) (out := outC o) (s := s) (c := c) (K := K) (X := X) h)
  have HPUT := Lib.hid (fun K X hb h => opart_put (k := k) (q := q) (out := outC o) (s := s) (c := c) (K := K) (X := X) hb hq1 h)
  have HLT : Hid (∀ K X, opart k q (outC o) s c K X < 512) := Lib.hid fun K X => Nat.lt_of_lt_of_le (opart_lt K X) (pow9 hq9)
  have HBIT := Lib.hid (fun K => has_bitO s K (by omega))
  have hk := codeIn_new w (k : Int) (n : Int) o
  have HK := Lib.hid hk
  have c0 := hk.c0
  have c1 := hk.c1
  have c2 := hk.c2
  have HB0 := Lib.hid ((Below.refl w.heap.size w).alloc (Nat.le_refl _) (.cells #[.int .i64 (k : Int), .int .i64 (n : Int), .string o] 25))
  have e1 : wrap64 ((n : Int) - 1) = ((n - 1 : Nat) : Int) := by rw [small_wrap (by omega)]; omega
  have e2 : IntKind.i64.wrap ((n : Int) - 1) = ((n - 1 : Nat) : Int) := by rw [IntKind.wrap_i64]; omega
  obtain ⟨m, hm⟩ : ∃ m, n - 1 = m := ⟨_, rfl⟩
  rw [hm] at HP e1 e2
  clear hk ok hm
  go_enter Try.func93, Try.ntmps93
  go_wp2_with fail
  refine (HP.out _).mono ?_
  rintro e w1 ⟨rfl, rfl⟩
  obtain ⟨W0, hW0⟩ : ∃ W0, w.alloc (.cells #[.int .i64 (k : Int), .int .i64 (n : Int), .string o] 25) = W0 := ⟨_, rfl⟩
  rw [hW0] at c0 c1 c2 HK HB0 ⊢
  clear hW0 e1 e2
  go_wp2
  go_loopw [8, 9] (fun ov kv wr => ∃ K : Nat, K ≤ q ∧ kv = .int .i64 (K : Int) ∧ ov = .int .i64 ((opart k q (outC o) s c K 0 : Nat) : Int) ∧ Hid (Below W0.heap.size W0 wr)) (fun _ kv _ => q - (intOf kv).toNat)
  case atStart => exact ⟨0, Nat.zero_le _, rfl, by rw [H0.out]; rfl, Lib.hid (Below.refl _ _)⟩
  case round =>
    clear c0 c1 c2
    obtain ⟨K, hK, rfl, rfl, HB⟩ := hrel
    by_cases hKq : K < q
    · have HBK := Lib.hid (HBIT.out K)
      have HSK := Lib.hid (HSKIP.out K)
      have HRK := Lib.hid (HROW.out K)
      have HNK := Lib.hid (HNOT.out K)
      have HPK := Lib.hid (HPUT.out K)
      have HLK := Lib.hid (HLT.out K)
      generalize hbt : s.testBit K = bt at *
      clear hbt
      go_wp2
      go_loopw [8, 10] (fun ov xv wr => ∃ X : Nat, X ≤ k ∧ xv = .int .i64 (X : Int) ∧ ov = .int .i64 ((opart k q (outC o) s c K X : Nat) : Int) ∧ Hid (Below W0.heap.size W0 wr) ∧ (bt = false → X = 0)) (fun _ xv _ => k - (intOf xv).toNat)
      case atStart => exact ⟨0, Nat.zero_le _, rfl, rfl, HB, fun _ => rfl⟩
      case round =>
        clear HB
        obtain ⟨X, hX, rfl, rfl, HB, hbx⟩ := hrel
        have hcode := HK.out.below HB.out
        have c0 := hcode.c0
        have c1 := hcode.c1
        have c2 := hcode.c2
        clear hcode
        by_cases hXk : X < k
        · have hbit := HBK.out
          cases bt with
          | false =>
            obtain rfl := hbx rfl
            have HE := Lib.hid (HSK.out rfl)
            go_wp2
            go_roundw
            case rel => exact ⟨K + 1, hKq, by go_num, by rw [← HE.out], HB⟩
            case measure => simp [intOf]; omega
          | true =>
            have hms : k - (X + 1) < k - X := by omega
            have hpl := place_lt hKq hXk
            rw [← hos] at hpl
            have hNOT := Lib.hid (HNK.out X)
            have hPUT := Lib.hid (HPK.out X rfl)
            have hLT := HLK.out X
            have hml := Nat.mod_lt (K * k + X) hq1
            obtain ⟨p0, hp0⟩ : ∃ p0, K * k = p0 := ⟨_, rfl⟩
            rw [hp0] at hpl hNOT hPUT hml
            obtain ⟨p, hp⟩ : ∃ p, p0 + X = p := ⟨_, rfl⟩
            rw [hp] at hpl hNOT hPUT hml
            have hp27 : p ≤ 27 := Nat.le_of_lt (Nat.lt_of_lt_of_le hpl (by rw [hos]; exact hqk))
            obtain ⟨⟨w1, w1b⟩, ⟨w2, w2b⟩⟩ := place_wraps hp0 hp (Nat.le_trans hp27 (by decide))
            obtain ⟨t, ht⟩ : ∃ t, p % q = t := ⟨_, rfl⟩
            rw [ht] at hPUT hml
            have htm := rem_is ht
            have m0 : (0 : Int) ≤ (p : Int) := Int.natCast_nonneg p
            have m1 : (p : Int) < (o.size : Int) := Int.ofNat_lt.2 hpl
            have hq0 : ((q : Int) == 0) = false := by rw [beq_eq_false_iff_ne]; exact Int.ofNat_ne_zero.2 (Nat.pos_iff_ne_zero.1 hq1)
            have ht0 : (0 : Int) ≤ (t : Int) := Int.natCast_nonneg t
            have ht9 : t < 16 := Nat.lt_of_lt_of_le hml (Nat.le_trans hq9 (by decide))
            have ht64 := small64 ht9
            have b1 := (pow_bitO t ht9).1
            have b2 := (pow_bitO t ht9).2
            rw [Int.one_mul] at b1 b2
            have hpw : 2 ^ t < 65536 := Nat.pow_lt_pow_of_lt (by decide) ht9
            have hsm := HSAME.out p hpl
            have hor := or_pow (Nat.lt_of_lt_of_le hLT (by decide)) hpw
            clear hp0 hp ht hos hqk
            by_cases hc2 : outC o p = c
            · rw [decide_eq_true hc2] at hsm
              have HN := Lib.hid (hPUT.out hc2)
              clear hPUT hNOT hc2
              generalize opart k q (outC o) s c K X = T at *
              go_wp2
              go_roundw
              case rel => exact ⟨X + 1, hXk, by go_num, by rw [HN.out], HB, fun e => by cases e⟩
              case measure => clear w1 w1b w2 w2b b1 b2 htm ht64 hpw ht9 ht0; simp [intOf]; exact hms
            · rw [decide_eq_false hc2] at hsm
              have HN := Lib.hid (hNOT.out hc2)
              clear hPUT hNOT hc2
              generalize opart k q (outC o) s c K X = T at *
              go_wp2
              go_roundw
              case rel => exact ⟨X + 1, hXk, by go_num, by rw [HN.out], HB, fun e => by cases e⟩
              case measure => clear w1 w1b w2 w2b b1 b2 htm ht64 hpw ht9 ht0; simp [intOf]; exact hms
        · obtain rfl : X = k := by omega
          cases bt with
          | false =>
            have := hbx rfl
            omega
          | true =>
            have HE := Lib.hid HRK.out
            go_wp2
            go_roundw
            case rel => exact ⟨K + 1, hKq, by go_num, by rw [← HE.out], HB⟩
            case measure => simp [intOf]; omega
    · obtain rfl : q = K := by omega
      rw [HALL.out]
      go_wp2
      go_ret
      exact ⟨rfl, HB0.out.trans (HB.out.mono HB0.out.size)⟩
end Go.Proofs.Ytcoiodfggaanbaa
