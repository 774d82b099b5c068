/-
  Turns of a word: the model's TurnWord and the program's, at every string of at most 2^40 bytes and every int, answer the same; nothing is changed.
-/
import Derived.Test.YtomaanpmjlgpfaaIsW
import Derived.Deep.QuietTactic
import Derived.BigQuiet
import Derived.WalkSmall
namespace Go.Proofs.Ytomaanpmjlgpfaa
open Go Go.RowKit

theorem list_empty {s : ByteArray} (h : s.size = 0) : s.toList = [] := by
  rw [ByteArray.toList_eq]
  exact List.eq_nil_of_length_eq_zero (by rw [ba_len]; exact h)
theorem list_some {s : ByteArray} (h : s.size ≠ 0) : ¬ s.toList = [] := by
  rw [ByteArray.toList_eq]
  intro e
  apply h
  rw [← ba_len, e]; rfl
theorem impl_nonEmpty (s : ByteArray) (hs : s.size ≤ 1099511627776) (w : World) :
    Calls Try.prog 60 #[.string s] w fun e w' => e = .returned (.bool (wordy s)) ∧ w' = w := by
  have HI := Lib.hid (impl_isWord 3 s hs)
  go_enter Try.func60, Try.ntmps60
  by_cases h0 : s.size = 0
  · have he := list_empty h0
    go_wp2
    go_ret
    exact ⟨by simp [wordy, h0], rfl⟩
  · have he := list_some h0
    go_wp2_with fail
    refine (HI.out _).mono ?_
    rintro e w1 ⟨rfl, rfl⟩
    go_wp2
    go_ret
    exact ⟨by simp [wordy, h0, he], rfl⟩

theorem turnNo_tmod (s : ByteArray) (n : Int) (h : 0 < s.size) : (turnNo s n : Int) = if Int.tmod n (s.size : Int) < 0 then Int.tmod n (s.size : Int) + (s.size : Int) else Int.tmod n (s.size : Int) := by
  have h1 := Int.emod_nonneg n (show (s.size : Int) ≠ 0 by omega)
  have h2 := Int.emod_lt_of_pos n (show (0 : Int) < (s.size : Int) by omega)
  have e : (turnNo s n : Int) = n % (s.size : Int) := by unfold turnNo; omega
  rw [e]
  rcases Int.lt_or_le n 0 with hn | hn
  · obtain ⟨m, rfl⟩ : ∃ m : Nat, n = -(m : Int) := ⟨n.natAbs, by omega⟩
    rw [Int.neg_tmod, ← Int.ofNat_tmod]
    have hm : m % s.size < s.size := Nat.mod_lt _ h
    have hd := Nat.div_add_mod m s.size
    by_cases h0 : m % s.size = 0
    · rw [h0, if_neg (by simp)]
      exact Int.emod_eq_zero_of_dvd (Int.dvd_neg.2 (Int.natCast_dvd_natCast.2 (Nat.dvd_of_mod_eq_zero h0)))
    · rw [if_pos (by omega)]
      have hd2 : (m : Int) = (s.size : Int) * ((m / s.size : Nat) : Int) + ((m % s.size : Nat) : Int) := by rw [← Int.natCast_mul, ← Int.natCast_add, hd]
      have e2 : -(m : Int) = (-((m % s.size : Nat) : Int) + (s.size : Int)) + (s.size : Int) * (-((m / s.size : Nat) : Int) - 1) := by
        rw [hd2, Int.mul_sub, Int.mul_neg, Int.mul_one]; omega
      rw [e2, Int.add_mul_emod_self_left, Int.emod_eq_of_lt (by omega) (by omega)]
  · obtain ⟨m, rfl⟩ := Int.eq_ofNat_of_zero_le hn
    rw [← Int.ofNat_tmod, if_neg (by omega)]
    exact (Int.natCast_emod m s.size).symm

set_option maxRecDepth 100000 in
theorem impl_turn (s : ByteArray) (n : Int) (hs : s.size ≤ 1099511627776) (w : World) :
    Calls Try.prog 20 #[.string s, .int .i64 n] w fun e w' => e = .returned (.string (turned s n)) ∧ Below w.heap.size w w' := by
  have HI := Lib.hid (impl_nonEmpty s hs)
  go_enter Try.func20, Try.ntmps20
  cases hw : wordy s with
  | false =>
    rw [hw] at HI
    go_wp2_with fail
    refine (HI.out _).mono ?_
    rintro e w1 ⟨rfl, rfl⟩
    go_wp2
    go_ret
    exact ⟨by simp [turned, hw]; rfl, Below.refl _ _⟩
  | true =>
    rw [hw] at HI
    have hp := wordy_pos hw
    have hlt := turnNo_lt s n hp
    have ht := turnNo_tmod s n hp
    have hfin : turned s n = s.extract (turnNo s n) s.size ++ s.extract 0 (turnNo s n) := by unfold turned; rw [if_pos hw]; rfl
    have HF := Lib.hid hfin
    clear hfin hw
    generalize turnNo s n = m at *
    by_cases hneg : Int.tmod n (s.size : Int) < 0
    · rw [if_pos hneg] at ht
      have HE := Lib.hid (show m = (Int.tmod n (s.size : Int) + (s.size : Int)).toNat by omega)
      go_wp2_with fail
      refine (HI.out _).mono ?_
      rintro e w1 ⟨rfl, rfl⟩
      go_wp2
      go_quiet (fail)
      go_wp2
      go_ret
      exact ⟨by rw [HF.out, HE.out]; rfl, below_drewN (Below.refl _ _) _⟩
    · rw [if_neg hneg] at ht
      have HE := Lib.hid (show m = (Int.tmod n (s.size : Int)).toNat by omega)
      go_wp2_with fail
      refine (HI.out _).mono ?_
      rintro e w1 ⟨rfl, rfl⟩
      go_wp2
      go_quiet (fail)
      go_wp2
      go_ret
      exact ⟨by rw [HF.out, HE.out]; rfl, below_drewN (Below.refl _ _) _⟩
set_option maxRecDepth 100000 in
theorem spec_turn (s : ByteArray) (n : Int) (hs : s.size ≤ 1099511627776) (w : World) :
    Calls Try.prog 27 #[.string s, .int .i64 n] w fun e w' => e = .returned (.string (turned s n)) ∧ Below w.heap.size w w' := by
  have HI := Lib.hid (spec_isWord 3 s hs)
  go_enter Try.func27, Try.ntmps27
  by_cases h0 : s.size = 0
  · have he := list_empty h0
    go_wp2
    go_ret
    exact ⟨by simp [turned, wordy, h0]; rfl, Below.refl _ _⟩
  have he := list_some h0
  have he2 : s.toList.isEmpty = false := by simpa using he
  cases hw : isW 3 s with
  | false =>
    rw [hw] at HI
    go_wp2_with fail
    refine (HI.out _).mono ?_
    rintro e w1 ⟨rfl, rfl⟩
    go_wp2
    go_ret
    exact ⟨by simp [turned, wordy, hw]; rfl, Below.refl _ _⟩
  | true =>
    rw [hw] at HI
    have hw' : wordy s = true := by simp [wordy, h0, hw]
    have hp := wordy_pos hw'
    have hlt := turnNo_lt s n hp
    have ht := turnNo_tmod s n hp
    have hfin : turned s n = s.extract (turnNo s n) s.size ++ s.extract 0 (turnNo s n) := by unfold turned; rw [if_pos hw']; rfl
    have HF := Lib.hid hfin
    clear hfin hw hw'
    generalize turnNo s n = m at *
    by_cases hneg : Int.tmod n (s.size : Int) < 0
    · rw [if_pos hneg] at ht
      have HE := Lib.hid (show m = (Int.tmod n (s.size : Int) + (s.size : Int)).toNat by omega)
      go_wp2_with fail
      refine (HI.out _).mono ?_
      rintro e w1 ⟨rfl, rfl⟩
      go_wp2
      go_quiet (fail)
      go_wp2
      go_ret
      exact ⟨by rw [HF.out, HE.out]; rfl, below_drewN (Below.refl _ _) _⟩
    · rw [if_neg hneg] at ht
      have HE := Lib.hid (show m = (Int.tmod n (s.size : Int)).toNat by omega)
      go_wp2_with fail
      refine (HI.out _).mono ?_
      rintro e w1 ⟨rfl, rfl⟩
      go_wp2
      go_quiet (fail)
      go_wp2
      go_ret
      exact ⟨by rw [HF.out, HE.out]; rfl, below_drewN (Below.refl _ _) _⟩
set_option maxRecDepth 100000 in
theorem law_turn (s : ByteArray) (n : Int) (hs : s.size ≤ 9223372036854775807) (w : World) :
    Calls Try.prog 7 #[.string s, .int .i64 n] w fun e w' => e = .returned (.bool true) ∧ Below w.heap.size w w' := by
  by_cases hle : s.size ≤ 1048576
  · have HS := Lib.hid (spec_turn s n (by omega))
    have HP := Lib.hid (impl_turn s n (by omega))
    go_enter Try.func7, Try.ntmps7
    go_wp2_with fail
    refine (HS.out _).mono ?_
    rintro e w1 ⟨rfl, hb1⟩
    have HB1 := Lib.hid hb1
    clear hb1
    go_wp2_with fail
    refine (HP.out _).mono ?_
    rintro e w2 ⟨rfl, hb2⟩
    have HB2 := Lib.hid hb2
    clear hb2
    go_wp2
    go_ret
    exact ⟨rfl, HB1.out.trans (HB2.out.mono HB1.out.size)⟩
  · have g : decide ((1048576 : Int) < (s.size : Int)) = true := by simp; omega
    go_enter Try.func7, Try.ntmps7
    go_wp2
    go_ret
    exact ⟨rfl, Below.refl _ _⟩
end Go.Proofs.Ytomaanpmjlgpfaa
