/-
  PLAIN FACTS ON SETS OF BITS IN UNSIGNED NUMBERS OF 16 BITS (no program in this text).
-/
import Derived.Test.YtalclebehbdliaaGreatLangTexts
import Derived.Deep.QuietTactic
namespace Go.Proofs.YtalclebehbdliaaGreat
open Go Go.RowKit

theorem and_u16 (a b : Nat) (ha : a < 65536) (hb : b < 65536) : bits .and .u16 (a : Int) (b : Int) = ((a &&& b : Nat) : Int) := by
  have h2 : a &&& b < 65536 := Nat.lt_of_le_of_lt Nat.and_le_left ha
  have h : (BitVec.ofInt IntKind.u16.bits (a : Int) &&& BitVec.ofInt IntKind.u16.bits (b : Int)).toNat = a &&& b := by
    rw [BitVec.toNat_and, BitVec.toNat_ofInt, BitVec.toNat_ofInt]
    have e1 : ((a : Int) % ((2 ^ IntKind.u16.bits : Nat) : Int)).toNat = a := by
      show ((a : Int) % (65536 : Int)).toNat = a
      omega
    have e2 : ((b : Int) % ((2 ^ IntKind.u16.bits : Nat) : Int)).toNat = b := by
      show ((b : Int) % (65536 : Int)).toNat = b
      omega
    rw [e1, e2]
  simp only [bits]
  rw [h, IntKind.wrap_u16]
  omega
theorem or_u16 (a b : Nat) (ha : a < 65536) (hb : b < 65536) : bits .or .u16 (a : Int) (b : Int) = ((a ||| b : Nat) : Int) := by
  have h2 : a ||| b < 65536 := Nat.or_lt_two_pow (n := 16) ha hb
  have h : (BitVec.ofInt IntKind.u16.bits (a : Int) ||| BitVec.ofInt IntKind.u16.bits (b : Int)).toNat = a ||| b := by
    rw [BitVec.toNat_or, BitVec.toNat_ofInt, BitVec.toNat_ofInt]
    have e1 : ((a : Int) % ((2 ^ IntKind.u16.bits : Nat) : Int)).toNat = a := by
      show ((a : Int) % (65536 : Int)).toNat = a
      omega
    have e2 : ((b : Int) % ((2 ^ IntKind.u16.bits : Nat) : Int)).toNat = b := by
      show ((b : Int) % (65536 : Int)).toNat = b
      omega
    rw [e1, e2]
  simp only [bits]
  rw [h, IntKind.wrap_u16]
  omega
theorem shr_nat (p n : Nat) : (p : Int) / 2 ^ n = ((p >>> n : Nat) : Int) := by
  rw [Nat.shiftRight_eq_div_pow]; simp
theorem has_bit (p n : Nat) (hp : p < 65536) : (bits .and .u16 ((p : Int) / 2 ^ n) 1 == 1) = p.testBit n := by
  have h1 : p >>> n < 65536 := by rw [Nat.shiftRight_eq_div_pow]; exact Nat.lt_of_le_of_lt (Nat.div_le_self _ _) hp
  rw [shr_nat, show (1 : Int) = ((1 : Nat) : Int) from rfl, and_u16 _ _ h1 (by decide), Nat.testBit, Nat.and_comm]
  have h2 : 1 &&& p >>> n = (p >>> n) % 2 := by rw [Nat.and_comm]; exact Nat.and_one_is_mod _
  rw [h2]
  rcases Nat.mod_two_eq_zero_or_one (p >>> n) with e | e <;> rw [e] <;> rfl
theorem begin_bit (p n : Nat) (hp : p < 65536) : (bits .and .u16 ((p : Int) / 2 ^ n) 7 != 0) = decide ((p >>> n) &&& 7 ≠ 0) := by
  have h1 : p >>> n < 65536 := by rw [Nat.shiftRight_eq_div_pow]; exact Nat.lt_of_le_of_lt (Nat.div_le_self _ _) hp
  rw [shr_nat, show (7 : Int) = ((7 : Nat) : Int) from rfl, and_u16 _ _ h1 (by decide)]
  by_cases e : (p >>> n) &&& 7 = 0
  · rw [e]; rfl
  · rw [decide_eq_true e, bne_iff_ne]
    omega
theorem pow_bit (n : Nat) (hn : n < 16) : IntKind.u16.wrap ((1 : Int) * 2 ^ n) = ((2 ^ n : Nat) : Int) := by
  have h : 2 ^ n < 65536 := Nat.pow_lt_pow_of_lt (by decide) hn
  rw [IntKind.wrap_u16, Int.one_mul]
  have e : ((2 : Int) ^ n) = ((2 ^ n : Nat) : Int) := by simp
  rw [e]
  generalize 2 ^ n = m at h
  omega
end Go.Proofs.YtalclebehbdliaaGreat
