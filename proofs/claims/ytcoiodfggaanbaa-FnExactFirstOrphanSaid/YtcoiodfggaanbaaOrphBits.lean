/-
  PLAIN FACTS ON SETS OF STATES AS INTEGERS OF 64 BITS, AND ON A STEP THAT IS DONE PLACE BY PLACE (no program in this text).
-/
import Derived.Test.YtcoiodfggaanbaaOrphNum
namespace Go.Proofs.Ytcoiodfggaanbaa
open Go Go.RowKit

theorem and_i64O (a b : Nat) (ha : a < 65536) (hb : b < 65536) : bits .and .i64 (a : Int) (b : Int) = ((a &&& b : Nat) : Int) := by
  have h2 : a &&& b < 65536 := Nat.lt_of_le_of_lt Nat.and_le_left ha
  have h : (BitVec.ofInt IntKind.i64.bits (a : Int) &&& BitVec.ofInt IntKind.i64.bits (b : Int)).toNat = a &&& b := by
    rw [BitVec.toNat_and, BitVec.toNat_ofInt, BitVec.toNat_ofInt]
    have e1 : ((a : Int) % ((2 ^ IntKind.i64.bits : Nat) : Int)).toNat = a := by
      show ((a : Int) % (18446744073709551616 : Int)).toNat = a
      omega
    have e2 : ((b : Int) % ((2 ^ IntKind.i64.bits : Nat) : Int)).toNat = b := by
      show ((b : Int) % (18446744073709551616 : Int)).toNat = b
      omega
    rw [e1, e2]
  simp only [bits]
  rw [h, IntKind.wrap_i64]
  omega
theorem or_i64O (a b : Nat) (ha : a < 65536) (hb : b < 65536) : bits .or .i64 (a : Int) (b : Int) = ((a ||| b : Nat) : Int) := by
  have h2 : a ||| b < 65536 := Nat.or_lt_two_pow (n := 16) ha hb
  have h : (BitVec.ofInt IntKind.i64.bits (a : Int) ||| BitVec.ofInt IntKind.i64.bits (b : Int)).toNat = a ||| b := by
    rw [BitVec.toNat_or, BitVec.toNat_ofInt, BitVec.toNat_ofInt]
    have e1 : ((a : Int) % ((2 ^ IntKind.i64.bits : Nat) : Int)).toNat = a := by
      show ((a : Int) % (18446744073709551616 : Int)).toNat = a
      omega
    have e2 : ((b : Int) % ((2 ^ IntKind.i64.bits : Nat) : Int)).toNat = b := by
      show ((b : Int) % (18446744073709551616 : Int)).toNat = b
      omega
    rw [e1, e2]
  simp only [bits]
  rw [h, IntKind.wrap_i64]
  omega
theorem has_bitO (p n : Nat) (hp : p < 65536) : (bits .and .i64 ((p : Int) / 2 ^ n) 1 == 1) = p.testBit n := by
  have hs : (p : Int) / 2 ^ n = ((p >>> n : Nat) : Int) := by rw [Nat.shiftRight_eq_div_pow]; simp
  have h1 : p >>> n < 65536 := by rw [Nat.shiftRight_eq_div_pow]; exact Nat.lt_of_le_of_lt (Nat.div_le_self _ _) hp
  rw [hs, show (1 : Int) = ((1 : Nat) : Int) from rfl, and_i64O _ _ h1 (by decide), Nat.testBit, Nat.and_comm]
  have h2 : 1 &&& p >>> n = (p >>> n) % 2 := by rw [Nat.and_comm]; exact Nat.and_one_is_mod _
  rw [h2]
  rcases Nat.mod_two_eq_zero_or_one (p >>> n) with e | e <;> rw [e] <;> rfl
theorem pow_bitO (n : Nat) (hn : n < 16) : IntKind.i64.wrap ((1 : Int) * 2 ^ n) = ((2 ^ n : Nat) : Int) ∧ wrap64 ((1 : Int) * 2 ^ n) = ((2 ^ n : Nat) : Int) := by
  have h : 2 ^ n < 65536 := Nat.pow_lt_pow_of_lt (by decide) hn
  have e : ((2 : Int) ^ n) = ((2 ^ n : Nat) : Int) := by simp
  rw [IntKind.wrap_i64, Int.one_mul, e]
  generalize 2 ^ n = m at h
  refine ⟨by omega, ?_⟩
  unfold wrap64; omega
section
variable {k q : Nat} {out : Nat → Nat} {s c : Nat}
def rowP (k q : Nat) (out : Nat → Nat) (c K X t : Nat) : Bool := (List.range X).any fun x => decide (out (K * k + x) = c) && decide ((K * k + x) % q = t)
def ostP (k q : Nat) (out : Nat → Nat) (s c K t : Nat) : Bool := (List.range K).any fun K' => s.testBit K' && rowP k q out c K' k t
theorem rowP_next (K X t : Nat) : rowP k q out c K (X + 1) t = (rowP k q out c K X t || (decide (out (K * k + X) = c) && decide ((K * k + X) % q = t))) := by
  unfold rowP
  rw [List.range_succ, List.any_append]; simp
theorem ostP_next (K t : Nat) : ostP k q out s c (K + 1) t = (ostP k q out s c K t || (s.testBit K && rowP k q out c K k t)) := by
  unfold ostP
  rw [List.range_succ, List.any_append]; simp
/-- K states and, behind the next of them, X letters are done. -/
def opart (k q : Nat) (out : Nat → Nat) (s c K X : Nat) : Nat := setN (fun t => ostP k q out s c K t || (s.testBit K && rowP k q out c K X t)) q
theorem opart_zero : opart k q out s c 0 0 = 0 := (setN_congr fun t _ => by simp [ostP, rowP]).trans (setN_none q)
theorem opart_row (K : Nat) : opart k q out s c K k = opart k q out s c (K + 1) 0 := setN_congr fun t _ => by
  rw [ostP_next]
  show _ = (_ || (s.testBit (K + 1) && false))
  rw [Bool.and_false, Bool.or_false]
theorem opart_skip {K : Nat} (h : s.testBit K = false) : opart k q out s c K 0 = opart k q out s c (K + 1) 0 := setN_congr fun t _ => by
  rw [ostP_next, h, Bool.false_and, Bool.false_and]
  show _ = (_ || (s.testBit (K + 1) && false))
  rw [Bool.and_false, Bool.or_false, Bool.or_false]
theorem opart_not {K X : Nat} (h : out (K * k + X) ≠ c) : opart k q out s c K (X + 1) = opart k q out s c K X := setN_congr fun t _ => by
  rw [rowP_next, decide_eq_false h, Bool.false_and, Bool.or_false]
theorem opart_put {K X : Nat} (hb : s.testBit K = true) (hq : 0 < q) (h : out (K * k + X) = c) : opart k q out s c K (X + 1) = opart k q out s c K X ||| 2 ^ ((K * k + X) % q) := setN_or (Nat.mod_lt _ hq) fun t _ => by
  rw [rowP_next, decide_eq_true h, hb, Bool.true_and, Bool.true_and, Bool.true_and, ← Bool.or_assoc]
  congr 1
  rw [Bool.eq_iff_iff, decide_eq_true_iff, decide_eq_true_iff]
  exact ⟨fun e => e.symm, fun e => e.symm⟩
theorem opart_all : opart k q out s c q 0 = ostep k q out s c := setN_congr fun t _ => by
  show (ostP k q out s c q t || (s.testBit q && false)) = _
  rw [Bool.and_false, Bool.or_false]; rfl
theorem opart_lt (K X : Nat) : opart k q out s c K X < 2 ^ q := setN_lt _ _
end
theorem pow9 {q : Nat} (h : q ≤ 9) : 2 ^ q ≤ 512 := Nat.pow_le_pow_right (n := 2) (by decide) h
theorem states_le {k n : Nat} (ok : FormOk k n) : k ^ (n - 1) ≤ 9 := by
  have k2 := ok.k2
  have k3 := ok.k3
  have n1 := ok.n1
  have n4 := ok.n4
  have hk : k = 2 ∨ k = 3 := by omega
  rcases hk with rfl | rfl
  · exact Nat.le_trans (Nat.pow_le_pow_right (by decide) (show n - 1 ≤ 3 by omega)) (by decide)
  · have hn : n ≤ 3 := by
      by_cases h : n ≤ 3
      · exact h
      · have e : n = 4 := by omega
        subst e
        exact absurd ok.le (by decide)
    exact Nat.le_trans (Nat.pow_le_pow_right (by decide) (show n - 1 ≤ 2 by omega)) (by decide)
end Go.Proofs.Ytcoiodfggaanbaa
