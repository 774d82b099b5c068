/-
  PLAIN FACTS ON READING A NUMERAL (no program in this text): a sign, then digits; what is read is the integer whose numeral the bytes are, or nothing.
-/
import Derived.Test.YtomaanpmjlgpfaaDoorNum
namespace Go.Proofs.YtomaanpmjlgpfaaDoor
open Go

/-! ### The sign and what stands behind it -/
def negOf (l : List UInt8) : Bool := l.head? == some 45
def magOf (l : List UInt8) : List UInt8 := if negOf l then l.tail else l
def sg (neg : Bool) (m : Nat) : Int := if neg then -(m : Int) else m
theorem itoa_parts (n : Int) : negOf (Lib.itoa n) = decide (n < 0) ∧ magOf (Lib.itoa n) = Lib.decDigits n.natAbs := by
  by_cases h : n < 0
  · have e : Lib.itoa n = 45 :: Lib.decDigits n.natAbs := by unfold Lib.itoa; rw [if_pos h]
    rw [e]
    have hn : negOf (45 :: Lib.decDigits n.natAbs) = true := rfl
    refine ⟨by rw [hn]; simp [h], ?_⟩
    unfold magOf; rw [hn]; rfl
  · have e : Lib.itoa n = Lib.decDigits n.toNat := by unfold Lib.itoa; rw [if_neg h]
    have e2 : n.natAbs = n.toNat := by omega
    rw [e, e2]
    have hn : negOf (Lib.decDigits n.toNat) = false := by
      cases hl : Lib.decDigits n.toNat with
      | nil => rfl
      | cons b r =>
        have hb := decDigits_head hl
        unfold negOf
        simp only [List.head?_cons]
        rw [beq_eq_false_iff_ne]
        intro hc
        cases hc
        simp at hb
    refine ⟨by rw [hn]; simp [h], ?_⟩
    unfold magOf; rw [hn]; rfl
theorem sg_natAbs (n : Int) : sg (decide (n < 0)) n.natAbs = n := by
  unfold sg
  by_cases h : n < 0
  · simp [h]; omega
  · simp [h]; omega
theorem digitVal_lt {b : UInt8} {d : Nat} (h : Lib.digitVal b = some d) : d < 10 := by
  unfold Lib.digitVal at h
  split at h
  · cases h; omega
  · cases h
theorem decFrom_lt : ∀ (l : List UInt8) (acc k m : Nat), acc < 10 ^ k → Lib.decFrom acc l = some m → m < 10 ^ (k + l.length)
  | [], acc, k, m, ha, h => by
    simp only [Lib.decFrom, Option.some.injEq] at h
    subst h; simpa using ha
  | b :: r, acc, k, m, ha, h => by
    simp only [Lib.decFrom] at h
    cases hd : Lib.digitVal b with
    | none => rw [hd] at h; cases h
    | some d =>
      rw [hd] at h
      have h10 := digitVal_lt hd
      have := decFrom_lt r (acc * 10 + d) (k + 1) m (by rw [Nat.pow_succ]; omega) h
      rw [List.length_cons]
      rw [show k + (r.length + 1) = k + 1 + r.length by omega]
      exact this
theorem decFrom_take_lt {l : List UInt8} {k m : Nat} (hk : k ≤ l.length) (h : Lib.decFrom 0 (l.take k) = some m) : m < 10 ^ k := by
  have := decFrom_lt (l.take k) 0 0 m (by decide) h
  rwa [List.length_take, Nat.zero_add, Nat.min_eq_left hk] at this

/-- The reading between -lim and lim, at its four ends. -/
def readOf (lim : Nat) (l : List UInt8) : Option Int := numOf (-(lim : Int)) lim l
theorem readOf_parts {lim : Nat} {l : List UInt8} {n : Int} (h : readOf lim l = some n) : n.natAbs ≤ lim ∧ negOf l = decide (n < 0) ∧ magOf l = Lib.decDigits n.natAbs ∧ Lib.itoa n = l := by
  obtain ⟨h1, h2, rfl⟩ := numOf_some.1 h
  exact ⟨by omega, (itoa_parts n).1, (itoa_parts n).2, rfl⟩
theorem readOf_length {most lim : Nat} {l : List UInt8} (hm : 1 ≤ most) (hl : lim < 10 ^ most) (h : (magOf l).length < 1 ∨ most < (magOf l).length) : readOf lim l = none := by
  cases e : readOf lim l with
  | none => rfl
  | some n =>
    obtain ⟨h1, _, h3, _⟩ := readOf_parts e
    rw [h3] at h
    have h4 := decDigits_length_le (u := n.natAbs) hm (by omega)
    have h5 : 1 ≤ (Lib.decDigits n.natAbs).length := by rw [Lib.decDigits_length]; exact Lib.nDigits_pos _
    omega
theorem readOf_nodigit {lim : Nat} {l : List UInt8} {k : Nat} {b : UInt8} (hb : (magOf l)[k]? = some b) (h : b.toNat < 48 ∨ 57 < b.toNat) : readOf lim l = none := by
  cases e : readOf lim l with
  | none => rfl
  | some n =>
    obtain ⟨_, _, h3, _⟩ := readOf_parts e
    rw [h3] at hb
    obtain ⟨d, hd⟩ := Lib.digit_of_decFrom _ _ _ (decFrom_decDigits n.natAbs) k b hb
    unfold Lib.digitVal at hd
    rw [if_neg (by omega)] at hd
    cases hd
theorem readOf_other {lim m : Nat} {l : List UInt8} (h : Lib.decFrom 0 (magOf l) = some m) (hne : Lib.itoa (sg (negOf l) m) ≠ l) : readOf lim l = none := by
  cases e : readOf lim l with
  | none => rfl
  | some n =>
    obtain ⟨_, h2, h3, h4⟩ := readOf_parts e
    rw [h3, decFrom_decDigits] at h
    obtain rfl := Option.some.inj h
    rw [h2, sg_natAbs] at hne
    exact absurd h4 hne
theorem readOf_same {lim m : Nat} {l : List UInt8} (hm : m ≤ lim) (he : Lib.itoa (sg (negOf l) m) = l) : readOf lim l = some (sg (negOf l) m) := by
  refine numOf_some.2 ⟨?_, ?_, he⟩
  · unfold sg; split <;> omega
  · unfold sg; split <;> omega
theorem decFrom_next {l : List UInt8} {k m : Nat} {b : UInt8} (h : Lib.decFrom 0 (l.take k) = some m) (hb : l[k]? = some b) (h1 : 48 ≤ b.toNat) (h2 : b.toNat ≤ 57) : Lib.decFrom 0 (l.take (k + 1)) = some (m * 10 + (b.toNat - 48)) :=
  Lib.decFrom_take l k 0 m b _ h hb (by unfold Lib.digitVal; rw [if_pos ⟨h1, h2⟩])
/-- The results. -/
def numV (r : Option Int) : Int := r.getD 0
def numB (r : Option Int) : Bool := r.isSome
end Go.Proofs.YtomaanpmjlgpfaaDoor
