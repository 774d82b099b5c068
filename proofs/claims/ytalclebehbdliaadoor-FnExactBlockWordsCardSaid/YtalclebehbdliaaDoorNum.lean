/-
  PLAIN FACTS ON DECIMAL NUMERALS (no program in this text): the digits one after the other; a list of bytes is the numeral of at most one integer between two limits ('numOf'), and strconv.Atoi's reading finds it.
-/
import Derived.Lib.ItoaMem
import Derived.Lib.AtoiAll
import Derived.Lib.AtoiTie
namespace Go.Proofs.YtalclebehbdliaaDoor
open Go

/-- The digits of u, none for 0. -/
def dd (u : Nat) : List UInt8 := if u = 0 then [] else Lib.decDigits u
theorem dd_zero : dd 0 = [] := rfl
theorem dd_pos {u : Nat} (h : u ≠ 0) : dd u = Lib.decDigits u := by unfold dd; rw [if_neg h]
theorem dd_step {u : Nat} (h : u ≠ 0) : dd u = dd (u / 10) ++ [UInt8.ofNat (48 + u % 10)] := by
  rw [dd_pos h]
  by_cases h10 : u < 10
  · have e0 : u / 10 = 0 := by omega
    rw [e0, dd_zero, Lib.decDigits_one h10, Nat.mod_eq_of_lt h10]; rfl
  · rw [Lib.decDigits, dif_neg h10, dd_pos (by omega)]
theorem dd_length : ∀ (k u : Nat), u < 10 ^ k → (dd u).length ≤ k
  | 0, u, h => by
    have : u = 0 := by simpa using h
    subst this; simp [dd_zero]
  | k + 1, u, h => by
    by_cases h0 : u = 0
    · subst h0; simp [dd_zero]
    · rw [dd_step h0, List.length_append]
      rw [Nat.pow_succ] at h
      have := dd_length k (u / 10) (by omega)
      simp; omega
theorem itoa_pos {u : Nat} (h : u ≠ 0) : Lib.itoa (u : Int) = dd u := by rw [Lib.itoa_nonneg, dd_pos h]
theorem itoa_negd {u : Nat} (h : u ≠ 0) : Lib.itoa (-(u : Int)) = 45 :: dd u := by rw [Lib.itoa_neg u (by omega), dd_pos h]
theorem itoa_zero : Lib.itoa 0 = [48] := by rw [show (0 : Int) = ((0 : Nat) : Int) from rfl, Lib.itoa_nonneg, Lib.decDigits_one (by decide)]; rfl

/-! ### Reading digits -/
theorem decFrom_append : ∀ (l r : List UInt8) (acc : Nat), Lib.decFrom acc (l ++ r) = (Lib.decFrom acc l).bind fun n => Lib.decFrom n r
  | [], r, acc => by simp [Lib.decFrom]
  | a :: t, r, acc => by
    simp only [List.cons_append, Lib.decFrom]
    cases Lib.digitVal a with
    | none => rfl
    | some d => exact decFrom_append t r _
theorem digitVal_of {d : Nat} (h : d < 10) : Lib.digitVal (UInt8.ofNat (48 + d)) = some d := by
  have e : (UInt8.ofNat (48 + d)).toNat = 48 + d := by simp [UInt8.toNat_ofNat']; omega
  unfold Lib.digitVal; rw [e, if_pos (by omega)]; congr 1; omega
theorem decFrom_dd : ∀ (k u : Nat), u < 10 ^ k → Lib.decFrom 0 (dd u) = some u
  | 0, u, h => by
    have : u = 0 := by simpa using h
    subst this; rfl
  | k + 1, u, h => by
    by_cases h0 : u = 0
    · subst h0; rfl
    · rw [Nat.pow_succ] at h
      rw [dd_step h0, decFrom_append, decFrom_dd k (u / 10) (by omega)]
      simp only [Option.bind_some, Lib.decFrom, digitVal_of (show u % 10 < 10 by omega)]
      congr 1; omega
theorem lt_pow_self (u : Nat) : u < 10 ^ u := Nat.lt_pow_self (by decide)
theorem decFrom_decDigits (u : Nat) : Lib.decFrom 0 (Lib.decDigits u) = some u := by
  by_cases h0 : u = 0
  · subst h0; rw [Lib.decDigits_one (by decide)]; rfl
  · rw [← dd_pos h0]; exact decFrom_dd u u (lt_pow_self u)
theorem decDigits_ne (u : Nat) : Lib.decDigits u ≠ [] := by
  intro h
  have := Lib.decDigits_length u
  rw [h] at this
  have := Lib.nDigits_pos u
  simp at *; omega
theorem decNat_decDigits (u : Nat) : Lib.decNat (Lib.decDigits u) = some u := by
  unfold Lib.decNat
  rw [if_neg (by simpa using decDigits_ne u), decFrom_decDigits]
/-- The first byte of a numeral without a sign is a digit. -/
theorem decDigits_head {u : Nat} {b : UInt8} {r : List UInt8} (h : Lib.decDigits u = b :: r) : 48 ≤ b.toNat ∧ b.toNat ≤ 57 := by
  have hd := decFrom_decDigits u
  rw [h] at hd
  obtain ⟨d, e⟩ := Lib.digit_of_decFrom _ _ _ hd 0 b rfl
  unfold Lib.digitVal at e
  split at e
  · assumption
  · cases e

theorem atoi_itoa (n : Int) : Lib.atoi (Lib.itoa n) = some n := by
  by_cases h : n < 0
  · have e : Lib.itoa n = 45 :: Lib.decDigits n.natAbs := by unfold Lib.itoa; rw [if_pos h]
    rw [e]
    simp only [Lib.atoi, decNat_decDigits]
    simp; omega
  · have e : Lib.itoa n = Lib.decDigits n.toNat := by unfold Lib.itoa; rw [if_neg h]
    rw [e]
    cases hl : Lib.decDigits n.toNat with
    | nil => exact absurd hl (decDigits_ne _)
    | cons b r =>
      have hb := decDigits_head hl
      have h45 : (b == 45) = false := by
        rw [beq_eq_false_iff_ne]; rintro rfl; simp at hb
      have h43 : (b == 43) = false := by
        rw [beq_eq_false_iff_ne]; rintro rfl; simp at hb
      simp only [Lib.atoi, h45, h43, ← hl, decNat_decDigits]
      simp; omega
theorem itoa_inj {a b : Int} (h : Lib.itoa a = Lib.itoa b) : a = b := by
  have := atoi_itoa a; rw [h, atoi_itoa] at this; exact (Option.some.inj this).symm

/-! ### The integer between two limits that a list of bytes is the numeral of -/
def numOf (lo hi : Int) (l : List UInt8) : Option Int :=
  match Lib.atoi l with
  | some v => if lo ≤ v ∧ v ≤ hi ∧ Lib.itoa v = l then some v else none
  | none => none
theorem numOf_some {lo hi : Int} {l : List UInt8} {n : Int} : numOf lo hi l = some n ↔ lo ≤ n ∧ n ≤ hi ∧ Lib.itoa n = l := by
  constructor
  · intro h
    unfold numOf at h
    split at h
    · split at h
      · cases h; assumption
      · cases h
    · cases h
  · rintro ⟨h1, h2, rfl⟩
    unfold numOf
    simp only [atoi_itoa]
    rw [if_pos ⟨h1, h2, trivial⟩]
theorem numOf_none {lo hi : Int} {l : List UInt8} (h : ∀ n, lo ≤ n → n ≤ hi → Lib.itoa n ≠ l) : numOf lo hi l = none := by
  cases e : numOf lo hi l with
  | none => rfl
  | some n => obtain ⟨a, b, c⟩ := numOf_some.1 e; exact absurd c (h n a b)

/-! ### How long the numerals are -/
theorem decDigits_length_le {k u : Nat} (hk : 1 ≤ k) (h : u < 10 ^ k) : (Lib.decDigits u).length ≤ k := by
  by_cases h0 : u = 0
  · subst h0; rw [Lib.decDigits_one (by decide)]; simpa using hk
  · rw [← dd_pos h0]; exact dd_length k u h
theorem itoa_length_le {k : Nat} {n : Int} (hk : 1 ≤ k) (h : n.natAbs < 10 ^ k) : (Lib.itoa n).length ≤ k + 1 := by
  unfold Lib.itoa
  split
  · have := decDigits_length_le hk h; simp; omega
  · have := decDigits_length_le hk (u := n.toNat) (by omega); omega
/-- strconv.Atoi reads every numeral between the limits. -/
theorem atoiAll_of_numOf {lo hi : Int} {l : List UInt8} {n : Int} (hlo : -999999999999 ≤ lo) (hhi : hi ≤ 999999999999) (h : numOf lo hi l = some n) : Lib.atoiAll l = .ok n := by
  obtain ⟨h1, h2, rfl⟩ := numOf_some.1 h
  have hlen := itoa_length_le (k := 12) (n := n) (by decide) (by omega)
  rw [Lib.atoiAll_short _ (by omega), atoi_itoa]
  rfl
/-- What strconv.Atoi reads, and is no numeral of that form between the limits, is none. -/
theorem numOf_of_atoiAll {lo hi v : Int} {l : List UInt8} (hlo : -999999999999 ≤ lo) (hhi : hi ≤ 999999999999) (h : Lib.atoiAll l = .ok v) (hn : ¬ (lo ≤ v ∧ v ≤ hi ∧ Lib.itoa v = l)) : numOf lo hi l = none := by
  cases e : numOf lo hi l with
  | none => rfl
  | some n =>
    have := atoiAll_of_numOf hlo hhi e
    rw [h] at this
    cases this
    exact absurd (numOf_some.1 e) hn
theorem numOf_of_atoiAll_not {lo hi : Int} {l : List UInt8} (hlo : -999999999999 ≤ lo) (hhi : hi ≤ 999999999999) (h : ∀ v, Lib.atoiAll l ≠ .ok v) : numOf lo hi l = none := by
  cases e : numOf lo hi l with
  | none => rfl
  | some n => exact absurd (atoiAll_of_numOf hlo hhi e) (h n)
end Go.Proofs.YtalclebehbdliaaDoor
