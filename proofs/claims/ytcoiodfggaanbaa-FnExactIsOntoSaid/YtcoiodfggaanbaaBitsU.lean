/-
  PLAIN FACTS ON SETS OF BITS IN UNSIGNED NUMBERS OF 16 BITS (no program in this text), and on sets of vertices as such numbers: a bit for each vertex below n.
-/
import Derived.Test.YtcoiodfggaanbaaCompNum
import Derived.Deep.QuietTactic
namespace Go.Proofs.Ytcoiodfggaanbaa
open Go Go.RowKit

theorem and_u16U (a b : Nat) (ha : a < 65536) (hb : b < 65536) : bits .and .u16 (a : Int) (b : Int) = ((a &&& b : Nat) : Int) := by
  have h2 : a &&& b < 65536 := Nat.lt_of_le_of_lt Nat.and_le_left ha
  have h : (BitVec.ofInt IntKind.u16.bits (a : Int) &&& BitVec.ofInt IntKind.u16.bits (b : Int)).toNat = a &&& b := by
    rw [BitVec.toNat_and, BitVec.toNat_ofInt, BitVec.toNat_ofInt]
    have e1 : ((a : Int) % ((2 ^ IntKind.u16.bits : Nat) : Int)).toNat = a := by
      show ((a : Int) % (65536 : Int)).toNat = a
      omega
    have e2 : ((b : Int) % ((2 ^ IntKind.u16.bits : Nat) : Int)).toNat = b := by
      show ((b : Int) % (65536 : Int)).toNat = b
      omega
    rw [e1, e2]
  simp only [bits]
  rw [h, IntKind.wrap_u16]
  omega
theorem or_u16U (a b : Nat) (ha : a < 65536) (hb : b < 65536) : bits .or .u16 (a : Int) (b : Int) = ((a ||| b : Nat) : Int) := by
  have h2 : a ||| b < 65536 := Nat.or_lt_two_pow (n := 16) ha hb
  have h : (BitVec.ofInt IntKind.u16.bits (a : Int) ||| BitVec.ofInt IntKind.u16.bits (b : Int)).toNat = a ||| b := by
    rw [BitVec.toNat_or, BitVec.toNat_ofInt, BitVec.toNat_ofInt]
    have e1 : ((a : Int) % ((2 ^ IntKind.u16.bits : Nat) : Int)).toNat = a := by
      show ((a : Int) % (65536 : Int)).toNat = a
      omega
    have e2 : ((b : Int) % ((2 ^ IntKind.u16.bits : Nat) : Int)).toNat = b := by
      show ((b : Int) % (65536 : Int)).toNat = b
      omega
    rw [e1, e2]
  simp only [bits]
  rw [h, IntKind.wrap_u16]
  omega
theorem shr_natU (p n : Nat) : (p : Int) / 2 ^ n = ((p >>> n : Nat) : Int) := by
  rw [Nat.shiftRight_eq_div_pow]; simp
theorem bit_of (p n : Nat) (hp : p < 65536) : bits .and .u16 ((p : Int) / 2 ^ n) 1 = bI (p.testBit n) := by
  have h1 : p >>> n < 65536 := by rw [Nat.shiftRight_eq_div_pow]; exact Nat.lt_of_le_of_lt (Nat.div_le_self _ _) hp
  rw [shr_natU, show (1 : Int) = ((1 : Nat) : Int) from rfl, and_u16U _ _ h1 (by decide), Nat.testBit, Nat.and_comm]
  have h2 : 1 &&& p >>> n = (p >>> n) % 2 := by rw [Nat.and_comm]; exact Nat.and_one_is_mod _
  rw [h2]
  rcases Nat.mod_two_eq_zero_or_one (p >>> n) with e | e <;> rw [e] <;> rfl
theorem has_bitU (p n : Nat) (hp : p < 65536) : (bits .and .u16 ((p : Int) / 2 ^ n) 1 == 1) = p.testBit n := by
  rw [bit_of p n hp, bI_one]
theorem pow_bitU (n : Nat) (hn : n < 16) : IntKind.u16.wrap ((1 : Int) * 2 ^ n) = ((2 ^ n : Nat) : Int) := by
  have h : 2 ^ n < 65536 := Nat.pow_lt_pow_of_lt (by decide) hn
  rw [IntKind.wrap_u16, Int.one_mul]
  have e : ((2 : Int) ^ n) = ((2 ^ n : Nat) : Int) := by simp
  rw [e]
  generalize 2 ^ n = m at h
  omega
theorem all_bit (n : Nat) (hn : n < 16) : IntKind.u16.wrap (((2 ^ n : Nat) : Int) - 1) = ((2 ^ n - 1 : Nat) : Int) := by
  have h : 2 ^ n < 65536 := Nat.pow_lt_pow_of_lt (by decide) hn
  have h0 : 0 < 2 ^ n := Nat.two_pow_pos n
  rw [IntKind.wrap_u16]
  generalize 2 ^ n = m at h h0
  omega

/-! ### Sets of vertices -/

/-- Bit j is set just for those j below n of which p is true. -/
def setN (p : Nat → Bool) : Nat → Nat
  | 0 => 0
  | n + 1 => setN p n ||| (if p n then 2 ^ n else 0)
theorem setN_bit (p : Nat → Bool) : ∀ n j, (setN p n).testBit j = (decide (j < n) && p j)
  | 0, j => by simp [setN]
  | n + 1, j => by
    rw [setN, Nat.testBit_or, setN_bit p n j]
    by_cases h : p n = true
    · rw [if_pos h, Nat.testBit_two_pow]
      by_cases e : n = j
      · subst e; simp [h]
      · rw [decide_eq_false e, Bool.or_false]
        congr 1
        rw [Bool.eq_iff_iff]; simp; omega
    · rw [if_neg h, Nat.zero_testBit, Bool.or_false]
      by_cases e : n = j
      · subst e
        simp only [Bool.not_eq_true] at h
        simp [h]
      · congr 1
        rw [Bool.eq_iff_iff]; simp; omega
theorem setN_lt (p : Nat → Bool) (n : Nat) : setN p n < 2 ^ n := by
  refine Nat.lt_pow_two_of_testBit _ fun j hj => ?_
  rw [setN_bit, decide_eq_false (by omega)]; rfl
theorem setN_le (p : Nat → Bool) {n : Nat} (hn : n ≤ 9) : setN p n < 512 := Nat.lt_of_lt_of_le (setN_lt p n) (Nat.pow_le_pow_right (n := 2) (by decide) hn : 2 ^ n ≤ 2 ^ 9)
theorem set_ext {n s : Nat} {p : Nat → Bool} (hs : s < 2 ^ n) (h : ∀ j, j < n → s.testBit j = p j) : s = setN p n := by
  refine Nat.eq_of_testBit_eq fun j => ?_
  rw [setN_bit]
  by_cases hj : j < n
  · rw [decide_eq_true hj, Bool.true_and]; exact h j hj
  · rw [decide_eq_false hj, Bool.false_and]
    exact Nat.testBit_lt_two_pow (Nat.lt_of_lt_of_le hs (Nat.pow_le_pow_right (by decide) (by omega)))
theorem setN_congr {n : Nat} {p q : Nat → Bool} (h : ∀ j, j < n → p j = q j) : setN p n = setN q n :=
  set_ext (setN_lt p n) fun j hj => by rw [setN_bit, decide_eq_true hj, Bool.true_and]; exact h j hj
theorem setN_or {n j : Nat} {p q : Nat → Bool} (hj : j < n) (h : ∀ b, b < n → q b = (p b || decide (b = j))) : setN q n = setN p n ||| 2 ^ j := by
  refine (set_ext (Nat.or_lt_two_pow (setN_lt p n) (Nat.pow_lt_pow_of_lt (by decide) hj)) fun b hb => ?_).symm
  rw [Nat.testBit_or, setN_bit, decide_eq_true hb, Bool.true_and, Nat.testBit_two_pow, h b hb]
  congr 1
  rw [Bool.eq_iff_iff]; simp; omega
theorem setN_none (n : Nat) : setN (fun _ => false) n = 0 := (set_ext (Nat.two_pow_pos n) fun j _ => Nat.zero_testBit j).symm
theorem setN_one {n v : Nat} (hv : v < n) : 2 ^ v = setN (fun j => decide (v = j)) n := set_ext (Nat.pow_lt_pow_of_lt (by decide) hv) fun j _ => Nat.testBit_two_pow
theorem setN_all (n : Nat) : 2 ^ n - 1 = setN (fun _ => true) n := set_ext (by have := Nat.two_pow_pos n; omega) fun j hj => by rw [Nat.testBit_two_pow_sub_one, decide_eq_true hj]

/-- The vertices to which an arc leads from one of the set s. -/
def tOf (s : Nat) : Nat → Nat → Bool := fun _ k => s.testBit k
def stepS (m : List (List Int)) (s : Nat) : Nat := setN (fun j => stepK (tOf s) m m.length 0 j) m.length
/-- So far: all rows ahead of i, and of row i all ahead of j. -/
def endS (m : List (List Int)) (s i j : Nat) : Nat := setN (fun b => stepK (tOf s) m i 0 b || (decide (b < j) && (s.testBit i && arcB m i b))) m.length
theorem endS_zero (m : List (List Int)) (s : Nat) : endS m s 0 0 = 0 := (setN_congr fun b _ => by simp [stepK]).trans (setN_none m.length)
theorem endS_row (m : List (List Int)) (s i : Nat) : endS m s i m.length = endS m s (i + 1) 0 := setN_congr fun b hb => by
  rw [decide_eq_true hb, stepB_next]
  simp [tOf]
theorem endS_all (m : List (List Int)) (s : Nat) : endS m s m.length 0 = stepS m s := setN_congr fun b _ => by simp
theorem endS_not (m : List (List Int)) {s i j : Nat} (h : (s.testBit i && arcB m i j) = false) : endS m s i (j + 1) = endS m s i j := setN_congr fun b _ => by
  congr 1
  by_cases e : b = j
  · subst e; rw [h]; simp
  · congr 1
    rw [Bool.eq_iff_iff]; simp; omega
theorem endS_put (m : List (List Int)) {s i j : Nat} (hj : j < m.length) (h : (s.testBit i && arcB m i j) = true) : endS m s i (j + 1) = endS m s i j ||| 2 ^ j := setN_or hj fun b _ => by
  by_cases e : b = j
  · subst e
    rw [h]; simp
  · rw [decide_eq_false e, Bool.or_false]
    congr 2
    rw [Bool.eq_iff_iff]; simp; omega
theorem endS_le (m : List (List Int)) (s i j : Nat) (hm : m.length ≤ 9) : endS m s i j < 512 := setN_le _ hm
theorem stepS_le (m : List (List Int)) (s : Nat) (hm : m.length ≤ 9) : stepS m s < 512 := setN_le _ hm

/-- The vertices to which walks of n arcs lead from v. -/
def wkS (m : List (List Int)) (n v : Nat) : Nat := setN (fun j => wkB m n v j) m.length
theorem wkS_le (m : List (List Int)) (n v : Nat) (hm : m.length ≤ 9) : wkS m n v < 512 := setN_le _ hm
theorem wkS_zero (m : List (List Int)) {v : Nat} (hv : v < m.length) : wkS m 0 v = 2 ^ v := by
  rw [setN_one hv]
  exact setN_congr fun j _ => rfl
theorem any_range_congr {n : Nat} {p q : Nat → Bool} (h : ∀ k, k < n → p k = q k) : (List.range n).any p = (List.range n).any q := by
  rw [Bool.eq_iff_iff, List.any_eq_true, List.any_eq_true]
  exact ⟨fun ⟨x, hx, hp⟩ => ⟨x, hx, by rw [← h x (List.mem_range.1 hx)]; exact hp⟩, fun ⟨x, hx, hp⟩ => ⟨x, hx, by rw [h x (List.mem_range.1 hx)]; exact hp⟩⟩
theorem wkS_step (m : List (List Int)) (n v : Nat) : stepS m (wkS m n v) = wkS m (n + 1) v := setN_congr fun j _ => by
  rw [wkB]
  unfold stepK tOf wkS
  refine any_range_congr fun k hk => ?_
  rw [setN_bit, decide_eq_true hk, Bool.true_and]
theorem wkS_bit (m : List (List Int)) (n v : Nat) {j : Nat} (hj : j < m.length) : (wkS m n v).testBit j = wkB m n v j := by
  unfold wkS
  rw [setN_bit, decide_eq_true hj, Bool.true_and]

/-- The vertices that v reaches. -/
def rchS (m : List (List Int)) (v : Nat) : Nat := setN (fun j => reachB m v j) m.length
theorem rchS_bit (m : List (List Int)) (v : Nat) {j : Nat} (hj : j < m.length) : (rchS m v).testBit j = reachB m v j := by
  unfold rchS
  rw [setN_bit, decide_eq_true hj, Bool.true_and]
theorem stepS_bit (m : List (List Int)) (s : Nat) {j : Nat} (hj : j < m.length) : (stepS m s).testBit j = true ↔ ∃ k, k < m.length ∧ s.testBit k = true ∧ arcB m k j = true := by
  unfold stepS
  rw [setN_bit, decide_eq_true hj, Bool.true_and]
  unfold stepK tOf
  rw [List.any_eq_true]
  constructor
  · rintro ⟨k, hk, h⟩
    rw [Bool.and_eq_true] at h
    exact ⟨k, List.mem_range.1 hk, h.1, h.2⟩
  · rintro ⟨k, hk, h1, h2⟩
    exact ⟨k, List.mem_range.2 hk, by rw [h1, h2]; rfl⟩
/-- Some of what v reaches, all to which it has an arc among it. -/
structure Rch (m : List (List Int)) (v R : Nat) : Prop where
  lt : R < 2 ^ m.length
  is : ∀ j, j < m.length → R.testBit j = true → reachB m v j = true
  arc : ∀ j, j < m.length → arcB m v j = true → R.testBit j = true
theorem Rch.start (m : List (List Int)) {v : Nat} (hv : v < m.length) : Rch m v (stepS m (2 ^ v)) := by
  refine ⟨setN_lt _ _, fun j hj h => ?_, fun j hj h => ?_⟩
  · obtain ⟨k, hk, h1, h2⟩ := (stepS_bit m _ hj).1 h
    rw [Nat.testBit_two_pow, decide_eq_true_iff] at h1
    subst h1
    exact (reachB_iff hv hj).2 ⟨1, by omega, Wk.one ⟨hv, hj, h2⟩⟩
  · exact (stepS_bit m _ hj).2 ⟨v, hv, by rw [Nat.testBit_two_pow, decide_eq_true rfl], h⟩
theorem Rch.next {m : List (List Int)} {v R : Nat} (hv : v < m.length) (h : Rch m v R) : Rch m v (R ||| stepS m R) := by
  refine ⟨Nat.or_lt_two_pow h.lt (setN_lt _ _), fun j hj hb => ?_, fun j hj hb => ?_⟩
  · rw [Nat.testBit_or, Bool.or_eq_true] at hb
    rcases hb with hb | hb
    · exact h.is j hj hb
    · obtain ⟨k, hk, h1, h2⟩ := (stepS_bit m _ hj).1 hb
      obtain ⟨n, hn, hw⟩ := (reachB_iff hv hk).1 (h.is k hk h1)
      exact (reachB_iff hv hj).2 ⟨n + 1, by omega, hw.add (Wk.one ⟨hk, hj, h2⟩)⟩
  · rw [Nat.testBit_or, h.arc j hj hb, Bool.true_or]
theorem Rch.done {m : List (List Int)} {v R : Nat} (hv : v < m.length) (h : Rch m v R) (he : R ||| stepS m R = R) : R = rchS m v := by
  have hst : ∀ k j, k < m.length → j < m.length → R.testBit k = true → arcB m k j = true → R.testBit j = true := fun k j hk hj h1 h2 => by
    have : (R ||| stepS m R).testBit j = true := by rw [Nat.testBit_or, (stepS_bit m R hj).2 ⟨k, hk, h1, h2⟩, Bool.or_true]
    rwa [he] at this
  have hall : ∀ n j, Wk (arcP m) (n + 1) v j → R.testBit j = true := by
    intro n
    induction n with
    | zero =>
      rintro j ⟨k, h1, h2⟩
      obtain rfl : v = k := h1
      exact h.arc j h2.2.1 h2.2.2
    | succ n ih =>
      rintro j ⟨k, h1, h2⟩
      exact hst k j h2.1 h2.2.1 (ih k h1) h2.2.2
  refine set_ext h.lt fun j hj => ?_
  rw [Bool.eq_iff_iff]
  refine ⟨h.is j hj, fun hr => ?_⟩
  obtain ⟨n, hn, hw⟩ := (reachB_iff hv hj).1 hr
  exact hall (n - 1) j (by rw [show n - 1 + 1 = n by omega]; exact hw)
theorem or_le (R S : Nat) : R ≤ R ||| S := Nat.left_le_or
end Go.Proofs.Ytcoiodfggaanbaa
