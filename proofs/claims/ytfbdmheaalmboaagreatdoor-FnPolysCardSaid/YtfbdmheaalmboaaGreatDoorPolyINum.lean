/-
  PLAIN FACTS that the program's polynomials stand on (no program in this text): signs as powers, choices of rows and their sums of minors, tables without a column, products and values as sums.
-/
import Derived.Test.YtfbdmheaalmboaaGreatDoorMidTexts
import Derived.Test.YtfbdmheaalmboaaGreatDoorGraphTrim
namespace Go.Proofs.YtfbdmheaalmboaaGreatDoor
open Go Go.RowKit

theorem sgn_pow : ∀ j : Nat, (-1 : Int) ^ j = sgn j
  | 0 => rfl
  | j + 1 => by rw [Int.pow_succ, sgn_pow j, sgn_next]; omega
theorem pow_abs {x : Int} {B : Nat} (h : x.natAbs ≤ B) : ∀ n : Nat, (x ^ n).natAbs ≤ B ^ n
  | 0 => by rw [Int.pow_zero, Nat.pow_zero]; exact Nat.le_refl _
  | n + 1 => by rw [Int.pow_succ, Int.natAbs_mul, Nat.pow_succ]; exact Nat.mul_le_mul (pow_abs h n) h

/-! ### Choices -/

/-- All ascending lists of k of the numbers below n. -/
def choicesL : Nat → Nat → List (List Int)
  | _, 0 => [[]]
  | 0, _ + 1 => []
  | n + 1, k + 1 => if n < k then [] else choicesL n (k + 1) ++ (choicesL n k).map fun l => l ++ [(n : Int)]
theorem choicesL_over : ∀ {n k : Nat}, n < k → choicesL n k = []
  | 0, k + 1, _ => rfl
  | n + 1, k + 1, h => by rw [choicesL, if_pos (by omega)]
theorem choicesL_in : ∀ {n k : Nat} {l : List Int}, l ∈ choicesL n k → l.length = k ∧ ∀ x ∈ l, 0 ≤ x ∧ x < (n : Int)
  | n, 0, l, h => by
    cases n <;>
    · rw [choicesL, List.mem_singleton] at h
      subst h
      exact ⟨rfl, fun x hx => by cases hx⟩
  | 0, k + 1, l, h => by cases h
  | n + 1, k + 1, l, h => by
    rw [choicesL] at h
    split at h
    · cases h
    · rw [List.mem_append, List.mem_map] at h
      rcases h with h | ⟨r, h, rfl⟩
      · obtain ⟨h1, h2⟩ := choicesL_in h
        exact ⟨h1, fun x hx => by have := h2 x hx; omega⟩
      · obtain ⟨h1, h2⟩ := choicesL_in h
        refine ⟨by rw [List.length_append, h1]; rfl, fun x hx => ?_⟩
        rw [List.mem_append, List.mem_singleton] at hx
        rcases hx with hx | rfl
        · have := h2 x hx; omega
        · omega
theorem choicesL_len {n k : Nat} : (choicesL n k).length ≤ 2 ^ n := by
  induction n generalizing k with
  | zero => cases k <;> simp [choicesL]
  | succ n ih =>
    cases k with
    | zero => simp only [choicesL, List.length_singleton]; exact Nat.one_le_two_pow
    | succ k =>
      rw [choicesL]
      split
      · exact Nat.zero_le _
      · rw [List.length_append, List.length_map, Nat.pow_succ]
        have := ih (k := k + 1)
        have := ih (k := k)
        omega
/-- The minor of these rows and columns. -/
def minorI (m : List (List Int)) (l : List Int) : Int := detF l.length fun a b => cellOf m (l.getD a 0).toNat (l.getD b 0).toNat
theorem det_part (m : List (List Int)) (l : List Int) : detT (partM m l) = minorI m l := by
  unfold detT minorI partM
  rw [tabOf_length]
  exact detF_congr fun i j hi hj => tabOf_cell hi hj
theorem part_rows (m : List (List Int)) (l : List Int) : (partM m l).length = l.length ∧ ∀ i, i < l.length → ((partM m l).getD i []).length = l.length := by
  refine ⟨tabOf_length _ _ _, fun i hi => ?_⟩
  unfold partM
  rw [tabOf_row hi]; simp
theorem minors_choices {m : List (List Int)} (h : m.length ≤ 4) {k : Nat} (hk : k ≤ m.length) : (sumTo (choicesL m.length k).length fun t => minorI m ((choicesL m.length k).getD t [])) = minorsN m k := by
  unfold minorsN
  have hn : m.length = 0 ∨ m.length = 1 ∨ m.length = 2 ∨ m.length = 3 ∨ m.length = 4 := by omega
  have hk4 : k = 0 ∨ k = 1 ∨ k = 2 ∨ k = 3 ∨ k = 4 := by omega
  rcases hn with e | e | e | e | e <;> rw [e] at hk ⊢ <;> rcases hk4 with rfl | rfl | rfl | rfl | rfl <;> first | omega | simp [choicesL, sumTo, bitsL, List.range, List.range.loop, List.filter, Nat.testBit, minorF, minorI, detF, sgn, lessF]

/-! ### A table without a column -/

def lessR (j : Nat) (r : List Int) : List Int := r.take j ++ r.drop (j + 1)
def lessT (t : List (List Int)) (j : Nat) : List (List Int) := (t.drop 1).map (lessR j)
/-- As many rows as columns, all numbers within B. -/
structure Sq (B : Nat) (n : Nat) (t : List (List Int)) : Prop where
  len : t.length = n
  row : ∀ i, i < n → (t.getD i []).length = n
  cell : ∀ i j, i < n → j < n → (cellOf t i j).natAbs ≤ B
theorem lessR_len {r : List Int} {j : Nat} (hj : j < r.length) : (lessR j r).length = r.length - 1 := by
  unfold lessR
  rw [List.length_append, List.length_take, List.length_drop]; omega
theorem lessR_at {r : List Int} {j : Nat} (hj : j < r.length) (b : Nat) : (lessR j r).getD b 0 = r.getD (if b < j then b else b + 1) 0 := by
  unfold lessR
  rw [List.getD_eq_getElem?_getD, List.getD_eq_getElem?_getD]
  by_cases h : b < j
  · rw [if_pos h, List.getElem?_append_left (by rw [List.length_take]; omega), List.getElem?_take_of_lt h]
  · rw [if_neg h, List.getElem?_append_right (by rw [List.length_take]; omega), List.getElem?_drop, List.length_take]
    congr 2
    all_goals omega
theorem lessT_len (t : List (List Int)) (j : Nat) : (lessT t j).length = t.length - 1 := by
  unfold lessT
  rw [List.length_map, List.length_drop]
theorem lessT_row (t : List (List Int)) (j : Nat) {i : Nat} (hi : i + 1 < t.length) : (lessT t j).getD i [] = lessR j (t.getD (i + 1) []) := by
  unfold lessT
  rw [List.getD_eq_getElem?_getD, List.getElem?_map, List.getElem?_drop, List.getD_eq_getElem?_getD, Nat.add_comm 1 i, List.getElem?_eq_getElem hi]
  rfl
theorem Sq.less {B n : Nat} {t : List (List Int)} (h : Sq B (n + 1) t) {j : Nat} (hj : j < n + 1) : Sq B n (lessT t j) ∧ detT (lessT t j) = detF n (lessF (cellOf t) j) := by
  have hl : (lessT t j).length = n := by rw [lessT_len, h.len]; rfl
  have hc : ∀ a b, a < n → b < n → cellOf (lessT t j) a b = lessF (cellOf t) j a b := fun a b ha hb => by
    unfold cellOf lessF
    rw [lessT_row t j (by rw [h.len]; omega), lessR_at (by rw [h.row (a + 1) (by omega)]; exact hj)]
  refine ⟨⟨hl, fun i hi => ?_, fun a b ha hb => ?_⟩, ?_⟩
  · rw [lessT_row t j (by rw [h.len]; omega), lessR_len (by rw [h.row (i + 1) (by omega)]; exact hj), h.row (i + 1) (by omega)]; rfl
  · rw [hc a b ha hb]
    unfold lessF
    exact h.cell _ _ (by omega) (by split <;> omega)
  · unfold detT
    rw [hl]
    exact detF_congr hc
/-- The determinant by the first row. -/
theorem Sq.det {B n : Nat} {t : List (List Int)} (h : Sq B (n + 1) t) : detT t = sumTo (n + 1) fun j => sgn j * cellOf t 0 j * detT (lessT t j) := by
  show detF t.length (cellOf t) = _
  rw [h.len, detF]
  exact sumTo_congr _ fun j hj => by rw [(h.less hj).2]
theorem Sq.abs {B n : Nat} {t : List (List Int)} (h : Sq B n t) : (detT t).natAbs ≤ detB B n := by
  unfold detT
  rw [h.len]
  exact detF_abs h.cell
theorem Sq.part {B n : Nat} {t : List (List Int)} (h : Sq B (n + 1) t) {k : Nat} (hk : k ≤ n + 1) : (sumTo k fun j => sgn j * cellOf t 0 j * detT (lessT t j)).natAbs ≤ detB B (n + 1) := by
  have h1 := sumTo_abs (n := k) (B := B * detB B n) (f := fun j => sgn j * cellOf t 0 j * detT (lessT t j)) fun j hj => term_abs (sgn_two j) (h.cell 0 j (by omega) (by omega)) ((h.less (j := j) (by omega)).1.abs)
  rw [detB]
  exact Nat.le_trans h1 (Nat.mul_le_mul_right _ hk)
theorem detB_mono (B : Nat) {n : Nat} (hn : n ≤ 4) (hB : B ≤ 10000) : detB B n ≤ 240000000000000000 := by
  have h : n = 0 ∨ n = 1 ∨ n = 2 ∨ n = 3 ∨ n = 4 := by omega
  have h1 : B * 1 ≤ 10000 := by omega
  have h2 : B * (1 * (B * 1)) ≤ 100000000 := by
    rw [Nat.one_mul]; exact Nat.le_trans (Nat.mul_le_mul hB h1) (by decide)
  have h3 : B * (2 * (B * (1 * (B * 1)))) ≤ 2000000000000 := Nat.le_trans (Nat.mul_le_mul hB (Nat.mul_le_mul (Nat.le_refl 2) h2)) (by decide)
  have h4 : B * (3 * (B * (2 * (B * (1 * (B * 1)))))) ≤ 60000000000000000 := Nat.le_trans (Nat.mul_le_mul hB (Nat.mul_le_mul (Nat.le_refl 3) h3)) (by decide)
  rcases h with rfl | rfl | rfl | rfl | rfl <;> simp only [detB, Nat.zero_add, Nat.reduceAdd] <;> omega

/-! ### Products -/

def coefI (b : List Int) (p : Int) : Int := if p < 0 ∨ (b.length : Int) ≤ p then 0 else b.getD p.toNat 0
def prodAt (a b : List Int) (t : Nat) : Int := sumTo a.length fun i => a.getD i 0 * coefI b ((t : Int) - i)
def prodL (a b : List Int) : List Int := (List.range (a.length + b.length)).map (prodAt a b)
theorem coefI_abs {b : List Int} {B : Nat} (h : ∀ k, (b.getD k 0).natAbs ≤ B) (p : Int) : (coefI b p).natAbs ≤ B := by
  unfold coefI
  split
  · exact Nat.zero_le _
  · exact h _
theorem prodAt_term (a b : List Int) (t i : Nat) : a.getD i 0 * coefI b ((t : Int) - i) = termC a b t i := by
  unfold coefI termC
  by_cases h : i ≤ t ∧ t - i < b.length
  · rw [if_pos h, if_neg (by omega), show ((t : Int) - i).toNat = t - i by omega]
  · rw [if_neg h, if_pos (by omega), Int.mul_zero]
theorem cutLen_snoc (p : List Int) (x : Int) : ∀ {n : Nat}, n ≤ p.length → cutLen (p ++ [x]) n = cutLen p n
  | 0, _ => rfl
  | n + 1, h => by
    have e : (p ++ [x]).getD n 0 = p.getD n 0 := by rw [List.getD_eq_getElem?_getD, List.getElem?_append_left (by omega), ← List.getD_eq_getElem?_getD]
    rw [cutLen, cutLen, e, cutLen_snoc p x (by omega)]
theorem cutL_snoc (p : List Int) : cutL (p ++ [0]) = cutL p := by
  unfold cutL
  have e : (p ++ [0]).getD p.length 0 = (0 : Int) := by rw [List.getD_eq_getElem?_getD, List.getElem?_append_right (Nat.le_refl _), Nat.sub_self]; rfl
  rw [List.length_append, List.length_singleton, cutLen, if_pos e, cutLen_snoc p 0 (Nat.le_refl _), List.take_append_of_le_length (cutLen_le _ _)]
theorem cutL_zeros : ∀ {p : List Int}, (∀ k, k < p.length → p.getD k 0 = 0) → cutL p = [] := by
  intro p h
  have : ∀ n, n ≤ p.length → cutLen p n = 0 := by
    intro n
    induction n with
    | zero => exact fun _ => rfl
    | succ n ih => intro hn; rw [cutLen, if_pos (h n (by omega)), ih (by omega)]
  unfold cutL
  rw [this _ (Nat.le_refl _)]; rfl
theorem sumTo_zeros {f : Nat → Int} : ∀ {n : Nat}, (∀ k, k < n → f k = 0) → sumTo n f = 0
  | 0, _ => rfl
  | n + 1, h => by rw [sumTo, sumTo_zeros fun k hk => h k (by omega), h n (by omega)]; rfl
theorem prodL_len (a b : List Int) : (prodL a b).length = a.length + b.length := by simp [prodL]
theorem prodL_at (a b : List Int) {t : Nat} (ht : t < a.length + b.length) : (prodL a b).getD t 0 = prodAt a b t := by
  unfold prodL
  rw [List.getD_eq_getElem?_getD, List.getElem?_map, List.getElem?_range ht]
  rfl
theorem prodL_cut {a b : List Int} (h : (fitsB a 30 && fitsB b 30) = true) : cutL (prodL a b) = mulP a b := by
  unfold mulP
  rw [h, Bool.true_and]
  by_cases h0 : a ≠ [] ∧ b ≠ []
  · rw [if_pos (by exact decide_eq_true h0)]
    have ha : 0 < a.length := List.length_pos_iff.2 h0.1
    have hb : 0 < b.length := List.length_pos_iff.2 h0.2
    have e : prodL a b = convL a b ++ [0] := by
      unfold prodL convL
      rw [show a.length + b.length = (a.length + b.length - 1) + 1 by omega, List.range_succ, List.map_append, Nat.add_sub_cancel]
      congr 1
      · exact List.map_congr_left fun t _ => sumTo_congr _ fun i _ => prodAt_term a b t i
      · rw [List.map_singleton]
        congr 1
        exact sumTo_zeros fun i hi => by
          rw [prodAt_term]
          unfold termC
          rw [if_neg (by omega)]
    rw [e, cutL_snoc]
  · rw [if_neg (by rw [decide_eq_false h0]; exact Bool.false_ne_true)]
    refine cutL_zeros fun t ht => ?_
    rw [prodL_len] at ht
    rw [prodL_at a b ht]
    by_cases ha : a = []
    · subst ha; rfl
    · have hb : b = [] := Classical.byContradiction fun hb => h0 ⟨ha, hb⟩
      subst hb
      exact sumTo_zeros fun i _ => by
        rw [prodAt_term]
        unfold termC
        rw [if_neg (by simp)]

/-! ### The signed minors -/

theorem turnedL_len (m : List (List Int)) : (turnedL m).length = m.length + 1 := by simp [turnedL]
theorem turnedL_at (m : List (List Int)) {k : Nat} (hk : k ≤ m.length) : (turnedL m).getD k 0 = sgn k * minorsN m k := by
  unfold turnedL
  rw [List.getD_eq_getElem?_getD, List.getElem?_map, List.getElem?_range (by omega)]
  rfl
theorem charL_rev (m : List (List Int)) : (turnedL m).reverse = charL m := by
  refine List.ext_getElem (by rw [List.length_reverse, turnedL_len, charL_len]) fun i h1 h2 => ?_
  rw [charL_len] at h2
  rw [List.getElem_reverse]
  have hk : i ≤ m.length := by omega
  simp only [turnedL, charL, List.getElem_map, List.getElem_range, List.length_map, List.length_range]
  rw [show m.length + 1 - 1 - i = m.length - i by omega]
end Go.Proofs.YtfbdmheaalmboaaGreatDoor
