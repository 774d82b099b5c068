/-
  Merged: PLAIN FACTS on polynomials, as the law's last questions ask them (no program in this text): heads and ends of a small matrix's polynomials, its determinant and trace; values of short lists.
  PLAIN FACTS that the program's polynomials stand on (no program in this text): signs as powers, choices of rows and their sums of minors, tables without a column, products and values as sums.
  The library's search in a slice of ints, for whatever function value that answers as a plain test does and lays nothing that is kept: whether one of them is hit; nothing that was there before is changed.
  Tables and lists in memory whose rows have room for themselves (no slice is longer than its capacity).
  The program's powers and its sums over a list, for whatever function value tells the terms: what the plain words say; nothing that was there before is changed.
  The program's paths from each vertex, counted by going through the table from behind: what the plain words say, in new memory; nothing that was there before is changed.
  The program's CountWords: at every shift in memory and every int what the plain words say; nothing that was there before is changed.
  PLAIN FACTS ON SETS OF BITS IN UNSIGNED NUMBERS OF 16 BITS (no program in this text), and on sets of vertices as such numbers: a bit for each vertex below n.
  The program's sets of vertices: a set of one vertex and of all, whether a vertex is in one, a row of ones and zeros, and the greatest common divisor; nothing that was there before is changed.
  The program's step along the arcs, a closure over the matrix: from a set of vertices to those at which the arcs from them end; nothing that was there before is changed.
  The model's step by one arc, and its greatest common divisor; nothing that was there before is changed.
  The model's PeriodOf, IsPrimitive and PrimitiveStep: what the plain words say; nothing that was there before is changed.
  The model's IsPrimitive and PrimitiveStep: what the plain words say; nothing that was there before is changed.
  The model's TurnsOf: what the plain words say, in new memory; nothing that was there before is changed.
  PLAIN FACTS (no program in this text): the period vertex by vertex; the first number of arcs by which a vertex leads to all; what a row of turns holds so far; a table of ones by its sum.
  The model's ComponentsOf: what the plain words say, in new memory; nothing that was there before is changed.
  The program's library functions slices.Min and slices.Max at rows of numbers, and IsMatrix, TraceOf, SumOf: at every table they answer what the plain words say, and change nothing.
  The program's TraceOf and SumOf: at every table they answer what the plain words say, and change nothing.
  The program's ReachOf, ComponentsOf and IsIrreducible: what the plain words say, tables in new memory; nothing that was there before is changed.
  The program's ComponentsOf and IsIrreducible: what the plain words say, a table in new memory; nothing that was there before is changed.
-/
import Derived.Test.YtalclebehbdliaaGreatMidTexts
import Derived.Test.YtalclebehbdliaaGreatLangTexts
import Derived.Test.YtalclebehbdliaaGreatGraphTrim
import Derived.Test.YtalclebehbdliaaGreatIntsLaw
import Derived.Test.YtalclebehbdliaaGreatPRepeatI
import Derived.Test.YtalclebehbdliaaGreatBaseTexts
import Derived.Test.YtalclebehbdliaaGreatPGraphI
import Derived.Test.YtalclebehbdliaaGreatPresCount
import Derived.Deep.QuietTactic
import Derived.BigQuiet
import Derived.Shelf.Abstract
import Derived.Deep.AppendLies
namespace Go.Proofs.YtalclebehbdliaaGreat
open Go Go.RowKit

theorem small_detS {m : List (List Int)} (h : smallM m = true) : detS m = some (detT m) := by
  obtain ⟨h1, h2, h3⟩ := small_facts h
  have hf := isMat_facts h1
  unfold detS
  rw [if_pos]
  unfold detOk
  rw [decide_eq_true h2, Bool.true_and, List.all_eq_true]
  intro r hr
  obtain ⟨i, hi, rfl⟩ := List.getElem_of_mem hr
  have e : m.getD i [] = m[i] := by simp [List.getD, hi]
  have hrow := hf.row i hi
  rw [e] at hrow
  rw [decide_eq_true hrow, Bool.true_and, List.all_eq_true]
  intro x hx
  obtain ⟨j, hj, rfl⟩ := List.getElem_of_mem hx
  have hc := h3 i j hi (by omega)
  unfold cellOf at hc
  rw [e, List.getD_eq_getElem?_getD, List.getElem?_eq_getElem hj] at hc
  rw [decide_eq_true_iff]
  have hc2 : 0 ≤ (m[i])[j] ∧ (m[i])[j] ≤ 9 := hc
  omega
theorem small_ends {m : List (List Int)} (h : smallM m = true) : charM m = charL m ∧ (charM m).length = m.length + 1 ∧ (charM m).getD m.length 0 = 1 ∧ (charM m).getD (m.length - 1) 0 = -traceM m := by
  obtain ⟨h1, h2, _⟩ := small_facts h
  have hf := isMat_facts h1
  have hp := hf.pos
  have e : charM m = charL m := by unfold charM; rw [if_pos h]
  rw [e]
  refine ⟨rfl, charL_len m, ?_, ?_⟩
  · rw [charL_at m (Nat.le_refl _), Nat.sub_self, minors_zero h2]; rfl
  · rw [charL_at m (Nat.sub_le _ _), show m.length - (m.length - 1) = 1 by omega, minors_one h2]
    unfold traceM
    rw [if_pos h1]
    show -1 * _ = _
    omega
theorem cut_head {p : List Int} (hp : 0 < p.length) (h : p.getD 0 0 ≠ 0) : 0 < (cutL p).length ∧ (cutL p).getD 0 0 = p.getD 0 0 := by
  have hc : 0 < cutLen p p.length := by
    by_cases h0 : cutLen p p.length = 0
    · exact absurd (cutLen_zero p (n := p.length) (k := 0) (by omega) hp) h
    · omega
  have hle := cutLen_le p p.length
  unfold cutL
  refine ⟨by rw [List.length_take]; omega, ?_⟩
  simp [List.getD_eq_getElem?_getD, hc]
theorem turned_head {m : List (List Int)} (h : smallM m = true) : 0 < (turnedM m).length ∧ (turnedM m).getD 0 0 = 1 := by
  obtain ⟨_, h2, _⟩ := small_facts h
  have e : turnedM m = cutL (turnedL m) := by unfold turnedM; rw [if_pos h]
  have hl : (turnedL m).length = m.length + 1 := by simp [turnedL]
  have h0 : (turnedL m).getD 0 0 = 1 := by
    unfold turnedL
    rw [List.getD_eq_getElem?_getD, List.getElem?_map, List.getElem?_range (by omega)]
    show sgn 0 * minorsN m 0 = 1
    rw [minors_zero h2]; rfl
  rw [e]
  obtain ⟨h3, h4⟩ := cut_head (p := turnedL m) (by omega) (by rw [h0]; decide)
  exact ⟨h3, by rw [h4, h0]⟩
theorem det_abs {m : List (List Int)} (h : smallM m = true) : (detT m).natAbs ≤ 1000000 := by
  have h1 := minors_abs h m.length
  rwa [minors_all (small_facts h).2.1] at h1
theorem trace_abs {m : List (List Int)} (h : smallM m = true) : (traceM m).natAbs ≤ 1000000 := by
  obtain ⟨h1, h2, _⟩ := small_facts h
  have h3 := minors_abs h 1
  rw [minors_one h2] at h3
  unfold traceM
  rwa [if_pos h1]
theorem not_smallM {m : List (List Int)} (h : smallM m = false) : charM m = [] ∧ turnedM m = [] := by
  unfold charM turnedM
  rw [h]
  exact ⟨rfl, rfl⟩
theorem small_root {m : List (List Int)} (h : smallM m = true) : rootM m = decide (detT m ≠ 0) := by
  unfold rootM
  rw [h]; rfl
theorem hor2_abs {p : List Int} (h : ∀ k, (p.getD k 0).natAbs ≤ 1000000) : ∀ n, (hor p 2 n).natAbs ≤ (2 ^ n - 1) * 1000000
  | 0 => by simp [hor]
  | n + 1 => by
    have ih := hor2_abs h n
    have h1 := h (p.length - 1 - n)
    have h2 : 0 < 2 ^ n := Nat.two_pow_pos n
    rw [hor, Nat.pow_succ]
    generalize hor p 2 n = y at *
    generalize p.getD (p.length - 1 - n) 0 = z at *
    generalize 2 ^ n = q at *
    omega
/-- The value at 2 of a list of at most 4 numbers. -/
theorem two_abs {p : List Int} {f : Int} (hl : p.length ≤ 4) (h : atP p 2 = some f) : f = hor p 2 p.length ∧ f.natAbs ≤ 15000000 := by
  unfold atP at h
  split at h
  · next hc =>
    rw [Bool.and_eq_true] at hc
    obtain rfl := Option.some.inj h
    refine ⟨rfl, ?_⟩
    have h1 := hor2_abs (fits_at hc.1).2 p.length
    have h2 : 2 ^ p.length ≤ 2 ^ 4 := Nat.pow_le_pow_right (by decide) hl
    omega
  · cases h
theorem two_prod {a b : List Int} {f g h : Int} (ha : a.length ≤ 4) (hb : b.length ≤ 2) (hp : 0 < (mulP a b).length) (e1 : atP a 2 = some f) (e2 : atP b 2 = some g) (e3 : atP (mulP a b) 2 = some h) : f * g = h := by
  have hv : ∀ (p : List Int) (y : Int), atP p 2 = some y → y = hor p 2 p.length := fun p y hy => by
    unfold atP at hy
    split at hy
    · exact (Option.some.inj hy).symm
    · cases hy
  rw [hv a f e1, hv b g e2, hv _ h e3]
  exact prod_value ha hb fun e => by rw [e] at hp; exact absurd hp (Nat.lt_irrefl 0)
theorem prod_abs {f g : Int} (hf : f.natAbs ≤ 15000000) (hg : g.natAbs ≤ 15000000) : (f * g).natAbs ≤ 225000000000000 := by
  rw [Int.natAbs_mul]
  exact Nat.mul_le_mul hf hg
end Go.Proofs.YtalclebehbdliaaGreat
namespace Go.Proofs.YtalclebehbdliaaGreat
open Go Go.RowKit

theorem sgn_pow : ∀ j : Nat, (-1 : Int) ^ j = sgn j
  | 0 => rfl
  | j + 1 => by rw [Int.pow_succ, sgn_pow j, sgn_next]; omega
theorem pow_abs {x : Int} {B : Nat} (h : x.natAbs ≤ B) : ∀ n : Nat, (x ^ n).natAbs ≤ B ^ n
  | 0 => by rw [Int.pow_zero, Nat.pow_zero]; exact Nat.le_refl _
  | n + 1 => by rw [Int.pow_succ, Int.natAbs_mul, Nat.pow_succ]; exact Nat.mul_le_mul (pow_abs h n) h

/-! ### Choices -/

/-- All ascending lists of k of the numbers below n. -/
def choicesL : Nat → Nat → List (List Int)
  | _, 0 => [[]]
  | 0, _ + 1 => []
  | n + 1, k + 1 => if n < k then [] else choicesL n (k + 1) ++ (choicesL n k).map fun l => l ++ [(n : Int)]
theorem choicesL_over : ∀ {n k : Nat}, n < k → choicesL n k = []
  | 0, k + 1, _ => rfl
  | n + 1, k + 1, h => by rw [choicesL, if_pos (by omega)]
theorem choicesL_in : ∀ {n k : Nat} {l : List Int}, l ∈ choicesL n k → l.length = k ∧ ∀ x ∈ l, 0 ≤ x ∧ x < (n : Int)
  | n, 0, l, h => by
    cases n <;>
    · rw [choicesL, List.mem_singleton] at h
      subst h
      exact ⟨rfl, fun x hx => by cases hx⟩
  | 0, k + 1, l, h => by cases h
  | n + 1, k + 1, l, h => by
    rw [choicesL] at h
    split at h
    · cases h
    · rw [List.mem_append, List.mem_map] at h
      rcases h with h | ⟨r, h, rfl⟩
      · obtain ⟨h1, h2⟩ := choicesL_in h
        exact ⟨h1, fun x hx => by have := h2 x hx; omega⟩
      · obtain ⟨h1, h2⟩ := choicesL_in h
        refine ⟨by rw [List.length_append, h1]; rfl, fun x hx => ?_⟩
        rw [List.mem_append, List.mem_singleton] at hx
        rcases hx with hx | rfl
        · have := h2 x hx; omega
        · omega
theorem choicesL_len {n k : Nat} : (choicesL n k).length ≤ 2 ^ n := by
  induction n generalizing k with
  | zero => cases k <;> simp [choicesL]
  | succ n ih =>
    cases k with
    | zero => simp only [choicesL, List.length_singleton]; exact Nat.one_le_two_pow
    | succ k =>
      rw [choicesL]
      split
      · exact Nat.zero_le _
      · rw [List.length_append, List.length_map, Nat.pow_succ]
        have := ih (k := k + 1)
        have := ih (k := k)
        omega
/-- The minor of these rows and columns. -/
def minorI (m : List (List Int)) (l : List Int) : Int := detF l.length fun a b => cellOf m (l.getD a 0).toNat (l.getD b 0).toNat
theorem det_part (m : List (List Int)) (l : List Int) : detT (partM m l) = minorI m l := by
  unfold detT minorI partM
  rw [tabOf_length]
  exact detF_congr fun i j hi hj => tabOf_cell hi hj
theorem part_rows (m : List (List Int)) (l : List Int) : (partM m l).length = l.length ∧ ∀ i, i < l.length → ((partM m l).getD i []).length = l.length := by
  refine ⟨tabOf_length _ _ _, fun i hi => ?_⟩
  unfold partM
  rw [tabOf_row hi]; simp
theorem minors_choices {m : List (List Int)} (h : m.length ≤ 4) {k : Nat} (hk : k ≤ m.length) : (sumTo (choicesL m.length k).length fun t => minorI m ((choicesL m.length k).getD t [])) = minorsN m k := by
  unfold minorsN
  have hn : m.length = 0 ∨ m.length = 1 ∨ m.length = 2 ∨ m.length = 3 ∨ m.length = 4 := by omega
  have hk4 : k = 0 ∨ k = 1 ∨ k = 2 ∨ k = 3 ∨ k = 4 := by omega
  rcases hn with e | e | e | e | e <;> rw [e] at hk ⊢ <;> rcases hk4 with rfl | rfl | rfl | rfl | rfl <;> first | omega | simp [choicesL, sumTo, bitsL, List.range, List.range.loop, List.filter, Nat.testBit, minorF, minorI, detF, sgn, lessF]

/-! ### A table without a column -/

def lessR (j : Nat) (r : List Int) : List Int := r.take j ++ r.drop (j + 1)
def lessT (t : List (List Int)) (j : Nat) : List (List Int) := (t.drop 1).map (lessR j)
/-- As many rows as columns, all numbers within B. -/
structure Sq (B : Nat) (n : Nat) (t : List (List Int)) : Prop where
  len : t.length = n
  row : ∀ i, i < n → (t.getD i []).length = n
  cell : ∀ i j, i < n → j < n → (cellOf t i j).natAbs ≤ B
theorem lessR_len {r : List Int} {j : Nat} (hj : j < r.length) : (lessR j r).length = r.length - 1 := by
  unfold lessR
  rw [List.length_append, List.length_take, List.length_drop]; omega
theorem lessR_at {r : List Int} {j : Nat} (hj : j < r.length) (b : Nat) : (lessR j r).getD b 0 = r.getD (if b < j then b else b + 1) 0 := by
  unfold lessR
  rw [List.getD_eq_getElem?_getD, List.getD_eq_getElem?_getD]
  by_cases h : b < j
  · rw [if_pos h, List.getElem?_append_left (by rw [List.length_take]; omega), List.getElem?_take_of_lt h]
  · rw [if_neg h, List.getElem?_append_right (by rw [List.length_take]; omega), List.getElem?_drop, List.length_take]
    congr 2
    all_goals omega
theorem lessT_len (t : List (List Int)) (j : Nat) : (lessT t j).length = t.length - 1 := by
  unfold lessT
  rw [List.length_map, List.length_drop]
theorem lessT_row (t : List (List Int)) (j : Nat) {i : Nat} (hi : i + 1 < t.length) : (lessT t j).getD i [] = lessR j (t.getD (i + 1) []) := by
  unfold lessT
  rw [List.getD_eq_getElem?_getD, List.getElem?_map, List.getElem?_drop, List.getD_eq_getElem?_getD, Nat.add_comm 1 i, List.getElem?_eq_getElem hi]
  rfl
theorem Sq.less {B n : Nat} {t : List (List Int)} (h : Sq B (n + 1) t) {j : Nat} (hj : j < n + 1) : Sq B n (lessT t j) ∧ detT (lessT t j) = detF n (lessF (cellOf t) j) := by
  have hl : (lessT t j).length = n := by rw [lessT_len, h.len]; rfl
  have hc : ∀ a b, a < n → b < n → cellOf (lessT t j) a b = lessF (cellOf t) j a b := fun a b ha hb => by
    unfold cellOf lessF
    rw [lessT_row t j (by rw [h.len]; omega), lessR_at (by rw [h.row (a + 1) (by omega)]; exact hj)]
  refine ⟨⟨hl, fun i hi => ?_, fun a b ha hb => ?_⟩, ?_⟩
  · rw [lessT_row t j (by rw [h.len]; omega), lessR_len (by rw [h.row (i + 1) (by omega)]; exact hj), h.row (i + 1) (by omega)]; rfl
  · rw [hc a b ha hb]
    unfold lessF
    exact h.cell _ _ (by omega) (by split <;> omega)
  · unfold detT
    rw [hl]
    exact detF_congr hc
/-- The determinant by the first row. -/
theorem Sq.det {B n : Nat} {t : List (List Int)} (h : Sq B (n + 1) t) : detT t = sumTo (n + 1) fun j => sgn j * cellOf t 0 j * detT (lessT t j) := by
  show detF t.length (cellOf t) = _
  rw [h.len, detF]
  exact sumTo_congr _ fun j hj => by rw [(h.less hj).2]
theorem Sq.abs {B n : Nat} {t : List (List Int)} (h : Sq B n t) : (detT t).natAbs ≤ detB B n := by
  unfold detT
  rw [h.len]
  exact detF_abs h.cell
theorem Sq.part {B n : Nat} {t : List (List Int)} (h : Sq B (n + 1) t) {k : Nat} (hk : k ≤ n + 1) : (sumTo k fun j => sgn j * cellOf t 0 j * detT (lessT t j)).natAbs ≤ detB B (n + 1) := by
  have h1 := sumTo_abs (n := k) (B := B * detB B n) (f := fun j => sgn j * cellOf t 0 j * detT (lessT t j)) fun j hj => term_abs (sgn_two j) (h.cell 0 j (by omega) (by omega)) ((h.less (j := j) (by omega)).1.abs)
  rw [detB]
  exact Nat.le_trans h1 (Nat.mul_le_mul_right _ hk)
theorem detB_mono (B : Nat) {n : Nat} (hn : n ≤ 4) (hB : B ≤ 10000) : detB B n ≤ 240000000000000000 := by
  have h : n = 0 ∨ n = 1 ∨ n = 2 ∨ n = 3 ∨ n = 4 := by omega
  have h1 : B * 1 ≤ 10000 := by omega
  have h2 : B * (1 * (B * 1)) ≤ 100000000 := by
    rw [Nat.one_mul]; exact Nat.le_trans (Nat.mul_le_mul hB h1) (by decide)
  have h3 : B * (2 * (B * (1 * (B * 1)))) ≤ 2000000000000 := Nat.le_trans (Nat.mul_le_mul hB (Nat.mul_le_mul (Nat.le_refl 2) h2)) (by decide)
  have h4 : B * (3 * (B * (2 * (B * (1 * (B * 1)))))) ≤ 60000000000000000 := Nat.le_trans (Nat.mul_le_mul hB (Nat.mul_le_mul (Nat.le_refl 3) h3)) (by decide)
  rcases h with rfl | rfl | rfl | rfl | rfl <;> simp only [detB, Nat.zero_add, Nat.reduceAdd] <;> omega

/-! ### Products -/

def coefI (b : List Int) (p : Int) : Int := if p < 0 ∨ (b.length : Int) ≤ p then 0 else b.getD p.toNat 0
def prodAt (a b : List Int) (t : Nat) : Int := sumTo a.length fun i => a.getD i 0 * coefI b ((t : Int) - i)
def prodL (a b : List Int) : List Int := (List.range (a.length + b.length)).map (prodAt a b)
theorem coefI_abs {b : List Int} {B : Nat} (h : ∀ k, (b.getD k 0).natAbs ≤ B) (p : Int) : (coefI b p).natAbs ≤ B := by
  unfold coefI
  split
  · exact Nat.zero_le _
  · exact h _
theorem prodAt_term (a b : List Int) (t i : Nat) : a.getD i 0 * coefI b ((t : Int) - i) = termC a b t i := by
  unfold coefI termC
  by_cases h : i ≤ t ∧ t - i < b.length
  · rw [if_pos h, if_neg (by omega), show ((t : Int) - i).toNat = t - i by omega]
  · rw [if_neg h, if_pos (by omega), Int.mul_zero]
theorem cutLen_snoc (p : List Int) (x : Int) : ∀ {n : Nat}, n ≤ p.length → cutLen (p ++ [x]) n = cutLen p n
  | 0, _ => rfl
  | n + 1, h => by
    have e : (p ++ [x]).getD n 0 = p.getD n 0 := by rw [List.getD_eq_getElem?_getD, List.getElem?_append_left (by omega), ← List.getD_eq_getElem?_getD]
    rw [cutLen, cutLen, e, cutLen_snoc p x (by omega)]
theorem cutL_snoc (p : List Int) : cutL (p ++ [0]) = cutL p := by
  unfold cutL
  have e : (p ++ [0]).getD p.length 0 = (0 : Int) := by rw [List.getD_eq_getElem?_getD, List.getElem?_append_right (Nat.le_refl _), Nat.sub_self]; rfl
  rw [List.length_append, List.length_singleton, cutLen, if_pos e, cutLen_snoc p 0 (Nat.le_refl _), List.take_append_of_le_length (cutLen_le _ _)]
theorem cutL_zeros : ∀ {p : List Int}, (∀ k, k < p.length → p.getD k 0 = 0) → cutL p = [] := by
  intro p h
  have : ∀ n, n ≤ p.length → cutLen p n = 0 := by
    intro n
    induction n with
    | zero => exact fun _ => rfl
    | succ n ih => intro hn; rw [cutLen, if_pos (h n (by omega)), ih (by omega)]
  unfold cutL
  rw [this _ (Nat.le_refl _)]; rfl
theorem sumTo_zeros {f : Nat → Int} : ∀ {n : Nat}, (∀ k, k < n → f k = 0) → sumTo n f = 0
  | 0, _ => rfl
  | n + 1, h => by rw [sumTo, sumTo_zeros fun k hk => h k (by omega), h n (by omega)]; rfl
theorem prodL_len (a b : List Int) : (prodL a b).length = a.length + b.length := by simp [prodL]
theorem prodL_at (a b : List Int) {t : Nat} (ht : t < a.length + b.length) : (prodL a b).getD t 0 = prodAt a b t := by
  unfold prodL
  rw [List.getD_eq_getElem?_getD, List.getElem?_map, List.getElem?_range ht]
  rfl
theorem prodL_cut {a b : List Int} (h : (fitsB a 30 && fitsB b 30) = true) : cutL (prodL a b) = mulP a b := by
  unfold mulP
  rw [h, Bool.true_and]
  by_cases h0 : a ≠ [] ∧ b ≠ []
  · rw [if_pos (by exact decide_eq_true h0)]
    have ha : 0 < a.length := List.length_pos_iff.2 h0.1
    have hb : 0 < b.length := List.length_pos_iff.2 h0.2
    have e : prodL a b = convL a b ++ [0] := by
      unfold prodL convL
      rw [show a.length + b.length = (a.length + b.length - 1) + 1 by omega, List.range_succ, List.map_append, Nat.add_sub_cancel]
      congr 1
      · exact List.map_congr_left fun t _ => sumTo_congr _ fun i _ => prodAt_term a b t i
      · rw [List.map_singleton]
        congr 1
        exact sumTo_zeros fun i hi => by
          rw [prodAt_term]
          unfold termC
          rw [if_neg (by omega)]
    rw [e, cutL_snoc]
  · rw [if_neg (by rw [decide_eq_false h0]; exact Bool.false_ne_true)]
    refine cutL_zeros fun t ht => ?_
    rw [prodL_len] at ht
    rw [prodL_at a b ht]
    by_cases ha : a = []
    · subst ha; rfl
    · have hb : b = [] := Classical.byContradiction fun hb => h0 ⟨ha, hb⟩
      subst hb
      exact sumTo_zeros fun i _ => by
        rw [prodAt_term]
        unfold termC
        rw [if_neg (by simp)]

/-! ### The signed minors -/

theorem turnedL_len (m : List (List Int)) : (turnedL m).length = m.length + 1 := by simp [turnedL]
theorem turnedL_at (m : List (List Int)) {k : Nat} (hk : k ≤ m.length) : (turnedL m).getD k 0 = sgn k * minorsN m k := by
  unfold turnedL
  rw [List.getD_eq_getElem?_getD, List.getElem?_map, List.getElem?_range (by omega)]
  rfl
theorem charL_rev (m : List (List Int)) : (turnedL m).reverse = charL m := by
  refine List.ext_getElem (by rw [List.length_reverse, turnedL_len, charL_len]) fun i h1 h2 => ?_
  rw [charL_len] at h2
  rw [List.getElem_reverse]
  have hk : i ≤ m.length := by omega
  simp only [turnedL, charL, List.getElem_map, List.getElem_range, List.length_map, List.length_range]
  rw [show m.length + 1 - 1 - i = m.length - i by omega]
end Go.Proofs.YtalclebehbdliaaGreat
namespace Go.Proofs.YtalclebehbdliaaGreat
open Go Go.RowKit

/-- The function value g with the captured places lb answers as p does, in every world behind W0 in which what lay below H0 lies. -/
def TestI (H0 : Nat) (W0 : World) (g : Nat) (lb : Array Value) (p : Int → Bool) (ok : Int → Prop) : Prop :=
  ∀ x W, ok x → Below H0 W0 W → Calls Tryz.prog g (#[.int .i64 x] ++ lb) W (Scalar (.bool (p x)) W)
/-- No int ahead of place k is hit. -/
def NoHitI (p : Int → Bool) (xs : List Int) (k : Nat) : Prop := ∀ j, j < k → p (xs.getD j 0) = false
theorem NoHitI.next {p : Int → Bool} {xs : List Int} {k : Nat} (h : NoHitI p xs k) (hk : p (xs.getD k 0) = false) : NoHitI p xs (k + 1) := by
  intro j hj
  by_cases e : j = k
  · subst e; exact hk
  · exact h j (by omega)
theorem int_mem {xs : List Int} {k : Nat} (h : k < xs.length) : xs.getD k 0 ∈ xs := by
  have e : xs.getD k 0 = xs[k] := by simp [List.getD, h]
  rw [e]; exact List.getElem_mem h
theorem any_none {p : Int → Bool} {xs : List Int} (h : NoHitI p xs xs.length) : xs.any p = false := by
  rw [List.any_eq_false]
  intro x hx
  obtain ⟨j, hj, rfl⟩ := List.getElem_of_mem hx
  have := h j hj
  rw [show xs.getD j 0 = xs[j] by simp [List.getD, hj]] at this
  rw [this]; simp
theorem any_some {p : Int → Bool} {xs : List Int} {k : Nat} (hk : k < xs.length) (h : p (xs.getD k 0) = true) : xs.any p = true := by
  rw [List.any_eq_true]
  exact ⟨_, int_mem hk, h⟩

end Go.Proofs.YtalclebehbdliaaGreat
namespace Go.Proofs.YtalclebehbdliaaGreat
open Go Go.RowKit

/-- The slice A holds the table m, and each row has room for itself. -/
def GridC (w : World) (A : Option Addr) (m : List (List Int)) : Prop := 0 < m.length → ∃ b off, A = some ⟨b, off, none⟩ ∧ (∀ k, k < m.length → ∃ A' c, w.cell? ⟨b, off + k, none⟩ = some (.slice A' (m.getD k []).length c) ∧ RowS w A' (m.getD k []) ∧ (m.getD k []).length ≤ c) ∧ b < w.heap.size
theorem GridC.below {w w' : World} {A : Option Addr} {m : List (List Int)} (h : GridC w A m) (hb : Below w.heap.size w w') : GridC w' A m := by
  intro hp
  obtain ⟨b, off, hA, hs, hg⟩ := h hp
  exact ⟨b, off, hA, fun k hk => by
    obtain ⟨A', c, h1, h2, h3⟩ := hs k hk
    exact ⟨A', c, (hb.cell (p := ⟨b, off + k, none⟩) hg).trans h1, h2.below hb, h3⟩, Nat.lt_of_lt_of_le hg hb.size⟩
theorem GridC.gridS {w : World} {A : Option Addr} {m : List (List Int)} (h : GridC w A m) : GridS w A m := by
  intro hp
  obtain ⟨b, off, hA, hs, hg⟩ := h hp
  exact ⟨b, off, hA, fun k hk => by
    obtain ⟨A', c, h1, h2, _⟩ := hs k hk
    exact ⟨A', c, h1, h2⟩, hg⟩
/-- Row k, which is not empty. -/
theorem GridC.row {w : World} {A : Option Addr} {m : List (List Int)} (h : GridC w A m) {k : Nat} (hk : k < m.length) (hp : 0 < (m.getD k []).length) :
    ∃ b off b2 off2 c, A = some ⟨b, off, none⟩ ∧ w.cell? ⟨b, off + k, none⟩ = some (.slice (some ⟨b2, off2, none⟩) (m.getD k []).length c) ∧ IntsAt w b2 off2 (m.getD k []) ∧ (m.getD k []).length ≤ c ∧ b < w.heap.size ∧ b2 < w.heap.size := by
  obtain ⟨b, off, hA, hs, hg⟩ := h (by omega)
  obtain ⟨A', c, h1, h2, h3⟩ := hs k hk
  obtain ⟨b2, off2, rfl, h4, h5⟩ := h2 hp
  exact ⟨b, off, b2, off2, c, hA, h1, h4, h3, hg, h5⟩
theorem row_room {w : World} {B e n : Nat} {v : Value} {xs : List Value} (h : w.ownsRow B e 1 v n xs) : ∃ A c, v = .slice A n c ∧ n ≤ c := by
  rcases h.2 with ⟨rfl, h0⟩ | ⟨g, cap, cur, rfl, _, _, h1, _⟩
  · exact ⟨none, 0, by rw [h0], by omega⟩
  · exact ⟨_, cap, rfl, h1⟩
theorem OwnG.gridC {w : World} {B : Nat} {v : Value} {m : List (List Int)} (h : OwnG w B v m) : ∃ A c, v = .slice A m.length c ∧ GridC w A m := by
  obtain ⟨vs, ho, hr⟩ := h
  rcases ho.2 with ⟨rfl, h0⟩ | ⟨g, cap, cur, rfl, _, _, _⟩
  · exact ⟨none, 0, by rw [h0], fun hp => by omega⟩
  · refine ⟨some ⟨g, 0, none⟩, cap, rfl, fun _ => ⟨g, 0, rfl, fun k hk => ?_, (ho.lt g rfl).2⟩⟩
    have hl := hr.len
    have hk' : vs[k]? = some vs[k] := List.getElem?_eq_getElem (by omega)
    have h1 := (hr.row k _ hk').1
    obtain ⟨A, c, e, hs⟩ := rowS_of_owns h1
    obtain ⟨A2, c2, e2, hc⟩ := row_room h1
    rw [e] at e2
    simp only [Value.slice.injEq, true_and] at e2
    obtain ⟨_, rfl⟩ := e2
    refine ⟨A, c, ?_, hs, hc⟩
    rw [Nat.zero_add, ho.cellAt k (by omega), hk', e]
/-- The value is a slice that holds the table, and each row has room for itself. -/
def GridVC (w : World) (v : Value) (m : List (List Int)) : Prop := ∃ A c, v = .slice A m.length c ∧ GridC w A m
theorem GridVC.gridV {w : World} {v : Value} {m : List (List Int)} (h : GridVC w v m) : GridV w v m := by
  obtain ⟨A, c, hv, hg⟩ := h
  exact ⟨A, c, hv, hg.gridS⟩
theorem GridVC.below {w w' : World} {v : Value} {m : List (List Int)} (h : GridVC w v m) (hb : Below w.heap.size w w') : GridVC w' v m := by
  obtain ⟨A, c, hv, hg⟩ := h
  exact ⟨A, c, hv, hg.below hb⟩
theorem OwnG.gridVC {w : World} {B : Nat} {v : Value} {m : List (List Int)} (h : OwnG w B v m) : GridVC w v m := h.gridC
/-- Row k, empty or not. -/
theorem GridC.rowAt {w : World} {A : Option Addr} {m : List (List Int)} (h : GridC w A m) {k : Nat} (hk : k < m.length) :
    ∃ b off A' c, A = some ⟨b, off, none⟩ ∧ w.cell? ⟨b, off + k, none⟩ = some (.slice A' (m.getD k []).length c) ∧ RowS w A' (m.getD k []) ∧ (m.getD k []).length ≤ c ∧ b < w.heap.size := by
  obtain ⟨b, off, hA, hs, hg⟩ := h (by omega)
  obtain ⟨A', c, h1, h2, h3⟩ := hs k hk
  exact ⟨b, off, A', c, hA, h1, h2, h3, hg⟩
/-- The value is a slice that holds the list, and it has room for itself. -/
def RowVC (w : World) (v : Value) (xs : List Int) : Prop := ∃ A c, v = .slice A xs.length c ∧ RowS w A xs ∧ xs.length ≤ c
theorem RowVC.rowV {w : World} {v : Value} {xs : List Int} (h : RowVC w v xs) : RowV w v xs := by
  obtain ⟨A, c, hv, hr, _⟩ := h
  exact ⟨A, c, hv, hr⟩
theorem RowVC.below {w w' : World} {v : Value} {xs : List Int} (h : RowVC w v xs) (hb : Below w.heap.size w w') : RowVC w' v xs := by
  obtain ⟨A, c, hv, hr, hc⟩ := h
  exact ⟨A, c, hv, hr.below hb, hc⟩
theorem OwnA.rowVC {w : World} {B : Nat} {v : Value} {xs : List Int} (h : OwnA w B v xs) : RowVC w v xs := by
  obtain ⟨A, c, rfl, hr⟩ := h.rowV
  obtain ⟨A2, c2, e, hc⟩ := row_room h
  simp only [Value.slice.injEq, true_and] at e
  obtain ⟨_, rfl⟩ := e
  exact ⟨A, c, rfl, hr, hc⟩
end Go.Proofs.YtalclebehbdliaaGreat
namespace Go.Proofs.YtalclebehbdliaaGreat
open Go Go.RowKit

/-- The function value g with the captured places lb tells the terms t at a list of numbers | of rows, in every world behind W0 in which what lay below H0 lies. -/
def TermI (H0 : Nat) (W0 : World) (g : Nat) (lb : Array Value) (xs : List Int) (t : Nat → Int) : Prop :=
  ∀ k W, k < xs.length → Below H0 W0 W → Calls Tryz.prog g (#[.int .i64 (k : Int), .int .i64 (xs.getD k 0)] ++ lb) W (Scalar (.int .i64 (t k)) W)
def TermR (H0 : Nat) (W0 : World) (g : Nat) (lb : Array Value) (xs : List (List Int)) (t : Nat → Int) : Prop :=
  ∀ k W A c, k < xs.length → Below H0 W0 W → RowS W A (xs.getD k []) → (xs.getD k []).length ≤ c → Calls Tryz.prog g (#[.int .i64 (k : Int), .slice A (xs.getD k []).length c] ++ lb) W (Scalar (.int .i64 (t k)) W)

set_option maxRecDepth 100000 in
set_option maxHeartbeats 1600000 in
theorem sum_ints (H0 : Nat) (W0 : World) (g : Nat) (lb : Array Value) (eg : ∀ args w, (callFunc g args).run Tryz.prog w = .ok (.enter g args) w) (A : Option Addr) (c : Nat) (xs : List Int) (t : Nat → Int) (hp : TermI H0 W0 g lb xs t) (hn : xs.length ≤ 1000000)
    (hB : ∀ k, k ≤ xs.length → (sumTo k t).natAbs ≤ 4611686018427387904) (w : World) (hw : Below H0 W0 w) (hH : H0 ≤ w.heap.size) (hs : RowS w A xs) :
    Calls Tryz.prog 38 #[.slice A xs.length c, .func (.func g) #[] lb] w (Scalar (.int .i64 (sumTo xs.length t)) w) := by
  have HP := Lib.hid (fun k (hk : k < xs.length) w1 (h1 : Below w.heap.size w w1) => hp k w1 hk (hw.trans (h1.mono hH)))
  have HS := Lib.hid hs
  have HB := Lib.hid hB
  have HN : Hid (∀ k, sumTo (k + 1) t = sumTo k t + t k) := Lib.hid fun k => rfl
  clear hs hp hB
  go_enter Tryz.func38, Tryz.ntmps38
  go_wp2
  go_loopw [5, 10] (fun s i wr => ∃ (k : Nat) (v : Int), k ≤ xs.length ∧ i = .int .i64 k ∧ s = .int .i64 v ∧ Hid (v = sumTo k t) ∧ Hid (Below w.heap.size w wr)) (fun _ i _ => xs.length - (intOf i).toNat)
  case atStart => exact ⟨0, 0, Nat.zero_le _, rfl, rfl, Lib.hid rfl, Lib.hid (Below.refl _ _)⟩
  case round =>
    obtain ⟨k, v, hk, rfl, rfl, hv, hbl⟩ := hrel
    by_cases hlt : k < xs.length
    · obtain ⟨b, off, rfl, hat, _⟩ := (HS.out.below hbl.out) (by omega)
      have hc := hat k hlt
      have HC := Lib.hid (HP.out k hlt _ hbl.out)
      have hb := HB.out (k + 1) (by omega)
      have hs := HN.out k
      rw [← hv.out] at hs
      obtain ⟨q, hq⟩ : ∃ q, sumTo (k + 1) t = q := ⟨_, rfl⟩
      rw [hq] at hb hs
      have HQ := Lib.hid hq
      clear hat hq
      generalize xs.getD k 0 = x at hc HC
      generalize t k = y at *
      have hw : RowKit.wrap64 (v + y) = q := by rw [← hs]; unfold RowKit.wrap64; omega
      clear hs hb
      go_wp2_with fail
      refine HC.out.mono ?_
      rintro e w' ⟨rfl, hb1⟩
      have HB1 := Lib.hid (below_behind hbl.out hb1)
      clear hb1
      go_wp2
      go_roundw
      case rel => exact ⟨k + 1, _, by omega, by go_num, rfl, Lib.hid (hw.trans HQ.out.symm), HB1⟩
      case measure => simp [intOf]; omega
    · obtain rfl : k = xs.length := by omega
      have HV := Lib.hid hv.out
      go_wp2
      go_ret
      exact ⟨by have := HV.out; simp [this], hbl.out⟩

end Go.Proofs.YtalclebehbdliaaGreat
namespace Go.Proofs.YtalclebehbdliaaGreat
open Go Go.RowKit

theorem enters_term (args : Array Value) (w : World) : (callFunc 86 args).run Tryz.prog w = .ok (.enter 86 args) w := enters_of Tryz.func86 (by kernel_rfl) rfl args w

set_option maxRecDepth 100000 in
set_option maxHeartbeats 800000 in
theorem term_paths (gp j : Nat) (x : Int) (P : Option Addr) (c : Nat) (pl : List Int) (hx : x = 0 ∨ x = 1) (hy : 0 ≤ pl.getD j 0 ∧ pl.getD j 0 ≤ 3486784401) (hj : j < pl.length) (hl : pl.length ≤ 9) (W : World) (hc : W.cell? ⟨gp, 0, none⟩ = some (.slice P pl.length c)) (hr : RowS W P pl) :
    Calls Tryz.prog 86 #[.int .i64 (j : Int), .int .i64 x, .pointer (some ⟨gp, 0, none⟩)] W (Scalar (.int .i64 (x * pl.getD j 0)) W) := by
  obtain ⟨b, off, rfl, hat, _⟩ := hr (by omega)
  have hk := hat j hj
  have hjn : (j : Int) < (pl.length : Int) := by omega
  have hw : RowKit.wrap64 (x * pl.getD j 0) = x * pl.getD j 0 := by
    rcases hx with rfl | rfl
    · rw [Int.zero_mul]; unfold RowKit.wrap64; omega
    · rw [Int.one_mul]; unfold RowKit.wrap64; omega
  generalize pl.getD j 0 = y at *
  clear hat hr hx hy
  go_enter Tryz.func86, Tryz.ntmps86
  go_wp2
  go_ret
  exact ⟨by simp [hw], Below.refl _ _⟩

/-- A table of zeros and ones, and how far the numbers of its paths go. -/
structure PathTab (m : List (List Int)) (S N : Nat) : Prop where
  len : m.length = S
  nine : S ≤ 9
  row : ∀ i, i < S → (m.getD i []).length = S
  bit : ∀ i j, i < S → j < S → cellOf m i j = 0 ∨ cellOf m i j = 1
  le : ∀ t, t ≤ N → ∀ i, i < S → 0 ≤ colF m S t i ∧ colF m S t i ≤ 3486784401
theorem PathTab.part {m : List (List Int)} {S N : Nat} (h : PathTab m S N) {t i : Nat} (ht : t ≤ N) (hi : i < S) : ∀ k, k ≤ S → (sumTo k fun j => (m.getD i []).getD j 0 * (colL m S t).getD j 0).natAbs ≤ 4611686018427387904 := by
  intro k hk
  have h9 := h.nine
  have hb := sumTo_le (f := fun j => (m.getD i []).getD j 0 * (colL m S t).getD j 0) (B := 3486784401) k fun j hj => by
    have hjS : j < S := by omega
    have h1 := h.le t ht j hjS
    have h2 : (m.getD i []).getD j 0 = 0 ∨ (m.getD i []).getD j 0 = 1 := h.bit i j hi hjS
    rw [colL_at hjS]
    rcases h2 with e | e
    · rw [e]; omega
    · rw [e]; omega
  have : (k : Int) * 3486784401 ≤ 9 * 3486784401 := Int.mul_le_mul_of_nonneg_right (by omega) (by omega)
  omega
theorem PathTab.next {m : List (List Int)} {S N : Nat} (_h : PathTab m S N) {t i : Nat} : (sumTo S fun j => (m.getD i []).getD j 0 * (colL m S t).getD j 0) = colF m S (t + 1) i :=
  sumTo_congr _ fun j hj => by rw [colL_at hj]; rfl
theorem PathTab.sum {m : List (List Int)} {S N : Nat} (h : PathTab m S N) {t i : Nat} (ht : t ≤ N) (hi : i < S) (gp : Nat) (P A : Option Addr) (c cA : Nat) (W : World) (hc : W.cell? ⟨gp, 0, none⟩ = some (.slice P S c)) (hgp : gp < W.heap.size) (hr : RowS W P (colL m S t)) (hA : RowS W A (m.getD i [])) :
    Calls Tryz.prog 38 #[.slice A S cA, .func (.func 86) #[] #[.pointer (some ⟨gp, 0, none⟩)]] W (Scalar (.int .i64 (colF m S (t + 1) i)) W) := by
  have h9 := h.nine
  have hrl := h.row i hi
  have hT : TermI W.heap.size W 86 #[.pointer (some ⟨gp, 0, none⟩)] (m.getD i []) (fun j => (m.getD i []).getD j 0 * (colL m S t).getD j 0) := by
    intro k W' hk hW
    have hkS : k < S := by omega
    refine term_paths gp k ((m.getD i []).getD k 0) P c (colL m S t) (h.bit i k hi hkS) (by rw [colL_at hkS]; exact h.le t ht k hkS) (by rw [colL_len]; exact hkS) (by rw [colL_len]; exact h9) W' ?_ (hr.below hW)
    rw [colL_len]
    exact (hW.cell (p := ⟨gp, 0, none⟩) hgp).trans hc
  have hs := sum_ints W.heap.size W 86 #[.pointer (some ⟨gp, 0, none⟩)] enters_term A cA (m.getD i []) _ hT (by omega) (by rw [hrl]; exact h.part ht hi) W (Below.refl _ _) (Nat.le_refl _) hA
  rw [hrl, h.next] at hs
  exact hs
/-- The next numbers, i of them known. -/
def colTo (m : List (List Int)) (S t i : Nat) : List Int := (List.range S).map fun a => if a < i then colF m S (t + 1) a else 0
theorem colTo_len (m : List (List Int)) (S t i : Nat) : (colTo m S t i).length = S := by simp [colTo]
theorem colTo_zero (m : List (List Int)) (S t : Nat) : colTo m S t 0 = List.replicate S 0 := by
  unfold colTo
  refine List.ext_getElem (by simp) fun j h1 h2 => ?_
  simp
theorem colTo_all (m : List (List Int)) (S t : Nat) : colTo m S t S = colL m S (t + 1) := by
  unfold colTo colL
  exact List.map_congr_left fun a ha => if_pos (List.mem_range.1 ha)
theorem colTo_next (m : List (List Int)) (S t i : Nat) : (colTo m S t i).set i (colF m S (t + 1) i) = colTo m S t (i + 1) := by
  refine List.ext_getElem (by simp [colTo]) fun j h1 h2 => ?_
  rw [List.getElem_set]
  simp only [colTo, List.getElem_map, List.getElem_range]
  by_cases e : i = j
  · subst e; rw [if_pos rfl, if_pos (by omega)]
  · rw [if_neg e]
    by_cases h : j < i
    · rw [if_pos h, if_pos (by omega)]
    · rw [if_neg h, if_neg (by omega)]
theorem colL_zero (m : List (List Int)) (S : Nat) : colL m S 0 = List.replicate S 1 := by
  unfold colL
  refine List.ext_getElem (by simp) fun j h1 h2 => ?_
  simp [colF]

theorem owns_keep {w w' : World} {B e n : Nat} {v : Value} {xs : List Value} (h : w.ownsRow B e 1 v n xs) (hb : Below w.heap.size w w') : w'.ownsRow B e 1 v n xs := kept_below h hb

set_option maxRecDepth 100000 in
set_option maxHeartbeats 3200000 in
theorem impl_pathsFrom (A : Option Addr) (c : Nat) (m : List (List Int)) (S N : Nat) (hN : N ≤ 1000) (hm : PathTab m S N) (w : World) (hg : GridS w A m) :
    Calls Tryz.prog 39 #[.slice A S c, .int .i64 (N : Int)] w (NewA (colL m S N) w) := by
  obtain ⟨j0, hj0, hy0, hy1, hy2⟩ := info_parts infoInt
  have h9 := hm.nine
  have HM := Lib.hid hm
  have HML := Lib.hid hm.len
  have HG := Lib.hid hg
  have hb0 : Below w.heap.size w (w.alloc (.cells #[.int .i64 1] 3)) := below_new
  have hs0 : (w.alloc (.cells #[.int .i64 1] 3)).heap.size = w.heap.size + 1 := World.size_alloc _ _
  have HR := Lib.hid (repeat_ones w.heap.size 1 S h9 (w.alloc (.cells #[.int .i64 1] 3)) (by simp) (by rw [hs0]; omega))
  rw [← colL_zero m S] at HR
  have HB0 := Lib.hid hb0
  clear hm hg hb0
  go_enter Tryz.func39, Tryz.ntmps39
  go_wp2_with fail
  refine HR.out.mono ?_
  rintro e w1 ⟨v, rfl, ho, b1⟩
  have s1 := b1.size
  rw [hs0] at s1
  obtain ⟨P, cP, hv, hr⟩ := OwnA.rowV ho
  rw [colL_len] at hv
  subst hv
  have hb1 : Below w.heap.size w w1 := HB0.out.trans (b1.mono (by omega))
  have hbx : Below w1.heap.size w1 (w1.alloc (.cells #[.slice P S cP] 56)) := below_new
  have HK0 : Hid (∃ (P2 : Option Addr) (c2 : Nat), (w1.alloc (.cells #[.slice P S cP] 56)).heap[w1.heap.size]? = some (.cells #[.slice P2 S c2] 56 (0, 0)) ∧ OwnA (w1.alloc (.cells #[.slice P S cP] 56)) w.heap.size (.slice P2 S c2) (colL m S 0)) := Lib.hid ⟨P, cP, heap_alloc_new w1 _, (ho.below hbx).mono (by omega)⟩
  have HBX := Lib.hid (hb1.trans (hbx.mono (by omega)))
  have hs1x : (w1.alloc (.cells #[.slice P S cP] 56)).heap.size = w1.heap.size + 1 := World.size_alloc _ _
  clear ho b1 hr hb1 hbx HR HB0 hs0
  go_wp2
  go_loopw [14] (fun tv wr => ∃ t : Nat, t ≤ N ∧ tv = .int .i64 (t : Int) ∧ w1.heap.size < wr.heap.size ∧ Hid (∃ (P : Option Addr) (cP : Nat), wr.heap[w1.heap.size]? = some (.cells #[.slice P S cP] 56 (0, 0)) ∧ OwnA wr w.heap.size (.slice P S cP) (colL m S t)) ∧ Hid (Below w.heap.size w wr)) (fun tv _ => N - (intOf tv).toNat)
  case atStart => exact ⟨0, Nat.zero_le _, rfl, by omega, HK0, HBX⟩
  case round =>
    clear HK0 HBX hs1x
    obtain ⟨t, ht, rfl, hlt, HK, HB⟩ := hrel
    obtain ⟨P, cP, hk, ho⟩ := HK.out
    have d0 : wr.cell? ⟨w1.heap.size, 0, none⟩ = some (.slice P S cP) := by simp [World.cell?, hk]
    have HKK := Lib.hid hk
    have HO := Lib.hid ho
    obtain ⟨P', cP', hv', hrP⟩ := OwnA.rowV ho
    rw [colL_len] at hv'
    simp only [Value.slice.injEq, true_and] at hv'
    obtain ⟨rfl, rfl⟩ := hv'
    have HRP := Lib.hid hrP
    by_cases htN : t < N
    · obtain ⟨W0, rfl⟩ : ∃ W0 : World, W0 = wr := ⟨_, rfl⟩
      have htI : (t : Int) < (N : Int) := by omega
      clear hk ho hrP HK d0
      go_wp2_with (at_make; refine wpList_make_full _ rfl _ _ 56 rfl W0.heap.size 3 j0 (.int .i64 0) 1 Tryz.underlying56 hj0 hy0 hy1 .i64 .i64 _ _ S rfl rfl rfl rfl (by rw [hy2]; omega) (by unfold maxLen; omega) (Nat.le_refl _) ?_; intro w2 hown hgrow)
      have ho0 := made_ints hown
      have hbel : Below W0.heap.size W0 w2 := (Below.refl _ _).grown hgrow (Nat.le_refl _) (fun k hk => by cases hk)
      have hpz : (List.range S).map (fun _ => (0 : Int)) = colTo m S t 0 := by unfold colTo; exact List.map_congr_left fun a _ => (if_neg (Nat.not_lt_zero a)).symm
      rw [hpz] at ho0
      have HO2 := Lib.hid ho0
      have HB2 := Lib.hid hbel
      clear hown hgrow hbel ho0 hpz
      go_loopw [21] (fun iv wr => ∃ i : Nat, i ≤ S ∧ iv = .int .i64 (i : Int) ∧ Hid (wr.ownsRow W0.heap.size 3 1 (.slice (some ⟨W0.heap.size, 0, none⟩) S S) S ((colTo m S t i).map (Value.int .i64))) ∧ Hid (Below W0.heap.size W0 wr)) (fun iv _ => S - (intOf iv).toNat)
      case atStart => exact ⟨0, Nat.zero_le _, rfl, HO2, HB2⟩
      case round =>
        clear HO2 HB2
        obtain ⟨i, hi, rfl, HO3, HB3⟩ := hrel
        have s3 := HB3.out.size
        by_cases hiS : i < S
        · obtain ⟨bA, oA, A', c', rfl, hcA, hrA, _⟩ := ((HG.out.below HB.out).below HB3.out).row (k := i) (by rw [HML.out]; exact hiS)
          have hrl := HM.out.row i hiS
          rw [hrl] at hcA
          have hk3 := (HB3.out.block w1.heap.size hlt).trans HKK.out
          have d3 : wr.cell? ⟨w1.heap.size, 0, none⟩ = some (.slice P S cP) := by simp [World.cell?, hk3]
          have CS := Lib.hid (HM.out.sum (t := t) (by omega) hiS w1.heap.size P A' cP c' wr d3 (by omega) (HRP.out.below HB3.out) hrA)
          have hiI : (i : Int) < (S : Int) := by omega
          have hi0 : (0 : Int) ≤ (i : Int) := by omega
          have HNX := Lib.hid (colTo_next m S t i)
          generalize colF m S (t + 1) i = y at *
          clear hrA hrl hk3 d3
          go_wp2_with fail
          refine CS.out.mono ?_
          rintro e w4 ⟨rfl, b4⟩
          have ho4 := owns_keep HO3.out b4
          have hc4 : w4.cell? ⟨W0.heap.size, i, none⟩ = some (.int .i64 ((colTo m S t i).getD i 0)) := by
            have h := (IntsAt.of_owns ho4 (by rw [colTo_len])) i (by rw [colTo_len]; exact hiS)
            rwa [Nat.zero_add] at h
          have hf4 : w4.frozen? ⟨W0.heap.size, i, none⟩ = false := ho4.frozenAt i
          obtain ⟨ho5, hg5⟩ := ho4.stored i (.int .i64 y)
          have HO5 : Hid ((w4.setCell ⟨W0.heap.size, i, none⟩ (.int .i64 y)).ownsRow W0.heap.size 3 1 (.slice (some ⟨W0.heap.size, 0, none⟩) S S) S ((colTo m S t (i + 1)).map (Value.int .i64))) := Lib.hid (by rw [← HNX.out, List.map_set]; exact ho5)
          have HB5 : Hid (Below W0.heap.size W0 (w4.setCell ⟨W0.heap.size, i, none⟩ (.int .i64 y))) := Lib.hid ((HB3.out.trans (b4.mono s3)).setCell (p := ⟨W0.heap.size, i, none⟩) (Nat.le_refl _) _)
          generalize (colTo m S t i).getD i 0 = z at *
          clear ho4 ho5 hg5 b4 CS
          go_wp2
          go_roundw
          case rel => exact ⟨i + 1, by omega, by go_num, HO5, HB5⟩
          case measure => simp [intOf]; omega
        · obtain rfl : i = S := by omega
          have hk3 := (HB3.out.block w1.heap.size hlt).trans HKK.out
          have d3 : wr.cell? ⟨w1.heap.size, 0, none⟩ = some (.slice P i cP) := by simp [World.cell?, hk3]
          have f3 : wr.frozen? ⟨w1.heap.size, 0, none⟩ = false := by simp [World.frozen?, hk3]
          have hiI : ¬ (i : Int) < (i : Int) := by omega
          have ho3 := HO3.out
          rw [colTo_all] at ho3
          have h6 : (wr.setCell ⟨w1.heap.size, 0, none⟩ (.slice (some ⟨W0.heap.size, 0, none⟩) i i)).heap[w1.heap.size]? = some (.cells #[.slice (some ⟨W0.heap.size, 0, none⟩) i i] 56 (0, 0)) := heap_setCell_same wr w1.heap.size 0 _ _ _ hk3
          have ho6 : OwnA (wr.setCell ⟨w1.heap.size, 0, none⟩ (.slice (some ⟨W0.heap.size, 0, none⟩) i i)) w.heap.size (.slice (some ⟨W0.heap.size, 0, none⟩) i i) (colL m i (t + 1)) := by
            unfold OwnA
            rw [colL_len]
            exact World.ownsRow.mono (ownsRow_setCell_other ho3 (a := ⟨w1.heap.size, 0, none⟩) (by intro h; have e : W0.heap.size = w1.heap.size := Option.some.inj h; omega) _) (by have := HB.out.size; omega)
          have HK6 : Hid (∃ (P : Option Addr) (cP : Nat), (wr.setCell ⟨w1.heap.size, 0, none⟩ (.slice (some ⟨W0.heap.size, 0, none⟩) i i)).heap[w1.heap.size]? = some (.cells #[.slice P i cP] 56 (0, 0)) ∧ OwnA (wr.setCell ⟨w1.heap.size, 0, none⟩ (.slice (some ⟨W0.heap.size, 0, none⟩) i i)) w.heap.size (.slice P i cP) (colL m i (t + 1))) := Lib.hid ⟨_, _, h6, ho6⟩
          have HB6 : Hid (Below w.heap.size w (wr.setCell ⟨w1.heap.size, 0, none⟩ (.slice (some ⟨W0.heap.size, 0, none⟩) i i))) := Lib.hid ((HB.out.trans (HB3.out.mono HB.out.size)).setCell (p := ⟨w1.heap.size, 0, none⟩) (by show w.heap.size ≤ w1.heap.size; omega) _)
          have hs6 : w1.heap.size < (wr.setCell ⟨w1.heap.size, 0, none⟩ (.slice (some ⟨W0.heap.size, 0, none⟩) i i)).heap.size := by simp [World.setCell]; omega
          clear hk3 ho3 h6 ho6
          go_wp2
          go_roundw
          case rel => exact ⟨t + 1, by omega, by go_num, hs6, HK6, HB6⟩
          case measure => simp [intOf]; omega
    · obtain rfl : t = N := by omega
      have htI : ¬ (t : Int) < (t : Int) := by omega
      clear hk ho hrP HK
      go_wp2
      go_ret
      exact ⟨_, rfl, HO.out, HB.out⟩
end Go.Proofs.YtalclebehbdliaaGreat
namespace Go.Proofs.YtalclebehbdliaaGreat
open Go Go.RowKit

theorem enters_self (args : Array Value) (w : World) : (callFunc 40 args).run Tryz.prog w = .ok (.enter 40 args) w := enters_of Tryz.func40 (by kernel_rfl) rfl args w
set_option maxRecDepth 100000 in
theorem term_self (j y : Int) (W : World) : Calls Tryz.prog 40 #[.int .i64 j, .int .i64 y] W (Scalar (.int .i64 y) W) := by
  go_enter Tryz.func40, Tryz.ntmps40
  go_wp2
  go_ret
  exact ⟨rfl, Below.refl _ _⟩
theorem PathTab.part2 {m : List (List Int)} {S N : Nat} (h : PathTab m S N) : ∀ k, k ≤ S → (sumTo k fun j => (colL m S N).getD j 0).natAbs ≤ 4611686018427387904 := by
  intro k hk
  have h9 := h.nine
  have hb := sumTo_le (f := fun j => (colL m S N).getD j 0) (B := 3486784401) k fun j hj => by
    rw [colL_at (by omega)]
    exact h.le N (Nat.le_refl _) j (by omega)
  have : (k : Int) * 3486784401 ≤ 9 * 3486784401 := Int.mul_le_mul_of_nonneg_right (by omega) (by omega)
  omega
theorem PathTab.total {m : List (List Int)} {S N : Nat} (h : PathTab m S N) (A : Option Addr) (c : Nat) (W : World) (hr : RowS W A (colL m S N)) :
    Calls Tryz.prog 38 #[.slice A S c, .func (.func 40) #[] #[]] W (Scalar (.int .i64 (sumTo S fun j => colF m S N j)) W) := by
  have h9 := h.nine
  have hT : TermI W.heap.size W 40 #[] (colL m S N) (fun j => (colL m S N).getD j 0) := fun k W' _ _ => term_self _ _ W'
  have hs := sum_ints W.heap.size W 40 #[] enters_self A c (colL m S N) _ hT (by rw [colL_len]; omega) (by rw [colL_len]; exact h.part2) W (Below.refl _ _) (Nat.le_refl _) hr
  rw [colL_len, sumTo_congr (g := fun j => colF m S N j) S fun j hj => colL_at hj] at hs
  exact hs
/-- What the table of a shift says. -/
theorem shift_tab {L : Int} {ps : List ByteArray} (h : isShift L ps = true) {N : Nat} (hN : N ≤ 18) : ∃ m S, (graphS L ps).getD [] = m ∧ PathTab m S N ∧ (sumTo S fun j => colF m S N j) = ((langW L.toNat ps (2 + N)).length : Int) := by
  obtain ⟨_, k3, _, hps⟩ := shift_sizes h
  refine ⟨_, (statesW L.toNat ps).length, rfl, ?_⟩
  rw [graphS_is h]
  by_cases h0 : (statesW L.toNat ps).length = 0
  · rw [if_pos h0, h0]
    refine ⟨⟨rfl, by omega, fun i hi => by omega, fun i j hi => by omega, fun t _ i hi => by omega⟩, ?_⟩
    rw [no_words k3 h0]; rfl
  · rw [if_neg h0]
    show PathTab (graphW L.toNat ps) _ _ ∧ (sumTo _ fun j => colF (graphW L.toNat ps) _ N j) = _
    refine ⟨⟨graph_length L.toNat ps, states_le k3 ps, fun i hi => ?_, fun i j hi hj => graph01 hi hj, fun t ht i hi => col_le k3 hps (by omega) hi⟩, col_sum k3 hps N⟩
    unfold graphW
    rw [tabOf_row hi]; simp

set_option maxRecDepth 100000 in
set_option maxHeartbeats 3200000 in
theorem impl_countWords (L n : Int) (G : Option Addr) (c : Nat) (ps : List ByteArray) (hl : ps.length ≤ 1048576) (hz : ∀ k, k < ps.length → (ps.getD k ByteArray.empty).size ≤ 2147483648) (w : World) (hs : StrsG w G ps)
    (hsh : ∀ w', Below w.heap.size w w' → w'.ShapedOpen Tryz.prog) :
    Calls Tryz.prog 7 #[.agg #[.int .i64 L, .slice G ps.length c], .int .i64 n] w (Scalar (.int .i64 (countS L n ps)) w) := by
  have hb := (Below.refl w.heap.size w).alloc (Nat.le_refl _) (.cells #[.int .i64 L, .slice G ps.length c] 26)
  have hbx := boxAt_new w L (.slice G ps.length c) 26
  have hsz0 : (w.alloc (.cells #[.int .i64 L, .slice G ps.length c] 26)).heap.size = w.heap.size + 1 := World.size_alloc _ _
  have HI := Lib.hid (impl_isShift L G c ps hl (size_wide hz) _ (hs.below hb))
  have HG := Lib.hid (fun w' (h : Below w.heap.size w w') => impl_graphOf L G c ps hl hz w' (hs.below h) (fun w2 h2 => hsh w2 (below_after h h2)))
  have HLG : Hid (∀ w', Below w.heap.size w w' → Calls Tryz.prog 37 #[.agg #[.int .i64 L, .slice G ps.length c], .int .i64 n] w' (ListPost (langOfS L ps n) w')) := Lib.hid fun w' h => by rw [langOf_same]; exact impl_languageOf L n G c ps hl hz w' (hs.below h) (fun w2 h2 => hsh w2 (below_after h h2))
  have HB := Lib.hid hb
  have XB := Lib.hid (fun w' (h : Below (w.heap.size + 1) (w.alloc (.cells #[.int .i64 L, .slice G ps.length c] 26)) w') => hbx.below h (by omega))
  clear hs hz hb hbx hsh
  go_enter Tryz.func7, Tryz.ntmps7
  go_wp2_with fail
  refine HI.out.mono ?_
  rintro e w1 ⟨rfl, b1⟩
  have s1 := b1.size
  rw [hsz0] at s1 b1
  have B1 := Lib.hid (HB.out.trans (b1.mono (by omega)))
  obtain ⟨x0, x1⟩ := XB.out w1 b1
  clear b1 HI HB XB hsz0
  cases hsft : isShift L ps with
  | false =>
    have HR : Hid (countS L n ps = -1) := Lib.hid (by unfold countS; rw [if_neg (by rw [hsft]; simp)])
    clear hsft
    go_wp2
    go_ret
    exact ⟨by rw [HR.out]; rfl, B1.out⟩
  | true =>
    by_cases hn0 : n < 0
    · have HR : Hid (countS L n ps = -1) := Lib.hid (by unfold countS; rw [if_neg (by omega)])
      clear hsft
      go_wp2
      go_ret
      exact ⟨by rw [HR.out]; rfl, B1.out⟩
    · by_cases hn20 : n > 20
      · have HR : Hid (countS L n ps = -1) := Lib.hid (by unfold countS; rw [if_neg (by omega)])
        clear hsft
        go_wp2
        go_ret
        exact ⟨by rw [HR.out]; rfl, B1.out⟩
      · have HR : Hid (countS L n ps = ((langW L.toNat ps n.toNat).length : Int)) := Lib.hid (by unfold countS; rw [if_pos ⟨hsft, by omega, by omega⟩])
        by_cases hn2 : n < 2
        · have HE : Hid ((langOfS L ps n).length = (langW L.toNat ps n.toNat).length) := Lib.hid (by rw [langOfS_is hsft (by omega) (by omega)])
          have C2 := Lib.hid (HLG.out w1 B1.out)
          clear hsft HG HLG
          go_wp2_with fail
          refine C2.out.mono ?_
          rintro e w2 h2
          obtain ⟨A2, c2, rfl, _, b2⟩ := ListPost.rowAt h2
          have B2 := Lib.hid (below_after B1.out b2)
          clear h2 b2 C2
          rw [HE.out]
          go_wp2
          go_ret
          exact ⟨by rw [HR.out]; rfl, B2.out⟩
        · obtain ⟨N, rfl⟩ : ∃ N : Nat, n = (N : Int) + 2 := ⟨(n - 2).toNat, by omega⟩
          obtain ⟨m, S, hm, hpt, htot⟩ := shift_tab hsft (N := N) (by omega)
          have HT := Lib.hid hpt
          have HTOT : Hid ((sumTo S fun j => colF m S N j) = countS L ((N : Int) + 2) ps) := Lib.hid (by rw [HR.out, htot, show ((N : Int) + 2).toNat = 2 + N by omega])
          have C2 := Lib.hid (HG.out w1 B1.out)
          have HMM := Lib.hid hm
          have hwn : IntKind.i64.wrap ((N : Int) + 2 - 2) = (N : Int) := by rw [IntKind.wrap_i64]; omega
          have hwn2 : (N : Int) + 2 - 2 = (N : Int) := by omega
          clear hsft hpt htot hm HG HLG HR
          generalize graphS L ps = R at *
          go_wp2_with fail
          refine C2.out.mono ?_
          rintro e w2 ⟨v, rfl, ho, b2⟩
          rw [HMM.out] at ho
          obtain ⟨A2, c2, rfl, hg2⟩ := OwnG.gridS ho
          have hml := HT.out.len
          rw [hml]
          have CP := Lib.hid (impl_pathsFrom A2 c2 m S N (by omega) HT.out w2 hg2)
          have B2 := Lib.hid (below_after B1.out b2)
          clear ho hg2 b2 C2 hml
          go_wp2_with fail
          refine CP.out.mono ?_
          rintro e w3 ⟨v3, rfl, ho3, b3⟩
          obtain ⟨P3, c3, hv3, hr3⟩ := OwnA.rowV ho3
          rw [colL_len] at hv3
          subst hv3
          have CS := Lib.hid (HT.out.total P3 c3 w3 hr3)
          rw [HTOT.out] at CS
          have B3 := Lib.hid (below_after B2.out b3)
          clear ho3 hr3 b3 CP
          generalize countS L ((N : Int) + 2) ps = q at *
          go_wp2_with fail
          refine CS.out.mono ?_
          rintro e w4 ⟨rfl, b4⟩
          have B4 := Lib.hid (below_after B3.out b4)
          clear b4 CS
          go_wp2
          go_ret
          exact ⟨rfl, B4.out⟩
end Go.Proofs.YtalclebehbdliaaGreat
namespace Go.Proofs.YtalclebehbdliaaGreat
open Go Go.RowKit

theorem and_u16U (a b : Nat) (ha : a < 65536) (hb : b < 65536) : bits .and .u16 (a : Int) (b : Int) = ((a &&& b : Nat) : Int) := by
  have h2 : a &&& b < 65536 := Nat.lt_of_le_of_lt Nat.and_le_left ha
  have h : (BitVec.ofInt IntKind.u16.bits (a : Int) &&& BitVec.ofInt IntKind.u16.bits (b : Int)).toNat = a &&& b := by
    rw [BitVec.toNat_and, BitVec.toNat_ofInt, BitVec.toNat_ofInt]
    have e1 : ((a : Int) % ((2 ^ IntKind.u16.bits : Nat) : Int)).toNat = a := by
      show ((a : Int) % (65536 : Int)).toNat = a
      omega
    have e2 : ((b : Int) % ((2 ^ IntKind.u16.bits : Nat) : Int)).toNat = b := by
      show ((b : Int) % (65536 : Int)).toNat = b
      omega
    rw [e1, e2]
  simp only [bits]
  rw [h, IntKind.wrap_u16]
  omega
theorem or_u16U (a b : Nat) (ha : a < 65536) (hb : b < 65536) : bits .or .u16 (a : Int) (b : Int) = ((a ||| b : Nat) : Int) := by
  have h2 : a ||| b < 65536 := Nat.or_lt_two_pow (n := 16) ha hb
  have h : (BitVec.ofInt IntKind.u16.bits (a : Int) ||| BitVec.ofInt IntKind.u16.bits (b : Int)).toNat = a ||| b := by
    rw [BitVec.toNat_or, BitVec.toNat_ofInt, BitVec.toNat_ofInt]
    have e1 : ((a : Int) % ((2 ^ IntKind.u16.bits : Nat) : Int)).toNat = a := by
      show ((a : Int) % (65536 : Int)).toNat = a
      omega
    have e2 : ((b : Int) % ((2 ^ IntKind.u16.bits : Nat) : Int)).toNat = b := by
      show ((b : Int) % (65536 : Int)).toNat = b
      omega
    rw [e1, e2]
  simp only [bits]
  rw [h, IntKind.wrap_u16]
  omega
theorem shr_natU (p n : Nat) : (p : Int) / 2 ^ n = ((p >>> n : Nat) : Int) := by
  rw [Nat.shiftRight_eq_div_pow]; simp
theorem bit_of (p n : Nat) (hp : p < 65536) : bits .and .u16 ((p : Int) / 2 ^ n) 1 = bI (p.testBit n) := by
  have h1 : p >>> n < 65536 := by rw [Nat.shiftRight_eq_div_pow]; exact Nat.lt_of_le_of_lt (Nat.div_le_self _ _) hp
  rw [shr_natU, show (1 : Int) = ((1 : Nat) : Int) from rfl, and_u16U _ _ h1 (by decide), Nat.testBit, Nat.and_comm]
  have h2 : 1 &&& p >>> n = (p >>> n) % 2 := by rw [Nat.and_comm]; exact Nat.and_one_is_mod _
  rw [h2]
  rcases Nat.mod_two_eq_zero_or_one (p >>> n) with e | e <;> rw [e] <;> rfl
theorem has_bitU (p n : Nat) (hp : p < 65536) : (bits .and .u16 ((p : Int) / 2 ^ n) 1 == 1) = p.testBit n := by
  rw [bit_of p n hp, bI_one]
theorem pow_bitU (n : Nat) (hn : n < 16) : IntKind.u16.wrap ((1 : Int) * 2 ^ n) = ((2 ^ n : Nat) : Int) := by
  have h : 2 ^ n < 65536 := Nat.pow_lt_pow_of_lt (by decide) hn
  rw [IntKind.wrap_u16, Int.one_mul]
  have e : ((2 : Int) ^ n) = ((2 ^ n : Nat) : Int) := by simp
  rw [e]
  generalize 2 ^ n = m at h
  omega
theorem all_bit (n : Nat) (hn : n < 16) : IntKind.u16.wrap (((2 ^ n : Nat) : Int) - 1) = ((2 ^ n - 1 : Nat) : Int) := by
  have h : 2 ^ n < 65536 := Nat.pow_lt_pow_of_lt (by decide) hn
  have h0 : 0 < 2 ^ n := Nat.two_pow_pos n
  rw [IntKind.wrap_u16]
  generalize 2 ^ n = m at h h0
  omega

/-! ### Sets of vertices -/

/-- Bit j is set just for those j below n of which p is true. -/
def setN (p : Nat → Bool) : Nat → Nat
  | 0 => 0
  | n + 1 => setN p n ||| (if p n then 2 ^ n else 0)
theorem setN_bit (p : Nat → Bool) : ∀ n j, (setN p n).testBit j = (decide (j < n) && p j)
  | 0, j => by simp [setN]
  | n + 1, j => by
    rw [setN, Nat.testBit_or, setN_bit p n j]
    by_cases h : p n = true
    · rw [if_pos h, Nat.testBit_two_pow]
      by_cases e : n = j
      · subst e; simp [h]
      · rw [decide_eq_false e, Bool.or_false]
        congr 1
        rw [Bool.eq_iff_iff]; simp; omega
    · rw [if_neg h, Nat.zero_testBit, Bool.or_false]
      by_cases e : n = j
      · subst e
        simp only [Bool.not_eq_true] at h
        simp [h]
      · congr 1
        rw [Bool.eq_iff_iff]; simp; omega
theorem setN_lt (p : Nat → Bool) (n : Nat) : setN p n < 2 ^ n := by
  refine Nat.lt_pow_two_of_testBit _ fun j hj => ?_
  rw [setN_bit, decide_eq_false (by omega)]; rfl
theorem setN_le (p : Nat → Bool) {n : Nat} (hn : n ≤ 9) : setN p n < 512 := Nat.lt_of_lt_of_le (setN_lt p n) (Nat.pow_le_pow_right (n := 2) (by decide) hn : 2 ^ n ≤ 2 ^ 9)
theorem set_ext {n s : Nat} {p : Nat → Bool} (hs : s < 2 ^ n) (h : ∀ j, j < n → s.testBit j = p j) : s = setN p n := by
  refine Nat.eq_of_testBit_eq fun j => ?_
  rw [setN_bit]
  by_cases hj : j < n
  · rw [decide_eq_true hj, Bool.true_and]; exact h j hj
  · rw [decide_eq_false hj, Bool.false_and]
    exact Nat.testBit_lt_two_pow (Nat.lt_of_lt_of_le hs (Nat.pow_le_pow_right (by decide) (by omega)))
theorem setN_congr {n : Nat} {p q : Nat → Bool} (h : ∀ j, j < n → p j = q j) : setN p n = setN q n :=
  set_ext (setN_lt p n) fun j hj => by rw [setN_bit, decide_eq_true hj, Bool.true_and]; exact h j hj
theorem setN_or {n j : Nat} {p q : Nat → Bool} (hj : j < n) (h : ∀ b, b < n → q b = (p b || decide (b = j))) : setN q n = setN p n ||| 2 ^ j := by
  refine (set_ext (Nat.or_lt_two_pow (setN_lt p n) (Nat.pow_lt_pow_of_lt (by decide) hj)) fun b hb => ?_).symm
  rw [Nat.testBit_or, setN_bit, decide_eq_true hb, Bool.true_and, Nat.testBit_two_pow, h b hb]
  congr 1
  rw [Bool.eq_iff_iff]; simp; omega
theorem setN_none (n : Nat) : setN (fun _ => false) n = 0 := (set_ext (Nat.two_pow_pos n) fun j _ => Nat.zero_testBit j).symm
theorem setN_one {n v : Nat} (hv : v < n) : 2 ^ v = setN (fun j => decide (v = j)) n := set_ext (Nat.pow_lt_pow_of_lt (by decide) hv) fun j _ => Nat.testBit_two_pow
theorem setN_all (n : Nat) : 2 ^ n - 1 = setN (fun _ => true) n := set_ext (by have := Nat.two_pow_pos n; omega) fun j hj => by rw [Nat.testBit_two_pow_sub_one, decide_eq_true hj]

/-- The vertices to which an arc leads from one of the set s. -/
def tOf (s : Nat) : Nat → Nat → Bool := fun _ k => s.testBit k
def stepS (m : List (List Int)) (s : Nat) : Nat := setN (fun j => stepK (tOf s) m m.length 0 j) m.length
/-- So far: all rows ahead of i, and of row i all ahead of j. -/
def endS (m : List (List Int)) (s i j : Nat) : Nat := setN (fun b => stepK (tOf s) m i 0 b || (decide (b < j) && (s.testBit i && arcB m i b))) m.length
theorem endS_zero (m : List (List Int)) (s : Nat) : endS m s 0 0 = 0 := (setN_congr fun b _ => by simp [stepK]).trans (setN_none m.length)
theorem endS_row (m : List (List Int)) (s i : Nat) : endS m s i m.length = endS m s (i + 1) 0 := setN_congr fun b hb => by
  rw [decide_eq_true hb, stepB_next]
  simp [tOf]
theorem endS_all (m : List (List Int)) (s : Nat) : endS m s m.length 0 = stepS m s := setN_congr fun b _ => by simp
theorem endS_not (m : List (List Int)) {s i j : Nat} (h : (s.testBit i && arcB m i j) = false) : endS m s i (j + 1) = endS m s i j := setN_congr fun b _ => by
  congr 1
  by_cases e : b = j
  · subst e; rw [h]; simp
  · congr 1
    rw [Bool.eq_iff_iff]; simp; omega
theorem endS_put (m : List (List Int)) {s i j : Nat} (hj : j < m.length) (h : (s.testBit i && arcB m i j) = true) : endS m s i (j + 1) = endS m s i j ||| 2 ^ j := setN_or hj fun b _ => by
  by_cases e : b = j
  · subst e
    rw [h]; simp
  · rw [decide_eq_false e, Bool.or_false]
    congr 2
    rw [Bool.eq_iff_iff]; simp; omega
theorem endS_le (m : List (List Int)) (s i j : Nat) (hm : m.length ≤ 9) : endS m s i j < 512 := setN_le _ hm
theorem stepS_le (m : List (List Int)) (s : Nat) (hm : m.length ≤ 9) : stepS m s < 512 := setN_le _ hm

/-- The vertices to which walks of n arcs lead from v. -/
def wkS (m : List (List Int)) (n v : Nat) : Nat := setN (fun j => wkB m n v j) m.length
theorem wkS_le (m : List (List Int)) (n v : Nat) (hm : m.length ≤ 9) : wkS m n v < 512 := setN_le _ hm
theorem wkS_zero (m : List (List Int)) {v : Nat} (hv : v < m.length) : wkS m 0 v = 2 ^ v := by
  rw [setN_one hv]
  exact setN_congr fun j _ => rfl
theorem any_range_congr {n : Nat} {p q : Nat → Bool} (h : ∀ k, k < n → p k = q k) : (List.range n).any p = (List.range n).any q := by
  rw [Bool.eq_iff_iff, List.any_eq_true, List.any_eq_true]
  exact ⟨fun ⟨x, hx, hp⟩ => ⟨x, hx, by rw [← h x (List.mem_range.1 hx)]; exact hp⟩, fun ⟨x, hx, hp⟩ => ⟨x, hx, by rw [h x (List.mem_range.1 hx)]; exact hp⟩⟩
theorem wkS_step (m : List (List Int)) (n v : Nat) : stepS m (wkS m n v) = wkS m (n + 1) v := setN_congr fun j _ => by
  rw [wkB]
  unfold stepK tOf wkS
  refine any_range_congr fun k hk => ?_
  rw [setN_bit, decide_eq_true hk, Bool.true_and]
theorem wkS_bit (m : List (List Int)) (n v : Nat) {j : Nat} (hj : j < m.length) : (wkS m n v).testBit j = wkB m n v j := by
  unfold wkS
  rw [setN_bit, decide_eq_true hj, Bool.true_and]

/-- The vertices that v reaches. -/
def rchS (m : List (List Int)) (v : Nat) : Nat := setN (fun j => reachB m v j) m.length
theorem rchS_bit (m : List (List Int)) (v : Nat) {j : Nat} (hj : j < m.length) : (rchS m v).testBit j = reachB m v j := by
  unfold rchS
  rw [setN_bit, decide_eq_true hj, Bool.true_and]
theorem stepS_bit (m : List (List Int)) (s : Nat) {j : Nat} (hj : j < m.length) : (stepS m s).testBit j = true ↔ ∃ k, k < m.length ∧ s.testBit k = true ∧ arcB m k j = true := by
  unfold stepS
  rw [setN_bit, decide_eq_true hj, Bool.true_and]
  unfold stepK tOf
  rw [List.any_eq_true]
  constructor
  · rintro ⟨k, hk, h⟩
    rw [Bool.and_eq_true] at h
    exact ⟨k, List.mem_range.1 hk, h.1, h.2⟩
  · rintro ⟨k, hk, h1, h2⟩
    exact ⟨k, List.mem_range.2 hk, by rw [h1, h2]; rfl⟩
/-- Some of what v reaches, all to which it has an arc among it. -/
structure Rch (m : List (List Int)) (v R : Nat) : Prop where
  lt : R < 2 ^ m.length
  is : ∀ j, j < m.length → R.testBit j = true → reachB m v j = true
  arc : ∀ j, j < m.length → arcB m v j = true → R.testBit j = true
theorem Rch.start (m : List (List Int)) {v : Nat} (hv : v < m.length) : Rch m v (stepS m (2 ^ v)) := by
  refine ⟨setN_lt _ _, fun j hj h => ?_, fun j hj h => ?_⟩
  · obtain ⟨k, hk, h1, h2⟩ := (stepS_bit m _ hj).1 h
    rw [Nat.testBit_two_pow, decide_eq_true_iff] at h1
    subst h1
    exact (reachB_iff hv hj).2 ⟨1, by omega, Wk.one ⟨hv, hj, h2⟩⟩
  · exact (stepS_bit m _ hj).2 ⟨v, hv, by rw [Nat.testBit_two_pow, decide_eq_true rfl], h⟩
theorem Rch.next {m : List (List Int)} {v R : Nat} (hv : v < m.length) (h : Rch m v R) : Rch m v (R ||| stepS m R) := by
  refine ⟨Nat.or_lt_two_pow h.lt (setN_lt _ _), fun j hj hb => ?_, fun j hj hb => ?_⟩
  · rw [Nat.testBit_or, Bool.or_eq_true] at hb
    rcases hb with hb | hb
    · exact h.is j hj hb
    · obtain ⟨k, hk, h1, h2⟩ := (stepS_bit m _ hj).1 hb
      obtain ⟨n, hn, hw⟩ := (reachB_iff hv hk).1 (h.is k hk h1)
      exact (reachB_iff hv hj).2 ⟨n + 1, by omega, hw.add (Wk.one ⟨hk, hj, h2⟩)⟩
  · rw [Nat.testBit_or, h.arc j hj hb, Bool.true_or]
theorem Rch.done {m : List (List Int)} {v R : Nat} (hv : v < m.length) (h : Rch m v R) (he : R ||| stepS m R = R) : R = rchS m v := by
  have hst : ∀ k j, k < m.length → j < m.length → R.testBit k = true → arcB m k j = true → R.testBit j = true := fun k j hk hj h1 h2 => by
    have : (R ||| stepS m R).testBit j = true := by rw [Nat.testBit_or, (stepS_bit m R hj).2 ⟨k, hk, h1, h2⟩, Bool.or_true]
    rwa [he] at this
  have hall : ∀ n j, Wk (arcP m) (n + 1) v j → R.testBit j = true := by
    intro n
    induction n with
    | zero =>
      rintro j ⟨k, h1, h2⟩
      obtain rfl : v = k := h1
      exact h.arc j h2.2.1 h2.2.2
    | succ n ih =>
      rintro j ⟨k, h1, h2⟩
      exact hst k j h2.1 h2.2.1 (ih k h1) h2.2.2
  refine set_ext h.lt fun j hj => ?_
  rw [Bool.eq_iff_iff]
  refine ⟨h.is j hj, fun hr => ?_⟩
  obtain ⟨n, hn, hw⟩ := (reachB_iff hv hj).1 hr
  exact hall (n - 1) j (by rw [show n - 1 + 1 = n by omega]; exact hw)
theorem or_le (R S : Nat) : R ≤ R ||| S := Nat.left_le_or
end Go.Proofs.YtalclebehbdliaaGreat
namespace Go.Proofs.YtalclebehbdliaaGreat
open Go Go.RowKit

set_option maxRecDepth 100000 in
theorem impl_onlyVertex (v : Nat) (hv : v < 16) (w : World) : Calls Tryz.prog 132 #[.int .i64 (v : Int)] w fun e w' => e = .returned (.int .u16 ((2 ^ v : Nat) : Int)) ∧ w' = w := by
  have HP := Lib.hid (pow_bitU v hv)
  go_enter Tryz.func132, Tryz.ntmps132
  go_wp2
  go_ret
  exact ⟨by rw [← HP.out]; simp, rfl⟩

set_option maxRecDepth 100000 in
theorem impl_hasV (s : Nat) (hs : s < 512) (v : Nat) (hv : v < 16) (w : World) : Calls Tryz.prog 131 #[.int .u16 (s : Int), .int .i64 (v : Int)] w fun e w' => e = .returned (.bool (s.testBit v)) ∧ w' = w := by
  have HT := Lib.hid (has_bitU s v (by omega))
  go_enter Tryz.func131, Tryz.ntmps131
  go_wp2
  go_ret
  exact ⟨by rw [← HT.out]; simp, rfl⟩

/-- Ones for the vertices of a set, zeros for the others. -/
def onesS (s n : Nat) : List Int := (List.range n).map fun v => bI (s.testBit v)
theorem onesS_length (s n : Nat) : (onesS s n).length = n := by unfold onesS; simp
theorem onesS_at (s : Nat) {n k : Nat} (hk : k < n) : (onesS s n).getD k 0 = bI (s.testBit k) := by
  unfold onesS
  simp [List.getD_eq_getElem?_getD, hk]

set_option maxRecDepth 100000 in
set_option maxHeartbeats 800000 in
theorem impl_row (s : Nat) (hs : s < 512) (n : Nat) (hn : n ≤ 9) (w : World) :
    Calls Tryz.prog 118 #[.int .u16 (s : Int), .int .i64 (n : Int)] w (NewA (onesS s n) w) := by
  obtain ⟨i0, hi, hz0, hz1, hz2⟩ := info_parts infoInt
  have hxl := onesS_length s n
  have HX : Hid (∀ k, k < n → (onesS s n).getD k 0 = bI (s.testBit k)) := Lib.hid fun k hk => onesS_at s hk
  have HBT : Hid (∀ v, bits .and .u16 ((s : Int) / 2 ^ v) 1 = bI (s.testBit v)) := Lib.hid fun v => bit_of s v (by omega)
  have HF0 : Hid (filledI (onesS s n) 0 n = List.replicate n (.int .i64 0)) := Lib.hid (filledI_none _ _)
  have HFA : Hid (filledI (onesS s n) n n = (onesS s n).map (Value.int .i64)) := Lib.hid (by have h := filledI_all (onesS s n); rw [hxl] at h; exact h)
  have HFS : Hid (∀ k, k < n → (filledI (onesS s n) k n).set k (.int .i64 (bI (s.testBit k))) = filledI (onesS s n) (k + 1) n) := Lib.hid fun k hk => by
    have h := filledI_set (onesS s n) k (by rw [hxl]; exact hk)
    rw [hxl, onesS_at s hk] at h
    exact h
  have HFT : Hid (∀ k, k < n → (filledI (onesS s n) k n)[k]? = some (.int .i64 0)) := Lib.hid fun k hk => by
    have h := filledI_at (onesS s n) k (by rw [hxl]; exact hk)
    rw [hxl] at h
    exact h
  have HXL := Lib.hid hxl
  clear hxl
  generalize onesS s n = xs at *
  go_enter Tryz.func118, Tryz.ntmps118
  go_wp2_with (at_make; refine wpList_make_full _ rfl _ _ 56 rfl w.heap.size 3 i0 (.int .i64 0) 1 Tryz.underlying56 hi hz0 hz1 .i64 .i64 _ _ n rfl rfl rfl rfl (by rw [hz2]; omega) (by unfold maxLen; omega) (Nat.le_refl _) ?_; intro w1 hown hgrow)
  have hown0 : w1.ownsRow w.heap.size 3 1 (.slice (some ⟨w.heap.size, 0, none⟩) n n) n (filledI xs 0 n) := by
    have e : (madeCells (Value.int .i64 0).cells (n * 1)).toList = List.replicate n (.int .i64 0) := by rw [Nat.mul_one]; exact toList_madeCells_one _ _
    rw [HF0.out, ← e]; exact hown
  have hbel : Below w.heap.size w w1 := (Below.refl _ _).grown hgrow (Nat.le_refl _) (fun k hk => by cases hk)
  clear hown hgrow
  go_loopw [11] (fun i wr => ∃ k : Nat, k ≤ n ∧ i = .int .i64 k ∧ wr.ownsRow w.heap.size 3 1 (.slice (some ⟨w.heap.size, 0, none⟩) n n) n (filledI xs k n) ∧ Below w.heap.size w wr) (fun i _ => n - (intOf i).toNat)
  case atStart => exact ⟨0, Nat.zero_le _, rfl, hown0, hbel⟩
  case round =>
    obtain ⟨k, hk, rfl, ho, hbl⟩ := hrel
    by_cases hlt : k < n
    · have hc2 : wr.cell? ⟨w.heap.size, k, none⟩ = some (.int .i64 0) := (ho.cellAt k (by omega)).trans (HFT.out k hlt)
      have hf2 : wr.frozen? ⟨w.heap.size, k, none⟩ = false := ho.frozenAt k
      have hst := (ho.stored k (.int .i64 (bI (s.testBit k)))).1
      rw [HFS.out k hlt] at hst
      have HO := Lib.hid hst
      have HB := Lib.hid hbl
      have hbt := HBT.out k
      have hbr := bI_range (s.testBit k)
      clear hst ho hbl
      generalize bI (s.testBit k) = x at *
      go_wp2
      go_roundw
      case rel => exact ⟨k + 1, by omega, by go_num, HO.out, HB.out.setCell (Nat.le_refl _) _⟩
      case measure => simp [intOf]; omega
    · obtain rfl : k = n := by omega
      rw [HFA.out] at ho
      have HO : Hid (OwnA wr w.heap.size (.slice (some ⟨w.heap.size, 0, none⟩) k k) xs) := Lib.hid (by unfold OwnA; rw [HXL.out]; exact ho)
      clear ho
      go_wp2
      go_ret
      exact ⟨_, rfl, HO.out, hbl⟩
end Go.Proofs.YtalclebehbdliaaGreat
namespace Go.Proofs.YtalclebehbdliaaGreat
open Go Go.RowKit Go.Shelf

theorem entersStep (args : Array Value) (w : World) : (callFunc 130 args).run Tryz.prog w = .ok (.enter 130 args) w := enters_of Tryz.func130 (by kernel_rfl) rfl args w
theorem box_new (w : World) (v : Value) (t : TypeId) : (w.alloc (.cells #[v] t)).cell? ⟨w.heap.size, 0, none⟩ = some v := by
  unfold World.cell?; rw [heap_alloc_new w _]; rfl

set_option maxRecDepth 100000 in
set_option maxHeartbeats 3200000 in
theorem step_at (gm : Nat) (A : Option Addr) (c : Nat) (m : List (List Int)) (hf : MatFacts m) (s : Nat) (hs : s < 512) (W : World) (h1 : W.cell? ⟨gm, 0, none⟩ = some (.slice A m.length c)) (hg : GridS W A m) :
    Calls Tryz.prog 130 #[.int .u16 (s : Int), .pointer (some ⟨gm, 0, none⟩)] W (Scalar (.int .u16 ((stepS m s : Nat) : Int)) W) := by
  have HG := Lib.hid hg
  have HF := Lib.hid hf
  have hle := hf.le
  have HH := Lib.hid (fun v (hv : v < 16) w => impl_hasV s hs v hv w)
  have HV := Lib.hid (fun v (hv : v < 16) w => impl_onlyVertex v hv w)
  have HEL : Hid (∀ i j, endS m s i j < 512) := Lib.hid fun i j => endS_le m s i j hle
  have HE0 := Lib.hid (endS_zero m s)
  have HER := Lib.hid (endS_row m s)
  have HEA := Lib.hid (endS_all m s)
  have HEN : Hid (∀ i j, (s.testBit i && arcB m i j) = false → endS m s i (j + 1) = endS m s i j) := Lib.hid fun i j h => endS_not m h
  have HEP : Hid (∀ i j, j < m.length → (s.testBit i && arcB m i j) = true → endS m s i (j + 1) = endS m s i j ||| 2 ^ j) := Lib.hid fun i j hj h => endS_put m hj h
  clear hg hf
  go_enter Tryz.func130, Tryz.ntmps130
  go_wp2
  go_loopw [4, 11] (fun ev iv wr => ∃ i : Nat, i ≤ m.length ∧ iv = .int .i64 (i : Int) ∧ ev = .int .u16 ((endS m s i 0 : Nat) : Int) ∧ Below W.heap.size W wr) (fun _ iv _ => m.length - (intOf iv).toNat)
  case atStart => exact ⟨0, Nat.zero_le _, rfl, by rw [HE0.out]; rfl, Below.refl _ _⟩
  case round =>
    obtain ⟨i, hi, rfl, rfl, hbl⟩ := hrel
    by_cases hil : i < m.length
    · obtain ⟨b, off, A', c', hA, k0, hrow, hlt0⟩ := HG.out.row hil
      rw [HF.out.row i hil] at k0
      obtain ⟨b2, off2, rfl, hat, hlt2⟩ := hrow (by rw [HF.out.row i hil]; omega)
      have HAT : Hid (∀ t w', t < m.length → Below W.heap.size W w' → w'.cell? ⟨b2, off2 + t, none⟩ = some (.int .i64 (cellOf m i t))) := Lib.hid fun t w' htt hb => (hb.cell (p := ⟨b2, off2 + t, none⟩) hlt2).trans (hat t (by rw [HF.out.row i hil]; exact htt))
      have k1 := (hbl.cell (p := ⟨b, off + i, none⟩) hlt0).trans k0
      subst hA
      have HB := Lib.hid hbl
      clear hbl hat k0
      obtain ⟨W1, rfl⟩ : ∃ W1 : World, W1 = wr := ⟨_, rfl⟩
      go_wp2
      go_loopw [4, 18] (fun ev jv wr => ∃ j : Nat, j ≤ m.length ∧ jv = .int .i64 (j : Int) ∧ ev = .int .u16 ((endS m s i j : Nat) : Int) ∧ Below W.heap.size W wr) (fun _ jv _ => m.length - (intOf jv).toNat)
      case atStart => exact ⟨0, Nat.zero_le _, rfl, rfl, HB.out⟩
      case round =>
        clear HB
        obtain ⟨j, hj, rfl, rfl, hbl⟩ := hrel
        by_cases hjl : j < m.length
        · have k2 := HAT.out j _ hjl hbl
          have HC1 := Lib.hid (HH.out i (by omega))
          have HC2 := Lib.hid (HV.out j (by omega))
          have hel := HEL.out i j
          have hpw : 2 ^ j < 512 := Nat.lt_of_lt_of_le (Nat.pow_lt_pow_of_lt (by decide) (show j < 9 by omega)) (Nat.le_refl _)
          have HOR := Lib.hid (or_u16U (endS m s i j) (2 ^ j) (by omega) (by omega))
          have HEN1 := Lib.hid (HEN.out i j)
          have HEP1 := Lib.hid (HEP.out i j hjl)
          have HARC : Hid (arcB m i j = decide (0 < cellOf m i j)) := Lib.hid rfl
          generalize 2 ^ j = P at *
          generalize s.testBit i = t at *
          generalize arcB m i j = y at *
          generalize cellOf m i j = x at *
          cases t with
          | false =>
            have HN := Lib.hid (HEN1.out rfl)
            go_wp2_with fail
            refine (HC1.out _).mono ?_
            rintro e w2 ⟨rfl, rfl⟩
            go_wp2
            go_roundw
            case rel => exact ⟨j + 1, by omega, by go_num, by rw [HN.out], hbl⟩
            case measure => simp [intOf]; omega
          | true =>
            by_cases hx : 0 < x
            · have HN := Lib.hid (HEP1.out (by rw [HARC.out, decide_eq_true hx]; rfl))
              go_wp2_with fail
              refine (HC1.out _).mono ?_
              rintro e w2 ⟨rfl, rfl⟩
              go_wp2_with fail
              refine (HC2.out _).mono ?_
              rintro e w3 ⟨rfl, rfl⟩
              go_wp2
              go_roundw
              case rel => exact ⟨j + 1, by omega, by go_num, by rw [HN.out, HOR.out], hbl⟩
              case measure => simp [intOf]; omega
            · have HN := Lib.hid (HEN1.out (by rw [HARC.out, decide_eq_false hx]; rfl))
              go_wp2_with fail
              refine (HC1.out _).mono ?_
              rintro e w2 ⟨rfl, rfl⟩
              go_wp2
              go_roundw
              case rel => exact ⟨j + 1, by omega, by go_num, by rw [HN.out], hbl⟩
              case measure => simp [intOf]; omega
        · obtain rfl : j = m.length := by omega
          have HN := Lib.hid (HER.out i)
          go_wp2
          go_roundw
          case rel => exact ⟨i + 1, by omega, by go_num, by rw [← HN.out], hbl⟩
          case measure => simp [intOf]; omega
    · obtain rfl : i = m.length := by omega
      rw [HEA.out]
      go_wp2
      go_ret
      exact ⟨rfl, hbl⟩

/-- The function value v steps along the arcs of m, in every world behind W0. -/
def StepV (W0 : World) (v : Value) (m : List (List Int)) : Prop := ∃ lb : Array Value, v = .func (.func 130) #[] lb ∧
  ∀ s W, s < 512 → Below W0.heap.size W0 W → Calls Tryz.prog 130 (#[.int .u16 (s : Int)] ++ lb) W (Scalar (.int .u16 ((stepS m s : Nat) : Int)) W)
theorem StepV.below {W0 W1 : World} {v : Value} {m : List (List Int)} (h : StepV W0 v m) (hb : Below W0.heap.size W0 W1) : StepV W1 v m := by
  obtain ⟨lb, hv, hs⟩ := h
  exact ⟨lb, hv, fun s W h1 h2 => hs s W h1 (hb.trans (h2.mono hb.size))⟩

set_option maxRecDepth 100000 in
theorem impl_stepOf (A : Option Addr) (c : Nat) (m : List (List Int)) (hf : MatFacts m) (w : World) (hg : GridS w A m) :
    Calls Tryz.prog 116 #[.slice A m.length c] w fun e w' => ∃ v, e = .returned v ∧ StepV w' v m ∧ Below w.heap.size w w' := by
  have hb0 : Below w.heap.size w (w.alloc (.cells #[.slice A m.length c] 30)) := (Below.refl _ _).alloc (Nat.le_refl _) _
  have HB0 := Lib.hid hb0
  have HS : Hid (StepV (w.alloc (.cells #[.slice A m.length c] 30)) (.func (.func 130) #[] #[.pointer (some ⟨w.heap.size, 0, none⟩)]) m) := Lib.hid ⟨_, rfl, fun s W hs hb => by
    have hs1 : w.heap.size < (w.alloc (.cells #[.slice A m.length c] 30)).heap.size := by rw [World.size_alloc]; omega
    exact step_at w.heap.size A c m hf s hs W ((hb.cell (p := ⟨w.heap.size, 0, none⟩) hs1).trans (box_new w _ _)) ((hg.below hb0).below hb)⟩
  clear hg hf hb0
  go_enter Tryz.func116, Tryz.ntmps116
  go_wp2
  go_ret
  exact ⟨_, rfl, HS.out, HB0.out⟩

set_option maxRecDepth 100000 in
set_option maxHeartbeats 1600000 in
theorem impl_reachedFrom (m : List (List Int)) (hle : m.length ≤ 9) (v : Nat) (hv : v < m.length) (w : World) (F : Value) (hF : StepV w F m) :
    Calls Tryz.prog 117 #[.int .i64 (v : Int), F] w (Scalar (.int .u16 ((rchS m v : Nat) : Int)) w) := by
  obtain ⟨lb, rfl, hs⟩ := hF
  have eg := entersStep
  have HS := Lib.hid hs
  have HV := Lib.hid (impl_onlyVertex v (by omega) w)
  have hpw : 2 ^ v < 512 := Nat.lt_of_lt_of_le (Nat.pow_lt_pow_of_lt (by decide) (show v < 9 by omega)) (Nat.le_refl _)
  have HR0 := Lib.hid (Rch.start m hv)
  have HRN : Hid (∀ R, Rch m v R → Rch m v (R ||| stepS m R)) := Lib.hid fun R h => h.next hv
  have HRD : Hid (∀ R, Rch m v R → R ||| stepS m R = R → R = rchS m v) := Lib.hid fun R h => h.done hv
  have HRL : Hid (∀ R, Rch m v R → R < 512) := Lib.hid fun R h => Nat.lt_of_lt_of_le h.lt (Nat.pow_le_pow_right (n := 2) (by decide) hle : 2 ^ m.length ≤ 2 ^ 9)
  have HSL : Hid (∀ R, stepS m R < 512) := Lib.hid fun R => stepS_le m R hle
  clear hs
  go_enter Tryz.func117, Tryz.ntmps117
  go_wp2_with fail
  refine HV.out.mono ?_
  rintro e w1 ⟨rfl, rfl⟩
  have HC0 := Lib.hid (HS.out (2 ^ v) _ hpw (Below.refl _ _))
  go_wp2_with fail
  refine HC0.out.mono ?_
  rintro e w2 ⟨rfl, hb2⟩
  have HB2 := Lib.hid hb2
  clear hb2 HC0
  go_wp2
  go_loopw [5] (fun rv wr => ∃ R : Nat, Hid (Rch m v R) ∧ rv = .int .u16 (R : Int) ∧ Below w1.heap.size w1 wr) (fun rv _ => 65536 - (intOf rv).toNat)
  case atStart => exact ⟨_, HR0, rfl, HB2.out⟩
  case round =>
    clear HB2 HR0
    obtain ⟨R, hR, rfl, hbl⟩ := hrel
    have hrl := HRL.out R hR.out
    have hsl := HSL.out R
    have HC := Lib.hid (HS.out R _ hrl hbl)
    have HN := Lib.hid (HRN.out R hR.out)
    have HNL := HRL.out _ HN.out
    have HD := Lib.hid (HRD.out R hR.out)
    have HOR := Lib.hid (or_u16U R (stepS m R) (by omega) (by omega))
    have hge := or_le R (stepS m R)
    have HB := Lib.hid hbl
    clear hbl
    generalize stepS m R = S at *
    generalize hX : R ||| S = X at *
    clear hX
    by_cases he : X = R
    · have HRES := Lib.hid (HD.out he)
      subst he
      have hbe : ((X : Int) == (X : Int)) = true := beq_self_eq_true _
      go_wp2_with fail
      refine HC.out.mono ?_
      rintro e w3 ⟨rfl, hb3⟩
      have HB3 := Lib.hid (below_behind HB.out hb3)
      clear hb3
      have hor := HOR.out
      go_wp2
      go_ret
      exact ⟨by rw [HRES.out]; rfl, HB3.out⟩
    · have hbe : ((X : Int) == (R : Int)) = false := by rw [beq_eq_false_iff_ne]; omega
      have hbe2 : (X == R) = false := by rw [beq_eq_false_iff_ne]; omega
      go_wp2_with fail
      refine HC.out.mono ?_
      rintro e w3 ⟨rfl, hb3⟩
      have HB3 := Lib.hid (below_behind HB.out hb3)
      clear hb3
      have hor := HOR.out
      go_wp2
      go_roundw
      case rel => exact ⟨X, HN, rfl, HB3.out⟩
      case measure => simp [intOf]; omega
end Go.Proofs.YtalclebehbdliaaGreat
namespace Go.Proofs.YtalclebehbdliaaGreat
open Go Go.RowKit

/-- A table of marks. -/
def markM (A : Nat → Nat → Bool) (n : Nat) : List (List Int) := tabOf n n fun i j => bI (A i j)
theorem markM_length (A : Nat → Nat → Bool) (n : Nat) : (markM A n).length = n := tabOf_length _ _ _
theorem markM_row (A : Nat → Nat → Bool) {n i : Nat} (hi : i < n) : ((markM A n).getD i []).length = n := by
  unfold markM
  rw [tabOf_row hi]; simp
theorem markM_cell (A : Nat → Nat → Bool) {n i j : Nat} (hi : i < n) (hj : j < n) : cellOf (markM A n) i j = bI (A i j) := tabOf_cell hi hj
/-- The step so far: all marks ahead of i and j, and t vertices there. -/
def stepFV (A : Nat → Nat → Bool) (m : List (List Int)) (i j t : Nat) : Nat → Nat → Int := fun a b => if a < i ∨ (a = i ∧ b < j) then bI (stepK A m m.length a b) else if a = i ∧ b = j then bI (stepK A m t i j) else 0
theorem stepF_zero (A : Nat → Nat → Bool) (m : List (List Int)) (n : Nat) : tabOf n n (stepFV A m 0 0 0) = tabOf n n fun _ _ => 0 := tabOf_congr fun i j _ _ => by
  unfold stepFV
  rw [if_neg (by omega)]
  split <;> rfl
theorem stepF_at (A : Nat → Nat → Bool) (m : List (List Int)) (i j t : Nat) : stepFV A m i j t i j = bI (stepK A m t i j) := by
  unfold stepFV
  rw [if_neg (by omega), if_pos ⟨rfl, rfl⟩]
theorem stepF_term (A : Nat → Nat → Bool) (m : List (List Int)) (n i j t : Nat) (hi : i < n) : (tabOf n n (stepFV A m i j t)).set i (((tabOf n n (stepFV A m i j t)).getD i []).set j (bI (stepK A m t i j || (A i t && arcB m t j)))) = tabOf n n (stepFV A m i j (t + 1)) := by
  rw [tabOf_set _ _ hi]
  refine tabOf_congr fun a b _ _ => ?_
  by_cases e : a = i ∧ b = j
  · obtain ⟨rfl, rfl⟩ := e
    rw [if_pos ⟨rfl, rfl⟩, stepF_at, stepB_next]
  · rw [if_neg e]
    unfold stepFV
    rw [if_neg e, if_neg e]
theorem stepF_next (A : Nat → Nat → Bool) (m : List (List Int)) (n i j : Nat) : tabOf n n (stepFV A m i j m.length) = tabOf n n (stepFV A m i (j + 1) 0) := tabOf_congr fun a b _ _ => by
  unfold stepFV
  by_cases h1 : a < i ∨ (a = i ∧ b < j)
  · rw [if_pos h1, if_pos (by omega)]
  · rw [if_neg h1]
    by_cases h2 : a = i ∧ b = j
    · obtain ⟨rfl, rfl⟩ := h2
      rw [if_pos ⟨rfl, rfl⟩, if_pos (by omega)]
    · rw [if_neg h2, if_neg (by omega)]
      split <;> rfl
theorem stepF_row (A : Nat → Nat → Bool) (m : List (List Int)) (n i : Nat) : tabOf n n (stepFV A m i n 0) = tabOf n n (stepFV A m (i + 1) 0 0) := tabOf_congr fun a b _ hb => by
  unfold stepFV
  by_cases h1 : a < i ∨ (a = i ∧ b < n)
  · rw [if_pos h1, if_pos (by omega)]
  · rw [if_neg h1, if_neg (by omega), if_neg (by omega)]
    split <;> rfl
theorem stepF_all (A : Nat → Nat → Bool) (m : List (List Int)) : tabOf m.length m.length (stepFV A m m.length 0 0) = markM (stepK A m m.length) m.length := tabOf_congr fun a b ha _ => by
  unfold stepFV
  rw [if_pos (Or.inl ha)]

theorem wk_step (m : List (List Int)) (n : Nat) : markM (stepK (wkB m n) m m.length) m.length = markM (wkB m (n + 1)) m.length := rfl
theorem wk_one (m : List (List Int)) : oneM m.length = markM (wkB m 0) m.length := (wkM_zero m).symm

end Go.Proofs.YtalclebehbdliaaGreat
namespace Go.Proofs.YtalclebehbdliaaGreat
open Go Go.RowKit

theorem perRow_le {m : List (List Int)} {n B : Nat} (hn0 : 0 < n) (hn : n ≤ B) : ∀ {i p : Nat}, p ≤ B → perRow m n i p ≤ B
  | 0, _, hp => hp
  | i + 1, p, hp => by
    rw [perRow]
    split
    · exact Nat.le_trans (Nat.gcd_le_right _ hn0) hn
    · exact perRow_le hn0 hn hp
theorem perAcc_le {m : List (List Int)} : ∀ (n : Nat), perAcc m n ≤ n
  | 0 => Nat.le_refl _
  | n + 1 => perRow_le (by omega) (Nat.le_refl _) (Nat.le_trans (perAcc_le n) (by omega))

end Go.Proofs.YtalclebehbdliaaGreat
namespace Go.Proofs.YtalclebehbdliaaGreat
open Go Go.RowKit

theorem perS_irr {m : List (List Int)} (h : irrM m = true) : perS m = ((perM m : Nat) : Int) := by
  unfold perS
  rw [if_pos (irrM_iff.1 h).1]

/-- All marks of the rows ahead of i, and of row i ahead of j. -/
def allTo (m : List (List Int)) (k i j : Nat) : Bool := ((List.range i).all fun a => (List.range m.length).all fun b => wkB m k a b) && (List.range j).all fun b => wkB m k i b
theorem allTo_zero (m : List (List Int)) (k : Nat) : allTo m k 0 0 = true := rfl
theorem allTo_next (m : List (List Int)) (k i j : Nat) : allTo m k i (j + 1) = (allTo m k i j && wkB m k i j) := by
  unfold allTo
  rw [List.range_succ, List.all_append, Bool.and_assoc]
  simp
theorem allTo_row (m : List (List Int)) (k i : Nat) : allTo m k i m.length = allTo m k (i + 1) 0 := by
  unfold allTo
  rw [List.range_succ (n := i), List.all_append]
  simp
theorem allTo_end (m : List (List Int)) (k : Nat) : allTo m k m.length 0 = fullB m k := by
  unfold allTo fullB
  simp

end Go.Proofs.YtalclebehbdliaaGreat
namespace Go.Proofs.YtalclebehbdliaaGreat
open Go Go.RowKit

/-- The least number of arcs from vertex 0. -/
theorem distN_is {m : List (List Int)} (h0 : 0 < m.length) (hJ : Joined m.length (arcP m)) {j : Nat} (hj : j < m.length) : Wk (arcP m) (distN m j) 0 j ∧ distN m j < m.length ∧ ∀ l, Wk (arcP m) l 0 j → distN m j ≤ l := by
  obtain ⟨n, hn⟩ := hJ.walk h0 hj
  obtain ⟨d, hd, hmin⟩ := least_nat (P := fun n => Wk (arcP m) n 0 j) ⟨n, hn⟩
  have hlt : d < m.length := by
    obtain ⟨k, hk, _, hw⟩ := Wk.short (arcP_on m) h0 hd
    by_cases h : k < d
    · exact absurd hw (hmin k h)
    · omega
  have e : distN m j = d := by
    unfold distN
    rw [find_first hlt ((wkB_iff h0 hj).2 hd) fun k hk => by
      cases hc : wkB m k 0 j with
      | false => rfl
      | true => exact absurd ((wkB_iff h0 hj).1 hc) (hmin k hk)]
    rfl
  rw [e]
  exact ⟨hd, hlt, fun l hl => by
    by_cases h : l < d
    · exact absurd hl (hmin l h)
    · omega⟩
/-- All walks between two vertices are equally long, up to the period. -/
theorem same_mod {m : List (List Int)} (hJ : Joined m.length (arcP m)) {i j a b : Nat} (hi : i < m.length) (hj : j < m.length) (ha : Wk (arcP m) a i j) (hb : Wk (arcP m) b i j) : a % perM m = b % perM m := by
  obtain ⟨e, he⟩ := hJ.walk hj hi
  obtain ⟨x, hx⟩ := perM_closed (ha.add he)
  obtain ⟨y, hy⟩ := perM_closed (hb.add he)
  have h1 : a + perM m * y = b + perM m * x := by omega
  have h2 := congrArg (· % perM m) h1
  simp only [Nat.add_mul_mod_self_left] at h2
  exact h2
theorem turn_arc {m : List (List Int)} (h0 : 0 < m.length) (hJ : Joined m.length (arcP m)) {i j : Nat} (hi : i < m.length) (hj : j < m.length) (h : arcB m i j = true) : (turnN m i + 1) % perM m = turnN m j := by
  unfold turnN
  rw [Nat.mod_add_mod]
  exact same_mod hJ h0 hj ((distN_is h0 hJ hi).1.add (Wk.one ⟨hi, hj, h⟩)) (distN_is h0 hJ hj).1
theorem turn_zero {m : List (List Int)} (h0 : 0 < m.length) (hJ : Joined m.length (arcP m)) : turnN m 0 = 0 := by
  have h := (distN_is h0 hJ h0).2.2 0 rfl
  unfold turnN
  rw [show distN m 0 = 0 by omega, Nat.zero_mod]

/-- Each number is -1, or the turn of its vertex. -/
def TurnOk (m : List (List Int)) (ys : List Int) : Prop := ys.length = m.length ∧ ∀ j, j < m.length → ys.getD j 0 = -1 ∨ ys.getD j 0 = ((turnN m j : Nat) : Int)
/-- What is reached by n arcs from vertex 0 has its turn. -/
def TurnTo (m : List (List Int)) (n : Nat) (ys : List Int) : Prop := ∀ j, j < m.length → ∀ l, l ≤ n → Wk (arcP m) l 0 j → 0 ≤ ys.getD j 0
/-- And what is reached by one arc more, of those ahead of i and j. -/
def TurnBy (m : List (List Int)) (n i j : Nat) (ys : List Int) : Prop := TurnTo m n ys ∧ ∀ a b, a < m.length → b < m.length → (a < i ∨ (a = i ∧ b < j)) → arcB m a b = true → (∃ l, l ≤ n ∧ Wk (arcP m) l 0 a) → 0 ≤ ys.getD b 0
theorem TurnBy.start {m : List (List Int)} {n : Nat} {ys : List Int} (h : TurnTo m n ys) : TurnBy m n 0 0 ys := ⟨h, fun a b _ _ h => by omega⟩
theorem TurnBy.row {m : List (List Int)} {n i : Nat} {ys : List Int} (h : TurnBy m n i m.length ys) : TurnBy m n (i + 1) 0 ys := ⟨h.1, fun a b ha hb h2 => h.2 a b ha hb (by omega)⟩
theorem TurnBy.ends {m : List (List Int)} {n : Nat} {ys : List Int} (h : TurnBy m n m.length 0 ys) : TurnTo m (n + 1) ys := by
  intro j hj l hl hw
  by_cases e : l = n + 1
  · subst e
    obtain ⟨k, h1, h2⟩ := hw
    exact h.2 k j h2.1 hj (Or.inl h2.1) h2.2.2 ⟨n, Nat.le_refl _, h1⟩
  · exact h.1 j hj l (by omega) hw
theorem getD_set_le {ys : List Int} {j : Nat} {x : Int} (hx : 0 ≤ x) (hj : j < ys.length) {b : Nat} (h : 0 ≤ ys.getD b 0) : 0 ≤ (ys.set j x).getD b 0 := by
  simp only [List.getD_eq_getElem?_getD, List.getElem?_set] at h ⊢
  by_cases e : j = b
  · subst e
    rw [if_pos rfl, if_pos hj]; exact hx
  · rw [if_neg e]; exact h
theorem TurnBy.put {m : List (List Int)} {n i j : Nat} {ys : List Int} {x : Int} (h : TurnBy m n i j ys) (hx : 0 ≤ x) (hj : j < ys.length) : TurnBy m n i (j + 1) (ys.set j x) := by
  refine ⟨fun b hb l hl hw => getD_set_le hx hj (h.1 b hb l hl hw), fun a b ha hb h2 h3 h4 => ?_⟩
  by_cases e : b = j
  · subst e
    simp only [List.getD_eq_getElem?_getD, List.getElem?_set, if_true, hj, Option.getD_some]
    exact hx
  · exact getD_set_le hx hj (h.2 a b ha hb (by omega) h3 h4)
/-- Nothing is to be done for i and j. -/
theorem TurnBy.skip {m : List (List Int)} {n i j : Nat} {ys : List Int} (h : TurnBy m n i j ys) (hi : i < m.length) (hd : ¬ (0 ≤ ys.getD i 0 ∧ ys.getD j 0 < 0 ∧ arcB m i j = true)) : TurnBy m n i (j + 1) ys := by
  refine ⟨h.1, fun a b ha hb h2 h3 h4 => ?_⟩
  by_cases e : a = i ∧ b = j
  · obtain ⟨rfl, rfl⟩ := e
    obtain ⟨l, hl, hw⟩ := h4
    have h5 := h.1 a hi l hl hw
    by_cases h6 : 0 ≤ ys.getD b 0
    · exact h6
    · exact absurd ⟨h5, by omega, h3⟩ hd
  · exact h.2 a b ha hb (by omega) h3 h4
theorem TurnOk.put {m : List (List Int)} {ys : List Int} (h : TurnOk m ys) {j : Nat} (hj : j < m.length) : TurnOk m (ys.set j ((turnN m j : Nat) : Int)) := by
  refine ⟨by rw [List.length_set]; exact h.1, fun b hb => ?_⟩
  by_cases e : b = j
  · subst e
    right
    have := h.1
    simp [List.getD_eq_getElem?_getD, show b < ys.length by omega]
  · have := h.2 b hb
    simpa [List.getD_eq_getElem?_getD, List.getElem?_set, Ne.symm e] using this
theorem turns_done {m : List (List Int)} {ys : List Int} (hi : irrM m = true) (h : TurnOk m ys) (ht : TurnTo m m.length ys) : ys = turnsM m := by
  obtain ⟨hm, hJ⟩ := irrM_iff.1 hi
  have h0 := (isMat_facts hm).pos
  unfold turnsM
  rw [if_pos hi]
  refine List.ext_getElem (by simp [h.1]) fun j h1 h2 => ?_
  have hj : j < m.length := by rw [← h.1]; exact h1
  have hd := distN_is h0 hJ hj
  have hp := ht j hj _ (Nat.le_of_lt hd.2.1) hd.1
  have hc := h.2 j hj
  rw [List.getD_eq_getElem?_getD, List.getElem?_eq_getElem h1, Option.getD_some] at hp hc
  rw [List.getElem_map, List.getElem_range]
  rcases hc with hc | hc
  · omega
  · exact hc
theorem turns_start {m : List (List Int)} (hi : irrM m = true) : TurnOk m ((List.replicate m.length (-1 : Int)).set 0 0) ∧ TurnTo m 0 ((List.replicate m.length (-1 : Int)).set 0 0) := by
  obtain ⟨hm, hJ⟩ := irrM_iff.1 hi
  have h0 := (isMat_facts hm).pos
  constructor
  · have h : TurnOk m (List.replicate m.length (-1 : Int)) := ⟨by simp, fun j hj => Or.inl (by simp [List.getD_eq_getElem?_getD, hj])⟩
    have := h.put h0
    rw [turn_zero h0 hJ] at this
    exact this
  · intro j hj l hl hw
    obtain rfl : l = 0 := by omega
    obtain rfl : 0 = j := hw
    simp only [List.getD_eq_getElem?_getD, List.getElem?_set, List.length_replicate, if_true]
    rw [if_pos (show 0 < m.length from h0)]
    exact Int.le_refl 0

end Go.Proofs.YtalclebehbdliaaGreat
namespace Go.Proofs.YtalclebehbdliaaGreat
open Go Go.RowKit

/-- The greatest common divisor of p and the lengths up to k of closed walks at v. -/
def perCol (m : List (List Int)) (v : Nat) : Nat → Nat → Nat
  | 0, p => p
  | k + 1, p => if wkB m (k + 1) v v then Nat.gcd (perCol m v k p) (k + 1) else perCol m v k p
def perVs (m : List (List Int)) : Nat → Nat
  | 0 => 0
  | v + 1 => perCol m v (2 * m.length) (perVs m v)
theorem perCol_dvd {m : List (List Int)} {v g : Nat} : ∀ {k p : Nat}, g ∣ perCol m v k p ↔ g ∣ p ∧ ∀ n, 0 < n → n ≤ k → wkB m n v v = true → g ∣ n
  | 0, p => ⟨fun h => ⟨h, fun n h1 h2 => by omega⟩, fun h => h.1⟩
  | k + 1, p => by
    rw [perCol]
    have ih := @perCol_dvd m v g k p
    constructor
    · intro h
      split at h
      · next hw =>
        obtain ⟨h1, h2⟩ := ih.1 (Nat.dvd_trans h (Nat.gcd_dvd_left _ _))
        refine ⟨h1, fun n hn0 hn hwn => ?_⟩
        by_cases e : n = k + 1
        · subst e; exact Nat.dvd_trans h (Nat.gcd_dvd_right _ _)
        · exact h2 n hn0 (by omega) hwn
      · next hw =>
        obtain ⟨h1, h2⟩ := ih.1 h
        refine ⟨h1, fun n hn0 hn hwn => ?_⟩
        by_cases e : n = k + 1
        · subst e; exact absurd hwn hw
        · exact h2 n hn0 (by omega) hwn
    · rintro ⟨h1, h2⟩
      have h3 := ih.2 ⟨h1, fun n hn0 hn => h2 n hn0 (by omega)⟩
      split
      · next hw => exact Nat.dvd_gcd h3 (h2 (k + 1) (by omega) (Nat.le_refl _) hw)
      · exact h3
theorem perVs_dvd {m : List (List Int)} {g : Nat} : ∀ {i : Nat}, g ∣ perVs m i ↔ ∀ v n, v < i → 0 < n → n ≤ 2 * m.length → wkB m n v v = true → g ∣ n
  | 0 => ⟨fun _ v n h => absurd h (Nat.not_lt_zero _), fun _ => Nat.dvd_zero _⟩
  | i + 1 => by
    rw [perVs, perCol_dvd, @perVs_dvd m g i]
    constructor
    · rintro ⟨h1, h2⟩ v n hv hn0 hn hw
      by_cases e : v = i
      · subst e; exact h2 n hn0 hn hw
      · exact h1 v n (by omega) hn0 hn hw
    · intro h
      exact ⟨fun v n hv => h v n (by omega), fun n => h i n (by omega)⟩
theorem perVs_all (m : List (List Int)) : perVs m m.length = perM m := by
  unfold perM
  refine Nat.dvd_antisymm (perAcc_dvd.2 fun k i hk0 hk hi hw => ?_) (perVs_dvd.2 fun v n hv hn0 hn hw => ?_)
  · exact perVs_dvd.1 (Nat.dvd_refl _) i k hi hk0 hk hw
  · exact perAcc_dvd.1 (Nat.dvd_refl _) n v hn0 hn hv hw
theorem perCol_le {m : List (List Int)} {v B : Nat} : ∀ {k p : Nat}, p ≤ B → k ≤ B → perCol m v k p ≤ B
  | 0, p, hp, _ => hp
  | k + 1, p, hp, hk => by
    rw [perCol]
    split
    · exact Nat.le_trans (Nat.gcd_le_right _ (by omega)) hk
    · exact perCol_le hp (by omega)
theorem perVs_le {m : List (List Int)} : ∀ (i : Nat), perVs m i ≤ 2 * m.length
  | 0 => Nat.zero_le _
  | i + 1 => perCol_le (perVs_le i) (Nat.le_refl _)

/-! ### Vertices that lead to all -/

/-- Walks of n arcs lead from v to all vertices. -/
def fullRow (m : List (List Int)) (v n : Nat) : Bool := (List.range m.length).all fun j => wkB m n v j
theorem fullRow_iff {m : List (List Int)} {v n : Nat} (hv : v < m.length) : fullRow m v n = true ↔ ∀ j, j < m.length → Wk (arcP m) n v j := by
  unfold fullRow
  rw [List.all_eq_true]
  exact ⟨fun h j hj => (wkB_iff hv hj).1 (h j (List.mem_range.2 hj)), fun h j hj => (wkB_iff hv (List.mem_range.1 hj)).2 (h j (List.mem_range.1 hj))⟩
theorem wkS_full {m : List (List Int)} {v n : Nat} : wkS m n v = 2 ^ m.length - 1 ↔ fullRow m v n = true := by
  unfold fullRow
  rw [List.all_eq_true]
  constructor
  · intro h j hj
    have hj' := List.mem_range.1 hj
    rw [← wkS_bit m n v hj', h, Nat.testBit_two_pow_sub_one, decide_eq_true hj']
  · intro h
    rw [setN_all]
    exact setN_congr fun j hj => h j (List.mem_range.2 hj)
theorem full_more {m : List (List Int)} (hJ : Joined m.length (arcP m)) {v n : Nat} (hv : v < m.length) (h : fullRow m v n = true) : ∀ d, fullRow m v (n + d) = true
  | 0 => h
  | d + 1 => by
    have ih := (fullRow_iff hv).1 (full_more hJ hv h d)
    refine (fullRow_iff hv).2 fun j hj => ?_
    obtain ⟨t, ht, hw⟩ := hJ j j hj hj
    obtain ⟨t, rfl⟩ : ∃ s, t = s + 1 := ⟨t - 1, by omega⟩
    obtain ⟨k, _, h2⟩ := hw
    exact ⟨k, ih k h2.1, h2⟩
/-- The first number of arcs by which v leads to all vertices. -/
structure FirstN (m : List (List Int)) (v n : Nat) : Prop where
  pos : 0 < n
  full : fullRow m v n = true
  first : ∀ t, 0 < t → t < n → fullRow m v t = false
theorem full_exists {m : List (List Int)} (h : primM m = true) : ∃ bd, 0 < bd ∧ bd ≤ 128 ∧ ∀ v, v < m.length → fullRow m v bd = true := by
  obtain ⟨b, hb0, hb, hf⟩ := primM_full h
  have hi : irrM m = true := by
    unfold primM at h
    rw [Bool.and_eq_true] at h
    exact h.1
  have hl := (isMat_facts (irrM_iff.1 hi).1).le
  have hsq : m.length * m.length ≤ 81 := Nat.mul_le_mul hl hl
  exact ⟨b, hb0, by omega, fun v hv => (fullRow_iff hv).2 fun j hj => hf v j hv hj⟩
/-- The most of the first numbers of the vertices below v. -/
structure MostN (m : List (List Int)) (v L : Nat) : Prop where
  all : ∀ u, u < v → ∃ n, n ≤ L ∧ FirstN m u n
  one : 0 < v → ∃ u, u < v ∧ FirstN m u L
  zero : v = 0 → L = 0
theorem MostN.start (m : List (List Int)) : MostN m 0 0 := ⟨fun u h => by omega, fun h => by omega, fun _ => rfl⟩
theorem MostN.next {m : List (List Int)} {v L n : Nat} (h : MostN m v L) (hn : FirstN m v n) : MostN m (v + 1) (max L n) := by
  refine ⟨fun u hu => ?_, fun _ => ?_, fun h => by omega⟩
  · by_cases e : u = v
    · subst e; exact ⟨n, by omega, hn⟩
    · obtain ⟨k, hk, hf⟩ := h.all u (by omega)
      exact ⟨k, by omega, hf⟩
  · by_cases hle : L ≤ n
    · exact ⟨v, by omega, by rw [Nat.max_eq_right hle]; exact hn⟩
    · by_cases h0 : v = 0
      · have := h.zero h0; omega
      · obtain ⟨u, hu, hf⟩ := h.one (by omega)
        exact ⟨u, by omega, by rw [Nat.max_eq_left (by omega)]; exact hf⟩
theorem MostN.is {m : List (List Int)} (hp : primM m = true) {L : Nat} (h : MostN m m.length L) : stepN m = L := by
  have hi : irrM m = true := by
    unfold primM at hp
    rw [Bool.and_eq_true] at hp
    exact hp.1
  obtain ⟨hm, hJ⟩ := irrM_iff.1 hi
  obtain ⟨u, hu, hf⟩ := h.one (isMat_facts hm).pos
  refine stepN_is hp hf.pos (fullB_iff.2 fun i j hi hj => ?_) fun k hk0 hk => ?_
  · obtain ⟨n, hn, hfn⟩ := h.all i hi
    have := full_more hJ hi hfn.full (L - n)
    rw [show n + (L - n) = L by omega] at this
    exact (fullRow_iff hi).1 this j hj
  · cases e : fullB m k with
    | false => rfl
    | true =>
      have h1 := (fullRow_iff hu).2 fun j hj => fullB_iff.1 e u j hu hj
      rw [hf.first k hk0 hk] at h1
      cases h1

/-! ### Turns -/

/-- What is reached from vertex 0 by less than n arcs, or by n arcs and lies ahead of j, has its turn. -/
def TurnsTo (m : List (List Int)) (n j : Nat) (ys : List Int) : Prop := ys.length = m.length ∧ ∀ b, b < m.length → ∀ l, (l < n ∨ (l = n ∧ b < j)) → wkB m l 0 b = true → ys.getD b 0 = ((turnN m b : Nat) : Int)
theorem TurnsTo.start (m : List (List Int)) {ys : List Int} (h : ys.length = m.length) : TurnsTo m 0 0 ys := ⟨h, fun b _ l hl => by omega⟩
theorem TurnsTo.row {m : List (List Int)} {n : Nat} {ys : List Int} (h : TurnsTo m n m.length ys) : TurnsTo m (n + 1) 0 ys := ⟨h.1, fun b hb l hl => h.2 b hb l (by omega)⟩
theorem TurnsTo.skip {m : List (List Int)} {n j : Nat} {ys : List Int} (h : TurnsTo m n j ys) (hw : wkB m n 0 j = false) : TurnsTo m n (j + 1) ys := by
  refine ⟨h.1, fun b hb l hl hwb => ?_⟩
  by_cases e : l = n ∧ b = j
  · obtain ⟨rfl, rfl⟩ := e
    rw [hw] at hwb; cases hwb
  · exact h.2 b hb l (by omega) hwb
theorem TurnsTo.put {m : List (List Int)} {n j : Nat} {ys : List Int} (h : TurnsTo m n j ys) (hj : j < m.length) : TurnsTo m n (j + 1) (ys.set j ((turnN m j : Nat) : Int)) := by
  refine ⟨by rw [List.length_set]; exact h.1, fun b hb l hl hwb => ?_⟩
  by_cases e : b = j
  · subst e
    have := h.1
    simp [List.getD_eq_getElem?_getD, show b < ys.length by omega]
  · have h1 := h.2 b hb l (by omega) hwb
    simpa [List.getD_eq_getElem?_getD, List.getElem?_set, Ne.symm e] using h1
theorem turn_walk {m : List (List Int)} (h0 : 0 < m.length) (hJ : Joined m.length (arcP m)) {n j : Nat} (hj : j < m.length) (h : wkB m n 0 j = true) : n % perM m = turnN m j := by
  unfold turnN
  exact same_mod hJ h0 hj ((wkB_iff h0 hj).1 h) (distN_is h0 hJ hj).1
theorem TurnsTo.done {m : List (List Int)} (hi : irrM m = true) {ys : List Int} (h : TurnsTo m m.length 0 ys) : ys = turnsM m := by
  obtain ⟨hm, hJ⟩ := irrM_iff.1 hi
  have h0 := (isMat_facts hm).pos
  unfold turnsM
  rw [if_pos hi]
  refine List.ext_getElem (by simp [h.1]) fun j h1 h2 => ?_
  have hj : j < m.length := by rw [← h.1]; exact h1
  have hd := distN_is h0 hJ hj
  have hp := h.2 j hj _ (Or.inl hd.2.1) ((wkB_iff h0 hj).2 hd.1)
  rw [List.getD_eq_getElem?_getD, List.getElem?_eq_getElem h1, Option.getD_some] at hp
  rw [List.getElem_map, List.getElem_range]
  exact hp

/-! ### The table of what is reached -/

theorem sum_full {f : Nat → Int} {B : Int} : ∀ n : Nat, (∀ i, i < n → f i ≤ B) → sumTo n f ≤ (n : Int) * B ∧ (sumTo n f = (n : Int) * B → ∀ i, i < n → f i = B)
  | 0, _ => ⟨by simp [sumTo], fun _ i h => by omega⟩
  | n + 1, h => by
    obtain ⟨h1, h2⟩ := sum_full n fun i hi => h i (by omega)
    have h3 := h n (by omega)
    have e : ((n + 1 : Nat) : Int) * B = (n : Int) * B + B := by rw [Int.natCast_add, Int.add_mul]; simp
    have e2 : sumTo (n + 1) f = sumTo n f + f n := rfl
    rw [e, e2]
    refine ⟨by omega, fun hs i hi => ?_⟩
    by_cases hin : i = n
    · subst hin; omega
    · exact h2 (by omega) i (by omega)
theorem sum_const (B : Int) : ∀ n : Nat, sumTo n (fun _ => B) = (n : Int) * B
  | 0 => by simp [sumTo]
  | n + 1 => by
    have e : ((n + 1 : Nat) : Int) * B = (n : Int) * B + B := by rw [Int.natCast_add, Int.add_mul]; simp
    rw [e, ← sum_const B n]; rfl
theorem reachM_isMat {m : List (List Int)} (hm : isMat m = true) : isMat (reachM m) = true := by
  obtain ⟨f1, f2, f3⟩ := reachM_facts m
  have hf := isMat_facts hm
  refine isMat_iff.2 ⟨by rw [f1]; exact ⟨hf.pos, hf.le⟩, fun i hi => ?_⟩
  rw [f1] at hi ⊢
  refine ⟨f2 i hi, fun j hj => ?_⟩
  rw [f3 i j hi hj]
  have := bI_range (reachB m i j)
  omega
theorem reach_sum {m : List (List Int)} (hm : isMat m = true) : sumM (reachM m) ≤ (m.length : Int) * (m.length : Int) ∧ 0 ≤ sumM (reachM m) ∧ (sumM (reachM m) == (m.length : Int) * (m.length : Int)) = irrM m := by
  obtain ⟨f1, _, f3⟩ := reachM_facts m
  have e : sumM (reachM m) = sumTo m.length fun i => sumTo m.length fun j => bI (reachB m i j) := by
    unfold sumM
    rw [if_pos (reachM_isMat hm), f1]
    exact sumTo_congr _ fun i hi => sumTo_congr _ fun j hj => f3 i j hi hj
  have hrow : ∀ i, i < m.length → sumTo m.length (fun j => bI (reachB m i j)) ≤ (m.length : Int) := fun i _ => by
    have h := (sum_full (f := fun j => bI (reachB m i j)) (B := 1) m.length fun j _ => (bI_range _).2).1
    omega
  obtain ⟨h1, h2⟩ := sum_full (f := fun i => sumTo m.length fun j => bI (reachB m i j)) (B := (m.length : Int)) m.length hrow
  rw [e]
  refine ⟨h1, ?_, ?_⟩
  · refine (sumTo_le (f := fun i => sumTo m.length fun j => bI (reachB m i j)) (B := (m.length : Int)) m.length fun i hi => ⟨?_, hrow i hi⟩).1
    exact (sumTo_le (f := fun j => bI (reachB m i j)) (B := 1) m.length fun j _ => bI_range _).1
  · rw [Bool.eq_iff_iff, beq_iff_eq]
    constructor
    · intro hs
      refine irr_all hm fun i j hi hj => ?_
      have h3 := h2 hs i hi
      have h4 := (sum_full (f := fun j => bI (reachB m i j)) (B := 1) m.length fun j _ => (bI_range _).2).2 (by rw [Int.mul_one]; exact h3) j hj
      exact bI_eq_one.1 h4
    · intro hi
      have hall : ∀ i j, i < m.length → j < m.length → reachB m i j = true := fun i j h3 h4 => (reachB_iff h3 h4).2 ((irrM_iff.1 hi).2 i j h3 h4)
      have e3 : (sumTo m.length fun i => sumTo m.length fun j => bI (reachB m i j)) = sumTo m.length fun _ => (m.length : Int) := sumTo_congr _ fun i hi => by
        have e4 : (sumTo m.length fun j => bI (reachB m i j)) = sumTo m.length fun _ => 1 := sumTo_congr _ fun j hj => by rw [hall i j hi hj]; rfl
        rw [e4, sum_const, Int.mul_one]
      rw [e3, sum_const]
end Go.Proofs.YtalclebehbdliaaGreat
namespace Go.Proofs.YtalclebehbdliaaGreat
open Go Go.RowKit

theorem From.grown {B : Nat} {w1 w w' : World} {r : Option Nat} (h : From B w1 w) (hg : w.grownBy w' r) (hr : ∀ g, r = some g → g < B ∨ w1.heap.size ≤ g) : From B w1 w' :=
  ⟨Nat.le_trans h.size hg.size, fun k h1 h2 => (hg.block k (Nat.lt_of_lt_of_le h2 h.size) (fun e => by
    have := hr k e.symm
    omega)).trans (h.block k h1 h2)⟩
theorem From.below {B : Nat} {w1 w w' : World} (h : From B w1 w) (hb : Below w.heap.size w w') : From B w1 w' :=
  ⟨Nat.le_trans h.size hb.size, fun k h1 h2 => (hb.block k (Nat.lt_of_lt_of_le h2 h.size)).trans (h.block k h1 h2)⟩
theorem OwnG.fromB {B : Nat} {w1 w : World} {v : Value} {m : List (List Int)} (h : OwnG w1 B v m) (hf : From B w1 w) : OwnG w B v m := (From.ownIn h.ownIn hf).ownG
theorem compM_next (m : List (List Int)) (n : Nat) : compM m (n + 1) = compM m n ++ compList m n := by
  unfold compM
  rw [List.range_succ, List.map_append, List.flatten_append]
  simp
/-- The vertices below j that vertex i reaches in both directions. -/
def compTo (m : List (List Int)) (i j : Nat) : List Int := ((List.range j).filter fun b => reachB m i b && reachB m b i).map fun (b : Nat) => (b : Int)
theorem compTo_next (m : List (List Int)) (i j : Nat) : compTo m i (j + 1) = if reachB m i j && reachB m j i then compTo m i j ++ [(j : Int)] else compTo m i j := by
  unfold compTo
  rw [List.range_succ, List.filter_append, List.map_append]
  by_cases h : (reachB m i j && reachB m j i) = true
  · rw [if_pos h]
    simp only [List.filter_cons, List.filter_nil, h, if_true]; rfl
  · rw [if_neg h]
    simp only [List.filter_cons, List.filter_nil, if_neg h, List.map_nil, List.append_nil]
theorem compTo_len (m : List (List Int)) (i j : Nat) : (compTo m i j).length ≤ j := by
  unfold compTo
  rw [List.length_map]
  exact Nat.le_trans (List.length_filter_le _ _) (by simp)
theorem compList_is (m : List (List Int)) (i : Nat) : compList m i = if 0 < (compTo m i m.length).length ∧ (compTo m i m.length).getD 0 0 = (i : Int) then [compTo m i m.length] else [] := by
  unfold compList compTo compRow
  cases (List.range m.length).filter fun b => reachB m i b && reachB m b i with
  | nil => simp
  | cons x xs =>
    by_cases h : x = i
    · subst h; simp
    · simp [h]
      omega
theorem compM_len (m : List (List Int)) : ∀ n, (compM m n).length ≤ n
  | 0 => by simp [compM]
  | n + 1 => by
    have h := compM_len m n
    rw [compM_next, List.length_append]
    have : (compList m n).length ≤ 1 := by
      unfold compList
      split <;> simp
    omega

end Go.Proofs.YtalclebehbdliaaGreat
namespace Go.Proofs.YtalclebehbdliaaGreat
open Go Go.RowKit

/-- v is the least | the greatest of the first k numbers. -/
def LeastI (xs : List Int) (k : Nat) (v : Int) : Prop := (∀ j, j < k → v ≤ xs.getD j 0) ∧ ∃ j, j < k ∧ xs.getD j 0 = v
def MostI (xs : List Int) (k : Nat) (v : Int) : Prop := (∀ j, j < k → xs.getD j 0 ≤ v) ∧ ∃ j, j < k ∧ xs.getD j 0 = v
theorem LeastI.one (xs : List Int) : LeastI xs 1 (xs.getD 0 0) := by
  refine ⟨fun j h => ?_, 0, by omega, rfl⟩
  obtain rfl : j = 0 := by omega
  exact Int.le_refl _
theorem MostI.one (xs : List Int) : MostI xs 1 (xs.getD 0 0) := by
  refine ⟨fun j h => ?_, 0, by omega, rfl⟩
  obtain rfl : j = 0 := by omega
  exact Int.le_refl _
theorem LeastI.next {xs : List Int} {k : Nat} {v : Int} (h : LeastI xs k v) : LeastI xs (k + 1) (min v (xs.getD k 0)) := by
  obtain ⟨h1, j, hj, hv⟩ := h
  refine ⟨fun i hi => ?_, ?_⟩
  · by_cases e : i = k
    · subst e; omega
    · have := h1 i (by omega); omega
  · by_cases e : xs.getD k 0 ≤ v
    · exact ⟨k, by omega, by omega⟩
    · exact ⟨j, by omega, by omega⟩
theorem MostI.next {xs : List Int} {k : Nat} {v : Int} (h : MostI xs k v) : MostI xs (k + 1) (max v (xs.getD k 0)) := by
  obtain ⟨h1, j, hj, hv⟩ := h
  refine ⟨fun i hi => ?_, ?_⟩
  · by_cases e : i = k
    · subst e; omega
    · have := h1 i (by omega); omega
  · by_cases e : v ≤ xs.getD k 0
    · exact ⟨k, by omega, by omega⟩
    · exact ⟨j, by omega, by omega⟩
theorem run_min_z (w : World) (ts : Array TypeId) (t : TypeId) (k k' : IntKind) (x y : Int) : (Builtin.min_ ts t #[.int k x, .int k' y]).run Tryz.prog w = .ok (.int k (min x y)) w := by
  have e : (if y < x then y else x) = min x y := by
    rw [Int.min_def]
    split <;> split <;> omega
  simp [Builtin.min_, Builtin.min2, e]
theorem run_max_z (w : World) (ts : Array TypeId) (t : TypeId) (k k' : IntKind) (x y : Int) : (Builtin.max_ ts t #[.int k x, .int k' y]).run Tryz.prog w = .ok (.int k (max x y)) w := by
  have e : (if y > x then y else x) = max x y := by
    rw [Int.max_def]
    split <;> split <;> omega
  simp [Builtin.max_, Builtin.max2, e]

set_option maxRecDepth 100000 in
set_option maxHeartbeats 800000 in
theorem min_row (A : Option Addr) (c : Nat) (xs : List Int) (h0 : 0 < xs.length) (hn : xs.length ≤ 1099511627776) (w : World) (hc : RowS w A xs) :
    Calls Tryz.prog 114 #[.slice A xs.length c] w fun e w' => ∃ v, e = .returned (.int .i64 v) ∧ LeastI xs xs.length v ∧ w' = w := by
  obtain ⟨b, off, rfl, hat, hb⟩ := hc h0
  have hmn := fun w ts t k k' x y => run_min_z w ts t k k' x y
  have h1 := hat 0 h0
  have HC := Lib.hid hat
  have H1 := Lib.hid (LeastI.one xs)
  clear hc hat
  rw [Nat.add_zero] at h1
  generalize xs.getD 0 0 = x0 at h1 H1
  go_enter Tryz.func114, Tryz.ntmps114
  go_wp2
  go_loopw [3, 4] (fun m i wr => ∃ (k : Nat) (v : Int), 0 < k ∧ k ≤ xs.length ∧ i = .int .i64 k ∧ m = .int .i64 v ∧ Hid (LeastI xs k v) ∧ wr = w) (fun _ i _ => xs.length - (intOf i).toNat)
  case atStart => exact ⟨1, _, Nat.one_pos, h0, rfl, rfl, H1, rfl⟩
  case round =>
    obtain ⟨k, v, hk0, hk, rfl, rfl, hl, rfl⟩ := hrel
    by_cases hlt : k < xs.length
    · have hc1 := HC.out k hlt
      have HN := Lib.hid hl.out.next
      clear h1 H1
      generalize xs.getD k 0 = y at *
      go_wp2
      go_roundw
      case rel => exact ⟨k + 1, _, by omega, by omega, by go_num, rfl, HN, trivial⟩
      case measure => simp [intOf]; omega
    · obtain rfl : k = xs.length := by omega
      clear h1 H1
      go_wp2
      go_ret
      exact ⟨v, rfl, hl.out, rfl⟩

set_option maxRecDepth 100000 in
set_option maxHeartbeats 800000 in
theorem max_row (A : Option Addr) (c : Nat) (xs : List Int) (h0 : 0 < xs.length) (hn : xs.length ≤ 1099511627776) (w : World) (hc : RowS w A xs) :
    Calls Tryz.prog 115 #[.slice A xs.length c] w fun e w' => ∃ v, e = .returned (.int .i64 v) ∧ MostI xs xs.length v ∧ w' = w := by
  obtain ⟨b, off, rfl, hat, hb⟩ := hc h0
  have hmn := fun w ts t k k' x y => run_max_z w ts t k k' x y
  have h1 := hat 0 h0
  have HC := Lib.hid hat
  have H1 := Lib.hid (MostI.one xs)
  clear hc hat
  rw [Nat.add_zero] at h1
  generalize xs.getD 0 0 = x0 at h1 H1
  go_enter Tryz.func115, Tryz.ntmps115
  go_wp2
  go_loopw [3, 4] (fun m i wr => ∃ (k : Nat) (v : Int), 0 < k ∧ k ≤ xs.length ∧ i = .int .i64 k ∧ m = .int .i64 v ∧ Hid (MostI xs k v) ∧ wr = w) (fun _ i _ => xs.length - (intOf i).toNat)
  case atStart => exact ⟨1, _, Nat.one_pos, h0, rfl, rfl, H1, rfl⟩
  case round =>
    obtain ⟨k, v, hk0, hk, rfl, rfl, hl, rfl⟩ := hrel
    by_cases hlt : k < xs.length
    · have hc1 := HC.out k hlt
      have HN := Lib.hid hl.out.next
      clear h1 H1
      generalize xs.getD k 0 = y at *
      go_wp2
      go_roundw
      case rel => exact ⟨k + 1, _, by omega, by omega, by go_num, rfl, HN, trivial⟩
      case measure => simp [intOf]; omega
    · obtain rfl : k = xs.length := by omega
      clear h1 H1
      go_wp2
      go_ret
      exact ⟨v, rfl, hl.out, rfl⟩

theorem least_bad {n : Nat} {xs : List Int} {v : Int} (h : LeastI xs xs.length v) (hv : v < 0) : rowOk n xs = false := by
  obtain ⟨j, hj, e⟩ := h.2
  exact rowOk_bad hj (by rw [e, decide_eq_false (by omega)]; rfl)
theorem most_bad {n : Nat} {xs : List Int} {v : Int} (h : MostI xs xs.length v) (hv : 1000000 < v) : rowOk n xs = false := by
  obtain ⟨j, hj, e⟩ := h.2
  exact rowOk_bad hj (by rw [e, decide_eq_false (show ¬ v ≤ 1000000 by omega), Bool.and_false])
theorem ends_ok {n : Nat} {xs : List Int} {u v : Int} (hl : xs.length = n) (h : LeastI xs xs.length u) (k : MostI xs xs.length v) (hu : ¬ u < 0) (hv : ¬ 1000000 < v) : rowOk n xs = true :=
  rowOk_iff.2 ⟨hl, fun j hj => ⟨by have := h.1 j hj; omega, by have := k.1 j hj; omega⟩⟩

set_option maxRecDepth 100000 in
set_option maxHeartbeats 1600000 in
theorem impl_isMatrix (A : Option Addr) (c : Nat) (m : List (List Int)) (hn : m.length ≤ 1099511627776) (ht : ∀ k, k < m.length → (m.getD k []).length ≤ 1099511627776) (w : World) (hg : GridS w A m) :
    Calls Tryz.prog 93 #[.slice A m.length c] w fun e w' => e = .returned (.bool (isMat m)) ∧ w' = w := by
  by_cases h0 : m.length = 0
  · have e0 : ((m.length : Int) == 0) = true := by rw [h0]; rfl
    have hr : isMat m = false := by
      unfold isMat
      rw [decide_eq_false (show ¬ (1 ≤ m.length ∧ m.length ≤ 9) by omega), Bool.and_false]
    rw [hr]
    clear hg ht hr h0
    go_enter Tryz.func93, Tryz.ntmps93
    go_wp2
    go_ret
    exact ⟨rfl, rfl⟩
  have e0 : ((m.length : Int) == 0) = false := by
    rw [beq_eq_false_iff_ne]; omega
  by_cases h9 : 9 < m.length
  · have e9 : (9 : Int) < (m.length : Int) := by omega
    have hr : isMat m = false := by
      unfold isMat
      rw [decide_eq_false (show ¬ (1 ≤ m.length ∧ m.length ≤ 9) by omega), Bool.and_false]
    rw [hr]
    clear hg ht hr h0
    go_enter Tryz.func93, Tryz.ntmps93
    go_wp2
    go_ret
    exact ⟨rfl, rfl⟩
  have e9 : ¬ (9 : Int) < (m.length : Int) := by omega
  have HG := Lib.hid hg
  have HT := Lib.hid ht
  have HE : Hid ((∀ j, j < m.length → rowOk m.length (m.getD j []) = true) → isMat m = true) := Lib.hid fun h => by
    rw [isMat_rows h, decide_eq_true (by omega), decide_eq_true (by omega)]; rfl
  clear hg ht
  go_enter Tryz.func93, Tryz.ntmps93
  go_wp2
  go_loop [15] (fun i => ∃ k : Nat, k ≤ m.length ∧ i = .int .i64 k ∧ Hid (∀ j, j < k → rowOk m.length (m.getD j []) = true)) (fun i => m.length - (intOf i).toNat)
  case atStart => exact ⟨0, Nat.zero_le _, rfl, Lib.hid (fun j h => by omega)⟩
  case round =>
    obtain ⟨k, hk, rfl, hto⟩ := hrel
    by_cases hlt : k < m.length
    · obtain ⟨b, off, A', c', rfl, hc, hrow, hb⟩ := HG.out.row hlt
      have hxl := HT.out k hlt
      by_cases hlen : (m.getD k []).length = m.length
      · have HNX : Hid (rowOk m.length (m.getD k []) = true → ∀ j, j < k + 1 → rowOk m.length (m.getD j []) = true) := Lib.hid (fun h j hj => by
          by_cases e : j = k
          · subst e; exact h
          · exact hto.out j (by omega))
        have HNO : Hid (rowOk m.length (m.getD k []) = false → isMat m = false) := Lib.hid (isMat_not hlt)
        have HMI := Lib.hid (min_row A' c' (m.getD k []) (by omega) hxl)
        have HMA := Lib.hid (max_row A' c' (m.getD k []) (by omega) hxl)
        have HR := Lib.hid hrow
        have HLN := Lib.hid hlen
        rw [hlen] at hc HMI HMA
        clear hrow hxl hlen hto
        generalize m.getD k [] = x at *
        go_wp2_with fail
        refine (HMI.out _ HR.out).mono ?_
        rintro e w1 ⟨u, rfl, hu, rfl⟩
        have HU := Lib.hid hu
        clear hu
        by_cases hu0 : u < 0
        · have HF := Lib.hid (HNO.out (least_bad (by rw [HLN.out]; exact HU.out) hu0))
          go_wp2
          go_ret
          exact ⟨by rw [HF.out]; rfl, rfl⟩
        · go_wp2_with fail
          refine (HMA.out _ HR.out).mono ?_
          rintro e w2 ⟨v, rfl, hv, rfl⟩
          have HV := Lib.hid hv
          clear hv
          by_cases hv1 : 1000000 < v
          · have HF := Lib.hid (HNO.out (most_bad (by rw [HLN.out]; exact HV.out) hv1))
            go_wp2
            go_ret
            exact ⟨by rw [HF.out]; rfl, rfl⟩
          · have HN := Lib.hid (HNX.out (ends_ok (u := u) (v := v) HLN.out (by rw [HLN.out]; exact HU.out) (by rw [HLN.out]; exact HV.out) (by omega) (by omega)))
            go_wp2
            go_round
            case rel => exact ⟨k + 1, by omega, by go_num, HN⟩
            case measure => simp [intOf]; omega
      · have HNO := Lib.hid (isMat_not hlt (rowOk_short hlen))
        have hne : (((m.getD k []).length : Int) == (m.length : Int)) = false := by
          rw [beq_eq_false_iff_ne]; omega
        have hne2 : (((m.getD k []).length : Int) != (m.length : Int)) = true := by
          rw [bne, hne]; rfl
        clear hrow
        generalize m.getD k [] = x at *
        go_wp2
        go_ret
        exact ⟨by rw [HNO.out]; rfl, rfl⟩
    · obtain rfl : k = m.length := by omega
      have HR := Lib.hid (HE.out hto.out)
      clear hto
      go_wp2
      go_ret
      exact ⟨by rw [HR.out]; rfl, rfl⟩
end Go.Proofs.YtalclebehbdliaaGreat
namespace Go.Proofs.YtalclebehbdliaaGreat
open Go Go.RowKit

set_option maxRecDepth 100000 in
set_option maxHeartbeats 1600000 in
theorem impl_sumOf (A : Option Addr) (c : Nat) (m : List (List Int)) (hn : m.length ≤ 1099511627776) (ht : ∀ k, k < m.length → (m.getD k []).length ≤ 1099511627776) (w : World) (hg : GridS w A m) :
    Calls Tryz.prog 94 #[.slice A m.length c] w fun e w' => e = .returned (.int .i64 (sumM m)) ∧ w' = w := by
  have HG := Lib.hid hg
  have HI := Lib.hid (impl_isMatrix A c m hn ht w hg)
  clear hg ht
  unfold sumM
  cases hm : isMat m with
  | false =>
    rw [hm] at HI
    go_enter Tryz.func94, Tryz.ntmps94
    go_wp2_with fail
    refine HI.out.mono ?_
    rintro e w1 ⟨rfl, rfl⟩
    go_wp2
    go_ret
    exact ⟨rfl, rfl⟩
  | true =>
    rw [hm] at HI
    have hf := isMat_facts hm
    have hle := hf.le
    have HF := Lib.hid hf
    rw [if_pos rfl]
    clear hm hf
    go_enter Tryz.func94, Tryz.ntmps94
    go_wp2_with fail
    refine HI.out.mono ?_
    rintro e w1 ⟨rfl, rfl⟩
    go_wp2
    go_loop [3, 13] (fun s i => ∃ k : Nat, k ≤ m.length ∧ s = .int .i64 (sumTo k fun i => sumTo m.length fun j => cellOf m i j) ∧ i = .int .i64 k) (fun _ i => m.length - (intOf i).toNat)
    case atStart => exact ⟨0, Nat.zero_le _, rfl, rfl⟩
    case round =>
      obtain ⟨k, hk, rfl, rfl⟩ := hrel
      by_cases hlt : k < m.length
      · have hb1 := sumTo_le (f := fun i => sumTo m.length fun j => cellOf m i j) (B := 9000000) k (fun t ht => by
          have h := sumTo_le (f := fun j => cellOf m t j) (B := 1000000) m.length (fun u hu => HF.out.cell t u (by omega) hu)
          exact ⟨h.1, by omega⟩)
        have HN : Hid ((sumTo k fun i => sumTo m.length fun j => cellOf m i j) + (sumTo m.length fun j => cellOf m k j) = sumTo (k + 1) fun i => sumTo m.length fun j => cellOf m i j) := Lib.hid rfl
        generalize (sumTo k fun i => sumTo m.length fun j => cellOf m i j) = s at *
        have hb3 : s ≤ 81000000 := by omega
        obtain ⟨b, off, A', c', rfl, k0, hrow, _⟩ := HG.out.row hlt
        rw [HF.out.row k hlt] at k0
        obtain ⟨b2, off2, rfl, hat, _⟩ := hrow (by rw [HF.out.row k hlt]; omega)
        have HAT : Hid (∀ t, t < m.length → w1.cell? ⟨b2, off2 + t, none⟩ = some (.int .i64 (cellOf m k t))) := Lib.hid fun t htt => hat t (by rw [HF.out.row k hlt]; exact htt)
        clear hat
        go_wp2
        go_loop [3, 19] (fun s' j => ∃ t : Nat, t ≤ m.length ∧ s' = .int .i64 (s + sumTo t fun j => cellOf m k j) ∧ j = .int .i64 t) (fun _ j => m.length - (intOf j).toNat)
        case atStart => exact ⟨0, Nat.zero_le _, by simp [sumTo], rfl⟩
        case round =>
          obtain ⟨t, htl, rfl, rfl⟩ := hrel
          by_cases htt : t < m.length
          · have k2 := HAT.out t htt
            have hb4 := sumTo_le (f := fun j => cellOf m k j) (B := 1000000) t (fun u hu => HF.out.cell k u hlt (by omega))
            have hb2 := HF.out.cell k t hlt htt
            have HN2 : Hid ((sumTo t fun j => cellOf m k j) + cellOf m k t = sumTo (t + 1) fun j => cellOf m k j) := Lib.hid rfl
            generalize (sumTo t fun j => cellOf m k j) = s2 at *
            generalize cellOf m k t = y at *
            have hb5 : s2 ≤ 9000000 := by omega
            go_wp2
            go_round
            case rel => exact ⟨t + 1, by omega, by rw [← HN2.out]; go_num, by go_num⟩
            case measure => simp [intOf]; omega
          · obtain rfl : t = m.length := by omega
            go_wp2
            go_round
            case rel => exact ⟨k + 1, by omega, by rw [← HN.out], by go_num⟩
            case measure => simp [intOf]; omega
      · obtain rfl : k = m.length := by omega
        go_wp2
        go_ret
        exact ⟨rfl, rfl⟩
end Go.Proofs.YtalclebehbdliaaGreat
namespace Go.Proofs.YtalclebehbdliaaGreat
open Go Go.RowKit

theorem ownG_nil (w : World) (B : Nat) : OwnG w B (.slice none 0 0) [] := ⟨[], ⟨rfl, .inl ⟨rfl, rfl⟩⟩, RowsOwn.nil _ _ _⟩
def reachF (m : List (List Int)) : Nat → Nat → Int := fun i j => bI (reachB m i j)
theorem reachF_next (m : List (List Int)) (k : Nat) : tabOf (k + 1) m.length (reachF m) = tabOf k m.length (reachF m) ++ [onesS (rchS m k) m.length] := by
  rw [tabOf_next]
  congr 2
  refine List.map_congr_left fun j hj => ?_
  rw [rchS_bit m k (List.mem_range.1 hj)]; rfl
theorem reachF_all (m : List (List Int)) : tabOf m.length m.length (reachF m) = reachM m := rfl

set_option maxRecDepth 100000 in
set_option maxHeartbeats 3200000 in
theorem impl_reachOf (A : Option Addr) (c : Nat) (m : List (List Int)) (hn : m.length ≤ 1099511627776) (ht : ∀ k, k < m.length → (m.getD k []).length ≤ 1099511627776) (w : World) (hg : GridS w A m) :
    Calls Tryz.prog 95 #[.slice A m.length c] w (NewG (reachS m) w) := by
  have HI := Lib.hid (impl_isMatrix A c m hn ht w hg)
  unfold reachS
  cases hm : isMat m with
  | false =>
    rw [hm] at HI
    rw [if_neg (by decide)]
    clear hg ht hm
    go_enter Tryz.func95, Tryz.ntmps95
    go_wp2_with fail
    refine HI.out.mono ?_
    rintro e w1 ⟨rfl, rfl⟩
    go_wp2
    go_ret
    exact ⟨_, rfl, ownG_nil _ _, Below.refl _ _⟩
  | true =>
    rw [hm] at HI
    rw [if_pos rfl]
    have hf := isMat_facts hm
    have hle := hf.le
    obtain ⟨i0, hi, hz0, hz1, hz2⟩ := info_parts infoSl
    have HST := Lib.hid (impl_stepOf A c m hf w hg)
    have HRF := Lib.hid (fun v (hv : v < m.length) w' F (hF : StepV w' F m) => impl_reachedFrom m hle v hv w' F hF)
    have HROW := Lib.hid (fun s (hs : s < 512) w' => impl_row s hs m.length hle w')
    have HRL : Hid (∀ v, rchS m v < 512) := Lib.hid fun v => setN_le _ hle
    have HOL : Hid (∀ v, (onesS (rchS m v) m.length).length = m.length) := Lib.hid fun v => onesS_length _ _
    have HNX := Lib.hid (reachF_next m)
    have HEND := Lib.hid (reachF_all m)
    clear hg ht hm hf hn
    generalize reachM m = RM at *
    go_enter Tryz.func95, Tryz.ntmps95
    go_wp2_with fail
    refine HI.out.mono ?_
    rintro e w1 ⟨rfl, hw⟩
    obtain rfl : w = w1 := hw.symm
    go_wp2_with fail
    refine HST.out.mono ?_
    rintro e w1 ⟨F, rfl, hF, hb1⟩
    have HF := Lib.hid hF
    have HB1 := Lib.hid hb1
    clear hF hb1 HST HI
    go_wp2_with (at_make; refine wpList_make_full _ rfl _ _ 30 rfl w1.heap.size 56 i0 (.slice none 0 0) 1 Tryz.underlying30 hi hz0 hz1 .i64 .i64 _ _ m.length rfl rfl rfl rfl (by rw [hz2]; omega) (by unfold maxLen; omega) (Nat.le_refl _) ?_; intro w2 hown hgrow)
    have hown0 : w2.ownsRow w1.heap.size 56 1 (.slice (some ⟨w1.heap.size, 0, none⟩) m.length m.length) m.length ([] ++ List.replicate (m.length - 0) (.slice none 0 0)) := by
      have e : (madeCells (Value.slice none 0 0).cells (m.length * 1)).toList = List.replicate m.length (.slice none 0 0) := by rw [Nat.mul_one]; exact toList_madeCells_one _ _
      rw [List.nil_append, Nat.sub_zero, ← e]; exact hown
    have hbel := grown_below hgrow
    clear hown hgrow
    go_loopw [16] (fun i wr => ∃ (k : Nat) (vs : List Value), k ≤ m.length ∧ i = .int .i64 k ∧ vs.length = k ∧ wr.ownsRow w1.heap.size 56 1 (.slice (some ⟨w1.heap.size, 0, none⟩) m.length m.length) m.length (vs ++ List.replicate (m.length - k) (.slice none 0 0)) ∧ RowsOwn wr w1.heap.size (some w1.heap.size) vs (tabOf k m.length (reachF m)) ∧ Below w1.heap.size w1 wr) (fun i _ => m.length - (intOf i).toNat)
    case atStart => exact ⟨0, [], Nat.zero_le _, rfl, rfl, hown0, RowsOwn.nil _ _ _, hbel⟩
    case round =>
      clear hown0 hbel
      obtain ⟨k, vs, hk, rfl, hvs, ho, hr, hbl⟩ := hrel
      by_cases hlt : k < m.length
      · have HT := Lib.hid (HNX.out k)
        have HC1 := Lib.hid (HRF.out k hlt wr F (HF.out.below hbl))
        have HC2 := Lib.hid (HROW.out (rchS m k) (HRL.out k))
        have HXL := Lib.hid (HOL.out k)
        have hgs := (ho.lt w1.heap.size rfl).2
        have HO := Lib.hid ho
        have HR := Lib.hid hr
        have HB := Lib.hid hbl
        clear ho hr hbl
        generalize onesS (rchS m k) m.length = x at *
        generalize rchS m k = s at *
        go_wp2_with fail
        refine HC1.out.mono ?_
        rintro e w3 ⟨rfl, b3⟩
        go_wp2_with fail
        refine (HC2.out _).mono ?_
        rintro e w4 ⟨v, rfl, hr4, b4⟩
        have b34 := below_behind b3 b4
        have hs3 := b3.size
        have HR4 := Lib.hid hr4
        have HB34 := Lib.hid b34
        clear b3 b4 b34 hr4
        have hr4 := HR4.out
        unfold OwnA at hr4
        rw [HXL.out] at hr4
        obtain ⟨A2, c2, rfl⟩ := slice_of_owns hr4
        have b2 := HB34.out
        have hgl := hr4.lt
        have hold : (vs ++ List.replicate (m.length - k) (Value.slice none 0 0))[k]? = some (.slice none 0 0) := by
          rw [List.getElem?_append_right (by omega), hvs, Nat.sub_self, List.getElem?_replicate, if_pos (by omega)]
        have ho2 := HO.out.kept (row := none) (w' := w4) ⟨b2.os, b2.tape, b2.output, b2.size, fun j hj _ => b2.block j hj⟩ (Or.inr (by intro h; cases h))
        have hc2 := (ho2.cellAt k (by omega)).trans hold
        have hf2 := ho2.frozenAt k
        have hst := ho2.stored k (.slice A2 m.length c2)
        have hset : (vs ++ List.replicate (m.length - k) (Value.slice none 0 0)).set k (.slice A2 m.length c2) = (vs ++ [.slice A2 m.length c2]) ++ List.replicate (m.length - (k + 1)) (.slice none 0 0) := by
          rw [List.set_append_right _ _ (by omega), hvs, Nat.sub_self, show m.length - k = (m.length - (k + 1)) + 1 by omega, List.replicate_succ]
          simp
        rw [hset] at hst
        have HS := Lib.hid hst.1
        have HP : Hid (RowsOwn (w4.setCell ⟨w1.heap.size, k, none⟩ (.slice A2 m.length c2)) w1.heap.size (some w1.heap.size) (vs ++ [.slice A2 m.length c2]) (tabOf k m.length (reachF m) ++ [x])) := Lib.hid (by
          refine ((HR.out.below b2).push (by rw [HXL.out]; exact World.ownsRow.mono hr4 (by omega)) ?_ (fun j s hj => ?_)).keptOuter hst.2
          · cases e : (Value.slice A2 m.length c2).ownBlock with
            | none => exact Or.inl rfl
            | some g =>
              refine Or.inr fun h => ?_
              have := Option.some.inj h
              have := hgl g e
              omega
          · cases e : s.ownBlock with
            | none => exact Or.inl rfl
            | some g =>
              refine Or.inr fun h => ?_
              have := (HR.out.lt hj g e).2
              have := hgl g h.symm
              omega)
        have HB5 := Lib.hid ((HB.out.trans (b2.mono HB.out.size)).setCell (p := ⟨w1.heap.size, k, none⟩) (by simp) (Value.slice A2 m.length c2))
        clear hst hr4 ho2 hgl b2 hold hset
        go_wp2
        go_roundw
        case rel => exact ⟨k + 1, _, by omega, by go_num, by simp [hvs], HS.out, by rw [HT.out]; exact HP.out, HB5.out⟩
        case measure => simp [intOf]; omega
      · obtain rfl : k = m.length := by omega
        rw [Nat.sub_self, List.replicate_zero, List.append_nil] at ho
        rw [HEND.out] at hr
        have HE := Lib.hid (congrArg List.length HEND.out)
        rw [tabOf_length] at HE
        have HO := Lib.hid ho
        have HR := Lib.hid hr
        have HB := Lib.hid hbl
        clear ho hr hbl
        go_wp2
        go_ret
        exact ⟨_, rfl, OwnG.mono ⟨vs, by rw [← HE.out]; exact HO.out, HR.out⟩ HB1.out.size, below_behind HB1.out HB.out⟩
end Go.Proofs.YtalclebehbdliaaGreat
namespace Go.Proofs.YtalclebehbdliaaGreat
open Go Go.RowKit

set_option maxRecDepth 100000 in
set_option maxHeartbeats 1600000 in
theorem impl_isIrreducible (A : Option Addr) (c : Nat) (m : List (List Int)) (hn : m.length ≤ 1099511627776) (ht : ∀ k, k < m.length → (m.getD k []).length ≤ 1099511627776) (w : World) (hg : GridS w A m) :
    Calls Tryz.prog 64 #[.slice A m.length c] w (Scalar (.bool (irrM m)) w) := by
  have HI := Lib.hid (impl_isMatrix A c m hn ht w hg)
  have HR := Lib.hid (impl_reachOf A c m hn ht w hg)
  cases hm : isMat m with
  | false =>
    have hr : irrM m = false := by unfold irrM; rw [hm]; rfl
    rw [hm] at HI
    rw [hr]
    clear hg ht hm hr HR
    go_enter Tryz.func64, Tryz.ntmps64
    go_wp2_with fail
    refine HI.out.mono ?_
    rintro e w1 ⟨rfl, rfl⟩
    go_wp2
    go_ret
    exact ⟨rfl, Below.refl _ _⟩
  | true =>
    have hs : reachS m = reachM m := by unfold reachS; rw [if_pos hm]
    have hle := (isMat_facts hm).le
    obtain ⟨f1, f2, _⟩ := reachM_facts m
    obtain ⟨s1, s2, s3⟩ := reach_sum hm
    have HSUM : Hid (∀ A c w', GridS w' A (reachM m) → Calls Tryz.prog 94 #[.slice A m.length c] w' fun e w'' => e = .returned (.int .i64 (sumM (reachM m))) ∧ w'' = w') := Lib.hid fun A c w' h => by
      have h2 := impl_sumOf A c (reachM m) (by omega) (fun k hk => by rw [f1] at hk; rw [f2 k hk]; omega) w' h
      rw [f1] at h2
      exact h2
    have hsq : (m.length : Int) * (m.length : Int) ≤ 81 := by
      have : m.length * m.length ≤ 81 := Nat.mul_le_mul hle hle
      omega
    have hsq0 : 0 ≤ (m.length : Int) * (m.length : Int) := by
      have : 0 ≤ m.length * m.length := Nat.zero_le _
      omega
    have HRES := Lib.hid s3
    have HF1 := Lib.hid f1
    rw [hm] at HI
    rw [hs] at HR
    clear hg ht hm hs s3 f2 f1
    generalize reachM m = RM at *
    generalize sumM RM = σ at *
    generalize irrM m = res at *
    go_enter Tryz.func64, Tryz.ntmps64
    go_wp2_with fail
    refine HI.out.mono ?_
    rintro e w1 ⟨rfl, hw⟩
    obtain rfl : w = w1 := hw.symm
    go_wp2_with fail
    refine HR.out.mono ?_
    rintro e w2 ⟨v, rfl, ho, hb⟩
    obtain ⟨AR, cR, rfl, hgR⟩ := ho.gridS
    rw [HF1.out]
    have HC := Lib.hid (HSUM.out AR cR w2 hgR)
    have HB := Lib.hid hb
    clear hgR ho hb
    go_wp2_with fail
    refine HC.out.mono ?_
    rintro e w3 ⟨rfl, rfl⟩
    have hr := HRES.out
    go_wp2
    go_ret
    exact ⟨by simp, HB.out⟩
end Go.Proofs.YtalclebehbdliaaGreat
