/-
  Merged: PLAIN FACTS ON POLYNOMIALS AND DETERMINANTS (no program in this text): determinants by their first row, and of the table that is turned around; a list without zeros at the end; products, values.
  PLAIN FACTS on polynomials, as the law asks them (no program in this text): the ends of a matrix's polynomial, the polynomial of the matrix that is turned around, the value of a product.
  PLAIN FACTS ON GROWTH (no program in this text): a table with no positive number off its diagonal has positive leading minors exactly if it turns a positive vector into a positive one; what follows for the growth of small matrices.
  PLAIN FACTS ON GRAPHS OF SHIFTS (no program in this text): the words of a shift grow by a letter at a time, as the paths of its graph do.
  PLAIN FACTS ON GROWTH, second part (no program in this text): the growth of a table lies below a fraction exactly if a positive vector shows it; how this hangs on the fraction, the numbers, the sums of rows, turning and squares.
  PLAIN FACTS ON GRAPHS (no program in this text): the arcs of a matrix, paths of arcs, the vertices through which endless paths go, and the matrix of some vertices only.
  The model's IsGraph, ArcsOf and CountPaths: what the plain words say, tables in new memory; nothing that was there before is changed.
  PLAIN FACTS ON GRAPHS OF SHIFTS, second part (no program in this text): the powers of the graph count words, and the graph is lively.
  PLAIN FACTS ON GRAPHS OF SHIFTS, third part (no program in this text): the least words that are not in a language forbid the same shift; more forbidden words, fewer words.
  PLAIN FACTS ON ORDERED LISTS OF STRINGS (no program in this text): a string is put into an ascending list once; the parts of a word with one length, put so; what a map's keys give, sorted.
  PLAIN FACTS ON GRAPHS OF SHIFTS, fourth part (no program in this text): the least words that are not in a language, and the forbidden words of two shifts, put in order, are a shift's.
  The model's product of a table that need not be a matrix (one row, say) with a matrix: the numbers may be larger; nothing that was there before is changed.
  PLAIN FACTS ON GRAPHS OF SHIFTS (no program's function in this text): the words of a length are counted by rows that go through the graph.
  What the laws on lists of integers share: the helpers' contracts at whatever slice holds a list; a result that is marked, and what stays as it was.
  The model's LivelyOf: the vertices through which endless paths go, in new memory; nothing that was there before is changed.
  The model's LivelyOf, TrimGraph and IsLively: what the plain words say, in new memory; nothing that was there before is changed.
  The model's CountWords: at every shift in memory and every int what the plain words say; nothing that was there before is changed.
  An append of nothing, from a slice that is not nil: the slice stays as it is.
  The model's l2Put: a string is put into an ascending list once, at every list in memory of the call's own; nothing below that memory is changed.
-/
import Derived.Test.YtalclebehbdliaaBaseTexts
import Derived.Sort.KeysCollected
import Derived.ChangeMaps
import Derived.MapViews
import Derived.Test.YtalclebehbdliaaPresState
import Derived.StillTailTactics
import Derived.WalkKit
import Derived.RegionTactic
import Derived.Deep.AppendLies
namespace Go.Proofs.Ytalclebehbdliaa
open Go Go.RowKit

def sgn (j : Nat) : Int := if j % 2 = 0 then 1 else -1
theorem sgn_next (j : Nat) : sgn (j + 1) = -sgn j := by
  unfold sgn
  by_cases h : j % 2 = 0
  · rw [if_pos h, if_neg (by omega)]
  · rw [if_neg h, if_pos (by omega)]; rfl
theorem sgn_two (j : Nat) : sgn j = 1 ∨ sgn j = -1 := by
  unfold sgn
  split
  · exact Or.inl rfl
  · exact Or.inr rfl
/-- A table without its first row and column j. -/
def lessF (f : Nat → Nat → Int) (j : Nat) : Nat → Nat → Int := fun a b => f (a + 1) (if b < j then b else b + 1)
def detF : Nat → (Nat → Nat → Int) → Int
  | 0, _ => 1
  | n + 1, f => sumTo (n + 1) fun j => sgn j * f 0 j * detF n (lessF f j)
theorem detF_congr : ∀ {n : Nat} {f g : Nat → Nat → Int}, (∀ i j, i < n → j < n → f i j = g i j) → detF n f = detF n g
  | 0, _, _, _ => rfl
  | n + 1, f, g, h => by
    rw [detF, detF]
    refine sumTo_congr _ fun j hj => ?_
    rw [h 0 j (by omega) hj, detF_congr (n := n) (f := lessF f j) (g := lessF g j) fun a b ha hb => ?_]
    unfold lessF
    exact h _ _ (by omega) (by split <;> omega)
theorem detF_turn {n : Nat} (hn : n ≤ 4) (f : Nat → Nat → Int) : detF n (fun i j => f j i) = detF n f := by
  have h : n = 0 ∨ n = 1 ∨ n = 2 ∨ n = 3 ∨ n = 4 := by omega
  rcases h with rfl | rfl | rfl | rfl | rfl
  · rfl
  · rfl
  · simp [detF, sumTo, sgn, lessF]
    grind
  · simp [detF, sumTo, sgn, lessF]
    grind
  · simp [detF, sumTo, sgn, lessF]
    grind
/-- n! times B to the n. -/
def detB (B : Nat) : Nat → Nat
  | 0 => 1
  | n + 1 => (n + 1) * (B * detB B n)
theorem sumTo_abs {f : Nat → Int} {B : Nat} : ∀ {n : Nat}, (∀ k, k < n → (f k).natAbs ≤ B) → (sumTo n f).natAbs ≤ n * B
  | 0, _ => by simp [sumTo]
  | n + 1, h => by
    have h1 := sumTo_abs (n := n) fun k hk => h k (by omega)
    have h2 := h n (by omega)
    rw [sumTo, Nat.add_mul, Nat.one_mul]
    omega
theorem term_abs {s x d : Int} {B D : Nat} (hs : s = 1 ∨ s = -1) (hx : x.natAbs ≤ B) (hd : d.natAbs ≤ D) : (s * x * d).natAbs ≤ B * D := by
  rw [Int.natAbs_mul, Int.natAbs_mul]
  have e : s.natAbs = 1 := by rcases hs with rfl | rfl <;> rfl
  rw [e, Nat.one_mul]
  exact Nat.mul_le_mul hx hd
theorem detF_abs {B : Nat} : ∀ {n : Nat} {f : Nat → Nat → Int}, (∀ i j, i < n → j < n → (f i j).natAbs ≤ B) → (detF n f).natAbs ≤ detB B n
  | 0, _, _ => Nat.le_refl _
  | n + 1, f, h => by
    rw [detF, detB]
    refine sumTo_abs fun j hj => term_abs (sgn_two j) (h 0 j (by omega) hj) (detF_abs fun a b ha hb => ?_)
    exact h _ _ (by omega) (by split <;> omega)

/-! ### Lists of numbers -/

/-- How many numbers are left of the first n without zeros at the end. -/
def cutLen (p : List Int) : Nat → Nat
  | 0 => 0
  | n + 1 => if p.getD n 0 = 0 then cutLen p n else n + 1
theorem cutLen_le (p : List Int) : ∀ n, cutLen p n ≤ n
  | 0 => Nat.le_refl _
  | n + 1 => by
    rw [cutLen]
    split
    · exact Nat.le_trans (cutLen_le p n) (by omega)
    · exact Nat.le_refl _
def cutL (p : List Int) : List Int := p.take (cutLen p p.length)
def fitsB (p : List Int) (most : Nat) : Bool := (p.all fun x => decide (-1000000 ≤ x ∧ x ≤ 1000000)) && decide (p.length ≤ most)
theorem fits_at {p : List Int} {most : Nat} (h : fitsB p most = true) : p.length ≤ most ∧ ∀ k, (p.getD k 0).natAbs ≤ 1000000 := by
  unfold fitsB at h
  rw [Bool.and_eq_true, decide_eq_true_iff, List.all_eq_true] at h
  refine ⟨h.2, fun k => ?_⟩
  by_cases hk : k < p.length
  · have := h.1 p[k] (List.getElem_mem hk)
    rw [decide_eq_true_iff] at this
    rw [List.getD_eq_getElem?_getD, List.getElem?_eq_getElem hk, Option.getD_some]
    omega
  · rw [List.getD_eq_getElem?_getD, List.getElem?_eq_none (by omega)]
    decide
/-- The product's numbers. -/
def termC (a b : List Int) (t i : Nat) : Int := if i ≤ t ∧ t - i < b.length then a.getD i 0 * b.getD (t - i) 0 else 0
def convL (a b : List Int) : List Int := (List.range (a.length + b.length - 1)).map fun t => sumTo a.length (termC a b t)
def mulP (a b : List Int) : List Int := if fitsB a 30 && fitsB b 30 && decide (a ≠ [] ∧ b ≠ []) then cutL (convL a b) else []
/-- The value of the last n numbers. -/
def hor (p : List Int) (x : Int) : Nat → Int
  | 0 => 0
  | n + 1 => hor p x n * x + p.getD (p.length - 1 - n) 0
def atP (p : List Int) (x : Int) : Option Int := if fitsB p 5 && decide (-1000 ≤ x ∧ x ≤ 1000) then some (hor p x p.length) else none

/-! ### Small matrices -/

def smallM (m : List (List Int)) : Bool := isMat m && decide (m.length ≤ 4) && m.all fun r => r.all fun x => decide (x ≤ 9)
def detOk (t : List (List Int)) : Bool := decide (t.length ≤ 4) && t.all fun r => decide (r.length = t.length) && r.all fun x => decide (-10000 ≤ x ∧ x ≤ 10000)
def detT (t : List (List Int)) : Int := detF t.length (cellOf t)
def detS (t : List (List Int)) : Option Int := if detOk t then some (detT t) else none
def rootM (m : List (List Int)) : Bool := smallM m && decide (detT m ≠ 0)
/-- The vertices of which the bits are set. -/
def bitsL (n s : Nat) : List Nat := (List.range n).filter fun i => s.testBit i
def minorF (m : List (List Int)) (l : List Nat) : Int := detF l.length fun a b => cellOf m (l.getD a 0) (l.getD b 0)
def minorsN (m : List (List Int)) (size : Nat) : Int := sumTo (2 ^ m.length) fun s => if (bitsL m.length s).length = size then minorF m (bitsL m.length s) else 0
def turnedL (m : List (List Int)) : List Int := (List.range (m.length + 1)).map fun k => sgn k * minorsN m k
def charL (m : List (List Int)) : List Int := (List.range (m.length + 1)).map fun k => sgn (m.length - k) * minorsN m (m.length - k)
def turnedM (m : List (List Int)) : List Int := if smallM m then cutL (turnedL m) else []
def charM (m : List (List Int)) : List Int := if smallM m then charL m else []
end Go.Proofs.Ytalclebehbdliaa
namespace Go.Proofs.Ytalclebehbdliaa
open Go Go.RowKit

theorem small_facts {m : List (List Int)} (h : smallM m = true) : isMat m = true ∧ m.length ≤ 4 ∧ ∀ i j, i < m.length → j < m.length → 0 ≤ cellOf m i j ∧ cellOf m i j ≤ 9 := by
  unfold smallM at h
  rw [Bool.and_eq_true, Bool.and_eq_true, decide_eq_true_iff, List.all_eq_true] at h
  obtain ⟨⟨h1, h2⟩, h3⟩ := h
  have hf := isMat_facts h1
  refine ⟨h1, h2, fun i j hi hj => ⟨(hf.cell i j hi hj).1, ?_⟩⟩
  have h4 := h3 m[i] (List.getElem_mem hi)
  rw [List.all_eq_true] at h4
  have hr := hf.row i hi
  have e : m.getD i [] = m[i] := by simp [List.getD, hi]
  rw [e] at hr
  have h5 := h4 (m[i])[j] (List.getElem_mem (by omega))
  rw [decide_eq_true_iff] at h5
  unfold cellOf
  rw [e, List.getD_eq_getElem?_getD, List.getElem?_eq_getElem (by omega)]
  exact h5
/-- The sums of minors, for each number of rows: none, one, all. -/
theorem minors_zero {m : List (List Int)} (h : m.length ≤ 4) : minorsN m 0 = 1 := by
  unfold minorsN
  have hn : m.length = 0 ∨ m.length = 1 ∨ m.length = 2 ∨ m.length = 3 ∨ m.length = 4 := by omega
  rcases hn with e | e | e | e | e <;> rw [e] <;> simp [sumTo, bitsL, List.range, List.range.loop, List.filter, Nat.testBit, minorF, detF]
theorem minors_one {m : List (List Int)} (h : m.length ≤ 4) : minorsN m 1 = sumTo m.length fun k => cellOf m k k := by
  unfold minorsN
  have hn : m.length = 0 ∨ m.length = 1 ∨ m.length = 2 ∨ m.length = 3 ∨ m.length = 4 := by omega
  rcases hn with e | e | e | e | e <;> rw [e] <;> simp [sumTo, bitsL, List.range, List.range.loop, List.filter, Nat.testBit, minorF, detF, sgn]
theorem minors_all {m : List (List Int)} (h : m.length ≤ 4) : minorsN m m.length = detT m := by
  unfold minorsN detT
  have hn : m.length = 0 ∨ m.length = 1 ∨ m.length = 2 ∨ m.length = 3 ∨ m.length = 4 := by omega
  rcases hn with e | e | e | e | e <;> rw [e] <;> simp [sumTo, bitsL, List.range, List.range.loop, List.filter, Nat.testBit, minorF, detF, sgn, lessF]
theorem bitsL_mem {n s i : Nat} (h : i ∈ bitsL n s) : i < n := by
  unfold bitsL at h
  exact List.mem_range.1 (List.mem_filter.1 h).1
theorem bitsL_len (n s : Nat) : (bitsL n s).length ≤ n := by
  unfold bitsL
  exact Nat.le_trans (List.length_filter_le _ _) (by simp)
theorem bitsL_at {n s a : Nat} (h : a < (bitsL n s).length) : (bitsL n s).getD a 0 < n := by
  rw [List.getD_eq_getElem?_getD, List.getElem?_eq_getElem h]
  exact bitsL_mem (List.getElem_mem h)
theorem minors_turn {m : List (List Int)} (h : m.length ≤ 4) (k : Nat) : minorsN (turnM m) k = minorsN m k := by
  have hl : (turnM m).length = m.length := tabOf_length _ _ _
  unfold minorsN
  rw [hl]
  refine sumTo_congr _ fun s _ => ?_
  split
  · unfold minorF
    have hb := bitsL_len m.length s
    rw [← detF_turn (n := (bitsL m.length s).length) (by omega)]
    refine detF_congr fun a b ha hb => ?_
    unfold turnM
    rw [tabOf_cell (bitsL_at hb) (bitsL_at ha)]
  · rfl
theorem turn_small {m : List (List Int)} (h : smallM m = true) : smallM (turnM m) = true := by
  obtain ⟨h1, h2, h3⟩ := small_facts h
  have hf := isMat_facts h1
  have hl : (turnM m).length = m.length := tabOf_length _ _ _
  have hm : isMat (turnM m) = true := isMat_iff.2 ⟨by rw [hl]; exact ⟨hf.pos, hf.le⟩, fun i hi => by
    rw [hl] at hi
    refine ⟨?_, fun j hj => ?_⟩
    · unfold turnM; rw [tabOf_row hi, tabOf_length]; simp
    · rw [hl] at hj
      unfold turnM
      rw [tabOf_cell hi hj]
      exact hf.cell j i hj hi⟩
  unfold smallM
  rw [hm, hl, decide_eq_true h2, Bool.true_and, Bool.true_and, List.all_eq_true]
  intro r hr
  unfold turnM tabOf at hr
  obtain ⟨i, hi, rfl⟩ := List.mem_map.1 hr
  rw [List.all_eq_true]
  intro x hx
  obtain ⟨j, hj, rfl⟩ := List.mem_map.1 hx
  rw [decide_eq_true_iff]
  exact (h3 j i (List.mem_range.1 hj) (List.mem_range.1 hi)).2
theorem char_turn {m : List (List Int)} (h : smallM m = true) : charM (turnM m) = charM m := by
  obtain ⟨_, h2, _⟩ := small_facts h
  have hl : (turnM m).length = m.length := tabOf_length _ _ _
  unfold charM
  rw [if_pos h, if_pos (turn_small h)]
  unfold charL
  rw [hl]
  refine List.map_congr_left fun k _ => ?_
  rw [minors_turn h2]
theorem charL_len (m : List (List Int)) : (charL m).length = m.length + 1 := by simp [charL]
theorem charL_at (m : List (List Int)) {k : Nat} (hk : k ≤ m.length) : (charL m).getD k 0 = sgn (m.length - k) * minorsN m (m.length - k) := by
  unfold charL
  rw [List.getD_eq_getElem?_getD, List.getElem?_map, List.getElem?_range (by omega)]
  rfl
theorem minors_abs {m : List (List Int)} (h : smallM m = true) (k : Nat) : (minorsN m k).natAbs ≤ 1000000 := by
  obtain ⟨h1, h2, h3⟩ := small_facts h
  have hab : ∀ i j, i < m.length → j < m.length → (cellOf m i j).natAbs ≤ 9 := fun i j hi hj => by have := h3 i j hi hj; omega
  by_cases hk : k = m.length
  · subst hk
    rw [minors_all h2]
    have hd := detF_abs (B := 9) (n := m.length) (f := cellOf m) hab
    have hn : m.length = 0 ∨ m.length = 1 ∨ m.length = 2 ∨ m.length = 3 ∨ m.length = 4 := by omega
    unfold detT
    rcases hn with e | e | e | e | e <;> rw [e] at hd ⊢ <;> simp [detB] at hd <;> omega
  · have hs : (minorsN m k).natAbs ≤ 2 ^ m.length * 4374 := by
      unfold minorsN
      refine sumTo_abs fun s _ => ?_
      split
      · next he =>
        have hb := bitsL_len m.length s
        have hd := detF_abs (B := 9) (n := (bitsL m.length s).length) (f := fun a b => cellOf m ((bitsL m.length s).getD a 0) ((bitsL m.length s).getD b 0)) fun a b ha hb => hab _ _ (bitsL_at ha) (bitsL_at hb)
        unfold minorF
        rw [he] at hd ⊢
        have hk3 : k = 0 ∨ k = 1 ∨ k = 2 ∨ k = 3 := by omega
        rcases hk3 with e | e | e | e <;> rw [e] at hd ⊢ <;> simp only [detB] at hd <;> omega
      · decide
    have hn : m.length = 0 ∨ m.length = 1 ∨ m.length = 2 ∨ m.length = 3 ∨ m.length = 4 := by omega
    rcases hn with e | e | e | e | e <;> rw [e] at hs <;> omega
theorem char_fits {m : List (List Int)} (h : smallM m = true) : fitsB (charL m) 5 = true := by
  obtain ⟨_, h2, _⟩ := small_facts h
  unfold fitsB
  rw [charL_len, decide_eq_true (by omega), Bool.and_true, List.all_eq_true]
  intro x hx
  unfold charL at hx
  obtain ⟨k, _, rfl⟩ := List.mem_map.1 hx
  have := minors_abs h (m.length - k)
  rw [decide_eq_true_iff]
  rcases sgn_two (m.length - k) with e | e <;> rw [e] <;> omega
theorem hor_zero (p : List Int) : ∀ n, 0 < n → hor p 0 n = p.getD (p.length - n) 0
  | n + 1, _ => by rw [hor, Int.mul_zero, Int.zero_add, show p.length - 1 - n = p.length - (n + 1) by omega]
/-- The value at 0. -/
theorem char_at_zero {m : List (List Int)} (h : smallM m = true) : atP (charL m) 0 = some (sgn m.length * detT m) := by
  obtain ⟨_, h2, _⟩ := small_facts h
  unfold atP
  rw [char_fits h, Bool.true_and, if_pos (by decide), hor_zero _ _ (by rw [charL_len]; omega), Nat.sub_self, charL_at m (Nat.zero_le _), Nat.sub_zero, minors_all h2]

/-! ### The value of a product -/
theorem hor_two (p : List Int) (x : Int) : ∀ n, n ≤ p.length → hor p x p.length = hor p x n * x ^ (p.length - n) + sumTo (p.length - n) fun k => p.getD k 0 * x ^ k := by
  intro n hn
  obtain ⟨d, hd⟩ : ∃ d, p.length = n + d := ⟨p.length - n, by omega⟩
  rw [show p.length - n = d by omega]
  clear hn
  induction d generalizing n with
  | zero => rw [hd]; simp [sumTo]
  | succ d ih =>
    have h1 := ih (n + 1) (by omega)
    rw [h1, hor, sumTo, show p.length - 1 - n = d by omega, Int.pow_succ]
    grind
theorem hor_sum (p : List Int) (x : Int) : hor p x p.length = sumTo p.length fun k => p.getD k 0 * x ^ k := by
  have h := hor_two p x 0 (Nat.zero_le _)
  rw [hor, Int.zero_mul, Int.zero_add, Nat.sub_zero] at h
  exact h
theorem cutLen_zero (p : List Int) : ∀ {n k : Nat}, cutLen p n ≤ k → k < n → p.getD k 0 = 0
  | n + 1, k, h, hk => by
    rw [cutLen] at h
    split at h
    · next hz =>
      by_cases e : k = n
      · subst e; exact hz
      · exact cutLen_zero p h (by omega)
    · omega
theorem sumTo_drop {f : Nat → Int} {n : Nat} : ∀ {d : Nat}, (∀ k, n ≤ k → k < n + d → f k = 0) → sumTo (n + d) f = sumTo n f
  | 0, _ => rfl
  | d + 1, h => by
    rw [← Nat.add_assoc, sumTo, h (n + d) (by omega) (by omega), sumTo_drop (d := d) fun k h1 h2 => h k h1 (by omega)]
    omega
theorem cut_value (p : List Int) (x : Int) : (sumTo (cutL p).length fun k => (cutL p).getD k 0 * x ^ k) = sumTo p.length fun k => p.getD k 0 * x ^ k := by
  have hle := cutLen_le p p.length
  have hl : (cutL p).length = cutLen p p.length := by unfold cutL; rw [List.length_take]; omega
  rw [hl]
  obtain ⟨d, hd⟩ : ∃ d, p.length = cutLen p p.length + d := ⟨p.length - cutLen p p.length, by omega⟩
  have h1 : sumTo (cutLen p p.length) (fun k => (cutL p).getD k 0 * x ^ k) = sumTo (cutLen p p.length) fun k => p.getD k 0 * x ^ k := sumTo_congr _ fun k hk => by
    have : (cutL p).getD k 0 = p.getD k 0 := by
      unfold cutL
      simp [List.getD_eq_getElem?_getD, hk]
    rw [this]
  rw [h1]
  have h2 := sumTo_drop (f := fun k => p.getD k 0 * x ^ k) (n := cutLen p p.length) (d := d) fun k h3 h4 => by
    rw [cutLen_zero p h3 (by omega), Int.zero_mul]
  rw [← h2, ← hd]
theorem conv_value (a b : List Int) (ha : a.length ≤ 4) (hb : b.length ≤ 2) (ha0 : a ≠ []) (hb0 : b ≠ []) (x : Int) : (sumTo (convL a b).length fun k => (convL a b).getD k 0 * x ^ k) = (sumTo a.length fun k => a.getD k 0 * x ^ k) * sumTo b.length fun k => b.getD k 0 * x ^ k := by
  match b, hb0, hb with
  | [b0], _, _ =>
    match a, ha0, ha with
    | [a0], _, _ => simp [convL, termC, sumTo, List.range, List.range.loop]
    | [a0, a1], _, _ => simp [convL, termC, sumTo, List.range, List.range.loop]; grind
    | [a0, a1, a2], _, _ => simp [convL, termC, sumTo, List.range, List.range.loop]; grind
    | [a0, a1, a2, a3], _, _ => simp [convL, termC, sumTo, List.range, List.range.loop]; grind
  | [b0, b1], _, _ =>
    match a, ha0, ha with
    | [a0], _, _ => simp [convL, termC, sumTo, List.range, List.range.loop]; grind
    | [a0, a1], _, _ => simp [convL, termC, sumTo, List.range, List.range.loop]; grind
    | [a0, a1, a2], _, _ => simp [convL, termC, sumTo, List.range, List.range.loop]; grind
    | [a0, a1, a2, a3], _, _ => simp [convL, termC, sumTo, List.range, List.range.loop]; grind
theorem prod_value {a b : List Int} {x : Int} (ha : a.length ≤ 4) (hb : b.length ≤ 2) (hp : mulP a b ≠ []) : hor a x a.length * hor b x b.length = hor (mulP a b) x (mulP a b).length := by
  unfold mulP at hp ⊢
  split at hp
  · next h =>
    rw [if_pos h]
    rw [Bool.and_eq_true, decide_eq_true_iff] at h
    rw [hor_sum, hor_sum, hor_sum, cut_value, conv_value a b ha hb h.2.1 h.2.2]
  · exact absurd rfl hp
end Go.Proofs.Ytalclebehbdliaa
namespace Go.Proofs.Ytalclebehbdliaa
open Go Go.RowKit

/-! ### Sums -/

theorem sumTo_left (f : Nat → Int) : ∀ n : Nat, sumTo (n + 1) f = f 0 + sumTo n fun k => f (k + 1)
  | 0 => by simp [sumTo]
  | n + 1 => by rw [sumTo, sumTo_left f n, sumTo]; omega
theorem sumTo_mulc (c : Int) (f : Nat → Int) : ∀ n : Nat, (sumTo n fun k => c * f k) = c * sumTo n f
  | 0 => by simp [sumTo]
  | n + 1 => by rw [sumTo, sumTo_mulc c f n, sumTo, Int.mul_add]
theorem sumTo_addf (f g : Nat → Int) : ∀ n : Nat, (sumTo n fun k => f k + g k) = sumTo n f + sumTo n g
  | 0 => rfl
  | n + 1 => by rw [sumTo, sumTo_addf f g n, sumTo, sumTo]; omega
theorem sumTo_mono2 {f g : Nat → Int} : ∀ {n : Nat}, (∀ k, k < n → f k ≤ g k) → sumTo n f ≤ sumTo n g
  | 0, _ => Int.le_refl _
  | n + 1, h => by
    have h1 := sumTo_mono2 (n := n) fun k hk => h k (by omega)
    have h2 := h n (by omega)
    rw [sumTo, sumTo]; omega
theorem sumTo_nonneg {f : Nat → Int} {n : Nat} (h : ∀ k, k < n → 0 ≤ f k) : 0 ≤ sumTo n f := by
  have h1 := sumTo_mono2 (f := fun _ => 0) h
  have h2 : (sumTo n fun _ => (0 : Int)) = 0 := by
    clear h h1
    induction n with
    | zero => rfl
    | succ n ih => rw [sumTo, ih]; rfl
  omega
theorem sumTo_nonpos {f : Nat → Int} {n : Nat} (h : ∀ k, k < n → f k ≤ 0) : sumTo n f ≤ 0 := by
  have h1 := sumTo_nonneg (f := fun k => -1 * f k) (n := n) fun k hk => by have := h k hk; omega
  rw [sumTo_mulc] at h1
  omega
theorem sumTo_term {f : Nat → Int} {n k : Nat} (hk : k < n) (h : ∀ j, j < n → 0 ≤ f j) : f k ≤ sumTo n f := by
  induction n with
  | zero => omega
  | succ n ih =>
    rw [sumTo]
    by_cases e : k = n
    · subst e
      have := sumTo_nonneg (f := f) (n := k) fun j hj => h j (by omega)
      omega
    · have := ih (by omega) fun j hj => h j (by omega)
      have := h n (by omega)
      omega
theorem sumTo_pick (c : Int) (x : Nat → Int) {n i : Nat} (hi : i < n) : (sumTo n fun j => (if i = j then c else 0) * x j) = c * x i := by
  induction n with
  | zero => omega
  | succ n ih =>
    rw [sumTo]
    by_cases e : i = n
    · subst e
      rw [if_pos rfl]
      have h0 : (sumTo i fun j => (if i = j then c else 0) * x j) = sumTo i fun _ => 0 := sumTo_congr _ fun j hj => by rw [if_neg (by omega), Int.zero_mul]
      have h1 : (sumTo i fun _ => (0 : Int)) = 0 := by
        have h2 := sumTo_nonneg (f := fun _ => (0 : Int)) (n := i) fun _ _ => Int.le_refl _
        have h3 := sumTo_nonpos (f := fun _ => (0 : Int)) (n := i) fun _ _ => Int.le_refl _
        omega
      rw [h0, h1, Int.zero_add]
    · rw [ih (by omega), if_neg e, Int.zero_mul, Int.add_zero]

/-! ### Leading minors -/

def chio (a : Nat → Nat → Int) : Nat → Nat → Int := fun i j => a 0 0 * a (i + 1) (j + 1) - a (i + 1) 0 * a 0 (j + 1)
theorem chio_one (a : Nat → Nat → Int) : detF 1 (chio a) = detF 2 a := by
  simp [detF, sumTo, sgn, lessF, chio]
  grind
theorem chio_two (a : Nat → Nat → Int) : detF 2 (chio a) = a 0 0 * detF 3 a := by
  simp [detF, sumTo, sgn, lessF, chio]
  grind
theorem chio_three (a : Nat → Nat → Int) : detF 3 (chio a) = a 0 0 * (a 0 0 * detF 4 a) := by
  simp [detF, sumTo, sgn, lessF, chio]
  grind
/-- All leading minors are positive, by elimination. -/
def posE : Nat → (Nat → Nat → Int) → Prop
  | 0, _ => True
  | n + 1, a => 0 < a 0 0 ∧ posE n (chio a)
theorem pos_mul_iff {c x : Int} (hc : 0 < c) : 0 < c * x ↔ 0 < x :=
  ⟨fun h => Int.pos_of_mul_pos_right h (by omega), fun h => Int.mul_pos hc h⟩
theorem detF_one (a : Nat → Nat → Int) : detF 1 a = a 0 0 := by simp [detF, sumTo, sgn]
theorem posE_minors : ∀ {n : Nat}, n ≤ 4 → ∀ (a : Nat → Nat → Int), posE n a ↔ ∀ k, k < n → 0 < detF (k + 1) a
  | 0, _, a => ⟨fun _ k hk => by omega, fun _ => trivial⟩
  | n + 1, hn, a => by
    rw [posE, posE_minors (n := n) (by omega) (chio a)]
    have hstep : 0 < a 0 0 → ∀ k, k < n → (0 < detF (k + 1) (chio a) ↔ 0 < detF (k + 2) a) := fun h0 k hk => by
      have h3 : k = 0 ∨ k = 1 ∨ k = 2 := by omega
      rcases h3 with rfl | rfl | rfl
      · rw [chio_one]
      · rw [chio_two, pos_mul_iff h0]
      · rw [chio_three, pos_mul_iff h0, pos_mul_iff h0]
    constructor
    · rintro ⟨h0, h1⟩ k hk
      cases k with
      | zero => rw [detF_one]; exact h0
      | succ k => exact (hstep h0 k (by omega)).1 (h1 k (by omega))
    · intro h
      have h0 : 0 < a 0 0 := by have := h 0 (by omega); rwa [detF_one] at this
      exact ⟨h0, fun k hk => (hstep h0 k hk).2 (h (k + 1) (by omega))⟩

/-! ### Positive vectors -/

def rowX (n : Nat) (a : Nat → Nat → Int) (x : Nat → Int) (i : Nat) : Int := sumTo n fun j => a i j * x j
def vecE (n : Nat) (a : Nat → Nat → Int) : Prop := ∃ x : Nat → Int, (∀ i, i < n → 0 < x i) ∧ ∀ i, i < n → 0 < rowX n a x i
def zE (n : Nat) (a : Nat → Nat → Int) : Prop := ∀ i j, i < n → j < n → i ≠ j → a i j ≤ 0
theorem zE.chio {n : Nat} {a : Nat → Nat → Int} (h : zE (n + 1) a) (h0 : 0 < a 0 0) : zE n (chio a) := by
  intro i j hi hj hij
  unfold Go.Proofs.Ytalclebehbdliaa.chio
  have h1 := h (i + 1) (j + 1) (by omega) (by omega) (by omega)
  have h2 := h (i + 1) 0 (by omega) (by omega) (by omega)
  have h3 := h 0 (j + 1) (by omega) (by omega) (by omega)
  have h4 : a 0 0 * a (i + 1) (j + 1) ≤ 0 := Int.mul_nonpos_of_nonneg_of_nonpos (by omega) h1
  have h5 : 0 ≤ a (i + 1) 0 * a 0 (j + 1) := Int.mul_nonneg_of_nonpos_of_nonpos h2 h3
  omega
theorem rowX_chio (n : Nat) (a : Nat → Nat → Int) (y : Nat → Int) (i : Nat) : rowX n (chio a) y i = a 0 0 * (sumTo n fun j => a (i + 1) (j + 1) * y j) - a (i + 1) 0 * sumTo n fun j => a 0 (j + 1) * y j := by
  unfold rowX chio
  have h1 := sumTo_mulc (a 0 0) (fun j => a (i + 1) (j + 1) * y j) n
  have h2 := sumTo_mulc (-a (i + 1) 0) (fun j => a 0 (j + 1) * y j) n
  have h3 := sumTo_addf (fun j => a 0 0 * (a (i + 1) (j + 1) * y j)) (fun j => -a (i + 1) 0 * (a 0 (j + 1) * y j)) n
  rw [h1, h2] at h3
  rw [Int.sub_eq_add_neg, ← Int.neg_mul, ← h3]
  exact sumTo_congr _ fun j _ => by grind
theorem posE_vecE : ∀ {n : Nat} {a : Nat → Nat → Int}, zE n a → (posE n a ↔ vecE n a)
  | 0, a, _ => ⟨fun _ => ⟨fun _ => 1, fun i hi => by omega, fun i hi => by omega⟩, fun _ => trivial⟩
  | n + 1, a, hz => by
    have hcol : ∀ i, i < n → a (i + 1) 0 ≤ 0 := fun i hi => hz (i + 1) 0 (by omega) (by omega) (by omega)
    have hrow : ∀ j, j < n → a 0 (j + 1) ≤ 0 := fun j hj => hz 0 (j + 1) (by omega) (by omega) (by omega)
    constructor
    · rintro ⟨h0, h1⟩
      obtain ⟨y, hy, hb⟩ := (posE_vecE (hz.chio h0)).1 h1
      have hS : (sumTo n fun j => a 0 (j + 1) * y j) ≤ 0 := sumTo_nonpos fun j hj => Int.mul_nonpos_of_nonpos_of_nonneg (hrow j hj) (by have := hy j hj; omega)
      obtain ⟨S, hSS⟩ : ∃ S, (sumTo n fun j => a 0 (j + 1) * y j) = S := ⟨_, rfl⟩
      obtain ⟨K, hK⟩ : ∃ K, 1 + (sumTo n fun i => -1 * a (i + 1) 0) = K := ⟨_, rfl⟩
      have hK1 : ∀ i, i < n → 1 - a (i + 1) 0 ≤ K := fun i hi => by
        have := sumTo_term (f := fun i => -1 * a (i + 1) 0) hi fun j hj => by have := hcol j hj; omega
        rw [← hK]
        omega
      have hK0 : 1 ≤ K := by
        have := sumTo_nonneg (f := fun i => -1 * a (i + 1) 0) (n := n) fun j hj => by have := hcol j hj; omega
        omega
      rw [hSS] at hS
      have hKS : K * S ≤ 0 := Int.mul_nonpos_of_nonneg_of_nonpos (by omega) hS
      have hsum : ∀ i, (sumTo n fun j => a i (j + 1) * (K * a 0 0 * y j)) = K * a 0 0 * sumTo n fun j => a i (j + 1) * y j := fun i => by
        rw [← sumTo_mulc]
        exact sumTo_congr _ fun j _ => by grind
      refine ⟨fun k => match k with | 0 => 1 - K * S | k + 1 => K * a 0 0 * y k, fun i hi => ?_, fun i hi => ?_⟩
      · cases i with
        | zero => show 0 < 1 - K * S; omega
        | succ i => exact Int.mul_pos (Int.mul_pos (by omega) h0) (hy i (by omega))
      · unfold rowX
        rw [sumTo_left]
        show 0 < a i 0 * (1 - K * S) + sumTo n fun j => a i (j + 1) * (K * a 0 0 * y j)
        rw [hsum i]
        cases i with
        | zero =>
          rw [hSS]
          have e : a 0 0 * (1 - K * S) + K * a 0 0 * S = a 0 0 := by grind
          rw [e]; exact h0
        | succ i =>
          have hbi := hb i (by omega)
          rw [rowX_chio, hSS] at hbi
          generalize (sumTo n fun j => a (i + 1) (j + 1) * y j) = T at hbi ⊢
          have e : a (i + 1) 0 * (1 - K * S) + K * a 0 0 * T = a (i + 1) 0 + K * (a 0 0 * T - a (i + 1) 0 * S) := by grind
          rw [e]
          have h2 : K * 1 ≤ K * (a 0 0 * T - a (i + 1) 0 * S) := Int.mul_le_mul_of_nonneg_left (by omega) (by omega)
          have h3 := hK1 i (by omega)
          omega
    · rintro ⟨x, hx, hb⟩
      have hb0 := hb 0 (by omega)
      unfold rowX at hb0
      rw [sumTo_left] at hb0
      have hS : (sumTo n fun j => a 0 (j + 1) * x (j + 1)) ≤ 0 := sumTo_nonpos fun j hj => Int.mul_nonpos_of_nonpos_of_nonneg (hrow j hj) (by have := hx (j + 1) (by omega); omega)
      have hx0 := hx 0 (by omega)
      have h0 : 0 < a 0 0 := Int.pos_of_mul_pos_left (show 0 < a 0 0 * x 0 by omega) (by omega)
      refine ⟨h0, (posE_vecE (hz.chio h0)).2 ⟨fun k => x (k + 1), fun i hi => hx (i + 1) (by omega), fun i hi => ?_⟩⟩
      rw [rowX_chio]
      have hbi := hb (i + 1) (by omega)
      unfold rowX at hbi
      rw [sumTo_left] at hbi
      have hc := hcol i hi
      generalize (sumTo n fun j => a 0 (j + 1) * x (j + 1)) = S at *
      generalize (sumTo n fun j => a (i + 1) (j + 1) * x (j + 1)) = T at *
      have h1 : 0 < a 0 0 * (a (i + 1) 0 * x 0 + T) := Int.mul_pos h0 hbi
      have h2 : a (i + 1) 0 * (a 0 0 * x 0 + S) ≤ 0 := Int.mul_nonpos_of_nonpos_of_nonneg hc (by omega)
      have e : a 0 0 * T - a (i + 1) 0 * S = a 0 0 * (a (i + 1) 0 * x 0 + T) - a (i + 1) 0 * (a 0 0 * x 0 + S) := by grind
      rw [e]; omega
end Go.Proofs.Ytalclebehbdliaa
namespace Go.Proofs.Ytalclebehbdliaa
open Go Go.RowKit

def lt (j : Nat) : UInt8 := UInt8.ofNat (97 + j)
theorem app_list (w : ByteArray) (j : Nat) : (w ++ letterB j).data.toList = w.data.toList ++ [lt j] := by
  rw [ba_append]; rfl
theorem app_size (w : ByteArray) (j : Nat) : (w ++ letterB j).size = w.size + 1 := by
  rw [ByteArray.size_append, letterB_size]
theorem ch_app {w : ByteArray} {j i : Nat} (h : i < w.size) : ch (w ++ letterB j) i = ch w i := by
  unfold ch
  rw [app_list, List.getD_eq_getElem?_getD, List.getElem?_append_left (by exact h), ← List.getD_eq_getElem?_getD]
theorem ch_end (w : ByteArray) (j : Nat) : ch (w ++ letterB j) w.size = lt j := by
  unfold ch
  rw [app_list, List.getD_eq_getElem?_getD, List.getElem?_append_right (by exact Nat.le_refl _), show w.size - w.data.toList.length = 0 from Nat.sub_self _]; rfl
theorem in_iff {ps : List ByteArray} {k : Nat} (hk : k ≤ 3) {w : ByteArray} (hw : w.data.toList.all (isL (k : Int)) = true) (h2 : 2 ≤ w.size) :
    inM ps (pairsW k ps) w = true ↔ avoids ps w = true ∧ ∀ i, i + 2 ≤ w.size → Lively (k : Int) ps (ch w i) (ch w (i + 1)) := by
  rw [in_same hk hw, Bool.and_eq_true]
  unfold coverB
  rw [if_neg (by omega), if_neg (by omega), List.all_eq_true]
  refine and_congr_right fun _ => ?_
  constructor
  · intro h i hi
    exact (setB_at hk (ch_isL hw (by omega)) (ch_isL hw (by omega))).1 (h i (List.mem_range.2 (by omega)))
  · intro h i hi
    have := List.mem_range.1 hi
    exact (setB_at hk (ch_isL hw (by omega)) (ch_isL hw (by omega))).2 (h i (by omega))
theorem last_three {w : ByteArray} (h2 : 2 ≤ w.size) (j : Nat) : (tri (ch w (w.size - 2)) (ch w (w.size - 1)) (lt j)).data.toList <:+ (w ++ letterB j).data.toList := by
  have h := tri_at (w := w ++ letterB j) (i := w.size - 2) (by rw [app_size]; omega)
  have hl : w.data.toList.length = w.size := rfl
  rw [app_list]
  refine ⟨w.data.toList.take (w.size - 2), ?_⟩
  have e : w.data.toList.drop (w.size - 2) = [ch w (w.size - 2), ch w (w.size - 1)] := by
    rw [List.drop_eq_getElem_cons (by omega), List.drop_eq_getElem_cons (by omega), List.drop_eq_nil_of_le (by omega)]
    unfold ch
    rw [List.getD_eq_getElem?_getD, List.getElem?_eq_getElem (by omega), List.getD_eq_getElem?_getD, List.getElem?_eq_getElem (by omega)]
    simp only [Option.getD_some, show w.size - 2 + 1 = w.size - 1 by omega]
  have e2 : w.data.toList = w.data.toList.take (w.size - 2) ++ [ch w (w.size - 2), ch w (w.size - 1)] := by rw [← e, List.take_append_drop]
  show _ ++ [ch w (w.size - 2), ch w (w.size - 1), lt j] = _
  conv => rhs; rw [e2]
  simp
theorem avoids_next {ps : List ByteArray} (hps : ∀ f ∈ ps, f.size ≤ 3) {w : ByteArray} (h2 : 2 ≤ w.size) (j : Nat) :
    avoids ps (w ++ letterB j) = true ↔ avoids ps w = true ∧ avoids ps (tri (ch w (w.size - 2)) (ch w (w.size - 1)) (lt j)) = true := by
  constructor
  · intro h
    exact ⟨avoids_part (by rw [app_list]; exact (List.prefix_append _ _).isInfix) h, avoids_part (last_three h2 j).isInfix h⟩
  · rintro ⟨h, h3⟩
    unfold avoids at h h3 ⊢
    rw [List.all_eq_true] at h h3 ⊢
    intro f hf
    have k1 := h f hf
    have k3 := h3 f hf
    cases hc : Lib.contains (w ++ letterB j).data.toList f.data.toList with
    | false => rfl
    | true =>
      have hi := contains_iff.1 hc
      rw [app_list] at hi
      rcases List.infix_concat_iff.1 hi with hs | hs
      · rw [← app_list] at hs
        have := List.suffix_of_suffix_length_le hs (last_three h2 j) (hps f hf)
        rw [contains_iff.2 this.isInfix] at k3; cases k3
      · rw [contains_iff.2 hs] at k1; cases k1
theorem app_letters {k : Nat} (hk : k ≤ 3) {w : ByteArray} (hw : w.data.toList.all (isL (k : Int)) = true) {j : Nat} (hj : j < k) : (w ++ letterB j).data.toList.all (isL (k : Int)) = true := by
  rw [app_list, List.all_append, hw]
  simp only [List.all_cons, List.all_nil, Bool.and_true, Bool.true_and]
  exact isL_letter hk hj
/-- A word grows by a letter: what must be asked of the letter. -/
theorem in_next {ps : List ByteArray} {k : Nat} (hk : k ≤ 3) (hps : ∀ f ∈ ps, f.size ≤ 3) {w : ByteArray} (hw : w.data.toList.all (isL (k : Int)) = true) (h2 : 2 ≤ w.size) {j : Nat} (hj : j < k) :
    inM ps (pairsW k ps) (w ++ letterB j) = true ↔ inM ps (pairsW k ps) w = true ∧ avoids ps (tri (ch w (w.size - 2)) (ch w (w.size - 1)) (lt j)) = true ∧ Lively (k : Int) ps (ch w (w.size - 1)) (lt j) := by
  have hs := app_size w j
  rw [in_iff hk (app_letters hk hw hj) (by omega), in_iff hk hw h2, avoids_next hps h2 j]
  constructor
  · rintro ⟨⟨a1, a2⟩, h⟩
    refine ⟨⟨a1, fun i hi => ?_⟩, a2, ?_⟩
    · have := h i (by omega)
      rwa [ch_app (by omega), ch_app (by omega)] at this
    · have := h (w.size - 1) (by omega)
      rwa [ch_app (by omega), show w.size - 1 + 1 = w.size by omega, ch_end] at this
  · rintro ⟨⟨a1, h⟩, a2, h3⟩
    refine ⟨⟨a1, a2⟩, fun i hi => ?_⟩
    by_cases e : i + 2 ≤ w.size
    · rw [ch_app (by omega), ch_app (by omega)]; exact h i e
    · obtain rfl : i = w.size - 1 := by omega
      rw [ch_app (by omega), show w.size - 1 + 1 = w.size by omega, ch_end]; exact h3

/-! ### Counting -/
theorem flat_count {α β : Type} {p : β → Bool} {q : α → Bool} {f : α → List β} : ∀ (l : List α), (∀ x ∈ l, ((f x).filter p).length = if q x then 1 else 0) → ((l.flatMap f).filter p).length = (l.filter q).length
  | [], _ => rfl
  | x :: l, h => by
    rw [List.flatMap_cons, List.filter_append, List.length_append, flat_count l fun y hy => h y (List.mem_cons_of_mem _ hy), h x (List.mem_cons_self ..)]
    cases hq : q x with
    | true => rw [List.filter_cons_of_pos hq]; simp; omega
    | false => rw [List.filter_cons_of_neg (by rw [hq]; simp)]; simp
theorem sumTo_nil : ∀ S : Nat, sumTo S (fun _ => (0 : Int)) = 0
  | 0 => rfl
  | n + 1 => by unfold sumTo; rw [sumTo_nil n]; rfl
/-- A list is counted by the keys of its members, if each has just one. -/
theorem key_count {α : Type} (key : α → Nat → Bool) (S : Nat) : ∀ (l : List α), (∀ x ∈ l, ∃ i, i < S ∧ ∀ i', i' < S → key x i' = decide (i' = i)) → (l.length : Int) = sumTo S fun i => ((l.filter fun x => key x i).length : Int)
  | [], _ => (sumTo_nil S).symm
  | x :: l, h => by
    obtain ⟨i, hi, hk⟩ := h x (List.mem_cons_self ..)
    have ih := key_count key S l fun y hy => h y (List.mem_cons_of_mem _ hy)
    have e : (sumTo S fun i' => (((x :: l).filter fun y => key y i').length : Int)) = sumTo S fun i' => (if i = i' then 1 else 0) * 1 + ((l.filter fun y => key y i').length : Int) := sumTo_congr _ fun i' hi' => by
      by_cases e : i' = i
      · subst e
        rw [List.filter_cons_of_pos (by rw [hk i' hi']; simp), if_pos rfl]; simp; omega
      · rw [List.filter_cons_of_neg (by rw [hk i' hi']; simp [e]), if_neg (fun h => e h.symm)]; simp
    rw [e, sumTo_addf, sumTo_pick 1 (fun _ => 1) hi, ← ih, List.length_cons]; omega

/-! ### The graph -/
def langW (k : Nat) (ps : List ByteArray) (n : Nat) : List ByteArray := (allW k n).filter (inM ps (pairsW k ps))
def statesW (k : Nat) (ps : List ByteArray) : List ByteArray := langW k ps 2
def stW (k : Nat) (ps : List ByteArray) (i : Nat) : ByteArray := (statesW k ps).getD i ByteArray.empty
def goesW (ps : List ByteArray) (p q : ByteArray) : Bool := decide (ch p 1 = ch q 0) && avoids ps (tri (ch p 0) (ch p 1) (ch q 1))
def graphW (k : Nat) (ps : List ByteArray) : List (List Int) := tabOf (statesW k ps).length (statesW k ps).length fun i j => if goesW ps (stW k ps i) (stW k ps j) = true then 1 else 0
def lastW (w : ByteArray) : ByteArray := pr (ch w (w.size - 2)) (ch w (w.size - 1))
def cntW (k : Nat) (ps : List ByteArray) (n j : Nat) : Int := (((langW k ps n).filter fun w => decide (lastW w = stW k ps j)).length : Int)

theorem lt_inj {i j : Nat} (hi : i < 3) (hj : j < 3) (h : lt i = lt j) : i = j := by
  have := congrArg UInt8.toNat h
  unfold lt at this
  rw [UInt8.toNat_ofNat', UInt8.toNat_ofNat'] at this
  omega
theorem app_inj {w w' : ByteArray} {i j : Nat} (hi : i < 3) (hj : j < 3) (h : w ++ letterB i = w' ++ letterB j) : w = w' ∧ i = j := by
  have h1 := congrArg (fun x : ByteArray => x.data.toList) h
  simp only [app_list] at h1
  obtain ⟨h2, h3⟩ := List.append_inj' h1 rfl
  exact ⟨ba_ext h2, lt_inj hi hj (by simpa using h3)⟩
theorem allW_nodup {k : Nat} (hk : k ≤ 3) : ∀ n, (allW k n).Nodup
  | 0 => by show [ByteArray.empty].Nodup; simp
  | n + 1 => by
    show (longer (allW k n) k).Nodup
    unfold longer List.Nodup
    rw [List.pairwise_flatMap]
    refine ⟨fun w _ => ?_, (allW_nodup hk n).imp fun {a b} hab => ?_⟩
    · rw [List.pairwise_map]
      refine List.pairwise_lt_range.imp_of_mem ?_
      intro i j hi hj hij e
      have := List.mem_range.1 hi; have := List.mem_range.1 hj
      have := (app_inj (by omega) (by omega) e).2
      omega
    · intro x hx y hy e
      obtain ⟨i, hi, rfl⟩ := List.mem_map.1 hx
      obtain ⟨j, hj, rfl⟩ := List.mem_map.1 hy
      have := List.mem_range.1 hi; have := List.mem_range.1 hj
      exact hab (app_inj (by omega) (by omega) e).1
theorem mem_langW {k : Nat} (hk : k ≤ 3) {ps : List ByteArray} {n : Nat} {w : ByteArray} : w ∈ langW k ps n ↔ (w.size = n ∧ w.data.toList.all (isL (k : Int)) = true) ∧ inM ps (pairsW k ps) w = true := by
  unfold langW
  rw [List.mem_filter, mem_allW k hk]
theorem mem_states {k : Nat} (hk : k ≤ 3) {ps : List ByteArray} {q : ByteArray} : q ∈ statesW k ps ↔ ∃ a b, q = pr a b ∧ Lively (k : Int) ps a b := by
  unfold statesW
  rw [mem_langW hk]
  constructor
  · rintro ⟨⟨h1, h2⟩, h3⟩
    obtain ⟨a, b, rfl⟩ := is_pr h1
    exact ⟨a, b, rfl, ((in_iff hk h2 (Nat.le_refl _)).1 h3).2 0 (Nat.le_refl _)⟩
  · rintro ⟨a, b, rfl, h⟩
    obtain ⟨h1, h2, ⟨c, _, h4, _⟩, _⟩ := Lively.closed _ _ a b h
    have hw : (pr a b).data.toList.all (isL (k : Int)) = true := by
      show ([a, b].all (isL (k : Int))) = true
      simp [h1, h2]
    refine ⟨⟨rfl, hw⟩, (in_iff hk hw (Nat.le_refl _)).2 ⟨avoids_part ⟨[], [c], rfl⟩ h4, fun i hi => ?_⟩⟩
    obtain rfl : i = 0 := by have : i + 2 ≤ 2 := hi; omega
    exact h
theorem states_nodup {k : Nat} (hk : k ≤ 3) (ps : List ByteArray) : (statesW k ps).Nodup := (allW_nodup hk 2).filter _
theorem st_mem {k : Nat} {ps : List ByteArray} {i : Nat} (h : i < (statesW k ps).length) : stW k ps i ∈ statesW k ps := getD_mem h
theorem nodup_at {α : Type} {l : List α} (h : l.Nodup) {i j : Nat} (hi : i < l.length) (hj : j < l.length) (e : l[i] = l[j]) : i = j := by
  have hp := List.pairwise_iff_getElem.1 h
  rcases Nat.lt_trichotomy i j with h1 | h1 | h1
  · exact absurd e (hp i j hi hj h1)
  · exact h1
  · exact absurd e.symm (hp j i hj hi h1)
theorem st_at {k : Nat} (hk : k ≤ 3) {ps : List ByteArray} {q : ByteArray} (h : q ∈ statesW k ps) : ∃ i, i < (statesW k ps).length ∧ ∀ i', i' < (statesW k ps).length → decide (q = stW k ps i') = decide (i' = i) := by
  obtain ⟨i, hi, rfl⟩ := List.getElem_of_mem h
  refine ⟨i, hi, fun i' hi' => decide_eq_decide.2 ?_⟩
  unfold stW
  rw [List.getD_eq_getElem?_getD, List.getElem?_eq_getElem hi', Option.getD_some]
  exact ⟨fun e => (nodup_at (states_nodup hk ps) hi hi' e).symm, fun e => by subst e; rfl⟩
theorem last_state {k : Nat} (hk : k ≤ 3) {ps : List ByteArray} {n : Nat} (hn : 2 ≤ n) {w : ByteArray} (h : w ∈ langW k ps n) : lastW w ∈ statesW k ps := by
  obtain ⟨⟨rfl, h2⟩, h3⟩ := (mem_langW hk).1 h
  refine (mem_states hk).2 ⟨_, _, rfl, ?_⟩
  have := ((in_iff hk h2 hn).1 h3).2 (w.size - 2) (by omega)
  rwa [show w.size - 2 + 1 = w.size - 1 by omega] at this
theorem one_in {k b : Nat} (hb : b < k) (q : Bool) : ((List.range k).filter fun j => q && decide (j = b)).length = if q then 1 else 0 := by
  cases q with
  | false => simp
  | true =>
    simp only [Bool.true_and, if_true]
    have h := List.count_eq_length_filter (a := b) (l := List.range k)
    have e : ((List.range k).filter fun j => decide (j = b)) = (List.range k).filter (· == b) := List.filter_congr fun j _ => Bool.eq_iff_iff.2 (by simp)
    rw [e, ← h]
    have hn := List.nodup_range (n := k)
    have h1 := List.nodup_iff_count.1 hn b
    have h2 := List.count_pos_iff.2 (List.mem_range.2 hb)
    omega
/-- The words of one letter more, by their last two letters: as the graph goes. -/
theorem cnt_next {k : Nat} (hk : k ≤ 3) {ps : List ByteArray} (hps : ∀ f ∈ ps, f.size ≤ 3) {n j : Nat} (hn : 2 ≤ n) (hj : j < (statesW k ps).length) :
    cntW k ps (n + 1) j = sumTo (statesW k ps).length fun i => cntW k ps n i * cellOf (graphW k ps) i j := by
  obtain ⟨a, b, hq, hab⟩ := (mem_states hk).1 (st_mem hj)
  obtain ⟨_, hlb, _⟩ := Lively.closed _ _ a b hab
  obtain ⟨jb, hjb, hbj⟩ := isL_is hlb
  have hbl : b = lt jb := hbj
  let go : ByteArray → Bool := fun w => decide (ch w (w.size - 1) = a) && avoids ps (tri (ch w (w.size - 2)) (ch w (w.size - 1)) b)
  have e1 : ((langW k ps (n + 1)).filter fun w => decide (lastW w = stW k ps j)).length = ((langW k ps n).filter go).length := by
    unfold langW
    rw [List.filter_filter, List.filter_filter]
    show ((longer (allW k n) k).filter _).length = _
    unfold longer
    refine flat_count _ fun w hw => ?_
    obtain ⟨hs, hwl⟩ := (mem_allW k hk n w).1 hw
    rw [List.filter_map, List.length_map, ← one_in hjb]
    congr 1
    refine List.filter_congr fun j' hj' => ?_
    have hj2 := List.mem_range.1 hj'
    show (decide (lastW (w ++ letterB j') = stW k ps j) && inM ps (pairsW k ps) (w ++ letterB j')) = _
    have hlast : lastW (w ++ letterB j') = pr (ch w (w.size - 1)) (lt j') := by
      unfold lastW
      rw [app_size, show w.size + 1 - 2 = w.size - 1 by omega, Nat.add_sub_cancel, ch_app (by omega), ch_end]
    rw [hlast, hq, Bool.eq_iff_iff, Bool.and_eq_true, Bool.and_eq_true, decide_eq_true_iff, decide_eq_true_iff, Bool.and_eq_true, in_next hk hps hwl (by omega) hj2]
    show _ ↔ ((decide (ch w (w.size - 1) = a) && avoids ps (tri (ch w (w.size - 2)) (ch w (w.size - 1)) b)) = true ∧ _) ∧ _
    rw [Bool.and_eq_true, decide_eq_true_iff]
    constructor
    · rintro ⟨h1, h2, h3, h4⟩
      obtain ⟨h5, h6⟩ := pr_inj h1
      have h7 := lt_inj (by omega) (by omega) (h6.trans hbl)
      subst h7
      rw [← hbl] at h3
      exact ⟨⟨⟨h5, h3⟩, h2⟩, rfl⟩
    · rintro ⟨⟨⟨h5, h3⟩, h2⟩, rfl⟩
      rw [← hbl, h5]
      rw [h5] at h3
      exact ⟨rfl, h2, h3, hab⟩
  have e2 := key_count (fun w i => decide (lastW w = stW k ps i)) (statesW k ps).length ((langW k ps n).filter go) fun w hw => st_at hk (last_state hk hn (List.mem_filter.1 hw).1)
  show (((langW k ps (n + 1)).filter fun w => decide (lastW w = stW k ps j)).length : Int) = _
  rw [e1, e2]
  refine sumTo_congr _ fun i hi => ?_
  have hc : cellOf (graphW k ps) i j = if goesW ps (stW k ps i) (stW k ps j) = true then 1 else 0 := by unfold graphW; rw [tabOf_cell hi hj]
  rw [hc, List.filter_filter]
  have hgo : ∀ w ∈ langW k ps n, lastW w = stW k ps i → go w = goesW ps (stW k ps i) (stW k ps j) := fun w _ he => by
    rw [← he, hq]
    rfl
  unfold cntW
  by_cases hg : goesW ps (stW k ps i) (stW k ps j) = true
  · rw [if_pos hg, Int.mul_one]
    congr 2
    refine List.filter_congr fun w hw => ?_
    by_cases he : lastW w = stW k ps i
    · rw [decide_eq_true he, hgo w hw he, hg]; rfl
    · rw [decide_eq_false he]; rfl
  · rw [if_neg hg, Int.mul_zero]
    have : ((langW k ps n).filter fun w => decide (lastW w = stW k ps i) && go w) = [] := List.filter_eq_nil_iff.2 fun w hw h => by
      rw [Bool.and_eq_true, decide_eq_true_iff] at h
      rw [hgo w hw h.1] at h
      exact hg h.2
    rw [this]; rfl
end Go.Proofs.Ytalclebehbdliaa
namespace Go.Proofs.Ytalclebehbdliaa
open Go Go.RowKit

/-- A positive vector shows that the growth is below q / d. -/
def Bel (n : Nat) (f : Nat → Nat → Int) (q d : Int) : Prop := ∃ x : Nat → Int, (∀ i, i < n → 0 < x i) ∧ ∀ i, i < n → d * rowX n f x i < q * x i
/-- q on the diagonal minus d times the table. -/
def negE (f : Nat → Nat → Int) (q d : Int) : Nat → Nat → Int := fun i j => (if i = j then q else 0) - d * f i j
def nonneg (n : Nat) (f : Nat → Nat → Int) : Prop := ∀ i j, i < n → j < n → 0 ≤ f i j
theorem rowX_neg (n : Nat) (f : Nat → Nat → Int) (q d : Int) (x : Nat → Int) {i : Nat} (hi : i < n) : rowX n (negE f q d) x i = q * x i - d * rowX n f x i := by
  unfold rowX negE
  have h1 := sumTo_pick q x hi
  have h2 := sumTo_mulc (-d) (fun j => f i j * x j) n
  have h3 := sumTo_addf (fun j => (if i = j then q else 0) * x j) (fun j => -d * (f i j * x j)) n
  rw [h1, h2] at h3
  rw [Int.sub_eq_add_neg, ← Int.neg_mul, ← h3]
  exact sumTo_congr _ fun j _ => by grind
theorem zE_neg {n : Nat} {f : Nat → Nat → Int} {q d : Int} (hf : nonneg n f) (hd : 0 ≤ d) : zE n (negE f q d) := fun i j hi hj hij => by
  unfold negE
  rw [if_neg hij]
  have := Int.mul_nonneg hd (hf i j hi hj)
  omega
/-- By the leading minors. -/
theorem bel_minors {n : Nat} (hn : n ≤ 4) {f : Nat → Nat → Int} {q d : Int} (hf : nonneg n f) (hd : 0 ≤ d) : (∀ k, k < n → 0 < detF (k + 1) (negE f q d)) ↔ Bel n f q d := by
  rw [← posE_minors hn, posE_vecE (zE_neg hf hd)]
  unfold vecE Bel
  constructor
  · rintro ⟨x, hx, h⟩
    exact ⟨x, hx, fun i hi => by have := h i hi; rw [rowX_neg n f q d x hi] at this; omega⟩
  · rintro ⟨x, hx, h⟩
    exact ⟨x, hx, fun i hi => by have := h i hi; rw [rowX_neg n f q d x hi]; omega⟩
theorem rowX_nonneg {n : Nat} {f : Nat → Nat → Int} (hf : nonneg n f) {x : Nat → Int} (hx : ∀ j, j < n → 0 ≤ x j) {i : Nat} (hi : i < n) : 0 ≤ rowX n f x i := sumTo_nonneg fun j hj => Int.mul_nonneg (hf i j hi hj) (hx j hj)
theorem Bel.more {n : Nat} {f : Nat → Nat → Int} {q q' d : Int} (h : Bel n f q d) (hq : q ≤ q') : Bel n f q' d := by
  obtain ⟨x, hx, h1⟩ := h
  exact ⟨x, hx, fun i hi => by
    have h2 := h1 i hi
    have h3 : q * x i ≤ q' * x i := Int.mul_le_mul_of_nonneg_right hq (by have := hx i hi; omega)
    omega⟩
theorem Bel.fewer {n : Nat} {f g : Nat → Nat → Int} {q d : Int} (h : Bel n g q d) (hd : 0 ≤ d) (hfg : ∀ i j, i < n → j < n → f i j ≤ g i j) : Bel n f q d := by
  obtain ⟨x, hx, h1⟩ := h
  exact ⟨x, hx, fun i hi => by
    have h2 := h1 i hi
    have h3 : rowX n f x i ≤ rowX n g x i := sumTo_mono2 fun j hj => Int.mul_le_mul_of_nonneg_right (hfg i j hi hj) (by have := hx j hj; omega)
    have h4 := Int.mul_le_mul_of_nonneg_left h3 hd
    omega⟩
theorem bel_not_zero {n : Nat} (hn : 0 < n) {f : Nat → Nat → Int} {d : Int} (hf : nonneg n f) (hd : 0 ≤ d) : ¬ Bel n f 0 d := by
  rintro ⟨x, hx, h⟩
  have h1 := h 0 hn
  have h2 := Int.mul_nonneg hd (rowX_nonneg hf (x := x) (fun j hj => by have := hx j hj; omega) hn)
  rw [Int.zero_mul] at h1
  omega
theorem bel_rows {n : Nat} {f : Nat → Nat → Int} {q d h : Int} (hd : 0 ≤ d) (hr : ∀ i, i < n → sumTo n (f i) ≤ h) (hq : d * h < q) : Bel n f q d := by
  refine ⟨fun _ => 1, fun _ _ => (by decide : (0 : Int) < 1), fun i hi => ?_⟩
  show _ < q * 1
  have h1 : rowX n f (fun _ => 1) i = sumTo n (f i) := sumTo_congr _ fun j _ => Int.mul_one _
  have h2 := Int.mul_le_mul_of_nonneg_left (hr i hi) hd
  rw [h1]; omega
theorem least_at (x : Nat → Int) : ∀ {n : Nat}, 0 < n → ∃ i, i < n ∧ ∀ j, j < n → x i ≤ x j
  | 1, _ => ⟨0, by omega, fun j hj => by obtain rfl : j = 0 := by omega
                                         exact Int.le_refl _⟩
  | n + 2, _ => by
    obtain ⟨i, hi, h⟩ := least_at x (n := n + 1) (by omega)
    by_cases hx : x i ≤ x (n + 1)
    · refine ⟨i, by omega, fun j hj => ?_⟩
      by_cases e : j = n + 1
      · subst e; exact hx
      · exact h j (by omega)
    · refine ⟨n + 1, by omega, fun j hj => ?_⟩
      by_cases e : j = n + 1
      · subst e; exact Int.le_refl _
      · have := h j (by omega); omega
theorem rows_bel {n : Nat} (hn : 0 < n) {f : Nat → Nat → Int} {q d l : Int} (hf : nonneg n f) (hd : 0 ≤ d) (hr : ∀ i, i < n → l ≤ sumTo n (f i)) (h : Bel n f q d) : d * l < q := by
  obtain ⟨x, hx, h1⟩ := h
  obtain ⟨i, hi, hmin⟩ := least_at x hn
  have h2 : x i * sumTo n (f i) ≤ rowX n f x i := by
    rw [← sumTo_mulc]
    exact sumTo_mono2 fun j hj => by
      rw [Int.mul_comm]
      exact Int.mul_le_mul_of_nonneg_left (hmin j hj) (hf i j hi hj)
  have hxi := hx i hi
  have h3 : x i * l ≤ x i * sumTo n (f i) := Int.mul_le_mul_of_nonneg_left (hr i hi) (by omega)
  have h4 := Int.mul_le_mul_of_nonneg_left (Int.le_trans h3 h2) hd
  have h5 := h1 i hi
  have h6 : d * (x i * l) = (d * l) * x i := by grind
  rw [h6] at h4
  have h7 : (d * l) * x i < q * x i := by omega
  exact Int.lt_of_mul_lt_mul_right h7 (by omega)
theorem bel_turn {n : Nat} (hn : n ≤ 4) {f : Nat → Nat → Int} {q d : Int} (hf : nonneg n f) (hd : 0 ≤ d) : Bel n (fun i j => f j i) q d ↔ Bel n f q d := by
  rw [← bel_minors hn hf hd, ← bel_minors hn (fun i j hi hj => hf j i hj hi) hd]
  have e : ∀ k, k < n → detF (k + 1) (negE (fun i j => f j i) q d) = detF (k + 1) (negE f q d) := fun k hk => by
    rw [← detF_turn (n := k + 1) (by omega)]
    refine detF_congr fun i j _ _ => ?_
    unfold negE
    by_cases h : i = j
    · subst h; rfl
    · rw [if_neg h, if_neg (Ne.symm h)]
  exact ⟨fun h k hk => by rw [← e k hk]; exact h k hk, fun h k hk => by rw [e k hk]; exact h k hk⟩
theorem Bel.congr {n : Nat} {f g : Nat → Nat → Int} {q d : Int} (h : Bel n f q d) (he : ∀ i j, i < n → j < n → f i j = g i j) : Bel n g q d := by
  obtain ⟨x, hx, h1⟩ := h
  exact ⟨x, hx, fun i hi => by
    have e : rowX n g x i = rowX n f x i := sumTo_congr _ fun j hj => by rw [he i j hi hj]
    rw [e]; exact h1 i hi⟩

/-! ### Squares -/

def sqF (n : Nat) (f : Nat → Nat → Int) : Nat → Nat → Int := fun i j => sumTo n fun k => f i k * f k j
theorem sumTo_swap (g : Nat → Nat → Int) (m : Nat) : ∀ n : Nat, (sumTo n fun i => sumTo m fun j => g i j) = sumTo m fun j => sumTo n fun i => g i j
  | 0 => by
    show (0 : Int) = sumTo m fun _ => 0
    have h2 := sumTo_nonneg (f := fun _ => (0 : Int)) (n := m) fun _ _ => Int.le_refl _
    have h3 := sumTo_nonpos (f := fun _ => (0 : Int)) (n := m) fun _ _ => Int.le_refl _
    omega
  | n + 1 => by
    rw [sumTo, sumTo_swap g m n, ← sumTo_addf]
    rfl
theorem rowX_sq (n : Nat) (f : Nat → Nat → Int) (x : Nat → Int) (i : Nat) : rowX n (sqF n f) x i = rowX n f (rowX n f x) i := by
  unfold rowX sqF
  have h1 : (sumTo n fun j => (sumTo n fun k => f i k * f k j) * x j) = sumTo n fun j => sumTo n fun k => f i k * f k j * x j := sumTo_congr _ fun j _ => by
    rw [Int.mul_comm, ← sumTo_mulc]
    exact sumTo_congr _ fun k _ => Int.mul_comm _ _
  rw [h1, sumTo_swap]
  exact sumTo_congr _ fun k _ => by
    rw [← sumTo_mulc]
    exact sumTo_congr _ fun j _ => by grind
theorem rowX_lin (n : Nat) (f : Nat → Nat → Int) (x y : Nat → Int) (a b : Int) (i : Nat) : rowX n f (fun j => a * x j + b * y j) i = a * rowX n f x i + b * rowX n f y i := by
  unfold rowX
  rw [← sumTo_mulc, ← sumTo_mulc, ← sumTo_addf]
  exact sumTo_congr _ fun j _ => by grind
theorem rowX_scale (n : Nat) (f : Nat → Nat → Int) (x : Nat → Int) (a : Int) (i : Nat) : rowX n f (fun j => a * x j) i = a * rowX n f x i := by
  unfold rowX
  rw [← sumTo_mulc]
  exact sumTo_congr _ fun j _ => by grind
theorem rowX_mono {n : Nat} {f : Nat → Nat → Int} (hf : nonneg n f) {x y : Nat → Int} (h : ∀ j, j < n → x j ≤ y j) {i : Nat} (hi : i < n) : rowX n f x i ≤ rowX n f y i := sumTo_mono2 fun j hj => Int.mul_le_mul_of_nonneg_left (h j hj) (hf i j hi hj)
theorem bel_root {n : Nat} {f : Nat → Nat → Int} {q d r : Int} (hn : 0 < n) (hf : nonneg n f) (hd : 0 < d) (hq : 0 ≤ q) (h : Bel n (sqF n f) r d) (hr : r * d ≤ q * q) : Bel n f q d := by
  obtain ⟨x, hx, h1⟩ := h
  have hx0 : ∀ j, j < n → 0 ≤ x j := fun j hj => by have := hx j hj; omega
  have hM : ∀ i, i < n → 0 ≤ rowX n f x i := fun i hi => rowX_nonneg hf hx0 hi
  have hkey : ∀ i, i < n → d * (d * rowX n f (rowX n f x) i) < q * (q * x i) := fun i hi => by
    have h2 := h1 i hi
    rw [rowX_sq] at h2
    have h3 := Int.mul_lt_mul_of_pos_left h2 hd
    have h4 : d * (r * x i) = (r * d) * x i := by grind
    have h5 := Int.mul_le_mul_of_nonneg_right hr (hx0 i hi)
    have h6 : q * q * x i = q * (q * x i) := by grind
    omega
  have hq0 : 0 < q := by
    by_cases h0 : q = 0
    · have h2 := hkey 0 hn
      rw [h0, Int.zero_mul] at h2
      have h3 := Int.mul_nonneg (Int.le_of_lt hd) (Int.mul_nonneg (Int.le_of_lt hd) (rowX_nonneg hf hM hn))
      omega
    · omega
  refine ⟨fun j => q * x j + d * rowX n f x j, fun i hi => ?_, fun i hi => ?_⟩
  · have h2 := Int.mul_pos hq0 (hx i hi)
    have h3 := Int.mul_nonneg (Int.le_of_lt hd) (hM i hi)
    show 0 < q * x i + d * rowX n f x i
    omega
  · rw [rowX_lin n f x (rowX n f x) q d i]
    have h2 := hkey i hi
    show _ < q * (q * x i + d * rowX n f x i)
    generalize rowX n f (rowX n f x) i = z at *
    generalize rowX n f x i = y at *
    have e1 : d * (q * y + d * z) = q * (d * y) + d * (d * z) := by grind
    have e2 : q * (q * x i + d * y) = q * (d * y) + q * (q * x i) := by grind
    omega
theorem bel_square {n : Nat} {f : Nat → Nat → Int} {q d r : Int} (hf : nonneg n f) (hd : 0 < d) (hq : 0 < q) (h : Bel n f q d) (hr : q * q ≤ r * d) : Bel n (sqF n f) r d := by
  obtain ⟨x, hx, h1⟩ := h
  refine ⟨x, hx, fun i hi => ?_⟩
  rw [rowX_sq]
  have h2 : d * rowX n f (rowX n f x) i = rowX n f (fun j => d * rowX n f x j) i := (rowX_scale n f (rowX n f x) d i).symm
  have h3 : rowX n f (fun j => d * rowX n f x j) i ≤ rowX n f (fun j => q * x j) i := rowX_mono hf (fun j hj => Int.le_of_lt (h1 j hj)) hi
  have h4 : rowX n f (fun j => q * x j) i = q * rowX n f x i := rowX_scale n f x q i
  have h5 := h1 i hi
  have h6 := Int.mul_lt_mul_of_pos_left h5 hq
  have h7 : d * (q * rowX n f x i) < d * (r * x i) := by
    have e1 : d * (q * rowX n f x i) = q * (d * rowX n f x i) := by grind
    have e2 : d * (r * x i) = (r * d) * x i := by grind
    have e3 : q * (q * x i) = (q * q) * x i := by grind
    have h8 := Int.mul_le_mul_of_nonneg_right hr (Int.le_of_lt (hx i hi))
    omega
  have h9 : d * (d * rowX n f (rowX n f x) i) < d * (r * x i) := by
    rw [h2]
    have h10 := Int.mul_le_mul_of_nonneg_left (Int.le_trans h3 (Int.le_of_eq h4)) (Int.le_of_lt hd)
    omega
  exact Int.lt_of_mul_lt_mul_left h9 (Int.le_of_lt hd)

/-! ### The greatest number that is reached -/

/-- Of the numbers up to k, the greatest that p does not hold of (0 if there is none). -/
def lastNot (p : Nat → Bool) : Nat → Nat
  | 0 => 0
  | k + 1 => if p (k + 1) then lastNot p k else k + 1
theorem lastNot_is {p : Nat → Bool} (h0 : p 0 = false) : ∀ k, p (lastNot p k) = false ∧ lastNot p k ≤ k ∧ ∀ j, lastNot p k < j → j ≤ k → p j = true
  | 0 => ⟨h0, Nat.le_refl _, fun j h1 h2 => by
      have : lastNot p 0 = 0 := rfl
      omega⟩
  | k + 1 => by
    rw [lastNot]
    cases hp : p (k + 1) with
    | true =>
      rw [if_pos rfl]
      obtain ⟨h1, h2, h3⟩ := lastNot_is h0 k
      refine ⟨h1, by omega, fun j hj hk => ?_⟩
      by_cases e : j = k + 1
      · subst e; exact hp
      · exact h3 j hj (by omega)
    | false =>
      rw [if_neg (by decide)]
      exact ⟨hp, Nat.le_refl _, fun j h1 h2 => by omega⟩
end Go.Proofs.Ytalclebehbdliaa
namespace Go.Proofs.Ytalclebehbdliaa
open Go Go.RowKit

def isGraphM (m : List (List Int)) : Bool := isMat m && decide (sumM m ≤ 60)

/-! ### Arcs -/

def arcsRow (m : List (List Int)) (i j : Nat) : List (List Int) := (List.range j).flatMap fun j' => List.replicate (cellOf m i j').toNat [(i : Int), (j' : Int)]
def arcsRows (m : List (List Int)) (i : Nat) : List (List Int) := (List.range i).flatMap fun i' => arcsRow m i' m.length
/-- The arcs ahead of i and j, and k arcs there. -/
def arcsTo (m : List (List Int)) (i j k : Nat) : List (List Int) := arcsRows m i ++ arcsRow m i j ++ List.replicate k [(i : Int), (j : Int)]
def arcsM (m : List (List Int)) : List (List Int) := arcsRows m m.length
theorem arcsRow_next (m : List (List Int)) (i j : Nat) : arcsRow m i (j + 1) = arcsRow m i j ++ List.replicate (cellOf m i j).toNat [(i : Int), (j : Int)] := by
  unfold arcsRow; rw [List.range_succ, List.flatMap_append]; simp
theorem arcsRows_next (m : List (List Int)) (i : Nat) : arcsRows m (i + 1) = arcsRows m i ++ arcsRow m i m.length := by
  unfold arcsRows; rw [List.range_succ, List.flatMap_append]; simp
theorem arcsTo_zero (m : List (List Int)) : arcsTo m 0 0 0 = [] := rfl
theorem arcsTo_next (m : List (List Int)) (i j k : Nat) : arcsTo m i j (k + 1) = arcsTo m i j k ++ [[(i : Int), (j : Int)]] := by
  unfold arcsTo; rw [List.replicate_succ', ← List.append_assoc]
theorem arcsTo_col (m : List (List Int)) (i j : Nat) : arcsTo m i j (cellOf m i j).toNat = arcsTo m i (j + 1) 0 := by
  unfold arcsTo; rw [arcsRow_next, List.replicate_zero, List.append_nil, List.append_assoc]
theorem arcsTo_row (m : List (List Int)) (i : Nat) : arcsTo m i m.length 0 = arcsTo m (i + 1) 0 0 := by
  unfold arcsTo; rw [arcsRows_next]; simp [arcsRow]
theorem arcsTo_all (m : List (List Int)) : arcsTo m m.length 0 0 = arcsM m := by
  unfold arcsTo arcsM; simp [arcsRow]
theorem arcsRow_length {m : List (List Int)} {i : Nat} : ∀ (j : Nat), (∀ j', j' < j → 0 ≤ cellOf m i j') → ((arcsRow m i j).length : Int) = sumTo j fun j' => cellOf m i j'
  | 0, _ => rfl
  | j + 1, h => by
    have h1 := arcsRow_length j fun j' hj => h j' (by omega)
    have h2 := h j (by omega)
    rw [arcsRow_next, List.length_append, List.length_replicate, sumTo, ← h1]
    omega
theorem arcsRows_length {m : List (List Int)} : ∀ (i : Nat), (∀ i' j', i' < i → j' < m.length → 0 ≤ cellOf m i' j') → ((arcsRows m i).length : Int) = sumTo i fun i' => sumTo m.length fun j' => cellOf m i' j'
  | 0, _ => rfl
  | i + 1, h => by
    have h1 := arcsRows_length i fun i' j' hi hj => h i' j' (by omega) hj
    have h2 := arcsRow_length (i := i) m.length fun j' hj => h i j' (by omega) hj
    rw [arcsRows_next, List.length_append, sumTo, ← h1, ← h2]
    omega
/-- As many arcs as the sum of all numbers. -/
theorem arcsM_length {m : List (List Int)} (h : isMat m = true) : ((arcsM m).length : Int) = sumM m := by
  unfold arcsM sumM
  rw [if_pos h]
  exact arcsRows_length m.length fun i' j' hi hj => (((isMat_iff.1 h).2 i' hi).2 j' hj).1
theorem arcsTo_le {m : List (List Int)} (h : isMat m = true) {i j k : Nat} (hi : i ≤ m.length) (hj : j ≤ m.length) (hij : i < m.length ∨ j = 0) (hk : k ≤ 1000000) : (arcsTo m i j k).length ≤ 100000000 := by
  obtain ⟨⟨_, h9⟩, hc⟩ := isMat_iff.1 h
  have h1 := arcsRows_length (m := m) i fun i' j' hi' hj' => ((hc i' (by omega)).2 j' hj').1
  have h2 := sumTo_le (f := fun i' => sumTo m.length fun j' => cellOf m i' j') (B := 9000000) i fun i' hi' => by
    have := sumTo_le (f := fun j' => cellOf m i' j') (B := 1000000) m.length fun j' hj' => (hc i' (by omega)).2 j' hj'
    exact ⟨this.1, by omega⟩
  have h3 : (arcsRow m i j).length ≤ 9000000 := by
    rcases hij with hij | rfl
    · have h4 := arcsRow_length (m := m) (i := i) j fun j' hj' => ((hc i hij).2 j' (by omega)).1
      have h5 := sumTo_le (f := fun j' => cellOf m i j') (B := 1000000) j fun j' hj' => (hc i hij).2 j' (by omega)
      omega
    · simp [arcsRow]
  unfold arcsTo
  rw [List.length_append, List.length_append, List.length_replicate]
  omega
/-- Each arc has two ends. -/
theorem arcsM_two (m : List (List Int)) : ∀ r ∈ arcsM m, r.length = 2 := by
  intro r hr
  unfold arcsM arcsRows arcsRow at hr
  simp only [List.mem_flatMap, List.mem_range, List.mem_replicate] at hr
  obtain ⟨i, _, j, _, _, rfl⟩ := hr
  rfl

/-! ### Paths -/

def endOf (arcs : List (List Int)) (k : Int) : Int := cellOf arcs k.toNat 1
def startOf (arcs : List (List Int)) (k : Int) : Int := cellOf arcs k.toNat 0
def pathOk (arcs : List (List Int)) (p : List Int) (k : Nat) : Bool :=
  (decide (0 ≤ p.getD k 0) && decide (p.getD k 0 ≤ (arcs.length : Int) - 1)) && (decide (k = 0) || decide (endOf arcs (p.getD (k - 1) 0) = startOf arcs (p.getD k 0)))
def isPathM (arcs : List (List Int)) (p : List Int) : Bool := (List.range p.length).all (pathOk arcs p)
theorem isPathM_bad {arcs : List (List Int)} {p : List Int} {k : Nat} (hk : k < p.length) (h : pathOk arcs p k = false) : isPathM arcs p = false := by
  unfold isPathM
  rw [List.all_eq_false]
  exact ⟨k, List.mem_range.2 hk, by rw [h]; simp⟩
theorem isPathM_all {arcs : List (List Int)} {p : List Int} (h : ∀ k, k < p.length → pathOk arcs p k = true) : isPathM arcs p = true := by
  unfold isPathM
  rw [List.all_eq_true]
  exact fun k hk => h k (List.mem_range.1 hk)

/-- Whether arc k goes on where the path's last arc ends. -/
def goesOnM (arcs : List (List Int)) (head : List Int) (k : Nat) : Bool := decide (head.length = 0) || decide (endOf arcs (head.getD (head.length - 1) 0) = cellOf arcs k 0)
/-- The paths that begin with head and have d arcs more. -/
def fillM (arcs : List (List Int)) : Nat → List Int → List (List Int)
  | 0, head => [head]
  | d + 1, head => (List.range arcs.length).flatMap fun k => if goesOnM arcs head k = true then fillM arcs d (head ++ [(k : Int)]) else []
/-- Those whose next arc is ahead of k. -/
def fillTo (arcs : List (List Int)) (d : Nat) (head : List Int) (k : Nat) : List (List Int) := (List.range k).flatMap fun k => if goesOnM arcs head k = true then fillM arcs d (head ++ [(k : Int)]) else []
theorem fillTo_zero (arcs : List (List Int)) (d : Nat) (head : List Int) : fillTo arcs d head 0 = [] := rfl
theorem fillTo_next (arcs : List (List Int)) (d : Nat) (head : List Int) (k : Nat) : fillTo arcs d head (k + 1) = fillTo arcs d head k ++ (if goesOnM arcs head k = true then fillM arcs d (head ++ [(k : Int)]) else []) := by
  unfold fillTo; rw [List.range_succ, List.flatMap_append]; simp
theorem fillTo_all (arcs : List (List Int)) (d : Nat) (head : List Int) : fillTo arcs d head arcs.length = fillM arcs (d + 1) head := rfl
theorem fillM_le (arcs : List (List Int)) : ∀ (d : Nat) (head : List Int), (fillM arcs d head).length ≤ arcs.length ^ d
  | 0, head => by simp [fillM]
  | d + 1, head => by
    have h : ∀ k, (fillTo arcs d head k).length ≤ k * arcs.length ^ d := by
      intro k
      induction k with
      | zero => simp [fillTo]
      | succ k ih =>
        rw [fillTo_next, List.length_append, Nat.add_mul, Nat.one_mul]
        split
        · have := fillM_le arcs d (head ++ [(k : Int)])
          omega
        · simp; omega
    have := h arcs.length
    rw [fillTo_all] at this
    rw [Nat.pow_succ, Nat.mul_comm]; exact this

/-! ### What goes on for ever -/

/-- Each vertex of T has arcs to and from vertices of T. -/
def Good (m : List (List Int)) (T : Nat → Bool) : Prop := ∀ i, T i = true → i < m.length ∧ (∃ j, T j = true ∧ 0 < cellOf m i j) ∧ ∃ j, T j = true ∧ 0 < cellOf m j i
def liveStep (m : List (List Int)) (S : Nat → Bool) : Nat → Bool := fun i => S i && ((List.range m.length).any fun j => S j && decide (0 < cellOf m i j)) && ((List.range m.length).any fun j => S j && decide (0 < cellOf m j i))
def liveK (m : List (List Int)) : Nat → Nat → Bool
  | 0 => fun i => decide (i < m.length)
  | k + 1 => liveStep m (liveK m k)
def liveM (m : List (List Int)) : Nat → Bool := liveK m m.length
theorem liveK_lt {m : List (List Int)} : ∀ (k : Nat) {i : Nat}, liveK m k i = true → i < m.length
  | 0, i, h => of_decide_eq_true h
  | k + 1, i, h => by
    unfold liveK liveStep at h
    rw [Bool.and_eq_true, Bool.and_eq_true] at h
    exact liveK_lt k h.1.1
theorem liveK_less {m : List (List Int)} (k i : Nat) (h : liveK m (k + 1) i = true) : liveK m k i = true := by
  unfold liveK liveStep at h
  rw [Bool.and_eq_true, Bool.and_eq_true] at h
  exact h.1.1
theorem good_in_step {m : List (List Int)} {T S : Nat → Bool} (hT : Good m T) (hS : ∀ i, T i = true → S i = true) : ∀ i, T i = true → liveStep m S i = true := by
  intro i hi
  obtain ⟨_, ⟨j, hj, hj2⟩, k, hk, hk2⟩ := hT i hi
  unfold liveStep
  rw [Bool.and_eq_true, Bool.and_eq_true, List.any_eq_true, List.any_eq_true]
  refine ⟨⟨hS i hi, j, List.mem_range.2 (hT j hj).1, ?_⟩, k, List.mem_range.2 (hT k hk).1, ?_⟩
  · rw [hS j hj, decide_eq_true hj2]; rfl
  · rw [hS k hk, decide_eq_true hk2]; rfl
theorem good_in_liveK {m : List (List Int)} {T : Nat → Bool} (hT : Good m T) : ∀ (k i : Nat), T i = true → liveK m k i = true
  | 0, i, h => decide_eq_true (hT i h).1
  | k + 1, i, h => good_in_step hT (good_in_liveK hT k) i h
theorem good_of_step {m : List (List Int)} {S : Nat → Bool} (hl : ∀ i, S i = true → i < m.length) (h : ∀ i, S i = true → liveStep m S i = true) : Good m S := by
  intro i hi
  have h1 := h i hi
  unfold liveStep at h1
  rw [Bool.and_eq_true, Bool.and_eq_true, List.any_eq_true, List.any_eq_true] at h1
  obtain ⟨⟨_, j, _, hj⟩, k, _, hk⟩ := h1
  rw [Bool.and_eq_true] at hj hk
  exact ⟨hl i hi, ⟨j, hj.1, of_decide_eq_true hj.2⟩, k, hk.1, of_decide_eq_true hk.2⟩
theorem filter_lt {α : Type} {p q : α → Bool} (hpq : ∀ x, p x = true → q x = true) : ∀ (l : List α), (∃ x ∈ l, q x = true ∧ p x = false) → (l.filter p).length < (l.filter q).length
  | [], h => by obtain ⟨x, hx, _⟩ := h; cases hx
  | y :: l, h => by
    have hle : (l.filter p).length ≤ (l.filter q).length := by
      clear h
      induction l with
      | nil => exact Nat.le_refl _
      | cons z l ih =>
        cases hp : p z with
        | true => rw [List.filter_cons_of_pos hp, List.filter_cons_of_pos (hpq z hp)]; simp; exact ih
        | false =>
          rw [List.filter_cons_of_neg (by rw [hp]; simp)]
          cases hq : q z with
          | true => rw [List.filter_cons_of_pos hq]; simp; omega
          | false => rw [List.filter_cons_of_neg (by rw [hq]; simp)]; exact ih
    obtain ⟨x, hx, hq, hp⟩ := h
    rcases List.mem_cons.1 hx with rfl | hx
    · rw [List.filter_cons_of_neg (by rw [hp]; simp), List.filter_cons_of_pos hq]; simp; omega
    · have ih := filter_lt hpq l ⟨x, hx, hq, hp⟩
      cases hp2 : p y with
      | true => rw [List.filter_cons_of_pos hp2, List.filter_cons_of_pos (hpq y hp2)]; simp; exact ih
      | false =>
        rw [List.filter_cons_of_neg (by rw [hp2]; simp)]
        cases hq2 : q y with
        | true => rw [List.filter_cons_of_pos hq2]; simp; omega
        | false => rw [List.filter_cons_of_neg (by rw [hq2]; simp)]; exact ih
def liveCount (m : List (List Int)) (k : Nat) : Nat := ((List.range m.length).filter (liveK m k)).length
/-- Either a step changes nothing, or there are fewer vertices. -/
theorem live_step_or (m : List (List Int)) (k : Nat) : (∀ i, liveK m k i = true → liveK m (k + 1) i = true) ∨ liveCount m (k + 1) < liveCount m k := by
  by_cases h : ∀ i, liveK m k i = true → liveK m (k + 1) i = true
  · exact Or.inl h
  · right
    have hx : ∃ i, liveK m k i = true ∧ liveK m (k + 1) i = false := by
      refine Classical.byContradiction fun hn => h fun i hi => ?_
      cases e : liveK m (k + 1) i with
      | true => rfl
      | false => exact absurd ⟨i, hi, e⟩ hn
    obtain ⟨i, h1, h2⟩ := hx
    exact filter_lt (liveK_less k) _ ⟨i, List.mem_range.2 (liveK_lt k h1), h1, h2⟩
theorem live_still {m : List (List Int)} {k : Nat} (h : ∀ i, liveK m k i = true → liveK m (k + 1) i = true) : ∀ (d : Nat), liveK m (k + d) = liveK m k
  | 0 => rfl
  | d + 1 => by
    have ih := live_still h d
    show liveStep m (liveK m (k + d)) = _
    rw [ih]
    funext i
    cases e : liveK m k i with
    | true => exact h i e
    | false =>
      cases e2 : liveStep m (liveK m k) i with
      | false => rfl
      | true => rw [liveK_less k i e2] at e; cases e
theorem live_count_le (m : List (List Int)) : ∀ (k : Nat), (∃ j, j < k ∧ ∀ i, liveK m j i = true → liveK m (j + 1) i = true) ∨ liveCount m k + k ≤ m.length
  | 0 => by
    right
    unfold liveCount
    have := List.length_filter_le (liveK m 0) (List.range m.length)
    rw [List.length_range] at this
    omega
  | k + 1 => by
    rcases live_count_le m k with ⟨j, hj, h⟩ | h
    · exact Or.inl ⟨j, by omega, h⟩
    · rcases live_step_or m k with h2 | h2
      · exact Or.inl ⟨k, by omega, h2⟩
      · exact Or.inr (by omega)
theorem liveM_good (m : List (List Int)) : Good m (liveM m) := by
  refine good_of_step (fun i h => liveK_lt m.length h) fun i h => ?_
  rcases live_count_le m m.length with ⟨j, hj, hs⟩ | hc
  · have e := live_still hs (m.length - j)
    rw [show j + (m.length - j) = m.length by omega] at e
    unfold liveM at h ⊢
    rw [e] at h ⊢
    exact hs i h
  · exfalso
    have h0 : liveCount m m.length = 0 := by omega
    unfold liveCount at h0
    have := List.eq_nil_of_length_eq_zero h0
    have hm : i ∈ (List.range m.length).filter (liveK m m.length) := List.mem_filter.2 ⟨List.mem_range.2 (liveK_lt m.length h), h⟩
    rw [this] at hm
    cases hm
/-- The greatest set of this kind is the only one that has every other. -/
theorem live_only {m : List (List Int)} {S : Nat → Bool} (h1 : Good m S) (h2 : ∀ T, Good m T → ∀ i, T i = true → S i = true) : S = liveM m := by
  funext i
  cases e : S i with
  | true => exact (good_in_liveK h1 m.length i e).symm
  | false =>
    cases e2 : liveM m i with
    | false => rfl
    | true => rw [h2 _ (liveM_good m) i e2] at e; cases e
/-- The vertices, in order. -/
def liveList (m : List (List Int)) (k : Nat) : List Int := ((List.range k).filter (liveM m)).map fun (i : Nat) => (i : Int)
def livelyM (m : List (List Int)) : List Int := if isMat m = true then liveList m m.length else []
theorem liveList_next (m : List (List Int)) (k : Nat) : liveList m (k + 1) = liveList m k ++ (if liveM m k = true then [(k : Int)] else []) := by
  unfold liveList
  rw [List.range_succ, List.filter_append, List.map_append]
  cases h : liveM m k <;> simp [h]
theorem liveList_le (m : List (List Int)) (k : Nat) : (liveList m k).length ≤ k := by
  unfold liveList
  rw [List.length_map]
  have := List.length_filter_le (liveM m) (List.range k)
  rwa [List.length_range] at this
theorem liveList_mem {m : List (List Int)} {k : Nat} {x : Int} (h : x ∈ liveList m k) : ∃ i : Nat, x = (i : Int) ∧ i < k ∧ liveM m i = true := by
  unfold liveList at h
  obtain ⟨i, hi, rfl⟩ := List.mem_map.1 h
  obtain ⟨h1, h2⟩ := List.mem_filter.1 hi
  exact ⟨i, rfl, List.mem_range.1 h1, h2⟩
/-- The matrix of some rows and columns. -/
def partM (m : List (List Int)) (l : List Int) : List (List Int) := tabOf l.length l.length fun i j => cellOf m (l.getD i 0).toNat (l.getD j 0).toNat
def trimM (m : List (List Int)) : Option (List (List Int)) := if (livelyM m).length = 0 then none else some (partM m (livelyM m))
def isLivelyM (m : List (List Int)) : Bool := isMat m && decide ((livelyM m).length = m.length)
end Go.Proofs.Ytalclebehbdliaa
namespace Go.Proofs.Ytalclebehbdliaa
open Go Go.RowKit

theorem isGraphM_facts {m : List (List Int)} (h : isGraphM m = true) : isMat m = true ∧ sumM m ≤ 60 := by
  unfold isGraphM at h
  rw [Bool.and_eq_true] at h
  exact ⟨h.1, of_decide_eq_true h.2⟩

/-- A row that is new in memory of the call's own. -/
theorem row_two {w : World} (x y : Int) : (w.alloc (.cells #[.int .i64 x, .int .i64 y] 3)).ownsRow w.heap.size 3 1 (.slice (some ⟨w.heap.size, 0, none⟩) 2 2) 2 ([x, y].map (Value.int .i64)) :=
  World.ownsRow_lit (base := w.heap.size) (e := 3) (size := 1) w #[.int .i64 x, .int .i64 y] 2 (Nat.le_refl _) (by decide) rfl
theorem arcs_next {w wr w3 : World} {gg cap i j k : Nat} {m : List (List Int)} {v : Value} {vs : List Value} {o : Obj} (hB : Below w.heap.size w wr) (hO : wr.ownsRow w.heap.size 49 1 v (arcsTo m i j k).length vs) (hR : RowsOwn wr w.heap.size v.ownBlock vs (arcsTo m i j k))
    (ho3 : w3.ownsRow w.heap.size 49 1 (.slice (some ⟨gg, 0, none⟩) ((arcsTo m i j k).length + 1) cap) ((arcsTo m i j k).length + 1) (vs ++ [.slice (some ⟨wr.heap.size, 0, none⟩) 2 2])) (hg3 : ((wr.alloc (.cells #[.int .i64 (i : Int), .int .i64 (j : Int)] 3)).alloc o).grownBy w3 v.ownBlock) (hat : v.ownBlock = some gg ∨ gg = wr.heap.size + 1 + 1) :
    w3.ownsRow w.heap.size 49 1 (.slice (some ⟨gg, 0, none⟩) ((arcsTo m i j k).length + 1) cap) (arcsTo m i j (k + 1)).length (vs ++ [.slice (some ⟨wr.heap.size, 0, none⟩) 2 2]) ∧
    RowsOwn w3 w.heap.size (Value.slice (some ⟨gg, 0, none⟩) ((arcsTo m i j k).length + 1) cap).ownBlock (vs ++ [.slice (some ⟨wr.heap.size, 0, none⟩) 2 2]) (arcsTo m i j (k + 1)) ∧ Below w.heap.size w w3 := by
  have hb1 : Below wr.heap.size wr ((wr.alloc (.cells #[.int .i64 (i : Int), .int .i64 (j : Int)] 3)).alloc o) := ((Below.refl _ _).alloc (Nat.le_refl _) _).alloc (by simp) _
  refine ⟨by rw [arcsTo_next, List.length_append]; exact ho3, ?_, ?_⟩
  · rw [arcsTo_next]
    refine own_append (cap := cap) (xs := [(i : Int), (j : Int)]) hO hR hb1 (World.ownsRow.mono (World.ownsRow.alloc (row_two (i : Int) (j : Int)) o) hB.size) (fun g hg => ?_) ho3 hg3 ?_
    · have : wr.heap.size = g := Option.some.inj hg
      omega
    · rw [World.size_alloc, World.size_alloc]; exact hat
  · have hb2 := hB.trans (hb1.mono hB.size)
    exact hb2.grown hg3 (by have := hb2.size; omega) (fun q hq => (hO.lt q hq).1)

/-- ArcsOf, CountPaths. -/
def arcsOfM (m : List (List Int)) : List (List Int) := if isGraphM m = true then arcsM m else []
def countM (m : List (List Int)) (n : Int) : Int := match powS m n with | some p => sumM p | none => -1

theorem pathOk_out {arcs : List (List Int)} {p : List Int} {k : Nat} (h : (decide ((0 : Int) ≤ p.getD k 0) && decide (p.getD k 0 ≤ (arcs.length : Int) - 1)) = false) : pathOk arcs p k = false := by
  unfold pathOk; rw [h]; rfl
/-- The two ends of an arc in memory. -/
theorem arc_at {w : World} {A : Option Addr} {arcs : List (List Int)} (h : GridS w A arcs) (h2 : ∀ r ∈ arcs, r.length = 2) {k : Nat} (hk : k < arcs.length) :
    ∃ b off b2 off2 c', A = some ⟨b, off, none⟩ ∧ w.cell? ⟨b, off + k, none⟩ = some (.slice (some ⟨b2, off2, none⟩) 2 c') ∧ w.cell? ⟨b2, off2, none⟩ = some (.int .i64 (cellOf arcs k 0)) ∧ w.cell? ⟨b2, off2 + 1, none⟩ = some (.int .i64 (cellOf arcs k 1)) := by
  have hl : (arcs.getD k []).length = 2 := by
    have e : arcs.getD k [] = arcs[k] := by simp [List.getD, hk]
    rw [e]; exact h2 _ (List.getElem_mem hk)
  obtain ⟨b, off, A', c', hA, hc, hr, _⟩ := h.row hk
  obtain ⟨b2, off2, rfl, hat, _⟩ := hr (by omega)
  rw [hl] at hc
  exact ⟨b, off, b2, off2, c', hA, hc, hat 0 (by omega), hat 1 (by omega)⟩

end Go.Proofs.Ytalclebehbdliaa
namespace Go.Proofs.Ytalclebehbdliaa
open Go Go.RowKit

theorem lang_sum {k : Nat} (hk : k ≤ 3) (ps : List ByteArray) {n : Nat} (hn : 2 ≤ n) : ((langW k ps n).length : Int) = sumTo (statesW k ps).length fun j => cntW k ps n j :=
  key_count (fun w i => decide (lastW w = stW k ps i)) _ _ fun _ hw => st_at hk (last_state hk hn hw)
theorem last_pr (a b : UInt8) : lastW (pr a b) = pr a b := rfl
theorem nodup_one (q : ByteArray) : ∀ (l : List ByteArray), l.Nodup → q ∈ l → (l.filter fun w => decide (w = q)).length = 1
  | [], _, h => by cases h
  | x :: l, hn, h => by
    obtain ⟨h1, h2⟩ := List.nodup_cons.1 hn
    by_cases e : x = q
    · subst e
      rw [List.filter_cons_of_pos (by simp)]
      have : (l.filter fun w => decide (w = x)) = [] := List.filter_eq_nil_iff.2 fun w hw he => h1 ((of_decide_eq_true he) ▸ hw)
      rw [this]; rfl
    · rw [List.filter_cons_of_neg (by simp [e])]
      rcases List.mem_cons.1 h with he | he
      · exact absurd he.symm e
      · exact nodup_one q l h2 he
theorem cnt_two {k : Nat} (hk : k ≤ 3) {ps : List ByteArray} {j : Nat} (hj : j < (statesW k ps).length) : cntW k ps 2 j = 1 := by
  have e : ((langW k ps 2).filter fun w => decide (lastW w = stW k ps j)) = (statesW k ps).filter fun w => decide (w = stW k ps j) := List.filter_congr fun w hw => by
    obtain ⟨a, b, rfl, _⟩ := (mem_states hk).1 hw
    rw [last_pr]
  unfold cntW
  rw [e, nodup_one _ _ (states_nodup hk ps) (st_mem hj)]; rfl
theorem states_le {k : Nat} (hk : k ≤ 3) (ps : List ByteArray) : (statesW k ps).length ≤ 9 := Nat.le_trans (List.length_filter_le _ _) (by rw [allW_length]; exact two_le hk)
theorem graph_length (k : Nat) (ps : List ByteArray) : (graphW k ps).length = (statesW k ps).length := tabOf_length _ _ _
theorem graph_cell {k : Nat} {ps : List ByteArray} {i j : Nat} (hi : i < (statesW k ps).length) (hj : j < (statesW k ps).length) : cellOf (graphW k ps) i j = if goesW ps (stW k ps i) (stW k ps j) = true then 1 else 0 := by
  unfold graphW; rw [tabOf_cell hi hj]
theorem graph_isMat {k : Nat} (hk : k ≤ 3) {ps : List ByteArray} (hp : 0 < (statesW k ps).length) : isMat (graphW k ps) = true := by
  refine isMat_iff.2 ⟨by rw [graph_length]; exact ⟨hp, states_le hk ps⟩, fun i hi => ⟨?_, fun j hj => ?_⟩⟩
  · rw [graph_length] at hi ⊢
    unfold graphW; rw [tabOf_row hi]; simp
  · rw [graph_length] at hi hj
    rw [graph_cell hi hj]
    split <;> omega
/-- Every state of the graph has a state behind it and one ahead of it. -/
theorem graph_good {k : Nat} (hk : k ≤ 3) {ps : List ByteArray} : Good (graphW k ps) fun i => decide (i < (statesW k ps).length) := by
  intro i hi
  have hi := of_decide_eq_true hi
  obtain ⟨a, b, hq, hab⟩ := (mem_states hk).1 (st_mem hi)
  obtain ⟨_, _, ⟨c, _, hc, hbc⟩, d, _, hd, hda⟩ := Lively.closed _ _ a b hab
  obtain ⟨j, hj, hj2⟩ := st_at hk ((mem_states hk).2 ⟨b, c, rfl, hbc⟩)
  obtain ⟨l, hl, hl2⟩ := st_at hk ((mem_states hk).2 ⟨d, a, rfl, hda⟩)
  have e1 : pr b c = stW k ps j := of_decide_eq_true ((hj2 j hj).trans (decide_eq_true rfl))
  have e2 : pr d a = stW k ps l := of_decide_eq_true ((hl2 l hl).trans (decide_eq_true rfl))
  refine ⟨by rw [graph_length]; exact hi, ⟨j, decide_eq_true hj, ?_⟩, l, decide_eq_true hl, ?_⟩
  · rw [graph_cell hi hj, hq, ← e1, if_pos]
    · omega
    · unfold goesW
      rw [Bool.and_eq_true, decide_eq_true_iff]
      exact ⟨rfl, hc⟩
  · rw [graph_cell hl hi, hq, ← e2, if_pos]
    · omega
    · unfold goesW
      rw [Bool.and_eq_true, decide_eq_true_iff]
      exact ⟨rfl, hd⟩
theorem graph_lively {k : Nat} (hk : k ≤ 3) {ps : List ByteArray} (hp : 0 < (statesW k ps).length) : isLivelyM (graphW k ps) = true := by
  have hm := graph_isMat hk hp
  unfold isLivelyM
  rw [hm, Bool.true_and, decide_eq_true_iff]
  unfold livelyM
  rw [if_pos hm]
  unfold liveList
  rw [List.length_map, List.filter_eq_self.2 fun i hi => ?_, List.length_range]
  rw [graph_length] at hi
  exact good_in_liveK (graph_good hk) _ i (decide_eq_true (List.mem_range.1 hi))

/-! ### Powers -/
theorem lang_le {k : Nat} (hk : k ≤ 3) (ps : List ByteArray) (n : Nat) : (langW k ps n).length ≤ 3 ^ n := by
  refine Nat.le_trans (List.length_filter_le _ _) ?_
  rw [allW_length]
  exact Nat.pow_le_pow_left hk n
theorem cntW_le {k : Nat} (hk : k ≤ 3) (ps : List ByteArray) (n j : Nat) : 0 ≤ cntW k ps n j ∧ cntW k ps n j ≤ ((3 ^ n : Nat) : Int) := by
  unfold cntW
  have h1 := List.length_filter_le (fun w => decide (lastW w = stW k ps j)) (langW k ps n)
  have h2 := lang_le hk ps n
  omega
/-- The columns of the graph's powers count the words by their last two letters. -/
theorem graph_pow {k : Nat} (hk : k ≤ 3) {ps : List ByteArray} (hps : ∀ f ∈ ps, f.size ≤ 3) (hp : 0 < (statesW k ps).length) : ∀ t, t ≤ 6 → ∃ P, powM (graphW k ps) t = some P ∧ P.length = (statesW k ps).length ∧ isMat P = true ∧ ∀ j, j < (statesW k ps).length → (sumTo (statesW k ps).length fun i => cellOf P i j) = cntW k ps (2 + t) j
  | 0, _ => by
    refine ⟨oneM (graphW k ps).length, rfl, ?_, oneM_isMat (by rw [graph_length]; exact hp) (by rw [graph_length]; exact states_le hk ps), fun j hj => ?_⟩
    · unfold oneM; rw [tabOf_length, graph_length]
    · rw [cnt_two hk hj, graph_length]
      have e : (sumTo (statesW k ps).length fun i => cellOf (oneM (statesW k ps).length) i j) = sumTo (statesW k ps).length fun i => (if j = i then 1 else 0) * 1 := sumTo_congr _ fun i hi => by
        unfold oneM; rw [tabOf_cell hi hj]
        by_cases h : i = j
        · subst h; simp
        · rw [if_neg h, if_neg (Ne.symm h)]; rfl
      rw [e, sumTo_pick 1 (fun _ => 1) hj]; rfl
  | t + 1, ht => by
    obtain ⟨P, h1, h2, h3, h4⟩ := graph_pow hk hps hp t (by omega)
    have hG := graph_isMat hk hp
    have hGl := graph_length k ps
    have hlen : (mulM P (graphW k ps)).length = (statesW k ps).length := by unfold mulM; rw [tabOf_length, h2]
    have hcell : ∀ i j, i < (statesW k ps).length → j < (statesW k ps).length → cellOf (mulM P (graphW k ps)) i j = sumTo (statesW k ps).length fun l => cellOf P i l * cellOf (graphW k ps) l j := fun i j hi hj => by
      unfold mulM; rw [tabOf_cell (by rw [h2]; exact hi) (by rw [hGl]; exact hj), hGl]
    have hcol : ∀ j, j < (statesW k ps).length → (sumTo (statesW k ps).length fun i => cellOf (mulM P (graphW k ps)) i j) = cntW k ps (2 + (t + 1)) j := fun j hj => by
      rw [show 2 + (t + 1) = 2 + t + 1 by omega, cnt_next hk hps (by omega) hj]
      rw [sumTo_congr _ fun i hi => hcell i j hi hj, sumTo_swap (fun i l => cellOf P i l * cellOf (graphW k ps) l j)]
      refine sumTo_congr _ fun l hl => ?_
      rw [← h4 l hl]
      have := sumTo_mulc (cellOf (graphW k ps) l j) (fun i => cellOf P i l) (statesW k ps).length
      rw [Int.mul_comm (sumTo _ _), ← this]
      exact sumTo_congr _ fun i _ => Int.mul_comm _ _
    have hnn : ∀ i j, i < (statesW k ps).length → j < (statesW k ps).length → 0 ≤ cellOf (mulM P (graphW k ps)) i j := fun i j hi hj => by
      rw [hcell i j hi hj]
      refine sumTo_nonneg fun l hl => Int.mul_nonneg ?_ ?_
      · exact (((isMat_iff.1 h3).2 i (by rw [h2]; exact hi)).2 l (by rw [h2]; exact hl)).1
      · exact (((isMat_iff.1 hG).2 l (by rw [hGl]; exact hl)).2 j (by rw [hGl]; exact hj)).1
    have hM : isMat (mulM P (graphW k ps)) = true := by
      refine isMat_iff.2 ⟨by rw [hlen]; exact ⟨hp, states_le hk ps⟩, fun i hi => ⟨?_, fun j hj => ?_⟩⟩
      · rw [hlen] at hi ⊢
        unfold mulM; rw [tabOf_row (by rw [h2]; exact hi)]; simp [hGl]
      · rw [hlen] at hi hj
        refine ⟨hnn i j hi hj, ?_⟩
        have h5 := sumTo_term (f := fun i => cellOf (mulM P (graphW k ps)) i j) hi fun i' hi' => hnn i' j hi' hj
        rw [hcol j hj] at h5
        have h6 := (cntW_le hk ps (2 + (t + 1)) j).2
        have h7 : 3 ^ (2 + (t + 1)) ≤ 3 ^ 8 := Nat.pow_le_pow_right (by decide) (by omega)
        have h8 : (3 : Nat) ^ 8 = 6561 := by decide
        have h9 : cellOf (mulM P (graphW k ps)) i j ≤ cntW k ps (2 + (t + 1)) j := h5
        omega
    refine ⟨mulM P (graphW k ps), ?_, hlen, hM, hcol⟩
    rw [powM, h1]
    show prodM P (graphW k ps) = _
    unfold prodM
    rw [h3, hG, hM, decide_eq_true (show P.length = (graphW k ps).length by rw [h2, hGl])]
    rfl
/-- The paths of the graph count the words. -/
theorem graph_count {k : Nat} (hk : k ≤ 3) {ps : List ByteArray} (hps : ∀ f ∈ ps, f.size ≤ 3) (hp : 0 < (statesW k ps).length) {t : Nat} (ht : t ≤ 6) : countM (graphW k ps) (t : Int) = ((langW k ps (2 + t)).length : Int) := by
  obtain ⟨P, h1, h2, h3, h4⟩ := graph_pow hk hps hp t ht
  have hG := graph_isMat hk hp
  unfold countM powS
  rw [if_pos ⟨hG, by omega, by omega⟩, Int.toNat_natCast, h1]
  show sumM P = _
  unfold sumM
  rw [if_pos h3, h2, lang_sum hk ps (by omega), sumTo_swap (fun i j => cellOf P i j)]
  exact sumTo_congr _ fun j hj => h4 j hj
end Go.Proofs.Ytalclebehbdliaa
namespace Go.Proofs.Ytalclebehbdliaa
open Go Go.RowKit

/-- The word is in the language, in words. -/
structure InL (k : Nat) (ps : List ByteArray) (w : ByteArray) : Prop where
  av : avoids ps w = true
  ex : ∃ a b, Lively (k : Int) ps a b
  two : ∀ i, i + 2 ≤ w.size → Lively (k : Int) ps (ch w i) (ch w (i + 1))
  one : ∀ i, i < w.size → ∃ c, Lively (k : Int) ps (ch w i) c
theorem lively_right {k : Nat} {ps : List ByteArray} {a b : UInt8} (h : Lively (k : Int) ps a b) : ∃ c, Lively (k : Int) ps b c := by
  obtain ⟨_, _, ⟨c, _, _, h⟩, _⟩ := Lively.closed _ _ a b h
  exact ⟨c, h⟩
theorem one_list {w : ByteArray} (h : w.size = 1) : w.data.toList = [ch w 0] := by
  have hl : w.data.toList.length = w.size := rfl
  match e : w.data.toList with
  | [] => rw [e] at hl; simp at hl; omega
  | [a] => unfold ch; rw [e]; rfl
  | a :: b :: r => rw [e] at hl; simp at hl; omega
theorem inM_iff {k : Nat} (hk : k ≤ 3) {ps : List ByteArray} {w : ByteArray} (hw : w.data.toList.all (isL (k : Int)) = true) : inM ps (pairsW k ps) w = true ↔ InL k ps w := by
  by_cases h2 : 2 ≤ w.size
  · rw [in_iff hk hw h2]
    constructor
    · rintro ⟨h, ht⟩
      refine ⟨h, ⟨_, _, ht 0 (by omega)⟩, ht, fun i hi => ?_⟩
      by_cases e : i + 2 ≤ w.size
      · exact ⟨_, ht i e⟩
      · have := ht (i - 1) (by omega)
        rw [show i - 1 + 1 = i by omega] at this
        exact lively_right this
    · intro h; exact ⟨h.av, h.two⟩
  · have hinM : inM ps (pairsW k ps) w = ((!decide ((pairsW k ps).length = 0) && avoids ps w) && (pairsW k ps).any fun q => Lib.contains q.data.toList w.data.toList) := by unfold inM; rw [if_neg h2]
    rw [hinM, Bool.and_eq_true, Bool.and_eq_true, Bool.not_eq_true', decide_eq_false_iff_not, List.any_eq_true]
    constructor
    · rintro ⟨⟨hn, ha⟩, q, hq, hc⟩
      obtain ⟨a, b, rfl, _, _⟩ := mem_pairsW' hk hq
      have hab := (mem_pairsW hk a b).1 hq
      refine ⟨ha, ⟨a, b, hab⟩, fun i hi => by omega, fun i hi => ?_⟩
      obtain rfl : i = 0 := by omega
      have h3 := contains_iff.1 hc
      rw [one_list (by omega)] at h3
      have hm : ch w 0 ∈ [a, b] := h3.subset (List.mem_singleton.2 rfl)
      simp at hm
      rcases hm with e | e
      · exact ⟨b, by rw [e]; exact hab⟩
      · rw [e]; exact lively_right hab
    · intro h
      obtain ⟨a, b, hab⟩ := h.ex
      have hm := (mem_pairsW hk a b).2 hab
      refine ⟨⟨fun e => ?_, h.av⟩, ?_⟩
      · rw [List.eq_nil_of_length_eq_zero e] at hm; cases hm
      · by_cases h0 : w.size = 0
        · refine ⟨_, hm, contains_iff.2 ?_⟩
          have : w.data.toList = [] := List.eq_nil_of_length_eq_zero h0
          rw [this]; exact List.nil_infix
        · obtain ⟨c, hc⟩ := h.one 0 (by omega)
          refine ⟨_, (mem_pairsW hk _ c).2 hc, contains_iff.2 ?_⟩
          rw [one_list (by omega)]
          exact ⟨[], [c], rfl⟩
theorem ch_mid {u w : ByteArray} {x y : List UInt8} (h : x ++ u.data.toList ++ y = w.data.toList) {i : Nat} (hi : i < u.size) : ch u i = ch w (x.length + i) := by
  have hl : u.data.toList.length = u.size := rfl
  unfold ch
  rw [← h, List.getD_eq_getElem?_getD, List.getD_eq_getElem?_getD, List.getElem?_append_left (by rw [List.length_append]; omega), List.getElem?_append_right (by omega), Nat.add_sub_cancel_left]
/-- A part of a word of the language is one. -/
theorem InL.part {k : Nat} {ps : List ByteArray} {u w : ByteArray} (h : InL k ps w) (hp : u.data.toList <:+: w.data.toList) : InL k ps u := by
  have ha := avoids_part hp h.av
  obtain ⟨x, y, e⟩ := hp
  have hl : u.data.toList.length = u.size := rfl
  have hl2 : w.data.toList.length = w.size := rfl
  have hs : x.length + u.size + y.length = w.size := by rw [← hl2, ← e, List.length_append, List.length_append, hl]
  refine ⟨ha, h.ex, fun i hi => ?_, fun i hi => ?_⟩
  · rw [ch_mid e (by omega), ch_mid e (by omega), ← Nat.add_assoc]
    exact h.two _ (by omega)
  · rw [ch_mid e hi]
    exact h.one _ (by omega)
theorem infix_letters {k : Int} {u w : ByteArray} (hw : w.data.toList.all (isL k) = true) (hp : u.data.toList <:+: w.data.toList) : u.data.toList.all (isL k) = true := by
  rw [List.all_eq_true] at hw ⊢
  exact fun b hb => hw b (hp.subset hb)

/-! ### The least words that are not in the language -/
/-- F holds the words of one to three letters that are not in the language, all whose parts are. -/
def LeastOut (k : Nat) (ps F : List ByteArray) : Prop := ∀ f, f ∈ F ↔ (1 ≤ f.size ∧ f.size ≤ 3) ∧ f.data.toList.all (isL (k : Int)) = true ∧ ¬ InL k ps f ∧ InL k ps (f.extract 1 f.size) ∧ InL k ps (f.extract 0 (f.size - 1))
theorem avoids_iff {ps : List ByteArray} {w : ByteArray} : avoids ps w = true ↔ ∀ f ∈ ps, ¬ f.data.toList <:+: w.data.toList := by
  unfold avoids
  rw [List.all_eq_true]
  refine forall_congr' fun f => imp_congr_right fun _ => ?_
  rw [Bool.not_eq_true', ← Bool.not_eq_true, contains_iff]
theorem empty_in {k : Nat} {ps : List ByteArray} (hex : ∃ a b, Lively (k : Int) ps a b) {w : ByteArray} (h0 : w.size = 0) : InL k ps w := by
  obtain ⟨a, b, hab⟩ := hex
  obtain ⟨_, _, ⟨c, _, hc, _⟩, _⟩ := Lively.closed _ _ a b hab
  refine ⟨avoids_part ?_ hc, ⟨a, b, hab⟩, fun i hi => by omega, fun i hi => by omega⟩
  rw [show w.data.toList = [] from List.eq_nil_of_length_eq_zero h0]; exact List.nil_infix
theorem front_part (w : ByteArray) : (w.extract 0 (w.size - 1)).data.toList <:+: w.data.toList := by
  rw [ba_extract, List.drop_zero]; exact (List.take_prefix _ _).isInfix
theorem back_part (w : ByteArray) : (w.extract 1 w.size).data.toList <:+: w.data.toList := by
  rw [ba_extract]; exact (List.take_prefix _ _).isInfix.trans (List.drop_suffix _ _).isInfix
theorem avoids_least {k : Nat} {ps F : List ByteArray} (hF : LeastOut k ps F) (hex : ∃ a b, Lively (k : Int) ps a b) : ∀ (n : Nat) (w : ByteArray), w.size = n → n ≤ 3 → w.data.toList.all (isL (k : Int)) = true → (avoids F w = true ↔ InL k ps w)
  | 0, w, h0, _, _ => by
    refine ⟨fun _ => empty_in hex h0, fun _ => avoids_iff.2 fun f hf hp => ?_⟩
    have h1 := ((hF f).1 hf).1
    have h2 := hp.length_le
    have h3 : f.data.toList.length = f.size := rfl
    have h4 : w.data.toList.length = w.size := rfl
    omega
  | n + 1, w, hn, h3, hw => by
    constructor
    · intro ha
      refine Classical.byContradiction fun hi => ?_
      have e1 : (w.extract 1 w.size).size = n := by rw [ByteArray.size_extract]; omega
      have e2 : (w.extract 0 (w.size - 1)).size = n := by rw [ByteArray.size_extract]; omega
      have k1 := (avoids_least hF hex n _ e1 (by omega) (infix_letters hw (back_part w))).1 (avoids_part (back_part w) ha)
      have k2 := (avoids_least hF hex n _ e2 (by omega) (infix_letters hw (front_part w))).1 (avoids_part (front_part w) ha)
      have hm := (hF w).2 ⟨by omega, hw, hi, k1, k2⟩
      exact avoids_iff.1 ha w hm (List.infix_refl _)
    · intro h
      refine avoids_iff.2 fun f hf hp => ?_
      exact ((hF f).1 hf).2.2.1 (h.part hp)
theorem tri_letters {k : Nat} {a b c : UInt8} (ha : isL (k : Int) a = true) (hb : isL (k : Int) b = true) (hc : isL (k : Int) c = true) : (tri a b c).data.toList.all (isL (k : Int)) = true := by
  show ([a, b, c].all (isL (k : Int))) = true
  simp [ha, hb, hc]
theorem tri_in {k : Nat} {ps : List ByteArray} {a b c : UInt8} (h : avoids ps (tri a b c) = true) (h1 : Lively (k : Int) ps a b) (h2 : Lively (k : Int) ps b c) : InL k ps (tri a b c) := by
  have hs : (tri a b c).size = 3 := rfl
  refine ⟨h, ⟨_, _, h1⟩, fun i hi => ?_, fun i hi => ?_⟩
  · have : i = 0 ∨ i = 1 := by omega
    rcases this with rfl | rfl
    · exact h1
    · exact h2
  · have : i = 0 ∨ i = 1 ∨ i = 2 := by omega
    rcases this with rfl | rfl | rfl
    · exact ⟨_, h1⟩
    · exact ⟨_, h2⟩
    · exact lively_right h2
theorem lively_same {k : Nat} {ps F : List ByteArray} (hF : LeastOut k ps F) (hex : ∃ a b, Lively (k : Int) ps a b) (a b : UInt8) : Lively (k : Int) F a b ↔ Lively (k : Int) ps a b := by
  constructor
  · intro h
    refine ⟨Lively (k : Int) F, ?_, h⟩
    intro x y hxy
    obtain ⟨h1, h2, ⟨c, h3, h4, h5⟩, d, h6, h7, h8⟩ := Lively.closed _ _ x y hxy
    exact ⟨h1, h2, ⟨c, h3, ((avoids_least hF hex 3 _ rfl (Nat.le_refl _) (tri_letters h1 h2 h3)).1 h4).av, h5⟩, d, h6, ((avoids_least hF hex 3 _ rfl (Nat.le_refl _) (tri_letters h6 h1 h2)).1 h7).av, h8⟩
  · intro h
    refine ⟨Lively (k : Int) ps, ?_, h⟩
    intro x y hxy
    obtain ⟨h1, h2, ⟨c, h3, h4, h5⟩, d, h6, h7, h8⟩ := Lively.closed _ _ x y hxy
    exact ⟨h1, h2, ⟨c, h3, (avoids_least hF hex 3 _ rfl (Nat.le_refl _) (tri_letters h1 h2 h3)).2 (tri_in h4 hxy h5), h5⟩, d, h6, (avoids_least hF hex 3 _ rfl (Nat.le_refl _) (tri_letters h6 h1 h2)).2 (tri_in h7 h8 hxy), h8⟩
theorem lang_least {k : Nat} (hk : k ≤ 3) {ps F : List ByteArray} (hF : LeastOut k ps F) (hex : ∃ a b, Lively (k : Int) ps a b) {n : Nat} (hn : n ≤ 3) : langW k F n = langW k ps n := by
  unfold langW
  refine List.filter_congr fun w hw => ?_
  obtain ⟨h1, h2⟩ := (mem_allW k hk n w).1 hw
  rw [Bool.eq_iff_iff, inM_iff hk h2, inM_iff hk h2]
  have ha := avoids_least hF hex n w h1 hn h2
  have hL := lively_same hF hex
  constructor
  · intro h; exact ha.1 h.av
  · intro h
    obtain ⟨a, b, hab⟩ := hex
    exact ⟨ha.2 h, ⟨a, b, (hL a b).2 hab⟩, fun i hi => (hL _ _).2 (h.two i hi), fun i hi => by obtain ⟨c, hc⟩ := h.one i hi; exact ⟨c, (hL _ _).2 hc⟩⟩

/-! ### More forbidden words -/
theorem avoids_more {ps X : List ByteArray} (h : ∀ f ∈ ps, f ∈ X) {w : ByteArray} (ha : avoids X w = true) : avoids ps w = true := avoids_iff.2 fun f hf => avoids_iff.1 ha f (h f hf)
theorem lively_more {L : Int} {ps X : List ByteArray} (h : ∀ f ∈ ps, f ∈ X) {a b : UInt8} (hl : Lively L X a b) : Lively L ps a b := by
  refine ⟨Lively L X, ?_, hl⟩
  intro x y hxy
  obtain ⟨h1, h2, ⟨c, h3, h4, h5⟩, d, h6, h7, h8⟩ := Lively.closed _ _ x y hxy
  exact ⟨h1, h2, ⟨c, h3, avoids_more h h4, h5⟩, d, h6, avoids_more h h7, h8⟩
theorem InL.more {k : Nat} {ps X : List ByteArray} (h : ∀ f ∈ ps, f ∈ X) {w : ByteArray} (hw : InL k X w) : InL k ps w := by
  obtain ⟨a, b, hab⟩ := hw.ex
  exact ⟨avoids_more h hw.av, ⟨a, b, lively_more h hab⟩, fun i hi => lively_more h (hw.two i hi), fun i hi => by obtain ⟨c, hc⟩ := hw.one i hi; exact ⟨c, lively_more h hc⟩⟩
end Go.Proofs.Ytalclebehbdliaa
namespace Go.Proofs.Ytalclebehbdliaa
open Go Go.RowKit

def putW (x : ByteArray) : List ByteArray → List ByteArray
  | [] => [x]
  | y :: l => if y.data.toList < x.data.toList then y :: putW x l else if y = x then y :: l else x :: y :: l
/-- The first k are less than x. -/
def LessTo (x : ByteArray) (ps : List ByteArray) (k : Nat) : Prop := ∀ j, j < k → (ps.getD j ByteArray.empty).data.toList < x.data.toList
theorem LessTo.next {x : ByteArray} {ps : List ByteArray} {k : Nat} (h : LessTo x ps k) (hl : (ps.getD k ByteArray.empty).data.toList < x.data.toList) : LessTo x ps (k + 1) := by
  intro j hj
  by_cases e : j = k
  · subst e; exact hl
  · exact h j (by omega)
theorem putW_end (x : ByteArray) : ∀ ps : List ByteArray, LessTo x ps ps.length → putW x ps = ps ++ [x]
  | [], _ => rfl
  | y :: l, h => by
    have h0 := h 0 (by simp)
    simp only [List.getD_cons_zero] at h0
    rw [putW, if_pos h0, putW_end x l (fun j hj => by have := h (j + 1) (by simpa using hj); simpa using this)]
    rfl
theorem putW_same (x : ByteArray) : ∀ (ps : List ByteArray) (k : Nat), k < ps.length → LessTo x ps k → ps.getD k ByteArray.empty = x → putW x ps = ps
  | [], k, h, _, _ => by simp at h
  | y :: l, 0, _, _, he => by
    simp only [List.getD_cons_zero] at he
    subst he
    rw [putW, if_neg (List.lt_irrefl _), if_pos rfl]
  | y :: l, k + 1, hk, h, he => by
    have h0 := h 0 (by omega)
    simp only [List.getD_cons_zero] at h0
    rw [putW, if_pos h0, putW_same x l k (by simpa using hk) (fun j hj => by have := h (j + 1) (by omega); simpa using this) (by simpa using he)]
theorem putW_mid (x : ByteArray) : ∀ (ps : List ByteArray) (k : Nat), k < ps.length → LessTo x ps k → ¬ (ps.getD k ByteArray.empty).data.toList < x.data.toList → ps.getD k ByteArray.empty ≠ x → putW x ps = (ps.take k ++ [x]) ++ ps.drop k
  | [], k, h, _, _, _ => by simp at h
  | y :: l, 0, _, _, hn, he => by
    simp only [List.getD_cons_zero] at he hn
    rw [putW, if_neg hn, if_neg he]
    rfl
  | y :: l, k + 1, hk, h, hn, he => by
    have h0 := h 0 (by omega)
    simp only [List.getD_cons_zero] at h0
    rw [putW, if_pos h0, putW_mid x l k (by simpa using hk) (fun j hj => by have := h (j + 1) (by omega); simpa using this) (by simpa using hn) (by simpa using he)]
    rfl
theorem putW_length (x : ByteArray) : ∀ ps : List ByteArray, 0 < (putW x ps).length ∧ (putW x ps).length ≤ ps.length + 1
  | [] => by simp [putW]
  | y :: l => by
    have ih := putW_length x l
    unfold putW
    split
    · simp; omega
    · split <;> simp
theorem putW_mem (x z : ByteArray) : ∀ ps : List ByteArray, z ∈ putW x ps → z = x ∨ z ∈ ps
  | [], h => by simpa [putW] using h
  | y :: l, h => by
    unfold putW at h
    split at h
    · rcases List.mem_cons.1 h with h | h
      · exact Or.inr (by simp [h])
      · rcases putW_mem x z l h with h | h
        · exact Or.inl h
        · exact Or.inr (by simp [h])
    · split at h
      · exact Or.inr h
      · exact List.mem_cons.1 h
/-- Ascending, each once. -/
def Asc (ps : List ByteArray) : Prop := ps.Pairwise fun a b => a.data.toList < b.data.toList
theorem Asc.put {x : ByteArray} : ∀ {ps : List ByteArray}, Asc ps → Asc (putW x ps)
  | [], _ => by simp [putW, Asc]
  | y :: l, h => by
    have h1 := List.pairwise_cons.1 h
    unfold putW
    split
    · next hl =>
      refine List.pairwise_cons.2 ⟨fun z hz => ?_, Asc.put h1.2⟩
      rcases putW_mem x z l hz with e | hm
      · subst e; exact hl
      · exact h1.1 z hm
    · next hn =>
      split
      · exact h
      · next he =>
        have hlt : x.data.toList < y.data.toList := by
          rcases List.le_iff_lt_or_eq.1 (List.not_lt.1 hn) with h3 | h3
          · exact h3
          · exact absurd (ba_ext h3).symm he
        refine List.pairwise_cons.2 ⟨fun z hz => ?_, h⟩
        rcases List.mem_cons.1 hz with e | hm
        · subst e; exact hlt
        · exact List.lt_trans hlt (h1.1 z hm)
def notB (x : List UInt8) (z : List UInt8) : Bool := !(z == x)
def datas (ps : List ByteArray) : List (List UInt8) := ps.map fun p => p.data.toList
theorem filter_all_of {l : List (List UInt8)} {x : List UInt8} (h : ∀ z ∈ l, z ≠ x) : l.filter (notB x) = l := by
  rw [List.filter_eq_self]
  intro z hz
  simp [notB, h z hz]
theorem putW_perm (x : ByteArray) : ∀ {ps : List ByteArray}, Asc ps → (datas (putW x ps)).Perm (x.data.toList :: (datas ps).filter (notB x.data.toList))
  | [], _ => by simp [putW, datas]
  | y :: l, h => by
    have h1 := List.pairwise_cons.1 h
    have ih := putW_perm x h1.2
    unfold putW
    split
    · next hl =>
      have hne : notB x.data.toList y.data.toList = true := by
        have : y.data.toList ≠ x.data.toList := fun e => List.lt_irrefl _ (e ▸ hl)
        unfold notB
        rw [beq_eq_false_iff_ne.2 this]; rfl
      simp only [datas, List.map_cons, List.filter_cons, hne, if_true] at ih ⊢
      exact (ih.cons _).trans (List.Perm.swap _ _ _)
    · next hn =>
      split
      · next he =>
        subst he
        have hf : (datas l).filter (notB y.data.toList) = datas l := filter_all_of (fun z hz => by
          obtain ⟨p, hp, rfl⟩ := List.mem_map.1 hz
          intro e
          exact List.lt_irrefl _ (e ▸ h1.1 p hp))
        have hy : notB y.data.toList y.data.toList = false := by simp [notB]
        have hd : datas (y :: l) = y.data.toList :: datas l := rfl
        rw [hd, List.filter_cons, hy, if_neg (by decide), hf]
      · next he =>
        have hlt : x.data.toList < y.data.toList := by
          rcases List.le_iff_lt_or_eq.1 (List.not_lt.1 hn) with h3 | h3
          · exact h3
          · exact absurd (ba_ext h3).symm he
        have hf : (datas (y :: l)).filter (notB x.data.toList) = datas (y :: l) := filter_all_of (fun z hz => by
          obtain ⟨p, hp, rfl⟩ := List.mem_map.1 hz
          intro e
          rcases List.mem_cons.1 hp with e2 | hm
          · subst e2; exact List.lt_irrefl _ (e ▸ hlt)
          · exact List.lt_irrefl _ (e ▸ List.lt_trans hlt (h1.1 p hm)))
        rw [hf]
        exact List.Perm.refl _

/-! ### The parts of a word -/
def facsTo (w : ByteArray) (n : Nat) : Nat → List ByteArray
  | 0 => []
  | i + 1 => putW (w.extract i (i + n)) (facsTo w n i)
theorem facsTo_asc (w : ByteArray) (n : Nat) : ∀ i, Asc (facsTo w n i)
  | 0 => List.Pairwise.nil
  | i + 1 => (facsTo_asc w n i).put
theorem facsTo_length (w : ByteArray) (n : Nat) : ∀ i, (facsTo w n i).length ≤ i
  | 0 => Nat.le_refl _
  | i + 1 => by
    have := (putW_length (w.extract i (i + n)) (facsTo w n i)).2
    have := facsTo_length w n i
    unfold facsTo; omega
theorem facsTo_pos (w : ByteArray) (n i : Nat) (h : 0 < i) : 0 < (facsTo w n i).length := by
  match i, h with
  | i + 1, _ => exact (putW_length _ _).1
theorem facsTo_mem (w : ByteArray) (n : Nat) : ∀ i, ∀ z ∈ facsTo w n i, ∃ j, j < i ∧ z = w.extract j (j + n)
  | 0, z, h => by simp [facsTo] at h
  | i + 1, z, h => by
    rcases putW_mem _ z _ h with e | hm
    · exact ⟨i, by omega, e⟩
    · obtain ⟨j, hj, e⟩ := facsTo_mem w n i z hm
      exact ⟨j, by omega, e⟩
def factorsOf (w : ByteArray) (n : Int) : List ByteArray := if isW 3 w = true ∧ 0 ≤ n ∧ n ≤ (w.size : Int) then facsTo w n.toNat (w.size - n.toNat + 1) else []
theorem factorsOf_length (w : ByteArray) (n : Int) : (factorsOf w n).length ≤ 1000000 := by
  unfold factorsOf
  split
  · next h =>
    have := isW_len h.1
    have := facsTo_length w n.toNat (w.size - n.toNat + 1)
    omega
  · simp

/-! ### A map's keys -/
theorem strKeys_put {H : Type} (es : List (Lit × DataW H)) (x : List UInt8) (d : DataW H) (hk : ∀ p ∈ es, ∃ y, p.1 = .string y) :
    (strKeys ((DataW.map es).put (.string x) d)).Perm (x :: (strKeys (DataW.map es)).filter (notB x)) := by
  rw [DataW.put_eq]
  show ((ChangeMaps.putKey (.string x) d es).map fun p => strOf p.1).Perm (x :: (es.map fun p => strOf p.1).filter (notB x))
  unfold ChangeMaps.putKey
  have h1 := (WideShapes.insert_perm ((Lit.string x, d) : Lit × DataW H) (es.filter (ChangeMaps.notKey (.string x)))).map fun p => strOf p.1
  refine h1.trans ?_
  rw [List.map_cons]
  refine List.Perm.cons _ ?_
  rw [List.filter_map]
  have e : es.filter (ChangeMaps.notKey (.string x)) = es.filter (notB x ∘ fun p => strOf p.1) := by
    apply List.filter_congr
    intro p hp
    obtain ⟨y, hy⟩ := hk p hp
    simp [ChangeMaps.notKey, hy, Lit.sameKey, notB, strOf]
  rw [e]
theorem sorted_of_perm {ss : List (List UInt8)} {ps : List ByteArray} (h : ss.Perm (datas ps)) (ha : Asc ps) : ss.mergeSort (fun x y => decide (x ≤ y)) = datas ps := by
  have tr : ∀ a b c : List UInt8, decide (a ≤ b) = true → decide (b ≤ c) = true → decide (a ≤ c) = true := fun a b c h1 h2 => by simp only [decide_eq_true_eq] at *; exact List.le_trans h1 h2
  have to : ∀ a b : List UInt8, (decide (a ≤ b) || decide (b ≤ a)) = true := fun a b => by simp only [Bool.or_eq_true, decide_eq_true_eq]; exact List.le_total a b
  refine List.Perm.eq_of_pairwise (le := fun a b => decide (a ≤ b) = true) (fun a b _ _ h1 h2 => ?_) (List.pairwise_mergeSort tr to ss) ?_ ((List.mergeSort_perm ss _).trans h)
  · simp only [decide_eq_true_eq] at h1 h2
    exact List.le_antisymm h1 h2
  · refine List.pairwise_map.2 (List.Pairwise.imp (fun hlt => ?_) ha)
    rw [decide_eq_true_eq]
    exact List.le_of_lt hlt
theorem datas_enc (ps : List ByteArray) : (datas ps).map (fun l => Value.string ⟨l.toArray⟩) = ps.map Value.string := by
  rw [datas, List.map_map]
  apply List.map_congr_left
  intro p _
  simp
end Go.Proofs.Ytalclebehbdliaa
namespace Go.Proofs.Ytalclebehbdliaa
open Go Go.RowKit

theorem mem_putW (x z : ByteArray) : ∀ ps : List ByteArray, z ∈ putW x ps ↔ z = x ∨ z ∈ ps
  | [] => by simp [putW]
  | y :: l => by
    unfold putW
    split
    · rw [List.mem_cons, mem_putW x z l, List.mem_cons]
      constructor
      · rintro (h | h | h)
        · exact .inr (.inl h)
        · exact .inl h
        · exact .inr (.inr h)
      · rintro (h | h | h)
        · exact .inr (.inl h)
        · exact .inl h
        · exact .inr (.inr h)
    · split
      · next e =>
        subst e
        exact ⟨.inr, fun h => h.elim (fun e => e ▸ List.mem_cons_self ..) id⟩
      · exact List.mem_cons
def putAll (ws l : List ByteArray) : List ByteArray := ws.foldl (fun l w => putW w l) l
theorem mem_putAll (z : ByteArray) : ∀ (ws l : List ByteArray), z ∈ putAll ws l ↔ z ∈ ws ∨ z ∈ l
  | [], l => by simp [putAll]
  | w :: ws, l => by
    show z ∈ putAll ws (putW w l) ↔ _
    rw [mem_putAll z ws, mem_putW, List.mem_cons]
    constructor
    · rintro (h | h | h)
      · exact .inl (.inr h)
      · exact .inl (.inl h)
      · exact .inr h
    · rintro ((h | h) | h)
      · exact .inr (.inl h)
      · exact .inl h
      · exact .inr (.inr h)
theorem asc_putAll : ∀ (ws : List ByteArray) {l : List ByteArray}, Asc l → Asc (putAll ws l)
  | [], _, h => h
  | _ :: ws, _, h => asc_putAll ws h.put
theorem putAll_app (a b l : List ByteArray) : putAll (a ++ b) l = putAll b (putAll a l) := List.foldl_append
/-- Ascending words of one to three letters, not more than eight, are a shift's. -/
theorem shift_of {L : Int} (h1 : 1 ≤ L) (h3 : L ≤ 3) {l : List ByteArray} (ha : Asc l) (hw : ∀ f ∈ l, isW L f = true ∧ 1 ≤ f.size ∧ f.size ≤ 3) : isShift L l = decide (l.length ≤ 8) := by
  rw [isShift_end fun k hk => ?_, decide_eq_true h1, decide_eq_true h3]
  · rfl
  · obtain ⟨q1, q2, q3⟩ := hw _ (getD_mem hk)
    unfold okAt
    rw [q1, decide_eq_true q2, decide_eq_true q3]
    simp only [Bool.and_self, Bool.true_and, Bool.or_eq_true, decide_eq_true_eq]
    by_cases h0 : k = 0
    · exact .inl h0
    · right
      have hp := List.pairwise_iff_getElem.1 ha (k - 1) k (by omega) hk (by omega)
      rw [List.getD_eq_getElem?_getD, List.getElem?_eq_getElem (by omega), List.getD_eq_getElem?_getD, List.getElem?_eq_getElem hk]
      exact hp
theorem shift_okAt {L : Int} {ps : List ByteArray} (h : isShift L ps = true) {k : Nat} (hk : k < ps.length) : okAt L ps k = true := by
  unfold isShift at h
  rw [Bool.and_eq_true, List.all_eq_true] at h
  exact h.1 k (List.mem_range.2 hk)
theorem shift_words {L : Int} {ps : List ByteArray} (h : isShift L ps = true) : ∀ f ∈ ps, isW L f = true ∧ 1 ≤ f.size ∧ f.size ≤ 3 := by
  intro f hf
  obtain ⟨k, hk, rfl⟩ := List.getElem_of_mem hf
  have h1 := shift_okAt h hk
  unfold okAt at h1
  rw [List.getD_eq_getElem?_getD, List.getElem?_eq_getElem hk, Option.getD_some] at h1
  simp only [Bool.and_eq_true, decide_eq_true_eq] at h1
  exact ⟨h1.1.1, h1.1.2.1, h1.1.2.2⟩
theorem shift_asc {L : Int} {ps : List ByteArray} (h : isShift L ps = true) : Asc ps := by
  have step : ∀ k, k + 1 < ps.length → (ps.getD k ByteArray.empty).data.toList < (ps.getD (k + 1) ByteArray.empty).data.toList := fun k hk => by
    have h1 := shift_okAt h hk
    unfold okAt at h1
    simp only [Bool.and_eq_true, Bool.or_eq_true, decide_eq_true_eq, Nat.add_sub_cancel] at h1
    rcases h1.2 with e | e
    · omega
    · exact e
  have far : ∀ d i, i + d + 1 < ps.length → (ps.getD i ByteArray.empty).data.toList < (ps.getD (i + d + 1) ByteArray.empty).data.toList := by
    intro d
    induction d with
    | zero => intro i hi; exact step i (by omega)
    | succ d ih =>
      intro i hi
      exact List.lt_trans (ih i (by omega)) (step (i + d + 1) (by omega))
  refine List.pairwise_iff_getElem.2 fun i j hi hj hij => ?_
  have := far (j - i - 1) i (by omega)
  rw [show i + (j - i - 1) + 1 = j by omega, List.getD_eq_getElem?_getD, List.getElem?_eq_getElem hi, List.getD_eq_getElem?_getD, List.getElem?_eq_getElem hj] at this
  exact this

/-! ### The least words that are not in the language -/
def outB (k : Nat) (ps : List ByteArray) (w : ByteArray) : Bool := (!inM ps (pairsW k ps) w && inM ps (pairsW k ps) (w.extract 1 w.size)) && inM ps (pairsW k ps) (w.extract 0 (w.size - 1))
def leastW (k : Nat) (ps : List ByteArray) : List ByteArray := putAll (((allW k 1 ++ allW k 2) ++ allW k 3).filter (outB k ps)) []
theorem outB_iff {k : Nat} (hk : k ≤ 3) {ps : List ByteArray} {w : ByteArray} (hw : w.data.toList.all (isL (k : Int)) = true) : outB k ps w = true ↔ ¬ InL k ps w ∧ InL k ps (w.extract 1 w.size) ∧ InL k ps (w.extract 0 (w.size - 1)) := by
  unfold outB
  rw [Bool.and_eq_true, Bool.and_eq_true, Bool.not_eq_true', ← Bool.not_eq_true, inM_iff hk hw, inM_iff hk (infix_letters hw (back_part w)), inM_iff hk (infix_letters hw (front_part w)), and_assoc]
theorem leastW_out {k : Nat} (hk : k ≤ 3) (ps : List ByteArray) : LeastOut k ps (leastW k ps) := by
  intro f
  unfold leastW
  rw [mem_putAll, List.mem_filter, List.mem_append, List.mem_append, mem_allW k hk, mem_allW k hk, mem_allW k hk]
  constructor
  · rintro (⟨h, ho⟩ | h)
    · have hl : f.data.toList.all (isL (k : Int)) = true := by
        rcases h with (h | h) | h <;> exact h.2
      have hs : 1 ≤ f.size ∧ f.size ≤ 3 := by
        rcases h with (h | h) | h <;> (have := h.1; omega)
      exact ⟨hs, hl, (outB_iff hk hl).1 ho⟩
    · cases h
  · rintro ⟨⟨s1, s3⟩, hl, ho⟩
    refine .inl ⟨?_, (outB_iff hk hl).2 ho⟩
    have : f.size = 1 ∨ f.size = 2 ∨ f.size = 3 := by omega
    rcases this with e | e | e
    · exact .inl (.inl ⟨e, hl⟩)
    · exact .inl (.inr ⟨e, hl⟩)
    · exact .inr ⟨e, hl⟩
theorem leastW_shift {k : Nat} (h1 : 1 ≤ k) (hk : k ≤ 3) (ps : List ByteArray) : isShift (k : Int) (leastW k ps) = decide ((leastW k ps).length ≤ 8) := by
  refine shift_of (by omega) (by omega) (asc_putAll _ (by simp [Asc])) fun f hf => ?_
  obtain ⟨hs, hl, _⟩ := (leastW_out hk ps f).1 hf
  refine ⟨?_, hs⟩
  unfold isW
  simp only [Bool.and_eq_true, decide_eq_true_eq]
  exact ⟨⟨⟨by omega, by omega⟩, by omega⟩, hl⟩
/-- The forbidden words of two shifts, put in order. -/
theorem meet_shift {L : Int} {ps qs : List ByteArray} (h : isShift L ps = true) (h' : isShift L qs = true) : isShift L (putAll qs ps) = decide ((putAll qs ps).length ≤ 8) := by
  obtain ⟨l1, l3, _⟩ := isShift_letters h
  refine shift_of l1 l3 (asc_putAll _ (shift_asc h)) fun f hf => ?_
  rcases (mem_putAll f qs ps).1 hf with e | e
  · exact shift_words h' f e
  · exact shift_words h f e
end Go.Proofs.Ytalclebehbdliaa
namespace Go.Proofs.Ytalclebehbdliaa
open Go Go.RowKit

/-- Not more than nine rows of n numbers, none below zero or above ten milliards. -/
structure Wide (a : List (List Int)) (n : Nat) : Prop where
  le : a.length ≤ 9
  row : ∀ i, i < a.length → (a.getD i []).length = n
  cell : ∀ i j, i < a.length → j < n → 0 ≤ cellOf a i j ∧ cellOf a i j ≤ 10000000000
theorem prodW_le {x y : Int} (hx : 0 ≤ x ∧ x ≤ 10000000000) (hy : 0 ≤ y ∧ y ≤ 1000000) : 0 ≤ x * y ∧ x * y ≤ 10000000000000000 := by
  refine ⟨Int.mul_nonneg hx.1 hy.1, ?_⟩
  calc x * y ≤ 10000000000 * y := Int.mul_le_mul_of_nonneg_right hx.2 hy.1
    _ ≤ 10000000000 * 1000000 := Int.mul_le_mul_of_nonneg_left hy.2 (by decide)
theorem termsW_le {a b : List (List Int)} (ha : Wide a b.length) (hb : MatFacts b) {i j t : Nat} (hi : i < a.length) (hj : j < b.length) (ht : t ≤ b.length) : 0 ≤ termsM a b i j t ∧ termsM a b i j t ≤ t * 10000000000000000 :=
  sumTo_le t fun k hk => prodW_le (ha.cell i k hi (by omega)) (hb.cell k j (by omega) hj)

set_option maxRecDepth 100000 in
set_option maxHeartbeats 3200000 in
theorem spec_times_wide (A1 A2 : Option Addr) (c1 c2 : Nat) (a b : List (List Int)) (ha : Wide a b.length) (hb : MatFacts b) (w : World) (h1 : GridS w A1 a) (h2 : GridS w A2 b) :
    Calls Try.prog 47 #[.slice A1 a.length c1, .slice A2 b.length c2, .int .i64 (b.length : Int)] w (NewG (mulM a b) w) := by
  have H1 := Lib.hid h1
  have H2 := Lib.hid h2
  have HA := Lib.hid ha
  have HBF := Lib.hid hb
  have HZ := Lib.hid (spec_zero a.length b.length (by have := ha.le; omega) (by have := hb.le; omega) w)
  have l1 := ha.le
  have l2 := hb.le
  clear h1 h2 ha hb
  go_enter Try.func47, Try.ntmps47
  go_wp2_with fail
  refine HZ.out.mono ?_
  rintro e w1 ⟨v, rfl, hown, b1⟩
  obtain ⟨A, c, rfl, -⟩ := hown.gridS
  rw [← timesF_zero a b] at hown
  rw [tabOf_length] at hown ⊢
  have HO := Lib.hid hown
  have HB1 := Lib.hid b1
  clear hown b1
  go_wp2
  go_loopw [8] (fun i wr => ∃ k : Nat, k ≤ a.length ∧ i = .int .i64 k ∧ OwnG wr w.heap.size (.slice A a.length c) (tabOf a.length b.length (timesF a b k 0 0)) ∧ Below w.heap.size w wr) (fun i _ => a.length - (intOf i).toNat)
  case atStart => exact ⟨0, Nat.zero_le _, rfl, HO.out, HB1.out⟩
  case round =>
    obtain ⟨i, hi, rfl, hown, hbl⟩ := hrel
    by_cases hil : i < a.length
    · have HO1 := Lib.hid hown
      have HB2 := Lib.hid hbl
      clear hown hbl
      go_wp2
      go_loopw [9] (fun jv w2 => ∃ j : Nat, j ≤ b.length ∧ jv = .int .i64 j ∧ OwnG w2 w.heap.size (.slice A a.length c) (tabOf a.length b.length (timesF a b i j 0)) ∧ Below w.heap.size w w2) (fun j _ => b.length - (intOf j).toNat)
      case atStart => exact ⟨0, Nat.zero_le _, rfl, HO1.out, HB2.out⟩
      case round =>
        obtain ⟨j, hj, rfl, hown, hbl⟩ := hrel
        by_cases hjl : j < b.length
        · have HO2 := Lib.hid hown
          have HB3 := Lib.hid hbl
          clear hown hbl
          go_wp2
          go_loopw [10] (fun tv w3 => ∃ t : Nat, t ≤ b.length ∧ tv = .int .i64 t ∧ OwnG w3 w.heap.size (.slice A a.length c) (tabOf a.length b.length (timesF a b i j t)) ∧ Below w.heap.size w w3) (fun t _ => b.length - (intOf t).toNat)
          case atStart => exact ⟨0, Nat.zero_le _, rfl, HO2.out, HB3.out⟩
          case round =>
            obtain ⟨t, ht, rfl, hown, hbl⟩ := hrel
            by_cases htl : t < b.length
            · have hrl : ((tabOf a.length b.length (timesF a b i j t)).getD i []).length = b.length := by rw [tabOf_row hil]; simp
              obtain ⟨g, cap, gi, ci, hv, k1, k2, kf, kb, kl, hset⟩ := hown.at (i := i) (j := j) (by rw [tabOf_length]; exact hil) (by rw [hrl]; exact hjl)
              rw [tabOf_length] at hv
              simp only [Value.slice.injEq, true_and] at hv
              obtain ⟨rfl, rfl⟩ := hv
              rw [hrl] at k1
              rw [timesF_cell a b _ _ i j t hil hjl] at k2
              obtain ⟨p1, p2, p3, p4, p5, rfl, ka1, ka2, _, _⟩ := (H1.out.below hbl).num hil (j := t) (by rw [HA.out.row i hil]; exact htl)
              obtain ⟨q1, q2, q3, q4, q5, rfl, kb1, kb2, _, _⟩ := (H2.out.below hbl).num htl (j := j) (by rw [HBF.out.row t htl]; exact hjl)
              rw [HA.out.row i hil] at ka1
              rw [HBF.out.row t htl] at kb1
              have hs1 := hset (termsM a b i j t + cellOf a i t * cellOf b t j)
              rw [timesF_term a b _ _ i j t hil] at hs1
              have HS := Lib.hid hs1
              have hT := termsW_le HA.out HBF.out hil hjl (Nat.le_of_lt htl)
              have hxy := prodW_le (HA.out.cell i t hil htl) (HBF.out.cell t j htl hjl)
              have HB4 := Lib.hid hbl
              clear hset hs1 hown hbl
              generalize termsM a b i j t = T at *
              generalize cellOf a i t = x at *
              generalize cellOf b t j = y at *
              have hT2 : T ≤ 90000000000000000 := by omega
              go_wp2
              go_region
              go_wp2
              go_roundw
              case rel => exact ⟨t + 1, by omega, by go_num, HS.out.drew, (HB4.out.setCell kb _).drew⟩
              case measure => simp [intOf]; omega
            · obtain rfl : t = b.length := by omega
              rw [timesF_next] at hown
              have HO3 := Lib.hid hown
              clear hown
              go_wp2
              go_roundw
              case rel => exact ⟨j + 1, by omega, by go_num, HO3.out, hbl⟩
              case measure => simp [intOf]; omega
        · obtain rfl : j = b.length := by omega
          rw [timesF_row] at hown
          have HO3 := Lib.hid hown
          clear hown
          go_wp2
          go_roundw
          case rel => exact ⟨i + 1, by omega, by go_num, HO3.out, hbl⟩
          case measure => simp [intOf]; omega
    · obtain rfl : i = a.length := by omega
      rw [timesF_all] at hown
      have HO3 := Lib.hid hown
      clear hown
      go_wp2
      go_ret
      exact ⟨_, rfl, HO3.out, hbl⟩
end Go.Proofs.Ytalclebehbdliaa
namespace Go.Proofs.Ytalclebehbdliaa
open Go Go.RowKit

theorem langOfS_is {L : Int} {ps : List ByteArray} (h : isShift L ps = true) {n : Int} (h0 : 0 ≤ n) (h6 : n ≤ 6) : langOfS L ps n = langW L.toNat ps n.toNat := by
  unfold langOfS langW
  rw [if_pos ⟨h, h0, h6⟩]
theorem shift_sizes {L : Int} {ps : List ByteArray} (h : isShift L ps = true) : 1 ≤ L.toNat ∧ L.toNat ≤ 3 ∧ ((L.toNat : Nat) : Int) = L ∧ ∀ f ∈ ps, f.size ≤ 3 := by
  obtain ⟨l1, l3, _⟩ := isShift_letters h
  exact ⟨by omega, by omega, by omega, fun f hf => (shift_words h f hf).2.2⟩
theorem goes_same {a b c d : UInt8} (ps : List ByteArray) : goesQ ps (pr a b) (pr c d) = goesW ps (pr a b) (pr c d) := by
  unfold goesQ goesW
  rw [pr_tail]
  rfl
theorem graph_same {k : Nat} (hk : k ≤ 3) (ps : List ByteArray) : tabQ ps (statesW k ps) = graphW k ps := by
  unfold tabQ graphW
  refine tabOf_congr fun i j hi hj => ?_
  obtain ⟨a, b, h1, _⟩ := (mem_states hk).1 (st_mem hi)
  obtain ⟨c, d, h2, _⟩ := (mem_states hk).1 (st_mem hj)
  unfold arcQ
  have e1 : (statesW k ps).getD i ByteArray.empty = stW k ps i := rfl
  have e2 : (statesW k ps).getD j ByteArray.empty = stW k ps j := rfl
  rw [e1, e2, h1, h2, goes_same]
theorem graphS_is {L : Int} {ps : List ByteArray} (h : isShift L ps = true) : graphS L ps = if (statesW L.toNat ps).length = 0 then none else some (graphW L.toNat ps) := by
  obtain ⟨_, h3, _, _⟩ := shift_sizes h
  have e : langOfS L ps 2 = statesW L.toNat ps := langOfS_is h (by decide) (by decide)
  unfold graphS
  rw [e, graph_same h3]
theorem graphS_not {L : Int} {ps : List ByteArray} (h : isShift L ps = false) : graphS L ps = none := by
  have e : langOfS L ps 2 = [] := by unfold langOfS; rw [if_neg (fun hc => by rw [h] at hc; exact absurd hc.1 (by decide))]
  unfold graphS
  rw [e]
  rfl
theorem no_states {k : Nat} (hk : k ≤ 3) {ps : List ByteArray} (h : (statesW k ps).length = 0) : pairsW k ps = [] := by
  cases hp : pairsW k ps with
  | nil => rfl
  | cons x l =>
    have hx : x ∈ pairsW k ps := by rw [hp]; simp
    obtain ⟨a, b, rfl, _, _⟩ := mem_pairsW' hk hx
    have := (mem_states hk).2 ⟨a, b, rfl, (mem_pairsW hk a b).1 hx⟩
    rw [List.length_eq_zero_iff.1 h] at this
    cases this
theorem no_words {k : Nat} (hk : k ≤ 3) {ps : List ByteArray} (h : (statesW k ps).length = 0) (n : Nat) : langW k ps n = [] := by
  unfold langW
  rw [no_states hk h, List.filter_eq_nil_iff]
  intro w _
  unfold inM
  simp
def countS (L n : Int) (ps : List ByteArray) : Int := if isShift L ps = true ∧ 0 ≤ n ∧ n ≤ 20 then ((langW L.toNat ps n.toNat).length : Int) else -1
def rowW (k : Nat) (ps : List ByteArray) (t : Nat) : List Int := (List.range (statesW k ps).length).map (cntW k ps t)
theorem rowW_len (k : Nat) (ps : List ByteArray) (t : Nat) : (rowW k ps t).length = (statesW k ps).length := by simp [rowW]
theorem rowW_at {k : Nat} {ps : List ByteArray} {t j : Nat} (hj : j < (statesW k ps).length) : (rowW k ps t).getD j 0 = cntW k ps t j := by simp [rowW, List.getD, hj]
theorem three_pow {t : Nat} (ht : t ≤ 20) : ((3 ^ t : Nat) : Int) ≤ 3486784401 := by
  have h1 : 3 ^ t ≤ 3 ^ 20 := Nat.pow_le_pow_right (by decide) ht
  have h2 : 3 ^ 20 = 3486784401 := by decide
  omega
theorem row_wide {k : Nat} (hk : k ≤ 3) (ps : List ByteArray) {t : Nat} (ht : t ≤ 20) : Wide [rowW k ps t] (statesW k ps).length := by
  refine ⟨by simp, fun i hi => ?_, fun i j hi hj => ?_⟩
  · obtain rfl : i = 0 := by simpa using hi
    exact rowW_len k ps t
  · obtain rfl : i = 0 := by simpa using hi
    have e : cellOf [rowW k ps t] 0 j = cntW k ps t j := rowW_at hj
    rw [e]
    have h1 := cntW_le hk ps t j
    have h2 := three_pow ht
    omega
theorem row_first {k : Nat} (hk : k ≤ 3) (ps : List ByteArray) : rowW k ps 2 = List.replicate (statesW k ps).length 1 := by
  refine List.ext_getElem (by simp [rowW]) fun j h1 h2 => ?_
  have hj : j < (statesW k ps).length := by simpa using h2
  simp only [rowW, List.getElem_map, List.getElem_range, List.getElem_replicate]
  exact cnt_two hk hj
theorem row_next {k : Nat} (hk : k ≤ 3) {ps : List ByteArray} (hps : ∀ f ∈ ps, f.size ≤ 3) {t : Nat} (ht : 2 ≤ t) : mulM [rowW k ps t] (graphW k ps) = [rowW k ps (t + 1)] := by
  unfold mulM
  rw [graph_length]
  have e : ∀ f : Nat → Nat → Int, tabOf [rowW k ps t].length (statesW k ps).length f = [(List.range (statesW k ps).length).map (f 0)] := fun f => by
    have := tabOf_next 0 (statesW k ps).length f
    rw [show [rowW k ps t].length = 0 + 1 from rfl, this]
    rfl
  rw [e]
  congr 1
  unfold rowW
  refine List.map_congr_left fun j hj => ?_
  have hj' := List.mem_range.1 hj
  rw [cnt_next hk hps ht hj']
  refine sumTo_congr _ fun i hi => ?_
  congr 1
  exact rowW_at hi
theorem row_sum {k : Nat} (hk : k ≤ 3) (ps : List ByteArray) {n : Nat} (hn : 2 ≤ n) : (sumTo (statesW k ps).length fun j => (rowW k ps n).getD j 0) = ((langW k ps n).length : Int) := by
  rw [lang_sum hk ps hn]
  exact sumTo_congr _ fun j hj => rowW_at hj
end Go.Proofs.Ytalclebehbdliaa
namespace Go.Proofs.Ytalclebehbdliaa
open Go Go.RowKit

/-- The value is a slice that holds the integers xs. -/
def RowV (w : World) (v : Value) (xs : List Int) : Prop := ∃ A c, v = .slice A xs.length c ∧ RowS w A xs
theorem RowV.below {w w' : World} {v : Value} {xs : List Int} (h : RowV w v xs) (hb : Below w.heap.size w w') : RowV w' v xs := by
  obtain ⟨A, c, hv, hg⟩ := h
  exact ⟨A, c, hv, hg.below hb⟩
/-- The call owns the list; the block of it lies below S. -/
def OwnA (w : World) (B : Nat) (v : Value) (xs : List Int) : Prop := w.ownsRow B 3 1 v xs.length (xs.map (Value.int .i64))
def OwnAIn (w : World) (B S : Nat) (v : Value) (xs : List Int) : Prop := OwnA w B v xs ∧ ∀ g, v.ownBlock = some g → g < S
theorem OwnA.rowV {w : World} {B : Nat} {v : Value} {xs : List Int} (h : OwnA w B v xs) : RowV w v xs := rowS_of_owns h
theorem OwnA.below {w w' : World} {B : Nat} {v : Value} {xs : List Int} (h : OwnA w B v xs) (hb : Below w.heap.size w w') : OwnA w' B v xs := kept_below h hb
theorem OwnA.mono {w : World} {B B' : Nat} {v : Value} {xs : List Int} (h : OwnA w B v xs) (hB : B' ≤ B) : OwnA w B' v xs := World.ownsRow.mono h hB
theorem OwnA.ownIn {w : World} {B : Nat} {v : Value} {xs : List Int} (h : OwnA w B v xs) : OwnAIn w B w.heap.size v xs := ⟨h, fun g hg => (h.lt g hg).2⟩
theorem OwnAIn.ownG {w : World} {B S : Nat} {v : Value} {xs : List Int} (h : OwnAIn w B S v xs) : OwnA w B v xs := h.1
theorem OwnAIn.below {w w' : World} {B S : Nat} {v : Value} {xs : List Int} (h : OwnAIn w B S v xs) (hb : Below w.heap.size w w') : OwnAIn w' B S v xs := ⟨h.1.below hb, h.2⟩
theorem From.ownAIn {w w' : World} {B S : Nat} {v : Value} {xs : List Int} (h : OwnAIn w B S v xs) (hf : From B w w') : OwnAIn w' B S v xs := ⟨From.owns h.1 hf, h.2⟩
/-- The list is not too long. -/
def SizeL (xs : List Int) : Prop := xs.length ≤ 1048576

def MarkedA (B S : Nat) (v : Value) (xs : List Int) (w : World) (e : Ending) (w' : World) : Prop := e = .returned (.int .i64 ((1 + xs.length : Nat) : Int)) ∧ RowV w' v (marksI 1 xs.length) ∧ Within B S w w'
def ResA (w : World) (B : Nat) (v : Value) (xs : List Int) : Prop :=
  ∀ w', From B w w' → RowV w' v xs ∧ Calls Try.prog 43 #[v, .int .i64 1] w' (MarkedA B w.heap.size v xs w')
theorem OwnAIn.marked {w : World} {B S : Nat} {v : Value} {xs : List Int} (h : OwnAIn w B S v xs) (hm : SizeL xs) : Calls Try.prog 43 #[v, .int .i64 1] w (MarkedA B S v xs w) := by
  unfold SizeL at hm
  refine (mark_ints B 1 v xs (by decide) (by omega) w h.1).mono ?_
  rintro e w' ⟨he, ho, hg⟩
  refine ⟨he, rowS_of_owns (B := B) (by rw [marksI_length]; exact ho), Within.of_grown hg fun g hg => ⟨(h.1.lt g hg).1, h.2 g hg⟩⟩
theorem OwnAIn.markedX {w : World} {B S : Nat} {v : Value} {xs : List Int} (h : OwnAIn w B S v xs) (hm : SizeL xs) (q : Nat) (hq : q ≤ 100000000000) : Calls Try.prog 43 #[v, .int .i64 (q : Int)] w (MarkedX B S q w) := by
  unfold SizeL at hm
  refine (mark_ints B q v xs (by omega) (by omega) w h.1).mono ?_
  rintro e w' ⟨he, _, hg⟩
  exact ⟨_, he, by omega, Within.of_grown hg fun g hg => ⟨(h.1.lt g hg).1, h.2 g hg⟩⟩
theorem OwnA.res {w : World} {B : Nat} {v : Value} {xs : List Int} (h : OwnA w B v xs) (hm : SizeL xs) : ResA w B v xs := by
  intro w' hf
  have h' := From.ownAIn h.ownIn hf
  exact ⟨h'.ownG.rowV, h'.marked hm⟩

def NewA (xs : List Int) (w : World) (e : Ending) (w' : World) : Prop := ∃ v, e = .returned v ∧ OwnA w' w.heap.size v xs ∧ Below w.heap.size w w'
theorem eqA (xs : List Int) (hm : SizeL xs) (v v' : Value) (w : World) (h : RowV w v xs) (h' : RowV w v' xs) : Calls Try.prog 42 #[v, v'] w (TrueBelowG w) := by
  obtain ⟨A, c, rfl, hg⟩ := h
  obtain ⟨A', c', rfl, hg'⟩ := h'
  unfold SizeL at hm
  exact same_ints A A' c c' xs (by omega) w hg hg'
theorem heldA (xs : List Int) (hm : SizeL xs) (v : Value) (w : World) (h : RowV w v (marksI 1 xs.length)) : Calls Try.prog 44 #[v, .int .i64 1] w (HeldG (1 + xs.length) w) := by
  obtain ⟨A, c, rfl, hg⟩ := h
  rw [marksI_length]
  unfold SizeL at hm
  refine (held_ints 1 xs.length A c (by decide) (by omega) w hg).mono ?_
  rintro e w' ⟨he, rfl⟩
  exact ⟨he, Below.refl _ _⟩

def SpecA (xs : List Int) (w : World) (e : Ending) (w' : World) : Prop := ∃ v, e = .returned v ∧ RowV w' v xs ∧ Below w.heap.size w w'
def ImplA (xs : List Int) (w : World) (e : Ending) (w' : World) : Prop := ∃ v, e = .returned v ∧ ResA w' w.heap.size v xs ∧ Below w.heap.size w w'
def SpecAB (xs : List Int) (b : Bool) (w : World) (e : Ending) (w' : World) : Prop := ∃ v, e = .returned (.tuple #[v, .bool b]) ∧ RowV w' v xs ∧ Below w.heap.size w w'
def ImplAB (xs : List Int) (b : Bool) (w : World) (e : Ending) (w' : World) : Prop := ∃ v, e = .returned (.tuple #[v, .bool b]) ∧ ResA w' w.heap.size v xs ∧ Below w.heap.size w w'
end Go.Proofs.Ytalclebehbdliaa
namespace Go.Proofs.Ytalclebehbdliaa
open Go Go.RowKit

theorem infoBool : (Try.prog.info? 4).map (fun i => (i.zero, i.size, i.bytes)) = some (some (.bool false), 1, 1) := by kernel_rfl
def boolsOf (n : Nat) (S : Nat → Bool) : List Value := (List.range n).map fun i => Value.bool (S i)
theorem boolsOf_at {n : Nat} {S : Nat → Bool} {k : Nat} (hk : k < n) : (boolsOf n S)[k]? = some (.bool (S k)) := by simp [boolsOf, hk]
theorem boolsOf_set {n : Nat} {S : Nat → Bool} {k : Nat} (b : Bool) : (boolsOf n S).set k (.bool b) = boolsOf n fun i => if i = k then b else S i := by
  refine List.ext_getElem (by simp [boolsOf]) fun i h1 h2 => ?_
  rw [List.getElem_set]
  by_cases e : k = i
  · subst e; simp [boolsOf]
  · rw [if_neg e]; simp [boolsOf, Ne.symm e]
theorem boolsOf_congr {n : Nat} {S T : Nat → Bool} (h : ∀ i, i < n → S i = T i) : boolsOf n S = boolsOf n T := by
  unfold boolsOf
  exact List.map_congr_left fun i hi => by rw [h i (List.mem_range.1 hi)]
theorem boolsOf_false (n : Nat) : List.replicate n (Value.bool false) = boolsOf n fun i => decide (i < 0) := by
  unfold boolsOf
  refine List.ext_getElem (by simp) fun i h1 h2 => ?_
  simp

def outOf (m : List (List Int)) (S : Nat → Bool) (k t : Nat) : Bool := (List.range t).any fun j => S j && decide (0 < cellOf m k j)
def inOf (m : List (List Int)) (S : Nat → Bool) (k t : Nat) : Bool := (List.range t).any fun j => S j && decide (0 < cellOf m j k)
theorem outOf_next (m : List (List Int)) (S : Nat → Bool) (k t : Nat) : outOf m S k (t + 1) = (outOf m S k t || (S t && decide (0 < cellOf m k t))) := by
  unfold outOf; rw [List.range_succ, List.any_append]; simp
theorem inOf_next (m : List (List Int)) (S : Nat → Bool) (k t : Nat) : inOf m S k (t + 1) = (inOf m S k t || (S t && decide (0 < cellOf m t k))) := by
  unfold inOf; rw [List.range_succ, List.any_append]; simp
theorem liveStep_as (m : List (List Int)) (S : Nat → Bool) (k : Nat) : liveStep m S k = (S k && outOf m S k m.length && inOf m S k m.length) := rfl
def cnt (n : Nat) (S : Nat → Bool) : Nat := ((List.range n).filter S).length
theorem cnt_le (n : Nat) (S : Nat → Bool) : cnt n S ≤ n := by
  unfold cnt
  have := List.length_filter_le S (List.range n)
  rwa [List.length_range] at this
theorem cnt_less {n k : Nat} {S : Nat → Bool} (hk : k < n) (h : S k = true) : cnt n (fun i => if i = k then false else S i) < cnt n S := by
  refine filter_lt (fun x hx => ?_) _ ⟨k, List.mem_range.2 hk, h, by simp⟩
  by_cases e : x = k
  · simp [e] at hx
  · simpa [e] using hx

def isTrueV : Option Value → Bool
  | some (.bool b) => b
  | _ => false
/-- How many are left, while something has changed. -/
def liveMeas (g n : Nat) (v : Value) (w : World) : Nat := match v with
  | .bool true => 1 + ((List.range n).filter fun i => isTrueV (w.cell? ⟨g, i, none⟩)).length
  | _ => 0
theorem liveMeas_true {g n : Nat} {w : World} {S : Nat → Bool} (h : ∀ i, i < n → w.cell? ⟨g, i, none⟩ = some (.bool (S i))) : liveMeas g n (.bool true) w = 1 + cnt n S := by
  show 1 + ((List.range n).filter fun i => isTrueV (w.cell? ⟨g, i, none⟩)).length = 1 + ((List.range n).filter S).length
  rw [List.filter_congr (q := S) fun i hi => by rw [h i (List.mem_range.1 hi)]; rfl]
theorem liveMeas_false (g n : Nat) (w : World) : liveMeas g n (.bool false) w = 0 := rfl

/-- The booleans, in new memory. -/
def BoolsPost (n : Nat) (S : Nat → Bool) (w : World) (e : Ending) (w' : World) : Prop :=
  e = .returned (.slice (some ⟨w.heap.size, 0, none⟩) n n) ∧ w'.ownsRow w.heap.size 4 1 (.slice (some ⟨w.heap.size, 0, none⟩) n n) n (boolsOf n S) ∧ Below w.heap.size w w' ∧ w.heap.size < w'.heap.size

/-- What holds in the midst of a sweep. -/
structure Sweep (m : List (List Int)) (S0 S : Nat → Bool) (b : Bool) (k : Nat) : Prop where
  good : ∀ T, Good m T → ∀ i, T i = true → S i = true
  sub : ∀ i, S i = true → i < m.length
  same : b = false → (∀ i, i < m.length → S i = S0 i) ∧ ∀ i, i < k → S i = true → liveStep m S i = true
  less : b = true → cnt m.length S < cnt m.length S0
  le : cnt m.length S ≤ cnt m.length S0
theorem Sweep.keep {m : List (List Int)} {S0 S : Nat → Bool} {b : Bool} {k : Nat} (h : Sweep m S0 S b k) (hk : (S k && !(outOf m S k m.length && inOf m S k m.length)) = false) : Sweep m S0 S b (k + 1) := by
  refine ⟨h.good, h.sub, fun hb => ⟨(h.same hb).1, fun i hi hS => ?_⟩, h.less, h.le⟩
  by_cases e : i = k
  · subst e
    rw [liveStep_as]
    rw [hS] at hk ⊢
    cases h1 : outOf m S i m.length <;> cases h2 : inOf m S i m.length <;> simp [h1, h2] at hk ⊢
  · exact (h.same hb).2 i (by omega) hS
theorem Sweep.drop {m : List (List Int)} {S0 S : Nat → Bool} {b : Bool} {k : Nat} (h : Sweep m S0 S b k) (hkl : k < m.length) (hk : (S k && !(outOf m S k m.length && inOf m S k m.length)) = true) : Sweep m S0 (fun i => if i = k then false else S i) true (k + 1) := by
  rw [Bool.and_eq_true] at hk
  have hlt := cnt_less hkl hk.1
  refine ⟨fun T hT i hi => ?_, fun i hi => ?_, fun e => (by cases e), fun _ => Nat.lt_of_lt_of_le hlt h.le, Nat.le_of_lt (Nat.lt_of_lt_of_le hlt h.le)⟩
  · by_cases e : i = k
    · subst e
      have h1 := good_in_step hT (h.good T hT) i hi
      rw [liveStep_as, Bool.and_eq_true, Bool.and_eq_true] at h1
      rw [h1.1.2, h1.2] at hk
      simp at hk
    · rw [if_neg e]; exact h.good T hT i hi
  · by_cases e : i = k
    · rw [if_pos e] at hi; cases hi
    · rw [if_neg e] at hi; exact h.sub i hi

end Go.Proofs.Ytalclebehbdliaa
namespace Go.Proofs.Ytalclebehbdliaa
open Go Go.RowKit

theorem bools_far {w w' : World} {g n : Nat} {S : Nat → Bool} {r : Option Nat} (h : ∀ u, u < n → w.cell? ⟨g, u, none⟩ = some (.bool (S u))) (hl : g < w.heap.size) (hg : w.grownBy w' r) (hne : r ≠ some g) : (∀ u, u < n → w'.cell? ⟨g, u, none⟩ = some (.bool (S u))) ∧ g < w'.heap.size := by
  refine ⟨fun u hu => ?_, Nat.lt_of_lt_of_le hl hg.size⟩
  have hb := hg.block g hl (Ne.symm hne)
  have := h u hu
  unfold World.cell? at this ⊢
  rw [hb]; exact this
theorem list_more {w w1 w2 : World} {g gL cap k : Nat} {v : Value} {xs : List Int} {x : Int} {n : Nat} {S : Nat → Bool} (hB : Below w.heap.size w w1) (hO : w1.ownsRow w.heap.size 3 1 v xs.length (xs.map (Value.int .i64))) (hS : ∀ u, u < n → w1.cell? ⟨gL, u, none⟩ = some (.bool (S u))) (hgL : gL < w1.heap.size) (hne : v.ownBlock ≠ some gL) (o : Obj) (hk : k = xs.length + 1)
    (ho2 : w2.ownsRow w.heap.size 3 1 (.slice (some ⟨g, 0, none⟩) k cap) k (xs.map (Value.int .i64) ++ [.int .i64 x])) (hg : (w1.alloc o).grownBy w2 v.ownBlock) (hat : v.ownBlock = some g ∨ g = w1.heap.size + 1) :
    w2.ownsRow w.heap.size 3 1 (.slice (some ⟨g, 0, none⟩) k cap) (xs ++ [x]).length ((xs ++ [x]).map (Value.int .i64)) ∧ Below w.heap.size w w2 ∧ (∀ u, u < n → w2.cell? ⟨gL, u, none⟩ = some (.bool (S u))) ∧ gL < w2.heap.size ∧ (Value.slice (some ⟨g, 0, none⟩) k cap).ownBlock ≠ some gL := by
  subst hk
  have hs := hB.size
  obtain ⟨t1, t2⟩ := bools_far (w := w1.alloc o) (fun u hu => (((Below.refl w1.heap.size w1).alloc (Nat.le_refl _) o).cell (p := ⟨gL, u, none⟩) hgL).trans (hS u hu)) (by simp; omega) hg hne
  refine ⟨by rw [List.length_append, List.map_append]; exact ho2, (hB.alloc hs o).grown hg (by simp; omega) fun q hq => (hO.lt q hq).1, t1, t2, fun e => ?_⟩
  have e' : g = gL := Option.some.inj e
  subst e'
  rcases hat with h | h
  · exact hne h
  · omega

def partF (m : List (List Int)) (l : List Int) : Nat → Nat → Int := fun i j => cellOf m (l.getD i 0).toNat (l.getD j 0).toNat
theorem partM_as (m : List (List Int)) (l : List Int) : partM m l = tabOf l.length l.length (partF m l) := rfl
def partRow (m : List (List Int)) (l : List Int) (i t : Nat) : List Int := (List.range t).map (partF m l i)
theorem partRow_next (m : List (List Int)) (l : List Int) (i t : Nat) : partRow m l i (t + 1) = partRow m l i t ++ [partF m l i t] := by
  unfold partRow; rw [List.range_succ, List.map_append]; rfl
theorem partRow_length (m : List (List Int)) (l : List Int) (i t : Nat) : (partRow m l i t).length = t := by unfold partRow; simp
theorem cell_more {w1 w2 : World} {B g cap k : Nat} {v : Value} {xs : List Int} {x : Int} {W0 : World} (hb : Below B W0 w1) (h0 : B ≤ w1.heap.size) (hO : w1.ownsRow B 3 1 v xs.length (xs.map (Value.int .i64))) (o : Obj) (hk : k = xs.length + 1)
    (ho2 : w2.ownsRow B 3 1 (.slice (some ⟨g, 0, none⟩) k cap) k (xs.map (Value.int .i64) ++ [.int .i64 x])) (hg : (w1.alloc o).grownBy w2 v.ownBlock) :
    w2.ownsRow B 3 1 (.slice (some ⟨g, 0, none⟩) k cap) (xs ++ [x]).length ((xs ++ [x]).map (Value.int .i64)) ∧ Below B W0 w2 := by
  subst hk
  exact ⟨by rw [List.length_append, List.map_append]; exact ho2, (hb.alloc h0 o).grown hg (by simp; omega) fun q hq => (hO.lt q hq).1⟩
theorem part_more {B : Nat} {wr w4 w5 : World} {gg cap : Nat} {v u : Value} {vs : List Value} {G : List (List Int)} {xs : List Int} (hO : wr.ownsRow B 49 1 v G.length vs) (hR : RowsOwn wr B v.ownBlock vs G) (hb : Below wr.heap.size wr w4) (hB : B ≤ wr.heap.size)
    (hu : w4.ownsRow wr.heap.size 3 1 u xs.length (xs.map (Value.int .i64))) (o : Obj)
    (ho3 : w5.ownsRow B 49 1 (.slice (some ⟨gg, 0, none⟩) (G.length + 1) cap) (G.length + 1) (vs ++ [u])) (hg3 : (w4.alloc o).grownBy w5 v.ownBlock) (hat : v.ownBlock = some gg ∨ gg = w4.heap.size + 1) :
    w5.ownsRow B 49 1 (.slice (some ⟨gg, 0, none⟩) (G.length + 1) cap) (G ++ [xs]).length (vs ++ [u]) ∧ RowsOwn w5 B (Value.slice (some ⟨gg, 0, none⟩) (G.length + 1) cap).ownBlock (vs ++ [u]) (G ++ [xs]) ∧ (∀ W : World, B = W.heap.size → Below B W wr → Below B W w5) := by
  have hb1 : Below wr.heap.size wr (w4.alloc o) := hb.alloc hb.size o
  have hs4 := hb.size
  refine ⟨by rw [List.length_append]; exact ho3, own_append (w := w4.alloc o) (cap := cap) hO hR hb1 (World.ownsRow.alloc (World.ownsRow.mono hu hB) o) (fun g hg => (hu.lt g hg).1) ho3 hg3 (by rw [World.size_alloc]; exact hat), fun W hW hbW => ?_⟩
  exact (hbW.trans (hb1.mono hB)).grown hg3 (by simp; omega) fun q hq => (hO.lt q hq).1

theorem livelyM_in {m : List (List Int)} {k : Nat} (hk : k < (livelyM m).length) : 0 ≤ (livelyM m).getD k 0 ∧ (livelyM m).getD k 0 < (m.length : Int) := by
  unfold livelyM at hk ⊢
  by_cases hm : isMat m = true
  · rw [if_pos hm] at hk ⊢
    have e : (liveList m m.length).getD k 0 = (liveList m m.length)[k] := by simp [List.getD, hk]
    rw [e]
    obtain ⟨i, hi, h1, _⟩ := liveList_mem (List.getElem_mem hk)
    rw [hi]
    omega
  · rw [if_neg hm] at hk
    simp at hk
theorem livelyM_le (m : List (List Int)) : (livelyM m).length ≤ 9 := by
  unfold livelyM
  split
  · next h =>
    have := liveList_le m m.length
    have := (isMat_facts h).le
    omega
  · simp

end Go.Proofs.Ytalclebehbdliaa
namespace Go.Proofs.Ytalclebehbdliaa
open Go Go.RowKit

theorem gridS_one {w : World} {A : Option Addr} {c : Nat} {xs : List Int} (h : RowS w A xs) (t : TypeId) : GridS (w.alloc (.cells #[.slice A xs.length c] t)) (some ⟨w.heap.size, 0, none⟩) [xs] := fun _ => by
  refine ⟨w.heap.size, 0, rfl, fun k hk => ?_, by rw [World.size_alloc]; omega⟩
  obtain rfl : k = 0 := by simpa using hk
  refine ⟨A, c, ?_, h.below ((Below.refl _ _).alloc (Nat.le_refl _) _)⟩
  rw [Nat.zero_add, World.cell?_alloc_mark]
  rfl
theorem ones_next (k : Nat) : (List.replicate k (1 : Int)) ++ [1] = List.replicate (k + 1) 1 := by rw [List.replicate_succ']
theorem count_one {k : Nat} (hk : k ≤ 3) (ps : List ByteArray) {t j : Nat} (ht : t ≤ 20) : 0 ≤ (rowW k ps t).getD j 0 ∧ (rowW k ps t).getD j 0 ≤ 3486784401 := by
  by_cases hj : j < (statesW k ps).length
  · rw [rowW_at hj]
    have h1 := cntW_le hk ps t j
    have h2 := three_pow ht
    omega
  · rw [List.getD_eq_getElem?_getD, List.getElem?_eq_none (by rw [rowW_len]; omega)]
    simp

set_option maxRecDepth 100000 in
set_option maxHeartbeats 6400000 in
theorem spec_countWords (L n : Int) (G : Option Addr) (c : Nat) (ps : List ByteArray) (hl : ps.length ≤ 1048576) (hz : ∀ k, k < ps.length → (ps.getD k ByteArray.empty).size ≤ 2147483648) (w : World) (hs : StrsG w G ps) :
    Calls Try.prog 23 #[.agg #[.int .i64 L, .slice G ps.length c], .int .i64 n] w (Scalar (.int .i64 (countS L n ps)) w) := by
  obtain ⟨j0, hj0, hy0, hy1, hy2⟩ := info_parts infoInt
  have HI := Lib.hid (fun w' (h : Below w.heap.size w w') => spec_isShift L G c ps hl (fun k hk => by have := hz k hk; omega) w' (hs.below h))
  have HG := Lib.hid (fun w' (h : Below w.heap.size w w') => spec_graphOf L G c ps hl hz w' (hs.below h))
  have HLG := Lib.hid (fun w' (h : Below w.heap.size w w') => spec_languageOf L n G c ps hl hz w' (hs.below h))
  have HN := Lib.hid (fun w' => spec_in n 0 20 w')
  clear hs hz
  go_enter Try.func23, Try.ntmps23
  go_wp2_with fail
  obtain ⟨Wb, hWb⟩ : ∃ Wb, w.alloc (.cells #[.int .i64 L, .slice G ps.length c] 27) = Wb := ⟨_, rfl⟩
  have sb : Wb.heap.size = w.heap.size + 1 := by rw [← hWb]; simp
  have xb : BoxAt Wb w.heap.size L (.slice G ps.length c) := by rw [← hWb]; exact boxAt_new w L _ 27
  have bb : Below w.heap.size w Wb := by rw [← hWb]; exact (Below.refl _ _).alloc (Nat.le_refl _) _
  rw [hWb]
  clear hWb
  have XB := Lib.hid xb
  have BB := Lib.hid bb
  clear xb bb
  refine (HI.out Wb BB.out).mono ?_
  rintro e w1 ⟨rfl, h1⟩
  have B1 := Lib.hid h1
  have C1 := Lib.hid (BB.out.trans (h1.mono (by omega)))
  have s1 := h1.size
  obtain ⟨x0, x1⟩ := XB.out.below h1 (by omega)
  clear h1
  cases hsft : isShift L ps with
  | false =>
    have HR : Hid (countS L n ps = -1) := Lib.hid (by unfold countS; rw [if_neg (by rw [hsft]; simp)])
    clear hsft
    go_wp2
    go_ret
    exact ⟨by rw [HR.out]; rfl, C1.out⟩
  | true =>
    cases hnn : (decide (0 ≤ n) && decide (n ≤ 20)) with
    | false =>
      have HR : Hid (countS L n ps = -1) := Lib.hid (by
        unfold countS
        rw [if_neg]
        rintro ⟨_, h1, h2⟩
        rw [decide_eq_true h1, decide_eq_true h2] at hnn; cases hnn)
      rw [hnn] at HN
      clear hsft hnn
      go_wp2_with fail
      refine (HN.out _).mono ?_
      rintro e w2 ⟨rfl, rfl⟩
      go_wp2
      go_ret
      exact ⟨by rw [HR.out]; rfl, C1.out⟩
    | true =>
      have hn2 : 0 ≤ n ∧ n ≤ 20 := by simpa [Bool.and_eq_true, decide_eq_true_eq] using hnn
      obtain ⟨k1, k3, kL, hps⟩ := shift_sizes hsft
      have HR : Hid (countS L n ps = ((langW L.toNat ps n.toNat).length : Int)) := Lib.hid (by unfold countS; rw [if_pos ⟨hsft, hn2⟩])
      rw [hnn] at HN
      have C2 := Lib.hid (HG.out w1 C1.out)
      rw [graphS_is hsft] at C2
      have HSI := Lib.hid hsft
      have HPS := Lib.hid hps
      clear hnn hps
      by_cases h0 : (statesW L.toNat ps).length = 0
      · rw [if_pos h0] at C2
        have HR0 : Hid (countS L n ps = 0) := Lib.hid (by rw [HR.out, no_words k3 h0]; rfl)
        clear hsft h0
        go_wp2_with fail
        refine (HN.out _).mono ?_
        rintro e w2 ⟨rfl, hw⟩
        obtain rfl : w1 = w2 := hw.symm
        clear hw
        go_wp2_with fail
        refine C2.out.mono ?_
        rintro e w2 ⟨v, rfl, ho, b2⟩
        have B2 := Lib.hid (C1.out.trans (b2.mono C1.out.size))
        clear ho b2
        go_wp2
        go_ret
        exact ⟨by rw [HR0.out]; rfl, B2.out⟩
      · rw [if_neg h0] at C2
        have hpos : 0 < (statesW L.toNat ps).length := by omega
        have h9 := states_le k3 ps
        have HM := Lib.hid (isMat_facts (graph_isMat k3 hpos))
        have HLEN := Lib.hid (graph_length L.toNat ps)
        have HROW1 := Lib.hid (row_first k3 ps)
        have HNEXT := Lib.hid (fun t (ht : 2 ≤ t) => row_next k3 HPS.out (t := t) ht)
        have HWIDE := Lib.hid (fun t (ht : t ≤ 20) => row_wide k3 ps (t := t) ht)
        have HRL := Lib.hid (fun t => rowW_len L.toNat ps t)
        have HC1 := Lib.hid (fun t j (ht : t ≤ 20) => count_one k3 ps (t := t) (j := j) ht)
        have HSM := Lib.hid (fun t (ht : 2 ≤ t) => row_sum k3 ps (n := t) ht)
        have HLW : Hid (n < 2 → (langOfS L ps n).length = (langW L.toNat ps n.toNat).length) := Lib.hid fun h => by rw [langOfS_is hsft hn2.1 (by omega)]
        generalize countS L n ps = R at *
        clear hsft h0
        go_wp2_with fail
        refine (HN.out _).mono ?_
        rintro e w2 ⟨rfl, hw⟩
        obtain rfl : w1 = w2 := hw.symm
        clear hw
        go_wp2_with fail
        refine C2.out.mono ?_
        rintro e w2 ⟨v, rfl, ho, b2⟩
        have s2 := b2.size
        have B2 := Lib.hid (C1.out.trans (b2.mono C1.out.size))
        have BX2 := Lib.hid (B1.out.trans (b2.mono s1))
        obtain ⟨A2, c2, rfl, hg2⟩ := OwnG.gridS ho
        have G2 := Lib.hid hg2
        clear ho b2 hg2 x0 x1 C2
        dsimp only [Option.getD, Option.isSome] at G2 ⊢
        rw [HLEN.out]
        obtain ⟨x0, x1⟩ := XB.out.below BX2.out (by omega)
        by_cases hlt : n < 2
        · have C3 := Lib.hid (HLG.out w2 B2.out)
          have HE := Lib.hid (HLW.out hlt)
          go_wp2_with fail
          refine C3.out.mono ?_
          rintro e w3 ⟨v3, rfl, ho3, b3⟩
          obtain ⟨A3, c3, rfl⟩ : ∃ A c, v3 = .slice A (langOfS L ps n).length c := by
            rcases ho3.2 with ⟨rfl, h0⟩ | ⟨b, cc, cur, rfl, _⟩
            · exact ⟨none, 0, by rw [h0]⟩
            · exact ⟨_, cc, rfl⟩
          have B3 := Lib.hid (B2.out.trans (b3.mono B2.out.size))
          clear ho3 b3
          rw [HE.out]
          go_wp2
          go_ret
          exact ⟨by rw [HR.out]; rfl, B3.out⟩
        · have hn1 : 2 ≤ n.toNat := by omega
          have hn20 : n.toNat ≤ 20 := by omega
          have hnN : ((n.toNat : Nat) : Int) = n := by omega
          have HSN := Lib.hid (HSM.out n.toNat hn1)
          generalize n.toNat = N at *
          obtain rfl : n = (N : Int) := hnN.symm
          clear hnN HLW HLG HG HI HN
          obtain ⟨S, hS⟩ : ∃ S, (statesW L.toNat ps).length = S := ⟨_, rfl⟩
          rw [hS] at HROW1 HWIDE HRL HSN hpos h9 HLEN ⊢
          obtain ⟨m, hm⟩ : ∃ m, graphW L.toNat ps = m := ⟨_, rfl⟩
          rw [hm] at HM HLEN HNEXT G2
          have h2n : ¬ (N : Int) < 2 := by omega
          clear x0 x1 hS hm
          have HI0 := Lib.hid (World.ownsRow_made (base := w2.heap.size) (e := 3) (size := 1) w2 #[] 0 (Nat.le_refl _) (by unfold maxLen; omega) rfl)
          go_wp2
          go_loopw [7, 8] (fun u iv wr => ∃ k : Nat, k ≤ S ∧ iv = .int .i64 (k : Int) ∧ wr.ownsRow w2.heap.size 3 1 u k ((List.replicate k (1 : Int)).map (Value.int .i64)) ∧ Hid (Below w2.heap.size w2 wr)) (fun _ iv _ => S - (intOf iv).toNat)
          case atStart => exact ⟨0, Nat.zero_le _, rfl, HI0.out, Lib.hid ((Below.refl _ _).alloc (Nat.le_refl _) _)⟩
          case round =>
            obtain ⟨k, hk, rfl, hU, hb4⟩ := hrel
            by_cases hkS : k < S
            · have HU := Lib.hid hU
              have hs4 := hb4.out.size
              have hk2 : (k : Int) < (S : Int) := by omega
              clear hU
              go_wp2_with (at_builtin; refine wpList_append_lies _ rfl (.tmp 40) (.tmp 41) 49 rfl w2.heap.size 3 j0 (.int .i64 0) 1 8 Try.underlying49 hj0 hy0 hy1 hy2 rfl (by decide) _ _ _ rfl (HU.out.alloc _) ⟨wr.heap.size, 0, none⟩ 1 1 [.int .i64 1] rfl rfl (World.news_of_block (cs := #[.int .i64 1]) (t := 3) (fr := (0, 0)) (heap_alloc_new wr _)) (by simp [Value.oneCell']) (by decide) (by unfold maxLen; omega) (by omega) (by simp; omega) (wr.heap.size + 1) (by simp) ?_; intro gg cap w6 ho6 hg6 hat6 hlt6; have HM6 := Lib.hid (show w6.ownsRow w2.heap.size 3 1 (.slice (some ⟨gg, 0, none⟩) (k + 1) cap) (k + 1) ((List.replicate (k + 1) (1 : Int)).map (Value.int .i64)) by rw [← ones_next, List.map_append]; exact ho6); have HB6 := Lib.hid ((hb4.out.alloc hs4 _).grown hg6 (by simp; omega) fun q hq => (HU.out.lt q hq).1); clear ho6 hg6 hat6)
              go_wp2
              go_roundw
              case rel => exact ⟨k + 1, by omega, by go_num, HM6.out, HB6⟩
              case measure => simp [intOf]; omega
            · obtain rfl : k = S := by omega
              obtain ⟨A3, c3, rfl⟩ := slice_of_owns hU
              have R3 : Hid (RowS wr A3 (rowW L.toNat ps 2)) := Lib.hid (by
                rw [HROW1.out]
                have hU2 : wr.ownsRow w2.heap.size 3 1 (.slice A3 (List.replicate k (1 : Int)).length c3) (List.replicate k (1 : Int)).length ((List.replicate k (1 : Int)).map (Value.int .i64)) := by rw [List.length_replicate]; exact hU
                obtain ⟨A', c', h1, h2⟩ := OwnA.rowV hU2
                simp only [Value.slice.injEq] at h1
                obtain ⟨rfl, _, _⟩ := h1
                exact h2)
              have B4 := Lib.hid hb4.out
              have hkk : ¬ (k : Int) < (k : Int) := by omega
              clear hU hb4 HI0
              go_wp2
              go_loopw [7, 9] (fun u iv wr => ∃ (t : Nat) (A3 : Option Addr) (c3 : Nat), 2 ≤ t ∧ t ≤ N ∧ iv = .int .i64 (t : Int) ∧ u = .slice A3 k c3 ∧ Hid (RowS wr A3 (rowW L.toNat ps t)) ∧ Hid (Below w2.heap.size w2 wr)) (fun _ iv _ => N - (intOf iv).toNat)
              case atStart => exact ⟨2, A3, c3, Nat.le_refl _, hn1, rfl, rfl, R3, B4⟩
              case round =>
                clear R3 B4
                obtain ⟨t, A4, c4, ht2, htN, rfl, rfl, hr, hb⟩ := hrel
                by_cases htl : t < N
                · have hg1 := gridS_one (c := c4) hr.out 49
                  rw [HRL.out t] at hg1
                  have hba : Below wr.heap.size wr (wr.alloc (.cells #[.slice A4 k c4] 49)) := (Below.refl _ _).alloc (Nat.le_refl _) _
                  have hw := HWIDE.out t (by omega)
                  rw [← HLEN.out] at hw
                  have hc5 := spec_times_wide (some ⟨wr.heap.size, 0, none⟩) A2 1 c2 [rowW L.toNat ps t] m hw HM.out _ hg1 ((G2.out.below hb.out).below hba)
                  rw [HLEN.out, HNEXT.out t ht2] at hc5
                  have C5 := Lib.hid hc5
                  have BA := Lib.hid (hb.out.trans (hba.mono hb.out.size))
                  have htn : (t : Int) < (N : Int) := by omega
                  clear hg1 hba hw hc5
                  go_wp2_with fail
                  refine C5.out.mono ?_
                  rintro e w5 ⟨v5, rfl, ho5, b5⟩
                  obtain ⟨A5, c5, rfl, hg5⟩ := OwnG.gridS ho5
                  obtain ⟨b6, o6, A6, c6, rfl, k6, r6, _⟩ := hg5.row (k := 0) (by simp)
                  have k6' : w5.cell? ⟨b6, o6 + 0, none⟩ = some (.slice A6 (rowW L.toNat ps (t + 1)).length c6) := k6
                  rw [HRL.out, Nat.add_zero] at k6'
                  have R6 := Lib.hid (show RowS w5 A6 (rowW L.toNat ps (t + 1)) from r6)
                  have B5 := Lib.hid (BA.out.trans (b5.mono BA.out.size))
                  clear ho5 hg5 k6 r6 b5 C5
                  have hl1 : [rowW L.toNat ps (t + 1)].length = 1 := rfl
                  rw [hl1]
                  go_wp2
                  go_roundw
                  case rel => exact ⟨t + 1, A6, c6, by omega, by omega, by go_num, rfl, R6, B5⟩
                  case measure => simp [intOf]; omega
                · obtain rfl : t = N := by omega
                  have R4 := Lib.hid hr.out
                  have B4 := Lib.hid hb.out
                  have HRLt := Lib.hid (HRL.out t)
                  have HCt := Lib.hid (fun j => HC1.out t j hn20)
                  have htt : ¬ (t : Int) < (t : Int) := by omega
                  clear hr hb
                  generalize rowW L.toNat ps t = xs at *
                  obtain ⟨W4, rfl⟩ : ∃ W4 : World, W4 = wr := ⟨_, rfl⟩
                  go_wp2
                  go_loopw [10, 11] (fun sv jv wr => ∃ (j : Nat) (s : Int), j ≤ k ∧ jv = .int .i64 (j : Int) ∧ sv = .int .i64 s ∧ Hid (s = sumTo j fun i => xs.getD i 0) ∧ 0 ≤ s ∧ s ≤ (j : Int) * 3486784401 ∧ wr = W4) (fun _ jv _ => k - (intOf jv).toNat)
                  case atStart => exact ⟨0, 0, Nat.zero_le _, rfl, rfl, Lib.hid rfl, by omega, by omega, rfl⟩
                  case round =>
                    obtain ⟨j, s, hj, rfl, rfl, hsm, hs0, hs1, rfl⟩ := hrel
                    by_cases hjl : j < k
                    · obtain ⟨bx, ox, rfl, hat, _⟩ := R4.out (by rw [HRLt.out]; omega)
                      have hc := hat j (by rw [HRLt.out]; exact hjl)
                      have hcj := HCt.out j
                      have HSN : Hid (s + xs.getD j 0 = sumTo (j + 1) fun i => xs.getD i 0) := Lib.hid (by rw [hsm.out]; rfl)
                      have hjk : (j : Int) < (k : Int) := by omega
                      clear hat hsm
                      generalize xs.getD j 0 = x at *
                      have hw : RowKit.wrap64 (s + x) = s + x := by unfold RowKit.wrap64; omega
                      go_wp2
                      go_roundw
                      case rel => exact ⟨j + 1, s + x, by omega, by go_num, rfl, HSN, by omega, by omega, trivial⟩
                      case measure => simp [intOf]; omega
                    · obtain rfl : j = k := by omega
                      have HE : Hid (s = R) := Lib.hid (by rw [hsm.out, HSN.out, HR.out])
                      have hjj : ¬ (j : Int) < (j : Int) := by omega
                      have BR := Lib.hid (below_behind B2.out B4.out)
                      clear hsm
                      go_wp2
                      go_ret
                      exact ⟨by rw [← HE.out]; rfl, BR.out⟩
end Go.Proofs.Ytalclebehbdliaa
namespace Go.Proofs.Ytalclebehbdliaa
open Go Go.RowKit

section
variable {P : Program} {w : World}
theorem run_append_zero (t ty e : TypeId) (i : TypeInfo) (ht : P.underlying t = some (.slice e)) (hi : P.info? e = some i) (g n cap : Nat) (hn : n ≤ cap) (ad : Addr) (c : Nat) :
    (Builtin.append_ #[t, t] ty #[.slice (some ⟨g, 0, none⟩) n cap, .slice (some ad) 0 c]).run P w = .ok (.slice (some ⟨g, 0, none⟩) n cap) w := by
  simp [Builtin.append_, run_underlying ht, sizeOf, typeInfo, hi, Builtin.lenOf, Builtin.firstCells, hn, loadCells, loadCellsFrom, storeCells]
theorem wp_append_zero {o : Oper} {a : Act} {K : Act → World → Prop} {Q : Exit → Act → World → Prop} (s x : Operand) (t : TypeId)
    (ho : o.op = .call { callee := .builtin .append, args := #[s, x], argTypes := #[t, t] })
    (e : TypeId) (i : TypeInfo) (ht : P.underlying t = some (.slice e)) (hi : P.info? e = some i)
    (g n cap : Nat) (hn : n ≤ cap) (ad : Addr) (c : Nat) (hs : a.eval s = .slice (some ⟨g, 0, none⟩) n cap) (hx : a.eval x = .slice (some ad) 0 c)
    (h : K (a.put o.dst (.slice (some ⟨g, 0, none⟩) n cap)) w) : Oper.wp P o a w K Q := by
  have hrun := run_append_zero (P := P) (w := w) t o.type e i ht hi g n cap hn ad c
  unfold Oper.wp
  simp [execOp, ho, resolve, invoke, builtin, hs, hx, hrun, Result.andThen]
  exact h
theorem step_append_zero {ops : Array Oper} {o : Oper} {a : Act} {K : Act → World → Prop} {Q : Exit → Act → World → Prop} {E : Prop} (hgd : o.guard = none) (s x : Operand) (t : TypeId)
    (ho : o.op = .call { callee := .builtin .append, args := #[s, x], argTypes := #[t, t] })
    (e : TypeId) (i : TypeInfo) (ht : P.underlying t = some (.slice e)) (hi : P.info? e = some i)
    (g n cap : Nat) (hn : n ≤ cap) (ad : Addr) (c : Nat) (hs : a.eval s = .slice (some ⟨g, 0, none⟩) n cap) (hx : a.eval x = .slice (some ad) 0 c)
    (h : K (a.put o.dst (.slice (some ⟨g, 0, none⟩) n cap)) w) : if Region.wanted o (yielded ops a.tmps) = true then Oper.wp P o a w K Q else E := by
  have hw : Region.wanted o (yielded ops a.tmps) = true := by simp [Region.wanted, hgd]
  rw [if_pos hw]
  exact wp_append_zero s x t ho e i ht hi g n cap hn ad c hs hx h
theorem wpList_append_zero {ops : Array Oper} {rest : List Oper} {o : Oper} {a : Act} {Q : Exit → Act → World → Prop} (hgd : o.guard = none) (s x : Operand) (t : TypeId)
    (ho : o.op = .call { callee := .builtin .append, args := #[s, x], argTypes := #[t, t] })
    (e : TypeId) (i : TypeInfo) (ht : P.underlying t = some (.slice e)) (hi : P.info? e = some i)
    (g n cap : Nat) (hn : n ≤ cap) (ad : Addr) (c : Nat) (hs : a.eval s = .slice (some ⟨g, 0, none⟩) n cap) (hx : a.eval x = .slice (some ad) 0 c)
    (h : wpList P ops Q rest (a.put o.dst (.slice (some ⟨g, 0, none⟩) n cap)) w) : wpList P ops Q (o :: rest) a w :=
  wpList_plain hgd fun _ hK => wp_append_zero s x t ho e i ht hi g n cap hn ad c hs hx (hK _ _ h)
/-- The same, wherever the nothing lies. -/
theorem run_append_zeroG (t ty e : TypeId) (i : TypeInfo) (ht : P.underlying t = some (.slice e)) (hi : P.info? e = some i) (g n cap : Nat) (hn : n ≤ cap) (A : Option Addr) (c : Nat) :
    (Builtin.append_ #[t, t] ty #[.slice (some ⟨g, 0, none⟩) n cap, .slice A 0 c]).run P w = .ok (.slice (some ⟨g, 0, none⟩) n cap) w := by
  cases A with
  | none => simp [Builtin.append_, run_underlying ht, sizeOf, typeInfo, hi, Builtin.lenOf, Builtin.firstCells, hn, storeCells]
  | some ad => exact run_append_zero t ty e i ht hi g n cap hn ad c
theorem step_append_zeroG {ops : Array Oper} {o : Oper} {a : Act} {K : Act → World → Prop} {Q : Exit → Act → World → Prop} {E : Prop} (hgd : o.guard = none) (s x : Operand) (t : TypeId)
    (ho : o.op = .call { callee := .builtin .append, args := #[s, x], argTypes := #[t, t] })
    (e : TypeId) (i : TypeInfo) (ht : P.underlying t = some (.slice e)) (hi : P.info? e = some i)
    (g n cap : Nat) (hn : n ≤ cap) (A : Option Addr) (c : Nat) (hs : a.eval s = .slice (some ⟨g, 0, none⟩) n cap) (hx : a.eval x = .slice A 0 c)
    (h : K (a.put o.dst (.slice (some ⟨g, 0, none⟩) n cap)) w) : if Region.wanted o (yielded ops a.tmps) = true then Oper.wp P o a w K Q else E := by
  have hw : Region.wanted o (yielded ops a.tmps) = true := by simp [Region.wanted, hgd]
  rw [if_pos hw]
  have hrun := run_append_zeroG (P := P) (w := w) t o.type e i ht hi g n cap hn A c
  unfold Oper.wp
  simp [execOp, ho, resolve, invoke, builtin, hs, hx, hrun, Result.andThen]
  exact h
end
end Go.Proofs.Ytalclebehbdliaa
namespace Go.Proofs.Ytalclebehbdliaa
open Go Go.RowKit

def PutPost (B : Nat) (x : ByteArray) (ps : List ByteArray) (w : World) (e : Ending) (w' : World) : Prop :=
  ∃ g cap, e = .returned (.slice (some ⟨g, 0, none⟩) (putW x ps).length cap) ∧ w'.ownsRow B 9 1 (.slice (some ⟨g, 0, none⟩) (putW x ps).length cap) (putW x ps).length ((putW x ps).map Value.string) ∧ Below B w w'
/-- Nothing that was there has turned but block g. -/
def Kept1 (g : Nat) (w w' : World) : Prop := w.heap.size ≤ w'.heap.size ∧ ∀ k, k < w.heap.size → k ≠ g → w'.heap[k]? = w.heap[k]?
theorem Kept1.refl (g : Nat) (w : World) : Kept1 g w w := ⟨Nat.le_refl _, fun _ _ _ => rfl⟩
theorem Kept1.alloc {g : Nat} {w w1 : World} (h : Kept1 g w w1) (o : Obj) : Kept1 g w (w1.alloc o) :=
  ⟨by rw [World.size_alloc]; exact Nat.le_succ_of_le h.1, fun k hk hg => (heap_alloc_old w1 o (Nat.lt_of_lt_of_le hk h.1)).trans (h.2 k hk hg)⟩
theorem Kept1.grown {g : Nat} {w w1 w2 : World} (h : Kept1 g w w1) {r : Option Nat} (hg : w1.grownBy w2 r) (hr : ∀ q, r = some q → q = g ∨ w.heap.size ≤ q) : Kept1 g w w2 :=
  ⟨Nat.le_trans h.1 hg.size, fun k hk hne => (hg.block k (Nat.lt_of_lt_of_le hk h.1) (fun e => by
    rcases hr k e.symm with h1 | h1
    · exact hne h1
    · omega)).trans (h.2 k hk hne)⟩
theorem Kept1.cell {g : Nat} {w w' : World} (h : Kept1 g w w') {p : Addr} (hp : p.block < w.heap.size) (hne : p.block ≠ g) : w'.cell? p = w.cell? p := World.cell?_of_block (h.2 p.block hp hne)
def PutPost3 (B g : Nat) (x : ByteArray) (ps : List ByteArray) (w : World) (e : Ending) (w' : World) : Prop :=
  ∃ g' cap, e = .returned (.slice (some ⟨g', 0, none⟩) (putW x ps).length cap) ∧ w'.ownsRow B 9 1 (.slice (some ⟨g', 0, none⟩) (putW x ps).length cap) (putW x ps).length ((putW x ps).map Value.string) ∧ Below B w w' ∧ Kept1 g w w' ∧ (g' = g ∨ w.heap.size ≤ g')
theorem owns_head {w : World} {B e g n k cap : Nat} {xs : List Value} (h : w.ownsRow B e 1 (.slice (some ⟨g, 0, none⟩) n cap) n xs) (hk : k ≤ n) : w.ownsRow B e 1 (.slice (some ⟨g, 0, none⟩) k cap) k (xs.take k) := by
  obtain ⟨h1, h2⟩ := h
  rcases h2 with ⟨h2, _⟩ | ⟨g', cap', cur, e2, hb, hh, hn, hc, hs, ht⟩
  · cases h2
  · injection e2 with e3 _ e4
    injection e3 with e5
    injection e5 with e6
    subst e6 e4
    refine ⟨by rw [List.length_take]; omega, Or.inr ⟨g, cap, cur, rfl, hb, hh, by omega, hc, hs, ?_⟩⟩
    rw [← ht, List.take_take, Nat.min_eq_left (by omega), Nat.mul_one]

theorem form_of {w : World} {B e n : Nat} {v : Value} {xs : List Value} (h : w.ownsRow B e 1 v n xs) (hne : v ≠ .slice none 0 0) : ∃ g cap, v = .slice (some ⟨g, 0, none⟩) n cap := by
  rcases h.2 with ⟨h2, _⟩ | ⟨g, cap, cur, e2, _⟩
  · exact absurd h2 hne
  · exact ⟨g, cap, e2⟩
theorem news_of_strs {w : World} {b off : Nat} {xs : List ByteArray} (h : StrsAt w b off xs) : ∀ (j : Nat) (u : Value), (xs.map Value.string)[j]? = some u → w.cell? ((⟨b, off, none⟩ : Addr).add j) = some u := by
  intro j u hj
  rw [List.getElem?_map] at hj
  cases hx : xs[j]? with
  | none => rw [hx] at hj; cases hj
  | some y =>
    rw [hx] at hj
    have hlt := (List.getElem?_eq_some_iff.1 hx).1
    have e : (⟨b, off, none⟩ : Addr).add j = ⟨b, off + j, none⟩ := by unfold Addr.add; split <;> simp_all
    rw [e, h j hlt, ← hj]
    simp [List.getD_eq_getElem?_getD, hx]
theorem strs_drop {w : World} {b k : Nat} {xs : List ByteArray} (h : StrsAt w b 0 xs) : StrsAt w b k (xs.drop k) := by
  intro j hj
  rw [List.length_drop] at hj
  have h1 := h (k + j) (by omega)
  rw [Nat.zero_add] at h1
  rw [h1]
  simp [List.getD_eq_getElem?_getD]
theorem one_cellP (x : ByteArray) : ∀ u ∈ [Value.string x], u.oneCell' = true := by
  intro u hu
  rw [List.mem_singleton] at hu
  subst hu; rfl
theorem str_cells (xs : List ByteArray) : ∀ u ∈ xs.map Value.string, u.oneCell' = true := by
  intro u hu
  obtain ⟨s, _, rfl⟩ := List.mem_map.1 hu
  rfl

theorem put_rest {B g cap n k m : Nat} {xs rest : List Value} {w w1 : World} {v1 : Value} (ho : w.ownsRow B 9 1 (.slice (some ⟨g, 0, none⟩) n cap) n xs) (hk : k ≤ n)
    (ho1 : w1.ownsRow w.heap.size 9 1 v1 (0 + m) ([] ++ rest)) (hg1 : (w.alloc (.cells #[] 9)).grownBy w1 (Value.slice (some ⟨w.heap.size, 0, none⟩) 0 0).ownBlock)
    (hn1 : v1 = .slice none 0 0 ↔ Value.slice (some ⟨w.heap.size, 0, none⟩) 0 0 = .slice none 0 0 ∧ m = 0) :
    ∃ gr cr, v1 = .slice (some ⟨gr, 0, none⟩) m cr ∧ Hid (w1.ownsRow w.heap.size 9 1 (.slice (some ⟨gr, 0, none⟩) m cr) m rest) ∧ Hid (w1.ownsRow B 9 1 (.slice (some ⟨g, 0, none⟩) k cap) k (xs.take k)) ∧ Hid (Below B w w1) ∧
      w.heap.size ≤ gr ∧ gr < w1.heap.size ∧ w.heap.size ≤ w1.heap.size := by
  have hgB := (ho.lt g rfl).1
  have hgl := (ho.lt g rfl).2
  rw [List.nil_append, Nat.zero_add] at ho1
  have hb1 : Below B w w1 := ((Below.refl B w).alloc (by omega) _).grown hg1 (by simp; omega) (fun q hq => by
    have : w.heap.size = q := Option.some.inj hq
    omega)
  obtain ⟨gr, cr, rfl⟩ := form_of ho1 (fun e => by have := (hn1.1 e).1; cases this)
  have hgr := ho1.lt gr rfl
  refine ⟨gr, cr, rfl, ho1, ((owns_head ho hk).alloc (.cells #[] 9)).kept hg1 (Or.inr ?_), hb1, hgr.1, hgr.2, hb1.size⟩
  intro e
  have : g = w.heap.size := Option.some.inj e
  omega
theorem put_one {B g cap k m gr cr B0 : Nat} {xs rest : List Value} {x : ByteArray} {w w1 w2 : World} (hB0 : g < B0) (hR : w1.ownsRow B0 9 1 (.slice (some ⟨gr, 0, none⟩) m cr) m rest) (hH : w1.ownsRow B 9 1 (.slice (some ⟨g, 0, none⟩) k cap) k xs) (hb1 : Below B w w1)
    (hg2 : (w1.alloc (.cells #[.string x] 9)).grownBy w2 (Value.slice (some ⟨g, 0, none⟩) k cap).ownBlock) :
    Hid (w2.ownsRow B0 9 1 (.slice (some ⟨gr, 0, none⟩) m cr) m rest) ∧ Hid (Below B w w2) ∧ w1.heap.size ≤ w2.heap.size := by
  have hgB := (hH.lt g rfl).1
  have hgl := (hH.lt g rfl).2
  have hgr := hR.lt gr rfl
  have hb2 : Below B w w2 := (hb1.alloc (by omega) _).grown hg2 (by simp; omega) (fun q hq => by
    have : g = q := Option.some.inj hq
    omega)
  have hsz := hg2.size
  refine ⟨(hR.alloc (.cells #[.string x] 9)).kept hg2 (Or.inr ?_), hb2, by simp at hsz; omega⟩
  intro e
  have : gr = g := Option.some.inj e
  omega

theorem put_done {B g k g3 c3 : Nat} {x : ByteArray} {ps : List ByteArray} {w w3 : World} (hk : k ≤ ps.length) (hp : putW x ps = (ps.take k ++ [x]) ++ ps.drop k)
    (h : w3.ownsRow B 9 1 (.slice (some ⟨g3, 0, none⟩) (k + 1 + (ps.length - k)) c3) (k + 1 + (ps.length - k)) (((ps.map Value.string).take k ++ [.string x]) ++ (ps.drop k).map Value.string)) (hb : Below B w w3) (hK : Kept1 g w w3) (hat : g3 = g ∨ w.heap.size ≤ g3) :
    PutPost3 B g x ps w (.returned (.slice (some ⟨g3, 0, none⟩) (k + 1 + (ps.length - k)) c3)) w3 := by
  have e1 : (putW x ps).length = k + 1 + (ps.length - k) := by rw [hp]; simp; omega
  have e2 : (putW x ps).map Value.string = ((ps.map Value.string).take k ++ [.string x]) ++ (ps.drop k).map Value.string := by rw [hp]; simp
  rw [← e1, ← e2] at h
  exact ⟨g3, c3, by rw [e1], h, hb, hK, hat⟩
theorem put_end_done {B g g3 c3 : Nat} {x : ByteArray} {ps : List ByteArray} {w w3 : World} (hp : putW x ps = ps ++ [x])
    (h : w3.ownsRow B 9 1 (.slice (some ⟨g3, 0, none⟩) (ps.length + 1) c3) (ps.length + 1) (ps.map Value.string ++ [.string x])) (hb : Below B w w3) (hK : Kept1 g w w3) (hat : g3 = g ∨ w.heap.size ≤ g3) :
    PutPost3 B g x ps w (.returned (.slice (some ⟨g3, 0, none⟩) (ps.length + 1) c3)) w3 := by
  have e1 : (putW x ps).length = ps.length + 1 := by rw [hp]; simp
  have e2 : (putW x ps).map Value.string = ps.map Value.string ++ [.string x] := by rw [hp]; simp
  rw [← e1, ← e2] at h
  exact ⟨g3, c3, by rw [e1], h, hb, hK, hat⟩
theorem owns_cap {w : World} {B g n cap : Nat} {xs : List Value} (h : w.ownsRow B 9 1 (.slice (some ⟨g, 0, none⟩) n cap) n xs) : n ≤ cap := by
  rcases h.2 with ⟨h2, _⟩ | ⟨g', cap', cur, e2, _, _, hn, _, _, _⟩
  · cases h2
  · injection e2 with _ _ e4
    omega

set_option maxRecDepth 100000 in
set_option maxHeartbeats 1600000 in
theorem spec_put2 (B g cap : Nat) (ps : List ByteArray) (x : ByteArray) (hl : ps.length ≤ 1000) (w : World)
    (ho : w.ownsRow B 9 1 (.slice (some ⟨g, 0, none⟩) ps.length cap) ps.length (ps.map Value.string)) :
    Calls Try.prog 57 #[.slice (some ⟨g, 0, none⟩) ps.length cap, .string x] w (PutPost3 B g x ps w) := by
  obtain ⟨i0, hi, hz0, hz1, hz2⟩ := info_parts infoStr
  have hst := StrsAt.of_owns ho rfl
  have hgB := (ho.lt g rfl).1
  have hgl := (ho.lt g rfl).2
  have HS := Lib.hid hst
  have HO := Lib.hid ho
  have hcap : ps.length ≤ cap := by
    rcases ho.2 with ⟨h2, _⟩ | ⟨g', cap', cur, e2, _, _, hn, _, _, _⟩
    · cases h2
    · injection e2 with _ _ e4
      omega
  clear ho hst
  go_enter Try.func57, Try.ntmps57
  go_wp2
  go_loop [5] (fun i => ∃ k : Nat, k ≤ ps.length ∧ i = .int .i64 k ∧ Hid (LessTo x ps k)) (fun i => ps.length - (intOf i).toNat)
  case atStart => exact ⟨0, Nat.zero_le _, rfl, Lib.hid (fun j h => by omega)⟩
  case round =>
    obtain ⟨k, hk, rfl, hless⟩ := hrel
    by_cases hlt : k < ps.length
    · have hcell := HS.out k hlt
      rw [Nat.zero_add] at hcell
      have hg0 : decide ((k : Int) < (ps.length : Int)) = true := by simp; omega
      cases hc : decide ((ps.getD k ByteArray.empty).data.toList < x.data.toList) with
      | true =>
        have HN := Lib.hid (hless.out.next (of_decide_eq_true hc))
        rw [← ba_less] at hc
        generalize ps.getD k ByteArray.empty = y at *
        go_wp2
        go_round
        case rel => exact ⟨k + 1, by omega, by go_num, HN⟩
        case measure => simp [intOf]; omega
      | false =>
        cases he : decide (ps.getD k ByteArray.empty = x) with
        | true =>
          have HP := Lib.hid (putW_same x ps k hlt hless.out (of_decide_eq_true he))
          rw [← ba_less] at hc
          rw [← ba_same] at he
          generalize ps.getD k ByteArray.empty = y at *
          go_wp2
          go_ret
          refine ⟨g, cap, by rw [HP.out]; rfl, by rw [HP.out]; exact HO.out, Below.refl _ _, Kept1.refl _ _, Or.inl rfl⟩
        | false =>
          have HP := Lib.hid (putW_mid x ps k hlt hless.out (of_decide_eq_false hc) (of_decide_eq_false he))
          rw [← ba_less] at hc
          rw [← ba_same] at he
          generalize ps.getD k ByteArray.empty = y at *
          have HNEW := Lib.hid (fun (c : Obj) => news_of_strs (strs_drop (k := k) (HS.out.below ((Below.refl w.heap.size w).alloc (Nat.le_refl _) c) hgl)))
          go_wp2_with (first
            | (at_builtin; refine wpList_append_own _ rfl (.tmp 34) (.tmp 37) 22 rfl w.heap.size 9 i0 (.string ByteArray.empty) 1 16 Try.underlying22 hi hz0 hz1 hz2 rfl (by decide) _ _ _ rfl (World.ownsRow_made _ _ 0 (Nat.le_refl _) (by decide) rfl) ⟨g, k, none⟩ (ps.length - k) (cap - k) ((ps.drop k).map Value.string) rfl (by simp) (HNEW.out _) (str_cells _) (by unfold maxLen; omega) (by omega) (by simp) ?_; intro v1 w1 ho1 hg1 hn1; have HK1 := Lib.hid (((Kept1.refl g w).alloc (.cells #[] 9)).grown hg1 (fun q hq => Or.inr (by have : w.heap.size = q := Option.some.inj hq; omega))); obtain ⟨gr, cr, rfl, HR1, HH1, HB1, hgr1, hgr2, hsz1⟩ := put_rest HO.out hk ho1 hg1 hn1; clear ho1 hg1 hn1)
            | (at_builtin; refine wpList_append_lies _ rfl (.tmp 41) (.tmp 43) 22 rfl B 9 i0 (.string ByteArray.empty) 1 16 Try.underlying22 hi hz0 hz1 hz2 rfl (by decide) _ _ _ rfl (HH1.out.alloc _) ⟨w1.heap.size, 0, none⟩ 1 1 [.string x] rfl rfl (cell_one_new _ _ _) (one_cellP x) (by decide) (by unfold maxLen; omega) (by omega) (by simp; omega) _ rfl ?_; intro gg c2 w2 ho2 hg2 hat2 _; have HK2 := Lib.hid ((HK1.out.alloc (.cells #[.string x] 9)).grown hg2 (fun q hq => Or.inl (Option.some.inj hq).symm)); have HAT : Hid (gg = g ∨ w.heap.size ≤ gg) := Lib.hid (by rcases hat2 with h | h; exact Or.inl (Option.some.inj h).symm; exact Or.inr (by rw [h]; simp; omega));  obtain ⟨HRR, HB2, hsz2⟩ := put_one (by omega) HR1.out HH1.out HB1.out hg2; have HR2 := Lib.hid (news_of_strs (StrsAt.of_owns HRR.out (by simp))); have HO2 := Lib.hid ho2; clear ho2 hg2 hat2)
            | (at_builtin; refine wpList_append_lies _ rfl (.tmp 44) (.tmp 45) 22 rfl B 9 i0 (.string ByteArray.empty) 1 16 Try.underlying22 hi hz0 hz1 hz2 rfl (by decide) _ _ _ rfl HO2.out ⟨gr, 0, none⟩ (ps.length - k) cr ((ps.drop k).map Value.string) rfl (by simp) HR2.out (str_cells _) (by omega) (by unfold maxLen; omega) (by omega) (by omega) _ rfl ?_; intro g3 c3 w3 ho3 hg3 hat3 _; have HAT3 : Hid (g3 = g ∨ w.heap.size ≤ g3) := Lib.hid (hat3.elim (fun h => by have : gg = g3 := Option.some.inj h; subst this; exact HAT.out) (fun h => Or.inr (by rw [h]; omega))); have hb3 : Below B w w3 := HB2.out.grown hg3 (by omega) (fun q hq => (HO2.out.lt q hq).1); have HK3 := Lib.hid (HK2.out.grown hg3 (fun q hq => by have : gg = q := Option.some.inj hq; subst this; exact HAT.out)); have HO3 := Lib.hid ho3; have HB3 := Lib.hid hb3; clear ho3 hg3 hb3 hat3))
          go_ret
          exact put_done hk HP.out HO3.out HB3.out HK3.out HAT3.out
    · obtain rfl : k = ps.length := by omega
      have HP := Lib.hid (putW_end x ps hless.out)
      have hk : ps.length ≤ ps.length := Nat.le_refl _
      have hk0 : ps.length ≤ ps.length := Nat.le_refl _
      by_cases hce : cap = ps.length
      · subst hce
        have HR1 := Lib.hid (World.ownsRow_made (base := w.heap.size) (e := 9) (size := 1) w #[] 0 (Nat.le_refl _) (by decide) rfl)
        have HH1 := Lib.hid (HO.out.alloc (.cells #[] 9))
        have HB1 := Lib.hid ((Below.refl B w).alloc (by omega) (.cells #[] 9))
        have HK1 := Lib.hid ((Kept1.refl g w).alloc (.cells #[] 9))
        have hnew : ∀ (q : Nat) (u : Value), [Value.string x][q]? = some u → ((w.alloc (.cells #[] 9)).alloc (.cells #[.string x] 9)).cell? ((⟨w.heap.size + 1, 0, none⟩ : Addr).add q) = some u := by
          have h := cell_one_new (w.alloc (.cells #[] 9)) (.string x) 9
          rw [World.size_alloc] at h
          exact h
        have HNEW := Lib.hid hnew
        clear hnew
        go_wp2_with (first
          | (at_builtin; refine wpList_append_lies _ rfl (.tmp 41) (.tmp 43) 22 rfl B 9 i0 (.string ByteArray.empty) 1 16 Try.underlying22 hi hz0 hz1 hz2 rfl (by decide) _ _ _ rfl (HH1.out.alloc _) ⟨w.heap.size + 1, 0, none⟩ 1 1 [.string x] rfl rfl HNEW.out (one_cellP x) (by decide) (by unfold maxLen; omega) (by omega) (by simp; omega) _ rfl ?_; intro gg c2 w2 ho2 hg2 hat2 _; have HK2 := Lib.hid ((HK1.out.alloc (.cells #[.string x] 9)).grown hg2 (fun q hq => Or.inl (Option.some.inj hq).symm)); have HAT : Hid (gg = g ∨ w.heap.size ≤ gg) := Lib.hid (by rcases hat2 with h | h; exact Or.inl (Option.some.inj h).symm; exact Or.inr (by rw [h]; simp; omega));  obtain ⟨HRR, HB2, hsz2⟩ := put_one hgl HR1.out HH1.out HB1.out hg2; have HO2 := Lib.hid ho2; clear ho2 hg2 hat2)
          | (at_builtin; refine wpList_append_zero rfl (.tmp 44) (.tmp 45) 22 rfl 9 i0 Try.underlying22 hi gg _ c2 (owns_cap HO2.out) ⟨w.heap.size, 0, none⟩ 0 rfl rfl ?_))
        go_ret
        exact put_end_done HP.out HO2.out HB2.out HK2.out HAT.out
      · have hce2 : ps.length < cap := by omega
        have HR1 := Lib.hid (World.ownsRow_made (base := w.heap.size) (e := 9) (size := 1) w #[] 0 (Nat.le_refl _) (by decide) rfl)
        have HH1 := Lib.hid (HO.out.alloc (.cells #[] 9))
        have HB1 := Lib.hid ((Below.refl B w).alloc (by omega) (.cells #[] 9))
        have HK1 := Lib.hid ((Kept1.refl g w).alloc (.cells #[] 9))
        have hnew : ∀ (q : Nat) (u : Value), [Value.string x][q]? = some u → ((w.alloc (.cells #[] 9)).alloc (.cells #[.string x] 9)).cell? ((⟨w.heap.size + 1, 0, none⟩ : Addr).add q) = some u := by
          have h := cell_one_new (w.alloc (.cells #[] 9)) (.string x) 9
          rw [World.size_alloc] at h
          exact h
        have HNEW := Lib.hid hnew
        clear hnew
        go_wp2_with (first
          | (at_builtin; refine wpList_append_lies _ rfl (.tmp 41) (.tmp 43) 22 rfl B 9 i0 (.string ByteArray.empty) 1 16 Try.underlying22 hi hz0 hz1 hz2 rfl (by decide) _ _ _ rfl (HH1.out.alloc _) ⟨w.heap.size + 1, 0, none⟩ 1 1 [.string x] rfl rfl HNEW.out (one_cellP x) (by decide) (by unfold maxLen; omega) (by omega) (by simp; omega) _ rfl ?_; intro gg c2 w2 ho2 hg2 hat2 _; have HK2 := Lib.hid ((HK1.out.alloc (.cells #[.string x] 9)).grown hg2 (fun q hq => Or.inl (Option.some.inj hq).symm)); have HAT : Hid (gg = g ∨ w.heap.size ≤ gg) := Lib.hid (by rcases hat2 with h | h; exact Or.inl (Option.some.inj h).symm; exact Or.inr (by rw [h]; simp; omega));  obtain ⟨HRR, HB2, hsz2⟩ := put_one hgl HR1.out HH1.out HB1.out hg2; have HO2 := Lib.hid ho2; clear ho2 hg2 hat2)
          | (at_builtin; refine wpList_append_zero rfl (.tmp 44) (.tmp 45) 22 rfl 9 i0 Try.underlying22 hi gg _ c2 (owns_cap HO2.out) ⟨w.heap.size, 0, none⟩ 0 rfl rfl ?_))
        go_ret
        exact put_end_done HP.out HO2.out HB2.out HK2.out HAT.out
theorem spec_put (B g cap : Nat) (ps : List ByteArray) (x : ByteArray) (hl : ps.length ≤ 1000) (w : World)
    (ho : w.ownsRow B 9 1 (.slice (some ⟨g, 0, none⟩) ps.length cap) ps.length (ps.map Value.string)) :
    Calls Try.prog 57 #[.slice (some ⟨g, 0, none⟩) ps.length cap, .string x] w (PutPost B x ps w) := (spec_put2 B g cap ps x hl w ho).mono fun _ _ ⟨g', cap', h1, h2, h3, _⟩ => ⟨g', cap', h1, h2, h3⟩
end Go.Proofs.Ytalclebehbdliaa
