/-
  Merged: PLAIN FACTS ON GROWTH, second part (no program in this text): the growth of a table lies below a fraction exactly if a positive vector shows it; how this hangs on the fraction, the numbers, the sums of rows, turning and squares.
  PLAIN FACTS ON GRAPHS (no program in this text): the arcs of a matrix, paths of arcs, the vertices through which endless paths go, and the matrix of some vertices only.
  The model's IsGraph, ArcsOf and CountPaths: what the plain words say, tables in new memory; nothing that was there before is changed.
  PLAIN FACTS ON GRAPHS OF SHIFTS, second part (no program in this text): the powers of the graph count words, and the graph is lively.
  The model's product of a table that need not be a matrix (one row, say) with a matrix: the numbers may be larger; nothing that was there before is changed.
  PLAIN FACTS ON GRAPHS OF SHIFTS (no program's function in this text): the words of a length are counted by rows that go through the graph.
  PLAIN FACTS ON SQUARES OF NUMBERS, nine by nine, in one block of memory (no program's function in this text): a number is read, put in another's place; a row is copied in; two of them are compared.
-/
import Derived.Test.YtalclebehbdliaaGreatMidTexts
import Derived.Test.YtalclebehbdliaaGreatBaseTexts
import Derived.Test.YtalclebehbdliaaGreatLangTexts
import Derived.Deep.WholeRow
import Derived.Laws.CopyRow
import Derived.ChangeKeysEq
namespace Go.Proofs.YtalclebehbdliaaGreat
open Go Go.RowKit

/-- A positive vector shows that the growth is below q / d. -/
def Bel (n : Nat) (f : Nat → Nat → Int) (q d : Int) : Prop := ∃ x : Nat → Int, (∀ i, i < n → 0 < x i) ∧ ∀ i, i < n → d * rowX n f x i < q * x i
/-- q on the diagonal minus d times the table. -/
def negE (f : Nat → Nat → Int) (q d : Int) : Nat → Nat → Int := fun i j => (if i = j then q else 0) - d * f i j
def nonneg (n : Nat) (f : Nat → Nat → Int) : Prop := ∀ i j, i < n → j < n → 0 ≤ f i j
theorem rowX_neg (n : Nat) (f : Nat → Nat → Int) (q d : Int) (x : Nat → Int) {i : Nat} (hi : i < n) : rowX n (negE f q d) x i = q * x i - d * rowX n f x i := by
  unfold rowX negE
  have h1 := sumTo_pick q x hi
  have h2 := sumTo_mulc (-d) (fun j => f i j * x j) n
  have h3 := sumTo_addf (fun j => (if i = j then q else 0) * x j) (fun j => -d * (f i j * x j)) n
  rw [h1, h2] at h3
  rw [Int.sub_eq_add_neg, ← Int.neg_mul, ← h3]
  exact sumTo_congr _ fun j _ => by grind
theorem zE_neg {n : Nat} {f : Nat → Nat → Int} {q d : Int} (hf : nonneg n f) (hd : 0 ≤ d) : zE n (negE f q d) := fun i j hi hj hij => by
  unfold negE
  rw [if_neg hij]
  have := Int.mul_nonneg hd (hf i j hi hj)
  omega
/-- By the leading minors. -/
theorem bel_minors {n : Nat} (hn : n ≤ 4) {f : Nat → Nat → Int} {q d : Int} (hf : nonneg n f) (hd : 0 ≤ d) : (∀ k, k < n → 0 < detF (k + 1) (negE f q d)) ↔ Bel n f q d := by
  rw [← posE_minors hn, posE_vecE (zE_neg hf hd)]
  unfold vecE Bel
  constructor
  · rintro ⟨x, hx, h⟩
    exact ⟨x, hx, fun i hi => by have := h i hi; rw [rowX_neg n f q d x hi] at this; omega⟩
  · rintro ⟨x, hx, h⟩
    exact ⟨x, hx, fun i hi => by have := h i hi; rw [rowX_neg n f q d x hi]; omega⟩
theorem rowX_nonneg {n : Nat} {f : Nat → Nat → Int} (hf : nonneg n f) {x : Nat → Int} (hx : ∀ j, j < n → 0 ≤ x j) {i : Nat} (hi : i < n) : 0 ≤ rowX n f x i := sumTo_nonneg fun j hj => Int.mul_nonneg (hf i j hi hj) (hx j hj)
theorem Bel.more {n : Nat} {f : Nat → Nat → Int} {q q' d : Int} (h : Bel n f q d) (hq : q ≤ q') : Bel n f q' d := by
  obtain ⟨x, hx, h1⟩ := h
  exact ⟨x, hx, fun i hi => by
    have h2 := h1 i hi
    have h3 : q * x i ≤ q' * x i := Int.mul_le_mul_of_nonneg_right hq (by have := hx i hi; omega)
    omega⟩
theorem Bel.fewer {n : Nat} {f g : Nat → Nat → Int} {q d : Int} (h : Bel n g q d) (hd : 0 ≤ d) (hfg : ∀ i j, i < n → j < n → f i j ≤ g i j) : Bel n f q d := by
  obtain ⟨x, hx, h1⟩ := h
  exact ⟨x, hx, fun i hi => by
    have h2 := h1 i hi
    have h3 : rowX n f x i ≤ rowX n g x i := sumTo_mono2 fun j hj => Int.mul_le_mul_of_nonneg_right (hfg i j hi hj) (by have := hx j hj; omega)
    have h4 := Int.mul_le_mul_of_nonneg_left h3 hd
    omega⟩
theorem bel_not_zero {n : Nat} (hn : 0 < n) {f : Nat → Nat → Int} {d : Int} (hf : nonneg n f) (hd : 0 ≤ d) : ¬ Bel n f 0 d := by
  rintro ⟨x, hx, h⟩
  have h1 := h 0 hn
  have h2 := Int.mul_nonneg hd (rowX_nonneg hf (x := x) (fun j hj => by have := hx j hj; omega) hn)
  rw [Int.zero_mul] at h1
  omega
theorem bel_rows {n : Nat} {f : Nat → Nat → Int} {q d h : Int} (hd : 0 ≤ d) (hr : ∀ i, i < n → sumTo n (f i) ≤ h) (hq : d * h < q) : Bel n f q d := by
  refine ⟨fun _ => 1, fun _ _ => (by decide : (0 : Int) < 1), fun i hi => ?_⟩
  show _ < q * 1
  have h1 : rowX n f (fun _ => 1) i = sumTo n (f i) := sumTo_congr _ fun j _ => Int.mul_one _
  have h2 := Int.mul_le_mul_of_nonneg_left (hr i hi) hd
  rw [h1]; omega
theorem least_at (x : Nat → Int) : ∀ {n : Nat}, 0 < n → ∃ i, i < n ∧ ∀ j, j < n → x i ≤ x j
  | 1, _ => ⟨0, by omega, fun j hj => by obtain rfl : j = 0 := by omega
                                         exact Int.le_refl _⟩
  | n + 2, _ => by
    obtain ⟨i, hi, h⟩ := least_at x (n := n + 1) (by omega)
    by_cases hx : x i ≤ x (n + 1)
    · refine ⟨i, by omega, fun j hj => ?_⟩
      by_cases e : j = n + 1
      · subst e; exact hx
      · exact h j (by omega)
    · refine ⟨n + 1, by omega, fun j hj => ?_⟩
      by_cases e : j = n + 1
      · subst e; exact Int.le_refl _
      · have := h j (by omega); omega
theorem rows_bel {n : Nat} (hn : 0 < n) {f : Nat → Nat → Int} {q d l : Int} (hf : nonneg n f) (hd : 0 ≤ d) (hr : ∀ i, i < n → l ≤ sumTo n (f i)) (h : Bel n f q d) : d * l < q := by
  obtain ⟨x, hx, h1⟩ := h
  obtain ⟨i, hi, hmin⟩ := least_at x hn
  have h2 : x i * sumTo n (f i) ≤ rowX n f x i := by
    rw [← sumTo_mulc]
    exact sumTo_mono2 fun j hj => by
      rw [Int.mul_comm]
      exact Int.mul_le_mul_of_nonneg_left (hmin j hj) (hf i j hi hj)
  have hxi := hx i hi
  have h3 : x i * l ≤ x i * sumTo n (f i) := Int.mul_le_mul_of_nonneg_left (hr i hi) (by omega)
  have h4 := Int.mul_le_mul_of_nonneg_left (Int.le_trans h3 h2) hd
  have h5 := h1 i hi
  have h6 : d * (x i * l) = (d * l) * x i := by grind
  rw [h6] at h4
  have h7 : (d * l) * x i < q * x i := by omega
  exact Int.lt_of_mul_lt_mul_right h7 (by omega)
theorem bel_turn {n : Nat} (hn : n ≤ 4) {f : Nat → Nat → Int} {q d : Int} (hf : nonneg n f) (hd : 0 ≤ d) : Bel n (fun i j => f j i) q d ↔ Bel n f q d := by
  rw [← bel_minors hn hf hd, ← bel_minors hn (fun i j hi hj => hf j i hj hi) hd]
  have e : ∀ k, k < n → detF (k + 1) (negE (fun i j => f j i) q d) = detF (k + 1) (negE f q d) := fun k hk => by
    rw [← detF_turn (n := k + 1) (by omega)]
    refine detF_congr fun i j _ _ => ?_
    unfold negE
    by_cases h : i = j
    · subst h; rfl
    · rw [if_neg h, if_neg (Ne.symm h)]
  exact ⟨fun h k hk => by rw [← e k hk]; exact h k hk, fun h k hk => by rw [e k hk]; exact h k hk⟩
theorem Bel.congr {n : Nat} {f g : Nat → Nat → Int} {q d : Int} (h : Bel n f q d) (he : ∀ i j, i < n → j < n → f i j = g i j) : Bel n g q d := by
  obtain ⟨x, hx, h1⟩ := h
  exact ⟨x, hx, fun i hi => by
    have e : rowX n g x i = rowX n f x i := sumTo_congr _ fun j hj => by rw [he i j hi hj]
    rw [e]; exact h1 i hi⟩

/-! ### Squares -/

def sqF (n : Nat) (f : Nat → Nat → Int) : Nat → Nat → Int := fun i j => sumTo n fun k => f i k * f k j
theorem sumTo_swap (g : Nat → Nat → Int) (m : Nat) : ∀ n : Nat, (sumTo n fun i => sumTo m fun j => g i j) = sumTo m fun j => sumTo n fun i => g i j
  | 0 => by
    show (0 : Int) = sumTo m fun _ => 0
    have h2 := sumTo_nonneg (f := fun _ => (0 : Int)) (n := m) fun _ _ => Int.le_refl _
    have h3 := sumTo_nonpos (f := fun _ => (0 : Int)) (n := m) fun _ _ => Int.le_refl _
    omega
  | n + 1 => by
    rw [sumTo, sumTo_swap g m n, ← sumTo_addf]
    rfl
theorem rowX_sq (n : Nat) (f : Nat → Nat → Int) (x : Nat → Int) (i : Nat) : rowX n (sqF n f) x i = rowX n f (rowX n f x) i := by
  unfold rowX sqF
  have h1 : (sumTo n fun j => (sumTo n fun k => f i k * f k j) * x j) = sumTo n fun j => sumTo n fun k => f i k * f k j * x j := sumTo_congr _ fun j _ => by
    rw [Int.mul_comm, ← sumTo_mulc]
    exact sumTo_congr _ fun k _ => Int.mul_comm _ _
  rw [h1, sumTo_swap]
  exact sumTo_congr _ fun k _ => by
    rw [← sumTo_mulc]
    exact sumTo_congr _ fun j _ => by grind
theorem rowX_lin (n : Nat) (f : Nat → Nat → Int) (x y : Nat → Int) (a b : Int) (i : Nat) : rowX n f (fun j => a * x j + b * y j) i = a * rowX n f x i + b * rowX n f y i := by
  unfold rowX
  rw [← sumTo_mulc, ← sumTo_mulc, ← sumTo_addf]
  exact sumTo_congr _ fun j _ => by grind
theorem rowX_scale (n : Nat) (f : Nat → Nat → Int) (x : Nat → Int) (a : Int) (i : Nat) : rowX n f (fun j => a * x j) i = a * rowX n f x i := by
  unfold rowX
  rw [← sumTo_mulc]
  exact sumTo_congr _ fun j _ => by grind
theorem rowX_mono {n : Nat} {f : Nat → Nat → Int} (hf : nonneg n f) {x y : Nat → Int} (h : ∀ j, j < n → x j ≤ y j) {i : Nat} (hi : i < n) : rowX n f x i ≤ rowX n f y i := sumTo_mono2 fun j hj => Int.mul_le_mul_of_nonneg_left (h j hj) (hf i j hi hj)
theorem bel_root {n : Nat} {f : Nat → Nat → Int} {q d r : Int} (hn : 0 < n) (hf : nonneg n f) (hd : 0 < d) (hq : 0 ≤ q) (h : Bel n (sqF n f) r d) (hr : r * d ≤ q * q) : Bel n f q d := by
  obtain ⟨x, hx, h1⟩ := h
  have hx0 : ∀ j, j < n → 0 ≤ x j := fun j hj => by have := hx j hj; omega
  have hM : ∀ i, i < n → 0 ≤ rowX n f x i := fun i hi => rowX_nonneg hf hx0 hi
  have hkey : ∀ i, i < n → d * (d * rowX n f (rowX n f x) i) < q * (q * x i) := fun i hi => by
    have h2 := h1 i hi
    rw [rowX_sq] at h2
    have h3 := Int.mul_lt_mul_of_pos_left h2 hd
    have h4 : d * (r * x i) = (r * d) * x i := by grind
    have h5 := Int.mul_le_mul_of_nonneg_right hr (hx0 i hi)
    have h6 : q * q * x i = q * (q * x i) := by grind
    omega
  have hq0 : 0 < q := by
    by_cases h0 : q = 0
    · have h2 := hkey 0 hn
      rw [h0, Int.zero_mul] at h2
      have h3 := Int.mul_nonneg (Int.le_of_lt hd) (Int.mul_nonneg (Int.le_of_lt hd) (rowX_nonneg hf hM hn))
      omega
    · omega
  refine ⟨fun j => q * x j + d * rowX n f x j, fun i hi => ?_, fun i hi => ?_⟩
  · have h2 := Int.mul_pos hq0 (hx i hi)
    have h3 := Int.mul_nonneg (Int.le_of_lt hd) (hM i hi)
    show 0 < q * x i + d * rowX n f x i
    omega
  · rw [rowX_lin n f x (rowX n f x) q d i]
    have h2 := hkey i hi
    show _ < q * (q * x i + d * rowX n f x i)
    generalize rowX n f (rowX n f x) i = z at *
    generalize rowX n f x i = y at *
    have e1 : d * (q * y + d * z) = q * (d * y) + d * (d * z) := by grind
    have e2 : q * (q * x i + d * y) = q * (d * y) + q * (q * x i) := by grind
    omega
theorem bel_square {n : Nat} {f : Nat → Nat → Int} {q d r : Int} (hf : nonneg n f) (hd : 0 < d) (hq : 0 < q) (h : Bel n f q d) (hr : q * q ≤ r * d) : Bel n (sqF n f) r d := by
  obtain ⟨x, hx, h1⟩ := h
  refine ⟨x, hx, fun i hi => ?_⟩
  rw [rowX_sq]
  have h2 : d * rowX n f (rowX n f x) i = rowX n f (fun j => d * rowX n f x j) i := (rowX_scale n f (rowX n f x) d i).symm
  have h3 : rowX n f (fun j => d * rowX n f x j) i ≤ rowX n f (fun j => q * x j) i := rowX_mono hf (fun j hj => Int.le_of_lt (h1 j hj)) hi
  have h4 : rowX n f (fun j => q * x j) i = q * rowX n f x i := rowX_scale n f x q i
  have h5 := h1 i hi
  have h6 := Int.mul_lt_mul_of_pos_left h5 hq
  have h7 : d * (q * rowX n f x i) < d * (r * x i) := by
    have e1 : d * (q * rowX n f x i) = q * (d * rowX n f x i) := by grind
    have e2 : d * (r * x i) = (r * d) * x i := by grind
    have e3 : q * (q * x i) = (q * q) * x i := by grind
    have h8 := Int.mul_le_mul_of_nonneg_right hr (Int.le_of_lt (hx i hi))
    omega
  have h9 : d * (d * rowX n f (rowX n f x) i) < d * (r * x i) := by
    rw [h2]
    have h10 := Int.mul_le_mul_of_nonneg_left (Int.le_trans h3 (Int.le_of_eq h4)) (Int.le_of_lt hd)
    omega
  exact Int.lt_of_mul_lt_mul_left h9 (Int.le_of_lt hd)

/-! ### The greatest number that is reached -/

/-- Of the numbers up to k, the greatest that p does not hold of (0 if there is none). -/
def lastNot (p : Nat → Bool) : Nat → Nat
  | 0 => 0
  | k + 1 => if p (k + 1) then lastNot p k else k + 1
theorem lastNot_is {p : Nat → Bool} (h0 : p 0 = false) : ∀ k, p (lastNot p k) = false ∧ lastNot p k ≤ k ∧ ∀ j, lastNot p k < j → j ≤ k → p j = true
  | 0 => ⟨h0, Nat.le_refl _, fun j h1 h2 => by
      have : lastNot p 0 = 0 := rfl
      omega⟩
  | k + 1 => by
    rw [lastNot]
    cases hp : p (k + 1) with
    | true =>
      rw [if_pos rfl]
      obtain ⟨h1, h2, h3⟩ := lastNot_is h0 k
      refine ⟨h1, by omega, fun j hj hk => ?_⟩
      by_cases e : j = k + 1
      · subst e; exact hp
      · exact h3 j hj (by omega)
    | false =>
      rw [if_neg (by decide)]
      exact ⟨hp, Nat.le_refl _, fun j h1 h2 => by omega⟩
end Go.Proofs.YtalclebehbdliaaGreat
namespace Go.Proofs.YtalclebehbdliaaGreat
open Go Go.RowKit

def isGraphM (m : List (List Int)) : Bool := isMat m && decide (sumM m ≤ 60)

/-! ### Arcs -/

def arcsRow (m : List (List Int)) (i j : Nat) : List (List Int) := (List.range j).flatMap fun j' => List.replicate (cellOf m i j').toNat [(i : Int), (j' : Int)]
def arcsRows (m : List (List Int)) (i : Nat) : List (List Int) := (List.range i).flatMap fun i' => arcsRow m i' m.length
/-- The arcs ahead of i and j, and k arcs there. -/
def arcsTo (m : List (List Int)) (i j k : Nat) : List (List Int) := arcsRows m i ++ arcsRow m i j ++ List.replicate k [(i : Int), (j : Int)]
def arcsM (m : List (List Int)) : List (List Int) := arcsRows m m.length
theorem arcsRow_next (m : List (List Int)) (i j : Nat) : arcsRow m i (j + 1) = arcsRow m i j ++ List.replicate (cellOf m i j).toNat [(i : Int), (j : Int)] := by
  unfold arcsRow; rw [List.range_succ, List.flatMap_append]; simp
theorem arcsRows_next (m : List (List Int)) (i : Nat) : arcsRows m (i + 1) = arcsRows m i ++ arcsRow m i m.length := by
  unfold arcsRows; rw [List.range_succ, List.flatMap_append]; simp
theorem arcsTo_zero (m : List (List Int)) : arcsTo m 0 0 0 = [] := rfl
theorem arcsTo_next (m : List (List Int)) (i j k : Nat) : arcsTo m i j (k + 1) = arcsTo m i j k ++ [[(i : Int), (j : Int)]] := by
  unfold arcsTo; rw [List.replicate_succ', ← List.append_assoc]
theorem arcsTo_col (m : List (List Int)) (i j : Nat) : arcsTo m i j (cellOf m i j).toNat = arcsTo m i (j + 1) 0 := by
  unfold arcsTo; rw [arcsRow_next, List.replicate_zero, List.append_nil, List.append_assoc]
theorem arcsTo_row (m : List (List Int)) (i : Nat) : arcsTo m i m.length 0 = arcsTo m (i + 1) 0 0 := by
  unfold arcsTo; rw [arcsRows_next]; simp [arcsRow]
theorem arcsTo_all (m : List (List Int)) : arcsTo m m.length 0 0 = arcsM m := by
  unfold arcsTo arcsM; simp [arcsRow]
theorem arcsRow_length {m : List (List Int)} {i : Nat} : ∀ (j : Nat), (∀ j', j' < j → 0 ≤ cellOf m i j') → ((arcsRow m i j).length : Int) = sumTo j fun j' => cellOf m i j'
  | 0, _ => rfl
  | j + 1, h => by
    have h1 := arcsRow_length j fun j' hj => h j' (by omega)
    have h2 := h j (by omega)
    rw [arcsRow_next, List.length_append, List.length_replicate, sumTo, ← h1]
    omega
theorem arcsRows_length {m : List (List Int)} : ∀ (i : Nat), (∀ i' j', i' < i → j' < m.length → 0 ≤ cellOf m i' j') → ((arcsRows m i).length : Int) = sumTo i fun i' => sumTo m.length fun j' => cellOf m i' j'
  | 0, _ => rfl
  | i + 1, h => by
    have h1 := arcsRows_length i fun i' j' hi hj => h i' j' (by omega) hj
    have h2 := arcsRow_length (i := i) m.length fun j' hj => h i j' (by omega) hj
    rw [arcsRows_next, List.length_append, sumTo, ← h1, ← h2]
    omega
/-- As many arcs as the sum of all numbers. -/
theorem arcsM_length {m : List (List Int)} (h : isMat m = true) : ((arcsM m).length : Int) = sumM m := by
  unfold arcsM sumM
  rw [if_pos h]
  exact arcsRows_length m.length fun i' j' hi hj => (((isMat_iff.1 h).2 i' hi).2 j' hj).1
theorem arcsTo_le {m : List (List Int)} (h : isMat m = true) {i j k : Nat} (hi : i ≤ m.length) (hj : j ≤ m.length) (hij : i < m.length ∨ j = 0) (hk : k ≤ 1000000) : (arcsTo m i j k).length ≤ 100000000 := by
  obtain ⟨⟨_, h9⟩, hc⟩ := isMat_iff.1 h
  have h1 := arcsRows_length (m := m) i fun i' j' hi' hj' => ((hc i' (by omega)).2 j' hj').1
  have h2 := sumTo_le (f := fun i' => sumTo m.length fun j' => cellOf m i' j') (B := 9000000) i fun i' hi' => by
    have := sumTo_le (f := fun j' => cellOf m i' j') (B := 1000000) m.length fun j' hj' => (hc i' (by omega)).2 j' hj'
    exact ⟨this.1, by omega⟩
  have h3 : (arcsRow m i j).length ≤ 9000000 := by
    rcases hij with hij | rfl
    · have h4 := arcsRow_length (m := m) (i := i) j fun j' hj' => ((hc i hij).2 j' (by omega)).1
      have h5 := sumTo_le (f := fun j' => cellOf m i j') (B := 1000000) j fun j' hj' => (hc i hij).2 j' (by omega)
      omega
    · simp [arcsRow]
  unfold arcsTo
  rw [List.length_append, List.length_append, List.length_replicate]
  omega
/-- Each arc has two ends. -/
theorem arcsM_two (m : List (List Int)) : ∀ r ∈ arcsM m, r.length = 2 := by
  intro r hr
  unfold arcsM arcsRows arcsRow at hr
  simp only [List.mem_flatMap, List.mem_range, List.mem_replicate] at hr
  obtain ⟨i, _, j, _, _, rfl⟩ := hr
  rfl

/-! ### Paths -/

def endOf (arcs : List (List Int)) (k : Int) : Int := cellOf arcs k.toNat 1
def startOf (arcs : List (List Int)) (k : Int) : Int := cellOf arcs k.toNat 0
def pathOk (arcs : List (List Int)) (p : List Int) (k : Nat) : Bool :=
  (decide (0 ≤ p.getD k 0) && decide (p.getD k 0 ≤ (arcs.length : Int) - 1)) && (decide (k = 0) || decide (endOf arcs (p.getD (k - 1) 0) = startOf arcs (p.getD k 0)))
def isPathM (arcs : List (List Int)) (p : List Int) : Bool := (List.range p.length).all (pathOk arcs p)
theorem isPathM_bad {arcs : List (List Int)} {p : List Int} {k : Nat} (hk : k < p.length) (h : pathOk arcs p k = false) : isPathM arcs p = false := by
  unfold isPathM
  rw [List.all_eq_false]
  exact ⟨k, List.mem_range.2 hk, by rw [h]; simp⟩
theorem isPathM_all {arcs : List (List Int)} {p : List Int} (h : ∀ k, k < p.length → pathOk arcs p k = true) : isPathM arcs p = true := by
  unfold isPathM
  rw [List.all_eq_true]
  exact fun k hk => h k (List.mem_range.1 hk)

/-- Whether arc k goes on where the path's last arc ends. -/
def goesOnM (arcs : List (List Int)) (head : List Int) (k : Nat) : Bool := decide (head.length = 0) || decide (endOf arcs (head.getD (head.length - 1) 0) = cellOf arcs k 0)
/-- The paths that begin with head and have d arcs more. -/
def fillM (arcs : List (List Int)) : Nat → List Int → List (List Int)
  | 0, head => [head]
  | d + 1, head => (List.range arcs.length).flatMap fun k => if goesOnM arcs head k = true then fillM arcs d (head ++ [(k : Int)]) else []
/-- Those whose next arc is ahead of k. -/
def fillTo (arcs : List (List Int)) (d : Nat) (head : List Int) (k : Nat) : List (List Int) := (List.range k).flatMap fun k => if goesOnM arcs head k = true then fillM arcs d (head ++ [(k : Int)]) else []
theorem fillTo_zero (arcs : List (List Int)) (d : Nat) (head : List Int) : fillTo arcs d head 0 = [] := rfl
theorem fillTo_next (arcs : List (List Int)) (d : Nat) (head : List Int) (k : Nat) : fillTo arcs d head (k + 1) = fillTo arcs d head k ++ (if goesOnM arcs head k = true then fillM arcs d (head ++ [(k : Int)]) else []) := by
  unfold fillTo; rw [List.range_succ, List.flatMap_append]; simp
theorem fillTo_all (arcs : List (List Int)) (d : Nat) (head : List Int) : fillTo arcs d head arcs.length = fillM arcs (d + 1) head := rfl
theorem fillM_le (arcs : List (List Int)) : ∀ (d : Nat) (head : List Int), (fillM arcs d head).length ≤ arcs.length ^ d
  | 0, head => by simp [fillM]
  | d + 1, head => by
    have h : ∀ k, (fillTo arcs d head k).length ≤ k * arcs.length ^ d := by
      intro k
      induction k with
      | zero => simp [fillTo]
      | succ k ih =>
        rw [fillTo_next, List.length_append, Nat.add_mul, Nat.one_mul]
        split
        · have := fillM_le arcs d (head ++ [(k : Int)])
          omega
        · simp; omega
    have := h arcs.length
    rw [fillTo_all] at this
    rw [Nat.pow_succ, Nat.mul_comm]; exact this

/-! ### What goes on for ever -/

/-- Each vertex of T has arcs to and from vertices of T. -/
def Good (m : List (List Int)) (T : Nat → Bool) : Prop := ∀ i, T i = true → i < m.length ∧ (∃ j, T j = true ∧ 0 < cellOf m i j) ∧ ∃ j, T j = true ∧ 0 < cellOf m j i
def liveStep (m : List (List Int)) (S : Nat → Bool) : Nat → Bool := fun i => S i && ((List.range m.length).any fun j => S j && decide (0 < cellOf m i j)) && ((List.range m.length).any fun j => S j && decide (0 < cellOf m j i))
def liveK (m : List (List Int)) : Nat → Nat → Bool
  | 0 => fun i => decide (i < m.length)
  | k + 1 => liveStep m (liveK m k)
def liveM (m : List (List Int)) : Nat → Bool := liveK m m.length
theorem liveK_lt {m : List (List Int)} : ∀ (k : Nat) {i : Nat}, liveK m k i = true → i < m.length
  | 0, i, h => of_decide_eq_true h
  | k + 1, i, h => by
    unfold liveK liveStep at h
    rw [Bool.and_eq_true, Bool.and_eq_true] at h
    exact liveK_lt k h.1.1
theorem liveK_less {m : List (List Int)} (k i : Nat) (h : liveK m (k + 1) i = true) : liveK m k i = true := by
  unfold liveK liveStep at h
  rw [Bool.and_eq_true, Bool.and_eq_true] at h
  exact h.1.1
theorem good_in_step {m : List (List Int)} {T S : Nat → Bool} (hT : Good m T) (hS : ∀ i, T i = true → S i = true) : ∀ i, T i = true → liveStep m S i = true := by
  intro i hi
  obtain ⟨_, ⟨j, hj, hj2⟩, k, hk, hk2⟩ := hT i hi
  unfold liveStep
  rw [Bool.and_eq_true, Bool.and_eq_true, List.any_eq_true, List.any_eq_true]
  refine ⟨⟨hS i hi, j, List.mem_range.2 (hT j hj).1, ?_⟩, k, List.mem_range.2 (hT k hk).1, ?_⟩
  · rw [hS j hj, decide_eq_true hj2]; rfl
  · rw [hS k hk, decide_eq_true hk2]; rfl
theorem good_in_liveK {m : List (List Int)} {T : Nat → Bool} (hT : Good m T) : ∀ (k i : Nat), T i = true → liveK m k i = true
  | 0, i, h => decide_eq_true (hT i h).1
  | k + 1, i, h => good_in_step hT (good_in_liveK hT k) i h
theorem good_of_step {m : List (List Int)} {S : Nat → Bool} (hl : ∀ i, S i = true → i < m.length) (h : ∀ i, S i = true → liveStep m S i = true) : Good m S := by
  intro i hi
  have h1 := h i hi
  unfold liveStep at h1
  rw [Bool.and_eq_true, Bool.and_eq_true, List.any_eq_true, List.any_eq_true] at h1
  obtain ⟨⟨_, j, _, hj⟩, k, _, hk⟩ := h1
  rw [Bool.and_eq_true] at hj hk
  exact ⟨hl i hi, ⟨j, hj.1, of_decide_eq_true hj.2⟩, k, hk.1, of_decide_eq_true hk.2⟩
theorem filter_lt {α : Type} {p q : α → Bool} (hpq : ∀ x, p x = true → q x = true) : ∀ (l : List α), (∃ x ∈ l, q x = true ∧ p x = false) → (l.filter p).length < (l.filter q).length
  | [], h => by obtain ⟨x, hx, _⟩ := h; cases hx
  | y :: l, h => by
    have hle : (l.filter p).length ≤ (l.filter q).length := by
      clear h
      induction l with
      | nil => exact Nat.le_refl _
      | cons z l ih =>
        cases hp : p z with
        | true => rw [List.filter_cons_of_pos hp, List.filter_cons_of_pos (hpq z hp)]; simp; exact ih
        | false =>
          rw [List.filter_cons_of_neg (by rw [hp]; simp)]
          cases hq : q z with
          | true => rw [List.filter_cons_of_pos hq]; simp; omega
          | false => rw [List.filter_cons_of_neg (by rw [hq]; simp)]; exact ih
    obtain ⟨x, hx, hq, hp⟩ := h
    rcases List.mem_cons.1 hx with rfl | hx
    · rw [List.filter_cons_of_neg (by rw [hp]; simp), List.filter_cons_of_pos hq]; simp; omega
    · have ih := filter_lt hpq l ⟨x, hx, hq, hp⟩
      cases hp2 : p y with
      | true => rw [List.filter_cons_of_pos hp2, List.filter_cons_of_pos (hpq y hp2)]; simp; exact ih
      | false =>
        rw [List.filter_cons_of_neg (by rw [hp2]; simp)]
        cases hq2 : q y with
        | true => rw [List.filter_cons_of_pos hq2]; simp; omega
        | false => rw [List.filter_cons_of_neg (by rw [hq2]; simp)]; exact ih
def liveCount (m : List (List Int)) (k : Nat) : Nat := ((List.range m.length).filter (liveK m k)).length
/-- Either a step changes nothing, or there are fewer vertices. -/
theorem live_step_or (m : List (List Int)) (k : Nat) : (∀ i, liveK m k i = true → liveK m (k + 1) i = true) ∨ liveCount m (k + 1) < liveCount m k := by
  by_cases h : ∀ i, liveK m k i = true → liveK m (k + 1) i = true
  · exact Or.inl h
  · right
    have hx : ∃ i, liveK m k i = true ∧ liveK m (k + 1) i = false := by
      refine Classical.byContradiction fun hn => h fun i hi => ?_
      cases e : liveK m (k + 1) i with
      | true => rfl
      | false => exact absurd ⟨i, hi, e⟩ hn
    obtain ⟨i, h1, h2⟩ := hx
    exact filter_lt (liveK_less k) _ ⟨i, List.mem_range.2 (liveK_lt k h1), h1, h2⟩
theorem live_still {m : List (List Int)} {k : Nat} (h : ∀ i, liveK m k i = true → liveK m (k + 1) i = true) : ∀ (d : Nat), liveK m (k + d) = liveK m k
  | 0 => rfl
  | d + 1 => by
    have ih := live_still h d
    show liveStep m (liveK m (k + d)) = _
    rw [ih]
    funext i
    cases e : liveK m k i with
    | true => exact h i e
    | false =>
      cases e2 : liveStep m (liveK m k) i with
      | false => rfl
      | true => rw [liveK_less k i e2] at e; cases e
theorem live_count_le (m : List (List Int)) : ∀ (k : Nat), (∃ j, j < k ∧ ∀ i, liveK m j i = true → liveK m (j + 1) i = true) ∨ liveCount m k + k ≤ m.length
  | 0 => by
    right
    unfold liveCount
    have := List.length_filter_le (liveK m 0) (List.range m.length)
    rw [List.length_range] at this
    omega
  | k + 1 => by
    rcases live_count_le m k with ⟨j, hj, h⟩ | h
    · exact Or.inl ⟨j, by omega, h⟩
    · rcases live_step_or m k with h2 | h2
      · exact Or.inl ⟨k, by omega, h2⟩
      · exact Or.inr (by omega)
theorem liveM_good (m : List (List Int)) : Good m (liveM m) := by
  refine good_of_step (fun i h => liveK_lt m.length h) fun i h => ?_
  rcases live_count_le m m.length with ⟨j, hj, hs⟩ | hc
  · have e := live_still hs (m.length - j)
    rw [show j + (m.length - j) = m.length by omega] at e
    unfold liveM at h ⊢
    rw [e] at h ⊢
    exact hs i h
  · exfalso
    have h0 : liveCount m m.length = 0 := by omega
    unfold liveCount at h0
    have := List.eq_nil_of_length_eq_zero h0
    have hm : i ∈ (List.range m.length).filter (liveK m m.length) := List.mem_filter.2 ⟨List.mem_range.2 (liveK_lt m.length h), h⟩
    rw [this] at hm
    cases hm
/-- The greatest set of this kind is the only one that has every other. -/
theorem live_only {m : List (List Int)} {S : Nat → Bool} (h1 : Good m S) (h2 : ∀ T, Good m T → ∀ i, T i = true → S i = true) : S = liveM m := by
  funext i
  cases e : S i with
  | true => exact (good_in_liveK h1 m.length i e).symm
  | false =>
    cases e2 : liveM m i with
    | false => rfl
    | true => rw [h2 _ (liveM_good m) i e2] at e; cases e
/-- The vertices, in order. -/
def liveList (m : List (List Int)) (k : Nat) : List Int := ((List.range k).filter (liveM m)).map fun (i : Nat) => (i : Int)
def livelyM (m : List (List Int)) : List Int := if isMat m = true then liveList m m.length else []
theorem liveList_next (m : List (List Int)) (k : Nat) : liveList m (k + 1) = liveList m k ++ (if liveM m k = true then [(k : Int)] else []) := by
  unfold liveList
  rw [List.range_succ, List.filter_append, List.map_append]
  cases h : liveM m k <;> simp [h]
theorem liveList_le (m : List (List Int)) (k : Nat) : (liveList m k).length ≤ k := by
  unfold liveList
  rw [List.length_map]
  have := List.length_filter_le (liveM m) (List.range k)
  rwa [List.length_range] at this
theorem liveList_mem {m : List (List Int)} {k : Nat} {x : Int} (h : x ∈ liveList m k) : ∃ i : Nat, x = (i : Int) ∧ i < k ∧ liveM m i = true := by
  unfold liveList at h
  obtain ⟨i, hi, rfl⟩ := List.mem_map.1 h
  obtain ⟨h1, h2⟩ := List.mem_filter.1 hi
  exact ⟨i, rfl, List.mem_range.1 h1, h2⟩
/-- The matrix of some rows and columns. -/
def partM (m : List (List Int)) (l : List Int) : List (List Int) := tabOf l.length l.length fun i j => cellOf m (l.getD i 0).toNat (l.getD j 0).toNat
def trimM (m : List (List Int)) : Option (List (List Int)) := if (livelyM m).length = 0 then none else some (partM m (livelyM m))
def isLivelyM (m : List (List Int)) : Bool := isMat m && decide ((livelyM m).length = m.length)
end Go.Proofs.YtalclebehbdliaaGreat
namespace Go.Proofs.YtalclebehbdliaaGreat
open Go Go.RowKit

theorem isGraphM_facts {m : List (List Int)} (h : isGraphM m = true) : isMat m = true ∧ sumM m ≤ 60 := by
  unfold isGraphM at h
  rw [Bool.and_eq_true] at h
  exact ⟨h.1, of_decide_eq_true h.2⟩

/-- A row that is new in memory of the call's own. -/
theorem row_two {w : World} (x y : Int) : (w.alloc (.cells #[.int .i64 x, .int .i64 y] 3)).ownsRow w.heap.size 3 1 (.slice (some ⟨w.heap.size, 0, none⟩) 2 2) 2 ([x, y].map (Value.int .i64)) :=
  World.ownsRow_lit (base := w.heap.size) (e := 3) (size := 1) w #[.int .i64 x, .int .i64 y] 2 (Nat.le_refl _) (by decide) rfl
theorem arcs_next {w wr w3 : World} {gg cap i j k : Nat} {m : List (List Int)} {v : Value} {vs : List Value} {o : Obj} (hB : Below w.heap.size w wr) (hO : wr.ownsRow w.heap.size 56 1 v (arcsTo m i j k).length vs) (hR : RowsOwn wr w.heap.size v.ownBlock vs (arcsTo m i j k))
    (ho3 : w3.ownsRow w.heap.size 56 1 (.slice (some ⟨gg, 0, none⟩) ((arcsTo m i j k).length + 1) cap) ((arcsTo m i j k).length + 1) (vs ++ [.slice (some ⟨wr.heap.size, 0, none⟩) 2 2])) (hg3 : ((wr.alloc (.cells #[.int .i64 (i : Int), .int .i64 (j : Int)] 3)).alloc o).grownBy w3 v.ownBlock) (hat : v.ownBlock = some gg ∨ gg = wr.heap.size + 1 + 1) :
    w3.ownsRow w.heap.size 56 1 (.slice (some ⟨gg, 0, none⟩) ((arcsTo m i j k).length + 1) cap) (arcsTo m i j (k + 1)).length (vs ++ [.slice (some ⟨wr.heap.size, 0, none⟩) 2 2]) ∧
    RowsOwn w3 w.heap.size (Value.slice (some ⟨gg, 0, none⟩) ((arcsTo m i j k).length + 1) cap).ownBlock (vs ++ [.slice (some ⟨wr.heap.size, 0, none⟩) 2 2]) (arcsTo m i j (k + 1)) ∧ Below w.heap.size w w3 := by
  have hb1 : Below wr.heap.size wr ((wr.alloc (.cells #[.int .i64 (i : Int), .int .i64 (j : Int)] 3)).alloc o) := ((Below.refl _ _).alloc (Nat.le_refl _) _).alloc (by simp) _
  refine ⟨by rw [arcsTo_next, List.length_append]; exact ho3, ?_, ?_⟩
  · rw [arcsTo_next]
    refine own_append (cap := cap) (xs := [(i : Int), (j : Int)]) hO hR hb1 (World.ownsRow.mono (World.ownsRow.alloc (row_two (i : Int) (j : Int)) o) hB.size) (fun g hg => ?_) ho3 hg3 ?_
    · have : wr.heap.size = g := Option.some.inj hg
      omega
    · rw [World.size_alloc, World.size_alloc]; exact hat
  · have hb2 := hB.trans (hb1.mono hB.size)
    exact hb2.grown hg3 (by have := hb2.size; omega) (fun q hq => (hO.lt q hq).1)

/-- ArcsOf, CountPaths. -/
def arcsOfM (m : List (List Int)) : List (List Int) := if isGraphM m = true then arcsM m else []
def countM (m : List (List Int)) (n : Int) : Int := match powS m n with | some p => sumM p | none => -1

set_option maxRecDepth 100000 in
theorem spec_countPaths (A : Option Addr) (c : Nat) (m : List (List Int)) (hl : m.length ≤ 1048576) (ht : tot m ≤ 1048576) (n : Int) (w : World) (hg : GridS w A m) :
    Calls Tryz.prog 26 #[.slice A m.length c, .int .i64 n] w (Scalar (.int .i64 (countM m n)) w) := by
  have HP := Lib.hid (spec_power A c m hl ht n w hg)
  unfold countM
  cases hp : powS m n with
  | none =>
    rw [hp] at HP
    clear hg
    go_enter Tryz.func26, Tryz.ntmps26
    go_wp2_with fail
    refine HP.out.mono ?_
    rintro e w1 ⟨v, rfl, ho, hb⟩
    clear ho
    go_wp2
    go_ret
    exact ⟨rfl, hb⟩
  | some p =>
    rw [hp] at HP
    have hz : isMat p = true := by
      unfold powS at hp
      split at hp
      · next hc => exact powM_isMat hc.1 _ hp
      · cases hp
    have fz := isMat_facts hz
    have tz := tot_isMat fz
    have lz := fz.le
    have HS : Hid (∀ A' c' w', GridS w' A' p → Calls Tryz.prog 68 #[.slice A' p.length c'] w' fun e w2 => e = .returned (.int .i64 (sumM p)) ∧ w2 = w') := Lib.hid fun A' c' w' h => spec_sumOf A' c' p (by omega) (fun k hk => by have := row_le_tot hk; omega) w' h
    clear hg hp hz fz tz lz
    go_enter Tryz.func26, Tryz.ntmps26
    go_wp2_with fail
    refine HP.out.mono ?_
    rintro e w1 ⟨v, rfl, ho, hb⟩
    obtain ⟨A', c', rfl, hg'⟩ := ho.gridS
    have HS1 := Lib.hid (HS.out A' c' w1 hg')
    clear ho hg'
    go_wp2_with fail
    refine HS1.out.mono ?_
    rintro e w2 ⟨rfl, hw⟩
    obtain rfl : w1 = w2 := hw.symm
    go_wp2
    go_ret
    exact ⟨rfl, hb⟩

/-! ### Is it a path -/

theorem pathOk_out {arcs : List (List Int)} {p : List Int} {k : Nat} (h : (decide ((0 : Int) ≤ p.getD k 0) && decide (p.getD k 0 ≤ (arcs.length : Int) - 1)) = false) : pathOk arcs p k = false := by
  unfold pathOk; rw [h]; rfl
/-- The two ends of an arc in memory. -/
theorem arc_at {w : World} {A : Option Addr} {arcs : List (List Int)} (h : GridS w A arcs) (h2 : ∀ r ∈ arcs, r.length = 2) {k : Nat} (hk : k < arcs.length) :
    ∃ b off b2 off2 c', A = some ⟨b, off, none⟩ ∧ w.cell? ⟨b, off + k, none⟩ = some (.slice (some ⟨b2, off2, none⟩) 2 c') ∧ w.cell? ⟨b2, off2, none⟩ = some (.int .i64 (cellOf arcs k 0)) ∧ w.cell? ⟨b2, off2 + 1, none⟩ = some (.int .i64 (cellOf arcs k 1)) := by
  have hl : (arcs.getD k []).length = 2 := by
    have e : arcs.getD k [] = arcs[k] := by simp [List.getD, hk]
    rw [e]; exact h2 _ (List.getElem_mem hk)
  obtain ⟨b, off, A', c', hA, hc, hr, _⟩ := h.row hk
  obtain ⟨b2, off2, rfl, hat, _⟩ := hr (by omega)
  rw [hl] at hc
  exact ⟨b, off, b2, off2, c', hA, hc, hat 0 (by omega), hat 1 (by omega)⟩

end Go.Proofs.YtalclebehbdliaaGreat
namespace Go.Proofs.YtalclebehbdliaaGreat
open Go Go.RowKit

theorem lang_sum {k : Nat} (hk : k ≤ 3) (ps : List ByteArray) {n : Nat} (hn : 2 ≤ n) : ((langW k ps n).length : Int) = sumTo (statesW k ps).length fun j => cntW k ps n j :=
  key_count (fun w i => decide (lastW w = stW k ps i)) _ _ fun _ hw => st_at hk (last_state hk hn hw)
theorem last_pr (a b : UInt8) : lastW (pr a b) = pr a b := rfl
theorem nodup_one (q : ByteArray) : ∀ (l : List ByteArray), l.Nodup → q ∈ l → (l.filter fun w => decide (w = q)).length = 1
  | [], _, h => by cases h
  | x :: l, hn, h => by
    obtain ⟨h1, h2⟩ := List.nodup_cons.1 hn
    by_cases e : x = q
    · subst e
      rw [List.filter_cons_of_pos (by simp)]
      have : (l.filter fun w => decide (w = x)) = [] := List.filter_eq_nil_iff.2 fun w hw he => h1 ((of_decide_eq_true he) ▸ hw)
      rw [this]; rfl
    · rw [List.filter_cons_of_neg (by simp [e])]
      rcases List.mem_cons.1 h with he | he
      · exact absurd he.symm e
      · exact nodup_one q l h2 he
theorem cnt_two {k : Nat} (hk : k ≤ 3) {ps : List ByteArray} {j : Nat} (hj : j < (statesW k ps).length) : cntW k ps 2 j = 1 := by
  have e : ((langW k ps 2).filter fun w => decide (lastW w = stW k ps j)) = (statesW k ps).filter fun w => decide (w = stW k ps j) := List.filter_congr fun w hw => by
    obtain ⟨a, b, rfl, _⟩ := (mem_states hk).1 hw
    rw [last_pr]
  unfold cntW
  rw [e, nodup_one _ _ (states_nodup hk ps) (st_mem hj)]; rfl
theorem states_le {k : Nat} (hk : k ≤ 3) (ps : List ByteArray) : (statesW k ps).length ≤ 9 := Nat.le_trans (List.length_filter_le _ _) (by rw [allW_length]; exact two_le hk)
theorem graph_length (k : Nat) (ps : List ByteArray) : (graphW k ps).length = (statesW k ps).length := tabOf_length _ _ _
theorem graph_cell {k : Nat} {ps : List ByteArray} {i j : Nat} (hi : i < (statesW k ps).length) (hj : j < (statesW k ps).length) : cellOf (graphW k ps) i j = if goesW ps (stW k ps i) (stW k ps j) = true then 1 else 0 := by
  unfold graphW; rw [tabOf_cell hi hj]
theorem graph_isMat {k : Nat} (hk : k ≤ 3) {ps : List ByteArray} (hp : 0 < (statesW k ps).length) : isMat (graphW k ps) = true := by
  refine isMat_iff.2 ⟨by rw [graph_length]; exact ⟨hp, states_le hk ps⟩, fun i hi => ⟨?_, fun j hj => ?_⟩⟩
  · rw [graph_length] at hi ⊢
    unfold graphW; rw [tabOf_row hi]; simp
  · rw [graph_length] at hi hj
    rw [graph_cell hi hj]
    split <;> omega
/-- Every state of the graph has a state behind it and one ahead of it. -/
theorem graph_good {k : Nat} (hk : k ≤ 3) {ps : List ByteArray} : Good (graphW k ps) fun i => decide (i < (statesW k ps).length) := by
  intro i hi
  have hi := of_decide_eq_true hi
  obtain ⟨a, b, hq, hab⟩ := (mem_states hk).1 (st_mem hi)
  obtain ⟨_, _, ⟨c, _, hc, hbc⟩, d, _, hd, hda⟩ := Lively.closed _ _ a b hab
  obtain ⟨j, hj, hj2⟩ := st_at hk ((mem_states hk).2 ⟨b, c, rfl, hbc⟩)
  obtain ⟨l, hl, hl2⟩ := st_at hk ((mem_states hk).2 ⟨d, a, rfl, hda⟩)
  have e1 : pr b c = stW k ps j := of_decide_eq_true ((hj2 j hj).trans (decide_eq_true rfl))
  have e2 : pr d a = stW k ps l := of_decide_eq_true ((hl2 l hl).trans (decide_eq_true rfl))
  refine ⟨by rw [graph_length]; exact hi, ⟨j, decide_eq_true hj, ?_⟩, l, decide_eq_true hl, ?_⟩
  · rw [graph_cell hi hj, hq, ← e1, if_pos]
    · omega
    · unfold goesW
      rw [Bool.and_eq_true, decide_eq_true_iff]
      exact ⟨rfl, hc⟩
  · rw [graph_cell hl hi, hq, ← e2, if_pos]
    · omega
    · unfold goesW
      rw [Bool.and_eq_true, decide_eq_true_iff]
      exact ⟨rfl, hd⟩
theorem graph_lively {k : Nat} (hk : k ≤ 3) {ps : List ByteArray} (hp : 0 < (statesW k ps).length) : isLivelyM (graphW k ps) = true := by
  have hm := graph_isMat hk hp
  unfold isLivelyM
  rw [hm, Bool.true_and, decide_eq_true_iff]
  unfold livelyM
  rw [if_pos hm]
  unfold liveList
  rw [List.length_map, List.filter_eq_self.2 fun i hi => ?_, List.length_range]
  rw [graph_length] at hi
  exact good_in_liveK (graph_good hk) _ i (decide_eq_true (List.mem_range.1 hi))

/-! ### Powers -/
theorem lang_le {k : Nat} (hk : k ≤ 3) (ps : List ByteArray) (n : Nat) : (langW k ps n).length ≤ 3 ^ n := by
  refine Nat.le_trans (List.length_filter_le _ _) ?_
  rw [allW_length]
  exact Nat.pow_le_pow_left hk n
theorem cntW_le {k : Nat} (hk : k ≤ 3) (ps : List ByteArray) (n j : Nat) : 0 ≤ cntW k ps n j ∧ cntW k ps n j ≤ ((3 ^ n : Nat) : Int) := by
  unfold cntW
  have h1 := List.length_filter_le (fun w => decide (lastW w = stW k ps j)) (langW k ps n)
  have h2 := lang_le hk ps n
  omega
/-- The columns of the graph's powers count the words by their last two letters. -/
theorem graph_pow {k : Nat} (hk : k ≤ 3) {ps : List ByteArray} (hps : ∀ f ∈ ps, f.size ≤ 3) (hp : 0 < (statesW k ps).length) : ∀ t, t ≤ 6 → ∃ P, powM (graphW k ps) t = some P ∧ P.length = (statesW k ps).length ∧ isMat P = true ∧ ∀ j, j < (statesW k ps).length → (sumTo (statesW k ps).length fun i => cellOf P i j) = cntW k ps (2 + t) j
  | 0, _ => by
    refine ⟨oneM (graphW k ps).length, rfl, ?_, oneM_isMat (by rw [graph_length]; exact hp) (by rw [graph_length]; exact states_le hk ps), fun j hj => ?_⟩
    · unfold oneM; rw [tabOf_length, graph_length]
    · rw [cnt_two hk hj, graph_length]
      have e : (sumTo (statesW k ps).length fun i => cellOf (oneM (statesW k ps).length) i j) = sumTo (statesW k ps).length fun i => (if j = i then 1 else 0) * 1 := sumTo_congr _ fun i hi => by
        unfold oneM; rw [tabOf_cell hi hj]
        by_cases h : i = j
        · subst h; simp
        · rw [if_neg h, if_neg (Ne.symm h)]; rfl
      rw [e, sumTo_pick 1 (fun _ => 1) hj]; rfl
  | t + 1, ht => by
    obtain ⟨P, h1, h2, h3, h4⟩ := graph_pow hk hps hp t (by omega)
    have hG := graph_isMat hk hp
    have hGl := graph_length k ps
    have hlen : (mulM P (graphW k ps)).length = (statesW k ps).length := by unfold mulM; rw [tabOf_length, h2]
    have hcell : ∀ i j, i < (statesW k ps).length → j < (statesW k ps).length → cellOf (mulM P (graphW k ps)) i j = sumTo (statesW k ps).length fun l => cellOf P i l * cellOf (graphW k ps) l j := fun i j hi hj => by
      unfold mulM; rw [tabOf_cell (by rw [h2]; exact hi) (by rw [hGl]; exact hj), hGl]
    have hcol : ∀ j, j < (statesW k ps).length → (sumTo (statesW k ps).length fun i => cellOf (mulM P (graphW k ps)) i j) = cntW k ps (2 + (t + 1)) j := fun j hj => by
      rw [show 2 + (t + 1) = 2 + t + 1 by omega, cnt_next hk hps (by omega) hj]
      rw [sumTo_congr _ fun i hi => hcell i j hi hj, sumTo_swap (fun i l => cellOf P i l * cellOf (graphW k ps) l j)]
      refine sumTo_congr _ fun l hl => ?_
      rw [← h4 l hl]
      have := sumTo_mulc (cellOf (graphW k ps) l j) (fun i => cellOf P i l) (statesW k ps).length
      rw [Int.mul_comm (sumTo _ _), ← this]
      exact sumTo_congr _ fun i _ => Int.mul_comm _ _
    have hnn : ∀ i j, i < (statesW k ps).length → j < (statesW k ps).length → 0 ≤ cellOf (mulM P (graphW k ps)) i j := fun i j hi hj => by
      rw [hcell i j hi hj]
      refine sumTo_nonneg fun l hl => Int.mul_nonneg ?_ ?_
      · exact (((isMat_iff.1 h3).2 i (by rw [h2]; exact hi)).2 l (by rw [h2]; exact hl)).1
      · exact (((isMat_iff.1 hG).2 l (by rw [hGl]; exact hl)).2 j (by rw [hGl]; exact hj)).1
    have hM : isMat (mulM P (graphW k ps)) = true := by
      refine isMat_iff.2 ⟨by rw [hlen]; exact ⟨hp, states_le hk ps⟩, fun i hi => ⟨?_, fun j hj => ?_⟩⟩
      · rw [hlen] at hi ⊢
        unfold mulM; rw [tabOf_row (by rw [h2]; exact hi)]; simp [hGl]
      · rw [hlen] at hi hj
        refine ⟨hnn i j hi hj, ?_⟩
        have h5 := sumTo_term (f := fun i => cellOf (mulM P (graphW k ps)) i j) hi fun i' hi' => hnn i' j hi' hj
        rw [hcol j hj] at h5
        have h6 := (cntW_le hk ps (2 + (t + 1)) j).2
        have h7 : 3 ^ (2 + (t + 1)) ≤ 3 ^ 8 := Nat.pow_le_pow_right (by decide) (by omega)
        have h8 : (3 : Nat) ^ 8 = 6561 := by decide
        have h9 : cellOf (mulM P (graphW k ps)) i j ≤ cntW k ps (2 + (t + 1)) j := h5
        omega
    refine ⟨mulM P (graphW k ps), ?_, hlen, hM, hcol⟩
    rw [powM, h1]
    show prodM P (graphW k ps) = _
    unfold prodM
    rw [h3, hG, hM, decide_eq_true (show P.length = (graphW k ps).length by rw [h2, hGl])]
    rfl
/-- The paths of the graph count the words. -/
theorem graph_count {k : Nat} (hk : k ≤ 3) {ps : List ByteArray} (hps : ∀ f ∈ ps, f.size ≤ 3) (hp : 0 < (statesW k ps).length) {t : Nat} (ht : t ≤ 6) : countM (graphW k ps) (t : Int) = ((langW k ps (2 + t)).length : Int) := by
  obtain ⟨P, h1, h2, h3, h4⟩ := graph_pow hk hps hp t ht
  have hG := graph_isMat hk hp
  unfold countM powS
  rw [if_pos ⟨hG, by omega, by omega⟩, Int.toNat_natCast, h1]
  show sumM P = _
  unfold sumM
  rw [if_pos h3, h2, lang_sum hk ps (by omega), sumTo_swap (fun i j => cellOf P i j)]
  exact sumTo_congr _ fun j hj => h4 j hj
end Go.Proofs.YtalclebehbdliaaGreat
namespace Go.Proofs.YtalclebehbdliaaGreat
open Go Go.RowKit

/-- Not more than nine rows of n numbers, none below zero or above ten milliards. -/
structure Wide (a : List (List Int)) (n : Nat) : Prop where
  le : a.length ≤ 9
  row : ∀ i, i < a.length → (a.getD i []).length = n
  cell : ∀ i j, i < a.length → j < n → 0 ≤ cellOf a i j ∧ cellOf a i j ≤ 10000000000
theorem prodW_le {x y : Int} (hx : 0 ≤ x ∧ x ≤ 10000000000) (hy : 0 ≤ y ∧ y ≤ 1000000) : 0 ≤ x * y ∧ x * y ≤ 10000000000000000 := by
  refine ⟨Int.mul_nonneg hx.1 hy.1, ?_⟩
  calc x * y ≤ 10000000000 * y := Int.mul_le_mul_of_nonneg_right hx.2 hy.1
    _ ≤ 10000000000 * 1000000 := Int.mul_le_mul_of_nonneg_left hy.2 (by decide)
theorem termsW_le {a b : List (List Int)} (ha : Wide a b.length) (hb : MatFacts b) {i j t : Nat} (hi : i < a.length) (hj : j < b.length) (ht : t ≤ b.length) : 0 ≤ termsM a b i j t ∧ termsM a b i j t ≤ t * 10000000000000000 :=
  sumTo_le t fun k hk => prodW_le (ha.cell i k hi (by omega)) (hb.cell k j (by omega) hj)

set_option maxRecDepth 100000 in
set_option maxHeartbeats 3200000 in
theorem spec_times_wide (A1 A2 : Option Addr) (c1 c2 : Nat) (a b : List (List Int)) (ha : Wide a b.length) (hb : MatFacts b) (w : World) (h1 : GridS w A1 a) (h2 : GridS w A2 b) :
    Calls Tryz.prog 60 #[.slice A1 a.length c1, .slice A2 b.length c2, .int .i64 (b.length : Int)] w (NewG (mulM a b) w) := by
  have H1 := Lib.hid h1
  have H2 := Lib.hid h2
  have HA := Lib.hid ha
  have HBF := Lib.hid hb
  have HZ := Lib.hid (spec_zero a.length b.length (by have := ha.le; omega) (by have := hb.le; omega) w)
  have l1 := ha.le
  have l2 := hb.le
  clear h1 h2 ha hb
  go_enter Tryz.func60, Tryz.ntmps60
  go_wp2_with fail
  refine HZ.out.mono ?_
  rintro e w1 ⟨v, rfl, hown, b1⟩
  obtain ⟨A, c, rfl, -⟩ := hown.gridS
  rw [← timesF_zero a b] at hown
  rw [tabOf_length] at hown ⊢
  have HO := Lib.hid hown
  have HB1 := Lib.hid b1
  clear hown b1
  go_wp2
  go_loopw [8] (fun i wr => ∃ k : Nat, k ≤ a.length ∧ i = .int .i64 k ∧ OwnG wr w.heap.size (.slice A a.length c) (tabOf a.length b.length (timesF a b k 0 0)) ∧ Below w.heap.size w wr) (fun i _ => a.length - (intOf i).toNat)
  case atStart => exact ⟨0, Nat.zero_le _, rfl, HO.out, HB1.out⟩
  case round =>
    obtain ⟨i, hi, rfl, hown, hbl⟩ := hrel
    by_cases hil : i < a.length
    · have HO1 := Lib.hid hown
      have HB2 := Lib.hid hbl
      clear hown hbl
      go_wp2
      go_loopw [9] (fun jv w2 => ∃ j : Nat, j ≤ b.length ∧ jv = .int .i64 j ∧ OwnG w2 w.heap.size (.slice A a.length c) (tabOf a.length b.length (timesF a b i j 0)) ∧ Below w.heap.size w w2) (fun j _ => b.length - (intOf j).toNat)
      case atStart => exact ⟨0, Nat.zero_le _, rfl, HO1.out, HB2.out⟩
      case round =>
        obtain ⟨j, hj, rfl, hown, hbl⟩ := hrel
        by_cases hjl : j < b.length
        · have HO2 := Lib.hid hown
          have HB3 := Lib.hid hbl
          clear hown hbl
          go_wp2
          go_loopw [10] (fun tv w3 => ∃ t : Nat, t ≤ b.length ∧ tv = .int .i64 t ∧ OwnG w3 w.heap.size (.slice A a.length c) (tabOf a.length b.length (timesF a b i j t)) ∧ Below w.heap.size w w3) (fun t _ => b.length - (intOf t).toNat)
          case atStart => exact ⟨0, Nat.zero_le _, rfl, HO2.out, HB3.out⟩
          case round =>
            obtain ⟨t, ht, rfl, hown, hbl⟩ := hrel
            by_cases htl : t < b.length
            · have hrl : ((tabOf a.length b.length (timesF a b i j t)).getD i []).length = b.length := by rw [tabOf_row hil]; simp
              obtain ⟨g, cap, gi, ci, hv, k1, k2, kf, kb, kl, hset⟩ := hown.at (i := i) (j := j) (by rw [tabOf_length]; exact hil) (by rw [hrl]; exact hjl)
              rw [tabOf_length] at hv
              simp only [Value.slice.injEq, true_and] at hv
              obtain ⟨rfl, rfl⟩ := hv
              rw [hrl] at k1
              rw [timesF_cell a b _ _ i j t hil hjl] at k2
              obtain ⟨p1, p2, p3, p4, p5, rfl, ka1, ka2, _, _⟩ := (H1.out.below hbl).num hil (j := t) (by rw [HA.out.row i hil]; exact htl)
              obtain ⟨q1, q2, q3, q4, q5, rfl, kb1, kb2, _, _⟩ := (H2.out.below hbl).num htl (j := j) (by rw [HBF.out.row t htl]; exact hjl)
              rw [HA.out.row i hil] at ka1
              rw [HBF.out.row t htl] at kb1
              have hs1 := hset (termsM a b i j t + cellOf a i t * cellOf b t j)
              rw [timesF_term a b _ _ i j t hil] at hs1
              have HS := Lib.hid hs1
              have hT := termsW_le HA.out HBF.out hil hjl (Nat.le_of_lt htl)
              have hxy := prodW_le (HA.out.cell i t hil htl) (HBF.out.cell t j htl hjl)
              have HB4 := Lib.hid hbl
              clear hset hs1 hown hbl
              generalize termsM a b i j t = T at *
              generalize cellOf a i t = x at *
              generalize cellOf b t j = y at *
              have hT2 : T ≤ 90000000000000000 := by omega
              go_wp2
              go_region
              go_wp2
              go_roundw
              case rel => exact ⟨t + 1, by omega, by go_num, HS.out.drew, (HB4.out.setCell kb _).drew⟩
              case measure => simp [intOf]; omega
            · obtain rfl : t = b.length := by omega
              rw [timesF_next] at hown
              have HO3 := Lib.hid hown
              clear hown
              go_wp2
              go_roundw
              case rel => exact ⟨j + 1, by omega, by go_num, HO3.out, hbl⟩
              case measure => simp [intOf]; omega
        · obtain rfl : j = b.length := by omega
          rw [timesF_row] at hown
          have HO3 := Lib.hid hown
          clear hown
          go_wp2
          go_roundw
          case rel => exact ⟨i + 1, by omega, by go_num, HO3.out, hbl⟩
          case measure => simp [intOf]; omega
    · obtain rfl : i = a.length := by omega
      rw [timesF_all] at hown
      have HO3 := Lib.hid hown
      clear hown
      go_wp2
      go_ret
      exact ⟨_, rfl, HO3.out, hbl⟩
end Go.Proofs.YtalclebehbdliaaGreat
namespace Go.Proofs.YtalclebehbdliaaGreat
open Go Go.RowKit

theorem langOfS_is {L : Int} {ps : List ByteArray} (h : isShift L ps = true) {n : Int} (h0 : 0 ≤ n) (h6 : n ≤ 6) : langOfS L ps n = langW L.toNat ps n.toNat := by
  unfold langOfS langW
  rw [if_pos ⟨h, h0, h6⟩]
theorem shift_sizes {L : Int} {ps : List ByteArray} (h : isShift L ps = true) : 1 ≤ L.toNat ∧ L.toNat ≤ 3 ∧ ((L.toNat : Nat) : Int) = L ∧ ∀ f ∈ ps, f.size ≤ 3 := by
  obtain ⟨l1, l3, _⟩ := isShift_letters h
  exact ⟨by omega, by omega, by omega, fun f hf => (shift_words h f hf).2.2⟩
theorem goes_same {a b c d : UInt8} (ps : List ByteArray) : goesQ ps (pr a b) (pr c d) = goesW ps (pr a b) (pr c d) := by
  unfold goesQ goesW
  rw [pr_tail]
  rfl
theorem graph_same {k : Nat} (hk : k ≤ 3) (ps : List ByteArray) : tabQ ps (statesW k ps) = graphW k ps := by
  unfold tabQ graphW
  refine tabOf_congr fun i j hi hj => ?_
  obtain ⟨a, b, h1, _⟩ := (mem_states hk).1 (st_mem hi)
  obtain ⟨c, d, h2, _⟩ := (mem_states hk).1 (st_mem hj)
  unfold arcQ
  have e1 : (statesW k ps).getD i ByteArray.empty = stW k ps i := rfl
  have e2 : (statesW k ps).getD j ByteArray.empty = stW k ps j := rfl
  rw [e1, e2, h1, h2, goes_same]
theorem graphS_is {L : Int} {ps : List ByteArray} (h : isShift L ps = true) : graphS L ps = if (statesW L.toNat ps).length = 0 then none else some (graphW L.toNat ps) := by
  obtain ⟨_, h3, _, _⟩ := shift_sizes h
  have e : langOfS L ps 2 = statesW L.toNat ps := langOfS_is h (by decide) (by decide)
  unfold graphS
  rw [e, graph_same h3]
theorem graphS_not {L : Int} {ps : List ByteArray} (h : isShift L ps = false) : graphS L ps = none := by
  have e : langOfS L ps 2 = [] := by unfold langOfS; rw [if_neg (fun hc => by rw [h] at hc; exact absurd hc.1 (by decide))]
  unfold graphS
  rw [e]
  rfl
theorem no_states {k : Nat} (hk : k ≤ 3) {ps : List ByteArray} (h : (statesW k ps).length = 0) : pairsW k ps = [] := by
  cases hp : pairsW k ps with
  | nil => rfl
  | cons x l =>
    have hx : x ∈ pairsW k ps := by rw [hp]; simp
    obtain ⟨a, b, rfl, _, _⟩ := mem_pairsW' hk hx
    have := (mem_states hk).2 ⟨a, b, rfl, (mem_pairsW hk a b).1 hx⟩
    rw [List.length_eq_zero_iff.1 h] at this
    cases this
theorem no_words {k : Nat} (hk : k ≤ 3) {ps : List ByteArray} (h : (statesW k ps).length = 0) (n : Nat) : langW k ps n = [] := by
  unfold langW
  rw [no_states hk h, List.filter_eq_nil_iff]
  intro w _
  unfold inM
  simp
def countS (L n : Int) (ps : List ByteArray) : Int := if isShift L ps = true ∧ 0 ≤ n ∧ n ≤ 20 then ((langW L.toNat ps n.toNat).length : Int) else -1
def rowW (k : Nat) (ps : List ByteArray) (t : Nat) : List Int := (List.range (statesW k ps).length).map (cntW k ps t)
theorem rowW_len (k : Nat) (ps : List ByteArray) (t : Nat) : (rowW k ps t).length = (statesW k ps).length := by simp [rowW]
theorem rowW_at {k : Nat} {ps : List ByteArray} {t j : Nat} (hj : j < (statesW k ps).length) : (rowW k ps t).getD j 0 = cntW k ps t j := by simp [rowW, List.getD, hj]
theorem three_pow {t : Nat} (ht : t ≤ 20) : ((3 ^ t : Nat) : Int) ≤ 3486784401 := by
  have h1 : 3 ^ t ≤ 3 ^ 20 := Nat.pow_le_pow_right (by decide) ht
  have h2 : 3 ^ 20 = 3486784401 := by decide
  omega
theorem row_wide {k : Nat} (hk : k ≤ 3) (ps : List ByteArray) {t : Nat} (ht : t ≤ 20) : Wide [rowW k ps t] (statesW k ps).length := by
  refine ⟨by simp, fun i hi => ?_, fun i j hi hj => ?_⟩
  · obtain rfl : i = 0 := by simpa using hi
    exact rowW_len k ps t
  · obtain rfl : i = 0 := by simpa using hi
    have e : cellOf [rowW k ps t] 0 j = cntW k ps t j := rowW_at hj
    rw [e]
    have h1 := cntW_le hk ps t j
    have h2 := three_pow ht
    omega
theorem row_first {k : Nat} (hk : k ≤ 3) (ps : List ByteArray) : rowW k ps 2 = List.replicate (statesW k ps).length 1 := by
  refine List.ext_getElem (by simp [rowW]) fun j h1 h2 => ?_
  have hj : j < (statesW k ps).length := by simpa using h2
  simp only [rowW, List.getElem_map, List.getElem_range, List.getElem_replicate]
  exact cnt_two hk hj
theorem row_next {k : Nat} (hk : k ≤ 3) {ps : List ByteArray} (hps : ∀ f ∈ ps, f.size ≤ 3) {t : Nat} (ht : 2 ≤ t) : mulM [rowW k ps t] (graphW k ps) = [rowW k ps (t + 1)] := by
  unfold mulM
  rw [graph_length]
  have e : ∀ f : Nat → Nat → Int, tabOf [rowW k ps t].length (statesW k ps).length f = [(List.range (statesW k ps).length).map (f 0)] := fun f => by
    have := tabOf_next 0 (statesW k ps).length f
    rw [show [rowW k ps t].length = 0 + 1 from rfl, this]
    rfl
  rw [e]
  congr 1
  unfold rowW
  refine List.map_congr_left fun j hj => ?_
  have hj' := List.mem_range.1 hj
  rw [cnt_next hk hps ht hj']
  refine sumTo_congr _ fun i hi => ?_
  congr 1
  exact rowW_at hi
theorem row_sum {k : Nat} (hk : k ≤ 3) (ps : List ByteArray) {n : Nat} (hn : 2 ≤ n) : (sumTo (statesW k ps).length fun j => (rowW k ps n).getD j 0) = ((langW k ps n).length : Int) := by
  rw [lang_sum hk ps hn]
  exact sumTo_congr _ fun j hj => rowW_at hj
end Go.Proofs.YtalclebehbdliaaGreat
namespace Go.Proofs.YtalclebehbdliaaGreat
open Go Go.RowKit

/-- The cells of the square of the numbers f i j. -/
def sqL (f : Nat → Nat → Int) : List Value := (List.range 81).map fun k => Value.int .i64 (f (k / 9) (k % 9))
def sqA (f : Nat → Nat → Int) : Array Value := (sqL f).toArray
theorem sqL_length (f : Nat → Nat → Int) : (sqL f).length = 81 := by simp [sqL]
theorem sqA_size (f : Nat → Nat → Int) : (sqA f).size = 81 := by simp [sqA, sqL]
theorem sqA_congr {f g : Nat → Nat → Int} (h : ∀ i j, i < 9 → j < 9 → f i j = g i j) : sqA f = sqA g := by
  unfold sqA sqL
  congr 1
  refine List.map_congr_left fun k hk => ?_
  have hk' := List.mem_range.1 hk
  rw [h (k / 9) (k % 9) (by omega) (by omega)]
theorem sqL_at (f : Nat → Nat → Int) {i j : Nat} (hi : i < 9) (hj : j < 9) : (sqL f)[i * 9 + j]? = some (.int .i64 (f i j)) := by
  unfold sqL
  rw [List.getElem?_map, List.getElem?_range (by omega)]
  simp only [Option.map_some]
  rw [show (i * 9 + j) / 9 = i by omega, show (i * 9 + j) % 9 = j by omega]
theorem sqA_at (f : Nat → Nat → Int) {i j : Nat} (hi : i < 9) (hj : j < 9) : (sqA f)[i * 9 + j]? = some (.int .i64 (f i j)) := by
  unfold sqA
  rw [List.getElem?_toArray]
  exact sqL_at f hi hj
/-- Another number at i and j. -/
def putF (f : Nat → Nat → Int) (i j : Nat) (x : Int) : Nat → Nat → Int := fun a b => if a = i ∧ b = j then x else f a b
theorem sqA_set (f : Nat → Nat → Int) {i j : Nat} (_hi : i < 9) (hj : j < 9) (x : Int) : (sqA f).setIfInBounds (i * 9 + j) (.int .i64 x) = sqA (putF f i j x) := by
  unfold sqA
  rw [List.setIfInBounds_toArray]
  congr 1
  refine List.ext_getElem (by simp [sqL]) fun k h1 h2 => ?_
  rw [sqL_length] at h2
  rw [List.getElem_set]
  simp only [sqL, List.getElem_map, List.getElem_range, putF]
  by_cases e : i * 9 + j = k
  · subst e
    rw [if_pos rfl, if_pos ⟨by omega, by omega⟩]
  · rw [if_neg e, if_neg (by omega)]
theorem sqA_one (f : Nat → Nat → Int) : (sqA f).all (·.oneCell') = true := by
  rw [Array.all_eq_true_iff_forall_mem]
  intro v hv
  unfold sqA sqL at hv
  rw [List.mem_toArray, List.mem_map] at hv
  obtain ⟨k, _, rfl⟩ := hv
  rfl
/-- Block g holds the square of f. -/
def SqAt (w : World) (g : Nat) (f : Nat → Nat → Int) : Prop := w.heap[g]? = some (.cells (sqA f) 62 (0, 0))
theorem SqAt.lt {w : World} {g : Nat} {f : Nat → Nat → Int} (h : SqAt w g f) : g < w.heap.size := (Array.getElem?_eq_some_iff.1 h).1
theorem SqAt.cell {w : World} {g : Nat} {f : Nat → Nat → Int} (h : SqAt w g f) {i j : Nat} (hi : i < 9) (hj : j < 9) : w.cell? ⟨g, i * 9 + j, none⟩ = some (.int .i64 (f i j)) := by
  rw [cell_of_row w g _ _ _ _ h, sqA_at f hi hj]
theorem SqAt.frozen {w : World} {g : Nat} {f : Nat → Nat → Int} (h : SqAt w g f) (k : Nat) : w.frozen? ⟨g, k, none⟩ = false := frozen_of_row w g k _ _ h
theorem SqAt.put {w : World} {g : Nat} {f : Nat → Nat → Int} (h : SqAt w g f) {i j : Nat} (hi : i < 9) (hj : j < 9) (x : Int) : SqAt (w.setCell ⟨g, i * 9 + j, none⟩ (.int .i64 x)) g (putF f i j x) := by
  unfold SqAt
  rw [heap_setCell_same w g (i * 9 + j) _ _ _ h, sqA_set f hi hj]
theorem SqAt.set_other {w : World} {g : Nat} {f : Nat → Nat → Int} (h : SqAt w g f) {a : Addr} {v : Value} (hne : g ≠ a.block) : SqAt (w.setCell a v) g f := by
  unfold SqAt
  rw [heap_setCell_other w a g v hne]
  exact h
theorem SqAt.row_other {w : World} {g q : Nat} {f : Nat → Nat → Int} {cs : Array Value} (h : SqAt w g f) (hne : g ≠ q) : SqAt (w.setRow q cs) g f := by
  unfold SqAt
  rw [setRow_other w q g cs hne]
  exact h
theorem SqAt.alloc {w : World} {g : Nat} {f : Nat → Nat → Int} (h : SqAt w g f) (o : Obj) : SqAt (w.alloc o) g f := by
  unfold SqAt
  rw [heap_alloc_old w o h.lt]
  exact h
theorem SqAt.new (w : World) (f : Nat → Nat → Int) : SqAt (w.alloc (.cells (sqA f) 62)) w.heap.size f := heap_alloc_new w _
theorem SqAt.below {w w' : World} {g : Nat} {f : Nat → Nat → Int} (h : SqAt w g f) (hb : Below w.heap.size w w') : SqAt w' g f := by
  unfold SqAt
  rw [hb.block g h.lt]
  exact h
theorem SqAt.congr {w : World} {g : Nat} {f f' : Nat → Nat → Int} (h : SqAt w g f) (e : ∀ i j, i < 9 → j < 9 → f i j = f' i j) : SqAt w g f' := by
  unfold SqAt
  rw [← sqA_congr e]
  exact h
theorem below_row {B : Nat} {w w' : World} (h : Below B w w') {g : Nat} (hg : B ≤ g) (cs : Array Value) : Below B w (w'.setRow g cs) :=
  ⟨h.os, h.tape, h.output, by rw [setRow_size]; exact h.size, fun k hk => (setRow_other w' g k cs (by omega)).trans (h.block k hk)⟩
theorem SqAt.load {w : World} {g : Nat} {f : Nat → Nat → Int} (h : SqAt w g f) : (loadCellsFrom ⟨g, 0, none⟩ 0 81 #[]).run Tryz.prog w = .ok (sqA f) w := by
  have := run_loadCells_list (P := Tryz.prog) w ⟨g, 0, none⟩ (sqA f).toList (fun j v hv => by
    have hadd : (⟨g, 0, none⟩ : Addr).add j = ⟨g, j, none⟩ := by unfold Addr.add; split <;> simp_all
    rw [hadd, cell_of_row _ _ j _ _ _ h]
    simpa using hv)
  have hs := sqA_size f
  simpa [loadCells, hs] using this
theorem SqAt.store {w : World} {g : Nat} {f f' : Nat → Nat → Int} (h : SqAt w g f) : (storeCells ⟨g, 0, none⟩ (sqA f').toList 0).run Tryz.prog w = .ok () (w.setRow g (sqA f')) :=
  run_storeCells_from (P := Tryz.prog) g _ (sqA f').toList 0 _ w h (by rw [Array.length_toList, sqA_size, sqA_size]) (fun v hv => (Array.all_eq_true_iff_forall_mem.1 (sqA_one f')) v (by simpa using hv))
theorem SqAt.stored {w : World} {g : Nat} {f f' : Nat → Nat → Int} (h : SqAt w g f) : SqAt (w.setRow g (sqA f')) g f' := setRow_heap w g _ _ _ _ h

/-- A row is copied in. -/
theorem spliced (a n : Nat) (hn : a + n ≤ 81) (F G : Nat → Value) : ((List.range 81).map F).take a ++ (List.range n).map G ++ ((List.range 81).map F).drop (a + n) = (List.range 81).map fun t => if a ≤ t ∧ t < a + n then G (t - a) else F t := by
  refine List.ext_getElem (by simp; omega) fun t h1 h2 => ?_
  have ht : t < 81 := by simpa using h2
  rw [List.getElem_map, List.getElem_range]
  by_cases c1 : t < a
  · rw [List.getElem_append_left (by simp; omega), List.getElem_append_left (by simp; omega), if_neg (by omega)]
    simp
  · by_cases c2 : t < a + n
    · rw [List.getElem_append_left (by simp; omega), List.getElem_append_right (by simp; omega), if_pos ⟨by omega, c2⟩]
      simp
      congr 1
      omega
    · rw [List.getElem_append_right (by simp; omega), if_neg (by omega)]
      simp
      congr 1
      omega
theorem ints_range (r : List Int) : r.map (Value.int .i64) = (List.range r.length).map fun j => Value.int .i64 (r.getD j 0) := by
  refine List.ext_getElem (by simp) fun j h1 h2 => ?_
  have hj : j < r.length := by simpa using h1
  simp [List.getD, hj]
def rowsK (m : List (List Int)) (k : Nat) : Nat → Nat → Int := fun a b => if a < k then cellOf m a b else 0
theorem rowsK_next (m : List (List Int)) (k : Nat) (hk : k < 9) (hl : (m.getD k []).length ≤ 9) :
    ((sqA (rowsK m k)).toList.take (k * 9) ++ (m.getD k []).map (Value.int .i64) ++ (sqA (rowsK m k)).toList.drop (k * 9 + ((m.getD k []).map (Value.int .i64)).length)).toArray = sqA (rowsK m (k + 1)) := by
  unfold sqA sqL
  congr 1
  rw [ints_range (m.getD k []), List.length_map, List.length_range]
  refine Eq.trans (spliced (k * 9) (m.getD k []).length (by omega) (fun t => .int .i64 (rowsK m k (t / 9) (t % 9))) fun j => .int .i64 ((m.getD k []).getD j 0)) ?_
  refine List.map_congr_left fun t ht => ?_
  have ht' := List.mem_range.1 ht
  by_cases c : k * 9 ≤ t ∧ t < k * 9 + (m.getD k []).length
  · rw [if_pos c]
    have h1 : t / 9 = k := by omega
    have h2 : t % 9 = t - k * 9 := by omega
    unfold rowsK
    rw [h1, h2, if_pos (by omega)]
    rfl
  · rw [if_neg c]
    unfold rowsK
    by_cases c1 : t / 9 < k
    · rw [if_pos c1, if_pos (by omega)]
    · rw [if_neg c1]
      by_cases c2 : t / 9 < k + 1
      · rw [if_pos c2]
        have h1 : t / 9 = k := by omega
        unfold cellOf
        rw [h1, List.getD_eq_getElem?_getD, List.getElem?_eq_none (by omega)]
        rfl
      · rw [if_neg c2]
theorem rowsK_all {m : List (List Int)} (i j : Nat) : rowsK m m.length i j = cellOf m i j := by
  unfold rowsK
  by_cases h : i < m.length
  · rw [if_pos h]
  · rw [if_neg h]
    unfold cellOf
    have e : m.getD i [] = [] := by
      rw [List.getD_eq_getElem?_getD, List.getElem?_eq_none (by omega)]
      rfl
    rw [e]
    rfl

theorem sq_info : (Tryz.prog.info? 62).map (·.size) = some 81 := by kernel_rfl
theorem sq_load {o : Oper} {a : Act} {w : World} {K : Act → World → Prop} {Q : Exit → Act → World → Prop} {g : Nat} {f : Nat → Nat → Int} (hs : SqAt w g f) (x : Operand) (ho : o.op = .load 62 x) (hx : a.eval x = .pointer (some ⟨g, 0, none⟩))
    (h : K (a.put o.dst (.agg (sqA f))) w) : o.wp Tryz.prog a w K Q :=
  wp_load_row _ x ho g hx _ _ _ _ hs Tryz.underlying62 rfl (by rw [sqA_size]; exact sq_info) h
theorem sq_store {o : Oper} {a : Act} {w : World} {K : Act → World → Prop} {Q : Exit → Act → World → Prop} {g : Nat} {f f' : Nat → Nat → Int} (hs : SqAt w g f) (x y : Operand) (ho : o.op = .store 62 x y) (hx : a.eval x = .pointer (some ⟨g, 0, none⟩)) (hy : a.eval y = .agg (sqA f'))
    (h : K (a.put o.dst undef) (w.setRow g (sqA f'))) : o.wp Tryz.prog a w K Q :=
  wp_store_row _ x y ho g (sqA f') hx hy _ _ hs (by rw [sqA_size]; exact sq_info) (by rw [sqA_size, sqA_size]) (sqA_one f') h
theorem sq_results {fn : Func} {p : Tmp} (h : fn.results = #[.cell p 62]) (tmps : Array Value) (w : World) (g : Nat) (f : Nat → Nat → Int) (hp : tmps.getD p undef = .pointer (some ⟨g, 0, none⟩)) (hs : SqAt w g f) :
    (results fn tmps).run Tryz.prog w = .ok (.agg (sqA f)) w :=
  results_cell_row h tmps w g _ _ _ _ hp hs Tryz.underlying62 rfl (by rw [sqA_size]; exact sq_info)
theorem sq_zero : ∃ Z : Array Value, (∀ w, (zeroValue 62).run Tryz.prog w = .ok (.agg Z) w) ∧ Hid (Z = sqA fun _ _ => 0) := by
  refine ⟨sqA fun _ _ => 0, (zero_of_info (n := 81) ?_).1, Lib.hid rfl⟩
  kernel_rfl

/-! ### The rows of a square, by value; two squares -/

def rowA (f : Nat → Nat → Int) (i : Nat) : Array Value := ((List.range 9).map fun j => Value.int .i64 (f i j)).toArray
theorem rowA_size (f : Nat → Nat → Int) (i : Nat) : (rowA f i).size = 9 := by simp [rowA]
theorem rowA_at (f : Nat → Nat → Int) (i : Nat) {j : Nat} (hj : j < 9) : (rowA f i)[j]? = some (.int .i64 (f i j)) := by
  unfold rowA
  rw [List.getElem?_toArray, List.getElem?_map, List.getElem?_range hj]
  rfl
theorem rowA_one (f : Nat → Nat → Int) (i : Nat) : (rowA f i).all (·.oneCell') = true := by
  rw [Array.all_eq_true_iff_forall_mem]
  intro v hv
  unfold rowA at hv
  rw [List.mem_toArray, List.mem_map] at hv
  obtain ⟨k, _, rfl⟩ := hv
  rfl
theorem sqA_extract (f : Nat → Nat → Int) {i : Nat} (hi : i < 9) : (sqA f).extract (i * 9) (i * 9 + 9) = rowA f i := by
  refine Array.ext (by rw [Array.size_extract, sqA_size, rowA_size]; omega) fun j h1 h2 => ?_
  rw [rowA_size] at h2
  have e1 := sqA_at f hi h2
  have e2 := rowA_at f i h2
  rw [Array.getElem_extract]
  rw [Array.getElem?_eq_getElem (by rw [sqA_size]; omega)] at e1
  rw [Array.getElem?_eq_getElem (by rw [rowA_size]; omega)] at e2
  exact (Option.some.inj e1).trans (Option.some.inj e2).symm
theorem part_row (f : Nat → Nat → Int) {i : Nat} (hi : i < 9) (w : World) : (part 60 (sqA f) (i * 9)).run Tryz.prog w = .ok (.agg (rowA f i)) w := by
  simp [part, Tryz.isAgg60, Tryz.sizeOf60, Result.andThen, sqA_extract f hi]
theorem part_num (f : Nat → Nat → Int) (i : Nat) {j : Nat} (hj : j < 9) (w : World) : (part 3 (rowA f i) (j * 1)).run Tryz.prog w = .ok (.int .i64 (f i j)) w := by
  simp [part, Tryz.isAgg3, Result.andThen, rowA_at f i hj]
theorem index_row (f : Nat → Nat → Int) {i : Nat} (hi : i < 9) (w : World) : (Instr.index 62 (.agg (sqA f)) (.int .i64 (i : Int))).run Tryz.prog w = .ok (.agg (rowA f i)) w := by
  have h1 : (0 : Int) ≤ (i : Int) ∧ (i : Int) < ((9 : Nat) : Int) := by omega
  simp [Instr.index, asIntOf, run_underlying Tryz.underlying62, Result.andThen, Tryz.sizeOf60, h1, part_row f hi, hi]
theorem index_num (f : Nat → Nat → Int) (i : Nat) {j : Nat} (hj : j < 9) (w : World) : (Instr.index 60 (.agg (rowA f i)) (.int .i64 (j : Int))).run Tryz.prog w = .ok (.int .i64 (f i j)) w := by
  have h1 : (0 : Int) ≤ (j : Int) ∧ (j : Int) < ((9 : Nat) : Int) := by omega
  have h2 := part_num f i hj w
  rw [Nat.mul_one] at h2
  simp [Instr.index, asIntOf, run_underlying Tryz.underlying60, Result.andThen, Tryz.sizeOf3, h1, h2, hj]
/-- Two rows | squares have the same numbers. -/
def rowEq (f g : Nat → Nat → Int) (i : Nat) (is : List Nat) : Bool := is.all fun j => f i j == g i j
def sqEq (f g : Nat → Nat → Int) (is : List Nat) : Bool := is.all fun i => rowEq f g i (List.range 9)
theorem run_eq_row (d : Nat) (f g : Nat → Nat → Int) (i : Nat) (w : World) : ∀ (is : List Nat), (∀ j ∈ is, j < 9) → (Op.eqItems (d + 1) 3 1 (rowA f i) (rowA g i) is).run Tryz.prog w = .ok (rowEq f g i is) w
  | [], _ => by simp [Op.eqItems, rowEq]
  | j :: is, h => by
    have hj := h j (by simp)
    have ih := run_eq_row d f g i w is fun k hk => h k (by simp [hk])
    have he : (Op.equalIn (d + 1) 3 (.int .i64 (f i j)) (.int .i64 (g i j))).run Tryz.prog w = .ok (f i j == g i j) w := run_equalIn_int w d _ _ _ _ _ Tryz.underlying3
    simp only [Op.eqItems, Sem.run_bind, part_num f i hj, part_num g i hj, Result.andThen_ok, he]
    unfold rowEq at ih ⊢
    rw [List.all_cons]
    cases f i j == g i j with
    | false => simp
    | true => simp [ih]
theorem cells_int : Tryz.prog.cellsOf 3 = 1 := by kernel_rfl
theorem cells_row : Tryz.prog.cellsOf 60 = 9 := by kernel_rfl
theorem run_eq_rows (d : Nat) (f g : Nat → Nat → Int) (w : World) : ∀ (is : List Nat), (∀ i ∈ is, i < 9) → (Op.eqItems (d + 2) 60 9 (sqA f) (sqA g) is).run Tryz.prog w = .ok (sqEq f g is) w
  | [], _ => by simp [Op.eqItems, sqEq]
  | i :: is, h => by
    have hi := h i (by simp)
    have ih := run_eq_rows d f g w is fun k hk => h k (by simp [hk])
    obtain ⟨i0, hi0, _⟩ := info_parts infoInt
    have he : (Op.equalIn (d + 2) 60 (.agg (rowA f i)) (.agg (rowA g i))).run Tryz.prog w = .ok (rowEq f g i (List.range 9)) w := by
      rw [run_equalIn_array w (d + 1) (rowA f i) (rowA g i) Tryz.underlying60 hi0, cells_int]
      exact run_eq_row d f g i w _ fun j hj => List.mem_range.1 hj
    simp only [Op.eqItems, Sem.run_bind, part_row f hi, part_row g hi, Result.andThen_ok, he]
    unfold sqEq at ih ⊢
    rw [List.all_cons]
    cases rowEq f g i (List.range 9) with
    | false => simp
    | true => simp [ih]
theorem run_eq_sq (f g : Nat → Nat → Int) (w : World) : (Op.equalIn 10000 62 (.agg (sqA f)) (.agg (sqA g))).run Tryz.prog w = .ok (sqEq f g (List.range 9)) w := by
  obtain ⟨i0, hi0, _⟩ : ∃ i, Tryz.prog.info? 60 = some i ∧ True := by
    have h : (Tryz.prog.info? 60).isSome = true := by kernel_rfl
    obtain ⟨i, hi⟩ := Option.isSome_iff_exists.1 h
    exact ⟨i, hi, trivial⟩
  rw [show (10000 : Nat) = 9999 + 1 from rfl, run_equalIn_array w 9999 (sqA f) (sqA g) Tryz.underlying62 hi0, cells_row]
  exact run_eq_rows 9997 f g w _ fun j hj => List.mem_range.1 hj
end Go.Proofs.YtalclebehbdliaaGreat
