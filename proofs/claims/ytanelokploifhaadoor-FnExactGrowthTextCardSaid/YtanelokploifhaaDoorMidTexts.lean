/-
  Merged: PLAIN FACTS ON GROWTH (no program in this text): a table with no positive number off its diagonal has positive leading minors exactly if it turns a positive vector into a positive one; what follows for the growth of small matrices.
  PLAIN FACTS ON GROWTH, second part (no program in this text): the growth of a table lies below a fraction exactly if a positive vector shows it; how this hangs on the fraction, the numbers, the sums of rows, turning and squares.
  PLAIN FACTS ON WALKS (no program in this text): walks of a relation on the numbers below N; repeated places; closed walks and what divides their lengths; where all pairs are joined by walks of one length.
  PLAIN FACTS ON WALKS, continued (no program in this text): where all pairs are joined and the closed walks have no common divisor, all pairs are joined by walks of one length, which is bounded.
  PLAIN FACTS ON COMPONENTS AND PERIODS (no program in this text): which vertices are reached, by the vertices passed; walks of n arcs; the components, the period, the primitive step and the turns of a matrix.
  PLAIN FACTS ON GROWTH, third part (no program in this text): where each vertex that reaches itself has one arc only that leads to where one comes back from, the growth is at most 1; else it is well above.
  PLAIN FACTS on polynomials, as the law's last questions ask them (no program in this text): heads and ends of a small matrix's polynomials, its determinant and trace; values of short lists.
  PLAIN FACTS ON GRAPHS (no program in this text): the arcs of a matrix, paths of arcs, the vertices through which endless paths go, and the matrix of some vertices only.
  The model's IsGraph, ArcsOf and CountPaths: what the plain words say, tables in new memory; nothing that was there before is changed.
  What the laws on lists of integers share: the helpers' contracts at whatever slice holds a list; a result that is marked, and what stays as it was.
  The model's LivelyOf: the vertices through which endless paths go, in new memory; nothing that was there before is changed.
  The model's LivelyOf, TrimGraph and IsLively: what the plain words say, in new memory; nothing that was there before is changed.
  PLAIN FACTS that the program's polynomials stand on (no program in this text): signs as powers, choices of rows and their sums of minors, tables without a column, products and values as sums.
  PLAIN FACTS ON GROWTH, fourth part (no program in this text): what the chapter's functions answer, in plain words: by leading minors, by halving, by components; and what the law asks of these answers.
  PLAIN FACTS (no program in this text): a square table that is filled row by row.
  PLAIN FACTS (no program in this text): a square table that is filled row by row; its leading parts and their determinants.
-/
import Derived.Test.YtanelokploifhaaDoorBaseTexts
import Derived.Lib.Hide
import Derived.StillTailTactics
namespace Go.Proofs.YtanelokploifhaaDoor
open Go Go.RowKit

/-! ### Sums -/

theorem sumTo_left (f : Nat → Int) : ∀ n : Nat, sumTo (n + 1) f = f 0 + sumTo n fun k => f (k + 1)
  | 0 => by simp [sumTo]
  | n + 1 => by rw [sumTo, sumTo_left f n, sumTo]; omega
theorem sumTo_mulc (c : Int) (f : Nat → Int) : ∀ n : Nat, (sumTo n fun k => c * f k) = c * sumTo n f
  | 0 => by simp [sumTo]
  | n + 1 => by rw [sumTo, sumTo_mulc c f n, sumTo, Int.mul_add]
theorem sumTo_addf (f g : Nat → Int) : ∀ n : Nat, (sumTo n fun k => f k + g k) = sumTo n f + sumTo n g
  | 0 => rfl
  | n + 1 => by rw [sumTo, sumTo_addf f g n, sumTo, sumTo]; omega
theorem sumTo_mono2 {f g : Nat → Int} : ∀ {n : Nat}, (∀ k, k < n → f k ≤ g k) → sumTo n f ≤ sumTo n g
  | 0, _ => Int.le_refl _
  | n + 1, h => by
    have h1 := sumTo_mono2 (n := n) fun k hk => h k (by omega)
    have h2 := h n (by omega)
    rw [sumTo, sumTo]; omega
theorem sumTo_nonneg {f : Nat → Int} {n : Nat} (h : ∀ k, k < n → 0 ≤ f k) : 0 ≤ sumTo n f := by
  have h1 := sumTo_mono2 (f := fun _ => 0) h
  have h2 : (sumTo n fun _ => (0 : Int)) = 0 := by
    clear h h1
    induction n with
    | zero => rfl
    | succ n ih => rw [sumTo, ih]; rfl
  omega
theorem sumTo_nonpos {f : Nat → Int} {n : Nat} (h : ∀ k, k < n → f k ≤ 0) : sumTo n f ≤ 0 := by
  have h1 := sumTo_nonneg (f := fun k => -1 * f k) (n := n) fun k hk => by have := h k hk; omega
  rw [sumTo_mulc] at h1
  omega
theorem sumTo_term {f : Nat → Int} {n k : Nat} (hk : k < n) (h : ∀ j, j < n → 0 ≤ f j) : f k ≤ sumTo n f := by
  induction n with
  | zero => omega
  | succ n ih =>
    rw [sumTo]
    by_cases e : k = n
    · subst e
      have := sumTo_nonneg (f := f) (n := k) fun j hj => h j (by omega)
      omega
    · have := ih (by omega) fun j hj => h j (by omega)
      have := h n (by omega)
      omega
theorem sumTo_pick (c : Int) (x : Nat → Int) {n i : Nat} (hi : i < n) : (sumTo n fun j => (if i = j then c else 0) * x j) = c * x i := by
  induction n with
  | zero => omega
  | succ n ih =>
    rw [sumTo]
    by_cases e : i = n
    · subst e
      rw [if_pos rfl]
      have h0 : (sumTo i fun j => (if i = j then c else 0) * x j) = sumTo i fun _ => 0 := sumTo_congr _ fun j hj => by rw [if_neg (by omega), Int.zero_mul]
      have h1 : (sumTo i fun _ => (0 : Int)) = 0 := by
        have h2 := sumTo_nonneg (f := fun _ => (0 : Int)) (n := i) fun _ _ => Int.le_refl _
        have h3 := sumTo_nonpos (f := fun _ => (0 : Int)) (n := i) fun _ _ => Int.le_refl _
        omega
      rw [h0, h1, Int.zero_add]
    · rw [ih (by omega), if_neg e, Int.zero_mul, Int.add_zero]

/-! ### Leading minors -/

def chio (a : Nat → Nat → Int) : Nat → Nat → Int := fun i j => a 0 0 * a (i + 1) (j + 1) - a (i + 1) 0 * a 0 (j + 1)
theorem chio_one (a : Nat → Nat → Int) : detF 1 (chio a) = detF 2 a := by
  simp [detF, sumTo, sgn, lessF, chio]
  grind
theorem chio_two (a : Nat → Nat → Int) : detF 2 (chio a) = a 0 0 * detF 3 a := by
  simp [detF, sumTo, sgn, lessF, chio]
  grind
theorem chio_three (a : Nat → Nat → Int) : detF 3 (chio a) = a 0 0 * (a 0 0 * detF 4 a) := by
  simp [detF, sumTo, sgn, lessF, chio]
  grind
/-- All leading minors are positive, by elimination. -/
def posE : Nat → (Nat → Nat → Int) → Prop
  | 0, _ => True
  | n + 1, a => 0 < a 0 0 ∧ posE n (chio a)
theorem pos_mul_iff {c x : Int} (hc : 0 < c) : 0 < c * x ↔ 0 < x :=
  ⟨fun h => Int.pos_of_mul_pos_right h (by omega), fun h => Int.mul_pos hc h⟩
theorem detF_one (a : Nat → Nat → Int) : detF 1 a = a 0 0 := by simp [detF, sumTo, sgn]
theorem posE_minors : ∀ {n : Nat}, n ≤ 4 → ∀ (a : Nat → Nat → Int), posE n a ↔ ∀ k, k < n → 0 < detF (k + 1) a
  | 0, _, a => ⟨fun _ k hk => by omega, fun _ => trivial⟩
  | n + 1, hn, a => by
    rw [posE, posE_minors (n := n) (by omega) (chio a)]
    have hstep : 0 < a 0 0 → ∀ k, k < n → (0 < detF (k + 1) (chio a) ↔ 0 < detF (k + 2) a) := fun h0 k hk => by
      have h3 : k = 0 ∨ k = 1 ∨ k = 2 := by omega
      rcases h3 with rfl | rfl | rfl
      · rw [chio_one]
      · rw [chio_two, pos_mul_iff h0]
      · rw [chio_three, pos_mul_iff h0, pos_mul_iff h0]
    constructor
    · rintro ⟨h0, h1⟩ k hk
      cases k with
      | zero => rw [detF_one]; exact h0
      | succ k => exact (hstep h0 k (by omega)).1 (h1 k (by omega))
    · intro h
      have h0 : 0 < a 0 0 := by have := h 0 (by omega); rwa [detF_one] at this
      exact ⟨h0, fun k hk => (hstep h0 k hk).2 (h (k + 1) (by omega))⟩

/-! ### Positive vectors -/

def rowX (n : Nat) (a : Nat → Nat → Int) (x : Nat → Int) (i : Nat) : Int := sumTo n fun j => a i j * x j
def vecE (n : Nat) (a : Nat → Nat → Int) : Prop := ∃ x : Nat → Int, (∀ i, i < n → 0 < x i) ∧ ∀ i, i < n → 0 < rowX n a x i
def zE (n : Nat) (a : Nat → Nat → Int) : Prop := ∀ i j, i < n → j < n → i ≠ j → a i j ≤ 0
theorem zE.chio {n : Nat} {a : Nat → Nat → Int} (h : zE (n + 1) a) (h0 : 0 < a 0 0) : zE n (chio a) := by
  intro i j hi hj hij
  unfold Go.Proofs.YtanelokploifhaaDoor.chio
  have h1 := h (i + 1) (j + 1) (by omega) (by omega) (by omega)
  have h2 := h (i + 1) 0 (by omega) (by omega) (by omega)
  have h3 := h 0 (j + 1) (by omega) (by omega) (by omega)
  have h4 : a 0 0 * a (i + 1) (j + 1) ≤ 0 := Int.mul_nonpos_of_nonneg_of_nonpos (by omega) h1
  have h5 : 0 ≤ a (i + 1) 0 * a 0 (j + 1) := Int.mul_nonneg_of_nonpos_of_nonpos h2 h3
  omega
theorem rowX_chio (n : Nat) (a : Nat → Nat → Int) (y : Nat → Int) (i : Nat) : rowX n (chio a) y i = a 0 0 * (sumTo n fun j => a (i + 1) (j + 1) * y j) - a (i + 1) 0 * sumTo n fun j => a 0 (j + 1) * y j := by
  unfold rowX chio
  have h1 := sumTo_mulc (a 0 0) (fun j => a (i + 1) (j + 1) * y j) n
  have h2 := sumTo_mulc (-a (i + 1) 0) (fun j => a 0 (j + 1) * y j) n
  have h3 := sumTo_addf (fun j => a 0 0 * (a (i + 1) (j + 1) * y j)) (fun j => -a (i + 1) 0 * (a 0 (j + 1) * y j)) n
  rw [h1, h2] at h3
  rw [Int.sub_eq_add_neg, ← Int.neg_mul, ← h3]
  exact sumTo_congr _ fun j _ => by grind
theorem posE_vecE : ∀ {n : Nat} {a : Nat → Nat → Int}, zE n a → (posE n a ↔ vecE n a)
  | 0, a, _ => ⟨fun _ => ⟨fun _ => 1, fun i hi => by omega, fun i hi => by omega⟩, fun _ => trivial⟩
  | n + 1, a, hz => by
    have hcol : ∀ i, i < n → a (i + 1) 0 ≤ 0 := fun i hi => hz (i + 1) 0 (by omega) (by omega) (by omega)
    have hrow : ∀ j, j < n → a 0 (j + 1) ≤ 0 := fun j hj => hz 0 (j + 1) (by omega) (by omega) (by omega)
    constructor
    · rintro ⟨h0, h1⟩
      obtain ⟨y, hy, hb⟩ := (posE_vecE (hz.chio h0)).1 h1
      have hS : (sumTo n fun j => a 0 (j + 1) * y j) ≤ 0 := sumTo_nonpos fun j hj => Int.mul_nonpos_of_nonpos_of_nonneg (hrow j hj) (by have := hy j hj; omega)
      obtain ⟨S, hSS⟩ : ∃ S, (sumTo n fun j => a 0 (j + 1) * y j) = S := ⟨_, rfl⟩
      obtain ⟨K, hK⟩ : ∃ K, 1 + (sumTo n fun i => -1 * a (i + 1) 0) = K := ⟨_, rfl⟩
      have hK1 : ∀ i, i < n → 1 - a (i + 1) 0 ≤ K := fun i hi => by
        have := sumTo_term (f := fun i => -1 * a (i + 1) 0) hi fun j hj => by have := hcol j hj; omega
        rw [← hK]
        omega
      have hK0 : 1 ≤ K := by
        have := sumTo_nonneg (f := fun i => -1 * a (i + 1) 0) (n := n) fun j hj => by have := hcol j hj; omega
        omega
      rw [hSS] at hS
      have hKS : K * S ≤ 0 := Int.mul_nonpos_of_nonneg_of_nonpos (by omega) hS
      have hsum : ∀ i, (sumTo n fun j => a i (j + 1) * (K * a 0 0 * y j)) = K * a 0 0 * sumTo n fun j => a i (j + 1) * y j := fun i => by
        rw [← sumTo_mulc]
        exact sumTo_congr _ fun j _ => by grind
      refine ⟨fun k => match k with | 0 => 1 - K * S | k + 1 => K * a 0 0 * y k, fun i hi => ?_, fun i hi => ?_⟩
      · cases i with
        | zero => show 0 < 1 - K * S; omega
        | succ i => exact Int.mul_pos (Int.mul_pos (by omega) h0) (hy i (by omega))
      · unfold rowX
        rw [sumTo_left]
        show 0 < a i 0 * (1 - K * S) + sumTo n fun j => a i (j + 1) * (K * a 0 0 * y j)
        rw [hsum i]
        cases i with
        | zero =>
          rw [hSS]
          have e : a 0 0 * (1 - K * S) + K * a 0 0 * S = a 0 0 := by grind
          rw [e]; exact h0
        | succ i =>
          have hbi := hb i (by omega)
          rw [rowX_chio, hSS] at hbi
          generalize (sumTo n fun j => a (i + 1) (j + 1) * y j) = T at hbi ⊢
          have e : a (i + 1) 0 * (1 - K * S) + K * a 0 0 * T = a (i + 1) 0 + K * (a 0 0 * T - a (i + 1) 0 * S) := by grind
          rw [e]
          have h2 : K * 1 ≤ K * (a 0 0 * T - a (i + 1) 0 * S) := Int.mul_le_mul_of_nonneg_left (by omega) (by omega)
          have h3 := hK1 i (by omega)
          omega
    · rintro ⟨x, hx, hb⟩
      have hb0 := hb 0 (by omega)
      unfold rowX at hb0
      rw [sumTo_left] at hb0
      have hS : (sumTo n fun j => a 0 (j + 1) * x (j + 1)) ≤ 0 := sumTo_nonpos fun j hj => Int.mul_nonpos_of_nonpos_of_nonneg (hrow j hj) (by have := hx (j + 1) (by omega); omega)
      have hx0 := hx 0 (by omega)
      have h0 : 0 < a 0 0 := Int.pos_of_mul_pos_left (show 0 < a 0 0 * x 0 by omega) (by omega)
      refine ⟨h0, (posE_vecE (hz.chio h0)).2 ⟨fun k => x (k + 1), fun i hi => hx (i + 1) (by omega), fun i hi => ?_⟩⟩
      rw [rowX_chio]
      have hbi := hb (i + 1) (by omega)
      unfold rowX at hbi
      rw [sumTo_left] at hbi
      have hc := hcol i hi
      generalize (sumTo n fun j => a 0 (j + 1) * x (j + 1)) = S at *
      generalize (sumTo n fun j => a (i + 1) (j + 1) * x (j + 1)) = T at *
      have h1 : 0 < a 0 0 * (a (i + 1) 0 * x 0 + T) := Int.mul_pos h0 hbi
      have h2 : a (i + 1) 0 * (a 0 0 * x 0 + S) ≤ 0 := Int.mul_nonpos_of_nonpos_of_nonneg hc (by omega)
      have e : a 0 0 * T - a (i + 1) 0 * S = a 0 0 * (a (i + 1) 0 * x 0 + T) - a (i + 1) 0 * (a 0 0 * x 0 + S) := by grind
      rw [e]; omega
end Go.Proofs.YtanelokploifhaaDoor
namespace Go.Proofs.YtanelokploifhaaDoor
open Go Go.RowKit

/-- A positive vector shows that the growth is below q / d. -/
def Bel (n : Nat) (f : Nat → Nat → Int) (q d : Int) : Prop := ∃ x : Nat → Int, (∀ i, i < n → 0 < x i) ∧ ∀ i, i < n → d * rowX n f x i < q * x i
/-- q on the diagonal minus d times the table. -/
def negE (f : Nat → Nat → Int) (q d : Int) : Nat → Nat → Int := fun i j => (if i = j then q else 0) - d * f i j
def nonneg (n : Nat) (f : Nat → Nat → Int) : Prop := ∀ i j, i < n → j < n → 0 ≤ f i j
theorem rowX_neg (n : Nat) (f : Nat → Nat → Int) (q d : Int) (x : Nat → Int) {i : Nat} (hi : i < n) : rowX n (negE f q d) x i = q * x i - d * rowX n f x i := by
  unfold rowX negE
  have h1 := sumTo_pick q x hi
  have h2 := sumTo_mulc (-d) (fun j => f i j * x j) n
  have h3 := sumTo_addf (fun j => (if i = j then q else 0) * x j) (fun j => -d * (f i j * x j)) n
  rw [h1, h2] at h3
  rw [Int.sub_eq_add_neg, ← Int.neg_mul, ← h3]
  exact sumTo_congr _ fun j _ => by grind
theorem zE_neg {n : Nat} {f : Nat → Nat → Int} {q d : Int} (hf : nonneg n f) (hd : 0 ≤ d) : zE n (negE f q d) := fun i j hi hj hij => by
  unfold negE
  rw [if_neg hij]
  have := Int.mul_nonneg hd (hf i j hi hj)
  omega
/-- By the leading minors. -/
theorem bel_minors {n : Nat} (hn : n ≤ 4) {f : Nat → Nat → Int} {q d : Int} (hf : nonneg n f) (hd : 0 ≤ d) : (∀ k, k < n → 0 < detF (k + 1) (negE f q d)) ↔ Bel n f q d := by
  rw [← posE_minors hn, posE_vecE (zE_neg hf hd)]
  unfold vecE Bel
  constructor
  · rintro ⟨x, hx, h⟩
    exact ⟨x, hx, fun i hi => by have := h i hi; rw [rowX_neg n f q d x hi] at this; omega⟩
  · rintro ⟨x, hx, h⟩
    exact ⟨x, hx, fun i hi => by have := h i hi; rw [rowX_neg n f q d x hi]; omega⟩
theorem rowX_nonneg {n : Nat} {f : Nat → Nat → Int} (hf : nonneg n f) {x : Nat → Int} (hx : ∀ j, j < n → 0 ≤ x j) {i : Nat} (hi : i < n) : 0 ≤ rowX n f x i := sumTo_nonneg fun j hj => Int.mul_nonneg (hf i j hi hj) (hx j hj)
theorem Bel.more {n : Nat} {f : Nat → Nat → Int} {q q' d : Int} (h : Bel n f q d) (hq : q ≤ q') : Bel n f q' d := by
  obtain ⟨x, hx, h1⟩ := h
  exact ⟨x, hx, fun i hi => by
    have h2 := h1 i hi
    have h3 : q * x i ≤ q' * x i := Int.mul_le_mul_of_nonneg_right hq (by have := hx i hi; omega)
    omega⟩
theorem Bel.fewer {n : Nat} {f g : Nat → Nat → Int} {q d : Int} (h : Bel n g q d) (hd : 0 ≤ d) (hfg : ∀ i j, i < n → j < n → f i j ≤ g i j) : Bel n f q d := by
  obtain ⟨x, hx, h1⟩ := h
  exact ⟨x, hx, fun i hi => by
    have h2 := h1 i hi
    have h3 : rowX n f x i ≤ rowX n g x i := sumTo_mono2 fun j hj => Int.mul_le_mul_of_nonneg_right (hfg i j hi hj) (by have := hx j hj; omega)
    have h4 := Int.mul_le_mul_of_nonneg_left h3 hd
    omega⟩
theorem bel_not_zero {n : Nat} (hn : 0 < n) {f : Nat → Nat → Int} {d : Int} (hf : nonneg n f) (hd : 0 ≤ d) : ¬ Bel n f 0 d := by
  rintro ⟨x, hx, h⟩
  have h1 := h 0 hn
  have h2 := Int.mul_nonneg hd (rowX_nonneg hf (x := x) (fun j hj => by have := hx j hj; omega) hn)
  rw [Int.zero_mul] at h1
  omega
theorem bel_rows {n : Nat} {f : Nat → Nat → Int} {q d h : Int} (hd : 0 ≤ d) (hr : ∀ i, i < n → sumTo n (f i) ≤ h) (hq : d * h < q) : Bel n f q d := by
  refine ⟨fun _ => 1, fun _ _ => (by decide : (0 : Int) < 1), fun i hi => ?_⟩
  show _ < q * 1
  have h1 : rowX n f (fun _ => 1) i = sumTo n (f i) := sumTo_congr _ fun j _ => Int.mul_one _
  have h2 := Int.mul_le_mul_of_nonneg_left (hr i hi) hd
  rw [h1]; omega
theorem least_at (x : Nat → Int) : ∀ {n : Nat}, 0 < n → ∃ i, i < n ∧ ∀ j, j < n → x i ≤ x j
  | 1, _ => ⟨0, by omega, fun j hj => by obtain rfl : j = 0 := by omega
                                         exact Int.le_refl _⟩
  | n + 2, _ => by
    obtain ⟨i, hi, h⟩ := least_at x (n := n + 1) (by omega)
    by_cases hx : x i ≤ x (n + 1)
    · refine ⟨i, by omega, fun j hj => ?_⟩
      by_cases e : j = n + 1
      · subst e; exact hx
      · exact h j (by omega)
    · refine ⟨n + 1, by omega, fun j hj => ?_⟩
      by_cases e : j = n + 1
      · subst e; exact Int.le_refl _
      · have := h j (by omega); omega
theorem rows_bel {n : Nat} (hn : 0 < n) {f : Nat → Nat → Int} {q d l : Int} (hf : nonneg n f) (hd : 0 ≤ d) (hr : ∀ i, i < n → l ≤ sumTo n (f i)) (h : Bel n f q d) : d * l < q := by
  obtain ⟨x, hx, h1⟩ := h
  obtain ⟨i, hi, hmin⟩ := least_at x hn
  have h2 : x i * sumTo n (f i) ≤ rowX n f x i := by
    rw [← sumTo_mulc]
    exact sumTo_mono2 fun j hj => by
      rw [Int.mul_comm]
      exact Int.mul_le_mul_of_nonneg_left (hmin j hj) (hf i j hi hj)
  have hxi := hx i hi
  have h3 : x i * l ≤ x i * sumTo n (f i) := Int.mul_le_mul_of_nonneg_left (hr i hi) (by omega)
  have h4 := Int.mul_le_mul_of_nonneg_left (Int.le_trans h3 h2) hd
  have h5 := h1 i hi
  have h6 : d * (x i * l) = (d * l) * x i := by grind
  rw [h6] at h4
  have h7 : (d * l) * x i < q * x i := by omega
  exact Int.lt_of_mul_lt_mul_right h7 (by omega)
theorem bel_turn {n : Nat} (hn : n ≤ 4) {f : Nat → Nat → Int} {q d : Int} (hf : nonneg n f) (hd : 0 ≤ d) : Bel n (fun i j => f j i) q d ↔ Bel n f q d := by
  rw [← bel_minors hn hf hd, ← bel_minors hn (fun i j hi hj => hf j i hj hi) hd]
  have e : ∀ k, k < n → detF (k + 1) (negE (fun i j => f j i) q d) = detF (k + 1) (negE f q d) := fun k hk => by
    rw [← detF_turn (n := k + 1) (by omega)]
    refine detF_congr fun i j _ _ => ?_
    unfold negE
    by_cases h : i = j
    · subst h; rfl
    · rw [if_neg h, if_neg (Ne.symm h)]
  exact ⟨fun h k hk => by rw [← e k hk]; exact h k hk, fun h k hk => by rw [e k hk]; exact h k hk⟩
theorem Bel.congr {n : Nat} {f g : Nat → Nat → Int} {q d : Int} (h : Bel n f q d) (he : ∀ i j, i < n → j < n → f i j = g i j) : Bel n g q d := by
  obtain ⟨x, hx, h1⟩ := h
  exact ⟨x, hx, fun i hi => by
    have e : rowX n g x i = rowX n f x i := sumTo_congr _ fun j hj => by rw [he i j hi hj]
    rw [e]; exact h1 i hi⟩

/-! ### Squares -/

def sqF (n : Nat) (f : Nat → Nat → Int) : Nat → Nat → Int := fun i j => sumTo n fun k => f i k * f k j
theorem sumTo_swap (g : Nat → Nat → Int) (m : Nat) : ∀ n : Nat, (sumTo n fun i => sumTo m fun j => g i j) = sumTo m fun j => sumTo n fun i => g i j
  | 0 => by
    show (0 : Int) = sumTo m fun _ => 0
    have h2 := sumTo_nonneg (f := fun _ => (0 : Int)) (n := m) fun _ _ => Int.le_refl _
    have h3 := sumTo_nonpos (f := fun _ => (0 : Int)) (n := m) fun _ _ => Int.le_refl _
    omega
  | n + 1 => by
    rw [sumTo, sumTo_swap g m n, ← sumTo_addf]
    rfl
theorem rowX_sq (n : Nat) (f : Nat → Nat → Int) (x : Nat → Int) (i : Nat) : rowX n (sqF n f) x i = rowX n f (rowX n f x) i := by
  unfold rowX sqF
  have h1 : (sumTo n fun j => (sumTo n fun k => f i k * f k j) * x j) = sumTo n fun j => sumTo n fun k => f i k * f k j * x j := sumTo_congr _ fun j _ => by
    rw [Int.mul_comm, ← sumTo_mulc]
    exact sumTo_congr _ fun k _ => Int.mul_comm _ _
  rw [h1, sumTo_swap]
  exact sumTo_congr _ fun k _ => by
    rw [← sumTo_mulc]
    exact sumTo_congr _ fun j _ => by grind
theorem rowX_lin (n : Nat) (f : Nat → Nat → Int) (x y : Nat → Int) (a b : Int) (i : Nat) : rowX n f (fun j => a * x j + b * y j) i = a * rowX n f x i + b * rowX n f y i := by
  unfold rowX
  rw [← sumTo_mulc, ← sumTo_mulc, ← sumTo_addf]
  exact sumTo_congr _ fun j _ => by grind
theorem rowX_scale (n : Nat) (f : Nat → Nat → Int) (x : Nat → Int) (a : Int) (i : Nat) : rowX n f (fun j => a * x j) i = a * rowX n f x i := by
  unfold rowX
  rw [← sumTo_mulc]
  exact sumTo_congr _ fun j _ => by grind
theorem rowX_mono {n : Nat} {f : Nat → Nat → Int} (hf : nonneg n f) {x y : Nat → Int} (h : ∀ j, j < n → x j ≤ y j) {i : Nat} (hi : i < n) : rowX n f x i ≤ rowX n f y i := sumTo_mono2 fun j hj => Int.mul_le_mul_of_nonneg_left (h j hj) (hf i j hi hj)
theorem bel_root {n : Nat} {f : Nat → Nat → Int} {q d r : Int} (hn : 0 < n) (hf : nonneg n f) (hd : 0 < d) (hq : 0 ≤ q) (h : Bel n (sqF n f) r d) (hr : r * d ≤ q * q) : Bel n f q d := by
  obtain ⟨x, hx, h1⟩ := h
  have hx0 : ∀ j, j < n → 0 ≤ x j := fun j hj => by have := hx j hj; omega
  have hM : ∀ i, i < n → 0 ≤ rowX n f x i := fun i hi => rowX_nonneg hf hx0 hi
  have hkey : ∀ i, i < n → d * (d * rowX n f (rowX n f x) i) < q * (q * x i) := fun i hi => by
    have h2 := h1 i hi
    rw [rowX_sq] at h2
    have h3 := Int.mul_lt_mul_of_pos_left h2 hd
    have h4 : d * (r * x i) = (r * d) * x i := by grind
    have h5 := Int.mul_le_mul_of_nonneg_right hr (hx0 i hi)
    have h6 : q * q * x i = q * (q * x i) := by grind
    omega
  have hq0 : 0 < q := by
    by_cases h0 : q = 0
    · have h2 := hkey 0 hn
      rw [h0, Int.zero_mul] at h2
      have h3 := Int.mul_nonneg (Int.le_of_lt hd) (Int.mul_nonneg (Int.le_of_lt hd) (rowX_nonneg hf hM hn))
      omega
    · omega
  refine ⟨fun j => q * x j + d * rowX n f x j, fun i hi => ?_, fun i hi => ?_⟩
  · have h2 := Int.mul_pos hq0 (hx i hi)
    have h3 := Int.mul_nonneg (Int.le_of_lt hd) (hM i hi)
    show 0 < q * x i + d * rowX n f x i
    omega
  · rw [rowX_lin n f x (rowX n f x) q d i]
    have h2 := hkey i hi
    show _ < q * (q * x i + d * rowX n f x i)
    generalize rowX n f (rowX n f x) i = z at *
    generalize rowX n f x i = y at *
    have e1 : d * (q * y + d * z) = q * (d * y) + d * (d * z) := by grind
    have e2 : q * (q * x i + d * y) = q * (d * y) + q * (q * x i) := by grind
    omega
theorem bel_square {n : Nat} {f : Nat → Nat → Int} {q d r : Int} (hf : nonneg n f) (hd : 0 < d) (hq : 0 < q) (h : Bel n f q d) (hr : q * q ≤ r * d) : Bel n (sqF n f) r d := by
  obtain ⟨x, hx, h1⟩ := h
  refine ⟨x, hx, fun i hi => ?_⟩
  rw [rowX_sq]
  have h2 : d * rowX n f (rowX n f x) i = rowX n f (fun j => d * rowX n f x j) i := (rowX_scale n f (rowX n f x) d i).symm
  have h3 : rowX n f (fun j => d * rowX n f x j) i ≤ rowX n f (fun j => q * x j) i := rowX_mono hf (fun j hj => Int.le_of_lt (h1 j hj)) hi
  have h4 : rowX n f (fun j => q * x j) i = q * rowX n f x i := rowX_scale n f x q i
  have h5 := h1 i hi
  have h6 := Int.mul_lt_mul_of_pos_left h5 hq
  have h7 : d * (q * rowX n f x i) < d * (r * x i) := by
    have e1 : d * (q * rowX n f x i) = q * (d * rowX n f x i) := by grind
    have e2 : d * (r * x i) = (r * d) * x i := by grind
    have e3 : q * (q * x i) = (q * q) * x i := by grind
    have h8 := Int.mul_le_mul_of_nonneg_right hr (Int.le_of_lt (hx i hi))
    omega
  have h9 : d * (d * rowX n f (rowX n f x) i) < d * (r * x i) := by
    rw [h2]
    have h10 := Int.mul_le_mul_of_nonneg_left (Int.le_trans h3 (Int.le_of_eq h4)) (Int.le_of_lt hd)
    omega
  exact Int.lt_of_mul_lt_mul_left h9 (Int.le_of_lt hd)

/-! ### The greatest number that is reached -/

/-- Of the numbers up to k, the greatest that p does not hold of (0 if there is none). -/
def lastNot (p : Nat → Bool) : Nat → Nat
  | 0 => 0
  | k + 1 => if p (k + 1) then lastNot p k else k + 1
theorem lastNot_is {p : Nat → Bool} (h0 : p 0 = false) : ∀ k, p (lastNot p k) = false ∧ lastNot p k ≤ k ∧ ∀ j, lastNot p k < j → j ≤ k → p j = true
  | 0 => ⟨h0, Nat.le_refl _, fun j h1 h2 => by
      have : lastNot p 0 = 0 := rfl
      omega⟩
  | k + 1 => by
    rw [lastNot]
    cases hp : p (k + 1) with
    | true =>
      rw [if_pos rfl]
      obtain ⟨h1, h2, h3⟩ := lastNot_is h0 k
      refine ⟨h1, by omega, fun j hj hk => ?_⟩
      by_cases e : j = k + 1
      · subst e; exact hp
      · exact h3 j hj (by omega)
    | false =>
      rw [if_neg (by decide)]
      exact ⟨hp, Nat.le_refl _, fun j h1 h2 => by omega⟩
end Go.Proofs.YtanelokploifhaaDoor
namespace Go.Proofs.YtanelokploifhaaDoor

/-- A walk of n steps from i to j. -/
def Wk (E : Nat → Nat → Prop) : Nat → Nat → Nat → Prop
  | 0, i, j => i = j
  | n + 1, i, j => ∃ k, Wk E n i k ∧ E k j
/-- A relation on the numbers below N. -/
def OnN (N : Nat) (E : Nat → Nat → Prop) : Prop := ∀ i j, E i j → i < N ∧ j < N
variable {N : Nat} {E : Nat → Nat → Prop}
theorem Wk.add {a i k : Nat} (h : Wk E a i k) : ∀ {b j : Nat}, Wk E b k j → Wk E (a + b) i j
  | 0, j, h2 => by obtain rfl : k = j := h2; exact h
  | b + 1, j, ⟨x, h2, h3⟩ => ⟨x, h.add h2, h3⟩
theorem Wk.one {i j : Nat} (h : E i j) : Wk E 1 i j := ⟨i, rfl, h⟩
theorem Wk.split {a i : Nat} : ∀ {b j : Nat}, Wk E (a + b) i j → ∃ k, Wk E a i k ∧ Wk E b k j
  | 0, j, h => ⟨j, h, rfl⟩
  | b + 1, j, ⟨x, h2, h3⟩ => by
    obtain ⟨k, h4, h5⟩ := Wk.split h2
    exact ⟨k, h4, x, h5, h3⟩
theorem Wk.ends (hE : OnN N E) {n i j : Nat} (h : Wk E (n + 1) i j) : i < N ∧ j < N := by
  obtain ⟨k, h1, h2⟩ := h
  refine ⟨?_, (hE k j h2).2⟩
  have h3 := (Wk.split (a := 1) (b := n) (i := i) (j := j) (by rw [Nat.add_comm]; exact ⟨k, h1, h2⟩))
  obtain ⟨x, ⟨y, hy, hx⟩, _⟩ := h3
  obtain rfl : i = y := hy
  exact (hE _ _ hx).1
/-- The places of a walk. -/
theorem Wk.path {i : Nat} : ∀ {n j : Nat}, Wk E n i j → ∃ p : Nat → Nat, p 0 = i ∧ p n = j ∧ ∀ a b, a ≤ b → b ≤ n → Wk E (b - a) (p a) (p b)
  | 0, j, h => ⟨fun _ => i, rfl, h, fun a b h1 h2 => by obtain rfl : a = b := by omega
                                                        rw [Nat.sub_self]; rfl⟩
  | n + 1, j, ⟨k, h1, h2⟩ => by
    obtain ⟨p, p0, pn, hp⟩ := Wk.path h1
    refine ⟨fun t => if t ≤ n then p t else j, by simp [p0], (by show (if n + 1 ≤ n then p (n + 1) else j) = j; rw [if_neg (by omega)]), fun a b hab hb => ?_⟩
    by_cases hbn : b ≤ n
    · simp only [hbn, if_true, show a ≤ n by omega]
      exact hp a b hab hbn
    · obtain rfl : b = n + 1 := by omega
      by_cases han : a ≤ n
      · simp only [han, if_true, hbn, if_false]
        rw [show n + 1 - a = (n - a) + 1 by omega]
        refine ⟨k, ?_, h2⟩
        have := hp a n han (Nat.le_refl _)
        rw [pn] at this
        exact this
      · obtain rfl : a = n + 1 := by omega
        rw [Nat.sub_self]; rfl
/-- More places than numbers. -/
theorem pigeon : ∀ (N : Nat) (p : Nat → Nat), (∀ t, t ≤ N → p t < N) → ∃ a b, a < b ∧ b ≤ N ∧ p a = p b
  | 0, p, h => absurd (h 0 (Nat.le_refl _)) (Nat.not_lt_zero _)
  | N + 1, p, h => by
    by_cases hx : ∃ t, t ≤ N ∧ p t = p (N + 1)
    · obtain ⟨t, ht, e⟩ := hx
      exact ⟨t, N + 1, by omega, Nat.le_refl _, e⟩
    · have hne : ∀ t, t ≤ N → p t ≠ p (N + 1) := fun t ht e => hx ⟨t, ht, e⟩
      have hl := h (N + 1) (Nat.le_refl _)
      obtain ⟨a, b, hab, hb, e⟩ := pigeon N (fun t => if p t = N then p (N + 1) else p t) (fun t ht => by
        have := h t (by omega)
        have := hne t ht
        show (if p t = N then p (N + 1) else p t) < N
        split <;> omega)
      refine ⟨a, b, hab, by omega, ?_⟩
      have ha := hne a (by omega)
      have hb' := hne b hb
      have e2 : (if p a = N then p (N + 1) else p a) = (if p b = N then p (N + 1) else p b) := e
      split at e2 <;> split at e2 <;> omega
/-- A walk with as many steps as there are numbers meets a place twice. -/
theorem Wk.twice (hE : OnN N E) {n i j : Nat} (h : Wk E n i j) (hn : N ≤ n) (h0 : 0 < n) : ∃ a b x, a < b ∧ b ≤ N ∧ Wk E a i x ∧ Wk E (b - a) x x ∧ Wk E (n - b) x j := by
  obtain ⟨p, p0, pn, hp⟩ := h.path
  have hlt : ∀ t, t ≤ N → p t < N := fun t ht => by
    by_cases h1 : t < n
    · have h2 := hp t n (by omega) (Nat.le_refl _)
      rw [show n - t = (n - t - 1) + 1 by omega] at h2
      exact (Wk.ends hE h2).1
    · obtain rfl : t = n := by omega
      have h2 := hp 0 t (Nat.zero_le _) (Nat.le_refl _)
      rw [show t - 0 = (t - 1) + 1 by omega] at h2
      exact (Wk.ends hE h2).2
  obtain ⟨a, b, hab, hb, e⟩ := pigeon N p hlt
  refine ⟨a, b, p a, hab, hb, ?_, ?_, ?_⟩
  · have := hp 0 a (Nat.zero_le _) (by omega)
    rw [p0] at this; exact this
  · have := hp a b (by omega) (by omega)
    rw [← e] at this; exact this
  · have := hp b n (by omega) (Nat.le_refl _)
    rw [pn, ← e] at this; exact this
/-- A walk can be made with fewer steps than there are numbers; with one at least, with as many at most. -/
theorem Wk.short (hE : OnN N E) (h0 : 0 < N) : ∀ {n i j : Nat}, Wk E n i j → ∃ k, k < N ∧ k ≤ n ∧ Wk E k i j := by
  intro n
  induction n using Nat.strongRecOn with
  | _ n ih =>
    intro i j h
    by_cases hn : n < N
    · exact ⟨n, hn, Nat.le_refl _, h⟩
    · obtain ⟨a, b, x, hab, hb, h1, _, h3⟩ := h.twice hE (by omega) (by omega)
      obtain ⟨k, hk, hk2, hw⟩ := ih (a + (n - b)) (by omega) (h1.add h3)
      exact ⟨k, hk, by omega, hw⟩
theorem Wk.short1 (hE : OnN N E) : ∀ {n i j : Nat}, Wk E n i j → 0 < n → ∃ k, 0 < k ∧ k ≤ N ∧ k ≤ n ∧ Wk E k i j := by
  intro n
  induction n using Nat.strongRecOn with
  | _ n ih =>
    intro i j h hn0
    by_cases hn : n ≤ N
    · exact ⟨n, hn0, hn, Nat.le_refl _, h⟩
    · obtain ⟨a, b, x, hab, hb, h1, _, h3⟩ := h.twice hE (by omega) (by omega)
      obtain ⟨k, hk0, hk, hk2, hw⟩ := ih (a + (n - b)) (by omega) (h1.add h3) (by omega)
      exact ⟨k, hk0, hk, by omega, hw⟩
/-- What divides the lengths of all short closed walks divides those of all. -/
theorem closed_dvd (hE : OnN N E) {g : Nat} (hg : ∀ n i, 0 < n → n ≤ N → Wk E n i i → g ∣ n) : ∀ {n i : Nat}, Wk E n i i → g ∣ n := by
  intro n
  induction n using Nat.strongRecOn with
  | _ n ih =>
    intro i h
    by_cases h0 : n = 0
    · subst h0; exact Nat.dvd_zero _
    by_cases hn : n ≤ N
    · exact hg n i (by omega) hn h
    · obtain ⟨a, b, x, hab, hb, h1, h2, h3⟩ := h.twice hE (by omega) (by omega)
      have e1 := ih (a + (n - b)) (by omega) (h1.add h3)
      have e2 := hg (b - a) x (by omega) (by omega) h2
      have e3 : n = (a + (n - b)) + (b - a) := by omega
      rw [e3]
      exact Nat.dvd_add e1 e2
theorem least_nat {P : Nat → Prop} (h : ∃ n, P n) : ∃ n, P n ∧ ∀ k, k < n → ¬ P k := by
  obtain ⟨n, hn⟩ := h
  induction n using Nat.strongRecOn with
  | _ n ih =>
    by_cases h : ∃ k, k < n ∧ P k
    · obtain ⟨k, hk, hp⟩ := h
      exact ih k hk hp
    · exact ⟨n, hn, fun k hk hp => h ⟨k, hk, hp⟩⟩
/-- All pairs are joined. -/
def Joined (N : Nat) (E : Nat → Nat → Prop) : Prop := ∀ i j, i < N → j < N → ∃ n, 0 < n ∧ Wk E n i j
theorem Joined.walk (hJ : Joined N E) {i j : Nat} (hi : i < N) (hj : j < N) : ∃ n, Wk E n i j := by
  obtain ⟨n, _, h⟩ := hJ i j hi hj
  exact ⟨n, h⟩
/-- In a joined relation what divides the closed walks at one place divides all. -/
theorem closed_at (hE : OnN N E) (hJ : Joined N E) {g c : Nat} (hc : c < N) (hg : ∀ n, Wk E n c c → g ∣ n) {n i : Nat} (h : Wk E n i i) : g ∣ n := by
  by_cases h0 : n = 0
  · subst h0; exact Nat.dvd_zero _
  have hi : i < N := by
    rw [show n = (n - 1) + 1 by omega] at h
    exact (Wk.ends hE h).1
  obtain ⟨a, ha⟩ := hJ.walk hc hi
  obtain ⟨b, hb⟩ := hJ.walk hi hc
  have h1 := hg _ (ha.add hb)
  have h2 := hg _ ((ha.add h).add hb)
  have e : (a + n + b) = n + (a + b) := by omega
  rw [e] at h2
  exact (Nat.dvd_add_iff_left h1).2 h2
theorem Wk.times {n i : Nat} (h : Wk E n i i) : ∀ k, Wk E (k * n) i i
  | 0 => by rw [Nat.zero_mul]; rfl
  | k + 1 => by
    rw [Nat.add_mul, Nat.one_mul]
    exact (h.times k).add h
/-- Closed walks at c of length s, and no common divisor but 1: one is as long as 1 more than a multiple of s. -/
theorem closed_unit (hE : OnN N E) (hJ : Joined N E) (h1 : ∀ g, (∀ n i, Wk E n i i → g ∣ n) → g = 1) {c s : Nat} (hc : c < N) (hs : 0 < s) (hw : Wk E s c c) : ∃ y, Wk E y c c ∧ y % s = 1 % s := by
  obtain ⟨d, ⟨hd0, y, hy, hyd⟩, hmin⟩ := least_nat (P := fun d => 0 < d ∧ ∃ y, Wk E y c c ∧ y % s = d % s) ⟨s, hs, s, hw, rfl⟩
  have hdiv : ∀ x, Wk E x c c → d ∣ x := fun x hx => by
    refine Nat.dvd_of_mod_eq_zero ?_
    by_cases hr : x % d = 0
    · exact hr
    · exfalso
      refine hmin (x % d) (Nat.mod_lt _ hd0) ⟨by omega, x + (x / d) * (s - 1) * y, hx.add (hy.times _), ?_⟩
      have e1 : x = d * (x / d) + x % d := (Nat.div_add_mod x d).symm
      have e2 : (x + (x / d) * (s - 1) * y) % s = (x + (x / d) * (s - 1) * d) % s := by
        rw [Nat.add_mod, Nat.mul_mod, hyd, ← Nat.mul_mod, ← Nat.add_mod]
      rw [e2]
      have e3 : x + (x / d) * (s - 1) * d = x % d + (x / d * d) * s := by
        obtain ⟨t, rfl⟩ : ∃ t, s = t + 1 := ⟨s - 1, by omega⟩
        rw [Nat.add_sub_cancel, Nat.mul_add, Nat.mul_one]
        have e4 : x / d * t * d = x / d * d * t := by rw [Nat.mul_assoc, Nat.mul_comm t d, ← Nat.mul_assoc]
        have e5 : d * (x / d) = x / d * d := Nat.mul_comm _ _
        omega
      rw [e3, Nat.add_mul_mod_self_right]
  have hd1 : d = 1 := h1 d fun n i h => closed_at hE hJ hc hdiv h
  subst hd1
  exact ⟨y, hy, hyd⟩
end Go.Proofs.YtanelokploifhaaDoor
namespace Go.Proofs.YtanelokploifhaaDoor
variable {N : Nat} {E : Nat → Nat → Prop}

/-- Steps of s steps. -/
def Jump (E : Nat → Nat → Prop) (s : Nat) : Nat → Nat → Prop := fun i j => Wk E s i j
theorem Wk.jumps {s i : Nat} : ∀ {t j : Nat}, Wk E (t * s) i j → Wk (Jump E s) t i j
  | 0, j, h => by rw [Nat.zero_mul] at h; exact h
  | t + 1, j, h => by
    rw [Nat.add_mul, Nat.one_mul] at h
    obtain ⟨k, h1, h2⟩ := Wk.split h
    exact ⟨k, h1.jumps, h2⟩
theorem Wk.unjump {s i : Nat} : ∀ {t j : Nat}, Wk (Jump E s) t i j → Wk E (t * s) i j
  | 0, j, h => by rw [Nat.zero_mul]; exact h
  | t + 1, j, ⟨k, h1, h2⟩ => by
    rw [Nat.add_mul, Nat.one_mul]
    exact h1.unjump.add h2
theorem Jump.onN (hE : OnN N E) {s : Nat} (hs : 0 < s) : OnN N (Jump E s) := fun i j h => by
  unfold Jump at h
  rw [show s = (s - 1) + 1 by omega] at h
  exact Wk.ends hE h
/-- The least length of a closed walk. -/
structure Girth (E : Nat → Nat → Prop) (s c : Nat) : Prop where
  pos : 0 < s
  walk : Wk E s c c
  least : ∀ n i, 0 < n → Wk E n i i → s ≤ n
theorem girth_of (h : ∃ n i, 0 < n ∧ Wk E n i i) : ∃ s c, Girth E s c := by
  obtain ⟨s, ⟨i, hs, hw⟩, hmin⟩ := least_nat (P := fun n => ∃ i, 0 < n ∧ Wk E n i i) h
  exact ⟨s, i, hs, hw, fun n j hn hj => by
    by_cases h : n < s
    · exact absurd ⟨j, hn, hj⟩ (hmin n h)
    · omega⟩
/-- A place on a shortest closed walk leads to another such. -/
theorem on_next {s c : Nat} (hs : 0 < s) (h : Wk E s c c) : ∃ d, Wk E 1 c d ∧ Wk E s d d := by
  have h1 := h
  rw [show s = 1 + (s - 1) by omega] at h1
  obtain ⟨d, h2, h3⟩ := Wk.split h1
  refine ⟨d, h2, ?_⟩
  have := h3.add h2
  rw [show s - 1 + 1 = s by omega] at this
  exact this
theorem on_steps {s : Nat} (hs : 0 < s) : ∀ (n : Nat) {c : Nat}, Wk E s c c → ∃ d, Wk E n c d ∧ Wk E s d d
  | 0, c, h => ⟨c, rfl, h⟩
  | n + 1, c, h => by
    obtain ⟨d, h1, h2⟩ := on_steps hs n h
    obtain ⟨x, h3, h4⟩ := on_next hs h2
    exact ⟨x, h1.add h3, h4⟩
/-- A shortest closed walk is met soon. -/
theorem Girth.near (hE : OnN N E) (hJ : Joined N E) {s c : Nat} (hG : Girth E s c) {i : Nat} (hi : i < N) : s ≤ N ∧ ∃ d, Wk E (N - s) i d ∧ Wk E s d d := by
  have hs := hG.pos
  have hc : c < N := by
    have h := hG.walk
    rw [show s = (s - 1) + 1 by omega] at h
    exact (Wk.ends hE h).1
  obtain ⟨d, ⟨x, hx, hxs⟩, hmin⟩ := least_nat (P := fun d => ∃ x, Wk E d i x ∧ Wk E s x x) (by
    obtain ⟨n, hn⟩ := hJ.walk hi hc
    exact ⟨n, c, hn, hG.walk⟩)
  obtain ⟨p, p0, pn, hp⟩ := hx.path
  obtain ⟨q, q0, qn, hq⟩ := hG.walk.path
  have hqs : ∀ t, t < s → Wk E s (q t) (q t) := fun t ht => by
    have h1 := hq 0 t (Nat.zero_le _) (by omega)
    have h2 := hq t s (by omega) (Nat.le_refl _)
    rw [q0] at h1
    rw [qn] at h2
    have := h2.add h1
    rw [show s - t + (t - 0) = s by omega] at this
    exact this
  have hle : d + s ≤ N := by
    by_cases h : d + s ≤ N
    · exact h
    · exfalso
      obtain ⟨a, b, hab, hb, e⟩ := pigeon N (fun t => if t < d then p t else q (t - d)) (fun t ht => by
        show (if t < d then p t else q (t - d)) < N
        split
        · next h1 =>
          have h2 := hp t d (by omega) (Nat.le_refl _)
          rw [show d - t = (d - t - 1) + 1 by omega] at h2
          exact (Wk.ends hE h2).1
        · next h1 =>
          have h2 := hqs (t - d) (by omega)
          rw [show s = (s - 1) + 1 by omega] at h2
          exact (Wk.ends hE h2).1)
      have e2 : (if a < d then p a else q (a - d)) = (if b < d then p b else q (b - d)) := e
      have h0a : ∀ t, t ≤ d → Wk E t i (p t) := fun t ht => by
        have := hp 0 t (Nat.zero_le _) ht
        rw [p0] at this; exact this
      split at e2 <;> split at e2
      · next h1 h2 =>
        have h3 := h0a a (by omega)
        have h4 := hp b d (by omega) (Nat.le_refl _)
        rw [← e2, pn] at h4
        exact hmin (a + (d - b)) (by omega) ⟨x, h3.add h4, hxs⟩
      · next h1 h2 =>
        have h3 := h0a a (by omega)
        have h4 := hqs (b - d) (by omega)
        rw [← e2] at h4
        exact hmin a h1 ⟨_, h3, h4⟩
      · next h1 h2 => omega
      · next h1 h2 =>
        have h3 := hq (a - d) (b - d) (by omega) (by omega)
        rw [← e2] at h3
        have := hG.least _ _ (by omega) h3
        omega
  refine ⟨by omega, ?_⟩
  obtain ⟨y, h1, h2⟩ := on_steps hs (N - s - d) hxs
  refine ⟨y, ?_, h2⟩
  have := hx.add h1
  rw [show d + (N - s - d) = N - s by omega] at this
  exact this
/-- No common divisor of all closed walks but 1. -/
def Coprime (E : Nat → Nat → Prop) : Prop := ∀ g, (∀ n i, Wk E n i i → g ∣ n) → g = 1
theorem jump_all (hE : OnN N E) (hJ : Joined N E) (h1 : Coprime E) {s c j : Nat} (hs : 0 < s) (hw : Wk E s c c) (hc : c < N) (hj : j < N) : Wk E ((N - 1) * s) c j := by
  obtain ⟨y, hy, hys⟩ := closed_unit hE hJ h1 hc hs hw
  obtain ⟨l, hl⟩ := hJ.walk hc hj
  have hml : l % s < s := Nat.mod_lt _ hs
  have hz : (l + (s - l % s) * y) % s = 0 := by
    rw [Nat.add_mod, Nat.mul_mod, hys, ← Nat.mul_mod, Nat.mul_one, ← Nat.add_mod]
    have e := Nat.div_add_mod l s
    have e2 : l + (s - l % s) = s * (l / s + 1) := by rw [Nat.mul_add, Nat.mul_one]; omega
    rw [e2, Nat.mul_mod_right]
  obtain ⟨t, ht⟩ := Nat.dvd_of_mod_eq_zero hz
  have hall := (hy.times (s - l % s)).add hl
  rw [Nat.add_comm, ht, Nat.mul_comm] at hall
  obtain ⟨k, hk, _, hk2⟩ := Wk.short (Jump.onN hE hs) (by omega) hall.jumps
  have hpad : Wk (Jump E s) ((N - 1 - k) * 1) c c := Wk.times (n := 1) (Wk.one hw) (N - 1 - k)
  rw [Nat.mul_one] at hpad
  have h3 := (hpad.add hk2).unjump
  rw [show N - 1 - k + k = N - 1 by omega] at h3
  exact h3
/-- All pairs are joined by walks of n steps. -/
def FullAt (N : Nat) (E : Nat → Nat → Prop) (n : Nat) : Prop := ∀ i j, i < N → j < N → Wk E n i j
theorem full_bound (hE : OnN N E) (h0 : 0 < N) (hJ : Joined N E) (h1 : Coprime E) : ∃ n, 0 < n ∧ n + 2 * N ≤ N * N + 2 ∧ FullAt N E n := by
  by_cases hN : N = 1
  · subst hN
    obtain ⟨n, hn, hw⟩ := hJ 0 0 (by omega) (by omega)
    obtain ⟨k, hk0, hk, _, hw2⟩ := hw.short1 hE hn
    obtain rfl : k = 1 := by omega
    refine ⟨1, by omega, by omega, fun i j hi hj => ?_⟩
    obtain rfl : i = 0 := by omega
    obtain rfl : j = 0 := by omega
    exact hw2
  obtain ⟨s, c, hG⟩ := girth_of (E := E) (by
    obtain ⟨n, hn, hw⟩ := hJ 0 0 h0 h0
    exact ⟨n, 0, hn, hw⟩)
  have hs := hG.pos
  have hsN : s ≤ N := (hG.near hE hJ h0).1
  have hlt : s < N := by
    by_cases h : s < N
    · exact h
    · exfalso
      obtain rfl : s = N := by omega
      refine hN (h1 s fun n i hw => ?_)
      exact closed_dvd hE (fun n i hn hle hw => by
        have := hG.least n i hn hw
        obtain rfl : n = s := by omega
        exact Nat.dvd_refl _) hw
  refine ⟨N - s + (N - 1) * s, by omega, ?_, fun i j hi hj => ?_⟩
  · obtain ⟨M, rfl⟩ : ∃ M, N = M + 1 := ⟨N - 1, by omega⟩
    obtain ⟨d, rfl⟩ : ∃ d, M = s + d := ⟨M - s, by omega⟩
    have e : (s + d + 1) * (s + d + 1) = (s + d) * s + (s + d) * d + 2 * (s + d) + 1 := by
      rw [Nat.mul_add, Nat.add_mul, Nat.mul_add (s + d) s d]; omega
    have e2 : d ≤ (s + d) * d := by
      calc d = 1 * d := (Nat.one_mul d).symm
        _ ≤ (s + d) * d := Nat.mul_le_mul_right d (by omega)
    rw [Nat.add_sub_cancel, e]
    omega
  · obtain ⟨_, d, hd, hds⟩ := hG.near hE hJ hi
    have hdN : d < N := by
      rw [show s = (s - 1) + 1 by omega] at hds
      exact (Wk.ends hE hds).1
    exact hd.add (jump_all hE hJ h1 hs hds hdN hj)
end Go.Proofs.YtanelokploifhaaDoor
namespace Go.Proofs.YtanelokploifhaaDoor
open Go Go.RowKit

def bI (b : Bool) : Int := if b then 1 else 0
theorem bI_and (b c : Bool) : bits .and .i64 (bI b) (bI c) = bI (b && c) := by cases b <;> cases c <;> rfl
theorem bI_or (b c : Bool) : bits .or .i64 (bI b) (bI c) = bI (b || c) := by cases b <;> cases c <;> rfl
theorem bI_one (b : Bool) : (bI b == 1) = b := by cases b <;> rfl
theorem bI_zero (b : Bool) : (bI b == 0) = !b := by cases b <;> rfl
theorem bI_range (b : Bool) : 0 ≤ bI b ∧ bI b ≤ 1 := by cases b <;> decide
theorem bI_eq_one {b : Bool} : bI b = 1 ↔ b = true := by cases b <;> simp [bI]
theorem bI_ne_zero {b : Bool} : bI b = 0 ↔ b = false := by cases b <;> simp [bI]

/-- There is an arc. -/
def arcB (m : List (List Int)) (i j : Nat) : Bool := decide (0 < cellOf m i j)
def arcP (m : List (List Int)) (i j : Nat) : Prop := i < m.length ∧ j < m.length ∧ arcB m i j = true
theorem arcP_on (m : List (List Int)) : OnN m.length (arcP m) := fun _ _ h => ⟨h.1, h.2.1⟩
/-- A path that passes vertices below k only. -/
def viaB (m : List (List Int)) : Nat → Nat → Nat → Bool
  | 0, i, j => arcB m i j
  | k + 1, i, j => viaB m k i j || (viaB m k i k && viaB m k k j)
theorem viaB_col (m : List (List Int)) (k i : Nat) : viaB m (k + 1) i k = viaB m k i k := by
  rw [viaB]
  cases viaB m k i k <;> simp
theorem viaB_row (m : List (List Int)) (k j : Nat) : viaB m (k + 1) k j = viaB m k k j := by
  rw [viaB]
  cases viaB m k k j <;> simp
def reachB (m : List (List Int)) (i j : Nat) : Bool := viaB m m.length i j
theorem viaB_walk {m : List (List Int)} : ∀ {k i j : Nat}, k ≤ m.length → i < m.length → j < m.length → viaB m k i j = true → ∃ n, 0 < n ∧ Wk (arcP m) n i j
  | 0, i, j, _, hi, hj, h => ⟨1, by omega, Wk.one ⟨hi, hj, h⟩⟩
  | k + 1, i, j, hk, hi, hj, h => by
    rw [viaB, Bool.or_eq_true, Bool.and_eq_true] at h
    rcases h with h | ⟨h1, h2⟩
    · exact viaB_walk (by omega) hi hj h
    · obtain ⟨a, ha, wa⟩ := viaB_walk (by omega) hi (by omega) h1
      obtain ⟨b, hb, wb⟩ := viaB_walk (by omega) (by omega) hj h2
      exact ⟨a + b, by omega, wa.add wb⟩
theorem viaB_trans {m : List (List Int)} : ∀ {k x i j : Nat}, x < k → viaB m k i x = true → viaB m k x j = true → viaB m k i j = true
  | 0, x, _, _, h, _, _ => absurd h (Nat.not_lt_zero _)
  | k + 1, x, i, j, hx, h1, h2 => by
    by_cases e : x = k
    · subst e
      rw [viaB_col] at h1
      rw [viaB_row] at h2
      rw [viaB, h1, h2]; simp
    · have hx' : x < k := by omega
      rw [viaB, Bool.or_eq_true, Bool.and_eq_true] at h1 h2 ⊢
      rcases h1 with h1 | ⟨h1, h3⟩
      · rcases h2 with h2 | ⟨h2, h4⟩
        · exact Or.inl (viaB_trans hx' h1 h2)
        · exact Or.inr ⟨viaB_trans hx' h1 h2, h4⟩
      · rcases h2 with h2 | ⟨h2, h4⟩
        · exact Or.inr ⟨h1, viaB_trans hx' h3 h2⟩
        · exact Or.inr ⟨h1, h4⟩
theorem viaB_arc {m : List (List Int)} {i j : Nat} (h : arcB m i j = true) : ∀ k, viaB m k i j = true
  | 0 => h
  | k + 1 => by rw [viaB, viaB_arc h k]; rfl
theorem reachB_walk {m : List (List Int)} : ∀ {n i j : Nat}, Wk (arcP m) (n + 1) i j → reachB m i j = true
  | 0, i, j, ⟨k, h1, h2⟩ => by
    obtain rfl : i = k := h1
    exact viaB_arc h2.2.2 _
  | n + 1, i, j, ⟨k, h1, h2⟩ => viaB_trans h2.1 (reachB_walk h1) (viaB_arc h2.2.2 _)
theorem reachB_iff {m : List (List Int)} {i j : Nat} (hi : i < m.length) (hj : j < m.length) : reachB m i j = true ↔ ∃ n, 0 < n ∧ Wk (arcP m) n i j := by
  constructor
  · exact viaB_walk (Nat.le_refl _) hi hj
  · rintro ⟨n, hn, h⟩
    obtain ⟨t, rfl⟩ : ∃ t, n = t + 1 := ⟨n - 1, by omega⟩
    exact reachB_walk h
def reachM (m : List (List Int)) : List (List Int) := tabOf m.length m.length fun i j => bI (reachB m i j)
def reachS (m : List (List Int)) : List (List Int) := if isMat m = true then reachM m else []

/-! ### Walks of n arcs -/

/-- Of the vertices below t, one with a mark of i and an arc to j. -/
def stepK (A : Nat → Nat → Bool) (m : List (List Int)) (t i j : Nat) : Bool := (List.range t).any fun k => A i k && arcB m k j
theorem stepB_next (A : Nat → Nat → Bool) (m : List (List Int)) (t i j : Nat) : stepK A m (t + 1) i j = (stepK A m t i j || (A i t && arcB m t j)) := by
  unfold stepK
  rw [List.range_succ, List.any_append]
  simp
def wkB (m : List (List Int)) : Nat → Nat → Nat → Bool
  | 0, i, j => decide (i = j)
  | n + 1, i, j => stepK (wkB m n) m m.length i j
theorem wkB_iff {m : List (List Int)} : ∀ {n i j : Nat}, i < m.length → j < m.length → (wkB m n i j = true ↔ Wk (arcP m) n i j)
  | 0, i, j, _, _ => by rw [wkB, decide_eq_true_iff]; rfl
  | n + 1, i, j, hi, hj => by
    rw [wkB, stepK, List.any_eq_true]
    constructor
    · rintro ⟨k, hk, h⟩
      have hk' := List.mem_range.1 hk
      rw [Bool.and_eq_true] at h
      exact ⟨k, (wkB_iff hi hk').1 h.1, hk', hj, h.2⟩
    · rintro ⟨k, h1, h2⟩
      refine ⟨k, List.mem_range.2 h2.1, ?_⟩
      rw [Bool.and_eq_true]
      exact ⟨(wkB_iff hi h2.1).2 h1, h2.2.2⟩
def wkM (m : List (List Int)) (n : Nat) : List (List Int) := tabOf m.length m.length fun i j => bI (wkB m n i j)
theorem wkM_zero (m : List (List Int)) : wkM m 0 = oneM m.length := tabOf_congr fun i j _ _ => by
  rw [wkB]
  unfold bI
  by_cases h : i = j
  · rw [if_pos (decide_eq_true h), if_pos h]
  · rw [if_neg (by rw [decide_eq_false h]; decide), if_neg h]

/-! ### Components, period, step, turns -/

def compRow (m : List (List Int)) (i : Nat) : List Nat := (List.range m.length).filter fun j => reachB m i j && reachB m j i
def compList (m : List (List Int)) (i : Nat) : List (List Int) := if (compRow m i).head? = some i then [(compRow m i).map fun (j : Nat) => (j : Int)] else []
def compM (m : List (List Int)) (n : Nat) : List (List Int) := ((List.range n).map (compList m)).flatten
def compS (m : List (List Int)) : List (List Int) := if isMat m = true then compM m m.length else []
def irrM (m : List (List Int)) : Bool := isMat m && (List.range m.length).all fun i => (List.range m.length).all fun j => reachB m i j
def perRow (m : List (List Int)) (n : Nat) : Nat → Nat → Nat
  | 0, p => p
  | i + 1, p => if wkB m n i i then Nat.gcd (perRow m n i p) n else perRow m n i p
def perAcc (m : List (List Int)) : Nat → Nat
  | 0 => 0
  | n + 1 => perRow m (n + 1) m.length (perAcc m n)
def perM (m : List (List Int)) : Nat := perAcc m (2 * m.length)
def perS (m : List (List Int)) : Int := if isMat m = true then ((perM m : Nat) : Int) else 0
def primM (m : List (List Int)) : Bool := irrM m && decide (perM m = 1)
def fullB (m : List (List Int)) (n : Nat) : Bool := (List.range m.length).all fun i => (List.range m.length).all fun j => wkB m n i j
def stepN (m : List (List Int)) : Nat := if primM m then ((List.range 128).find? fun n => fullB m (n + 1)).elim 0 (· + 1) else 0
def distN (m : List (List Int)) (j : Nat) : Nat := ((List.range m.length).find? fun n => wkB m n 0 j).getD 0
def turnN (m : List (List Int)) (j : Nat) : Nat := distN m j % perM m
def turnsM (m : List (List Int)) : List Int := if irrM m then (List.range m.length).map fun j => ((turnN m j : Nat) : Int) else []

theorem irrM_iff {m : List (List Int)} : irrM m = true ↔ isMat m = true ∧ Joined m.length (arcP m) := by
  unfold irrM
  rw [Bool.and_eq_true, List.all_eq_true]
  refine and_congr_right fun _ => ⟨fun h i j hi hj => ?_, fun h i hi => ?_⟩
  · have h1 := h i (List.mem_range.2 hi)
    rw [List.all_eq_true] at h1
    exact (reachB_iff hi hj).1 (h1 j (List.mem_range.2 hj))
  · rw [List.all_eq_true]
    intro j hj
    exact (reachB_iff (List.mem_range.1 hi) (List.mem_range.1 hj)).2 (h i j (List.mem_range.1 hi) (List.mem_range.1 hj))
theorem perRow_dvd {m : List (List Int)} {n : Nat} {g : Nat} : ∀ {i p : Nat}, g ∣ perRow m n i p ↔ g ∣ p ∧ ∀ j, j < i → wkB m n j j = true → g ∣ n
  | 0, p => ⟨fun h => ⟨h, fun j hj => absurd hj (Nat.not_lt_zero _)⟩, fun h => h.1⟩
  | i + 1, p => by
    rw [perRow]
    have ih := @perRow_dvd m n g i p
    constructor
    · intro h
      split at h
      · next hw =>
        have h1 := Nat.dvd_trans h (Nat.gcd_dvd_left _ _)
        have h2 := Nat.dvd_trans h (Nat.gcd_dvd_right _ _)
        exact ⟨(ih.1 h1).1, fun _ _ _ => h2⟩
      · next hw =>
        refine ⟨(ih.1 h).1, fun j hj hw2 => ?_⟩
        by_cases e : j = i
        · subst e; exact absurd hw2 hw
        · exact (ih.1 h).2 j (by omega) hw2
    · rintro ⟨h1, h2⟩
      have h3 := ih.2 ⟨h1, fun j hj => h2 j (by omega)⟩
      split
      · next hw => exact Nat.dvd_gcd h3 (h2 i (by omega) hw)
      · exact h3
theorem perAcc_dvd {m : List (List Int)} {g : Nat} : ∀ {n : Nat}, g ∣ perAcc m n ↔ ∀ k i, 0 < k → k ≤ n → i < m.length → wkB m k i i = true → g ∣ k
  | 0 => ⟨fun _ k i h1 h2 => by omega, fun _ => Nat.dvd_zero _⟩
  | n + 1 => by
    rw [perAcc, perRow_dvd, @perAcc_dvd m g n]
    constructor
    · rintro ⟨h1, h2⟩ k i hk0 hk hi hw
      by_cases e : k = n + 1
      · subst e; exact h2 i hi hw
      · exact h1 k i hk0 (by omega) hi hw
    · intro h
      exact ⟨fun k i hk0 hk hi hw => h k i hk0 (by omega) hi hw, fun j hj hw => h (n + 1) j (by omega) (Nat.le_refl _) hj hw⟩
theorem closed_lt {m : List (List Int)} {n i : Nat} (hn : 0 < n) (h : Wk (arcP m) n i i) : i < m.length := by
  rw [show n = (n - 1) + 1 by omega] at h
  exact (Wk.ends (arcP_on m) h).1
theorem perM_dvd {m : List (List Int)} {g : Nat} : g ∣ perM m ↔ ∀ n i, Wk (arcP m) n i i → g ∣ n := by
  unfold perM
  rw [perAcc_dvd]
  constructor
  · intro h n i hw
    refine closed_dvd (arcP_on m) (fun k j hk hle hw2 => ?_) hw
    have hj := closed_lt hk hw2
    exact h k j hk (by omega) hj ((wkB_iff hj hj).2 hw2)
  · intro h k i hk0 _ hi hw
    exact h k i ((wkB_iff hi hi).1 hw)
theorem perM_closed {m : List (List Int)} {n i : Nat} (h : Wk (arcP m) n i i) : perM m ∣ n := perM_dvd.1 (Nat.dvd_refl _) n i h
theorem perM_pos {m : List (List Int)} (h0 : 0 < m.length) (h : Joined m.length (arcP m)) : 0 < perM m := by
  obtain ⟨n, hn, hw⟩ := h 0 0 h0 h0
  have := perM_closed hw
  by_cases e : perM m = 0
  · rw [e, Nat.zero_dvd] at this; omega
  · omega
theorem primM_full {m : List (List Int)} (h : primM m = true) : ∃ n, 0 < n ∧ n + 2 * m.length ≤ m.length * m.length + 2 ∧ FullAt m.length (arcP m) n := by
  unfold primM at h
  rw [Bool.and_eq_true, decide_eq_true_iff] at h
  obtain ⟨hi, hp⟩ := h
  obtain ⟨hm, hJ⟩ := irrM_iff.1 hi
  have hf := isMat_facts hm
  refine full_bound (arcP_on m) hf.pos hJ fun g hg => ?_
  have := perM_dvd.2 hg
  rw [hp] at this
  exact Nat.dvd_one.1 this
theorem fullB_iff {m : List (List Int)} {n : Nat} : fullB m n = true ↔ FullAt m.length (arcP m) n := by
  unfold fullB FullAt
  rw [List.all_eq_true]
  constructor
  · intro h i j hi hj
    have h1 := h i (List.mem_range.2 hi)
    rw [List.all_eq_true] at h1
    exact (wkB_iff hi hj).1 (h1 j (List.mem_range.2 hj))
  · intro h i hi
    rw [List.all_eq_true]
    intro j hj
    exact (wkB_iff (List.mem_range.1 hi) (List.mem_range.1 hj)).2 (h i j (List.mem_range.1 hi) (List.mem_range.1 hj))
theorem find_first {p : Nat → Bool} {n N : Nat} (hn : n < N) (hp : p n = true) (hmin : ∀ k, k < n → p k = false) : (List.range N).find? p = some n := by
  rw [List.find?_range_eq_some]
  exact ⟨hp, List.mem_range.2 hn, fun k hk => by rw [hmin k hk]; rfl⟩
/-- The first full number of steps is the primitive step. -/
theorem stepN_is {m : List (List Int)} (h : primM m = true) {n : Nat} (hn : 0 < n) (hf : fullB m n = true) (hmin : ∀ k, 0 < k → k < n → fullB m k = false) : stepN m = n := by
  obtain ⟨b, hb0, hb, hfb⟩ := primM_full h
  have hle : n ≤ b := by
    by_cases hlt : b < n
    · have := hmin b hb0 hlt
      rw [fullB_iff.2 hfb] at this; cases this
    · omega
  have hi : irrM m = true := by
    unfold primM at h
    rw [Bool.and_eq_true] at h
    exact h.1
  have hm := isMat_facts (irrM_iff.1 hi).1
  have hl := hm.le
  have hsq : m.length * m.length ≤ 81 := by
    calc m.length * m.length ≤ 9 * m.length := Nat.mul_le_mul_right _ hl
      _ ≤ 9 * 9 := Nat.mul_le_mul_left 9 hl
  unfold stepN
  rw [if_pos h]
  obtain ⟨t, rfl⟩ : ∃ t, n = t + 1 := ⟨n - 1, by omega⟩
  have hpos := hm.pos
  rw [find_first (p := fun n => fullB m (n + 1)) (n := t) (by omega) hf (fun k hk => hmin (k + 1) (by omega) (by omega))]
  rfl
end Go.Proofs.YtanelokploifhaaDoor
namespace Go.Proofs.YtanelokploifhaaDoor
open Go Go.RowKit

/-- Of vertex i: how many arcs lead to vertices that lead back. -/
def outC (m : List (List Int)) (i : Nat) : Int := sumTo m.length fun j => if reachB m i j && reachB m j i then cellOf m i j else 0
def lightF (m : List (List Int)) : Prop := ∀ i, i < m.length → reachB m i i = true → outC m i = 1
theorem small_nonneg {m : List (List Int)} (h : smallM m = true) : nonneg m.length (cellOf m) := fun i j hi hj => ((small_facts h).2.2 i j hi hj).1
theorem reach_arc {m : List (List Int)} {i j : Nat} (h : arcB m i j = true) : reachB m i j = true := viaB_arc h _
theorem reach_trans {m : List (List Int)} {i j k : Nat} (hi : i < m.length) (hj : j < m.length) (hk : k < m.length) (h1 : reachB m i j = true) (h2 : reachB m j k = true) : reachB m i k = true := by
  obtain ⟨a, ha, wa⟩ := (reachB_iff hi hj).1 h1
  obtain ⟨b, hb, wb⟩ := (reachB_iff hj hk).1 h2
  exact (reachB_iff hi hk).2 ⟨a + b, by omega, wa.add wb⟩

/-! ### Heavy ones -/

theorem walk_grows {m : List (List Int)} (hf : nonneg m.length (cellOf m)) {q d : Int} (hd : 0 ≤ d) (hq : 0 ≤ q) {x : Nat → Int} (hx : ∀ i, i < m.length → 0 < x i) (h : ∀ i, i < m.length → d * rowX m.length (cellOf m) x i < q * x i) :
    ∀ {t : Nat} {j i : Nat}, j < m.length → i < m.length → Wk (arcP m) t j i → d ^ t * x i ≤ q ^ t * x j
  | 0, j, i, _, _, w => by
    obtain rfl : j = i := w
    rw [Int.pow_zero, Int.pow_zero]; exact Int.le_refl _
  | t + 1, j, i, hj, hi, w => by
    obtain ⟨k, w1, hk1, _, ha⟩ := w
    have ih := walk_grows hf hd hq hx h hj hk1 w1
    have hm : 1 ≤ cellOf m k i := by
      have := of_decide_eq_true ha; omega
    have h1 : cellOf m k i * x i ≤ rowX m.length (cellOf m) x k := sumTo_term (f := fun j => cellOf m k j * x j) hi fun j hj => Int.mul_nonneg (hf k j hk1 hj) (by have := hx j hj; omega)
    have h2 : 1 * x i ≤ cellOf m k i * x i := Int.mul_le_mul_of_nonneg_right hm (by have := hx i hi; omega)
    have h3 : d * x i ≤ d * rowX m.length (cellOf m) x k := Int.mul_le_mul_of_nonneg_left (by omega) hd
    have h4 := h k hk1
    have h5 : d * x i ≤ q * x k := by omega
    have h6 : d ^ t * (d * x i) ≤ d ^ t * (q * x k) := Int.mul_le_mul_of_nonneg_left h5 (Int.pow_nonneg hd)
    have h7 : q * (d ^ t * x k) ≤ q * (q ^ t * x j) := Int.mul_le_mul_of_nonneg_left ih hq
    rw [Int.pow_succ, Int.pow_succ]
    have e1 : d ^ t * d * x i = d ^ t * (d * x i) := by grind
    have e2 : d ^ t * (q * x k) = q * (d ^ t * x k) := by grind
    have e3 : q ^ t * q * x j = q * (q ^ t * x j) := by grind
    omega
theorem pow_three {q d : Int} (hd : 0 ≤ d) (hdq : d ≤ q) {t : Nat} (ht : t ≤ 3) {a b : Int} (ha : 0 ≤ a) (hb : 0 ≤ b) (h : d ^ t * a ≤ q ^ t * b) : d ^ 3 * a ≤ q ^ 3 * b := by
  obtain ⟨s, hs⟩ : ∃ s, 3 = t + s := ⟨3 - t, by omega⟩
  have hpow : ∀ s : Nat, d ^ s ≤ q ^ s := fun s => by
    induction s with
    | zero => rw [Int.pow_zero, Int.pow_zero]; exact Int.le_refl _
    | succ s ih =>
      rw [Int.pow_succ, Int.pow_succ]
      exact Int.le_trans (Int.mul_le_mul_of_nonneg_right ih hd) (Int.mul_le_mul_of_nonneg_left hdq (Int.pow_nonneg (by omega)))
  rw [hs, Int.pow_add, Int.pow_add]
  have h1 : d ^ s * (d ^ t * a) ≤ d ^ s * (q ^ t * b) := Int.mul_le_mul_of_nonneg_left h (Int.pow_nonneg hd)
  have h2 : d ^ s * (q ^ t * b) ≤ q ^ s * (q ^ t * b) := Int.mul_le_mul_of_nonneg_right (hpow s) (Int.mul_nonneg (Int.pow_nonneg (by omega)) hb)
  have e1 : d ^ t * d ^ s * a = d ^ s * (d ^ t * a) := by grind
  have e2 : q ^ t * q ^ s * b = q ^ s * (q ^ t * b) := by grind
  have := ha
  omega
/-- A vertex with two such arcs: the growth is not below q / d, for all d to q with q to the fourth at most twice d to the fourth. -/
theorem heavy_not {m : List (List Int)} (hm : smallM m = true) {q d : Int} (hd : 0 < d) (hdq : d ≤ q) (h4 : q ^ 4 ≤ 2 * d ^ 4) {i : Nat} (hi : i < m.length) (hout : 2 ≤ outC m i) : ¬ Bel m.length (cellOf m) q d := by
  rintro ⟨x, hx, h⟩
  have hf := small_nonneg hm
  have hn4 := (small_facts hm).2.1
  have hback : ∀ j, j < m.length → reachB m j i = true → d ^ 3 * x i ≤ q ^ 3 * x j := fun j hj hr => by
    obtain ⟨n, _, w⟩ := (reachB_iff hj hi).1 hr
    obtain ⟨k, hk, _, wk⟩ := Wk.short (arcP_on m) (by omega) w
    exact pow_three (Int.le_of_lt hd) hdq (by omega) (by have := hx i hi; omega) (by have := hx j hj; omega) (walk_grows hf (Int.le_of_lt hd) (by omega) hx h hj hi wk)
  have hq3 : (0 : Int) ≤ q ^ 3 := Int.pow_nonneg (by omega)
  have hd3 : (0 : Int) ≤ d ^ 3 := Int.pow_nonneg (by omega)
  have hxi := hx i hi
  have h1 : d ^ 3 * x i * outC m i ≤ q ^ 3 * rowX m.length (cellOf m) x i := by
    unfold outC rowX
    rw [← sumTo_mulc, ← sumTo_mulc]
    refine sumTo_mono2 fun j hj => ?_
    have hc := hf i j hi hj
    have hxj := hx j hj
    by_cases hr : (reachB m i j && reachB m j i) = true
    · rw [if_pos hr]
      rw [Bool.and_eq_true] at hr
      have h2 := Int.mul_le_mul_of_nonneg_right (hback j hj hr.2) hc
      have e : q ^ 3 * (cellOf m i j * x j) = q ^ 3 * x j * cellOf m i j := by grind
      rw [e]; exact h2
    · rw [if_neg hr, Int.mul_zero]
      exact Int.mul_nonneg hq3 (Int.mul_nonneg hc (by omega))
  have h2 := h i hi
  generalize rowX m.length (cellOf m) x i = y at *
  generalize outC m i = o at *
  have hdx : 0 ≤ d ^ 3 * x i := Int.mul_nonneg hd3 (by omega)
  have h3 : d ^ 3 * x i * 2 ≤ d ^ 3 * x i * o := Int.mul_le_mul_of_nonneg_left hout hdx
  have h5 : d * (d ^ 3 * x i * 2) ≤ d * (q ^ 3 * y) := Int.mul_le_mul_of_nonneg_left (Int.le_trans h3 h1) (Int.le_of_lt hd)
  have hq3p : (0 : Int) < q ^ 3 := Int.pow_pos (by omega)
  have h6 : q ^ 3 * (d * y) < q ^ 3 * (q * x i) := Int.mul_lt_mul_of_pos_left h2 hq3p
  have h7 : q ^ 4 * x i ≤ 2 * d ^ 4 * x i := Int.mul_le_mul_of_nonneg_right h4 (by omega)
  have e1 : d * (d ^ 3 * x i * 2) = 2 * d ^ 4 * x i := by grind
  have e2 : d * (q ^ 3 * y) = q ^ 3 * (d * y) := by grind
  have e3 : q ^ 3 * (q * x i) = q ^ 4 * x i := by grind
  omega

/-! ### Light ones -/

/-- How many vertices are reached from i, itself among them. -/
def lev (m : List (List Int)) (i : Nat) : Nat := ((List.range m.length).filter fun j => decide (j = i) || reachB m i j).length
theorem filt_le {p r : Nat → Bool} {l : List Nat} (h : ∀ x ∈ l, p x = true → r x = true) : (l.filter p).length ≤ (l.filter r).length := by
  induction l with
  | nil => exact Nat.le_refl _
  | cons a l ih =>
    have h1 := ih fun x hx => h x (by simp [hx])
    cases hp : p a with
    | true => rw [List.filter_cons_of_pos hp, List.filter_cons_of_pos (h a (by simp) hp)]; simp only [List.length_cons]; omega
    | false =>
      rw [List.filter_cons_of_neg (by rw [hp]; decide)]
      cases hr : r a with
      | true => rw [List.filter_cons_of_pos hr]; simp only [List.length_cons]; omega
      | false => rw [List.filter_cons_of_neg (by rw [hr]; decide)]; exact h1
theorem filt_lt {p r : Nat → Bool} {l : List Nat} (h : ∀ x ∈ l, p x = true → r x = true) {y : Nat} (hy : y ∈ l) (hp : p y = false) (hr : r y = true) : (l.filter p).length < (l.filter r).length := by
  induction l with
  | nil => cases hy
  | cons a l ih =>
    have hle := filt_le (l := l) fun x hx => h x (by simp [hx])
    by_cases e : a = y
    · subst e
      rw [List.filter_cons_of_neg (by rw [hp]; decide), List.filter_cons_of_pos hr]
      simp only [List.length_cons]; omega
    · have hy2 : y ∈ l := by
        rcases List.mem_cons.1 hy with h1 | h1
        · exact absurd h1.symm e
        · exact h1
      have h1 := ih (fun x hx => h x (by simp [hx])) hy2
      cases hpa : p a with
      | true => rw [List.filter_cons_of_pos hpa, List.filter_cons_of_pos (h a (by simp) hpa)]; simp only [List.length_cons]; omega
      | false =>
        rw [List.filter_cons_of_neg (by rw [hpa]; decide)]
        cases hra : r a with
        | true => rw [List.filter_cons_of_pos hra]; simp only [List.length_cons]; omega
        | false => rw [List.filter_cons_of_neg (by rw [hra]; decide)]; exact h1
theorem lev_le {m : List (List Int)} {i j : Nat} (hi : i < m.length) (hj : j < m.length) (h : reachB m i j = true) : lev m j ≤ lev m i := by
  refine filt_le fun k hk hp => ?_
  have hk' := List.mem_range.1 hk
  rw [Bool.or_eq_true, decide_eq_true_iff] at hp ⊢
  rcases hp with rfl | hp
  · exact Or.inr h
  · exact Or.inr (reach_trans hi hj hk' h hp)
theorem lev_lt {m : List (List Int)} {i j : Nat} (hi : i < m.length) (hj : j < m.length) (h : reachB m i j = true) (hb : reachB m j i = false) : lev m j < lev m i := by
  refine filt_lt (y := i) (fun k hk hp => ?_) (List.mem_range.2 hi) ?_ (by simp)
  · have hk' := List.mem_range.1 hk
    rw [Bool.or_eq_true, decide_eq_true_iff] at hp ⊢
    rcases hp with rfl | hp
    · exact Or.inr h
    · exact Or.inr (reach_trans hi hj hk' h hp)
  · rw [hb, Bool.or_false]
    refine decide_eq_false fun e => ?_
    subst e
    rw [h] at hb; cases hb
theorem lev_pos {m : List (List Int)} {i : Nat} (hi : i < m.length) : 0 < lev m i := by
  unfold lev
  exact List.length_pos_of_mem (List.mem_filter.2 ⟨List.mem_range.2 hi, by simp⟩)
theorem pow_up {T : Int} (hT : 1 ≤ T) {a b : Nat} (h : a ≤ b) : T ^ a ≤ T ^ b := by
  obtain ⟨c, rfl⟩ : ∃ c, b = a + c := ⟨b - a, by omega⟩
  have h1 : (1 : Int) ≤ T ^ c := by
    have : (0 : Int) < T ^ c := Int.pow_pos (by omega)
    omega
  have h3 : (0 : Int) ≤ T ^ a := Int.pow_nonneg (by omega)
  have h2 := Int.mul_le_mul_of_nonneg_left h1 h3
  rw [Int.pow_add]; omega
theorem light_bel {m : List (List Int)} (hm : smallM m = true) (hl : lightF m) {q d : Int} (hd : 0 < d) (hdq : d < q) : Bel m.length (cellOf m) q d := by
  obtain ⟨_, hn4, hc9⟩ := small_facts hm
  have hf := small_nonneg hm
  obtain ⟨T, hT⟩ : ∃ T, 36 * d + 1 = T := ⟨_, rfl⟩
  have hT1 : 1 ≤ T := by omega
  refine ⟨fun i => T ^ lev m i, fun i hi => Int.pow_pos (by omega), fun i hi => ?_⟩
  obtain ⟨l, hle⟩ : ∃ l, lev m i = l + 1 := ⟨lev m i - 1, by have := lev_pos hi; omega⟩
  have hP : (0 : Int) < T ^ l := Int.pow_pos (by omega)
  have hterm : ∀ j, j < m.length → cellOf m i j * T ^ lev m j ≤ T ^ (l + 1) * (if reachB m i j && reachB m j i then cellOf m i j else 0) + 9 * T ^ l := fun j hj => by
    have hc := hc9 i j hi hj
    by_cases h0 : cellOf m i j = 0
    · rw [h0, Int.zero_mul]
      have : (if reachB m i j && reachB m j i then (0 : Int) else 0) = 0 := by split <;> rfl
      rw [this, Int.mul_zero]
      omega
    · have ha : reachB m i j = true := reach_arc (by unfold arcB; exact decide_eq_true (by omega))
      cases hb : reachB m j i with
      | true =>
        rw [ha, Bool.true_and, if_pos rfl]
        have h1 := lev_le hj hi hb
        have h2 := lev_le hi hj ha
        have e : lev m j = l + 1 := by omega
        rw [e, Int.mul_comm]
        omega
      | false =>
        rw [ha, Bool.true_and, if_neg (by decide), Int.mul_zero]
        have h1 := lev_lt hi hj ha hb
        have h2 : T ^ lev m j ≤ T ^ l := pow_up hT1 (by omega)
        have h3 : cellOf m i j * T ^ lev m j ≤ cellOf m i j * T ^ l := Int.mul_le_mul_of_nonneg_left h2 hc.1
        have h4 : cellOf m i j * T ^ l ≤ 9 * T ^ l := Int.mul_le_mul_of_nonneg_right hc.2 (by omega)
        omega
  have hsum : rowX m.length (cellOf m) (fun j => T ^ lev m j) i ≤ T ^ (l + 1) * outC m i + 36 * T ^ l := by
    have h1 := sumTo_mono2 hterm
    rw [sumTo_addf, sumTo_mulc] at h1
    have h2 : (sumTo m.length fun _ => 9 * T ^ l) ≤ 36 * T ^ l := by
      have h3 := (sumTo_le (f := fun _ => 9 * T ^ l) (B := 9 * T ^ l) m.length fun _ _ => ⟨by omega, Int.le_refl _⟩).2
      have h4 : (m.length : Int) * (9 * T ^ l) ≤ 4 * (9 * T ^ l) := Int.mul_le_mul_of_nonneg_right (by omega) (by omega)
      omega
    show (sumTo m.length fun j => cellOf m i j * T ^ lev m j) ≤ T ^ (l + 1) * (sumTo m.length fun j => if reachB m i j && reachB m j i then cellOf m i j else 0) + 36 * T ^ l
    omega
  have hout : outC m i ≤ 1 := by
    cases hr : reachB m i i with
    | true => rw [hl i hi hr]; exact Int.le_refl _
    | false =>
      have h0 : outC m i = 0 := by
        unfold outC
        have : (sumTo m.length fun j => if reachB m i j && reachB m j i then cellOf m i j else 0) = sumTo m.length fun _ => 0 := sumTo_congr _ fun j hj => by
          rw [if_neg]
          intro h
          rw [Bool.and_eq_true] at h
          rw [reach_trans hi hj hi h.1 h.2] at hr; cases hr
        rw [this]
        have h2 := sumTo_nonneg (f := fun _ => (0 : Int)) (n := m.length) fun _ _ => Int.le_refl _
        have h3 := sumTo_nonpos (f := fun _ => (0 : Int)) (n := m.length) fun _ _ => Int.le_refl _
        omega
      omega
  show d * _ < q * T ^ lev m i
  rw [hle]
  have hTl : (0 : Int) ≤ T ^ (l + 1) := Int.pow_nonneg (by omega)
  have h1 : T ^ (l + 1) * outC m i ≤ T ^ (l + 1) * 1 := Int.mul_le_mul_of_nonneg_left hout hTl
  have h2 : d * rowX m.length (cellOf m) (fun j => T ^ lev m j) i ≤ d * (T ^ (l + 1) + 36 * T ^ l) := Int.mul_le_mul_of_nonneg_left (by omega) (Int.le_of_lt hd)
  have h3 : (d + 1) * T ^ (l + 1) ≤ q * T ^ (l + 1) := Int.mul_le_mul_of_nonneg_right (by omega) hTl
  have e1 : d * (T ^ (l + 1) + 36 * T ^ l) = d * T ^ (l + 1) + 36 * d * T ^ l := by grind
  have e2 : (d + 1) * T ^ (l + 1) = d * T ^ (l + 1) + T * T ^ l := by rw [Int.pow_succ]; grind
  have h4 : 36 * d * T ^ l < T * T ^ l := Int.mul_lt_mul_of_pos_right (by omega) hP
  omega
end Go.Proofs.YtanelokploifhaaDoor
namespace Go.Proofs.YtanelokploifhaaDoor
open Go Go.RowKit

theorem small_detS {m : List (List Int)} (h : smallM m = true) : detS m = some (detT m) := by
  obtain ⟨h1, h2, h3⟩ := small_facts h
  have hf := isMat_facts h1
  unfold detS
  rw [if_pos]
  unfold detOk
  rw [decide_eq_true h2, Bool.true_and, List.all_eq_true]
  intro r hr
  obtain ⟨i, hi, rfl⟩ := List.getElem_of_mem hr
  have e : m.getD i [] = m[i] := by simp [List.getD, hi]
  have hrow := hf.row i hi
  rw [e] at hrow
  rw [decide_eq_true hrow, Bool.true_and, List.all_eq_true]
  intro x hx
  obtain ⟨j, hj, rfl⟩ := List.getElem_of_mem hx
  have hc := h3 i j hi (by omega)
  unfold cellOf at hc
  rw [e, List.getD_eq_getElem?_getD, List.getElem?_eq_getElem hj] at hc
  rw [decide_eq_true_iff]
  have hc2 : 0 ≤ (m[i])[j] ∧ (m[i])[j] ≤ 9 := hc
  omega
theorem small_ends {m : List (List Int)} (h : smallM m = true) : charM m = charL m ∧ (charM m).length = m.length + 1 ∧ (charM m).getD m.length 0 = 1 ∧ (charM m).getD (m.length - 1) 0 = -traceM m := by
  obtain ⟨h1, h2, _⟩ := small_facts h
  have hf := isMat_facts h1
  have hp := hf.pos
  have e : charM m = charL m := by unfold charM; rw [if_pos h]
  rw [e]
  refine ⟨rfl, charL_len m, ?_, ?_⟩
  · rw [charL_at m (Nat.le_refl _), Nat.sub_self, minors_zero h2]; rfl
  · rw [charL_at m (Nat.sub_le _ _), show m.length - (m.length - 1) = 1 by omega, minors_one h2]
    unfold traceM
    rw [if_pos h1]
    show -1 * _ = _
    omega
theorem cut_head {p : List Int} (hp : 0 < p.length) (h : p.getD 0 0 ≠ 0) : 0 < (cutL p).length ∧ (cutL p).getD 0 0 = p.getD 0 0 := by
  have hc : 0 < cutLen p p.length := by
    by_cases h0 : cutLen p p.length = 0
    · exact absurd (cutLen_zero p (n := p.length) (k := 0) (by omega) hp) h
    · omega
  have hle := cutLen_le p p.length
  unfold cutL
  refine ⟨by rw [List.length_take]; omega, ?_⟩
  simp [List.getD_eq_getElem?_getD, hc]
theorem turned_head {m : List (List Int)} (h : smallM m = true) : 0 < (turnedM m).length ∧ (turnedM m).getD 0 0 = 1 := by
  obtain ⟨_, h2, _⟩ := small_facts h
  have e : turnedM m = cutL (turnedL m) := by unfold turnedM; rw [if_pos h]
  have hl : (turnedL m).length = m.length + 1 := by simp [turnedL]
  have h0 : (turnedL m).getD 0 0 = 1 := by
    unfold turnedL
    rw [List.getD_eq_getElem?_getD, List.getElem?_map, List.getElem?_range (by omega)]
    show sgn 0 * minorsN m 0 = 1
    rw [minors_zero h2]; rfl
  rw [e]
  obtain ⟨h3, h4⟩ := cut_head (p := turnedL m) (by omega) (by rw [h0]; decide)
  exact ⟨h3, by rw [h4, h0]⟩
theorem det_abs {m : List (List Int)} (h : smallM m = true) : (detT m).natAbs ≤ 1000000 := by
  have h1 := minors_abs h m.length
  rwa [minors_all (small_facts h).2.1] at h1
theorem trace_abs {m : List (List Int)} (h : smallM m = true) : (traceM m).natAbs ≤ 1000000 := by
  obtain ⟨h1, h2, _⟩ := small_facts h
  have h3 := minors_abs h 1
  rw [minors_one h2] at h3
  unfold traceM
  rwa [if_pos h1]
theorem not_smallM {m : List (List Int)} (h : smallM m = false) : charM m = [] ∧ turnedM m = [] := by
  unfold charM turnedM
  rw [h]
  exact ⟨rfl, rfl⟩
theorem small_root {m : List (List Int)} (h : smallM m = true) : rootM m = decide (detT m ≠ 0) := by
  unfold rootM
  rw [h]; rfl
theorem hor2_abs {p : List Int} (h : ∀ k, (p.getD k 0).natAbs ≤ 1000000) : ∀ n, (hor p 2 n).natAbs ≤ (2 ^ n - 1) * 1000000
  | 0 => by simp [hor]
  | n + 1 => by
    have ih := hor2_abs h n
    have h1 := h (p.length - 1 - n)
    have h2 : 0 < 2 ^ n := Nat.two_pow_pos n
    rw [hor, Nat.pow_succ]
    generalize hor p 2 n = y at *
    generalize p.getD (p.length - 1 - n) 0 = z at *
    generalize 2 ^ n = q at *
    omega
/-- The value at 2 of a list of at most 4 numbers. -/
theorem two_abs {p : List Int} {f : Int} (hl : p.length ≤ 4) (h : atP p 2 = some f) : f = hor p 2 p.length ∧ f.natAbs ≤ 15000000 := by
  unfold atP at h
  split at h
  · next hc =>
    rw [Bool.and_eq_true] at hc
    obtain rfl := Option.some.inj h
    refine ⟨rfl, ?_⟩
    have h1 := hor2_abs (fits_at hc.1).2 p.length
    have h2 : 2 ^ p.length ≤ 2 ^ 4 := Nat.pow_le_pow_right (by decide) hl
    omega
  · cases h
theorem two_prod {a b : List Int} {f g h : Int} (ha : a.length ≤ 4) (hb : b.length ≤ 2) (hp : 0 < (mulP a b).length) (e1 : atP a 2 = some f) (e2 : atP b 2 = some g) (e3 : atP (mulP a b) 2 = some h) : f * g = h := by
  have hv : ∀ (p : List Int) (y : Int), atP p 2 = some y → y = hor p 2 p.length := fun p y hy => by
    unfold atP at hy
    split at hy
    · exact (Option.some.inj hy).symm
    · cases hy
  rw [hv a f e1, hv b g e2, hv _ h e3]
  exact prod_value ha hb fun e => by rw [e] at hp; exact absurd hp (Nat.lt_irrefl 0)
theorem prod_abs {f g : Int} (hf : f.natAbs ≤ 15000000) (hg : g.natAbs ≤ 15000000) : (f * g).natAbs ≤ 225000000000000 := by
  rw [Int.natAbs_mul]
  exact Nat.mul_le_mul hf hg
end Go.Proofs.YtanelokploifhaaDoor
namespace Go.Proofs.YtanelokploifhaaDoor
open Go Go.RowKit

def isGraphM (m : List (List Int)) : Bool := isMat m && decide (sumM m ≤ 60)

/-! ### Arcs -/

def arcsRow (m : List (List Int)) (i j : Nat) : List (List Int) := (List.range j).flatMap fun j' => List.replicate (cellOf m i j').toNat [(i : Int), (j' : Int)]
def arcsRows (m : List (List Int)) (i : Nat) : List (List Int) := (List.range i).flatMap fun i' => arcsRow m i' m.length
/-- The arcs ahead of i and j, and k arcs there. -/
def arcsTo (m : List (List Int)) (i j k : Nat) : List (List Int) := arcsRows m i ++ arcsRow m i j ++ List.replicate k [(i : Int), (j : Int)]
def arcsM (m : List (List Int)) : List (List Int) := arcsRows m m.length
theorem arcsRow_next (m : List (List Int)) (i j : Nat) : arcsRow m i (j + 1) = arcsRow m i j ++ List.replicate (cellOf m i j).toNat [(i : Int), (j : Int)] := by
  unfold arcsRow; rw [List.range_succ, List.flatMap_append]; simp
theorem arcsRows_next (m : List (List Int)) (i : Nat) : arcsRows m (i + 1) = arcsRows m i ++ arcsRow m i m.length := by
  unfold arcsRows; rw [List.range_succ, List.flatMap_append]; simp
theorem arcsTo_zero (m : List (List Int)) : arcsTo m 0 0 0 = [] := rfl
theorem arcsTo_next (m : List (List Int)) (i j k : Nat) : arcsTo m i j (k + 1) = arcsTo m i j k ++ [[(i : Int), (j : Int)]] := by
  unfold arcsTo; rw [List.replicate_succ', ← List.append_assoc]
theorem arcsTo_col (m : List (List Int)) (i j : Nat) : arcsTo m i j (cellOf m i j).toNat = arcsTo m i (j + 1) 0 := by
  unfold arcsTo; rw [arcsRow_next, List.replicate_zero, List.append_nil, List.append_assoc]
theorem arcsTo_row (m : List (List Int)) (i : Nat) : arcsTo m i m.length 0 = arcsTo m (i + 1) 0 0 := by
  unfold arcsTo; rw [arcsRows_next]; simp [arcsRow]
theorem arcsTo_all (m : List (List Int)) : arcsTo m m.length 0 0 = arcsM m := by
  unfold arcsTo arcsM; simp [arcsRow]
theorem arcsRow_length {m : List (List Int)} {i : Nat} : ∀ (j : Nat), (∀ j', j' < j → 0 ≤ cellOf m i j') → ((arcsRow m i j).length : Int) = sumTo j fun j' => cellOf m i j'
  | 0, _ => rfl
  | j + 1, h => by
    have h1 := arcsRow_length j fun j' hj => h j' (by omega)
    have h2 := h j (by omega)
    rw [arcsRow_next, List.length_append, List.length_replicate, sumTo, ← h1]
    omega
theorem arcsRows_length {m : List (List Int)} : ∀ (i : Nat), (∀ i' j', i' < i → j' < m.length → 0 ≤ cellOf m i' j') → ((arcsRows m i).length : Int) = sumTo i fun i' => sumTo m.length fun j' => cellOf m i' j'
  | 0, _ => rfl
  | i + 1, h => by
    have h1 := arcsRows_length i fun i' j' hi hj => h i' j' (by omega) hj
    have h2 := arcsRow_length (i := i) m.length fun j' hj => h i j' (by omega) hj
    rw [arcsRows_next, List.length_append, sumTo, ← h1, ← h2]
    omega
/-- As many arcs as the sum of all numbers. -/
theorem arcsM_length {m : List (List Int)} (h : isMat m = true) : ((arcsM m).length : Int) = sumM m := by
  unfold arcsM sumM
  rw [if_pos h]
  exact arcsRows_length m.length fun i' j' hi hj => (((isMat_iff.1 h).2 i' hi).2 j' hj).1
theorem arcsTo_le {m : List (List Int)} (h : isMat m = true) {i j k : Nat} (hi : i ≤ m.length) (hj : j ≤ m.length) (hij : i < m.length ∨ j = 0) (hk : k ≤ 1000000) : (arcsTo m i j k).length ≤ 100000000 := by
  obtain ⟨⟨_, h9⟩, hc⟩ := isMat_iff.1 h
  have h1 := arcsRows_length (m := m) i fun i' j' hi' hj' => ((hc i' (by omega)).2 j' hj').1
  have h2 := sumTo_le (f := fun i' => sumTo m.length fun j' => cellOf m i' j') (B := 9000000) i fun i' hi' => by
    have := sumTo_le (f := fun j' => cellOf m i' j') (B := 1000000) m.length fun j' hj' => (hc i' (by omega)).2 j' hj'
    exact ⟨this.1, by omega⟩
  have h3 : (arcsRow m i j).length ≤ 9000000 := by
    rcases hij with hij | rfl
    · have h4 := arcsRow_length (m := m) (i := i) j fun j' hj' => ((hc i hij).2 j' (by omega)).1
      have h5 := sumTo_le (f := fun j' => cellOf m i j') (B := 1000000) j fun j' hj' => (hc i hij).2 j' (by omega)
      omega
    · simp [arcsRow]
  unfold arcsTo
  rw [List.length_append, List.length_append, List.length_replicate]
  omega
/-- Each arc has two ends. -/
theorem arcsM_two (m : List (List Int)) : ∀ r ∈ arcsM m, r.length = 2 := by
  intro r hr
  unfold arcsM arcsRows arcsRow at hr
  simp only [List.mem_flatMap, List.mem_range, List.mem_replicate] at hr
  obtain ⟨i, _, j, _, _, rfl⟩ := hr
  rfl

/-! ### Paths -/

def endOf (arcs : List (List Int)) (k : Int) : Int := cellOf arcs k.toNat 1
def startOf (arcs : List (List Int)) (k : Int) : Int := cellOf arcs k.toNat 0
def pathOk (arcs : List (List Int)) (p : List Int) (k : Nat) : Bool :=
  (decide (0 ≤ p.getD k 0) && decide (p.getD k 0 ≤ (arcs.length : Int) - 1)) && (decide (k = 0) || decide (endOf arcs (p.getD (k - 1) 0) = startOf arcs (p.getD k 0)))
def isPathM (arcs : List (List Int)) (p : List Int) : Bool := (List.range p.length).all (pathOk arcs p)
theorem isPathM_bad {arcs : List (List Int)} {p : List Int} {k : Nat} (hk : k < p.length) (h : pathOk arcs p k = false) : isPathM arcs p = false := by
  unfold isPathM
  rw [List.all_eq_false]
  exact ⟨k, List.mem_range.2 hk, by rw [h]; simp⟩
theorem isPathM_all {arcs : List (List Int)} {p : List Int} (h : ∀ k, k < p.length → pathOk arcs p k = true) : isPathM arcs p = true := by
  unfold isPathM
  rw [List.all_eq_true]
  exact fun k hk => h k (List.mem_range.1 hk)

/-- Whether arc k goes on where the path's last arc ends. -/
def goesOnM (arcs : List (List Int)) (head : List Int) (k : Nat) : Bool := decide (head.length = 0) || decide (endOf arcs (head.getD (head.length - 1) 0) = cellOf arcs k 0)
/-- The paths that begin with head and have d arcs more. -/
def fillM (arcs : List (List Int)) : Nat → List Int → List (List Int)
  | 0, head => [head]
  | d + 1, head => (List.range arcs.length).flatMap fun k => if goesOnM arcs head k = true then fillM arcs d (head ++ [(k : Int)]) else []
/-- Those whose next arc is ahead of k. -/
def fillTo (arcs : List (List Int)) (d : Nat) (head : List Int) (k : Nat) : List (List Int) := (List.range k).flatMap fun k => if goesOnM arcs head k = true then fillM arcs d (head ++ [(k : Int)]) else []
theorem fillTo_zero (arcs : List (List Int)) (d : Nat) (head : List Int) : fillTo arcs d head 0 = [] := rfl
theorem fillTo_next (arcs : List (List Int)) (d : Nat) (head : List Int) (k : Nat) : fillTo arcs d head (k + 1) = fillTo arcs d head k ++ (if goesOnM arcs head k = true then fillM arcs d (head ++ [(k : Int)]) else []) := by
  unfold fillTo; rw [List.range_succ, List.flatMap_append]; simp
theorem fillTo_all (arcs : List (List Int)) (d : Nat) (head : List Int) : fillTo arcs d head arcs.length = fillM arcs (d + 1) head := rfl
theorem fillM_le (arcs : List (List Int)) : ∀ (d : Nat) (head : List Int), (fillM arcs d head).length ≤ arcs.length ^ d
  | 0, head => by simp [fillM]
  | d + 1, head => by
    have h : ∀ k, (fillTo arcs d head k).length ≤ k * arcs.length ^ d := by
      intro k
      induction k with
      | zero => simp [fillTo]
      | succ k ih =>
        rw [fillTo_next, List.length_append, Nat.add_mul, Nat.one_mul]
        split
        · have := fillM_le arcs d (head ++ [(k : Int)])
          omega
        · simp; omega
    have := h arcs.length
    rw [fillTo_all] at this
    rw [Nat.pow_succ, Nat.mul_comm]; exact this

/-! ### What goes on for ever -/

/-- Each vertex of T has arcs to and from vertices of T. -/
def Good (m : List (List Int)) (T : Nat → Bool) : Prop := ∀ i, T i = true → i < m.length ∧ (∃ j, T j = true ∧ 0 < cellOf m i j) ∧ ∃ j, T j = true ∧ 0 < cellOf m j i
def liveStep (m : List (List Int)) (S : Nat → Bool) : Nat → Bool := fun i => S i && ((List.range m.length).any fun j => S j && decide (0 < cellOf m i j)) && ((List.range m.length).any fun j => S j && decide (0 < cellOf m j i))
def liveK (m : List (List Int)) : Nat → Nat → Bool
  | 0 => fun i => decide (i < m.length)
  | k + 1 => liveStep m (liveK m k)
def liveM (m : List (List Int)) : Nat → Bool := liveK m m.length
theorem liveK_lt {m : List (List Int)} : ∀ (k : Nat) {i : Nat}, liveK m k i = true → i < m.length
  | 0, i, h => of_decide_eq_true h
  | k + 1, i, h => by
    unfold liveK liveStep at h
    rw [Bool.and_eq_true, Bool.and_eq_true] at h
    exact liveK_lt k h.1.1
theorem liveK_less {m : List (List Int)} (k i : Nat) (h : liveK m (k + 1) i = true) : liveK m k i = true := by
  unfold liveK liveStep at h
  rw [Bool.and_eq_true, Bool.and_eq_true] at h
  exact h.1.1
theorem good_in_step {m : List (List Int)} {T S : Nat → Bool} (hT : Good m T) (hS : ∀ i, T i = true → S i = true) : ∀ i, T i = true → liveStep m S i = true := by
  intro i hi
  obtain ⟨_, ⟨j, hj, hj2⟩, k, hk, hk2⟩ := hT i hi
  unfold liveStep
  rw [Bool.and_eq_true, Bool.and_eq_true, List.any_eq_true, List.any_eq_true]
  refine ⟨⟨hS i hi, j, List.mem_range.2 (hT j hj).1, ?_⟩, k, List.mem_range.2 (hT k hk).1, ?_⟩
  · rw [hS j hj, decide_eq_true hj2]; rfl
  · rw [hS k hk, decide_eq_true hk2]; rfl
theorem good_in_liveK {m : List (List Int)} {T : Nat → Bool} (hT : Good m T) : ∀ (k i : Nat), T i = true → liveK m k i = true
  | 0, i, h => decide_eq_true (hT i h).1
  | k + 1, i, h => good_in_step hT (good_in_liveK hT k) i h
theorem good_of_step {m : List (List Int)} {S : Nat → Bool} (hl : ∀ i, S i = true → i < m.length) (h : ∀ i, S i = true → liveStep m S i = true) : Good m S := by
  intro i hi
  have h1 := h i hi
  unfold liveStep at h1
  rw [Bool.and_eq_true, Bool.and_eq_true, List.any_eq_true, List.any_eq_true] at h1
  obtain ⟨⟨_, j, _, hj⟩, k, _, hk⟩ := h1
  rw [Bool.and_eq_true] at hj hk
  exact ⟨hl i hi, ⟨j, hj.1, of_decide_eq_true hj.2⟩, k, hk.1, of_decide_eq_true hk.2⟩
theorem filter_lt {α : Type} {p q : α → Bool} (hpq : ∀ x, p x = true → q x = true) : ∀ (l : List α), (∃ x ∈ l, q x = true ∧ p x = false) → (l.filter p).length < (l.filter q).length
  | [], h => by obtain ⟨x, hx, _⟩ := h; cases hx
  | y :: l, h => by
    have hle : (l.filter p).length ≤ (l.filter q).length := by
      clear h
      induction l with
      | nil => exact Nat.le_refl _
      | cons z l ih =>
        cases hp : p z with
        | true => rw [List.filter_cons_of_pos hp, List.filter_cons_of_pos (hpq z hp)]; simp; exact ih
        | false =>
          rw [List.filter_cons_of_neg (by rw [hp]; simp)]
          cases hq : q z with
          | true => rw [List.filter_cons_of_pos hq]; simp; omega
          | false => rw [List.filter_cons_of_neg (by rw [hq]; simp)]; exact ih
    obtain ⟨x, hx, hq, hp⟩ := h
    rcases List.mem_cons.1 hx with rfl | hx
    · rw [List.filter_cons_of_neg (by rw [hp]; simp), List.filter_cons_of_pos hq]; simp; omega
    · have ih := filter_lt hpq l ⟨x, hx, hq, hp⟩
      cases hp2 : p y with
      | true => rw [List.filter_cons_of_pos hp2, List.filter_cons_of_pos (hpq y hp2)]; simp; exact ih
      | false =>
        rw [List.filter_cons_of_neg (by rw [hp2]; simp)]
        cases hq2 : q y with
        | true => rw [List.filter_cons_of_pos hq2]; simp; omega
        | false => rw [List.filter_cons_of_neg (by rw [hq2]; simp)]; exact ih
def liveCount (m : List (List Int)) (k : Nat) : Nat := ((List.range m.length).filter (liveK m k)).length
/-- Either a step changes nothing, or there are fewer vertices. -/
theorem live_step_or (m : List (List Int)) (k : Nat) : (∀ i, liveK m k i = true → liveK m (k + 1) i = true) ∨ liveCount m (k + 1) < liveCount m k := by
  by_cases h : ∀ i, liveK m k i = true → liveK m (k + 1) i = true
  · exact Or.inl h
  · right
    have hx : ∃ i, liveK m k i = true ∧ liveK m (k + 1) i = false := by
      refine Classical.byContradiction fun hn => h fun i hi => ?_
      cases e : liveK m (k + 1) i with
      | true => rfl
      | false => exact absurd ⟨i, hi, e⟩ hn
    obtain ⟨i, h1, h2⟩ := hx
    exact filter_lt (liveK_less k) _ ⟨i, List.mem_range.2 (liveK_lt k h1), h1, h2⟩
theorem live_still {m : List (List Int)} {k : Nat} (h : ∀ i, liveK m k i = true → liveK m (k + 1) i = true) : ∀ (d : Nat), liveK m (k + d) = liveK m k
  | 0 => rfl
  | d + 1 => by
    have ih := live_still h d
    show liveStep m (liveK m (k + d)) = _
    rw [ih]
    funext i
    cases e : liveK m k i with
    | true => exact h i e
    | false =>
      cases e2 : liveStep m (liveK m k) i with
      | false => rfl
      | true => rw [liveK_less k i e2] at e; cases e
theorem live_count_le (m : List (List Int)) : ∀ (k : Nat), (∃ j, j < k ∧ ∀ i, liveK m j i = true → liveK m (j + 1) i = true) ∨ liveCount m k + k ≤ m.length
  | 0 => by
    right
    unfold liveCount
    have := List.length_filter_le (liveK m 0) (List.range m.length)
    rw [List.length_range] at this
    omega
  | k + 1 => by
    rcases live_count_le m k with ⟨j, hj, h⟩ | h
    · exact Or.inl ⟨j, by omega, h⟩
    · rcases live_step_or m k with h2 | h2
      · exact Or.inl ⟨k, by omega, h2⟩
      · exact Or.inr (by omega)
theorem liveM_good (m : List (List Int)) : Good m (liveM m) := by
  refine good_of_step (fun i h => liveK_lt m.length h) fun i h => ?_
  rcases live_count_le m m.length with ⟨j, hj, hs⟩ | hc
  · have e := live_still hs (m.length - j)
    rw [show j + (m.length - j) = m.length by omega] at e
    unfold liveM at h ⊢
    rw [e] at h ⊢
    exact hs i h
  · exfalso
    have h0 : liveCount m m.length = 0 := by omega
    unfold liveCount at h0
    have := List.eq_nil_of_length_eq_zero h0
    have hm : i ∈ (List.range m.length).filter (liveK m m.length) := List.mem_filter.2 ⟨List.mem_range.2 (liveK_lt m.length h), h⟩
    rw [this] at hm
    cases hm
/-- The greatest set of this kind is the only one that has every other. -/
theorem live_only {m : List (List Int)} {S : Nat → Bool} (h1 : Good m S) (h2 : ∀ T, Good m T → ∀ i, T i = true → S i = true) : S = liveM m := by
  funext i
  cases e : S i with
  | true => exact (good_in_liveK h1 m.length i e).symm
  | false =>
    cases e2 : liveM m i with
    | false => rfl
    | true => rw [h2 _ (liveM_good m) i e2] at e; cases e
/-- The vertices, in order. -/
def liveList (m : List (List Int)) (k : Nat) : List Int := ((List.range k).filter (liveM m)).map fun (i : Nat) => (i : Int)
def livelyM (m : List (List Int)) : List Int := if isMat m = true then liveList m m.length else []
theorem liveList_next (m : List (List Int)) (k : Nat) : liveList m (k + 1) = liveList m k ++ (if liveM m k = true then [(k : Int)] else []) := by
  unfold liveList
  rw [List.range_succ, List.filter_append, List.map_append]
  cases h : liveM m k <;> simp [h]
theorem liveList_le (m : List (List Int)) (k : Nat) : (liveList m k).length ≤ k := by
  unfold liveList
  rw [List.length_map]
  have := List.length_filter_le (liveM m) (List.range k)
  rwa [List.length_range] at this
theorem liveList_mem {m : List (List Int)} {k : Nat} {x : Int} (h : x ∈ liveList m k) : ∃ i : Nat, x = (i : Int) ∧ i < k ∧ liveM m i = true := by
  unfold liveList at h
  obtain ⟨i, hi, rfl⟩ := List.mem_map.1 h
  obtain ⟨h1, h2⟩ := List.mem_filter.1 hi
  exact ⟨i, rfl, List.mem_range.1 h1, h2⟩
/-- The matrix of some rows and columns. -/
def partM (m : List (List Int)) (l : List Int) : List (List Int) := tabOf l.length l.length fun i j => cellOf m (l.getD i 0).toNat (l.getD j 0).toNat
def trimM (m : List (List Int)) : Option (List (List Int)) := if (livelyM m).length = 0 then none else some (partM m (livelyM m))
def isLivelyM (m : List (List Int)) : Bool := isMat m && decide ((livelyM m).length = m.length)
end Go.Proofs.YtanelokploifhaaDoor
namespace Go.Proofs.YtanelokploifhaaDoor
open Go Go.RowKit

theorem isGraphM_facts {m : List (List Int)} (h : isGraphM m = true) : isMat m = true ∧ sumM m ≤ 60 := by
  unfold isGraphM at h
  rw [Bool.and_eq_true] at h
  exact ⟨h.1, of_decide_eq_true h.2⟩

/-- A row that is new in memory of the call's own. -/
theorem row_two {w : World} (x y : Int) : (w.alloc (.cells #[.int .i64 x, .int .i64 y] 3)).ownsRow w.heap.size 3 1 (.slice (some ⟨w.heap.size, 0, none⟩) 2 2) 2 ([x, y].map (Value.int .i64)) :=
  World.ownsRow_lit (base := w.heap.size) (e := 3) (size := 1) w #[.int .i64 x, .int .i64 y] 2 (Nat.le_refl _) (by decide) rfl
theorem arcs_next {w wr w3 : World} {gg cap i j k : Nat} {m : List (List Int)} {v : Value} {vs : List Value} {o : Obj} (hB : Below w.heap.size w wr) (hO : wr.ownsRow w.heap.size 48 1 v (arcsTo m i j k).length vs) (hR : RowsOwn wr w.heap.size v.ownBlock vs (arcsTo m i j k))
    (ho3 : w3.ownsRow w.heap.size 48 1 (.slice (some ⟨gg, 0, none⟩) ((arcsTo m i j k).length + 1) cap) ((arcsTo m i j k).length + 1) (vs ++ [.slice (some ⟨wr.heap.size, 0, none⟩) 2 2])) (hg3 : ((wr.alloc (.cells #[.int .i64 (i : Int), .int .i64 (j : Int)] 3)).alloc o).grownBy w3 v.ownBlock) (hat : v.ownBlock = some gg ∨ gg = wr.heap.size + 1 + 1) :
    w3.ownsRow w.heap.size 48 1 (.slice (some ⟨gg, 0, none⟩) ((arcsTo m i j k).length + 1) cap) (arcsTo m i j (k + 1)).length (vs ++ [.slice (some ⟨wr.heap.size, 0, none⟩) 2 2]) ∧
    RowsOwn w3 w.heap.size (Value.slice (some ⟨gg, 0, none⟩) ((arcsTo m i j k).length + 1) cap).ownBlock (vs ++ [.slice (some ⟨wr.heap.size, 0, none⟩) 2 2]) (arcsTo m i j (k + 1)) ∧ Below w.heap.size w w3 := by
  have hb1 : Below wr.heap.size wr ((wr.alloc (.cells #[.int .i64 (i : Int), .int .i64 (j : Int)] 3)).alloc o) := ((Below.refl _ _).alloc (Nat.le_refl _) _).alloc (by simp) _
  refine ⟨by rw [arcsTo_next, List.length_append]; exact ho3, ?_, ?_⟩
  · rw [arcsTo_next]
    refine own_append (cap := cap) (xs := [(i : Int), (j : Int)]) hO hR hb1 (World.ownsRow.mono (World.ownsRow.alloc (row_two (i : Int) (j : Int)) o) hB.size) (fun g hg => ?_) ho3 hg3 ?_
    · have : wr.heap.size = g := Option.some.inj hg
      omega
    · rw [World.size_alloc, World.size_alloc]; exact hat
  · have hb2 := hB.trans (hb1.mono hB.size)
    exact hb2.grown hg3 (by have := hb2.size; omega) (fun q hq => (hO.lt q hq).1)

/-- ArcsOf, CountPaths. -/
def arcsOfM (m : List (List Int)) : List (List Int) := if isGraphM m = true then arcsM m else []
def countM (m : List (List Int)) (n : Int) : Int := match powS m n with | some p => sumM p | none => -1

theorem pathOk_out {arcs : List (List Int)} {p : List Int} {k : Nat} (h : (decide ((0 : Int) ≤ p.getD k 0) && decide (p.getD k 0 ≤ (arcs.length : Int) - 1)) = false) : pathOk arcs p k = false := by
  unfold pathOk; rw [h]; rfl
/-- The two ends of an arc in memory. -/
theorem arc_at {w : World} {A : Option Addr} {arcs : List (List Int)} (h : GridS w A arcs) (h2 : ∀ r ∈ arcs, r.length = 2) {k : Nat} (hk : k < arcs.length) :
    ∃ b off b2 off2 c', A = some ⟨b, off, none⟩ ∧ w.cell? ⟨b, off + k, none⟩ = some (.slice (some ⟨b2, off2, none⟩) 2 c') ∧ w.cell? ⟨b2, off2, none⟩ = some (.int .i64 (cellOf arcs k 0)) ∧ w.cell? ⟨b2, off2 + 1, none⟩ = some (.int .i64 (cellOf arcs k 1)) := by
  have hl : (arcs.getD k []).length = 2 := by
    have e : arcs.getD k [] = arcs[k] := by simp [List.getD, hk]
    rw [e]; exact h2 _ (List.getElem_mem hk)
  obtain ⟨b, off, A', c', hA, hc, hr, _⟩ := h.row hk
  obtain ⟨b2, off2, rfl, hat, _⟩ := hr (by omega)
  rw [hl] at hc
  exact ⟨b, off, b2, off2, c', hA, hc, hat 0 (by omega), hat 1 (by omega)⟩

end Go.Proofs.YtanelokploifhaaDoor
namespace Go.Proofs.YtanelokploifhaaDoor
open Go Go.RowKit

/-- The value is a slice that holds the integers xs. -/
def RowV (w : World) (v : Value) (xs : List Int) : Prop := ∃ A c, v = .slice A xs.length c ∧ RowS w A xs
theorem RowV.below {w w' : World} {v : Value} {xs : List Int} (h : RowV w v xs) (hb : Below w.heap.size w w') : RowV w' v xs := by
  obtain ⟨A, c, hv, hg⟩ := h
  exact ⟨A, c, hv, hg.below hb⟩
/-- The call owns the list; the block of it lies below S. -/
def OwnA (w : World) (B : Nat) (v : Value) (xs : List Int) : Prop := w.ownsRow B 3 1 v xs.length (xs.map (Value.int .i64))
def OwnAIn (w : World) (B S : Nat) (v : Value) (xs : List Int) : Prop := OwnA w B v xs ∧ ∀ g, v.ownBlock = some g → g < S
theorem OwnA.rowV {w : World} {B : Nat} {v : Value} {xs : List Int} (h : OwnA w B v xs) : RowV w v xs := rowS_of_owns h
theorem OwnA.below {w w' : World} {B : Nat} {v : Value} {xs : List Int} (h : OwnA w B v xs) (hb : Below w.heap.size w w') : OwnA w' B v xs := kept_below h hb
theorem OwnA.mono {w : World} {B B' : Nat} {v : Value} {xs : List Int} (h : OwnA w B v xs) (hB : B' ≤ B) : OwnA w B' v xs := World.ownsRow.mono h hB
theorem OwnA.ownIn {w : World} {B : Nat} {v : Value} {xs : List Int} (h : OwnA w B v xs) : OwnAIn w B w.heap.size v xs := ⟨h, fun g hg => (h.lt g hg).2⟩
theorem OwnAIn.ownG {w : World} {B S : Nat} {v : Value} {xs : List Int} (h : OwnAIn w B S v xs) : OwnA w B v xs := h.1
theorem OwnAIn.below {w w' : World} {B S : Nat} {v : Value} {xs : List Int} (h : OwnAIn w B S v xs) (hb : Below w.heap.size w w') : OwnAIn w' B S v xs := ⟨h.1.below hb, h.2⟩
theorem From.ownAIn {w w' : World} {B S : Nat} {v : Value} {xs : List Int} (h : OwnAIn w B S v xs) (hf : From B w w') : OwnAIn w' B S v xs := ⟨From.owns h.1 hf, h.2⟩
/-- The list is not too long. -/
def SizeL (xs : List Int) : Prop := xs.length ≤ 1048576

def MarkedA (B S : Nat) (v : Value) (xs : List Int) (w : World) (e : Ending) (w' : World) : Prop := e = .returned (.int .i64 ((1 + xs.length : Nat) : Int)) ∧ RowV w' v (marksI 1 xs.length) ∧ Within B S w w'
def NewA (xs : List Int) (w : World) (e : Ending) (w' : World) : Prop := ∃ v, e = .returned v ∧ OwnA w' w.heap.size v xs ∧ Below w.heap.size w w'
theorem toA (V : Value) (xs : List Int) (hm : SizeL xs) (w : World) (h : RowV w V xs) : Calls Tryd.prog 60 #[V] w (NewA xs w) := by
  obtain ⟨A, c, rfl, hg⟩ := h
  unfold SizeL at hm
  refine (copy_ints A c xs (by omega) w hg).mono ?_
  rintro e w' ⟨he, ho, hb, _⟩
  exact ⟨_, he, ho, hb⟩
theorem eqA (xs : List Int) (hm : SizeL xs) (v v' : Value) (w : World) (h : RowV w v xs) (h' : RowV w v' xs) : Calls Tryd.prog 61 #[v, v'] w (TrueBelowG w) := by
  obtain ⟨A, c, rfl, hg⟩ := h
  obtain ⟨A', c', rfl, hg'⟩ := h'
  unfold SizeL at hm
  exact same_ints A A' c c' xs (by omega) w hg hg'
def SpecA (xs : List Int) (w : World) (e : Ending) (w' : World) : Prop := ∃ v, e = .returned v ∧ RowV w' v xs ∧ Below w.heap.size w w'
def SpecAB (xs : List Int) (b : Bool) (w : World) (e : Ending) (w' : World) : Prop := ∃ v, e = .returned (.tuple #[v, .bool b]) ∧ RowV w' v xs ∧ Below w.heap.size w w'
end Go.Proofs.YtanelokploifhaaDoor
namespace Go.Proofs.YtanelokploifhaaDoor
open Go Go.RowKit

theorem infoBool : (Tryd.prog.info? 4).map (fun i => (i.zero, i.size, i.bytes)) = some (some (.bool false), 1, 1) := by kernel_rfl
def boolsOf (n : Nat) (S : Nat → Bool) : List Value := (List.range n).map fun i => Value.bool (S i)
theorem boolsOf_at {n : Nat} {S : Nat → Bool} {k : Nat} (hk : k < n) : (boolsOf n S)[k]? = some (.bool (S k)) := by simp [boolsOf, hk]
theorem boolsOf_set {n : Nat} {S : Nat → Bool} {k : Nat} (b : Bool) : (boolsOf n S).set k (.bool b) = boolsOf n fun i => if i = k then b else S i := by
  refine List.ext_getElem (by simp [boolsOf]) fun i h1 h2 => ?_
  rw [List.getElem_set]
  by_cases e : k = i
  · subst e; simp [boolsOf]
  · rw [if_neg e]; simp [boolsOf, Ne.symm e]
theorem boolsOf_congr {n : Nat} {S T : Nat → Bool} (h : ∀ i, i < n → S i = T i) : boolsOf n S = boolsOf n T := by
  unfold boolsOf
  exact List.map_congr_left fun i hi => by rw [h i (List.mem_range.1 hi)]
theorem boolsOf_false (n : Nat) : List.replicate n (Value.bool false) = boolsOf n fun i => decide (i < 0) := by
  unfold boolsOf
  refine List.ext_getElem (by simp) fun i h1 h2 => ?_
  simp

def outOf (m : List (List Int)) (S : Nat → Bool) (k t : Nat) : Bool := (List.range t).any fun j => S j && decide (0 < cellOf m k j)
def inOf (m : List (List Int)) (S : Nat → Bool) (k t : Nat) : Bool := (List.range t).any fun j => S j && decide (0 < cellOf m j k)
theorem outOf_next (m : List (List Int)) (S : Nat → Bool) (k t : Nat) : outOf m S k (t + 1) = (outOf m S k t || (S t && decide (0 < cellOf m k t))) := by
  unfold outOf; rw [List.range_succ, List.any_append]; simp
theorem inOf_next (m : List (List Int)) (S : Nat → Bool) (k t : Nat) : inOf m S k (t + 1) = (inOf m S k t || (S t && decide (0 < cellOf m t k))) := by
  unfold inOf; rw [List.range_succ, List.any_append]; simp
theorem liveStep_as (m : List (List Int)) (S : Nat → Bool) (k : Nat) : liveStep m S k = (S k && outOf m S k m.length && inOf m S k m.length) := rfl
def cnt (n : Nat) (S : Nat → Bool) : Nat := ((List.range n).filter S).length
theorem cnt_le (n : Nat) (S : Nat → Bool) : cnt n S ≤ n := by
  unfold cnt
  have := List.length_filter_le S (List.range n)
  rwa [List.length_range] at this
theorem cnt_less {n k : Nat} {S : Nat → Bool} (hk : k < n) (h : S k = true) : cnt n (fun i => if i = k then false else S i) < cnt n S := by
  refine filter_lt (fun x hx => ?_) _ ⟨k, List.mem_range.2 hk, h, by simp⟩
  by_cases e : x = k
  · simp [e] at hx
  · simpa [e] using hx

def isTrueV : Option Value → Bool
  | some (.bool b) => b
  | _ => false
/-- How many are left, while something has changed. -/
def liveMeas (g n : Nat) (v : Value) (w : World) : Nat := match v with
  | .bool true => 1 + ((List.range n).filter fun i => isTrueV (w.cell? ⟨g, i, none⟩)).length
  | _ => 0
theorem liveMeas_true {g n : Nat} {w : World} {S : Nat → Bool} (h : ∀ i, i < n → w.cell? ⟨g, i, none⟩ = some (.bool (S i))) : liveMeas g n (.bool true) w = 1 + cnt n S := by
  show 1 + ((List.range n).filter fun i => isTrueV (w.cell? ⟨g, i, none⟩)).length = 1 + ((List.range n).filter S).length
  rw [List.filter_congr (q := S) fun i hi => by rw [h i (List.mem_range.1 hi)]; rfl]
theorem liveMeas_false (g n : Nat) (w : World) : liveMeas g n (.bool false) w = 0 := rfl

/-- The booleans, in new memory. -/
def BoolsPost (n : Nat) (S : Nat → Bool) (w : World) (e : Ending) (w' : World) : Prop :=
  e = .returned (.slice (some ⟨w.heap.size, 0, none⟩) n n) ∧ w'.ownsRow w.heap.size 4 1 (.slice (some ⟨w.heap.size, 0, none⟩) n n) n (boolsOf n S) ∧ Below w.heap.size w w' ∧ w.heap.size < w'.heap.size

/-- What holds in the midst of a sweep. -/
structure Sweep (m : List (List Int)) (S0 S : Nat → Bool) (b : Bool) (k : Nat) : Prop where
  good : ∀ T, Good m T → ∀ i, T i = true → S i = true
  sub : ∀ i, S i = true → i < m.length
  same : b = false → (∀ i, i < m.length → S i = S0 i) ∧ ∀ i, i < k → S i = true → liveStep m S i = true
  less : b = true → cnt m.length S < cnt m.length S0
  le : cnt m.length S ≤ cnt m.length S0
theorem Sweep.keep {m : List (List Int)} {S0 S : Nat → Bool} {b : Bool} {k : Nat} (h : Sweep m S0 S b k) (hk : (S k && !(outOf m S k m.length && inOf m S k m.length)) = false) : Sweep m S0 S b (k + 1) := by
  refine ⟨h.good, h.sub, fun hb => ⟨(h.same hb).1, fun i hi hS => ?_⟩, h.less, h.le⟩
  by_cases e : i = k
  · subst e
    rw [liveStep_as]
    rw [hS] at hk ⊢
    cases h1 : outOf m S i m.length <;> cases h2 : inOf m S i m.length <;> simp [h1, h2] at hk ⊢
  · exact (h.same hb).2 i (by omega) hS
theorem Sweep.drop {m : List (List Int)} {S0 S : Nat → Bool} {b : Bool} {k : Nat} (h : Sweep m S0 S b k) (hkl : k < m.length) (hk : (S k && !(outOf m S k m.length && inOf m S k m.length)) = true) : Sweep m S0 (fun i => if i = k then false else S i) true (k + 1) := by
  rw [Bool.and_eq_true] at hk
  have hlt := cnt_less hkl hk.1
  refine ⟨fun T hT i hi => ?_, fun i hi => ?_, fun e => (by cases e), fun _ => Nat.lt_of_lt_of_le hlt h.le, Nat.le_of_lt (Nat.lt_of_lt_of_le hlt h.le)⟩
  · by_cases e : i = k
    · subst e
      have h1 := good_in_step hT (h.good T hT) i hi
      rw [liveStep_as, Bool.and_eq_true, Bool.and_eq_true] at h1
      rw [h1.1.2, h1.2] at hk
      simp at hk
    · rw [if_neg e]; exact h.good T hT i hi
  · by_cases e : i = k
    · rw [if_pos e] at hi; cases hi
    · rw [if_neg e] at hi; exact h.sub i hi

end Go.Proofs.YtanelokploifhaaDoor
namespace Go.Proofs.YtanelokploifhaaDoor
open Go Go.RowKit

theorem bools_far {w w' : World} {g n : Nat} {S : Nat → Bool} {r : Option Nat} (h : ∀ u, u < n → w.cell? ⟨g, u, none⟩ = some (.bool (S u))) (hl : g < w.heap.size) (hg : w.grownBy w' r) (hne : r ≠ some g) : (∀ u, u < n → w'.cell? ⟨g, u, none⟩ = some (.bool (S u))) ∧ g < w'.heap.size := by
  refine ⟨fun u hu => ?_, Nat.lt_of_lt_of_le hl hg.size⟩
  have hb := hg.block g hl (Ne.symm hne)
  have := h u hu
  unfold World.cell? at this ⊢
  rw [hb]; exact this
theorem list_more {w w1 w2 : World} {g gL cap k : Nat} {v : Value} {xs : List Int} {x : Int} {n : Nat} {S : Nat → Bool} (hB : Below w.heap.size w w1) (hO : w1.ownsRow w.heap.size 3 1 v xs.length (xs.map (Value.int .i64))) (hS : ∀ u, u < n → w1.cell? ⟨gL, u, none⟩ = some (.bool (S u))) (hgL : gL < w1.heap.size) (hne : v.ownBlock ≠ some gL) (o : Obj) (hk : k = xs.length + 1)
    (ho2 : w2.ownsRow w.heap.size 3 1 (.slice (some ⟨g, 0, none⟩) k cap) k (xs.map (Value.int .i64) ++ [.int .i64 x])) (hg : (w1.alloc o).grownBy w2 v.ownBlock) (hat : v.ownBlock = some g ∨ g = w1.heap.size + 1) :
    w2.ownsRow w.heap.size 3 1 (.slice (some ⟨g, 0, none⟩) k cap) (xs ++ [x]).length ((xs ++ [x]).map (Value.int .i64)) ∧ Below w.heap.size w w2 ∧ (∀ u, u < n → w2.cell? ⟨gL, u, none⟩ = some (.bool (S u))) ∧ gL < w2.heap.size ∧ (Value.slice (some ⟨g, 0, none⟩) k cap).ownBlock ≠ some gL := by
  subst hk
  have hs := hB.size
  obtain ⟨t1, t2⟩ := bools_far (w := w1.alloc o) (fun u hu => (((Below.refl w1.heap.size w1).alloc (Nat.le_refl _) o).cell (p := ⟨gL, u, none⟩) hgL).trans (hS u hu)) (by simp; omega) hg hne
  refine ⟨by rw [List.length_append, List.map_append]; exact ho2, (hB.alloc hs o).grown hg (by simp; omega) fun q hq => (hO.lt q hq).1, t1, t2, fun e => ?_⟩
  have e' : g = gL := Option.some.inj e
  subst e'
  rcases hat with h | h
  · exact hne h
  · omega

def partF (m : List (List Int)) (l : List Int) : Nat → Nat → Int := fun i j => cellOf m (l.getD i 0).toNat (l.getD j 0).toNat
theorem partM_as (m : List (List Int)) (l : List Int) : partM m l = tabOf l.length l.length (partF m l) := rfl
def partRow (m : List (List Int)) (l : List Int) (i t : Nat) : List Int := (List.range t).map (partF m l i)
theorem partRow_next (m : List (List Int)) (l : List Int) (i t : Nat) : partRow m l i (t + 1) = partRow m l i t ++ [partF m l i t] := by
  unfold partRow; rw [List.range_succ, List.map_append]; rfl
theorem partRow_length (m : List (List Int)) (l : List Int) (i t : Nat) : (partRow m l i t).length = t := by unfold partRow; simp
theorem cell_more {w1 w2 : World} {B g cap k : Nat} {v : Value} {xs : List Int} {x : Int} {W0 : World} (hb : Below B W0 w1) (h0 : B ≤ w1.heap.size) (hO : w1.ownsRow B 3 1 v xs.length (xs.map (Value.int .i64))) (o : Obj) (hk : k = xs.length + 1)
    (ho2 : w2.ownsRow B 3 1 (.slice (some ⟨g, 0, none⟩) k cap) k (xs.map (Value.int .i64) ++ [.int .i64 x])) (hg : (w1.alloc o).grownBy w2 v.ownBlock) :
    w2.ownsRow B 3 1 (.slice (some ⟨g, 0, none⟩) k cap) (xs ++ [x]).length ((xs ++ [x]).map (Value.int .i64)) ∧ Below B W0 w2 := by
  subst hk
  exact ⟨by rw [List.length_append, List.map_append]; exact ho2, (hb.alloc h0 o).grown hg (by simp; omega) fun q hq => (hO.lt q hq).1⟩
theorem part_more {B : Nat} {wr w4 w5 : World} {gg cap : Nat} {v u : Value} {vs : List Value} {G : List (List Int)} {xs : List Int} (hO : wr.ownsRow B 48 1 v G.length vs) (hR : RowsOwn wr B v.ownBlock vs G) (hb : Below wr.heap.size wr w4) (hB : B ≤ wr.heap.size)
    (hu : w4.ownsRow wr.heap.size 3 1 u xs.length (xs.map (Value.int .i64))) (o : Obj)
    (ho3 : w5.ownsRow B 48 1 (.slice (some ⟨gg, 0, none⟩) (G.length + 1) cap) (G.length + 1) (vs ++ [u])) (hg3 : (w4.alloc o).grownBy w5 v.ownBlock) (hat : v.ownBlock = some gg ∨ gg = w4.heap.size + 1) :
    w5.ownsRow B 48 1 (.slice (some ⟨gg, 0, none⟩) (G.length + 1) cap) (G ++ [xs]).length (vs ++ [u]) ∧ RowsOwn w5 B (Value.slice (some ⟨gg, 0, none⟩) (G.length + 1) cap).ownBlock (vs ++ [u]) (G ++ [xs]) ∧ (∀ W : World, B = W.heap.size → Below B W wr → Below B W w5) := by
  have hb1 : Below wr.heap.size wr (w4.alloc o) := hb.alloc hb.size o
  have hs4 := hb.size
  refine ⟨by rw [List.length_append]; exact ho3, own_append (w := w4.alloc o) (cap := cap) hO hR hb1 (World.ownsRow.alloc (World.ownsRow.mono hu hB) o) (fun g hg => (hu.lt g hg).1) ho3 hg3 (by rw [World.size_alloc]; exact hat), fun W hW hbW => ?_⟩
  exact (hbW.trans (hb1.mono hB)).grown hg3 (by simp; omega) fun q hq => (hO.lt q hq).1

set_option maxRecDepth 100000 in
set_option maxHeartbeats 3200000 in
theorem spec_partR (A : Option Addr) (c : Nat) (m : List (List Int)) (hm : ∀ i, i < m.length → (m.getD i []).length = m.length) (Al : Option Addr) (cl : Nat) (l : List Int) (hl : l.length ≤ 1048576) (hv : ∀ k, k < l.length → 0 ≤ l.getD k 0 ∧ l.getD k 0 < (m.length : Int)) (w : World) (hg : GridS w A m) (hr : RowS w Al l) :
    Calls Tryd.prog 66 #[.slice A m.length c, .slice Al l.length cl] w (NewG (partM m l) w) := by
  obtain ⟨i0, hi, hz0, hz1, hz2⟩ := info_parts infoSl
  obtain ⟨j0, hj, hy0, hy1, hy2⟩ := info_parts infoInt
  have HM0 := Lib.hid (World.ownsRow_made (base := w.heap.size) (e := 48) (size := 1) w #[] 0 (Nat.le_refl _) (by unfold maxLen; omega) rfl)
  have HG := Lib.hid hg
  have HR := Lib.hid hr
  have HV := Lib.hid hv
  have HF := Lib.hid hm
  rw [partM_as]
  have HNX : Hid (∀ i, tabOf (i + 1) l.length (partF m l) = tabOf i l.length (partF m l) ++ [partRow m l i l.length]) := Lib.hid fun i => tabOf_next i l.length (partF m l)
  have HRN := Lib.hid (partRow_next m l)
  have HRL := Lib.hid (partRow_length m l)
  have HPF : Hid (∀ i j : Nat, partF m l i j = cellOf m (l.getD i 0).toNat (l.getD j 0).toNat) := Lib.hid fun _ _ => rfl
  have HTL : Hid (∀ i, (tabOf i l.length (partF m l)).length = i) := Lib.hid fun i => tabOf_length _ _ _
  clear hg hr hv hm
  go_enter Tryd.func66, Tryd.ntmps66
  go_wp2
  go_loopw [5, 6] (fun v iv wr => ∃ (i : Nat) (vs : List Value), i ≤ l.length ∧ iv = .int .i64 i ∧ wr.ownsRow w.heap.size 48 1 v (tabOf i l.length (partF m l)).length vs ∧ RowsOwn wr w.heap.size v.ownBlock vs (tabOf i l.length (partF m l)) ∧ Below w.heap.size w wr) (fun _ i _ => l.length - (intOf i).toNat)
  case atStart => exact ⟨0, [], Nat.zero_le _, rfl, HM0.out, RowsOwn.nil _ _ _, (Below.refl _ _).alloc (Nat.le_refl _) _⟩
  case round =>
    obtain ⟨i, vs, hi2, rfl, hO, hR, hbl⟩ := hrel
    obtain ⟨W0, rfl⟩ : ∃ W0 : World, W0 = wr := ⟨_, rfl⟩
    by_cases hil : i < l.length
    · have HO := Lib.hid hO
      have HRO := Lib.hid hR
      have HB := Lib.hid hbl
      have hw0 := hbl.size
      have HI0 := Lib.hid (World.ownsRow_made (base := W0.heap.size) (e := 3) (size := 1) W0 #[] 0 (Nat.le_refl _) (by unfold maxLen; omega) rfl)
      clear hO hR hbl
      go_wp2
      go_loopw [7, 8] (fun u jv w4 => ∃ t : Nat, t ≤ l.length ∧ jv = .int .i64 t ∧ w4.ownsRow W0.heap.size 3 1 u (partRow m l i t).length ((partRow m l i t).map (Value.int .i64)) ∧ Below W0.heap.size W0 w4) (fun _ j _ => l.length - (intOf j).toNat)
      case atStart => exact ⟨0, Nat.zero_le _, rfl, HI0.out, (Below.refl _ _).alloc (Nat.le_refl _) _⟩
      case round =>
        obtain ⟨t, ht, rfl, hU, hb4⟩ := hrel
        by_cases htl : t < l.length
        · obtain ⟨lb, lo, rfl, hat, hlb⟩ := (HR.out.below HB.out) (by omega)
          have a0 := hat i hil
          have a1 := hat t htl
          have vx := HV.out i hil
          have vy := HV.out t htl
          have HP := Lib.hid (HPF.out i t)
          have HRN1 := Lib.hid (HRN.out i t)
          have HRL1 := Lib.hid (HRL.out i t)
          generalize l.getD i 0 = x at *
          generalize l.getD t 0 = y at *
          obtain ⟨xn, rfl⟩ : ∃ n : Nat, x = (n : Int) := ⟨x.toNat, by omega⟩
          obtain ⟨yn, rfl⟩ : ∃ n : Nat, y = (n : Int) := ⟨y.toNat, by omega⟩
          rw [Int.toNat_natCast, Int.toNat_natCast] at HP
          obtain ⟨b1, o1, b2, o2, c2, rfl, a2, a3, hb1, hb2⟩ := (HG.out.below HB.out).num (i := xn) (by omega) (j := yn) (by rw [HF.out xn (by omega)]; omega)
          rw [HF.out xn (by omega)] at a2
          rw [HP.out] at HRN1
          generalize cellOf m xn yn = z at *
          have e0 := (hb4.cell (p := ⟨lb, lo + i, none⟩) hlb).trans a0
          have e1 := (hb4.cell (p := ⟨lb, lo + t, none⟩) hlb).trans a1
          have e2 := (hb4.cell (p := ⟨b1, o1 + xn, none⟩) hb1).trans a2
          have e3 := (hb4.cell (p := ⟨b2, o2 + yn, none⟩) hb2).trans a3
          have A0 := Lib.hid a0
          have A1 := Lib.hid a1
          have A2 := Lib.hid a2
          have A3 := Lib.hid a3
          obtain ⟨gx0, gx1⟩ := vx
          obtain ⟨gy0, gy1⟩ := vy
          have HU := Lib.hid hU
          have HB4 := Lib.hid hb4
          have hs4 := hb4.size
          have gi0 : (0 : Int) ≤ (i : Int) := by omega
          have gt0 : (0 : Int) ≤ (t : Int) := by omega
          have gi : (i : Int) < (l.length : Int) := by omega
          have gt : (t : Int) < (l.length : Int) := by omega
          have hpr : (partRow m l i t).length ≤ 1048576 := by rw [HRL1.out]; omega
          clear hU hb4 hat a0 a1 a2 a3
          generalize hX : partRow m l i t = X at *
          go_wp2
          go_region_held3 (fun w' => w'.cell? ⟨lb, lo + i, none⟩ = some (.int .i64 (xn : Int)) ∧ w'.cell? ⟨lb, lo + t, none⟩ = some (.int .i64 (yn : Int)) ∧ w'.cell? ⟨b1, o1 + xn, none⟩ = some (.slice (some ⟨b2, o2, none⟩) m.length c2) ∧ w'.cell? ⟨b2, o2 + yn, none⟩ = some (.int .i64 z)) (first | exact ⟨y0, y1, y2, y3⟩ | go_keep)
            ((refine step_append_lies _ (by rfl) _ _ _ (by rfl) W0.heap.size 3 j0 _ 1 8 Tryd.underlying48 hj hy0 hy1 hy2 rfl (by omega) u7 X.length (X.map (Value.int .i64)) (by rfl) ((HU.out.alloc _).drew) ⟨wr.heap.size, 0, none⟩ 1 1 [.int .i64 z] (by rfl) (by rfl) (World.news_of_block (cs := #[.int .i64 z]) (t := 3) (fr := (0, 0)) (heap_alloc_new wr _)) (by simp [Value.oneCell']) (by omega) (by unfold maxLen; omega) (by omega) (by simp; omega) (wr.heap.size + 1) (by simp) ?_; intro gg cap w6 ho6 hg6 hat6 hlt6; have HBN := Lib.hid ((HB4.out.alloc hs4 _).drew.grown hg6 (by simp; omega) (fun q hq => (HU.out.lt q hq).1)); have y0 := (HBN.out.cell (p := ⟨lb, lo + i, none⟩) hlb).trans A0.out; have y1 := (HBN.out.cell (p := ⟨lb, lo + t, none⟩) hlb).trans A1.out; have y2 := (HBN.out.cell (p := ⟨b1, o1 + xn, none⟩) hb1).trans A2.out; have y3 := (HBN.out.cell (p := ⟨b2, o2 + yn, none⟩) hb2).trans A3.out; have HO6 := Lib.hid ho6; clear ho6 hg6 hat6))
          go_wp2
          go_roundw
          case rel => exact ⟨t + 1, by omega, by go_num, by rw [HRN1.out, List.length_append, List.map_append]; exact HO6.out, HBN.out⟩
          case measure => simp [intOf]; omega
        · obtain rfl : t = l.length := by omega
          have HU := Lib.hid hU
          have HB4 := Lib.hid hb4
          have hs4 := hb4.size
          have HOK := Lib.hid (kept_below HO.out hb4)
          have HGK := Lib.hid (HTL.out i)
          have HNX1 := Lib.hid (HNX.out i)
          obtain ⟨A7, c7, rfl⟩ := slice_of_owns hU
          clear hU hb4
          generalize tabOf i l.length (partF m l) = G at *
          generalize partRow m l i l.length = X at *
          go_wp2_with (at_builtin; refine wpList_append_lies _ rfl (.tmp 39) (.tmp 41) 24 rfl w.heap.size 48 i0 (.slice none 0 0) 1 24 Tryd.underlying24 hi hz0 hz1 hz2 rfl (by decide) _ _ _ rfl (HOK.out.alloc _) ⟨wr.heap.size, 0, none⟩ 1 1 [.slice A7 X.length c7] rfl rfl (World.news_of_block (cs := #[.slice A7 X.length c7]) (t := 48) (fr := (0, 0)) (heap_alloc_new wr _)) (by simp [Value.oneCell']) (by decide) (by rw [HGK.out]; unfold maxLen; omega) (by rw [HGK.out]; omega) (by simp; omega) (wr.heap.size + 1) (by simp) ?_; intro gg cap w6 ho6 hg6 hat6 hlt6; have HM := Lib.hid (part_more HO.out HRO.out HB4.out hw0 HU.out _ ho6 hg6 hat6); clear ho6 hg6 hat6)
          go_roundw
          case rel => exact ⟨i + 1, _, by omega, by go_num, by rw [HNX1.out]; exact HM.out.1, by rw [HNX1.out]; exact HM.out.2.1, HM.out.2.2 _ rfl HB.out⟩
          case measure => simp [intOf]; omega
    · obtain rfl : i = l.length := by omega
      have HO := Lib.hid hO
      have HRO := Lib.hid hR
      clear hO hR
      go_wp2
      go_ret
      exact ⟨_, rfl, ⟨vs, HO.out, HRO.out⟩, hbl⟩

theorem spec_part (A : Option Addr) (c : Nat) (m : List (List Int)) (hm : MatFacts m) (Al : Option Addr) (cl : Nat) (l : List Int) (hl : l.length ≤ 1048576) (hv : ∀ k, k < l.length → 0 ≤ l.getD k 0 ∧ l.getD k 0 < (m.length : Int)) (w : World) (hg : GridS w A m) (hr : RowS w Al l) :
    Calls Tryd.prog 66 #[.slice A m.length c, .slice Al l.length cl] w (NewG (partM m l) w) := spec_partR A c m (fun i hi => hm.row i hi) Al cl l hl hv w hg hr

theorem livelyM_in {m : List (List Int)} {k : Nat} (hk : k < (livelyM m).length) : 0 ≤ (livelyM m).getD k 0 ∧ (livelyM m).getD k 0 < (m.length : Int) := by
  unfold livelyM at hk ⊢
  by_cases hm : isMat m = true
  · rw [if_pos hm] at hk ⊢
    have e : (liveList m m.length).getD k 0 = (liveList m m.length)[k] := by simp [List.getD, hk]
    rw [e]
    obtain ⟨i, hi, h1, _⟩ := liveList_mem (List.getElem_mem hk)
    rw [hi]
    omega
  · rw [if_neg hm] at hk
    simp at hk
theorem livelyM_le (m : List (List Int)) : (livelyM m).length ≤ 9 := by
  unfold livelyM
  split
  · next h =>
    have := liveList_le m m.length
    have := (isMat_facts h).le
    omega
  · simp

end Go.Proofs.YtanelokploifhaaDoor
namespace Go.Proofs.YtanelokploifhaaDoor
open Go Go.RowKit

theorem sgn_pow : ∀ j : Nat, (-1 : Int) ^ j = sgn j
  | 0 => rfl
  | j + 1 => by rw [Int.pow_succ, sgn_pow j, sgn_next]; omega
theorem pow_abs {x : Int} {B : Nat} (h : x.natAbs ≤ B) : ∀ n : Nat, (x ^ n).natAbs ≤ B ^ n
  | 0 => by rw [Int.pow_zero, Nat.pow_zero]; exact Nat.le_refl _
  | n + 1 => by rw [Int.pow_succ, Int.natAbs_mul, Nat.pow_succ]; exact Nat.mul_le_mul (pow_abs h n) h

/-! ### Choices -/

/-- All ascending lists of k of the numbers below n. -/
def choicesL : Nat → Nat → List (List Int)
  | _, 0 => [[]]
  | 0, _ + 1 => []
  | n + 1, k + 1 => if n < k then [] else choicesL n (k + 1) ++ (choicesL n k).map fun l => l ++ [(n : Int)]
theorem choicesL_over : ∀ {n k : Nat}, n < k → choicesL n k = []
  | 0, k + 1, _ => rfl
  | n + 1, k + 1, h => by rw [choicesL, if_pos (by omega)]
theorem choicesL_in : ∀ {n k : Nat} {l : List Int}, l ∈ choicesL n k → l.length = k ∧ ∀ x ∈ l, 0 ≤ x ∧ x < (n : Int)
  | n, 0, l, h => by
    cases n <;>
    · rw [choicesL, List.mem_singleton] at h
      subst h
      exact ⟨rfl, fun x hx => by cases hx⟩
  | 0, k + 1, l, h => by cases h
  | n + 1, k + 1, l, h => by
    rw [choicesL] at h
    split at h
    · cases h
    · rw [List.mem_append, List.mem_map] at h
      rcases h with h | ⟨r, h, rfl⟩
      · obtain ⟨h1, h2⟩ := choicesL_in h
        exact ⟨h1, fun x hx => by have := h2 x hx; omega⟩
      · obtain ⟨h1, h2⟩ := choicesL_in h
        refine ⟨by rw [List.length_append, h1]; rfl, fun x hx => ?_⟩
        rw [List.mem_append, List.mem_singleton] at hx
        rcases hx with hx | rfl
        · have := h2 x hx; omega
        · omega
theorem choicesL_len {n k : Nat} : (choicesL n k).length ≤ 2 ^ n := by
  induction n generalizing k with
  | zero => cases k <;> simp [choicesL]
  | succ n ih =>
    cases k with
    | zero => simp only [choicesL, List.length_singleton]; exact Nat.one_le_two_pow
    | succ k =>
      rw [choicesL]
      split
      · exact Nat.zero_le _
      · rw [List.length_append, List.length_map, Nat.pow_succ]
        have := ih (k := k + 1)
        have := ih (k := k)
        omega
/-- The minor of these rows and columns. -/
def minorI (m : List (List Int)) (l : List Int) : Int := detF l.length fun a b => cellOf m (l.getD a 0).toNat (l.getD b 0).toNat
theorem det_part (m : List (List Int)) (l : List Int) : detT (partM m l) = minorI m l := by
  unfold detT minorI partM
  rw [tabOf_length]
  exact detF_congr fun i j hi hj => tabOf_cell hi hj
theorem part_rows (m : List (List Int)) (l : List Int) : (partM m l).length = l.length ∧ ∀ i, i < l.length → ((partM m l).getD i []).length = l.length := by
  refine ⟨tabOf_length _ _ _, fun i hi => ?_⟩
  unfold partM
  rw [tabOf_row hi]; simp
theorem minors_choices {m : List (List Int)} (h : m.length ≤ 4) {k : Nat} (hk : k ≤ m.length) : (sumTo (choicesL m.length k).length fun t => minorI m ((choicesL m.length k).getD t [])) = minorsN m k := by
  unfold minorsN
  have hn : m.length = 0 ∨ m.length = 1 ∨ m.length = 2 ∨ m.length = 3 ∨ m.length = 4 := by omega
  have hk4 : k = 0 ∨ k = 1 ∨ k = 2 ∨ k = 3 ∨ k = 4 := by omega
  rcases hn with e | e | e | e | e <;> rw [e] at hk ⊢ <;> rcases hk4 with rfl | rfl | rfl | rfl | rfl <;> first | omega | simp [choicesL, sumTo, bitsL, List.range, List.range.loop, List.filter, Nat.testBit, minorF, minorI, detF, sgn, lessF]

/-! ### A table without a column -/

def lessR (j : Nat) (r : List Int) : List Int := r.take j ++ r.drop (j + 1)
def lessT (t : List (List Int)) (j : Nat) : List (List Int) := (t.drop 1).map (lessR j)
/-- As many rows as columns, all numbers within B. -/
structure Sq (B : Nat) (n : Nat) (t : List (List Int)) : Prop where
  len : t.length = n
  row : ∀ i, i < n → (t.getD i []).length = n
  cell : ∀ i j, i < n → j < n → (cellOf t i j).natAbs ≤ B
theorem lessR_len {r : List Int} {j : Nat} (hj : j < r.length) : (lessR j r).length = r.length - 1 := by
  unfold lessR
  rw [List.length_append, List.length_take, List.length_drop]; omega
theorem lessR_at {r : List Int} {j : Nat} (hj : j < r.length) (b : Nat) : (lessR j r).getD b 0 = r.getD (if b < j then b else b + 1) 0 := by
  unfold lessR
  rw [List.getD_eq_getElem?_getD, List.getD_eq_getElem?_getD]
  by_cases h : b < j
  · rw [if_pos h, List.getElem?_append_left (by rw [List.length_take]; omega), List.getElem?_take_of_lt h]
  · rw [if_neg h, List.getElem?_append_right (by rw [List.length_take]; omega), List.getElem?_drop, List.length_take]
    congr 2
    all_goals omega
theorem lessT_len (t : List (List Int)) (j : Nat) : (lessT t j).length = t.length - 1 := by
  unfold lessT
  rw [List.length_map, List.length_drop]
theorem lessT_row (t : List (List Int)) (j : Nat) {i : Nat} (hi : i + 1 < t.length) : (lessT t j).getD i [] = lessR j (t.getD (i + 1) []) := by
  unfold lessT
  rw [List.getD_eq_getElem?_getD, List.getElem?_map, List.getElem?_drop, List.getD_eq_getElem?_getD, Nat.add_comm 1 i, List.getElem?_eq_getElem hi]
  rfl
theorem Sq.less {B n : Nat} {t : List (List Int)} (h : Sq B (n + 1) t) {j : Nat} (hj : j < n + 1) : Sq B n (lessT t j) ∧ detT (lessT t j) = detF n (lessF (cellOf t) j) := by
  have hl : (lessT t j).length = n := by rw [lessT_len, h.len]; rfl
  have hc : ∀ a b, a < n → b < n → cellOf (lessT t j) a b = lessF (cellOf t) j a b := fun a b ha hb => by
    unfold cellOf lessF
    rw [lessT_row t j (by rw [h.len]; omega), lessR_at (by rw [h.row (a + 1) (by omega)]; exact hj)]
  refine ⟨⟨hl, fun i hi => ?_, fun a b ha hb => ?_⟩, ?_⟩
  · rw [lessT_row t j (by rw [h.len]; omega), lessR_len (by rw [h.row (i + 1) (by omega)]; exact hj), h.row (i + 1) (by omega)]; rfl
  · rw [hc a b ha hb]
    unfold lessF
    exact h.cell _ _ (by omega) (by split <;> omega)
  · unfold detT
    rw [hl]
    exact detF_congr hc
/-- The determinant by the first row. -/
theorem Sq.det {B n : Nat} {t : List (List Int)} (h : Sq B (n + 1) t) : detT t = sumTo (n + 1) fun j => sgn j * cellOf t 0 j * detT (lessT t j) := by
  show detF t.length (cellOf t) = _
  rw [h.len, detF]
  exact sumTo_congr _ fun j hj => by rw [(h.less hj).2]
theorem Sq.abs {B n : Nat} {t : List (List Int)} (h : Sq B n t) : (detT t).natAbs ≤ detB B n := by
  unfold detT
  rw [h.len]
  exact detF_abs h.cell
theorem Sq.part {B n : Nat} {t : List (List Int)} (h : Sq B (n + 1) t) {k : Nat} (hk : k ≤ n + 1) : (sumTo k fun j => sgn j * cellOf t 0 j * detT (lessT t j)).natAbs ≤ detB B (n + 1) := by
  have h1 := sumTo_abs (n := k) (B := B * detB B n) (f := fun j => sgn j * cellOf t 0 j * detT (lessT t j)) fun j hj => term_abs (sgn_two j) (h.cell 0 j (by omega) (by omega)) ((h.less (j := j) (by omega)).1.abs)
  rw [detB]
  exact Nat.le_trans h1 (Nat.mul_le_mul_right _ hk)
theorem detB_mono (B : Nat) {n : Nat} (hn : n ≤ 4) (hB : B ≤ 10000) : detB B n ≤ 240000000000000000 := by
  have h : n = 0 ∨ n = 1 ∨ n = 2 ∨ n = 3 ∨ n = 4 := by omega
  have h1 : B * 1 ≤ 10000 := by omega
  have h2 : B * (1 * (B * 1)) ≤ 100000000 := by
    rw [Nat.one_mul]; exact Nat.le_trans (Nat.mul_le_mul hB h1) (by decide)
  have h3 : B * (2 * (B * (1 * (B * 1)))) ≤ 2000000000000 := Nat.le_trans (Nat.mul_le_mul hB (Nat.mul_le_mul (Nat.le_refl 2) h2)) (by decide)
  have h4 : B * (3 * (B * (2 * (B * (1 * (B * 1)))))) ≤ 60000000000000000 := Nat.le_trans (Nat.mul_le_mul hB (Nat.mul_le_mul (Nat.le_refl 3) h3)) (by decide)
  rcases h with rfl | rfl | rfl | rfl | rfl <;> simp only [detB, Nat.zero_add, Nat.reduceAdd] <;> omega

/-! ### Products -/

def coefI (b : List Int) (p : Int) : Int := if p < 0 ∨ (b.length : Int) ≤ p then 0 else b.getD p.toNat 0
def prodAt (a b : List Int) (t : Nat) : Int := sumTo a.length fun i => a.getD i 0 * coefI b ((t : Int) - i)
def prodL (a b : List Int) : List Int := (List.range (a.length + b.length)).map (prodAt a b)
theorem coefI_abs {b : List Int} {B : Nat} (h : ∀ k, (b.getD k 0).natAbs ≤ B) (p : Int) : (coefI b p).natAbs ≤ B := by
  unfold coefI
  split
  · exact Nat.zero_le _
  · exact h _
theorem prodAt_term (a b : List Int) (t i : Nat) : a.getD i 0 * coefI b ((t : Int) - i) = termC a b t i := by
  unfold coefI termC
  by_cases h : i ≤ t ∧ t - i < b.length
  · rw [if_pos h, if_neg (by omega), show ((t : Int) - i).toNat = t - i by omega]
  · rw [if_neg h, if_pos (by omega), Int.mul_zero]
theorem cutLen_snoc (p : List Int) (x : Int) : ∀ {n : Nat}, n ≤ p.length → cutLen (p ++ [x]) n = cutLen p n
  | 0, _ => rfl
  | n + 1, h => by
    have e : (p ++ [x]).getD n 0 = p.getD n 0 := by rw [List.getD_eq_getElem?_getD, List.getElem?_append_left (by omega), ← List.getD_eq_getElem?_getD]
    rw [cutLen, cutLen, e, cutLen_snoc p x (by omega)]
theorem cutL_snoc (p : List Int) : cutL (p ++ [0]) = cutL p := by
  unfold cutL
  have e : (p ++ [0]).getD p.length 0 = (0 : Int) := by rw [List.getD_eq_getElem?_getD, List.getElem?_append_right (Nat.le_refl _), Nat.sub_self]; rfl
  rw [List.length_append, List.length_singleton, cutLen, if_pos e, cutLen_snoc p 0 (Nat.le_refl _), List.take_append_of_le_length (cutLen_le _ _)]
theorem cutL_zeros : ∀ {p : List Int}, (∀ k, k < p.length → p.getD k 0 = 0) → cutL p = [] := by
  intro p h
  have : ∀ n, n ≤ p.length → cutLen p n = 0 := by
    intro n
    induction n with
    | zero => exact fun _ => rfl
    | succ n ih => intro hn; rw [cutLen, if_pos (h n (by omega)), ih (by omega)]
  unfold cutL
  rw [this _ (Nat.le_refl _)]; rfl
theorem sumTo_zeros {f : Nat → Int} : ∀ {n : Nat}, (∀ k, k < n → f k = 0) → sumTo n f = 0
  | 0, _ => rfl
  | n + 1, h => by rw [sumTo, sumTo_zeros fun k hk => h k (by omega), h n (by omega)]; rfl
theorem prodL_len (a b : List Int) : (prodL a b).length = a.length + b.length := by simp [prodL]
theorem prodL_at (a b : List Int) {t : Nat} (ht : t < a.length + b.length) : (prodL a b).getD t 0 = prodAt a b t := by
  unfold prodL
  rw [List.getD_eq_getElem?_getD, List.getElem?_map, List.getElem?_range ht]
  rfl
theorem prodL_cut {a b : List Int} (h : (fitsB a 30 && fitsB b 30) = true) : cutL (prodL a b) = mulP a b := by
  unfold mulP
  rw [h, Bool.true_and]
  by_cases h0 : a ≠ [] ∧ b ≠ []
  · rw [if_pos (by exact decide_eq_true h0)]
    have ha : 0 < a.length := List.length_pos_iff.2 h0.1
    have hb : 0 < b.length := List.length_pos_iff.2 h0.2
    have e : prodL a b = convL a b ++ [0] := by
      unfold prodL convL
      rw [show a.length + b.length = (a.length + b.length - 1) + 1 by omega, List.range_succ, List.map_append, Nat.add_sub_cancel]
      congr 1
      · exact List.map_congr_left fun t _ => sumTo_congr _ fun i _ => prodAt_term a b t i
      · rw [List.map_singleton]
        congr 1
        exact sumTo_zeros fun i hi => by
          rw [prodAt_term]
          unfold termC
          rw [if_neg (by omega)]
    rw [e, cutL_snoc]
  · rw [if_neg (by rw [decide_eq_false h0]; exact Bool.false_ne_true)]
    refine cutL_zeros fun t ht => ?_
    rw [prodL_len] at ht
    rw [prodL_at a b ht]
    by_cases ha : a = []
    · subst ha; rfl
    · have hb : b = [] := Classical.byContradiction fun hb => h0 ⟨ha, hb⟩
      subst hb
      exact sumTo_zeros fun i _ => by
        rw [prodAt_term]
        unfold termC
        rw [if_neg (by simp)]

/-! ### The signed minors -/

theorem turnedL_len (m : List (List Int)) : (turnedL m).length = m.length + 1 := by simp [turnedL]
theorem turnedL_at (m : List (List Int)) {k : Nat} (hk : k ≤ m.length) : (turnedL m).getD k 0 = sgn k * minorsN m k := by
  unfold turnedL
  rw [List.getD_eq_getElem?_getD, List.getElem?_map, List.getElem?_range (by omega)]
  rfl
theorem charL_rev (m : List (List Int)) : (turnedL m).reverse = charL m := by
  refine List.ext_getElem (by rw [List.length_reverse, turnedL_len, charL_len]) fun i h1 h2 => ?_
  rw [charL_len] at h2
  rw [List.getElem_reverse]
  have hk : i ≤ m.length := by omega
  simp only [turnedL, charL, List.getElem_map, List.getElem_range, List.length_map, List.length_range]
  rw [show m.length + 1 - 1 - i = m.length - i by omega]
end Go.Proofs.YtanelokploifhaaDoor
namespace Go.Proofs.YtanelokploifhaaDoor
open Go Go.RowKit

def belB (m : List (List Int)) (q d : Int) : Bool := (List.range m.length).all fun k => decide (0 < detF (k + 1) (negE (cellOf m) q d))
theorem belB_iff {m : List (List Int)} (hm : smallM m = true) {q d : Int} (hd : 0 ≤ d) : belB m q d = true ↔ Bel m.length (cellOf m) q d := by
  rw [← bel_minors (small_facts hm).2.1 (small_nonneg hm) hd]
  unfold belB
  rw [List.all_eq_true]
  exact ⟨fun h k hk => of_decide_eq_true (h k (List.mem_range.2 hk)), fun h k hk => decide_eq_true (h k (List.mem_range.1 hk))⟩
def belowS (m : List (List Int)) (q d : Int) : Bool := smallM m && decide (0 ≤ q ∧ q ≤ 3600) && decide (1 ≤ d ∧ d ≤ 100) && belB m q d
def floorN (m : List (List Int)) (d : Int) : Nat := lastNot (fun k => belB m (k : Int) d) (36 * d.toNat)
def floorS (m : List (List Int)) (d : Int) : Int := if smallM m && decide (1 ≤ d ∧ d ≤ 100) then (floorN m d : Int) else -1
theorem small_sum {m : List (List Int)} (hm : smallM m = true) {i : Nat} (hi : i < m.length) : sumTo m.length (cellOf m i) ≤ 36 := by
  obtain ⟨_, h4, h9⟩ := small_facts hm
  have h1 := (sumTo_le (f := cellOf m i) (B := 9) m.length fun j hj => h9 i j hi hj).2
  omega
/-- What the greatest number is: not below it, and below the next. -/
theorem floor_is {m : List (List Int)} (hm : smallM m = true) {d : Int} (hd : 1 ≤ d) : ¬ Bel m.length (cellOf m) (floorN m d : Int) d ∧ Bel m.length (cellOf m) ((floorN m d : Int) + 1) d ∧ (floorN m d : Int) ≤ 36 * d := by
  have hpos := (isMat_facts (small_facts hm).1).pos
  have hf := small_nonneg hm
  have h0 : belB m ((0 : Nat) : Int) d = false := by
    rw [Bool.eq_false_iff]
    intro h
    exact bel_not_zero (by omega) hf (by omega) ((belB_iff hm (by omega)).1 h)
  obtain ⟨h1, h2, h3⟩ := lastNot_is (p := fun k => belB m (k : Int) d) h0 (36 * d.toNat)
  have hle : (floorN m d : Int) ≤ 36 * d := by
    have : floorN m d ≤ 36 * d.toNat := h2
    omega
  refine ⟨fun h => ?_, ?_, hle⟩
  · have h4 : belB m (floorN m d : Int) d = false := h1
    rw [(belB_iff hm (by omega)).2 h] at h4; cases h4
  · by_cases hlt : floorN m d < 36 * d.toNat
    · have h4 := h3 (floorN m d + 1) (Nat.lt_succ_self _) hlt
      have h5 := (belB_iff hm (by omega)).1 h4
      rwa [show ((floorN m d + 1 : Nat) : Int) = (floorN m d : Int) + 1 by omega] at h5
    · refine bel_rows (h := 36) (by omega) (fun i hi => small_sum hm hi) ?_
      have : floorN m d ≤ 36 * d.toNat := h2
      omega
theorem floor_only {m : List (List Int)} (hm : smallM m = true) {d : Int} (hd : 1 ≤ d) {v : Int} (h1 : ¬ Bel m.length (cellOf m) v d) (h2 : Bel m.length (cellOf m) (v + 1) d) : v = (floorN m d : Int) := by
  obtain ⟨h3, h4, _⟩ := floor_is hm hd
  by_cases hlt : v < (floorN m d : Int)
  · exact absurd (h2.more (by omega)) h3
  · by_cases hgt : (floorN m d : Int) < v
    · exact absurd (h4.more (by omega)) h1
    · omega
theorem bel_floor {m : List (List Int)} (hm : smallM m = true) {q d : Int} (hd : 1 ≤ d) : Bel m.length (cellOf m) q d ↔ (floorN m d : Int) < q := by
  obtain ⟨h3, h4, _⟩ := floor_is hm hd
  constructor
  · intro h
    by_cases hlt : (floorN m d : Int) < q
    · exact hlt
    · exact absurd (h.more (by omega)) h3
  · intro h; exact h4.more (by omega)

/-! ### Sums of rows -/

def rowSum (m : List (List Int)) (i : Nat) : Int := sumTo m.length (cellOf m i)
def leastTo (m : List (List Int)) : Nat → Int
  | 0 => 0
  | k + 1 => if k = 0 ∨ rowSum m k < leastTo m k then rowSum m k else leastTo m k
def mostTo (m : List (List Int)) : Nat → Int
  | 0 => 0
  | k + 1 => if mostTo m k < rowSum m k then rowSum m k else mostTo m k
theorem leastTo_le (m : List (List Int)) : ∀ {n i : Nat}, i < n → leastTo m n ≤ rowSum m i
  | n + 1, i, h => by
    rw [leastTo]
    by_cases e : i = n
    · subst e
      split
      · exact Int.le_refl _
      · omega
    · have h1 := leastTo_le m (n := n) (i := i) (by omega)
      split
      · next hc =>
        rcases hc with hc | hc <;> omega
      · exact h1
theorem mostTo_ge (m : List (List Int)) : ∀ {n i : Nat}, i < n → rowSum m i ≤ mostTo m n
  | n + 1, i, h => by
    rw [mostTo]
    by_cases e : i = n
    · subst e
      split
      · exact Int.le_refl _
      · omega
    · have h1 := mostTo_ge m (n := n) (i := i) (by omega)
      split <;> omega
def lowS (m : List (List Int)) : Int := if isMat m then leastTo m m.length else 0
def highS (m : List (List Int)) : Int := if isMat m then mostTo m m.length else 0
theorem floor_rows {m : List (List Int)} (hm : smallM m = true) {d : Int} (hd : 1 ≤ d) : lowS m * d ≤ (floorN m d : Int) ∧ (floorN m d : Int) ≤ highS m * d := by
  have h1 := (small_facts hm).1
  have hpos := (isMat_facts h1).pos
  have hf := small_nonneg hm
  obtain ⟨h3, h4, _⟩ := floor_is hm hd
  unfold lowS highS
  rw [if_pos h1, if_pos h1]
  constructor
  · have := rows_bel (by omega) hf (by omega) (l := leastTo m m.length) (fun i hi => leastTo_le m hi) h4
    rw [Int.mul_comm]; omega
  · by_cases hgt : mostTo m m.length * d < (floorN m d : Int)
    · exact absurd (bel_rows (h := mostTo m m.length) (by omega) (fun i hi => mostTo_ge m hi) (by rw [Int.mul_comm]; exact hgt)) h3
    · omega

/-! ### Turning, and squares -/

theorem floor_turn {m : List (List Int)} (hm : smallM m = true) {d : Int} (hd : 1 ≤ d) : floorN (turnM m) d = floorN m d := by
  have ht := turn_small hm
  have hl : (turnM m).length = m.length := tabOf_length _ _ _
  have h4 := (small_facts hm).2.1
  have key : ∀ q, Bel (turnM m).length (cellOf (turnM m)) q d ↔ Bel m.length (cellOf m) q d := fun q => by
    rw [hl, ← bel_turn h4 (small_nonneg hm) (by omega)]
    have e : ∀ i j, i < m.length → j < m.length → cellOf (turnM m) i j = cellOf m j i := fun i j hi hj => by unfold turnM; rw [tabOf_cell hi hj]
    exact ⟨fun h => h.congr e, fun h => h.congr fun i j hi hj => (e i j hi hj).symm⟩
  obtain ⟨h1, h2, _⟩ := floor_is ht hd
  have := floor_only hm hd (fun h => h1 ((key _).2 h)) ((key _).1 h2)
  omega
theorem floor_square {m : List (List Int)} (hm : smallM m = true) (hp : smallM (mulM m m) = true) {d : Int} (hd : 1 ≤ d) : (floorN m d : Int) * (floorN m d : Int) < ((floorN (mulM m m) d : Int) + 1) * d ∧ (floorN (mulM m m) d : Int) * d < ((floorN m d : Int) + 1) * ((floorN m d : Int) + 1) := by
  have hpos := (isMat_facts (small_facts hm).1).pos
  have hf := small_nonneg hm
  have hl : (mulM m m).length = m.length := tabOf_length _ _ _
  have e : ∀ i j, i < m.length → j < m.length → cellOf (mulM m m) i j = sqF m.length (cellOf m) i j := fun i j hi hj => by unfold mulM; rw [tabOf_cell hi hj]; rfl
  obtain ⟨h1, h2, _⟩ := floor_is hm hd
  obtain ⟨h3, h4, _⟩ := floor_is hp hd
  rw [hl] at h3 h4
  have h4' := h4.congr e
  constructor
  · by_cases h : (floorN m d : Int) * (floorN m d : Int) < ((floorN (mulM m m) d : Int) + 1) * d
    · exact h
    · exact absurd (bel_root (by omega) hf (by omega) (by omega) h4' (by omega)) h1
  · by_cases h : (floorN (mulM m m) d : Int) * d < ((floorN m d : Int) + 1) * ((floorN m d : Int) + 1)
    · exact h
    · refine absurd ?_ h3
      exact (bel_square hf (by omega) (by omega) h2 (by omega)).congr fun i j hi hj => (e i j hi hj).symm

/-! ### By components -/

def lightB (m : List (List Int)) : Bool := (compS m).all fun l => decide (sumM (partM m l) = (l.length : Int))
def growthlessS (m : List (List Int)) : Bool := smallM m && lightB m
theorem sum_filter (p : Nat → Bool) (g : Nat → Int) : ∀ n : Nat, (sumTo ((List.range n).filter p).length fun a => g (((List.range n).filter p).getD a 0)) = sumTo n fun j => if p j then g j else 0
  | 0 => rfl
  | n + 1 => by
    have ih := sum_filter p g n
    rw [List.range_succ, List.filter_append, sumTo]
    cases hp : p n with
    | false =>
      rw [List.filter_cons_of_neg (by rw [hp]; decide), List.filter_nil, List.append_nil, ih, if_neg (by decide)]
      omega
    | true =>
      rw [List.filter_cons_of_pos hp, List.filter_nil, List.length_append, List.length_singleton, sumTo, if_pos rfl, ← ih]
      congr 1
      · refine sumTo_congr _ fun a ha => ?_
        rw [List.getD_eq_getElem?_getD, List.getD_eq_getElem?_getD, List.getElem?_append_left ha]
      · rw [List.getD_eq_getElem?_getD, List.getElem?_append_right (Nat.le_refl _), Nat.sub_self]; rfl
theorem count_filter (p : Nat → Bool) (n : Nat) : (((List.range n).filter p).length : Int) = sumTo n fun j => if p j then 1 else 0 := by
  rw [← sum_filter p (fun _ => 1) n]
  generalize ((List.range n).filter p).length = k
  induction k with
  | zero => rfl
  | succ k ih => rw [sumTo, ← ih]; omega
def compP (m : List (List Int)) (i j : Nat) : Bool := reachB m i j && reachB m j i
theorem compP_same {m : List (List Int)} {i j k : Nat} (hi : i < m.length) (hj : j < m.length) (hk : k < m.length) (h : compP m i j = true) : compP m j k = compP m i k := by
  unfold compP at h ⊢
  rw [Bool.and_eq_true] at h
  rw [Bool.eq_iff_iff, Bool.and_eq_true, Bool.and_eq_true]
  constructor
  · rintro ⟨h1, h2⟩
    exact ⟨reach_trans hi hj hk h.1 h1, reach_trans hk hj hi h2 h.2⟩
  · rintro ⟨h1, h2⟩
    exact ⟨reach_trans hj hi hk h.2 h1, reach_trans hk hi hj h2 h.1⟩
theorem out_pos {m : List (List Int)} (hm : smallM m = true) {i : Nat} (hi : i < m.length) (h : reachB m i i = true) : 1 ≤ outC m i := by
  have hf := small_nonneg hm
  obtain ⟨n, hn, w⟩ := (reachB_iff hi hi).1 h
  obtain ⟨t, rfl⟩ : ∃ t, n = 1 + t := ⟨n - 1, by omega⟩
  obtain ⟨k, w1, w2⟩ := Wk.split w
  obtain ⟨y, hy, ha⟩ := w1
  obtain rfl : i = y := hy
  have hk := ha.2.1
  have hback : reachB m k i = true := by
    cases t with
    | zero =>
      obtain rfl : k = i := w2
      exact h
    | succ t => exact (reachB_iff hk hi).2 ⟨t + 1, by omega, w2⟩
  have h1 := sumTo_term (f := fun j => if reachB m i j && reachB m j i then cellOf m i j else 0) hk fun j hj => by
    show 0 ≤ (if (reachB m i j && reachB m j i) = true then cellOf m i j else 0)
    split
    · exact hf i j hi hj
    · exact Int.le_refl _
  have h2 : 1 ≤ cellOf m i k := by have := of_decide_eq_true ha.2.2; omega
  rw [reach_arc ha.2.2, hback] at h1
  unfold outC
  exact Int.le_trans h2 h1
theorem comp_sum {m : List (List Int)} (hm : smallM m = true) {i : Nat} (hi : i < m.length) (hr : reachB m i i = true) : sumM (partM m ((compRow m i).map fun (j : Nat) => (j : Int))) = sumTo m.length fun j => if compP m i j then outC m j else 0 := by
  obtain ⟨h1, h4, h9⟩ := small_facts hm
  have hrow : compRow m i = (List.range m.length).filter (compP m i) := rfl
  have hlen : (compRow m i).length ≤ m.length := by rw [hrow]; exact Nat.le_trans (List.length_filter_le _ _) (by simp)
  have hmem : i ∈ compRow m i := List.mem_filter.2 ⟨List.mem_range.2 hi, by rw [hr]; rfl⟩
  have hpos : 0 < (compRow m i).length := List.length_pos_of_mem hmem
  have hat : ∀ a, a < (compRow m i).length → (compRow m i).getD a 0 < m.length ∧ compP m i ((compRow m i).getD a 0) = true := fun a ha => by
    rw [List.getD_eq_getElem?_getD, List.getElem?_eq_getElem ha]
    obtain ⟨h2, h3⟩ := List.mem_filter.1 (List.getElem_mem ha)
    exact ⟨List.mem_range.1 h2, h3⟩
  have hg : ∀ a, (((compRow m i).map fun (j : Nat) => (j : Int)).getD a 0).toNat = (compRow m i).getD a 0 := fun a => by
    rw [List.getD_eq_getElem?_getD, List.getElem?_map, List.getD_eq_getElem?_getD]
    cases (compRow m i)[a]? with
    | none => rfl
    | some v => rfl
  have hl : ((compRow m i).map fun (j : Nat) => (j : Int)).length = (compRow m i).length := List.length_map _
  have hpl : (partM m ((compRow m i).map fun (j : Nat) => (j : Int))).length = (compRow m i).length := by rw [← hl]; exact tabOf_length _ _ _
  have hcell : ∀ a b, a < (compRow m i).length → b < (compRow m i).length → cellOf (partM m ((compRow m i).map fun (j : Nat) => (j : Int))) a b = cellOf m ((compRow m i).getD a 0) ((compRow m i).getD b 0) := fun a b ha hb => by
    unfold partM
    rw [tabOf_cell (by rw [hl]; exact ha) (by rw [hl]; exact hb), hg, hg]
  have hmat : isMat (partM m ((compRow m i).map fun (j : Nat) => (j : Int))) = true := isMat_iff.2 ⟨by rw [hpl]; omega, fun a ha => by
    rw [hpl] at ha ⊢
    refine ⟨?_, fun b hb => ?_⟩
    · unfold partM; rw [tabOf_row (by rw [hl]; exact ha)]; simp
    · rw [hcell a b ha hb]
      have := h9 _ _ (hat a ha).1 (hat b hb).1
      omega⟩
  unfold sumM
  rw [if_pos hmat, hpl]
  have h5 : (sumTo (compRow m i).length fun a => sumTo (compRow m i).length fun b => cellOf (partM m ((compRow m i).map fun (j : Nat) => (j : Int))) a b) = sumTo (compRow m i).length fun a => outC m ((compRow m i).getD a 0) := sumTo_congr _ fun a ha => by
    obtain ⟨h6, h7⟩ := hat a ha
    have h8 : (sumTo (compRow m i).length fun b => cellOf (partM m ((compRow m i).map fun (j : Nat) => (j : Int))) a b) = sumTo (compRow m i).length fun b => cellOf m ((compRow m i).getD a 0) ((compRow m i).getD b 0) := sumTo_congr _ fun b hb => hcell a b ha hb
    rw [h8]
    rw [hrow]
    rw [hrow] at h6 h7
    generalize ((List.range m.length).filter (compP m i)).getD a 0 = v at h6 h7 ⊢
    have h10 := sum_filter (compP m i) (fun j => cellOf m v j) m.length
    rw [h10]
    unfold outC
    exact sumTo_congr _ fun j hj => by
      have := compP_same hi h6 hj h7
      show (if compP m i j = true then _ else _) = (if compP m _ j = true then _ else _)
      rw [this]
  rw [h5, hrow]
  exact sum_filter (compP m i) (outC m) m.length
theorem light_comp {m : List (List Int)} (hm : smallM m = true) {i : Nat} (hi : i < m.length) (hr : reachB m i i = true) : (sumM (partM m ((compRow m i).map fun (j : Nat) => (j : Int))) = (((compRow m i).map fun (j : Nat) => (j : Int)).length : Int)) ↔ ∀ j, j < m.length → compP m i j = true → outC m j = 1 := by
  rw [comp_sum hm hi hr, List.length_map]
  have hrow : compRow m i = (List.range m.length).filter (compP m i) := rfl
  rw [hrow, count_filter]
  have hself : ∀ j, j < m.length → compP m i j = true → reachB m j j = true := fun j hj h => by
    unfold compP at h
    rw [Bool.and_eq_true] at h
    exact reach_trans hj hi hj h.2 h.1
  constructor
  · intro h j hj hp
    have h1 := out_pos hm hj (hself j hj hp)
    have h2 : (sumTo m.length fun k => (if compP m i k then outC m k else 0) + -1 * (if compP m i k then 1 else 0)) = 0 := by
      rw [sumTo_addf, sumTo_mulc, h]; omega
    have h3 := sumTo_term (f := fun k => (if compP m i k then outC m k else 0) + -1 * (if compP m i k then 1 else 0)) hj fun k hk => by
      show 0 ≤ (if compP m i k = true then outC m k else 0) + -1 * (if compP m i k = true then 1 else 0)
      split
      · next hc => have := out_pos hm hk (hself k hk hc); omega
      · omega
    rw [h2, hp] at h3
    simp only [if_true] at h3
    omega
  · intro h
    exact sumTo_congr _ fun j hj => by
      by_cases hc : compP m i j = true
      · rw [if_pos hc, if_pos hc, h j hj hc]
      · rw [if_neg hc, if_neg hc]
theorem light_iff {m : List (List Int)} (hm : smallM m = true) : lightB m = true ↔ lightF m := by
  have hmat := (small_facts hm).1
  unfold lightB compS compM
  rw [if_pos hmat, List.all_eq_true]
  constructor
  · intro h i hi hr
    have hmem : i ∈ compRow m i := List.mem_filter.2 ⟨List.mem_range.2 hi, by rw [hr]; rfl⟩
    obtain ⟨e, l, hl⟩ : ∃ e l, compRow m i = e :: l := by
      cases hc : compRow m i with
      | nil => rw [hc] at hmem; cases hmem
      | cons e l => exact ⟨e, l, rfl⟩
    have he : e ∈ compRow m i := by rw [hl]; simp
    obtain ⟨he1, he2⟩ := List.mem_filter.1 he
    have he1 := List.mem_range.1 he1
    have he2' : compP m i e = true := he2
    have hrow : compRow m e = compRow m i := List.filter_congr fun j hj => compP_same hi he1 (List.mem_range.1 hj) he2'
    have hre : reachB m e e = true := by
      unfold compP at he2'
      rw [Bool.and_eq_true] at he2'
      exact reach_trans he1 hi he1 he2'.2 he2'.1
    have hlist : compList m e = [(compRow m e).map fun (j : Nat) => (j : Int)] := by
      unfold compList
      rw [if_pos (by rw [hrow, hl]; rfl)]
    have h1 := of_decide_eq_true (h ((compRow m e).map fun (j : Nat) => (j : Int)) (List.mem_flatten.2 ⟨compList m e, List.mem_map.2 ⟨e, List.mem_range.2 he1, rfl⟩, by rw [hlist]; simp⟩))
    refine (light_comp hm he1 hre).1 h1 i hi ?_
    have := compP_same hi he1 hi he2'
    rw [this]
    unfold compP
    rw [hr]; rfl
  · intro h l hl
    obtain ⟨ll, h1, h2⟩ := List.mem_flatten.1 hl
    obtain ⟨i, h3, rfl⟩ := List.mem_map.1 h1
    have hi := List.mem_range.1 h3
    unfold compList at h2
    split at h2
    · next hc =>
      rw [List.mem_singleton] at h2
      subst h2
      have hr : reachB m i i = true := by
        have : i ∈ compRow m i := List.mem_of_mem_head? hc
        have h4 := (List.mem_filter.1 this).2
        rw [Bool.and_eq_true] at h4
        exact h4.1
      exact decide_eq_true ((light_comp hm hi hr).2 fun j hj hp => h j hj (by
        unfold compP at hp
        rw [Bool.and_eq_true] at hp
        exact reach_trans hj hi hj hp.2 hp.1))
    · cases h2
/-- Without different closed paths the growth is at most 1, and only then. -/
theorem light_floor {m : List (List Int)} (hm : smallM m = true) {q d : Int} (hd : 1 ≤ d) (hdq : d < q) (h4 : q ^ 4 ≤ 2 * d ^ 4) : lightB m = true ↔ (floorN m d : Int) < q := by
  rw [light_iff hm, ← bel_floor hm hd]
  constructor
  · intro h; exact light_bel hm h (by omega) hdq
  · intro h i hi hr
    have h1 := out_pos hm hi hr
    by_cases h2 : outC m i = 1
    · exact h2
    · exact absurd h (heavy_not hm (by omega) (by omega) h4 hi (by omega))
end Go.Proofs.YtanelokploifhaaDoor
namespace Go.Proofs.YtanelokploifhaaDoor
open Go Go.RowKit

/-- The numbers f up to place j of row i, zeros behind. -/
def fillF (f : Nat → Nat → Int) (i j : Nat) : Nat → Nat → Int := fun a b => if a < i ∨ (a = i ∧ b < j) then f a b else 0
theorem fillF_zero (f : Nat → Nat → Int) (n : Nat) : tabOf n n (fillF f 0 0) = tabOf n n fun _ _ => 0 := tabOf_congr fun i j _ _ => by unfold fillF; rw [if_neg (by omega)]
theorem fillF_next (f : Nat → Nat → Int) (n i j : Nat) (hi : i < n) : (tabOf n n (fillF f i j)).set i (((tabOf n n (fillF f i j)).getD i []).set j (f i j)) = tabOf n n (fillF f i (j + 1)) := by
  rw [tabOf_set _ _ hi]
  refine tabOf_congr fun a b _ _ => ?_
  unfold fillF
  by_cases e : a = i ∧ b = j
  · obtain ⟨rfl, rfl⟩ := e
    rw [if_pos ⟨rfl, rfl⟩, if_pos (by omega)]
  · rw [if_neg e]
    by_cases h : a < i ∨ (a = i ∧ b < j)
    · rw [if_pos h, if_pos (by omega)]
    · rw [if_neg h, if_neg (by omega)]
theorem fillF_row (f : Nat → Nat → Int) (n i : Nat) : tabOf n n (fillF f i n) = tabOf n n (fillF f (i + 1) 0) := tabOf_congr fun a b _ hb => by
  unfold fillF
  by_cases h : a < i ∨ (a = i ∧ b < n)
  · rw [if_pos h, if_pos (by omega)]
  · rw [if_neg h, if_neg (by omega)]
theorem fillF_all (f : Nat → Nat → Int) (n : Nat) : tabOf n n (fillF f n 0) = tabOf n n f := tabOf_congr fun a b ha _ => by unfold fillF; rw [if_pos (by omega)]

theorem fillF_still (f : Nat → Nat → Int) (n i j : Nat) (h : f i j = 0) : tabOf n n (fillF f i (j + 1)) = tabOf n n (fillF f i j) := tabOf_congr fun a b _ _ => by
  unfold fillF
  by_cases e : a = i ∧ b = j
  · obtain ⟨rfl, rfl⟩ := e
    rw [if_pos (by omega), if_neg (by omega), h]
  · by_cases h2 : a < i ∨ (a = i ∧ b < j)
    · rw [if_pos h2, if_pos (by omega)]
    · rw [if_neg h2, if_neg (by omega)]
end Go.Proofs.YtanelokploifhaaDoor
namespace Go.Proofs.YtanelokploifhaaDoor
open Go Go.RowKit

/-- The integers below k. -/
def upTo (k : Nat) : List Int := (List.range k).map fun (j : Nat) => (j : Int)
theorem upTo_len (k : Nat) : (upTo k).length = k := by simp [upTo]
theorem upTo_next (k : Nat) : upTo (k + 1) = upTo k ++ [(k : Int)] := by simp [upTo, List.range_succ]
theorem upTo_at {k a : Nat} (h : a < k) : (upTo k).getD a 0 = (a : Int) := by
  unfold upTo
  rw [List.getD_eq_getElem?_getD, List.getElem?_map, List.getElem?_range h]; rfl
theorem lead_part (f : Nat → Nat → Int) {n k : Nat} (hk : k ≤ n) : (partM (tabOf n n f) (upTo k)).length = k ∧ (∀ i, i < k → ((partM (tabOf n n f) (upTo k)).getD i []).length = k) ∧ ∀ a b, a < k → b < k → cellOf (partM (tabOf n n f) (upTo k)) a b = f a b := by
  have hl := upTo_len k
  refine ⟨by unfold partM; rw [tabOf_length, hl], fun i hi => ?_, fun a b ha hb => ?_⟩
  · unfold partM
    rw [tabOf_row (by rw [hl]; exact hi), hl]; simp
  · unfold partM
    rw [tabOf_cell (by rw [hl]; exact ha) (by rw [hl]; exact hb), upTo_at ha, upTo_at hb, Int.toNat_natCast, Int.toNat_natCast, tabOf_cell (by omega) (by omega)]
theorem lead_det (f : Nat → Nat → Int) {n k : Nat} (hk : k ≤ n) : detT (partM (tabOf n n f) (upTo k)) = detF k f := by
  obtain ⟨h1, _, h3⟩ := lead_part f hk
  unfold detT
  rw [h1]
  exact detF_congr h3
theorem neg_abs {m : List (List Int)} (hm : smallM m = true) {q d : Int} (hq : 0 ≤ q ∧ q ≤ 3601) (hd : 0 ≤ d ∧ d ≤ 100) {i j : Nat} (hi : i < m.length) (hj : j < m.length) : (negE (cellOf m) q d i j).natAbs ≤ 10000 := by
  have h9 := (small_facts hm).2.2 i j hi hj
  unfold negE
  have h1 : 0 ≤ d * cellOf m i j := Int.mul_nonneg hd.1 h9.1
  have h2 : d * cellOf m i j ≤ 100 * 9 := Int.le_trans (Int.mul_le_mul_of_nonneg_right hd.2 h9.1) (Int.mul_le_mul_of_nonneg_left h9.2 (by decide))
  split <;> omega
theorem lead_sq {m : List (List Int)} (hm : smallM m = true) {q d : Int} (hq : 0 ≤ q ∧ q ≤ 3601) (hd : 0 ≤ d ∧ d ≤ 100) {k : Nat} (hk : k ≤ m.length) : Sq 10000 k (partM (tabOf m.length m.length (negE (cellOf m) q d)) (upTo k)) := by
  obtain ⟨h1, h2, h3⟩ := lead_part (negE (cellOf m) q d) hk
  exact ⟨h1, h2, fun i j hi hj => by rw [h3 i j hi hj]; exact neg_abs hm hq hd (by omega) (by omega)⟩
/-- The first k leading minors are positive. -/
def belTo (m : List (List Int)) (q d : Int) (k : Nat) : Prop := ∀ i, i < k → 0 < detF (i + 1) (negE (cellOf m) q d)
theorem belB_to {m : List (List Int)} {q d : Int} : belB m q d = true ↔ belTo m q d m.length := by
  unfold belB belTo
  rw [List.all_eq_true]
  exact ⟨fun h k hk => of_decide_eq_true (h k (List.mem_range.2 hk)), fun h k hk => decide_eq_true (h k (List.mem_range.1 hk))⟩
end Go.Proofs.YtanelokploifhaaDoor
