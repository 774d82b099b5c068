/-
  PLAIN FACTS ON GRAPHS (no program in this text): a graph of at most 60 arcs that has at most 500 paths of n arcs (n from 1 to 6) has all its powers up to the n-th, so CountPaths knows its paths.
-/
import Derived.Test.YthljogoggiejmaaGraphCount
import Derived.Test.YthljogoggiejmaaGraphCopies
namespace Go.Proofs.Ythljogoggiejmaa
open Go Go.RowKit

/-! ### Walks of k arcs, counted -/

def opN (N : Nat) (a : Nat → Nat → Int) (f : Nat → Int) (i : Nat) : Int := sumTo N fun j => a i j * f j
def wN (N : Nat) (a : Nat → Nat → Int) : Nat → Nat → Int
  | 0, _ => 1
  | k + 1, i => opN N a (wN N a k) i
def reachN (N : Nat) (a : Nat → Nat → Int) : Nat → Nat → Nat → Prop
  | 0, i, j => i = j
  | d + 1, i, j => ∃ l, l < N ∧ 0 < a i l ∧ reachN N a d l j
theorem sumTo_ge0 {f : Nat → Int} : ∀ (n : Nat), (∀ k, k < n → 0 ≤ f k) → 0 ≤ sumTo n f
  | 0, _ => Int.le_refl _
  | n + 1, h => by
    have h1 := sumTo_ge0 n fun k hk => h k (by omega)
    have h2 := h n (by omega)
    rw [sumTo]; omega
theorem sumTo_mono {f g : Nat → Int} : ∀ (n : Nat), (∀ k, k < n → f k ≤ g k) → sumTo n f ≤ sumTo n g
  | 0, _ => Int.le_refl _
  | n + 1, h => by
    have h1 := sumTo_mono n fun k hk => h k (by omega)
    have h2 := h n (by omega)
    rw [sumTo, sumTo]; omega
theorem sumTo_one {f : Nat → Int} {k : Nat} : ∀ (n : Nat), (∀ k, k < n → 0 ≤ f k) → k < n → f k ≤ sumTo n f
  | 0, _, h => by omega
  | n + 1, h, hk => by
    rw [sumTo]
    by_cases e : k = n
    · subst e
      have := sumTo_ge0 k fun j hj => h j (by omega)
      omega
    · have h1 := sumTo_one (k := k) n (fun k hk => h k (by omega)) (by omega)
      have h2 := h n (by omega)
      omega
section walks
variable {N : Nat} {a : Nat → Nat → Int} (ha : ∀ i j, i < N → j < N → 0 ≤ a i j)
include ha
theorem wN_ge0 : ∀ (k : Nat) {i : Nat}, i < N → 0 ≤ wN N a k i
  | 0, _, _ => by show (0 : Int) ≤ 1; omega
  | k + 1, i, hi => sumTo_ge0 N fun j hj => Int.mul_nonneg (ha i j hi hj) (wN_ge0 k hj)
/-- One arc ahead of a walk. -/
theorem wN_step (k : Nat) {i l : Nat} (hi : i < N) (hl : l < N) (h : 0 < a i l) : wN N a k l ≤ wN N a (k + 1) i := by
  have h1 := sumTo_one (f := fun j => a i j * wN N a k j) (k := l) N (fun j hj => Int.mul_nonneg (ha i j hi hj) (wN_ge0 ha k hj)) hl
  have h2 := wN_ge0 ha k hl
  have h3 : 1 * wN N a k l ≤ a i l * wN N a k l := Int.mul_le_mul_of_nonneg_right (by omega) h2
  have h4 : wN N a (k + 1) i = sumTo N fun j => a i j * wN N a k j := rfl
  rw [h4]; omega
theorem wN_pos : ∀ (k : Nat) {i j : Nat}, i < N → reachN N a k i j → 1 ≤ wN N a k i
  | 0, _, _, _, _ => Int.le_refl 1
  | k + 1, i, j, hi, h => by
    obtain ⟨l, hl, h0, hr⟩ := h
    have h1 := wN_pos k hl hr
    have h2 := wN_step ha k hi hl h0
    omega
theorem wN_back (k : Nat) {v : Nat} : ∀ (l : Nat) {i : Nat}, i < N → reachN N a l i v → wN N a k v ≤ wN N a (l + k) i
  | 0, i, _, h => by
    obtain rfl : i = v := h
    rw [Nat.zero_add]; exact Int.le_refl _
  | l + 1, i, hi, h => by
    obtain ⟨u, hu, h0, hr⟩ := h
    have h1 := wN_back k l hu hr
    have h2 := wN_step ha (l + k) hi hu h0
    rw [show l + 1 + k = l + k + 1 by omega]; omega
omit ha
theorem reachN_lt : ∀ (d : Nat) {i j : Nat}, i < N → reachN N a d i j → j < N
  | 0, i, j, hi, h => by
    obtain rfl : i = j := h
    exact hi
  | d + 1, i, j, _, h => by
    obtain ⟨l, hl, _, hr⟩ := h
    exact reachN_lt d hl hr
theorem reachN_trans {u j : Nat} : ∀ (k l : Nat) {i : Nat}, reachN N a k i u → reachN N a l u j → reachN N a (k + l) i j
  | 0, l, i, h, h2 => by
    obtain rfl : i = u := h
    rw [Nat.zero_add]; exact h2
  | k + 1, l, i, h, h2 => by
    obtain ⟨x, hx, h0, hr⟩ := h
    rw [show k + 1 + l = k + l + 1 by omega]
    exact ⟨x, hx, h0, reachN_trans k l hr h2⟩
theorem reachN_split {j : Nat} : ∀ (k l : Nat) {i : Nat}, reachN N a (k + l) i j → ∃ u, reachN N a k i u ∧ reachN N a l u j
  | 0, l, i, h => ⟨i, rfl, by rw [Nat.zero_add] at h; exact h⟩
  | k + 1, l, i, h => by
    rw [show k + 1 + l = k + l + 1 by omega] at h
    obtain ⟨x, hx, h0, hr⟩ := h
    obtain ⟨u, h1, h2⟩ := reachN_split k l hr
    exact ⟨u, ⟨x, hx, h0, h1⟩, h2⟩
theorem reachN_pump {d v : Nat} (h : reachN N a d v v) : ∀ (c : Nat), reachN N a (c * d) v v
  | 0 => by rw [Nat.zero_mul]; rfl
  | c + 1 => by
    rw [Nat.add_mul, Nat.one_mul]
    exact reachN_trans _ _ (reachN_pump h c) h
def cyclicN (N : Nat) (a : Nat → Nat → Int) (v : Nat) : Prop := ∃ d, 1 ≤ d ∧ reachN N a d v v
include ha
/-- From a vertex on a closed walk there are walks of every length. -/
theorem cyclic_out {v : Nat} (hv : v < N) (h : cyclicN N a v) (k : Nat) : 1 ≤ wN N a k v := by
  obtain ⟨d, hd, hr⟩ := h
  have h1 := reachN_pump hr k
  have h2 : k ≤ k * d := Nat.le_mul_of_pos_right k hd
  rw [show k * d = k + (k * d - k) by omega] at h1
  obtain ⟨u, h3, _⟩ := reachN_split k _ h1
  exact wN_pos ha k hv h3
/-- Walks from such a vertex are no more than longer ones from somewhere. -/
theorem cyclic_in {v : Nat} (hv : v < N) (h : cyclicN N a v) {k n : Nat} (hk : k ≤ n) : wN N a k v ≤ sumTo N (wN N a n) := by
  obtain ⟨d, hd, hr⟩ := h
  have h1 := reachN_pump hr (n - k)
  have h2 : n - k ≤ (n - k) * d := Nat.le_mul_of_pos_right _ hd
  rw [show (n - k) * d = ((n - k) * d - (n - k)) + (n - k) by omega] at h1
  obtain ⟨u, h3, h4⟩ := reachN_split _ (n - k) h1
  have hu := reachN_lt _ hv h3
  have h5 := wN_back ha k (n - k) hu h4
  rw [show n - k + k = n by omega] at h5
  exact Int.le_trans h5 (sumTo_one N (fun i hi => wN_ge0 ha n hi) hu)
omit ha

/-! ### Walks that keep off some vertices, and walks up to the first of them -/

def gN (N : Nat) (a : Nat → Nat → Int) (R : Nat → Bool) : Nat → Nat → Int
  | 0, v => if R v = true then 0 else 1
  | k + 1, v => if R v = true then 0 else opN N a (gN N a R k) v
def cN (N : Nat) (a : Nat → Nat → Int) (R : Nat → Bool) : Nat → Nat → Int
  | 0, v => if R v = true then 1 else 0
  | k + 1, v => if R v = true then 1 else opN N a (cN N a R k) v
include ha
theorem wN_le {R : Nat → Bool} {B : Int} {K : Nat} (hR : ∀ v, v < N → R v = true → ∀ k, k ≤ K → wN N a k v ≤ B) : ∀ (k : Nat), k ≤ K → ∀ v, v < N → wN N a k v ≤ gN N a R k v + B * cN N a R k v
  | 0, hk, v, hv => by
    cases h : R v with
    | true =>
      have h1 := hR v hv h 0 hk
      simp only [gN, cN, h, if_true]
      omega
    | false =>
      simp only [gN, cN, h, wN]
      simp
  | k + 1, hk, v, hv => by
    cases h : R v with
    | true =>
      have h1 := hR v hv h (k + 1) hk
      simp only [gN, cN, h, if_true]
      omega
    | false =>
      have e1 : gN N a R (k + 1) v = sumTo N fun j => a v j * gN N a R k j := by simp [gN, h, opN]
      have e2 : cN N a R (k + 1) v = sumTo N fun j => a v j * cN N a R k j := by simp [cN, h, opN]
      have e3 : wN N a (k + 1) v = sumTo N fun j => a v j * wN N a k j := rfl
      rw [e1, e2, e3, ← sumTo_mul, ← sumTo_add]
      refine sumTo_mono N fun j hj => ?_
      have h1 := wN_le hR k (by omega) j hj
      have h2 := Int.mul_le_mul_of_nonneg_left h1 (ha v j hv hj)
      rw [Int.mul_add] at h2
      have h3 : a v j * (B * cN N a R k j) = B * (a v j * cN N a R k j) := by rw [← Int.mul_assoc, Int.mul_comm (a v j) B, Int.mul_assoc]
      omega
theorem cN_le {R : Nat → Bool} (hR : ∀ v, v < N → R v = true → ∀ k, 1 ≤ wN N a k v) : ∀ (k n : Nat), k ≤ n → ∀ v, v < N → cN N a R k v ≤ wN N a n v
  | 0, n, _, v, hv => by
    cases h : R v with
    | true =>
      have := hR v hv h n
      simp only [cN, h, if_true]; omega
    | false =>
      have := wN_ge0 ha n hv
      simp only [cN, h]; simp; omega
  | k + 1, n, hk, v, hv => by
    cases h : R v with
    | true =>
      have := hR v hv h n
      simp only [cN, h, if_true]; omega
    | false =>
      obtain ⟨n, rfl⟩ : ∃ n', n = n' + 1 := ⟨n - 1, by omega⟩
      have e2 : cN N a R (k + 1) v = sumTo N fun j => a v j * cN N a R k j := by simp [cN, h, opN]
      have e3 : wN N a (n + 1) v = sumTo N fun j => a v j * wN N a n j := rfl
      rw [e2, e3]
      exact sumTo_mono N fun j hj => Int.mul_le_mul_of_nonneg_left (cN_le hR k n (by omega) j hj) (ha v j hv hj)
omit ha

/-! ### Walks that never come back -/

/-- The greatest product of k numbers whose sum is n, or more. -/
def hB (k n : Nat) : Nat := n ^ k / k ^ k
def hBok : Bool := (List.range 5).all fun k => (List.range 61).all fun n => (List.range (n + 1)).all fun x => decide (x * hB k (n - x) ≤ hB (k + 1) n)
def hBle : Bool := (List.range 6).all fun k => (List.range 61).all fun n => decide (hB k n ≤ 248832)
theorem hB_step {k n x : Nat} (hk : k ≤ 4) (hn : n ≤ 60) (hx : x ≤ n) : x * hB k (n - x) ≤ hB (k + 1) n := by
  have h : hBok = true := by decide +kernel
  unfold hBok at h
  have h1 := List.all_eq_true.1 (List.all_eq_true.1 (List.all_eq_true.1 h k (List.mem_range.2 (by omega))) n (List.mem_range.2 (by omega))) x (List.mem_range.2 (by omega))
  exact of_decide_eq_true h1
theorem hB_le {k n : Nat} (hk : k ≤ 5) (hn : n ≤ 60) : hB k n ≤ 248832 := by
  have h : hBle = true := by decide +kernel
  unfold hBle at h
  have h1 := List.all_eq_true.1 (List.all_eq_true.1 h k (List.mem_range.2 (by omega))) n (List.mem_range.2 (by omega))
  exact of_decide_eq_true h1
def outN (N : Nat) (a : Nat → Nat → Int) (v : Nat) : Int := sumTo N (a v)
/-- The arcs that leave the vertices not yet seen. -/
def capN (N : Nat) (a : Nat → Nat → Int) (seen : Nat → Bool) : Int := sumTo N fun u => if seen u = true then 0 else outN N a u
include ha
theorem outN_ge0 {v : Nat} (hv : v < N) : 0 ≤ outN N a v := sumTo_ge0 N fun j hj => ha v j hv hj
theorem capN_ge0 (seen : Nat → Bool) : 0 ≤ capN N a seen := sumTo_ge0 N fun u hu => by
  have := outN_ge0 ha hu
  show 0 ≤ if seen u = true then 0 else outN N a u
  split <;> omega
omit ha
theorem capN_next (seen : Nat → Bool) {v : Nat} (hs : seen v = false) (hv : v < N) : capN N a (fun u => seen u || decide (v = u)) + outN N a v = capN N a seen := by
  have h1 := sumTo_single (k := v) (fun u => outN N a u) N hv
  unfold capN
  rw [← h1, ← sumTo_add]
  refine sumTo_congr N fun u _ => ?_
  by_cases e : v = u
  · subst e
    simp [hs]
  · simp [e]
theorem mul_nat {x y : Int} (hx : 0 ≤ x) (hy : 0 ≤ y) : ((x.toNat * y.toNat : Nat) : Int) = x * y := by
  rw [Int.natCast_mul, Int.toNat_of_nonneg hx, Int.toNat_of_nonneg hy]
include ha
theorem gN_le {R : Nat → Bool} (hR : ∀ v, v < N → R v = false → ¬ cyclicN N a v) : ∀ (k : Nat) (seen : Nat → Bool) (v : Nat), k ≤ 5 → v < N → seen v = false → (∀ u, u < N → seen u = true → ∀ d, ¬ reachN N a d v u) → capN N a seen ≤ 60 →
    gN N a R k v ≤ (hB k (capN N a seen).toNat : Nat)
  | 0, seen, v, _, _, _, _, _ => by
    have e : hB 0 (capN N a seen).toNat = 1 := by simp [hB]
    rw [e]
    show (if R v = true then 0 else 1) ≤ (1 : Int)
    split <;> omega
  | k + 1, seen, v, hk, hv, hs, hn, hc => by
    cases h : R v with
    | true => simp [gN, h]
    | false =>
      have hcy := hR v hv h
      have e1 : gN N a R (k + 1) v = sumTo N fun j => a v j * gN N a R k j := by simp [gN, h, opN]
      have hcap := capN_next (a := a) seen hs hv
      have ho := outN_ge0 ha hv
      have hg := capN_ge0 ha (fun u => seen u || decide (v = u))
      have hcong : ∀ j, j < N → a v j * gN N a R k j ≤ a v j * ((hB k (capN N a fun u => seen u || decide (v = u)).toNat : Nat) : Int) := by
        intro j hj
        have h0 := ha v j hv hj
        by_cases e0 : a v j = 0
        · rw [e0, Int.zero_mul, Int.zero_mul]; exact Int.le_refl _
        · refine Int.mul_le_mul_of_nonneg_left (gN_le hR k _ j (by omega) hj ?_ ?_ (by omega)) h0
          · cases hsj : seen j with
            | true => exact absurd ⟨j, hj, by omega, rfl⟩ (hn j hj hsj 1)
            | false =>
              by_cases e : v = j
              · subst e
                exact absurd ⟨1, Nat.le_refl _, v, hv, by omega, rfl⟩ hcy
              · simp [e]
          · intro u hu hsu d hr
            by_cases e : v = u
            · subst e
              exact hcy ⟨d + 1, by omega, j, hj, by omega, hr⟩
            · simp [e] at hsu
              exact hn u hu hsu (d + 1) ⟨j, hj, by omega, hr⟩
      rw [e1]
      refine Int.le_trans (sumTo_mono N hcong) ?_
      rw [sumTo_mul']
      show outN N a v * _ ≤ _
      have h2 := hB_step (k := k) (n := (capN N a seen).toNat) (x := (outN N a v).toNat) (by omega) (by omega) (by omega)
      rw [show (capN N a seen).toNat - (outN N a v).toNat = (capN N a fun u => seen u || decide (v = u)).toNat by omega] at h2
      have h3 := mul_nat ho (Int.natCast_nonneg (hB k (capN N a fun u => seen u || decide (v = u)).toNat))
      rw [Int.toNat_natCast] at h3
      omega
/-- Where there are at most 500 walks of n arcs, there are few of k arcs from each vertex. -/
theorem wN_few {n : Nat} (hc : sumTo N (outN N a) ≤ 60) (hn : sumTo N (wN N a n) ≤ 500) {k : Nat} (hk : k ≤ n) (h5 : k ≤ 5) {v : Nat} (hv : v < N) : wN N a k v ≤ 498832 := by
  obtain ⟨R, hR⟩ : ∃ R : Nat → Bool, ∀ v, R v = true ↔ cyclicN N a v := ⟨fun v => @decide (cyclicN N a v) (Classical.propDecidable _), fun v => by simp⟩
  have h1 := wN_le ha (R := R) (B := 500) (K := n) (fun v hv h k hk => Int.le_trans (cyclic_in ha hv ((hR v).1 h) hk) hn) k hk v hv
  have h2 := cN_le ha (R := R) (fun v hv h k => cyclic_out ha hv ((hR v).1 h) k) k n hk v hv
  have h3 := sumTo_one (f := wN N a n) N (fun i hi => wN_ge0 ha n hi) hv
  have e0 : capN N a (fun _ => false) = sumTo N (outN N a) := sumTo_congr N fun u _ => by simp
  have h4 := gN_le ha (R := R) (fun v hv h hcy => by rw [(hR v).2 hcy] at h; cases h) k (fun _ => false) v h5 hv rfl (fun u _ h => by cases h) (by omega)
  have h6 := hB_le (k := k) (n := (capN N a fun _ => false).toNat) h5 (by omega)
  omega
omit ha
end walks

/-! ### Powers -/

def itN (N : Nat) (a : Nat → Nat → Int) : Nat → (Nat → Int) → Nat → Int
  | 0, f => f
  | k + 1, f => itN N a k (opN N a f)
theorem itN_out {N : Nat} {a : Nat → Nat → Int} : ∀ (k : Nat) (f : Nat → Int), itN N a (k + 1) f = opN N a (itN N a k f)
  | 0, _ => rfl
  | k + 1, f => itN_out k (opN N a f)
theorem itN_one {N : Nat} {a : Nat → Nat → Int} : ∀ (k : Nat), itN N a k (fun _ => 1) = wN N a k
  | 0 => rfl
  | k + 1 => by
    rw [itN_out, itN_one k]
    funext i
    rfl
theorem itN_congr {N : Nat} {a : Nat → Nat → Int} : ∀ (k : Nat) {f g : Nat → Int}, (∀ j, j < N → f j = g j) → ∀ i, i < N → itN N a k f i = itN N a k g i
  | 0, _, _, h, i, hi => h i hi
  | k + 1, f, g, h, i, hi => itN_congr k (fun j _ => sumTo_congr N fun l hl => by rw [h l hl]) i hi
theorem fill_walks {m : List (List Int)} (h : isMat m = true) : ∀ (d : Nat) (f : Int → Int), sumI ((fillM (arcsM m) (d + 1) []).map fun q => f (lastEnd (arcsM m) q)) = sumTo m.length (itN m.length (cellOf m) (d + 1) fun j => f (j : Int))
  | 0, f => first_sum h f
  | d + 1, f => by
    rw [weight_next h d f, fill_walks h d]
    refine sumTo_congr _ fun i hi => ?_
    rw [itN]
    refine itN_congr (d + 1) (fun j hj => ?_) i hi
    exact opM_row f hj
theorem fill_count {m : List (List Int)} (h : isMat m = true) (d : Nat) : ((fillM (arcsM m) (d + 1) []).length : Int) = sumTo m.length (wN m.length (cellOf m) (d + 1)) := by
  have h1 := fill_walks h d (fun _ => 1)
  rw [sumI_ones, itN_one] at h1
  exact h1
/-- Each power's numbers, summed up. -/
theorem pow_rows {m : List (List Int)} : ∀ (k : Nat) {P : List (List Int)}, powM m k = some P → ∀ (f : Nat → Int) (i : Nat), i < m.length → (sumTo m.length fun j => cellOf P i j * f j) = itN m.length (cellOf m) k f i
  | 0, P, hP, f, i, hi => by
    obtain rfl := Option.some.inj hP
    have e : ∀ j, j < m.length → cellOf (oneM m.length) i j * f j = if i = j then f j else 0 := by
      intro j hj
      unfold oneM
      rw [tabOf_cell hi hj]
      by_cases e : i = j
      · rw [if_pos e, if_pos e, Int.one_mul]
      · rw [if_neg e, if_neg e, Int.zero_mul]
    rw [sumTo_congr _ e]
    exact sumTo_single f m.length hi
  | k + 1, P, hP, f, i, hi => by
    rw [powM] at hP
    obtain ⟨q, hq, hp⟩ := Option.bind_eq_some_iff.1 hP
    obtain ⟨_, _, hl, _, rfl⟩ := prodM_some hp
    rw [itN, ← pow_rows k hq (opN m.length (cellOf m) f) i hi]
    have e1 : ∀ j, j < m.length → cellOf (mulM q m) i j * f j = sumTo m.length fun l => cellOf q i l * cellOf m l j * f j := by
      intro j hj
      unfold mulM
      rw [tabOf_cell (by omega) hj, sumTo_mul']
    rw [sumTo_congr _ e1, sumTo_swap]
    refine sumTo_congr _ fun l _ => ?_
    unfold opN
    rw [← sumTo_mul]
    exact sumTo_congr _ fun j _ => Int.mul_assoc _ _ _
/-- All powers up to the n-th are there. -/
theorem pow_there {m : List (List Int)} (hg : isGraphM m = true) {n : Nat} (h1 : 1 ≤ n) (h6 : n ≤ 6) (hs : (fillM (arcsM m) n []).length ≤ 500) : ∀ (k : Nat), k ≤ n → ∃ P, powM m k = some P := by
  obtain ⟨hm, hz⟩ := isGraphM_facts hg
  obtain ⟨⟨hm1, hm9⟩, hcell⟩ := isMat_iff.1 hm
  have ha : ∀ i j, i < m.length → j < m.length → 0 ≤ cellOf m i j := fun i j hi hj => ((hcell i hi).2 j hj).1
  have hc : sumTo m.length (outN m.length (cellOf m)) ≤ 60 := by
    have : sumM m = sumTo m.length (outN m.length (cellOf m)) := by unfold sumM; rw [if_pos hm]; rfl
    unfold isGraphM at hg
    rw [Bool.and_eq_true, decide_eq_true_iff] at hg
    omega
  have hn : sumTo m.length (wN m.length (cellOf m) n) ≤ 500 := by
    obtain ⟨d, rfl⟩ : ∃ d, n = d + 1 := ⟨n - 1, by omega⟩
    rw [← fill_count hm d]; omega
  intro k
  induction k with
  | zero => exact fun _ => ⟨_, rfl⟩
  | succ k ih =>
    intro hk
    obtain ⟨P, hP⟩ := ih (by omega)
    have hl := powM_length k hP
    have hPm := powM_isMat hm k hP
    obtain ⟨_, hPc⟩ := isMat_iff.1 hPm
    have hlM : (mulM P m).length = m.length := by unfold mulM; rw [tabOf_length, hl]
    have hmul : isMat (mulM P m) = true := by
      refine isMat_iff.2 ⟨by omega, fun i hi => ⟨?_, fun j hj => ?_⟩⟩
      · unfold mulM
        rw [tabOf_row (by omega), List.length_map, List.length_range, tabOf_length]; omega
      · rw [hlM] at hi hj
        have e1 : cellOf (mulM P m) i j = sumTo m.length fun l => cellOf P i l * cellOf m l j := by
          unfold mulM
          rw [tabOf_cell (by omega) hj]
        have hp0 : ∀ l, l < m.length → 0 ≤ cellOf P i l := fun l hl' => ((hPc i (by omega)).2 l (by omega)).1
        have hlow : 0 ≤ cellOf (mulM P m) i j := by
          rw [e1]
          exact sumTo_ge0 _ fun l hl' => Int.mul_nonneg (hp0 l hl') (ha l j hl' hj)
        refine ⟨hlow, ?_⟩
        have e2 : cellOf (mulM P m) i j ≤ wN m.length (cellOf m) (k + 1) i := by
          rw [e1, ← itN_one, itN, ← pow_rows k hP _ i hi]
          refine sumTo_mono _ fun l hl' => Int.mul_le_mul_of_nonneg_left ?_ (hp0 l hl')
          have := sumTo_one (f := fun j => cellOf m l j * 1) (k := j) m.length (fun j hj => by rw [Int.mul_one]; exact ha l j hl' hj) hj
          show cellOf m l j ≤ sumTo m.length fun j => cellOf m l j * 1
          rw [Int.mul_one] at this
          exact this
        by_cases e : k + 1 = n
        · have h3 := sumTo_one (f := wN m.length (cellOf m) n) m.length (fun i hi => wN_ge0 ha n hi) hi
          rw [e] at e2
          omega
        · have h3 := wN_few ha hc hn (k := k + 1) (by omega) (by omega) hi
          omega
    exact ⟨mulM P m, by rw [powM, hP]; show prodM P m = _; rw [prodM_if hPm hm hl, if_pos hmul]⟩
/-- **What PathsOf gives, without CountPaths.** -/
theorem pathsM_by {m : List (List Int)} (hg : isGraphM m = true) {n : Nat} (h1 : 1 ≤ n) (h6 : n ≤ 6) : pathsM m (n : Int) = if (fillM (arcsM m) n []).length ≤ 500 then fillM (arcsM m) n [] else [] := by
  obtain ⟨hm, _⟩ := isGraphM_facts hg
  have hp : powS m (n : Int) = powM m n := by
    unfold powS
    rw [if_pos ⟨hm, by omega, by omega⟩, Int.toNat_natCast]
  have hok : pathsOkM m (n : Int) = decide ((fillM (arcsM m) n []).length ≤ 500) := by
    unfold pathsOkM countM
    rw [hg, hp, decide_eq_true (show (1 : Int) ≤ (n : Int) by omega), decide_eq_true (show (n : Int) ≤ 6 by omega)]
    cases hq : powM m n with
    | some P =>
      obtain ⟨d, rfl⟩ : ∃ d, n = d + 1 := ⟨n - 1, by omega⟩
      have hc := paths_count hm d hq
      show (true && (true && true && (decide (0 ≤ sumM P) && decide (sumM P ≤ 500)))) = _
      rw [← hc, decide_eq_true (show (0 : Int) ≤ ((fillM (arcsM m) (d + 1) []).length : Int) by omega)]
      by_cases e : (fillM (arcsM m) (d + 1) []).length ≤ 500
      · rw [decide_eq_true e, decide_eq_true (by omega)]; rfl
      · rw [decide_eq_false e, decide_eq_false (by omega)]; rfl
    | none =>
      by_cases e : (fillM (arcsM m) n []).length ≤ 500
      · obtain ⟨P, hP⟩ := pow_there hg h1 h6 e n (Nat.le_refl _)
        rw [hP] at hq; cases hq
      · rw [decide_eq_false e]; rfl
  unfold pathsM
  rw [hok, Int.toNat_natCast]
  by_cases e : (fillM (arcsM m) n []).length ≤ 500
  · rw [decide_eq_true e, if_pos rfl, if_pos e]
  · rw [decide_eq_false e, if_neg e]; rfl
end Go.Proofs.Ythljogoggiejmaa
