/-
  PLAIN FACTS ON COMPONENTS AND PERIODS (no program in this text): which vertices are reached, by the vertices passed; walks of n arcs; the components, the period, the primitive step and the turns of a matrix.
-/
import Derived.Test.YtcoiodfggaanbaaWalkFull
import Derived.Test.YtcoiodfggaanbaaMatZero
import Derived.Test.YtcoiodfggaanbaaMatSpec
namespace Go.Proofs.Ytcoiodfggaanbaa
open Go Go.RowKit

def bI (b : Bool) : Int := if b then 1 else 0
theorem bI_and (b c : Bool) : bits .and .i64 (bI b) (bI c) = bI (b && c) := by cases b <;> cases c <;> rfl
theorem bI_or (b c : Bool) : bits .or .i64 (bI b) (bI c) = bI (b || c) := by cases b <;> cases c <;> rfl
theorem bI_one (b : Bool) : (bI b == 1) = b := by cases b <;> rfl
theorem bI_zero (b : Bool) : (bI b == 0) = !b := by cases b <;> rfl
theorem bI_range (b : Bool) : 0 ≤ bI b ∧ bI b ≤ 1 := by cases b <;> decide
theorem bI_eq_one {b : Bool} : bI b = 1 ↔ b = true := by cases b <;> simp [bI]
theorem bI_ne_zero {b : Bool} : bI b = 0 ↔ b = false := by cases b <;> simp [bI]

/-- There is an arc. -/
def arcB (m : List (List Int)) (i j : Nat) : Bool := decide (0 < cellOf m i j)
def arcP (m : List (List Int)) (i j : Nat) : Prop := i < m.length ∧ j < m.length ∧ arcB m i j = true
theorem arcP_on (m : List (List Int)) : OnN m.length (arcP m) := fun _ _ h => ⟨h.1, h.2.1⟩
/-- A path that passes vertices below k only. -/
def viaB (m : List (List Int)) : Nat → Nat → Nat → Bool
  | 0, i, j => arcB m i j
  | k + 1, i, j => viaB m k i j || (viaB m k i k && viaB m k k j)
theorem viaB_col (m : List (List Int)) (k i : Nat) : viaB m (k + 1) i k = viaB m k i k := by
  rw [viaB]
  cases viaB m k i k <;> simp
theorem viaB_row (m : List (List Int)) (k j : Nat) : viaB m (k + 1) k j = viaB m k k j := by
  rw [viaB]
  cases viaB m k k j <;> simp
def reachB (m : List (List Int)) (i j : Nat) : Bool := viaB m m.length i j
theorem viaB_walk {m : List (List Int)} : ∀ {k i j : Nat}, k ≤ m.length → i < m.length → j < m.length → viaB m k i j = true → ∃ n, 0 < n ∧ Wk (arcP m) n i j
  | 0, i, j, _, hi, hj, h => ⟨1, by omega, Wk.one ⟨hi, hj, h⟩⟩
  | k + 1, i, j, hk, hi, hj, h => by
    rw [viaB, Bool.or_eq_true, Bool.and_eq_true] at h
    rcases h with h | ⟨h1, h2⟩
    · exact viaB_walk (by omega) hi hj h
    · obtain ⟨a, ha, wa⟩ := viaB_walk (by omega) hi (by omega) h1
      obtain ⟨b, hb, wb⟩ := viaB_walk (by omega) (by omega) hj h2
      exact ⟨a + b, by omega, wa.add wb⟩
theorem viaB_trans {m : List (List Int)} : ∀ {k x i j : Nat}, x < k → viaB m k i x = true → viaB m k x j = true → viaB m k i j = true
  | 0, x, _, _, h, _, _ => absurd h (Nat.not_lt_zero _)
  | k + 1, x, i, j, hx, h1, h2 => by
    by_cases e : x = k
    · subst e
      rw [viaB_col] at h1
      rw [viaB_row] at h2
      rw [viaB, h1, h2]; simp
    · have hx' : x < k := by omega
      rw [viaB, Bool.or_eq_true, Bool.and_eq_true] at h1 h2 ⊢
      rcases h1 with h1 | ⟨h1, h3⟩
      · rcases h2 with h2 | ⟨h2, h4⟩
        · exact Or.inl (viaB_trans hx' h1 h2)
        · exact Or.inr ⟨viaB_trans hx' h1 h2, h4⟩
      · rcases h2 with h2 | ⟨h2, h4⟩
        · exact Or.inr ⟨h1, viaB_trans hx' h3 h2⟩
        · exact Or.inr ⟨h1, h4⟩
theorem viaB_arc {m : List (List Int)} {i j : Nat} (h : arcB m i j = true) : ∀ k, viaB m k i j = true
  | 0 => h
  | k + 1 => by rw [viaB, viaB_arc h k]; rfl
theorem reachB_walk {m : List (List Int)} : ∀ {n i j : Nat}, Wk (arcP m) (n + 1) i j → reachB m i j = true
  | 0, i, j, ⟨k, h1, h2⟩ => by
    obtain rfl : i = k := h1
    exact viaB_arc h2.2.2 _
  | n + 1, i, j, ⟨k, h1, h2⟩ => viaB_trans h2.1 (reachB_walk h1) (viaB_arc h2.2.2 _)
theorem reachB_iff {m : List (List Int)} {i j : Nat} (hi : i < m.length) (hj : j < m.length) : reachB m i j = true ↔ ∃ n, 0 < n ∧ Wk (arcP m) n i j := by
  constructor
  · exact viaB_walk (Nat.le_refl _) hi hj
  · rintro ⟨n, hn, h⟩
    obtain ⟨t, rfl⟩ : ∃ t, n = t + 1 := ⟨n - 1, by omega⟩
    exact reachB_walk h
def reachM (m : List (List Int)) : List (List Int) := tabOf m.length m.length fun i j => bI (reachB m i j)
def reachS (m : List (List Int)) : List (List Int) := if isMat m = true then reachM m else []

/-! ### Walks of n arcs -/

/-- Of the vertices below t, one with a mark of i and an arc to j. -/
def stepK (A : Nat → Nat → Bool) (m : List (List Int)) (t i j : Nat) : Bool := (List.range t).any fun k => A i k && arcB m k j
theorem stepB_next (A : Nat → Nat → Bool) (m : List (List Int)) (t i j : Nat) : stepK A m (t + 1) i j = (stepK A m t i j || (A i t && arcB m t j)) := by
  unfold stepK
  rw [List.range_succ, List.any_append]
  simp
def wkB (m : List (List Int)) : Nat → Nat → Nat → Bool
  | 0, i, j => decide (i = j)
  | n + 1, i, j => stepK (wkB m n) m m.length i j
theorem wkB_iff {m : List (List Int)} : ∀ {n i j : Nat}, i < m.length → j < m.length → (wkB m n i j = true ↔ Wk (arcP m) n i j)
  | 0, i, j, _, _ => by rw [wkB, decide_eq_true_iff]; rfl
  | n + 1, i, j, hi, hj => by
    rw [wkB, stepK, List.any_eq_true]
    constructor
    · rintro ⟨k, hk, h⟩
      have hk' := List.mem_range.1 hk
      rw [Bool.and_eq_true] at h
      exact ⟨k, (wkB_iff hi hk').1 h.1, hk', hj, h.2⟩
    · rintro ⟨k, h1, h2⟩
      refine ⟨k, List.mem_range.2 h2.1, ?_⟩
      rw [Bool.and_eq_true]
      exact ⟨(wkB_iff hi h2.1).2 h1, h2.2.2⟩
def wkM (m : List (List Int)) (n : Nat) : List (List Int) := tabOf m.length m.length fun i j => bI (wkB m n i j)
theorem wkM_zero (m : List (List Int)) : wkM m 0 = oneM m.length := tabOf_congr fun i j _ _ => by
  rw [wkB]
  unfold bI
  by_cases h : i = j
  · rw [if_pos (decide_eq_true h), if_pos h]
  · rw [if_neg (by rw [decide_eq_false h]; decide), if_neg h]

/-! ### Components, period, step, turns -/

def compRow (m : List (List Int)) (i : Nat) : List Nat := (List.range m.length).filter fun j => reachB m i j && reachB m j i
def compList (m : List (List Int)) (i : Nat) : List (List Int) := if (compRow m i).head? = some i then [(compRow m i).map fun (j : Nat) => (j : Int)] else []
def compM (m : List (List Int)) (n : Nat) : List (List Int) := ((List.range n).map (compList m)).flatten
def compS (m : List (List Int)) : List (List Int) := if isMat m = true then compM m m.length else []
def irrM (m : List (List Int)) : Bool := isMat m && (List.range m.length).all fun i => (List.range m.length).all fun j => reachB m i j
def perRow (m : List (List Int)) (n : Nat) : Nat → Nat → Nat
  | 0, p => p
  | i + 1, p => if wkB m n i i then Nat.gcd (perRow m n i p) n else perRow m n i p
def perAcc (m : List (List Int)) : Nat → Nat
  | 0 => 0
  | n + 1 => perRow m (n + 1) m.length (perAcc m n)
def perM (m : List (List Int)) : Nat := perAcc m (2 * m.length)
def perS (m : List (List Int)) : Int := if isMat m = true then ((perM m : Nat) : Int) else 0
def primM (m : List (List Int)) : Bool := irrM m && decide (perM m = 1)
def fullB (m : List (List Int)) (n : Nat) : Bool := (List.range m.length).all fun i => (List.range m.length).all fun j => wkB m n i j
def stepN (m : List (List Int)) : Nat := if primM m then ((List.range 128).find? fun n => fullB m (n + 1)).elim 0 (· + 1) else 0
def distN (m : List (List Int)) (j : Nat) : Nat := ((List.range m.length).find? fun n => wkB m n 0 j).getD 0
def turnN (m : List (List Int)) (j : Nat) : Nat := distN m j % perM m
def turnsM (m : List (List Int)) : List Int := if irrM m then (List.range m.length).map fun j => ((turnN m j : Nat) : Int) else []

theorem irrM_iff {m : List (List Int)} : irrM m = true ↔ isMat m = true ∧ Joined m.length (arcP m) := by
  unfold irrM
  rw [Bool.and_eq_true, List.all_eq_true]
  refine and_congr_right fun _ => ⟨fun h i j hi hj => ?_, fun h i hi => ?_⟩
  · have h1 := h i (List.mem_range.2 hi)
    rw [List.all_eq_true] at h1
    exact (reachB_iff hi hj).1 (h1 j (List.mem_range.2 hj))
  · rw [List.all_eq_true]
    intro j hj
    exact (reachB_iff (List.mem_range.1 hi) (List.mem_range.1 hj)).2 (h i j (List.mem_range.1 hi) (List.mem_range.1 hj))
theorem perRow_dvd {m : List (List Int)} {n : Nat} {g : Nat} : ∀ {i p : Nat}, g ∣ perRow m n i p ↔ g ∣ p ∧ ∀ j, j < i → wkB m n j j = true → g ∣ n
  | 0, p => ⟨fun h => ⟨h, fun j hj => absurd hj (Nat.not_lt_zero _)⟩, fun h => h.1⟩
  | i + 1, p => by
    rw [perRow]
    have ih := @perRow_dvd m n g i p
    constructor
    · intro h
      split at h
      · next hw =>
        have h1 := Nat.dvd_trans h (Nat.gcd_dvd_left _ _)
        have h2 := Nat.dvd_trans h (Nat.gcd_dvd_right _ _)
        exact ⟨(ih.1 h1).1, fun _ _ _ => h2⟩
      · next hw =>
        refine ⟨(ih.1 h).1, fun j hj hw2 => ?_⟩
        by_cases e : j = i
        · subst e; exact absurd hw2 hw
        · exact (ih.1 h).2 j (by omega) hw2
    · rintro ⟨h1, h2⟩
      have h3 := ih.2 ⟨h1, fun j hj => h2 j (by omega)⟩
      split
      · next hw => exact Nat.dvd_gcd h3 (h2 i (by omega) hw)
      · exact h3
theorem perAcc_dvd {m : List (List Int)} {g : Nat} : ∀ {n : Nat}, g ∣ perAcc m n ↔ ∀ k i, 0 < k → k ≤ n → i < m.length → wkB m k i i = true → g ∣ k
  | 0 => ⟨fun _ k i h1 h2 => by omega, fun _ => Nat.dvd_zero _⟩
  | n + 1 => by
    rw [perAcc, perRow_dvd, @perAcc_dvd m g n]
    constructor
    · rintro ⟨h1, h2⟩ k i hk0 hk hi hw
      by_cases e : k = n + 1
      · subst e; exact h2 i hi hw
      · exact h1 k i hk0 (by omega) hi hw
    · intro h
      exact ⟨fun k i hk0 hk hi hw => h k i hk0 (by omega) hi hw, fun j hj hw => h (n + 1) j (by omega) (Nat.le_refl _) hj hw⟩
theorem closed_lt {m : List (List Int)} {n i : Nat} (hn : 0 < n) (h : Wk (arcP m) n i i) : i < m.length := by
  rw [show n = (n - 1) + 1 by omega] at h
  exact (Wk.ends (arcP_on m) h).1
theorem perM_dvd {m : List (List Int)} {g : Nat} : g ∣ perM m ↔ ∀ n i, Wk (arcP m) n i i → g ∣ n := by
  unfold perM
  rw [perAcc_dvd]
  constructor
  · intro h n i hw
    refine closed_dvd (arcP_on m) (fun k j hk hle hw2 => ?_) hw
    have hj := closed_lt hk hw2
    exact h k j hk (by omega) hj ((wkB_iff hj hj).2 hw2)
  · intro h k i hk0 _ hi hw
    exact h k i ((wkB_iff hi hi).1 hw)
theorem perM_closed {m : List (List Int)} {n i : Nat} (h : Wk (arcP m) n i i) : perM m ∣ n := perM_dvd.1 (Nat.dvd_refl _) n i h
theorem perM_pos {m : List (List Int)} (h0 : 0 < m.length) (h : Joined m.length (arcP m)) : 0 < perM m := by
  obtain ⟨n, hn, hw⟩ := h 0 0 h0 h0
  have := perM_closed hw
  by_cases e : perM m = 0
  · rw [e, Nat.zero_dvd] at this; omega
  · omega
theorem primM_full {m : List (List Int)} (h : primM m = true) : ∃ n, 0 < n ∧ n + 2 * m.length ≤ m.length * m.length + 2 ∧ FullAt m.length (arcP m) n := by
  unfold primM at h
  rw [Bool.and_eq_true, decide_eq_true_iff] at h
  obtain ⟨hi, hp⟩ := h
  obtain ⟨hm, hJ⟩ := irrM_iff.1 hi
  have hf := isMat_facts hm
  refine full_bound (arcP_on m) hf.pos hJ fun g hg => ?_
  have := perM_dvd.2 hg
  rw [hp] at this
  exact Nat.dvd_one.1 this
theorem fullB_iff {m : List (List Int)} {n : Nat} : fullB m n = true ↔ FullAt m.length (arcP m) n := by
  unfold fullB FullAt
  rw [List.all_eq_true]
  constructor
  · intro h i j hi hj
    have h1 := h i (List.mem_range.2 hi)
    rw [List.all_eq_true] at h1
    exact (wkB_iff hi hj).1 (h1 j (List.mem_range.2 hj))
  · intro h i hi
    rw [List.all_eq_true]
    intro j hj
    exact (wkB_iff (List.mem_range.1 hi) (List.mem_range.1 hj)).2 (h i j (List.mem_range.1 hi) (List.mem_range.1 hj))
theorem find_first {p : Nat → Bool} {n N : Nat} (hn : n < N) (hp : p n = true) (hmin : ∀ k, k < n → p k = false) : (List.range N).find? p = some n := by
  rw [List.find?_range_eq_some]
  exact ⟨hp, List.mem_range.2 hn, fun k hk => by rw [hmin k hk]; rfl⟩
/-- The first full number of steps is the primitive step. -/
theorem stepN_is {m : List (List Int)} (h : primM m = true) {n : Nat} (hn : 0 < n) (hf : fullB m n = true) (hmin : ∀ k, 0 < k → k < n → fullB m k = false) : stepN m = n := by
  obtain ⟨b, hb0, hb, hfb⟩ := primM_full h
  have hle : n ≤ b := by
    by_cases hlt : b < n
    · have := hmin b hb0 hlt
      rw [fullB_iff.2 hfb] at this; cases this
    · omega
  have hi : irrM m = true := by
    unfold primM at h
    rw [Bool.and_eq_true] at h
    exact h.1
  have hm := isMat_facts (irrM_iff.1 hi).1
  have hl := hm.le
  have hsq : m.length * m.length ≤ 81 := by
    calc m.length * m.length ≤ 9 * m.length := Nat.mul_le_mul_right _ hl
      _ ≤ 9 * 9 := Nat.mul_le_mul_left 9 hl
  unfold stepN
  rw [if_pos h]
  obtain ⟨t, rfl⟩ : ∃ t, n = t + 1 := ⟨n - 1, by omega⟩
  have hpos := hm.pos
  rw [find_first (p := fun n => fullB m (n + 1)) (n := t) (by omega) hf (fun k hk => hmin (k + 1) (by omega) (by omega))]
  rfl
end Go.Proofs.Ytcoiodfggaanbaa
