/-
  PLAIN FACTS ON WALKS (no program in this text): walks of a relation on the numbers below N; repeated places; closed walks and what divides their lengths; where all pairs are joined by walks of one length.
-/
import Derived.Lib.Hide
namespace Go.Proofs.Ytcoiodfggaanbaa

/-- A walk of n steps from i to j. -/
def Wk (E : Nat → Nat → Prop) : Nat → Nat → Nat → Prop
  | 0, i, j => i = j
  | n + 1, i, j => ∃ k, Wk E n i k ∧ E k j
/-- A relation on the numbers below N. -/
def OnN (N : Nat) (E : Nat → Nat → Prop) : Prop := ∀ i j, E i j → i < N ∧ j < N
variable {N : Nat} {E : Nat → Nat → Prop}
theorem Wk.add {a i k : Nat} (h : Wk E a i k) : ∀ {b j : Nat}, Wk E b k j → Wk E (a + b) i j
  | 0, j, h2 => by obtain rfl : k = j := h2; exact h
  | b + 1, j, ⟨x, h2, h3⟩ => ⟨x, h.add h2, h3⟩
theorem Wk.one {i j : Nat} (h : E i j) : Wk E 1 i j := ⟨i, rfl, h⟩
theorem Wk.split {a i : Nat} : ∀ {b j : Nat}, Wk E (a + b) i j → ∃ k, Wk E a i k ∧ Wk E b k j
  | 0, j, h => ⟨j, h, rfl⟩
  | b + 1, j, ⟨x, h2, h3⟩ => by
    obtain ⟨k, h4, h5⟩ := Wk.split h2
    exact ⟨k, h4, x, h5, h3⟩
theorem Wk.ends (hE : OnN N E) {n i j : Nat} (h : Wk E (n + 1) i j) : i < N ∧ j < N := by
  obtain ⟨k, h1, h2⟩ := h
  refine ⟨?_, (hE k j h2).2⟩
  have h3 := (Wk.split (a := 1) (b := n) (i := i) (j := j) (by rw [Nat.add_comm]; exact ⟨k, h1, h2⟩))
  obtain ⟨x, ⟨y, hy, hx⟩, _⟩ := h3
  obtain rfl : i = y := hy
  exact (hE _ _ hx).1
/-- The places of a walk. -/
theorem Wk.path {i : Nat} : ∀ {n j : Nat}, Wk E n i j → ∃ p : Nat → Nat, p 0 = i ∧ p n = j ∧ ∀ a b, a ≤ b → b ≤ n → Wk E (b - a) (p a) (p b)
  | 0, j, h => ⟨fun _ => i, rfl, h, fun a b h1 h2 => by obtain rfl : a = b := by omega
                                                        rw [Nat.sub_self]; rfl⟩
  | n + 1, j, ⟨k, h1, h2⟩ => by
    obtain ⟨p, p0, pn, hp⟩ := Wk.path h1
    refine ⟨fun t => if t ≤ n then p t else j, by simp [p0], (by show (if n + 1 ≤ n then p (n + 1) else j) = j; rw [if_neg (by omega)]), fun a b hab hb => ?_⟩
    by_cases hbn : b ≤ n
    · simp only [hbn, if_true, show a ≤ n by omega]
      exact hp a b hab hbn
    · obtain rfl : b = n + 1 := by omega
      by_cases han : a ≤ n
      · simp only [han, if_true, hbn, if_false]
        rw [show n + 1 - a = (n - a) + 1 by omega]
        refine ⟨k, ?_, h2⟩
        have := hp a n han (Nat.le_refl _)
        rw [pn] at this
        exact this
      · obtain rfl : a = n + 1 := by omega
        rw [Nat.sub_self]; rfl
/-- More places than numbers. -/
theorem pigeon : ∀ (N : Nat) (p : Nat → Nat), (∀ t, t ≤ N → p t < N) → ∃ a b, a < b ∧ b ≤ N ∧ p a = p b
  | 0, p, h => absurd (h 0 (Nat.le_refl _)) (Nat.not_lt_zero _)
  | N + 1, p, h => by
    by_cases hx : ∃ t, t ≤ N ∧ p t = p (N + 1)
    · obtain ⟨t, ht, e⟩ := hx
      exact ⟨t, N + 1, by omega, Nat.le_refl _, e⟩
    · have hne : ∀ t, t ≤ N → p t ≠ p (N + 1) := fun t ht e => hx ⟨t, ht, e⟩
      have hl := h (N + 1) (Nat.le_refl _)
      obtain ⟨a, b, hab, hb, e⟩ := pigeon N (fun t => if p t = N then p (N + 1) else p t) (fun t ht => by
        have := h t (by omega)
        have := hne t ht
        show (if p t = N then p (N + 1) else p t) < N
        split <;> omega)
      refine ⟨a, b, hab, by omega, ?_⟩
      have ha := hne a (by omega)
      have hb' := hne b hb
      have e2 : (if p a = N then p (N + 1) else p a) = (if p b = N then p (N + 1) else p b) := e
      split at e2 <;> split at e2 <;> omega
/-- A walk with as many steps as there are numbers meets a place twice. -/
theorem Wk.twice (hE : OnN N E) {n i j : Nat} (h : Wk E n i j) (hn : N ≤ n) (h0 : 0 < n) : ∃ a b x, a < b ∧ b ≤ N ∧ Wk E a i x ∧ Wk E (b - a) x x ∧ Wk E (n - b) x j := by
  obtain ⟨p, p0, pn, hp⟩ := h.path
  have hlt : ∀ t, t ≤ N → p t < N := fun t ht => by
    by_cases h1 : t < n
    · have h2 := hp t n (by omega) (Nat.le_refl _)
      rw [show n - t = (n - t - 1) + 1 by omega] at h2
      exact (Wk.ends hE h2).1
    · obtain rfl : t = n := by omega
      have h2 := hp 0 t (Nat.zero_le _) (Nat.le_refl _)
      rw [show t - 0 = (t - 1) + 1 by omega] at h2
      exact (Wk.ends hE h2).2
  obtain ⟨a, b, hab, hb, e⟩ := pigeon N p hlt
  refine ⟨a, b, p a, hab, hb, ?_, ?_, ?_⟩
  · have := hp 0 a (Nat.zero_le _) (by omega)
    rw [p0] at this; exact this
  · have := hp a b (by omega) (by omega)
    rw [← e] at this; exact this
  · have := hp b n (by omega) (Nat.le_refl _)
    rw [pn, ← e] at this; exact this
/-- A walk can be made with fewer steps than there are numbers; with one at least, with as many at most. -/
theorem Wk.short (hE : OnN N E) (h0 : 0 < N) : ∀ {n i j : Nat}, Wk E n i j → ∃ k, k < N ∧ k ≤ n ∧ Wk E k i j := by
  intro n
  induction n using Nat.strongRecOn with
  | _ n ih =>
    intro i j h
    by_cases hn : n < N
    · exact ⟨n, hn, Nat.le_refl _, h⟩
    · obtain ⟨a, b, x, hab, hb, h1, _, h3⟩ := h.twice hE (by omega) (by omega)
      obtain ⟨k, hk, hk2, hw⟩ := ih (a + (n - b)) (by omega) (h1.add h3)
      exact ⟨k, hk, by omega, hw⟩
theorem Wk.short1 (hE : OnN N E) : ∀ {n i j : Nat}, Wk E n i j → 0 < n → ∃ k, 0 < k ∧ k ≤ N ∧ k ≤ n ∧ Wk E k i j := by
  intro n
  induction n using Nat.strongRecOn with
  | _ n ih =>
    intro i j h hn0
    by_cases hn : n ≤ N
    · exact ⟨n, hn0, hn, Nat.le_refl _, h⟩
    · obtain ⟨a, b, x, hab, hb, h1, _, h3⟩ := h.twice hE (by omega) (by omega)
      obtain ⟨k, hk0, hk, hk2, hw⟩ := ih (a + (n - b)) (by omega) (h1.add h3) (by omega)
      exact ⟨k, hk0, hk, by omega, hw⟩
/-- What divides the lengths of all short closed walks divides those of all. -/
theorem closed_dvd (hE : OnN N E) {g : Nat} (hg : ∀ n i, 0 < n → n ≤ N → Wk E n i i → g ∣ n) : ∀ {n i : Nat}, Wk E n i i → g ∣ n := by
  intro n
  induction n using Nat.strongRecOn with
  | _ n ih =>
    intro i h
    by_cases h0 : n = 0
    · subst h0; exact Nat.dvd_zero _
    by_cases hn : n ≤ N
    · exact hg n i (by omega) hn h
    · obtain ⟨a, b, x, hab, hb, h1, h2, h3⟩ := h.twice hE (by omega) (by omega)
      have e1 := ih (a + (n - b)) (by omega) (h1.add h3)
      have e2 := hg (b - a) x (by omega) (by omega) h2
      have e3 : n = (a + (n - b)) + (b - a) := by omega
      rw [e3]
      exact Nat.dvd_add e1 e2
theorem least_nat {P : Nat → Prop} (h : ∃ n, P n) : ∃ n, P n ∧ ∀ k, k < n → ¬ P k := by
  obtain ⟨n, hn⟩ := h
  induction n using Nat.strongRecOn with
  | _ n ih =>
    by_cases h : ∃ k, k < n ∧ P k
    · obtain ⟨k, hk, hp⟩ := h
      exact ih k hk hp
    · exact ⟨n, hn, fun k hk hp => h ⟨k, hk, hp⟩⟩
/-- All pairs are joined. -/
def Joined (N : Nat) (E : Nat → Nat → Prop) : Prop := ∀ i j, i < N → j < N → ∃ n, 0 < n ∧ Wk E n i j
theorem Joined.walk (hJ : Joined N E) {i j : Nat} (hi : i < N) (hj : j < N) : ∃ n, Wk E n i j := by
  obtain ⟨n, _, h⟩ := hJ i j hi hj
  exact ⟨n, h⟩
/-- In a joined relation what divides the closed walks at one place divides all. -/
theorem closed_at (hE : OnN N E) (hJ : Joined N E) {g c : Nat} (hc : c < N) (hg : ∀ n, Wk E n c c → g ∣ n) {n i : Nat} (h : Wk E n i i) : g ∣ n := by
  by_cases h0 : n = 0
  · subst h0; exact Nat.dvd_zero _
  have hi : i < N := by
    rw [show n = (n - 1) + 1 by omega] at h
    exact (Wk.ends hE h).1
  obtain ⟨a, ha⟩ := hJ.walk hc hi
  obtain ⟨b, hb⟩ := hJ.walk hi hc
  have h1 := hg _ (ha.add hb)
  have h2 := hg _ ((ha.add h).add hb)
  have e : (a + n + b) = n + (a + b) := by omega
  rw [e] at h2
  exact (Nat.dvd_add_iff_left h1).2 h2
theorem Wk.times {n i : Nat} (h : Wk E n i i) : ∀ k, Wk E (k * n) i i
  | 0 => by rw [Nat.zero_mul]; rfl
  | k + 1 => by
    rw [Nat.add_mul, Nat.one_mul]
    exact (h.times k).add h
/-- Closed walks at c of length s, and no common divisor but 1: one is as long as 1 more than a multiple of s. -/
theorem closed_unit (hE : OnN N E) (hJ : Joined N E) (h1 : ∀ g, (∀ n i, Wk E n i i → g ∣ n) → g = 1) {c s : Nat} (hc : c < N) (hs : 0 < s) (hw : Wk E s c c) : ∃ y, Wk E y c c ∧ y % s = 1 % s := by
  obtain ⟨d, ⟨hd0, y, hy, hyd⟩, hmin⟩ := least_nat (P := fun d => 0 < d ∧ ∃ y, Wk E y c c ∧ y % s = d % s) ⟨s, hs, s, hw, rfl⟩
  have hdiv : ∀ x, Wk E x c c → d ∣ x := fun x hx => by
    refine Nat.dvd_of_mod_eq_zero ?_
    by_cases hr : x % d = 0
    · exact hr
    · exfalso
      refine hmin (x % d) (Nat.mod_lt _ hd0) ⟨by omega, x + (x / d) * (s - 1) * y, hx.add (hy.times _), ?_⟩
      have e1 : x = d * (x / d) + x % d := (Nat.div_add_mod x d).symm
      have e2 : (x + (x / d) * (s - 1) * y) % s = (x + (x / d) * (s - 1) * d) % s := by
        rw [Nat.add_mod, Nat.mul_mod, hyd, ← Nat.mul_mod, ← Nat.add_mod]
      rw [e2]
      have e3 : x + (x / d) * (s - 1) * d = x % d + (x / d * d) * s := by
        obtain ⟨t, rfl⟩ : ∃ t, s = t + 1 := ⟨s - 1, by omega⟩
        rw [Nat.add_sub_cancel, Nat.mul_add, Nat.mul_one]
        have e4 : x / d * t * d = x / d * d * t := by rw [Nat.mul_assoc, Nat.mul_comm t d, ← Nat.mul_assoc]
        have e5 : d * (x / d) = x / d * d := Nat.mul_comm _ _
        omega
      rw [e3, Nat.add_mul_mod_self_right]
  have hd1 : d = 1 := h1 d fun n i h => closed_at hE hJ hc hdiv h
  subst hd1
  exact ⟨y, hy, hyd⟩
end Go.Proofs.Ytcoiodfggaanbaa
