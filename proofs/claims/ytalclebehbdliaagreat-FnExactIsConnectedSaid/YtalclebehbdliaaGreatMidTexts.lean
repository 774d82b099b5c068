/-
  Merged: PLAIN FACTS ON WALKS (no program in this text): walks of a relation on the numbers below N; repeated places; closed walks and what divides their lengths; where all pairs are joined by walks of one length.
  PLAIN FACTS ON WALKS, continued (no program in this text): where all pairs are joined and the closed walks have no common divisor, all pairs are joined by walks of one length, which is bounded.
  PLAIN FACTS ON COMPONENTS AND PERIODS (no program in this text): which vertices are reached, by the vertices passed; walks of n arcs; the components, the period, the primitive step and the turns of a matrix.
  The model's ReachOf: what the plain words say, in new memory; nothing that was there before is changed.
  The model's IsIrreducible and ComponentsOf: what the plain words say; nothing that was there before is changed.
  The model's StatesOf, GraphOf, IsConnected and AreSameShift: at every shift in memory what the plain words say; nothing that was there before is changed.
  PLAIN FACTS ON POLYNOMIALS AND DETERMINANTS (no program in this text): determinants by their first row, and of the table that is turned around; a list without zeros at the end; products, values.
  PLAIN FACTS on polynomials, as the law asks them (no program in this text): the ends of a matrix's polynomial, the polynomial of the matrix that is turned around, the value of a product.
  PLAIN FACTS ON GROWTH (no program in this text): a table with no positive number off its diagonal has positive leading minors exactly if it turns a positive vector into a positive one; what follows for the growth of small matrices.
  PLAIN FACTS ON GRAPHS OF SHIFTS (no program in this text): the words of a shift grow by a letter at a time, as the paths of its graph do.
  PLAIN FACTS ON GRAPHS OF SHIFTS, third part (no program in this text): the least words that are not in a language forbid the same shift; more forbidden words, fewer words.
  PLAIN FACTS ON GRAPHS OF SHIFTS, fourth part (no program in this text): the least words that are not in a language, and the forbidden words of two shifts, put in order, are a shift's.
-/
import Derived.Lib.Hide
import Derived.Test.YtalclebehbdliaaGreatBaseTexts
import Derived.Test.YtalclebehbdliaaGreatLangTexts
import Derived.BigRegion
import Derived.Test.YtalclebehbdliaaGreatLangListSpec
namespace Go.Proofs.YtalclebehbdliaaGreat

/-- A walk of n steps from i to j. -/
def Wk (E : Nat → Nat → Prop) : Nat → Nat → Nat → Prop
  | 0, i, j => i = j
  | n + 1, i, j => ∃ k, Wk E n i k ∧ E k j
/-- A relation on the numbers below N. -/
def OnN (N : Nat) (E : Nat → Nat → Prop) : Prop := ∀ i j, E i j → i < N ∧ j < N
variable {N : Nat} {E : Nat → Nat → Prop}
theorem Wk.add {a i k : Nat} (h : Wk E a i k) : ∀ {b j : Nat}, Wk E b k j → Wk E (a + b) i j
  | 0, j, h2 => by obtain rfl : k = j := h2; exact h
  | b + 1, j, ⟨x, h2, h3⟩ => ⟨x, h.add h2, h3⟩
theorem Wk.one {i j : Nat} (h : E i j) : Wk E 1 i j := ⟨i, rfl, h⟩
theorem Wk.split {a i : Nat} : ∀ {b j : Nat}, Wk E (a + b) i j → ∃ k, Wk E a i k ∧ Wk E b k j
  | 0, j, h => ⟨j, h, rfl⟩
  | b + 1, j, ⟨x, h2, h3⟩ => by
    obtain ⟨k, h4, h5⟩ := Wk.split h2
    exact ⟨k, h4, x, h5, h3⟩
theorem Wk.ends (hE : OnN N E) {n i j : Nat} (h : Wk E (n + 1) i j) : i < N ∧ j < N := by
  obtain ⟨k, h1, h2⟩ := h
  refine ⟨?_, (hE k j h2).2⟩
  have h3 := (Wk.split (a := 1) (b := n) (i := i) (j := j) (by rw [Nat.add_comm]; exact ⟨k, h1, h2⟩))
  obtain ⟨x, ⟨y, hy, hx⟩, _⟩ := h3
  obtain rfl : i = y := hy
  exact (hE _ _ hx).1
/-- The places of a walk. -/
theorem Wk.path {i : Nat} : ∀ {n j : Nat}, Wk E n i j → ∃ p : Nat → Nat, p 0 = i ∧ p n = j ∧ ∀ a b, a ≤ b → b ≤ n → Wk E (b - a) (p a) (p b)
  | 0, j, h => ⟨fun _ => i, rfl, h, fun a b h1 h2 => by obtain rfl : a = b := by omega
                                                        rw [Nat.sub_self]; rfl⟩
  | n + 1, j, ⟨k, h1, h2⟩ => by
    obtain ⟨p, p0, pn, hp⟩ := Wk.path h1
    refine ⟨fun t => if t ≤ n then p t else j, by simp [p0], (by show (if n + 1 ≤ n then p (n + 1) else j) = j; rw [if_neg (by omega)]), fun a b hab hb => ?_⟩
    by_cases hbn : b ≤ n
    · simp only [hbn, if_true, show a ≤ n by omega]
      exact hp a b hab hbn
    · obtain rfl : b = n + 1 := by omega
      by_cases han : a ≤ n
      · simp only [han, if_true, hbn, if_false]
        rw [show n + 1 - a = (n - a) + 1 by omega]
        refine ⟨k, ?_, h2⟩
        have := hp a n han (Nat.le_refl _)
        rw [pn] at this
        exact this
      · obtain rfl : a = n + 1 := by omega
        rw [Nat.sub_self]; rfl
/-- More places than numbers. -/
theorem pigeon : ∀ (N : Nat) (p : Nat → Nat), (∀ t, t ≤ N → p t < N) → ∃ a b, a < b ∧ b ≤ N ∧ p a = p b
  | 0, p, h => absurd (h 0 (Nat.le_refl _)) (Nat.not_lt_zero _)
  | N + 1, p, h => by
    by_cases hx : ∃ t, t ≤ N ∧ p t = p (N + 1)
    · obtain ⟨t, ht, e⟩ := hx
      exact ⟨t, N + 1, by omega, Nat.le_refl _, e⟩
    · have hne : ∀ t, t ≤ N → p t ≠ p (N + 1) := fun t ht e => hx ⟨t, ht, e⟩
      have hl := h (N + 1) (Nat.le_refl _)
      obtain ⟨a, b, hab, hb, e⟩ := pigeon N (fun t => if p t = N then p (N + 1) else p t) (fun t ht => by
        have := h t (by omega)
        have := hne t ht
        show (if p t = N then p (N + 1) else p t) < N
        split <;> omega)
      refine ⟨a, b, hab, by omega, ?_⟩
      have ha := hne a (by omega)
      have hb' := hne b hb
      have e2 : (if p a = N then p (N + 1) else p a) = (if p b = N then p (N + 1) else p b) := e
      split at e2 <;> split at e2 <;> omega
/-- A walk with as many steps as there are numbers meets a place twice. -/
theorem Wk.twice (hE : OnN N E) {n i j : Nat} (h : Wk E n i j) (hn : N ≤ n) (h0 : 0 < n) : ∃ a b x, a < b ∧ b ≤ N ∧ Wk E a i x ∧ Wk E (b - a) x x ∧ Wk E (n - b) x j := by
  obtain ⟨p, p0, pn, hp⟩ := h.path
  have hlt : ∀ t, t ≤ N → p t < N := fun t ht => by
    by_cases h1 : t < n
    · have h2 := hp t n (by omega) (Nat.le_refl _)
      rw [show n - t = (n - t - 1) + 1 by omega] at h2
      exact (Wk.ends hE h2).1
    · obtain rfl : t = n := by omega
      have h2 := hp 0 t (Nat.zero_le _) (Nat.le_refl _)
      rw [show t - 0 = (t - 1) + 1 by omega] at h2
      exact (Wk.ends hE h2).2
  obtain ⟨a, b, hab, hb, e⟩ := pigeon N p hlt
  refine ⟨a, b, p a, hab, hb, ?_, ?_, ?_⟩
  · have := hp 0 a (Nat.zero_le _) (by omega)
    rw [p0] at this; exact this
  · have := hp a b (by omega) (by omega)
    rw [← e] at this; exact this
  · have := hp b n (by omega) (Nat.le_refl _)
    rw [pn, ← e] at this; exact this
/-- A walk can be made with fewer steps than there are numbers; with one at least, with as many at most. -/
theorem Wk.short (hE : OnN N E) (h0 : 0 < N) : ∀ {n i j : Nat}, Wk E n i j → ∃ k, k < N ∧ k ≤ n ∧ Wk E k i j := by
  intro n
  induction n using Nat.strongRecOn with
  | _ n ih =>
    intro i j h
    by_cases hn : n < N
    · exact ⟨n, hn, Nat.le_refl _, h⟩
    · obtain ⟨a, b, x, hab, hb, h1, _, h3⟩ := h.twice hE (by omega) (by omega)
      obtain ⟨k, hk, hk2, hw⟩ := ih (a + (n - b)) (by omega) (h1.add h3)
      exact ⟨k, hk, by omega, hw⟩
theorem Wk.short1 (hE : OnN N E) : ∀ {n i j : Nat}, Wk E n i j → 0 < n → ∃ k, 0 < k ∧ k ≤ N ∧ k ≤ n ∧ Wk E k i j := by
  intro n
  induction n using Nat.strongRecOn with
  | _ n ih =>
    intro i j h hn0
    by_cases hn : n ≤ N
    · exact ⟨n, hn0, hn, Nat.le_refl _, h⟩
    · obtain ⟨a, b, x, hab, hb, h1, _, h3⟩ := h.twice hE (by omega) (by omega)
      obtain ⟨k, hk0, hk, hk2, hw⟩ := ih (a + (n - b)) (by omega) (h1.add h3) (by omega)
      exact ⟨k, hk0, hk, by omega, hw⟩
/-- What divides the lengths of all short closed walks divides those of all. -/
theorem closed_dvd (hE : OnN N E) {g : Nat} (hg : ∀ n i, 0 < n → n ≤ N → Wk E n i i → g ∣ n) : ∀ {n i : Nat}, Wk E n i i → g ∣ n := by
  intro n
  induction n using Nat.strongRecOn with
  | _ n ih =>
    intro i h
    by_cases h0 : n = 0
    · subst h0; exact Nat.dvd_zero _
    by_cases hn : n ≤ N
    · exact hg n i (by omega) hn h
    · obtain ⟨a, b, x, hab, hb, h1, h2, h3⟩ := h.twice hE (by omega) (by omega)
      have e1 := ih (a + (n - b)) (by omega) (h1.add h3)
      have e2 := hg (b - a) x (by omega) (by omega) h2
      have e3 : n = (a + (n - b)) + (b - a) := by omega
      rw [e3]
      exact Nat.dvd_add e1 e2
theorem least_nat {P : Nat → Prop} (h : ∃ n, P n) : ∃ n, P n ∧ ∀ k, k < n → ¬ P k := by
  obtain ⟨n, hn⟩ := h
  induction n using Nat.strongRecOn with
  | _ n ih =>
    by_cases h : ∃ k, k < n ∧ P k
    · obtain ⟨k, hk, hp⟩ := h
      exact ih k hk hp
    · exact ⟨n, hn, fun k hk hp => h ⟨k, hk, hp⟩⟩
/-- All pairs are joined. -/
def Joined (N : Nat) (E : Nat → Nat → Prop) : Prop := ∀ i j, i < N → j < N → ∃ n, 0 < n ∧ Wk E n i j
theorem Joined.walk (hJ : Joined N E) {i j : Nat} (hi : i < N) (hj : j < N) : ∃ n, Wk E n i j := by
  obtain ⟨n, _, h⟩ := hJ i j hi hj
  exact ⟨n, h⟩
/-- In a joined relation what divides the closed walks at one place divides all. -/
theorem closed_at (hE : OnN N E) (hJ : Joined N E) {g c : Nat} (hc : c < N) (hg : ∀ n, Wk E n c c → g ∣ n) {n i : Nat} (h : Wk E n i i) : g ∣ n := by
  by_cases h0 : n = 0
  · subst h0; exact Nat.dvd_zero _
  have hi : i < N := by
    rw [show n = (n - 1) + 1 by omega] at h
    exact (Wk.ends hE h).1
  obtain ⟨a, ha⟩ := hJ.walk hc hi
  obtain ⟨b, hb⟩ := hJ.walk hi hc
  have h1 := hg _ (ha.add hb)
  have h2 := hg _ ((ha.add h).add hb)
  have e : (a + n + b) = n + (a + b) := by omega
  rw [e] at h2
  exact (Nat.dvd_add_iff_left h1).2 h2
theorem Wk.times {n i : Nat} (h : Wk E n i i) : ∀ k, Wk E (k * n) i i
  | 0 => by rw [Nat.zero_mul]; rfl
  | k + 1 => by
    rw [Nat.add_mul, Nat.one_mul]
    exact (h.times k).add h
/-- Closed walks at c of length s, and no common divisor but 1: one is as long as 1 more than a multiple of s. -/
theorem closed_unit (hE : OnN N E) (hJ : Joined N E) (h1 : ∀ g, (∀ n i, Wk E n i i → g ∣ n) → g = 1) {c s : Nat} (hc : c < N) (hs : 0 < s) (hw : Wk E s c c) : ∃ y, Wk E y c c ∧ y % s = 1 % s := by
  obtain ⟨d, ⟨hd0, y, hy, hyd⟩, hmin⟩ := least_nat (P := fun d => 0 < d ∧ ∃ y, Wk E y c c ∧ y % s = d % s) ⟨s, hs, s, hw, rfl⟩
  have hdiv : ∀ x, Wk E x c c → d ∣ x := fun x hx => by
    refine Nat.dvd_of_mod_eq_zero ?_
    by_cases hr : x % d = 0
    · exact hr
    · exfalso
      refine hmin (x % d) (Nat.mod_lt _ hd0) ⟨by omega, x + (x / d) * (s - 1) * y, hx.add (hy.times _), ?_⟩
      have e1 : x = d * (x / d) + x % d := (Nat.div_add_mod x d).symm
      have e2 : (x + (x / d) * (s - 1) * y) % s = (x + (x / d) * (s - 1) * d) % s := by
        rw [Nat.add_mod, Nat.mul_mod, hyd, ← Nat.mul_mod, ← Nat.add_mod]
      rw [e2]
      have e3 : x + (x / d) * (s - 1) * d = x % d + (x / d * d) * s := by
        obtain ⟨t, rfl⟩ : ∃ t, s = t + 1 := ⟨s - 1, by omega⟩
        rw [Nat.add_sub_cancel, Nat.mul_add, Nat.mul_one]
        have e4 : x / d * t * d = x / d * d * t := by rw [Nat.mul_assoc, Nat.mul_comm t d, ← Nat.mul_assoc]
        have e5 : d * (x / d) = x / d * d := Nat.mul_comm _ _
        omega
      rw [e3, Nat.add_mul_mod_self_right]
  have hd1 : d = 1 := h1 d fun n i h => closed_at hE hJ hc hdiv h
  subst hd1
  exact ⟨y, hy, hyd⟩
end Go.Proofs.YtalclebehbdliaaGreat
namespace Go.Proofs.YtalclebehbdliaaGreat
variable {N : Nat} {E : Nat → Nat → Prop}

/-- Steps of s steps. -/
def Jump (E : Nat → Nat → Prop) (s : Nat) : Nat → Nat → Prop := fun i j => Wk E s i j
theorem Wk.jumps {s i : Nat} : ∀ {t j : Nat}, Wk E (t * s) i j → Wk (Jump E s) t i j
  | 0, j, h => by rw [Nat.zero_mul] at h; exact h
  | t + 1, j, h => by
    rw [Nat.add_mul, Nat.one_mul] at h
    obtain ⟨k, h1, h2⟩ := Wk.split h
    exact ⟨k, h1.jumps, h2⟩
theorem Wk.unjump {s i : Nat} : ∀ {t j : Nat}, Wk (Jump E s) t i j → Wk E (t * s) i j
  | 0, j, h => by rw [Nat.zero_mul]; exact h
  | t + 1, j, ⟨k, h1, h2⟩ => by
    rw [Nat.add_mul, Nat.one_mul]
    exact h1.unjump.add h2
theorem Jump.onN (hE : OnN N E) {s : Nat} (hs : 0 < s) : OnN N (Jump E s) := fun i j h => by
  unfold Jump at h
  rw [show s = (s - 1) + 1 by omega] at h
  exact Wk.ends hE h
/-- The least length of a closed walk. -/
structure Girth (E : Nat → Nat → Prop) (s c : Nat) : Prop where
  pos : 0 < s
  walk : Wk E s c c
  least : ∀ n i, 0 < n → Wk E n i i → s ≤ n
theorem girth_of (h : ∃ n i, 0 < n ∧ Wk E n i i) : ∃ s c, Girth E s c := by
  obtain ⟨s, ⟨i, hs, hw⟩, hmin⟩ := least_nat (P := fun n => ∃ i, 0 < n ∧ Wk E n i i) h
  exact ⟨s, i, hs, hw, fun n j hn hj => by
    by_cases h : n < s
    · exact absurd ⟨j, hn, hj⟩ (hmin n h)
    · omega⟩
/-- A place on a shortest closed walk leads to another such. -/
theorem on_next {s c : Nat} (hs : 0 < s) (h : Wk E s c c) : ∃ d, Wk E 1 c d ∧ Wk E s d d := by
  have h1 := h
  rw [show s = 1 + (s - 1) by omega] at h1
  obtain ⟨d, h2, h3⟩ := Wk.split h1
  refine ⟨d, h2, ?_⟩
  have := h3.add h2
  rw [show s - 1 + 1 = s by omega] at this
  exact this
theorem on_steps {s : Nat} (hs : 0 < s) : ∀ (n : Nat) {c : Nat}, Wk E s c c → ∃ d, Wk E n c d ∧ Wk E s d d
  | 0, c, h => ⟨c, rfl, h⟩
  | n + 1, c, h => by
    obtain ⟨d, h1, h2⟩ := on_steps hs n h
    obtain ⟨x, h3, h4⟩ := on_next hs h2
    exact ⟨x, h1.add h3, h4⟩
/-- A shortest closed walk is met soon. -/
theorem Girth.near (hE : OnN N E) (hJ : Joined N E) {s c : Nat} (hG : Girth E s c) {i : Nat} (hi : i < N) : s ≤ N ∧ ∃ d, Wk E (N - s) i d ∧ Wk E s d d := by
  have hs := hG.pos
  have hc : c < N := by
    have h := hG.walk
    rw [show s = (s - 1) + 1 by omega] at h
    exact (Wk.ends hE h).1
  obtain ⟨d, ⟨x, hx, hxs⟩, hmin⟩ := least_nat (P := fun d => ∃ x, Wk E d i x ∧ Wk E s x x) (by
    obtain ⟨n, hn⟩ := hJ.walk hi hc
    exact ⟨n, c, hn, hG.walk⟩)
  obtain ⟨p, p0, pn, hp⟩ := hx.path
  obtain ⟨q, q0, qn, hq⟩ := hG.walk.path
  have hqs : ∀ t, t < s → Wk E s (q t) (q t) := fun t ht => by
    have h1 := hq 0 t (Nat.zero_le _) (by omega)
    have h2 := hq t s (by omega) (Nat.le_refl _)
    rw [q0] at h1
    rw [qn] at h2
    have := h2.add h1
    rw [show s - t + (t - 0) = s by omega] at this
    exact this
  have hle : d + s ≤ N := by
    by_cases h : d + s ≤ N
    · exact h
    · exfalso
      obtain ⟨a, b, hab, hb, e⟩ := pigeon N (fun t => if t < d then p t else q (t - d)) (fun t ht => by
        show (if t < d then p t else q (t - d)) < N
        split
        · next h1 =>
          have h2 := hp t d (by omega) (Nat.le_refl _)
          rw [show d - t = (d - t - 1) + 1 by omega] at h2
          exact (Wk.ends hE h2).1
        · next h1 =>
          have h2 := hqs (t - d) (by omega)
          rw [show s = (s - 1) + 1 by omega] at h2
          exact (Wk.ends hE h2).1)
      have e2 : (if a < d then p a else q (a - d)) = (if b < d then p b else q (b - d)) := e
      have h0a : ∀ t, t ≤ d → Wk E t i (p t) := fun t ht => by
        have := hp 0 t (Nat.zero_le _) ht
        rw [p0] at this; exact this
      split at e2 <;> split at e2
      · next h1 h2 =>
        have h3 := h0a a (by omega)
        have h4 := hp b d (by omega) (Nat.le_refl _)
        rw [← e2, pn] at h4
        exact hmin (a + (d - b)) (by omega) ⟨x, h3.add h4, hxs⟩
      · next h1 h2 =>
        have h3 := h0a a (by omega)
        have h4 := hqs (b - d) (by omega)
        rw [← e2] at h4
        exact hmin a h1 ⟨_, h3, h4⟩
      · next h1 h2 => omega
      · next h1 h2 =>
        have h3 := hq (a - d) (b - d) (by omega) (by omega)
        rw [← e2] at h3
        have := hG.least _ _ (by omega) h3
        omega
  refine ⟨by omega, ?_⟩
  obtain ⟨y, h1, h2⟩ := on_steps hs (N - s - d) hxs
  refine ⟨y, ?_, h2⟩
  have := hx.add h1
  rw [show d + (N - s - d) = N - s by omega] at this
  exact this
/-- No common divisor of all closed walks but 1. -/
def Coprime (E : Nat → Nat → Prop) : Prop := ∀ g, (∀ n i, Wk E n i i → g ∣ n) → g = 1
theorem jump_all (hE : OnN N E) (hJ : Joined N E) (h1 : Coprime E) {s c j : Nat} (hs : 0 < s) (hw : Wk E s c c) (hc : c < N) (hj : j < N) : Wk E ((N - 1) * s) c j := by
  obtain ⟨y, hy, hys⟩ := closed_unit hE hJ h1 hc hs hw
  obtain ⟨l, hl⟩ := hJ.walk hc hj
  have hml : l % s < s := Nat.mod_lt _ hs
  have hz : (l + (s - l % s) * y) % s = 0 := by
    rw [Nat.add_mod, Nat.mul_mod, hys, ← Nat.mul_mod, Nat.mul_one, ← Nat.add_mod]
    have e := Nat.div_add_mod l s
    have e2 : l + (s - l % s) = s * (l / s + 1) := by rw [Nat.mul_add, Nat.mul_one]; omega
    rw [e2, Nat.mul_mod_right]
  obtain ⟨t, ht⟩ := Nat.dvd_of_mod_eq_zero hz
  have hall := (hy.times (s - l % s)).add hl
  rw [Nat.add_comm, ht, Nat.mul_comm] at hall
  obtain ⟨k, hk, _, hk2⟩ := Wk.short (Jump.onN hE hs) (by omega) hall.jumps
  have hpad : Wk (Jump E s) ((N - 1 - k) * 1) c c := Wk.times (n := 1) (Wk.one hw) (N - 1 - k)
  rw [Nat.mul_one] at hpad
  have h3 := (hpad.add hk2).unjump
  rw [show N - 1 - k + k = N - 1 by omega] at h3
  exact h3
/-- All pairs are joined by walks of n steps. -/
def FullAt (N : Nat) (E : Nat → Nat → Prop) (n : Nat) : Prop := ∀ i j, i < N → j < N → Wk E n i j
theorem full_bound (hE : OnN N E) (h0 : 0 < N) (hJ : Joined N E) (h1 : Coprime E) : ∃ n, 0 < n ∧ n + 2 * N ≤ N * N + 2 ∧ FullAt N E n := by
  by_cases hN : N = 1
  · subst hN
    obtain ⟨n, hn, hw⟩ := hJ 0 0 (by omega) (by omega)
    obtain ⟨k, hk0, hk, _, hw2⟩ := hw.short1 hE hn
    obtain rfl : k = 1 := by omega
    refine ⟨1, by omega, by omega, fun i j hi hj => ?_⟩
    obtain rfl : i = 0 := by omega
    obtain rfl : j = 0 := by omega
    exact hw2
  obtain ⟨s, c, hG⟩ := girth_of (E := E) (by
    obtain ⟨n, hn, hw⟩ := hJ 0 0 h0 h0
    exact ⟨n, 0, hn, hw⟩)
  have hs := hG.pos
  have hsN : s ≤ N := (hG.near hE hJ h0).1
  have hlt : s < N := by
    by_cases h : s < N
    · exact h
    · exfalso
      obtain rfl : s = N := by omega
      refine hN (h1 s fun n i hw => ?_)
      exact closed_dvd hE (fun n i hn hle hw => by
        have := hG.least n i hn hw
        obtain rfl : n = s := by omega
        exact Nat.dvd_refl _) hw
  refine ⟨N - s + (N - 1) * s, by omega, ?_, fun i j hi hj => ?_⟩
  · obtain ⟨M, rfl⟩ : ∃ M, N = M + 1 := ⟨N - 1, by omega⟩
    obtain ⟨d, rfl⟩ : ∃ d, M = s + d := ⟨M - s, by omega⟩
    have e : (s + d + 1) * (s + d + 1) = (s + d) * s + (s + d) * d + 2 * (s + d) + 1 := by
      rw [Nat.mul_add, Nat.add_mul, Nat.mul_add (s + d) s d]; omega
    have e2 : d ≤ (s + d) * d := by
      calc d = 1 * d := (Nat.one_mul d).symm
        _ ≤ (s + d) * d := Nat.mul_le_mul_right d (by omega)
    rw [Nat.add_sub_cancel, e]
    omega
  · obtain ⟨_, d, hd, hds⟩ := hG.near hE hJ hi
    have hdN : d < N := by
      rw [show s = (s - 1) + 1 by omega] at hds
      exact (Wk.ends hE hds).1
    exact hd.add (jump_all hE hJ h1 hs hds hdN hj)
end Go.Proofs.YtalclebehbdliaaGreat
namespace Go.Proofs.YtalclebehbdliaaGreat
open Go Go.RowKit

def bI (b : Bool) : Int := if b then 1 else 0
theorem bI_and (b c : Bool) : bits .and .i64 (bI b) (bI c) = bI (b && c) := by cases b <;> cases c <;> rfl
theorem bI_or (b c : Bool) : bits .or .i64 (bI b) (bI c) = bI (b || c) := by cases b <;> cases c <;> rfl
theorem bI_one (b : Bool) : (bI b == 1) = b := by cases b <;> rfl
theorem bI_zero (b : Bool) : (bI b == 0) = !b := by cases b <;> rfl
theorem bI_range (b : Bool) : 0 ≤ bI b ∧ bI b ≤ 1 := by cases b <;> decide
theorem bI_eq_one {b : Bool} : bI b = 1 ↔ b = true := by cases b <;> simp [bI]
theorem bI_ne_zero {b : Bool} : bI b = 0 ↔ b = false := by cases b <;> simp [bI]

/-- There is an arc. -/
def arcB (m : List (List Int)) (i j : Nat) : Bool := decide (0 < cellOf m i j)
def arcP (m : List (List Int)) (i j : Nat) : Prop := i < m.length ∧ j < m.length ∧ arcB m i j = true
theorem arcP_on (m : List (List Int)) : OnN m.length (arcP m) := fun _ _ h => ⟨h.1, h.2.1⟩
/-- A path that passes vertices below k only. -/
def viaB (m : List (List Int)) : Nat → Nat → Nat → Bool
  | 0, i, j => arcB m i j
  | k + 1, i, j => viaB m k i j || (viaB m k i k && viaB m k k j)
theorem viaB_col (m : List (List Int)) (k i : Nat) : viaB m (k + 1) i k = viaB m k i k := by
  rw [viaB]
  cases viaB m k i k <;> simp
theorem viaB_row (m : List (List Int)) (k j : Nat) : viaB m (k + 1) k j = viaB m k k j := by
  rw [viaB]
  cases viaB m k k j <;> simp
def reachB (m : List (List Int)) (i j : Nat) : Bool := viaB m m.length i j
theorem viaB_walk {m : List (List Int)} : ∀ {k i j : Nat}, k ≤ m.length → i < m.length → j < m.length → viaB m k i j = true → ∃ n, 0 < n ∧ Wk (arcP m) n i j
  | 0, i, j, _, hi, hj, h => ⟨1, by omega, Wk.one ⟨hi, hj, h⟩⟩
  | k + 1, i, j, hk, hi, hj, h => by
    rw [viaB, Bool.or_eq_true, Bool.and_eq_true] at h
    rcases h with h | ⟨h1, h2⟩
    · exact viaB_walk (by omega) hi hj h
    · obtain ⟨a, ha, wa⟩ := viaB_walk (by omega) hi (by omega) h1
      obtain ⟨b, hb, wb⟩ := viaB_walk (by omega) (by omega) hj h2
      exact ⟨a + b, by omega, wa.add wb⟩
theorem viaB_trans {m : List (List Int)} : ∀ {k x i j : Nat}, x < k → viaB m k i x = true → viaB m k x j = true → viaB m k i j = true
  | 0, x, _, _, h, _, _ => absurd h (Nat.not_lt_zero _)
  | k + 1, x, i, j, hx, h1, h2 => by
    by_cases e : x = k
    · subst e
      rw [viaB_col] at h1
      rw [viaB_row] at h2
      rw [viaB, h1, h2]; simp
    · have hx' : x < k := by omega
      rw [viaB, Bool.or_eq_true, Bool.and_eq_true] at h1 h2 ⊢
      rcases h1 with h1 | ⟨h1, h3⟩
      · rcases h2 with h2 | ⟨h2, h4⟩
        · exact Or.inl (viaB_trans hx' h1 h2)
        · exact Or.inr ⟨viaB_trans hx' h1 h2, h4⟩
      · rcases h2 with h2 | ⟨h2, h4⟩
        · exact Or.inr ⟨h1, viaB_trans hx' h3 h2⟩
        · exact Or.inr ⟨h1, h4⟩
theorem viaB_arc {m : List (List Int)} {i j : Nat} (h : arcB m i j = true) : ∀ k, viaB m k i j = true
  | 0 => h
  | k + 1 => by rw [viaB, viaB_arc h k]; rfl
theorem reachB_walk {m : List (List Int)} : ∀ {n i j : Nat}, Wk (arcP m) (n + 1) i j → reachB m i j = true
  | 0, i, j, ⟨k, h1, h2⟩ => by
    obtain rfl : i = k := h1
    exact viaB_arc h2.2.2 _
  | n + 1, i, j, ⟨k, h1, h2⟩ => viaB_trans h2.1 (reachB_walk h1) (viaB_arc h2.2.2 _)
theorem reachB_iff {m : List (List Int)} {i j : Nat} (hi : i < m.length) (hj : j < m.length) : reachB m i j = true ↔ ∃ n, 0 < n ∧ Wk (arcP m) n i j := by
  constructor
  · exact viaB_walk (Nat.le_refl _) hi hj
  · rintro ⟨n, hn, h⟩
    obtain ⟨t, rfl⟩ : ∃ t, n = t + 1 := ⟨n - 1, by omega⟩
    exact reachB_walk h
def reachM (m : List (List Int)) : List (List Int) := tabOf m.length m.length fun i j => bI (reachB m i j)
def reachS (m : List (List Int)) : List (List Int) := if isMat m = true then reachM m else []

/-! ### Walks of n arcs -/

/-- Of the vertices below t, one with a mark of i and an arc to j. -/
def stepK (A : Nat → Nat → Bool) (m : List (List Int)) (t i j : Nat) : Bool := (List.range t).any fun k => A i k && arcB m k j
theorem stepB_next (A : Nat → Nat → Bool) (m : List (List Int)) (t i j : Nat) : stepK A m (t + 1) i j = (stepK A m t i j || (A i t && arcB m t j)) := by
  unfold stepK
  rw [List.range_succ, List.any_append]
  simp
def wkB (m : List (List Int)) : Nat → Nat → Nat → Bool
  | 0, i, j => decide (i = j)
  | n + 1, i, j => stepK (wkB m n) m m.length i j
theorem wkB_iff {m : List (List Int)} : ∀ {n i j : Nat}, i < m.length → j < m.length → (wkB m n i j = true ↔ Wk (arcP m) n i j)
  | 0, i, j, _, _ => by rw [wkB, decide_eq_true_iff]; rfl
  | n + 1, i, j, hi, hj => by
    rw [wkB, stepK, List.any_eq_true]
    constructor
    · rintro ⟨k, hk, h⟩
      have hk' := List.mem_range.1 hk
      rw [Bool.and_eq_true] at h
      exact ⟨k, (wkB_iff hi hk').1 h.1, hk', hj, h.2⟩
    · rintro ⟨k, h1, h2⟩
      refine ⟨k, List.mem_range.2 h2.1, ?_⟩
      rw [Bool.and_eq_true]
      exact ⟨(wkB_iff hi h2.1).2 h1, h2.2.2⟩
def wkM (m : List (List Int)) (n : Nat) : List (List Int) := tabOf m.length m.length fun i j => bI (wkB m n i j)
theorem wkM_zero (m : List (List Int)) : wkM m 0 = oneM m.length := tabOf_congr fun i j _ _ => by
  rw [wkB]
  unfold bI
  by_cases h : i = j
  · rw [if_pos (decide_eq_true h), if_pos h]
  · rw [if_neg (by rw [decide_eq_false h]; decide), if_neg h]

/-! ### Components, period, step, turns -/

def compRow (m : List (List Int)) (i : Nat) : List Nat := (List.range m.length).filter fun j => reachB m i j && reachB m j i
def compList (m : List (List Int)) (i : Nat) : List (List Int) := if (compRow m i).head? = some i then [(compRow m i).map fun (j : Nat) => (j : Int)] else []
def compM (m : List (List Int)) (n : Nat) : List (List Int) := ((List.range n).map (compList m)).flatten
def compS (m : List (List Int)) : List (List Int) := if isMat m = true then compM m m.length else []
def irrM (m : List (List Int)) : Bool := isMat m && (List.range m.length).all fun i => (List.range m.length).all fun j => reachB m i j
def perRow (m : List (List Int)) (n : Nat) : Nat → Nat → Nat
  | 0, p => p
  | i + 1, p => if wkB m n i i then Nat.gcd (perRow m n i p) n else perRow m n i p
def perAcc (m : List (List Int)) : Nat → Nat
  | 0 => 0
  | n + 1 => perRow m (n + 1) m.length (perAcc m n)
def perM (m : List (List Int)) : Nat := perAcc m (2 * m.length)
def perS (m : List (List Int)) : Int := if isMat m = true then ((perM m : Nat) : Int) else 0
def primM (m : List (List Int)) : Bool := irrM m && decide (perM m = 1)
def fullB (m : List (List Int)) (n : Nat) : Bool := (List.range m.length).all fun i => (List.range m.length).all fun j => wkB m n i j
def stepN (m : List (List Int)) : Nat := if primM m then ((List.range 128).find? fun n => fullB m (n + 1)).elim 0 (· + 1) else 0
def distN (m : List (List Int)) (j : Nat) : Nat := ((List.range m.length).find? fun n => wkB m n 0 j).getD 0
def turnN (m : List (List Int)) (j : Nat) : Nat := distN m j % perM m
def turnsM (m : List (List Int)) : List Int := if irrM m then (List.range m.length).map fun j => ((turnN m j : Nat) : Int) else []

theorem irrM_iff {m : List (List Int)} : irrM m = true ↔ isMat m = true ∧ Joined m.length (arcP m) := by
  unfold irrM
  rw [Bool.and_eq_true, List.all_eq_true]
  refine and_congr_right fun _ => ⟨fun h i j hi hj => ?_, fun h i hi => ?_⟩
  · have h1 := h i (List.mem_range.2 hi)
    rw [List.all_eq_true] at h1
    exact (reachB_iff hi hj).1 (h1 j (List.mem_range.2 hj))
  · rw [List.all_eq_true]
    intro j hj
    exact (reachB_iff (List.mem_range.1 hi) (List.mem_range.1 hj)).2 (h i j (List.mem_range.1 hi) (List.mem_range.1 hj))
theorem perRow_dvd {m : List (List Int)} {n : Nat} {g : Nat} : ∀ {i p : Nat}, g ∣ perRow m n i p ↔ g ∣ p ∧ ∀ j, j < i → wkB m n j j = true → g ∣ n
  | 0, p => ⟨fun h => ⟨h, fun j hj => absurd hj (Nat.not_lt_zero _)⟩, fun h => h.1⟩
  | i + 1, p => by
    rw [perRow]
    have ih := @perRow_dvd m n g i p
    constructor
    · intro h
      split at h
      · next hw =>
        have h1 := Nat.dvd_trans h (Nat.gcd_dvd_left _ _)
        have h2 := Nat.dvd_trans h (Nat.gcd_dvd_right _ _)
        exact ⟨(ih.1 h1).1, fun _ _ _ => h2⟩
      · next hw =>
        refine ⟨(ih.1 h).1, fun j hj hw2 => ?_⟩
        by_cases e : j = i
        · subst e; exact absurd hw2 hw
        · exact (ih.1 h).2 j (by omega) hw2
    · rintro ⟨h1, h2⟩
      have h3 := ih.2 ⟨h1, fun j hj => h2 j (by omega)⟩
      split
      · next hw => exact Nat.dvd_gcd h3 (h2 i (by omega) hw)
      · exact h3
theorem perAcc_dvd {m : List (List Int)} {g : Nat} : ∀ {n : Nat}, g ∣ perAcc m n ↔ ∀ k i, 0 < k → k ≤ n → i < m.length → wkB m k i i = true → g ∣ k
  | 0 => ⟨fun _ k i h1 h2 => by omega, fun _ => Nat.dvd_zero _⟩
  | n + 1 => by
    rw [perAcc, perRow_dvd, @perAcc_dvd m g n]
    constructor
    · rintro ⟨h1, h2⟩ k i hk0 hk hi hw
      by_cases e : k = n + 1
      · subst e; exact h2 i hi hw
      · exact h1 k i hk0 (by omega) hi hw
    · intro h
      exact ⟨fun k i hk0 hk hi hw => h k i hk0 (by omega) hi hw, fun j hj hw => h (n + 1) j (by omega) (Nat.le_refl _) hj hw⟩
theorem closed_lt {m : List (List Int)} {n i : Nat} (hn : 0 < n) (h : Wk (arcP m) n i i) : i < m.length := by
  rw [show n = (n - 1) + 1 by omega] at h
  exact (Wk.ends (arcP_on m) h).1
theorem perM_dvd {m : List (List Int)} {g : Nat} : g ∣ perM m ↔ ∀ n i, Wk (arcP m) n i i → g ∣ n := by
  unfold perM
  rw [perAcc_dvd]
  constructor
  · intro h n i hw
    refine closed_dvd (arcP_on m) (fun k j hk hle hw2 => ?_) hw
    have hj := closed_lt hk hw2
    exact h k j hk (by omega) hj ((wkB_iff hj hj).2 hw2)
  · intro h k i hk0 _ hi hw
    exact h k i ((wkB_iff hi hi).1 hw)
theorem perM_closed {m : List (List Int)} {n i : Nat} (h : Wk (arcP m) n i i) : perM m ∣ n := perM_dvd.1 (Nat.dvd_refl _) n i h
theorem perM_pos {m : List (List Int)} (h0 : 0 < m.length) (h : Joined m.length (arcP m)) : 0 < perM m := by
  obtain ⟨n, hn, hw⟩ := h 0 0 h0 h0
  have := perM_closed hw
  by_cases e : perM m = 0
  · rw [e, Nat.zero_dvd] at this; omega
  · omega
theorem primM_full {m : List (List Int)} (h : primM m = true) : ∃ n, 0 < n ∧ n + 2 * m.length ≤ m.length * m.length + 2 ∧ FullAt m.length (arcP m) n := by
  unfold primM at h
  rw [Bool.and_eq_true, decide_eq_true_iff] at h
  obtain ⟨hi, hp⟩ := h
  obtain ⟨hm, hJ⟩ := irrM_iff.1 hi
  have hf := isMat_facts hm
  refine full_bound (arcP_on m) hf.pos hJ fun g hg => ?_
  have := perM_dvd.2 hg
  rw [hp] at this
  exact Nat.dvd_one.1 this
theorem fullB_iff {m : List (List Int)} {n : Nat} : fullB m n = true ↔ FullAt m.length (arcP m) n := by
  unfold fullB FullAt
  rw [List.all_eq_true]
  constructor
  · intro h i j hi hj
    have h1 := h i (List.mem_range.2 hi)
    rw [List.all_eq_true] at h1
    exact (wkB_iff hi hj).1 (h1 j (List.mem_range.2 hj))
  · intro h i hi
    rw [List.all_eq_true]
    intro j hj
    exact (wkB_iff (List.mem_range.1 hi) (List.mem_range.1 hj)).2 (h i j (List.mem_range.1 hi) (List.mem_range.1 hj))
theorem find_first {p : Nat → Bool} {n N : Nat} (hn : n < N) (hp : p n = true) (hmin : ∀ k, k < n → p k = false) : (List.range N).find? p = some n := by
  rw [List.find?_range_eq_some]
  exact ⟨hp, List.mem_range.2 hn, fun k hk => by rw [hmin k hk]; rfl⟩
/-- The first full number of steps is the primitive step. -/
theorem stepN_is {m : List (List Int)} (h : primM m = true) {n : Nat} (hn : 0 < n) (hf : fullB m n = true) (hmin : ∀ k, 0 < k → k < n → fullB m k = false) : stepN m = n := by
  obtain ⟨b, hb0, hb, hfb⟩ := primM_full h
  have hle : n ≤ b := by
    by_cases hlt : b < n
    · have := hmin b hb0 hlt
      rw [fullB_iff.2 hfb] at this; cases this
    · omega
  have hi : irrM m = true := by
    unfold primM at h
    rw [Bool.and_eq_true] at h
    exact h.1
  have hm := isMat_facts (irrM_iff.1 hi).1
  have hl := hm.le
  have hsq : m.length * m.length ≤ 81 := by
    calc m.length * m.length ≤ 9 * m.length := Nat.mul_le_mul_right _ hl
      _ ≤ 9 * 9 := Nat.mul_le_mul_left 9 hl
  unfold stepN
  rw [if_pos h]
  obtain ⟨t, rfl⟩ : ∃ t, n = t + 1 := ⟨n - 1, by omega⟩
  have hpos := hm.pos
  rw [find_first (p := fun n => fullB m (n + 1)) (n := t) (by omega) hf (fun k hk => hmin (k + 1) (by omega) (by omega))]
  rfl
end Go.Proofs.YtalclebehbdliaaGreat
namespace Go.Proofs.YtalclebehbdliaaGreat
open Go Go.RowKit

theorem m_bit (b : Bool) (w : World) : Calls Tryz.prog 133 #[.bool b] w fun e w' => e = .returned (.int .i64 (bI b)) ∧ w' = w := by
  go_enter Tryz.func133, Tryz.ntmps133
  cases b with
  | false => go_wp2; go_ret; exact ⟨rfl, rfl⟩
  | true => go_wp2; go_ret; exact ⟨rfl, rfl⟩
theorem cell_far {w : World} {a p : Addr} {v u : Value} (hne : p.block ≠ a.block) (h : w.cell? p = some u) : (w.setCell a v).cell? p = some u := by
  have hb := heap_setCell_other w a p.block v hne
  unfold World.cell? at h ⊢
  rw [hb]; exact h
/-- Number j of row i, as OwnG.at, and the row's block is not the table's. -/
theorem OwnG.at2 {w : World} {B : Nat} {v : Value} {m : List (List Int)} (h : OwnG w B v m) {i j : Nat} (hi : i < m.length) (hj : j < (m.getD i []).length) :
    ∃ g cap gi ci, v = .slice (some ⟨g, 0, none⟩) m.length cap ∧ w.cell? ⟨g, i, none⟩ = some (.slice (some ⟨gi, 0, none⟩) (m.getD i []).length ci) ∧ w.cell? ⟨gi, j, none⟩ = some (.int .i64 (cellOf m i j)) ∧ w.frozen? ⟨gi, j, none⟩ = false ∧ B ≤ gi ∧ gi < w.heap.size ∧ g ≠ gi ∧ B ≤ g ∧
      ∀ x : Int, OwnG (w.setCell ⟨gi, j, none⟩ (.int .i64 x)) B v (m.set i ((m.getD i []).set j x)) := by
  obtain ⟨g, cap, gi, ci, rfl, h1, h2, h3, h4, h5, h6⟩ := h.at hi hj
  obtain ⟨vs, ho, hr⟩ := h
  have hv : vs[i]? = some vs[i]! := by
    have := hr.len
    rw [getElem!_pos vs i (by omega)]
    exact List.getElem?_eq_getElem (by omega)
  have hc := (ho.cellAt i (by omega)).trans hv
  rw [h1] at hc
  have hrow := hr.row i _ hv
  rw [← Option.some.inj hc] at hrow
  refine ⟨g, cap, gi, ci, rfl, h1, h2, h3, h4, h5, ?_, (ho.lt g rfl).1, h6⟩
  rcases hrow.2 with e | e
  · cases e
  · intro e2
    exact e (by rw [e2]; rfl)

/-- The arcs so far. -/
def arcF (m : List (List Int)) (i j : Nat) : Nat → Nat → Int := fun a b => if a < i ∨ (a = i ∧ b < j) then bI (arcB m a b) else 0
theorem arcF_zero (m : List (List Int)) (n : Nat) : tabOf n n (arcF m 0 0) = tabOf n n fun _ _ => 0 := tabOf_congr fun i j _ _ => by unfold arcF; rw [if_neg (by omega)]
theorem arcF_next (m : List (List Int)) (n i j : Nat) (hi : i < n) : (tabOf n n (arcF m i j)).set i (((tabOf n n (arcF m i j)).getD i []).set j (bI (arcB m i j))) = tabOf n n (arcF m i (j + 1)) := by
  rw [tabOf_set _ _ hi]
  refine tabOf_congr fun a b _ _ => ?_
  unfold arcF
  by_cases e : a = i ∧ b = j
  · obtain ⟨rfl, rfl⟩ := e
    rw [if_pos ⟨rfl, rfl⟩, if_pos (by omega)]
  · rw [if_neg e]
    by_cases h : a < i ∨ (a = i ∧ b < j)
    · rw [if_pos h, if_pos (by omega)]
    · rw [if_neg h, if_neg (by omega)]
theorem arcF_row (m : List (List Int)) (n i : Nat) : tabOf n n (arcF m i n) = tabOf n n (arcF m (i + 1) 0) := tabOf_congr fun a b _ hb => by
  unfold arcF
  by_cases h : a < i ∨ (a = i ∧ b < n)
  · rw [if_pos h, if_pos (by omega)]
  · rw [if_neg h, if_neg (by omega)]
/-- The pairs that are joined by way of vertices below k, and below k + 1 ahead of i and j. -/
def viaF (m : List (List Int)) (k i j : Nat) : Nat → Nat → Int := fun a b => bI (if a < i ∨ (a = i ∧ b < j) then viaB m (k + 1) a b else viaB m k a b)
theorem viaF_zero (m : List (List Int)) (n : Nat) : tabOf n n (arcF m n 0) = tabOf n n (viaF m 0 0 0) := tabOf_congr fun a b ha _ => by
  unfold arcF viaF
  rw [if_pos (Or.inl ha), if_neg (by omega)]; rfl
theorem viaF_col (m : List (List Int)) (k i j a : Nat) : viaF m k i j a k = bI (viaB m k a k) := by
  unfold viaF
  split
  · rw [viaB_col]
  · rfl
theorem viaF_rowk (m : List (List Int)) (k i j b : Nat) : viaF m k i j k b = bI (viaB m k k b) := by
  unfold viaF
  split
  · rw [viaB_row]
  · rfl
theorem viaF_at (m : List (List Int)) (k i j : Nat) : viaF m k i j i j = bI (viaB m k i j) := by
  unfold viaF
  rw [if_neg (by omega)]
theorem viaF_next (m : List (List Int)) (n k i j : Nat) (hi : i < n) : (tabOf n n (viaF m k i j)).set i (((tabOf n n (viaF m k i j)).getD i []).set j (bI (viaB m k i j || (viaB m k i k && viaB m k k j)))) = tabOf n n (viaF m k i (j + 1)) := by
  rw [tabOf_set _ _ hi]
  refine tabOf_congr fun a b _ _ => ?_
  by_cases e : a = i ∧ b = j
  · obtain ⟨rfl, rfl⟩ := e
    rw [if_pos ⟨rfl, rfl⟩]
    unfold viaF
    rw [if_pos (by omega)]; rfl
  · rw [if_neg e]
    unfold viaF
    by_cases h : a < i ∨ (a = i ∧ b < j)
    · rw [if_pos h, if_pos (by omega)]
    · rw [if_neg h, if_neg (by omega)]
theorem viaF_row (m : List (List Int)) (n k i : Nat) : tabOf n n (viaF m k i n) = tabOf n n (viaF m k (i + 1) 0) := tabOf_congr fun a b _ hb => by
  unfold viaF
  by_cases h : a < i ∨ (a = i ∧ b < n)
  · rw [if_pos h, if_pos (by omega)]
  · rw [if_neg h, if_neg (by omega)]
theorem viaF_all (m : List (List Int)) (n k : Nat) : tabOf n n (viaF m k n 0) = tabOf n n (viaF m (k + 1) 0 0) := tabOf_congr fun a b ha _ => by
  unfold viaF
  rw [if_pos (Or.inl ha), if_neg (by omega)]
theorem viaF_end (m : List (List Int)) : tabOf m.length m.length (viaF m m.length 0 0) = reachM m := tabOf_congr fun a b _ _ => by
  unfold viaF reachB
  rw [if_neg (by omega)]

set_option maxRecDepth 100000 in
set_option maxHeartbeats 6400000 in
theorem spec_reach6 (A1 : Option Addr) (c1 : Nat) (m : List (List Int)) (hm : MatFacts m) (w : World) (h1 : GridS w A1 m) :
    Calls Tryz.prog 119 #[.slice A1 m.length c1] w (NewG (reachM m) w) := by
  have H1 := Lib.hid h1
  have HA := Lib.hid hm
  have HZ := Lib.hid (spec_zero m.length m.length (by have := hm.le; omega) (by have := hm.le; omega) w)
  have HBIT := Lib.hid m_bit
  have hand := bI_and
  have hor := bI_or
  have l1 := hm.le
  clear h1 hm
  go_enter Tryz.func119, Tryz.ntmps119
  go_wp2_with fail
  refine HZ.out.mono ?_
  rintro e w1 ⟨v, rfl, hown, b1⟩
  obtain ⟨A, c, rfl, -⟩ := hown.gridS
  rw [← arcF_zero m] at hown
  rw [tabOf_length] at hown ⊢
  have HO := Lib.hid hown
  have HB1 := Lib.hid b1
  clear hown b1
  go_wp2
  go_loopw [4] (fun iv wr => ∃ i : Nat, i ≤ m.length ∧ iv = .int .i64 i ∧ OwnG wr w.heap.size (.slice A m.length c) (tabOf m.length m.length (arcF m i 0)) ∧ Below w.heap.size w wr) (fun i _ => m.length - (intOf i).toNat)
  case atStart => exact ⟨0, Nat.zero_le _, rfl, HO.out, HB1.out⟩
  case round =>
    obtain ⟨i, hi, rfl, hown, hbl⟩ := hrel
    by_cases hil : i < m.length
    · have HO1 := Lib.hid hown
      have HB2 := Lib.hid hbl
      clear hown hbl
      obtain ⟨W1, rfl⟩ : ∃ W1 : World, W1 = wr := ⟨_, rfl⟩
      go_wp2
      go_loopw [5] (fun jv wr => ∃ j : Nat, j ≤ m.length ∧ jv = .int .i64 j ∧ OwnG wr w.heap.size (.slice A m.length c) (tabOf m.length m.length (arcF m i j)) ∧ Below w.heap.size w wr) (fun j _ => m.length - (intOf j).toNat)
      case atStart => exact ⟨0, Nat.zero_le _, rfl, HO1.out, HB2.out⟩
      case round =>
        obtain ⟨j, hj, rfl, hown, hbl⟩ := hrel
        by_cases hjl : j < m.length
        · have hrl : ((tabOf m.length m.length (arcF m i j)).getD i []).length = m.length := by rw [tabOf_row hil]; simp
          obtain ⟨g, cap, gi, ci, hv, k1, k2, kf, kb, kl, kne, kg, hset⟩ := hown.at2 (i := i) (j := j) (by rw [tabOf_length]; exact hil) (by rw [hrl]; exact hjl)
          rw [tabOf_length] at hv
          simp only [Value.slice.injEq, true_and] at hv
          obtain ⟨rfl, rfl⟩ := hv
          rw [hrl] at k1
          obtain ⟨p1, p2, p3, p4, p5, rfl, ka1, ka2, pb1, pb2⟩ := H1.out.num hil (j := j) (by rw [HA.out.row i hil]; exact hjl)
          have ka1' := (hbl.cell (p := ⟨p1, p2 + i, none⟩) pb1).trans ka1
          have ka2' := (hbl.cell (p := ⟨p3, p4 + j, none⟩) pb2).trans ka2
          rw [HA.out.row i hil] at ka1'
          have hs1 := hset (bI (arcB m i j))
          rw [arcF_next m _ i j hil] at hs1
          have HS := Lib.hid hs1
          have HB4 := Lib.hid hbl
          have n1 : p1 ≠ gi := by omega
          have n2 : p3 ≠ gi := by omega
          have HARC : Hid (arcB m i j = decide (0 < cellOf m i j)) := Lib.hid rfl
          clear hset hs1 hown hbl ka1 ka2
          generalize cellOf (tabOf m.length m.length (arcF m i j)) i j = T at *
          generalize cellOf m i j = x at *
          generalize arcB m i j = y at *
          have hy := HARC.out
          subst hy
          go_wp2
          go_region_held3 (fun w' => w'.cell? ⟨g, i, none⟩ = some (.slice (some ⟨gi, 0, none⟩) m.length ci) ∧ w'.cell? ⟨p1, p2 + i, none⟩ = some (.slice (some ⟨p3, p4, none⟩) m.length p5) ∧ w'.cell? ⟨p3, p4 + j, none⟩ = some (.int .i64 x)) (first | exact ⟨k1, ka1', ka2'⟩ | exact ⟨cell_far kne k1, cell_far n1 ka1', cell_far n2 ka2'⟩ | go_keep) (first | (go_at_call 133; refine (HBIT.out _ _).mono ?_; rintro e w2 ⟨rfl, rfl⟩))
          go_wp2
          go_roundw
          case rel => exact ⟨j + 1, by omega, by go_num, HS.out.drew, (HB4.out.setCell kb _).drew⟩
          case measure => simp [intOf]; omega
        · obtain rfl : j = m.length := by omega
          rw [arcF_row] at hown
          have HO3 := Lib.hid hown
          clear hown
          go_wp2
          go_roundw
          case rel => exact ⟨i + 1, by omega, by go_num, HO3.out, hbl⟩
          case measure => simp [intOf]; omega
    · obtain rfl : i = m.length := by omega
      rw [viaF_zero] at hown
      have HO2 := Lib.hid hown
      have HB2 := Lib.hid hbl
      clear hown hbl
      obtain ⟨W1, rfl⟩ : ∃ W1 : World, W1 = wr := ⟨_, rfl⟩
      go_wp2
      go_loopw [6] (fun kv wr => ∃ k : Nat, k ≤ m.length ∧ kv = .int .i64 k ∧ OwnG wr w.heap.size (.slice A m.length c) (tabOf m.length m.length (viaF m k 0 0)) ∧ Below w.heap.size w wr) (fun k _ => m.length - (intOf k).toNat)
      case atStart => exact ⟨0, Nat.zero_le _, rfl, HO2.out, HB2.out⟩
      case round =>
        obtain ⟨k, hk, rfl, hown, hbl⟩ := hrel
        by_cases hkl : k < m.length
        · have HO3 := Lib.hid hown
          have HB3 := Lib.hid hbl
          clear hown hbl
          obtain ⟨W2, rfl⟩ : ∃ W2 : World, W2 = wr := ⟨_, rfl⟩
          go_wp2
          go_loopw [7] (fun iv wr => ∃ i : Nat, i ≤ m.length ∧ iv = .int .i64 i ∧ OwnG wr w.heap.size (.slice A m.length c) (tabOf m.length m.length (viaF m k i 0)) ∧ Below w.heap.size w wr) (fun i _ => m.length - (intOf i).toNat)
          case atStart => exact ⟨0, Nat.zero_le _, rfl, HO3.out, HB3.out⟩
          case round =>
            obtain ⟨i, hi, rfl, hown, hbl⟩ := hrel
            by_cases hil : i < m.length
            · have HO4 := Lib.hid hown
              have HB4 := Lib.hid hbl
              clear hown hbl
              obtain ⟨W3, rfl⟩ : ∃ W3 : World, W3 = wr := ⟨_, rfl⟩
              go_wp2
              go_loopw [8] (fun jv wr => ∃ j : Nat, j ≤ m.length ∧ jv = .int .i64 j ∧ OwnG wr w.heap.size (.slice A m.length c) (tabOf m.length m.length (viaF m k i j)) ∧ Below w.heap.size w wr) (fun j _ => m.length - (intOf j).toNat)
              case atStart => exact ⟨0, Nat.zero_le _, rfl, HO4.out, HB4.out⟩
              case round =>
                obtain ⟨j, hj, rfl, hown, hbl⟩ := hrel
                by_cases hjl : j < m.length
                · have hrl : ∀ t, t < m.length → ((tabOf m.length m.length (viaF m k i j)).getD t []).length = m.length := fun t ht => by rw [tabOf_row ht]; simp
                  obtain ⟨g, cap, gi, ci, hv, k1, k2, kf, kb, kl, kne, kg, hset⟩ := hown.at2 (i := i) (j := j) (by rw [tabOf_length]; exact hil) (by rw [hrl i hil]; exact hjl)
                  obtain ⟨g2, cap2, gi2, ci2, hv2, k12, k22, _⟩ := hown.at2 (i := i) (j := k) (by rw [tabOf_length]; exact hil) (by rw [hrl i hil]; exact hkl)
                  obtain ⟨g3, cap3, gk, ck, hv3, k13, k23, _⟩ := hown.at2 (i := k) (j := j) (by rw [tabOf_length]; exact hkl) (by rw [hrl k hkl]; exact hjl)
                  rw [tabOf_length] at hv hv2 hv3
                  simp only [Value.slice.injEq, true_and] at hv hv2 hv3
                  obtain ⟨rfl, rfl⟩ := hv
                  obtain ⟨e2, rfl⟩ := hv2
                  obtain ⟨e3, rfl⟩ := hv3
                  simp only [Option.some.injEq, Addr.mk.injEq, and_true] at e2 e3
                  subst e2
                  subst e3
                  rw [k1] at k12
                  simp only [Option.some.injEq, Value.slice.injEq, Addr.mk.injEq, and_true, true_and] at k12
                  obtain ⟨rfl, rfl⟩ := k12
                  rw [hrl i hil] at k1
                  rw [hrl k hkl] at k13
                  rw [tabOf_cell hil hjl, viaF_at] at k2
                  rw [tabOf_cell hil hkl, viaF_col] at k22
                  rw [tabOf_cell hkl hjl, viaF_rowk] at k23
                  have hs1 := hset (bI (viaB m k i j || (viaB m k i k && viaB m k k j)))
                  rw [viaF_next m _ k i j hil] at hs1
                  have HS := Lib.hid hs1
                  have HB5 := Lib.hid hbl
                  clear hset hs1 hown hbl hrl
                  generalize viaB m k i j = x at *
                  generalize viaB m k i k = y at *
                  generalize viaB m k k j = z at *
                  go_wp2
                  go_region
                  go_wp2
                  go_roundw
                  case rel => exact ⟨j + 1, by omega, by go_num, HS.out.drew, (HB5.out.setCell kb _).drew⟩
                  case measure => simp [intOf]; omega
                · obtain rfl : j = m.length := by omega
                  rw [viaF_row] at hown
                  have HO5 := Lib.hid hown
                  clear hown
                  go_wp2
                  go_roundw
                  case rel => exact ⟨i + 1, by omega, by go_num, HO5.out, hbl⟩
                  case measure => simp [intOf]; omega
            · obtain rfl : i = m.length := by omega
              rw [viaF_all] at hown
              have HO5 := Lib.hid hown
              clear hown
              go_wp2
              go_roundw
              case rel => exact ⟨k + 1, by omega, by go_num, HO5.out, hbl⟩
              case measure => simp [intOf]; omega
        · obtain rfl : k = m.length := by omega
          rw [viaF_end] at hown
          have HO5 := Lib.hid hown
          clear hown
          go_wp2
          go_ret
          exact ⟨_, rfl, HO5.out, hbl⟩

set_option maxRecDepth 100000 in
set_option maxHeartbeats 800000 in
theorem spec_reachOf (A1 : Option Addr) (c1 : Nat) (m : List (List Int)) (hl : m.length ≤ 1048576) (ht : tot m ≤ 1048576) (w : World) (h1 : GridS w A1 m) :
    Calls Tryz.prog 96 #[.slice A1 m.length c1] w (NewG (reachS m) w) := by
  have I1 := Lib.hid (spec_isMatrix A1 c1 m (by omega) (fun k hk => by have := row_le_tot hk; omega) w h1)
  unfold reachS
  cases hm : isMat m with
  | false =>
    rw [hm] at I1
    rw [if_neg (by decide)]
    have HE := Lib.hid (ownG_empty w)
    clear h1 hm
    go_enter Tryz.func96, Tryz.ntmps96
    go_wp2_with fail
    refine I1.out.mono ?_
    rintro e w1 ⟨rfl, rfl⟩
    go_wp2
    go_ret
    exact ⟨_, rfl, HE.out, below_new⟩
  | true =>
    rw [hm] at I1
    rw [if_pos rfl]
    have HR := Lib.hid (spec_reach6 A1 c1 m (isMat_facts hm) w h1)
    clear h1 hm
    go_enter Tryz.func96, Tryz.ntmps96
    go_wp2_with fail
    refine I1.out.mono ?_
    rintro e w1 ⟨rfl, rfl⟩
    go_wp2_with fail
    refine HR.out.mono ?_
    rintro e w2 ⟨v, rfl, ho, hb⟩
    have HO := Lib.hid ho
    clear ho
    go_wp2
    go_ret
    exact ⟨_, rfl, HO.out, hb⟩
end Go.Proofs.YtalclebehbdliaaGreat
namespace Go.Proofs.YtalclebehbdliaaGreat
open Go Go.RowKit

theorem reachM_facts (m : List (List Int)) : (reachM m).length = m.length ∧ (∀ i, i < m.length → ((reachM m).getD i []).length = m.length) ∧ ∀ i j, i < m.length → j < m.length → cellOf (reachM m) i j = bI (reachB m i j) := by
  unfold reachM
  refine ⟨tabOf_length _ _ _, fun i hi => ?_, fun i j hi hj => tabOf_cell hi hj⟩
  rw [tabOf_row hi]; simp
theorem irr_bad {m : List (List Int)} {i j : Nat} (hi : i < m.length) (hj : j < m.length) (h : reachB m i j = false) : irrM m = false := by
  cases e : irrM m with
  | false => rfl
  | true =>
    have := (reachB_iff hi hj).2 ((irrM_iff.1 e).2 i j hi hj)
    rw [h] at this; cases this
theorem irr_all {m : List (List Int)} (hm : isMat m = true) (h : ∀ i j, i < m.length → j < m.length → reachB m i j = true) : irrM m = true :=
  irrM_iff.2 ⟨hm, fun i j hi hj => (reachB_iff hi hj).1 (h i j hi hj)⟩

set_option maxRecDepth 100000 in
set_option maxHeartbeats 1600000 in
theorem spec_irreducible (A1 : Option Addr) (c1 : Nat) (m : List (List Int)) (hl : m.length ≤ 1048576) (ht : tot m ≤ 1048576) (w : World) (h1 : GridS w A1 m) :
    Calls Tryz.prog 65 #[.slice A1 m.length c1] w (Scalar (.bool (irrM m)) w) := by
  have HR := Lib.hid (spec_reachOf A1 c1 m hl ht w h1)
  have HI := Lib.hid (fun w' (hb : Below w.heap.size w w') => spec_isMatrix A1 c1 m (by omega) (fun k hk => by have := row_le_tot hk; omega) w' (h1.below hb))
  clear h1
  cases hm : isMat m with
  | false =>
    have hr : irrM m = false := by unfold irrM; rw [hm]; rfl
    have hs : reachS m = [] := by unfold reachS; rw [if_neg (by rw [hm]; decide)]
    rw [hs] at HR
    rw [hm] at HI
    rw [hr]
    clear hm hr hs
    go_enter Tryz.func65, Tryz.ntmps65
    go_wp2_with fail
    refine HR.out.mono ?_
    rintro e w1 ⟨v, rfl, ho, hb⟩
    obtain ⟨A, c, rfl, -⟩ := ho.gridS
    have HB := Lib.hid hb
    clear hb ho
    go_wp2
    go_loopw [4] (fun iv wr => iv = .int .i64 0 ∧ wr = w1) (fun _ _ => 0)
    case atStart => exact ⟨rfl, rfl⟩
    case round =>
      obtain ⟨rfl, rfl⟩ := hrel
      go_wp2_with fail
      refine (HI.out _ HB.out).mono ?_
      rintro e w2 ⟨rfl, rfl⟩
      go_wp2
      go_ret
      exact ⟨rfl, HB.out⟩
  | true =>
    have hs : reachS m = reachM m := by unfold reachS; rw [if_pos hm]
    have hf := isMat_facts hm
    have hle := hf.le
    obtain ⟨f1, f2, f3⟩ := reachM_facts m
    rw [hs] at HR
    rw [hm] at HI
    have HBAD : Hid (∀ i j, i < m.length → j < m.length → reachB m i j = false → irrM m = false) := Lib.hid fun i j hi hj => irr_bad hi hj
    have HALL : Hid ((∀ i j, i < m.length → j < m.length → reachB m i j = true) → irrM m = true) := Lib.hid (irr_all hm)
    have F1 := Lib.hid f1
    have F2 := Lib.hid f2
    have F3 := Lib.hid f3
    generalize irrM m = r at *
    clear hm hs hf f1 f2 f3
    go_enter Tryz.func65, Tryz.ntmps65
    go_wp2_with fail
    refine HR.out.mono ?_
    rintro e w1 ⟨v, rfl, ho, hb⟩
    obtain ⟨A, c, rfl, hg⟩ := ho.gridS
    have HG := Lib.hid hg
    have HB := Lib.hid hb
    rw [F1.out]
    clear hb ho hg
    go_wp2
    go_loop [4] (fun iv => ∃ i : Nat, i ≤ m.length ∧ iv = .int .i64 i ∧ Hid (∀ a b, a < i → b < m.length → reachB m a b = true)) (fun i => m.length - (intOf i).toNat)
    case atStart => exact ⟨0, Nat.zero_le _, rfl, Lib.hid fun a b h => by omega⟩
    case round =>
      obtain ⟨i, hi, rfl, hrow⟩ := hrel
      by_cases hil : i < m.length
      · go_wp2
        go_loop [5] (fun jv => ∃ j : Nat, j ≤ m.length ∧ jv = .int .i64 j ∧ Hid (∀ b, b < j → reachB m i b = true)) (fun j => m.length - (intOf j).toNat)
        case atStart => exact ⟨0, Nat.zero_le _, rfl, Lib.hid fun b h => by omega⟩
        case round =>
          obtain ⟨j, hj, rfl, hcol⟩ := hrel
          by_cases hjl : j < m.length
          · obtain ⟨p1, p2, p3, p4, p5, rfl, k1, k2, _, _⟩ := HG.out.num (i := i) (by rw [F1.out]; exact hil) (j := j) (by rw [F2.out i hil]; exact hjl)
            rw [F2.out i hil] at k1
            rw [F3.out i j hil hjl] at k2
            cases hx : reachB m i j with
            | false =>
              have hr := HBAD.out i j hil hjl hx
              subst hr
              rw [hx, show bI false = 0 from rfl] at k2
              clear hx
              go_wp2
              go_ret
              exact ⟨rfl, HB.out⟩
            | true =>
              have HN : Hid (∀ b, b < j + 1 → reachB m i b = true) := Lib.hid fun b hb => by
                by_cases e : b = j
                · subst e; exact hx
                · exact hcol.out b (by omega)
              rw [hx, show bI true = 1 from rfl] at k2
              clear hx hcol
              go_wp2
              go_round
              case rel => exact ⟨j + 1, by omega, by go_num, HN⟩
              case measure => simp [intOf]; omega
          · obtain rfl : j = m.length := by omega
            have HN : Hid (∀ a b, a < i + 1 → b < m.length → reachB m a b = true) := Lib.hid fun a b ha hb => by
              by_cases e : a = i
              · subst e; exact hcol.out b hb
              · exact hrow.out a b (by omega) hb
            go_wp2
            go_round
            case rel => exact ⟨i + 1, by omega, by go_num, HN⟩
            case measure => simp [intOf]; omega
      · obtain rfl : i = m.length := by omega
        have hr := HALL.out fun a b ha hb => hrow.out a b ha hb
        subst hr
        go_wp2_with fail
        refine (HI.out _ HB.out).mono ?_
        rintro e w2 ⟨rfl, rfl⟩
        go_wp2
        go_ret
        exact ⟨rfl, HB.out⟩
end Go.Proofs.YtalclebehbdliaaGreat
namespace Go.Proofs.YtalclebehbdliaaGreat
open Go Go.RowKit

theorem langOfS_two (L : Int) (ps : List ByteArray) : (langOfS L ps 2).length ≤ 9 ∧ ∀ k, k < (langOfS L ps 2).length → ((langOfS L ps 2).getD k ByteArray.empty).size = 2 := by
  unfold langOfS
  split
  · next h =>
    obtain ⟨l1, l3, _⟩ := isShift_letters h.1
    refine ⟨Nat.le_trans (List.length_filter_le _ _) (by rw [allW_length]; exact two_le (by omega)), fun k hk => ?_⟩
    exact allW_size L.toNat 2 _ (List.mem_filter.1 (getD_mem hk)).1
  · exact ⟨by simp, fun k hk => by simp at hk⟩
/-- The graph of a shift, where it has states. -/
def graphS (L : Int) (ps : List ByteArray) : Option (List (List Int)) := if (langOfS L ps 2).length = 0 then none else some (tabQ ps (langOfS L ps 2))
def connS (L : Int) (ps : List ByteArray) : Bool := match graphS L ps with | none => false | some m => irrM m
def areS (L : Int) (ps : List ByteArray) (L' : Int) (qs : List ByteArray) : Bool := sameS L ps L' qs (langOfS L ps 3) (langOfS L' qs 3)

set_option maxRecDepth 100000 in
theorem spec_statesOf (L : Int) (G : Option Addr) (c : Nat) (ps : List ByteArray) (hl : ps.length ≤ 1048576) (hz : ∀ k, k < ps.length → (ps.getD k ByteArray.empty).size ≤ 2147483648) (w : World) (hs : StrsG w G ps) :
    Calls Tryz.prog 24 #[.agg #[.int .i64 L, .slice G ps.length c]] w (ListPost (langOfS L ps 2) w) := by
  have hb := (Below.refl w.heap.size w).alloc (Nat.le_refl _) (.cells #[.int .i64 L, .slice G ps.length c] 26)
  have C := Lib.hid (spec_languageOf L 2 G c ps hl hz _ (hs.below hb))
  have HB := Lib.hid hb
  clear hs hz hb
  generalize langOfS L ps 2 = M at *
  go_enter Tryz.func24, Tryz.ntmps24
  go_wp2_with fail
  refine C.out.mono ?_
  rintro e w1 ⟨v, rfl, ho, b1⟩
  have HO := Lib.hid ho
  have B1 := Lib.hid (HB.out.trans (b1.mono HB.out.size))
  have s1 := HB.out.size
  clear ho b1
  go_wp2
  go_ret
  exact ⟨v, rfl, HO.out.mono s1, B1.out⟩

theorem spec_graphOf (L : Int) (G : Option Addr) (c : Nat) (ps : List ByteArray) (hl : ps.length ≤ 1048576) (hz : ∀ k, k < ps.length → (ps.getD k ByteArray.empty).size ≤ 2147483648) (w : World) (hs : StrsG w G ps) :
    Calls Tryz.prog 9 #[.agg #[.int .i64 L, .slice G ps.length c]] w (NewGB (graphS L ps) w) := by
  obtain ⟨h9, h2⟩ := langOfS_two L ps
  exact spec_graphOf_of L G c ps hl hz (langOfS L ps 2) h2 (by omega) w hs fun w' hb => spec_statesOf L G c ps hl hz w' (hs.below hb)

theorem graphS_size {L : Int} {ps : List ByteArray} {m : List (List Int)} (h : graphS L ps = some m) : m.length ≤ 9 ∧ tot m ≤ 1048576 ∧ (∀ k, k < m.length → (m.getD k []).length ≤ 9) ∧ m.length = (langOfS L ps 2).length := by
  unfold graphS at h
  split at h
  · cases h
  · have e := Option.some.inj h
    obtain ⟨h9, _⟩ := langOfS_two L ps
    have hl : m.length = (langOfS L ps 2).length := by rw [← e]; exact tabOf_length _ _ _
    have hr : ∀ k, k < m.length → (m.getD k []).length = (langOfS L ps 2).length := fun k hk => by
      rw [← e] at hk ⊢
      unfold tabQ at hk ⊢
      rw [tabOf_length] at hk
      rw [tabOf_row hk]; simp
    refine ⟨by omega, ?_, fun k hk => by rw [hr k hk]; exact h9, hl⟩
    have := tot_le_of (m := m) (n := 9) fun r hr2 => by
      obtain ⟨i, hi, rfl⟩ := List.getElem_of_mem hr2
      have e2 : m.getD i [] = m[i] := by simp [List.getD, hi]
      have := hr i hi
      rw [e2] at this
      omega
    omega

set_option maxRecDepth 100000 in
set_option maxHeartbeats 800000 in
theorem spec_isConnected (L : Int) (G : Option Addr) (c : Nat) (ps : List ByteArray) (hl : ps.length ≤ 1048576) (hz : ∀ k, k < ps.length → (ps.getD k ByteArray.empty).size ≤ 2147483648) (w : World) (hs : StrsG w G ps) :
    Calls Tryz.prog 21 #[.agg #[.int .i64 L, .slice G ps.length c]] w (BoolPost (connS L ps) w) := by
  have hb := (Below.refl w.heap.size w).alloc (Nat.le_refl _) (.cells #[.int .i64 L, .slice G ps.length c] 26)
  have C := Lib.hid (spec_graphOf L G c ps hl hz _ (hs.below hb))
  have HB := Lib.hid hb
  have s0 := hb.size
  have HSZ := Lib.hid (fun m h => graphS_size (L := L) (ps := ps) (m := m) h)
  have HC : Hid (connS L ps = match graphS L ps with | none => false | some m => irrM m) := Lib.hid rfl
  generalize connS L ps = r at *
  clear hs hz hb
  cases hg : graphS L ps with
  | none =>
    rw [hg] at C HC
    obtain rfl : r = false := HC.out
    clear HC HSZ hg
    go_enter Tryz.func21, Tryz.ntmps21
    go_wp2_with fail
    refine C.out.mono ?_
    rintro e w1 ⟨v, rfl, ho, b1⟩
    have B1 := Lib.hid (HB.out.trans (b1.mono s0))
    clear ho b1
    go_wp2
    go_ret
    exact ⟨rfl, B1.out⟩
  | some m =>
    rw [hg] at C HC
    obtain ⟨h9, ht, -, -⟩ := HSZ.out m hg
    obtain rfl : r = irrM m := HC.out
    clear HC HSZ hg
    go_enter Tryz.func21, Tryz.ntmps21
    go_wp2_with fail
    refine C.out.mono ?_
    rintro e w1 ⟨v, rfl, ho, b1⟩
    obtain ⟨A, cm, rfl, hg1⟩ := OwnG.gridS ho
    dsimp only [Option.getD, Option.isSome] at hg1 ⊢
    have C2 := Lib.hid (spec_irreducible A cm m (by omega) ht w1 hg1)
    have B1 := Lib.hid (HB.out.trans (b1.mono s0))
    clear ho b1 hg1
    generalize irrM m = r at *
    go_wp2_with fail
    refine C2.out.mono ?_
    rintro e w2 ⟨rfl, b2⟩
    have B2 := Lib.hid (B1.out.trans (b2.mono B1.out.size))
    clear b2
    go_wp2
    go_ret
    exact ⟨rfl, B2.out⟩

theorem spec_areSame (L L' : Int) (G G' : Option Addr) (c c' : Nat) (ps qs : List ByteArray) (hl : ps.length ≤ 1048576) (hl' : qs.length ≤ 1048576) (hz : ∀ k, k < ps.length → (ps.getD k ByteArray.empty).size ≤ 2147483648) (hz' : ∀ k, k < qs.length → (qs.getD k ByteArray.empty).size ≤ 2147483648) (w : World) (hs : StrsG w G ps) (hs' : StrsG w G' qs) :
    Calls Tryz.prog 19 #[.agg #[.int .i64 L, .slice G ps.length c], .agg #[.int .i64 L', .slice G' qs.length c']] w (BoolPost (areS L ps L' qs) w) := by
  have h27 : ∀ (L : Int) (ps : List ByteArray), (langOfS L ps 3).length ≤ 1000 := fun L ps => by
    unfold langOfS
    split
    · next h =>
      obtain ⟨l1, l3, _⟩ := isShift_letters h.1
      refine Nat.le_trans (List.length_filter_le _ _) ?_
      rw [allW_length]
      exact Nat.le_trans (pow_six (k := L.toNat) (n := 3) (by omega) (by omega) 3 (Nat.le_refl _)) (by omega)
    · simp
  exact spec_areSame_of L L' G G' c c' ps qs hl hl' hz hz' _ _ (h27 L ps) (h27 L' qs) w hs hs' (fun _ _ w' hb => spec_languageOf L 3 G c ps hl hz w' (hs.below hb)) (fun _ _ w' hb => spec_languageOf L' 3 G' c' qs hl' hz' w' (hs'.below hb))
end Go.Proofs.YtalclebehbdliaaGreat
namespace Go.Proofs.YtalclebehbdliaaGreat
open Go Go.RowKit

def sgn (j : Nat) : Int := if j % 2 = 0 then 1 else -1
theorem sgn_next (j : Nat) : sgn (j + 1) = -sgn j := by
  unfold sgn
  by_cases h : j % 2 = 0
  · rw [if_pos h, if_neg (by omega)]
  · rw [if_neg h, if_pos (by omega)]; rfl
theorem sgn_two (j : Nat) : sgn j = 1 ∨ sgn j = -1 := by
  unfold sgn
  split
  · exact Or.inl rfl
  · exact Or.inr rfl
/-- A table without its first row and column j. -/
def lessF (f : Nat → Nat → Int) (j : Nat) : Nat → Nat → Int := fun a b => f (a + 1) (if b < j then b else b + 1)
def detF : Nat → (Nat → Nat → Int) → Int
  | 0, _ => 1
  | n + 1, f => sumTo (n + 1) fun j => sgn j * f 0 j * detF n (lessF f j)
theorem detF_congr : ∀ {n : Nat} {f g : Nat → Nat → Int}, (∀ i j, i < n → j < n → f i j = g i j) → detF n f = detF n g
  | 0, _, _, _ => rfl
  | n + 1, f, g, h => by
    rw [detF, detF]
    refine sumTo_congr _ fun j hj => ?_
    rw [h 0 j (by omega) hj, detF_congr (n := n) (f := lessF f j) (g := lessF g j) fun a b ha hb => ?_]
    unfold lessF
    exact h _ _ (by omega) (by split <;> omega)
theorem detF_turn {n : Nat} (hn : n ≤ 4) (f : Nat → Nat → Int) : detF n (fun i j => f j i) = detF n f := by
  have h : n = 0 ∨ n = 1 ∨ n = 2 ∨ n = 3 ∨ n = 4 := by omega
  rcases h with rfl | rfl | rfl | rfl | rfl
  · rfl
  · rfl
  · simp [detF, sumTo, sgn, lessF]
    grind
  · simp [detF, sumTo, sgn, lessF]
    grind
  · simp [detF, sumTo, sgn, lessF]
    grind
/-- n! times B to the n. -/
def detB (B : Nat) : Nat → Nat
  | 0 => 1
  | n + 1 => (n + 1) * (B * detB B n)
theorem sumTo_abs {f : Nat → Int} {B : Nat} : ∀ {n : Nat}, (∀ k, k < n → (f k).natAbs ≤ B) → (sumTo n f).natAbs ≤ n * B
  | 0, _ => by simp [sumTo]
  | n + 1, h => by
    have h1 := sumTo_abs (n := n) fun k hk => h k (by omega)
    have h2 := h n (by omega)
    rw [sumTo, Nat.add_mul, Nat.one_mul]
    omega
theorem term_abs {s x d : Int} {B D : Nat} (hs : s = 1 ∨ s = -1) (hx : x.natAbs ≤ B) (hd : d.natAbs ≤ D) : (s * x * d).natAbs ≤ B * D := by
  rw [Int.natAbs_mul, Int.natAbs_mul]
  have e : s.natAbs = 1 := by rcases hs with rfl | rfl <;> rfl
  rw [e, Nat.one_mul]
  exact Nat.mul_le_mul hx hd
theorem detF_abs {B : Nat} : ∀ {n : Nat} {f : Nat → Nat → Int}, (∀ i j, i < n → j < n → (f i j).natAbs ≤ B) → (detF n f).natAbs ≤ detB B n
  | 0, _, _ => Nat.le_refl _
  | n + 1, f, h => by
    rw [detF, detB]
    refine sumTo_abs fun j hj => term_abs (sgn_two j) (h 0 j (by omega) hj) (detF_abs fun a b ha hb => ?_)
    exact h _ _ (by omega) (by split <;> omega)

/-! ### Lists of numbers -/

/-- How many numbers are left of the first n without zeros at the end. -/
def cutLen (p : List Int) : Nat → Nat
  | 0 => 0
  | n + 1 => if p.getD n 0 = 0 then cutLen p n else n + 1
theorem cutLen_le (p : List Int) : ∀ n, cutLen p n ≤ n
  | 0 => Nat.le_refl _
  | n + 1 => by
    rw [cutLen]
    split
    · exact Nat.le_trans (cutLen_le p n) (by omega)
    · exact Nat.le_refl _
def cutL (p : List Int) : List Int := p.take (cutLen p p.length)
def fitsB (p : List Int) (most : Nat) : Bool := (p.all fun x => decide (-1000000 ≤ x ∧ x ≤ 1000000)) && decide (p.length ≤ most)
theorem fits_at {p : List Int} {most : Nat} (h : fitsB p most = true) : p.length ≤ most ∧ ∀ k, (p.getD k 0).natAbs ≤ 1000000 := by
  unfold fitsB at h
  rw [Bool.and_eq_true, decide_eq_true_iff, List.all_eq_true] at h
  refine ⟨h.2, fun k => ?_⟩
  by_cases hk : k < p.length
  · have := h.1 p[k] (List.getElem_mem hk)
    rw [decide_eq_true_iff] at this
    rw [List.getD_eq_getElem?_getD, List.getElem?_eq_getElem hk, Option.getD_some]
    omega
  · rw [List.getD_eq_getElem?_getD, List.getElem?_eq_none (by omega)]
    decide
/-- The product's numbers. -/
def termC (a b : List Int) (t i : Nat) : Int := if i ≤ t ∧ t - i < b.length then a.getD i 0 * b.getD (t - i) 0 else 0
def convL (a b : List Int) : List Int := (List.range (a.length + b.length - 1)).map fun t => sumTo a.length (termC a b t)
def mulP (a b : List Int) : List Int := if fitsB a 30 && fitsB b 30 && decide (a ≠ [] ∧ b ≠ []) then cutL (convL a b) else []
/-- The value of the last n numbers. -/
def hor (p : List Int) (x : Int) : Nat → Int
  | 0 => 0
  | n + 1 => hor p x n * x + p.getD (p.length - 1 - n) 0
def atP (p : List Int) (x : Int) : Option Int := if fitsB p 5 && decide (-1000 ≤ x ∧ x ≤ 1000) then some (hor p x p.length) else none

/-! ### Small matrices -/

def smallM (m : List (List Int)) : Bool := isMat m && decide (m.length ≤ 4) && m.all fun r => r.all fun x => decide (x ≤ 9)
def detOk (t : List (List Int)) : Bool := decide (t.length ≤ 4) && t.all fun r => decide (r.length = t.length) && r.all fun x => decide (-10000 ≤ x ∧ x ≤ 10000)
def detT (t : List (List Int)) : Int := detF t.length (cellOf t)
def detS (t : List (List Int)) : Option Int := if detOk t then some (detT t) else none
def rootM (m : List (List Int)) : Bool := smallM m && decide (detT m ≠ 0)
/-- The vertices of which the bits are set. -/
def bitsL (n s : Nat) : List Nat := (List.range n).filter fun i => s.testBit i
def minorF (m : List (List Int)) (l : List Nat) : Int := detF l.length fun a b => cellOf m (l.getD a 0) (l.getD b 0)
def minorsN (m : List (List Int)) (size : Nat) : Int := sumTo (2 ^ m.length) fun s => if (bitsL m.length s).length = size then minorF m (bitsL m.length s) else 0
def turnedL (m : List (List Int)) : List Int := (List.range (m.length + 1)).map fun k => sgn k * minorsN m k
def charL (m : List (List Int)) : List Int := (List.range (m.length + 1)).map fun k => sgn (m.length - k) * minorsN m (m.length - k)
def turnedM (m : List (List Int)) : List Int := if smallM m then cutL (turnedL m) else []
def charM (m : List (List Int)) : List Int := if smallM m then charL m else []
end Go.Proofs.YtalclebehbdliaaGreat
namespace Go.Proofs.YtalclebehbdliaaGreat
open Go Go.RowKit

theorem small_facts {m : List (List Int)} (h : smallM m = true) : isMat m = true ∧ m.length ≤ 4 ∧ ∀ i j, i < m.length → j < m.length → 0 ≤ cellOf m i j ∧ cellOf m i j ≤ 9 := by
  unfold smallM at h
  rw [Bool.and_eq_true, Bool.and_eq_true, decide_eq_true_iff, List.all_eq_true] at h
  obtain ⟨⟨h1, h2⟩, h3⟩ := h
  have hf := isMat_facts h1
  refine ⟨h1, h2, fun i j hi hj => ⟨(hf.cell i j hi hj).1, ?_⟩⟩
  have h4 := h3 m[i] (List.getElem_mem hi)
  rw [List.all_eq_true] at h4
  have hr := hf.row i hi
  have e : m.getD i [] = m[i] := by simp [List.getD, hi]
  rw [e] at hr
  have h5 := h4 (m[i])[j] (List.getElem_mem (by omega))
  rw [decide_eq_true_iff] at h5
  unfold cellOf
  rw [e, List.getD_eq_getElem?_getD, List.getElem?_eq_getElem (by omega)]
  exact h5
/-- The sums of minors, for each number of rows: none, one, all. -/
theorem minors_zero {m : List (List Int)} (h : m.length ≤ 4) : minorsN m 0 = 1 := by
  unfold minorsN
  have hn : m.length = 0 ∨ m.length = 1 ∨ m.length = 2 ∨ m.length = 3 ∨ m.length = 4 := by omega
  rcases hn with e | e | e | e | e <;> rw [e] <;> simp [sumTo, bitsL, List.range, List.range.loop, List.filter, Nat.testBit, minorF, detF]
theorem minors_one {m : List (List Int)} (h : m.length ≤ 4) : minorsN m 1 = sumTo m.length fun k => cellOf m k k := by
  unfold minorsN
  have hn : m.length = 0 ∨ m.length = 1 ∨ m.length = 2 ∨ m.length = 3 ∨ m.length = 4 := by omega
  rcases hn with e | e | e | e | e <;> rw [e] <;> simp [sumTo, bitsL, List.range, List.range.loop, List.filter, Nat.testBit, minorF, detF, sgn]
theorem minors_all {m : List (List Int)} (h : m.length ≤ 4) : minorsN m m.length = detT m := by
  unfold minorsN detT
  have hn : m.length = 0 ∨ m.length = 1 ∨ m.length = 2 ∨ m.length = 3 ∨ m.length = 4 := by omega
  rcases hn with e | e | e | e | e <;> rw [e] <;> simp [sumTo, bitsL, List.range, List.range.loop, List.filter, Nat.testBit, minorF, detF, sgn, lessF]
theorem bitsL_mem {n s i : Nat} (h : i ∈ bitsL n s) : i < n := by
  unfold bitsL at h
  exact List.mem_range.1 (List.mem_filter.1 h).1
theorem bitsL_len (n s : Nat) : (bitsL n s).length ≤ n := by
  unfold bitsL
  exact Nat.le_trans (List.length_filter_le _ _) (by simp)
theorem bitsL_at {n s a : Nat} (h : a < (bitsL n s).length) : (bitsL n s).getD a 0 < n := by
  rw [List.getD_eq_getElem?_getD, List.getElem?_eq_getElem h]
  exact bitsL_mem (List.getElem_mem h)
theorem minors_turn {m : List (List Int)} (h : m.length ≤ 4) (k : Nat) : minorsN (turnM m) k = minorsN m k := by
  have hl : (turnM m).length = m.length := tabOf_length _ _ _
  unfold minorsN
  rw [hl]
  refine sumTo_congr _ fun s _ => ?_
  split
  · unfold minorF
    have hb := bitsL_len m.length s
    rw [← detF_turn (n := (bitsL m.length s).length) (by omega)]
    refine detF_congr fun a b ha hb => ?_
    unfold turnM
    rw [tabOf_cell (bitsL_at hb) (bitsL_at ha)]
  · rfl
theorem turn_small {m : List (List Int)} (h : smallM m = true) : smallM (turnM m) = true := by
  obtain ⟨h1, h2, h3⟩ := small_facts h
  have hf := isMat_facts h1
  have hl : (turnM m).length = m.length := tabOf_length _ _ _
  have hm : isMat (turnM m) = true := isMat_iff.2 ⟨by rw [hl]; exact ⟨hf.pos, hf.le⟩, fun i hi => by
    rw [hl] at hi
    refine ⟨?_, fun j hj => ?_⟩
    · unfold turnM; rw [tabOf_row hi, tabOf_length]; simp
    · rw [hl] at hj
      unfold turnM
      rw [tabOf_cell hi hj]
      exact hf.cell j i hj hi⟩
  unfold smallM
  rw [hm, hl, decide_eq_true h2, Bool.true_and, Bool.true_and, List.all_eq_true]
  intro r hr
  unfold turnM tabOf at hr
  obtain ⟨i, hi, rfl⟩ := List.mem_map.1 hr
  rw [List.all_eq_true]
  intro x hx
  obtain ⟨j, hj, rfl⟩ := List.mem_map.1 hx
  rw [decide_eq_true_iff]
  exact (h3 j i (List.mem_range.1 hj) (List.mem_range.1 hi)).2
theorem char_turn {m : List (List Int)} (h : smallM m = true) : charM (turnM m) = charM m := by
  obtain ⟨_, h2, _⟩ := small_facts h
  have hl : (turnM m).length = m.length := tabOf_length _ _ _
  unfold charM
  rw [if_pos h, if_pos (turn_small h)]
  unfold charL
  rw [hl]
  refine List.map_congr_left fun k _ => ?_
  rw [minors_turn h2]
theorem charL_len (m : List (List Int)) : (charL m).length = m.length + 1 := by simp [charL]
theorem charL_at (m : List (List Int)) {k : Nat} (hk : k ≤ m.length) : (charL m).getD k 0 = sgn (m.length - k) * minorsN m (m.length - k) := by
  unfold charL
  rw [List.getD_eq_getElem?_getD, List.getElem?_map, List.getElem?_range (by omega)]
  rfl
theorem minors_abs {m : List (List Int)} (h : smallM m = true) (k : Nat) : (minorsN m k).natAbs ≤ 1000000 := by
  obtain ⟨h1, h2, h3⟩ := small_facts h
  have hab : ∀ i j, i < m.length → j < m.length → (cellOf m i j).natAbs ≤ 9 := fun i j hi hj => by have := h3 i j hi hj; omega
  by_cases hk : k = m.length
  · subst hk
    rw [minors_all h2]
    have hd := detF_abs (B := 9) (n := m.length) (f := cellOf m) hab
    have hn : m.length = 0 ∨ m.length = 1 ∨ m.length = 2 ∨ m.length = 3 ∨ m.length = 4 := by omega
    unfold detT
    rcases hn with e | e | e | e | e <;> rw [e] at hd ⊢ <;> simp [detB] at hd <;> omega
  · have hs : (minorsN m k).natAbs ≤ 2 ^ m.length * 4374 := by
      unfold minorsN
      refine sumTo_abs fun s _ => ?_
      split
      · next he =>
        have hb := bitsL_len m.length s
        have hd := detF_abs (B := 9) (n := (bitsL m.length s).length) (f := fun a b => cellOf m ((bitsL m.length s).getD a 0) ((bitsL m.length s).getD b 0)) fun a b ha hb => hab _ _ (bitsL_at ha) (bitsL_at hb)
        unfold minorF
        rw [he] at hd ⊢
        have hk3 : k = 0 ∨ k = 1 ∨ k = 2 ∨ k = 3 := by omega
        rcases hk3 with e | e | e | e <;> rw [e] at hd ⊢ <;> simp only [detB] at hd <;> omega
      · decide
    have hn : m.length = 0 ∨ m.length = 1 ∨ m.length = 2 ∨ m.length = 3 ∨ m.length = 4 := by omega
    rcases hn with e | e | e | e | e <;> rw [e] at hs <;> omega
theorem char_fits {m : List (List Int)} (h : smallM m = true) : fitsB (charL m) 5 = true := by
  obtain ⟨_, h2, _⟩ := small_facts h
  unfold fitsB
  rw [charL_len, decide_eq_true (by omega), Bool.and_true, List.all_eq_true]
  intro x hx
  unfold charL at hx
  obtain ⟨k, _, rfl⟩ := List.mem_map.1 hx
  have := minors_abs h (m.length - k)
  rw [decide_eq_true_iff]
  rcases sgn_two (m.length - k) with e | e <;> rw [e] <;> omega
theorem hor_zero (p : List Int) : ∀ n, 0 < n → hor p 0 n = p.getD (p.length - n) 0
  | n + 1, _ => by rw [hor, Int.mul_zero, Int.zero_add, show p.length - 1 - n = p.length - (n + 1) by omega]
/-- The value at 0. -/
theorem char_at_zero {m : List (List Int)} (h : smallM m = true) : atP (charL m) 0 = some (sgn m.length * detT m) := by
  obtain ⟨_, h2, _⟩ := small_facts h
  unfold atP
  rw [char_fits h, Bool.true_and, if_pos (by decide), hor_zero _ _ (by rw [charL_len]; omega), Nat.sub_self, charL_at m (Nat.zero_le _), Nat.sub_zero, minors_all h2]

/-! ### The value of a product -/
theorem hor_two (p : List Int) (x : Int) : ∀ n, n ≤ p.length → hor p x p.length = hor p x n * x ^ (p.length - n) + sumTo (p.length - n) fun k => p.getD k 0 * x ^ k := by
  intro n hn
  obtain ⟨d, hd⟩ : ∃ d, p.length = n + d := ⟨p.length - n, by omega⟩
  rw [show p.length - n = d by omega]
  clear hn
  induction d generalizing n with
  | zero => rw [hd]; simp [sumTo]
  | succ d ih =>
    have h1 := ih (n + 1) (by omega)
    rw [h1, hor, sumTo, show p.length - 1 - n = d by omega, Int.pow_succ]
    grind
theorem hor_sum (p : List Int) (x : Int) : hor p x p.length = sumTo p.length fun k => p.getD k 0 * x ^ k := by
  have h := hor_two p x 0 (Nat.zero_le _)
  rw [hor, Int.zero_mul, Int.zero_add, Nat.sub_zero] at h
  exact h
theorem cutLen_zero (p : List Int) : ∀ {n k : Nat}, cutLen p n ≤ k → k < n → p.getD k 0 = 0
  | n + 1, k, h, hk => by
    rw [cutLen] at h
    split at h
    · next hz =>
      by_cases e : k = n
      · subst e; exact hz
      · exact cutLen_zero p h (by omega)
    · omega
theorem sumTo_drop {f : Nat → Int} {n : Nat} : ∀ {d : Nat}, (∀ k, n ≤ k → k < n + d → f k = 0) → sumTo (n + d) f = sumTo n f
  | 0, _ => rfl
  | d + 1, h => by
    rw [← Nat.add_assoc, sumTo, h (n + d) (by omega) (by omega), sumTo_drop (d := d) fun k h1 h2 => h k h1 (by omega)]
    omega
theorem cut_value (p : List Int) (x : Int) : (sumTo (cutL p).length fun k => (cutL p).getD k 0 * x ^ k) = sumTo p.length fun k => p.getD k 0 * x ^ k := by
  have hle := cutLen_le p p.length
  have hl : (cutL p).length = cutLen p p.length := by unfold cutL; rw [List.length_take]; omega
  rw [hl]
  obtain ⟨d, hd⟩ : ∃ d, p.length = cutLen p p.length + d := ⟨p.length - cutLen p p.length, by omega⟩
  have h1 : sumTo (cutLen p p.length) (fun k => (cutL p).getD k 0 * x ^ k) = sumTo (cutLen p p.length) fun k => p.getD k 0 * x ^ k := sumTo_congr _ fun k hk => by
    have : (cutL p).getD k 0 = p.getD k 0 := by
      unfold cutL
      simp [List.getD_eq_getElem?_getD, hk]
    rw [this]
  rw [h1]
  have h2 := sumTo_drop (f := fun k => p.getD k 0 * x ^ k) (n := cutLen p p.length) (d := d) fun k h3 h4 => by
    rw [cutLen_zero p h3 (by omega), Int.zero_mul]
  rw [← h2, ← hd]
theorem conv_value (a b : List Int) (ha : a.length ≤ 4) (hb : b.length ≤ 2) (ha0 : a ≠ []) (hb0 : b ≠ []) (x : Int) : (sumTo (convL a b).length fun k => (convL a b).getD k 0 * x ^ k) = (sumTo a.length fun k => a.getD k 0 * x ^ k) * sumTo b.length fun k => b.getD k 0 * x ^ k := by
  match b, hb0, hb with
  | [b0], _, _ =>
    match a, ha0, ha with
    | [a0], _, _ => simp [convL, termC, sumTo, List.range, List.range.loop]
    | [a0, a1], _, _ => simp [convL, termC, sumTo, List.range, List.range.loop]; grind
    | [a0, a1, a2], _, _ => simp [convL, termC, sumTo, List.range, List.range.loop]; grind
    | [a0, a1, a2, a3], _, _ => simp [convL, termC, sumTo, List.range, List.range.loop]; grind
  | [b0, b1], _, _ =>
    match a, ha0, ha with
    | [a0], _, _ => simp [convL, termC, sumTo, List.range, List.range.loop]; grind
    | [a0, a1], _, _ => simp [convL, termC, sumTo, List.range, List.range.loop]; grind
    | [a0, a1, a2], _, _ => simp [convL, termC, sumTo, List.range, List.range.loop]; grind
    | [a0, a1, a2, a3], _, _ => simp [convL, termC, sumTo, List.range, List.range.loop]; grind
theorem prod_value {a b : List Int} {x : Int} (ha : a.length ≤ 4) (hb : b.length ≤ 2) (hp : mulP a b ≠ []) : hor a x a.length * hor b x b.length = hor (mulP a b) x (mulP a b).length := by
  unfold mulP at hp ⊢
  split at hp
  · next h =>
    rw [if_pos h]
    rw [Bool.and_eq_true, decide_eq_true_iff] at h
    rw [hor_sum, hor_sum, hor_sum, cut_value, conv_value a b ha hb h.2.1 h.2.2]
  · exact absurd rfl hp
end Go.Proofs.YtalclebehbdliaaGreat
namespace Go.Proofs.YtalclebehbdliaaGreat
open Go Go.RowKit

/-! ### Sums -/

theorem sumTo_left (f : Nat → Int) : ∀ n : Nat, sumTo (n + 1) f = f 0 + sumTo n fun k => f (k + 1)
  | 0 => by simp [sumTo]
  | n + 1 => by rw [sumTo, sumTo_left f n, sumTo]; omega
theorem sumTo_mulc (c : Int) (f : Nat → Int) : ∀ n : Nat, (sumTo n fun k => c * f k) = c * sumTo n f
  | 0 => by simp [sumTo]
  | n + 1 => by rw [sumTo, sumTo_mulc c f n, sumTo, Int.mul_add]
theorem sumTo_addf (f g : Nat → Int) : ∀ n : Nat, (sumTo n fun k => f k + g k) = sumTo n f + sumTo n g
  | 0 => rfl
  | n + 1 => by rw [sumTo, sumTo_addf f g n, sumTo, sumTo]; omega
theorem sumTo_mono2 {f g : Nat → Int} : ∀ {n : Nat}, (∀ k, k < n → f k ≤ g k) → sumTo n f ≤ sumTo n g
  | 0, _ => Int.le_refl _
  | n + 1, h => by
    have h1 := sumTo_mono2 (n := n) fun k hk => h k (by omega)
    have h2 := h n (by omega)
    rw [sumTo, sumTo]; omega
theorem sumTo_nonneg {f : Nat → Int} {n : Nat} (h : ∀ k, k < n → 0 ≤ f k) : 0 ≤ sumTo n f := by
  have h1 := sumTo_mono2 (f := fun _ => 0) h
  have h2 : (sumTo n fun _ => (0 : Int)) = 0 := by
    clear h h1
    induction n with
    | zero => rfl
    | succ n ih => rw [sumTo, ih]; rfl
  omega
theorem sumTo_nonpos {f : Nat → Int} {n : Nat} (h : ∀ k, k < n → f k ≤ 0) : sumTo n f ≤ 0 := by
  have h1 := sumTo_nonneg (f := fun k => -1 * f k) (n := n) fun k hk => by have := h k hk; omega
  rw [sumTo_mulc] at h1
  omega
theorem sumTo_term {f : Nat → Int} {n k : Nat} (hk : k < n) (h : ∀ j, j < n → 0 ≤ f j) : f k ≤ sumTo n f := by
  induction n with
  | zero => omega
  | succ n ih =>
    rw [sumTo]
    by_cases e : k = n
    · subst e
      have := sumTo_nonneg (f := f) (n := k) fun j hj => h j (by omega)
      omega
    · have := ih (by omega) fun j hj => h j (by omega)
      have := h n (by omega)
      omega
theorem sumTo_pick (c : Int) (x : Nat → Int) {n i : Nat} (hi : i < n) : (sumTo n fun j => (if i = j then c else 0) * x j) = c * x i := by
  induction n with
  | zero => omega
  | succ n ih =>
    rw [sumTo]
    by_cases e : i = n
    · subst e
      rw [if_pos rfl]
      have h0 : (sumTo i fun j => (if i = j then c else 0) * x j) = sumTo i fun _ => 0 := sumTo_congr _ fun j hj => by rw [if_neg (by omega), Int.zero_mul]
      have h1 : (sumTo i fun _ => (0 : Int)) = 0 := by
        have h2 := sumTo_nonneg (f := fun _ => (0 : Int)) (n := i) fun _ _ => Int.le_refl _
        have h3 := sumTo_nonpos (f := fun _ => (0 : Int)) (n := i) fun _ _ => Int.le_refl _
        omega
      rw [h0, h1, Int.zero_add]
    · rw [ih (by omega), if_neg e, Int.zero_mul, Int.add_zero]

/-! ### Leading minors -/

def chio (a : Nat → Nat → Int) : Nat → Nat → Int := fun i j => a 0 0 * a (i + 1) (j + 1) - a (i + 1) 0 * a 0 (j + 1)
theorem chio_one (a : Nat → Nat → Int) : detF 1 (chio a) = detF 2 a := by
  simp [detF, sumTo, sgn, lessF, chio]
  grind
theorem chio_two (a : Nat → Nat → Int) : detF 2 (chio a) = a 0 0 * detF 3 a := by
  simp [detF, sumTo, sgn, lessF, chio]
  grind
theorem chio_three (a : Nat → Nat → Int) : detF 3 (chio a) = a 0 0 * (a 0 0 * detF 4 a) := by
  simp [detF, sumTo, sgn, lessF, chio]
  grind
/-- All leading minors are positive, by elimination. -/
def posE : Nat → (Nat → Nat → Int) → Prop
  | 0, _ => True
  | n + 1, a => 0 < a 0 0 ∧ posE n (chio a)
theorem pos_mul_iff {c x : Int} (hc : 0 < c) : 0 < c * x ↔ 0 < x :=
  ⟨fun h => Int.pos_of_mul_pos_right h (by omega), fun h => Int.mul_pos hc h⟩
theorem detF_one (a : Nat → Nat → Int) : detF 1 a = a 0 0 := by simp [detF, sumTo, sgn]
theorem posE_minors : ∀ {n : Nat}, n ≤ 4 → ∀ (a : Nat → Nat → Int), posE n a ↔ ∀ k, k < n → 0 < detF (k + 1) a
  | 0, _, a => ⟨fun _ k hk => by omega, fun _ => trivial⟩
  | n + 1, hn, a => by
    rw [posE, posE_minors (n := n) (by omega) (chio a)]
    have hstep : 0 < a 0 0 → ∀ k, k < n → (0 < detF (k + 1) (chio a) ↔ 0 < detF (k + 2) a) := fun h0 k hk => by
      have h3 : k = 0 ∨ k = 1 ∨ k = 2 := by omega
      rcases h3 with rfl | rfl | rfl
      · rw [chio_one]
      · rw [chio_two, pos_mul_iff h0]
      · rw [chio_three, pos_mul_iff h0, pos_mul_iff h0]
    constructor
    · rintro ⟨h0, h1⟩ k hk
      cases k with
      | zero => rw [detF_one]; exact h0
      | succ k => exact (hstep h0 k (by omega)).1 (h1 k (by omega))
    · intro h
      have h0 : 0 < a 0 0 := by have := h 0 (by omega); rwa [detF_one] at this
      exact ⟨h0, fun k hk => (hstep h0 k hk).2 (h (k + 1) (by omega))⟩

/-! ### Positive vectors -/

def rowX (n : Nat) (a : Nat → Nat → Int) (x : Nat → Int) (i : Nat) : Int := sumTo n fun j => a i j * x j
def vecE (n : Nat) (a : Nat → Nat → Int) : Prop := ∃ x : Nat → Int, (∀ i, i < n → 0 < x i) ∧ ∀ i, i < n → 0 < rowX n a x i
def zE (n : Nat) (a : Nat → Nat → Int) : Prop := ∀ i j, i < n → j < n → i ≠ j → a i j ≤ 0
theorem zE.chio {n : Nat} {a : Nat → Nat → Int} (h : zE (n + 1) a) (h0 : 0 < a 0 0) : zE n (chio a) := by
  intro i j hi hj hij
  unfold Go.Proofs.YtalclebehbdliaaGreat.chio
  have h1 := h (i + 1) (j + 1) (by omega) (by omega) (by omega)
  have h2 := h (i + 1) 0 (by omega) (by omega) (by omega)
  have h3 := h 0 (j + 1) (by omega) (by omega) (by omega)
  have h4 : a 0 0 * a (i + 1) (j + 1) ≤ 0 := Int.mul_nonpos_of_nonneg_of_nonpos (by omega) h1
  have h5 : 0 ≤ a (i + 1) 0 * a 0 (j + 1) := Int.mul_nonneg_of_nonpos_of_nonpos h2 h3
  omega
theorem rowX_chio (n : Nat) (a : Nat → Nat → Int) (y : Nat → Int) (i : Nat) : rowX n (chio a) y i = a 0 0 * (sumTo n fun j => a (i + 1) (j + 1) * y j) - a (i + 1) 0 * sumTo n fun j => a 0 (j + 1) * y j := by
  unfold rowX chio
  have h1 := sumTo_mulc (a 0 0) (fun j => a (i + 1) (j + 1) * y j) n
  have h2 := sumTo_mulc (-a (i + 1) 0) (fun j => a 0 (j + 1) * y j) n
  have h3 := sumTo_addf (fun j => a 0 0 * (a (i + 1) (j + 1) * y j)) (fun j => -a (i + 1) 0 * (a 0 (j + 1) * y j)) n
  rw [h1, h2] at h3
  rw [Int.sub_eq_add_neg, ← Int.neg_mul, ← h3]
  exact sumTo_congr _ fun j _ => by grind
theorem posE_vecE : ∀ {n : Nat} {a : Nat → Nat → Int}, zE n a → (posE n a ↔ vecE n a)
  | 0, a, _ => ⟨fun _ => ⟨fun _ => 1, fun i hi => by omega, fun i hi => by omega⟩, fun _ => trivial⟩
  | n + 1, a, hz => by
    have hcol : ∀ i, i < n → a (i + 1) 0 ≤ 0 := fun i hi => hz (i + 1) 0 (by omega) (by omega) (by omega)
    have hrow : ∀ j, j < n → a 0 (j + 1) ≤ 0 := fun j hj => hz 0 (j + 1) (by omega) (by omega) (by omega)
    constructor
    · rintro ⟨h0, h1⟩
      obtain ⟨y, hy, hb⟩ := (posE_vecE (hz.chio h0)).1 h1
      have hS : (sumTo n fun j => a 0 (j + 1) * y j) ≤ 0 := sumTo_nonpos fun j hj => Int.mul_nonpos_of_nonpos_of_nonneg (hrow j hj) (by have := hy j hj; omega)
      obtain ⟨S, hSS⟩ : ∃ S, (sumTo n fun j => a 0 (j + 1) * y j) = S := ⟨_, rfl⟩
      obtain ⟨K, hK⟩ : ∃ K, 1 + (sumTo n fun i => -1 * a (i + 1) 0) = K := ⟨_, rfl⟩
      have hK1 : ∀ i, i < n → 1 - a (i + 1) 0 ≤ K := fun i hi => by
        have := sumTo_term (f := fun i => -1 * a (i + 1) 0) hi fun j hj => by have := hcol j hj; omega
        rw [← hK]
        omega
      have hK0 : 1 ≤ K := by
        have := sumTo_nonneg (f := fun i => -1 * a (i + 1) 0) (n := n) fun j hj => by have := hcol j hj; omega
        omega
      rw [hSS] at hS
      have hKS : K * S ≤ 0 := Int.mul_nonpos_of_nonneg_of_nonpos (by omega) hS
      have hsum : ∀ i, (sumTo n fun j => a i (j + 1) * (K * a 0 0 * y j)) = K * a 0 0 * sumTo n fun j => a i (j + 1) * y j := fun i => by
        rw [← sumTo_mulc]
        exact sumTo_congr _ fun j _ => by grind
      refine ⟨fun k => match k with | 0 => 1 - K * S | k + 1 => K * a 0 0 * y k, fun i hi => ?_, fun i hi => ?_⟩
      · cases i with
        | zero => show 0 < 1 - K * S; omega
        | succ i => exact Int.mul_pos (Int.mul_pos (by omega) h0) (hy i (by omega))
      · unfold rowX
        rw [sumTo_left]
        show 0 < a i 0 * (1 - K * S) + sumTo n fun j => a i (j + 1) * (K * a 0 0 * y j)
        rw [hsum i]
        cases i with
        | zero =>
          rw [hSS]
          have e : a 0 0 * (1 - K * S) + K * a 0 0 * S = a 0 0 := by grind
          rw [e]; exact h0
        | succ i =>
          have hbi := hb i (by omega)
          rw [rowX_chio, hSS] at hbi
          generalize (sumTo n fun j => a (i + 1) (j + 1) * y j) = T at hbi ⊢
          have e : a (i + 1) 0 * (1 - K * S) + K * a 0 0 * T = a (i + 1) 0 + K * (a 0 0 * T - a (i + 1) 0 * S) := by grind
          rw [e]
          have h2 : K * 1 ≤ K * (a 0 0 * T - a (i + 1) 0 * S) := Int.mul_le_mul_of_nonneg_left (by omega) (by omega)
          have h3 := hK1 i (by omega)
          omega
    · rintro ⟨x, hx, hb⟩
      have hb0 := hb 0 (by omega)
      unfold rowX at hb0
      rw [sumTo_left] at hb0
      have hS : (sumTo n fun j => a 0 (j + 1) * x (j + 1)) ≤ 0 := sumTo_nonpos fun j hj => Int.mul_nonpos_of_nonpos_of_nonneg (hrow j hj) (by have := hx (j + 1) (by omega); omega)
      have hx0 := hx 0 (by omega)
      have h0 : 0 < a 0 0 := Int.pos_of_mul_pos_left (show 0 < a 0 0 * x 0 by omega) (by omega)
      refine ⟨h0, (posE_vecE (hz.chio h0)).2 ⟨fun k => x (k + 1), fun i hi => hx (i + 1) (by omega), fun i hi => ?_⟩⟩
      rw [rowX_chio]
      have hbi := hb (i + 1) (by omega)
      unfold rowX at hbi
      rw [sumTo_left] at hbi
      have hc := hcol i hi
      generalize (sumTo n fun j => a 0 (j + 1) * x (j + 1)) = S at *
      generalize (sumTo n fun j => a (i + 1) (j + 1) * x (j + 1)) = T at *
      have h1 : 0 < a 0 0 * (a (i + 1) 0 * x 0 + T) := Int.mul_pos h0 hbi
      have h2 : a (i + 1) 0 * (a 0 0 * x 0 + S) ≤ 0 := Int.mul_nonpos_of_nonpos_of_nonneg hc (by omega)
      have e : a 0 0 * T - a (i + 1) 0 * S = a 0 0 * (a (i + 1) 0 * x 0 + T) - a (i + 1) 0 * (a 0 0 * x 0 + S) := by grind
      rw [e]; omega
end Go.Proofs.YtalclebehbdliaaGreat
namespace Go.Proofs.YtalclebehbdliaaGreat
open Go Go.RowKit

def lt (j : Nat) : UInt8 := UInt8.ofNat (97 + j)
theorem app_list (w : ByteArray) (j : Nat) : (w ++ letterB j).data.toList = w.data.toList ++ [lt j] := by
  rw [ba_append]; rfl
theorem app_size (w : ByteArray) (j : Nat) : (w ++ letterB j).size = w.size + 1 := by
  rw [ByteArray.size_append, letterB_size]
theorem ch_app {w : ByteArray} {j i : Nat} (h : i < w.size) : ch (w ++ letterB j) i = ch w i := by
  unfold ch
  rw [app_list, List.getD_eq_getElem?_getD, List.getElem?_append_left (by exact h), ← List.getD_eq_getElem?_getD]
theorem ch_end (w : ByteArray) (j : Nat) : ch (w ++ letterB j) w.size = lt j := by
  unfold ch
  rw [app_list, List.getD_eq_getElem?_getD, List.getElem?_append_right (by exact Nat.le_refl _), show w.size - w.data.toList.length = 0 from Nat.sub_self _]; rfl
theorem in_iff {ps : List ByteArray} {k : Nat} (hk : k ≤ 3) {w : ByteArray} (hw : w.data.toList.all (isL (k : Int)) = true) (h2 : 2 ≤ w.size) :
    inM ps (pairsW k ps) w = true ↔ avoids ps w = true ∧ ∀ i, i + 2 ≤ w.size → Lively (k : Int) ps (ch w i) (ch w (i + 1)) := by
  rw [in_same hk hw, Bool.and_eq_true]
  unfold coverB
  rw [if_neg (by omega), if_neg (by omega), List.all_eq_true]
  refine and_congr_right fun _ => ?_
  constructor
  · intro h i hi
    exact (setB_at hk (ch_isL hw (by omega)) (ch_isL hw (by omega))).1 (h i (List.mem_range.2 (by omega)))
  · intro h i hi
    have := List.mem_range.1 hi
    exact (setB_at hk (ch_isL hw (by omega)) (ch_isL hw (by omega))).2 (h i (by omega))
theorem last_three {w : ByteArray} (h2 : 2 ≤ w.size) (j : Nat) : (tri (ch w (w.size - 2)) (ch w (w.size - 1)) (lt j)).data.toList <:+ (w ++ letterB j).data.toList := by
  have h := tri_at (w := w ++ letterB j) (i := w.size - 2) (by rw [app_size]; omega)
  have hl : w.data.toList.length = w.size := rfl
  rw [app_list]
  refine ⟨w.data.toList.take (w.size - 2), ?_⟩
  have e : w.data.toList.drop (w.size - 2) = [ch w (w.size - 2), ch w (w.size - 1)] := by
    rw [List.drop_eq_getElem_cons (by omega), List.drop_eq_getElem_cons (by omega), List.drop_eq_nil_of_le (by omega)]
    unfold ch
    rw [List.getD_eq_getElem?_getD, List.getElem?_eq_getElem (by omega), List.getD_eq_getElem?_getD, List.getElem?_eq_getElem (by omega)]
    simp only [Option.getD_some, show w.size - 2 + 1 = w.size - 1 by omega]
  have e2 : w.data.toList = w.data.toList.take (w.size - 2) ++ [ch w (w.size - 2), ch w (w.size - 1)] := by rw [← e, List.take_append_drop]
  show _ ++ [ch w (w.size - 2), ch w (w.size - 1), lt j] = _
  conv => rhs; rw [e2]
  simp
theorem avoids_next {ps : List ByteArray} (hps : ∀ f ∈ ps, f.size ≤ 3) {w : ByteArray} (h2 : 2 ≤ w.size) (j : Nat) :
    avoids ps (w ++ letterB j) = true ↔ avoids ps w = true ∧ avoids ps (tri (ch w (w.size - 2)) (ch w (w.size - 1)) (lt j)) = true := by
  constructor
  · intro h
    exact ⟨avoids_part (by rw [app_list]; exact (List.prefix_append _ _).isInfix) h, avoids_part (last_three h2 j).isInfix h⟩
  · rintro ⟨h, h3⟩
    unfold avoids at h h3 ⊢
    rw [List.all_eq_true] at h h3 ⊢
    intro f hf
    have k1 := h f hf
    have k3 := h3 f hf
    cases hc : Lib.contains (w ++ letterB j).data.toList f.data.toList with
    | false => rfl
    | true =>
      have hi := contains_iff.1 hc
      rw [app_list] at hi
      rcases List.infix_concat_iff.1 hi with hs | hs
      · rw [← app_list] at hs
        have := List.suffix_of_suffix_length_le hs (last_three h2 j) (hps f hf)
        rw [contains_iff.2 this.isInfix] at k3; cases k3
      · rw [contains_iff.2 hs] at k1; cases k1
theorem app_letters {k : Nat} (hk : k ≤ 3) {w : ByteArray} (hw : w.data.toList.all (isL (k : Int)) = true) {j : Nat} (hj : j < k) : (w ++ letterB j).data.toList.all (isL (k : Int)) = true := by
  rw [app_list, List.all_append, hw]
  simp only [List.all_cons, List.all_nil, Bool.and_true, Bool.true_and]
  exact isL_letter hk hj
/-- A word grows by a letter: what must be asked of the letter. -/
theorem in_next {ps : List ByteArray} {k : Nat} (hk : k ≤ 3) (hps : ∀ f ∈ ps, f.size ≤ 3) {w : ByteArray} (hw : w.data.toList.all (isL (k : Int)) = true) (h2 : 2 ≤ w.size) {j : Nat} (hj : j < k) :
    inM ps (pairsW k ps) (w ++ letterB j) = true ↔ inM ps (pairsW k ps) w = true ∧ avoids ps (tri (ch w (w.size - 2)) (ch w (w.size - 1)) (lt j)) = true ∧ Lively (k : Int) ps (ch w (w.size - 1)) (lt j) := by
  have hs := app_size w j
  rw [in_iff hk (app_letters hk hw hj) (by omega), in_iff hk hw h2, avoids_next hps h2 j]
  constructor
  · rintro ⟨⟨a1, a2⟩, h⟩
    refine ⟨⟨a1, fun i hi => ?_⟩, a2, ?_⟩
    · have := h i (by omega)
      rwa [ch_app (by omega), ch_app (by omega)] at this
    · have := h (w.size - 1) (by omega)
      rwa [ch_app (by omega), show w.size - 1 + 1 = w.size by omega, ch_end] at this
  · rintro ⟨⟨a1, h⟩, a2, h3⟩
    refine ⟨⟨a1, a2⟩, fun i hi => ?_⟩
    by_cases e : i + 2 ≤ w.size
    · rw [ch_app (by omega), ch_app (by omega)]; exact h i e
    · obtain rfl : i = w.size - 1 := by omega
      rw [ch_app (by omega), show w.size - 1 + 1 = w.size by omega, ch_end]; exact h3

/-! ### Counting -/
theorem flat_count {α β : Type} {p : β → Bool} {q : α → Bool} {f : α → List β} : ∀ (l : List α), (∀ x ∈ l, ((f x).filter p).length = if q x then 1 else 0) → ((l.flatMap f).filter p).length = (l.filter q).length
  | [], _ => rfl
  | x :: l, h => by
    rw [List.flatMap_cons, List.filter_append, List.length_append, flat_count l fun y hy => h y (List.mem_cons_of_mem _ hy), h x (List.mem_cons_self ..)]
    cases hq : q x with
    | true => rw [List.filter_cons_of_pos hq]; simp; omega
    | false => rw [List.filter_cons_of_neg (by rw [hq]; simp)]; simp
theorem sumTo_nil : ∀ S : Nat, sumTo S (fun _ => (0 : Int)) = 0
  | 0 => rfl
  | n + 1 => by unfold sumTo; rw [sumTo_nil n]; rfl
/-- A list is counted by the keys of its members, if each has just one. -/
theorem key_count {α : Type} (key : α → Nat → Bool) (S : Nat) : ∀ (l : List α), (∀ x ∈ l, ∃ i, i < S ∧ ∀ i', i' < S → key x i' = decide (i' = i)) → (l.length : Int) = sumTo S fun i => ((l.filter fun x => key x i).length : Int)
  | [], _ => (sumTo_nil S).symm
  | x :: l, h => by
    obtain ⟨i, hi, hk⟩ := h x (List.mem_cons_self ..)
    have ih := key_count key S l fun y hy => h y (List.mem_cons_of_mem _ hy)
    have e : (sumTo S fun i' => (((x :: l).filter fun y => key y i').length : Int)) = sumTo S fun i' => (if i = i' then 1 else 0) * 1 + ((l.filter fun y => key y i').length : Int) := sumTo_congr _ fun i' hi' => by
      by_cases e : i' = i
      · subst e
        rw [List.filter_cons_of_pos (by rw [hk i' hi']; simp), if_pos rfl]; simp; omega
      · rw [List.filter_cons_of_neg (by rw [hk i' hi']; simp [e]), if_neg (fun h => e h.symm)]; simp
    rw [e, sumTo_addf, sumTo_pick 1 (fun _ => 1) hi, ← ih, List.length_cons]; omega

/-! ### The graph -/
def langW (k : Nat) (ps : List ByteArray) (n : Nat) : List ByteArray := (allW k n).filter (inM ps (pairsW k ps))
def statesW (k : Nat) (ps : List ByteArray) : List ByteArray := langW k ps 2
def stW (k : Nat) (ps : List ByteArray) (i : Nat) : ByteArray := (statesW k ps).getD i ByteArray.empty
def goesW (ps : List ByteArray) (p q : ByteArray) : Bool := decide (ch p 1 = ch q 0) && avoids ps (tri (ch p 0) (ch p 1) (ch q 1))
def graphW (k : Nat) (ps : List ByteArray) : List (List Int) := tabOf (statesW k ps).length (statesW k ps).length fun i j => if goesW ps (stW k ps i) (stW k ps j) = true then 1 else 0
def lastW (w : ByteArray) : ByteArray := pr (ch w (w.size - 2)) (ch w (w.size - 1))
def cntW (k : Nat) (ps : List ByteArray) (n j : Nat) : Int := (((langW k ps n).filter fun w => decide (lastW w = stW k ps j)).length : Int)

theorem lt_inj {i j : Nat} (hi : i < 3) (hj : j < 3) (h : lt i = lt j) : i = j := by
  have := congrArg UInt8.toNat h
  unfold lt at this
  rw [UInt8.toNat_ofNat', UInt8.toNat_ofNat'] at this
  omega
theorem app_inj {w w' : ByteArray} {i j : Nat} (hi : i < 3) (hj : j < 3) (h : w ++ letterB i = w' ++ letterB j) : w = w' ∧ i = j := by
  have h1 := congrArg (fun x : ByteArray => x.data.toList) h
  simp only [app_list] at h1
  obtain ⟨h2, h3⟩ := List.append_inj' h1 rfl
  exact ⟨ba_ext h2, lt_inj hi hj (by simpa using h3)⟩
theorem allW_nodup {k : Nat} (hk : k ≤ 3) : ∀ n, (allW k n).Nodup
  | 0 => by show [ByteArray.empty].Nodup; simp
  | n + 1 => by
    show (longer (allW k n) k).Nodup
    unfold longer List.Nodup
    rw [List.pairwise_flatMap]
    refine ⟨fun w _ => ?_, (allW_nodup hk n).imp fun {a b} hab => ?_⟩
    · rw [List.pairwise_map]
      refine List.pairwise_lt_range.imp_of_mem ?_
      intro i j hi hj hij e
      have := List.mem_range.1 hi; have := List.mem_range.1 hj
      have := (app_inj (by omega) (by omega) e).2
      omega
    · intro x hx y hy e
      obtain ⟨i, hi, rfl⟩ := List.mem_map.1 hx
      obtain ⟨j, hj, rfl⟩ := List.mem_map.1 hy
      have := List.mem_range.1 hi; have := List.mem_range.1 hj
      exact hab (app_inj (by omega) (by omega) e).1
theorem mem_langW {k : Nat} (hk : k ≤ 3) {ps : List ByteArray} {n : Nat} {w : ByteArray} : w ∈ langW k ps n ↔ (w.size = n ∧ w.data.toList.all (isL (k : Int)) = true) ∧ inM ps (pairsW k ps) w = true := by
  unfold langW
  rw [List.mem_filter, mem_allW k hk]
theorem mem_states {k : Nat} (hk : k ≤ 3) {ps : List ByteArray} {q : ByteArray} : q ∈ statesW k ps ↔ ∃ a b, q = pr a b ∧ Lively (k : Int) ps a b := by
  unfold statesW
  rw [mem_langW hk]
  constructor
  · rintro ⟨⟨h1, h2⟩, h3⟩
    obtain ⟨a, b, rfl⟩ := is_pr h1
    exact ⟨a, b, rfl, ((in_iff hk h2 (Nat.le_refl _)).1 h3).2 0 (Nat.le_refl _)⟩
  · rintro ⟨a, b, rfl, h⟩
    obtain ⟨h1, h2, ⟨c, _, h4, _⟩, _⟩ := Lively.closed _ _ a b h
    have hw : (pr a b).data.toList.all (isL (k : Int)) = true := by
      show ([a, b].all (isL (k : Int))) = true
      simp [h1, h2]
    refine ⟨⟨rfl, hw⟩, (in_iff hk hw (Nat.le_refl _)).2 ⟨avoids_part ⟨[], [c], rfl⟩ h4, fun i hi => ?_⟩⟩
    obtain rfl : i = 0 := by have : i + 2 ≤ 2 := hi; omega
    exact h
theorem states_nodup {k : Nat} (hk : k ≤ 3) (ps : List ByteArray) : (statesW k ps).Nodup := (allW_nodup hk 2).filter _
theorem st_mem {k : Nat} {ps : List ByteArray} {i : Nat} (h : i < (statesW k ps).length) : stW k ps i ∈ statesW k ps := getD_mem h
theorem nodup_at {α : Type} {l : List α} (h : l.Nodup) {i j : Nat} (hi : i < l.length) (hj : j < l.length) (e : l[i] = l[j]) : i = j := by
  have hp := List.pairwise_iff_getElem.1 h
  rcases Nat.lt_trichotomy i j with h1 | h1 | h1
  · exact absurd e (hp i j hi hj h1)
  · exact h1
  · exact absurd e.symm (hp j i hj hi h1)
theorem st_at {k : Nat} (hk : k ≤ 3) {ps : List ByteArray} {q : ByteArray} (h : q ∈ statesW k ps) : ∃ i, i < (statesW k ps).length ∧ ∀ i', i' < (statesW k ps).length → decide (q = stW k ps i') = decide (i' = i) := by
  obtain ⟨i, hi, rfl⟩ := List.getElem_of_mem h
  refine ⟨i, hi, fun i' hi' => decide_eq_decide.2 ?_⟩
  unfold stW
  rw [List.getD_eq_getElem?_getD, List.getElem?_eq_getElem hi', Option.getD_some]
  exact ⟨fun e => (nodup_at (states_nodup hk ps) hi hi' e).symm, fun e => by subst e; rfl⟩
theorem last_state {k : Nat} (hk : k ≤ 3) {ps : List ByteArray} {n : Nat} (hn : 2 ≤ n) {w : ByteArray} (h : w ∈ langW k ps n) : lastW w ∈ statesW k ps := by
  obtain ⟨⟨rfl, h2⟩, h3⟩ := (mem_langW hk).1 h
  refine (mem_states hk).2 ⟨_, _, rfl, ?_⟩
  have := ((in_iff hk h2 hn).1 h3).2 (w.size - 2) (by omega)
  rwa [show w.size - 2 + 1 = w.size - 1 by omega] at this
theorem one_in {k b : Nat} (hb : b < k) (q : Bool) : ((List.range k).filter fun j => q && decide (j = b)).length = if q then 1 else 0 := by
  cases q with
  | false => simp
  | true =>
    simp only [Bool.true_and, if_true]
    have h := List.count_eq_length_filter (a := b) (l := List.range k)
    have e : ((List.range k).filter fun j => decide (j = b)) = (List.range k).filter (· == b) := List.filter_congr fun j _ => Bool.eq_iff_iff.2 (by simp)
    rw [e, ← h]
    have hn := List.nodup_range (n := k)
    have h1 := List.nodup_iff_count.1 hn b
    have h2 := List.count_pos_iff.2 (List.mem_range.2 hb)
    omega
/-- The words of one letter more, by their last two letters: as the graph goes. -/
theorem cnt_next {k : Nat} (hk : k ≤ 3) {ps : List ByteArray} (hps : ∀ f ∈ ps, f.size ≤ 3) {n j : Nat} (hn : 2 ≤ n) (hj : j < (statesW k ps).length) :
    cntW k ps (n + 1) j = sumTo (statesW k ps).length fun i => cntW k ps n i * cellOf (graphW k ps) i j := by
  obtain ⟨a, b, hq, hab⟩ := (mem_states hk).1 (st_mem hj)
  obtain ⟨_, hlb, _⟩ := Lively.closed _ _ a b hab
  obtain ⟨jb, hjb, hbj⟩ := isL_is hlb
  have hbl : b = lt jb := hbj
  let go : ByteArray → Bool := fun w => decide (ch w (w.size - 1) = a) && avoids ps (tri (ch w (w.size - 2)) (ch w (w.size - 1)) b)
  have e1 : ((langW k ps (n + 1)).filter fun w => decide (lastW w = stW k ps j)).length = ((langW k ps n).filter go).length := by
    unfold langW
    rw [List.filter_filter, List.filter_filter]
    show ((longer (allW k n) k).filter _).length = _
    unfold longer
    refine flat_count _ fun w hw => ?_
    obtain ⟨hs, hwl⟩ := (mem_allW k hk n w).1 hw
    rw [List.filter_map, List.length_map, ← one_in hjb]
    congr 1
    refine List.filter_congr fun j' hj' => ?_
    have hj2 := List.mem_range.1 hj'
    show (decide (lastW (w ++ letterB j') = stW k ps j) && inM ps (pairsW k ps) (w ++ letterB j')) = _
    have hlast : lastW (w ++ letterB j') = pr (ch w (w.size - 1)) (lt j') := by
      unfold lastW
      rw [app_size, show w.size + 1 - 2 = w.size - 1 by omega, Nat.add_sub_cancel, ch_app (by omega), ch_end]
    rw [hlast, hq, Bool.eq_iff_iff, Bool.and_eq_true, Bool.and_eq_true, decide_eq_true_iff, decide_eq_true_iff, Bool.and_eq_true, in_next hk hps hwl (by omega) hj2]
    show _ ↔ ((decide (ch w (w.size - 1) = a) && avoids ps (tri (ch w (w.size - 2)) (ch w (w.size - 1)) b)) = true ∧ _) ∧ _
    rw [Bool.and_eq_true, decide_eq_true_iff]
    constructor
    · rintro ⟨h1, h2, h3, h4⟩
      obtain ⟨h5, h6⟩ := pr_inj h1
      have h7 := lt_inj (by omega) (by omega) (h6.trans hbl)
      subst h7
      rw [← hbl] at h3
      exact ⟨⟨⟨h5, h3⟩, h2⟩, rfl⟩
    · rintro ⟨⟨⟨h5, h3⟩, h2⟩, rfl⟩
      rw [← hbl, h5]
      rw [h5] at h3
      exact ⟨rfl, h2, h3, hab⟩
  have e2 := key_count (fun w i => decide (lastW w = stW k ps i)) (statesW k ps).length ((langW k ps n).filter go) fun w hw => st_at hk (last_state hk hn (List.mem_filter.1 hw).1)
  show (((langW k ps (n + 1)).filter fun w => decide (lastW w = stW k ps j)).length : Int) = _
  rw [e1, e2]
  refine sumTo_congr _ fun i hi => ?_
  have hc : cellOf (graphW k ps) i j = if goesW ps (stW k ps i) (stW k ps j) = true then 1 else 0 := by unfold graphW; rw [tabOf_cell hi hj]
  rw [hc, List.filter_filter]
  have hgo : ∀ w ∈ langW k ps n, lastW w = stW k ps i → go w = goesW ps (stW k ps i) (stW k ps j) := fun w _ he => by
    rw [← he, hq]
    rfl
  unfold cntW
  by_cases hg : goesW ps (stW k ps i) (stW k ps j) = true
  · rw [if_pos hg, Int.mul_one]
    congr 2
    refine List.filter_congr fun w hw => ?_
    by_cases he : lastW w = stW k ps i
    · rw [decide_eq_true he, hgo w hw he, hg]; rfl
    · rw [decide_eq_false he]; rfl
  · rw [if_neg hg, Int.mul_zero]
    have : ((langW k ps n).filter fun w => decide (lastW w = stW k ps i) && go w) = [] := List.filter_eq_nil_iff.2 fun w hw h => by
      rw [Bool.and_eq_true, decide_eq_true_iff] at h
      rw [hgo w hw h.1] at h
      exact hg h.2
    rw [this]; rfl
end Go.Proofs.YtalclebehbdliaaGreat
namespace Go.Proofs.YtalclebehbdliaaGreat
open Go Go.RowKit

/-- The word is in the language, in words. -/
structure InL (k : Nat) (ps : List ByteArray) (w : ByteArray) : Prop where
  av : avoids ps w = true
  ex : ∃ a b, Lively (k : Int) ps a b
  two : ∀ i, i + 2 ≤ w.size → Lively (k : Int) ps (ch w i) (ch w (i + 1))
  one : ∀ i, i < w.size → ∃ c, Lively (k : Int) ps (ch w i) c
theorem lively_right {k : Nat} {ps : List ByteArray} {a b : UInt8} (h : Lively (k : Int) ps a b) : ∃ c, Lively (k : Int) ps b c := by
  obtain ⟨_, _, ⟨c, _, _, h⟩, _⟩ := Lively.closed _ _ a b h
  exact ⟨c, h⟩
theorem one_list {w : ByteArray} (h : w.size = 1) : w.data.toList = [ch w 0] := by
  have hl : w.data.toList.length = w.size := rfl
  match e : w.data.toList with
  | [] => rw [e] at hl; simp at hl; omega
  | [a] => unfold ch; rw [e]; rfl
  | a :: b :: r => rw [e] at hl; simp at hl; omega
theorem inM_iff {k : Nat} (hk : k ≤ 3) {ps : List ByteArray} {w : ByteArray} (hw : w.data.toList.all (isL (k : Int)) = true) : inM ps (pairsW k ps) w = true ↔ InL k ps w := by
  by_cases h2 : 2 ≤ w.size
  · rw [in_iff hk hw h2]
    constructor
    · rintro ⟨h, ht⟩
      refine ⟨h, ⟨_, _, ht 0 (by omega)⟩, ht, fun i hi => ?_⟩
      by_cases e : i + 2 ≤ w.size
      · exact ⟨_, ht i e⟩
      · have := ht (i - 1) (by omega)
        rw [show i - 1 + 1 = i by omega] at this
        exact lively_right this
    · intro h; exact ⟨h.av, h.two⟩
  · have hinM : inM ps (pairsW k ps) w = ((!decide ((pairsW k ps).length = 0) && avoids ps w) && (pairsW k ps).any fun q => Lib.contains q.data.toList w.data.toList) := by unfold inM; rw [if_neg h2]
    rw [hinM, Bool.and_eq_true, Bool.and_eq_true, Bool.not_eq_true', decide_eq_false_iff_not, List.any_eq_true]
    constructor
    · rintro ⟨⟨hn, ha⟩, q, hq, hc⟩
      obtain ⟨a, b, rfl, _, _⟩ := mem_pairsW' hk hq
      have hab := (mem_pairsW hk a b).1 hq
      refine ⟨ha, ⟨a, b, hab⟩, fun i hi => by omega, fun i hi => ?_⟩
      obtain rfl : i = 0 := by omega
      have h3 := contains_iff.1 hc
      rw [one_list (by omega)] at h3
      have hm : ch w 0 ∈ [a, b] := h3.subset (List.mem_singleton.2 rfl)
      simp at hm
      rcases hm with e | e
      · exact ⟨b, by rw [e]; exact hab⟩
      · rw [e]; exact lively_right hab
    · intro h
      obtain ⟨a, b, hab⟩ := h.ex
      have hm := (mem_pairsW hk a b).2 hab
      refine ⟨⟨fun e => ?_, h.av⟩, ?_⟩
      · rw [List.eq_nil_of_length_eq_zero e] at hm; cases hm
      · by_cases h0 : w.size = 0
        · refine ⟨_, hm, contains_iff.2 ?_⟩
          have : w.data.toList = [] := List.eq_nil_of_length_eq_zero h0
          rw [this]; exact List.nil_infix
        · obtain ⟨c, hc⟩ := h.one 0 (by omega)
          refine ⟨_, (mem_pairsW hk _ c).2 hc, contains_iff.2 ?_⟩
          rw [one_list (by omega)]
          exact ⟨[], [c], rfl⟩
theorem ch_mid {u w : ByteArray} {x y : List UInt8} (h : x ++ u.data.toList ++ y = w.data.toList) {i : Nat} (hi : i < u.size) : ch u i = ch w (x.length + i) := by
  have hl : u.data.toList.length = u.size := rfl
  unfold ch
  rw [← h, List.getD_eq_getElem?_getD, List.getD_eq_getElem?_getD, List.getElem?_append_left (by rw [List.length_append]; omega), List.getElem?_append_right (by omega), Nat.add_sub_cancel_left]
/-- A part of a word of the language is one. -/
theorem InL.part {k : Nat} {ps : List ByteArray} {u w : ByteArray} (h : InL k ps w) (hp : u.data.toList <:+: w.data.toList) : InL k ps u := by
  have ha := avoids_part hp h.av
  obtain ⟨x, y, e⟩ := hp
  have hl : u.data.toList.length = u.size := rfl
  have hl2 : w.data.toList.length = w.size := rfl
  have hs : x.length + u.size + y.length = w.size := by rw [← hl2, ← e, List.length_append, List.length_append, hl]
  refine ⟨ha, h.ex, fun i hi => ?_, fun i hi => ?_⟩
  · rw [ch_mid e (by omega), ch_mid e (by omega), ← Nat.add_assoc]
    exact h.two _ (by omega)
  · rw [ch_mid e hi]
    exact h.one _ (by omega)
theorem infix_letters {k : Int} {u w : ByteArray} (hw : w.data.toList.all (isL k) = true) (hp : u.data.toList <:+: w.data.toList) : u.data.toList.all (isL k) = true := by
  rw [List.all_eq_true] at hw ⊢
  exact fun b hb => hw b (hp.subset hb)

/-! ### The least words that are not in the language -/
/-- F holds the words of one to three letters that are not in the language, all whose parts are. -/
def LeastOut (k : Nat) (ps F : List ByteArray) : Prop := ∀ f, f ∈ F ↔ (1 ≤ f.size ∧ f.size ≤ 3) ∧ f.data.toList.all (isL (k : Int)) = true ∧ ¬ InL k ps f ∧ InL k ps (f.extract 1 f.size) ∧ InL k ps (f.extract 0 (f.size - 1))
theorem avoids_iff {ps : List ByteArray} {w : ByteArray} : avoids ps w = true ↔ ∀ f ∈ ps, ¬ f.data.toList <:+: w.data.toList := by
  unfold avoids
  rw [List.all_eq_true]
  refine forall_congr' fun f => imp_congr_right fun _ => ?_
  rw [Bool.not_eq_true', ← Bool.not_eq_true, contains_iff]
theorem empty_in {k : Nat} {ps : List ByteArray} (hex : ∃ a b, Lively (k : Int) ps a b) {w : ByteArray} (h0 : w.size = 0) : InL k ps w := by
  obtain ⟨a, b, hab⟩ := hex
  obtain ⟨_, _, ⟨c, _, hc, _⟩, _⟩ := Lively.closed _ _ a b hab
  refine ⟨avoids_part ?_ hc, ⟨a, b, hab⟩, fun i hi => by omega, fun i hi => by omega⟩
  rw [show w.data.toList = [] from List.eq_nil_of_length_eq_zero h0]; exact List.nil_infix
theorem front_part (w : ByteArray) : (w.extract 0 (w.size - 1)).data.toList <:+: w.data.toList := by
  rw [ba_extract, List.drop_zero]; exact (List.take_prefix _ _).isInfix
theorem back_part (w : ByteArray) : (w.extract 1 w.size).data.toList <:+: w.data.toList := by
  rw [ba_extract]; exact (List.take_prefix _ _).isInfix.trans (List.drop_suffix _ _).isInfix
theorem avoids_least {k : Nat} {ps F : List ByteArray} (hF : LeastOut k ps F) (hex : ∃ a b, Lively (k : Int) ps a b) : ∀ (n : Nat) (w : ByteArray), w.size = n → n ≤ 3 → w.data.toList.all (isL (k : Int)) = true → (avoids F w = true ↔ InL k ps w)
  | 0, w, h0, _, _ => by
    refine ⟨fun _ => empty_in hex h0, fun _ => avoids_iff.2 fun f hf hp => ?_⟩
    have h1 := ((hF f).1 hf).1
    have h2 := hp.length_le
    have h3 : f.data.toList.length = f.size := rfl
    have h4 : w.data.toList.length = w.size := rfl
    omega
  | n + 1, w, hn, h3, hw => by
    constructor
    · intro ha
      refine Classical.byContradiction fun hi => ?_
      have e1 : (w.extract 1 w.size).size = n := by rw [ByteArray.size_extract]; omega
      have e2 : (w.extract 0 (w.size - 1)).size = n := by rw [ByteArray.size_extract]; omega
      have k1 := (avoids_least hF hex n _ e1 (by omega) (infix_letters hw (back_part w))).1 (avoids_part (back_part w) ha)
      have k2 := (avoids_least hF hex n _ e2 (by omega) (infix_letters hw (front_part w))).1 (avoids_part (front_part w) ha)
      have hm := (hF w).2 ⟨by omega, hw, hi, k1, k2⟩
      exact avoids_iff.1 ha w hm (List.infix_refl _)
    · intro h
      refine avoids_iff.2 fun f hf hp => ?_
      exact ((hF f).1 hf).2.2.1 (h.part hp)
theorem tri_letters {k : Nat} {a b c : UInt8} (ha : isL (k : Int) a = true) (hb : isL (k : Int) b = true) (hc : isL (k : Int) c = true) : (tri a b c).data.toList.all (isL (k : Int)) = true := by
  show ([a, b, c].all (isL (k : Int))) = true
  simp [ha, hb, hc]
theorem tri_in {k : Nat} {ps : List ByteArray} {a b c : UInt8} (h : avoids ps (tri a b c) = true) (h1 : Lively (k : Int) ps a b) (h2 : Lively (k : Int) ps b c) : InL k ps (tri a b c) := by
  have hs : (tri a b c).size = 3 := rfl
  refine ⟨h, ⟨_, _, h1⟩, fun i hi => ?_, fun i hi => ?_⟩
  · have : i = 0 ∨ i = 1 := by omega
    rcases this with rfl | rfl
    · exact h1
    · exact h2
  · have : i = 0 ∨ i = 1 ∨ i = 2 := by omega
    rcases this with rfl | rfl | rfl
    · exact ⟨_, h1⟩
    · exact ⟨_, h2⟩
    · exact lively_right h2
theorem lively_same {k : Nat} {ps F : List ByteArray} (hF : LeastOut k ps F) (hex : ∃ a b, Lively (k : Int) ps a b) (a b : UInt8) : Lively (k : Int) F a b ↔ Lively (k : Int) ps a b := by
  constructor
  · intro h
    refine ⟨Lively (k : Int) F, ?_, h⟩
    intro x y hxy
    obtain ⟨h1, h2, ⟨c, h3, h4, h5⟩, d, h6, h7, h8⟩ := Lively.closed _ _ x y hxy
    exact ⟨h1, h2, ⟨c, h3, ((avoids_least hF hex 3 _ rfl (Nat.le_refl _) (tri_letters h1 h2 h3)).1 h4).av, h5⟩, d, h6, ((avoids_least hF hex 3 _ rfl (Nat.le_refl _) (tri_letters h6 h1 h2)).1 h7).av, h8⟩
  · intro h
    refine ⟨Lively (k : Int) ps, ?_, h⟩
    intro x y hxy
    obtain ⟨h1, h2, ⟨c, h3, h4, h5⟩, d, h6, h7, h8⟩ := Lively.closed _ _ x y hxy
    exact ⟨h1, h2, ⟨c, h3, (avoids_least hF hex 3 _ rfl (Nat.le_refl _) (tri_letters h1 h2 h3)).2 (tri_in h4 hxy h5), h5⟩, d, h6, (avoids_least hF hex 3 _ rfl (Nat.le_refl _) (tri_letters h6 h1 h2)).2 (tri_in h7 h8 hxy), h8⟩
theorem lang_least {k : Nat} (hk : k ≤ 3) {ps F : List ByteArray} (hF : LeastOut k ps F) (hex : ∃ a b, Lively (k : Int) ps a b) {n : Nat} (hn : n ≤ 3) : langW k F n = langW k ps n := by
  unfold langW
  refine List.filter_congr fun w hw => ?_
  obtain ⟨h1, h2⟩ := (mem_allW k hk n w).1 hw
  rw [Bool.eq_iff_iff, inM_iff hk h2, inM_iff hk h2]
  have ha := avoids_least hF hex n w h1 hn h2
  have hL := lively_same hF hex
  constructor
  · intro h; exact ha.1 h.av
  · intro h
    obtain ⟨a, b, hab⟩ := hex
    exact ⟨ha.2 h, ⟨a, b, (hL a b).2 hab⟩, fun i hi => (hL _ _).2 (h.two i hi), fun i hi => by obtain ⟨c, hc⟩ := h.one i hi; exact ⟨c, (hL _ _).2 hc⟩⟩

/-! ### More forbidden words -/
theorem avoids_more {ps X : List ByteArray} (h : ∀ f ∈ ps, f ∈ X) {w : ByteArray} (ha : avoids X w = true) : avoids ps w = true := avoids_iff.2 fun f hf => avoids_iff.1 ha f (h f hf)
theorem lively_more {L : Int} {ps X : List ByteArray} (h : ∀ f ∈ ps, f ∈ X) {a b : UInt8} (hl : Lively L X a b) : Lively L ps a b := by
  refine ⟨Lively L X, ?_, hl⟩
  intro x y hxy
  obtain ⟨h1, h2, ⟨c, h3, h4, h5⟩, d, h6, h7, h8⟩ := Lively.closed _ _ x y hxy
  exact ⟨h1, h2, ⟨c, h3, avoids_more h h4, h5⟩, d, h6, avoids_more h h7, h8⟩
theorem InL.more {k : Nat} {ps X : List ByteArray} (h : ∀ f ∈ ps, f ∈ X) {w : ByteArray} (hw : InL k X w) : InL k ps w := by
  obtain ⟨a, b, hab⟩ := hw.ex
  exact ⟨avoids_more h hw.av, ⟨a, b, lively_more h hab⟩, fun i hi => lively_more h (hw.two i hi), fun i hi => by obtain ⟨c, hc⟩ := hw.one i hi; exact ⟨c, lively_more h hc⟩⟩
end Go.Proofs.YtalclebehbdliaaGreat
namespace Go.Proofs.YtalclebehbdliaaGreat
open Go Go.RowKit

theorem mem_putW (x z : ByteArray) : ∀ ps : List ByteArray, z ∈ putW x ps ↔ z = x ∨ z ∈ ps
  | [] => by simp [putW]
  | y :: l => by
    unfold putW
    split
    · rw [List.mem_cons, mem_putW x z l, List.mem_cons]
      constructor
      · rintro (h | h | h)
        · exact .inr (.inl h)
        · exact .inl h
        · exact .inr (.inr h)
      · rintro (h | h | h)
        · exact .inr (.inl h)
        · exact .inl h
        · exact .inr (.inr h)
    · split
      · next e =>
        subst e
        exact ⟨.inr, fun h => h.elim (fun e => e ▸ List.mem_cons_self ..) id⟩
      · exact List.mem_cons
def putAll (ws l : List ByteArray) : List ByteArray := ws.foldl (fun l w => putW w l) l
theorem mem_putAll (z : ByteArray) : ∀ (ws l : List ByteArray), z ∈ putAll ws l ↔ z ∈ ws ∨ z ∈ l
  | [], l => by simp [putAll]
  | w :: ws, l => by
    show z ∈ putAll ws (putW w l) ↔ _
    rw [mem_putAll z ws, mem_putW, List.mem_cons]
    constructor
    · rintro (h | h | h)
      · exact .inl (.inr h)
      · exact .inl (.inl h)
      · exact .inr h
    · rintro ((h | h) | h)
      · exact .inr (.inl h)
      · exact .inl h
      · exact .inr (.inr h)
theorem asc_putAll : ∀ (ws : List ByteArray) {l : List ByteArray}, Asc l → Asc (putAll ws l)
  | [], _, h => h
  | _ :: ws, _, h => asc_putAll ws h.put
theorem putAll_app (a b l : List ByteArray) : putAll (a ++ b) l = putAll b (putAll a l) := List.foldl_append
/-- Ascending words of one to three letters, not more than eight, are a shift's. -/
theorem shift_of {L : Int} (h1 : 1 ≤ L) (h3 : L ≤ 3) {l : List ByteArray} (ha : Asc l) (hw : ∀ f ∈ l, isW L f = true ∧ 1 ≤ f.size ∧ f.size ≤ 3) : isShift L l = decide (l.length ≤ 8) := by
  rw [isShift_end fun k hk => ?_, decide_eq_true h1, decide_eq_true h3]
  · rfl
  · obtain ⟨q1, q2, q3⟩ := hw _ (getD_mem hk)
    unfold okAt
    rw [q1, decide_eq_true q2, decide_eq_true q3]
    simp only [Bool.and_self, Bool.true_and, Bool.or_eq_true, decide_eq_true_eq]
    by_cases h0 : k = 0
    · exact .inl h0
    · right
      have hp := List.pairwise_iff_getElem.1 ha (k - 1) k (by omega) hk (by omega)
      rw [List.getD_eq_getElem?_getD, List.getElem?_eq_getElem (by omega), List.getD_eq_getElem?_getD, List.getElem?_eq_getElem hk]
      exact hp
theorem shift_okAt {L : Int} {ps : List ByteArray} (h : isShift L ps = true) {k : Nat} (hk : k < ps.length) : okAt L ps k = true := by
  unfold isShift at h
  rw [Bool.and_eq_true, List.all_eq_true] at h
  exact h.1 k (List.mem_range.2 hk)
theorem shift_words {L : Int} {ps : List ByteArray} (h : isShift L ps = true) : ∀ f ∈ ps, isW L f = true ∧ 1 ≤ f.size ∧ f.size ≤ 3 := by
  intro f hf
  obtain ⟨k, hk, rfl⟩ := List.getElem_of_mem hf
  have h1 := shift_okAt h hk
  unfold okAt at h1
  rw [List.getD_eq_getElem?_getD, List.getElem?_eq_getElem hk, Option.getD_some] at h1
  simp only [Bool.and_eq_true, decide_eq_true_eq] at h1
  exact ⟨h1.1.1, h1.1.2.1, h1.1.2.2⟩
theorem shift_asc {L : Int} {ps : List ByteArray} (h : isShift L ps = true) : Asc ps := by
  have step : ∀ k, k + 1 < ps.length → (ps.getD k ByteArray.empty).data.toList < (ps.getD (k + 1) ByteArray.empty).data.toList := fun k hk => by
    have h1 := shift_okAt h hk
    unfold okAt at h1
    simp only [Bool.and_eq_true, Bool.or_eq_true, decide_eq_true_eq, Nat.add_sub_cancel] at h1
    rcases h1.2 with e | e
    · omega
    · exact e
  have far : ∀ d i, i + d + 1 < ps.length → (ps.getD i ByteArray.empty).data.toList < (ps.getD (i + d + 1) ByteArray.empty).data.toList := by
    intro d
    induction d with
    | zero => intro i hi; exact step i (by omega)
    | succ d ih =>
      intro i hi
      exact List.lt_trans (ih i (by omega)) (step (i + d + 1) (by omega))
  refine List.pairwise_iff_getElem.2 fun i j hi hj hij => ?_
  have := far (j - i - 1) i (by omega)
  rw [show i + (j - i - 1) + 1 = j by omega, List.getD_eq_getElem?_getD, List.getElem?_eq_getElem hi, List.getD_eq_getElem?_getD, List.getElem?_eq_getElem hj] at this
  exact this

/-! ### The least words that are not in the language -/
def outB (k : Nat) (ps : List ByteArray) (w : ByteArray) : Bool := (!inM ps (pairsW k ps) w && inM ps (pairsW k ps) (w.extract 1 w.size)) && inM ps (pairsW k ps) (w.extract 0 (w.size - 1))
def leastW (k : Nat) (ps : List ByteArray) : List ByteArray := putAll (((allW k 1 ++ allW k 2) ++ allW k 3).filter (outB k ps)) []
theorem outB_iff {k : Nat} (hk : k ≤ 3) {ps : List ByteArray} {w : ByteArray} (hw : w.data.toList.all (isL (k : Int)) = true) : outB k ps w = true ↔ ¬ InL k ps w ∧ InL k ps (w.extract 1 w.size) ∧ InL k ps (w.extract 0 (w.size - 1)) := by
  unfold outB
  rw [Bool.and_eq_true, Bool.and_eq_true, Bool.not_eq_true', ← Bool.not_eq_true, inM_iff hk hw, inM_iff hk (infix_letters hw (back_part w)), inM_iff hk (infix_letters hw (front_part w)), and_assoc]
theorem leastW_out {k : Nat} (hk : k ≤ 3) (ps : List ByteArray) : LeastOut k ps (leastW k ps) := by
  intro f
  unfold leastW
  rw [mem_putAll, List.mem_filter, List.mem_append, List.mem_append, mem_allW k hk, mem_allW k hk, mem_allW k hk]
  constructor
  · rintro (⟨h, ho⟩ | h)
    · have hl : f.data.toList.all (isL (k : Int)) = true := by
        rcases h with (h | h) | h <;> exact h.2
      have hs : 1 ≤ f.size ∧ f.size ≤ 3 := by
        rcases h with (h | h) | h <;> (have := h.1; omega)
      exact ⟨hs, hl, (outB_iff hk hl).1 ho⟩
    · cases h
  · rintro ⟨⟨s1, s3⟩, hl, ho⟩
    refine .inl ⟨?_, (outB_iff hk hl).2 ho⟩
    have : f.size = 1 ∨ f.size = 2 ∨ f.size = 3 := by omega
    rcases this with e | e | e
    · exact .inl (.inl ⟨e, hl⟩)
    · exact .inl (.inr ⟨e, hl⟩)
    · exact .inr ⟨e, hl⟩
theorem leastW_shift {k : Nat} (h1 : 1 ≤ k) (hk : k ≤ 3) (ps : List ByteArray) : isShift (k : Int) (leastW k ps) = decide ((leastW k ps).length ≤ 8) := by
  refine shift_of (by omega) (by omega) (asc_putAll _ (by simp [Asc])) fun f hf => ?_
  obtain ⟨hs, hl, _⟩ := (leastW_out hk ps f).1 hf
  refine ⟨?_, hs⟩
  unfold isW
  simp only [Bool.and_eq_true, decide_eq_true_eq]
  exact ⟨⟨⟨by omega, by omega⟩, by omega⟩, hl⟩
/-- The forbidden words of two shifts, put in order. -/
theorem meet_shift {L : Int} {ps qs : List ByteArray} (h : isShift L ps = true) (h' : isShift L qs = true) : isShift L (putAll qs ps) = decide ((putAll qs ps).length ≤ 8) := by
  obtain ⟨l1, l3, _⟩ := isShift_letters h
  refine shift_of l1 l3 (asc_putAll _ (shift_asc h)) fun f hf => ?_
  rcases (mem_putAll f qs ps).1 hf with e | e
  · exact shift_words h' f e
  · exact shift_words h f e
end Go.Proofs.YtalclebehbdliaaGreat
