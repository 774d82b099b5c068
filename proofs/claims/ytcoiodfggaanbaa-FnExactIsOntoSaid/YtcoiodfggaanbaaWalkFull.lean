/-
  PLAIN FACTS ON WALKS, continued (no program in this text): where all pairs are joined and the closed walks have no common divisor, all pairs are joined by walks of one length, which is bounded.
-/
import Derived.Test.YtcoiodfggaanbaaWalkNum
namespace Go.Proofs.Ytcoiodfggaanbaa
variable {N : Nat} {E : Nat → Nat → Prop}

/-- Steps of s steps. -/
def Jump (E : Nat → Nat → Prop) (s : Nat) : Nat → Nat → Prop := fun i j => Wk E s i j
theorem Wk.jumps {s i : Nat} : ∀ {t j : Nat}, Wk E (t * s) i j → Wk (Jump E s) t i j
  | 0, j, h => by rw [Nat.zero_mul] at h; exact h
  | t + 1, j, h => by
    rw [Nat.add_mul, Nat.one_mul] at h
    obtain ⟨k, h1, h2⟩ := Wk.split h
    exact ⟨k, h1.jumps, h2⟩
theorem Wk.unjump {s i : Nat} : ∀ {t j : Nat}, Wk (Jump E s) t i j → Wk E (t * s) i j
  | 0, j, h => by rw [Nat.zero_mul]; exact h
  | t + 1, j, ⟨k, h1, h2⟩ => by
    rw [Nat.add_mul, Nat.one_mul]
    exact h1.unjump.add h2
theorem Jump.onN (hE : OnN N E) {s : Nat} (hs : 0 < s) : OnN N (Jump E s) := fun i j h => by
  unfold Jump at h
  rw [show s = (s - 1) + 1 by omega] at h
  exact Wk.ends hE h
/-- The least length of a closed walk. -/
structure Girth (E : Nat → Nat → Prop) (s c : Nat) : Prop where
  pos : 0 < s
  walk : Wk E s c c
  least : ∀ n i, 0 < n → Wk E n i i → s ≤ n
theorem girth_of (h : ∃ n i, 0 < n ∧ Wk E n i i) : ∃ s c, Girth E s c := by
  obtain ⟨s, ⟨i, hs, hw⟩, hmin⟩ := least_nat (P := fun n => ∃ i, 0 < n ∧ Wk E n i i) h
  exact ⟨s, i, hs, hw, fun n j hn hj => by
    by_cases h : n < s
    · exact absurd ⟨j, hn, hj⟩ (hmin n h)
    · omega⟩
/-- A place on a shortest closed walk leads to another such. -/
theorem on_next {s c : Nat} (hs : 0 < s) (h : Wk E s c c) : ∃ d, Wk E 1 c d ∧ Wk E s d d := by
  have h1 := h
  rw [show s = 1 + (s - 1) by omega] at h1
  obtain ⟨d, h2, h3⟩ := Wk.split h1
  refine ⟨d, h2, ?_⟩
  have := h3.add h2
  rw [show s - 1 + 1 = s by omega] at this
  exact this
theorem on_steps {s : Nat} (hs : 0 < s) : ∀ (n : Nat) {c : Nat}, Wk E s c c → ∃ d, Wk E n c d ∧ Wk E s d d
  | 0, c, h => ⟨c, rfl, h⟩
  | n + 1, c, h => by
    obtain ⟨d, h1, h2⟩ := on_steps hs n h
    obtain ⟨x, h3, h4⟩ := on_next hs h2
    exact ⟨x, h1.add h3, h4⟩
/-- A shortest closed walk is met soon. -/
theorem Girth.near (hE : OnN N E) (hJ : Joined N E) {s c : Nat} (hG : Girth E s c) {i : Nat} (hi : i < N) : s ≤ N ∧ ∃ d, Wk E (N - s) i d ∧ Wk E s d d := by
  have hs := hG.pos
  have hc : c < N := by
    have h := hG.walk
    rw [show s = (s - 1) + 1 by omega] at h
    exact (Wk.ends hE h).1
  obtain ⟨d, ⟨x, hx, hxs⟩, hmin⟩ := least_nat (P := fun d => ∃ x, Wk E d i x ∧ Wk E s x x) (by
    obtain ⟨n, hn⟩ := hJ.walk hi hc
    exact ⟨n, c, hn, hG.walk⟩)
  obtain ⟨p, p0, pn, hp⟩ := hx.path
  obtain ⟨q, q0, qn, hq⟩ := hG.walk.path
  have hqs : ∀ t, t < s → Wk E s (q t) (q t) := fun t ht => by
    have h1 := hq 0 t (Nat.zero_le _) (by omega)
    have h2 := hq t s (by omega) (Nat.le_refl _)
    rw [q0] at h1
    rw [qn] at h2
    have := h2.add h1
    rw [show s - t + (t - 0) = s by omega] at this
    exact this
  have hle : d + s ≤ N := by
    by_cases h : d + s ≤ N
    · exact h
    · exfalso
      obtain ⟨a, b, hab, hb, e⟩ := pigeon N (fun t => if t < d then p t else q (t - d)) (fun t ht => by
        show (if t < d then p t else q (t - d)) < N
        split
        · next h1 =>
          have h2 := hp t d (by omega) (Nat.le_refl _)
          rw [show d - t = (d - t - 1) + 1 by omega] at h2
          exact (Wk.ends hE h2).1
        · next h1 =>
          have h2 := hqs (t - d) (by omega)
          rw [show s = (s - 1) + 1 by omega] at h2
          exact (Wk.ends hE h2).1)
      have e2 : (if a < d then p a else q (a - d)) = (if b < d then p b else q (b - d)) := e
      have h0a : ∀ t, t ≤ d → Wk E t i (p t) := fun t ht => by
        have := hp 0 t (Nat.zero_le _) ht
        rw [p0] at this; exact this
      split at e2 <;> split at e2
      · next h1 h2 =>
        have h3 := h0a a (by omega)
        have h4 := hp b d (by omega) (Nat.le_refl _)
        rw [← e2, pn] at h4
        exact hmin (a + (d - b)) (by omega) ⟨x, h3.add h4, hxs⟩
      · next h1 h2 =>
        have h3 := h0a a (by omega)
        have h4 := hqs (b - d) (by omega)
        rw [← e2] at h4
        exact hmin a h1 ⟨_, h3, h4⟩
      · next h1 h2 => omega
      · next h1 h2 =>
        have h3 := hq (a - d) (b - d) (by omega) (by omega)
        rw [← e2] at h3
        have := hG.least _ _ (by omega) h3
        omega
  refine ⟨by omega, ?_⟩
  obtain ⟨y, h1, h2⟩ := on_steps hs (N - s - d) hxs
  refine ⟨y, ?_, h2⟩
  have := hx.add h1
  rw [show d + (N - s - d) = N - s by omega] at this
  exact this
/-- No common divisor of all closed walks but 1. -/
def Coprime (E : Nat → Nat → Prop) : Prop := ∀ g, (∀ n i, Wk E n i i → g ∣ n) → g = 1
theorem jump_all (hE : OnN N E) (hJ : Joined N E) (h1 : Coprime E) {s c j : Nat} (hs : 0 < s) (hw : Wk E s c c) (hc : c < N) (hj : j < N) : Wk E ((N - 1) * s) c j := by
  obtain ⟨y, hy, hys⟩ := closed_unit hE hJ h1 hc hs hw
  obtain ⟨l, hl⟩ := hJ.walk hc hj
  have hml : l % s < s := Nat.mod_lt _ hs
  have hz : (l + (s - l % s) * y) % s = 0 := by
    rw [Nat.add_mod, Nat.mul_mod, hys, ← Nat.mul_mod, Nat.mul_one, ← Nat.add_mod]
    have e := Nat.div_add_mod l s
    have e2 : l + (s - l % s) = s * (l / s + 1) := by rw [Nat.mul_add, Nat.mul_one]; omega
    rw [e2, Nat.mul_mod_right]
  obtain ⟨t, ht⟩ := Nat.dvd_of_mod_eq_zero hz
  have hall := (hy.times (s - l % s)).add hl
  rw [Nat.add_comm, ht, Nat.mul_comm] at hall
  obtain ⟨k, hk, _, hk2⟩ := Wk.short (Jump.onN hE hs) (by omega) hall.jumps
  have hpad : Wk (Jump E s) ((N - 1 - k) * 1) c c := Wk.times (n := 1) (Wk.one hw) (N - 1 - k)
  rw [Nat.mul_one] at hpad
  have h3 := (hpad.add hk2).unjump
  rw [show N - 1 - k + k = N - 1 by omega] at h3
  exact h3
/-- All pairs are joined by walks of n steps. -/
def FullAt (N : Nat) (E : Nat → Nat → Prop) (n : Nat) : Prop := ∀ i j, i < N → j < N → Wk E n i j
theorem full_bound (hE : OnN N E) (h0 : 0 < N) (hJ : Joined N E) (h1 : Coprime E) : ∃ n, 0 < n ∧ n + 2 * N ≤ N * N + 2 ∧ FullAt N E n := by
  by_cases hN : N = 1
  · subst hN
    obtain ⟨n, hn, hw⟩ := hJ 0 0 (by omega) (by omega)
    obtain ⟨k, hk0, hk, _, hw2⟩ := hw.short1 hE hn
    obtain rfl : k = 1 := by omega
    refine ⟨1, by omega, by omega, fun i j hi hj => ?_⟩
    obtain rfl : i = 0 := by omega
    obtain rfl : j = 0 := by omega
    exact hw2
  obtain ⟨s, c, hG⟩ := girth_of (E := E) (by
    obtain ⟨n, hn, hw⟩ := hJ 0 0 h0 h0
    exact ⟨n, 0, hn, hw⟩)
  have hs := hG.pos
  have hsN : s ≤ N := (hG.near hE hJ h0).1
  have hlt : s < N := by
    by_cases h : s < N
    · exact h
    · exfalso
      obtain rfl : s = N := by omega
      refine hN (h1 s fun n i hw => ?_)
      exact closed_dvd hE (fun n i hn hle hw => by
        have := hG.least n i hn hw
        obtain rfl : n = s := by omega
        exact Nat.dvd_refl _) hw
  refine ⟨N - s + (N - 1) * s, by omega, ?_, fun i j hi hj => ?_⟩
  · obtain ⟨M, rfl⟩ : ∃ M, N = M + 1 := ⟨N - 1, by omega⟩
    obtain ⟨d, rfl⟩ : ∃ d, M = s + d := ⟨M - s, by omega⟩
    have e : (s + d + 1) * (s + d + 1) = (s + d) * s + (s + d) * d + 2 * (s + d) + 1 := by
      rw [Nat.mul_add, Nat.add_mul, Nat.mul_add (s + d) s d]; omega
    have e2 : d ≤ (s + d) * d := by
      calc d = 1 * d := (Nat.one_mul d).symm
        _ ≤ (s + d) * d := Nat.mul_le_mul_right d (by omega)
    rw [Nat.add_sub_cancel, e]
    omega
  · obtain ⟨_, d, hd, hds⟩ := hG.near hE hJ hi
    have hdN : d < N := by
      rw [show s = (s - 1) + 1 by omega] at hds
      exact (Wk.ends hE hds).1
    exact hd.add (jump_all hE hJ h1 hs hds hdN hj)
end Go.Proofs.Ytcoiodfggaanbaa
