/-
  PLAIN FACTS on polynomials, as the law's last questions ask them (no program in this text): heads and ends of a small matrix's polynomials, its determinant and trace; values of short lists.
-/
import Derived.Test.YtfbdmheaalmboaaPolyFacts
import Derived.Test.YtfbdmheaalmboaaMatPower
namespace Go.Proofs.Ytfbdmheaalmboaa
open Go Go.RowKit

theorem small_detS {m : List (List Int)} (h : smallM m = true) : detS m = some (detT m) := by
  obtain ⟨h1, h2, h3⟩ := small_facts h
  have hf := isMat_facts h1
  unfold detS
  rw [if_pos]
  unfold detOk
  rw [decide_eq_true h2, Bool.true_and, List.all_eq_true]
  intro r hr
  obtain ⟨i, hi, rfl⟩ := List.getElem_of_mem hr
  have e : m.getD i [] = m[i] := by simp [List.getD, hi]
  have hrow := hf.row i hi
  rw [e] at hrow
  rw [decide_eq_true hrow, Bool.true_and, List.all_eq_true]
  intro x hx
  obtain ⟨j, hj, rfl⟩ := List.getElem_of_mem hx
  have hc := h3 i j hi (by omega)
  unfold cellOf at hc
  rw [e, List.getD_eq_getElem?_getD, List.getElem?_eq_getElem hj] at hc
  rw [decide_eq_true_iff]
  have hc2 : 0 ≤ (m[i])[j] ∧ (m[i])[j] ≤ 9 := hc
  omega
theorem small_ends {m : List (List Int)} (h : smallM m = true) : charM m = charL m ∧ (charM m).length = m.length + 1 ∧ (charM m).getD m.length 0 = 1 ∧ (charM m).getD (m.length - 1) 0 = -traceM m := by
  obtain ⟨h1, h2, _⟩ := small_facts h
  have hf := isMat_facts h1
  have hp := hf.pos
  have e : charM m = charL m := by unfold charM; rw [if_pos h]
  rw [e]
  refine ⟨rfl, charL_len m, ?_, ?_⟩
  · rw [charL_at m (Nat.le_refl _), Nat.sub_self, minors_zero h2]; rfl
  · rw [charL_at m (Nat.sub_le _ _), show m.length - (m.length - 1) = 1 by omega, minors_one h2]
    unfold traceM
    rw [if_pos h1]
    show -1 * _ = _
    omega
theorem cut_head {p : List Int} (hp : 0 < p.length) (h : p.getD 0 0 ≠ 0) : 0 < (cutL p).length ∧ (cutL p).getD 0 0 = p.getD 0 0 := by
  have hc : 0 < cutLen p p.length := by
    by_cases h0 : cutLen p p.length = 0
    · exact absurd (cutLen_zero p (n := p.length) (k := 0) (by omega) hp) h
    · omega
  have hle := cutLen_le p p.length
  unfold cutL
  refine ⟨by rw [List.length_take]; omega, ?_⟩
  simp [List.getD_eq_getElem?_getD, hc]
theorem turned_head {m : List (List Int)} (h : smallM m = true) : 0 < (turnedM m).length ∧ (turnedM m).getD 0 0 = 1 := by
  obtain ⟨_, h2, _⟩ := small_facts h
  have e : turnedM m = cutL (turnedL m) := by unfold turnedM; rw [if_pos h]
  have hl : (turnedL m).length = m.length + 1 := by simp [turnedL]
  have h0 : (turnedL m).getD 0 0 = 1 := by
    unfold turnedL
    rw [List.getD_eq_getElem?_getD, List.getElem?_map, List.getElem?_range (by omega)]
    show sgn 0 * minorsN m 0 = 1
    rw [minors_zero h2]; rfl
  rw [e]
  obtain ⟨h3, h4⟩ := cut_head (p := turnedL m) (by omega) (by rw [h0]; decide)
  exact ⟨h3, by rw [h4, h0]⟩
theorem det_abs {m : List (List Int)} (h : smallM m = true) : (detT m).natAbs ≤ 1000000 := by
  have h1 := minors_abs h m.length
  rwa [minors_all (small_facts h).2.1] at h1
theorem trace_abs {m : List (List Int)} (h : smallM m = true) : (traceM m).natAbs ≤ 1000000 := by
  obtain ⟨h1, h2, _⟩ := small_facts h
  have h3 := minors_abs h 1
  rw [minors_one h2] at h3
  unfold traceM
  rwa [if_pos h1]
theorem not_smallM {m : List (List Int)} (h : smallM m = false) : charM m = [] ∧ turnedM m = [] := by
  unfold charM turnedM
  rw [h]
  exact ⟨rfl, rfl⟩
theorem small_root {m : List (List Int)} (h : smallM m = true) : rootM m = decide (detT m ≠ 0) := by
  unfold rootM
  rw [h]; rfl
theorem hor2_abs {p : List Int} (h : ∀ k, (p.getD k 0).natAbs ≤ 1000000) : ∀ n, (hor p 2 n).natAbs ≤ (2 ^ n - 1) * 1000000
  | 0 => by simp [hor]
  | n + 1 => by
    have ih := hor2_abs h n
    have h1 := h (p.length - 1 - n)
    have h2 : 0 < 2 ^ n := Nat.two_pow_pos n
    rw [hor, Nat.pow_succ]
    generalize hor p 2 n = y at *
    generalize p.getD (p.length - 1 - n) 0 = z at *
    generalize 2 ^ n = q at *
    omega
/-- The value at 2 of a list of at most 4 numbers. -/
theorem two_abs {p : List Int} {f : Int} (hl : p.length ≤ 4) (h : atP p 2 = some f) : f = hor p 2 p.length ∧ f.natAbs ≤ 15000000 := by
  unfold atP at h
  split at h
  · next hc =>
    rw [Bool.and_eq_true] at hc
    obtain rfl := Option.some.inj h
    refine ⟨rfl, ?_⟩
    have h1 := hor2_abs (fits_at hc.1).2 p.length
    have h2 : 2 ^ p.length ≤ 2 ^ 4 := Nat.pow_le_pow_right (by decide) hl
    omega
  · cases h
theorem two_prod {a b : List Int} {f g h : Int} (ha : a.length ≤ 4) (hb : b.length ≤ 2) (hp : 0 < (mulP a b).length) (e1 : atP a 2 = some f) (e2 : atP b 2 = some g) (e3 : atP (mulP a b) 2 = some h) : f * g = h := by
  have hv : ∀ (p : List Int) (y : Int), atP p 2 = some y → y = hor p 2 p.length := fun p y hy => by
    unfold atP at hy
    split at hy
    · exact (Option.some.inj hy).symm
    · cases hy
  rw [hv a f e1, hv b g e2, hv _ h e3]
  exact prod_value ha hb fun e => by rw [e] at hp; exact absurd hp (Nat.lt_irrefl 0)
theorem prod_abs {f g : Int} (hf : f.natAbs ≤ 15000000) (hg : g.natAbs ≤ 15000000) : (f * g).natAbs ≤ 225000000000000 := by
  rw [Int.natAbs_mul]
  exact Nat.mul_le_mul hf hg
end Go.Proofs.Ytfbdmheaalmboaa
