/-
  What the law on growth asks of the plain answers.
-/
import Derived.Test.YtanelokploifhaaDoorGrowText
namespace Go.Proofs.YtanelokploifhaaDoor
open Go Go.RowKit

theorem one_mul_mat {m : List (List Int)} (hm : isMat m = true) : mulM (oneM m.length) m = m := by
  have hf := isMat_facts hm
  refine Eq.trans ?_ (tabOf_self (m := m) (n := m.length) fun i hi => hf.row i hi)
  unfold mulM
  rw [show (oneM m.length).length = m.length from tabOf_length _ _ _]
  refine tabOf_congr fun i j hi hj => ?_
  have e : (sumTo m.length fun k => cellOf (oneM m.length) i k * cellOf m k j) = sumTo m.length fun k => (if i = k then 1 else 0) * cellOf m k j := sumTo_congr _ fun k hk => by
    unfold oneM; rw [tabOf_cell hi hk]
  rw [e, sumTo_pick 1 (fun k => cellOf m k j) hi]; omega
theorem power_two {m p : List (List Int)} (h : powS m 2 = some p) : p = mulM m m := by
  unfold powS at h
  split at h
  · next hc =>
    have h2 : powM m 2 = some p := h
    unfold powM powM powM at h2
    simp only [Option.bind_some] at h2
    cases e : prodM (oneM m.length) m with
    | none => rw [e] at h2; cases h2
    | some s =>
      rw [e, Option.bind_some] at h2
      have e1 := (prodM_some e).2.2.2.2
      rw [one_mul_mat hc.1] at e1
      subst e1
      exact (prodM_some h2).2.2.2.2
  · cases h
theorem floorS_small {m : List (List Int)} {d : Int} (hm : smallM m = true) (h1 : 1 ≤ d) (h2 : d ≤ 100) : floorS m d = (floorN m d : Int) := by
  unfold floorS
  rw [hm, decide_eq_true (show 1 ≤ d ∧ d ≤ 100 from ⟨h1, h2⟩)]; rfl
theorem belowS_iff {m : List (List Int)} {q d : Int} (hm : smallM m = true) (h1 : 1 ≤ d) (h2 : d ≤ 100) (h3 : 0 ≤ q) (h4 : q ≤ 3600) : belowS m q d = decide ((floorN m d : Int) < q) := by
  unfold belowS
  rw [hm, decide_eq_true (show 1 ≤ d ∧ d ≤ 100 from ⟨h1, h2⟩), decide_eq_true (show 0 ≤ q ∧ q ≤ 3600 from ⟨h3, h4⟩)]
  simp only [Bool.true_and]
  rw [Bool.eq_iff_iff, decide_eq_true_iff, belB_iff hm (by omega), bel_floor hm h1]
theorem grow_facts {m : List (List Int)} {d q : Int} (hq : floorS m d = q) (h0 : ¬ q < 0) : smallM m = true ∧ (1 ≤ d ∧ d ≤ 100) ∧ belowS m q d = false ∧ (q + 1 ≤ 3600 → belowS m (q + 1) d = true) ∧ lowS m * d ≤ q ∧ q ≤ highS m * d ∧ floorS (turnM m) d = q ∧ (0 ≤ lowS m ∧ lowS m ≤ 9000000) ∧ 0 ≤ highS m ∧ highS m ≤ 9000000 := by
  obtain ⟨_, hq2⟩ := floorS_range m d
  obtain ⟨hm, h1, h2⟩ := floorS_in (m := m) (d := d) (by omega)
  have hN := floorS_small hm h1 h2
  obtain ⟨r1, r2⟩ := floor_rows hm h1
  have hmat := (small_facts hm).1
  have l1 := leastTo_range hmat (k := m.length) (Nat.le_refl _)
  have l2 := mostTo_range hmat (k := m.length) (Nat.le_refl _)
  refine ⟨hm, ⟨h1, h2⟩, ?_, fun h => ?_, by omega, by omega, ?_, ?_, ?_⟩
  · rw [belowS_iff hm h1 h2 (by omega) (by omega)]; exact decide_eq_false (by omega)
  · rw [belowS_iff hm h1 h2 (by omega) h]; exact decide_eq_true (by omega)
  · rw [floorS_small (turn_small hm) h1 h2, floor_turn hm h1]; omega
  · unfold lowS; rw [if_pos hmat]; exact l1
  · unfold highS; rw [if_pos hmat]; exact l2
theorem grow_square {m : List (List Int)} {d q r : Int} (hq : floorS m d = q) (h0 : ¬ q < 0) (hp : smallM (mulM m m) = true) (hr : floorS (mulM m m) d = r) : q * q < (r + 1) * d ∧ r * d < (q + 1) * (q + 1) ∧ 0 ≤ r ∧ r ≤ 3600 := by
  obtain ⟨hm, h1, h2⟩ := floorS_in (m := m) (d := d) (by omega)
  obtain ⟨_, hr2⟩ := floorS_range (mulM m m) d
  have e1 := floorS_small hm h1 h2
  have e2 := floorS_small hp h1 h2
  obtain ⟨s1, s2⟩ := floor_square hm hp h1
  rw [← e1, hq, ← e2, hr] at s1 s2
  exact ⟨s1, s2, by omega, by omega⟩
theorem grow_light {m : List (List Int)} (hm : smallM m = true) : growthlessS m = decide (floorS m 100 ≤ 100) := by
  unfold growthlessS
  rw [hm, Bool.true_and, Bool.eq_iff_iff, decide_eq_true_iff, floorS_small hm (by omega) (by omega), light_floor hm (q := 101) (d := 100) (by omega) (by omega) (by decide)]
  omega
theorem grow_text {m : List (List Int)} {d : Int} (h : floorS m d < 0) : textG m d = ⟨#[]⟩ := by
  unfold textG; rw [if_pos h]
/-- A product of numbers that are not large. -/
theorem mul_range {a b A B : Int} (h0 : 0 ≤ a) (h1 : a ≤ A) (h2 : 0 ≤ b) (h3 : b ≤ B) : 0 ≤ a * b ∧ a * b ≤ A * B := ⟨Int.mul_nonneg h0 h2, Int.mul_le_mul h1 h3 h2 (by omega)⟩
end Go.Proofs.YtanelokploifhaaDoor
