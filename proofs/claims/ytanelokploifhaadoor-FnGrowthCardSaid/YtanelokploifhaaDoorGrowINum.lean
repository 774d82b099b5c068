/-
  PLAIN FACTS ON GROWTH, fifth part (no program's function in this text): the program's ways to the same answers: the leading table, the least and the greatest of the sums, components that are heavier.
-/
import Derived.Test.YtanelokploifhaaDoorMidTexts
import Derived.Test.YtanelokploifhaaDoorModelTexts
import Derived.Test.YtanelokploifhaaDoorRowEnds
import Derived.Test.YtanelokploifhaaDoorSquare
namespace Go.Proofs.YtanelokploifhaaDoor
open Go Go.RowKit

/-! ### The square of q on the diagonal minus d times m, filled -/

def difF (f : Nat → Nat → Int) (n : Nat) (q d : Int) (k j : Nat) : Nat → Nat → Int := fun a b => if a < k ∧ b < n then negE f q d a b else if a = k ∧ b < j then -d * f a b else 0
theorem difF_zero (f : Nat → Nat → Int) (n : Nat) (q d : Int) (a b : Nat) : difF f n q d 0 0 a b = 0 := by
  unfold difF
  rw [if_neg (by omega), if_neg (by omega)]
theorem difF_next (f : Nat → Nat → Int) (n : Nat) (q d : Int) (k j : Nat) (a b : Nat) : putF (difF f n q d k j) k j (-d * f k j) a b = difF f n q d k (j + 1) a b := by
  unfold putF difF
  by_cases e : a = k ∧ b = j
  · obtain ⟨rfl, rfl⟩ := e
    rw [if_pos ⟨rfl, rfl⟩, if_neg (by omega), if_pos ⟨rfl, by omega⟩]
  · rw [if_neg e]
    by_cases h1 : a < k ∧ b < n
    · rw [if_pos h1, if_pos h1]
    · rw [if_neg h1, if_neg h1]
      by_cases h2 : a = k ∧ b < j
      · rw [if_pos h2, if_pos ⟨h2.1, by omega⟩]
      · rw [if_neg h2, if_neg (by omega)]
theorem difF_diag (f : Nat → Nat → Int) (n : Nat) (q d : Int) (k : Nat) (hk : k < n) : difF f n q d k n k k = -d * f k k := by
  unfold difF
  rw [if_neg (by omega), if_pos ⟨rfl, hk⟩]
theorem difF_row (f : Nat → Nat → Int) (n : Nat) (q d : Int) (k : Nat) (hk : k < n) (a b : Nat) : putF (difF f n q d k n) k k (-d * f k k + q) a b = difF f n q d (k + 1) 0 a b := by
  unfold putF difF
  by_cases e : a = k ∧ b = k
  · obtain ⟨rfl, rfl⟩ := e
    rw [if_pos ⟨rfl, rfl⟩, if_pos (by omega)]
    unfold negE
    rw [if_pos rfl, Int.neg_mul]
    omega
  · rw [if_neg e]
    by_cases h1 : a < k ∧ b < n
    · rw [if_pos h1, if_pos (by omega)]
    · rw [if_neg h1]
      by_cases h2 : a = k ∧ b < n
      · obtain ⟨rfl, hb⟩ := h2
        rw [if_pos ⟨rfl, hb⟩, if_pos (by omega)]
        unfold negE
        rw [if_neg (by omega), Int.neg_mul]
        omega
      · rw [if_neg h2, if_neg (by omega), if_neg (by omega)]
theorem difF_all (f : Nat → Nat → Int) (n : Nat) (q d : Int) (a b : Nat) (ha : a < n) (hb : b < n) : difF f n q d n 0 a b = negE f q d a b := by
  unfold difF
  rw [if_pos ⟨ha, hb⟩]
theorem dif_rows (f : Nat → Nat → Int) (n : Nat) (q d : Int) {k : Nat} (hk : k ≤ n) : tabOf k k (difF f n q d n 0) = tabOf k k (negE f q d) := tabOf_congr fun a b ha hb => difF_all f n q d a b (by omega) (by omega)
theorem neg_sq {m : List (List Int)} (hm : smallM m = true) {q d : Int} (hq : 0 ≤ q ∧ q ≤ 3601) (hd : 0 ≤ d ∧ d ≤ 100) {k : Nat} (hk : k ≤ m.length) : Sq 10000 k (tabOf k k (negE (cellOf m) q d)) ∧ detT (tabOf k k (negE (cellOf m) q d)) = detF k (negE (cellOf m) q d) := by
  have hl : (tabOf k k (negE (cellOf m) q d)).length = k := tabOf_length _ _ _
  refine ⟨⟨hl, fun i hi => by rw [tabOf_row hi]; simp, fun i j hi hj => by rw [tabOf_cell hi hj]; exact neg_abs hm hq hd (by omega) (by omega)⟩, ?_⟩
  unfold detT
  rw [hl]
  exact detF_congr fun i j hi hj => tabOf_cell hi hj

/-! ### The sums of the rows -/

def rowSums (m : List (List Int)) (k : Nat) : List Int := (List.range k).map (rowSum m)
theorem rowSums_len (m : List (List Int)) (k : Nat) : (rowSums m k).length = k := by simp [rowSums]
theorem rowSums_next (m : List (List Int)) (k : Nat) : rowSums m (k + 1) = rowSums m k ++ [rowSum m k] := by simp [rowSums, List.range_succ]
theorem rowSums_at (m : List (List Int)) {n k : Nat} (hk : k < n) : (rowSums m n).getD k 0 = rowSum m k := by simp [rowSums, List.getD, hk]
theorem leastTo_some (m : List (List Int)) : ∀ {n : Nat}, 0 < n → ∃ i, i < n ∧ leastTo m n = rowSum m i
  | n + 1, _ => by
    rw [leastTo]
    split
    · exact ⟨n, by omega, rfl⟩
    · next h =>
      obtain ⟨i, hi, e⟩ := leastTo_some m (n := n) (by omega)
      exact ⟨i, by omega, e⟩
theorem mostTo_some (m : List (List Int)) : ∀ {n : Nat}, mostTo m n = 0 ∨ ∃ i, i < n ∧ mostTo m n = rowSum m i
  | 0 => Or.inl rfl
  | n + 1 => by
    rw [mostTo]
    split
    · exact Or.inr ⟨n, by omega, rfl⟩
    · next h =>
      rcases mostTo_some m (n := n) with e | ⟨i, hi, e⟩
      · exact Or.inl e
      · exact Or.inr ⟨i, by omega, e⟩
theorem least_low {m : List (List Int)} (hm : isMat m = true) {v : Int} (h : LeastI (rowSums m m.length) m.length v) : v = lowS m := by
  unfold lowS
  rw [if_pos hm]
  obtain ⟨h1, j, hj, e⟩ := h
  rw [rowSums_at m hj] at e
  have h2 := leastTo_le m hj
  obtain ⟨i, hi, e2⟩ := leastTo_some m (isMat_facts hm).pos
  have h3 := h1 i hi
  rw [rowSums_at m hi] at h3
  omega
theorem most_high {m : List (List Int)} (hm : isMat m = true) {v : Int} (h : MostI (rowSums m m.length) m.length v) : v = highS m := by
  unfold highS
  rw [if_pos hm]
  obtain ⟨h1, j, hj, e⟩ := h
  rw [rowSums_at m hj] at e
  have h2 := mostTo_ge m hj
  have h0 := (rowSum_range hm hj).1
  rcases mostTo_some m (n := m.length) with e2 | ⟨i, hi, e2⟩
  · omega
  · have h3 := h1 i hi
    rw [rowSums_at m hi] at h3
    omega

/-! ### Halving -/

theorem low_high {m : List (List Int)} (hm : smallM m = true) {d : Int} (hd : 1 ≤ d) : belB m (d * lowS m) d = false ∧ belB m (d * highS m + 1) d = true ∧ 0 ≤ lowS m ∧ lowS m ≤ highS m ∧ highS m ≤ 36 := by
  have h1 := (small_facts hm).1
  have hpos := (isMat_facts h1).pos
  have hf := small_nonneg hm
  obtain ⟨i, hi, e⟩ := leastTo_some m hpos
  have h3 := mostTo_ge m hi
  have h4 : mostTo m m.length ≤ 36 := by
    rcases mostTo_some m (n := m.length) with e2 | ⟨i, hi, e2⟩
    · omega
    · rw [e2]; exact small_sum hm hi
  have h5 := (leastTo_range h1 (k := m.length) (Nat.le_refl _)).1
  unfold lowS highS
  rw [if_pos h1, if_pos h1]
  refine ⟨?_, ?_, h5, by omega, h4⟩
  · rw [Bool.eq_false_iff]
    intro hb
    have := rows_bel (by omega) hf (by omega) (l := leastTo m m.length) (fun i hi => leastTo_le m hi) ((belB_iff hm (by omega)).1 hb)
    omega
  · exact (belB_iff hm (by omega)).2 (bel_rows (h := mostTo m m.length) (by omega) (fun i hi => mostTo_ge m hi) (by omega))
theorem halved {m : List (List Int)} (hm : smallM m = true) {d : Int} (hd : 1 ≤ d ∧ d ≤ 100) {x y : Int} (h1 : belB m x d = false) (h2 : belB m y d = true) (hxy : y - x ≤ 1) (hlt : x < y) : x = floorS m d := by
  have h3 : ¬ Bel m.length (cellOf m) x d := fun h => by
    rw [(belB_iff hm (by omega)).2 h] at h1; cases h1
  have h4 := (belB_iff hm (by omega)).1 h2
  obtain rfl : y = x + 1 := by omega
  unfold floorS
  rw [if_pos (by rw [hm, decide_eq_true hd]; rfl)]
  exact floor_only hm hd.1 h3 h4

/-! ### Components -/

theorem comp_ge {m : List (List Int)} (hm : smallM m = true) {l : List Int} (hl : l ∈ compS m) : (l.length : Int) ≤ sumM (partM m l) := by
  have hmat := (small_facts hm).1
  unfold compS compM at hl
  rw [if_pos hmat] at hl
  obtain ⟨ll, h1, h2⟩ := List.mem_flatten.1 hl
  obtain ⟨i, h3, rfl⟩ := List.mem_map.1 h1
  have hi := List.mem_range.1 h3
  unfold compList at h2
  split at h2
  · next hc =>
    rw [List.mem_singleton] at h2
    subst h2
    have hr : reachB m i i = true := by
      have : i ∈ compRow m i := List.mem_of_mem_head? hc
      have h4 := (List.mem_filter.1 this).2
      rw [Bool.and_eq_true] at h4
      exact h4.1
    rw [comp_sum hm hi hr, List.length_map]
    have hrow : compRow m i = (List.range m.length).filter (compP m i) := rfl
    rw [hrow, count_filter]
    refine sumTo_mono2 fun j hj => ?_
    by_cases hp : compP m i j = true
    · rw [if_pos hp, if_pos hp]
      unfold compP at hp
      rw [Bool.and_eq_true] at hp
      exact out_pos hm hj (reach_trans hj hi hj hp.2 hp.1)
    · rw [if_neg hp, if_neg hp]
      exact Int.le_refl _
  · cases h2
/-- Light so far: no component among the first k has more arcs than vertices. -/
def lightTo (m : List (List Int)) (cs : List (List Int)) (k : Nat) : Prop := ∀ i, i < k → sumM (partM m (cs.getD i [])) = ((cs.getD i []).length : Int)
theorem lightTo_all {m : List (List Int)} (h : lightTo m (compS m) (compS m).length) : lightB m = true := by
  unfold lightB
  rw [List.all_eq_true]
  intro l hl
  obtain ⟨i, hi, rfl⟩ := List.getElem_of_mem hl
  have := h i hi
  rw [List.getD_eq_getElem?_getD, List.getElem?_eq_getElem hi] at this
  exact decide_eq_true this
theorem light_bad {m : List (List Int)} {k : Nat} (hk : k < (compS m).length) (h : ((compS m).getD k []).length < sumM (partM m ((compS m).getD k []))) : lightB m = false := by
  rw [Bool.eq_false_iff]
  unfold lightB
  rw [ne_eq, List.all_eq_true]
  intro hall
  have h1 := of_decide_eq_true (hall _ (List.getElem_mem hk))
  rw [List.getD_eq_getElem?_getD, List.getElem?_eq_getElem hk] at h
  simp only [Option.getD_some] at h
  omega
end Go.Proofs.YtanelokploifhaaDoor
