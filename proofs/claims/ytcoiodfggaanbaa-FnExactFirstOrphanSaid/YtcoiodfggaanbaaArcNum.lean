/-
  PLAIN FACTS ON THE ARCS OF A CODE'S LETTERS (no program in this text): a square of ones and zeros for each letter; a step along its arcs is a step of the sets of states.
-/
import Derived.Test.YtcoiodfggaanbaaOrphBits
import Derived.Test.YtcoiodfggaanbaaSquareRows
namespace Go.Proofs.Ytcoiodfggaanbaa
open Go Go.RowKit

/-- The arcs of letter l, of the first i places. -/
def arcI (k q : Nat) (out : Nat → Nat) (i l a b : Nat) : Int := if (List.range i).any (fun p => decide (out p = l) && (decide (p / k = a) && decide (p % q = b))) = true then 1 else 0
theorem arcI_zero (k q : Nat) (out : Nat → Nat) (l a b : Nat) : arcI k q out 0 l a b = 0 := by unfold arcI; rw [if_neg (by simp)]
theorem arcI_next (k q : Nat) (out : Nat → Nat) (i l a b : Nat) : arcI k q out (i + 1) l a b = if out i = l ∧ i / k = a ∧ i % q = b then 1 else arcI k q out i l a b := by
  unfold arcI
  rw [List.range_succ, List.any_append]
  by_cases h : out i = l ∧ i / k = a ∧ i % q = b
  · rw [if_pos h, if_pos]
    simp [h.1, h.2.1, h.2.2]
  · rw [if_neg h]
    have e : ([i].any fun p => decide (out p = l) && (decide (p / k = a) && decide (p % q = b))) = false := by
      rw [List.any_cons, List.any_nil, Bool.or_false, ← Bool.not_eq_true]
      simpa using h
    rw [e, Bool.or_false]
theorem arcI_pos {k q : Nat} {out : Nat → Nat} {i l a b : Nat} : 0 < arcI k q out i l a b ↔ ∃ p, p < i ∧ out p = l ∧ p / k = a ∧ p % q = b := by
  unfold arcI
  by_cases h : (List.range i).any (fun p => decide (out p = l) && (decide (p / k = a) && decide (p % q = b))) = true
  · rw [if_pos h]
    rw [List.any_eq_true] at h
    obtain ⟨p, hp, h⟩ := h
    simp only [Bool.and_eq_true, decide_eq_true_eq] at h
    exact ⟨fun _ => ⟨p, List.mem_range.1 hp, h.1, h.2.1, h.2.2⟩, fun _ => by decide⟩
  · rw [if_neg h]
    refine ⟨fun h => absurd h (by decide), fun ⟨p, hp, h1, h2, h3⟩ => absurd ?_ h⟩
    rw [List.any_eq_true]
    exact ⟨p, List.mem_range.2 hp, by simp [h1, h2, h3]⟩
theorem arcI_le (k q : Nat) (out : Nat → Nat) (i l a b : Nat) : 0 ≤ arcI k q out i l a b ∧ arcI k q out i l a b ≤ 1000000 := by
  unfold arcI; split <;> omega
/-- k squares, one behind the other. -/
def sqsL (k : Nat) (F : Nat → Nat → Nat → Int) : List Value := (List.range (k * 81)).map fun t => .int .i64 (F (t / 81) (t % 81 / 9) (t % 9))
theorem sqsL_len (k : Nat) (F : Nat → Nat → Nat → Int) : (sqsL k F).length = k * 81 := by simp [sqsL]
theorem sqsL_at {k l a b : Nat} (F : Nat → Nat → Nat → Int) (hl : l < k) (ha : a < 9) (hb : b < 9) : (sqsL k F)[l * 81 + a * 9 + b]? = some (.int .i64 (F l a b)) := by
  unfold sqsL
  rw [List.getElem?_map, List.getElem?_range (by omega)]
  simp only [Option.map_some]
  rw [show (l * 81 + a * 9 + b) / 81 = l by omega, show (l * 81 + a * 9 + b) % 81 / 9 = a by omega, show (l * 81 + a * 9 + b) % 9 = b by omega]
theorem sqsL_set {k l a b : Nat} {F G : Nat → Nat → Nat → Int} (ha : a < 9) (hb : b < 9) (h : ∀ l' a' b', l' < k → a' < 9 → b' < 9 → G l' a' b' = if l = l' ∧ a = a' ∧ b = b' then 1 else F l' a' b') : (sqsL k F).set (l * 81 + a * 9 + b) (.int .i64 1) = sqsL k G := by
  refine List.ext_getElem (by rw [List.length_set, sqsL_len, sqsL_len]) fun t h1 h2 => ?_
  rw [sqsL_len] at h2
  rw [List.getElem_set]
  simp only [sqsL, List.getElem_map, List.getElem_range]
  rw [h (t / 81) (t % 81 / 9) (t % 9) (by omega) (by omega) (by omega)]
  by_cases e : l * 81 + a * 9 + b = t
  · rw [if_pos e, if_pos ⟨by omega, by omega, by omega⟩]
  · rw [if_neg e, if_neg (by omega)]
theorem sqsL_zero (k : Nat) : List.replicate (k * 81) (Value.int .i64 0) = sqsL k fun _ _ _ => 0 := by
  unfold sqsL
  refine List.ext_getElem (by simp) fun t h1 h2 => by simp
theorem sqsL_part (k : Nat) (F : Nat → Nat → Nat → Int) {l : Nat} (hl : l < k) : ((sqsL k F).drop (l * 81)).take 81 = sqL (F l) := by
  refine List.ext_getElem ?_ fun t h1 h2 => ?_
  · rw [List.length_take, List.length_drop, sqsL_len, sqL_length]
    have : (l + 1) * 81 ≤ k * 81 := Nat.mul_le_mul_right _ hl
    omega
  · rw [sqL_length] at h2
    rw [List.getElem_take, List.getElem_drop]
    simp only [sqsL, sqL, List.getElem_map, List.getElem_range]
    rw [show (l * 81 + t) / 81 = l by omega, show (l * 81 + t) % 81 / 9 = t / 9 by omega, show (l * 81 + t) % 9 = t % 9 by omega]
/-- The matrix of a letter. -/
def arcM (k q : Nat) (out : Nat → Nat) (m l : Nat) : List (List Int) := tabOf q q (arcI k q out m l)
theorem arcM_length (k q : Nat) (out : Nat → Nat) (m l : Nat) : (arcM k q out m l).length = q := tabOf_length _ _ _
theorem arcM_facts (k : Nat) {q : Nat} (out : Nat → Nat) (m l : Nat) (h0 : 0 < q) (h9 : q ≤ 9) : MatFacts (arcM k q out m l) where
  pos := by rw [arcM_length]; exact h0
  le := by rw [arcM_length]; exact h9
  row := fun i hi => by
    rw [arcM_length] at hi ⊢
    unfold arcM
    rw [tabOf_row hi]; simp
  cell := fun i j hi hj => by
    rw [arcM_length] at hi hj
    unfold arcM
    rw [tabOf_cell hi hj]
    exact arcI_le _ _ _ _ _ _ _
/-- A step along the arcs of a letter. -/
theorem arcM_step {k q m : Nat} (out : Nat → Nat) (l s : Nat) (hk : 0 < k) (hm : m = q * k) : stepS (arcM k q out m l) s = ostep k q out s l := by
  have hlen := arcM_length k q out m l
  refine set_ext (by have := setN_lt (fun j => stepK (tOf s) (arcM k q out m l) (arcM k q out m l).length 0 j) (arcM k q out m l).length; unfold stepS; rw [hlen] at this ⊢; exact this) fun t ht => ?_
  rw [Bool.eq_iff_iff, stepS_bit _ _ (by rw [hlen]; exact ht), ostB_iff]
  constructor
  · rintro ⟨K, hK, h1, h2⟩
    rw [hlen] at hK
    unfold arcB at h2
    rw [decide_eq_true_iff] at h2
    unfold arcM at h2
    rw [tabOf_cell hK ht, arcI_pos] at h2
    obtain ⟨p, _, h3, h4, h5⟩ := h2
    have hp : K * k + p % k = p := by rw [← h4, Nat.mul_comm]; exact Nat.div_add_mod p k
    exact ⟨K, p % k, hK, Nat.mod_lt _ hk, h1, by rw [hp]; exact h3, by rw [hp]; exact h5⟩
  · rintro ⟨K, x, hK, hx, h1, h2, h3⟩
    refine ⟨K, by rw [hlen]; exact hK, h1, ?_⟩
    unfold arcB
    rw [decide_eq_true_iff]
    unfold arcM
    rw [tabOf_cell hK ht, arcI_pos]
    refine ⟨K * k + x, ?_, h2, ?_, h3⟩
    · have h4 : (K + 1) * k ≤ q * k := Nat.mul_le_mul_right _ hK
      rw [Nat.succ_mul] at h4
      omega
    · rw [Nat.mul_comm, Nat.mul_add_div hk, Nat.div_eq_of_lt hx, Nat.add_zero]
end Go.Proofs.Ytcoiodfggaanbaa
