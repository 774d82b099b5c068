/-
  PLAIN FACTS on polynomials, as the law asks them (no program in this text): the ends of a matrix's polynomial, the polynomial of the matrix that is turned around, the value of a product.
-/
import Derived.Test.YtfbdmheaalmboaaPolyNum
import Derived.Test.YtfbdmheaalmboaaMatPower
namespace Go.Proofs.Ytfbdmheaalmboaa
open Go Go.RowKit

theorem small_facts {m : List (List Int)} (h : smallM m = true) : isMat m = true ∧ m.length ≤ 4 ∧ ∀ i j, i < m.length → j < m.length → 0 ≤ cellOf m i j ∧ cellOf m i j ≤ 9 := by
  unfold smallM at h
  rw [Bool.and_eq_true, Bool.and_eq_true, decide_eq_true_iff, List.all_eq_true] at h
  obtain ⟨⟨h1, h2⟩, h3⟩ := h
  have hf := isMat_facts h1
  refine ⟨h1, h2, fun i j hi hj => ⟨(hf.cell i j hi hj).1, ?_⟩⟩
  have h4 := h3 m[i] (List.getElem_mem hi)
  rw [List.all_eq_true] at h4
  have hr := hf.row i hi
  have e : m.getD i [] = m[i] := by simp [List.getD, hi]
  rw [e] at hr
  have h5 := h4 (m[i])[j] (List.getElem_mem (by omega))
  rw [decide_eq_true_iff] at h5
  unfold cellOf
  rw [e, List.getD_eq_getElem?_getD, List.getElem?_eq_getElem (by omega)]
  exact h5
/-- The sums of minors, for each number of rows: none, one, all. -/
theorem minors_zero {m : List (List Int)} (h : m.length ≤ 4) : minorsN m 0 = 1 := by
  unfold minorsN
  have hn : m.length = 0 ∨ m.length = 1 ∨ m.length = 2 ∨ m.length = 3 ∨ m.length = 4 := by omega
  rcases hn with e | e | e | e | e <;> rw [e] <;> simp [sumTo, bitsL, List.range, List.range.loop, List.filter, Nat.testBit, minorF, detF]
theorem minors_one {m : List (List Int)} (h : m.length ≤ 4) : minorsN m 1 = sumTo m.length fun k => cellOf m k k := by
  unfold minorsN
  have hn : m.length = 0 ∨ m.length = 1 ∨ m.length = 2 ∨ m.length = 3 ∨ m.length = 4 := by omega
  rcases hn with e | e | e | e | e <;> rw [e] <;> simp [sumTo, bitsL, List.range, List.range.loop, List.filter, Nat.testBit, minorF, detF, sgn]
theorem minors_all {m : List (List Int)} (h : m.length ≤ 4) : minorsN m m.length = detT m := by
  unfold minorsN detT
  have hn : m.length = 0 ∨ m.length = 1 ∨ m.length = 2 ∨ m.length = 3 ∨ m.length = 4 := by omega
  rcases hn with e | e | e | e | e <;> rw [e] <;> simp [sumTo, bitsL, List.range, List.range.loop, List.filter, Nat.testBit, minorF, detF, sgn, lessF]
theorem bitsL_mem {n s i : Nat} (h : i ∈ bitsL n s) : i < n := by
  unfold bitsL at h
  exact List.mem_range.1 (List.mem_filter.1 h).1
theorem bitsL_len (n s : Nat) : (bitsL n s).length ≤ n := by
  unfold bitsL
  exact Nat.le_trans (List.length_filter_le _ _) (by simp)
theorem bitsL_at {n s a : Nat} (h : a < (bitsL n s).length) : (bitsL n s).getD a 0 < n := by
  rw [List.getD_eq_getElem?_getD, List.getElem?_eq_getElem h]
  exact bitsL_mem (List.getElem_mem h)
theorem minors_turn {m : List (List Int)} (h : m.length ≤ 4) (k : Nat) : minorsN (turnM m) k = minorsN m k := by
  have hl : (turnM m).length = m.length := tabOf_length _ _ _
  unfold minorsN
  rw [hl]
  refine sumTo_congr _ fun s _ => ?_
  split
  · unfold minorF
    have hb := bitsL_len m.length s
    rw [← detF_turn (n := (bitsL m.length s).length) (by omega)]
    refine detF_congr fun a b ha hb => ?_
    unfold turnM
    rw [tabOf_cell (bitsL_at hb) (bitsL_at ha)]
  · rfl
theorem turn_small {m : List (List Int)} (h : smallM m = true) : smallM (turnM m) = true := by
  obtain ⟨h1, h2, h3⟩ := small_facts h
  have hf := isMat_facts h1
  have hl : (turnM m).length = m.length := tabOf_length _ _ _
  have hm : isMat (turnM m) = true := isMat_iff.2 ⟨by rw [hl]; exact ⟨hf.pos, hf.le⟩, fun i hi => by
    rw [hl] at hi
    refine ⟨?_, fun j hj => ?_⟩
    · unfold turnM; rw [tabOf_row hi, tabOf_length]; simp
    · rw [hl] at hj
      unfold turnM
      rw [tabOf_cell hi hj]
      exact hf.cell j i hj hi⟩
  unfold smallM
  rw [hm, hl, decide_eq_true h2, Bool.true_and, Bool.true_and, List.all_eq_true]
  intro r hr
  unfold turnM tabOf at hr
  obtain ⟨i, hi, rfl⟩ := List.mem_map.1 hr
  rw [List.all_eq_true]
  intro x hx
  obtain ⟨j, hj, rfl⟩ := List.mem_map.1 hx
  rw [decide_eq_true_iff]
  exact (h3 j i (List.mem_range.1 hj) (List.mem_range.1 hi)).2
theorem char_turn {m : List (List Int)} (h : smallM m = true) : charM (turnM m) = charM m := by
  obtain ⟨_, h2, _⟩ := small_facts h
  have hl : (turnM m).length = m.length := tabOf_length _ _ _
  unfold charM
  rw [if_pos h, if_pos (turn_small h)]
  unfold charL
  rw [hl]
  refine List.map_congr_left fun k _ => ?_
  rw [minors_turn h2]
theorem charL_len (m : List (List Int)) : (charL m).length = m.length + 1 := by simp [charL]
theorem charL_at (m : List (List Int)) {k : Nat} (hk : k ≤ m.length) : (charL m).getD k 0 = sgn (m.length - k) * minorsN m (m.length - k) := by
  unfold charL
  rw [List.getD_eq_getElem?_getD, List.getElem?_map, List.getElem?_range (by omega)]
  rfl
theorem minors_abs {m : List (List Int)} (h : smallM m = true) (k : Nat) : (minorsN m k).natAbs ≤ 1000000 := by
  obtain ⟨h1, h2, h3⟩ := small_facts h
  have hab : ∀ i j, i < m.length → j < m.length → (cellOf m i j).natAbs ≤ 9 := fun i j hi hj => by have := h3 i j hi hj; omega
  by_cases hk : k = m.length
  · subst hk
    rw [minors_all h2]
    have hd := detF_abs (B := 9) (n := m.length) (f := cellOf m) hab
    have hn : m.length = 0 ∨ m.length = 1 ∨ m.length = 2 ∨ m.length = 3 ∨ m.length = 4 := by omega
    unfold detT
    rcases hn with e | e | e | e | e <;> rw [e] at hd ⊢ <;> simp [detB] at hd <;> omega
  · have hs : (minorsN m k).natAbs ≤ 2 ^ m.length * 4374 := by
      unfold minorsN
      refine sumTo_abs fun s _ => ?_
      split
      · next he =>
        have hb := bitsL_len m.length s
        have hd := detF_abs (B := 9) (n := (bitsL m.length s).length) (f := fun a b => cellOf m ((bitsL m.length s).getD a 0) ((bitsL m.length s).getD b 0)) fun a b ha hb => hab _ _ (bitsL_at ha) (bitsL_at hb)
        unfold minorF
        rw [he] at hd ⊢
        have hk3 : k = 0 ∨ k = 1 ∨ k = 2 ∨ k = 3 := by omega
        rcases hk3 with e | e | e | e <;> rw [e] at hd ⊢ <;> simp only [detB] at hd <;> omega
      · decide
    have hn : m.length = 0 ∨ m.length = 1 ∨ m.length = 2 ∨ m.length = 3 ∨ m.length = 4 := by omega
    rcases hn with e | e | e | e | e <;> rw [e] at hs <;> omega
theorem char_fits {m : List (List Int)} (h : smallM m = true) : fitsB (charL m) 5 = true := by
  obtain ⟨_, h2, _⟩ := small_facts h
  unfold fitsB
  rw [charL_len, decide_eq_true (by omega), Bool.and_true, List.all_eq_true]
  intro x hx
  unfold charL at hx
  obtain ⟨k, _, rfl⟩ := List.mem_map.1 hx
  have := minors_abs h (m.length - k)
  rw [decide_eq_true_iff]
  rcases sgn_two (m.length - k) with e | e <;> rw [e] <;> omega
theorem hor_zero (p : List Int) : ∀ n, 0 < n → hor p 0 n = p.getD (p.length - n) 0
  | n + 1, _ => by rw [hor, Int.mul_zero, Int.zero_add, show p.length - 1 - n = p.length - (n + 1) by omega]
/-- The value at 0. -/
theorem char_at_zero {m : List (List Int)} (h : smallM m = true) : atP (charL m) 0 = some (sgn m.length * detT m) := by
  obtain ⟨_, h2, _⟩ := small_facts h
  unfold atP
  rw [char_fits h, Bool.true_and, if_pos (by decide), hor_zero _ _ (by rw [charL_len]; omega), Nat.sub_self, charL_at m (Nat.zero_le _), Nat.sub_zero, minors_all h2]

/-! ### The value of a product -/
theorem hor_two (p : List Int) (x : Int) : ∀ n, n ≤ p.length → hor p x p.length = hor p x n * x ^ (p.length - n) + sumTo (p.length - n) fun k => p.getD k 0 * x ^ k := by
  intro n hn
  obtain ⟨d, hd⟩ : ∃ d, p.length = n + d := ⟨p.length - n, by omega⟩
  rw [show p.length - n = d by omega]
  clear hn
  induction d generalizing n with
  | zero => rw [hd]; simp [sumTo]
  | succ d ih =>
    have h1 := ih (n + 1) (by omega)
    rw [h1, hor, sumTo, show p.length - 1 - n = d by omega, Int.pow_succ]
    grind
theorem hor_sum (p : List Int) (x : Int) : hor p x p.length = sumTo p.length fun k => p.getD k 0 * x ^ k := by
  have h := hor_two p x 0 (Nat.zero_le _)
  rw [hor, Int.zero_mul, Int.zero_add, Nat.sub_zero] at h
  exact h
theorem cutLen_zero (p : List Int) : ∀ {n k : Nat}, cutLen p n ≤ k → k < n → p.getD k 0 = 0
  | n + 1, k, h, hk => by
    rw [cutLen] at h
    split at h
    · next hz =>
      by_cases e : k = n
      · subst e; exact hz
      · exact cutLen_zero p h (by omega)
    · omega
theorem sumTo_drop {f : Nat → Int} {n : Nat} : ∀ {d : Nat}, (∀ k, n ≤ k → k < n + d → f k = 0) → sumTo (n + d) f = sumTo n f
  | 0, _ => rfl
  | d + 1, h => by
    rw [← Nat.add_assoc, sumTo, h (n + d) (by omega) (by omega), sumTo_drop (d := d) fun k h1 h2 => h k h1 (by omega)]
    omega
theorem cut_value (p : List Int) (x : Int) : (sumTo (cutL p).length fun k => (cutL p).getD k 0 * x ^ k) = sumTo p.length fun k => p.getD k 0 * x ^ k := by
  have hle := cutLen_le p p.length
  have hl : (cutL p).length = cutLen p p.length := by unfold cutL; rw [List.length_take]; omega
  rw [hl]
  obtain ⟨d, hd⟩ : ∃ d, p.length = cutLen p p.length + d := ⟨p.length - cutLen p p.length, by omega⟩
  have h1 : sumTo (cutLen p p.length) (fun k => (cutL p).getD k 0 * x ^ k) = sumTo (cutLen p p.length) fun k => p.getD k 0 * x ^ k := sumTo_congr _ fun k hk => by
    have : (cutL p).getD k 0 = p.getD k 0 := by
      unfold cutL
      simp [List.getD_eq_getElem?_getD, hk]
    rw [this]
  rw [h1]
  have h2 := sumTo_drop (f := fun k => p.getD k 0 * x ^ k) (n := cutLen p p.length) (d := d) fun k h3 h4 => by
    rw [cutLen_zero p h3 (by omega), Int.zero_mul]
  rw [← h2, ← hd]
theorem conv_value (a b : List Int) (ha : a.length ≤ 4) (hb : b.length ≤ 2) (ha0 : a ≠ []) (hb0 : b ≠ []) (x : Int) : (sumTo (convL a b).length fun k => (convL a b).getD k 0 * x ^ k) = (sumTo a.length fun k => a.getD k 0 * x ^ k) * sumTo b.length fun k => b.getD k 0 * x ^ k := by
  match b, hb0, hb with
  | [b0], _, _ =>
    match a, ha0, ha with
    | [a0], _, _ => simp [convL, termC, sumTo, List.range, List.range.loop]
    | [a0, a1], _, _ => simp [convL, termC, sumTo, List.range, List.range.loop]; grind
    | [a0, a1, a2], _, _ => simp [convL, termC, sumTo, List.range, List.range.loop]; grind
    | [a0, a1, a2, a3], _, _ => simp [convL, termC, sumTo, List.range, List.range.loop]; grind
  | [b0, b1], _, _ =>
    match a, ha0, ha with
    | [a0], _, _ => simp [convL, termC, sumTo, List.range, List.range.loop]; grind
    | [a0, a1], _, _ => simp [convL, termC, sumTo, List.range, List.range.loop]; grind
    | [a0, a1, a2], _, _ => simp [convL, termC, sumTo, List.range, List.range.loop]; grind
    | [a0, a1, a2, a3], _, _ => simp [convL, termC, sumTo, List.range, List.range.loop]; grind
theorem prod_value {a b : List Int} {x : Int} (ha : a.length ≤ 4) (hb : b.length ≤ 2) (hp : mulP a b ≠ []) : hor a x a.length * hor b x b.length = hor (mulP a b) x (mulP a b).length := by
  unfold mulP at hp ⊢
  split at hp
  · next h =>
    rw [if_pos h]
    rw [Bool.and_eq_true, decide_eq_true_iff] at h
    rw [hor_sum, hor_sum, hor_sum, cut_value, conv_value a b ha hb h.2.1 h.2.2]
  · exact absurd rfl hp
end Go.Proofs.Ytfbdmheaalmboaa
