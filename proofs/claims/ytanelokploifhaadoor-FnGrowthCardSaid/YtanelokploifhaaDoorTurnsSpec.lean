/-
  The model's TurnsOf: what the plain words say, in new memory; nothing that was there before is changed.
-/
import Derived.Test.YtanelokploifhaaDoorPrimSpec
import Derived.Test.YtanelokploifhaaDoorMidTexts
import Derived.Deep.AppendLies
namespace Go.Proofs.YtanelokploifhaaDoor
open Go Go.RowKit

/-- The least number of arcs from vertex 0. -/
theorem distN_is {m : List (List Int)} (h0 : 0 < m.length) (hJ : Joined m.length (arcP m)) {j : Nat} (hj : j < m.length) : Wk (arcP m) (distN m j) 0 j ∧ distN m j < m.length ∧ ∀ l, Wk (arcP m) l 0 j → distN m j ≤ l := by
  obtain ⟨n, hn⟩ := hJ.walk h0 hj
  obtain ⟨d, hd, hmin⟩ := least_nat (P := fun n => Wk (arcP m) n 0 j) ⟨n, hn⟩
  have hlt : d < m.length := by
    obtain ⟨k, hk, _, hw⟩ := Wk.short (arcP_on m) h0 hd
    by_cases h : k < d
    · exact absurd hw (hmin k h)
    · omega
  have e : distN m j = d := by
    unfold distN
    rw [find_first hlt ((wkB_iff h0 hj).2 hd) fun k hk => by
      cases hc : wkB m k 0 j with
      | false => rfl
      | true => exact absurd ((wkB_iff h0 hj).1 hc) (hmin k hk)]
    rfl
  rw [e]
  exact ⟨hd, hlt, fun l hl => by
    by_cases h : l < d
    · exact absurd hl (hmin l h)
    · omega⟩
/-- All walks between two vertices are equally long, up to the period. -/
theorem same_mod {m : List (List Int)} (hJ : Joined m.length (arcP m)) {i j a b : Nat} (hi : i < m.length) (hj : j < m.length) (ha : Wk (arcP m) a i j) (hb : Wk (arcP m) b i j) : a % perM m = b % perM m := by
  obtain ⟨e, he⟩ := hJ.walk hj hi
  obtain ⟨x, hx⟩ := perM_closed (ha.add he)
  obtain ⟨y, hy⟩ := perM_closed (hb.add he)
  have h1 : a + perM m * y = b + perM m * x := by omega
  have h2 := congrArg (· % perM m) h1
  simp only [Nat.add_mul_mod_self_left] at h2
  exact h2
theorem turn_arc {m : List (List Int)} (h0 : 0 < m.length) (hJ : Joined m.length (arcP m)) {i j : Nat} (hi : i < m.length) (hj : j < m.length) (h : arcB m i j = true) : (turnN m i + 1) % perM m = turnN m j := by
  unfold turnN
  rw [Nat.mod_add_mod]
  exact same_mod hJ h0 hj ((distN_is h0 hJ hi).1.add (Wk.one ⟨hi, hj, h⟩)) (distN_is h0 hJ hj).1
theorem turn_zero {m : List (List Int)} (h0 : 0 < m.length) (hJ : Joined m.length (arcP m)) : turnN m 0 = 0 := by
  have h := (distN_is h0 hJ h0).2.2 0 rfl
  unfold turnN
  rw [show distN m 0 = 0 by omega, Nat.zero_mod]

/-- Each number is -1, or the turn of its vertex. -/
def TurnOk (m : List (List Int)) (ys : List Int) : Prop := ys.length = m.length ∧ ∀ j, j < m.length → ys.getD j 0 = -1 ∨ ys.getD j 0 = ((turnN m j : Nat) : Int)
/-- What is reached by n arcs from vertex 0 has its turn. -/
def TurnTo (m : List (List Int)) (n : Nat) (ys : List Int) : Prop := ∀ j, j < m.length → ∀ l, l ≤ n → Wk (arcP m) l 0 j → 0 ≤ ys.getD j 0
/-- And what is reached by one arc more, of those ahead of i and j. -/
def TurnBy (m : List (List Int)) (n i j : Nat) (ys : List Int) : Prop := TurnTo m n ys ∧ ∀ a b, a < m.length → b < m.length → (a < i ∨ (a = i ∧ b < j)) → arcB m a b = true → (∃ l, l ≤ n ∧ Wk (arcP m) l 0 a) → 0 ≤ ys.getD b 0
theorem TurnBy.start {m : List (List Int)} {n : Nat} {ys : List Int} (h : TurnTo m n ys) : TurnBy m n 0 0 ys := ⟨h, fun a b _ _ h => by omega⟩
theorem TurnBy.row {m : List (List Int)} {n i : Nat} {ys : List Int} (h : TurnBy m n i m.length ys) : TurnBy m n (i + 1) 0 ys := ⟨h.1, fun a b ha hb h2 => h.2 a b ha hb (by omega)⟩
theorem TurnBy.ends {m : List (List Int)} {n : Nat} {ys : List Int} (h : TurnBy m n m.length 0 ys) : TurnTo m (n + 1) ys := by
  intro j hj l hl hw
  by_cases e : l = n + 1
  · subst e
    obtain ⟨k, h1, h2⟩ := hw
    exact h.2 k j h2.1 hj (Or.inl h2.1) h2.2.2 ⟨n, Nat.le_refl _, h1⟩
  · exact h.1 j hj l (by omega) hw
theorem getD_set_le {ys : List Int} {j : Nat} {x : Int} (hx : 0 ≤ x) (hj : j < ys.length) {b : Nat} (h : 0 ≤ ys.getD b 0) : 0 ≤ (ys.set j x).getD b 0 := by
  simp only [List.getD_eq_getElem?_getD, List.getElem?_set] at h ⊢
  by_cases e : j = b
  · subst e
    rw [if_pos rfl, if_pos hj]; exact hx
  · rw [if_neg e]; exact h
theorem TurnBy.put {m : List (List Int)} {n i j : Nat} {ys : List Int} {x : Int} (h : TurnBy m n i j ys) (hx : 0 ≤ x) (hj : j < ys.length) : TurnBy m n i (j + 1) (ys.set j x) := by
  refine ⟨fun b hb l hl hw => getD_set_le hx hj (h.1 b hb l hl hw), fun a b ha hb h2 h3 h4 => ?_⟩
  by_cases e : b = j
  · subst e
    simp only [List.getD_eq_getElem?_getD, List.getElem?_set, if_true, hj, Option.getD_some]
    exact hx
  · exact getD_set_le hx hj (h.2 a b ha hb (by omega) h3 h4)
/-- Nothing is to be done for i and j. -/
theorem TurnBy.skip {m : List (List Int)} {n i j : Nat} {ys : List Int} (h : TurnBy m n i j ys) (hi : i < m.length) (hd : ¬ (0 ≤ ys.getD i 0 ∧ ys.getD j 0 < 0 ∧ arcB m i j = true)) : TurnBy m n i (j + 1) ys := by
  refine ⟨h.1, fun a b ha hb h2 h3 h4 => ?_⟩
  by_cases e : a = i ∧ b = j
  · obtain ⟨rfl, rfl⟩ := e
    obtain ⟨l, hl, hw⟩ := h4
    have h5 := h.1 a hi l hl hw
    by_cases h6 : 0 ≤ ys.getD b 0
    · exact h6
    · exact absurd ⟨h5, by omega, h3⟩ hd
  · exact h.2 a b ha hb (by omega) h3 h4
theorem TurnOk.put {m : List (List Int)} {ys : List Int} (h : TurnOk m ys) {j : Nat} (hj : j < m.length) : TurnOk m (ys.set j ((turnN m j : Nat) : Int)) := by
  refine ⟨by rw [List.length_set]; exact h.1, fun b hb => ?_⟩
  by_cases e : b = j
  · subst e
    right
    have := h.1
    simp [List.getD_eq_getElem?_getD, show b < ys.length by omega]
  · have := h.2 b hb
    simpa [List.getD_eq_getElem?_getD, List.getElem?_set, Ne.symm e] using this
theorem turns_done {m : List (List Int)} {ys : List Int} (hi : irrM m = true) (h : TurnOk m ys) (ht : TurnTo m m.length ys) : ys = turnsM m := by
  obtain ⟨hm, hJ⟩ := irrM_iff.1 hi
  have h0 := (isMat_facts hm).pos
  unfold turnsM
  rw [if_pos hi]
  refine List.ext_getElem (by simp [h.1]) fun j h1 h2 => ?_
  have hj : j < m.length := by rw [← h.1]; exact h1
  have hd := distN_is h0 hJ hj
  have hp := ht j hj _ (Nat.le_of_lt hd.2.1) hd.1
  have hc := h.2 j hj
  rw [List.getD_eq_getElem?_getD, List.getElem?_eq_getElem h1, Option.getD_some] at hp hc
  rw [List.getElem_map, List.getElem_range]
  rcases hc with hc | hc
  · omega
  · exact hc
theorem turns_start {m : List (List Int)} (hi : irrM m = true) : TurnOk m ((List.replicate m.length (-1 : Int)).set 0 0) ∧ TurnTo m 0 ((List.replicate m.length (-1 : Int)).set 0 0) := by
  obtain ⟨hm, hJ⟩ := irrM_iff.1 hi
  have h0 := (isMat_facts hm).pos
  constructor
  · have h : TurnOk m (List.replicate m.length (-1 : Int)) := ⟨by simp, fun j hj => Or.inl (by simp [List.getD_eq_getElem?_getD, hj])⟩
    have := h.put h0
    rw [turn_zero h0 hJ] at this
    exact this
  · intro j hj l hl hw
    obtain rfl : l = 0 := by omega
    obtain rfl : 0 = j := hw
    simp only [List.getD_eq_getElem?_getD, List.getElem?_set, List.length_replicate, if_true]
    rw [if_pos (show 0 < m.length from h0)]
    exact Int.le_refl 0

end Go.Proofs.YtanelokploifhaaDoor
