/-
  PLAIN FACTS ON THE MODEL's STEPS OF PAIRS (no program in this text): the rows of pairs that follow a pair; what is closed for them is closed for the arcs of pairs of states.
-/
import Derived.Test.YtcoiodfggaanbaaLiveSet
import Derived.Test.YtcoiodfggaanbaaCountNum
namespace Go.Proofs.Ytcoiodfggaanbaa
open Go

section
variable (k q : Nat) (out : Nat → Nat)
def sameA (K V x y : Nat) : Bool := decide (out (K * k + x) = out (V * k + y))
def tgN (K V x y : Nat) : Nat := (K * k + x) % q * q + (V * k + y) % q
def partR (K V x y : Nat) : List Int := ((List.range y).filter (sameA k out K V x)).map fun y' => ((tgN k q K V x y' : Nat) : Int)
/-- The pairs that follow a pair, those of the first x letters and, with the next one, of the first y. -/
def rowR (K V x y : Nat) : List Int := ((List.range x).flatMap fun x' => partR k q out K V x' k) ++ partR k q out K V x y
def rowC (c : Nat) : List Int := rowR k q out (c / q) (c % q) k 0
def stepsL (c : Nat) : List (List Int) := (List.range c).map (rowC k q out)
theorem stepsL_len (c : Nat) : (stepsL k q out c).length = c := by simp [stepsL]
theorem stepsL_next (c : Nat) : stepsL k q out (c + 1) = stepsL k q out c ++ [rowC k q out c] := by
  unfold stepsL
  rw [List.range_succ, List.map_append]; rfl
theorem partR_zero (K V x : Nat) : partR k q out K V x 0 = [] := rfl
theorem rowR_zero (K V : Nat) : rowR k q out K V 0 0 = [] := rfl
variable {k q out}
theorem rowR_row (K V x : Nat) : rowR k q out K V x k = rowR k q out K V (x + 1) 0 := by
  unfold rowR
  rw [List.range_succ, List.flatMap_append, partR_zero, List.append_nil]
  simp
theorem rowR_put {K V x y : Nat} (h : out (K * k + x) = out (V * k + y)) : rowR k q out K V x (y + 1) = rowR k q out K V x y ++ [((tgN k q K V x y : Nat) : Int)] := by
  unfold rowR partR
  rw [List.range_succ, List.filter_append, List.map_append, List.append_assoc]
  congr 2
  rw [List.filter_cons_of_pos (by unfold sameA; exact decide_eq_true h)]; rfl
theorem rowR_skip {K V x y : Nat} (h : out (K * k + x) ≠ out (V * k + y)) : rowR k q out K V x (y + 1) = rowR k q out K V x y := by
  unfold rowR partR
  rw [List.range_succ, List.filter_append, List.map_append]
  congr 1
  rw [List.filter_cons_of_neg (by unfold sameA; rw [decide_eq_false h]; decide)]
  simp
theorem partR_len (K V x y : Nat) : (partR k q out K V x y).length ≤ y := by
  unfold partR
  rw [List.length_map]
  exact Nat.le_trans (List.length_filter_le _ _) (by simp)
theorem rowR_len (K V y : Nat) : ∀ x, (rowR k q out K V x y).length ≤ x * k + y
  | 0 => by
    unfold rowR
    simpa using partR_len (k := k) (q := q) (out := out) K V 0 y
  | x + 1 => by
    have ih := rowR_len K V k x
    have h : (rowR k q out K V (x + 1) y).length = (rowR k q out K V x k).length + (partR k q out K V (x + 1) y).length := by
      rw [rowR_row]
      unfold rowR
      rw [partR_zero, List.append_nil, List.length_append]
    have h2 := partR_len (k := k) (q := q) (out := out) K V (x + 1) y
    rw [h, Nat.succ_mul]
    omega
theorem mem_part {K V x y : Nat} {v : Int} : v ∈ partR k q out K V x y ↔ ∃ y', y' < y ∧ out (K * k + x) = out (V * k + y') ∧ v = ((tgN k q K V x y' : Nat) : Int) := by
  unfold partR
  rw [List.mem_map]
  constructor
  · rintro ⟨y', h, rfl⟩
    rw [List.mem_filter, List.mem_range] at h
    exact ⟨y', h.1, by simpa [sameA] using h.2, rfl⟩
  · rintro ⟨y', h1, h2, rfl⟩
    exact ⟨y', by rw [List.mem_filter, List.mem_range]; exact ⟨h1, by simpa [sameA] using h2⟩, rfl⟩
theorem mem_rowC {c : Nat} {v : Int} : v ∈ rowC k q out c ↔ ∃ x y, x < k ∧ y < k ∧ out (c / q * k + x) = out (c % q * k + y) ∧ v = ((tgN k q (c / q) (c % q) x y : Nat) : Int) := by
  unfold rowC rowR
  rw [partR_zero, List.append_nil, List.mem_flatMap]
  constructor
  · rintro ⟨x, hx, h⟩
    obtain ⟨y, h1, h2, h3⟩ := mem_part.1 h
    exact ⟨x, y, List.mem_range.1 hx, h1, h2, h3⟩
  · rintro ⟨x, y, hx, hy, h2, h3⟩
    exact ⟨x, List.mem_range.2 hx, mem_part.2 ⟨y, hy, h2, h3⟩⟩
theorem stepsL_at {n c : Nat} (h : c < n) : (stepsL k q out n).getD c [] = rowC k q out c := by
  unfold stepsL
  rw [List.getD_eq_getElem?_getD, List.getElem?_map, List.getElem?_range h]; rfl
theorem steps_mem {n c i : Nat} (h : c < n) (hi : i < lenS (stepsL k q out n) c) : ∃ x y, x < k ∧ y < k ∧ out (c / q * k + x) = out (c % q * k + y) ∧ ((stepsL k q out n).getD c []).getD i 0 = ((tgN k q (c / q) (c % q) x y : Nat) : Int) := by
  unfold lenS at hi
  have hm : ((stepsL k q out n).getD c []).getD i 0 ∈ rowC k q out c := by
    rw [stepsL_at h] at hi ⊢
    rw [List.getD_eq_getElem?_getD, List.getElem?_eq_getElem hi]
    exact List.getElem_mem hi
  exact mem_rowC.1 hm
theorem steps_ok (hq : 0 < q) : StepsOk (stepsL k q out (q * q)) where
  lt := fun c i hc hi => by
    rw [stepsL_len] at hc ⊢
    obtain ⟨x, y, hx, hy, _, h⟩ := steps_mem hc hi
    unfold tgt
    rw [h, Int.toNat_natCast]
    exact pair_lt (Nat.mod_lt _ hq) (Nat.mod_lt _ hq)
  is := fun c i hc hi => by
    rw [stepsL_len] at hc
    obtain ⟨x, y, hx, hy, _, h⟩ := steps_mem hc hi
    unfold tgt
    rw [h, Int.toNat_natCast]
theorem has_iff {c e : Nat} (hc : c < q * q) : HasS (stepsL k q out (q * q)) c e ↔ VArc k q out c e := by
  constructor
  · rintro ⟨i, hi, rfl⟩
    obtain ⟨x, y, hx, hy, h1, h⟩ := steps_mem hc hi
    refine ⟨x, y, hx, hy, h1, ?_⟩
    unfold tgt
    rw [h, Int.toNat_natCast]; rfl
  · rintro ⟨x, y, hx, hy, h1, rfl⟩
    have hm : ((tgN k q (c / q) (c % q) x y : Nat) : Int) ∈ (stepsL k q out (q * q)).getD c [] := by
      rw [stepsL_at hc]
      exact mem_rowC.2 ⟨x, y, hx, hy, h1, rfl⟩
    obtain ⟨i, hi, he⟩ := List.getElem_of_mem hm
    refine ⟨i, hi, ?_⟩
    unfold tgt
    rw [List.getD_eq_getElem?_getD, List.getElem?_eq_getElem hi, Option.getD_some, he, Int.toNat_natCast]; rfl
theorem closed_iff {M : Nat → Prop} : ClosedS (stepsL k q out (q * q)) M ↔ VertC k q out M := by
  constructor
  · intro h c hc
    obtain ⟨h1, ⟨e, he, h2⟩, ⟨d, hd, h3⟩⟩ := h c hc
    have h4 := (h d hd).1
    rw [stepsL_len] at h1 h4
    exact ⟨h1, ⟨e, he, (has_iff h1).1 h2⟩, ⟨d, hd, (has_iff h4).1 h3⟩⟩
  · intro h c hc
    obtain ⟨h1, ⟨e, he, h2⟩, ⟨d, hd, h3⟩⟩ := h c hc
    have h4 := (h d hd).1
    exact ⟨by rw [stepsL_len]; exact h1, ⟨e, he, (has_iff h1).2 h2⟩, ⟨d, hd, (has_iff h4).2 h3⟩⟩
theorem lenS_le {n : Nat} (k3 : k ≤ 3) (c : Nat) : lenS (stepsL k q out n) c ≤ 100 := by
  unfold lenS
  by_cases hc : c < n
  · rw [stepsL_at hc]
    unfold rowC
    have h := rowR_len (k := k) (q := q) (out := out) (c / q) (c % q) 0 k
    have h2 : k * k ≤ 3 * 3 := Nat.mul_le_mul k3 k3
    omega
  · rw [List.getD_eq_getElem?_getD, List.getElem?_eq_none (by rw [stepsL_len]; omega)]
    simp
end
end Go.Proofs.Ytcoiodfggaanbaa
