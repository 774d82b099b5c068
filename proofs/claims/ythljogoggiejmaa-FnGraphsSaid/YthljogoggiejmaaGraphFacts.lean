/-
  PLAIN FACTS ON GRAPHS, MORE (no program in this text): every path that is listed is a path; what is trimmed goes on for ever.
-/
import Derived.Test.YthljogoggiejmaaGraphCopies
namespace Go.Proofs.Ythljogoggiejmaa
open Go Go.RowKit

theorem getD_left {head : List Int} {x : Int} {i : Nat} (h : i < head.length) : (head ++ [x]).getD i 0 = head.getD i 0 := by simp [List.getD, List.getElem?_append_left h]
theorem getD_last {head : List Int} {x : Int} : (head ++ [x]).getD head.length 0 = x := by simp [List.getD]
theorem pathOk_left {arcs : List (List Int)} {head : List Int} {x : Int} {i : Nat} (h : i < head.length) : pathOk arcs (head ++ [x]) i = pathOk arcs head i := by
  unfold pathOk
  rw [getD_left h, getD_left (show i - 1 < head.length by omega)]
theorem pathOk_last {arcs : List (List Int)} {head : List Int} {k : Nat} (hk : k < arcs.length) (h : goesOnM arcs head k = true) : pathOk arcs (head ++ [(k : Int)]) head.length = true := by
  unfold goesOnM at h
  unfold pathOk
  rw [getD_last, decide_eq_true (show 0 ≤ (k : Int) by omega), decide_eq_true (show (k : Int) ≤ (arcs.length : Int) - 1 by omega)]
  by_cases h0 : head.length = 0
  · rw [decide_eq_true h0]; rfl
  · rw [decide_eq_false h0, Bool.false_or] at h
    rw [getD_left (show head.length - 1 < head.length by omega), decide_eq_false h0]
    simpa [startOf] using h
theorem fillM_path (arcs : List (List Int)) : ∀ (d : Nat) (head : List Int), (∀ k, k < head.length → pathOk arcs head k = true) → ∀ p ∈ fillM arcs d head, isPathM arcs p = true
  | 0, head, h, p, hp => by
    obtain rfl : p = head := by simpa [fillM] using hp
    exact isPathM_all h
  | d + 1, head, h, p, hp => by
    unfold fillM at hp
    obtain ⟨k, hk, hp⟩ := List.mem_flatMap.1 hp
    have hk := List.mem_range.1 hk
    split at hp
    · next hg =>
      refine fillM_path arcs d (head ++ [(k : Int)]) (fun i hi => ?_) p hp
      rw [List.length_append] at hi
      by_cases hl : i < head.length
      · rw [pathOk_left hl]; exact h i hl
      · obtain rfl : i = head.length := by simp at hi; omega
        exact pathOk_last hk hg
    · cases hp
/-- Each path that is listed is one, and as long as it was asked. -/
theorem pathsM_paths {m : List (List Int)} {n : Int} : ∀ p ∈ pathsM m n, (isGraphM m && isPathM (arcsM m) p) = true ∧ (p.length : Int) = n := by
  intro p hp
  cases h : pathsOkM m n with
  | false =>
    unfold pathsM at hp
    rw [h, if_neg (by decide)] at hp
    cases hp
  | true =>
    refine ⟨?_, (pathsM_facts h).2.1 p hp⟩
    unfold pathsM at hp
    rw [if_pos h] at hp
    unfold pathsOkM at h
    rw [Bool.and_eq_true] at h
    rw [h.1, fillM_path (arcsM m) n.toNat [] (fun k hk => by simp at hk) p hp]; rfl

/-! ### What is trimmed -/

theorem livelyM_at {m : List (List Int)} {i : Nat} (hi : i < (livelyM m).length) : isMat m = true ∧ ∃ v : Nat, (livelyM m).getD i 0 = (v : Int) ∧ v < m.length ∧ liveM m v = true := by
  have hm : (livelyM m).getD i 0 ∈ livelyM m := by
    rw [show (livelyM m).getD i 0 = (livelyM m)[i] by simp [List.getD, hi]]
    exact List.getElem_mem hi
  generalize (livelyM m).getD i 0 = x at hm
  unfold livelyM at hm
  split at hm
  · next h =>
    obtain ⟨v, rfl, hv, hl⟩ := liveList_mem hm
    exact ⟨h, v, rfl, hv, hl⟩
  · cases hm
theorem livelyM_has {m : List (List Int)} (h : isMat m = true) {v : Nat} (hl : liveM m v = true) : ∃ i, i < (livelyM m).length ∧ (livelyM m).getD i 0 = (v : Int) := by
  have hv : v < m.length := liveK_lt _ hl
  have hm : (v : Int) ∈ livelyM m := by
    unfold livelyM liveList
    rw [if_pos h]
    exact List.mem_map.2 ⟨v, List.mem_filter.2 ⟨List.mem_range.2 hv, hl⟩, rfl⟩
  obtain ⟨i, hi, e⟩ := List.getElem_of_mem hm
  exact ⟨i, hi, by rw [← e]; simp [List.getD, hi]⟩
theorem partM_length (m : List (List Int)) (l : List Int) : (partM m l).length = l.length := tabOf_length _ _ _
theorem trim_isMat {m : List (List Int)} (hp : 0 < (livelyM m).length) : isMat (partM m (livelyM m)) = true := by
  refine isMat_iff.2 ⟨⟨by rw [partM_length]; exact hp, by rw [partM_length]; exact livelyM_le m⟩, fun i hi => ?_⟩
  rw [partM_length] at hi
  refine ⟨by rw [partM_length]; unfold partM; rw [tabOf_row hi]; simp, fun j hj => ?_⟩
  rw [partM_length] at hj
  obtain ⟨h, v, e, hv, _⟩ := livelyM_at hi
  obtain ⟨_, u, e2, hu, _⟩ := livelyM_at hj
  unfold partM
  rw [tabOf_cell hi hj, e, e2]
  exact ((isMat_iff.1 h).2 v hv).2 u hu
theorem trim_good {m : List (List Int)} : Good (partM m (livelyM m)) fun i => decide (i < (livelyM m).length) := by
  intro i hi
  have hi := of_decide_eq_true hi
  obtain ⟨h, v, e, hv, hl⟩ := livelyM_at hi
  obtain ⟨_, ⟨a, ha, ha2⟩, b, hb, hb2⟩ := liveM_good m v hl
  obtain ⟨i1, hi1, e1⟩ := livelyM_has h ha
  obtain ⟨i2, hi2, e2⟩ := livelyM_has h hb
  refine ⟨by rw [partM_length]; exact hi, ⟨i1, decide_eq_true hi1, ?_⟩, i2, decide_eq_true hi2, ?_⟩
  · unfold partM; rw [tabOf_cell hi hi1, e, e1]; exact ha2
  · unfold partM; rw [tabOf_cell hi2 hi, e, e2]; exact hb2
/-- What is left goes on for ever, all of it. -/
theorem trim_lively {m : List (List Int)} (hp : 0 < (livelyM m).length) : isLivelyM (partM m (livelyM m)) = true := by
  have hm := trim_isMat hp
  unfold isLivelyM
  rw [hm, Bool.true_and, decide_eq_true_iff]
  have e : livelyM (partM m (livelyM m)) = liveList (partM m (livelyM m)) (partM m (livelyM m)).length := by
    generalize partM m (livelyM m) = q at hm
    unfold livelyM; rw [if_pos hm]
  rw [e]
  unfold liveList
  rw [List.length_map, List.filter_eq_self.2 fun i hi => ?_, List.length_range]
  rw [partM_length] at hi
  exact good_in_liveK trim_good _ i (decide_eq_true (List.mem_range.1 hi))
theorem trimM_facts (m : List (List Int)) : ((trimM m).isSome = true → 0 < (livelyM m).length ∧ ((trimM m).getD []).length = (livelyM m).length ∧ isLivelyM ((trimM m).getD []) = true ∧ isLivelyM m = decide ((livelyM m).length = m.length)) ∧ ((trimM m).isSome = false → (livelyM m).length = 0) := by
  unfold trimM
  by_cases h : (livelyM m).length = 0
  · rw [if_pos h]
    exact ⟨fun e => (by cases e), fun _ => h⟩
  · rw [if_neg h]
    have hp : 0 < (livelyM m).length := by omega
    refine ⟨fun _ => ⟨hp, partM_length _ _, trim_lively hp, ?_⟩, fun e => (by cases e)⟩
    have hm := (livelyM_at hp).1
    unfold isLivelyM
    rw [hm, Bool.true_and]
end Go.Proofs.Ythljogoggiejmaa
