/-
  PLAIN FACTS ON TWINS (no program in this text): the first two words of a list that have the same letters at both ends and are taken to the same word.
-/
import Derived.Test.YtlncehnbdhkaoaaFirstNum
namespace Go.Proofs.Ytlncehnbdhkaoaa
open Go Go.RowKit

/-- The first place behind i for which R holds. -/
def behindJ (R : Nat → Nat → Bool) (m i : Nat) : Option Nat := (List.range m).find? fun j => decide (i < j) && R i j
/-- The first two places. -/
def firstPair (R : Nat → Nat → Bool) (m : Nat) : Option (Nat × Nat) := (List.range m).findSome? fun i => (behindJ R m i).map fun j => (i, j)
theorem find_at {p : Nat → Bool} {m j : Nat} (hj : j < m) (h : p j = true) (h0 : ∀ y, y < j → p y = false) : (List.range m).find? p = some j := by
  obtain ⟨d, rfl⟩ : ∃ d, m = j + 1 + d := ⟨m - (j + 1), by omega⟩
  rw [List.range_add, List.find?_append, List.range_succ, List.find?_append]
  have e : (List.range j).find? p = none := by
    rw [List.find?_eq_none]
    intro y hy
    rw [h0 y (List.mem_range.1 hy)]; simp
  rw [e]
  simp [h]
theorem behind_some {R : Nat → Nat → Bool} {m i j : Nat} (hj : j < m) (hij : i < j) (h : R i j = true) (h0 : ∀ y, i < y → y < j → R i y = false) : behindJ R m i = some j := by
  refine find_at hj (by rw [decide_eq_true hij, h]; rfl) fun y hy => ?_
  by_cases e : i < y
  · rw [h0 y e hy, Bool.and_false]
  · rw [decide_eq_false e, Bool.false_and]
theorem behind_none {R : Nat → Nat → Bool} {m i : Nat} (h : ∀ y, i < y → y < m → R i y = false) : behindJ R m i = none := by
  unfold behindJ
  rw [List.find?_eq_none]
  intro y hy
  by_cases e : i < y
  · rw [h y e (List.mem_range.1 hy), Bool.and_false]; simp
  · rw [decide_eq_false e, Bool.false_and]; simp
theorem behind_lt {R : Nat → Nat → Bool} {m i j : Nat} (h : behindJ R m i = some j) : j < m ∧ i < j ∧ R i j = true := by
  have h1 := List.mem_of_find?_eq_some h
  have h2 := List.find?_some h
  rw [Bool.and_eq_true, decide_eq_true_iff] at h2
  exact ⟨List.mem_range.1 h1, h2.1, h2.2⟩
theorem pair_some {R : Nat → Nat → Bool} {m i j : Nat} (hi : i < m) (h : behindJ R m i = some j) (h0 : ∀ y, y < i → behindJ R m y = none) : firstPair R m = some (i, j) :=
  findSome_at hi (fun y hy => by rw [h0 y hy]; rfl) (by rw [h]; rfl)
theorem pair_none {R : Nat → Nat → Bool} {m : Nat} (h0 : ∀ y, y < m → behindJ R m y = none) : firstPair R m = none := by
  unfold firstPair
  rw [List.findSome?_eq_none_iff]
  intro y hy
  rw [h0 y (List.mem_range.1 hy)]; rfl
theorem pair_lt {R : Nat → Nat → Bool} {m i j : Nat} (h : firstPair R m = some (i, j)) : i < m ∧ j < m ∧ i < j ∧ R i j = true := by
  unfold firstPair at h
  obtain ⟨y, hy, h1⟩ := List.exists_of_findSome?_eq_some h
  cases hb : behindJ R m y with
  | none => rw [hb] at h1; cases h1
  | some j' =>
    rw [hb] at h1
    cases h1
    obtain ⟨h2, h3, h4⟩ := behind_lt hb
    exact ⟨List.mem_range.1 hy, h2, h3, h4⟩
/-- The same letters at both ends, and taken to the same word. -/
def twR (k n : Nat) (o u v : ByteArray) : Bool := ((u.extract 0 (n - 1)).toList == (v.extract 0 (n - 1)).toList && (u.extract (u.size - (n - 1)) u.size).toList == (v.extract (v.size - (n - 1)) v.size).toList) && (applied k n o u).toList == (applied k n o v).toList
def twL (k n : Nat) (o : ByteArray) (ps : List ByteArray) (i j : Nat) : Bool := twR k n o (ps.getD i ByteArray.empty) (ps.getD j ByteArray.empty)
/-- The twins of length L. -/
def lenTwin (k n : Nat) (o : ByteArray) (L : Nat) : Option (ByteArray × ByteArray) := (firstPair (twL k n o (allW k L)) (allW k L).length).map fun p => ((allW k L).getD p.1 ByteArray.empty, (allW k L).getD p.2 ByteArray.empty)
def twinS (K N : Int) (o : ByteArray) : Option (ByteArray × ByteArray) := if isCodeB K N o = true ∧ K = 2 then (List.range 8).findSome? fun L => if L < N.toNat then none else lenTwin 2 N.toNat o L else none
def twinA (K N : Int) (o : ByteArray) : ByteArray := optS ((twinS K N o).map (·.1))
def twinB (K N : Int) (o : ByteArray) : ByteArray := optS ((twinS K N o).map (·.2))
def twinF (K N : Int) (o : ByteArray) : Bool := (twinS K N o).isSome
theorem twin_no {K N : Int} {o : ByteArray} (h : ¬ (isCodeB K N o = true ∧ K = 2)) : twinS K N o = none := by unfold twinS; rw [if_neg h]
theorem twin_at {n L : Nat} {o : ByteArray} (hc : isCodeB 2 (n : Int) o = true) (hL : L ≤ 7) (hn : n ≤ L) {r : ByteArray × ByteArray} (h : lenTwin 2 n o L = some r) (h0 : ∀ y, n ≤ y → y < L → lenTwin 2 n o y = none) : twinS 2 (n : Int) o = some r := by
  unfold twinS
  rw [if_pos ⟨hc, rfl⟩, Int.toNat_natCast]
  refine findSome_at (x := L) (by omega) (fun y hy => ?_) (by rw [if_neg (by omega)]; exact h)
  by_cases e : y < n
  · rw [if_pos e]
  · rw [if_neg e]; exact h0 y (by omega) hy
theorem twin_none {n : Nat} {o : ByteArray} (hc : isCodeB 2 (n : Int) o = true) (h0 : ∀ y, n ≤ y → y < 8 → lenTwin 2 n o y = none) : twinS 2 (n : Int) o = none := by
  unfold twinS
  rw [if_pos ⟨hc, rfl⟩, Int.toNat_natCast, List.findSome?_eq_none_iff]
  intro y hy
  by_cases e : y < n
  · rw [if_pos e]
  · rw [if_neg e]; exact h0 y (by omega) (List.mem_range.1 hy)
theorem len_some {k n L i j : Nat} {o : ByteArray} (h : firstPair (twL k n o (allW k L)) (allW k L).length = some (i, j)) : lenTwin k n o L = some ((allW k L).getD i ByteArray.empty, (allW k L).getD j ByteArray.empty) := by
  unfold lenTwin; rw [h]; rfl
theorem len_none {k n L : Nat} {o : ByteArray} (h : firstPair (twL k n o (allW k L)) (allW k L).length = none) : lenTwin k n o L = none := by
  unfold lenTwin; rw [h]; rfl
theorem two_words (L : Nat) (h : L ≤ 7) : 2 ^ L ≤ 128 := Nat.le_trans (Nat.pow_le_pow_right (by decide) h) (by decide)
end Go.Proofs.Ytlncehnbdhkaoaa
