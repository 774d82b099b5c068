/-
  The program's choices (all ascending lists of k of the numbers below n): what the plain words say, a table in new memory, each row in a block of its own; nothing that was there before is changed.
-/
import Derived.Test.YtfbdmheaalmboaaGreatDoorPolyINum
import Derived.Test.YtfbdmheaalmboaaGreatDoorGraphTrim
import Derived.Test.YtfbdmheaalmboaaGreatDoorLiveNum
namespace Go.Proofs.YtfbdmheaalmboaaGreatDoor
open Go Go.RowKit

namespace RowsOwn
variable {w w' : World} {B : Nat} {ob : Option Nat} {vs : List Value} {m : List (List Int)}
/-- One row has turned, or moved to new memory. -/
theorem put (h : RowsOwn w B ob vs m) (hob : ∀ g, ob = some g → g < w.heap.size) {k : Nat} {r r' : Value} (hk : vs[k]? = some r) {xs : List Int} (hr : w'.ownsRow B 3 1 r' xs.length (xs.map (Value.int .i64))) (hg : w.grownBy w' r.ownBlock)
    (hn : r'.ownBlock = r.ownBlock ∨ ∀ g, r'.ownBlock = some g → w.heap.size ≤ g) : RowsOwn w' B ob (vs.set k r') (m.set k xs) := by
  have hl := h.len
  have hkl := (List.getElem?_eq_some_iff.1 hk).1
  have hother : ∀ (j : Nat) (s : Value), j ≠ k → vs[j]? = some s → (s.ownBlock = none ∨ s.ownBlock ≠ r.ownBlock) ∧ (s.ownBlock = none ∨ s.ownBlock ≠ r'.ownBlock) ∧ (r'.ownBlock = none ∨ r'.ownBlock ≠ s.ownBlock) := fun j s hjk hj => by
    have h1 : s.ownBlock = none ∨ s.ownBlock ≠ r.ownBlock := by
      by_cases hlt : j < k
      · exact h.two j k s r hlt hj hk
      · rcases h.two k j r s (by omega) hk hj with e1 | e1
        · cases e2 : s.ownBlock with
          | none => exact Or.inl rfl
          | some g => exact Or.inr (by rw [e1]; intro h; cases h)
        · exact Or.inr (Ne.symm e1)
    refine ⟨h1, ?_, ?_⟩
    · cases e : s.ownBlock with
      | none => exact Or.inl rfl
      | some g =>
        refine Or.inr fun e2 => ?_
        rcases hn with hn | hn
        · rw [hn, ← e] at e2
          rcases h1 with h1 | h1
          · rw [e] at h1; cases h1
          · exact h1 e2
        · have := hn g e2.symm
          have := (h.lt hj g e).2
          omega
    · cases e : r'.ownBlock with
      | none => exact Or.inl rfl
      | some g =>
        refine Or.inr fun e2 => ?_
        rcases hn with hn | hn
        · rw [hn] at e
          rcases h1 with h1 | h1
          · rw [h1] at e2; cases e2
          · exact h1 (e2.symm.trans e.symm)
        · have := hn g e
          have := (h.lt hj g e2.symm).2
          omega
  refine ⟨by simp [hl], fun j s hj => ?_, fun i j s t hij hi hj => ?_⟩
  · by_cases hjk : j = k
    · subst hjk
      rw [List.getElem?_set_self hkl] at hj
      obtain rfl : r' = s := Option.some.inj hj
      have e : (m.set j xs).getD j [] = xs := by simp [List.getD, show j < m.length by omega]
      rw [e]
      refine ⟨hr, ?_⟩
      rcases hn with hn | hn
      · rw [hn]; exact (h.row j r hk).2
      · cases e : r'.ownBlock with
        | none => exact Or.inl rfl
        | some g =>
          refine Or.inr fun e2 => ?_
          have := hn g e
          have := hob g e2.symm
          omega
    · rw [List.getElem?_set_ne (Ne.symm hjk)] at hj
      have e : (m.set k xs).getD j [] = m.getD j [] := by simp [List.getD, List.getElem?_set_ne (Ne.symm hjk)]
      rw [e]
      exact ⟨(h.row j s hj).1.kept hg (hother j s hjk hj).1, (h.row j s hj).2⟩
  · by_cases hik : i = k
    · subst hik
      rw [List.getElem?_set_self hkl] at hi
      obtain rfl : r' = s := Option.some.inj hi
      rw [List.getElem?_set_ne (by omega)] at hj
      exact (hother j t (by omega) hj).2.2
    · rw [List.getElem?_set_ne (Ne.symm hik)] at hi
      by_cases hjk : j = k
      · subst hjk
        rw [List.getElem?_set_self hkl] at hj
        obtain rfl : r' = t := Option.some.inj hj
        exact (hother i s hik hi).2.1
      · rw [List.getElem?_set_ne (Ne.symm hjk)] at hj
        exact h.two i j s t hij hi hj
/-- The rows of two tables, the second of which lies behind S. -/
theorem join (h : RowsOwn w B ob vs m) {S : Nat} {ob2 : Option Nat} {vs2 : List Value} {m2 : List (List Int)} (h2 : RowsOwn w S ob2 vs2 m2) (hS : B ≤ S) (hlt : ∀ (k : Nat) (r : Value) (g : Nat), vs[k]? = some r → r.ownBlock = some g → g < S) (hob : ∀ g, ob = some g → g < S) :
    RowsOwn w B ob (vs ++ vs2) (m ++ m2) := by
  have hl := h.len
  have hl2 := h2.len
  have hat : ∀ (k : Nat) (r : Value), (vs ++ vs2)[k]? = some r → (k < vs.length ∧ vs[k]? = some r) ∨ (vs.length ≤ k ∧ vs2[k - vs.length]? = some r) := fun k r hk => by
    by_cases hlt : k < vs.length
    · rw [List.getElem?_append_left hlt] at hk; exact Or.inl ⟨hlt, hk⟩
    · rw [List.getElem?_append_right (by omega)] at hk; exact Or.inr ⟨by omega, hk⟩
  refine ⟨by simp [hl, hl2], fun k r hk => ?_, fun j k r s hjk hj hk => ?_⟩
  · rcases hat k r hk with ⟨h3, h4⟩ | ⟨h3, h4⟩
    · have e : (m ++ m2).getD k [] = m.getD k [] := by simp [List.getD, List.getElem?_append_left (show k < m.length by omega)]
      rw [e]
      exact h.row k r h4
    · have e : (m ++ m2).getD k [] = m2.getD (k - vs.length) [] := by rw [List.getD_eq_getElem?_getD, List.getElem?_append_right (by omega), List.getD_eq_getElem?_getD, hl]
      rw [e]
      refine ⟨World.ownsRow.mono (h2.row _ r h4).1 hS, ?_⟩
      cases e2 : r.ownBlock with
      | none => exact Or.inl rfl
      | some g =>
        refine Or.inr fun e3 => ?_
        have := (h2.lt h4 g e2).1
        have := hob g e3.symm
        omega
  · rcases hat j r hj with ⟨h3, h4⟩ | ⟨h3, h4⟩
    · rcases hat k s hk with ⟨h5, h6⟩ | ⟨h5, h6⟩
      · exact h.two j k r s hjk h4 h6
      · cases e2 : r.ownBlock with
        | none => exact Or.inl rfl
        | some g =>
          refine Or.inr fun e3 => ?_
          have := (h2.lt h6 g e3.symm).1
          have := hlt j r g h4 e2
          omega
    · rcases hat k s hk with ⟨h5, h6⟩ | ⟨h5, h6⟩
      · omega
      · exact h2.two _ _ r s (by omega) h4 h6
end RowsOwn

/-- The rows in the midst of the loop: those of the second table have got the last number up to i. -/
def midM (m1 m2 : List (List Int)) (x : Int) (i : Nat) : List (List Int) := m1 ++ ((m2.take i).map (fun l => l ++ [x]) ++ m2.drop i)
theorem midM_len (m1 m2 : List (List Int)) (x : Int) (i : Nat) : (midM m1 m2 x i).length = m1.length + m2.length := by
  unfold midM
  rw [List.length_append, List.length_append, List.length_map, List.length_take, List.length_drop]; omega
theorem midM_at (m1 m2 : List (List Int)) (x : Int) {i : Nat} (hi : i < m2.length) : (midM m1 m2 x i).getD (m1.length + i) [] = m2.getD i [] := by
  unfold midM
  rw [List.getD_eq_getElem?_getD, List.getElem?_append_right (by omega), List.getElem?_append_right (by simp; omega), List.getElem?_drop, List.getD_eq_getElem?_getD]
  congr 2
  simp; omega
theorem midM_next (m1 m2 : List (List Int)) (x : Int) {i : Nat} (hi : i < m2.length) : (midM m1 m2 x i).set (m1.length + i) (m2.getD i [] ++ [x]) = midM m1 m2 x (i + 1) := by
  unfold midM
  rw [List.set_append_right _ _ (by omega), Nat.add_sub_cancel_left, List.set_append_right _ _ (by simp; omega), rows_take_next m2 i hi, List.map_append, List.append_assoc]
  congr 2
  have e : (i - ((m2.take i).map fun l => l ++ [x]).length) = 0 := by simp; omega
  have e2 : m2.getD i [] = m2[i] := by simp [List.getD, hi]
  rw [e, e2, List.drop_eq_getElem_cons hi, List.set_cons_zero]
  rfl
theorem midM_all (m1 m2 : List (List Int)) (x : Int) : midM m1 m2 x m2.length = m1 ++ m2.map fun l => l ++ [x] := by
  unfold midM
  rw [List.take_length, List.drop_length, List.append_nil]
theorem midM_none (m1 m2 : List (List Int)) (x : Int) : midM m1 m2 x 0 = m1 ++ m2 := by
  unfold midM; rfl
theorem set_take {fs : List Value} {k : Nat} (r : Value) (hk : k < fs.length) : (fs.set k r).take (k + 1) = fs.take k ++ [r] := by
  rw [List.take_succ_eq_append_getElem (by simp; exact hk), List.getElem_set_self, List.take_set_of_le (Nat.le_refl _)]
theorem set_drop {fs : List Value} {k : Nat} (r : Value) : (fs.set k r).drop (k + 1) = fs.drop (k + 1) := by
  rw [List.drop_set_of_lt (by omega)]

/-- What the loop holds. -/
structure MidState (w1 w : World) (B : Nat) (v2 : Value) (vs2 : List Value) (m1 m2 : List (List Int)) (x : Int) (i : Nat) (v : Value) : Prop where
  hold : ∃ fs, w.ownsRow B 26 1 v (m1.length + i) (fs.take (m1.length + i)) ∧ RowsOwn w B v.ownBlock fs (midM m1 m2 x i) ∧ fs.drop (m1.length + i) = vs2.drop i ∧ fs.length = m1.length + m2.length
  other : w.ownsRow w1.heap.size 26 1 v2 m2.length vs2
  apart : v.ownBlock = none ∨ v.ownBlock ≠ v2.ownBlock
theorem MidState.start {w w1 w2 : World} {v1 v2 : Value} {m1 m2 : List (List Int)} (x : Int) (h1 : OwnG w1 w.heap.size v1 m1) (hb : Below w.heap.size w w1) (hb2 : Below w1.heap.size w1 w2) {vs2 : List Value} (ho2 : w2.ownsRow w1.heap.size 26 1 v2 m2.length vs2) (hr2 : RowsOwn w2 w1.heap.size v2.ownBlock vs2 m2) :
    MidState w1 w2 w.heap.size v2 vs2 m1 m2 x 0 v1 := by
  obtain ⟨vs1, ho1, hr1⟩ := h1
  have hl1 := hr1.len
  have hl2 := hr2.len
  refine ⟨⟨vs1 ++ vs2, ?_, ?_, ?_, by simp [hl1, hl2]⟩, ho2, ?_⟩
  · rw [Nat.add_zero, ← hl1, List.take_left, hl1]
    exact kept_below ho1 hb2
  · rw [midM_none]
    exact (hr1.below hb2).join hr2 hb.size (fun k r g hk hg => (hr1.lt hk g hg).2) fun g hg => (World.ownsRow.lt ho1 g hg).2
  · rw [Nat.add_zero, ← hl1, List.drop_left, List.drop_zero]
  · cases e : v1.ownBlock with
    | none => exact Or.inl rfl
    | some g =>
      refine Or.inr fun e2 => ?_
      have := (World.ownsRow.lt ho1 g e).2
      have := (World.ownsRow.lt ho2 g e2.symm).1
      omega
/-- The row that comes next. -/
theorem MidState.row {w1 w : World} {B : Nat} {v v2 : Value} {vs2 : List Value} {m1 m2 : List (List Int)} {x : Int} {i : Nat} (h : MidState w1 w B v2 vs2 m1 m2 x i v) (hi : i < m2.length) (hl2 : vs2.length = m2.length) :
    ∃ r, vs2[i]? = some r ∧ w.ownsRow B 3 1 r (m2.getD i []).length ((m2.getD i []).map (Value.int .i64)) := by
  obtain ⟨fs, _, hr, hd, hfl⟩ := h.hold
  have hk : fs[m1.length + i]? = vs2[i]? := by
    have e := congrArg (fun l => l[0]?) hd
    simpa using e
  have hk2 : vs2[i]? = some vs2[i] := List.getElem?_eq_getElem (by omega)
  have := (hr.row (m1.length + i) vs2[i] (by rw [hk, hk2])).1
  rw [midM_at m1 m2 x hi] at this
  exact ⟨_, hk2, this⟩
/-- The row has got its number .. -/
theorem mid_row {w1 w w3 : World} {B : Nat} {v v2 : Value} {fs vs2 : List Value} {m1 m2 : List (List Int)} {x : Int} {i : Nat} (hi : i < m2.length)
    (h1 : w.ownsRow B 26 1 v (m1.length + i) (fs.take (m1.length + i))) (h2 : RowsOwn w B v.ownBlock fs (midM m1 m2 x i)) (h3 : fs.drop (m1.length + i) = vs2.drop i) (ho : w.ownsRow w1.heap.size 26 1 v2 m2.length vs2)
    (hne : ∀ (k : Nat) (r : Value), vs2[k]? = some r → r.ownBlock = none ∨ r.ownBlock ≠ v2.ownBlock) {r : Value} (hr : vs2[i]? = some r) (o : Obj) {gg cap : Nat}
    (ho3 : w3.ownsRow B 3 1 (.slice (some ⟨gg, 0, none⟩) ((m2.getD i []).length + 1) cap) ((m2.getD i []).length + 1) ((m2.getD i []).map (Value.int .i64) ++ [.int .i64 x])) (hg3 : (w.alloc o).grownBy w3 r.ownBlock) (hat3 : r.ownBlock = some gg ∨ gg = w.heap.size + 1) :
    w3.ownsRow B 26 1 v (m1.length + i) (fs.take (m1.length + i)) ∧ RowsOwn w3 B v.ownBlock (fs.set (m1.length + i) (.slice (some ⟨gg, 0, none⟩) ((m2.getD i []).length + 1) cap)) (midM m1 m2 x (i + 1)) ∧ w3.ownsRow w1.heap.size 26 1 v2 m2.length vs2 := by
  have hk : fs[m1.length + i]? = some r := by
    have e := congrArg (fun l => l[0]?) h3
    rw [← hr]
    simpa using e
  have hflip : ∀ {a b : Option Nat}, (a = none ∨ a ≠ b) → (b = none ∨ b ≠ a) := fun {a b} h => by
    cases b with
    | none => exact Or.inl rfl
    | some g =>
      refine Or.inr fun e => ?_
      rcases h with h | h
      · rw [h] at e; cases e
      · exact h e.symm
  refine ⟨(h1.alloc o).kept hg3 (hflip (h2.row _ r hk).2), ?_, (ho.alloc o).kept hg3 (hflip (hne i r hr))⟩
  have hb : Below w.heap.size w (w.alloc o) := (Below.refl _ _).alloc (Nat.le_refl _) _
  have h4 := (h2.below hb).put (fun g hg => by have := (World.ownsRow.lt h1 g hg).2; rw [World.size_alloc]; omega) hk (r' := .slice (some ⟨gg, 0, none⟩) ((m2.getD i []).length + 1) cap) (xs := m2.getD i [] ++ [x]) (by rw [List.length_append, List.map_append]; exact ho3) hg3 (by
    rcases hat3 with h | h
    · exact Or.inl h.symm
    · refine Or.inr fun g hg => ?_
      have : gg = g := Option.some.inj hg
      rw [World.size_alloc]; omega)
  rw [midM_next m1 m2 x hi] at h4
  exact h4
/-- .. and stands behind the others. -/
theorem mid_next {w1 w3 w5 : World} {B : Nat} {v v2 u : Value} {fs vs2 : List Value} {m1 m2 : List (List Int)} {x : Int} {i : Nat} (hi : i < m2.length)
    (h2 : RowsOwn w3 B v.ownBlock (fs.set (m1.length + i) u) (midM m1 m2 x (i + 1))) (h3 : fs.drop (m1.length + i) = vs2.drop i) (hfl : fs.length = m1.length + m2.length) (ho : w3.ownsRow w1.heap.size 26 1 v2 m2.length vs2)
    (hap : v.ownBlock = none ∨ v.ownBlock ≠ v2.ownBlock) (o : Obj) {gg cap : Nat}
    (ho5 : w5.ownsRow B 26 1 (.slice (some ⟨gg, 0, none⟩) (m1.length + i + 1) cap) (m1.length + i + 1) (fs.take (m1.length + i) ++ [u])) (hg5 : (w3.alloc o).grownBy w5 v.ownBlock) (hat5 : v.ownBlock = some gg ∨ gg = w3.heap.size + 1) :
    MidState w1 w5 B v2 vs2 m1 m2 x (i + 1) (.slice (some ⟨gg, 0, none⟩) (m1.length + i + 1) cap) := by
  have hb : Below w3.heap.size w3 (w3.alloc o) := (Below.refl _ _).alloc (Nat.le_refl _) _
  have hR1 := h2.below hb
  have hR2 : RowsOwn (w3.alloc o) B (some gg) (fs.set (m1.length + i) u) (midM m1 m2 x (i + 1)) := hR1.moved (by
    rcases hat5 with h | h
    · exact Or.inl h.symm
    · exact Or.inr fun g e => by
        have : gg = g := Option.some.inj e
        rw [World.size_alloc]; omega)
  have hR3 := hR2.kept hg5 fun k r hk => (hR1.row k r hk).2
  have hv2 : v2.ownBlock = none ∨ v2.ownBlock ≠ v.ownBlock := by
    cases e : v2.ownBlock with
    | none => exact Or.inl rfl
    | some g =>
      refine Or.inr fun e2 => ?_
      rcases hap with h | h
      · rw [h] at e2; cases e2
      · exact h (e2.symm.trans e.symm)
  refine ⟨⟨fs.set (m1.length + i) u, ?_, hR3, ?_, by simp [hfl]⟩, (ho.alloc o).kept hg5 hv2, ?_⟩
  · rw [show m1.length + (i + 1) = m1.length + i + 1 by omega, set_take u (by omega)]
    exact ho5
  · rw [show m1.length + (i + 1) = m1.length + i + 1 by omega, set_drop u]
    have e := congrArg (fun l => l.drop 1) h3
    simpa using e
  · refine Or.inr fun e => ?_
    rcases hat5 with h | h
    · rcases hap with h4 | h4
      · rw [h] at h4; cases h4
      · exact h4 (h.trans e)
    · have h6 : v2.ownBlock = some gg := e.symm
      have := (World.ownsRow.lt ho gg h6).2
      omega
theorem MidState.all {w1 w : World} {B : Nat} {v v2 : Value} {vs2 : List Value} {m1 m2 : List (List Int)} {x : Int} (h : MidState w1 w B v2 vs2 m1 m2 x m2.length v) : OwnG w B v (m1 ++ m2.map fun l => l ++ [x]) := by
  obtain ⟨fs, h1, h2, h3, h4⟩ := h.hold
  rw [midM_all] at h2
  rw [List.take_of_length_le (by omega)] at h1
  refine ⟨fs, ?_, h2⟩
  rw [List.length_append, List.length_map]
  exact h1
theorem one_empty (w : World) : OwnG (w.alloc (.cells #[.slice none 0 0] 26)) w.heap.size (.slice (some ⟨w.heap.size, 0, none⟩) 1 1) [[]] := by
  refine ⟨[.slice none 0 0], ⟨rfl, Or.inr ⟨w.heap.size, 1, #[.slice none 0 0], rfl, Nat.le_refl _, heap_alloc_new w _, Nat.le_refl _, by unfold maxLen; omega, rfl, rfl⟩⟩, rfl, fun k r hk => ?_, fun j k r s hjk hj hk => ?_⟩
  · have hk2 := (List.getElem?_eq_some_iff.1 hk).1
    simp at hk2
    subst hk2
    obtain rfl : Value.slice none 0 0 = r := by simpa using hk
    exact ⟨World.ownsRow_nil _ _ _ _, Or.inl rfl⟩
  · have hk2 := (List.getElem?_eq_some_iff.1 hk).1
    simp at hk2
    omega
end Go.Proofs.YtfbdmheaalmboaaGreatDoor
