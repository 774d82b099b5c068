/-
  PLAIN FACTS ON TABLES IN MEMORY OF THE CALL'S OWN (no program's function in this text): each row in a block of its own; a row is put behind the others, a number or a row is put in another's place.
-/
import Derived.Test.YtcoiodfggaanbaaGrid
import Derived.Deep.Onto
namespace Go.Proofs.Ytcoiodfggaanbaa
open Go Go.RowKit

/-- The values vs are slices of the rows of m, each in a block of its own from B on, none in the block ob. -/
structure RowsOwn (w : World) (B : Nat) (ob : Option Nat) (vs : List Value) (m : List (List Int)) : Prop where
  len : vs.length = m.length
  row : ∀ (k : Nat) (r : Value), vs[k]? = some r → w.ownsRow B 3 1 r (m.getD k []).length ((m.getD k []).map (Value.int .i64)) ∧ (r.ownBlock = none ∨ r.ownBlock ≠ ob)
  two : ∀ (j k : Nat) (r s : Value), j < k → vs[j]? = some r → vs[k]? = some s → r.ownBlock = none ∨ r.ownBlock ≠ s.ownBlock
namespace RowsOwn
variable {w w' : World} {B : Nat} {ob : Option Nat} {vs : List Value} {m : List (List Int)}
theorem nil (w : World) (B : Nat) (ob : Option Nat) : RowsOwn w B ob [] [] := ⟨rfl, fun k r h => by simp at h, fun j k r s _ h => by simp at h⟩
theorem kept (h : RowsOwn w B ob vs m) {o : Option Nat} (hg : w.grownBy w' o) (hne : ∀ (k : Nat) (r : Value), vs[k]? = some r → r.ownBlock = none ∨ r.ownBlock ≠ o) : RowsOwn w' B ob vs m :=
  ⟨h.len, fun k r hk => ⟨(h.row k r hk).1.kept hg (hne k r hk), (h.row k r hk).2⟩, h.two⟩
theorem keptOuter (h : RowsOwn w B ob vs m) (hg : w.grownBy w' ob) : RowsOwn w' B ob vs m := h.kept hg fun k r hk => (h.row k r hk).2
theorem lt (h : RowsOwn w B ob vs m) {k : Nat} {r : Value} (hk : vs[k]? = some r) : ∀ g, r.ownBlock = some g → B ≤ g ∧ g < w.heap.size := (h.row k r hk).1.lt
theorem below (h : RowsOwn w B ob vs m) (hb : Below w.heap.size w w') : RowsOwn w' B ob vs m :=
  h.kept (o := none) ⟨hb.os, hb.tape, hb.output, hb.size, fun j hj _ => hb.block j hj⟩ fun k r _ => by
    cases e : r.ownBlock with
    | none => exact Or.inl rfl
    | some g => exact Or.inr (by intro h; cases h)
/-- The outer block has moved to new memory. -/
theorem moved (h : RowsOwn w B ob vs m) {ob' : Option Nat} (hn : ob' = ob ∨ ∀ g, ob' = some g → w.heap.size ≤ g) : RowsOwn w B ob' vs m := by
  refine ⟨h.len, fun k r hk => ⟨(h.row k r hk).1, ?_⟩, h.two⟩
  rcases hn with rfl | hn
  · exact (h.row k r hk).2
  · cases e : r.ownBlock with
    | none => exact Or.inl rfl
    | some g =>
      refine Or.inr fun e2 => ?_
      have := hn g e2.symm
      have := (h.lt hk g e).2
      omega
theorem push (h : RowsOwn w B ob vs m) {r : Value} {xs : List Int} (hr : w.ownsRow B 3 1 r xs.length (xs.map (Value.int .i64))) (h1 : r.ownBlock = none ∨ r.ownBlock ≠ ob)
    (h2 : ∀ (k : Nat) (s : Value), vs[k]? = some s → s.ownBlock = none ∨ s.ownBlock ≠ r.ownBlock) : RowsOwn w B ob (vs ++ [r]) (m ++ [xs]) := by
  have hl := h.len
  refine ⟨by simp [hl], fun k s hk => ?_, fun j k s t hjk hj hk => ?_⟩
  · by_cases hlt : k < vs.length
    · rw [List.getElem?_append_left hlt] at hk
      have e : (m ++ [xs]).getD k [] = m.getD k [] := by simp [List.getD, List.getElem?_append_left (show k < m.length by omega)]
      rw [e]
      exact h.row k s hk
    · have hk2 : k = vs.length := by
        have := (List.getElem?_eq_some_iff.1 hk).1
        simp at this; omega
      subst hk2
      rw [List.getElem?_append_right (Nat.le_refl _), Nat.sub_self] at hk
      obtain rfl : r = s := by simpa using hk
      have e : (m ++ [xs]).getD vs.length [] = xs := by simp [List.getD, hl]
      rw [e]
      exact ⟨hr, h1⟩
  · by_cases hlt : k < vs.length
    · rw [List.getElem?_append_left hlt] at hk
      rw [List.getElem?_append_left (by omega)] at hj
      exact h.two j k s t hjk hj hk
    · have hk2 : k = vs.length := by
        have := (List.getElem?_eq_some_iff.1 hk).1
        simp at this; omega
      subst hk2
      rw [List.getElem?_append_right (Nat.le_refl _), Nat.sub_self] at hk
      obtain rfl : r = t := by simpa using hk
      rw [List.getElem?_append_left hjk] at hj
      exact h2 j s hj
/-- One row has turned. -/
theorem setRow (h : RowsOwn w B ob vs m) {k : Nat} {r : Value} (hk : vs[k]? = some r) {xs : List Int} (hx : xs.length = (m.getD k []).length) (hr : w'.ownsRow B 3 1 r xs.length (xs.map (Value.int .i64))) (hg : w.grownBy w' r.ownBlock) : RowsOwn w' B ob vs (m.set k xs) := by
  have hl := h.len
  have hkl := (List.getElem?_eq_some_iff.1 hk).1
  refine ⟨by simp [hl], fun j s hj => ?_, h.two⟩
  have hjl := (List.getElem?_eq_some_iff.1 hj).1
  by_cases hjk : j = k
  · subst hjk
    obtain rfl : r = s := by rw [hk] at hj; exact Option.some.inj hj
    have e : (m.set j xs).getD j [] = xs := by simp [List.getD, show j < m.length by omega]
    rw [e]
    exact ⟨hr, (h.row j r hk).2⟩
  · have e : (m.set k xs).getD j [] = m.getD j [] := by simp [List.getD, List.getElem?_set_ne (Ne.symm hjk)]
    rw [e]
    refine ⟨(h.row j s hj).1.kept hg ?_, (h.row j s hj).2⟩
    by_cases hlt : j < k
    · exact h.two j k s r hlt hj hk
    · rcases h.two k j r s (by omega) hk hj with e1 | e1
      · cases e2 : s.ownBlock with
        | none => exact Or.inl rfl
        | some g => exact Or.inr (by rw [e1]; intro h; cases h)
      · exact Or.inr (Ne.symm e1)
end RowsOwn

/-- A table in memory of the call's own, each row in a block of its own. -/
def OwnG (w : World) (B : Nat) (v : Value) (m : List (List Int)) : Prop := ∃ vs, w.ownsRow B 68 1 v m.length vs ∧ RowsOwn w B v.ownBlock vs m
theorem OwnG.below {w w' : World} {B : Nat} {v : Value} {m : List (List Int)} (h : OwnG w B v m) (hb : Below w.heap.size w w') : OwnG w' B v m := by
  obtain ⟨vs, ho, hr⟩ := h
  refine ⟨vs, ho.kept (row := none) ⟨hb.os, hb.tape, hb.output, hb.size, fun j hj _ => hb.block j hj⟩ ?_, hr.below hb⟩
  cases e : v.ownBlock with
  | none => exact Or.inl rfl
  | some g => exact Or.inr (by intro h; cases h)
theorem OwnG.mono {w : World} {B B' : Nat} {v : Value} {m : List (List Int)} (h : OwnG w B v m) (hB : B' ≤ B) : OwnG w B' v m := by
  obtain ⟨vs, ho, hr⟩ := h
  exact ⟨vs, World.ownsRow.mono ho hB, ⟨hr.len, fun k r hk => ⟨World.ownsRow.mono (hr.row k r hk).1 hB, (hr.row k r hk).2⟩, hr.two⟩⟩
/-- What an owned row of numbers reads as. -/
theorem rowS_of_owns {w : World} {B : Nat} {r : Value} {xs : List Int} (h : w.ownsRow B 3 1 r xs.length (xs.map (Value.int .i64))) : ∃ A c, r = .slice A xs.length c ∧ RowS w A xs := by
  rcases h.2 with ⟨rfl, h0⟩ | ⟨g, cap, cur, rfl, _, _, _⟩
  · exact ⟨none, 0, by rw [h0], fun hp => by omega⟩
  · exact ⟨some ⟨g, 0, none⟩, cap, rfl, fun _ => ⟨g, 0, rfl, IntsAt.of_owns h rfl, (h.lt g rfl).2⟩⟩
theorem OwnG.gridS {w : World} {B : Nat} {v : Value} {m : List (List Int)} (h : OwnG w B v m) : ∃ A c, v = .slice A m.length c ∧ GridS w A m := by
  obtain ⟨vs, ho, hr⟩ := h
  rcases ho.2 with ⟨rfl, h0⟩ | ⟨g, cap, cur, rfl, _, _, _⟩
  · exact ⟨none, 0, by rw [h0], fun hp => by omega⟩
  · refine ⟨some ⟨g, 0, none⟩, cap, rfl, fun _ => ⟨g, 0, rfl, fun k hk => ?_, (ho.lt g rfl).2⟩⟩
    have hl := hr.len
    have hk' : vs[k]? = some vs[k] := List.getElem?_eq_getElem (by omega)
    obtain ⟨A, c, e, hs⟩ := rowS_of_owns (hr.row k _ hk').1
    refine ⟨A, c, ?_, hs⟩
    rw [Nat.zero_add, ho.cellAt k (by omega), hk', e]
theorem OwnG.drew {w : World} {B : Nat} {v : Value} {m : List (List Int)} (h : OwnG w B v m) : OwnG w.drew B v m := by
  obtain ⟨vs, ho, hr⟩ := h
  exact ⟨vs, ho, ⟨hr.len, hr.row, hr.two⟩⟩
/-- The same, the rows in blocks below S. -/
def OwnIn (w : World) (B S : Nat) (v : Value) (m : List (List Int)) : Prop := ∃ vs, w.ownsRow B 68 1 v m.length vs ∧ RowsOwn w B v.ownBlock vs m ∧ ∀ (k : Nat) (r : Value) (g : Nat), vs[k]? = some r → r.ownBlock = some g → g < S
theorem OwnG.ownIn {w : World} {B : Nat} {v : Value} {m : List (List Int)} (h : OwnG w B v m) : OwnIn w B w.heap.size v m := by
  obtain ⟨vs, ho, hr⟩ := h
  exact ⟨vs, ho, hr, fun k r g hk hg => (hr.lt hk g hg).2⟩
theorem OwnIn.ownG {w : World} {B S : Nat} {v : Value} {m : List (List Int)} (h : OwnIn w B S v m) : OwnG w B v m := by
  obtain ⟨vs, ho, hr, _⟩ := h
  exact ⟨vs, ho, hr⟩
theorem OwnIn.below {w w' : World} {B S : Nat} {v : Value} {m : List (List Int)} (h : OwnIn w B S v m) (hb : Below w.heap.size w w') : OwnIn w' B S v m := by
  obtain ⟨vs, ho, hr, hs⟩ := h
  refine ⟨vs, ho.kept (row := none) ⟨hb.os, hb.tape, hb.output, hb.size, fun j hj _ => hb.block j hj⟩ ?_, hr.below hb, hs⟩
  cases e : v.ownBlock with
  | none => exact Or.inl rfl
  | some g => exact Or.inr (by intro h; cases h)
theorem slice_of_owns {w : World} {B e n : Nat} {r : Value} {xs : List Value} (h : w.ownsRow B e 1 r n xs) : ∃ A c, r = .slice A n c := by
  rcases h.2 with ⟨rfl, h0⟩ | ⟨g, cap, cur, rfl, _⟩
  · exact ⟨none, 0, by rw [h0]⟩
  · exact ⟨_, cap, rfl⟩
/-- A table of which one row has turned. -/
theorem OwnG.setRow {w w' : World} {B g cap N : Nat} {m : List (List Int)} {vs : List Value} (ho : w.ownsRow B 68 1 (.slice (some ⟨g, 0, none⟩) N cap) N vs) (hr : RowsOwn w B (some g) vs m) {k : Nat} {r : Value} (hk : vs[k]? = some r)
    {xs : List Int} (hx : xs.length = (m.getD k []).length) (hr' : w'.ownsRow B 3 1 r xs.length (xs.map (Value.int .i64))) (hg : w.grownBy w' r.ownBlock) :
    w'.ownsRow B 68 1 (.slice (some ⟨g, 0, none⟩) N cap) N vs ∧ RowsOwn w' B (some g) vs (m.set k xs) := by
  refine ⟨ho.kept hg ?_, hr.setRow hk hx hr' hg⟩
  rcases (hr.row k r hk).2 with e | e
  · rw [e]; exact Or.inr (by intro h; cases h)
  · exact Or.inr (Ne.symm e)
end Go.Proofs.Ytcoiodfggaanbaa
