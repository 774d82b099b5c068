/-
  Tables and lists in memory whose rows have room for themselves (no slice is longer than its capacity).
-/
import Derived.Test.YtanelokploifhaaMidTexts
namespace Go.Proofs.Ytanelokploifhaa
open Go Go.RowKit

/-- The slice A holds the table m, and each row has room for itself. -/
def GridC (w : World) (A : Option Addr) (m : List (List Int)) : Prop := 0 < m.length → ∃ b off, A = some ⟨b, off, none⟩ ∧ (∀ k, k < m.length → ∃ A' c, w.cell? ⟨b, off + k, none⟩ = some (.slice A' (m.getD k []).length c) ∧ RowS w A' (m.getD k []) ∧ (m.getD k []).length ≤ c) ∧ b < w.heap.size
theorem GridC.below {w w' : World} {A : Option Addr} {m : List (List Int)} (h : GridC w A m) (hb : Below w.heap.size w w') : GridC w' A m := by
  intro hp
  obtain ⟨b, off, hA, hs, hg⟩ := h hp
  exact ⟨b, off, hA, fun k hk => by
    obtain ⟨A', c, h1, h2, h3⟩ := hs k hk
    exact ⟨A', c, (hb.cell (p := ⟨b, off + k, none⟩) hg).trans h1, h2.below hb, h3⟩, Nat.lt_of_lt_of_le hg hb.size⟩
theorem GridC.gridS {w : World} {A : Option Addr} {m : List (List Int)} (h : GridC w A m) : GridS w A m := by
  intro hp
  obtain ⟨b, off, hA, hs, hg⟩ := h hp
  exact ⟨b, off, hA, fun k hk => by
    obtain ⟨A', c, h1, h2, _⟩ := hs k hk
    exact ⟨A', c, h1, h2⟩, hg⟩
/-- Row k, which is not empty. -/
theorem GridC.row {w : World} {A : Option Addr} {m : List (List Int)} (h : GridC w A m) {k : Nat} (hk : k < m.length) (hp : 0 < (m.getD k []).length) :
    ∃ b off b2 off2 c, A = some ⟨b, off, none⟩ ∧ w.cell? ⟨b, off + k, none⟩ = some (.slice (some ⟨b2, off2, none⟩) (m.getD k []).length c) ∧ IntsAt w b2 off2 (m.getD k []) ∧ (m.getD k []).length ≤ c ∧ b < w.heap.size ∧ b2 < w.heap.size := by
  obtain ⟨b, off, hA, hs, hg⟩ := h (by omega)
  obtain ⟨A', c, h1, h2, h3⟩ := hs k hk
  obtain ⟨b2, off2, rfl, h4, h5⟩ := h2 hp
  exact ⟨b, off, b2, off2, c, hA, h1, h4, h3, hg, h5⟩
theorem row_room {w : World} {B e n : Nat} {v : Value} {xs : List Value} (h : w.ownsRow B e 1 v n xs) : ∃ A c, v = .slice A n c ∧ n ≤ c := by
  rcases h.2 with ⟨rfl, h0⟩ | ⟨g, cap, cur, rfl, _, _, h1, _⟩
  · exact ⟨none, 0, by rw [h0], by omega⟩
  · exact ⟨_, cap, rfl, h1⟩
theorem OwnG.gridC {w : World} {B : Nat} {v : Value} {m : List (List Int)} (h : OwnG w B v m) : ∃ A c, v = .slice A m.length c ∧ GridC w A m := by
  obtain ⟨vs, ho, hr⟩ := h
  rcases ho.2 with ⟨rfl, h0⟩ | ⟨g, cap, cur, rfl, _, _, _⟩
  · exact ⟨none, 0, by rw [h0], fun hp => by omega⟩
  · refine ⟨some ⟨g, 0, none⟩, cap, rfl, fun _ => ⟨g, 0, rfl, fun k hk => ?_, (ho.lt g rfl).2⟩⟩
    have hl := hr.len
    have hk' : vs[k]? = some vs[k] := List.getElem?_eq_getElem (by omega)
    have h1 := (hr.row k _ hk').1
    obtain ⟨A, c, e, hs⟩ := rowS_of_owns h1
    obtain ⟨A2, c2, e2, hc⟩ := row_room h1
    rw [e] at e2
    simp only [Value.slice.injEq, true_and] at e2
    obtain ⟨_, rfl⟩ := e2
    refine ⟨A, c, ?_, hs, hc⟩
    rw [Nat.zero_add, ho.cellAt k (by omega), hk', e]
/-- The value is a slice that holds the table, and each row has room for itself. -/
def GridVC (w : World) (v : Value) (m : List (List Int)) : Prop := ∃ A c, v = .slice A m.length c ∧ GridC w A m
theorem GridVC.gridV {w : World} {v : Value} {m : List (List Int)} (h : GridVC w v m) : GridV w v m := by
  obtain ⟨A, c, hv, hg⟩ := h
  exact ⟨A, c, hv, hg.gridS⟩
theorem GridVC.below {w w' : World} {v : Value} {m : List (List Int)} (h : GridVC w v m) (hb : Below w.heap.size w w') : GridVC w' v m := by
  obtain ⟨A, c, hv, hg⟩ := h
  exact ⟨A, c, hv, hg.below hb⟩
theorem OwnG.gridVC {w : World} {B : Nat} {v : Value} {m : List (List Int)} (h : OwnG w B v m) : GridVC w v m := h.gridC
/-- Row k, empty or not. -/
theorem GridC.rowAt {w : World} {A : Option Addr} {m : List (List Int)} (h : GridC w A m) {k : Nat} (hk : k < m.length) :
    ∃ b off A' c, A = some ⟨b, off, none⟩ ∧ w.cell? ⟨b, off + k, none⟩ = some (.slice A' (m.getD k []).length c) ∧ RowS w A' (m.getD k []) ∧ (m.getD k []).length ≤ c ∧ b < w.heap.size := by
  obtain ⟨b, off, hA, hs, hg⟩ := h (by omega)
  obtain ⟨A', c, h1, h2, h3⟩ := hs k hk
  exact ⟨b, off, A', c, hA, h1, h2, h3, hg⟩
/-- The value is a slice that holds the list, and it has room for itself. -/
def RowVC (w : World) (v : Value) (xs : List Int) : Prop := ∃ A c, v = .slice A xs.length c ∧ RowS w A xs ∧ xs.length ≤ c
theorem RowVC.rowV {w : World} {v : Value} {xs : List Int} (h : RowVC w v xs) : RowV w v xs := by
  obtain ⟨A, c, hv, hr, _⟩ := h
  exact ⟨A, c, hv, hr⟩
theorem RowVC.below {w w' : World} {v : Value} {xs : List Int} (h : RowVC w v xs) (hb : Below w.heap.size w w') : RowVC w' v xs := by
  obtain ⟨A, c, hv, hr, hc⟩ := h
  exact ⟨A, c, hv, hr.below hb, hc⟩
theorem OwnA.rowVC {w : World} {B : Nat} {v : Value} {xs : List Int} (h : OwnA w B v xs) : RowVC w v xs := by
  obtain ⟨A, c, rfl, hr⟩ := h.rowV
  obtain ⟨A2, c2, e, hc⟩ := row_room h
  simp only [Value.slice.injEq, true_and] at e
  obtain ⟨_, rfl⟩ := e
  exact ⟨A, c, rfl, hr, hc⟩
end Go.Proofs.Ytanelokploifhaa
