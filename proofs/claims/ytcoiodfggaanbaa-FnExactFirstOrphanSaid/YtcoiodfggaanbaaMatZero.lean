/-
  Tables that the call makes: a row is put behind the others, a number is put in another's place; the model's table of zeros.
-/
import Derived.Test.YtcoiodfggaanbaaGridOps
import Derived.Test.YtcoiodfggaanbaaGridOwn
import Derived.Deep.AppendLies
namespace Go.Proofs.Ytcoiodfggaanbaa
open Go Go.RowKit

/-- A row that is new has been put behind the others. -/
theorem own_append {w0 w w3 : World} {B gg cap : Nat} {v r : Value} {vs : List Value} {m : List (List Int)} {xs : List Int} (hO : w0.ownsRow B 68 1 v m.length vs) (hR : RowsOwn w0 B v.ownBlock vs m) (hb : Below w0.heap.size w0 w)
    (hr : w.ownsRow B 3 1 r xs.length (xs.map (Value.int .i64))) (hf : ∀ g, r.ownBlock = some g → w0.heap.size ≤ g)
    (ho3 : w3.ownsRow B 68 1 (.slice (some ⟨gg, 0, none⟩) (m.length + 1) cap) (m.length + 1) (vs ++ [r])) (hg3 : w.grownBy w3 v.ownBlock) (hat : v.ownBlock = some gg ∨ gg = w.heap.size) :
    RowsOwn w3 B (some gg) (vs ++ [r]) (m ++ [xs]) := by
  have hv := hO.lt
  have hrl := hr.lt
  have hbs := hb.size
  have hR1 := hR.below hb
  have hgg : ∀ g, r.ownBlock = some g → g ≠ gg := by
    intro g hg e
    rcases hat with h | h
    · have := (hv gg h).2
      have := hf g hg
      omega
    · have := (hrl g hg).2
      omega
  have hne : r.ownBlock = none ∨ r.ownBlock ≠ v.ownBlock := by
    cases e : r.ownBlock with
    | none => exact Or.inl rfl
    | some g =>
      refine Or.inr fun h => ?_
      have := (hv g h.symm).2
      have := hf g e
      omega
  have hR2 : RowsOwn w3 B (some gg) vs m := by
    have h1 : RowsOwn w B (some gg) vs m := by
      refine ⟨hR1.len, fun k s hk => ⟨(hR1.row k s hk).1, ?_⟩, hR1.two⟩
      cases e : s.ownBlock with
      | none => exact Or.inl rfl
      | some g =>
        refine Or.inr fun h => ?_
        obtain rfl := Option.some.inj h
        rcases hat with h2 | h2
        · rcases (hR.row k s hk).2 with h3 | h3
          · rw [e] at h3; cases h3
          · exact h3 (e.trans h2.symm)
        · have := (hR1.lt hk _ e).2
          omega
    exact h1.kept hg3 fun k s hk => (hR1.row k s hk).2
  refine hR2.push (hr.kept hg3 hne) ?_ fun k s hk => ?_
  · cases e : r.ownBlock with
    | none => exact Or.inl rfl
    | some g => exact Or.inr fun h => hgg g e (Option.some.inj h)
  · cases e : s.ownBlock with
    | none => exact Or.inl rfl
    | some g =>
      refine Or.inr fun h => ?_
      have := (hR.lt hk g e).2
      have := hf g h.symm
      omega
/-- Number j of row i: where it lies, and what the table is once another number has been put there. -/
theorem OwnG.at {w : World} {B : Nat} {v : Value} {m : List (List Int)} (h : OwnG w B v m) {i j : Nat} (hi : i < m.length) (hj : j < (m.getD i []).length) :
    ∃ g cap gi ci, v = .slice (some ⟨g, 0, none⟩) m.length cap ∧ w.cell? ⟨g, i, none⟩ = some (.slice (some ⟨gi, 0, none⟩) (m.getD i []).length ci) ∧ w.cell? ⟨gi, j, none⟩ = some (.int .i64 (cellOf m i j)) ∧ w.frozen? ⟨gi, j, none⟩ = false ∧ B ≤ gi ∧ gi < w.heap.size ∧
      ∀ x : Int, OwnG (w.setCell ⟨gi, j, none⟩ (.int .i64 x)) B v (m.set i ((m.getD i []).set j x)) := by
  obtain ⟨vs, ho, hr⟩ := h
  rcases ho.2 with ⟨_, h0⟩ | ⟨g, cap, cur, rfl, _⟩
  · omega
  have hl := hr.len
  have hv : vs[i]? = some vs[i] := List.getElem?_eq_getElem (by omega)
  obtain ⟨h1, h2⟩ := hr.row i _ hv
  rcases h1.2 with ⟨_, h0⟩ | ⟨gi, ci, cur2, he, _⟩
  · omega
  rw [he] at hv h1 h2
  have hc : w.cell? ⟨gi, j, none⟩ = some (.int .i64 (cellOf m i j)) := by
    rw [h1.cellAt j (by omega), List.getElem?_map, List.getElem?_eq_getElem hj]
    simp [cellOf, List.getD, hi]
    have e : m[i]? = some m[i] := List.getElem?_eq_getElem hi
    simp [List.getD, e] at hj
    rw [List.getElem?_eq_getElem hj]; rfl
  refine ⟨g, cap, gi, ci, rfl, ?_, hc, h1.frozenAt j, (h1.lt gi rfl).1, (h1.lt gi rfl).2, fun x => ?_⟩
  · rw [ho.cellAt i (by omega), hv]
  · have hst := h1.stored j (.int .i64 x)
    have e1 : ((m.getD i []).map (Value.int .i64)).set j (.int .i64 x) = ((m.getD i []).set j x).map (Value.int .i64) := by rw [List.map_set]
    rw [e1] at hst
    have hs2 := OwnG.setRow ho hr hv (xs := (m.getD i []).set j x) (by simp) (by rw [List.length_set]; exact hst.1) hst.2
    exact ⟨vs, by rw [List.length_set]; exact hs2.1, hs2.2⟩

theorem tabOf_next (n m : Nat) (f : Nat → Nat → Int) : tabOf (n + 1) m f = tabOf n m f ++ [(List.range m).map (f n)] := by
  unfold tabOf
  rw [List.range_succ, List.map_append]; rfl
theorem tabOf_set {n m i j : Nat} (f : Nat → Nat → Int) (x : Int) (hi : i < n) : (tabOf n m f).set i (((tabOf n m f).getD i []).set j x) = tabOf n m fun a b => if a = i ∧ b = j then x else f a b := by
  rw [tabOf_row hi]
  refine List.ext_getElem (by simp [tabOf]) fun a h1 h2 => ?_
  have ha : a < n := by simpa [tabOf] using h2
  rw [List.getElem_set]
  by_cases e : i = a
  · subst e
    rw [if_pos rfl]
    refine List.ext_getElem (by simp [tabOf]) fun b k1 k2 => ?_
    simp [tabOf, List.getElem_set]
    by_cases e2 : j = b
    · subst e2; simp
    · rw [if_neg e2, if_neg (Ne.symm e2)]
  · rw [if_neg e]
    simp [tabOf, Ne.symm e]
theorem replicate_zero (n : Nat) : List.replicate n (Value.int .i64 0) = ((List.range n).map fun _ => (0 : Int)).map (Value.int .i64) := by
  induction n with
  | zero => rfl
  | succ n ih => rw [List.range_succ, List.map_append, List.map_append, ← ih, List.replicate_succ']; rfl

theorem made_ints {w : World} {B g m : Nat} (h : w.ownsRow B 3 1 (.slice (some ⟨g, 0, none⟩) m m) m (madeCells (Value.int .i64 0).cells (m * 1)).toList) :
    w.ownsRow B 3 1 (.slice (some ⟨g, 0, none⟩) m m) m (((List.range m).map fun _ => (0 : Int)).map (Value.int .i64)) := by
  have e : (madeCells (Value.int .i64 0).cells (m * 1)).toList = List.replicate m (.int .i64 0) := by rw [Nat.mul_one]; exact toList_madeCells_one _ _
  rw [e, replicate_zero] at h
  exact h
theorem kept_alloc {w w1 : World} {B n e : Nat} {v : Value} {vs : List Value} (h : w.ownsRow B e 1 v n vs) (hg : w.grownBy w1 none) (o : Obj) : (w1.alloc o).ownsRow B e 1 v n vs := by
  refine World.ownsRow.alloc (h.kept hg ?_) o
  cases e : v.ownBlock with
  | none => exact Or.inl rfl
  | some g => exact Or.inr (by intro h; cases h)
theorem kept_below {w w1 : World} {B n e : Nat} {v : Value} {vs : List Value} (h : w.ownsRow B e 1 v n vs) (hb : Below w.heap.size w w1) : w1.ownsRow B e 1 v n vs := by
  refine h.kept (row := none) ⟨hb.os, hb.tape, hb.output, hb.size, fun j hj _ => hb.block j hj⟩ ?_
  cases e : v.ownBlock with
  | none => exact Or.inl rfl
  | some g => exact Or.inr (by intro h; cases h)
theorem grown_below {w w' : World} (h : w.grownBy w' none) : Below w.heap.size w w' := ⟨h.os, h.tape, h.output, h.size, fun k hk => h.block k hk (by intro h; cases h)⟩
theorem zero_next {w wr w1 w3 : World} {k m gg cap : Nat} {v : Value} {vs : List Value} {o : Obj} (hB : Below w.heap.size w wr) (hO : wr.ownsRow w.heap.size 68 1 v (tabOf k m fun _ _ => 0).length vs) (hR : RowsOwn wr w.heap.size v.ownBlock vs (tabOf k m fun _ _ => 0))
    (hg1 : wr.grownBy w1 none) (hW : w1.ownsRow w.heap.size 3 1 (.slice (some ⟨wr.heap.size, 0, none⟩) m m) m (((List.range m).map fun _ => (0 : Int)).map (Value.int .i64))) (hs1 : wr.heap.size < w1.heap.size)
    (ho3 : w3.ownsRow w.heap.size 68 1 (.slice (some ⟨gg, 0, none⟩) ((tabOf k m fun _ _ => 0).length + 1) cap) ((tabOf k m fun _ _ => 0).length + 1) (vs ++ [.slice (some ⟨wr.heap.size, 0, none⟩) m m])) (hg3 : (w1.alloc o).grownBy w3 v.ownBlock) (hat : v.ownBlock = some gg ∨ gg = w1.heap.size + 1) :
    w3.ownsRow w.heap.size 68 1 (.slice (some ⟨gg, 0, none⟩) ((tabOf k m fun _ _ => 0).length + 1) cap) (tabOf (k + 1) m fun _ _ => 0).length (vs ++ [.slice (some ⟨wr.heap.size, 0, none⟩) m m]) ∧
    RowsOwn w3 w.heap.size (Value.slice (some ⟨gg, 0, none⟩) ((tabOf k m fun _ _ => 0).length + 1) cap).ownBlock (vs ++ [.slice (some ⟨wr.heap.size, 0, none⟩) m m]) (tabOf (k + 1) m fun _ _ => 0) ∧ Below w.heap.size w w3 := by
  have hb1 : Below wr.heap.size wr (w1.alloc o) := (grown_below hg1).alloc (by omega) o
  have hl : ((List.range m).map fun _ => (0 : Int)).length = m := by simp
  refine ⟨by rw [tabOf_next, List.length_append]; exact ho3, ?_, ?_⟩
  · rw [tabOf_next]
    refine own_append (w := w1.alloc o) (cap := cap) hO hR hb1 ?_ (fun g hg => ?_) ho3 hg3 ?_
    · rw [hl]; exact World.ownsRow.alloc hW o
    · have : wr.heap.size = g := Option.some.inj hg
      omega
    · rw [World.size_alloc]; exact hat
  · have hb2 := hB.trans (hb1.mono hB.size)
    refine hb2.grown hg3 (by have := hb2.size; omega) (fun q hq => ?_)
    exact (hO.lt q hq).1
/-- A new table. -/
def NewG (m : List (List Int)) (w : World) (e : Ending) (w' : World) : Prop := ∃ v, e = .returned v ∧ OwnG w' w.heap.size v m ∧ Below w.heap.size w w'

end Go.Proofs.Ytcoiodfggaanbaa
