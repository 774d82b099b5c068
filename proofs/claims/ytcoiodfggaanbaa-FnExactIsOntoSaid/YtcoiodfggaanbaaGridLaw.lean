/-
  What the laws on tables share: the helpers' contracts at whatever slice holds a table; a result that is marked, and what stays as it was.
-/
import Derived.Test.YtcoiodfggaanbaaGridMark
import Derived.Test.YtcoiodfggaanbaaMatZero
namespace Go.Proofs.Ytcoiodfggaanbaa
open Go Go.RowKit

/-- The value is a slice that holds the table m. -/
def GridV (w : World) (v : Value) (m : List (List Int)) : Prop := ∃ A c, v = .slice A m.length c ∧ GridS w A m
theorem GridV.below {w w' : World} {v : Value} {m : List (List Int)} (h : GridV w v m) (hb : Below w.heap.size w w') : GridV w' v m := by
  obtain ⟨A, c, hv, hg⟩ := h
  exact ⟨A, c, hv, hg.below hb⟩
theorem OwnG.gridV {w : World} {B : Nat} {v : Value} {m : List (List Int)} (h : OwnG w B v m) : GridV w v m := h.gridS
/-- The table is not too large. -/
def SizeB (m : List (List Int)) : Prop := m.length + tot m ≤ 1048576
/-- No slice is longer than a slice can be. -/
def SizeA (m : List (List Int)) : Prop := m.length ≤ 9223372036854775807 ∧ ∀ k, k < m.length → (m.getD k []).length ≤ 9223372036854775807

/-- All blocks that were there from B on are as they were. -/
structure From (B : Nat) (w w' : World) : Prop where
  size : w.heap.size ≤ w'.heap.size
  block : ∀ k, B ≤ k → k < w.heap.size → w'.heap[k]? = w.heap[k]?
namespace From
variable {B : Nat} {w w' w'' : World}
theorem refl (B : Nat) (w : World) : From B w w := ⟨Nat.le_refl _, fun _ _ _ => rfl⟩
theorem trans (h : From B w w') (k : From B w' w'') : From B w w'' := ⟨Nat.le_trans h.size k.size, fun j h1 h2 => (k.block j h1 (Nat.lt_of_lt_of_le h2 h.size)).trans (h.block j h1 h2)⟩
theorem of_below (h : Below w.heap.size w w') : From B w w' := ⟨h.size, fun k _ hk => h.block k hk⟩
theorem of_within {B' S' : Nat} (h : Within B' S' w w') (hS : S' ≤ B) : From B w w' := ⟨h.size, fun k h1 h2 => h.block k h2 (Or.inr (by omega))⟩
theorem owns {e n : Nat} {v : Value} {xs : List Value} (h : w.ownsRow B e 1 v n xs) (hf : From B w w') : w'.ownsRow B e 1 v n xs := by
  refine ⟨h.1, ?_⟩
  rcases h.2 with hn | ⟨g, cap, cur, rfl, hb, hgg, rest⟩
  · exact .inl hn
  · refine .inr ⟨g, cap, cur, rfl, hb, ?_, rest⟩
    rw [hf.block g hb (Array.getElem?_eq_some_iff.1 hgg).1]
    exact hgg
theorem ownIn {S : Nat} {v : Value} {m : List (List Int)} (h : OwnIn w B S v m) (hf : From B w w') : OwnIn w' B S v m := by
  obtain ⟨vs, ho, hr, hs⟩ := h
  exact ⟨vs, owns ho hf, ⟨hr.len, fun k r hk => ⟨owns (hr.row k r hk).1 hf, (hr.row k r hk).2⟩, hr.two⟩, hs⟩
end From

/-- A table has been marked: only blocks from B on and below S have turned. -/
def MarkedG (B S : Nat) (v : Value) (m : List (List Int)) (w : World) (e : Ending) (w' : World) : Prop := e = .returned (.int .i64 ((1 + tot m : Nat) : Int)) ∧ GridV w' v (marksG 1 m) ∧ Within B S w w'
/-- The same from a number on; how far it came does not matter. -/
def MarkedX (B S q : Nat) (w : World) (e : Ending) (w' : World) : Prop := ∃ K : Nat, e = .returned (.int .i64 (K : Int)) ∧ K ≤ q + 1048576 ∧ Within B S w w'
def HeldG (n : Nat) (w : World) (e : Ending) (w' : World) : Prop := e = .returned (.int .i64 (n : Int)) ∧ Below w.heap.size w w'
theorem below_behind {w w1 w2 : World} (h : Below w.heap.size w w1) (k : Below w1.heap.size w1 w2) : Below w.heap.size w w2 := h.trans (k.mono h.size)

/-- What a function answers: a value that is no slice. -/
def Scalar (x : Value) (w : World) (e : Ending) (w' : World) : Prop := e = .returned x ∧ Below w.heap.size w w'
/-- The model's table, the program's table; each with a bool, too. -/
def SpecG (m : List (List Int)) (w : World) (e : Ending) (w' : World) : Prop := ∃ v, e = .returned v ∧ GridV w' v m ∧ Below w.heap.size w w'
def SpecGB (m : List (List Int)) (b : Bool) (w : World) (e : Ending) (w' : World) : Prop := ∃ v, e = .returned (.tuple #[v, .bool b]) ∧ GridV w' v m ∧ Below w.heap.size w w'
end Go.Proofs.Ytcoiodfggaanbaa
