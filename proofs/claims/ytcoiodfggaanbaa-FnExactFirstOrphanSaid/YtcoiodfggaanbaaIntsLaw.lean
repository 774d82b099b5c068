/-
  What the laws on lists of integers share: the helpers' contracts at whatever slice holds a list; a result that is marked, and what stays as it was.
-/
import Derived.Test.YtcoiodfggaanbaaGridMark
import Derived.Test.YtcoiodfggaanbaaGridLaw
namespace Go.Proofs.Ytcoiodfggaanbaa
open Go Go.RowKit

/-- The value is a slice that holds the integers xs. -/
def RowV (w : World) (v : Value) (xs : List Int) : Prop := ∃ A c, v = .slice A xs.length c ∧ RowS w A xs
theorem RowV.below {w w' : World} {v : Value} {xs : List Int} (h : RowV w v xs) (hb : Below w.heap.size w w') : RowV w' v xs := by
  obtain ⟨A, c, hv, hg⟩ := h
  exact ⟨A, c, hv, hg.below hb⟩
/-- The call owns the list; the block of it lies below S. -/
def OwnA (w : World) (B : Nat) (v : Value) (xs : List Int) : Prop := w.ownsRow B 3 1 v xs.length (xs.map (Value.int .i64))
def OwnAIn (w : World) (B S : Nat) (v : Value) (xs : List Int) : Prop := OwnA w B v xs ∧ ∀ g, v.ownBlock = some g → g < S
theorem OwnA.rowV {w : World} {B : Nat} {v : Value} {xs : List Int} (h : OwnA w B v xs) : RowV w v xs := rowS_of_owns h
theorem OwnA.below {w w' : World} {B : Nat} {v : Value} {xs : List Int} (h : OwnA w B v xs) (hb : Below w.heap.size w w') : OwnA w' B v xs := kept_below h hb
theorem OwnA.mono {w : World} {B B' : Nat} {v : Value} {xs : List Int} (h : OwnA w B v xs) (hB : B' ≤ B) : OwnA w B' v xs := World.ownsRow.mono h hB
theorem OwnA.ownIn {w : World} {B : Nat} {v : Value} {xs : List Int} (h : OwnA w B v xs) : OwnAIn w B w.heap.size v xs := ⟨h, fun g hg => (h.lt g hg).2⟩
theorem OwnAIn.ownG {w : World} {B S : Nat} {v : Value} {xs : List Int} (h : OwnAIn w B S v xs) : OwnA w B v xs := h.1
theorem OwnAIn.below {w w' : World} {B S : Nat} {v : Value} {xs : List Int} (h : OwnAIn w B S v xs) (hb : Below w.heap.size w w') : OwnAIn w' B S v xs := ⟨h.1.below hb, h.2⟩
theorem From.ownAIn {w w' : World} {B S : Nat} {v : Value} {xs : List Int} (h : OwnAIn w B S v xs) (hf : From B w w') : OwnAIn w' B S v xs := ⟨From.owns h.1 hf, h.2⟩
/-- The list is not too long. -/
def SizeL (xs : List Int) : Prop := xs.length ≤ 1048576

def MarkedA (B S : Nat) (v : Value) (xs : List Int) (w : World) (e : Ending) (w' : World) : Prop := e = .returned (.int .i64 ((1 + xs.length : Nat) : Int)) ∧ RowV w' v (marksI 1 xs.length) ∧ Within B S w w'
def NewA (xs : List Int) (w : World) (e : Ending) (w' : World) : Prop := ∃ v, e = .returned v ∧ OwnA w' w.heap.size v xs ∧ Below w.heap.size w w'
def SpecA (xs : List Int) (w : World) (e : Ending) (w' : World) : Prop := ∃ v, e = .returned v ∧ RowV w' v xs ∧ Below w.heap.size w w'
def SpecAB (xs : List Int) (b : Bool) (w : World) (e : Ending) (w' : World) : Prop := ∃ v, e = .returned (.tuple #[v, .bool b]) ∧ RowV w' v xs ∧ Below w.heap.size w w'
end Go.Proofs.Ytcoiodfggaanbaa
