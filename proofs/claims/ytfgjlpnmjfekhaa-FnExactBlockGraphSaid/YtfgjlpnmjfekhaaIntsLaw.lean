/-
  What the laws on lists of integers share: the helpers' contracts at whatever slice holds a list; a result that is marked, and what stays as it was.
-/
import Derived.Test.YtfgjlpnmjfekhaaGridMark
import Derived.Test.YtfgjlpnmjfekhaaGridLaw
namespace Go.Proofs.Ytfgjlpnmjfekhaa
open Go Go.RowKit

/-- The value is a slice that holds the integers xs. -/
def RowV (w : World) (v : Value) (xs : List Int) : Prop := ∃ A c, v = .slice A xs.length c ∧ RowS w A xs
theorem RowV.below {w w' : World} {v : Value} {xs : List Int} (h : RowV w v xs) (hb : Below w.heap.size w w') : RowV w' v xs := by
  obtain ⟨A, c, hv, hg⟩ := h
  exact ⟨A, c, hv, hg.below hb⟩
/-- The call owns the list; the block of it lies below S. -/
def OwnA (w : World) (B : Nat) (v : Value) (xs : List Int) : Prop := w.ownsRow B 3 1 v xs.length (xs.map (Value.int .i64))
def OwnAIn (w : World) (B S : Nat) (v : Value) (xs : List Int) : Prop := OwnA w B v xs ∧ ∀ g, v.ownBlock = some g → g < S
theorem OwnA.rowV {w : World} {B : Nat} {v : Value} {xs : List Int} (h : OwnA w B v xs) : RowV w v xs := rowS_of_owns h
theorem OwnA.below {w w' : World} {B : Nat} {v : Value} {xs : List Int} (h : OwnA w B v xs) (hb : Below w.heap.size w w') : OwnA w' B v xs := kept_below h hb
theorem OwnA.mono {w : World} {B B' : Nat} {v : Value} {xs : List Int} (h : OwnA w B v xs) (hB : B' ≤ B) : OwnA w B' v xs := World.ownsRow.mono h hB
theorem OwnA.ownIn {w : World} {B : Nat} {v : Value} {xs : List Int} (h : OwnA w B v xs) : OwnAIn w B w.heap.size v xs := ⟨h, fun g hg => (h.lt g hg).2⟩
theorem OwnAIn.ownG {w : World} {B S : Nat} {v : Value} {xs : List Int} (h : OwnAIn w B S v xs) : OwnA w B v xs := h.1
theorem OwnAIn.below {w w' : World} {B S : Nat} {v : Value} {xs : List Int} (h : OwnAIn w B S v xs) (hb : Below w.heap.size w w') : OwnAIn w' B S v xs := ⟨h.1.below hb, h.2⟩
theorem From.ownAIn {w w' : World} {B S : Nat} {v : Value} {xs : List Int} (h : OwnAIn w B S v xs) (hf : From B w w') : OwnAIn w' B S v xs := ⟨From.owns h.1 hf, h.2⟩
/-- The list is not too long. -/
def SizeL (xs : List Int) : Prop := xs.length ≤ 1048576

def MarkedA (B S : Nat) (v : Value) (xs : List Int) (w : World) (e : Ending) (w' : World) : Prop := e = .returned (.int .i64 ((1 + xs.length : Nat) : Int)) ∧ RowV w' v (marksI 1 xs.length) ∧ Within B S w w'
def ResA (w : World) (B : Nat) (v : Value) (xs : List Int) : Prop :=
  ∀ w', From B w w' → RowV w' v xs ∧ Calls Try.prog 32 #[v, .int .i64 1] w' (MarkedA B w.heap.size v xs w')
theorem OwnAIn.marked {w : World} {B S : Nat} {v : Value} {xs : List Int} (h : OwnAIn w B S v xs) (hm : SizeL xs) : Calls Try.prog 32 #[v, .int .i64 1] w (MarkedA B S v xs w) := by
  unfold SizeL at hm
  refine (mark_ints B 1 v xs (by decide) (by omega) w h.1).mono ?_
  rintro e w' ⟨he, ho, hg⟩
  refine ⟨he, rowS_of_owns (B := B) (by rw [marksI_length]; exact ho), Within.of_grown hg fun g hg => ⟨(h.1.lt g hg).1, h.2 g hg⟩⟩
theorem OwnAIn.markedX {w : World} {B S : Nat} {v : Value} {xs : List Int} (h : OwnAIn w B S v xs) (hm : SizeL xs) (q : Nat) (hq : q ≤ 100000000000) : Calls Try.prog 32 #[v, .int .i64 (q : Int)] w (MarkedX B S q w) := by
  unfold SizeL at hm
  refine (mark_ints B q v xs (by omega) (by omega) w h.1).mono ?_
  rintro e w' ⟨he, _, hg⟩
  exact ⟨_, he, by omega, Within.of_grown hg fun g hg => ⟨(h.1.lt g hg).1, h.2 g hg⟩⟩
theorem OwnA.res {w : World} {B : Nat} {v : Value} {xs : List Int} (h : OwnA w B v xs) (hm : SizeL xs) : ResA w B v xs := by
  intro w' hf
  have h' := From.ownAIn h.ownIn hf
  exact ⟨h'.ownG.rowV, h'.marked hm⟩

def NewA (xs : List Int) (w : World) (e : Ending) (w' : World) : Prop := ∃ v, e = .returned v ∧ OwnA w' w.heap.size v xs ∧ Below w.heap.size w w'
theorem toA (V : Value) (xs : List Int) (hm : SizeL xs) (w : World) (h : RowV w V xs) : Calls Try.prog 28 #[V] w (NewA xs w) := by
  obtain ⟨A, c, rfl, hg⟩ := h
  unfold SizeL at hm
  refine (copy_ints A c xs (by omega) w hg).mono ?_
  rintro e w' ⟨he, ho, hb, _⟩
  exact ⟨_, he, ho, hb⟩
theorem eqA (xs : List Int) (hm : SizeL xs) (v v' : Value) (w : World) (h : RowV w v xs) (h' : RowV w v' xs) : Calls Try.prog 31 #[v, v'] w (TrueBelowG w) := by
  obtain ⟨A, c, rfl, hg⟩ := h
  obtain ⟨A', c', rfl, hg'⟩ := h'
  unfold SizeL at hm
  exact same_ints A A' c c' xs (by omega) w hg hg'
theorem heldA (xs : List Int) (hm : SizeL xs) (v : Value) (w : World) (h : RowV w v (marksI 1 xs.length)) : Calls Try.prog 33 #[v, .int .i64 1] w (HeldG (1 + xs.length) w) := by
  obtain ⟨A, c, rfl, hg⟩ := h
  rw [marksI_length]
  unfold SizeL at hm
  refine (held_ints 1 xs.length A c (by decide) (by omega) w hg).mono ?_
  rintro e w' ⟨he, rfl⟩
  exact ⟨he, Below.refl _ _⟩

def SpecA (xs : List Int) (w : World) (e : Ending) (w' : World) : Prop := ∃ v, e = .returned v ∧ RowV w' v xs ∧ Below w.heap.size w w'
def ImplA (xs : List Int) (w : World) (e : Ending) (w' : World) : Prop := ∃ v, e = .returned v ∧ ResA w' w.heap.size v xs ∧ Below w.heap.size w w'
def SpecAB (xs : List Int) (b : Bool) (w : World) (e : Ending) (w' : World) : Prop := ∃ v, e = .returned (.tuple #[v, .bool b]) ∧ RowV w' v xs ∧ Below w.heap.size w w'
def ImplAB (xs : List Int) (b : Bool) (w : World) (e : Ending) (w' : World) : Prop := ∃ v, e = .returned (.tuple #[v, .bool b]) ∧ ResA w' w.heap.size v xs ∧ Below w.heap.size w w'
end Go.Proofs.Ytfgjlpnmjfekhaa
