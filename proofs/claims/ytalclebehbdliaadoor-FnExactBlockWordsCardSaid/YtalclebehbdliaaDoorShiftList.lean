/-
  The law on AvoidingWords, and on every function of a shift and an int that answers a list of strings: where the model's and the program's function give the same list in new memory at every copy of the shift, the law returns true; nothing that was there before is changed.
-/
import Derived.Test.YtalclebehbdliaaDoorShiftArg
import Derived.Test.YtalclebehbdliaaDoorShiftMark
namespace Go.Proofs.YtalclebehbdliaaDoor
open Go Go.RowKit

/-- What a function of a shift and an int answers at copies of the shift: a list, in new memory. -/
def AtCopiesL (W : World) (f : Nat) (L : Int) (xs : List ByteArray) (n : Int) (ps : List ByteArray) : Prop :=
  ∀ g c w', Below W.heap.size W w' → xs.length ≤ 1048576 → total xs ≤ 1048576 → StrsAt w' g 0 xs → g < w'.heap.size → Calls Tryd.prog f #[.agg #[.int .i64 L, .slice (some ⟨g, 0, none⟩) xs.length c], .int .i64 n] w' (ListPost ps w')
/-- The slice A holds the strings ps in a block below H. -/
def RowIn (H : Nat) (w : World) (A : Option Addr) (ps : List ByteArray) : Prop := 0 < ps.length → ∃ g, A = some ⟨g, 0, none⟩ ∧ StrsAt w g 0 ps ∧ g < H
theorem RowIn.below {H B : Nat} {w w' : World} {A : Option Addr} {ps : List ByteArray} (h : RowIn H w A ps) (hb : Below B w w') (hB : H ≤ B) : RowIn H w' A ps := by
  intro hp
  obtain ⟨g, hA, hs, hg⟩ := h hp
  exact ⟨g, hA, hs.below (hb.mono hB) hg, hg⟩
theorem RowIn.row {H : Nat} {w : World} {A : Option Addr} {ps : List ByteArray} (h : RowIn H w A ps) (hH : H ≤ w.heap.size) : RowAt w A ps := by
  intro hp
  obtain ⟨g, hA, hs, hg⟩ := h hp
  exact ⟨g, hA, hs, Nat.lt_of_lt_of_le hg hH⟩
theorem OwnAt.only {w w' : World} {B B4 g4 c : Nat} {A : Option Addr} {ps : List ByteArray} (h : OwnAt w B A c ps) (ho : OnlyAt B4 (some ⟨g4, 0, none⟩) w w') (hlt : g4 < B) : OwnAt w' B A c ps := by
  intro hp
  obtain ⟨g, hA, hw⟩ := h hp
  obtain ⟨r, hg, hr⟩ := ho
  refine ⟨g, hA, hw.kept hg ?_⟩
  have hgB := (hw.lt g rfl).1
  rcases hr with rfl | ⟨g', hg', _, rfl⟩
  · exact Or.inr (by intro e; cases e)
  · refine Or.inr ?_
    intro e
    have h1 : g = g' := Option.some.inj e
    have h2 : g4 = g' := by
      have := Option.some.inj hg'
      injection this
    omega

end Go.Proofs.YtalclebehbdliaaDoor
