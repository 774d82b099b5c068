/-
  A slice of strings that came in as a shift's words, in the words of the laws; what the model's functions answer at copies.
-/
import Derived.Test.YtalclebehbdliaaDoorShiftLaw
namespace Go.Proofs.YtalclebehbdliaaDoor
open Go Go.RowKit

theorem sliceArg_none (a : Option Addr) (c : Nat) (W : World) : SliceArg W (.slice a 0 c) [] :=
  ⟨fun w' _ => sz_none a c _ (by decide) (by decide) w', fun _ w' _ => copy_none a c w'⟩
theorem sliceArg_some (b off c : Nat) (xs : List ByteArray) (hn : xs.length ≤ 9223372036854775807) (hz : ∀ k, k < xs.length → (xs.getD k ByteArray.empty).size ≤ 9223372036854775807) (W : World) (hs : StrsAt W b off xs) (hb : b < W.heap.size) :
    SliceArg W (.slice (some ⟨b, off, none⟩) xs.length c) xs :=
  ⟨fun w' h => sz_some b off c xs 1048576 (by decide) (by decide) hn hz w' (hs.below h hb),
   fun hl w' h => copy_some b off c xs (by omega) w' (hs.below h hb) (Nat.lt_of_lt_of_le hb h.size)⟩
theorem atCopies_isShift (W : World) (L : Int) (xs : List ByteArray) : AtCopies W 14 L xs (isShift L xs) :=
  fun g c w' _ hl ht hs hg => spec_isShift L (some ⟨g, 0, none⟩) c xs hl (fun k hk => by have := size_le_total hk; omega) w' (.of hs hg)
end Go.Proofs.YtalclebehbdliaaDoor
