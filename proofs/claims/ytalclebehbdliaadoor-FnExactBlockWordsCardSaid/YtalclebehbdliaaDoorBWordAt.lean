/-
  BlockWords, the model's and the program's, at the law's copies of the shift.
-/
import Derived.Test.YtalclebehbdliaaDoorBWordSpec
import Derived.Test.YtalclebehbdliaaDoorBWordI
namespace Go.Proofs.YtalclebehbdliaaDoor
open Go Go.RowKit

theorem atCopies_blockWords (W : World) (L : Int) (xs : List ByteArray) (n : Int) : AtCopiesL W 5 L xs n (blockWordsS L xs n) :=
  fun g c w' _ hl ht hs hg => spec_blockWords L n (some ⟨g, 0, none⟩) c xs hl (fun k hk => by have := size_le_total hk; omega) w' (.of hs hg)
theorem atCopies_impl_blockWords (W : World) (hsh : W.ShapedOpen Tryd.prog) (hp : Pow W) (L : Int) (xs : List ByteArray) (n : Int) : AtCopiesL W 7 L xs n (blockWordsS L xs n) :=
  fun g c w' hb hl ht hs hg => impl_blockWords L n (some ⟨g, 0, none⟩) c xs hl (fun k hk => by have := size_le_total hk; omega) w' (.of hs hg) (fun _ h => shape_next hsh (below_after hb h)) (hp.below hb)
end Go.Proofs.YtalclebehbdliaaDoor
