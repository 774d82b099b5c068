/-
  What the program's functions of chapter 9 answer, wherever the shifts lie.
-/
import Derived.Test.YtalclebehbdliaaGreatPresLaws
import Derived.Test.YtalclebehbdliaaGreatCompTexts
import Derived.Test.YtalclebehbdliaaGreatPConnI
import Derived.Test.YtalclebehbdliaaGreatPMissI
import Derived.Test.YtalclebehbdliaaGreatPMeetI
namespace Go.Proofs.YtalclebehbdliaaGreat
open Go Go.RowKit

theorem anyI_statesOf (W : World) (hsh : W.ShapedOpen Tryz.prog) (L : Int) (xs : List ByteArray) : Any1S W 23 L xs (ListPost (langOfS L xs 2)) := fun G c w' hb hl hz hs => impl_statesOf L G c xs hl hz w' hs fun _ h => shape_next hsh (below_after hb h)
theorem anyI_graphOf (W : World) (hsh : W.ShapedOpen Tryz.prog) (L : Int) (xs : List ByteArray) : Any1S W 8 L xs (NewGB (graphS L xs)) := fun G c w' hb hl hz hs => impl_graphOf L G c xs hl hz w' hs fun _ h => shape_next hsh (below_after hb h)
theorem anyI_countWords (W : World) (hsh : W.ShapedOpen Tryz.prog) (L n : Int) (xs : List ByteArray) : Any1N W 7 L xs n (Scalar (.int .i64 (countS L n xs))) := fun G c w' hb hl hz hs => impl_countWords L n G c xs hl hz w' hs fun _ h => shape_next hsh (below_after hb h)
theorem anyI_isConnected (W : World) (hsh : W.ShapedOpen Tryz.prog) (L : Int) (xs : List ByteArray) : Any1S W 20 L xs (BoolPost (connS L xs)) := fun G c w' hb hl hz hs => impl_isConnected L G c xs hl hz w' hs fun _ h => shape_next hsh (below_after hb h)
theorem anyI_forbiddenOf (W : World) (hsh : W.ShapedOpen Tryz.prog) (L : Int) (xs : List ByteArray) : Any1S W 10 L xs (NewShB (forbS L xs)) := fun G c w' hb hl hz hs => impl_forbiddenOf L G c xs hl hz w' hs fun _ h => shape_next hsh (below_after hb h)
theorem anyI_areSame (W : World) (hsh : W.ShapedOpen Tryz.prog) (L L' : Int) (xs xs' : List ByteArray) : Any2S W 18 L xs L' xs' (BoolPost (areS L xs L' xs')) := fun G G' c c' w' hb hl hz hl' hz' hs hs' => impl_areSame L L' G G' c c' xs xs' hl hl' hz hz' w' hs hs' fun _ h => shape_next hsh (below_after hb h)
theorem anyI_meetShifts (W : World) (_ : W.ShapedOpen Tryz.prog) (L L' : Int) (xs xs' : List ByteArray) : Any2S W 13 L xs L' xs' (NewShB (meetS L xs L' xs')) := fun G G' c c' w' _ hl hz hl' hz' hs hs' => impl_meetShifts L L' G G' c c' xs xs' hl hl' hz hz' w' hs hs'
end Go.Proofs.YtalclebehbdliaaGreat
