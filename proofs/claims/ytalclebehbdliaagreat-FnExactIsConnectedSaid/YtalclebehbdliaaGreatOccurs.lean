/-
  Whether a string has a part: the program's OccursIn, at every two strings of at most 2^31 bytes, in a world of the usual shape, answers as the model's; nothing is changed.
-/
import Derived.Test.YtalclebehbdliaaGreatBaseTexts
import Derived.Test.YtalclebehbdliaaGreatShelfC
import Derived.Test.YtalclebehbdliaaGreatChecked
namespace Go.Proofs.YtalclebehbdliaaGreat
open Go Go.RowKit

theorem impl_occurs (s sub : ByteArray) (hs : s.size ≤ 2147483648) (w : World) (h : w.ShapedOpen Tryz.prog) :
    Calls Tryz.prog 126 #[.string s, .string sub] w fun e w' => e = .returned (.bool (occ s sub)) ∧ w' = w := by
  have HC := Lib.hid (Tryz.strings_Contains_shaped s sub w h (by omega))
  clear h
  go_enter Tryz.func126, Tryz.ntmps126
  go_wp2_with fail
  refine HC.out.mono ?_
  rintro e w1 ⟨rfl, rfl⟩
  go_wp2
  go_ret
  exact ⟨rfl, rfl⟩

end Go.Proofs.YtalclebehbdliaaGreat
