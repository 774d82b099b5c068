/-
  FormatInt at every int: the model's digit loop and the program's strconv.Itoa give one and the same numeral; nothing that was there before is changed.
-/
import Derived.Test.YtalclebehbdliaaGreatDoorBaseTexts
import Derived.Test.YtalclebehbdliaaGreatDoorShelfA
import Derived.Lib.AtoiErrMem
namespace Go.Proofs.YtalclebehbdliaaGreatDoor
open Go Go.RowKit

/-- The table that strconv reads lies in a block that was there. -/
abbrev Pow (w : World) : Prop := Lib.TabIs Tryz.prog w "internal/strconv.uint64pow10" .u64 Lib.pow10Tab
theorem gPow : Tryz.prog.globalNamed "internal/strconv.uint64pow10" = some 0 := by kernel_rfl
theorem Pow.lt {w : World} (h : Pow w) : 0 < w.heap.size := Lib.lt_of_cell (h.cell gPow 0 (by rw [Lib.pow10Tab_length]; decide))
theorem Pow.below {w w' : World} (h : Pow w) (hb : Below w.heap.size w w') : Pow w' := var?_below hb gPow h.lt h

set_option maxRecDepth 100000 in
set_option maxHeartbeats 400000 in
/-- The program's FormatInt, at every int. -/
theorem impl_fmt (n : Int) (h0 : -9223372036854775808 ≤ n) (h1 : n ≤ 9223372036854775807) (w : World) (ht : Pow w) :
    Calls Tryz.prog 51 #[.int .i64 n] w fun e w' => e = .returned (.string ⟨(Lib.itoa n).toArray⟩) ∧ Below w.heap.size w w' := by
  have HT := Lib.hid ht
  clear ht
  go_enter Tryz.func51, Tryz.ntmps51
  go_wp2_with (go_at_call 79; refine (Tryz.strconv_Itoa n h0 h1 _ HT.out).mono ?_; rintro e w' ⟨rfl, k, os, rfl⟩)
  go_ret
  exact ⟨rfl, Lib.below_grow _ _ (Nat.le_refl _) _ _⟩

end Go.Proofs.YtalclebehbdliaaGreatDoor
