/-
  What the rows' condition on the listed package-level variables gives the walks: strconv's table of powers of ten.
-/
import Derived.Test.YtalclebehbdliaaGreatDoorFmt
import Derived.Test.YtalclebehbdliaaGreatDoorRows
import Derived.ProofKit
import Derived.LaidLaws
namespace Go.Proofs.YtalclebehbdliaaGreatDoor
open Go Go.ChangeShapes Go.WideShapes Go.ChangeAt Go.RowKit

theorem ownKnobs : ownKnob Tryz.prog.godebug = none := by kernel_rfl
theorem tPow : (Tryz.prog.globals[0]?).map (·.type) = some 118 := by kernel_rfl
/-- The table, out of the condition. -/
theorem pow_of_laid {W : World} {r : List (String × DataW Unit)} (h : laidMet Tryz.prog (("internal/strconv.uint64pow10", Rows.laid_internal_strconv_uint64pow10) :: r) W) : Pow W :=
  Lib.tabIs_of_head gPow tPow Tryz.underlying118 Tryz.underlying111 (by kernel_rfl) (by kernel_rfl) h
end Go.Proofs.YtalclebehbdliaaGreatDoor
