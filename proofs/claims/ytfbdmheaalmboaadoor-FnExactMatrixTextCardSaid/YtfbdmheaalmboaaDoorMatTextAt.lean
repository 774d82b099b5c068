/-
  The program's MatrixText at the laws' copies.
-/
import Derived.Test.YtfbdmheaalmboaaDoorMatTextI
import Derived.Test.YtfbdmheaalmboaaDoorMatSize
namespace Go.Proofs.YtfbdmheaalmboaaDoor
open Go Go.RowKit

theorem atImpl_matrixText (W : World) (m : List (List Int)) (hp : Pow W) : At1 W 8 m (Scalar (.string (textM m))) := by
  intro v w' hb hz ho
  obtain ⟨A, c, rfl, hg⟩ := ho.gridS
  obtain ⟨h1, h2, h3⟩ := rows_le hz
  exact impl_matrixText A c m h1 h3 w' (hp.below hb) hg
end Go.Proofs.YtfbdmheaalmboaaDoor
