/-
  The model's MatrixText at the laws' copies.
-/
import Derived.Test.YtfbdmheaalmboaaDoorMatSize
import Derived.Test.YtfbdmheaalmboaaDoorMatText
namespace Go.Proofs.YtfbdmheaalmboaaDoor
open Go Go.RowKit

theorem atSpec_matrixText (W : World) (m : List (List Int)) : At1 W 6 m (Scalar (.string (textM m))) := by
  intro v w' _ hz ho
  obtain ⟨A, c, rfl, hg⟩ := ho.gridS
  obtain ⟨h1, h2, h3⟩ := rows_le hz
  exact spec_matrixText A c m h1 h3 w' hg
end Go.Proofs.YtfbdmheaalmboaaDoor
