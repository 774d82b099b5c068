/-
  The program's PathsOf at the laws' copies.
-/
import Derived.Test.YthljogoggiejmaaPathsI
import Derived.Test.YthljogoggiejmaaGraphAts
namespace Go.Proofs.Ythljogoggiejmaa
open Go Go.RowKit

theorem atImpl_pathsOf (W : World) (m : List (List Int)) (n : Int) : At1I W 14 m n (ImplG (pathsM m n)) := by
  intro v w' _ hz ho
  obtain ⟨A, c, rfl, hg⟩ := ho.gridS
  obtain ⟨h1, h2, h3⟩ := rows_le hz
  exact (impl_pathsOf A c m n (by omega) h3 w' hg).mono fun _ _ h => newG_impl (sizeB_paths m n) h
end Go.Proofs.Ythljogoggiejmaa
