/-
  The program's functions of chapter 10 at the laws' copies.
-/
import Derived.Test.YtfgjlpnmjfekhaaBlockCopies
import Derived.Test.YtfgjlpnmjfekhaaBlockI
import Derived.Test.YtfgjlpnmjfekhaaSideI
import Derived.Test.YtfgjlpnmjfekhaaPairI
namespace Go.Proofs.Ytfgjlpnmjfekhaa
open Go Go.RowKit

theorem atImpl_blockGraph (W : World) (m : List (List Int)) : At1 W 11 m (ImplGB ((blockG m).getD []) (blockG m).isSome) := by
  intro v w' _ hz ho
  obtain ⟨A, c, rfl, hg⟩ := ho.gridS
  obtain ⟨h1, h2, h3⟩ := rows_le hz
  exact (impl_blockGraph A c m (by omega) h3 w' hg).mono fun e w2 h => newGB_implB (sizeB_block m) h
theorem atImpl_powerGraph (W : World) (m : List (List Int)) (n : Int) : At1I W 16 m n (ImplGB ((powG m n).getD []) (powG m n).isSome) := by
  intro v w' _ hz ho
  obtain ⟨A, c, rfl, hg⟩ := ho.gridS
  obtain ⟨h1, h2, h3⟩ := rows_le hz
  exact (impl_powerGraph A c m h1 h2 n w' hg).mono fun e w2 h => newGB_implB (sizeB_powG m n) h
theorem atImpl_joinGraphs (W : World) (a b : List (List Int)) : At2 W 18 a b (ImplGB ((joinG a b).getD []) (joinG a b).isSome) := by
  intro v v' w' _ hz hz' ho ho'
  obtain ⟨A, c, rfl, hg⟩ := ho.gridS
  obtain ⟨A', c', rfl, hg'⟩ := ho'.gridS
  obtain ⟨h1, h2, _⟩ := rows_le hz
  obtain ⟨k1, k2, _⟩ := rows_le hz'
  exact (impl_joinGraphs A A' c c' a b h1 k1 h2 k2 w' hg hg').mono fun e w2 h => newGB_implB (sizeB_joinG a b) h
theorem atImpl_pairGraph (W : World) (a b : List (List Int)) : At2 W 20 a b (ImplGB ((pairG a b).getD []) (pairG a b).isSome) := by
  intro v v' w' _ hz hz' ho ho'
  obtain ⟨A, c, rfl, hg⟩ := ho.gridS
  obtain ⟨A', c', rfl, hg'⟩ := ho'.gridS
  obtain ⟨h1, h2, _⟩ := rows_le hz
  obtain ⟨k1, k2, _⟩ := rows_le hz'
  exact (impl_pairGraph A A' c c' a b h1 k1 h2 k2 w' hg hg').mono fun e w2 h => newGB_implB (sizeB_pairG a b) h
theorem atImpl_isBlockOf (W : World) (a b : List (List Int)) : At2 W 22 a b (Scalar (.bool (isBlockM a b))) := by
  intro v v' w' _ hz hz' ho ho'
  obtain ⟨A, c, rfl, hg⟩ := ho.gridS
  obtain ⟨A', c', rfl, hg'⟩ := ho'.gridS
  obtain ⟨h1, h2, _⟩ := rows_le hz
  obtain ⟨k1, k2, _⟩ := rows_le hz'
  exact impl_isBlockOf A A' c c' a b h1 h2 k1 k2 w' hg hg'
end Go.Proofs.Ytfgjlpnmjfekhaa
