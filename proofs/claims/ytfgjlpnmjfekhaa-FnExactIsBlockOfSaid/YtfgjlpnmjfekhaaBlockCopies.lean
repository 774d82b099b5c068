/-
  The model's functions of chapter 10 at the laws' copies.
-/
import Derived.Test.YtfgjlpnmjfekhaaBlockSpec
import Derived.Test.YtfgjlpnmjfekhaaSideSpec
import Derived.Test.YtfgjlpnmjfekhaaPairSpec
namespace Go.Proofs.Ytfgjlpnmjfekhaa
open Go Go.RowKit

theorem newGB_specB {o : Option (List (List Int))} {w : World} {e : Ending} {w' : World} (h : NewGB o w e w') : SpecGB (o.getD []) o.isSome w e w' := by
  obtain ⟨v, he, ho, hb⟩ := h
  exact ⟨v, he, ho.gridV, hb⟩
theorem newGB_implB {o : Option (List (List Int))} (hm : SizeB (o.getD [])) {w : World} {e : Ending} {w' : World} (h : NewGB o w e w') : ImplGB (o.getD []) o.isSome w e w' := by
  obtain ⟨v, he, ho, hb⟩ := h
  exact ⟨v, he, ho.res hm, hb⟩
theorem atSpec_blockGraph (W : World) (m : List (List Int)) : At1 W 9 m (SpecGB ((blockG m).getD []) (blockG m).isSome) := by
  intro v w' _ hz ho
  obtain ⟨A, c, rfl, hg⟩ := ho.gridS
  obtain ⟨h1, h2, h3⟩ := rows_le hz
  exact (spec_blockGraph A c m (by omega) h3 w' hg).mono fun e w2 h => newGB_specB h
theorem atSpec_powerGraph (W : World) (m : List (List Int)) (n : Int) : At1I W 15 m n (SpecGB ((powG m n).getD []) (powG m n).isSome) := by
  intro v w' _ hz ho
  obtain ⟨A, c, rfl, hg⟩ := ho.gridS
  obtain ⟨h1, h2, h3⟩ := rows_le hz
  exact (spec_powerGraph A c m h1 h2 n w' hg).mono fun e w2 h => newGB_specB h
theorem atSpec_joinGraphs (W : World) (a b : List (List Int)) : At2 W 17 a b (SpecGB ((joinG a b).getD []) (joinG a b).isSome) := by
  intro v v' w' _ hz hz' ho ho'
  obtain ⟨A, c, rfl, hg⟩ := ho.gridS
  obtain ⟨A', c', rfl, hg'⟩ := ho'.gridS
  obtain ⟨h1, h2, _⟩ := rows_le hz
  obtain ⟨k1, k2, _⟩ := rows_le hz'
  exact (spec_joinGraphs A A' c c' a b h1 k1 h2 k2 w' hg hg').mono fun e w2 h => newGB_specB h
theorem atSpec_pairGraph (W : World) (a b : List (List Int)) : At2 W 19 a b (SpecGB ((pairG a b).getD []) (pairG a b).isSome) := by
  intro v v' w' _ hz hz' ho ho'
  obtain ⟨A, c, rfl, hg⟩ := ho.gridS
  obtain ⟨A', c', rfl, hg'⟩ := ho'.gridS
  obtain ⟨h1, h2, _⟩ := rows_le hz
  obtain ⟨k1, k2, _⟩ := rows_le hz'
  exact (spec_pairGraph A A' c c' a b h1 k1 h2 k2 w' hg hg').mono fun e w2 h => newGB_specB h
theorem atSpec_isBlockOf (W : World) (a b : List (List Int)) : At2 W 21 a b (Scalar (.bool (isBlockM a b))) := by
  intro v v' w' _ hz hz' ho ho'
  obtain ⟨A, c, rfl, hg⟩ := ho.gridS
  obtain ⟨A', c', rfl, hg'⟩ := ho'.gridS
  obtain ⟨h1, h2, _⟩ := rows_le hz
  obtain ⟨k1, k2, _⟩ := rows_le hz'
  exact spec_isBlockOf A A' c c' a b h1 h2 k2 w' hg hg'
end Go.Proofs.Ytfgjlpnmjfekhaa
