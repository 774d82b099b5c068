/-
  The program's functions on graphs at the laws' copies.
-/
import Derived.Test.YthljogoggiejmaaCountI
import Derived.Test.YthljogoggiejmaaTrimI
import Derived.Test.YthljogoggiejmaaGraphCopies
import Derived.Test.YthljogoggiejmaaGridRoom
namespace Go.Proofs.Ythljogoggiejmaa
open Go Go.RowKit

theorem newG_impl {m : List (List Int)} (hm : SizeB m) {w : World} {e : Ending} {w' : World} (h : NewG m w e w') : ImplG m w e w' := by
  obtain ⟨v, he, ho, hb⟩ := h
  exact ⟨v, he, ho.res hm, hb⟩
theorem newGB_impl {o : Option (List (List Int))} (hm : SizeB (o.getD [])) {w : World} {e : Ending} {w' : World} (h : NewGB o w e w') : ImplGB (o.getD []) o.isSome w e w' := by
  obtain ⟨v, he, ho, hb⟩ := h
  exact ⟨v, he, ho.res hm, hb⟩
theorem newA_impl {xs : List Int} (hm : SizeL xs) {w : World} {e : Ending} {w' : World} (h : NewA xs w e w') : ImplA xs w e w' := by
  obtain ⟨v, he, ho, hb⟩ := h
  exact ⟨v, he, ho.res hm, hb⟩
theorem atImpl_isGraph (W : World) (m : List (List Int)) : At1 W 30 m (Scalar (.bool (isGraphM m))) := by
  intro v w' _ hz ho
  obtain ⟨A, c, rfl, hg⟩ := ho.gridS
  obtain ⟨h1, h2, h3⟩ := rows_le hz
  exact (impl_isGraph A c m (by omega) h3 w' hg).mono fun e w2 ⟨he, hw⟩ => ⟨he, hw ▸ Below.refl _ _⟩
theorem atImpl_arcsOf (W : World) (m : List (List Int)) : At1 W 20 m (ImplG (arcsOfM m)) := by
  intro v w' _ hz ho
  obtain ⟨A, c, rfl, hg⟩ := ho.gridS
  obtain ⟨h1, h2, h3⟩ := rows_le hz
  exact (impl_arcsOf A c m (by omega) h3 w' hg).mono fun _ _ h => newG_impl (sizeB_arcs m) h
theorem atImpl_isPath (W : World) (m : List (List Int)) (l : List Int) : At1A W 23 m l (Scalar (.bool (isGraphM m && isPathM (arcsM m) l))) := by
  intro v v' w' _ hz hl ho ho'
  obtain ⟨A, c, rfl, hg⟩ := ho.gridS
  obtain ⟨A', c', rfl, hr, hc⟩ := ho'.rowVC
  obtain ⟨h1, h2, h3⟩ := rows_le hz
  unfold SizeL at hl
  exact impl_isPath A c m (by omega) h3 A' c' l (by omega) hc w' hg hr
theorem atImpl_countPaths (W : World) (m : List (List Int)) (n : Int) : At1I W 28 m n (Scalar (.int .i64 (countM m n))) := by
  intro v w' _ hz ho
  obtain ⟨A, c, rfl, hg⟩ := ho.gridS
  obtain ⟨h1, h2, _⟩ := rows_le hz
  exact impl_countPaths A c m h1 h2 n w' hg
theorem atImpl_livelyOf (W : World) (m : List (List Int)) : At1 W 19 m (ImplA (livelyM m)) := by
  intro v w' _ hz ho
  obtain ⟨A, c, rfl, hg⟩ := ho.gridS
  obtain ⟨h1, h2, h3⟩ := rows_le hz
  exact (impl_livelyOf A c m (by omega) h3 w' hg).mono fun _ _ h => newA_impl (sizeL_lively m) h
theorem atImpl_trimGraph (W : World) (m : List (List Int)) : At1 W 17 m (ImplGB ((trimM m).getD []) (trimM m).isSome) := by
  intro v w' _ hz ho
  obtain ⟨A, c, rfl, hg⟩ := ho.gridS
  obtain ⟨h1, h2, h3⟩ := rows_le hz
  exact (impl_trimGraph A c m (by omega) h3 w' hg).mono fun _ _ h => newGB_impl (sizeB_trim m) h
theorem atImpl_isLively (W : World) (m : List (List Int)) : At1 W 32 m (Scalar (.bool (isLivelyM m))) := by
  intro v w' _ hz ho
  obtain ⟨A, c, rfl, hg⟩ := ho.gridS
  obtain ⟨h1, h2, h3⟩ := rows_le hz
  exact impl_isLively A c m (by omega) h3 w' hg
end Go.Proofs.Ythljogoggiejmaa
