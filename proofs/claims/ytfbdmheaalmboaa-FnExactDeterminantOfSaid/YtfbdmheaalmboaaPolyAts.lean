/-
  The program's functions on polynomials at the laws' copies.
-/
import Derived.Test.YtfbdmheaalmboaaPolyMulI
import Derived.Test.YtfbdmheaalmboaaPolyCopies
namespace Go.Proofs.Ytfbdmheaalmboaa
open Go Go.RowKit

theorem newA_impl {xs : List Int} (hz : SizeL xs) {w : World} {e : Ending} {w' : World} (h : NewA xs w e w') : ImplA xs w e w' := by
  obtain ⟨v, he, ho, hb⟩ := h
  exact ⟨v, he, ho.res hz, hb⟩
theorem atImpl_isSmall (W : World) (m : List (List Int)) : At1 W 13 m (Scalar (.bool (smallM m))) := by
  intro v w' _ hz ho
  obtain ⟨A, c, rfl, hg⟩ := ho.gridS
  obtain ⟨h1, h2, h3⟩ := rows_le hz
  exact (impl_isSmall A c m (by omega) h3 w' hg).mono fun e w2 ⟨he, hw⟩ => ⟨he, hw ▸ Below.refl _ _⟩
theorem atImpl_determinantOf (W : World) (m : List (List Int)) : At1 W 16 m (Scalar (.tuple #[.int .i64 ((detS m).getD 0), .bool (detS m).isSome])) := by
  intro v w' _ hz ho
  obtain ⟨A, c, rfl, hg⟩ := ho.gridR
  obtain ⟨h1, h2, h3⟩ := rows_le hz
  exact impl_determinantOf A c m (by omega) h3 w' hg
theorem atImpl_isRootless (W : World) (m : List (List Int)) : At1 W 31 m (Scalar (.bool (rootM m))) := by
  intro v w' _ hz ho
  obtain ⟨A, c, rfl, hg⟩ := ho.gridR
  obtain ⟨h1, h2, h3⟩ := rows_le hz
  exact impl_isRootless A c m (by omega) h3 w' hg
theorem atImpl_turnedPoly (W : World) (m : List (List Int)) : At1 W 18 m (ImplA (turnedM m)) := by
  intro v w' _ hz ho
  obtain ⟨A, c, rfl, hg⟩ := ho.gridS
  obtain ⟨h1, h2, h3⟩ := rows_le hz
  exact (impl_turnedPoly A c m (by omega) h3 w' hg).mono fun _ _ h => newA_impl (sizeL_turned m) h
theorem atImpl_charPoly (W : World) (m : List (List Int)) : At1 W 24 m (ImplA (charM m)) := by
  intro v w' _ hz ho
  obtain ⟨A, c, rfl, hg⟩ := ho.gridS
  obtain ⟨h1, h2, h3⟩ := rows_le hz
  exact (impl_charPoly A c m (by omega) h3 w' hg).mono fun _ _ h => newA_impl (sizeL_char m) h
theorem atImpl_multiplyPolys (W : World) (a b : List Int) : At2L W 27 a b (ImplA (mulP a b)) := by
  intro v v' w' _ hz hz' ho ho'
  obtain ⟨A, c, rfl, hg⟩ := ho.rowV
  obtain ⟨A', c', rfl, hg'⟩ := ho'.rowV
  unfold SizeL at hz hz'
  exact (impl_mulPolys A A' c c' a b (by omega) (by omega) w' hg hg').mono fun _ _ h => newA_impl (sizeL_mul a b) h
theorem atImpl_polyAt (W : World) (a : List Int) (x : Int) : At1LI W 29 a x (Scalar (.tuple #[.int .i64 ((atP a x).getD 0), .bool (atP a x).isSome])) := by
  intro v w' _ hz ho
  obtain ⟨A, c, rfl, hg⟩ := ho.rowV
  unfold SizeL at hz
  exact impl_polyAt A c a x (by omega) w' hg
end Go.Proofs.Ytfbdmheaalmboaa
