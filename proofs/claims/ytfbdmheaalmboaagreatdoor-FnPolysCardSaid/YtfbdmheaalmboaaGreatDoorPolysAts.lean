/-
  The program's functions on polynomials, as the law on polynomials asks for them: in every later world.
-/
import Derived.Test.YtfbdmheaalmboaaGreatDoorPolysLaw
import Derived.Test.YtfbdmheaalmboaaGreatDoorPolyMulI
import Derived.Test.YtfbdmheaalmboaaGreatDoorPolyTextI
namespace Go.Proofs.YtfbdmheaalmboaaGreatDoor
open Go Go.RowKit

theorem polys_at (W : World) (hp : Pow W) : PolysAt W where
  isSmall m := fun v w' _ hz hg => by
    obtain ⟨A, c, rfl, h, _⟩ := hg
    obtain ⟨h1, h2, h3⟩ := rows_le hz
    exact (impl_isSmall A c m (by omega) h3 w' h.gridS).mono fun e w2 ⟨he, hw⟩ => ⟨he, hw ▸ Below.refl _ _⟩
  determinantOf m := fun v w' _ hz hg => by
    obtain ⟨A, c, rfl, h⟩ := hg
    obtain ⟨h1, h2, h3⟩ := rows_le hz
    exact impl_determinantOf A c m (by omega) h3 w' h
  charPoly m := fun v w' _ hz hg => by
    obtain ⟨A, c, rfl, h, _⟩ := hg
    obtain ⟨h1, h2, h3⟩ := rows_le hz
    exact impl_charPoly A c m (by omega) h3 w' h.gridS
  turnedPoly m := fun v w' _ hz hg => by
    obtain ⟨A, c, rfl, h, _⟩ := hg
    obtain ⟨h1, h2, h3⟩ := rows_le hz
    exact impl_turnedPoly A c m (by omega) h3 w' h.gridS
  isRootless m := fun v w' _ hz hg => by
    obtain ⟨A, c, rfl, h⟩ := hg
    obtain ⟨h1, h2, h3⟩ := rows_le hz
    exact impl_isRootless A c m (by omega) h3 w' h
  multiplyPolys a b := fun v v' w' _ hz hz' hg hg' => by
    obtain ⟨A, c, rfl, h, _⟩ := hg
    obtain ⟨A', c', rfl, h', _⟩ := hg'
    unfold SizeL at hz hz'
    exact impl_mulPolys A A' c c' a b (by omega) (by omega) w' h h'
  polyAt a x := fun v w' _ hz hg => by
    obtain ⟨A, c, rfl, h, _⟩ := hg
    unfold SizeL at hz
    exact impl_polyAt A c a x (by omega) w' h
  polyText a hx := fun v w' hb hz hg => by
    obtain ⟨A, c, rfl, h, _⟩ := hg
    unfold SizeL at hz
    exact impl_polyText A c a hz hx w' (hp.below hb) h
end Go.Proofs.YtfbdmheaalmboaaGreatDoor
