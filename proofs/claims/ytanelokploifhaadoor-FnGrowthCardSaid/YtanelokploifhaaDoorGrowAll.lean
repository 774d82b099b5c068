/-
  The program's six functions on growth, in every later world, where strconv's table is as it is laid.
-/
import Derived.Test.YtanelokploifhaaDoorGrowTextI
import Derived.Test.YtanelokploifhaaDoorFnGrowthLaw
namespace Go.Proofs.YtanelokploifhaaDoor
open Go Go.RowKit

theorem grow_at (W : World) (hp : Pow W) : GrowAt W where
  isBelow _ q d := fun _ _ _ hz hg => implV_isBelow hz q d hg.gridV
  floor _ d := fun _ _ _ hz hg => implV_floor hz d hg.gridV
  compare _ _ d := fun _ _ _ _ hz hz' hg hg' => implV_compare hz hz' d hg.gridV hg'.gridV
  rowBounds _ := fun _ _ _ hz hg => implV_rowBounds hz hg.gridV
  growthText m d := fun v w' hb hz hg => by
    obtain ⟨A, c, rfl, h⟩ := hg.gridV
    obtain ⟨h1, _, h3⟩ := rows_le hz
    exact impl_growthText A c m (by omega) h3 d w' (hp.below hb) h
  isGrowthless _ := fun _ _ _ hz hg => implV_isGrowthless hz hg.gridV
end Go.Proofs.YtanelokploifhaaDoor
