/-
  The program's functions on growth at the laws' copies.
-/
import Derived.Test.YtanelokploifhaaDoorGrowFloorI
import Derived.Test.YtanelokploifhaaDoorGrowLightI
import Derived.Test.YtanelokploifhaaDoorBaseTexts
namespace Go.Proofs.YtanelokploifhaaDoor
open Go Go.RowKit

theorem implV_isBelow {m : List (List Int)} (hz : SizeB m) (q d : Int) {v : Value} {w : World} (h : GridV w v m) : Calls Tryd.prog 13 #[v, .int .i64 q, .int .i64 d] w (Scalar (.bool (belowS m q d)) w) := by
  obtain ⟨A, c, rfl, hg⟩ := h
  obtain ⟨h1, _, h3⟩ := rows_le hz
  exact impl_isBelow A c m (by omega) h3 q d w hg
theorem implV_floor {m : List (List Int)} (hz : SizeB m) (d : Int) {v : Value} {w : World} (h : GridV w v m) : Calls Tryd.prog 7 #[v, .int .i64 d] w (Scalar (.int .i64 (floorS m d)) w) := by
  obtain ⟨A, c, rfl, hg⟩ := h
  obtain ⟨h1, _, h3⟩ := rows_le hz
  exact impl_floor A c m (by omega) h3 d w hg
theorem implV_compare {a b : List (List Int)} (hz : SizeB a) (hz' : SizeB b) (d : Int) {v v' : Value} {w : World} (h : GridV w v a) (h' : GridV w v' b) : Calls Tryd.prog 15 #[v, v', .int .i64 d] w (Scalar (.int .i64 (cmpS a b d)) w) := by
  obtain ⟨A, c, rfl, hg⟩ := h
  obtain ⟨A', c', rfl, hg'⟩ := h'
  obtain ⟨h1, _, h3⟩ := rows_le hz
  obtain ⟨k1, _, k3⟩ := rows_le hz'
  exact impl_compare A A' c c' a b (by omega) h3 (by omega) k3 d w hg hg'
theorem implV_rowBounds {m : List (List Int)} (hz : SizeB m) {v : Value} {w : World} (h : GridV w v m) : Calls Tryd.prog 10 #[v] w (Scalar (.tuple #[.int .i64 (lowS m), .int .i64 (highS m)]) w) := by
  obtain ⟨A, c, rfl, hg⟩ := h
  obtain ⟨h1, _, h3⟩ := rows_le hz
  exact impl_rowBounds A c m (by omega) h3 w hg
theorem implV_isGrowthless {m : List (List Int)} (hz : SizeB m) {v : Value} {w : World} (h : GridV w v m) : Calls Tryd.prog 19 #[v] w (Scalar (.bool (growthlessS m)) w) := by
  obtain ⟨A, c, rfl, hg⟩ := h
  obtain ⟨h1, _, h3⟩ := rows_le hz
  exact impl_isGrowthless A c m (by omega) h3 w hg
theorem atImpl_isBelow (W : World) (m : List (List Int)) (q d : Int) : ∀ v w', Below W.heap.size W w' → SizeB m → OwnG w' W.heap.size v m → Calls Tryd.prog 13 #[v, .int .i64 q, .int .i64 d] w' (Scalar (.bool (belowS m q d)) w') := fun _ _ _ hz ho => implV_isBelow hz q d ho.gridV
theorem atImpl_floor (W : World) (m : List (List Int)) (d : Int) : ∀ v w', Below W.heap.size W w' → SizeB m → OwnG w' W.heap.size v m → Calls Tryd.prog 7 #[v, .int .i64 d] w' (Scalar (.int .i64 (floorS m d)) w') := fun _ _ _ hz ho => implV_floor hz d ho.gridV
theorem atImpl_compare (W : World) (a b : List (List Int)) (d : Int) : ∀ v v' w', Below W.heap.size W w' → SizeB a → SizeB b → OwnG w' W.heap.size v a → OwnG w' W.heap.size v' b → Calls Tryd.prog 15 #[v, v', .int .i64 d] w' (Scalar (.int .i64 (cmpS a b d)) w') := fun _ _ _ _ hz hz' ho ho' => implV_compare hz hz' d ho.gridV ho'.gridV
theorem atImpl_rowBounds (W : World) (m : List (List Int)) : ∀ v w', Below W.heap.size W w' → SizeB m → OwnG w' W.heap.size v m → Calls Tryd.prog 10 #[v] w' (Scalar (.tuple #[.int .i64 (lowS m), .int .i64 (highS m)]) w') := fun _ _ _ hz ho => implV_rowBounds hz ho.gridV
theorem atImpl_isGrowthless (W : World) (m : List (List Int)) : ∀ v w', Below W.heap.size W w' → SizeB m → OwnG w' W.heap.size v m → Calls Tryd.prog 19 #[v] w' (Scalar (.bool (growthlessS m)) w') := fun _ _ _ hz ho => implV_isGrowthless hz ho.gridV
end Go.Proofs.YtanelokploifhaaDoor
