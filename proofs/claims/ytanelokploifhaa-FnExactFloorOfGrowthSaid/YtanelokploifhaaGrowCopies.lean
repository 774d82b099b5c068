/-
  The model's functions on growth at the laws' copies.
-/
import Derived.Test.YtanelokploifhaaFloorSpec
import Derived.Test.YtanelokploifhaaRowsSpec
import Derived.Test.YtanelokploifhaaLightSpec
import Derived.Test.YtanelokploifhaaBaseTexts
namespace Go.Proofs.Ytanelokploifhaa
open Go Go.RowKit

theorem specV_isBelow {m : List (List Int)} (hz : SizeB m) (q d : Int) {v : Value} {w : World} (h : GridV w v m) : Calls Try.prog 9 #[v, .int .i64 q, .int .i64 d] w (Scalar (.bool (belowS m q d)) w) := by
  obtain ⟨A, c, rfl, hg⟩ := h
  obtain ⟨h1, _, h3⟩ := rows_le hz
  exact spec_isBelow A c m h1 h3 q d w hg
theorem specV_floor {m : List (List Int)} (hz : SizeB m) (d : Int) {v : Value} {w : World} (h : GridV w v m) : Calls Try.prog 13 #[v, .int .i64 d] w (Scalar (.int .i64 (floorS m d)) w) := by
  obtain ⟨A, c, rfl, hg⟩ := h
  obtain ⟨h1, _, h3⟩ := rows_le hz
  exact spec_floor A c m h1 h3 d w hg
theorem specV_compare {a b : List (List Int)} (hz : SizeB a) (hz' : SizeB b) (d : Int) {v v' : Value} {w : World} (h : GridV w v a) (h' : GridV w v' b) : Calls Try.prog 17 #[v, v', .int .i64 d] w (Scalar (.int .i64 (cmpS a b d)) w) := by
  obtain ⟨A, c, rfl, hg⟩ := h
  obtain ⟨A', c', rfl, hg'⟩ := h'
  obtain ⟨h1, _, h3⟩ := rows_le hz
  obtain ⟨k1, _, k3⟩ := rows_le hz'
  exact spec_compare A A' c c' a b h1 h3 k1 k3 d w hg hg'
theorem specV_rowBounds {m : List (List Int)} (hz : SizeB m) {v : Value} {w : World} (h : GridV w v m) : Calls Try.prog 15 #[v] w (Scalar (.tuple #[.int .i64 (lowS m), .int .i64 (highS m)]) w) := by
  obtain ⟨A, c, rfl, hg⟩ := h
  obtain ⟨h1, _, h3⟩ := rows_le hz
  exact (spec_rowBounds A c m h1 h3 w hg).mono fun e w2 ⟨he, hw⟩ => ⟨he, hw ▸ Below.refl _ _⟩
theorem specV_isGrowthless {m : List (List Int)} (hz : SizeB m) {v : Value} {w : World} (h : GridV w v m) : Calls Try.prog 19 #[v] w (Scalar (.bool (growthlessS m)) w) := by
  obtain ⟨A, c, rfl, hg⟩ := h
  obtain ⟨h1, _, h3⟩ := rows_le hz
  exact spec_isGrowthless A c m h1 h3 w hg
theorem atSpec_isBelow (W : World) (m : List (List Int)) (q d : Int) : ∀ v w', Below W.heap.size W w' → SizeB m → OwnG w' W.heap.size v m → Calls Try.prog 9 #[v, .int .i64 q, .int .i64 d] w' (Scalar (.bool (belowS m q d)) w') := fun _ _ _ hz ho => specV_isBelow hz q d ho.gridV
theorem atSpec_floor (W : World) (m : List (List Int)) (d : Int) : ∀ v w', Below W.heap.size W w' → SizeB m → OwnG w' W.heap.size v m → Calls Try.prog 13 #[v, .int .i64 d] w' (Scalar (.int .i64 (floorS m d)) w') := fun _ _ _ hz ho => specV_floor hz d ho.gridV
theorem atSpec_compare (W : World) (a b : List (List Int)) (d : Int) : ∀ v v' w', Below W.heap.size W w' → SizeB a → SizeB b → OwnG w' W.heap.size v a → OwnG w' W.heap.size v' b → Calls Try.prog 17 #[v, v', .int .i64 d] w' (Scalar (.int .i64 (cmpS a b d)) w') := fun _ _ _ _ hz hz' ho ho' => specV_compare hz hz' d ho.gridV ho'.gridV
theorem atSpec_rowBounds (W : World) (m : List (List Int)) : ∀ v w', Below W.heap.size W w' → SizeB m → OwnG w' W.heap.size v m → Calls Try.prog 15 #[v] w' (Scalar (.tuple #[.int .i64 (lowS m), .int .i64 (highS m)]) w') := fun _ _ _ hz ho => specV_rowBounds hz ho.gridV
theorem atSpec_isGrowthless (W : World) (m : List (List Int)) : ∀ v w', Below W.heap.size W w' → SizeB m → OwnG w' W.heap.size v m → Calls Try.prog 19 #[v] w' (Scalar (.bool (growthlessS m)) w') := fun _ _ _ hz ho => specV_isGrowthless hz ho.gridV
end Go.Proofs.Ytanelokploifhaa
