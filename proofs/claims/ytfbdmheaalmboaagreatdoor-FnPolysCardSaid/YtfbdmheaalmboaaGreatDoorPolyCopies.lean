/-
  The model's functions on polynomials at the laws' copies, and that their results are not too long.
-/
import Derived.Test.YtfbdmheaalmboaaGreatDoorCharSpec
import Derived.Test.YtfbdmheaalmboaaGreatDoorPolyMul
import Derived.Test.YtfbdmheaalmboaaGreatDoorBaseTexts
import Derived.Test.YtfbdmheaalmboaaGreatDoorMidTexts
namespace Go.Proofs.YtfbdmheaalmboaaGreatDoor
open Go Go.RowKit

theorem specV_isSmall {m : List (List Int)} (hz : SizeB m) {v : Value} {w : World} (h : GridV w v m) : Calls Tryz.prog 21 #[v] w (Scalar (.bool (smallM m)) w) := by
  obtain ⟨A, c, rfl, hg⟩ := h
  obtain ⟨h1, h2, h3⟩ := rows_le hz
  exact (spec_isSmall A c m (by omega) h3 w hg).mono fun e w2 ⟨he, hw⟩ => ⟨he, hw ▸ Below.refl _ _⟩
theorem specV_determinantOf {m : List (List Int)} (hz : SizeB m) {v : Value} {w : World} (h : GridVC w v m) : Calls Tryz.prog 10 #[v] w (DetPost m w) := by
  obtain ⟨A, c, rfl, hg⟩ := h
  obtain ⟨h1, h2, _⟩ := rows_le hz
  exact spec_determinantOf A c m h1 h2 w hg
theorem specV_isRootless {m : List (List Int)} (hz : SizeB m) {v : Value} {w : World} (h : GridVC w v m) : Calls Tryz.prog 23 #[v] w (Scalar (.bool (rootM m)) w) := by
  obtain ⟨A, c, rfl, hg⟩ := h
  obtain ⟨h1, h2, _⟩ := rows_le hz
  exact spec_isRootless A c m h1 h2 w hg
theorem specV_turnedPoly {m : List (List Int)} (hz : SizeB m) {v : Value} {w : World} (h : GridVC w v m) : Calls Tryz.prog 18 #[v] w (NewA (turnedM m) w) := by
  obtain ⟨A, c, rfl, hg⟩ := h
  obtain ⟨h1, h2, _⟩ := rows_le hz
  exact spec_turnedPoly A c m h1 h2 w hg
theorem specV_charPoly {m : List (List Int)} (hz : SizeB m) {v : Value} {w : World} (h : GridVC w v m) : Calls Tryz.prog 17 #[v] w (NewA (charM m) w) := by
  obtain ⟨A, c, rfl, hg⟩ := h
  obtain ⟨h1, h2, _⟩ := rows_le hz
  exact spec_charPoly A c m h1 h2 w hg
theorem specV_multiplyPolys {a b : List Int} (ha : SizeL a) (hb : SizeL b) {v v' : Value} {w : World} (h : RowV w v a) (h' : RowV w v' b) : Calls Tryz.prog 19 #[v, v'] w (NewA (mulP a b) w) := by
  obtain ⟨A, c, rfl, hg⟩ := h
  obtain ⟨A', c', rfl, hg'⟩ := h'
  unfold SizeL at ha hb
  exact spec_mulPolys A A' c c' a b ha hb w hg hg'
theorem specV_polyAt {a : List Int} (ha : SizeL a) (x : Int) {v : Value} {w : World} (h : RowV w v a) : Calls Tryz.prog 15 #[v, .int .i64 x] w (Scalar (.tuple #[.int .i64 ((atP a x).getD 0), .bool (atP a x).isSome]) w) := by
  obtain ⟨A, c, rfl, hg⟩ := h
  unfold SizeL at ha
  exact (spec_polyAt A c a x ha w hg).mono fun e w2 ⟨he, hw⟩ => ⟨he, hw ▸ Below.refl _ _⟩
theorem newA_spec {xs : List Int} {w : World} {e : Ending} {w' : World} (h : NewA xs w e w') : SpecA xs w e w' := by
  obtain ⟨v, he, ho, hb⟩ := h
  exact ⟨v, he, ho.rowV, hb⟩

theorem atSpec_isSmall (W : World) (m : List (List Int)) : At1 W 21 m (Scalar (.bool (smallM m))) := fun _ _ _ hz ho => specV_isSmall hz ho.gridV
theorem atSpec_determinantOf (W : World) (m : List (List Int)) : At1 W 10 m (Scalar (.tuple #[.int .i64 ((detS m).getD 0), .bool (detS m).isSome])) := fun _ _ _ hz ho => specV_determinantOf hz ho.gridVC
theorem atSpec_isRootless (W : World) (m : List (List Int)) : At1 W 23 m (Scalar (.bool (rootM m))) := fun _ _ _ hz ho => specV_isRootless hz ho.gridVC
theorem atSpec_turnedPoly (W : World) (m : List (List Int)) : At1 W 18 m (SpecA (turnedM m)) := fun _ _ _ hz ho => (specV_turnedPoly hz ho.gridVC).mono fun _ _ h => newA_spec h
theorem atSpec_charPoly (W : World) (m : List (List Int)) : At1 W 17 m (SpecA (charM m)) := fun _ _ _ hz ho => (specV_charPoly hz ho.gridVC).mono fun _ _ h => newA_spec h
theorem atSpec_multiplyPolys (W : World) (a b : List Int) : At2L W 19 a b (SpecA (mulP a b)) := fun _ _ _ _ hz hz' ho ho' => (specV_multiplyPolys hz hz' ho.rowV ho'.rowV).mono fun _ _ h => newA_spec h
theorem atSpec_polyAt (W : World) (a : List Int) (x : Int) : At1LI W 15 a x (Scalar (.tuple #[.int .i64 ((atP a x).getD 0), .bool (atP a x).isSome])) := fun _ _ _ hz ho => specV_polyAt hz x ho.rowV

theorem cutL_le (p : List Int) : (cutL p).length ≤ p.length := by
  unfold cutL
  rw [List.length_take]; omega
theorem sizeL_turned (m : List (List Int)) : SizeL (turnedM m) := by
  unfold SizeL turnedM
  split
  · next h =>
    obtain ⟨_, h2, _⟩ := small_facts h
    have := cutL_le (turnedL m)
    have hl : (turnedL m).length = m.length + 1 := by simp [turnedL]
    omega
  · decide
theorem sizeL_char (m : List (List Int)) : SizeL (charM m) := by
  unfold SizeL charM
  split
  · next h =>
    obtain ⟨_, h2, _⟩ := small_facts h
    rw [charL_len]; omega
  · decide
theorem sizeL_mul (a b : List Int) : SizeL (mulP a b) := by
  unfold SizeL mulP
  split
  · next h =>
    rw [Bool.and_eq_true, Bool.and_eq_true] at h
    have h1 := (fits_at h.1.1).1
    have h2 := (fits_at h.1.2).1
    have := cutL_le (convL a b)
    have hl : (convL a b).length = a.length + b.length - 1 := by simp [convL]
    omega
  · decide
end Go.Proofs.YtfbdmheaalmboaaGreatDoor
