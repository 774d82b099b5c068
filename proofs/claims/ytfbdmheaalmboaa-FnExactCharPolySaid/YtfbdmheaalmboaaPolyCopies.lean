/-
  The model's functions on polynomials at the laws' copies, and that their results are not too long.
-/
import Derived.Test.YtfbdmheaalmboaaCharSpec
import Derived.Test.YtfbdmheaalmboaaPolyMul
import Derived.Test.YtfbdmheaalmboaaMatSize
namespace Go.Proofs.Ytfbdmheaalmboaa
open Go Go.RowKit

def At1L (W : World) (f : Nat) (l : List Int) (P : World → Ending → World → Prop) : Prop := ∀ v w', Below W.heap.size W w' → SizeL l → OwnA w' W.heap.size v l → Calls Try.prog f #[v] w' (P w')
def At1LI (W : World) (f : Nat) (l : List Int) (n : Int) (P : World → Ending → World → Prop) : Prop := ∀ v w', Below W.heap.size W w' → SizeL l → OwnA w' W.heap.size v l → Calls Try.prog f #[v, .int .i64 n] w' (P w')
def At2L (W : World) (f : Nat) (l l2 : List Int) (P : World → Ending → World → Prop) : Prop := ∀ v v' w', Below W.heap.size W w' → SizeL l → SizeL l2 → OwnA w' W.heap.size v l → OwnA w' W.heap.size v' l2 → Calls Try.prog f #[v, v'] w' (P w')


theorem specV_isSmall {m : List (List Int)} (hz : SizeB m) {v : Value} {w : World} (h : GridV w v m) : Calls Try.prog 11 #[v] w (Scalar (.bool (smallM m)) w) := by
  obtain ⟨A, c, rfl, hg⟩ := h
  obtain ⟨h1, h2, h3⟩ := rows_le hz
  exact (spec_isSmall A c m (by omega) h3 w hg).mono fun e w2 ⟨he, hw⟩ => ⟨he, hw ▸ Below.refl _ _⟩
theorem specV_determinantOf {m : List (List Int)} (hz : SizeB m) {v : Value} {w : World} (h : GridVC w v m) : Calls Try.prog 15 #[v] w (DetPost m w) := by
  obtain ⟨A, c, rfl, hg⟩ := h
  obtain ⟨h1, h2, _⟩ := rows_le hz
  exact spec_determinantOf A c m h1 h2 w hg
theorem specV_isRootless {m : List (List Int)} (hz : SizeB m) {v : Value} {w : World} (h : GridVC w v m) : Calls Try.prog 30 #[v] w (Scalar (.bool (rootM m)) w) := by
  obtain ⟨A, c, rfl, hg⟩ := h
  obtain ⟨h1, h2, _⟩ := rows_le hz
  exact spec_isRootless A c m h1 h2 w hg
theorem specV_turnedPoly {m : List (List Int)} (hz : SizeB m) {v : Value} {w : World} (h : GridVC w v m) : Calls Try.prog 17 #[v] w (NewA (turnedM m) w) := by
  obtain ⟨A, c, rfl, hg⟩ := h
  obtain ⟨h1, h2, _⟩ := rows_le hz
  exact spec_turnedPoly A c m h1 h2 w hg
theorem specV_charPoly {m : List (List Int)} (hz : SizeB m) {v : Value} {w : World} (h : GridVC w v m) : Calls Try.prog 23 #[v] w (NewA (charM m) w) := by
  obtain ⟨A, c, rfl, hg⟩ := h
  obtain ⟨h1, h2, _⟩ := rows_le hz
  exact spec_charPoly A c m h1 h2 w hg
theorem specV_multiplyPolys {a b : List Int} (ha : SizeL a) (hb : SizeL b) {v v' : Value} {w : World} (h : RowV w v a) (h' : RowV w v' b) : Calls Try.prog 25 #[v, v'] w (NewA (mulP a b) w) := by
  obtain ⟨A, c, rfl, hg⟩ := h
  obtain ⟨A', c', rfl, hg'⟩ := h'
  unfold SizeL at ha hb
  exact spec_mulPolys A A' c c' a b ha hb w hg hg'
theorem specV_polyAt {a : List Int} (ha : SizeL a) (x : Int) {v : Value} {w : World} (h : RowV w v a) : Calls Try.prog 28 #[v, .int .i64 x] w (Scalar (.tuple #[.int .i64 ((atP a x).getD 0), .bool (atP a x).isSome]) w) := by
  obtain ⟨A, c, rfl, hg⟩ := h
  unfold SizeL at ha
  exact (spec_polyAt A c a x ha w hg).mono fun e w2 ⟨he, hw⟩ => ⟨he, hw ▸ Below.refl _ _⟩
theorem newA_spec {xs : List Int} {w : World} {e : Ending} {w' : World} (h : NewA xs w e w') : SpecA xs w e w' := by
  obtain ⟨v, he, ho, hb⟩ := h
  exact ⟨v, he, ho.rowV, hb⟩

theorem atSpec_isSmall (W : World) (m : List (List Int)) : At1 W 11 m (Scalar (.bool (smallM m))) := fun _ _ _ hz ho => specV_isSmall hz ho.gridV
theorem atSpec_determinantOf (W : World) (m : List (List Int)) : At1 W 15 m (Scalar (.tuple #[.int .i64 ((detS m).getD 0), .bool (detS m).isSome])) := fun _ _ _ hz ho => specV_determinantOf hz ho.gridVC
theorem atSpec_isRootless (W : World) (m : List (List Int)) : At1 W 30 m (Scalar (.bool (rootM m))) := fun _ _ _ hz ho => specV_isRootless hz ho.gridVC
theorem atSpec_turnedPoly (W : World) (m : List (List Int)) : At1 W 17 m (SpecA (turnedM m)) := fun _ _ _ hz ho => (specV_turnedPoly hz ho.gridVC).mono fun _ _ h => newA_spec h
theorem atSpec_charPoly (W : World) (m : List (List Int)) : At1 W 23 m (SpecA (charM m)) := fun _ _ _ hz ho => (specV_charPoly hz ho.gridVC).mono fun _ _ h => newA_spec h
theorem atSpec_multiplyPolys (W : World) (a b : List Int) : At2L W 25 a b (SpecA (mulP a b)) := fun _ _ _ _ hz hz' ho ho' => (specV_multiplyPolys hz hz' ho.rowV ho'.rowV).mono fun _ _ h => newA_spec h
theorem atSpec_polyAt (W : World) (a : List Int) (x : Int) : At1LI W 28 a x (Scalar (.tuple #[.int .i64 ((atP a x).getD 0), .bool (atP a x).isSome])) := fun _ _ _ hz ho => specV_polyAt hz x ho.rowV

theorem cutL_le (p : List Int) : (cutL p).length ≤ p.length := by
  unfold cutL
  rw [List.length_take]; omega
theorem sizeL_turned (m : List (List Int)) : SizeL (turnedM m) := by
  unfold SizeL turnedM
  split
  · next h =>
    obtain ⟨_, h2, _⟩ := small_facts h
    have := cutL_le (turnedL m)
    have hl : (turnedL m).length = m.length + 1 := by simp [turnedL]
    omega
  · decide
theorem sizeL_char (m : List (List Int)) : SizeL (charM m) := by
  unfold SizeL charM
  split
  · next h =>
    obtain ⟨_, h2, _⟩ := small_facts h
    rw [charL_len]; omega
  · decide
theorem sizeL_mul (a b : List Int) : SizeL (mulP a b) := by
  unfold SizeL mulP
  split
  · next h =>
    rw [Bool.and_eq_true, Bool.and_eq_true] at h
    have h1 := (fits_at h.1.1).1
    have h2 := (fits_at h.1.2).1
    have := cutL_le (convL a b)
    have hl : (convL a b).length = a.length + b.length - 1 := by simp [convL]
    omega
  · decide
end Go.Proofs.Ytfbdmheaalmboaa
