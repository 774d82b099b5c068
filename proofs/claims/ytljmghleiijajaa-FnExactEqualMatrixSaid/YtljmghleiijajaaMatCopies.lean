/-
  The model's functions on matrices at the laws' copies, and that their tables are not too large.
-/
import Derived.Test.YtljmghleiijajaaMatPower
import Derived.Test.YtljmghleiijajaaGridLaw
namespace Go.Proofs.Ytljmghleiijajaa
open Go Go.RowKit

theorem turnM_facts {m : List (List Int)} (h : MatFacts m) : MatFacts (turnM m) := by
  have hl : (turnM m).length = m.length := tabOf_length _ _ _
  refine ⟨by rw [hl]; exact h.pos, by rw [hl]; exact h.le, fun i hi => ?_, fun i j hi hj => ?_⟩
  · rw [hl] at hi
    unfold turnM; rw [tabOf_row hi, tabOf_length]; simp
  · rw [hl] at hi hj
    unfold turnM; rw [tabOf_cell hi hj]; exact h.cell j i hj hi
theorem sizeB_turn (m : List (List Int)) : SizeB (turnS m) := by
  unfold turnS
  split
  · next h => exact sizeB_facts (turnM_facts (isMat_facts h))
  · exact sizeB_nil
theorem sizeB_prod (a b : List (List Int)) : SizeB ((prodM a b).getD []) := by
  cases h : prodM a b with
  | none => exact sizeB_nil
  | some p => exact sizeB_facts (isMat_facts (prodM_some h).2.2.2.1)
theorem sizeB_pow (m : List (List Int)) (n : Int) : SizeB ((powS m n).getD []) := by
  cases h : powS m n with
  | none => exact sizeB_nil
  | some p =>
    unfold powS at h
    split at h
    · next hc => exact sizeB_facts (isMat_facts (powM_isMat hc.1 _ h))
    · cases h

theorem atSpec_isMatrix (W : World) (m : List (List Int)) : At1 W 11 m (Scalar (.bool (isMat m))) := by
  intro v w' _ hz ho
  obtain ⟨A, c, rfl, hg⟩ := ho.gridS
  obtain ⟨h1, h2, h3⟩ := rows_le hz
  exact (spec_isMatrix A c m (by omega) h3 w' hg).mono fun e w2 ⟨he, hw⟩ => ⟨he, hw ▸ Below.refl _ _⟩
theorem atSpec_traceOf (W : World) (m : List (List Int)) : At1 W 23 m (Scalar (.int .i64 (traceM m))) := by
  intro v w' _ hz ho
  obtain ⟨A, c, rfl, hg⟩ := ho.gridS
  obtain ⟨h1, h2, h3⟩ := rows_le hz
  exact (spec_traceOf A c m (by omega) h3 w' hg).mono fun e w2 ⟨he, hw⟩ => ⟨he, hw ▸ Below.refl _ _⟩
theorem atSpec_sumOf (W : World) (m : List (List Int)) : At1 W 25 m (Scalar (.int .i64 (sumM m))) := by
  intro v w' _ hz ho
  obtain ⟨A, c, rfl, hg⟩ := ho.gridS
  obtain ⟨h1, h2, h3⟩ := rows_le hz
  exact (spec_sumOf A c m (by omega) h3 w' hg).mono fun e w2 ⟨he, hw⟩ => ⟨he, hw ▸ Below.refl _ _⟩
theorem atSpec_turnMatrix (W : World) (m : List (List Int)) : At1 W 27 m (SpecG (turnS m)) := by
  intro v w' _ hz ho
  obtain ⟨A, c, rfl, hg⟩ := ho.gridS
  obtain ⟨h1, h2, h3⟩ := rows_le hz
  exact (spec_turnMatrix A c m h1 h2 w' hg).mono fun e w2 ⟨v, he, ho, hb⟩ => ⟨v, he, ho.gridV, hb⟩
theorem atSpec_powerMatrix (W : World) (m : List (List Int)) (n : Int) : At1I W 21 m n (SpecGB ((powS m n).getD []) (powS m n).isSome) := by
  intro v w' _ hz ho
  obtain ⟨A, c, rfl, hg⟩ := ho.gridS
  obtain ⟨h1, h2, h3⟩ := rows_le hz
  exact (spec_power A c m h1 h2 n w' hg).mono fun e w2 ⟨v, he, ho, hb⟩ => ⟨v, he, ho.gridV, hb⟩
theorem atSpec_multiplyMatrices (W : World) (a b : List (List Int)) : At2 W 17 a b (SpecGB ((prodM a b).getD []) (prodM a b).isSome) := by
  intro v v' w' _ hz hz' ho ho'
  obtain ⟨A, c, rfl, hg⟩ := ho.gridS
  obtain ⟨A', c', rfl, hg'⟩ := ho'.gridS
  obtain ⟨h1, h2, _⟩ := rows_le hz
  obtain ⟨k1, k2, _⟩ := rows_le hz'
  exact (spec_multiply A A' c c' a b h1 k1 h2 k2 w' hg hg').mono fun e w2 ⟨v, he, ho, hb⟩ => ⟨v, he, ho.gridV, hb⟩
theorem atSpec_equalMatrix (W : World) (a b : List (List Int)) : At2 W 15 a b (Scalar (.bool (decide (a = b)))) := by
  intro v v' w' _ hz hz' ho ho'
  obtain ⟨A, c, rfl, hg⟩ := ho.gridS
  obtain ⟨A', c', rfl, hg'⟩ := ho'.gridS
  obtain ⟨h1, h2, _⟩ := rows_le hz
  obtain ⟨k1, k2, _⟩ := rows_le hz'
  exact (spec_equalMatrix A A' c c' a b h1 h2 k2 w' hg hg').mono fun e w2 ⟨he, hb⟩ => ⟨he, hb⟩
end Go.Proofs.Ytljmghleiijajaa
