/-
  The program's functions on matrices at the laws' copies.
-/
import Derived.Test.YtljmghleiijajaaMatEqI
import Derived.Test.YtljmghleiijajaaMatPowI
import Derived.Test.YtljmghleiijajaaRowSums
import Derived.Test.YtljmghleiijajaaMatCopies
namespace Go.Proofs.Ytljmghleiijajaa
open Go Go.RowKit

theorem newG_impl {m : List (List Int)} (hm : SizeB m) {w : World} {e : Ending} {w' : World} (h : NewG m w e w') : ImplG m w e w' := by
  obtain ⟨v, he, ho, hb⟩ := h
  exact ⟨v, he, ho.res hm, hb⟩
theorem newGB_impl {o : Option (List (List Int))} (hm : SizeB (o.getD [])) {w : World} {e : Ending} {w' : World} (h : NewGB o w e w') : ImplGB (o.getD []) o.isSome w e w' := by
  obtain ⟨v, he, ho, hb⟩ := h
  exact ⟨v, he, ho.res hm, hb⟩
theorem atImpl_isMatrix (W : World) (m : List (List Int)) : At1 W 13 m (Scalar (.bool (isMat m))) := by
  intro v w' _ hz ho
  obtain ⟨A, c, rfl, hg⟩ := ho.gridS
  obtain ⟨h1, h2, h3⟩ := rows_le hz
  exact (impl_isMatrix A c m (by omega) h3 w' hg).mono fun e w2 ⟨he, hw⟩ => ⟨he, hw ▸ Below.refl _ _⟩
theorem atImpl_traceOf (W : World) (m : List (List Int)) : At1 W 24 m (Scalar (.int .i64 (traceM m))) := by
  intro v w' _ hz ho
  obtain ⟨A, c, rfl, hg⟩ := ho.gridS
  obtain ⟨h1, h2, h3⟩ := rows_le hz
  exact (impl_traceOf A c m (by omega) h3 w' hg).mono fun e w2 ⟨he, hw⟩ => ⟨he, hw ▸ Below.refl _ _⟩
theorem atImpl_sumOf (W : World) (m : List (List Int)) : At1 W 26 m (Scalar (.int .i64 (sumM m))) := by
  intro v w' _ hz ho
  obtain ⟨A, c, rfl, hg⟩ := ho.gridS
  obtain ⟨h1, h2, h3⟩ := rows_le hz
  exact (impl_sumOf A c m (by omega) h3 w' hg).mono fun e w2 ⟨he, hw⟩ => ⟨he, hw ▸ Below.refl _ _⟩
theorem atImpl_turnMatrix (W : World) (m : List (List Int)) : At1 W 28 m (ImplG (turnS m)) := by
  intro v w' _ hz ho
  obtain ⟨A, c, rfl, hg⟩ := ho.gridS
  obtain ⟨h1, h2, h3⟩ := rows_le hz
  exact (impl_turnMatrix A c m h1 h2 w' hg).mono fun e w2 h => newG_impl (sizeB_turn m) h
theorem atImpl_powerMatrix (W : World) (m : List (List Int)) (n : Int) : At1I W 22 m n (ImplGB ((powS m n).getD []) (powS m n).isSome) := by
  intro v w' _ hz ho
  obtain ⟨A, c, rfl, hg⟩ := ho.gridS
  obtain ⟨h1, h2, h3⟩ := rows_le hz
  exact (impl_power A c m h1 h2 n w' hg).mono fun e w2 h => newGB_impl (sizeB_pow m n) h
theorem atImpl_multiplyMatrices (W : World) (a b : List (List Int)) : At2 W 18 a b (ImplGB ((prodM a b).getD []) (prodM a b).isSome) := by
  intro v v' w' _ hz hz' ho ho'
  obtain ⟨A, c, rfl, hg⟩ := ho.gridS
  obtain ⟨A', c', rfl, hg'⟩ := ho'.gridS
  obtain ⟨h1, h2, _⟩ := rows_le hz
  obtain ⟨k1, k2, _⟩ := rows_le hz'
  exact (impl_multiply A A' c c' a b h1 k1 h2 k2 w' hg hg').mono fun e w2 h => newGB_impl (sizeB_prod a b) h
theorem atImpl_equalMatrix (W : World) (a b : List (List Int)) : At2 W 16 a b (Scalar (.bool (decide (a = b)))) := by
  intro v v' w' _ hz hz' ho ho'
  obtain ⟨A, c, rfl, hg⟩ := ho.gridS
  obtain ⟨A', c', rfl, hg'⟩ := ho'.gridS
  obtain ⟨h1, h2, _⟩ := rows_le hz
  obtain ⟨k1, k2, _⟩ := rows_le hz'
  exact (impl_equalMatrix A A' c c' a b h1 k1 h2 k2 w' hg hg').mono fun e w2 ⟨he, hb⟩ => ⟨he, hb⟩
end Go.Proofs.Ytljmghleiijajaa
