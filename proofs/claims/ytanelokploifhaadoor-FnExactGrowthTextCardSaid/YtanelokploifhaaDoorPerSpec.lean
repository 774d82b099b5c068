/-
  The model's PeriodOf, IsPrimitive and PrimitiveStep: what the plain words say; nothing that was there before is changed.
-/
import Derived.Test.YtanelokploifhaaDoorStepSpec
import Derived.Test.YtanelokploifhaaDoorModelTexts
import Derived.Test.YtanelokploifhaaDoorBaseTexts
namespace Go.Proofs.YtanelokploifhaaDoor
open Go Go.RowKit

theorem perRow_le {m : List (List Int)} {n B : Nat} (hn0 : 0 < n) (hn : n ≤ B) : ∀ {i p : Nat}, p ≤ B → perRow m n i p ≤ B
  | 0, _, hp => hp
  | i + 1, p, hp => by
    rw [perRow]
    split
    · exact Nat.le_trans (Nat.gcd_le_right _ hn0) hn
    · exact perRow_le hn0 hn hp
theorem perAcc_le {m : List (List Int)} : ∀ (n : Nat), perAcc m n ≤ n
  | 0 => Nat.le_refl _
  | n + 1 => perRow_le (by omega) (Nat.le_refl _) (Nat.le_trans (perAcc_le n) (by omega))

end Go.Proofs.YtanelokploifhaaDoor
