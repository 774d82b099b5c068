/-
  What the laws over drawn tables share: contracts in every later world, and the laws' comparisons.
-/
import Derived.Test.YtanelokploifhaaDoorDrawTexts
import Derived.Test.YtanelokploifhaaDoorDrawBent
import Derived.Test.YtanelokploifhaaDoorBaseTexts
import Derived.Test.YtanelokploifhaaDoorMidTexts
namespace Go.Proofs.YtanelokploifhaaDoor
open Go Go.RowKit

theorem codeAt_next {w w' : World} {a : Option Addr} {n : Nat} (h : CodeAt w w.heap.size a n) (hb : Below w.heap.size w w') : CodeAt w' w'.heap.size a n := by
  intro k hk
  obtain ⟨b, off, z, rfl, hlt, z0, z1, hc⟩ := h k hk
  exact ⟨b, off, z, rfl, Nat.lt_of_lt_of_le hlt hb.size, z0, z1, (hb.cell (p := ⟨b, off + k, none⟩) hlt).trans hc⟩
theorem bl {w w1 w2 : World} (h : Below w.heap.size w w1) (k : Below w1.heap.size w1 w2) : Below w.heap.size w w2 := h.trans (k.mono h.size)
/-- A contract in every later world, for tables that need not be the caller's own. -/
def At1V (W : World) (f : Nat) (m : List (List Int)) (P : World → Ending → World → Prop) : Prop := ∀ v w', Below W.heap.size W w' → SizeB m → GridV w' v m → Calls Tryd.prog f #[v] w' (P w')
theorem Drawn.size {M : List (List Int)} (h : Drawn M) : SizeB M := by
  have := h.len
  have := h.tot
  unfold SizeB; omega
end Go.Proofs.YtanelokploifhaaDoor
