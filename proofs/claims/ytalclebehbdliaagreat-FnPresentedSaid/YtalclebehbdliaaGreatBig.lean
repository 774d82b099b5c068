/-
  The laws' test of a draw's size: it tells whether there are more than 2^20 bytes; nothing is changed.
-/
import Derived.Test.YtalclebehbdliaaGreatRows
import Derived.WalkKit
import Derived.WalkSpells
import Derived.WalkLawsBesides
namespace Go.Proofs.YtalclebehbdliaaGreat
open Go Go.RowKit

theorem big_is (a : Option Addr) (n c : Nat) (b : Bool) (hb : b = decide (1048576 < n)) (w : World) :
    Calls Tryz.prog 5 #[.slice a n c] w fun e w' => e = .returned (.bool b) ∧ w = w' := by
  have hd : b = decide ((1048576 : Int) < (n : Int)) := by rw [hb]; exact decide_eq_decide.2 (by omega)
  clear hb
  have H : RowKit.Hid (b = decide ((1048576 : Int) < (n : Int))) := hd
  clear hd
  go_enter Tryz.func5, Tryz.ntmps5
  go_wp2
  go_ret
  exact ⟨by rw [H.out]; rfl, rfl⟩
end Go.Proofs.YtalclebehbdliaaGreat
