/-
  The laws' test of a draw's size: it tells whether there are more than 2^20 bytes; nothing is changed.
-/
import Derived.Test.YtomaanpmjlgpfaaRows
import Derived.WalkKit
import Derived.WalkSpells
import Derived.WalkLawsBesides
namespace Go.Proofs.Ytomaanpmjlgpfaa
open Go Go.RowKit

theorem big_is (a : Option Addr) (n c : Nat) (b : Bool) (hb : b = decide (1048576 < n)) (w : World) :
    Calls Try.prog 15 #[.slice a n c] w fun e w' => e = .returned (.bool b) ∧ w = w' := by
  have hd : b = decide ((1048576 : Int) < (n : Int)) := by rw [hb]; exact decide_eq_decide.2 (by omega)
  clear hb
  have H : RowKit.Hid (b = decide ((1048576 : Int) < (n : Int))) := hd
  clear hd
  go_enter Try.func15, Try.ntmps15
  go_wp2
  go_ret
  exact ⟨by rw [H.out]; rfl, rfl⟩
end Go.Proofs.Ytomaanpmjlgpfaa
