/-
  The program's PolyText: the bytes that the plain words say; nothing that was there before is changed.
-/
import Derived.Test.YtfbdmheaalmboaaGreatDoorMatTextI
import Derived.Test.YtfbdmheaalmboaaGreatDoorMidTexts
namespace Go.Proofs.YtfbdmheaalmboaaGreatDoor
open Go Go.RowKit

set_option maxRecDepth 100000 in
set_option maxHeartbeats 800000 in
theorem impl_polyText (A : Option Addr) (c : Nat) (p : List Int) (hn : p.length ≤ 1048576) (hx : ∀ x ∈ p, -9223372036854775808 ≤ x ∧ x ≤ 9223372036854775807) (w : World) (hpw : Pow w) (h : RowS w A p) :
    Calls Tryz.prog 24 #[.slice A p.length c] w (Scalar (.string (textP p)) w) := by
  by_cases h0 : p.length = 0
  · have e : textP p = ⟨#[48]⟩ := by unfold textP; rw [if_pos h0]
    rw [e, h0]
    go_enter Tryz.func24, Tryz.ntmps24
    go_wp2
    go_ret
    exact ⟨rfl, Below.refl _ _⟩
  · have HN := Lib.hid (impl_joinNums A c p ⟨#[32]⟩ rfl (by omega) hn hx w hpw h)
    have e : Hid (textP p = numsB p ⟨#[32]⟩) := Lib.hid (by unfold textP; rw [if_neg h0])
    have hne : ((p.length : Int) == 0) = false := by rw [beq_eq_false_iff_ne]; omega
    rw [e.out]
    clear hx h hpw
    go_enter Tryz.func24, Tryz.ntmps24
    go_wp2_with fail
    refine HN.out.mono ?_
    rintro e w1 ⟨rfl, hb⟩
    go_wp2
    go_ret
    exact ⟨rfl, hb⟩
theorem atImpl_polyText (W : World) (p : List Int) (hx : ∀ x ∈ p, -9223372036854775808 ≤ x ∧ x ≤ 9223372036854775807) (hp : Pow W) : At1L W 24 p (Scalar (.string (textP p))) := by
  intro v w' hb hz ho
  obtain ⟨A, c, rfl, hg⟩ := ho.rowV
  unfold SizeL at hz
  exact impl_polyText A c p hz hx w' (hp.below hb) hg
end Go.Proofs.YtfbdmheaalmboaaGreatDoor
