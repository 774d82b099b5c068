/-
  The model's PolyText: what the plain words say; nothing that was there before is changed.
-/
import Derived.Test.YtfbdmheaalmboaaDoorPolyL
import Derived.Test.YtfbdmheaalmboaaDoorMatText
namespace Go.Proofs.YtfbdmheaalmboaaDoor
open Go Go.RowKit

def textP (p : List Int) : ByteArray := if p.length = 0 then ⟨#[48]⟩ else numsB p ⟨#[32]⟩

set_option maxRecDepth 100000 in
set_option maxHeartbeats 800000 in
theorem spec_polyText (A : Option Addr) (c : Nat) (p : List Int) (hn : p.length ≤ 1048576) (hx : ∀ x ∈ p, -9223372036854775808 ≤ x ∧ x ≤ 9223372036854775807) (w : World) (h : RowS w A p) :
    Calls Tryd.prog 10 #[.slice A p.length c] w (Scalar (.string (textP p)) w) := by
  by_cases h0 : p.length = 0
  · have e : textP p = ⟨#[48]⟩ := by unfold textP; rw [if_pos h0]
    rw [e, h0]
    go_enter Tryd.func10, Tryd.ntmps10
    go_wp2
    go_ret
    exact ⟨rfl, Below.refl _ _⟩
  · have HN := Lib.hid (spec_numbers A c p ⟨#[32]⟩ rfl (by omega) hn hx w h)
    have e : Hid (textP p = numsB p ⟨#[32]⟩) := Lib.hid (by unfold textP; rw [if_neg h0])
    have hne : ((p.length : Int) == 0) = false := by rw [beq_eq_false_iff_ne]; omega
    rw [e.out]
    clear hx h
    go_enter Tryd.func10, Tryd.ntmps10
    go_wp2_with fail
    refine HN.out.mono ?_
    rintro e w1 ⟨rfl, hb⟩
    go_wp2
    go_ret
    exact ⟨rfl, hb⟩
theorem specV_polyText {p : List Int} (hp : SizeL p) (hx : ∀ x ∈ p, -9223372036854775808 ≤ x ∧ x ≤ 9223372036854775807) {v : Value} {w : World} (h : RowV w v p) : Calls Tryd.prog 10 #[v] w (Scalar (.string (textP p)) w) := by
  obtain ⟨A, c, rfl, hg⟩ := h
  unfold SizeL at hp
  exact spec_polyText A c p hp hx w hg
theorem atSpec_polyText (W : World) (p : List Int) (hx : ∀ x ∈ p, -9223372036854775808 ≤ x ∧ x ≤ 9223372036854775807) : At1L W 10 p (Scalar (.string (textP p))) := fun _ _ _ hz ho => specV_polyText hz hx ho.rowV
end Go.Proofs.YtfbdmheaalmboaaDoor
