/-
  The model's draws of polynomials and small matrices.
-/
import Derived.Test.YtfbdmheaalmboaaGreatDoorDrawPoly
import Derived.Test.YtfbdmheaalmboaaGreatDoorDetSpec
import Derived.Test.YtfbdmheaalmboaaGreatDoorGridRoom
namespace Go.Proofs.YtfbdmheaalmboaaGreatDoor
open Go Go.RowKit

def GridOwnDrawn (W : World) (e : Ending) (w' : World) : Prop := ∃ v M, e = .returned v ∧ OwnG w' W.heap.size v M ∧ Drawn M ∧ Below W.heap.size W w'
def RowIntDrawn (W : World) (e : Ending) (w' : World) : Prop := ∃ v l, ∃ x : Int, e = .returned (.tuple #[v, .int .i64 x]) ∧ RowVC w' v l ∧ l.length ≤ 5 ∧ LowL l ∧ Below W.heap.size W w'
def RowsDrawn (W : World) (e : Ending) (w' : World) : Prop := ∃ v l u k, e = .returned (.tuple #[v, u]) ∧ RowVC w' v l ∧ l.length ≤ 5 ∧ LowL l ∧ RowVC w' u k ∧ k.length ≤ 5 ∧ LowL k ∧ Below W.heap.size W w'
theorem Cur.from {B : Nat} {a : Option Addr} {n c g : Nat} {W0 w : World} (h : Cur B a n c g W0 w) : B ≤ g := h.2.2.1

theorem draw_charPoly (a : Option Addr) (n c : Nat) (w : World) (hcode : CodeAt w w.heap.size a n) (hn : n ≤ 1048576) :
    Calls Tryz.prog 5 #[.slice a n c] w (GridOwnDrawn w) := by
  have HN := Lib.hid (l1New w.heap.size a n c w w hcode hn (Below.refl _ _) (Nat.le_refl _))
  have HB := Lib.hid (fun g w' => spec_bent w.heap.size a n c g w w' hcode hn)
  clear hcode
  go_enter Tryz.func5, Tryz.ntmps5
  go_wp2_with fail
  refine HN.out.mono ?_
  rintro e w1 ⟨g, rfl, hc1, _⟩
  go_wp2_with fail
  refine (HB.out g w1 hc1).mono ?_
  rintro e w2 ⟨v, M, rfl, ho2, hs2, hc2⟩
  have HO := Lib.hid ho2
  have HS := Lib.hid hs2
  have HC := Lib.hid hc2
  clear ho2 hs2 hc2
  go_wp2
  go_ret
  exact ⟨v, M, rfl, HO.out.mono (by have := HC.out.from; omega), HS.out, HC.out.below⟩

set_option maxRecDepth 100000 in
set_option maxHeartbeats 800000 in
theorem draw_mulPolys (a : Option Addr) (n c : Nat) (w : World) (hcode : CodeAt w w.heap.size a n) (hn : n ≤ 1048576) :
    Calls Tryz.prog 11 #[.slice a n c] w (RowsDrawn w) := by
  have HN := Lib.hid (l1New w.heap.size a n c w w hcode hn (Below.refl _ _) (Nat.le_refl _))
  have HB := Lib.hid (fun g w' => draw_poly w.heap.size a n c g w w' hcode hn)
  clear hcode
  go_enter Tryz.func11, Tryz.ntmps11
  go_wp2_with fail
  refine HN.out.mono ?_
  rintro e w1 ⟨g, rfl, hc1, _⟩
  go_wp2_with fail
  refine (HB.out g w1 hc1).mono ?_
  rintro e w2 ⟨v, l, rfl, ho2, hl2, hlo2, hc2, _⟩
  have HO2 := Lib.hid ho2
  have HB2 := Lib.hid (HB.out g w2 hc2)
  clear ho2 hc2
  go_wp2_with fail
  refine HB2.out.mono ?_
  rintro e w3 ⟨u, k, rfl, ho3, hl3, hlo3, hc3, hf3⟩
  have HO3 := Lib.hid (From.ownAIn HO2.out.ownIn hf3)
  have HU := Lib.hid ho3
  have HC := Lib.hid hc3
  clear ho3 hc3 hf3
  go_wp2
  go_ret2
  exact ⟨v, l, u, k, rfl, HO3.out.ownG.rowVC, hl2, hlo2, HU.out.rowVC, hl3, hlo3, HC.out.below⟩

def polyPoints : List Int := [0, 1, -1, 2, 3, -5, 1000, 1001]
set_option maxRecDepth 100000 in
set_option maxHeartbeats 800000 in
theorem draw_polyAt (a : Option Addr) (n c : Nat) (w : World) (hcode : CodeAt w w.heap.size a n) (hn : n ≤ 1048576) :
    Calls Tryz.prog 13 #[.slice a n c] w (RowIntDrawn w) := by
  have HN := Lib.hid (l1New w.heap.size a n c w w hcode hn (Below.refl _ _) (Nat.le_refl _))
  have HB := Lib.hid (fun g w' => draw_poly w.heap.size a n c g w w' hcode hn)
  have HPI := Lib.hid (fun g b w' (hc : Cur w.heap.size a n c g w w') (hs : NumsAt w' b polyPoints) (hbg : b ≠ g) => l1PickInt b 8 polyPoints (by decide) (by decide) w.heap.size a n c g w w' hcode hn hc hs hbg)
  clear hcode
  go_enter Tryz.func13, Tryz.ntmps13
  go_wp2_with fail
  refine HN.out.mono ?_
  rintro e w1 ⟨g, rfl, hc1, _⟩
  go_wp2_with fail
  refine (HB.out g w1 hc1).mono ?_
  rintro e w2 ⟨v, l, rfl, ho2, hl2, hlo2, hc2, _⟩
  have HO2 := Lib.hid ho2
  have hg2 := hc2.lt
  have HPI2 := Lib.hid (HPI.out g w2.heap.size (w2.alloc (.cells (polyPoints.map (Value.int .i64)).toArray 3)) (hc2.alloc _) (intsAt_new w2 polyPoints 3) (by omega))
  clear ho2 hc2
  go_wp2_with fail
  refine HPI2.out.mono ?_
  rintro e w3 ⟨k, hk, rfl, hc3, ho3⟩
  have HO3 := Lib.hid (From.ownAIn HO2.out.ownIn ((from_below (From.refl _ _) below_new).trans (from_only ho3)))
  have HC := Lib.hid hc3
  clear ho3 hc3
  go_wp2
  go_ret2
  exact ⟨v, l, _, rfl, HO3.out.ownG.rowVC, hl2, hlo2, HC.out.below⟩
end Go.Proofs.YtfbdmheaalmboaaGreatDoor
