/-
  The exact law on PolyAt: its walk, for whatever the two functions answer.
-/
import Derived.Test.YtfbdmheaalmboaaGridLaw
import Derived.Test.YtfbdmheaalmboaaIntsLaw
namespace Go.Proofs.Ytfbdmheaalmboaa
open Go Go.RowKit

set_option maxRecDepth 100000 in
set_option maxHeartbeats 3200000 in
theorem law_polyAt (A1 : Option Addr) (c1 : Nat) (l1 : List Int) (a2 : Int) (r : Int) (b : Bool) (W : World) (h1 : RowS W A1 l1) (z1 : l1.length ≤ 9223372036854775807) 
    (hS : l1.length ≤ 1048576 → ∀ v1 w', Below W.heap.size W w' → SizeL l1 → OwnA w' W.heap.size v1 l1 → Calls Try.prog 28 #[v1, .int .i64 a2] w' (Scalar (.tuple #[.int .i64 r, .bool b]) w'))
    (hI : l1.length ≤ 1048576 → ∀ v1 w', Below W.heap.size W w' → SizeL l1 → OwnA w' W.heap.size v1 l1 → Calls Try.prog 29 #[v1, .int .i64 a2] w' (Scalar (.tuple #[.int .i64 r, .bool b]) w')) :
    Calls Try.prog 8 #[.slice A1 l1.length c1, .int .i64 a2] W fun e w' => e = .returned (.bool true) ∧ Below W.heap.size W w' := by
  rcases Nat.lt_or_ge 1048576 l1.length with g1 | g1
  · clear hS hI
    go_enter Try.func8, Try.ntmps8
    go_wp2
    go_ret
    exact ⟨rfl, Below.refl _ _⟩
  have HV1 : Hid (∀ w', Below W.heap.size W w' → RowV w' (.slice A1 l1.length c1) l1) := Lib.hid (fun w' hb => ⟨A1, c1, rfl, h1.below hb⟩)
  have S1 : SizeL l1 := g1
  have HS := Lib.hid (hS g1)
  have HI := Lib.hid (hI g1)
  clear hS hI h1
  go_enter Try.func8, Try.ntmps8
  have HTO1 : Hid (∀ w', Below W.heap.size W w' → Calls Try.prog 26 #[.slice A1 l1.length c1] w' (NewA l1 w')) := Lib.hid (fun w' hb => toA (.slice A1 l1.length c1) l1 S1 w' (HV1.out w' hb))
  have HEA1 := Lib.hid (eqA l1 S1)
  have BW0 : Hid (Below W.heap.size W W) := Lib.hid (Below.refl _ _)
  go_wp2_with fail
  refine (HTO1.out _ BW0.out).mono ?_
  rintro e w1 ⟨c1, rfl, ho, hb⟩
  have L1 : W.heap.size ≤ w1.heap.size := hb.size
  have BW_1 := Lib.hid (below_behind BW0.out hb)
  clear BW0
  clear hb
  have C1_1 := Lib.hid (ho.mono (show W.heap.size ≤ W.heap.size by omega))
  clear ho
  go_wp2_with fail
  refine (HS.out c1 _ BW_1.out S1 C1_1.out).mono ?_
  rintro e w2 ⟨rfl, hb⟩
  clear C1_1
  have L2 : w1.heap.size ≤ w2.heap.size := hb.size
  have BW_2 := Lib.hid (below_behind BW_1.out hb)
  clear BW_1
  clear hb
  go_wp2_with fail
  refine (HTO1.out _ BW_2.out).mono ?_
  rintro e w3 ⟨x1, rfl, ho, hb⟩
  have L3 : w2.heap.size ≤ w3.heap.size := hb.size
  have BW_3 := Lib.hid (below_behind BW_2.out hb)
  clear BW_2
  clear hb
  have X1_3 := Lib.hid ho.ownIn
  clear ho
  go_wp2_with fail
  refine (HI.out x1 _ BW_3.out S1 (X1_3.out.ownG.mono (by omega))).mono ?_
  rintro e w4 ⟨rfl, hb⟩
  have L4 : w3.heap.size ≤ w4.heap.size := hb.size
  have BW_4 := Lib.hid (below_behind BW_3.out hb)
  clear BW_3
  have X1_4 := Lib.hid (X1_3.out.below hb)
  clear X1_3
  clear hb
  go_wp2_with fail
  refine (HTO1.out _ BW_4.out).mono ?_
  rintro e w5 ⟨y1, rfl, ho, hb⟩
  have L5 : w4.heap.size ≤ w5.heap.size := hb.size
  have BW_5 := Lib.hid (below_behind BW_4.out hb)
  clear BW_4
  have X1_5 := Lib.hid (X1_4.out.below hb)
  clear X1_4
  clear hb
  have Y_5 := Lib.hid ho.rowV
  clear ho
  go_wp2_with fail
  refine (HEA1.out x1 y1 _ X1_5.out.ownG.rowV Y_5.out).mono ?_
  rintro e w6 ⟨rfl, hb⟩
  clear Y_5
  have L6 : w5.heap.size ≤ w6.heap.size := hb.size
  have BW_6 := Lib.hid (below_behind BW_5.out hb)
  clear BW_5
  have X1_6 := Lib.hid (X1_5.out.below hb)
  clear X1_5
  clear hb
  go_wp2
  go_ret
  exact ⟨rfl, BW_6.out⟩
end Go.Proofs.Ytfbdmheaalmboaa
