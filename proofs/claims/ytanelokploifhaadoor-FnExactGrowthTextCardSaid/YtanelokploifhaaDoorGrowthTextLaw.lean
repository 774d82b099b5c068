/-
  The exact law on GrowthText, over the contracts of the model's function and the program's at its own copies.
-/
import Derived.Test.YtanelokploifhaaDoorBaseTexts
namespace Go.Proofs.YtanelokploifhaaDoor
open Go Go.RowKit

set_option maxRecDepth 100000 in
set_option maxHeartbeats 3200000 in
theorem law_growthText (V1 : Value) (m1 : List (List Int)) (a2 : Int) (r : ByteArray) (W : World) (h1 : GridV W V1 m1) (z1 : SizeA m1) 
    (hS : ∀ v1 w', Below W.heap.size W w' → SizeB m1 → OwnG w' W.heap.size v1 m1 → Calls Tryd.prog 18 #[v1, .int .i64 a2] w' (Scalar (.string r) w'))
    (hI : ∀ v1 w', Below W.heap.size W w' → SizeB m1 → OwnG w' W.heap.size v1 m1 → Calls Tryd.prog 17 #[v1, .int .i64 a2] w' (Scalar (.string r) w')) :
    Calls Tryd.prog 4 #[V1, .int .i64 a2] W fun e w' => e = .returned (.bool true) ∧ Below W.heap.size W w' := by
  have HV1 : Hid (∀ w', Below W.heap.size W w' → GridV w' V1 m1) := Lib.hid (fun w' hb => h1.below hb)
  have HZ1 := Lib.hid (fun L h0 hL => szV V1 m1 L h0 hL z1 W h1)
  have HS := Lib.hid (hS)
  have HI := Lib.hid (hI)
  clear hS hI h1 z1
  go_enter Tryd.func4, Tryd.ntmps4
  go_wp2_with fail
  refine (HZ1.out 1048576 (by decide) (by decide)).mono ?_
  rintro e w0 ⟨q1, rfl, hq, hw⟩
  obtain rfl : W = w0 := hw.symm
  rcases hq with rfl | ⟨q10, q11⟩
  · go_wp2
    go_ret
    exact ⟨rfl, Below.refl _ _⟩
  have S1 : SizeB m1 := by unfold SizeB; omega
  have HTO1 : Hid (∀ w', Below W.heap.size W w' → Calls Tryd.prog 25 #[V1] w' (NewG m1 w')) := Lib.hid (fun w' hb => toV V1 m1 S1 w' (HV1.out w' hb))
  have HEA1 := Lib.hid (eqV m1 S1)
  have BW0 : Hid (Below W.heap.size W W) := Lib.hid (Below.refl _ _)
  go_wp2_with fail
  refine (HTO1.out _ BW0.out).mono ?_
  rintro e w1 ⟨c1, rfl, ho, hb⟩
  have L1 : W.heap.size ≤ w1.heap.size := hb.size
  have BW_1 := Lib.hid (below_behind BW0.out hb)
  clear BW0
  clear hb
  have C1_1 := Lib.hid (ho.mono (show W.heap.size ≤ W.heap.size by omega))
  clear ho
  go_wp2_with fail
  refine (HS.out c1 _ BW_1.out S1 C1_1.out).mono ?_
  rintro e w2 ⟨rfl, hb⟩
  clear C1_1
  have L2 : w1.heap.size ≤ w2.heap.size := hb.size
  have BW_2 := Lib.hid (below_behind BW_1.out hb)
  clear BW_1
  clear hb
  go_wp2_with fail
  refine (HTO1.out _ BW_2.out).mono ?_
  rintro e w3 ⟨x1, rfl, ho, hb⟩
  have L3 : w2.heap.size ≤ w3.heap.size := hb.size
  have BW_3 := Lib.hid (below_behind BW_2.out hb)
  clear BW_2
  clear hb
  have X1_3 := Lib.hid ho.ownIn
  clear ho
  go_wp2_with fail
  refine (HI.out x1 _ BW_3.out S1 (X1_3.out.ownG.mono (by omega))).mono ?_
  rintro e w4 ⟨rfl, hb⟩
  have L4 : w3.heap.size ≤ w4.heap.size := hb.size
  have BW_4 := Lib.hid (below_behind BW_3.out hb)
  clear BW_3
  have X1_4 := Lib.hid (X1_3.out.below hb)
  clear X1_3
  clear hb
  go_wp2_with fail
  refine (HTO1.out _ BW_4.out).mono ?_
  rintro e w5 ⟨y1, rfl, ho, hb⟩
  have L5 : w4.heap.size ≤ w5.heap.size := hb.size
  have BW_5 := Lib.hid (below_behind BW_4.out hb)
  clear BW_4
  have X1_5 := Lib.hid (X1_4.out.below hb)
  clear X1_4
  clear hb
  have Y_5 := Lib.hid ho.gridV
  clear ho
  go_wp2_with fail
  refine (HEA1.out x1 y1 _ X1_5.out.ownG.gridV Y_5.out).mono ?_
  rintro e w6 ⟨rfl, hb⟩
  clear Y_5
  have L6 : w5.heap.size ≤ w6.heap.size := hb.size
  have BW_6 := Lib.hid (below_behind BW_5.out hb)
  clear BW_5
  have X1_6 := Lib.hid (X1_5.out.below hb)
  clear X1_5
  clear hb
  go_wp2
  go_ret
  exact ⟨rfl, BW_6.out⟩
end Go.Proofs.YtanelokploifhaaDoor
