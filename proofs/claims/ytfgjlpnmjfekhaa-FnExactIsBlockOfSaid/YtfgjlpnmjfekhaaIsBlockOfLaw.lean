/-
  The law on IsBlockOf: where the model's and the program's function answer the same at every copy, the law returns true; nothing that was there before is changed.
-/
import Derived.Test.YtfgjlpnmjfekhaaGridLaw
namespace Go.Proofs.Ytfgjlpnmjfekhaa
open Go Go.RowKit

set_option maxRecDepth 100000 in
set_option maxHeartbeats 3200000 in
theorem law_isBlockOf (V1 : Value) (m1 : List (List Int)) (V2 : Value) (m2 : List (List Int)) (r : Bool) (W : World) (h1 : GridV W V1 m1) (z1 : SizeA m1) (h2 : GridV W V2 m2) (z2 : SizeA m2) 
    (hS : ∀ v1 v2 w', Below W.heap.size W w' → SizeB m1 → SizeB m2 → OwnG w' W.heap.size v1 m1 → OwnG w' W.heap.size v2 m2 → Calls Try.prog 21 #[v1, v2] w' (Scalar (.bool r) w'))
    (hI : ∀ v1 v2 w', Below W.heap.size W w' → SizeB m1 → SizeB m2 → OwnG w' W.heap.size v1 m1 → OwnG w' W.heap.size v2 m2 → Calls Try.prog 22 #[v1, v2] w' (Scalar (.bool r) w')) :
    Calls Try.prog 7 #[V1, V2] W fun e w' => e = .returned (.bool true) ∧ Below W.heap.size W w' := by
  have HV1 : Hid (∀ w', Below W.heap.size W w' → GridV w' V1 m1) := Lib.hid (fun w' hb => h1.below hb)
  have HZ1 := Lib.hid (fun L h0 hL => szV V1 m1 L h0 hL z1 W h1)
  have HV2 : Hid (∀ w', Below W.heap.size W w' → GridV w' V2 m2) := Lib.hid (fun w' hb => h2.below hb)
  have HZ2 := Lib.hid (fun L h0 hL => szV V2 m2 L h0 hL z2 W h2)
  have HS := Lib.hid (hS)
  have HI := Lib.hid (hI)
  clear hS hI h1 z1 h2 z2
  go_enter Try.func7, Try.ntmps7
  go_wp2_with fail
  refine (HZ1.out 1048576 (by decide) (by decide)).mono ?_
  rintro e w0 ⟨q1, rfl, hq, hw⟩
  obtain rfl : W = w0 := hw.symm
  rcases hq with rfl | ⟨q10, q11⟩
  · go_wp2
    go_ret
    exact ⟨rfl, Below.refl _ _⟩
  go_wp2_with fail
  refine (HZ2.out q1 q10 (by omega)).mono ?_
  rintro e w0 ⟨q2, rfl, hq, hw⟩
  obtain rfl : W = w0 := hw.symm
  rcases hq with rfl | ⟨q20, q21⟩
  · go_wp2
    go_ret
    exact ⟨rfl, Below.refl _ _⟩
  have S1 : SizeB m1 := by unfold SizeB; omega
  have S2 : SizeB m2 := by unfold SizeB; omega
  have HTO1 : Hid (∀ w', Below W.heap.size W w' → Calls Try.prog 10 #[V1] w' (NewG m1 w')) := Lib.hid (fun w' hb => toV V1 m1 S1 w' (HV1.out w' hb))
  have HEA1 := Lib.hid (eqV m1 S1)
  have HTO2 : Hid (∀ w', Below W.heap.size W w' → Calls Try.prog 10 #[V2] w' (NewG m2 w')) := Lib.hid (fun w' hb => toV V2 m2 S2 w' (HV2.out w' hb))
  have HEA2 := Lib.hid (eqV m2 S2)
  have BW0 : Hid (Below W.heap.size W W) := Lib.hid (Below.refl _ _)
  go_wp2_with fail
  refine (HTO1.out _ BW0.out).mono ?_
  rintro e w1 ⟨c1, rfl, ho, hb⟩
  have L1 : W.heap.size ≤ w1.heap.size := hb.size
  have BW_1 := Lib.hid (below_behind BW0.out hb)
  clear BW0
  clear hb
  have C1_1 := Lib.hid (ho.mono (show W.heap.size ≤ W.heap.size by omega))
  clear ho
  go_wp2_with fail
  refine (HTO2.out _ BW_1.out).mono ?_
  rintro e w2 ⟨c2, rfl, ho, hb⟩
  have L2 : w1.heap.size ≤ w2.heap.size := hb.size
  have BW_2 := Lib.hid (below_behind BW_1.out hb)
  clear BW_1
  have C1_2 := Lib.hid (C1_1.out.below hb)
  clear C1_1
  clear hb
  have C2_2 := Lib.hid (ho.mono (show W.heap.size ≤ w1.heap.size by omega))
  clear ho
  go_wp2_with fail
  refine (HS.out c1 c2 _ BW_2.out S1 S2 C1_2.out C2_2.out).mono ?_
  rintro e w3 ⟨rfl, hb⟩
  clear C1_2
  clear C2_2
  have L3 : w2.heap.size ≤ w3.heap.size := hb.size
  have BW_3 := Lib.hid (below_behind BW_2.out hb)
  clear BW_2
  clear hb
  go_wp2_with fail
  refine (HTO1.out _ BW_3.out).mono ?_
  rintro e w4 ⟨x1, rfl, ho, hb⟩
  have L4 : w3.heap.size ≤ w4.heap.size := hb.size
  have BW_4 := Lib.hid (below_behind BW_3.out hb)
  clear BW_3
  clear hb
  have X1_4 := Lib.hid ho.ownIn
  clear ho
  go_wp2_with fail
  refine (HTO2.out _ BW_4.out).mono ?_
  rintro e w5 ⟨x2, rfl, ho, hb⟩
  have L5 : w4.heap.size ≤ w5.heap.size := hb.size
  have BW_5 := Lib.hid (below_behind BW_4.out hb)
  clear BW_4
  have X1_5 := Lib.hid (X1_4.out.below hb)
  clear X1_4
  clear hb
  have X2_5 := Lib.hid ho.ownIn
  clear ho
  go_wp2_with fail
  refine (HI.out x1 x2 _ BW_5.out S1 S2 (X1_5.out.ownG.mono (by omega)) (X2_5.out.ownG.mono (by omega))).mono ?_
  rintro e w6 ⟨rfl, hb⟩
  have L6 : w5.heap.size ≤ w6.heap.size := hb.size
  have BW_6 := Lib.hid (below_behind BW_5.out hb)
  clear BW_5
  have X1_6 := Lib.hid (X1_5.out.below hb)
  clear X1_5
  have X2_6 := Lib.hid (X2_5.out.below hb)
  clear X2_5
  clear hb
  go_wp2_with fail
  refine (HTO1.out _ BW_6.out).mono ?_
  rintro e w7 ⟨y1, rfl, ho, hb⟩
  have L7 : w6.heap.size ≤ w7.heap.size := hb.size
  have BW_7 := Lib.hid (below_behind BW_6.out hb)
  clear BW_6
  have X1_7 := Lib.hid (X1_6.out.below hb)
  clear X1_6
  have X2_7 := Lib.hid (X2_6.out.below hb)
  clear X2_6
  clear hb
  have Y_7 := Lib.hid ho.gridV
  clear ho
  go_wp2_with fail
  refine (HEA1.out x1 y1 _ X1_7.out.ownG.gridV Y_7.out).mono ?_
  rintro e w8 ⟨rfl, hb⟩
  clear Y_7
  have L8 : w7.heap.size ≤ w8.heap.size := hb.size
  have BW_8 := Lib.hid (below_behind BW_7.out hb)
  clear BW_7
  have X1_8 := Lib.hid (X1_7.out.below hb)
  clear X1_7
  have X2_8 := Lib.hid (X2_7.out.below hb)
  clear X2_7
  clear hb
  go_wp2_with fail
  refine (HTO2.out _ BW_8.out).mono ?_
  rintro e w9 ⟨y2, rfl, ho, hb⟩
  have L9 : w8.heap.size ≤ w9.heap.size := hb.size
  have BW_9 := Lib.hid (below_behind BW_8.out hb)
  clear BW_8
  have X1_9 := Lib.hid (X1_8.out.below hb)
  clear X1_8
  have X2_9 := Lib.hid (X2_8.out.below hb)
  clear X2_8
  clear hb
  have Y_9 := Lib.hid ho.gridV
  clear ho
  go_wp2_with fail
  refine (HEA2.out x2 y2 _ X2_9.out.ownG.gridV Y_9.out).mono ?_
  rintro e w10 ⟨rfl, hb⟩
  clear Y_9
  have L10 : w9.heap.size ≤ w10.heap.size := hb.size
  have BW_10 := Lib.hid (below_behind BW_9.out hb)
  clear BW_9
  have X1_10 := Lib.hid (X1_9.out.below hb)
  clear X1_9
  have X2_10 := Lib.hid (X2_9.out.below hb)
  clear X2_9
  clear hb
  go_wp2
  go_ret
  exact ⟨rfl, BW_10.out⟩
end Go.Proofs.Ytfgjlpnmjfekhaa
