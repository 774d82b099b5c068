/-
  The law on BlockGraph: where the model's and the program's function answer the same at every copy, the law returns true; nothing that was there before is changed.
-/
import Derived.Test.YtfgjlpnmjfekhaaGridLaw
namespace Go.Proofs.Ytfgjlpnmjfekhaa
open Go Go.RowKit

set_option maxRecDepth 100000 in
set_option maxHeartbeats 3200000 in
theorem law_blockGraph (V1 : Value) (m1 : List (List Int)) (r : List (List Int)) (b : Bool) (W : World) (h1 : GridV W V1 m1) (z1 : SizeA m1) (hr : SizeB r) 
    (hS : ∀ v1 w', Below W.heap.size W w' → SizeB m1 → OwnG w' W.heap.size v1 m1 → Calls Try.prog 9 #[v1] w' (SpecGB r b w'))
    (hI : ∀ v1 w', Below W.heap.size W w' → SizeB m1 → OwnG w' W.heap.size v1 m1 → Calls Try.prog 11 #[v1] w' (ImplGB r b w')) :
    Calls Try.prog 3 #[V1] W fun e w' => e = .returned (.bool true) ∧ Below W.heap.size W w' := by
  have HV1 : Hid (∀ w', Below W.heap.size W w' → GridV w' V1 m1) := Lib.hid (fun w' hb => h1.below hb)
  have HZ1 := Lib.hid (fun L h0 hL => szV V1 m1 L h0 hL z1 W h1)
  have HS := Lib.hid (hS)
  have HI := Lib.hid (hI)
  have HR := Lib.hid (hr)
  have HEQ := Lib.hid (eqV r HR.out)
  have HHD := Lib.hid (heldV r HR.out)
  clear hS hI h1 z1 hr
  go_enter Try.func3, Try.ntmps3
  go_wp2_with fail
  refine (HZ1.out 1048576 (by decide) (by decide)).mono ?_
  rintro e w0 ⟨q1, rfl, hq, hw⟩
  obtain rfl : W = w0 := hw.symm
  rcases hq with rfl | ⟨q10, q11⟩
  · go_wp2
    go_ret
    exact ⟨rfl, Below.refl _ _⟩
  have S1 : SizeB m1 := by unfold SizeB; omega
  have HTO1 : Hid (∀ w', Below W.heap.size W w' → Calls Try.prog 10 #[V1] w' (NewG m1 w')) := Lib.hid (fun w' hb => toV V1 m1 S1 w' (HV1.out w' hb))
  have HEA1 := Lib.hid (eqV m1 S1)
  have BW0 : Hid (Below W.heap.size W W) := Lib.hid (Below.refl _ _)
  go_wp2_with fail
  refine (HTO1.out _ BW0.out).mono ?_
  rintro e w1 ⟨c1, rfl, ho, hb⟩
  have L1 : W.heap.size ≤ w1.heap.size := hb.size
  have BW_1 := Lib.hid (below_behind BW0.out hb)
  clear BW0
  clear hb
  have C1_1 := Lib.hid (ho.mono (show W.heap.size ≤ W.heap.size by omega))
  clear ho
  go_wp2_with fail
  refine (HS.out c1 _ BW_1.out S1 C1_1.out).mono ?_
  rintro e w2 ⟨vs, rfl, hg, hb⟩
  clear C1_1
  have L2 : w1.heap.size ≤ w2.heap.size := hb.size
  have BW_2 := Lib.hid (below_behind BW_1.out hb)
  clear BW_1
  clear hb
  have HVS := Lib.hid hg
  clear hg
  have K_2 : Hid (Below w2.heap.size w2 w2) := Lib.hid (Below.refl _ _)
  go_wp2_with fail
  refine (HTO1.out _ BW_2.out).mono ?_
  rintro e w3 ⟨x1, rfl, ho, hb⟩
  have L3 : w2.heap.size ≤ w3.heap.size := hb.size
  have BW_3 := Lib.hid (below_behind BW_2.out hb)
  clear BW_2
  have K_3 := Lib.hid (below_behind K_2.out hb)
  clear K_2
  clear hb
  have X1_3 := Lib.hid ho.ownIn
  clear ho
  go_wp2_with fail
  refine (HI.out x1 _ BW_3.out S1 (X1_3.out.ownG.mono (by omega))).mono ?_
  rintro e w4 ⟨vg, rfl, hg, hb⟩
  have L4 : w3.heap.size ≤ w4.heap.size := hb.size
  have BW_4 := Lib.hid (below_behind BW_3.out hb)
  clear BW_3
  have K_4 := Lib.hid (below_behind K_3.out hb)
  clear K_3
  have X1_4 := Lib.hid (X1_3.out.below hb)
  clear X1_3
  clear hb
  have HVG := Lib.hid hg
  clear hg
  have F_4 : Hid (From w3.heap.size w4 w4) := Lib.hid (From.refl _ _)
  go_wp2_with fail
  refine (HEQ.out vg vs _ (HVG.out _ F_4.out).1 (HVS.out.below K_4.out)).mono ?_
  rintro e w5 ⟨rfl, hb⟩
  have L5 : w4.heap.size ≤ w5.heap.size := hb.size
  have BW_5 := Lib.hid (below_behind BW_4.out hb)
  clear BW_4
  have K_5 := Lib.hid (below_behind K_4.out hb)
  clear K_4
  have X1_5 := Lib.hid (X1_4.out.below hb)
  clear X1_4
  have F_5 := Lib.hid (F_4.out.trans (From.of_below hb))
  clear F_4
  clear hb
  go_wp2_with fail
  refine (HTO1.out _ BW_5.out).mono ?_
  rintro e w6 ⟨y1, rfl, ho, hb⟩
  have L6 : w5.heap.size ≤ w6.heap.size := hb.size
  have BW_6 := Lib.hid (below_behind BW_5.out hb)
  clear BW_5
  have K_6 := Lib.hid (below_behind K_5.out hb)
  clear K_5
  have X1_6 := Lib.hid (X1_5.out.below hb)
  clear X1_5
  have F_6 := Lib.hid (F_5.out.trans (From.of_below hb))
  clear F_5
  clear hb
  have Y_6 := Lib.hid ho.gridV
  clear ho
  go_wp2_with fail
  refine (HEA1.out x1 y1 _ X1_6.out.ownG.gridV Y_6.out).mono ?_
  rintro e w7 ⟨rfl, hb⟩
  clear Y_6
  have L7 : w6.heap.size ≤ w7.heap.size := hb.size
  have BW_7 := Lib.hid (below_behind BW_6.out hb)
  clear BW_6
  have K_7 := Lib.hid (below_behind K_6.out hb)
  clear K_6
  have X1_7 := Lib.hid (X1_6.out.below hb)
  clear X1_6
  have F_7 := Lib.hid (F_6.out.trans (From.of_below hb))
  clear F_6
  clear hb
  go_wp2_with fail
  refine (X1_7.out.markedX S1 1 (by decide)).mono ?_
  rintro e w8 ⟨k1, rfl, hk1, hw⟩
  have L8 : w7.heap.size ≤ w8.heap.size := hw.size
  clear X1_7
  have BW_8 := Lib.hid (BW_7.out.trans ((hw.below (by omega)).mono (by omega)))
  clear BW_7
  have K_8 := Lib.hid (K_7.out.trans ((hw.below (by omega)).mono (by omega)))
  clear K_7
  have F_8 := Lib.hid (F_7.out.trans (From.of_within hw (by omega)))
  clear F_7
  clear hw
  have kn : ¬ ((k1 : Nat) : Int) < 0 := by omega
  go_wp2_with fail
  refine (HEQ.out vg vs _ (HVG.out _ F_8.out).1 (HVS.out.below K_8.out)).mono ?_
  rintro e w9 ⟨rfl, hb⟩
  have L9 : w8.heap.size ≤ w9.heap.size := hb.size
  have BW_9 := Lib.hid (below_behind BW_8.out hb)
  clear BW_8
  have K_9 := Lib.hid (below_behind K_8.out hb)
  clear K_8
  have F_9 := Lib.hid (F_8.out.trans (From.of_below hb))
  clear F_8
  clear hb
  go_wp2_with fail
  refine ((HVG.out _ F_9.out).2).mono ?_
  rintro e w10 ⟨rfl, hm, hw⟩
  have L10 : w9.heap.size ≤ w10.heap.size := hw.size
  clear F_9
  have BW_10 := Lib.hid (BW_9.out.trans ((hw.below (by omega)).mono (by omega)))
  clear BW_9
  have K_10 := Lib.hid (K_9.out.trans ((hw.below (by omega)).mono (by omega)))
  clear K_9
  have M_10 := Lib.hid hm
  clear hm hw
  go_wp2_with fail
  refine (HHD.out vg _ M_10.out).mono ?_
  rintro e w11 ⟨rfl, hb⟩
  have L11 : w10.heap.size ≤ w11.heap.size := hb.size
  have BW_11 := Lib.hid (below_behind BW_10.out hb)
  clear BW_10
  have K_11 := Lib.hid (below_behind K_10.out hb)
  clear K_10
  have M_11 := Lib.hid (M_10.out.below hb)
  clear M_10
  clear hb
  go_wp2_with fail
  refine (HTO1.out _ BW_11.out).mono ?_
  rintro e w12 ⟨d1, rfl, ho, hb⟩
  have L12 : w11.heap.size ≤ w12.heap.size := hb.size
  have BW_12 := Lib.hid (below_behind BW_11.out hb)
  clear BW_11
  have K_12 := Lib.hid (below_behind K_11.out hb)
  clear K_11
  have M_12 := Lib.hid (M_11.out.below hb)
  clear M_11
  clear hb
  have C1_12 := Lib.hid (ho.mono (show W.heap.size ≤ w11.heap.size by omega))
  clear ho
  go_wp2_with fail
  refine (HI.out d1 _ BW_12.out S1 C1_12.out).mono ?_
  rintro e w13 ⟨vh, rfl, hg, hb⟩
  clear C1_12
  have L13 : w12.heap.size ≤ w13.heap.size := hb.size
  have BW_13 := Lib.hid (below_behind BW_12.out hb)
  clear BW_12
  have K_13 := Lib.hid (below_behind K_12.out hb)
  clear K_12
  have M_13 := Lib.hid (M_12.out.below hb)
  clear M_12
  clear hb
  have HVH := Lib.hid (hg _ (From.refl _ _)).1
  clear hg
  go_wp2_with fail
  refine (HEQ.out vh vs _ HVH.out (HVS.out.below K_13.out)).mono ?_
  rintro e w14 ⟨rfl, hb⟩
  have L14 : w13.heap.size ≤ w14.heap.size := hb.size
  have BW_14 := Lib.hid (below_behind BW_13.out hb)
  clear BW_13
  have K_14 := Lib.hid (below_behind K_13.out hb)
  clear K_13
  have M_14 := Lib.hid (M_13.out.below hb)
  clear M_13
  clear hb
  go_wp2_with fail
  refine (HHD.out vg _ M_14.out).mono ?_
  rintro e w15 ⟨rfl, hb⟩
  have L15 : w14.heap.size ≤ w15.heap.size := hb.size
  have BW_15 := Lib.hid (below_behind BW_14.out hb)
  clear BW_14
  have K_15 := Lib.hid (below_behind K_14.out hb)
  clear K_14
  have M_15 := Lib.hid (M_14.out.below hb)
  clear M_14
  clear hb
  go_wp2
  go_ret
  exact ⟨rfl, BW_15.out⟩
end Go.Proofs.Ytfgjlpnmjfekhaa
