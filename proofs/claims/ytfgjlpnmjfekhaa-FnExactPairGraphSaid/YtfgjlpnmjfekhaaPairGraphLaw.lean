/-
  The law on PairGraph: where the model's and the program's function answer the same at every copy, the law returns true; nothing that was there before is changed.
-/
import Derived.Test.YtfgjlpnmjfekhaaGridLaw
namespace Go.Proofs.Ytfgjlpnmjfekhaa
open Go Go.RowKit

set_option maxRecDepth 100000 in
set_option maxHeartbeats 3200000 in
theorem law_pairGraph (V1 : Value) (m1 : List (List Int)) (V2 : Value) (m2 : List (List Int)) (r : List (List Int)) (b : Bool) (W : World) (h1 : GridV W V1 m1) (z1 : SizeA m1) (h2 : GridV W V2 m2) (z2 : SizeA m2) (hr : SizeB r) 
    (hS : ∀ v1 v2 w', Below W.heap.size W w' → SizeB m1 → SizeB m2 → OwnG w' W.heap.size v1 m1 → OwnG w' W.heap.size v2 m2 → Calls Try.prog 19 #[v1, v2] w' (SpecGB r b w'))
    (hI : ∀ v1 v2 w', Below W.heap.size W w' → SizeB m1 → SizeB m2 → OwnG w' W.heap.size v1 m1 → OwnG w' W.heap.size v2 m2 → Calls Try.prog 20 #[v1, v2] w' (ImplGB r b w')) :
    Calls Try.prog 6 #[V1, V2] W fun e w' => e = .returned (.bool true) ∧ Below W.heap.size W w' := by
  have HV1 : Hid (∀ w', Below W.heap.size W w' → GridV w' V1 m1) := Lib.hid (fun w' hb => h1.below hb)
  have HZ1 := Lib.hid (fun L h0 hL => szV V1 m1 L h0 hL z1 W h1)
  have HV2 : Hid (∀ w', Below W.heap.size W w' → GridV w' V2 m2) := Lib.hid (fun w' hb => h2.below hb)
  have HZ2 := Lib.hid (fun L h0 hL => szV V2 m2 L h0 hL z2 W h2)
  have HS := Lib.hid (hS)
  have HI := Lib.hid (hI)
  have HR := Lib.hid (hr)
  have HEQ := Lib.hid (eqV r HR.out)
  have HHD := Lib.hid (heldV r HR.out)
  clear hS hI h1 z1 h2 z2 hr
  go_enter Try.func6, Try.ntmps6
  go_wp2_with fail
  refine (HZ1.out 1048576 (by decide) (by decide)).mono ?_
  rintro e w0 ⟨q1, rfl, hq, hw⟩
  obtain rfl : W = w0 := hw.symm
  rcases hq with rfl | ⟨q10, q11⟩
  · go_wp2
    go_ret
    exact ⟨rfl, Below.refl _ _⟩
  go_wp2_with fail
  refine (HZ2.out q1 q10 (by omega)).mono ?_
  rintro e w0 ⟨q2, rfl, hq, hw⟩
  obtain rfl : W = w0 := hw.symm
  rcases hq with rfl | ⟨q20, q21⟩
  · go_wp2
    go_ret
    exact ⟨rfl, Below.refl _ _⟩
  have S1 : SizeB m1 := by unfold SizeB; omega
  have S2 : SizeB m2 := by unfold SizeB; omega
  have HTO1 : Hid (∀ w', Below W.heap.size W w' → Calls Try.prog 10 #[V1] w' (NewG m1 w')) := Lib.hid (fun w' hb => toV V1 m1 S1 w' (HV1.out w' hb))
  have HEA1 := Lib.hid (eqV m1 S1)
  have HTO2 : Hid (∀ w', Below W.heap.size W w' → Calls Try.prog 10 #[V2] w' (NewG m2 w')) := Lib.hid (fun w' hb => toV V2 m2 S2 w' (HV2.out w' hb))
  have HEA2 := Lib.hid (eqV m2 S2)
  have BW0 : Hid (Below W.heap.size W W) := Lib.hid (Below.refl _ _)
  go_wp2_with fail
  refine (HTO1.out _ BW0.out).mono ?_
  rintro e w1 ⟨c1, rfl, ho, hb⟩
  have L1 : W.heap.size ≤ w1.heap.size := hb.size
  have BW_1 := Lib.hid (below_behind BW0.out hb)
  clear BW0
  clear hb
  have C1_1 := Lib.hid (ho.mono (show W.heap.size ≤ W.heap.size by omega))
  clear ho
  go_wp2_with fail
  refine (HTO2.out _ BW_1.out).mono ?_
  rintro e w2 ⟨c2, rfl, ho, hb⟩
  have L2 : w1.heap.size ≤ w2.heap.size := hb.size
  have BW_2 := Lib.hid (below_behind BW_1.out hb)
  clear BW_1
  have C1_2 := Lib.hid (C1_1.out.below hb)
  clear C1_1
  clear hb
  have C2_2 := Lib.hid (ho.mono (show W.heap.size ≤ w1.heap.size by omega))
  clear ho
  go_wp2_with fail
  refine (HS.out c1 c2 _ BW_2.out S1 S2 C1_2.out C2_2.out).mono ?_
  rintro e w3 ⟨vs, rfl, hg, hb⟩
  clear C1_2
  clear C2_2
  have L3 : w2.heap.size ≤ w3.heap.size := hb.size
  have BW_3 := Lib.hid (below_behind BW_2.out hb)
  clear BW_2
  clear hb
  have HVS := Lib.hid hg
  clear hg
  have K_3 : Hid (Below w3.heap.size w3 w3) := Lib.hid (Below.refl _ _)
  go_wp2_with fail
  refine (HTO1.out _ BW_3.out).mono ?_
  rintro e w4 ⟨x1, rfl, ho, hb⟩
  have L4 : w3.heap.size ≤ w4.heap.size := hb.size
  have BW_4 := Lib.hid (below_behind BW_3.out hb)
  clear BW_3
  have K_4 := Lib.hid (below_behind K_3.out hb)
  clear K_3
  clear hb
  have X1_4 := Lib.hid ho.ownIn
  clear ho
  go_wp2_with fail
  refine (HTO2.out _ BW_4.out).mono ?_
  rintro e w5 ⟨x2, rfl, ho, hb⟩
  have L5 : w4.heap.size ≤ w5.heap.size := hb.size
  have BW_5 := Lib.hid (below_behind BW_4.out hb)
  clear BW_4
  have K_5 := Lib.hid (below_behind K_4.out hb)
  clear K_4
  have X1_5 := Lib.hid (X1_4.out.below hb)
  clear X1_4
  clear hb
  have X2_5 := Lib.hid ho.ownIn
  clear ho
  go_wp2_with fail
  refine (HI.out x1 x2 _ BW_5.out S1 S2 (X1_5.out.ownG.mono (by omega)) (X2_5.out.ownG.mono (by omega))).mono ?_
  rintro e w6 ⟨vg, rfl, hg, hb⟩
  have L6 : w5.heap.size ≤ w6.heap.size := hb.size
  have BW_6 := Lib.hid (below_behind BW_5.out hb)
  clear BW_5
  have K_6 := Lib.hid (below_behind K_5.out hb)
  clear K_5
  have X1_6 := Lib.hid (X1_5.out.below hb)
  clear X1_5
  have X2_6 := Lib.hid (X2_5.out.below hb)
  clear X2_5
  clear hb
  have HVG := Lib.hid hg
  clear hg
  have F_6 : Hid (From w5.heap.size w6 w6) := Lib.hid (From.refl _ _)
  go_wp2_with fail
  refine (HEQ.out vg vs _ (HVG.out _ F_6.out).1 (HVS.out.below K_6.out)).mono ?_
  rintro e w7 ⟨rfl, hb⟩
  have L7 : w6.heap.size ≤ w7.heap.size := hb.size
  have BW_7 := Lib.hid (below_behind BW_6.out hb)
  clear BW_6
  have K_7 := Lib.hid (below_behind K_6.out hb)
  clear K_6
  have X1_7 := Lib.hid (X1_6.out.below hb)
  clear X1_6
  have X2_7 := Lib.hid (X2_6.out.below hb)
  clear X2_6
  have F_7 := Lib.hid (F_6.out.trans (From.of_below hb))
  clear F_6
  clear hb
  go_wp2_with fail
  refine (HTO1.out _ BW_7.out).mono ?_
  rintro e w8 ⟨y1, rfl, ho, hb⟩
  have L8 : w7.heap.size ≤ w8.heap.size := hb.size
  have BW_8 := Lib.hid (below_behind BW_7.out hb)
  clear BW_7
  have K_8 := Lib.hid (below_behind K_7.out hb)
  clear K_7
  have X1_8 := Lib.hid (X1_7.out.below hb)
  clear X1_7
  have X2_8 := Lib.hid (X2_7.out.below hb)
  clear X2_7
  have F_8 := Lib.hid (F_7.out.trans (From.of_below hb))
  clear F_7
  clear hb
  have Y_8 := Lib.hid ho.gridV
  clear ho
  go_wp2_with fail
  refine (HEA1.out x1 y1 _ X1_8.out.ownG.gridV Y_8.out).mono ?_
  rintro e w9 ⟨rfl, hb⟩
  clear Y_8
  have L9 : w8.heap.size ≤ w9.heap.size := hb.size
  have BW_9 := Lib.hid (below_behind BW_8.out hb)
  clear BW_8
  have K_9 := Lib.hid (below_behind K_8.out hb)
  clear K_8
  have X1_9 := Lib.hid (X1_8.out.below hb)
  clear X1_8
  have X2_9 := Lib.hid (X2_8.out.below hb)
  clear X2_8
  have F_9 := Lib.hid (F_8.out.trans (From.of_below hb))
  clear F_8
  clear hb
  go_wp2_with fail
  refine (HTO2.out _ BW_9.out).mono ?_
  rintro e w10 ⟨y2, rfl, ho, hb⟩
  have L10 : w9.heap.size ≤ w10.heap.size := hb.size
  have BW_10 := Lib.hid (below_behind BW_9.out hb)
  clear BW_9
  have K_10 := Lib.hid (below_behind K_9.out hb)
  clear K_9
  have X1_10 := Lib.hid (X1_9.out.below hb)
  clear X1_9
  have X2_10 := Lib.hid (X2_9.out.below hb)
  clear X2_9
  have F_10 := Lib.hid (F_9.out.trans (From.of_below hb))
  clear F_9
  clear hb
  have Y_10 := Lib.hid ho.gridV
  clear ho
  go_wp2_with fail
  refine (HEA2.out x2 y2 _ X2_10.out.ownG.gridV Y_10.out).mono ?_
  rintro e w11 ⟨rfl, hb⟩
  clear Y_10
  have L11 : w10.heap.size ≤ w11.heap.size := hb.size
  have BW_11 := Lib.hid (below_behind BW_10.out hb)
  clear BW_10
  have K_11 := Lib.hid (below_behind K_10.out hb)
  clear K_10
  have X1_11 := Lib.hid (X1_10.out.below hb)
  clear X1_10
  have X2_11 := Lib.hid (X2_10.out.below hb)
  clear X2_10
  have F_11 := Lib.hid (F_10.out.trans (From.of_below hb))
  clear F_10
  clear hb
  go_wp2_with fail
  refine (X1_11.out.markedX S1 1 (by decide)).mono ?_
  rintro e w12 ⟨k1, rfl, hk1, hw⟩
  have L12 : w11.heap.size ≤ w12.heap.size := hw.size
  clear X1_11
  have BW_12 := Lib.hid (BW_11.out.trans ((hw.below (by omega)).mono (by omega)))
  clear BW_11
  have K_12 := Lib.hid (K_11.out.trans ((hw.below (by omega)).mono (by omega)))
  clear K_11
  have X2_12 := Lib.hid (From.ownIn X2_11.out (From.of_within hw (by omega)))
  clear X2_11
  have F_12 := Lib.hid (F_11.out.trans (From.of_within hw (by omega)))
  clear F_11
  clear hw
  go_wp2_with fail
  refine (X2_12.out.markedX S2 k1 (by omega)).mono ?_
  rintro e w13 ⟨k2, rfl, hk2, hw⟩
  have L13 : w12.heap.size ≤ w13.heap.size := hw.size
  clear X2_12
  have BW_13 := Lib.hid (BW_12.out.trans ((hw.below (by omega)).mono (by omega)))
  clear BW_12
  have K_13 := Lib.hid (K_12.out.trans ((hw.below (by omega)).mono (by omega)))
  clear K_12
  have F_13 := Lib.hid (F_12.out.trans (From.of_within hw (by omega)))
  clear F_12
  clear hw
  have kn : ¬ ((k2 : Nat) : Int) < 0 := by omega
  go_wp2_with fail
  refine (HEQ.out vg vs _ (HVG.out _ F_13.out).1 (HVS.out.below K_13.out)).mono ?_
  rintro e w14 ⟨rfl, hb⟩
  have L14 : w13.heap.size ≤ w14.heap.size := hb.size
  have BW_14 := Lib.hid (below_behind BW_13.out hb)
  clear BW_13
  have K_14 := Lib.hid (below_behind K_13.out hb)
  clear K_13
  have F_14 := Lib.hid (F_13.out.trans (From.of_below hb))
  clear F_13
  clear hb
  go_wp2_with fail
  refine ((HVG.out _ F_14.out).2).mono ?_
  rintro e w15 ⟨rfl, hm, hw⟩
  have L15 : w14.heap.size ≤ w15.heap.size := hw.size
  clear F_14
  have BW_15 := Lib.hid (BW_14.out.trans ((hw.below (by omega)).mono (by omega)))
  clear BW_14
  have K_15 := Lib.hid (K_14.out.trans ((hw.below (by omega)).mono (by omega)))
  clear K_14
  have M_15 := Lib.hid hm
  clear hm hw
  go_wp2_with fail
  refine (HHD.out vg _ M_15.out).mono ?_
  rintro e w16 ⟨rfl, hb⟩
  have L16 : w15.heap.size ≤ w16.heap.size := hb.size
  have BW_16 := Lib.hid (below_behind BW_15.out hb)
  clear BW_15
  have K_16 := Lib.hid (below_behind K_15.out hb)
  clear K_15
  have M_16 := Lib.hid (M_15.out.below hb)
  clear M_15
  clear hb
  go_wp2_with fail
  refine (HTO1.out _ BW_16.out).mono ?_
  rintro e w17 ⟨d1, rfl, ho, hb⟩
  have L17 : w16.heap.size ≤ w17.heap.size := hb.size
  have BW_17 := Lib.hid (below_behind BW_16.out hb)
  clear BW_16
  have K_17 := Lib.hid (below_behind K_16.out hb)
  clear K_16
  have M_17 := Lib.hid (M_16.out.below hb)
  clear M_16
  clear hb
  have C1_17 := Lib.hid (ho.mono (show W.heap.size ≤ w16.heap.size by omega))
  clear ho
  go_wp2_with fail
  refine (HTO2.out _ BW_17.out).mono ?_
  rintro e w18 ⟨d2, rfl, ho, hb⟩
  have L18 : w17.heap.size ≤ w18.heap.size := hb.size
  have BW_18 := Lib.hid (below_behind BW_17.out hb)
  clear BW_17
  have K_18 := Lib.hid (below_behind K_17.out hb)
  clear K_17
  have M_18 := Lib.hid (M_17.out.below hb)
  clear M_17
  have C1_18 := Lib.hid (C1_17.out.below hb)
  clear C1_17
  clear hb
  have C2_18 := Lib.hid (ho.mono (show W.heap.size ≤ w17.heap.size by omega))
  clear ho
  go_wp2_with fail
  refine (HI.out d1 d2 _ BW_18.out S1 S2 C1_18.out C2_18.out).mono ?_
  rintro e w19 ⟨vh, rfl, hg, hb⟩
  clear C1_18
  clear C2_18
  have L19 : w18.heap.size ≤ w19.heap.size := hb.size
  have BW_19 := Lib.hid (below_behind BW_18.out hb)
  clear BW_18
  have K_19 := Lib.hid (below_behind K_18.out hb)
  clear K_18
  have M_19 := Lib.hid (M_18.out.below hb)
  clear M_18
  clear hb
  have HVH := Lib.hid (hg _ (From.refl _ _)).1
  clear hg
  go_wp2_with fail
  refine (HEQ.out vh vs _ HVH.out (HVS.out.below K_19.out)).mono ?_
  rintro e w20 ⟨rfl, hb⟩
  have L20 : w19.heap.size ≤ w20.heap.size := hb.size
  have BW_20 := Lib.hid (below_behind BW_19.out hb)
  clear BW_19
  have K_20 := Lib.hid (below_behind K_19.out hb)
  clear K_19
  have M_20 := Lib.hid (M_19.out.below hb)
  clear M_19
  clear hb
  go_wp2_with fail
  refine (HHD.out vg _ M_20.out).mono ?_
  rintro e w21 ⟨rfl, hb⟩
  have L21 : w20.heap.size ≤ w21.heap.size := hb.size
  have BW_21 := Lib.hid (below_behind BW_20.out hb)
  clear BW_20
  have K_21 := Lib.hid (below_behind K_20.out hb)
  clear K_20
  have M_21 := Lib.hid (M_20.out.below hb)
  clear M_20
  clear hb
  go_wp2
  go_ret
  exact ⟨rfl, BW_21.out⟩
end Go.Proofs.Ytfgjlpnmjfekhaa
