/-
  The law on GraphOf: where the model's and the program's function give back the same table in new memory at every copy of the shift, the law returns true; nothing that was there before is changed.
-/
import Derived.Test.YtalclebehbdliaaPresOps
import Derived.Test.YtalclebehbdliaaPresArg
import Derived.Test.YtalclebehbdliaaBaseTexts
import Derived.Deep.RegionHeld3
namespace Go.Proofs.Ytalclebehbdliaa
open Go Go.RowKit

set_option maxRecDepth 100000 in
set_option maxHeartbeats 6400000 in
theorem law_graphOf (L : Int) (V : Value) (xs : List ByteArray) (m : List (List Int)) (b : Bool) (hm : SizeB m) (w : World) (ha1 : SliceArgQ w V xs)
    (hS : ∀ g1 c1 w', Below w.heap.size w w' → xs.length ≤ 1048576 → total xs ≤ 1048576 → StrsAt w' g1 0 xs → g1 < w'.heap.size → Calls Try.prog 18 #[.agg #[.int .i64 L, .slice (some ⟨g1, 0, none⟩) xs.length c1]] w' (SpecGB m b w'))
    (hI : ∀ g1 c1 w', Below w.heap.size w w' → xs.length ≤ 1048576 → total xs ≤ 1048576 → StrsAt w' g1 0 xs → g1 < w'.heap.size → Calls Try.prog 19 #[.agg #[.int .i64 L, .slice (some ⟨g1, 0, none⟩) xs.length c1]] w' (ImplGB m b w')) :
    Calls Try.prog 4 #[.agg #[.int .i64 L, V]] w fun e w' => e = .returned (.bool true) ∧ Below w.heap.size w w' := by
  have HA1 := Lib.hid ha1
  have HS := Lib.hid hS
  have HI := Lib.hid hI
  have HEQ := Lib.hid (eqV m hm)
  have HHD := Lib.hid (heldV m hm)
  have hbb : (b == b) = true := beq_self_eq_true b
  clear hS hI ha1
  go_enter Try.func4, Try.ntmps4
  go_wp2_with fail
  obtain ⟨w0, hw0⟩ : ∃ w0, w.alloc (.cells #[.int .i64 L, V] 24) = w0 := ⟨_, rfl⟩
  have l0 : w.heap.size + 1 ≤ w0.heap.size := by rw [← hw0]; simp
  have BW_0 : Hid (Below w.heap.size w w0) := Lib.hid (by rw [← hw0]; exact (Below.refl _ _).alloc (Nat.le_refl _) _)
  have X1_0 : Hid (BoxAt w0 w.heap.size L V) := Lib.hid (by rw [← hw0]; exact boxAt_new w L V _)
  rw [hw0]
  clear hw0
  obtain ⟨eX10, eX11⟩ := X1_0.out
  have HC := Lib.hid (sz_shiftQ L V xs 1048576 (by decide) (by decide) w0 (HA1.out.later BW_0.out))
  refine HC.out.mono ?_
  rintro e w1 ⟨r1, rfl, hr1, hb⟩
  clear HC
  clear eX10 eX11
  have lw1 : w0.heap.size ≤ w1.heap.size := hb.size
  have BW_1 := Lib.hid (below_after BW_0.out hb)
  clear BW_0
  have X1_1 := Lib.hid (X1_0.out.below hb (by first | omega | (rw [World.size_alloc]; omega)))
  clear X1_0
  clear hb
  rcases hr1 with rfl | ⟨hr10, hr11, hr12⟩
  · go_wp2
    go_ret
    exact ⟨rfl, BW_1.out⟩
  have hn1 : ¬ r1 < 0 := by omega
  have HL1 : Hid (xs.length ≤ 1048576 ∧ total xs ≤ 1048576) := Lib.hid ⟨by omega, by omega⟩
  clear hr11 hr12
  have HTO1 : Hid (∀ w', Below w.heap.size w w' → Calls Try.prog 11 #[.agg #[.int .i64 L, V]] w' (ToShiftPost L xs w')) := Lib.hid (fun w' hb => to_shift L V xs HL1.out.1 w' (HA1.out.arg.later hb))
  obtain ⟨eX10, eX11⟩ := X1_1.out
  have HC := Lib.hid (HTO1.out _ BW_1.out)
  go_wp2_with fail
  refine HC.out.mono ?_
  rintro e w2 ⟨ga, rfl, ho, hb⟩
  clear HC
  clear eX10 eX11
  have lw2 : w1.heap.size ≤ w2.heap.size := hb.size
  have BW_2 := Lib.hid (below_after BW_1.out hb)
  clear BW_1
  have X1_2 := Lib.hid (X1_1.out.below hb (by first | omega | (rw [World.size_alloc]; omega)))
  clear X1_1
  clear hb
  have C_2 := Lib.hid (OwnR.new (World.ownsRow.mono ho (show w1.heap.size ≤ w1.heap.size by first | omega | (rw [World.size_alloc]; omega))))
  clear ho
  have HC := Lib.hid (HS.out ga xs.length _ BW_2.out HL1.out.1 HL1.out.2 C_2.out.strs.1 C_2.out.strs.2)
  go_wp2_with fail
  refine HC.out.mono ?_
  rintro e w3 ⟨vs, rfl, hg, hb⟩
  clear HC
  clear C_2
  have lw3 : w2.heap.size ≤ w3.heap.size := hb.size
  have BW_3 := Lib.hid (below_after BW_2.out hb)
  clear BW_2
  have X1_3 := Lib.hid (X1_2.out.below hb (by first | omega | (rw [World.size_alloc]; omega)))
  clear X1_2
  clear hb
  have HVS := Lib.hid hg
  clear hg
  have K_3 : Hid (Below w3.heap.size w3 w3) := Lib.hid (Below.refl _ _)
  obtain ⟨eX10, eX11⟩ := X1_3.out
  have HC := Lib.hid (HTO1.out _ BW_3.out)
  go_wp2_with fail
  refine HC.out.mono ?_
  rintro e w4 ⟨gx1, rfl, ho, hb⟩
  clear HC
  clear eX10 eX11
  have lw4 : w3.heap.size ≤ w4.heap.size := hb.size
  have BW_4 := Lib.hid (below_after BW_3.out hb)
  clear BW_3
  have X1_4 := Lib.hid (X1_3.out.below hb (by first | omega | (rw [World.size_alloc]; omega)))
  clear X1_3
  have K_4 := Lib.hid (below_after K_3.out hb)
  clear K_3
  clear hb
  have O1_4 := Lib.hid (OwnR.new (World.ownsRow.mono ho (show w3.heap.size ≤ w3.heap.size by first | omega | (rw [World.size_alloc]; omega))))
  clear ho
  have hb := (Below.refl w4.heap.size w4).alloc (Nat.le_refl _) (.cells #[.int .i64 L, .slice (some ⟨gx1, 0, none⟩) xs.length xs.length] 27)
  have BW_5 := Lib.hid (below_after BW_4.out hb)
  clear BW_4
  have X1_5 := Lib.hid (X1_4.out.below hb (by first | omega | (rw [World.size_alloc]; omega)))
  clear X1_4
  have K_5 := Lib.hid (below_after K_4.out hb)
  clear K_4
  have O1_5 := Lib.hid (O1_4.out.below hb)
  clear O1_4
  clear hb
  have Yx1_5 := Lib.hid (boxAt_new w4 L (.slice (some ⟨gx1, 0, none⟩) xs.length xs.length) 27)
  obtain ⟨eYx10, eYx11⟩ := Yx1_5.out
  have HC := Lib.hid (HI.out gx1 xs.length _ BW_5.out HL1.out.1 HL1.out.2 O1_5.out.strs.1 O1_5.out.strs.2)
  go_wp2_with fail
  refine HC.out.mono ?_
  rintro e w5 ⟨vg, rfl, hg, hb⟩
  clear HC
  clear eYx10 eYx11
  have lw5 : w4.heap.size + 1 ≤ w5.heap.size := by have := hb.size; rw [World.size_alloc] at this; exact this
  have BW_6 := Lib.hid (below_after BW_5.out hb)
  clear BW_5
  have X1_6 := Lib.hid (X1_5.out.below hb (by first | omega | (rw [World.size_alloc]; omega)))
  clear X1_5
  have K_6 := Lib.hid (below_after K_5.out hb)
  clear K_5
  have O1_6 := Lib.hid (O1_5.out.below hb)
  clear O1_5
  have Yx1_6 := Lib.hid (Yx1_5.out.below hb (by first | omega | (rw [World.size_alloc]; omega)))
  clear Yx1_5
  clear hb
  rw [World.size_alloc] at hg
  have HVG := Lib.hid hg
  clear hg
  have F_6 : Hid (From (w4.heap.size + 1) w5 w5) := Lib.hid (From.refl _ _)
  have HC := Lib.hid (HEQ.out vg vs _ (HVG.out _ F_6.out).1 (HVS.out.below K_6.out))
  go_wp2_with fail
  refine HC.out.mono ?_
  rintro e w6 ⟨rfl, hb⟩
  clear HC
  have lw6 : w5.heap.size ≤ w6.heap.size := hb.size
  have BW_7 := Lib.hid (below_after BW_6.out hb)
  clear BW_6
  have X1_7 := Lib.hid (X1_6.out.below hb (by first | omega | (rw [World.size_alloc]; omega)))
  clear X1_6
  have K_7 := Lib.hid (below_after K_6.out hb)
  clear K_6
  have O1_7 := Lib.hid (O1_6.out.below hb)
  clear O1_6
  have Yx1_7 := Lib.hid (Yx1_6.out.below hb (by first | omega | (rw [World.size_alloc]; omega)))
  clear Yx1_6
  have F_7 := Lib.hid (F_6.out.trans (From.of_below hb))
  clear F_6
  clear hb
  obtain ⟨eX10, eX11⟩ := X1_7.out
  obtain ⟨eYx10, eYx11⟩ := Yx1_7.out
  have CT := Lib.hid (fun w' (h : Below w6.heap.size w6 w') => HTO1.out w' (below_after BW_7.out h))
  have CE : Hid (∀ w' g, Below w6.heap.size w6 w' → w'.ownsRow w6.heap.size 9 1 (.slice (some ⟨g, 0, none⟩) xs.length xs.length) xs.length (xs.map Value.string) → Calls Try.prog 14 #[.agg #[.int .i64 L, .slice (some ⟨gx1, 0, none⟩) xs.length xs.length], .agg #[.int .i64 L, .slice (some ⟨g, 0, none⟩) xs.length xs.length]] w' (TrueBelow w')) :=
    Lib.hid (fun w' g hb ho => same_shift L gx1 xs.length g xs.length xs HL1.out.1 w' ((O1_7.out.below hb).strs.1) ((O1_7.out.below hb).strs.2) (StrsAt.of_owns ho rfl) (ho.lt g rfl).2)
  go_wp2_with fail
  go_region_held3 (fun w' => w'.cell? ⟨w.heap.size, 0, none⟩ = some (.int .i64 L) ∧ w'.cell? ⟨w.heap.size, 1, none⟩ = some (V) ∧ w'.cell? ⟨w4.heap.size, 0, none⟩ = some (.int .i64 L) ∧ w'.cell? ⟨w4.heap.size, 1, none⟩ = some ((.slice (some ⟨gx1, 0, none⟩) xs.length xs.length))) (first | exact ⟨y0, y1, y2, y3⟩ | exact ⟨z0, z1, z2, z3⟩ | go_keep) (first | (go_at_call 11; refine (CT.out _ (by first | exact Below.refl _ _ | exact (Below.refl _ _).drew)).mono ?_; rintro e w7 ⟨gy, rfl, hoy, hby⟩; have hqy : Below w6.heap.size w6 w7 := (Below.refl w6.heap.size w6).drew.trans hby; have z0 := (hqy.cell (p := ⟨w.heap.size, 0, none⟩) (by show w.heap.size < w6.heap.size; omega)).trans eX10; have z1 := (hqy.cell (p := ⟨w.heap.size, 1, none⟩) (by show w.heap.size < w6.heap.size; omega)).trans eX11; have z2 := (hqy.cell (p := ⟨w4.heap.size, 0, none⟩) (by show w4.heap.size < w6.heap.size; omega)).trans eYx10; have z3 := (hqy.cell (p := ⟨w4.heap.size, 1, none⟩) (by show w4.heap.size < w6.heap.size; omega)).trans eYx11) | (go_at_call 14; refine (CE.out _ gy hqy hoy).mono ?_; rintro e w8 ⟨rfl, hbz⟩; have hqz : Below w6.heap.size w6 w8 := below_after hqy hbz; have y0 := (hqz.cell (p := ⟨w.heap.size, 0, none⟩) (by show w.heap.size < w6.heap.size; omega)).trans eX10; have y1 := (hqz.cell (p := ⟨w.heap.size, 1, none⟩) (by show w.heap.size < w6.heap.size; omega)).trans eX11; have y2 := (hqz.cell (p := ⟨w4.heap.size, 0, none⟩) (by show w4.heap.size < w6.heap.size; omega)).trans eYx10; have y3 := (hqz.cell (p := ⟨w4.heap.size, 1, none⟩) (by show w4.heap.size < w6.heap.size; omega)).trans eYx11))
  clear CT CE hoy hby hbz hqy z0 z1 z2 z3 y0 y1 y2 y3
  clear eX10 eX11 eYx10 eYx11
  have lw8 : w6.heap.size ≤ w8.heap.size := hqz.size
  have BW_8 := Lib.hid (below_after BW_7.out hqz)
  clear BW_7
  have X1_8 := Lib.hid (X1_7.out.below hqz (by first | omega | (rw [World.size_alloc]; omega)))
  clear X1_7
  have K_8 := Lib.hid (below_after K_7.out hqz)
  clear K_7
  have O1_8 := Lib.hid (O1_7.out.below hqz)
  clear O1_7
  have Yx1_8 := Lib.hid (Yx1_7.out.below hqz (by first | omega | (rw [World.size_alloc]; omega)))
  clear Yx1_7
  have F_8 := Lib.hid (F_7.out.trans (From.of_below hqz))
  clear F_7
  clear hqz
  obtain ⟨eYx10, eYx11⟩ := Yx1_8.out
  have HC := Lib.hid (mark_shiftR L _ _ (1) _ _ xs (by decide) (by decide) HL1.out.1 _ O1_8.out)
  go_wp2_with fail
  refine HC.out.mono ?_
  rintro e w9 ⟨rfl, -, hw⟩
  clear HC
  clear eYx10 eYx11
  clear O1_8
  clear Yx1_8
  have lw9 : w8.heap.size ≤ w9.heap.size := hw.size
  have BW_9 := Lib.hid (BW_8.out.trans ((hw.below (by omega)).mono (by omega)))
  clear BW_8
  have X1_9 := Lib.hid (X1_8.out.within hw (by omega) (by omega))
  clear X1_8
  have K_9 := Lib.hid (K_8.out.trans ((hw.below (by omega)).mono (by omega)))
  clear K_8
  have F_9 := Lib.hid (F_8.out.trans (From.of_within hw (by omega)))
  clear F_8
  clear hw
  have q0 : decide (((1 + xs.length : Nat) : Int) < 0) = false := by rw [decide_eq_false_iff_not]; omega
  have q0' : ¬ ((1 + xs.length : Nat) : Int) < 0 := by omega
  have HC := Lib.hid (HEQ.out vg vs _ (HVG.out _ F_9.out).1 (HVS.out.below K_9.out))
  go_wp2_with fail
  refine HC.out.mono ?_
  rintro e w10 ⟨rfl, hb⟩
  clear HC
  have lw10 : w9.heap.size ≤ w10.heap.size := hb.size
  have BW_10 := Lib.hid (below_after BW_9.out hb)
  clear BW_9
  have X1_10 := Lib.hid (X1_9.out.below hb (by first | omega | (rw [World.size_alloc]; omega)))
  clear X1_9
  have K_10 := Lib.hid (below_after K_9.out hb)
  clear K_9
  have F_10 := Lib.hid (F_9.out.trans (From.of_below hb))
  clear F_9
  clear hb
  have HC := Lib.hid ((HVG.out _ F_10.out).2)
  go_wp2_with fail
  refine HC.out.mono ?_
  rintro e w11 ⟨rfl, hm, hw⟩
  clear HC
  clear F_10
  have lw11 : w10.heap.size ≤ w11.heap.size := hw.size
  have BW_11 := Lib.hid (BW_10.out.trans ((hw.below (by omega)).mono (by omega)))
  clear BW_10
  have X1_11 := Lib.hid (X1_10.out.within hw (by omega) (by omega))
  clear X1_10
  have K_11 := Lib.hid (K_10.out.trans ((hw.below (by omega)).mono (by omega)))
  clear K_10
  have M_11 := Lib.hid hm
  clear hm hw
  have HC := Lib.hid (HHD.out vg _ M_11.out)
  go_wp2_with fail
  refine HC.out.mono ?_
  rintro e w12 ⟨rfl, hb⟩
  clear HC
  have lw12 : w11.heap.size ≤ w12.heap.size := hb.size
  have BW_12 := Lib.hid (below_after BW_11.out hb)
  clear BW_11
  have X1_12 := Lib.hid (X1_11.out.below hb (by first | omega | (rw [World.size_alloc]; omega)))
  clear X1_11
  have K_12 := Lib.hid (below_after K_11.out hb)
  clear K_11
  have M_12 := Lib.hid (M_11.out.below hb)
  clear M_11
  clear hb
  obtain ⟨eX10, eX11⟩ := X1_12.out
  have HC := Lib.hid (HTO1.out _ BW_12.out)
  go_wp2_with fail
  refine HC.out.mono ?_
  rintro e w13 ⟨gh, rfl, ho, hb⟩
  clear HC
  clear eX10 eX11
  have lw13 : w12.heap.size ≤ w13.heap.size := hb.size
  have BW_13 := Lib.hid (below_after BW_12.out hb)
  clear BW_12
  have X1_13 := Lib.hid (X1_12.out.below hb (by first | omega | (rw [World.size_alloc]; omega)))
  clear X1_12
  have K_13 := Lib.hid (below_after K_12.out hb)
  clear K_12
  have M_13 := Lib.hid (M_12.out.below hb)
  clear M_12
  clear hb
  have C_13 := Lib.hid (OwnR.new (World.ownsRow.mono ho (show w12.heap.size ≤ w12.heap.size by first | omega | (rw [World.size_alloc]; omega))))
  clear ho
  have HC := Lib.hid (HI.out gh xs.length _ BW_13.out HL1.out.1 HL1.out.2 C_13.out.strs.1 C_13.out.strs.2)
  go_wp2_with fail
  refine HC.out.mono ?_
  rintro e w14 ⟨vh, rfl, hg, hb⟩
  clear HC
  clear C_13
  have lw14 : w13.heap.size ≤ w14.heap.size := hb.size
  have BW_14 := Lib.hid (below_after BW_13.out hb)
  clear BW_13
  have X1_14 := Lib.hid (X1_13.out.below hb (by first | omega | (rw [World.size_alloc]; omega)))
  clear X1_13
  have K_14 := Lib.hid (below_after K_13.out hb)
  clear K_13
  have M_14 := Lib.hid (M_13.out.below hb)
  clear M_13
  clear hb
  have HVH := Lib.hid (hg _ (From.refl _ _)).1
  clear hg
  have HC := Lib.hid (HEQ.out vh vs _ HVH.out (HVS.out.below K_14.out))
  go_wp2_with fail
  refine HC.out.mono ?_
  rintro e w15 ⟨rfl, hb⟩
  clear HC
  have lw15 : w14.heap.size ≤ w15.heap.size := hb.size
  have BW_15 := Lib.hid (below_after BW_14.out hb)
  clear BW_14
  have X1_15 := Lib.hid (X1_14.out.below hb (by first | omega | (rw [World.size_alloc]; omega)))
  clear X1_14
  have K_15 := Lib.hid (below_after K_14.out hb)
  clear K_14
  have M_15 := Lib.hid (M_14.out.below hb)
  clear M_14
  clear hb
  have HC := Lib.hid (HHD.out vg _ M_15.out)
  go_wp2_with fail
  refine HC.out.mono ?_
  rintro e w16 ⟨rfl, hb⟩
  clear HC
  have lw16 : w15.heap.size ≤ w16.heap.size := hb.size
  have BW_16 := Lib.hid (below_after BW_15.out hb)
  clear BW_15
  have X1_16 := Lib.hid (X1_15.out.below hb (by first | omega | (rw [World.size_alloc]; omega)))
  clear X1_15
  have K_16 := Lib.hid (below_after K_15.out hb)
  clear K_15
  have M_16 := Lib.hid (M_15.out.below hb)
  clear M_15
  clear hb
  go_wp2
  go_ret
  exact ⟨rfl, BW_16.out⟩
end Go.Proofs.Ytalclebehbdliaa
