/-
  The law on ForbiddenOf: where the model's and the program's function give back the same shift in new memory at every copy, the law returns true; nothing that was there before is changed.
-/
import Derived.Test.YtalclebehbdliaaPresOps
import Derived.Test.YtalclebehbdliaaPresArg
import Derived.Test.YtalclebehbdliaaPresSb
import Derived.Deep.RegionHeld3
namespace Go.Proofs.Ytalclebehbdliaa
open Go Go.RowKit

set_option maxRecDepth 100000 in
set_option maxHeartbeats 6400000 in
theorem law_forbiddenOf (L : Int) (V : Value) (xs : List ByteArray) (M : Int) (ps : List ByteArray) (b : Bool) (hps : ps.length ≤ 1048576) (w : World) (ha1 : SliceArgQ w V xs)
    (hS : ∀ g1 c1 w', Below w.heap.size w w' → xs.length ≤ 1048576 → total xs ≤ 1048576 → StrsAt w' g1 0 xs → g1 < w'.heap.size → Calls Try.prog 25 #[.agg #[.int .i64 L, .slice (some ⟨g1, 0, none⟩) xs.length c1]] w' (SbPost M ps b w'))
    (hI : ∀ g1 c1 w', Below w.heap.size w w' → xs.length ≤ 1048576 → total xs ≤ 1048576 → StrsAt w' g1 0 xs → g1 < w'.heap.size → Calls Try.prog 26 #[.agg #[.int .i64 L, .slice (some ⟨g1, 0, none⟩) xs.length c1]] w' (SbPost M ps b w')) :
    Calls Try.prog 6 #[.agg #[.int .i64 L, V]] w fun e w' => e = .returned (.bool true) ∧ Below w.heap.size w w' := by
  have HA1 := Lib.hid ha1
  have HS := Lib.hid hS
  have HI := Lib.hid hI
  have hbb : (b == b) = true := beq_self_eq_true b
  clear hS hI ha1
  go_enter Try.func6, Try.ntmps6
  go_wp2_with fail
  obtain ⟨w0, hw0⟩ : ∃ w0, w.alloc (.cells #[.int .i64 L, V] 24) = w0 := ⟨_, rfl⟩
  have l0 : w.heap.size + 1 ≤ w0.heap.size := by rw [← hw0]; simp
  have BW_0 : Hid (Below w.heap.size w w0) := Lib.hid (by rw [← hw0]; exact (Below.refl _ _).alloc (Nat.le_refl _) _)
  have X1_0 : Hid (BoxAt w0 w.heap.size L V) := Lib.hid (by rw [← hw0]; exact boxAt_new w L V _)
  rw [hw0]
  clear hw0
  obtain ⟨eX10, eX11⟩ := X1_0.out
  have HC := Lib.hid (sz_shiftQ L V xs 1048576 (by decide) (by decide) w0 (HA1.out.later BW_0.out))
  refine HC.out.mono ?_
  rintro e w1 ⟨r1, rfl, hr1, hb⟩
  clear HC
  clear eX10 eX11
  have lw1 : w0.heap.size ≤ w1.heap.size := hb.size
  have BW_1 := Lib.hid (below_after BW_0.out hb)
  clear BW_0
  have X1_1 := Lib.hid (X1_0.out.below hb (by first | omega | (rw [World.size_alloc]; omega)))
  clear X1_0
  clear hb
  rcases hr1 with rfl | ⟨hr10, hr11, hr12⟩
  · go_wp2
    go_ret
    exact ⟨rfl, BW_1.out⟩
  have hn1 : ¬ r1 < 0 := by omega
  have HL1 : Hid (xs.length ≤ 1048576 ∧ total xs ≤ 1048576) := Lib.hid ⟨by omega, by omega⟩
  clear hr11 hr12
  have HTO1 : Hid (∀ w', Below w.heap.size w w' → Calls Try.prog 11 #[.agg #[.int .i64 L, V]] w' (ToShiftPost L xs w')) := Lib.hid (fun w' hb => to_shift L V xs HL1.out.1 w' (HA1.out.arg.later hb))
  obtain ⟨eX10, eX11⟩ := X1_1.out
  have HC := Lib.hid (HTO1.out _ BW_1.out)
  go_wp2_with fail
  refine HC.out.mono ?_
  rintro e w2 ⟨ga, rfl, ho, hb⟩
  clear HC
  clear eX10 eX11
  have lw2 : w1.heap.size ≤ w2.heap.size := hb.size
  have BW_2 := Lib.hid (below_after BW_1.out hb)
  clear BW_1
  have X1_2 := Lib.hid (X1_1.out.below hb (by first | omega | (rw [World.size_alloc]; omega)))
  clear X1_1
  clear hb
  have C_2 := Lib.hid (OwnR.new (World.ownsRow.mono ho (show w1.heap.size ≤ w1.heap.size by first | omega | (rw [World.size_alloc]; omega))))
  clear ho
  have HC := Lib.hid (HS.out ga xs.length _ BW_2.out HL1.out.1 HL1.out.2 C_2.out.strs.1 C_2.out.strs.2)
  go_wp2_with fail
  refine HC.out.mono ?_
  rintro e w3 ⟨As, ks, rfl, ho, hb⟩
  clear HC
  clear C_2
  have lw3 : w2.heap.size ≤ w3.heap.size := hb.size
  have BW_3 := Lib.hid (below_after BW_2.out hb)
  clear BW_2
  have X1_3 := Lib.hid (X1_2.out.below hb (by first | omega | (rw [World.size_alloc]; omega)))
  clear X1_2
  clear hb
  have R_3 := Lib.hid (OwnR.new (World.ownsRow.mono ho (show w2.heap.size ≤ w2.heap.size by first | omega | (rw [World.size_alloc]; omega))))
  clear ho
  have hb := (Below.refl w3.heap.size w3).alloc (Nat.le_refl _) (.cells #[.int .i64 M, .slice As ps.length ks] 27)
  have BW_4 := Lib.hid (below_after BW_3.out hb)
  clear BW_3
  have X1_4 := Lib.hid (X1_3.out.below hb (by first | omega | (rw [World.size_alloc]; omega)))
  clear X1_3
  have R_4 := Lib.hid (R_3.out.below hb)
  clear R_3
  clear hb
  have Ys_4 := Lib.hid (boxAt_new w3 M (.slice As ps.length ks) 27)
  obtain ⟨eX10, eX11⟩ := X1_4.out
  have HC := Lib.hid (HTO1.out _ BW_4.out)
  go_wp2_with fail
  refine HC.out.mono ?_
  rintro e w4 ⟨gx1, rfl, ho, hb⟩
  clear HC
  clear eX10 eX11
  have lw4 : w3.heap.size + 1 ≤ w4.heap.size := by have := hb.size; rw [World.size_alloc] at this; exact this
  have BW_5 := Lib.hid (below_after BW_4.out hb)
  clear BW_4
  have X1_5 := Lib.hid (X1_4.out.below hb (by first | omega | (rw [World.size_alloc]; omega)))
  clear X1_4
  have R_5 := Lib.hid (R_4.out.below hb)
  clear R_4
  have Ys_5 := Lib.hid (Ys_4.out.below hb (by first | omega | (rw [World.size_alloc]; omega)))
  clear Ys_4
  clear hb
  have O1_5 := Lib.hid (OwnR.new (World.ownsRow.mono ho (show w3.heap.size + 1 ≤ (w3.alloc (.cells #[.int .i64 M, .slice As ps.length ks] 27)).heap.size by first | omega | (rw [World.size_alloc]; omega))))
  clear ho
  have hb := (Below.refl w4.heap.size w4).alloc (Nat.le_refl _) (.cells #[.int .i64 L, .slice (some ⟨gx1, 0, none⟩) xs.length xs.length] 27)
  have BW_6 := Lib.hid (below_after BW_5.out hb)
  clear BW_5
  have X1_6 := Lib.hid (X1_5.out.below hb (by first | omega | (rw [World.size_alloc]; omega)))
  clear X1_5
  have R_6 := Lib.hid (R_5.out.below hb)
  clear R_5
  have Ys_6 := Lib.hid (Ys_5.out.below hb (by first | omega | (rw [World.size_alloc]; omega)))
  clear Ys_5
  have O1_6 := Lib.hid (O1_5.out.below hb)
  clear O1_5
  clear hb
  have Yx1_6 := Lib.hid (boxAt_new w4 L (.slice (some ⟨gx1, 0, none⟩) xs.length xs.length) 27)
  obtain ⟨eYx10, eYx11⟩ := Yx1_6.out
  have HC := Lib.hid (HI.out gx1 xs.length _ BW_6.out HL1.out.1 HL1.out.2 O1_6.out.strs.1 O1_6.out.strs.2)
  go_wp2_with fail
  refine HC.out.mono ?_
  rintro e w5 ⟨Ag, kg, rfl, ho, hb⟩
  clear HC
  clear eYx10 eYx11
  have lw5 : w4.heap.size + 1 ≤ w5.heap.size := by have := hb.size; rw [World.size_alloc] at this; exact this
  have BW_7 := Lib.hid (below_after BW_6.out hb)
  clear BW_6
  have X1_7 := Lib.hid (X1_6.out.below hb (by first | omega | (rw [World.size_alloc]; omega)))
  clear X1_6
  have R_7 := Lib.hid (R_6.out.below hb)
  clear R_6
  have Ys_7 := Lib.hid (Ys_6.out.below hb (by first | omega | (rw [World.size_alloc]; omega)))
  clear Ys_6
  have O1_7 := Lib.hid (O1_6.out.below hb)
  clear O1_6
  have Yx1_7 := Lib.hid (Yx1_6.out.below hb (by first | omega | (rw [World.size_alloc]; omega)))
  clear Yx1_6
  clear hb
  have P_7 := Lib.hid (OwnR.new (World.ownsRow.mono ho (show w4.heap.size + 1 ≤ (w4.alloc (.cells #[.int .i64 L, .slice (some ⟨gx1, 0, none⟩) xs.length xs.length] 27)).heap.size by first | omega | (rw [World.size_alloc]; omega))))
  clear ho
  have hb := (Below.refl w5.heap.size w5).alloc (Nat.le_refl _) (.cells #[.int .i64 M, .slice Ag ps.length kg] 27)
  have BW_8 := Lib.hid (below_after BW_7.out hb)
  clear BW_7
  have X1_8 := Lib.hid (X1_7.out.below hb (by first | omega | (rw [World.size_alloc]; omega)))
  clear X1_7
  have R_8 := Lib.hid (R_7.out.below hb)
  clear R_7
  have Ys_8 := Lib.hid (Ys_7.out.below hb (by first | omega | (rw [World.size_alloc]; omega)))
  clear Ys_7
  have O1_8 := Lib.hid (O1_7.out.below hb)
  clear O1_7
  have Yx1_8 := Lib.hid (Yx1_7.out.below hb (by first | omega | (rw [World.size_alloc]; omega)))
  clear Yx1_7
  have P_8 := Lib.hid (P_7.out.below hb)
  clear P_7
  clear hb
  have Yg_8 := Lib.hid (boxAt_new w5 M (.slice Ag ps.length kg) 27)
  obtain ⟨eYg0, eYg1⟩ := Yg_8.out
  obtain ⟨eYs0, eYs1⟩ := Ys_8.out
  have HC := Lib.hid (same_shiftR M Ag As kg ks ps hps _ P_8.out.row R_8.out.row)
  go_wp2_with fail
  refine HC.out.mono ?_
  rintro e w6 ⟨rfl, hb⟩
  clear HC
  clear eYg0 eYg1 eYs0 eYs1
  have lw6 : w5.heap.size + 1 ≤ w6.heap.size := by have := hb.size; rw [World.size_alloc] at this; exact this
  have BW_9 := Lib.hid (below_after BW_8.out hb)
  clear BW_8
  have X1_9 := Lib.hid (X1_8.out.below hb (by first | omega | (rw [World.size_alloc]; omega)))
  clear X1_8
  have R_9 := Lib.hid (R_8.out.below hb)
  clear R_8
  have Ys_9 := Lib.hid (Ys_8.out.below hb (by first | omega | (rw [World.size_alloc]; omega)))
  clear Ys_8
  have O1_9 := Lib.hid (O1_8.out.below hb)
  clear O1_8
  have Yx1_9 := Lib.hid (Yx1_8.out.below hb (by first | omega | (rw [World.size_alloc]; omega)))
  clear Yx1_8
  have P_9 := Lib.hid (P_8.out.below hb)
  clear P_8
  have Yg_9 := Lib.hid (Yg_8.out.below hb (by first | omega | (rw [World.size_alloc]; omega)))
  clear Yg_8
  clear hb
  obtain ⟨eX10, eX11⟩ := X1_9.out
  obtain ⟨eYx10, eYx11⟩ := Yx1_9.out
  have CT := Lib.hid (fun w' (h : Below w6.heap.size w6 w') => HTO1.out w' (below_after BW_9.out h))
  have CE : Hid (∀ w' g, Below w6.heap.size w6 w' → w'.ownsRow w6.heap.size 9 1 (.slice (some ⟨g, 0, none⟩) xs.length xs.length) xs.length (xs.map Value.string) → Calls Try.prog 14 #[.agg #[.int .i64 L, .slice (some ⟨gx1, 0, none⟩) xs.length xs.length], .agg #[.int .i64 L, .slice (some ⟨g, 0, none⟩) xs.length xs.length]] w' (TrueBelow w')) :=
    Lib.hid (fun w' g hb ho => same_shift L gx1 xs.length g xs.length xs HL1.out.1 w' ((O1_9.out.below hb).strs.1) ((O1_9.out.below hb).strs.2) (StrsAt.of_owns ho rfl) (ho.lt g rfl).2)
  go_wp2_with fail
  go_region_held3 (fun w' => w'.cell? ⟨w.heap.size, 0, none⟩ = some (.int .i64 L) ∧ w'.cell? ⟨w.heap.size, 1, none⟩ = some (V) ∧ w'.cell? ⟨w4.heap.size, 0, none⟩ = some (.int .i64 L) ∧ w'.cell? ⟨w4.heap.size, 1, none⟩ = some ((.slice (some ⟨gx1, 0, none⟩) xs.length xs.length))) (first | exact ⟨y0, y1, y2, y3⟩ | exact ⟨z0, z1, z2, z3⟩ | go_keep) (first | (go_at_call 11; refine (CT.out _ (by first | exact Below.refl _ _ | exact (Below.refl _ _).drew)).mono ?_; rintro e w7 ⟨gy, rfl, hoy, hby⟩; have hqy : Below w6.heap.size w6 w7 := (Below.refl w6.heap.size w6).drew.trans hby; have z0 := (hqy.cell (p := ⟨w.heap.size, 0, none⟩) (by show w.heap.size < w6.heap.size; omega)).trans eX10; have z1 := (hqy.cell (p := ⟨w.heap.size, 1, none⟩) (by show w.heap.size < w6.heap.size; omega)).trans eX11; have z2 := (hqy.cell (p := ⟨w4.heap.size, 0, none⟩) (by show w4.heap.size < w6.heap.size; omega)).trans eYx10; have z3 := (hqy.cell (p := ⟨w4.heap.size, 1, none⟩) (by show w4.heap.size < w6.heap.size; omega)).trans eYx11) | (go_at_call 14; refine (CE.out _ gy hqy hoy).mono ?_; rintro e w8 ⟨rfl, hbz⟩; have hqz : Below w6.heap.size w6 w8 := below_after hqy hbz; have y0 := (hqz.cell (p := ⟨w.heap.size, 0, none⟩) (by show w.heap.size < w6.heap.size; omega)).trans eX10; have y1 := (hqz.cell (p := ⟨w.heap.size, 1, none⟩) (by show w.heap.size < w6.heap.size; omega)).trans eX11; have y2 := (hqz.cell (p := ⟨w4.heap.size, 0, none⟩) (by show w4.heap.size < w6.heap.size; omega)).trans eYx10; have y3 := (hqz.cell (p := ⟨w4.heap.size, 1, none⟩) (by show w4.heap.size < w6.heap.size; omega)).trans eYx11))
  clear CT CE hoy hby hbz hqy z0 z1 z2 z3 y0 y1 y2 y3
  clear eX10 eX11 eYx10 eYx11
  have lw8 : w6.heap.size ≤ w8.heap.size := hqz.size
  have BW_10 := Lib.hid (below_after BW_9.out hqz)
  clear BW_9
  have X1_10 := Lib.hid (X1_9.out.below hqz (by first | omega | (rw [World.size_alloc]; omega)))
  clear X1_9
  have R_10 := Lib.hid (R_9.out.below hqz)
  clear R_9
  have Ys_10 := Lib.hid (Ys_9.out.below hqz (by first | omega | (rw [World.size_alloc]; omega)))
  clear Ys_9
  have O1_10 := Lib.hid (O1_9.out.below hqz)
  clear O1_9
  have Yx1_10 := Lib.hid (Yx1_9.out.below hqz (by first | omega | (rw [World.size_alloc]; omega)))
  clear Yx1_9
  have P_10 := Lib.hid (P_9.out.below hqz)
  clear P_9
  have Yg_10 := Lib.hid (Yg_9.out.below hqz (by first | omega | (rw [World.size_alloc]; omega)))
  clear Yg_9
  clear hqz
  obtain ⟨eYx10, eYx11⟩ := Yx1_10.out
  have HC := Lib.hid (mark_shiftR L _ _ (1) _ _ xs (by decide) (by decide) HL1.out.1 _ O1_10.out)
  go_wp2_with fail
  refine HC.out.mono ?_
  rintro e w9 ⟨rfl, -, hw⟩
  clear HC
  clear eYx10 eYx11
  clear O1_10
  clear Yx1_10
  have lw9 : w8.heap.size ≤ w9.heap.size := hw.size
  have BW_11 := Lib.hid (BW_10.out.trans ((hw.below (by omega)).mono (by omega)))
  clear BW_10
  have X1_11 := Lib.hid (X1_10.out.within hw (by omega) (by omega))
  clear X1_10
  have R_11 := Lib.hid (R_10.out.within hw (by omega))
  clear R_10
  have Ys_11 := Lib.hid (Ys_10.out.within hw (by omega) (by omega))
  clear Ys_10
  have P_11 := Lib.hid (P_10.out.within hw (by omega))
  clear P_10
  have Yg_11 := Lib.hid (Yg_10.out.within hw (by omega) (by omega))
  clear Yg_10
  clear hw
  have q0 : decide (((1 + xs.length : Nat) : Int) < 0) = false := by rw [decide_eq_false_iff_not]; omega
  have q0' : ¬ ((1 + xs.length : Nat) : Int) < 0 := by omega
  obtain ⟨eYg0, eYg1⟩ := Yg_11.out
  obtain ⟨eYs0, eYs1⟩ := Ys_11.out
  have HC := Lib.hid (same_shiftR M Ag As kg ks ps hps _ P_11.out.row R_11.out.row)
  go_wp2_with fail
  refine HC.out.mono ?_
  rintro e w10 ⟨rfl, hb⟩
  clear HC
  clear eYg0 eYg1 eYs0 eYs1
  have lw10 : w9.heap.size ≤ w10.heap.size := hb.size
  have BW_12 := Lib.hid (below_after BW_11.out hb)
  clear BW_11
  have X1_12 := Lib.hid (X1_11.out.below hb (by first | omega | (rw [World.size_alloc]; omega)))
  clear X1_11
  have R_12 := Lib.hid (R_11.out.below hb)
  clear R_11
  have Ys_12 := Lib.hid (Ys_11.out.below hb (by first | omega | (rw [World.size_alloc]; omega)))
  clear Ys_11
  have P_12 := Lib.hid (P_11.out.below hb)
  clear P_11
  have Yg_12 := Lib.hid (Yg_11.out.below hb (by first | omega | (rw [World.size_alloc]; omega)))
  clear Yg_11
  clear hb
  obtain ⟨eYg0, eYg1⟩ := Yg_12.out
  have HC := Lib.hid (mark_shiftR M _ _ 1 _ _ ps (by decide) (by decide) hps _ P_12.out)
  go_wp2_with fail
  refine HC.out.mono ?_
  rintro e w11 ⟨rfl, hm, hw⟩
  clear HC
  clear eYg0 eYg1
  clear P_12
  have lw11 : w10.heap.size ≤ w11.heap.size := hw.size
  have BW_13 := Lib.hid (BW_12.out.trans ((hw.below (by omega)).mono (by omega)))
  clear BW_12
  have X1_13 := Lib.hid (X1_12.out.within hw (by omega) (by omega))
  clear X1_12
  have R_13 := Lib.hid (R_12.out.within hw (by omega))
  clear R_12
  have Ys_13 := Lib.hid (Ys_12.out.within hw (by omega) (by omega))
  clear Ys_12
  have Yg_13 := Lib.hid (Yg_12.out.within hw (by omega) (by omega))
  clear Yg_12
  have M_13 := Lib.hid hm
  clear hm hw
  have q1 : decide (((1 + ps.length : Nat) : Int) < 0) = false := by rw [decide_eq_false_iff_not]; omega
  obtain ⟨eYg0, eYg1⟩ := Yg_13.out
  have HC := Lib.hid (held_shiftR M Ag kg ps.length hps _ M_13.out)
  go_wp2_with fail
  refine HC.out.mono ?_
  rintro e w12 ⟨rfl, hb⟩
  clear HC
  clear eYg0 eYg1
  have lw12 : w11.heap.size ≤ w12.heap.size := hb.size
  have BW_14 := Lib.hid (below_after BW_13.out hb)
  clear BW_13
  have X1_14 := Lib.hid (X1_13.out.below hb (by first | omega | (rw [World.size_alloc]; omega)))
  clear X1_13
  have R_14 := Lib.hid (R_13.out.below hb)
  clear R_13
  have Ys_14 := Lib.hid (Ys_13.out.below hb (by first | omega | (rw [World.size_alloc]; omega)))
  clear Ys_13
  have Yg_14 := Lib.hid (Yg_13.out.below hb (by first | omega | (rw [World.size_alloc]; omega)))
  clear Yg_13
  have M_14 := Lib.hid (M_13.out.below hb)
  clear M_13
  clear hb
  obtain ⟨eX10, eX11⟩ := X1_14.out
  have HC := Lib.hid (HTO1.out _ BW_14.out)
  go_wp2_with fail
  refine HC.out.mono ?_
  rintro e w13 ⟨gh, rfl, ho, hb⟩
  clear HC
  clear eX10 eX11
  have lw13 : w12.heap.size ≤ w13.heap.size := hb.size
  have BW_15 := Lib.hid (below_after BW_14.out hb)
  clear BW_14
  have X1_15 := Lib.hid (X1_14.out.below hb (by first | omega | (rw [World.size_alloc]; omega)))
  clear X1_14
  have R_15 := Lib.hid (R_14.out.below hb)
  clear R_14
  have Ys_15 := Lib.hid (Ys_14.out.below hb (by first | omega | (rw [World.size_alloc]; omega)))
  clear Ys_14
  have Yg_15 := Lib.hid (Yg_14.out.below hb (by first | omega | (rw [World.size_alloc]; omega)))
  clear Yg_14
  have M_15 := Lib.hid (M_14.out.below hb)
  clear M_14
  clear hb
  have C_15 := Lib.hid (OwnR.new (World.ownsRow.mono ho (show w12.heap.size ≤ w12.heap.size by first | omega | (rw [World.size_alloc]; omega))))
  clear ho
  have HC := Lib.hid (HI.out gh xs.length _ BW_15.out HL1.out.1 HL1.out.2 C_15.out.strs.1 C_15.out.strs.2)
  go_wp2_with fail
  refine HC.out.mono ?_
  rintro e w14 ⟨Ah, kh, rfl, ho, hb⟩
  clear HC
  clear C_15
  have lw14 : w13.heap.size ≤ w14.heap.size := hb.size
  have BW_16 := Lib.hid (below_after BW_15.out hb)
  clear BW_15
  have X1_16 := Lib.hid (X1_15.out.below hb (by first | omega | (rw [World.size_alloc]; omega)))
  clear X1_15
  have R_16 := Lib.hid (R_15.out.below hb)
  clear R_15
  have Ys_16 := Lib.hid (Ys_15.out.below hb (by first | omega | (rw [World.size_alloc]; omega)))
  clear Ys_15
  have Yg_16 := Lib.hid (Yg_15.out.below hb (by first | omega | (rw [World.size_alloc]; omega)))
  clear Yg_15
  have M_16 := Lib.hid (M_15.out.below hb)
  clear M_15
  clear hb
  have Ph_16 := Lib.hid (OwnR.new (World.ownsRow.mono ho (show w13.heap.size ≤ w13.heap.size by first | omega | (rw [World.size_alloc]; omega))))
  clear ho
  have hb := (Below.refl w14.heap.size w14).alloc (Nat.le_refl _) (.cells #[.int .i64 M, .slice Ah ps.length kh] 27)
  have BW_17 := Lib.hid (below_after BW_16.out hb)
  clear BW_16
  have X1_17 := Lib.hid (X1_16.out.below hb (by first | omega | (rw [World.size_alloc]; omega)))
  clear X1_16
  have R_17 := Lib.hid (R_16.out.below hb)
  clear R_16
  have Ys_17 := Lib.hid (Ys_16.out.below hb (by first | omega | (rw [World.size_alloc]; omega)))
  clear Ys_16
  have Yg_17 := Lib.hid (Yg_16.out.below hb (by first | omega | (rw [World.size_alloc]; omega)))
  clear Yg_16
  have M_17 := Lib.hid (M_16.out.below hb)
  clear M_16
  have Ph_17 := Lib.hid (Ph_16.out.below hb)
  clear Ph_16
  clear hb
  have Yh_17 := Lib.hid (boxAt_new w14 M (.slice Ah ps.length kh) 27)
  obtain ⟨eYh0, eYh1⟩ := Yh_17.out
  obtain ⟨eYs0, eYs1⟩ := Ys_17.out
  have HC := Lib.hid (same_shiftR M Ah As kh ks ps hps _ Ph_17.out.row R_17.out.row)
  go_wp2_with fail
  refine HC.out.mono ?_
  rintro e w15 ⟨rfl, hb⟩
  clear HC
  clear eYh0 eYh1 eYs0 eYs1
  have lw15 : w14.heap.size + 1 ≤ w15.heap.size := by have := hb.size; rw [World.size_alloc] at this; exact this
  have BW_18 := Lib.hid (below_after BW_17.out hb)
  clear BW_17
  have X1_18 := Lib.hid (X1_17.out.below hb (by first | omega | (rw [World.size_alloc]; omega)))
  clear X1_17
  have R_18 := Lib.hid (R_17.out.below hb)
  clear R_17
  have Ys_18 := Lib.hid (Ys_17.out.below hb (by first | omega | (rw [World.size_alloc]; omega)))
  clear Ys_17
  have Yg_18 := Lib.hid (Yg_17.out.below hb (by first | omega | (rw [World.size_alloc]; omega)))
  clear Yg_17
  have M_18 := Lib.hid (M_17.out.below hb)
  clear M_17
  have Ph_18 := Lib.hid (Ph_17.out.below hb)
  clear Ph_17
  have Yh_18 := Lib.hid (Yh_17.out.below hb (by first | omega | (rw [World.size_alloc]; omega)))
  clear Yh_17
  clear hb
  obtain ⟨eYg0, eYg1⟩ := Yg_18.out
  have HC := Lib.hid (held_shiftR M Ag kg ps.length hps _ M_18.out)
  go_wp2_with fail
  refine HC.out.mono ?_
  rintro e w16 ⟨rfl, hb⟩
  clear HC
  clear eYg0 eYg1
  have lw16 : w15.heap.size ≤ w16.heap.size := hb.size
  have BW_19 := Lib.hid (below_after BW_18.out hb)
  clear BW_18
  have X1_19 := Lib.hid (X1_18.out.below hb (by first | omega | (rw [World.size_alloc]; omega)))
  clear X1_18
  have R_19 := Lib.hid (R_18.out.below hb)
  clear R_18
  have Ys_19 := Lib.hid (Ys_18.out.below hb (by first | omega | (rw [World.size_alloc]; omega)))
  clear Ys_18
  have Yg_19 := Lib.hid (Yg_18.out.below hb (by first | omega | (rw [World.size_alloc]; omega)))
  clear Yg_18
  have M_19 := Lib.hid (M_18.out.below hb)
  clear M_18
  have Ph_19 := Lib.hid (Ph_18.out.below hb)
  clear Ph_18
  have Yh_19 := Lib.hid (Yh_18.out.below hb (by first | omega | (rw [World.size_alloc]; omega)))
  clear Yh_18
  clear hb
  go_wp2
  go_ret
  exact ⟨rfl, BW_19.out⟩
end Go.Proofs.Ytalclebehbdliaa
