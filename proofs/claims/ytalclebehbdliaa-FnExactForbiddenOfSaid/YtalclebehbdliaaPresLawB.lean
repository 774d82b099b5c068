/-
  The law on StatesOf: where the model's and the program's function give the same list in new memory at every copy of the shift, the law returns true; nothing that was there before is changed.
-/
import Derived.Test.YtalclebehbdliaaBaseTexts
namespace Go.Proofs.Ytalclebehbdliaa
open Go Go.RowKit

/-- What a function of a shift answers at its copies: a list of strings, new. -/
def AtCopiesM (W : World) (f : Nat) (L : Int) (xs : List ByteArray) (ps : List ByteArray) : Prop :=
  ∀ g c w', Below W.heap.size W w' → xs.length ≤ 1048576 → total xs ≤ 1048576 → StrsAt w' g 0 xs → g < w'.heap.size → Calls Try.prog f #[.agg #[.int .i64 L, .slice (some ⟨g, 0, none⟩) xs.length c]] w' (ListPost ps w')

set_option maxRecDepth 100000 in
set_option maxHeartbeats 6400000 in
theorem law_statesOf (L : Int) (V : Value) (xs : List ByteArray) (ps : List ByteArray) (hps : ps.length ≤ 1000000) (w : World) (ha : SliceArg w V xs) (hS : AtCopiesM w 10 L xs ps) (hI : AtCopiesM w 12 L xs ps) :
    Calls Try.prog 3 #[.agg #[.int .i64 L, V]] w fun e w' => e = .returned (.bool true) ∧ Below w.heap.size w w' := by
  have b0 := (Below.refl w.heap.size w).alloc (Nat.le_refl _) (.cells #[.int .i64 L, V] 24)
  have HA := Lib.hid ha
  have HS := Lib.hid hS
  have HI := Lib.hid hI
  have X0 := Lib.hid (boxAt_new w L V 24)
  have HZ := Lib.hid (sz_shift L V xs _ (ha.later b0))
  have B0 := Lib.hid b0
  clear ha hS hI b0
  go_enter Try.func3, Try.ntmps3
  go_wp2_with fail
  refine HZ.out.mono ?_
  rintro e w1 ⟨r, rfl, hr, b1⟩
  have B1 := Lib.hid (below_after B0.out b1)
  have hx1 := X0.out.below b1 (by simp)
  have l1 : w.heap.size + 1 ≤ w1.heap.size := by have := b1.size; simpa using this
  clear b1 X0
  rcases hr with rfl | ⟨hr0, hr1⟩
  · go_wp2
    go_ret
    exact ⟨rfl, B1.out⟩
  have hl : xs.length ≤ 1048576 := by omega
  have ht : total xs ≤ 1048576 := by omega
  have X1 := Lib.hid hx1
  have C1 := Lib.hid (to_shift L V xs hl w1 (HA.out.later B1.out))
  obtain ⟨c10, c11⟩ := hx1
  go_wp2_with fail
  refine C1.out.mono ?_
  rintro e w2 ⟨g2, rfl, ho2, b2⟩
  have B2 := Lib.hid (below_after B1.out b2)
  have S2 := Lib.hid (HS.out g2 xs.length w2 B2.out hl ht (StrsAt.of_owns ho2 rfl) (ho2.lt g2 rfl).2)
  have l2 : w.heap.size + 1 ≤ w2.heap.size := by have := b2.size; omega
  have X2 := Lib.hid (X1.out.below b2 (by omega))
  clear ho2 b2 c10 c11
  go_wp2_with fail
  refine S2.out.mono fun e w3 h3 => ?_
  obtain ⟨A3, k3, rfl, r3, b3⟩ := h3.rowAt
  have R3 := Lib.hid (show RowIn w3.heap.size w3 A3 ps from r3)
  have B3 := Lib.hid (below_after B2.out b3)
  have l3 : w.heap.size + 1 ≤ w3.heap.size := by have := b3.size; omega
  have hx3 := X2.out.below b3 (by omega)
  have X3 := Lib.hid hx3
  have C3 := Lib.hid (to_shift L V xs hl w3 (HA.out.later B3.out))
  obtain ⟨c30, c31⟩ := hx3
  clear b3 r3 h3
  go_wp2_with fail
  refine C3.out.mono ?_
  rintro e w4 ⟨g4, rfl, ho4, b4⟩
  have B4 := Lib.hid (below_after B3.out b4)
  have l4 : w3.heap.size ≤ w4.heap.size := b4.size
  have hg4 := ho4.lt g4 rfl
  have hst4 := StrsAt.of_owns ho4 rfl
  have X4 := Lib.hid (X3.out.below b4 (by omega))
  have b4a := (Below.refl w4.heap.size w4).alloc (Nat.le_refl _) (.cells #[.int .i64 L, .slice (some ⟨g4, 0, none⟩) xs.length xs.length] 27)
  have R4 := Lib.hid ((R3.out.below b4 (Nat.le_refl _)).below b4a l4)
  have Y4 := Lib.hid (boxAt_new w4 L (.slice (some ⟨g4, 0, none⟩) xs.length xs.length) 27)
  have I4 := Lib.hid (HI.out g4 xs.length _ (below_after B4.out b4a) hl ht (hst4.below b4a hg4.2) (Nat.lt_of_lt_of_le hg4.2 b4a.size))
  have O4 := Lib.hid (owns_below ho4 b4a)
  have B4a := Lib.hid b4a
  clear c30 c31 ho4 b4 hst4 b4a
  go_wp2_with fail
  refine I4.out.mono fun e w5 h5 => ?_
  obtain ⟨A5, k5, rfl, o5, b5⟩ := h5.ownAt
  rw [World.size_alloc] at o5
  have l5 : w4.heap.size + 1 ≤ w5.heap.size := by have := b5.size; simpa using this
  have B45 := Lib.hid (below_after B4a.out b5)
  have B5 := Lib.hid (below_after B4.out B45.out)
  have X5 := Lib.hid (X4.out.below B45.out (by omega))
  have Y5 := Lib.hid (Y4.out.below b5 (by simp))
  have O5 := Lib.hid (owns_below O4.out b5)
  have R5 := Lib.hid (R4.out.below b5 (by simp; omega))
  have P5 := Lib.hid o5
  have E5 := Lib.hid (same_rows A5 A3 k5 k3 ps (by omega) w5 o5.row (R5.out.row (by omega)))
  clear h5 b5 o5
  go_wp2_with fail
  refine E5.out.mono ?_
  rintro e w6 ⟨rfl, b6⟩
  have l6 : w5.heap.size ≤ w6.heap.size := b6.size
  have B6 := Lib.hid (below_after B5.out b6)
  have hx6 := X5.out.below b6 (by omega)
  have hy6 := Y5.out.below b6 (by omega)
  have X6 := Lib.hid hx6
  have Y6 := Lib.hid hy6
  have O6 := Lib.hid (owns_below O5.out b6)
  have R6 := Lib.hid (R5.out.below b6 (by omega))
  have P6 := Lib.hid (P5.out.below b6)
  have CT : Hid (∀ w', Below w6.heap.size w6 w' → Calls Try.prog 11 #[.agg #[.int .i64 L, V]] w' (ToShiftPost L xs w')) := Lib.hid (fun w' hb => to_shift L V xs hl w' (HA.out.later (below_after B6.out hb)))
  have CE : Hid (∀ w' g, Below w6.heap.size w6 w' → w'.ownsRow w6.heap.size 9 1 (.slice (some ⟨g, 0, none⟩) xs.length xs.length) xs.length (xs.map Value.string) → Calls Try.prog 14 #[.agg #[.int .i64 L, .slice (some ⟨g4, 0, none⟩) xs.length xs.length], .agg #[.int .i64 L, .slice (some ⟨g, 0, none⟩) xs.length xs.length]] w' (TrueBelow w')) :=
    Lib.hid (fun w' g hb ho => same_shift L g4 xs.length g xs.length xs hl w' ((StrsAt.of_owns O6.out rfl).below hb (by omega)) (by have := hb.size; omega) (StrsAt.of_owns ho rfl) (ho.lt g rfl).2)
  obtain ⟨c60, c61⟩ := hx6
  obtain ⟨d60, d61⟩ := hy6
  clear b6
  go_wp2_with fail
  go_region_held3 (fun w' => w'.cell? ⟨w.heap.size, 0, none⟩ = some (.int .i64 L) ∧ w'.cell? ⟨w.heap.size, 1, none⟩ = some V ∧ w'.cell? ⟨w4.heap.size, 0, none⟩ = some (.int .i64 L) ∧ w'.cell? ⟨w4.heap.size, 1, none⟩ = some (.slice (some ⟨g4, 0, none⟩) xs.length xs.length)) (first | exact ⟨y0, y1, y2, y3⟩ | exact ⟨z0, z1, z2, z3⟩ | go_keep) (first | (go_at_call 11; refine (CT.out _ (by first | exact Below.refl _ _ | exact (Below.refl _ _).drew)).mono ?_; rintro e w7 ⟨g7, rfl, ho7, hb7⟩; have hq7 : Below w6.heap.size w6 w7 := (Below.refl w6.heap.size w6).drew.trans hb7; have hs7 : w6.heap.size ≤ w7.heap.size := hq7.size; have z0 := (hb7.cell (p := ⟨w.heap.size, 0, none⟩) (by show w.heap.size < w6.heap.size; omega)).trans c60; have z1 := (hb7.cell (p := ⟨w.heap.size, 1, none⟩) (by show w.heap.size < w6.heap.size; omega)).trans c61; have z2 := (hb7.cell (p := ⟨w4.heap.size, 0, none⟩) (by show w4.heap.size < w6.heap.size; omega)).trans d60; have z3 := (hb7.cell (p := ⟨w4.heap.size, 1, none⟩) (by show w4.heap.size < w6.heap.size; omega)).trans d61) | (go_at_call 14; refine (CE.out _ g7 hq7 ho7).mono ?_; rintro e w8 ⟨rfl, hb8⟩; have y0 := (hb8.cell (p := ⟨w.heap.size, 0, none⟩) (by show w.heap.size < w7.heap.size; omega)).trans z0; have y1 := (hb8.cell (p := ⟨w.heap.size, 1, none⟩) (by show w.heap.size < w7.heap.size; omega)).trans z1; have y2 := (hb8.cell (p := ⟨w4.heap.size, 0, none⟩) (by show w4.heap.size < w7.heap.size; omega)).trans z2; have y3 := (hb8.cell (p := ⟨w4.heap.size, 1, none⟩) (by show w4.heap.size < w7.heap.size; omega)).trans z3))
  have b68 : Below w6.heap.size w6 w8 := below_after hq7 hb8
  have l8 : w6.heap.size ≤ w8.heap.size := b68.size
  have B8 := Lib.hid (below_after B6.out b68)
  have O8 := Lib.hid (owns_below O6.out b68)
  have R8 := Lib.hid (R6.out.below b68 (by omega))
  have P8 := Lib.hid (P6.out.below b68)
  have X8 := Lib.hid (X6.out.below b68 (by omega))
  have M8 := Lib.hid (mark_shift L w3.heap.size g4 xs.length xs hl w8 O8.out)
  clear b68 hq7 hb8 z0 z1 z2 z3 c60 c61 d60 d61 hb7 ho7
  go_wp2_with fail
  refine M8.out.mono ?_
  rintro e w9 ⟨rfl, on9⟩
  have b9 := on9.below (show w3.heap.size ≤ w8.heap.size by omega)
  have l9 : w8.heap.size ≤ w9.heap.size := b9.size
  have B9 := Lib.hid (B8.out.trans (b9.mono (by omega)))
  have R9 := Lib.hid (R8.out.below b9 (Nat.le_refl _))
  have P9 := Lib.hid (P8.out.only on9 (by omega))
  have X9 := Lib.hid (X8.out.below b9 (by omega))
  have E9 := Lib.hid (same_rows A5 A3 k5 k3 ps (by omega) w9 P9.out.row (R9.out.row (by omega)))
  have q0 : decide (((1 + xs.length : Nat) : Int) < 0) = false := by rw [decide_eq_false_iff_not]; omega
  clear on9 b9 y0 y1 y2 y3
  go_wp2_with fail
  refine E9.out.mono ?_
  rintro e w10 ⟨rfl, b10⟩
  have l10 : w9.heap.size ≤ w10.heap.size := b10.size
  have B10 := Lib.hid (below_after B9.out b10)
  have R10 := Lib.hid (R9.out.below b10 (by omega))
  have P10 := Lib.hid (P9.out.below b10)
  have X10 := Lib.hid (X9.out.below b10 (by omega))
  have M10 := Lib.hid (mark_rows (w4.heap.size + 1) A5 k5 ps (by omega) w10 P10.out)
  clear b10
  go_wp2_with fail
  refine M10.out.mono ?_
  rintro e w11 ⟨rfl, m11, on11⟩
  have b11 := on11.below (show w4.heap.size + 1 ≤ w10.heap.size by omega)
  have l11 : w10.heap.size ≤ w11.heap.size := b11.size
  have B11 := Lib.hid (B10.out.trans (b11.mono (by omega)))
  have R11 := Lib.hid (R10.out.below b11 (by omega))
  have X11 := Lib.hid (X10.out.below b11 (by omega))
  have K11 := Lib.hid m11
  have H11 := Lib.hid (held_rows A5 k5 ps.length (by omega) w11 m11)
  have q1 : decide (((1 + ps.length : Nat) : Int) < 0) = false := by rw [decide_eq_false_iff_not]; omega
  clear on11 b11 m11
  go_wp2_with fail
  refine H11.out.mono ?_
  rintro e w12 ⟨rfl, b12⟩
  have l12 : w11.heap.size ≤ w12.heap.size := b12.size
  have B12 := Lib.hid (below_after B11.out b12)
  have R12 := Lib.hid (R11.out.below b12 (by omega))
  have hx12 := X11.out.below b12 (by omega)
  have K12 := Lib.hid (K11.out.below b12)
  have C12 := Lib.hid (to_shift L V xs hl w12 (HA.out.later B12.out))
  obtain ⟨c120, c121⟩ := hx12
  clear b12
  go_wp2_with fail
  refine C12.out.mono ?_
  rintro e w13 ⟨g13, rfl, ho13, b13⟩
  have l13 : w12.heap.size ≤ w13.heap.size := b13.size
  have B13 := Lib.hid (below_after B12.out b13)
  have R13 := Lib.hid (R12.out.below b13 (by omega))
  have K13 := Lib.hid (K12.out.below b13)
  have I13 := Lib.hid (HI.out g13 xs.length w13 B13.out hl ht (StrsAt.of_owns ho13 rfl) (ho13.lt g13 rfl).2)
  clear b13 ho13 c120 c121
  go_wp2_with fail
  refine I13.out.mono fun e w14 h14 => ?_
  obtain ⟨A14, k14, rfl, r14, b14⟩ := h14.rowAt
  have l14 : w13.heap.size ≤ w14.heap.size := b14.size
  have B14 := Lib.hid (below_after B13.out b14)
  have R14 := Lib.hid (R13.out.below b14 (by omega))
  have K14 := Lib.hid (K13.out.below b14)
  have E14 := Lib.hid (same_rows A14 A3 k14 k3 ps (by omega) w14 r14 (R14.out.row (by omega)))
  clear b14 r14 h14
  go_wp2_with fail
  refine E14.out.mono ?_
  rintro e w15 ⟨rfl, b15⟩
  have B15 := Lib.hid (below_after B14.out b15)
  have H15 := Lib.hid (held_rows A5 k5 ps.length (by omega) w15 (K14.out.below b15))
  clear b15
  go_wp2_with fail
  refine H15.out.mono ?_
  rintro e w16 ⟨rfl, b16⟩
  have B16 := Lib.hid (below_after B15.out b16)
  clear b16
  go_wp2
  go_ret
  exact ⟨rfl, B16.out⟩
end Go.Proofs.Ytalclebehbdliaa
