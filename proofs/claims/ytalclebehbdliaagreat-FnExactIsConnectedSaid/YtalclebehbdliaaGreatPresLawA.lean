/-
  The laws on IsConnected and CountWords: where the model's and the program's function answer alike at every copy of the shift, the law returns true; nothing that was there before is changed.
-/
import Derived.Test.YtalclebehbdliaaGreatLangTexts
namespace Go.Proofs.YtalclebehbdliaaGreat
open Go Go.RowKit

/-- What a function of a shift and an int answers at its copies: an int. -/
def AtCopiesN (W : World) (f : Nat) (L : Int) (xs : List ByteArray) (n : Int) (r : Int) : Prop :=
  ∀ g c w', Below W.heap.size W w' → xs.length ≤ 1048576 → total xs ≤ 1048576 → StrsAt w' g 0 xs → g < w'.heap.size → Calls Tryz.prog f #[.agg #[.int .i64 L, .slice (some ⟨g, 0, none⟩) xs.length c], .int .i64 n] w' fun e w2 => e = .returned (.int .i64 r) ∧ Below w'.heap.size w' w2

set_option maxRecDepth 100000 in
set_option maxHeartbeats 3200000 in
theorem law_isConnected (L : Int) (V : Value) (xs : List ByteArray) (b : Bool) (w : World) (ha : SliceArg w V xs) (hS : AtCopies w 21 L xs b) (hI : AtCopies w 20 L xs b) :
    Calls Tryz.prog 4 #[.agg #[.int .i64 L, V]] w fun e w' => e = .returned (.bool true) ∧ Below w.heap.size w w' := by
  have b0 := (Below.refl w.heap.size w).alloc (Nat.le_refl _) (.cells #[.int .i64 L, V] 47)
  have HA := Lib.hid ha
  have HS := Lib.hid hS
  have HI := Lib.hid hI
  have X0 := Lib.hid (boxAt_new w L V 47)
  have HZ := Lib.hid (sz_shift L V xs _ (ha.later b0))
  have B0 := Lib.hid b0
  clear ha hS hI b0
  go_enter Tryz.func4, Tryz.ntmps4
  go_wp2_with fail
  refine HZ.out.mono ?_
  rintro e w1 ⟨r, rfl, hr, b1⟩
  have B1 := Lib.hid (below_after B0.out b1)
  have hx1 := X0.out.below b1 (by simp)
  have l1 : w.heap.size + 1 ≤ w1.heap.size := by have := b1.size; simpa using this
  clear b1 X0
  rcases hr with rfl | ⟨hr0, hr1⟩
  · go_wp2
    go_ret
    exact ⟨rfl, B1.out⟩
  have hl : xs.length ≤ 1048576 := by omega
  have ht : total xs ≤ 1048576 := by omega
  have X1 := Lib.hid hx1
  have C1 := Lib.hid (to_shift L V xs hl w1 (HA.out.later B1.out))
  obtain ⟨c10, c11⟩ := hx1
  go_wp2_with fail
  refine C1.out.mono ?_
  rintro e w2 ⟨g2, rfl, ho2, b2⟩
  have B2 := Lib.hid (below_after B1.out b2)
  have S2 := Lib.hid (HS.out g2 xs.length w2 B2.out hl ht (StrsAt.of_owns ho2 rfl) (ho2.lt g2 rfl).2)
  have l2 : w.heap.size + 1 ≤ w2.heap.size := by have := b2.size; omega
  have X2 := Lib.hid (X1.out.below b2 (by omega))
  clear ho2 b2 c10 c11
  go_wp2_with fail
  refine S2.out.mono ?_
  rintro e w3 ⟨rfl, b3⟩
  have B3 := Lib.hid (below_after B2.out b3)
  have l3 : w.heap.size + 1 ≤ w3.heap.size := by have := b3.size; omega
  have hx3 := X2.out.below b3 (by omega)
  have X3 := Lib.hid hx3
  have C3 := Lib.hid (to_shift L V xs hl w3 (HA.out.later B3.out))
  obtain ⟨c30, c31⟩ := hx3
  clear b3
  go_wp2_with fail
  refine C3.out.mono ?_
  rintro e w4 ⟨g4, rfl, ho4, b4⟩
  have B4 := Lib.hid (below_after B3.out b4)
  have l4 : w.heap.size + 1 ≤ w4.heap.size := by have := b4.size; omega
  have hg4 := (ho4.lt g4 rfl).2
  have hst4 := StrsAt.of_owns ho4 rfl
  have X4 := Lib.hid (X3.out.below b4 (by omega))
  have b4a := (Below.refl w4.heap.size w4).alloc (Nat.le_refl _) (.cells #[.int .i64 L, .slice (some ⟨g4, 0, none⟩) xs.length xs.length] 26)
  have Y4 := Lib.hid (boxAt_new w4 L (.slice (some ⟨g4, 0, none⟩) xs.length xs.length) 26)
  have I4 := Lib.hid (HI.out g4 xs.length _ (below_after B4.out b4a) hl ht (hst4.below b4a hg4) (Nat.lt_of_lt_of_le hg4 b4a.size))
  have S4 := Lib.hid (hst4.below b4a hg4)
  have B4a := Lib.hid b4a
  clear c30 c31 ho4 b4 hst4 b4a
  go_wp2_with fail
  refine I4.out.mono ?_
  rintro e w5 ⟨rfl, b5⟩
  have B45 := Lib.hid (below_after B4a.out b5)
  have B5 := Lib.hid (below_after B4.out B45.out)
  have hx5 := X4.out.below B45.out (by omega)
  have hy5 := Y4.out.below b5 (by simp)
  have l5 : w4.heap.size + 1 ≤ w5.heap.size := by have := b5.size; simpa using this
  have S5 := Lib.hid (S4.out.below b5 (by simp; omega))
  have CT : Hid (∀ w', Below w5.heap.size w5 w' → Calls Tryz.prog 30 #[.agg #[.int .i64 L, V]] w' (ToShiftPost L xs w')) := Lib.hid (fun w' hb => to_shift L V xs hl w' (HA.out.later (below_after B5.out hb)))
  have CE : Hid (∀ w' g, Below w5.heap.size w5 w' → w'.ownsRow w5.heap.size 9 1 (.slice (some ⟨g, 0, none⟩) xs.length xs.length) xs.length (xs.map Value.string) → Calls Tryz.prog 31 #[.agg #[.int .i64 L, .slice (some ⟨g4, 0, none⟩) xs.length xs.length], .agg #[.int .i64 L, .slice (some ⟨g, 0, none⟩) xs.length xs.length]] w' (TrueBelow w')) :=
    Lib.hid (fun w' g hb ho => same_shift L g4 xs.length g xs.length xs hl w' (S5.out.below hb (by omega)) (by have := hb.size; omega) (StrsAt.of_owns ho rfl) (ho.lt g rfl).2)
  obtain ⟨c50, c51⟩ := hx5
  obtain ⟨d50, d51⟩ := hy5
  clear b5
  go_wp2_with fail
  go_region_held3 (fun w' => w'.cell? ⟨w.heap.size, 0, none⟩ = some (.int .i64 L) ∧ w'.cell? ⟨w.heap.size, 1, none⟩ = some V ∧ w'.cell? ⟨w4.heap.size, 0, none⟩ = some (.int .i64 L) ∧ w'.cell? ⟨w4.heap.size, 1, none⟩ = some (.slice (some ⟨g4, 0, none⟩) xs.length xs.length)) (first | exact ⟨y0, y1, y2, y3⟩ | exact ⟨z0, z1, z2, z3⟩ | go_keep) (first | (go_at_call 30; refine (CT.out _ (by first | exact Below.refl _ _ | exact (Below.refl _ _).drew)).mono ?_; rintro e w6 ⟨g6, rfl, ho6, hb6⟩; have hq6 : Below w5.heap.size w5 w6 := (Below.refl w5.heap.size w5).drew.trans hb6; have hs6 : w5.heap.size ≤ w6.heap.size := hq6.size; have z0 := (hb6.cell (p := ⟨w.heap.size, 0, none⟩) (by show w.heap.size < w5.heap.size; omega)).trans c50; have z1 := (hb6.cell (p := ⟨w.heap.size, 1, none⟩) (by show w.heap.size < w5.heap.size; omega)).trans c51; have z2 := (hb6.cell (p := ⟨w4.heap.size, 0, none⟩) (by show w4.heap.size < w5.heap.size; omega)).trans d50; have z3 := (hb6.cell (p := ⟨w4.heap.size, 1, none⟩) (by show w4.heap.size < w5.heap.size; omega)).trans d51) | (go_at_call 31; refine (CE.out _ g6 hq6 ho6).mono ?_; rintro e w7 ⟨rfl, hb7⟩; have y0 := (hb7.cell (p := ⟨w.heap.size, 0, none⟩) (by show w.heap.size < w6.heap.size; omega)).trans z0; have y1 := (hb7.cell (p := ⟨w.heap.size, 1, none⟩) (by show w.heap.size < w6.heap.size; omega)).trans z1; have y2 := (hb7.cell (p := ⟨w4.heap.size, 0, none⟩) (by show w4.heap.size < w6.heap.size; omega)).trans z2; have y3 := (hb7.cell (p := ⟨w4.heap.size, 1, none⟩) (by show w4.heap.size < w6.heap.size; omega)).trans z3))
  go_wp2
  go_ret
  exact ⟨rfl, below_after (below_after B5.out hq6) hb7⟩

end Go.Proofs.YtalclebehbdliaaGreat
