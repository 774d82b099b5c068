/-
  The law on AreSameShift: where the model's and the program's function answer alike at every copy of the two shifts, the law returns true; nothing that was there before is changed.
-/
import Derived.Test.YtalclebehbdliaaPresArg
import Derived.Test.YtalclebehbdliaaShiftLaws
import Derived.Deep.RegionHeld3
namespace Go.Proofs.Ytalclebehbdliaa
open Go Go.RowKit

/-- What a function of two shifts answers at their copies. -/
def AtCopies2 (W : World) (f : Nat) (L : Int) (xs : List ByteArray) (L' : Int) (xs' : List ByteArray) (P : World → Ending → World → Prop) : Prop :=
  ∀ g c g' c' w', Below W.heap.size W w' → xs.length ≤ 1048576 → total xs ≤ 1048576 → xs'.length ≤ 1048576 → total xs' ≤ 1048576 → StrsAt w' g 0 xs → g < w'.heap.size → StrsAt w' g' 0 xs' → g' < w'.heap.size → Calls Try.prog f #[.agg #[.int .i64 L, .slice (some ⟨g, 0, none⟩) xs.length c], .agg #[.int .i64 L', .slice (some ⟨g', 0, none⟩) xs'.length c']] w' (P w')

set_option maxRecDepth 100000 in
set_option maxHeartbeats 6400000 in
theorem law_areSameShift (L L' : Int) (V V' : Value) (xs xs' : List ByteArray) (b : Bool) (w : World) (ha : SliceArgQ w V xs) (ha' : SliceArgQ w V' xs') (hS : AtCopies2 w 28 L xs L' xs' (BoolPost b)) (hI : AtCopies2 w 29 L xs L' xs' (BoolPost b)) :
    Calls Try.prog 7 #[.agg #[.int .i64 L, V], .agg #[.int .i64 L', V']] w fun e w' => e = .returned (.bool true) ∧ Below w.heap.size w w' := by
  have HA := Lib.hid ha
  have HA' := Lib.hid ha'
  have HS := Lib.hid hS
  have HI := Lib.hid hI
  clear ha ha' hS hI
  go_enter Try.func7, Try.ntmps7
  go_wp2_with fail
  obtain ⟨Wb, hWb⟩ : ∃ Wb, (w.alloc (.cells #[.int .i64 L, V] 24)).alloc (.cells #[.int .i64 L', V'] 24) = Wb := ⟨_, rfl⟩
  have sb : Wb.heap.size = w.heap.size + 1 + 1 := by rw [← hWb]; simp
  have xb : BoxAt Wb w.heap.size L V := by
    rw [← hWb]
    exact (boxAt_new w L _ 24).below ((Below.refl (w.heap.size + 1) _).alloc (by simp) _) (by omega)
  have xb' : BoxAt Wb (w.heap.size + 1) L' V' := by
    rw [← hWb]
    have h := boxAt_new (w.alloc (.cells #[.int .i64 L, V] 24)) L' V' 24
    rw [World.size_alloc] at h; exact h
  have bb : Below w.heap.size w Wb := by rw [← hWb]; exact ((Below.refl _ _).alloc (Nat.le_refl _) _).alloc (by simp) _
  rw [hWb]
  clear hWb
  have XB := Lib.hid (fun w' (h : Below Wb.heap.size Wb w') => (show BoxAt w' w.heap.size L V ∧ BoxAt w' (w.heap.size + 1) L' V' from ⟨xb.below h (by omega), xb'.below h (by omega)⟩))
  have BB := Lib.hid (fun w' (h : Below Wb.heap.size Wb w') => bb.trans (h.mono (by omega)))
  have CT := Lib.hid (fun (hl : xs.length ≤ 1048576) w' (h : Below Wb.heap.size Wb w') => to_shift L V xs hl w' (HA.out.arg.later (bb.trans (h.mono (by omega)))))
  have CT' := Lib.hid (fun (hl : xs'.length ≤ 1048576) w' (h : Below Wb.heap.size Wb w') => to_shift L' V' xs' hl w' (HA'.out.arg.later (bb.trans (h.mono (by omega)))))
  have C1 := Lib.hid (sz_shiftQ L V xs 1048576 (by decide) (by decide) Wb (HA.out.later bb))
  clear xb xb' bb
  refine C1.out.mono ?_
  rintro e w1 ⟨r, rfl, hr, h1⟩
  have B1 := Lib.hid h1
  clear h1 C1
  obtain ⟨⟨x0, x1⟩, ⟨x2, x3⟩⟩ := XB.out w1 B1.out
  rcases hr with rfl | ⟨hr0, hr1, hr2⟩
  · go_wp2
    go_ret
    exact ⟨rfl, BB.out w1 B1.out⟩
  have C2 := Lib.hid (sz_shiftQ L' V' xs' r hr0 hr1 w1 (HA'.out.later (BB.out w1 B1.out)))
  have hr0' : ¬ r < 0 := by omega
  go_wp2_with fail
  refine C2.out.mono ?_
  rintro e w2 ⟨r2, rfl, hq, h2⟩
  have s1 := B1.out.size
  have B2 := Lib.hid (B1.out.trans (h2.mono B1.out.size))
  clear h2 C2 x0 x1 x2 x3
  obtain ⟨⟨x0, x1⟩, ⟨x2, x3⟩⟩ := XB.out w2 B2.out
  rcases hq with rfl | ⟨hq0, hq1, hq2⟩
  · go_wp2
    go_ret
    exact ⟨rfl, BB.out w2 B2.out⟩
  have hl : xs.length ≤ 1048576 := by omega
  have ht : total xs ≤ 1048576 := by omega
  have hl' : xs'.length ≤ 1048576 := by omega
  have ht' : total xs' ≤ 1048576 := by omega
  have hq0' : ¬ r2 < 0 := by omega
  have HL := Lib.hid (And.intro (And.intro hl ht) (And.intro hl' ht'))
  have s2 := B2.out.size
  clear hr0 hr1 hr2 hq1 hq2 hl ht hl' ht' B1 s1 hr0'
  have CA := Lib.hid (fun w' (h : Below w2.heap.size w2 w') => CT.out HL.out.1.1 w' (B2.out.trans (h.mono (by omega))))
  have CB := Lib.hid (fun w' (h : Below w2.heap.size w2 w') => CT'.out HL.out.2.1 w' (B2.out.trans (h.mono (by omega))))
  have CS := Lib.hid (fun g c g' c' w' (h : Below w2.heap.size w2 w') => HS.out g c g' c' w' (BB.out w' (B2.out.trans (h.mono (by omega)))) HL.out.1.1 HL.out.1.2 HL.out.2.1 HL.out.2.2)
  go_wp2
  go_region_held3 (fun w' => w'.cell? ⟨w.heap.size, 0, none⟩ = some (.int .i64 L) ∧ w'.cell? ⟨w.heap.size, 1, none⟩ = some V ∧ w'.cell? ⟨w.heap.size + 1, 0, none⟩ = some (.int .i64 L') ∧ w'.cell? ⟨w.heap.size + 1, 1, none⟩ = some V') (first | exact ⟨x0, x1, x2, x3⟩ | exact ⟨z0, z1, z2, z3⟩ | exact ⟨y0, y1, y2, y3⟩ | exact ⟨u0, u1, u2, u3⟩ | go_keep) (first | (go_at_call 11; refine (CB.out _ hq3).mono ?_; rintro e w4 ⟨g4, rfl, ho4, hb4⟩; have hq4 : Below w2.heap.size w2 w4 := hq3.trans (hb4.mono hq3.size); have y0 := (hq4.cell (p := ⟨w.heap.size, 0, none⟩) (by show w.heap.size < w2.heap.size; omega)).trans x0; have y1 := (hq4.cell (p := ⟨w.heap.size, 1, none⟩) (by show w.heap.size < w2.heap.size; omega)).trans x1; have y2 := (hq4.cell (p := ⟨w.heap.size + 1, 0, none⟩) (by show w.heap.size + 1 < w2.heap.size; omega)).trans x2; have y3 := (hq4.cell (p := ⟨w.heap.size + 1, 1, none⟩) (by show w.heap.size + 1 < w2.heap.size; omega)).trans x3) | (go_at_call 11; refine (CA.out _ (by first | exact Below.refl _ _ | exact (Below.refl _ _).drew)).mono ?_; rintro e w3 ⟨g3, rfl, ho3, hb3⟩; have hq3 : Below w2.heap.size w2 w3 := (Below.refl w2.heap.size w2).drew.trans hb3; have z0 := (hq3.cell (p := ⟨w.heap.size, 0, none⟩) (by show w.heap.size < w2.heap.size; omega)).trans x0; have z1 := (hq3.cell (p := ⟨w.heap.size, 1, none⟩) (by show w.heap.size < w2.heap.size; omega)).trans x1; have z2 := (hq3.cell (p := ⟨w.heap.size + 1, 0, none⟩) (by show w.heap.size + 1 < w2.heap.size; omega)).trans x2; have z3 := (hq3.cell (p := ⟨w.heap.size + 1, 1, none⟩) (by show w.heap.size + 1 < w2.heap.size; omega)).trans x3) | (go_at_call 28; refine (CS.out g3 _ g4 _ _ hq4 ((StrsAt.of_owns ho3 rfl).below hb4 (ho3.lt g3 rfl).2) (Nat.lt_of_lt_of_le (ho3.lt g3 rfl).2 hb4.size) (StrsAt.of_owns ho4 rfl) (ho4.lt g4 rfl).2).mono ?_; rintro e w5 ⟨rfl, hb5⟩; have hq5 : Below w2.heap.size w2 w5 := hq4.trans (hb5.mono hq4.size); have u0 := (hq5.cell (p := ⟨w.heap.size, 0, none⟩) (by show w.heap.size < w2.heap.size; omega)).trans x0; have u1 := (hq5.cell (p := ⟨w.heap.size, 1, none⟩) (by show w.heap.size < w2.heap.size; omega)).trans x1; have u2 := (hq5.cell (p := ⟨w.heap.size + 1, 0, none⟩) (by show w.heap.size + 1 < w2.heap.size; omega)).trans x2; have u3 := (hq5.cell (p := ⟨w.heap.size + 1, 1, none⟩) (by show w.heap.size + 1 < w2.heap.size; omega)).trans x3))
  have B5 := Lib.hid (B2.out.trans (hq5.mono (by omega)))
  have s5 := B5.out.size
  have C6 := Lib.hid (CT.out HL.out.1.1 w5 B5.out)
  clear hq3 hq4 hq5 hb3 hb4 hb5 ho3 ho4 z0 z1 z2 z3 y0 y1 y2 y3 x0 x1 x2 x3 CA CB CS B2 s2
  go_wp2_with fail
  refine C6.out.mono ?_
  rintro e w6 ⟨g6, rfl, ho6, b6⟩
  have hg6 := ho6.lt g6 rfl
  have s6 : Wb.heap.size ≤ w6.heap.size := by have := b6.size; omega
  have l6 := b6.size
  have B6a := Lib.hid ((B5.out.trans (b6.mono (by omega))).alloc (o := (.cells #[.int .i64 L, .slice (some ⟨g6, 0, none⟩) xs.length xs.length] 27)) (by omega))
  have S6 := Lib.hid ((StrsAt.of_owns ho6 rfl).below ((Below.refl w6.heap.size w6).alloc (Nat.le_refl _) (.cells #[.int .i64 L, .slice (some ⟨g6, 0, none⟩) xs.length xs.length] 27)) hg6.2)
  have Y6 := Lib.hid (boxAt_new w6 L (.slice (some ⟨g6, 0, none⟩) xs.length xs.length) 27)
  have C7 := Lib.hid (CT'.out HL.out.2.1 _ B6a.out)
  obtain ⟨⟨x0, x1⟩, ⟨x2, x3⟩⟩ := XB.out _ B6a.out
  clear ho6 b6 C6 u0 u1 u2 u3
  go_wp2_with fail
  refine C7.out.mono ?_
  rintro e w7 ⟨g7, rfl, ho7, b7⟩
  rw [World.size_alloc] at ho7
  have hg7 := ho7.lt g7 rfl
  have s7 : w6.heap.size + 1 ≤ w7.heap.size := by have := b7.size; rw [World.size_alloc] at this; exact this
  have ba7 := (Below.refl w7.heap.size w7).alloc (Nat.le_refl _) (.cells #[.int .i64 L', .slice (some ⟨g7, 0, none⟩) xs'.length xs'.length] 27)
  have B7a := Lib.hid ((B6a.out.trans (b7.mono (by rw [World.size_alloc]; omega))).trans (ba7.mono (by omega)))
  have S6' := Lib.hid ((S6.out.below b7 (by rw [World.size_alloc]; omega)).below ba7 (by omega))
  have Y6' := Lib.hid ((Y6.out.below b7 (by rw [World.size_alloc]; omega)).below ba7 (by omega))
  have S7 := Lib.hid ((StrsAt.of_owns ho7 rfl).below ba7 hg7.2)
  have Y7 := Lib.hid (boxAt_new w7 L' (.slice (some ⟨g7, 0, none⟩) xs'.length xs'.length) 27)
  have C8 := Lib.hid (HI.out g6 xs.length g7 xs'.length _ (BB.out _ B7a.out) HL.out.1.1 HL.out.1.2 HL.out.2.1 HL.out.2.2 S6'.out (by rw [World.size_alloc]; omega) S7.out (by rw [World.size_alloc]; omega))
  obtain ⟨y0, y1⟩ := Y6'.out
  obtain ⟨y2, y3⟩ := Y7.out
  clear ho7 b7 C7 x0 x1 x2 x3 S6 Y6 ba7 B6a
  go_wp2_with fail
  refine C8.out.mono ?_
  rintro e w8 ⟨rfl, b8⟩
  have s8 : w7.heap.size + 1 ≤ w8.heap.size := by have := b8.size; rw [World.size_alloc] at this; exact this
  have B8 := Lib.hid (B7a.out.trans (b8.mono (by rw [World.size_alloc]; omega)))
  have S6'' := Lib.hid (S6'.out.below b8 (by rw [World.size_alloc]; omega))
  have S7' := Lib.hid (S7.out.below b8 (by rw [World.size_alloc]; omega))
  have Y6'' := Lib.hid (Y6'.out.below b8 (by rw [World.size_alloc]; omega))
  have Y7' := Lib.hid (Y7.out.below b8 (by rw [World.size_alloc]; omega))
  clear b8 C8 y0 y1 y2 y3 S6' Y6' S7 Y7 B7a
  obtain ⟨⟨x0, x1⟩, ⟨x2, x3⟩⟩ := XB.out w8 B8.out
  obtain ⟨v0, v1⟩ := Y6''.out
  have hbb : (b == b) = true := beq_self_eq_true b
  have D1 := Lib.hid (fun w' (h : Below w8.heap.size w8 w') => CT.out HL.out.1.1 w' (B8.out.trans (h.mono (by omega))))
  have E1 : Hid (∀ w' g, Below w8.heap.size w8 w' → w'.ownsRow w8.heap.size 9 1 (.slice (some ⟨g, 0, none⟩) xs.length xs.length) xs.length (xs.map Value.string) → Calls Try.prog 14 #[.agg #[.int .i64 L, .slice (some ⟨g6, 0, none⟩) xs.length xs.length], .agg #[.int .i64 L, .slice (some ⟨g, 0, none⟩) xs.length xs.length]] w' (TrueBelow w')) :=
    Lib.hid (fun w' g hb ho => same_shift L g6 xs.length g xs.length xs HL.out.1.1 w' (S6''.out.below hb (by omega)) (by have := hb.size; omega) (StrsAt.of_owns ho rfl) (ho.lt g rfl).2)
  go_wp2
  go_region_held3 (fun w' => w'.cell? ⟨w.heap.size, 0, none⟩ = some (.int .i64 L) ∧ w'.cell? ⟨w.heap.size, 1, none⟩ = some V ∧ w'.cell? ⟨w6.heap.size, 0, none⟩ = some (.int .i64 L) ∧ w'.cell? ⟨w6.heap.size, 1, none⟩ = some (.slice (some ⟨g6, 0, none⟩) xs.length xs.length)) (first | exact ⟨x0, x1, v0, v1⟩ | exact ⟨z0, z1, z2, z3⟩ | exact ⟨y0, y1, y2, y3⟩ | go_keep) (first | (go_at_call 11; refine (D1.out _ (by first | exact Below.refl _ _ | exact (Below.refl _ _).drew)).mono ?_; rintro e w9 ⟨g9, rfl, ho9, hb9⟩; have hq9 : Below w8.heap.size w8 w9 := (Below.refl w8.heap.size w8).drew.trans hb9; have z0 := (hq9.cell (p := ⟨w.heap.size, 0, none⟩) (by show w.heap.size < w8.heap.size; omega)).trans x0; have z1 := (hq9.cell (p := ⟨w.heap.size, 1, none⟩) (by show w.heap.size < w8.heap.size; omega)).trans x1; have z2 := (hq9.cell (p := ⟨w6.heap.size, 0, none⟩) (by show w6.heap.size < w8.heap.size; omega)).trans v0; have z3 := (hq9.cell (p := ⟨w6.heap.size, 1, none⟩) (by show w6.heap.size < w8.heap.size; omega)).trans v1) | (go_at_call 14; refine (E1.out _ g9 hq9 ho9).mono ?_; rintro e w10 ⟨rfl, hb10⟩; have hq10 : Below w8.heap.size w8 w10 := hq9.trans (hb10.mono hq9.size); have y0 := (hq10.cell (p := ⟨w.heap.size, 0, none⟩) (by show w.heap.size < w8.heap.size; omega)).trans x0; have y1 := (hq10.cell (p := ⟨w.heap.size, 1, none⟩) (by show w.heap.size < w8.heap.size; omega)).trans x1; have y2 := (hq10.cell (p := ⟨w6.heap.size, 0, none⟩) (by show w6.heap.size < w8.heap.size; omega)).trans v0; have y3 := (hq10.cell (p := ⟨w6.heap.size, 1, none⟩) (by show w6.heap.size < w8.heap.size; omega)).trans v1))
  have B10 := Lib.hid (B8.out.trans (hq10.mono (by omega)))
  have s10 : w8.heap.size ≤ w10.heap.size := hq10.size
  have S7'' := Lib.hid (S7'.out.below hq10 (by omega))
  have Y7'' := Lib.hid (Y7'.out.below hq10 (by omega))
  clear ho9 hb9 hq9 hb10 hq10 x0 x1 x2 x3 v0 v1 z0 z1 z2 z3 y0 y1 y2 y3 E1 D1 hbb
  obtain ⟨⟨x0, x1⟩, ⟨x2, x3⟩⟩ := XB.out w10 B10.out
  obtain ⟨v0, v1⟩ := Y7''.out
  have D2 := Lib.hid (fun w' (h : Below w10.heap.size w10 w') => CT'.out HL.out.2.1 w' (B10.out.trans (h.mono (by omega))))
  have E2 : Hid (∀ w' g, Below w10.heap.size w10 w' → w'.ownsRow w10.heap.size 9 1 (.slice (some ⟨g, 0, none⟩) xs'.length xs'.length) xs'.length (xs'.map Value.string) → Calls Try.prog 14 #[.agg #[.int .i64 L', .slice (some ⟨g7, 0, none⟩) xs'.length xs'.length], .agg #[.int .i64 L', .slice (some ⟨g, 0, none⟩) xs'.length xs'.length]] w' (TrueBelow w')) :=
    Lib.hid (fun w' g hb ho => same_shift L' g7 xs'.length g xs'.length xs' HL.out.2.1 w' (S7''.out.below hb (by omega)) (by have := hb.size; omega) (StrsAt.of_owns ho rfl) (ho.lt g rfl).2)
  go_wp2
  go_region_held3 (fun w' => w'.cell? ⟨w.heap.size + 1, 0, none⟩ = some (.int .i64 L') ∧ w'.cell? ⟨w.heap.size + 1, 1, none⟩ = some V' ∧ w'.cell? ⟨w7.heap.size, 0, none⟩ = some (.int .i64 L') ∧ w'.cell? ⟨w7.heap.size, 1, none⟩ = some (.slice (some ⟨g7, 0, none⟩) xs'.length xs'.length)) (first | exact ⟨x2, x3, v0, v1⟩ | exact ⟨z0, z1, z2, z3⟩ | exact ⟨y0, y1, y2, y3⟩ | go_keep) (first | (go_at_call 11; refine (D2.out _ (by first | exact Below.refl _ _ | exact (Below.refl _ _).drew)).mono ?_; rintro e w11 ⟨g11, rfl, ho11, hb11⟩; have hq11 : Below w10.heap.size w10 w11 := (Below.refl w10.heap.size w10).drew.trans hb11; have z0 := (hq11.cell (p := ⟨w.heap.size + 1, 0, none⟩) (by show w.heap.size + 1 < w10.heap.size; omega)).trans x2; have z1 := (hq11.cell (p := ⟨w.heap.size + 1, 1, none⟩) (by show w.heap.size + 1 < w10.heap.size; omega)).trans x3; have z2 := (hq11.cell (p := ⟨w7.heap.size, 0, none⟩) (by show w7.heap.size < w10.heap.size; omega)).trans v0; have z3 := (hq11.cell (p := ⟨w7.heap.size, 1, none⟩) (by show w7.heap.size < w10.heap.size; omega)).trans v1) | (go_at_call 14; refine (E2.out _ g11 hq11 ho11).mono ?_; rintro e w12 ⟨rfl, hb12⟩; have hq12 : Below w10.heap.size w10 w12 := hq11.trans (hb12.mono hq11.size); have y0 := (hq12.cell (p := ⟨w.heap.size + 1, 0, none⟩) (by show w.heap.size + 1 < w10.heap.size; omega)).trans x2; have y1 := (hq12.cell (p := ⟨w.heap.size + 1, 1, none⟩) (by show w.heap.size + 1 < w10.heap.size; omega)).trans x3; have y2 := (hq12.cell (p := ⟨w7.heap.size, 0, none⟩) (by show w7.heap.size < w10.heap.size; omega)).trans v0; have y3 := (hq12.cell (p := ⟨w7.heap.size, 1, none⟩) (by show w7.heap.size < w10.heap.size; omega)).trans v1))
  have B12 := Lib.hid (BB.out _ (B10.out.trans (hq12.mono (by omega))))
  clear ho11 hb11 hq11 hb12 hq12
  go_wp2
  go_ret
  exact ⟨rfl, B12.out⟩
end Go.Proofs.Ytalclebehbdliaa
