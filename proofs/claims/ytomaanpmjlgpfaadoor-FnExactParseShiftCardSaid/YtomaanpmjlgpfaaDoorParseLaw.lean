/-
  The law on ParseShift: where the model's and the program's function give the same shift at every text that is not too long, their words in new memory, the law returns true; nothing that was there before is changed.
-/
import Derived.Test.YtomaanpmjlgpfaaDoorParseSays
namespace Go.Proofs.YtomaanpmjlgpfaaDoor
open Go Go.RowKit

theorem law_parse_long (s : ByteArray) (h : ¬ s.size ≤ 1048576) (hm : s.size ≤ 9223372036854775807) (w : World) :
    Calls Tryd.prog 4 #[.string s] w fun e w' => e = .returned (.bool true) ∧ Below w.heap.size w w' := by
  go_enter Tryd.func4, Tryd.ntmps4
  go_wp2
  go_ret
  exact ⟨rfl, Below.refl _ _⟩

set_option maxRecDepth 100000 in
set_option maxHeartbeats 3200000 in
theorem law_parse_short (s : ByteArray) (hs : s.size ≤ 1048576) (L : Int) (xs : List ByteArray) (b : Bool) (hl : xs.length ≤ 1048576) (w : World)
    (hS : Calls Tryd.prog 10 #[.string s] w (ParsedRow L xs b w)) (hI : ∀ w', Below w.heap.size w w' → Calls Tryd.prog 11 #[.string s] w' (ParsedTail L xs b w')) :
    Calls Tryd.prog 4 #[.string s] w fun e w' => e = .returned (.bool true) ∧ Below w.heap.size w w' := by
  have HS := Lib.hid hS
  have HI := Lib.hid hI
  clear hS hI
  go_enter Tryd.func4, Tryd.ntmps4
  go_wp2_with fail
  refine HS.out.mono ?_
  rintro e w1 ⟨A1, c1, rfl, hr1, b1⟩
  obtain ⟨W1, hW1⟩ : ∃ W, w1.alloc (.cells #[.int .i64 L, .slice A1 xs.length c1] 27) = W := ⟨_, rfl⟩
  have a1 := (Below.refl w1.heap.size w1).alloc (Nat.le_refl _) (.cells #[.int .i64 L, .slice A1 xs.length c1] 27)
  have X1 := boxAt_new w1 L (.slice A1 xs.length c1) 27
  have z1 : W1.heap.size = w1.heap.size + 1 := by rw [← hW1, World.size_alloc]
  rw [hW1] at a1 X1
  have B1 := Lib.hid (below_after b1 a1)
  have R1 := Lib.hid (hr1.rowO.below a1)
  have I1 := Lib.hid (HI.out _ B1.out)
  have l1 := b1.size
  have X1' := Lib.hid X1
  have HW := Lib.hid hW1
  clear hr1 b1 a1 X1 hW1
  go_wp2_with fail
  rw [HW.out]
  refine I1.out.mono ?_
  rintro e w2 ⟨A2, c2, rfl, hr2, k2⟩
  have l2 := k2.size
  have a2 := (Below.refl w2.heap.size w2).alloc (Nat.le_refl _) (.cells #[.int .i64 L, .slice A2 xs.length c2] 27)
  have K2 := Lib.hid (below_after k2 a2)
  have x1 := X1'.out.below K2.out (by omega)
  have x2 := boxAt_new w2 L (.slice A2 xs.length c2) 27
  have X2 := Lib.hid x2
  have O2 := Lib.hid (hr2.ownO.below a2)
  have E2 := Lib.hid (same_shiftO L A2 A1 c2 c1 xs hl _ O2.out.row (R1.out.below K2.out))
  obtain ⟨d0, d1⟩ := x1
  obtain ⟨d2, d3⟩ := x2
  clear hr2 a2 k2 I1 HW
  go_wp2_with fail
  refine E2.out.mono ?_
  rintro e w3 ⟨rfl, b3⟩
  -- the first result is marked
  have K3 := Lib.hid (below_after K2.out b3)
  have O3 := Lib.hid (O2.out.below b3)
  have l3 : w2.heap.size + 1 ≤ w3.heap.size := by have := b3.size; rw [World.size_alloc] at this; exact this
  have x3 := X2.out.below b3 (by simp)
  have X3 := Lib.hid x3
  have M3 := Lib.hid (mark_shiftO L W1.heap.size w2.heap.size A2 c2 xs hl w3 O3.out)
  obtain ⟨f2, f3⟩ := x3
  clear d0 d1 d2 d3 b3 E2 O2 K2 X2
  go_wp2_with fail
  refine M3.out.mono ?_
  rintro e w4 ⟨rfl, hr4, ho4⟩
  have b34 := ho4.below (show W1.heap.size ≤ w3.heap.size by omega)
  have K4 := Lib.hid (K3.out.trans b34)
  have l4 : w3.heap.size ≤ w4.heap.size := (by obtain ⟨r, hg, _⟩ := ho4; exact hg.size)
  have x4 : BoxAt w4 w2.heap.size L (.slice A2 xs.length c2) := ⟨(ho4.cell (p := ⟨w2.heap.size, 0, none⟩) (Nat.le_refl _) (by show w2.heap.size < _; omega)).trans X3.out.1, (ho4.cell (p := ⟨w2.heap.size, 1, none⟩) (Nat.le_refl _) (by show w2.heap.size < _; omega)).trans X3.out.2⟩
  have X4 := Lib.hid x4
  have R4 := Lib.hid hr4
  have H4 := Lib.hid (held_shiftO L A2 c2 xs.length hl w4 R4.out)
  obtain ⟨g2, g3⟩ := x4
  clear f2 f3 hr4 ho4 b34 M3 O3 K3 X3
  go_wp2_with fail
  refine H4.out.mono ?_
  rintro e w5 ⟨rfl, b5⟩
  -- the text is read again
  have K5 := Lib.hid (below_after K4.out b5)
  have X5 := Lib.hid (X4.out.below b5 (by omega))
  have R5 := Lib.hid (R4.out.below b5)
  have l5 := b5.size
  have I5 := Lib.hid (HI.out w5 (below_after B1.out K5.out))
  have n1 : ¬ (((1 + xs.length : Nat) : Int) < 0) := by omega
  clear g2 g3 b5 H4 R4 X4 K4
  go_wp2_with fail
  refine I5.out.mono ?_
  rintro e w6 ⟨A6, c6, rfl, hr6, k6⟩
  have l6 := k6.size
  have a6 := (Below.refl w6.heap.size w6).alloc (Nat.le_refl _) (.cells #[.int .i64 L, .slice A6 xs.length c6] 27)
  have J6 := Lib.hid (below_after k6 a6)
  have K6 := Lib.hid (below_after K5.out J6.out)
  have x1 := X1'.out.below K6.out (by omega)
  have x6 := boxAt_new w6 L (.slice A6 xs.length c6) 27
  have X6 := Lib.hid (X5.out.below J6.out (by omega))
  have R6 := Lib.hid (R5.out.below J6.out)
  have E6 := Lib.hid (same_shiftO L A6 A1 c6 c1 xs hl _ (hr6.ownO.below a6).row (R1.out.below K6.out))
  obtain ⟨d0, d1⟩ := x1
  obtain ⟨d2, d3⟩ := x6
  clear hr6 a6 k6 I5 J6 K5 X5 R5
  go_wp2_with fail
  refine E6.out.mono ?_
  rintro e w7 ⟨rfl, b7⟩
  have K7 := Lib.hid (below_after K6.out b7)
  have x7 := X6.out.below b7 (by simp; omega)
  have H7 := Lib.hid (held_shiftO L A2 c2 xs.length hl w7 (R6.out.below b7))
  obtain ⟨g2, g3⟩ := x7
  clear d0 d1 d2 d3 b7 E6 K6 X6 R6
  go_wp2_with fail
  refine H7.out.mono ?_
  rintro e w8 ⟨rfl, b8⟩
  have B8 := Lib.hid (below_after B1.out (below_after K7.out b8))
  clear b8
  go_wp2
  go_ret
  exact ⟨rfl, B8.out⟩
end Go.Proofs.YtomaanpmjlgpfaaDoor
