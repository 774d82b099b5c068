/-
  The laws of chapter 12: where the model and the program answer alike in every world the law returns true; nothing that was there before is changed.
-/
import Derived.Test.YtcoiodfggaanbaaCodeLaws
namespace Go.Proofs.Ytcoiodfggaanbaa
open Go Go.RowKit

set_option maxRecDepth 100000 in
set_option maxHeartbeats 1600000 in
theorem law_isOnto (K N : Int) (o : ByteArray) (b : Bool) (ho : o.size ≤ 9223372036854775807) (w : World) (hX : o.size ≤ 1048576 → Alike w 24 13 #[.agg #[.int .i64 K, .int .i64 N, .string o]] (.bool b)) :
    Calls Try.prog 4 #[.agg #[.int .i64 K, .int .i64 N, .string o]] w (Says (.bool true) w) := by
  have HX1 := Lib.hid hX
  clear hX
  obtain ⟨W0, hW0⟩ : ∃ W0, (w.alloc (.cells #[.int .i64 K, .int .i64 N, .string o] 39)) = W0 := ⟨_, rfl⟩
  have HB0 : Hid (Below w.heap.size w W0) := Lib.hid (by rw [← hW0]; exact (Below.refl _ _).alloc (Nat.le_refl _) _)
  have HC0 : Hid (Below W0.heap.size W0 W0) := Lib.hid (Below.refl _ _)
  have HT := Lib.hid (to_code K N o)
  have HL : Hid (LawIn W0 w.heap.size K N o) := Lib.hid (by rw [← hW0]; exact lawIn_new w K N o)
  have HW := Lib.hid hW0
  have HZ := Lib.hid (sz_code K N o 1048576 (by decide) (by decide) ho W0)
  clear hW0
  have c0 := HL.out.c0
  have c1 := HL.out.c1
  have c2 := HL.out.c2
  go_enter Try.func4, Try.ntmps4
  go_wp2_with fail
  rw [HW.out]
  refine HZ.out.mono ?_
  rintro e w1 ⟨r, rfl, hr1, hb1⟩
  clear c0 c1 c2
  have HC1 := Lib.hid (HC0.out.trans (hb1.mono HC0.out.size))
  have HB1 := Lib.hid (HB0.out.trans (hb1.mono HB0.out.size))
  clear hb1
  have c0 := (HL.out.below HC1.out).c0
  have c1 := (HL.out.below HC1.out).c1
  have c2 := (HL.out.below HC1.out).c2
  rcases hr1 with rfl | ⟨hr1a, hr1b⟩
  · go_wp2
    go_ret
    exact ⟨rfl, HB1.out⟩
  have g1 : ¬ r < 0 := by omega
  have hr1c : r ≤ 1048576 := by omega
  have HO1 : Hid (o.size ≤ 1048576) := Lib.hid (by omega)
  clear hr1b
  have HX := Lib.hid (HX1.out HO1.out)
  go_wp2_with fail
  refine (HT.out _).mono ?_
  rintro e w2 ⟨rfl, hb2⟩
  clear c0 c1 c2
  have HC2 := Lib.hid (HC1.out.trans (hb2.mono HC1.out.size))
  have HB2 := Lib.hid (HB1.out.trans (hb2.mono HB1.out.size))
  clear hb2
  have c0 := (HL.out.below HC2.out).c0
  have c1 := (HL.out.below HC2.out).c1
  have c2 := (HL.out.below HC2.out).c2
  have H3 := Lib.hid (HX.out _ HB2.out).1
  go_wp2_with fail
  refine H3.out.mono ?_
  rintro e w3 ⟨rfl, hb3⟩
  clear c0 c1 c2
  have HC3 := Lib.hid (HC2.out.trans (hb3.mono HC2.out.size))
  have HB3 := Lib.hid (HB2.out.trans (hb3.mono HB2.out.size))
  clear hb3
  have c0 := (HL.out.below HC3.out).c0
  have c1 := (HL.out.below HC3.out).c1
  have c2 := (HL.out.below HC3.out).c2
  go_wp2_with fail
  refine (HT.out _).mono ?_
  rintro e w4 ⟨rfl, hb4⟩
  clear c0 c1 c2
  have HC4 := Lib.hid (HC3.out.trans (hb4.mono HC3.out.size))
  have HB4 := Lib.hid (HB3.out.trans (hb4.mono HB3.out.size))
  clear hb4
  have c0 := (HL.out.below HC4.out).c0
  have c1 := (HL.out.below HC4.out).c1
  have c2 := (HL.out.below HC4.out).c2
  have H5 := Lib.hid (HX.out _ HB4.out).2
  go_wp2_with fail
  refine H5.out.mono ?_
  rintro e w5 ⟨rfl, hb5⟩
  clear c0 c1 c2
  have HC5 := Lib.hid (HC4.out.trans (hb5.mono HC4.out.size))
  have HB5 := Lib.hid (HB4.out.trans (hb5.mono HB4.out.size))
  clear hb5
  have c0 := (HL.out.below HC5.out).c0
  have c1 := (HL.out.below HC5.out).c1
  have c2 := (HL.out.below HC5.out).c2
  go_wp2
  go_ret
  exact ⟨rfl, HB5.out⟩

set_option maxRecDepth 100000 in
set_option maxHeartbeats 1600000 in
theorem law_firstOrphan (K N : Int) (o s : ByteArray) (b : Bool) (ho : o.size ≤ 9223372036854775807) (w : World) (hX : o.size ≤ 1048576 → Alike w 15 14 #[.agg #[.int .i64 K, .int .i64 N, .string o]] (.tuple #[.string s, .bool b])) :
    Calls Try.prog 5 #[.agg #[.int .i64 K, .int .i64 N, .string o]] w (Says (.bool true) w) := by
  have HX1 := Lib.hid hX
  clear hX
  obtain ⟨W0, hW0⟩ : ∃ W0, (w.alloc (.cells #[.int .i64 K, .int .i64 N, .string o] 39)) = W0 := ⟨_, rfl⟩
  have HB0 : Hid (Below w.heap.size w W0) := Lib.hid (by rw [← hW0]; exact (Below.refl _ _).alloc (Nat.le_refl _) _)
  have HC0 : Hid (Below W0.heap.size W0 W0) := Lib.hid (Below.refl _ _)
  have HT := Lib.hid (to_code K N o)
  have HL : Hid (LawIn W0 w.heap.size K N o) := Lib.hid (by rw [← hW0]; exact lawIn_new w K N o)
  have HW := Lib.hid hW0
  have HZ := Lib.hid (sz_code K N o 1048576 (by decide) (by decide) ho W0)
  clear hW0
  have c0 := HL.out.c0
  have c1 := HL.out.c1
  have c2 := HL.out.c2
  go_enter Try.func5, Try.ntmps5
  go_wp2_with fail
  rw [HW.out]
  refine HZ.out.mono ?_
  rintro e w1 ⟨r, rfl, hr1, hb1⟩
  clear c0 c1 c2
  have HC1 := Lib.hid (HC0.out.trans (hb1.mono HC0.out.size))
  have HB1 := Lib.hid (HB0.out.trans (hb1.mono HB0.out.size))
  clear hb1
  have c0 := (HL.out.below HC1.out).c0
  have c1 := (HL.out.below HC1.out).c1
  have c2 := (HL.out.below HC1.out).c2
  rcases hr1 with rfl | ⟨hr1a, hr1b⟩
  · go_wp2
    go_ret
    exact ⟨rfl, HB1.out⟩
  have g1 : ¬ r < 0 := by omega
  have hr1c : r ≤ 1048576 := by omega
  have HO1 : Hid (o.size ≤ 1048576) := Lib.hid (by omega)
  clear hr1b
  have HX := Lib.hid (HX1.out HO1.out)
  go_wp2_with fail
  refine (HT.out _).mono ?_
  rintro e w2 ⟨rfl, hb2⟩
  clear c0 c1 c2
  have HC2 := Lib.hid (HC1.out.trans (hb2.mono HC1.out.size))
  have HB2 := Lib.hid (HB1.out.trans (hb2.mono HB1.out.size))
  clear hb2
  have c0 := (HL.out.below HC2.out).c0
  have c1 := (HL.out.below HC2.out).c1
  have c2 := (HL.out.below HC2.out).c2
  have H3 := Lib.hid (HX.out _ HB2.out).1
  go_wp2_with fail
  refine H3.out.mono ?_
  rintro e w3 ⟨rfl, hb3⟩
  clear c0 c1 c2
  have HC3 := Lib.hid (HC2.out.trans (hb3.mono HC2.out.size))
  have HB3 := Lib.hid (HB2.out.trans (hb3.mono HB2.out.size))
  clear hb3
  have c0 := (HL.out.below HC3.out).c0
  have c1 := (HL.out.below HC3.out).c1
  have c2 := (HL.out.below HC3.out).c2
  go_wp2_with fail
  refine (HT.out _).mono ?_
  rintro e w4 ⟨rfl, hb4⟩
  clear c0 c1 c2
  have HC4 := Lib.hid (HC3.out.trans (hb4.mono HC3.out.size))
  have HB4 := Lib.hid (HB3.out.trans (hb4.mono HB3.out.size))
  clear hb4
  have c0 := (HL.out.below HC4.out).c0
  have c1 := (HL.out.below HC4.out).c1
  have c2 := (HL.out.below HC4.out).c2
  have H5 := Lib.hid (HX.out _ HB4.out).2
  go_wp2_with fail
  refine H5.out.mono ?_
  rintro e w5 ⟨rfl, hb5⟩
  clear c0 c1 c2
  have HC5 := Lib.hid (HC4.out.trans (hb5.mono HC4.out.size))
  have HB5 := Lib.hid (HB4.out.trans (hb5.mono HB4.out.size))
  clear hb5
  have c0 := (HL.out.below HC5.out).c0
  have c1 := (HL.out.below HC5.out).c1
  have c2 := (HL.out.below HC5.out).c2
  go_wp2
  go_ret
  exact ⟨rfl, HB5.out⟩

end Go.Proofs.Ytcoiodfggaanbaa
