/-
  The laws of chapter 13: where the model and the program answer alike in every world the law returns true; nothing that was there before is changed.
-/
import Derived.Test.YtcoiodfggaanbaaCodeLaws
namespace Go.Proofs.Ytcoiodfggaanbaa
open Go Go.RowKit

set_option maxRecDepth 100000 in
set_option maxHeartbeats 1600000 in
theorem law_isOneToOne (K N : Int) (o : ByteArray) (b : Bool) (ho : o.size ≤ 9223372036854775807) (w : World) (hX : o.size ≤ 1048576 → Alike w 33 34 #[.agg #[.int .i64 K, .int .i64 N, .string o]] (.bool b)) :
    Calls Try.prog 6 #[.agg #[.int .i64 K, .int .i64 N, .string o]] w (Says (.bool true) w) := by
  have HX1 := Lib.hid hX
  clear hX
  obtain ⟨W0, hW0⟩ : ∃ W0, (w.alloc (.cells #[.int .i64 K, .int .i64 N, .string o] 39)) = W0 := ⟨_, rfl⟩
  have HB0 : Hid (Below w.heap.size w W0) := Lib.hid (by rw [← hW0]; exact (Below.refl _ _).alloc (Nat.le_refl _) _)
  have HC0 : Hid (Below W0.heap.size W0 W0) := Lib.hid (Below.refl _ _)
  have HT := Lib.hid (to_code K N o)
  have HL : Hid (LawIn W0 w.heap.size K N o) := Lib.hid (by rw [← hW0]; exact lawIn_new w K N o)
  have HW := Lib.hid hW0
  have HZ := Lib.hid (sz_code K N o 1048576 (by decide) (by decide) ho W0)
  clear hW0
  have c0 := HL.out.c0
  have c1 := HL.out.c1
  have c2 := HL.out.c2
  go_enter Try.func6, Try.ntmps6
  go_wp2_with fail
  rw [HW.out]
  refine HZ.out.mono ?_
  rintro e w1 ⟨r, rfl, hr1, hb1⟩
  clear c0 c1 c2
  have HC1 := Lib.hid (HC0.out.trans (hb1.mono HC0.out.size))
  have HB1 := Lib.hid (HB0.out.trans (hb1.mono HB0.out.size))
  clear hb1
  have c0 := (HL.out.below HC1.out).c0
  have c1 := (HL.out.below HC1.out).c1
  have c2 := (HL.out.below HC1.out).c2
  rcases hr1 with rfl | ⟨hr1a, hr1b⟩
  · go_wp2
    go_ret
    exact ⟨rfl, HB1.out⟩
  have g1 : ¬ r < 0 := by omega
  have hr1c : r ≤ 1048576 := by omega
  have HO1 : Hid (o.size ≤ 1048576) := Lib.hid (by omega)
  clear hr1b
  have HX := Lib.hid (HX1.out HO1.out)
  go_wp2_with fail
  refine (HT.out _).mono ?_
  rintro e w2 ⟨rfl, hb2⟩
  clear c0 c1 c2
  have HC2 := Lib.hid (HC1.out.trans (hb2.mono HC1.out.size))
  have HB2 := Lib.hid (HB1.out.trans (hb2.mono HB1.out.size))
  clear hb2
  have c0 := (HL.out.below HC2.out).c0
  have c1 := (HL.out.below HC2.out).c1
  have c2 := (HL.out.below HC2.out).c2
  have H3 := Lib.hid (HX.out _ HB2.out).1
  go_wp2_with fail
  refine H3.out.mono ?_
  rintro e w3 ⟨rfl, hb3⟩
  clear c0 c1 c2
  have HC3 := Lib.hid (HC2.out.trans (hb3.mono HC2.out.size))
  have HB3 := Lib.hid (HB2.out.trans (hb3.mono HB2.out.size))
  clear hb3
  have c0 := (HL.out.below HC3.out).c0
  have c1 := (HL.out.below HC3.out).c1
  have c2 := (HL.out.below HC3.out).c2
  go_wp2_with fail
  refine (HT.out _).mono ?_
  rintro e w4 ⟨rfl, hb4⟩
  clear c0 c1 c2
  have HC4 := Lib.hid (HC3.out.trans (hb4.mono HC3.out.size))
  have HB4 := Lib.hid (HB3.out.trans (hb4.mono HB3.out.size))
  clear hb4
  have c0 := (HL.out.below HC4.out).c0
  have c1 := (HL.out.below HC4.out).c1
  have c2 := (HL.out.below HC4.out).c2
  have H5 := Lib.hid (HX.out _ HB4.out).2
  go_wp2_with fail
  refine H5.out.mono ?_
  rintro e w5 ⟨rfl, hb5⟩
  clear c0 c1 c2
  have HC5 := Lib.hid (HC4.out.trans (hb5.mono HC4.out.size))
  have HB5 := Lib.hid (HB4.out.trans (hb5.mono HB4.out.size))
  clear hb5
  have c0 := (HL.out.below HC5.out).c0
  have c1 := (HL.out.below HC5.out).c1
  have c2 := (HL.out.below HC5.out).c2
  go_wp2
  go_ret
  exact ⟨rfl, HB5.out⟩

set_option maxRecDepth 100000 in
set_option maxHeartbeats 1600000 in
theorem law_leastUndoing (K N : Int) (o : ByteArray) (x : Int) (ho : o.size ≤ 9223372036854775807) (w : World) (hX : o.size ≤ 1048576 → Alike w 38 39 #[.agg #[.int .i64 K, .int .i64 N, .string o]] (.int .i64 x)) :
    Calls Try.prog 8 #[.agg #[.int .i64 K, .int .i64 N, .string o]] w (Says (.bool true) w) := by
  have HX1 := Lib.hid hX
  clear hX
  obtain ⟨W0, hW0⟩ : ∃ W0, (w.alloc (.cells #[.int .i64 K, .int .i64 N, .string o] 39)) = W0 := ⟨_, rfl⟩
  have HB0 : Hid (Below w.heap.size w W0) := Lib.hid (by rw [← hW0]; exact (Below.refl _ _).alloc (Nat.le_refl _) _)
  have HC0 : Hid (Below W0.heap.size W0 W0) := Lib.hid (Below.refl _ _)
  have HT := Lib.hid (to_code K N o)
  have HL : Hid (LawIn W0 w.heap.size K N o) := Lib.hid (by rw [← hW0]; exact lawIn_new w K N o)
  have HW := Lib.hid hW0
  have HZ := Lib.hid (sz_code K N o 1048576 (by decide) (by decide) ho W0)
  clear hW0
  have c0 := HL.out.c0
  have c1 := HL.out.c1
  have c2 := HL.out.c2
  go_enter Try.func8, Try.ntmps8
  go_wp2_with fail
  rw [HW.out]
  refine HZ.out.mono ?_
  rintro e w1 ⟨r, rfl, hr1, hb1⟩
  clear c0 c1 c2
  have HC1 := Lib.hid (HC0.out.trans (hb1.mono HC0.out.size))
  have HB1 := Lib.hid (HB0.out.trans (hb1.mono HB0.out.size))
  clear hb1
  have c0 := (HL.out.below HC1.out).c0
  have c1 := (HL.out.below HC1.out).c1
  have c2 := (HL.out.below HC1.out).c2
  rcases hr1 with rfl | ⟨hr1a, hr1b⟩
  · go_wp2
    go_ret
    exact ⟨rfl, HB1.out⟩
  have g1 : ¬ r < 0 := by omega
  have hr1c : r ≤ 1048576 := by omega
  have HO1 : Hid (o.size ≤ 1048576) := Lib.hid (by omega)
  clear hr1b
  have HX := Lib.hid (HX1.out HO1.out)
  go_wp2_with fail
  refine (HT.out _).mono ?_
  rintro e w2 ⟨rfl, hb2⟩
  clear c0 c1 c2
  have HC2 := Lib.hid (HC1.out.trans (hb2.mono HC1.out.size))
  have HB2 := Lib.hid (HB1.out.trans (hb2.mono HB1.out.size))
  clear hb2
  have c0 := (HL.out.below HC2.out).c0
  have c1 := (HL.out.below HC2.out).c1
  have c2 := (HL.out.below HC2.out).c2
  have H3 := Lib.hid (HX.out _ HB2.out).1
  go_wp2_with fail
  refine H3.out.mono ?_
  rintro e w3 ⟨rfl, hb3⟩
  clear c0 c1 c2
  have HC3 := Lib.hid (HC2.out.trans (hb3.mono HC2.out.size))
  have HB3 := Lib.hid (HB2.out.trans (hb3.mono HB2.out.size))
  clear hb3
  have c0 := (HL.out.below HC3.out).c0
  have c1 := (HL.out.below HC3.out).c1
  have c2 := (HL.out.below HC3.out).c2
  go_wp2_with fail
  refine (HT.out _).mono ?_
  rintro e w4 ⟨rfl, hb4⟩
  clear c0 c1 c2
  have HC4 := Lib.hid (HC3.out.trans (hb4.mono HC3.out.size))
  have HB4 := Lib.hid (HB3.out.trans (hb4.mono HB3.out.size))
  clear hb4
  have c0 := (HL.out.below HC4.out).c0
  have c1 := (HL.out.below HC4.out).c1
  have c2 := (HL.out.below HC4.out).c2
  have H5 := Lib.hid (HX.out _ HB4.out).2
  go_wp2_with fail
  refine H5.out.mono ?_
  rintro e w5 ⟨rfl, hb5⟩
  clear c0 c1 c2
  have HC5 := Lib.hid (HC4.out.trans (hb5.mono HC4.out.size))
  have HB5 := Lib.hid (HB4.out.trans (hb5.mono HB4.out.size))
  clear hb5
  have c0 := (HL.out.below HC5.out).c0
  have c1 := (HL.out.below HC5.out).c1
  have c2 := (HL.out.below HC5.out).c2
  go_wp2
  go_ret
  exact ⟨rfl, HB5.out⟩

set_option maxRecDepth 100000 in
set_option maxHeartbeats 1600000 in
theorem law_isPermutive (K N : Int) (o : ByteArray) (l b : Bool) (ho : o.size ≤ 9223372036854775807) (w : World) (hX : o.size ≤ 1048576 → Alike w 40 41 #[.agg #[.int .i64 K, .int .i64 N, .string o], .bool l] (.bool b)) :
    Calls Try.prog 9 #[.agg #[.int .i64 K, .int .i64 N, .string o], .bool l] w (Says (.bool true) w) := by
  have HX1 := Lib.hid hX
  clear hX
  obtain ⟨W0, hW0⟩ : ∃ W0, (w.alloc (.cells #[.int .i64 K, .int .i64 N, .string o] 39)) = W0 := ⟨_, rfl⟩
  have HB0 : Hid (Below w.heap.size w W0) := Lib.hid (by rw [← hW0]; exact (Below.refl _ _).alloc (Nat.le_refl _) _)
  have HC0 : Hid (Below W0.heap.size W0 W0) := Lib.hid (Below.refl _ _)
  have HT := Lib.hid (to_code K N o)
  have HL : Hid (LawIn W0 w.heap.size K N o) := Lib.hid (by rw [← hW0]; exact lawIn_new w K N o)
  have HW := Lib.hid hW0
  have HZ := Lib.hid (sz_code K N o 1048576 (by decide) (by decide) ho W0)
  clear hW0
  have c0 := HL.out.c0
  have c1 := HL.out.c1
  have c2 := HL.out.c2
  go_enter Try.func9, Try.ntmps9
  go_wp2_with fail
  rw [HW.out]
  refine HZ.out.mono ?_
  rintro e w1 ⟨r, rfl, hr1, hb1⟩
  clear c0 c1 c2
  have HC1 := Lib.hid (HC0.out.trans (hb1.mono HC0.out.size))
  have HB1 := Lib.hid (HB0.out.trans (hb1.mono HB0.out.size))
  clear hb1
  have c0 := (HL.out.below HC1.out).c0
  have c1 := (HL.out.below HC1.out).c1
  have c2 := (HL.out.below HC1.out).c2
  rcases hr1 with rfl | ⟨hr1a, hr1b⟩
  · go_wp2
    go_ret
    exact ⟨rfl, HB1.out⟩
  have g1 : ¬ r < 0 := by omega
  have hr1c : r ≤ 1048576 := by omega
  have HO1 : Hid (o.size ≤ 1048576) := Lib.hid (by omega)
  clear hr1b
  have HX := Lib.hid (HX1.out HO1.out)
  go_wp2_with fail
  refine (HT.out _).mono ?_
  rintro e w2 ⟨rfl, hb2⟩
  clear c0 c1 c2
  have HC2 := Lib.hid (HC1.out.trans (hb2.mono HC1.out.size))
  have HB2 := Lib.hid (HB1.out.trans (hb2.mono HB1.out.size))
  clear hb2
  have c0 := (HL.out.below HC2.out).c0
  have c1 := (HL.out.below HC2.out).c1
  have c2 := (HL.out.below HC2.out).c2
  have H3 := Lib.hid (HX.out _ HB2.out).1
  go_wp2_with fail
  refine H3.out.mono ?_
  rintro e w3 ⟨rfl, hb3⟩
  clear c0 c1 c2
  have HC3 := Lib.hid (HC2.out.trans (hb3.mono HC2.out.size))
  have HB3 := Lib.hid (HB2.out.trans (hb3.mono HB2.out.size))
  clear hb3
  have c0 := (HL.out.below HC3.out).c0
  have c1 := (HL.out.below HC3.out).c1
  have c2 := (HL.out.below HC3.out).c2
  go_wp2_with fail
  refine (HT.out _).mono ?_
  rintro e w4 ⟨rfl, hb4⟩
  clear c0 c1 c2
  have HC4 := Lib.hid (HC3.out.trans (hb4.mono HC3.out.size))
  have HB4 := Lib.hid (HB3.out.trans (hb4.mono HB3.out.size))
  clear hb4
  have c0 := (HL.out.below HC4.out).c0
  have c1 := (HL.out.below HC4.out).c1
  have c2 := (HL.out.below HC4.out).c2
  have H5 := Lib.hid (HX.out _ HB4.out).2
  go_wp2_with fail
  refine H5.out.mono ?_
  rintro e w5 ⟨rfl, hb5⟩
  clear c0 c1 c2
  have HC5 := Lib.hid (HC4.out.trans (hb5.mono HC4.out.size))
  have HB5 := Lib.hid (HB4.out.trans (hb5.mono HB4.out.size))
  clear hb5
  have c0 := (HL.out.below HC5.out).c0
  have c1 := (HL.out.below HC5.out).c1
  have c2 := (HL.out.below HC5.out).c2
  go_wp2
  go_ret
  exact ⟨rfl, HB5.out⟩

set_option maxRecDepth 100000 in
set_option maxHeartbeats 1600000 in
theorem law_undoingCode (K N : Int) (o o1 : ByteArray) (m K1 N1 x : Int) (b : Bool) (ho : o.size ≤ 9223372036854775807) (w : World) (hX : o.size ≤ 1048576 → Alike w 35 36 #[.agg #[.int .i64 K, .int .i64 N, .string o], .int .i64 m] (.tuple #[.agg #[.int .i64 K1, .int .i64 N1, .string o1], .int .i64 x, .bool b])) :
    Calls Try.prog 7 #[.agg #[.int .i64 K, .int .i64 N, .string o], .int .i64 m] w (Says (.bool true) w) := by
  have HX1 := Lib.hid hX
  clear hX
  obtain ⟨W0, hW0⟩ : ∃ W0, (w.alloc (.cells #[.int .i64 K, .int .i64 N, .string o] 39)) = W0 := ⟨_, rfl⟩
  have HB0 : Hid (Below w.heap.size w W0) := Lib.hid (by rw [← hW0]; exact (Below.refl _ _).alloc (Nat.le_refl _) _)
  have HC0 : Hid (Below W0.heap.size W0 W0) := Lib.hid (Below.refl _ _)
  have HT := Lib.hid (to_code K N o)
  have HL : Hid (LawIn W0 w.heap.size K N o) := Lib.hid (by rw [← hW0]; exact lawIn_new w K N o)
  have HW := Lib.hid hW0
  have HZ := Lib.hid (sz_code K N o 1048576 (by decide) (by decide) ho W0)
  clear hW0
  have c0 := HL.out.c0
  have c1 := HL.out.c1
  have c2 := HL.out.c2
  have HE := Lib.hid (eq_code K1 N1 o1)
  go_enter Try.func7, Try.ntmps7
  go_wp2_with fail
  rw [HW.out]
  refine HZ.out.mono ?_
  rintro e w1 ⟨r, rfl, hr1, hb1⟩
  clear c0 c1 c2
  have HC1 := Lib.hid (HC0.out.trans (hb1.mono HC0.out.size))
  have HB1 := Lib.hid (HB0.out.trans (hb1.mono HB0.out.size))
  clear hb1
  have c0 := (HL.out.below HC1.out).c0
  have c1 := (HL.out.below HC1.out).c1
  have c2 := (HL.out.below HC1.out).c2
  rcases hr1 with rfl | ⟨hr1a, hr1b⟩
  · go_wp2
    go_ret
    exact ⟨rfl, HB1.out⟩
  have g1 : ¬ r < 0 := by omega
  have hr1c : r ≤ 1048576 := by omega
  have HO1 : Hid (o.size ≤ 1048576) := Lib.hid (by omega)
  clear hr1b
  have HX := Lib.hid (HX1.out HO1.out)
  go_wp2_with fail
  refine (HT.out _).mono ?_
  rintro e w2 ⟨rfl, hb2⟩
  clear c0 c1 c2
  have HC2 := Lib.hid (HC1.out.trans (hb2.mono HC1.out.size))
  have HB2 := Lib.hid (HB1.out.trans (hb2.mono HB1.out.size))
  clear hb2
  have c0 := (HL.out.below HC2.out).c0
  have c1 := (HL.out.below HC2.out).c1
  have c2 := (HL.out.below HC2.out).c2
  have H3 := Lib.hid (HX.out _ HB2.out).1
  go_wp2_with fail
  refine H3.out.mono ?_
  rintro e w3 ⟨rfl, hb3⟩
  clear c0 c1 c2
  have HC3 := Lib.hid (HC2.out.trans (hb3.mono HC2.out.size))
  have HB3 := Lib.hid (HB2.out.trans (hb3.mono HB2.out.size))
  clear hb3
  obtain ⟨v3, hv3⟩ : ∃ W, w3.alloc (.cells #[.int .i64 K1, .int .i64 N1, .string o1] 25) = W := ⟨_, rfl⟩
  have hx3 : Below w3.heap.size w3 v3 := by rw [← hv3]; exact (Below.refl _ _).alloc (Nat.le_refl _) _
  have HK : Hid (CodeIn v3 w3.heap.size K1 N1 o1) := Lib.hid (by rw [← hv3]; exact codeIn_new _ _ _ _)
  have HC3b := Lib.hid (HC3.out.trans (hx3.mono HC3.out.size))
  have HD3b : Hid (Below v3.heap.size v3 v3) := Lib.hid (Below.refl _ _)
  have HB3b := Lib.hid (HB3.out.trans (hx3.mono HB3.out.size))
  have HV3 := Lib.hid hv3
  clear hv3 hx3
  have c0 : (w3.alloc (.cells #[.int .i64 K1, .int .i64 N1, .string o1] 25)).cell? ⟨w.heap.size, 0, none⟩ = some (.int .i64 K) := by rw [HV3.out]; exact (HL.out.below HC3b.out).c0
  have c1 : (w3.alloc (.cells #[.int .i64 K1, .int .i64 N1, .string o1] 25)).cell? ⟨w.heap.size, 1, none⟩ = some (.int .i64 N) := by rw [HV3.out]; exact (HL.out.below HC3b.out).c1
  have c2 : (w3.alloc (.cells #[.int .i64 K1, .int .i64 N1, .string o1] 25)).cell? ⟨w.heap.size, 2, none⟩ = some (.string o) := by rw [HV3.out]; exact (HL.out.below HC3b.out).c2
  have e0 : (w3.alloc (.cells #[.int .i64 K1, .int .i64 N1, .string o1] 25)).cell? ⟨w3.heap.size, 0, none⟩ = some (.int .i64 K1) := by rw [HV3.out]; exact (HK.out.below HD3b.out).c0
  have e1 : (w3.alloc (.cells #[.int .i64 K1, .int .i64 N1, .string o1] 25)).cell? ⟨w3.heap.size, 1, none⟩ = some (.int .i64 N1) := by rw [HV3.out]; exact (HK.out.below HD3b.out).c1
  have e2 : (w3.alloc (.cells #[.int .i64 K1, .int .i64 N1, .string o1] 25)).cell? ⟨w3.heap.size, 2, none⟩ = some (.string o1) := by rw [HV3.out]; exact (HK.out.below HD3b.out).c2
  go_wp2_with fail
  rw [HV3.out]
  refine (HT.out _).mono ?_
  rintro e w4 ⟨rfl, hb4⟩
  clear c0 c1 c2
  clear e0 e1 e2
  have HC4 := Lib.hid (HC3b.out.trans (hb4.mono HC3b.out.size))
  have HD4 := Lib.hid (HD3b.out.trans (hb4.mono HD3b.out.size))
  have HB4 := Lib.hid (HB3b.out.trans (hb4.mono HB3b.out.size))
  clear hb4
  have c0 := (HL.out.below HC4.out).c0
  have c1 := (HL.out.below HC4.out).c1
  have c2 := (HL.out.below HC4.out).c2
  have e0 := (HK.out.below HD4.out).c0
  have e1 := (HK.out.below HD4.out).c1
  have e2 := (HK.out.below HD4.out).c2
  have H5 := Lib.hid (HX.out _ HB4.out).2
  go_wp2_with fail
  refine H5.out.mono ?_
  rintro e w5 ⟨rfl, hb5⟩
  clear c0 c1 c2
  clear e0 e1 e2
  have HC5 := Lib.hid (HC4.out.trans (hb5.mono HC4.out.size))
  have HD5 := Lib.hid (HD4.out.trans (hb5.mono HD4.out.size))
  have HB5 := Lib.hid (HB4.out.trans (hb5.mono HB4.out.size))
  clear hb5
  obtain ⟨v5, hv5⟩ : ∃ W, w5.alloc (.cells #[.int .i64 K1, .int .i64 N1, .string o1] 25) = W := ⟨_, rfl⟩
  have hx5 : Below w5.heap.size w5 v5 := by rw [← hv5]; exact (Below.refl _ _).alloc (Nat.le_refl _) _
  have HC5b := Lib.hid (HC5.out.trans (hx5.mono HC5.out.size))
  have HD5b := Lib.hid (HD5.out.trans (hx5.mono HD5.out.size))
  have HB5b := Lib.hid (HB5.out.trans (hx5.mono HB5.out.size))
  have HV5 := Lib.hid hv5
  clear hv5 hx5
  have c0 : (w5.alloc (.cells #[.int .i64 K1, .int .i64 N1, .string o1] 25)).cell? ⟨w.heap.size, 0, none⟩ = some (.int .i64 K) := by rw [HV5.out]; exact (HL.out.below HC5b.out).c0
  have c1 : (w5.alloc (.cells #[.int .i64 K1, .int .i64 N1, .string o1] 25)).cell? ⟨w.heap.size, 1, none⟩ = some (.int .i64 N) := by rw [HV5.out]; exact (HL.out.below HC5b.out).c1
  have c2 : (w5.alloc (.cells #[.int .i64 K1, .int .i64 N1, .string o1] 25)).cell? ⟨w.heap.size, 2, none⟩ = some (.string o) := by rw [HV5.out]; exact (HL.out.below HC5b.out).c2
  have e0 : (w5.alloc (.cells #[.int .i64 K1, .int .i64 N1, .string o1] 25)).cell? ⟨w3.heap.size, 0, none⟩ = some (.int .i64 K1) := by rw [HV5.out]; exact (HK.out.below HD5b.out).c0
  have e1 : (w5.alloc (.cells #[.int .i64 K1, .int .i64 N1, .string o1] 25)).cell? ⟨w3.heap.size, 1, none⟩ = some (.int .i64 N1) := by rw [HV5.out]; exact (HK.out.below HD5b.out).c1
  have e2 : (w5.alloc (.cells #[.int .i64 K1, .int .i64 N1, .string o1] 25)).cell? ⟨w3.heap.size, 2, none⟩ = some (.string o1) := by rw [HV5.out]; exact (HK.out.below HD5b.out).c2
  go_wp2_with fail
  rw [HV5.out]
  refine (HE.out _).mono ?_
  rintro e w6 ⟨rfl, hb6⟩
  clear c0 c1 c2
  clear e0 e1 e2
  have HC6 := Lib.hid (HC5b.out.trans (hb6.mono HC5b.out.size))
  have HD6 := Lib.hid (HD5b.out.trans (hb6.mono HD5b.out.size))
  have HB6 := Lib.hid (HB5b.out.trans (hb6.mono HB5b.out.size))
  clear hb6
  have c0 := (HL.out.below HC6.out).c0
  have c1 := (HL.out.below HC6.out).c1
  have c2 := (HL.out.below HC6.out).c2
  have e0 := (HK.out.below HD6.out).c0
  have e1 := (HK.out.below HD6.out).c1
  have e2 := (HK.out.below HD6.out).c2
  go_wp2
  go_ret
  exact ⟨rfl, HB6.out⟩

set_option maxRecDepth 100000 in
set_option maxHeartbeats 1600000 in
theorem law_sameOnRings (K N K' N' m : Int) (o o' : ByteArray) (b : Bool) (ho : o.size ≤ 9223372036854775807) (ho' : o'.size ≤ 9223372036854775807) (w : World) (hX : o.size ≤ 1048576 → o'.size ≤ 1048576 → Alike w 42 43 #[.agg #[.int .i64 K, .int .i64 N, .string o], .agg #[.int .i64 K', .int .i64 N', .string o'], .int .i64 m] (.bool b)) :
    Calls Try.prog 10 #[.agg #[.int .i64 K, .int .i64 N, .string o], .agg #[.int .i64 K', .int .i64 N', .string o'], .int .i64 m] w (Says (.bool true) w) := by
  have HX1 := Lib.hid hX
  clear hX
  obtain ⟨W0, hW0⟩ : ∃ W0, ((w.alloc (.cells #[.int .i64 K, .int .i64 N, .string o] 39)).alloc (.cells #[.int .i64 K', .int .i64 N', .string o'] 39)) = W0 := ⟨_, rfl⟩
  have HB0 : Hid (Below w.heap.size w W0) := Lib.hid (by rw [← hW0]; exact ((Below.refl _ _).alloc (Nat.le_refl _) _).alloc (by simp) _)
  have HC0 : Hid (Below W0.heap.size W0 W0) := Lib.hid (Below.refl _ _)
  have HT := Lib.hid (to_code K N o)
  have HL : Hid (LawIn W0 w.heap.size K N o) := Lib.hid (by rw [← hW0]; exact (lawIn_new w K N o).below ((Below.refl _ _).alloc (Nat.le_refl _) _))
  have HL' : Hid (LawIn W0 (w.heap.size + 1) K' N' o') := Lib.hid (by have h := lawIn_new (w.alloc (.cells #[.int .i64 K, .int .i64 N, .string o] 39)) K' N' o'; rw [World.size_alloc] at h; rw [← hW0]; exact h)
  have HT' := Lib.hid (to_code K' N' o')
  have HW := Lib.hid hW0
  have HZ := Lib.hid (sz_code K N o 1048576 (by decide) (by decide) ho W0)
  clear hW0
  have c0 := HL.out.c0
  have c1 := HL.out.c1
  have c2 := HL.out.c2
  have d0 := HL'.out.c0
  have d1 := HL'.out.c1
  have d2 := HL'.out.c2
  go_enter Try.func10, Try.ntmps10
  go_wp2_with fail
  rw [HW.out]
  refine HZ.out.mono ?_
  rintro e w1 ⟨r, rfl, hr1, hb1⟩
  clear c0 c1 c2 d0 d1 d2
  have HC1 := Lib.hid (HC0.out.trans (hb1.mono HC0.out.size))
  have HB1 := Lib.hid (HB0.out.trans (hb1.mono HB0.out.size))
  clear hb1
  have c0 := (HL.out.below HC1.out).c0
  have c1 := (HL.out.below HC1.out).c1
  have c2 := (HL.out.below HC1.out).c2
  have d0 := (HL'.out.below HC1.out).c0
  have d1 := (HL'.out.below HC1.out).c1
  have d2 := (HL'.out.below HC1.out).c2
  rcases hr1 with rfl | ⟨hr1a, hr1b⟩
  · go_wp2
    go_ret
    exact ⟨rfl, HB1.out⟩
  have g1 : ¬ r < 0 := by omega
  have hr1c : r ≤ 1048576 := by omega
  have HO1 : Hid (o.size ≤ 1048576) := Lib.hid (by omega)
  clear hr1b
  have HZ' := Lib.hid (sz_code K' N' o' r hr1a hr1c ho' w1)
  go_wp2_with fail
  refine HZ'.out.mono ?_
  rintro e w2 ⟨r', rfl, hr2, hb2⟩
  clear c0 c1 c2 d0 d1 d2
  have HC2 := Lib.hid (HC1.out.trans (hb2.mono HC1.out.size))
  have HB2 := Lib.hid (HB1.out.trans (hb2.mono HB1.out.size))
  clear hb2
  have c0 := (HL.out.below HC2.out).c0
  have c1 := (HL.out.below HC2.out).c1
  have c2 := (HL.out.below HC2.out).c2
  have d0 := (HL'.out.below HC2.out).c0
  have d1 := (HL'.out.below HC2.out).c1
  have d2 := (HL'.out.below HC2.out).c2
  rcases hr2 with rfl | ⟨hr2a, hr2b⟩
  · go_wp2
    go_ret
    exact ⟨rfl, HB2.out⟩
  have g2 : ¬ r' < 0 := by omega
  have hr2c : r' ≤ 1048576 := by omega
  have HO2 : Hid (o'.size ≤ 1048576) := Lib.hid (by omega)
  clear hr2b
  have HX := Lib.hid (HX1.out HO1.out HO2.out)
  clear c0 c1 c2 d0 d1 d2
  have sS0 := six_of (HL.out.below HC2.out) (HL'.out.below HC2.out)
  obtain ⟨c0, c1, c2, d0, d1, d2⟩ := sS0
  have HTaS := HT
  have HTbS := HT'
  go_wp2
  go_region_held3 (fun w' => w'.cell? ⟨w.heap.size, 0, none⟩ = some (.int .i64 K) ∧ w'.cell? ⟨w.heap.size, 1, none⟩ = some (.int .i64 N) ∧ w'.cell? ⟨w.heap.size, 2, none⟩ = some (.string o) ∧ w'.cell? ⟨w.heap.size + 1, 0, none⟩ = some (.int .i64 K') ∧ w'.cell? ⟨w.heap.size + 1, 1, none⟩ = some (.int .i64 N') ∧ w'.cell? ⟨w.heap.size + 1, 2, none⟩ = some (.string o')) (first | exact sS0 | exact sSA | exact sSB | exact sSC | exact SSD.out _ | go_keep) (first | (go_at_call 32; refine (HTaS.out _).mono ?_; rintro e wSA ⟨rfl, hSA⟩; have CSA := Lib.hid (HC2.out.trans (((drewN_below (Below.refl _ _) 1).trans hSA).mono HC2.out.size)); have BSA := Lib.hid (HB2.out.trans (((drewN_below (Below.refl _ _) 1).trans hSA).mono HB2.out.size)); have sSA := six_of (HL.out.below CSA.out) (HL'.out.below CSA.out); clear hSA HTaS) | (go_at_call 32; refine (HTbS.out _).mono ?_; rintro e wSB ⟨rfl, hSB⟩; have CSB := Lib.hid (CSA.out.trans (hSB.mono CSA.out.size)); have BSB := Lib.hid (BSA.out.trans (hSB.mono BSA.out.size)); have sSB := six_of (HL.out.below CSB.out) (HL'.out.below CSB.out); clear hSB HTbS) | (go_at_call 42; refine (HX.out _ BSB.out).1.mono ?_; rintro e wSC ⟨rfl, hSC⟩; have CSC := Lib.hid (CSB.out.trans (hSC.mono CSB.out.size)); have BSC := Lib.hid (BSB.out.trans (hSC.mono BSB.out.size)); have sSC := six_of (HL.out.below CSC.out) (HL'.out.below CSC.out); have SSD := Lib.hid (fun x => six_of (HL.out.below (CSC.out.alloc CSC.out.size x)) (HL'.out.below (CSC.out.alloc CSC.out.size x))); clear hSC))
  have HCSC := CSC
  have HBSC := BSC
  clear c0 c1 c2 d0 d1 d2
  have sI0 := six_of (HL.out.below HCSC.out) (HL'.out.below HCSC.out)
  obtain ⟨c0, c1, c2, d0, d1, d2⟩ := sI0
  have HTaI := HT
  have HTbI := HT'
  go_wp2
  go_region_held3 (fun w' => w'.cell? ⟨w.heap.size, 0, none⟩ = some (.int .i64 K) ∧ w'.cell? ⟨w.heap.size, 1, none⟩ = some (.int .i64 N) ∧ w'.cell? ⟨w.heap.size, 2, none⟩ = some (.string o) ∧ w'.cell? ⟨w.heap.size + 1, 0, none⟩ = some (.int .i64 K') ∧ w'.cell? ⟨w.heap.size + 1, 1, none⟩ = some (.int .i64 N') ∧ w'.cell? ⟨w.heap.size + 1, 2, none⟩ = some (.string o')) (first | exact sI0 | exact sIA | exact sIB | exact sIC | exact SID.out _ | go_keep) (first | (go_at_call 32; refine (HTaI.out _).mono ?_; rintro e wIA ⟨rfl, hIA⟩; have CIA := Lib.hid (HCSC.out.trans (((drewN_below (Below.refl _ _) 1).trans hIA).mono HCSC.out.size)); have BIA := Lib.hid (HBSC.out.trans (((drewN_below (Below.refl _ _) 1).trans hIA).mono HBSC.out.size)); have sIA := six_of (HL.out.below CIA.out) (HL'.out.below CIA.out); clear hIA HTaI) | (go_at_call 32; refine (HTbI.out _).mono ?_; rintro e wIB ⟨rfl, hIB⟩; have CIB := Lib.hid (CIA.out.trans (hIB.mono CIA.out.size)); have BIB := Lib.hid (BIA.out.trans (hIB.mono BIA.out.size)); have sIB := six_of (HL.out.below CIB.out) (HL'.out.below CIB.out); clear hIB HTbI) | (go_at_call 43; refine (HX.out _ BIB.out).2.mono ?_; rintro e wIC ⟨rfl, hIC⟩; have CIC := Lib.hid (CIB.out.trans (hIC.mono CIB.out.size)); have BIC := Lib.hid (BIB.out.trans (hIC.mono BIB.out.size)); have sIC := six_of (HL.out.below CIC.out) (HL'.out.below CIC.out); have SID := Lib.hid (fun x => six_of (HL.out.below (CIC.out.alloc CIC.out.size x)) (HL'.out.below (CIC.out.alloc CIC.out.size x))); clear hIC))
  have HCIC := CIC
  have HBIC := BIC
  clear c0 c1 c2 d0 d1 d2
  go_wp2
  go_ret
  exact ⟨rfl, HBIC.out⟩
end Go.Proofs.Ytcoiodfggaanbaa
