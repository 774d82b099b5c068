/-
  The laws on codes: where the model and the program answer alike in every world the law returns true; nothing that was there before is changed.
-/
import Derived.Test.YtogmmjiajajinaaCodeOps
import Derived.Deep.CutRange
namespace Go.Proofs.Ytogmmjiajajinaa
open Go Go.RowKit

/-- Two functions that answer the same in every world. -/
def Alike (W : World) (f g : Nat) (args : Array Value) (x : Value) : Prop := ∀ w', Below W.heap.size W w' → Calls Try.prog f args w' (Says x w') ∧ Calls Try.prog g args w' (Says x w')
/-- Block g holds a code of the laws. -/
def LawIn (w : World) (g : Nat) (K N : Int) (o : ByteArray) : Prop := w.heap[g]? = some (.cells #[.int .i64 K, .int .i64 N, .string o] 23 (0, 0))
theorem LawIn.lt {w : World} {g : Nat} {K N : Int} {o : ByteArray} (h : LawIn w g K N o) : g < w.heap.size := (Array.getElem?_eq_some_iff.1 h).1
theorem LawIn.below {w w' : World} {g : Nat} {K N : Int} {o : ByteArray} (h : LawIn w g K N o) (hb : Below w.heap.size w w') : LawIn w' g K N o := (hb.block g h.lt).trans h
theorem LawIn.c0 {w : World} {g : Nat} {K N : Int} {o : ByteArray} (h : LawIn w g K N o) : w.cell? ⟨g, 0, none⟩ = some (.int .i64 K) := by simp [World.cell?, show w.heap[g]? = _ from h]
theorem LawIn.c1 {w : World} {g : Nat} {K N : Int} {o : ByteArray} (h : LawIn w g K N o) : w.cell? ⟨g, 1, none⟩ = some (.int .i64 N) := by simp [World.cell?, show w.heap[g]? = _ from h]
theorem LawIn.c2 {w : World} {g : Nat} {K N : Int} {o : ByteArray} (h : LawIn w g K N o) : w.cell? ⟨g, 2, none⟩ = some (.string o) := by simp [World.cell?, show w.heap[g]? = _ from h]
theorem six_of {w : World} {g : Nat} {K N K' N' : Int} {o o' : ByteArray} (h : LawIn w g K N o) (h' : LawIn w (g + 1) K' N' o') : w.cell? ⟨g, 0, none⟩ = some (.int .i64 K) ∧ w.cell? ⟨g, 1, none⟩ = some (.int .i64 N) ∧ w.cell? ⟨g, 2, none⟩ = some (.string o) ∧ w.cell? ⟨g + 1, 0, none⟩ = some (.int .i64 K') ∧ w.cell? ⟨g + 1, 1, none⟩ = some (.int .i64 N') ∧ w.cell? ⟨g + 1, 2, none⟩ = some (.string o') := ⟨h.c0, h.c1, h.c2, h'.c0, h'.c1, h'.c2⟩
theorem lawIn_later {w w' : World} {B g : Nat} {K N : Int} {o : ByteArray} (h : LawIn w g K N o) (hb : Below B w w') (hg : g < B) : LawIn w' g K N o := (hb.block g hg).trans h
theorem bwc {z x y : World} (h : Below z.heap.size z x) (b : Below x.heap.size x y) : Below z.heap.size z y := h.trans (b.mono h.size)
theorem lawIn_new (w : World) (K N : Int) (o : ByteArray) : LawIn (w.alloc (.cells #[.int .i64 K, .int .i64 N, .string o] 23)) w.heap.size K N o := heap_alloc_new w _

set_option maxRecDepth 100000 in
set_option maxHeartbeats 1600000 in
theorem law_isCode (K N : Int) (o : ByteArray) (b : Bool) (ho : o.size ≤ 9223372036854775807) (w : World) (hX : o.size ≤ 1048576 → Alike w 10 12 #[.agg #[.int .i64 K, .int .i64 N, .string o]] (.bool b)) :
    Calls Try.prog 3 #[.agg #[.int .i64 K, .int .i64 N, .string o]] w (Says (.bool true) w) := by
  have HX1 := Lib.hid hX
  clear hX
  obtain ⟨W0, hW0⟩ : ∃ W0, (w.alloc (.cells #[.int .i64 K, .int .i64 N, .string o] 23)) = W0 := ⟨_, rfl⟩
  have HB0 : Hid (Below w.heap.size w W0) := Lib.hid (by rw [← hW0]; exact (Below.refl _ _).alloc (Nat.le_refl _) _)
  have HC0 : Hid (Below W0.heap.size W0 W0) := Lib.hid (Below.refl _ _)
  have HT := Lib.hid (to_code K N o)
  have HL : Hid (LawIn W0 w.heap.size K N o) := Lib.hid (by rw [← hW0]; exact lawIn_new w K N o)
  have HW := Lib.hid hW0
  have HZ := Lib.hid (sz_code K N o 1048576 (by decide) (by decide) ho W0)
  clear hW0
  have c0 := HL.out.c0
  have c1 := HL.out.c1
  have c2 := HL.out.c2
  go_enter Try.func3, Try.ntmps3
  go_wp2_with fail
  rw [HW.out]
  refine HZ.out.mono ?_
  rintro e w1 ⟨r, rfl, hr1, hb1⟩
  clear c0 c1 c2
  have HC1 := Lib.hid (HC0.out.trans (hb1.mono HC0.out.size))
  have HB1 := Lib.hid (HB0.out.trans (hb1.mono HB0.out.size))
  clear hb1
  have c0 := (HL.out.below HC1.out).c0
  have c1 := (HL.out.below HC1.out).c1
  have c2 := (HL.out.below HC1.out).c2
  rcases hr1 with rfl | ⟨hr1a, hr1b⟩
  · go_wp2
    go_ret
    exact ⟨rfl, HB1.out⟩
  have g1 : ¬ r < 0 := by omega
  have hr1c : r ≤ 1048576 := by omega
  have HO1 : Hid (o.size ≤ 1048576) := Lib.hid (by omega)
  clear hr1b
  have HX := Lib.hid (HX1.out HO1.out)
  go_wp2_with fail
  refine (HT.out _).mono ?_
  rintro e w2 ⟨rfl, hb2⟩
  clear c0 c1 c2
  have HC2 := Lib.hid (HC1.out.trans (hb2.mono HC1.out.size))
  have HB2 := Lib.hid (HB1.out.trans (hb2.mono HB1.out.size))
  clear hb2
  have c0 := (HL.out.below HC2.out).c0
  have c1 := (HL.out.below HC2.out).c1
  have c2 := (HL.out.below HC2.out).c2
  have H3 := Lib.hid (HX.out _ HB2.out).1
  go_wp2_with fail
  refine H3.out.mono ?_
  rintro e w3 ⟨rfl, hb3⟩
  clear c0 c1 c2
  have HC3 := Lib.hid (HC2.out.trans (hb3.mono HC2.out.size))
  have HB3 := Lib.hid (HB2.out.trans (hb3.mono HB2.out.size))
  clear hb3
  have c0 := (HL.out.below HC3.out).c0
  have c1 := (HL.out.below HC3.out).c1
  have c2 := (HL.out.below HC3.out).c2
  go_wp2_with fail
  refine (HT.out _).mono ?_
  rintro e w4 ⟨rfl, hb4⟩
  clear c0 c1 c2
  have HC4 := Lib.hid (HC3.out.trans (hb4.mono HC3.out.size))
  have HB4 := Lib.hid (HB3.out.trans (hb4.mono HB3.out.size))
  clear hb4
  have c0 := (HL.out.below HC4.out).c0
  have c1 := (HL.out.below HC4.out).c1
  have c2 := (HL.out.below HC4.out).c2
  have H5 := Lib.hid (HX.out _ HB4.out).2
  go_wp2_with fail
  refine H5.out.mono ?_
  rintro e w5 ⟨rfl, hb5⟩
  clear c0 c1 c2
  have HC5 := Lib.hid (HC4.out.trans (hb5.mono HC4.out.size))
  have HB5 := Lib.hid (HB4.out.trans (hb5.mono HB4.out.size))
  clear hb5
  have c0 := (HL.out.below HC5.out).c0
  have c1 := (HL.out.below HC5.out).c1
  have c2 := (HL.out.below HC5.out).c2
  go_wp2
  go_ret
  exact ⟨rfl, HB5.out⟩

set_option maxRecDepth 100000 in
set_option maxHeartbeats 1600000 in
theorem law_applyCode (K N : Int) (o v s : ByteArray) (b : Bool) (ho : o.size ≤ 9223372036854775807) (hv : v.size ≤ 9223372036854775807) (w : World) (hX : o.size ≤ 1048576 → v.size ≤ 1048576 → Alike w 13 14 #[.agg #[.int .i64 K, .int .i64 N, .string o], .string v] (.tuple #[.string s, .bool b])) :
    Calls Try.prog 4 #[.agg #[.int .i64 K, .int .i64 N, .string o], .string v] w (Says (.bool true) w) := by
  by_cases hv1 : 1048576 < v.size
  · clear hX
    have g0 : (1048576 : Int) < (v.size : Int) := by omega
    go_enter Try.func4, Try.ntmps4
    go_wp2
    go_ret
    exact ⟨rfl, (Below.refl _ _).alloc (Nat.le_refl _) _⟩
  have hv2 : v.size ≤ 1048576 := by omega
  have hv3 : ¬ (1048576 : Int) < (v.size : Int) := by omega
  have HX1 := Lib.hid hX
  clear hX
  obtain ⟨W0, hW0⟩ : ∃ W0, (w.alloc (.cells #[.int .i64 K, .int .i64 N, .string o] 23)) = W0 := ⟨_, rfl⟩
  have HB0 : Hid (Below w.heap.size w W0) := Lib.hid (by rw [← hW0]; exact (Below.refl _ _).alloc (Nat.le_refl _) _)
  have HC0 : Hid (Below W0.heap.size W0 W0) := Lib.hid (Below.refl _ _)
  have HT := Lib.hid (to_code K N o)
  have HL : Hid (LawIn W0 w.heap.size K N o) := Lib.hid (by rw [← hW0]; exact lawIn_new w K N o)
  have HW := Lib.hid hW0
  have HZ := Lib.hid (sz_code K N o 1048576 (by decide) (by decide) ho W0)
  clear hW0
  have c0 := HL.out.c0
  have c1 := HL.out.c1
  have c2 := HL.out.c2
  go_enter Try.func4, Try.ntmps4
  go_wp2_with fail
  rw [HW.out]
  refine HZ.out.mono ?_
  rintro e w1 ⟨r, rfl, hr1, hb1⟩
  clear c0 c1 c2
  have HC1 := Lib.hid (HC0.out.trans (hb1.mono HC0.out.size))
  have HB1 := Lib.hid (HB0.out.trans (hb1.mono HB0.out.size))
  clear hb1
  have c0 := (HL.out.below HC1.out).c0
  have c1 := (HL.out.below HC1.out).c1
  have c2 := (HL.out.below HC1.out).c2
  rcases hr1 with rfl | ⟨hr1a, hr1b⟩
  · go_wp2
    go_ret
    exact ⟨rfl, HB1.out⟩
  have g1 : ¬ r < 0 := by omega
  have hr1c : r ≤ 1048576 := by omega
  have HO1 : Hid (o.size ≤ 1048576) := Lib.hid (by omega)
  clear hr1b
  have HX := Lib.hid (HX1.out HO1.out hv2)
  go_wp2_with fail
  refine (HT.out _).mono ?_
  rintro e w2 ⟨rfl, hb2⟩
  clear c0 c1 c2
  have HC2 := Lib.hid (HC1.out.trans (hb2.mono HC1.out.size))
  have HB2 := Lib.hid (HB1.out.trans (hb2.mono HB1.out.size))
  clear hb2
  have c0 := (HL.out.below HC2.out).c0
  have c1 := (HL.out.below HC2.out).c1
  have c2 := (HL.out.below HC2.out).c2
  have H3 := Lib.hid (HX.out _ HB2.out).1
  go_wp2_with fail
  refine H3.out.mono ?_
  rintro e w3 ⟨rfl, hb3⟩
  clear c0 c1 c2
  have HC3 := Lib.hid (HC2.out.trans (hb3.mono HC2.out.size))
  have HB3 := Lib.hid (HB2.out.trans (hb3.mono HB2.out.size))
  clear hb3
  have c0 := (HL.out.below HC3.out).c0
  have c1 := (HL.out.below HC3.out).c1
  have c2 := (HL.out.below HC3.out).c2
  go_wp2_with fail
  refine (HT.out _).mono ?_
  rintro e w4 ⟨rfl, hb4⟩
  clear c0 c1 c2
  have HC4 := Lib.hid (HC3.out.trans (hb4.mono HC3.out.size))
  have HB4 := Lib.hid (HB3.out.trans (hb4.mono HB3.out.size))
  clear hb4
  have c0 := (HL.out.below HC4.out).c0
  have c1 := (HL.out.below HC4.out).c1
  have c2 := (HL.out.below HC4.out).c2
  have H5 := Lib.hid (HX.out _ HB4.out).2
  go_wp2_with fail
  refine H5.out.mono ?_
  rintro e w5 ⟨rfl, hb5⟩
  clear c0 c1 c2
  have HC5 := Lib.hid (HC4.out.trans (hb5.mono HC4.out.size))
  have HB5 := Lib.hid (HB4.out.trans (hb5.mono HB4.out.size))
  clear hb5
  have c0 := (HL.out.below HC5.out).c0
  have c1 := (HL.out.below HC5.out).c1
  have c2 := (HL.out.below HC5.out).c2
  go_wp2
  go_ret
  exact ⟨rfl, HB5.out⟩

set_option maxRecDepth 100000 in
set_option maxHeartbeats 1600000 in
theorem law_applyRing (K N : Int) (o v s : ByteArray) (b : Bool) (ho : o.size ≤ 9223372036854775807) (hv : v.size ≤ 9223372036854775807) (w : World) (hX : o.size ≤ 1048576 → v.size ≤ 1048576 → Alike w 15 16 #[.agg #[.int .i64 K, .int .i64 N, .string o], .string v] (.tuple #[.string s, .bool b])) :
    Calls Try.prog 5 #[.agg #[.int .i64 K, .int .i64 N, .string o], .string v] w (Says (.bool true) w) := by
  by_cases hv1 : 1048576 < v.size
  · clear hX
    have g0 : (1048576 : Int) < (v.size : Int) := by omega
    go_enter Try.func5, Try.ntmps5
    go_wp2
    go_ret
    exact ⟨rfl, (Below.refl _ _).alloc (Nat.le_refl _) _⟩
  have hv2 : v.size ≤ 1048576 := by omega
  have hv3 : ¬ (1048576 : Int) < (v.size : Int) := by omega
  have HX1 := Lib.hid hX
  clear hX
  obtain ⟨W0, hW0⟩ : ∃ W0, (w.alloc (.cells #[.int .i64 K, .int .i64 N, .string o] 23)) = W0 := ⟨_, rfl⟩
  have HB0 : Hid (Below w.heap.size w W0) := Lib.hid (by rw [← hW0]; exact (Below.refl _ _).alloc (Nat.le_refl _) _)
  have HC0 : Hid (Below W0.heap.size W0 W0) := Lib.hid (Below.refl _ _)
  have HT := Lib.hid (to_code K N o)
  have HL : Hid (LawIn W0 w.heap.size K N o) := Lib.hid (by rw [← hW0]; exact lawIn_new w K N o)
  have HW := Lib.hid hW0
  have HZ := Lib.hid (sz_code K N o 1048576 (by decide) (by decide) ho W0)
  clear hW0
  have c0 := HL.out.c0
  have c1 := HL.out.c1
  have c2 := HL.out.c2
  go_enter Try.func5, Try.ntmps5
  go_wp2_with fail
  rw [HW.out]
  refine HZ.out.mono ?_
  rintro e w1 ⟨r, rfl, hr1, hb1⟩
  clear c0 c1 c2
  have HC1 := Lib.hid (HC0.out.trans (hb1.mono HC0.out.size))
  have HB1 := Lib.hid (HB0.out.trans (hb1.mono HB0.out.size))
  clear hb1
  have c0 := (HL.out.below HC1.out).c0
  have c1 := (HL.out.below HC1.out).c1
  have c2 := (HL.out.below HC1.out).c2
  rcases hr1 with rfl | ⟨hr1a, hr1b⟩
  · go_wp2
    go_ret
    exact ⟨rfl, HB1.out⟩
  have g1 : ¬ r < 0 := by omega
  have hr1c : r ≤ 1048576 := by omega
  have HO1 : Hid (o.size ≤ 1048576) := Lib.hid (by omega)
  clear hr1b
  have HX := Lib.hid (HX1.out HO1.out hv2)
  go_wp2_with fail
  refine (HT.out _).mono ?_
  rintro e w2 ⟨rfl, hb2⟩
  clear c0 c1 c2
  have HC2 := Lib.hid (HC1.out.trans (hb2.mono HC1.out.size))
  have HB2 := Lib.hid (HB1.out.trans (hb2.mono HB1.out.size))
  clear hb2
  have c0 := (HL.out.below HC2.out).c0
  have c1 := (HL.out.below HC2.out).c1
  have c2 := (HL.out.below HC2.out).c2
  have H3 := Lib.hid (HX.out _ HB2.out).1
  go_wp2_with fail
  refine H3.out.mono ?_
  rintro e w3 ⟨rfl, hb3⟩
  clear c0 c1 c2
  have HC3 := Lib.hid (HC2.out.trans (hb3.mono HC2.out.size))
  have HB3 := Lib.hid (HB2.out.trans (hb3.mono HB2.out.size))
  clear hb3
  have c0 := (HL.out.below HC3.out).c0
  have c1 := (HL.out.below HC3.out).c1
  have c2 := (HL.out.below HC3.out).c2
  go_wp2_with fail
  refine (HT.out _).mono ?_
  rintro e w4 ⟨rfl, hb4⟩
  clear c0 c1 c2
  have HC4 := Lib.hid (HC3.out.trans (hb4.mono HC3.out.size))
  have HB4 := Lib.hid (HB3.out.trans (hb4.mono HB3.out.size))
  clear hb4
  have c0 := (HL.out.below HC4.out).c0
  have c1 := (HL.out.below HC4.out).c1
  have c2 := (HL.out.below HC4.out).c2
  have H5 := Lib.hid (HX.out _ HB4.out).2
  go_wp2_with fail
  refine H5.out.mono ?_
  rintro e w5 ⟨rfl, hb5⟩
  clear c0 c1 c2
  have HC5 := Lib.hid (HC4.out.trans (hb5.mono HC4.out.size))
  have HB5 := Lib.hid (HB4.out.trans (hb5.mono HB4.out.size))
  clear hb5
  have c0 := (HL.out.below HC5.out).c0
  have c1 := (HL.out.below HC5.out).c1
  have c2 := (HL.out.below HC5.out).c2
  go_wp2
  go_ret
  exact ⟨rfl, HB5.out⟩

set_option maxRecDepth 100000 in
set_option maxHeartbeats 3200000 in
theorem law_composeCodes (K N K' N' K1 N1 : Int) (o o' o1 : ByteArray) (b : Bool) (ho : o.size ≤ 9223372036854775807) (ho' : o'.size ≤ 9223372036854775807) (w : World) (hX : o.size ≤ 1048576 → o'.size ≤ 1048576 → Alike w 17 18 #[.agg #[.int .i64 K, .int .i64 N, .string o], .agg #[.int .i64 K', .int .i64 N', .string o']] (.tuple #[.agg #[.int .i64 K1, .int .i64 N1, .string o1], .bool b])) :
    Calls Try.prog 6 #[.agg #[.int .i64 K, .int .i64 N, .string o], .agg #[.int .i64 K', .int .i64 N', .string o']] w (Says (.bool true) w) := by
  have HX1 := Lib.hid hX
  clear hX
  obtain ⟨W0, hW0⟩ : ∃ W0, ((w.alloc (.cells #[.int .i64 K, .int .i64 N, .string o] 23)).alloc (.cells #[.int .i64 K', .int .i64 N', .string o'] 23)) = W0 := ⟨_, rfl⟩
  have HB0 : Hid (Below w.heap.size w W0) := Lib.hid (by rw [← hW0]; exact ((Below.refl _ _).alloc (Nat.le_refl _) _).alloc (by simp) _)
  have HC0 : Hid (Below W0.heap.size W0 W0) := Lib.hid (Below.refl _ _)
  have HT := Lib.hid (to_code K N o)
  have HT' := Lib.hid (to_code K' N' o')
  have HZ0 : Hid (W0.heap.size = w.heap.size + 2) := Lib.hid (by rw [← hW0]; simp)
  have HL : Hid (LawIn W0 w.heap.size K N o) := Lib.hid (by rw [← hW0]; exact (lawIn_new w K N o).below ((Below.refl _ _).alloc (Nat.le_refl _) _))
  have HL' : Hid (LawIn W0 (w.heap.size + 1) K' N' o') := Lib.hid (by have h := lawIn_new (w.alloc (.cells #[.int .i64 K, .int .i64 N, .string o] 23)) K' N' o'; rw [World.size_alloc] at h; rw [← hW0]; exact h)
  have HW := Lib.hid hW0
  have HZ := Lib.hid (sz_code K N o 1048576 (by decide) (by decide) ho W0)
  clear hW0
  have c0 := HL.out.c0
  have c1 := HL.out.c1
  have c2 := HL.out.c2
  have d0 := HL'.out.c0
  have d1 := HL'.out.c1
  have d2 := HL'.out.c2
  have HE := Lib.hid (eq_code K1 N1 o1)
  go_enter Try.func6, Try.ntmps6
  go_wp2_with fail
  rw [HW.out]
  refine HZ.out.mono ?_
  rintro e w1 ⟨r, rfl, hr1, hb1⟩
  clear c0 c1 c2 d0 d1 d2
  have HC1 := Lib.hid (HC0.out.trans (hb1.mono HC0.out.size))
  have HB1 := Lib.hid (HB0.out.trans (hb1.mono HB0.out.size))
  clear hb1
  have c0 := (HL.out.below HC1.out).c0
  have c1 := (HL.out.below HC1.out).c1
  have c2 := (HL.out.below HC1.out).c2
  have d0 := (HL'.out.below HC1.out).c0
  have d1 := (HL'.out.below HC1.out).c1
  have d2 := (HL'.out.below HC1.out).c2
  rcases hr1 with rfl | ⟨hr1a, hr1b⟩
  · go_wp2
    go_ret
    exact ⟨rfl, HB1.out⟩
  have g1 : ¬ r < 0 := by omega
  have hr1c : r ≤ 1048576 := by omega
  have HO1 : Hid (o.size ≤ 1048576) := Lib.hid (by omega)
  clear hr1b
  have HZ' := Lib.hid (sz_code K' N' o' r hr1a hr1c ho' w1)
  go_wp2_with fail
  refine HZ'.out.mono ?_
  rintro e w2 ⟨r', rfl, hr2, hb2⟩
  clear c0 c1 c2 d0 d1 d2
  have HC2 := Lib.hid (HC1.out.trans (hb2.mono HC1.out.size))
  have HB2 := Lib.hid (HB1.out.trans (hb2.mono HB1.out.size))
  clear hb2
  have c0 := (HL.out.below HC2.out).c0
  have c1 := (HL.out.below HC2.out).c1
  have c2 := (HL.out.below HC2.out).c2
  have d0 := (HL'.out.below HC2.out).c0
  have d1 := (HL'.out.below HC2.out).c1
  have d2 := (HL'.out.below HC2.out).c2
  rcases hr2 with rfl | ⟨hr2a, hr2b⟩
  · go_wp2
    go_ret
    exact ⟨rfl, HB2.out⟩
  have g2 : ¬ r' < 0 := by omega
  have hr2c : r' ≤ 1048576 := by omega
  have HO2 : Hid (o'.size ≤ 1048576) := Lib.hid (by omega)
  clear hr2b
  have HX := Lib.hid (HX1.out HO1.out HO2.out)
  clear c0 c1 c2 d0 d1 d2
  obtain ⟨z, hz⟩ : ∃ z, z = w2 := ⟨_, rfl⟩
  rw [← hz] at HC2 HB2
  rw [← hz]
  clear hz
  have ZG : Hid (w.heap.size + 2 ≤ z.heap.size) := Lib.hid (by have h1 := HC2.out.size; have h2 := HZ0.out; omega)
  have SX : Hid (∀ w', Below z.heap.size z w' → w'.cell? ⟨w.heap.size, 0, none⟩ = some (.int .i64 K) ∧ w'.cell? ⟨w.heap.size, 1, none⟩ = some (.int .i64 N) ∧ w'.cell? ⟨w.heap.size, 2, none⟩ = some (.string o) ∧ w'.cell? ⟨w.heap.size + 1, 0, none⟩ = some (.int .i64 K') ∧ w'.cell? ⟨w.heap.size + 1, 1, none⟩ = some (.int .i64 N') ∧ w'.cell? ⟨w.heap.size + 1, 2, none⟩ = some (.string o')) := Lib.hid fun w' h => six_of (HL.out.below (HC2.out.trans (h.mono HC2.out.size))) (HL'.out.below (HC2.out.trans (h.mono HC2.out.size)))
  have SXS : Hid (∀ w'', Below z.heap.size z w'' → ∀ G, z.heap.size ≤ G → ∀ x y v, (fun w' => w'.cell? ⟨w.heap.size, 0, none⟩ = some (.int .i64 K) ∧ w'.cell? ⟨w.heap.size, 1, none⟩ = some (.int .i64 N) ∧ w'.cell? ⟨w.heap.size, 2, none⟩ = some (.string o) ∧ w'.cell? ⟨w.heap.size + 1, 0, none⟩ = some (.int .i64 K') ∧ w'.cell? ⟨w.heap.size + 1, 1, none⟩ = some (.int .i64 N') ∧ w'.cell? ⟨w.heap.size + 1, 2, none⟩ = some (.string o')) (((w''.setCell ⟨G, 0, none⟩ x).setCell ⟨G, 1, none⟩ y).setCell ⟨G, 2, none⟩ v)) := Lib.hid fun w'' h G hG x y v => six_of (lawIn_later (HL.out.below (HC2.out.trans (h.mono HC2.out.size))) (below_set (Below.refl (w.heap.size + 2) w'') (Nat.le_trans ZG.out hG) x y v) (by omega)) (lawIn_later (HL'.out.below (HC2.out.trans (h.mono HC2.out.size))) (below_set (Below.refl (w.heap.size + 2) w'') (Nat.le_trans ZG.out hG) x y v) (by omega))
  have HXZ : Hid (∀ w', Below z.heap.size z w' → _) := Lib.hid fun w' h => HX.out w' (HB2.out.trans (h.mono HB2.out.size))
  have x0 : Below z.heap.size z z := Below.refl _ _
  have hd : Below z.heap.size z z.drew := x0.drew
  have HTaS := HT
  have HTbS := HT'
  obtain ⟨c0, c1, c2, d0, d1, d2⟩ := SX.out z x0
  go_upto_region 8 with (fail)
  go_cut [6, 7] from 20 to 27 (fun sp sb wx => ∃ G, sp = .pointer (some ⟨G, 0, none⟩) ∧ sb = .bool b ∧ Hid (CodeIn wx G K1 N1 o1) ∧ Hid (Below z.heap.size (z) wx))
  case first =>
    go_region_held3 (fun w' => w'.cell? ⟨w.heap.size, 0, none⟩ = some (.int .i64 K) ∧ w'.cell? ⟨w.heap.size, 1, none⟩ = some (.int .i64 N) ∧ w'.cell? ⟨w.heap.size, 2, none⟩ = some (.string o) ∧ w'.cell? ⟨w.heap.size + 1, 0, none⟩ = some (.int .i64 K') ∧ w'.cell? ⟨w.heap.size + 1, 1, none⟩ = some (.int .i64 N') ∧ w'.cell? ⟨w.heap.size + 1, 2, none⟩ = some (.string o')) (first | exact SX.out _ hC | exact SX.out _ hB | exact SX.out _ hA | exact SX.out _ hd | exact SX.out _ x0 | exact SX.out _ (hC.alloc hC.size _) | exact SX.out _ (hB.alloc hB.size _) | exact SX.out _ (hA.alloc hA.size _) | exact SX.out _ (hd.alloc hd.size _) | exact SXS.out _ hC _ zq _ _ _ | go_keep) (first | (go_at_call 11; refine (HTaS.out _).mono ?_; rintro e xA ⟨rfl, bA⟩; first | (have hA : Below z.heap.size z xA := bwc hd bA; clear bA HTaS) | (have hA : Below z.heap.size z xA := bwc (hd.alloc hd.size _) bA; have HQA : Hid (CodeIn xA z.heap.size 0 0 ⟨#[]⟩) := Lib.hid ((codeIn_new z.drew 0 0 ⟨#[]⟩).below bA); have zq : z.heap.size ≤ z.heap.size := Nat.le_refl _; clear bA HTaS)) | (go_at_call 11; refine (HTbS.out _).mono ?_; rintro e xB ⟨rfl, bB⟩; first | (have HQB := Lib.hid (HQA.out.below bB); have hB : Below z.heap.size z xB := bwc hA bB; clear bB HTbS) | (have hB : Below z.heap.size z xB := bwc hA bB; clear bB HTbS) | (have hB : Below z.heap.size z xB := bwc (hA.alloc hA.size _) bB; have HQB : Hid (CodeIn xB xA.heap.size 0 0 ⟨#[]⟩) := Lib.hid ((codeIn_new xA 0 0 ⟨#[]⟩).below bB); have zq : z.heap.size ≤ xA.heap.size := hA.size; clear bB HTbS)) | (go_at_call 17; refine (HXZ.out _ (by first | exact hB | exact hB.alloc hB.size _)).1.mono ?_; rintro e xC ⟨rfl, bC⟩; first | (have HQC := Lib.hid (HQB.out.below bC); have hC : Below z.heap.size z xC := bwc hB bC; have q0 := HQC.out.c0; have q1 := HQC.out.c1; have q2 := HQC.out.c2; have f0 := HQC.out.f 0; have f1 := HQC.out.f 1; have f2 := HQC.out.f 2; clear bC) | (have hC : Below z.heap.size z xC := bwc hB bC; clear bC) | (have hC : Below z.heap.size z xC := bwc (hB.alloc hB.size _) bC; have HQC : Hid (CodeIn xC xB.heap.size 0 0 ⟨#[]⟩) := Lib.hid ((codeIn_new xB 0 0 ⟨#[]⟩).below bC); have zq : z.heap.size ≤ xB.heap.size := hB.size; have q0 := HQC.out.c0; have q1 := HQC.out.c1; have q2 := HQC.out.c2; have f0 := HQC.out.f 0; have f1 := HQC.out.f 1; have f2 := HQC.out.f 2; clear bC)))
    all_goals (
      go_wp2_with fail
      go_meet
      first | exact ⟨_, rfl, by first | rfl | (simp; done), Lib.hid (codeIn_new _ _ _ _), Lib.hid (hC.alloc hC.size _)⟩ | exact ⟨_, rfl, by first | rfl | (simp; done), Lib.hid (codeIn_set HQC.out _ _ _), Lib.hid (below_set hC zq _ _ _)⟩)
  case rest =>
    obtain ⟨GS, rfl, rfl, HKS, HBS⟩ := hcut
    have HC3 := Lib.hid (HC2.out.trans (HBS.out.mono HC2.out.size))
    have HB3 := Lib.hid (HB2.out.trans (HBS.out.mono HB2.out.size))
    clear SX SXS HXZ ZG x0 hd c0 c1 c2 d0 d1 d2 HBS HC2 HB2
    obtain ⟨z, hz⟩ : ∃ z, z = wc := ⟨_, rfl⟩
    rw [← hz] at HC3 HB3 HKS
    rw [← hz]
    clear hz
    have ZG : Hid (w.heap.size + 2 ≤ z.heap.size) := Lib.hid (by have h1 := HC3.out.size; have h2 := HZ0.out; omega)
    have SX : Hid (∀ w', Below z.heap.size z w' → w'.cell? ⟨w.heap.size, 0, none⟩ = some (.int .i64 K) ∧ w'.cell? ⟨w.heap.size, 1, none⟩ = some (.int .i64 N) ∧ w'.cell? ⟨w.heap.size, 2, none⟩ = some (.string o) ∧ w'.cell? ⟨w.heap.size + 1, 0, none⟩ = some (.int .i64 K') ∧ w'.cell? ⟨w.heap.size + 1, 1, none⟩ = some (.int .i64 N') ∧ w'.cell? ⟨w.heap.size + 1, 2, none⟩ = some (.string o')) := Lib.hid fun w' h => six_of (HL.out.below (HC3.out.trans (h.mono HC3.out.size))) (HL'.out.below (HC3.out.trans (h.mono HC3.out.size)))
    have SXS : Hid (∀ w'', Below z.heap.size z w'' → ∀ G, z.heap.size ≤ G → ∀ x y v, (fun w' => w'.cell? ⟨w.heap.size, 0, none⟩ = some (.int .i64 K) ∧ w'.cell? ⟨w.heap.size, 1, none⟩ = some (.int .i64 N) ∧ w'.cell? ⟨w.heap.size, 2, none⟩ = some (.string o) ∧ w'.cell? ⟨w.heap.size + 1, 0, none⟩ = some (.int .i64 K') ∧ w'.cell? ⟨w.heap.size + 1, 1, none⟩ = some (.int .i64 N') ∧ w'.cell? ⟨w.heap.size + 1, 2, none⟩ = some (.string o')) (((w''.setCell ⟨G, 0, none⟩ x).setCell ⟨G, 1, none⟩ y).setCell ⟨G, 2, none⟩ v)) := Lib.hid fun w'' h G hG x y v => six_of (lawIn_later (HL.out.below (HC3.out.trans (h.mono HC3.out.size))) (below_set (Below.refl (w.heap.size + 2) w'') (Nat.le_trans ZG.out hG) x y v) (by omega)) (lawIn_later (HL'.out.below (HC3.out.trans (h.mono HC3.out.size))) (below_set (Below.refl (w.heap.size + 2) w'') (Nat.le_trans ZG.out hG) x y v) (by omega))
    have HXZ : Hid (∀ w', Below z.heap.size z w' → _) := Lib.hid fun w' h => HX.out w' (HB3.out.trans (h.mono HB3.out.size))
    have x0 : Below z.heap.size z z := Below.refl _ _
    have hd : Below z.heap.size z z.drew := x0.drew
    have HTaI := HT
    have HTbI := HT'
    obtain ⟨c0, c1, c2, d0, d1, d2⟩ := SX.out z x0
    go_upto_region 9 with (fail)
    go_cut [8, 9] from 28 to 35 (fun sp sb wx => ∃ G, sp = .pointer (some ⟨G, 0, none⟩) ∧ sb = .bool b ∧ Hid (CodeIn wx G K1 N1 o1) ∧ Hid (Below z.heap.size (z) wx))
    case first =>
      go_region_held3 (fun w' => w'.cell? ⟨w.heap.size, 0, none⟩ = some (.int .i64 K) ∧ w'.cell? ⟨w.heap.size, 1, none⟩ = some (.int .i64 N) ∧ w'.cell? ⟨w.heap.size, 2, none⟩ = some (.string o) ∧ w'.cell? ⟨w.heap.size + 1, 0, none⟩ = some (.int .i64 K') ∧ w'.cell? ⟨w.heap.size + 1, 1, none⟩ = some (.int .i64 N') ∧ w'.cell? ⟨w.heap.size + 1, 2, none⟩ = some (.string o')) (first | exact SX.out _ hC | exact SX.out _ hB | exact SX.out _ hA | exact SX.out _ hd | exact SX.out _ x0 | exact SX.out _ (hC.alloc hC.size _) | exact SX.out _ (hB.alloc hB.size _) | exact SX.out _ (hA.alloc hA.size _) | exact SX.out _ (hd.alloc hd.size _) | exact SXS.out _ hC _ zq _ _ _ | go_keep) (first | (go_at_call 11; refine (HTaI.out _).mono ?_; rintro e xA ⟨rfl, bA⟩; first | (have hA : Below z.heap.size z xA := bwc hd bA; clear bA HTaI) | (have hA : Below z.heap.size z xA := bwc (hd.alloc hd.size _) bA; have HQA : Hid (CodeIn xA z.heap.size 0 0 ⟨#[]⟩) := Lib.hid ((codeIn_new z.drew 0 0 ⟨#[]⟩).below bA); have zq : z.heap.size ≤ z.heap.size := Nat.le_refl _; clear bA HTaI)) | (go_at_call 11; refine (HTbI.out _).mono ?_; rintro e xB ⟨rfl, bB⟩; first | (have HQB := Lib.hid (HQA.out.below bB); have hB : Below z.heap.size z xB := bwc hA bB; clear bB HTbI) | (have hB : Below z.heap.size z xB := bwc hA bB; clear bB HTbI) | (have hB : Below z.heap.size z xB := bwc (hA.alloc hA.size _) bB; have HQB : Hid (CodeIn xB xA.heap.size 0 0 ⟨#[]⟩) := Lib.hid ((codeIn_new xA 0 0 ⟨#[]⟩).below bB); have zq : z.heap.size ≤ xA.heap.size := hA.size; clear bB HTbI)) | (go_at_call 18; refine (HXZ.out _ (by first | exact hB | exact hB.alloc hB.size _)).2.mono ?_; rintro e xC ⟨rfl, bC⟩; first | (have HQC := Lib.hid (HQB.out.below bC); have hC : Below z.heap.size z xC := bwc hB bC; have q0 := HQC.out.c0; have q1 := HQC.out.c1; have q2 := HQC.out.c2; have f0 := HQC.out.f 0; have f1 := HQC.out.f 1; have f2 := HQC.out.f 2; clear bC) | (have hC : Below z.heap.size z xC := bwc hB bC; clear bC) | (have hC : Below z.heap.size z xC := bwc (hB.alloc hB.size _) bC; have HQC : Hid (CodeIn xC xB.heap.size 0 0 ⟨#[]⟩) := Lib.hid ((codeIn_new xB 0 0 ⟨#[]⟩).below bC); have zq : z.heap.size ≤ xB.heap.size := hB.size; have q0 := HQC.out.c0; have q1 := HQC.out.c1; have q2 := HQC.out.c2; have f0 := HQC.out.f 0; have f1 := HQC.out.f 1; have f2 := HQC.out.f 2; clear bC)))
      all_goals (
        go_wp2_with fail
        go_meet
        first | exact ⟨_, rfl, by first | rfl | (simp; done), Lib.hid (codeIn_new _ _ _ _), Lib.hid (hC.alloc hC.size _)⟩ | exact ⟨_, rfl, by first | rfl | (simp; done), Lib.hid (codeIn_set HQC.out _ _ _), Lib.hid (below_set hC zq _ _ _)⟩)
    case rest =>
      obtain ⟨GI, rfl, rfl, HKI, HBI⟩ := hcut
      have HB4 := Lib.hid (HB3.out.trans (HBI.out.mono HB3.out.size))
      have HKS4 := Lib.hid (HKS.out.below HBI.out)
      have e0 := HKS4.out.c0
      have e1 := HKS4.out.c1
      have e2 := HKS4.out.c2
      have j0 := HKI.out.c0
      have j1 := HKI.out.c1
      have j2 := HKI.out.c2
      clear SX SXS HXZ ZG x0 hd c0 c1 c2 d0 d1 d2
      go_wp2_with fail
      refine (HE.out _).mono ?_
      rintro e w9 ⟨rfl, hb9⟩
      have HB9 := Lib.hid (HB4.out.trans (hb9.mono HB4.out.size))
      clear hb9
      go_wp2
      go_ret
      exact ⟨rfl, HB9.out⟩

set_option maxRecDepth 100000 in
set_option maxHeartbeats 1600000 in
theorem law_copyCode (K N a K1 N1 : Int) (o1 : ByteArray) (b : Bool)  (w : World) (hX : Alike w 20 21 #[.int .i64 K, .int .i64 N, .int .i64 a] (.tuple #[.agg #[.int .i64 K1, .int .i64 N1, .string o1], .bool b])) :
    Calls Try.prog 7 #[.int .i64 K, .int .i64 N, .int .i64 a] w (Says (.bool true) w) := by
  have HX1 := Lib.hid hX
  clear hX
  have HB0 := Lib.hid (Below.refl w.heap.size w)
  have HE := Lib.hid (eq_code K1 N1 o1)
  go_enter Try.func7, Try.ntmps7
  have HX := Lib.hid (HX1.out)
  have H1 := Lib.hid (HX.out _ HB0.out).1
  go_wp2_with fail
  refine H1.out.mono ?_
  rintro e w1 ⟨rfl, hb1⟩
  have HB1 := Lib.hid (HB0.out.trans (hb1.mono HB0.out.size))
  clear hb1
  obtain ⟨v1, hv1⟩ : ∃ W, w1.alloc (.cells #[.int .i64 K1, .int .i64 N1, .string o1] 26) = W := ⟨_, rfl⟩
  have hx1 : Below w1.heap.size w1 v1 := by rw [← hv1]; exact (Below.refl _ _).alloc (Nat.le_refl _) _
  have HK : Hid (CodeIn v1 w1.heap.size K1 N1 o1) := Lib.hid (by rw [← hv1]; exact codeIn_new _ _ _ _)
  have HD1b : Hid (Below v1.heap.size v1 v1) := Lib.hid (Below.refl _ _)
  have HB1b := Lib.hid (HB1.out.trans (hx1.mono HB1.out.size))
  have HV1 := Lib.hid hv1
  clear hv1 hx1
  have e0 : (w1.alloc (.cells #[.int .i64 K1, .int .i64 N1, .string o1] 26)).cell? ⟨w1.heap.size, 0, none⟩ = some (.int .i64 K1) := by rw [HV1.out]; exact (HK.out.below HD1b.out).c0
  have e1 : (w1.alloc (.cells #[.int .i64 K1, .int .i64 N1, .string o1] 26)).cell? ⟨w1.heap.size, 1, none⟩ = some (.int .i64 N1) := by rw [HV1.out]; exact (HK.out.below HD1b.out).c1
  have e2 : (w1.alloc (.cells #[.int .i64 K1, .int .i64 N1, .string o1] 26)).cell? ⟨w1.heap.size, 2, none⟩ = some (.string o1) := by rw [HV1.out]; exact (HK.out.below HD1b.out).c2
  have H2 := Lib.hid (HX.out _ HB1b.out).2
  go_wp2_with fail
  rw [HV1.out]
  refine H2.out.mono ?_
  rintro e w2 ⟨rfl, hb2⟩
  clear e0 e1 e2
  have HD2 := Lib.hid (HD1b.out.trans (hb2.mono HD1b.out.size))
  have HB2 := Lib.hid (HB1b.out.trans (hb2.mono HB1b.out.size))
  clear hb2
  obtain ⟨v2, hv2⟩ : ∃ W, w2.alloc (.cells #[.int .i64 K1, .int .i64 N1, .string o1] 26) = W := ⟨_, rfl⟩
  have hx2 : Below w2.heap.size w2 v2 := by rw [← hv2]; exact (Below.refl _ _).alloc (Nat.le_refl _) _
  have HD2b := Lib.hid (HD2.out.trans (hx2.mono HD2.out.size))
  have HB2b := Lib.hid (HB2.out.trans (hx2.mono HB2.out.size))
  have HV2 := Lib.hid hv2
  clear hv2 hx2
  have e0 : (w2.alloc (.cells #[.int .i64 K1, .int .i64 N1, .string o1] 26)).cell? ⟨w1.heap.size, 0, none⟩ = some (.int .i64 K1) := by rw [HV2.out]; exact (HK.out.below HD2b.out).c0
  have e1 : (w2.alloc (.cells #[.int .i64 K1, .int .i64 N1, .string o1] 26)).cell? ⟨w1.heap.size, 1, none⟩ = some (.int .i64 N1) := by rw [HV2.out]; exact (HK.out.below HD2b.out).c1
  have e2 : (w2.alloc (.cells #[.int .i64 K1, .int .i64 N1, .string o1] 26)).cell? ⟨w1.heap.size, 2, none⟩ = some (.string o1) := by rw [HV2.out]; exact (HK.out.below HD2b.out).c2
  go_wp2_with fail
  rw [HV2.out]
  refine (HE.out _).mono ?_
  rintro e w3 ⟨rfl, hb3⟩
  clear e0 e1 e2
  have HD3 := Lib.hid (HD2b.out.trans (hb3.mono HD2b.out.size))
  have HB3 := Lib.hid (HB2b.out.trans (hb3.mono HB2b.out.size))
  clear hb3
  have e0 := (HK.out.below HD3.out).c0
  have e1 := (HK.out.below HD3.out).c1
  have e2 := (HK.out.below HD3.out).c2
  go_wp2
  go_ret
  exact ⟨rfl, HB3.out⟩

set_option maxRecDepth 100000 in
set_option maxHeartbeats 1600000 in
theorem law_equalCode (K N K' N' : Int) (o o' : ByteArray) (b : Bool) (ho : o.size ≤ 9223372036854775807) (ho' : o'.size ≤ 9223372036854775807) (w : World) (hX : o.size ≤ 1048576 → o'.size ≤ 1048576 → Alike w 22 23 #[.agg #[.int .i64 K, .int .i64 N, .string o], .agg #[.int .i64 K', .int .i64 N', .string o']] (.bool b)) :
    Calls Try.prog 8 #[.agg #[.int .i64 K, .int .i64 N, .string o], .agg #[.int .i64 K', .int .i64 N', .string o']] w (Says (.bool true) w) := by
  have HX1 := Lib.hid hX
  clear hX
  obtain ⟨W0, hW0⟩ : ∃ W0, ((w.alloc (.cells #[.int .i64 K, .int .i64 N, .string o] 23)).alloc (.cells #[.int .i64 K', .int .i64 N', .string o'] 23)) = W0 := ⟨_, rfl⟩
  have HB0 : Hid (Below w.heap.size w W0) := Lib.hid (by rw [← hW0]; exact ((Below.refl _ _).alloc (Nat.le_refl _) _).alloc (by simp) _)
  have HC0 : Hid (Below W0.heap.size W0 W0) := Lib.hid (Below.refl _ _)
  have HT := Lib.hid (to_code K N o)
  have HL : Hid (LawIn W0 w.heap.size K N o) := Lib.hid (by rw [← hW0]; exact (lawIn_new w K N o).below ((Below.refl _ _).alloc (Nat.le_refl _) _))
  have HL' : Hid (LawIn W0 (w.heap.size + 1) K' N' o') := Lib.hid (by have h := lawIn_new (w.alloc (.cells #[.int .i64 K, .int .i64 N, .string o] 23)) K' N' o'; rw [World.size_alloc] at h; rw [← hW0]; exact h)
  have HT' := Lib.hid (to_code K' N' o')
  have HW := Lib.hid hW0
  have HZ := Lib.hid (sz_code K N o 1048576 (by decide) (by decide) ho W0)
  clear hW0
  have c0 := HL.out.c0
  have c1 := HL.out.c1
  have c2 := HL.out.c2
  have d0 := HL'.out.c0
  have d1 := HL'.out.c1
  have d2 := HL'.out.c2
  go_enter Try.func8, Try.ntmps8
  go_wp2_with fail
  rw [HW.out]
  refine HZ.out.mono ?_
  rintro e w1 ⟨r, rfl, hr1, hb1⟩
  clear c0 c1 c2 d0 d1 d2
  have HC1 := Lib.hid (HC0.out.trans (hb1.mono HC0.out.size))
  have HB1 := Lib.hid (HB0.out.trans (hb1.mono HB0.out.size))
  clear hb1
  have c0 := (HL.out.below HC1.out).c0
  have c1 := (HL.out.below HC1.out).c1
  have c2 := (HL.out.below HC1.out).c2
  have d0 := (HL'.out.below HC1.out).c0
  have d1 := (HL'.out.below HC1.out).c1
  have d2 := (HL'.out.below HC1.out).c2
  rcases hr1 with rfl | ⟨hr1a, hr1b⟩
  · go_wp2
    go_ret
    exact ⟨rfl, HB1.out⟩
  have g1 : ¬ r < 0 := by omega
  have hr1c : r ≤ 1048576 := by omega
  have HO1 : Hid (o.size ≤ 1048576) := Lib.hid (by omega)
  clear hr1b
  have HZ' := Lib.hid (sz_code K' N' o' r hr1a hr1c ho' w1)
  go_wp2_with fail
  refine HZ'.out.mono ?_
  rintro e w2 ⟨r', rfl, hr2, hb2⟩
  clear c0 c1 c2 d0 d1 d2
  have HC2 := Lib.hid (HC1.out.trans (hb2.mono HC1.out.size))
  have HB2 := Lib.hid (HB1.out.trans (hb2.mono HB1.out.size))
  clear hb2
  have c0 := (HL.out.below HC2.out).c0
  have c1 := (HL.out.below HC2.out).c1
  have c2 := (HL.out.below HC2.out).c2
  have d0 := (HL'.out.below HC2.out).c0
  have d1 := (HL'.out.below HC2.out).c1
  have d2 := (HL'.out.below HC2.out).c2
  rcases hr2 with rfl | ⟨hr2a, hr2b⟩
  · go_wp2
    go_ret
    exact ⟨rfl, HB2.out⟩
  have g2 : ¬ r' < 0 := by omega
  have hr2c : r' ≤ 1048576 := by omega
  have HO2 : Hid (o'.size ≤ 1048576) := Lib.hid (by omega)
  clear hr2b
  have HX := Lib.hid (HX1.out HO1.out HO2.out)
  clear c0 c1 c2 d0 d1 d2
  have sS0 := six_of (HL.out.below HC2.out) (HL'.out.below HC2.out)
  obtain ⟨c0, c1, c2, d0, d1, d2⟩ := sS0
  have HTaS := HT
  have HTbS := HT'
  go_wp2
  go_region_held3 (fun w' => w'.cell? ⟨w.heap.size, 0, none⟩ = some (.int .i64 K) ∧ w'.cell? ⟨w.heap.size, 1, none⟩ = some (.int .i64 N) ∧ w'.cell? ⟨w.heap.size, 2, none⟩ = some (.string o) ∧ w'.cell? ⟨w.heap.size + 1, 0, none⟩ = some (.int .i64 K') ∧ w'.cell? ⟨w.heap.size + 1, 1, none⟩ = some (.int .i64 N') ∧ w'.cell? ⟨w.heap.size + 1, 2, none⟩ = some (.string o')) (first | exact sS0 | exact sSA | exact sSB | exact sSC | exact SSD.out _ | go_keep) (first | (go_at_call 11; refine (HTaS.out _).mono ?_; rintro e wSA ⟨rfl, hSA⟩; have CSA := Lib.hid (HC2.out.trans (((drewN_below (Below.refl _ _) 1).trans hSA).mono HC2.out.size)); have BSA := Lib.hid (HB2.out.trans (((drewN_below (Below.refl _ _) 1).trans hSA).mono HB2.out.size)); have sSA := six_of (HL.out.below CSA.out) (HL'.out.below CSA.out); clear hSA HTaS) | (go_at_call 11; refine (HTbS.out _).mono ?_; rintro e wSB ⟨rfl, hSB⟩; have CSB := Lib.hid (CSA.out.trans (hSB.mono CSA.out.size)); have BSB := Lib.hid (BSA.out.trans (hSB.mono BSA.out.size)); have sSB := six_of (HL.out.below CSB.out) (HL'.out.below CSB.out); clear hSB HTbS) | (go_at_call 22; refine (HX.out _ BSB.out).1.mono ?_; rintro e wSC ⟨rfl, hSC⟩; have CSC := Lib.hid (CSB.out.trans (hSC.mono CSB.out.size)); have BSC := Lib.hid (BSB.out.trans (hSC.mono BSB.out.size)); have sSC := six_of (HL.out.below CSC.out) (HL'.out.below CSC.out); have SSD := Lib.hid (fun x => six_of (HL.out.below (CSC.out.alloc CSC.out.size x)) (HL'.out.below (CSC.out.alloc CSC.out.size x))); clear hSC))
  have HCSC := CSC
  have HBSC := BSC
  clear c0 c1 c2 d0 d1 d2
  have sI0 := six_of (HL.out.below HCSC.out) (HL'.out.below HCSC.out)
  obtain ⟨c0, c1, c2, d0, d1, d2⟩ := sI0
  have HTaI := HT
  have HTbI := HT'
  go_wp2
  go_region_held3 (fun w' => w'.cell? ⟨w.heap.size, 0, none⟩ = some (.int .i64 K) ∧ w'.cell? ⟨w.heap.size, 1, none⟩ = some (.int .i64 N) ∧ w'.cell? ⟨w.heap.size, 2, none⟩ = some (.string o) ∧ w'.cell? ⟨w.heap.size + 1, 0, none⟩ = some (.int .i64 K') ∧ w'.cell? ⟨w.heap.size + 1, 1, none⟩ = some (.int .i64 N') ∧ w'.cell? ⟨w.heap.size + 1, 2, none⟩ = some (.string o')) (first | exact sI0 | exact sIA | exact sIB | exact sIC | exact SID.out _ | go_keep) (first | (go_at_call 11; refine (HTaI.out _).mono ?_; rintro e wIA ⟨rfl, hIA⟩; have CIA := Lib.hid (HCSC.out.trans (((drewN_below (Below.refl _ _) 1).trans hIA).mono HCSC.out.size)); have BIA := Lib.hid (HBSC.out.trans (((drewN_below (Below.refl _ _) 1).trans hIA).mono HBSC.out.size)); have sIA := six_of (HL.out.below CIA.out) (HL'.out.below CIA.out); clear hIA HTaI) | (go_at_call 11; refine (HTbI.out _).mono ?_; rintro e wIB ⟨rfl, hIB⟩; have CIB := Lib.hid (CIA.out.trans (hIB.mono CIA.out.size)); have BIB := Lib.hid (BIA.out.trans (hIB.mono BIA.out.size)); have sIB := six_of (HL.out.below CIB.out) (HL'.out.below CIB.out); clear hIB HTbI) | (go_at_call 23; refine (HX.out _ BIB.out).2.mono ?_; rintro e wIC ⟨rfl, hIC⟩; have CIC := Lib.hid (CIB.out.trans (hIC.mono CIB.out.size)); have BIC := Lib.hid (BIB.out.trans (hIC.mono BIB.out.size)); have sIC := six_of (HL.out.below CIC.out) (HL'.out.below CIC.out); have SID := Lib.hid (fun x => six_of (HL.out.below (CIC.out.alloc CIC.out.size x)) (HL'.out.below (CIC.out.alloc CIC.out.size x))); clear hIC))
  have HCIC := CIC
  have HBIC := BIC
  clear c0 c1 c2 d0 d1 d2
  go_wp2
  go_ret
  exact ⟨rfl, HBIC.out⟩
end Go.Proofs.Ytogmmjiajajinaa
