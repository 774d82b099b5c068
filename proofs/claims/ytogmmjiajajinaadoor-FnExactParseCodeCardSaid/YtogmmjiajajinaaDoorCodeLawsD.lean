/-
  The laws on codes: where the model and the program answer alike in every world the law returns true; nothing that was there before is changed.
-/
import Derived.Test.YtogmmjiajajinaaDoorCodeOps
import Derived.Deep.CutRange
namespace Go.Proofs.YtogmmjiajajinaaDoor
open Go Go.RowKit

/-- Two functions that answer the same in every world. -/
def Alike (W : World) (f g : Nat) (args : Array Value) (x : Value) : Prop := ∀ w', Below W.heap.size W w' → Calls Tryd.prog f args w' (Says x w') ∧ Calls Tryd.prog g args w' (Says x w')
/-- Block g holds a code of the laws. -/
def LawIn (w : World) (g : Nat) (K N : Int) (o : ByteArray) : Prop := w.heap[g]? = some (.cells #[.int .i64 K, .int .i64 N, .string o] 23 (0, 0))
theorem LawIn.lt {w : World} {g : Nat} {K N : Int} {o : ByteArray} (h : LawIn w g K N o) : g < w.heap.size := (Array.getElem?_eq_some_iff.1 h).1
theorem LawIn.below {w w' : World} {g : Nat} {K N : Int} {o : ByteArray} (h : LawIn w g K N o) (hb : Below w.heap.size w w') : LawIn w' g K N o := (hb.block g h.lt).trans h
theorem LawIn.c0 {w : World} {g : Nat} {K N : Int} {o : ByteArray} (h : LawIn w g K N o) : w.cell? ⟨g, 0, none⟩ = some (.int .i64 K) := by simp [World.cell?, show w.heap[g]? = _ from h]
theorem LawIn.c1 {w : World} {g : Nat} {K N : Int} {o : ByteArray} (h : LawIn w g K N o) : w.cell? ⟨g, 1, none⟩ = some (.int .i64 N) := by simp [World.cell?, show w.heap[g]? = _ from h]
theorem LawIn.c2 {w : World} {g : Nat} {K N : Int} {o : ByteArray} (h : LawIn w g K N o) : w.cell? ⟨g, 2, none⟩ = some (.string o) := by simp [World.cell?, show w.heap[g]? = _ from h]
theorem six_of {w : World} {g : Nat} {K N K' N' : Int} {o o' : ByteArray} (h : LawIn w g K N o) (h' : LawIn w (g + 1) K' N' o') : w.cell? ⟨g, 0, none⟩ = some (.int .i64 K) ∧ w.cell? ⟨g, 1, none⟩ = some (.int .i64 N) ∧ w.cell? ⟨g, 2, none⟩ = some (.string o) ∧ w.cell? ⟨g + 1, 0, none⟩ = some (.int .i64 K') ∧ w.cell? ⟨g + 1, 1, none⟩ = some (.int .i64 N') ∧ w.cell? ⟨g + 1, 2, none⟩ = some (.string o') := ⟨h.c0, h.c1, h.c2, h'.c0, h'.c1, h'.c2⟩
theorem lawIn_later {w w' : World} {B g : Nat} {K N : Int} {o : ByteArray} (h : LawIn w g K N o) (hb : Below B w w') (hg : g < B) : LawIn w' g K N o := (hb.block g hg).trans h
theorem bwc {z x y : World} (h : Below z.heap.size z x) (b : Below x.heap.size x y) : Below z.heap.size z y := h.trans (b.mono h.size)
theorem lawIn_new (w : World) (K N : Int) (o : ByteArray) : LawIn (w.alloc (.cells #[.int .i64 K, .int .i64 N, .string o] 23)) w.heap.size K N o := heap_alloc_new w _

set_option maxRecDepth 100000 in
set_option maxHeartbeats 1600000 in
theorem law_codeText (K N : Int) (o s : ByteArray) (ho : o.size ≤ 9223372036854775807) (w : World) (hX : o.size ≤ 1048576 → Alike w 6 8 #[.agg #[.int .i64 K, .int .i64 N, .string o]] (.string s)) :
    Calls Tryd.prog 3 #[.agg #[.int .i64 K, .int .i64 N, .string o]] w (Says (.bool true) w) := by
  have HX1 := Lib.hid hX
  clear hX
  obtain ⟨W0, hW0⟩ : ∃ W0, (w.alloc (.cells #[.int .i64 K, .int .i64 N, .string o] 23)) = W0 := ⟨_, rfl⟩
  have HB0 : Hid (Below w.heap.size w W0) := Lib.hid (by rw [← hW0]; exact (Below.refl _ _).alloc (Nat.le_refl _) _)
  have HC0 : Hid (Below W0.heap.size W0 W0) := Lib.hid (Below.refl _ _)
  have HT := Lib.hid (to_code K N o)
  have HL : Hid (LawIn W0 w.heap.size K N o) := Lib.hid (by rw [← hW0]; exact lawIn_new w K N o)
  have HW := Lib.hid hW0
  have HZ := Lib.hid (sz_code K N o 1048576 (by decide) (by decide) ho W0)
  clear hW0
  have c0 := HL.out.c0
  have c1 := HL.out.c1
  have c2 := HL.out.c2
  go_enter Tryd.func3, Tryd.ntmps3
  go_wp2_with fail
  rw [HW.out]
  refine HZ.out.mono ?_
  rintro e w1 ⟨r, rfl, hr1, hb1⟩
  clear c0 c1 c2
  have HC1 := Lib.hid (HC0.out.trans (hb1.mono HC0.out.size))
  have HB1 := Lib.hid (HB0.out.trans (hb1.mono HB0.out.size))
  clear hb1
  have c0 := (HL.out.below HC1.out).c0
  have c1 := (HL.out.below HC1.out).c1
  have c2 := (HL.out.below HC1.out).c2
  rcases hr1 with rfl | ⟨hr1a, hr1b⟩
  · go_wp2
    go_ret
    exact ⟨rfl, HB1.out⟩
  have g1 : ¬ r < 0 := by omega
  have hr1c : r ≤ 1048576 := by omega
  have HO1 : Hid (o.size ≤ 1048576) := Lib.hid (by omega)
  clear hr1b
  have HX := Lib.hid (HX1.out HO1.out)
  go_wp2_with fail
  refine (HT.out _).mono ?_
  rintro e w2 ⟨rfl, hb2⟩
  clear c0 c1 c2
  have HC2 := Lib.hid (HC1.out.trans (hb2.mono HC1.out.size))
  have HB2 := Lib.hid (HB1.out.trans (hb2.mono HB1.out.size))
  clear hb2
  have c0 := (HL.out.below HC2.out).c0
  have c1 := (HL.out.below HC2.out).c1
  have c2 := (HL.out.below HC2.out).c2
  have H3 := Lib.hid (HX.out _ HB2.out).1
  go_wp2_with fail
  refine H3.out.mono ?_
  rintro e w3 ⟨rfl, hb3⟩
  clear c0 c1 c2
  have HC3 := Lib.hid (HC2.out.trans (hb3.mono HC2.out.size))
  have HB3 := Lib.hid (HB2.out.trans (hb3.mono HB2.out.size))
  clear hb3
  have c0 := (HL.out.below HC3.out).c0
  have c1 := (HL.out.below HC3.out).c1
  have c2 := (HL.out.below HC3.out).c2
  go_wp2_with fail
  refine (HT.out _).mono ?_
  rintro e w4 ⟨rfl, hb4⟩
  clear c0 c1 c2
  have HC4 := Lib.hid (HC3.out.trans (hb4.mono HC3.out.size))
  have HB4 := Lib.hid (HB3.out.trans (hb4.mono HB3.out.size))
  clear hb4
  have c0 := (HL.out.below HC4.out).c0
  have c1 := (HL.out.below HC4.out).c1
  have c2 := (HL.out.below HC4.out).c2
  have H5 := Lib.hid (HX.out _ HB4.out).2
  go_wp2_with fail
  refine H5.out.mono ?_
  rintro e w5 ⟨rfl, hb5⟩
  clear c0 c1 c2
  have HC5 := Lib.hid (HC4.out.trans (hb5.mono HC4.out.size))
  have HB5 := Lib.hid (HB4.out.trans (hb5.mono HB4.out.size))
  clear hb5
  have c0 := (HL.out.below HC5.out).c0
  have c1 := (HL.out.below HC5.out).c1
  have c2 := (HL.out.below HC5.out).c2
  go_wp2
  go_ret
  exact ⟨rfl, HB5.out⟩

set_option maxRecDepth 100000 in
set_option maxHeartbeats 1600000 in
theorem law_parseCode (K1 N1 : Int) (v o1 : ByteArray) (b : Bool) (hv : v.size ≤ 9223372036854775807) (w : World) (hX : v.size ≤ 1048576 → Alike w 9 10 #[.string v] (.tuple #[.agg #[.int .i64 K1, .int .i64 N1, .string o1], .bool b])) :
    Calls Tryd.prog 4 #[.string v] w (Says (.bool true) w) := by
  by_cases hv1 : 1048576 < v.size
  · clear hX
    have g0 : (1048576 : Int) < (v.size : Int) := by omega
    go_enter Tryd.func4, Tryd.ntmps4
    go_wp2
    go_ret
    exact ⟨rfl, Below.refl _ _⟩
  have hv2 : v.size ≤ 1048576 := by omega
  have hv3 : ¬ (1048576 : Int) < (v.size : Int) := by omega
  have HX1 := Lib.hid hX
  clear hX
  have HB0 := Lib.hid (Below.refl w.heap.size w)
  have HE := Lib.hid (eq_code K1 N1 o1)
  go_enter Tryd.func4, Tryd.ntmps4
  have HX := Lib.hid (HX1.out hv2)
  have H1 := Lib.hid (HX.out _ HB0.out).1
  go_wp2_with fail
  refine H1.out.mono ?_
  rintro e w1 ⟨rfl, hb1⟩
  have HB1 := Lib.hid (HB0.out.trans (hb1.mono HB0.out.size))
  clear hb1
  obtain ⟨v1, hv1⟩ : ∃ W, w1.alloc (.cells #[.int .i64 K1, .int .i64 N1, .string o1] 26) = W := ⟨_, rfl⟩
  have hx1 : Below w1.heap.size w1 v1 := by rw [← hv1]; exact (Below.refl _ _).alloc (Nat.le_refl _) _
  have HK : Hid (CodeIn v1 w1.heap.size K1 N1 o1) := Lib.hid (by rw [← hv1]; exact codeIn_new _ _ _ _)
  have HD1b : Hid (Below v1.heap.size v1 v1) := Lib.hid (Below.refl _ _)
  have HB1b := Lib.hid (HB1.out.trans (hx1.mono HB1.out.size))
  have HV1 := Lib.hid hv1
  clear hv1 hx1
  have e0 : (w1.alloc (.cells #[.int .i64 K1, .int .i64 N1, .string o1] 26)).cell? ⟨w1.heap.size, 0, none⟩ = some (.int .i64 K1) := by rw [HV1.out]; exact (HK.out.below HD1b.out).c0
  have e1 : (w1.alloc (.cells #[.int .i64 K1, .int .i64 N1, .string o1] 26)).cell? ⟨w1.heap.size, 1, none⟩ = some (.int .i64 N1) := by rw [HV1.out]; exact (HK.out.below HD1b.out).c1
  have e2 : (w1.alloc (.cells #[.int .i64 K1, .int .i64 N1, .string o1] 26)).cell? ⟨w1.heap.size, 2, none⟩ = some (.string o1) := by rw [HV1.out]; exact (HK.out.below HD1b.out).c2
  have H2 := Lib.hid (HX.out _ HB1b.out).2
  go_wp2_with fail
  rw [HV1.out]
  refine H2.out.mono ?_
  rintro e w2 ⟨rfl, hb2⟩
  clear e0 e1 e2
  have HD2 := Lib.hid (HD1b.out.trans (hb2.mono HD1b.out.size))
  have HB2 := Lib.hid (HB1b.out.trans (hb2.mono HB1b.out.size))
  clear hb2
  obtain ⟨v2, hv2⟩ : ∃ W, w2.alloc (.cells #[.int .i64 K1, .int .i64 N1, .string o1] 26) = W := ⟨_, rfl⟩
  have hx2 : Below w2.heap.size w2 v2 := by rw [← hv2]; exact (Below.refl _ _).alloc (Nat.le_refl _) _
  have HD2b := Lib.hid (HD2.out.trans (hx2.mono HD2.out.size))
  have HB2b := Lib.hid (HB2.out.trans (hx2.mono HB2.out.size))
  have HV2 := Lib.hid hv2
  clear hv2 hx2
  have e0 : (w2.alloc (.cells #[.int .i64 K1, .int .i64 N1, .string o1] 26)).cell? ⟨w1.heap.size, 0, none⟩ = some (.int .i64 K1) := by rw [HV2.out]; exact (HK.out.below HD2b.out).c0
  have e1 : (w2.alloc (.cells #[.int .i64 K1, .int .i64 N1, .string o1] 26)).cell? ⟨w1.heap.size, 1, none⟩ = some (.int .i64 N1) := by rw [HV2.out]; exact (HK.out.below HD2b.out).c1
  have e2 : (w2.alloc (.cells #[.int .i64 K1, .int .i64 N1, .string o1] 26)).cell? ⟨w1.heap.size, 2, none⟩ = some (.string o1) := by rw [HV2.out]; exact (HK.out.below HD2b.out).c2
  go_wp2_with fail
  rw [HV2.out]
  refine (HE.out _).mono ?_
  rintro e w3 ⟨rfl, hb3⟩
  clear e0 e1 e2
  have HD3 := Lib.hid (HD2b.out.trans (hb3.mono HD2b.out.size))
  have HB3 := Lib.hid (HB2b.out.trans (hb3.mono HB2b.out.size))
  clear hb3
  have e0 := (HK.out.below HD3.out).c0
  have e1 := (HK.out.below HD3.out).c1
  have e2 := (HK.out.below HD3.out).c2
  go_wp2
  go_ret
  exact ⟨rfl, HB3.out⟩
end Go.Proofs.YtogmmjiajajinaaDoor
