/-
  The program's begin, end and differs of a pair of words: as the plain words say; nothing that was there before is changed.
-/
import Derived.Test.YtcoiodfggaanbaaPairKey
import Derived.Test.YtcoiodfggaanbaaPairList
import Derived.Test.YtcoiodfggaanbaaCodeOps
import Derived.Test.YtcoiodfggaanbaaCodeIA
import Derived.Deep.AppendLies
namespace Go.Proofs.Ytcoiodfggaanbaa
open Go Go.RowKit

def valP (p : PW) : Value := .agg #[.string p.1, .string p.2]
def PairIn (w : World) (g : Nat) (x y : ByteArray) : Prop := w.heap[g]? = some (.cells #[.string x, .string y] 83 (0, 0))
theorem PairIn.lt {w : World} {g : Nat} {x y : ByteArray} (h : PairIn w g x y) : g < w.heap.size := (Array.getElem?_eq_some_iff.1 h).1
theorem PairIn.c0 {w : World} {g : Nat} {x y : ByteArray} (h : PairIn w g x y) : w.cell? ⟨g, 0, none⟩ = some (.string x) := by simp [World.cell?, show w.heap[g]? = _ from h]
theorem PairIn.c1 {w : World} {g : Nat} {x y : ByteArray} (h : PairIn w g x y) : w.cell? ⟨g, 1, none⟩ = some (.string y) := by simp [World.cell?, show w.heap[g]? = _ from h]
theorem PairIn.f {w : World} {g : Nat} {x y : ByteArray} (h : PairIn w g x y) (j : Nat) : w.frozen? ⟨g, j, none⟩ = false := by simp [World.frozen?, show w.heap[g]? = _ from h]
theorem PairIn.below {w w' : World} {g : Nat} {x y : ByteArray} (h : PairIn w g x y) (hb : Below w.heap.size w w') : PairIn w' g x y := (hb.block g h.lt).trans h
theorem pairIn_new (w : World) (x y : ByteArray) : PairIn (w.alloc (.cells #[.string x, .string y] 83)) w.heap.size x y := heap_alloc_new w _
theorem pairIn_set {w : World} {g : Nat} {x y : ByteArray} (h : PairIn w g x y) (x' y' : ByteArray) : PairIn ((w.setCell ⟨g, 0, none⟩ (.string x')).setCell ⟨g, 1, none⟩ (.string y')) g x' y' :=
  heap_setCell_same _ g 1 _ _ (.string y') (heap_setCell_same w g 0 _ _ (.string x') h)
section
variable {P : Program}
theorem results_code1 {fn : Func} {p : Tmp} {ty : TypeId} (h : fn.results = #[.cell p ty]) (tmps : Array Value) (w : World) (g : Nat) (t : TypeId) (cs : Array Value) (fr : Nat × Nat) (d : TypeDesc)
    (hp : tmps.getD p undef = .pointer (some ⟨g, 0, none⟩)) (hg : w.heap[g]? = some (.cells cs t fr))
    (hu : P.underlying ty = some d) (hd : (match d with | .struct _ | .array _ _ => true | _ => false) = true) (hi : (P.info? ty).map (·.size) = some cs.size) :
    (results fn tmps).run P w = .ok (.agg cs) w := by
  have hp' : tmps[p]?.getD undef = .pointer (some ⟨g, 0, none⟩) := by simpa using hp
  simp [results, h, hp', asAddr, run_loadVar_row w g t ty cs fr d hg hu hd hi]
end
theorem pair_start (x y : ByteArray) (w : World) : ∃ W2, (w.alloc (.cells #[.string x, .string y] 83)).alloc (.cells #[.string ⟨#[]⟩, .string ⟨#[]⟩] 83) = W2 ∧ Below w.heap.size w W2 ∧ W2.heap.size = w.heap.size + 2 ∧ PairIn W2 w.heap.size x y ∧ PairIn W2 (w.heap.size + 1) ⟨#[]⟩ ⟨#[]⟩ := by
  refine ⟨_, rfl, ((Below.refl _ _).alloc (Nat.le_refl _) _).alloc (by simp) _, by simp, ?_, ?_⟩
  · exact (pairIn_new w x y).below ((Below.refl _ _).alloc (Nat.le_refl _) _)
  · have h := pairIn_new (w.alloc (.cells #[.string x, .string y] 83)) ⟨#[]⟩ ⟨#[]⟩
    rw [World.size_alloc] at h
    exact h

set_option maxRecDepth 100000 in
set_option maxHeartbeats 1600000 in
theorem impl_end (x y : ByteArray) (hx : 1 ≤ x.size ∧ x.size ≤ 1000) (hy : 1 ≤ y.size ∧ y.size ≤ 1000) (w : World) :
    Calls Try.prog 124 #[.agg #[.string x, .string y]] w (Says (valP (endP (x, y))) w) := by
  obtain ⟨W2, hW2, hb2, hs2, k1, k2⟩ := pair_start x y w
  have c0 := k1.c0
  have c1 := k1.c1
  have f0 := k2.f 0
  have f1 := k2.f 1
  have HB := Lib.hid hb2
  have HK := Lib.hid k2
  have x0 : (1 : Int) ≤ (x.size : Int) := by omega
  have y0 : (1 : Int) ≤ (y.size : Int) := by omega
  have d0 := k2.c0
  have d1 := k2.c1
  clear hb2 k1 k2
  go_enter Try.func124, Try.ntmps124
  go_wp2_with fail
  go_region
  go_wp2
  refine bodyPost_ret (results_code1 rfl _ _ _ 83 #[.string (x.extract 1 x.size), .string (y.extract 1 y.size)] (0, 0) _ rfl (pairIn_set HK.out _ _) Try.underlying83 rfl (by kernel_rfl)) rfl ?_
  exact ⟨rfl, ((HB.out.setCell (p := ⟨w.heap.size + 1, 0, none⟩) (Nat.le_succ _) _).setCell (p := ⟨w.heap.size + 1, 1, none⟩) (Nat.le_succ _) _).drew⟩

set_option maxRecDepth 100000 in
set_option maxHeartbeats 1600000 in
theorem impl_begin (x y : ByteArray) (hx : 1 ≤ x.size ∧ x.size ≤ 1000) (hy : 1 ≤ y.size ∧ y.size ≤ 1000) (w : World) :
    Calls Try.prog 123 #[.agg #[.string x, .string y]] w (Says (valP (begP (x, y))) w) := by
  obtain ⟨W2, hW2, hb2, hs2, k1, k2⟩ := pair_start x y w
  have c0 := k1.c0
  have c1 := k1.c1
  have f0 := k2.f 0
  have f1 := k2.f 1
  have HB := Lib.hid hb2
  have HK := Lib.hid k2
  have d0 := k2.c0
  have d1 := k2.c1
  have HV : Hid (valP (begP (x, y)) = .agg #[.string (x.extract 0 (x.size - 1)), .string (y.extract 0 (y.size - 1))]) := Lib.hid rfl
  obtain ⟨a, ha⟩ : ∃ a, x.size - 1 = a := ⟨_, rfl⟩
  obtain ⟨b, hb⟩ : ∃ b, y.size - 1 = b := ⟨_, rfl⟩
  rw [ha, hb] at HV
  have x1 : wrap64 ((x.size : Int) - 1) = (a : Int) := by rw [small_wrapI (by omega)]; omega
  have x2 : IntKind.i64.wrap ((x.size : Int) - 1) = (a : Int) := by rw [IntKind.wrap_i64]; omega
  have y1 : wrap64 ((y.size : Int) - 1) = (b : Int) := by rw [small_wrapI (by omega)]; omega
  have y2 : IntKind.i64.wrap ((y.size : Int) - 1) = (b : Int) := by rw [IntKind.wrap_i64]; omega
  have x3 : (0 : Int) ≤ (a : Int) := Int.natCast_nonneg a
  have x4 : (a : Int) ≤ (x.size : Int) := by omega
  have y3 : (0 : Int) ≤ (b : Int) := Int.natCast_nonneg b
  have y4 : (b : Int) ≤ (y.size : Int) := by omega
  clear hb2 k1 k2 hx hy ha hb
  go_enter Try.func123, Try.ntmps123
  go_wp2_with fail
  go_region
  go_wp2
  refine bodyPost_ret (results_code1 rfl _ _ _ 83 #[.string (x.extract 0 a), .string (y.extract 0 b)] (0, 0) _ rfl (pairIn_set HK.out _ _) Try.underlying83 rfl (by kernel_rfl)) rfl ?_
  exact ⟨by rw [HV.out], ((HB.out.setCell (p := ⟨w.heap.size + 1, 0, none⟩) (Nat.le_succ _) _).setCell (p := ⟨w.heap.size + 1, 1, none⟩) (Nat.le_succ _) _).drew⟩
theorem dif_is (x y : ByteArray) : (!(x.toList == y.toList)) = difP (x, y) := by
  unfold difP
  by_cases h : x = y
  · subst h; simp
  · have h1 : x.toList ≠ y.toList := fun e => h (ByteArray.ext (Array.toList_inj.1 (by rwa [ByteArray.toList_eq, ByteArray.toList_eq] at e)))
    rw [beq_eq_false_iff_ne.2 h1]
    simp [h]
set_option maxRecDepth 100000 in
set_option maxHeartbeats 1600000 in
theorem impl_differs (p : PW) (w : World) :
    Calls Try.prog 74 #[valP p] w (Says (.bool (difP p)) w) := by
  obtain ⟨x, y⟩ := p
  have k1 := pairIn_new w x y
  have c0 := k1.c0
  have c1 := k1.c1
  have HB0 := Lib.hid ((Below.refl w.heap.size w).alloc (Nat.le_refl _) (.cells #[.string x, .string y] 83))
  clear k1
  unfold valP
  have HD := Lib.hid (dif_is x y)
  go_enter Try.func74, Try.ntmps74
  go_wp2
  go_ret
  exact ⟨by rw [← HD.out]; rfl, HB0.out⟩
end Go.Proofs.Ytcoiodfggaanbaa
