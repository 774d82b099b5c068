/-
  The model's look at what can be asked for: as the plain words say; nothing that was there before is changed.
-/
import Derived.Test.YtlncehnbdhkaoaaFirstNum
import Derived.Test.YtlncehnbdhkaoaaCodeSpecA
import Derived.Test.YtlncehnbdhkaoaaAllW
namespace Go.Proofs.Ytlncehnbdhkaoaa
open Go Go.RowKit

set_option maxRecDepth 100000 in
theorem spec_fits (K N : Int) (o v : ByteArray) (ho : o.size ≤ 1099511627776) (hv : v.size ≤ 1099511627776) (w : World) :
    Calls Try.prog 40 #[.agg #[.int .i64 K, .int .i64 N, .string o], .string v] w (Says (.bool (fitsB K N o v)) w) := by
  have hk := codeIn_new w K N o
  have HK := Lib.hid hk
  have HB0 := Lib.hid ((Below.refl w.heap.size w).alloc (Nat.le_refl _) (.cells #[.int .i64 K, .int .i64 N, .string o] 25))
  have HI := Lib.hid (spec_isCode K N o ho)
  have HW := Lib.hid (spec_isWord K v hv)
  clear hk
  cases h1 : isCodeB K N o with
  | false =>
    rw [h1] at HI
    have HN : Hid (fitsB K N o v = false) := Lib.hid (by unfold fitsB appOk; rw [h1]; rfl)
    clear h1
    go_enter Try.func40, Try.ntmps40
    go_wp2_with fail
    refine (HI.out _).mono ?_
    rintro e w1 ⟨rfl, hb1⟩
    have HB1 := Lib.hid (HB0.out.trans (hb1.mono HB0.out.size))
    clear hb1
    go_wp2
    go_ret
    exact ⟨by simp [HN.out], HB1.out⟩
  | true =>
    rw [h1] at HI
    cases h2 : isW K v with
    | false =>
      rw [h2] at HW
      have HN : Hid (fitsB K N o v = false) := Lib.hid (by unfold fitsB appOk; rw [h1, h2]; rfl)
      clear h1 h2
      go_enter Try.func40, Try.ntmps40
      go_wp2_with fail
      refine (HI.out _).mono ?_
      rintro e w1 ⟨rfl, hb1⟩
      have HB1 := Lib.hid (HB0.out.trans (hb1.mono HB0.out.size))
      have c0 := (HK.out.below hb1).c0
      clear hb1
      go_wp2_with fail
      refine (HW.out _).mono ?_
      rintro e w2 ⟨rfl, rfl⟩
      go_wp2
      go_ret
      exact ⟨by simp [HN.out], HB1.out⟩
    | true =>
      rw [h2] at HW
      have HN : Hid (fitsB K N o v = decide (v.size ≤ 8)) := Lib.hid (by unfold fitsB appOk; rw [h1, h2]; rfl)
      clear h1 h2
      go_enter Try.func40, Try.ntmps40
      go_wp2_with fail
      refine (HI.out _).mono ?_
      rintro e w1 ⟨rfl, hb1⟩
      have HB1 := Lib.hid (HB0.out.trans (hb1.mono HB0.out.size))
      have c0 := (HK.out.below hb1).c0
      clear hb1
      go_wp2_with fail
      refine (HW.out _).mono ?_
      rintro e w2 ⟨rfl, rfl⟩
      go_wp2
      go_ret
      exact ⟨by simp [HN.out]; omega, HB1.out⟩

theorem wraps_sub {x y a : Int} (h : x - y = a) (ha : 0 ≤ a ∧ a ≤ 1000) : IntKind.i64.wrap (x - y) = a ∧ wrap64 (x - y) = a := by
  rw [h, IntKind.wrap_i64]
  exact ⟨by omega, small_wrap (by omega)⟩
theorem wraps_one {a : Int} (ha : 0 ≤ a ∧ a ≤ 1000) : IntKind.i64.wrap (a + 1) = a + 1 ∧ wrap64 (a + 1) = a + 1 := by
  rw [IntKind.wrap_i64]
  exact ⟨by omega, small_wrap (by omega)⟩

end Go.Proofs.Ytlncehnbdhkaoaa
