/-
  The program's ApplyCode and ApplyRing: as the plain words say; nothing that was there before is changed.
-/
import Derived.Test.YtcoiodfggaanbaaCodeIA
namespace Go.Proofs.Ytcoiodfggaanbaa
open Go Go.RowKit

set_option maxRecDepth 100000 in
theorem impl_codeFor (K N : Int) (o v : ByteArray) (ho : o.size ≤ 1099511627776) (hv : v.size ≤ 1099511627776) (w : World) :
    Calls Try.prog 98 #[.agg #[.int .i64 K, .int .i64 N, .string o], .string v] w (Says (.bool (appOk K N o v)) w) := by
  have hk := codeIn_new w K N o
  have HK := Lib.hid hk
  have hb0 := (Below.refl w.heap.size w).alloc (Nat.le_refl _) (.cells #[.int .i64 K, .int .i64 N, .string o] 25)
  have HB0 := Lib.hid hb0
  have HI := Lib.hid (impl_isCode K N o ho)
  have HW := Lib.hid (impl_isWord K v hv)
  clear hk hb0
  cases h1 : isCodeB K N o with
  | false =>
    rw [h1] at HI
    have HN : Hid (appOk K N o v = false) := Lib.hid (by unfold appOk; rw [h1]; rfl)
    clear h1
    go_enter Try.func98, Try.ntmps98
    go_wp2_with fail
    refine (HI.out _).mono ?_
    rintro e w1 ⟨rfl, hb1⟩
    have HB1 := Lib.hid (HB0.out.trans (hb1.mono HB0.out.size))
    clear hb1
    go_wp2
    go_ret
    exact ⟨by simp [HN.out], HB1.out⟩
  | true =>
    rw [h1] at HI
    have HN : Hid (appOk K N o v = isW K v) := Lib.hid (by unfold appOk; rw [h1]; rfl)
    clear h1
    generalize isW K v = b at *
    go_enter Try.func98, Try.ntmps98
    go_wp2_with fail
    refine (HI.out _).mono ?_
    rintro e w1 ⟨rfl, hb1⟩
    have HB1 := Lib.hid (HB0.out.trans (hb1.mono HB0.out.size))
    have c0 := (HK.out.below hb1).c0
    clear hb1
    go_wp2_with fail
    refine (HW.out _).mono ?_
    rintro e w2 ⟨rfl, rfl⟩
    go_wp2
    go_ret
    exact ⟨by simp [HN.out], HB1.out⟩

end Go.Proofs.Ytcoiodfggaanbaa
