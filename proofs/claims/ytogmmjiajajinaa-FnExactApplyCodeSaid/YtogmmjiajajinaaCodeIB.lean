/-
  The program's ApplyCode and ApplyRing: as the plain words say; nothing that was there before is changed.
-/
import Derived.Test.YtogmmjiajajinaaCodeIA
namespace Go.Proofs.Ytogmmjiajajinaa
open Go Go.RowKit

set_option maxRecDepth 100000 in
theorem impl_codeFor (K N : Int) (o v : ByteArray) (ho : o.size ≤ 1099511627776) (hv : v.size ≤ 1099511627776) (w : World) :
    Calls Try.prog 31 #[.agg #[.int .i64 K, .int .i64 N, .string o], .string v] w (Says (.bool (appOk K N o v)) w) := by
  have hk := codeIn_new w K N o
  have HK := Lib.hid hk
  have hb0 := (Below.refl w.heap.size w).alloc (Nat.le_refl _) (.cells #[.int .i64 K, .int .i64 N, .string o] 26)
  have HB0 := Lib.hid hb0
  have HI := Lib.hid (impl_isCode K N o ho)
  have HW := Lib.hid (impl_isWord K v hv)
  clear hk hb0
  cases h1 : isCodeB K N o with
  | false =>
    rw [h1] at HI
    have HN : Hid (appOk K N o v = false) := Lib.hid (by unfold appOk; rw [h1]; rfl)
    clear h1
    go_enter Try.func31, Try.ntmps31
    go_wp2_with fail
    refine (HI.out _).mono ?_
    rintro e w1 ⟨rfl, hb1⟩
    have HB1 := Lib.hid (HB0.out.trans (hb1.mono HB0.out.size))
    clear hb1
    go_wp2
    go_ret
    exact ⟨by simp [HN.out], HB1.out⟩
  | true =>
    rw [h1] at HI
    have HN : Hid (appOk K N o v = isW K v) := Lib.hid (by unfold appOk; rw [h1]; rfl)
    clear h1
    generalize isW K v = b at *
    go_enter Try.func31, Try.ntmps31
    go_wp2_with fail
    refine (HI.out _).mono ?_
    rintro e w1 ⟨rfl, hb1⟩
    have HB1 := Lib.hid (HB0.out.trans (hb1.mono HB0.out.size))
    have c0 := (HK.out.below hb1).c0
    clear hb1
    go_wp2_with fail
    refine (HW.out _).mono ?_
    rintro e w2 ⟨rfl, rfl⟩
    go_wp2
    go_ret
    exact ⟨by simp [HN.out], HB1.out⟩

set_option maxRecDepth 100000 in
set_option maxHeartbeats 800000 in
theorem impl_applyCode (K N : Int) (o v : ByteArray) (ho : o.size ≤ 1099511627776) (hv : v.size ≤ 1099511627776) (w : World) :
    Calls Try.prog 14 #[.agg #[.int .i64 K, .int .i64 N, .string o], .string v] w (Says (.tuple #[.string (appS K N o v), .bool (appOk K N o v)]) w) := by
  have hk := codeIn_new w K N o
  have HK := Lib.hid hk
  have c0 := hk.c0
  have c1 := hk.c1
  have c2 := hk.c2
  have hb0 := (Below.refl w.heap.size w).alloc (Nat.le_refl _) (.cells #[.int .i64 K, .int .i64 N, .string o] 26)
  have HB0 := Lib.hid hb0
  have HF := Lib.hid (impl_codeFor K N o v ho hv)
  clear hk hb0
  cases hn : appOk K N o v with
  | false =>
    rw [hn] at HF
    have HS := Lib.hid (appS_no hn)
    clear hn
    go_enter Try.func14, Try.ntmps14
    go_wp2_with fail
    refine (HF.out _).mono ?_
    rintro e w1 ⟨rfl, hb1⟩
    have HB1 := Lib.hid (HB0.out.trans (hb1.mono HB0.out.size))
    clear hb1
    go_wp2
    go_ret2
    exact ⟨by rw [HS.out]; rfl, HB1.out⟩
  | true =>
    rw [hn] at HF
    obtain ⟨k, n, rfl, rfl, ok, h16, ha⟩ := appOk_of hn
    have HS := Lib.hid (appS_yes hn)
    have HC := Lib.hid (fun g w' h => impl_coding k n g o v ok (by omega) ha w' h)
    have HM := Lib.hid (impl_codingOf (k : Int) (n : Int) o)
    clear hn ok ha
    go_enter Try.func14, Try.ntmps14
    go_wp2_with fail
    refine (HF.out _).mono ?_
    rintro e w1 ⟨rfl, hb1⟩
    have HB1 := Lib.hid (HB0.out.trans (hb1.mono HB0.out.size))
    have hc := HK.out.below hb1
    clear c0 c1 c2
    have c0 := hc.c0
    have c1 := hc.c1
    have c2 := hc.c2
    clear hb1 hc
    go_wp2_with fail
    refine (HM.out _).mono ?_
    rintro e w2 ⟨rfl, rfl⟩
    have HX := Lib.hid (HC.out w1.heap.size _ (codeIn_new w1 (k : Int) (n : Int) o))
    have HB2 := Lib.hid (HB1.out.alloc HB1.out.size (.cells #[.int .i64 (k : Int), .int .i64 (n : Int), .string o] 26))
    go_wp2_with fail
    refine HX.out.mono ?_
    rintro e w3 ⟨rfl, hb3⟩
    have HB3 := Lib.hid (HB2.out.trans (hb3.mono HB2.out.size))
    clear hb3
    go_wp2
    go_ret2
    exact ⟨by simp [HS.out], HB3.out⟩
end Go.Proofs.Ytogmmjiajajinaa
