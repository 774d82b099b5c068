/-
  The model's ApplyCode and ApplyRing: as the plain words say; nothing that was there before is changed.
-/
import Derived.Test.YtcoiodfggaanbaaCodeSpecA
namespace Go.Proofs.Ytcoiodfggaanbaa
open Go Go.RowKit

set_option maxRecDepth 100000 in
set_option maxHeartbeats 800000 in
theorem spec_applyCode (K N : Int) (o v : ByteArray) (ho : o.size ≤ 1099511627776) (hv : v.size ≤ 1099511627776) (w : World) :
    Calls Try.prog 29 #[.agg #[.int .i64 K, .int .i64 N, .string o], .string v] w (Says (.tuple #[.string (appS K N o v), .bool (appOk K N o v)]) w) := by
  have hk := codeIn_new w K N o
  have HK := Lib.hid hk
  have hb0 := (Below.refl w.heap.size w).alloc (Nat.le_refl _) (.cells #[.int .i64 K, .int .i64 N, .string o] 25)
  have HB0 := Lib.hid hb0
  have HI := Lib.hid (spec_isCode K N o ho)
  have HW := Lib.hid (spec_isWord K v hv)
  have z0 : (w.alloc (.cells #[.int .i64 K, .int .i64 N, .string o] 25)).heap.size = w.heap.size + 1 := World.size_alloc _ _
  clear hk hb0
  cases h1 : isCodeB K N o with
  | false =>
    rw [h1] at HI
    have hn : appOk K N o v = false := by unfold appOk; rw [h1]; rfl
    have HN := Lib.hid hn
    have HS := Lib.hid (appS_no hn)
    clear h1 hn
    go_enter Try.func29, Try.ntmps29
    go_wp2_with fail
    refine (HI.out _).mono ?_
    rintro e w1 ⟨rfl, hb1⟩
    have HB1 := Lib.hid (HB0.out.trans (hb1.mono HB0.out.size))
    clear hb1
    go_wp2
    go_ret2
    exact ⟨by rw [HN.out, HS.out]; rfl, HB1.out⟩
  | true =>
    rw [h1] at HI
    cases h2 : isW K v with
    | false =>
      rw [h2] at HW
      have hn : appOk K N o v = false := by unfold appOk; rw [h1, h2]; rfl
      have HN := Lib.hid hn
      have HS := Lib.hid (appS_no hn)
      clear h1 h2 hn
      go_enter Try.func29, Try.ntmps29
      go_wp2_with fail
      refine (HI.out _).mono ?_
      rintro e w1 ⟨rfl, hb1⟩
      have HB1 := Lib.hid (HB0.out.trans (hb1.mono HB0.out.size))
      have c0 := (HK.out.below hb1).c0
      clear hb1
      go_wp2_with fail
      refine (HW.out _).mono ?_
      rintro e w2 ⟨rfl, rfl⟩
      go_wp2
      go_ret2
      exact ⟨by rw [HN.out, HS.out]; rfl, HB1.out⟩
    | true =>
      rw [h2] at HW
      have hn : appOk K N o v = true := by unfold appOk; rw [h1, h2]; rfl
      have HN := Lib.hid hn
      obtain ⟨k, n, rfl, rfl, ok, h16, ha⟩ := appOk_of hn
      have HS := Lib.hid (appS_yes hn)
      have HA := Lib.hid (fun w' => spec_apply k n o v ok (by omega) ha w')
      clear h1 h2 hn ok ha
      go_enter Try.func29, Try.ntmps29
      go_wp2_with fail
      refine (HI.out _).mono ?_
      rintro e w1 ⟨rfl, hb1⟩
      have HB1 := Lib.hid (HB0.out.trans (hb1.mono HB0.out.size))
      have hc := HK.out.below hb1
      have c0 := hc.c0
      have c1 := hc.c1
      have c2 := hc.c2
      clear hb1 hc
      go_wp2_with fail
      refine (HW.out _).mono ?_
      rintro e w2 ⟨rfl, rfl⟩
      go_wp2_with fail
      refine (HA.out _).mono ?_
      rintro e w3 ⟨rfl, hb3⟩
      have HB3 := Lib.hid (HB1.out.trans (hb3.mono HB1.out.size))
      clear hb3
      go_wp2
      go_ret2
      exact ⟨by simp [HN.out, HS.out], HB3.out⟩
end Go.Proofs.Ytcoiodfggaanbaa
