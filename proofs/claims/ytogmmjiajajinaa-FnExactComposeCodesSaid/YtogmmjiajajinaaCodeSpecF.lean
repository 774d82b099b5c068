/-
  The model's ComposeCodes: as the plain words say; nothing that was there before is changed.
-/
import Derived.Test.YtogmmjiajajinaaCodeSpecD
namespace Go.Proofs.Ytogmmjiajajinaa
open Go Go.RowKit

set_option maxRecDepth 100000 in
set_option maxHeartbeats 1600000 in
theorem spec_compose_no (K N K' N' : Int) (o o' : ByteArray) (ho : o.size ≤ 1099511627776) (ho' : o'.size ≤ 1099511627776) (h : ¬ ((isCodeB K N o = true ∧ isCodeB K' N' o' = true) ∧ K = K')) (w : World) :
    Calls Try.prog 17 #[.agg #[.int .i64 K, .int .i64 N, .string o], .agg #[.int .i64 K', .int .i64 N', .string o']] w (Says (CodeRes (compB K N o K' N' o') K (N + N' - 1) (compO K N N' o o')) w) := by
  obtain ⟨W3, hW3, hb3, z3, k1, k2, k3⟩ := compose_start K N K' N' o o' w
  have c0 := k1.c0
  have c1 := k1.c1
  have c2 := k1.c2
  have HI := Lib.hid (spec_isCode K N o ho W3)
  have HI' := Lib.hid (fun w' => spec_isCode K' N' o' ho' w')
  have HK1 := Lib.hid k1
  have HK2 := Lib.hid k2
  have HK3 := Lib.hid k3
  have HB3 := Lib.hid hb3
  have HW := Lib.hid hW3
  have HZ := Lib.hid z3
  clear k1 k2 k3 hb3 hW3 z3
  cases h1 : isCodeB K N o with
  | false =>
    rw [h1] at HI
    have HV := Lib.hid (compRes_no (K := K) (N := N) (K' := K') (N' := N') (o := o) (o' := o') (compB_a h1))
    rw [HV.out]
    clear h h1 HV
    go_enter Try.func17, Try.ntmps17
    go_wp2_with fail
    rw [HW.out]
    refine HI.out.mono ?_
    rintro e w4 ⟨rfl, hb4⟩
    have HB4 := Lib.hid (HB3.out.trans (hb4.mono HB3.out.size))
    have HK4 := Lib.hid (HK3.out.below hb4)
    have q0 := HK4.out.c0
    have q1 := HK4.out.c1
    have q2 := HK4.out.c2
    have f0 := HK4.out.f 0
    have f1 := HK4.out.f 1
    have f2 := HK4.out.f 2
    clear hb4
    go_wp2
    refine bodyPost_ret (results_code rfl _ _ _ 26 #[.int .i64 0, .int .i64 0, .string ⟨#[]⟩] (0, 0) _ rfl (codeIn_set HK4.out _ _ _) Try.underlying26 rfl (by kernel_rfl)) rfl ?_
    exact ⟨rfl, below_set HB4.out (by omega) _ _ _⟩
  | true =>
    rw [h1] at HI
    cases h2 : isCodeB K' N' o' with
    | false =>
      rw [h2] at HI'
      have HV := Lib.hid (compRes_no (K := K) (N := N) (K' := K') (N' := N') (o := o) (o' := o') (compB_b h2))
      rw [HV.out]
      clear h h1 h2 HV
      go_enter Try.func17, Try.ntmps17
      go_wp2_with fail
      rw [HW.out]
      refine HI.out.mono ?_
      rintro e w4 ⟨rfl, hb4⟩
      have HB4 := Lib.hid (HB3.out.trans (hb4.mono HB3.out.size))
      have HK4 := Lib.hid (HK3.out.below hb4)
      have d0 := (HK2.out.below hb4).c0
      have d1 := (HK2.out.below hb4).c1
      have d2 := (HK2.out.below hb4).c2
      clear hb4
      go_wp2_with fail
      refine (HI'.out _).mono ?_
      rintro e w5 ⟨rfl, hb5⟩
      have HB5 := Lib.hid (HB4.out.trans (hb5.mono HB4.out.size))
      have HK5 := Lib.hid (HK4.out.below hb5)
      have q0 := HK5.out.c0
      have q1 := HK5.out.c1
      have q2 := HK5.out.c2
      have f0 := HK5.out.f 0
      have f1 := HK5.out.f 1
      have f2 := HK5.out.f 2
      clear hb5
      go_wp2
      refine bodyPost_ret (results_code rfl _ _ _ 26 #[.int .i64 0, .int .i64 0, .string ⟨#[]⟩] (0, 0) _ rfl (codeIn_set HK5.out _ _ _) Try.underlying26 rfl (by kernel_rfl)) rfl ?_
      exact ⟨rfl, below_set HB5.out (by omega) _ _ _⟩
    | true =>
      rw [h2] at HI'
      have hne : K ≠ K' := fun e => h ⟨⟨h1, h2⟩, e⟩
      have HV := Lib.hid (compRes_no (K := K) (N := N) (K' := K') (N' := N') (o := o) (o' := o') (compB_c hne))
      have hn2 : (K != K') = true := by rw [bne_iff_ne]; exact hne
      rw [HV.out]
      clear h h1 h2 HV hne
      go_enter Try.func17, Try.ntmps17
      go_wp2_with fail
      rw [HW.out]
      refine HI.out.mono ?_
      rintro e w4 ⟨rfl, hb4⟩
      have HB4 := Lib.hid (HB3.out.trans (hb4.mono HB3.out.size))
      have HK4 := Lib.hid (HK3.out.below hb4)
      have HC4 := Lib.hid (HK1.out.below hb4)
      have HD4 := Lib.hid (HK2.out.below hb4)
      have d0 := HD4.out.c0
      have d1 := HD4.out.c1
      have d2 := HD4.out.c2
      clear hb4
      go_wp2_with fail
      refine (HI'.out _).mono ?_
      rintro e w5 ⟨rfl, hb5⟩
      have HB5 := Lib.hid (HB4.out.trans (hb5.mono HB4.out.size))
      have HK5 := Lib.hid (HK4.out.below hb5)
      have m0 := (HC4.out.below hb5).c0
      have m1 := (HD4.out.below hb5).c0
      have q0 := HK5.out.c0
      have q1 := HK5.out.c1
      have q2 := HK5.out.c2
      have f0 := HK5.out.f 0
      have f1 := HK5.out.f 1
      have f2 := HK5.out.f 2
      clear hb5
      go_wp2
      refine bodyPost_ret (results_code rfl _ _ _ 26 #[.int .i64 0, .int .i64 0, .string ⟨#[]⟩] (0, 0) _ rfl (codeIn_set HK5.out _ _ _) Try.underlying26 rfl (by kernel_rfl)) rfl ?_
      exact ⟨rfl, below_set HB5.out (by omega) _ _ _⟩
end Go.Proofs.Ytogmmjiajajinaa
