/-
  The program's ComposeCodes of two codes with the same letters: as the plain words say; nothing that was there before is changed.
-/
import Derived.Test.YtogmmjiajajinaaCodeIF
namespace Go.Proofs.Ytogmmjiajajinaa
open Go Go.RowKit

set_option maxRecDepth 100000 in
set_option maxHeartbeats 3200000 in
theorem impl_compose_yes (k nc nd M : Nat) (oc od : ByteArray) (okc : CodeOk k nc oc) (okd : CodeOk k nd od) (hM : nc + nd - 1 = M) (w : World) :
    Calls Try.prog 18 #[.agg #[.int .i64 (k : Int), .int .i64 (nc : Int), .string oc], .agg #[.int .i64 (k : Int), .int .i64 (nd : Int), .string od]] w (Says (CodeRes (codeForm (k : Int) (M : Int)) (k : Int) (M : Int) (composed k nc nd oc od)) w) := by
  obtain ⟨W3, hW3, hb3, z3, k1, k2, k3⟩ := compose_start (k : Int) (nc : Int) (k : Int) (nd : Int) oc od w
  have c0 := k1.c0
  have c1 := k1.c1
  have c2 := k1.c2
  have ho : oc.size ≤ 1099511627776 := by rw [okc.len]; have := okc.le; omega
  have ho' : od.size ≤ 1099511627776 := by rw [okd.len]; have := okd.le; omega
  have hi := impl_isCode (k : Int) (nc : Int) oc ho W3
  have hi' := fun w' => impl_isCode (k : Int) (nd : Int) od ho' w'
  rw [code_is okc] at hi
  rw [code_is okd] at hi'
  have HI := Lib.hid hi
  have HI' := Lib.hid hi'
  have HK1 := Lib.hid k1
  have HK2 := Lib.hid k2
  have HK3 := Lib.hid k3
  have HB3 := Lib.hid hb3
  have HW := Lib.hid hW3
  have HZ := Lib.hid z3
  have c1n := okc.n1
  have c4n := okc.n4
  have d4n := okd.n4
  have hk3 := okc.k3
  have e1 : IntKind.i64.wrap ((nc : Int) + (nd : Int)) = (nc : Int) + (nd : Int) := by rw [IntKind.wrap_i64]; omega
  have hMI : (nc : Int) + (nd : Int) - 1 = (M : Int) := by omega
  have e2 : IntKind.i64.wrap ((nc : Int) + (nd : Int) - 1) = (M : Int) := by rw [hMI, IntKind.wrap_i64]; omega
  have HT : Hid (∀ b gc gd w', CodeIn w' gc (k : Int) (nc : Int) oc → CodeIn w' gd (k : Int) (nd : Int) od → w'.cell? ⟨b, 0, none⟩ = some (.func (.func 39) #[] #[.pointer (some ⟨gd, 0, none⟩)]) → w'.cell? ⟨b, 1, none⟩ = some (.func (.func 39) #[] #[.pointer (some ⟨gc, 0, none⟩)]) → b < w'.heap.size →
      Calls Try.prog 36 #[.int .i64 (k : Int), .int .i64 (M : Int), .slice (some ⟨b, 0, none⟩) 2 2] w' (Says (.tuple #[.agg #[.int .i64 (zeroC (codeForm (k : Int) (M : Int)) (k : Int)), .int .i64 (zeroC (codeForm (k : Int) (M : Int)) (M : Int)), .string (zeroS (codeForm (k : Int) (M : Int)) (composed k nc nd oc od))], .bool (codeForm (k : Int) (M : Int))]) w')) := Lib.hid fun b gc gd w' h1 h2 h3 h4 h5 => by
    have h := tab_compose k nc nd b gc gd 2 oc od okc okd w' h1 h2 h3 h4 h5
    rw [hM] at h
    exact h
  show Calls _ _ _ w (Says (.tuple #[.agg #[.int .i64 (zeroC (codeForm (k : Int) (M : Int)) (k : Int)), .int .i64 (zeroC (codeForm (k : Int) (M : Int)) (M : Int)), .string (zeroS (codeForm (k : Int) (M : Int)) (composed k nc nd oc od))], .bool (codeForm (k : Int) (M : Int))]) w)
  generalize zeroC (codeForm (k : Int) (M : Int)) (k : Int) = K' at *
  generalize zeroC (codeForm (k : Int) (M : Int)) (M : Int) = N' at *
  generalize zeroS (codeForm (k : Int) (M : Int)) (composed k nc nd oc od) = z' at *
  generalize codeForm (k : Int) (M : Int) = b' at *
  have HMd := Lib.hid (impl_codingOf (k : Int) (nd : Int) od)
  have HMc := Lib.hid (impl_codingOf (k : Int) (nc : Int) oc)
  have hkk : ((k : Int) != (k : Int)) = false := by simp
  clear k1 k2 k3 hb3 hW3 z3 hi hi' okc okd hM hMI ho ho'
  go_enter Try.func18, Try.ntmps18
  go_wp2_with fail
  rw [HW.out]
  refine HI.out.mono ?_
  rintro e w4 ⟨rfl, hb4⟩
  have HB4 := Lib.hid (HB3.out.trans (hb4.mono HB3.out.size))
  have HX4 : Hid (Below W3.heap.size W3 w4) := Lib.hid hb4
  have HD4 := Lib.hid (HK2.out.below hb4)
  have d0 := HD4.out.c0
  have d1 := HD4.out.c1
  have d2 := HD4.out.c2
  clear hb4
  go_wp2_with fail
  refine (HI'.out _).mono ?_
  rintro e w5 ⟨rfl, hb5⟩
  have HX5 : Hid (Below W3.heap.size W3 w5) := Lib.hid (HX4.out.trans (hb5.mono HX4.out.size))
  have HB5 := Lib.hid (HB4.out.trans (hb5.mono HB4.out.size))
  clear hb5 c0 c1 c2 d0 d1 d2
  have HT5 : Hid (TwoIn w5 w.heap.size k nc nd oc od) := Lib.hid ⟨HK1.out.below HX5.out, HK2.out.below HX5.out⟩
  obtain ⟨c0, c1, c2, d0, d1, d2⟩ := HT5.out.six
  have HR5 := Lib.hid (HK3.out.below HX5.out)
  have hz5 : w.heap.size + 2 < w5.heap.size := by have h1 := HX5.out.size; have h2 := HZ.out; omega
  have HZ5 := Lib.hid hz5
  clear hz5
  go_wp2
  go_region_held3 (fun w' => w'.cell? ⟨w.heap.size, 0, none⟩ = some (.int .i64 (k : Int)) ∧ w'.cell? ⟨w.heap.size, 1, none⟩ = some (.int .i64 (nc : Int)) ∧ w'.cell? ⟨w.heap.size, 2, none⟩ = some (.string oc) ∧ w'.cell? ⟨w.heap.size + 1, 0, none⟩ = some (.int .i64 (k : Int)) ∧ w'.cell? ⟨w.heap.size + 1, 1, none⟩ = some (.int .i64 (nd : Int)) ∧ w'.cell? ⟨w.heap.size + 1, 2, none⟩ = some (.string od)) (first | exact s5 | exact s9 | exact s10 | exact s11 | exact s12 | exact S13.out _ _ _ | go_keep) (first | (go_at_call 32; refine (HMd.out _).mono ?_; rintro e w9 ⟨rfl, hw9⟩; have B9 : Hid (Below w5.heap.size w5 w9) := Lib.hid (by rw [hw9]; exact (drewN_below (Below.refl _ _) 1).alloc (Nat.le_refl _) _); have G9 : Hid (CodeIn w9 w5.heap.size (k : Int) (nd : Int) od) := Lib.hid (by rw [hw9]; exact codeIn_new (w5.drewN 1) _ _ _); have T9 := Lib.hid (HT5.out.later B9.out (by have := HZ5.out; omega)); have s9 := T9.out.six; clear hw9 HMd) | (go_at_call 32; refine (HMc.out _).mono ?_; rintro e w10 ⟨rfl, hw10⟩; have B10 : Hid (Below w9.heap.size w9 w10) := Lib.hid (by rw [hw10]; exact (Below.refl _ _).alloc (Nat.le_refl _) _); have G10 : Hid (CodeIn w10 w9.heap.size (k : Int) (nc : Int) oc) := Lib.hid (by rw [hw10]; exact codeIn_new _ _ _ _); have D10 := Lib.hid (G9.out.below B10.out); have X10 := Lib.hid (B9.out.trans (B10.out.mono B9.out.size)); have T10 := Lib.hid (HT5.out.later X10.out (by have := HZ5.out; omega)); have s10 := T10.out.six; have s11 := fun o => (TwoIn.later HT5.out (X10.out.alloc X10.out.size o) (by have := HZ5.out; omega)).six; clear hw10 HMc) | (go_at_call 36; refine (HT.out w10.heap.size w9.heap.size w5.heap.size _ (G10.out.below ((Below.refl _ _).alloc (Nat.le_refl _) _)) (D10.out.below ((Below.refl _ _).alloc (Nat.le_refl _) _)) (by simp) (by simp) (by simp)).mono ?_; rintro e w12 ⟨rfl, hb12⟩; have X12 : Hid (Below w5.heap.size w5 w12) := Lib.hid ((X10.out.alloc X10.out.size _).trans (hb12.mono (by have := X10.out.size; simp; omega))); have T12 := Lib.hid (HT5.out.later X12.out (by have := HZ5.out; omega)); have s12 := T12.out.six; have R12 := Lib.hid (HR5.out.below X12.out); have q0 := R12.out.c0; have q1 := R12.out.c1; have q2 := R12.out.c2; have f0 := R12.out.f 0; have f1 := R12.out.f 1; have f2 := R12.out.f 2; have S13 := Lib.hid (fun x y z => (T12.out.later (below_set (g := w.heap.size + 1 + 1) (Below.refl (w.heap.size + 1 + 1) w12) (Nat.le_refl _) x y z) (by omega)).six); clear hb12))
  go_wp2
  refine bodyPost_ret (results_code rfl _ _ _ 26 #[.int .i64 K', .int .i64 N', .string z'] (0, 0) _ rfl (codeIn_set R12.out _ _ _) Try.underlying26 rfl (by kernel_rfl)) rfl ?_
  exact ⟨rfl, below_set (HB5.out.trans (X12.out.mono HB5.out.size)) (by omega) _ _ _⟩

theorem impl_composeCodes (K N K' N' : Int) (o o' : ByteArray) (ho : o.size ≤ 1099511627776) (ho' : o'.size ≤ 1099511627776) (w : World) :
    Calls Try.prog 18 #[.agg #[.int .i64 K, .int .i64 N, .string o], .agg #[.int .i64 K', .int .i64 N', .string o']] w (Says (CodeRes (compB K N o K' N' o') K (N + N' - 1) (compO K N N' o o')) w) := by
  by_cases h : (isCodeB K N o = true ∧ isCodeB K' N' o' = true) ∧ K = K'
  · obtain ⟨⟨h1, h2⟩, rfl⟩ := h
    obtain ⟨k, nc, rfl, rfl, okc⟩ := codeOk_of h1
    obtain ⟨k', nd, e1, rfl, okd⟩ := codeOk_of h2
    obtain rfl : k = k' := by omega
    have hc := impl_compose_yes k nc nd (nc + nd - 1) o o' okc okd rfl w
    have c1 := okc.n1
    have e : (nc : Int) + (nd : Int) - 1 = ((nc + nd - 1 : Nat) : Int) := by omega
    have hB : compB (k : Int) (nc : Int) o (k : Int) (nd : Int) o' = codeForm (k : Int) ((nc + nd - 1 : Nat) : Int) := by
      unfold compB
      rw [h1, h2, e]; simp
    rw [hB, e]
    exact hc
  · exact impl_compose_no K N K' N' o o' ho ho' h w
end Go.Proofs.Ytogmmjiajajinaa
