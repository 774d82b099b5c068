/-
  The model's CountSources: as many as the plain list holds; nothing that was there before is changed.
-/
import Derived.Test.YtlncehnbdhkaoaaCountSpec
import Derived.Test.YtlncehnbdhkaoaaFirstSpec0
import Derived.Test.YtlncehnbdhkaoaaSrcCount
namespace Go.Proofs.Ytlncehnbdhkaoaa
open Go Go.RowKit

theorem sumN_le2 {f : Nat → Nat} {B : Nat} (h : ∀ t, f t ≤ B) (j : Nat) : sumN j f ≤ j * B := by
  rw [← sumN_const B j]
  exact sumN_le j fun t _ => h t

set_option maxRecDepth 100000 in
set_option maxHeartbeats 1600000 in
theorem spec_countSources (K N : Int) (o v : ByteArray) (ho : o.size ≤ 1099511627776) (hv : v.size ≤ 1099511627776) (w : World) :
    Calls Try.prog 25 #[.agg #[.int .i64 K, .int .i64 N, .string o], .string v] w (Says (.int .i64 (countS K N o v)) w) := by
  have hk := codeIn_new w K N o
  have HK := Lib.hid hk
  have c0 := hk.c0
  have c1 := hk.c1
  have c2 := hk.c2
  have HB0 := Lib.hid ((Below.refl w.heap.size w).alloc (Nat.le_refl _) (.cells #[.int .i64 K, .int .i64 N, .string o] 25))
  have HF := Lib.hid (spec_fits K N o v ho hv)
  clear hk
  cases hn : fitsB K N o v with
  | false =>
    rw [hn] at HF
    have HS := Lib.hid (countS_no hn)
    clear hn
    go_enter Try.func25, Try.ntmps25
    go_wp2_with fail
    refine (HF.out _).mono ?_
    rintro e w1 ⟨rfl, hb1⟩
    have HB1 := Lib.hid (HB0.out.trans (hb1.mono HB0.out.size))
    clear hb1
    go_wp2
    go_ret
    exact ⟨by rw [HS.out]; rfl, HB1.out⟩
  | true =>
    rw [hn] at HF
    obtain ⟨k, n, rfl, rfl, ok, h8, ha⟩ := fits_of hn
    have HC := Lib.hid (spec_counts k n o v ok h8 ha)
    have hq1 : 0 < k ^ (n - 1) := Nat.pow_pos (by have := ok.k2; omega)
    have HS : Hid (countS (k : Int) (n : Int) o v = ((sumN (k ^ (n - 1)) (fwdW k (k ^ (n - 1)) (outC o) (lw v) fun _ => 1) : Nat) : Int)) := Lib.hid (by rw [countS_yes hn, srcs_count ok ha, fwd_all hq1])
    have HBND : Hid (∀ t, fwdW k (k ^ (n - 1)) (outC o) (lw v) (fun _ => 1) t ≤ 282429536481) := Lib.hid fun t => by
      have h1 := fwdW_le (k := k) (q := k ^ (n - 1)) (out := outC o) (by rw [← pow_split ok.n1]; exact ok.le) (lw v) v.size (fun _ => 1) 1 (lw_length v) (fun _ => Nat.le_refl _) t
      have h2 : 27 ^ v.size ≤ 27 ^ 8 := Nat.pow_le_pow_right (by decide) h8
      have h3 : 27 ^ 8 = 282429536481 := by decide
      omega
    have hq27 : k ^ (n - 1) ≤ 27 := Nat.le_trans (Nat.pow_le_pow_right (by have := ok.k2; omega) (by omega)) ok.le
    clear hn ok ha
    generalize fwdW k (k ^ (n - 1)) (outC o) (lw v) (fun _ => 1) = F at *
    generalize k ^ (n - 1) = q at *
    go_enter Try.func25, Try.ntmps25
    go_wp2_with fail
    refine (HF.out _).mono ?_
    rintro e w1 ⟨rfl, hb1⟩
    have HB1 := Lib.hid (HB0.out.trans (hb1.mono HB0.out.size))
    have hc := HK.out.below hb1
    clear c0 c1 c2
    have c0 := hc.c0
    have c1 := hc.c1
    have c2 := hc.c2
    clear hb1 hc
    go_wp2_with fail
    refine (HC.out _).mono ?_
    rintro e w2 ⟨r, rfl, ho2, hb2⟩
    have HB2 := Lib.hid (HB1.out.trans (hb2.mono HB1.out.size))
    clear hb2 c0 c1 c2
    rcases ho2.2 with ⟨rfl, h0⟩ | ⟨g, cap, cur, rfl, _, _, _⟩
    · omega
    have HO := Lib.hid ho2
    clear ho2
    go_wp2
    go_loopw [5, 7] (fun sv iv wr => ∃ j : Nat, j ≤ q ∧ iv = .int .i64 (j : Int) ∧ sv = .int .i64 ((sumN j F : Nat) : Int) ∧ wr = w2) (fun _ iv _ => q - (intOf iv).toNat)
    case atStart => exact ⟨0, Nat.zero_le _, rfl, rfl, rfl⟩
    case round =>
      obtain ⟨j, hj, rfl, rfl, rfl⟩ := hrel
      by_cases hlt : j < q
      · have kc := (HO.out.cellAt j (by omega)).trans (rowN_at F hlt)
        have h1 := HBND.out j
        have h2 := sumN_le2 HBND.out j
        have h3 : j * 282429536481 ≤ 27 * 282429536481 := Nat.mul_le_mul_right _ (by omega)
        have HNX : Hid (sumN (j + 1) F = sumN j F + F j) := Lib.hid rfl
        generalize sumN j F = S at *
        generalize F j = Y at *
        have hS : (S : Int) ≤ 7625597484987 := Int.ofNat_le.2 (Nat.le_trans h2 h3)
        have hY : (Y : Int) ≤ 282429536481 := Int.ofNat_le.2 h1
        clear h1 h2 h3
        go_wp2
        go_roundw
        case rel => exact ⟨j + 1, by omega, by go_num, by rw [HNX.out]; go_num, trivial⟩
        case measure => simp [intOf]; omega
      · obtain rfl : q = j := by omega
        go_wp2
        go_ret
        exact ⟨by rw [HS.out]; rfl, HB2.out⟩
end Go.Proofs.Ytlncehnbdhkaoaa
