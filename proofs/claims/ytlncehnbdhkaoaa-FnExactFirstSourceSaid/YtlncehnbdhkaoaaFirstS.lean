/-
  The model's FirstSource: the head of the plain list; nothing that was there before is changed.
-/
import Derived.Test.YtlncehnbdhkaoaaFirstFacts
import Derived.Test.YtlncehnbdhkaoaaFirstSpec
namespace Go.Proofs.Ytlncehnbdhkaoaa
open Go Go.RowKit

set_option maxRecDepth 100000 in
set_option maxHeartbeats 800000 in
theorem spec_firstSource (K N : Int) (o v : ByteArray) (ho : o.size ≤ 1099511627776) (hv : v.size ≤ 1099511627776) (w : World) :
    Calls Try.prog 18 #[.agg #[.int .i64 K, .int .i64 N, .string o], .string v] w (Says (.tuple #[.string (optS (firstS K N o v)), .bool (firstS K N o v).isSome]) w) := by
  have hk := codeIn_new w K N o
  have HK := Lib.hid hk
  have c0 := hk.c0
  have c1 := hk.c1
  have c2 := hk.c2
  have HB0 := Lib.hid ((Below.refl w.heap.size w).alloc (Nat.le_refl _) (.cells #[.int .i64 K, .int .i64 N, .string o] 25))
  have HF := Lib.hid (spec_fits K N o v ho hv)
  clear hk
  cases hn : fitsB K N o v with
  | false =>
    rw [hn] at HF
    have HS := Lib.hid (firstS_no hn)
    clear hn
    go_enter Try.func18, Try.ntmps18
    go_wp2_with fail
    refine (HF.out _).mono ?_
    rintro e w1 ⟨rfl, hb1⟩
    have HB1 := Lib.hid (HB0.out.trans (hb1.mono HB0.out.size))
    clear hb1
    go_wp2
    go_ret2
    exact ⟨by rw [HS.out]; rfl, HB1.out⟩
  | true =>
    rw [hn] at HF
    obtain ⟨k, n, rfl, rfl, ok, h8, ha⟩ := fits_of hn
    have HS : Hid (firstS (k : Int) (n : Int) o v = firstW k n o v (v.size + (n - 1)) ⟨#[]⟩) := Lib.hid ((firstS_yes hn).trans (first_head ok.n1).symm)
    have HC := Lib.hid (fun w' => spec_first k n o v ok (by omega) (v.size + (n - 1)) ⟨#[]⟩ w' (by show 0 + _ = _; omega) rfl)
    unfold FirstAt at HC
    rw [← HS.out] at HC
    generalize firstS (k : Int) (n : Int) o v = R at *
    clear hn ok ha HS
    go_enter Try.func18, Try.ntmps18
    go_wp2_with fail
    refine (HF.out _).mono ?_
    rintro e w1 ⟨rfl, hb1⟩
    have HB1 := Lib.hid (HB0.out.trans (hb1.mono HB0.out.size))
    have hc := HK.out.below hb1
    clear c0 c1 c2
    have c0 := hc.c0
    have c1 := hc.c1
    have c2 := hc.c2
    clear hb1 hc
    go_wp2_with fail
    refine (HC.out _).mono ?_
    rintro e w2 ⟨rfl, hb2⟩
    have HB2 := Lib.hid (HB1.out.trans (hb2.mono HB1.out.size))
    clear hb2
    go_wp2
    go_ret2
    exact ⟨rfl, HB2.out⟩
end Go.Proofs.Ytlncehnbdhkaoaa
