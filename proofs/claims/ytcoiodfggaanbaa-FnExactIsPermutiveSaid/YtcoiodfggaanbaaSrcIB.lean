/-
  The program's CountSources and FirstSource: as the plain list says; nothing that was there before is changed.
-/
import Derived.Test.YtcoiodfggaanbaaSrcI
import Derived.Test.YtcoiodfggaanbaaSrcCount
namespace Go.Proofs.Ytcoiodfggaanbaa
open Go Go.RowKit

set_option maxRecDepth 100000 in
set_option maxHeartbeats 800000 in
theorem impl_countSources (K N : Int) (o v : ByteArray) (ho : o.size ≤ 1099511627776) (hv : v.size ≤ 1099511627776) (w : World) :
    Calls Try.prog 25 #[.agg #[.int .i64 K, .int .i64 N, .string o], .string v] w (Says (.int .i64 (countS K N o v)) w) := by
  have hk := codeIn_new w K N o
  have HK := Lib.hid hk
  have c0 := hk.c0
  have c1 := hk.c1
  have c2 := hk.c2
  have HB0 := Lib.hid ((Below.refl w.heap.size w).alloc (Nat.le_refl _) (.cells #[.int .i64 K, .int .i64 N, .string o] 25))
  have HF := Lib.hid (impl_shortFor K N o v ho hv)
  clear hk
  cases hn : fitsB K N o v with
  | false =>
    rw [hn] at HF
    have HS := Lib.hid (countS_no hn)
    clear hn
    go_enter Try.func25, Try.ntmps25
    go_wp2_with fail
    refine (HF.out _).mono ?_
    rintro e w1 ⟨rfl, hb1⟩
    have HB1 := Lib.hid (HB0.out.trans (hb1.mono HB0.out.size))
    clear hb1
    go_wp2
    go_ret
    exact ⟨by rw [HS.out]; rfl, HB1.out⟩
  | true =>
    rw [hn] at HF
    obtain ⟨k, n, rfl, rfl, ok, h8, ha⟩ := fits_of hn
    have HS := Lib.hid (countS_yes hn)
    have HC := Lib.hid (impl_sourcesOf k n o v ok h8 ha)
    clear hn ok ha
    generalize srcs k n o v v.size = ps at *
    go_enter Try.func25, Try.ntmps25
    go_wp2_with fail
    refine (HF.out _).mono ?_
    rintro e w1 ⟨rfl, hb1⟩
    have HB1 := Lib.hid (HB0.out.trans (hb1.mono HB0.out.size))
    have hc := HK.out.below hb1
    clear c0 c1 c2
    have c0 := hc.c0
    have c1 := hc.c1
    have c2 := hc.c2
    clear hb1 hc
    go_wp2_with fail
    refine (HC.out _).mono ?_
    rintro e w2 ⟨sv, rfl, ho2, hb2⟩
    have HB2 := Lib.hid (HB1.out.trans (hb2.mono HB1.out.size))
    clear hb2
    rcases ho2.2 with ⟨rfl, h0⟩ | ⟨b, c, cur, rfl, _, _, _⟩
    · obtain rfl : ps = [] := List.eq_nil_of_length_eq_zero h0
      clear ho2
      go_wp2
      go_ret
      exact ⟨by rw [HS.out]; rfl, HB2.out⟩
    · clear ho2
      go_wp2
      go_ret
      exact ⟨by rw [HS.out]; rfl, HB2.out⟩

set_option maxRecDepth 100000 in
set_option maxHeartbeats 800000 in
theorem impl_firstSource (K N : Int) (o v : ByteArray) (ho : o.size ≤ 1099511627776) (hv : v.size ≤ 1099511627776) (w : World) :
    Calls Try.prog 18 #[.agg #[.int .i64 K, .int .i64 N, .string o], .string v] w (Says (.tuple #[.string (optS (firstS K N o v)), .bool (firstS K N o v).isSome]) w) := by
  have hk := codeIn_new w K N o
  have HK := Lib.hid hk
  have c0 := hk.c0
  have c1 := hk.c1
  have c2 := hk.c2
  have HB0 := Lib.hid ((Below.refl w.heap.size w).alloc (Nat.le_refl _) (.cells #[.int .i64 K, .int .i64 N, .string o] 25))
  have HF := Lib.hid (impl_shortFor K N o v ho hv)
  clear hk
  cases hn : fitsB K N o v with
  | false =>
    rw [hn] at HF
    have HS := Lib.hid (firstS_no hn)
    clear hn
    go_enter Try.func18, Try.ntmps18
    go_wp2_with fail
    refine (HF.out _).mono ?_
    rintro e w1 ⟨rfl, hb1⟩
    have HB1 := Lib.hid (HB0.out.trans (hb1.mono HB0.out.size))
    clear hb1
    go_wp2
    go_ret2
    exact ⟨by rw [HS.out]; rfl, HB1.out⟩
  | true =>
    rw [hn] at HF
    obtain ⟨k, n, rfl, rfl, ok, h8, ha⟩ := fits_of hn
    have HS := Lib.hid (firstS_yes hn)
    have HC := Lib.hid (impl_sourcesOf k n o v ok h8 ha)
    clear hn ok ha
    generalize srcs k n o v v.size = ps at *
    go_enter Try.func18, Try.ntmps18
    go_wp2_with fail
    refine (HF.out _).mono ?_
    rintro e w1 ⟨rfl, hb1⟩
    have HB1 := Lib.hid (HB0.out.trans (hb1.mono HB0.out.size))
    have hc := HK.out.below hb1
    clear c0 c1 c2
    have c0 := hc.c0
    have c1 := hc.c1
    have c2 := hc.c2
    clear hb1 hc
    go_wp2_with fail
    refine (HC.out _).mono ?_
    rintro e w2 ⟨sv, rfl, ho2, hb2⟩
    have HB2 := Lib.hid (HB1.out.trans (hb2.mono HB1.out.size))
    clear hb2
    rcases ho2.2 with ⟨rfl, h0⟩ | ⟨b, c, cur, rfl, _, _, _⟩
    · obtain rfl : ps = [] := List.eq_nil_of_length_eq_zero h0
      clear ho2
      go_wp2
      go_ret2
      exact ⟨by rw [HS.out]; rfl, HB2.out⟩
    · cases ps with
      | nil =>
        clear ho2
        go_wp2
        go_ret2
        exact ⟨by rw [HS.out]; rfl, HB2.out⟩
      | cons x ps =>
        have hx : w2.cell? ⟨b, 0, none⟩ = some (.string x) := by
          have h := (StrsAt.of_owns ho2 rfl) 0 (by simp)
          simpa using h
        have HSx : Hid (firstS (k : Int) (n : Int) o v = some x) := Lib.hid HS.out
        have hl : ((x :: ps).length : Int) = (ps.length : Int) + 1 := by simp
        have g0 : (((ps.length : Int) + 1 == 0)) = false := by rw [beq_eq_false_iff_ne]; omega
        have g1 : (0 : Int) < (ps.length : Int) + 1 := by omega
        clear ho2
        go_wp2
        go_ret2
        exact ⟨by rw [HSx.out]; rfl, HB2.out⟩
end Go.Proofs.Ytcoiodfggaanbaa
