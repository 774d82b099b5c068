/-
  The program's ApplyRing: as the plain words say; nothing that was there before is changed.
-/
import Derived.Test.YtcoiodfggaanbaaCodeIB
import Derived.Test.YtcoiodfggaanbaaShelfR
namespace Go.Proofs.Ytcoiodfggaanbaa
open Go Go.RowKit Go.Shelf

theorem bytesI_none {s : ByteArray} (h : s.size = 0) : s.toList = [] := by
  rw [ByteArray.toList_eq]
  exact List.eq_nil_of_length_eq_zero (by rw [ba_len]; exact h)
theorem bytesI_some {s : ByteArray} (h : s.size ≠ 0) : ¬ s.toList = [] := by
  rw [ByteArray.toList_eq]
  intro e
  apply h
  rw [← ba_len, e]; rfl
theorem ringI_none {K N : Int} {o v : ByteArray} (h : appOk K N o v = false) : ringOk K N o v = false := by unfold ringOk; rw [h]; rfl
theorem ringI_empty {K N : Int} {o v : ByteArray} (h : v.size = 0) : ringOk K N o v = false := by unfold ringOk; rw [decide_eq_false (fun hn => hn h), Bool.and_false]
theorem ringI_yes {K N : Int} {o v : ByteArray} (h : appOk K N o v = true) (h0 : v.size ≠ 0) : ringOk K N o v = true := by unfold ringOk; rw [h, decide_eq_true h0]; rfl

set_option maxRecDepth 100000 in
set_option maxHeartbeats 1600000 in
theorem impl_applyRing (K N : Int) (o v : ByteArray) (ho : o.size ≤ 1099511627776) (hv : v.size ≤ 1099511627776) (w : World) :
    Calls Try.prog 85 #[.agg #[.int .i64 K, .int .i64 N, .string o], .string v] w (Says (.tuple #[.string (ringS K N o v), .bool (ringOk K N o v)]) w) := by
  have hk := codeIn_new w K N o
  have HK := Lib.hid hk
  have c0 := hk.c0
  have c1 := hk.c1
  have c2 := hk.c2
  have hb0 := (Below.refl w.heap.size w).alloc (Nat.le_refl _) (.cells #[.int .i64 K, .int .i64 N, .string o] 25)
  have HB0 := Lib.hid hb0
  have HF := Lib.hid (impl_codeFor K N o v ho hv)
  clear hk hb0
  cases ha0 : appOk K N o v with
  | false =>
    rw [ha0] at HF
    have HN := Lib.hid (ringI_none ha0)
    have HS := Lib.hid (ringS_no HN.out)
    clear ha0
    go_enter Try.func85, Try.ntmps85
    go_wp2_with fail
    refine (HF.out _).mono ?_
    rintro e w1 ⟨rfl, hb1⟩
    have HB1 := Lib.hid (HB0.out.trans (hb1.mono HB0.out.size))
    clear hb1
    go_wp2
    go_ret2
    exact ⟨by rw [HN.out, HS.out]; rfl, HB1.out⟩
  | true =>
    rw [ha0] at HF
    by_cases h0 : v.size = 0
    · have HN : Hid (ringOk K N o v = false) := Lib.hid (ringI_empty h0)
      have HS := Lib.hid (ringS_no HN.out)
      have he := bytesI_none h0
      have he2 : v.toList.isEmpty = true := by simpa using he
      clear ha0
      go_enter Try.func85, Try.ntmps85
      go_wp2_with fail
      refine (HF.out _).mono ?_
      rintro e w1 ⟨rfl, hb1⟩
      have HB1 := Lib.hid (HB0.out.trans (hb1.mono HB0.out.size))
      clear hb1
      go_wp2
      go_ret2
      exact ⟨by rw [HN.out, HS.out]; rfl, HB1.out⟩
    · have hn := ringI_yes ha0 h0
      have HN := Lib.hid hn
      have he := bytesI_some h0
      have he2 : v.toList.isEmpty = false := by simpa using he
      obtain ⟨k, n, rfl, rfl, ok, h16, ha⟩ := appOk_of ha0
      have HS := Lib.hid (ringS_yes hn)
      have hpos : 0 < v.size := by omega
      have n1 := ok.n1
      have n4 := ok.n4
      obtain ⟨b, hb⟩ : ∃ b, n - 1 = b := ⟨_, rfl⟩
      have hnb : (n : Int) - 1 = (b : Int) := by omega
      rw [hb] at HS
      have hb4 : b ≤ 3 := by omega
      have HC : Hid (∀ x, x = ringB v b → ∀ g w', CodeIn w' g (k : Int) (n : Int) o → Calls Try.prog 121 #[.string x, .pointer (some ⟨g, 0, none⟩)] w' (Says (.string (applied k n o (ringB v b))) w')) := Lib.hid fun x hx g w' h => by
        subst hx
        exact impl_coding k n g o _ ok (by rw [ringB_size _ hpos]; omega) (ringB_all ha _) w' h
      have HM := Lib.hid (impl_codingOf (k : Int) (n : Int) o)
      have hx : v.size * b ≤ 16 * 3 := Nat.mul_le_mul h16 hb4
      have hR := fun w => Try.strings_Repeat v b w (by omega) (by omega)
      change ∀ w, Calls _ _ _ w (fun e w' => e = .returned (.string (timesB v b)) ∧ Below w.heap.size w w') at hR
      have HR := Lib.hid hR
      have HT : Hid (v ++ (timesB v b).extract 0 b = ringB v b) := Lib.hid (ringB_cut v b)
      have htl : b ≤ (timesB v b).size := times_le b hpos
      have htl2 : (timesB v b).size ≤ 48 := by rw [timesB_size, Nat.mul_comm]; omega
      have e1 : wrap64 ((n : Int) - 1) = (b : Int) := by rw [hnb]; exact small_wrapI (by omega)
      clear hn ha0 ok ha hx hR hb
      generalize applied k n o (ringB v b) = z at *
      generalize timesB v b = y at *
      have g1 : (b : Int) ≤ (y.size : Int) := by omega
      have g2 : (0 : Int) ≤ (b : Int) := by omega
      have x8 : v.size + (y.extract 0 b).size ≤ 9223372036854775807 := by rw [ByteArray.size_extract]; omega
      go_enter Try.func85, Try.ntmps85
      go_wp2_with fail
      refine (HF.out _).mono ?_
      rintro e w1 ⟨rfl, hb1⟩
      have HB1 := Lib.hid (HB0.out.trans (hb1.mono HB0.out.size))
      have hc := HK.out.below hb1
      clear c0 c1 c2
      have c0 := hc.c0
      have c1 := hc.c1
      have c2 := hc.c2
      clear hb1 hc
      go_wp2_with fail
      refine (HM.out _).mono ?_
      rintro e w2 ⟨rfl, rfl⟩
      have HX1 := Lib.hid (codeIn_new w1 (k : Int) (n : Int) o)
      have HB2 := Lib.hid (HB1.out.alloc HB1.out.size (.cells #[.int .i64 (k : Int), .int .i64 (n : Int), .string o] 25))
      go_wp2_with fail
      refine (HR.out _).mono ?_
      rintro e w3 ⟨rfl, hb3⟩
      have HX := Lib.hid (fun x hx => HC.out x hx w1.heap.size w3 (HX1.out.below hb3))
      have HB3 := Lib.hid (HB2.out.trans (hb3.mono HB2.out.size))
      clear hb3
      go_wp2_with fail
      refine (HX.out _ HT.out).mono ?_
      rintro e w4 ⟨rfl, hb4⟩
      have HB4 := Lib.hid (HB3.out.trans (hb4.mono HB3.out.size))
      clear hb4
      go_wp2
      go_ret2
      exact ⟨by simp [HN.out, HS.out], HB4.out⟩
end Go.Proofs.Ytcoiodfggaanbaa
