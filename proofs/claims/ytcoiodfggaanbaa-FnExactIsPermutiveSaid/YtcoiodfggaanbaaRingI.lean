/-
  The program's SameOnRings: as the plain words say; nothing that was there before is changed.
-/
import Derived.Test.YtcoiodfggaanbaaRingNum
import Derived.Test.YtcoiodfggaanbaaCodeIC
import Derived.Test.YtcoiodfggaanbaaBalI
namespace Go.Proofs.Ytcoiodfggaanbaa
open Go Go.RowKit Go.Shelf

theorem enters_same : ∀ args w, (callFunc 84 args).run Try.prog w = .ok (.enter 84 args) w := enters_of Try.func84 (by kernel_rfl) rfl

set_option maxRecDepth 100000 in
set_option maxHeartbeats 800000 in
theorem same_at (K N N' : Int) (o o' x : ByteArray) (g1 g2 : Nat) (ho : o.size ≤ 1099511627776) (ho' : o'.size ≤ 1099511627776) (hx : x.size ≤ 16) (W : World) (h1 : CodeIn W g1 K N o) (h2 : CodeIn W g2 K N' o') :
    Calls Try.prog 84 #[.string x, .pointer (some ⟨g1, 0, none⟩), .pointer (some ⟨g2, 0, none⟩)] W (BoolPost (!ringEq K N o K N' o' x) W) := by
  have c0 := h1.c0
  have c1 := h1.c1
  have c2 := h1.c2
  have HR1 := Lib.hid (impl_applyRing K N o x ho (by omega) W)
  have HR2 := Lib.hid (fun w' => impl_applyRing K N' o' x ho' (by omega) w')
  have HEQ : Hid (ringEq K N o K N' o' x = ((ringS K N o x).toList == (ringS K N' o' x).toList)) := Lib.hid rfl
  rw [HEQ.out]
  have HD := Lib.hid h2
  clear h1 h2 HEQ hx
  generalize ringS K N o x = y1 at *
  generalize ringS K N' o' x = y2 at *
  generalize ringOk K N o x = b1 at *
  generalize ringOk K N' o' x = b2 at *
  go_enter Try.func84, Try.ntmps84
  go_wp2_with fail
  refine HR1.out.mono ?_
  rintro e w1 ⟨rfl, hb1⟩
  have HB1 := Lib.hid hb1
  have d0 := (HD.out.below hb1).c0
  have d1 := (HD.out.below hb1).c1
  have d2 := (HD.out.below hb1).c2
  clear c0 c1 c2 hb1
  go_wp2_with fail
  refine (HR2.out _).mono ?_
  rintro e w2 ⟨rfl, hb2⟩
  have HB2 := Lib.hid (HB1.out.trans (hb2.mono HB1.out.size))
  clear hb2
  go_wp2
  go_ret
  exact ⟨by simp, HB2.out⟩

set_option maxRecDepth 100000 in
set_option maxHeartbeats 1600000 in
theorem impl_sameRings_no (K N K' N' m : Int) (o o' : ByteArray) (ho : o.size ≤ 1099511627776) (ho' : o'.size ≤ 1099511627776) (h : ¬ ((isCodeB K N o = true ∧ isCodeB K' N' o' = true) ∧ K = K' ∧ 1 ≤ m ∧ m ≤ 6)) (w : World) :
    Calls Try.prog 43 #[.agg #[.int .i64 K, .int .i64 N, .string o], .agg #[.int .i64 K', .int .i64 N', .string o'], .int .i64 m] w (Says (.bool false) w) := by
  obtain ⟨W2, hW2, hb2, z2, k1, k2⟩ := two_start K N K' N' o o' w
  have c0 := k1.c0
  have c1 := k1.c1
  have c2 := k1.c2
  have HI := Lib.hid (impl_isCode K N o ho W2)
  have HI' := Lib.hid (fun w' => impl_isCode K' N' o' ho' w')
  have HK1 := Lib.hid k1
  have HK2 := Lib.hid k2
  have HB2 := Lib.hid hb2
  have HW := Lib.hid hW2
  clear k1 k2 hb2 hW2 z2
  cases h1 : isCodeB K N o with
  | false =>
    rw [h1] at HI
    clear h h1
    go_enter Try.func43, Try.ntmps43
    go_wp2_with fail
    rw [HW.out]
    refine HI.out.mono ?_
    rintro e w4 ⟨rfl, hb4⟩
    have HB4 := Lib.hid (HB2.out.trans (hb4.mono HB2.out.size))
    have HC4 := Lib.hid (HK1.out.below hb4)
    have HD4 := Lib.hid (HK2.out.below hb4)
    clear hb4
    go_wp2
    go_ret
    exact ⟨rfl, HB4.out⟩
  | true =>
    rw [h1] at HI
    cases h2 : isCodeB K' N' o' with
    | false =>
      rw [h2] at HI'
      clear h h1 h2
      go_enter Try.func43, Try.ntmps43
      go_wp2_with fail
      rw [HW.out]
      refine HI.out.mono ?_
      rintro e w4 ⟨rfl, hb4⟩
      have HB4 := Lib.hid (HB2.out.trans (hb4.mono HB2.out.size))
      have HC4 := Lib.hid (HK1.out.below hb4)
      have HD4 := Lib.hid (HK2.out.below hb4)
      have d0 := HD4.out.c0
      have d1 := HD4.out.c1
      have d2 := HD4.out.c2
      clear hb4
      go_wp2_with fail
      refine (HI'.out _).mono ?_
      rintro e w5 ⟨rfl, hb5⟩
      have HB5 := Lib.hid (HB4.out.trans (hb5.mono HB4.out.size))
      have HC5 := Lib.hid (HC4.out.below hb5)
      have HD5 := Lib.hid (HD4.out.below hb5)
      clear c0 c1 c2 d0 d1 d2 hb5
      have c0 := HC5.out.c0
      have c1 := HC5.out.c1
      have c2 := HC5.out.c2
      have d0 := HD5.out.c0
      have d1 := HD5.out.c1
      have d2 := HD5.out.c2
      go_wp2
      go_ret
      exact ⟨rfl, HB5.out⟩
    | true =>
      rw [h2] at HI'
      by_cases hne : K = K'
      · subst hne
        have hkk : (K != K) = false := by simp
        by_cases hm : m < 1
        · have g1 : decide (m < (1 : Int)) = true := decide_eq_true hm
          clear h h1 h2
          go_enter Try.func43, Try.ntmps43
          go_wp2_with fail
          rw [HW.out]
          refine HI.out.mono ?_
          rintro e w4 ⟨rfl, hb4⟩
          have HB4 := Lib.hid (HB2.out.trans (hb4.mono HB2.out.size))
          have HC4 := Lib.hid (HK1.out.below hb4)
          have HD4 := Lib.hid (HK2.out.below hb4)
          have d0 := HD4.out.c0
          have d1 := HD4.out.c1
          have d2 := HD4.out.c2
          clear hb4
          go_wp2_with fail
          refine (HI'.out _).mono ?_
          rintro e w5 ⟨rfl, hb5⟩
          have HB5 := Lib.hid (HB4.out.trans (hb5.mono HB4.out.size))
          have HC5 := Lib.hid (HC4.out.below hb5)
          have HD5 := Lib.hid (HD4.out.below hb5)
          clear c0 c1 c2 d0 d1 d2 hb5
          have c0 := HC5.out.c0
          have c1 := HC5.out.c1
          have c2 := HC5.out.c2
          have d0 := HD5.out.c0
          have d1 := HD5.out.c1
          have d2 := HD5.out.c2
          go_wp2
          go_ret
          exact ⟨rfl, HB5.out⟩
        · have g1 : decide (m < (1 : Int)) = false := decide_eq_false hm
          have hm6 : (6 : Int) < m := by
            by_cases h6 : m ≤ 6
            · exact absurd ⟨⟨h1, h2⟩, rfl, by omega, h6⟩ h
            · omega
          have g2 : decide ((6 : Int) < m) = true := decide_eq_true hm6
          clear h h1 h2 hm hm6
          go_enter Try.func43, Try.ntmps43
          go_wp2_with fail
          rw [HW.out]
          refine HI.out.mono ?_
          rintro e w4 ⟨rfl, hb4⟩
          have HB4 := Lib.hid (HB2.out.trans (hb4.mono HB2.out.size))
          have HC4 := Lib.hid (HK1.out.below hb4)
          have HD4 := Lib.hid (HK2.out.below hb4)
          have d0 := HD4.out.c0
          have d1 := HD4.out.c1
          have d2 := HD4.out.c2
          clear hb4
          go_wp2_with fail
          refine (HI'.out _).mono ?_
          rintro e w5 ⟨rfl, hb5⟩
          have HB5 := Lib.hid (HB4.out.trans (hb5.mono HB4.out.size))
          have HC5 := Lib.hid (HC4.out.below hb5)
          have HD5 := Lib.hid (HD4.out.below hb5)
          clear c0 c1 c2 d0 d1 d2 hb5
          have c0 := HC5.out.c0
          have c1 := HC5.out.c1
          have c2 := HC5.out.c2
          have d0 := HD5.out.c0
          have d1 := HD5.out.c1
          have d2 := HD5.out.c2
          go_wp2
          go_ret
          exact ⟨rfl, HB5.out⟩
      · have hn2 : (K != K') = true := by rw [bne_iff_ne]; exact hne
        clear h h1 h2 hne
        go_enter Try.func43, Try.ntmps43
        go_wp2_with fail
        rw [HW.out]
        refine HI.out.mono ?_
        rintro e w4 ⟨rfl, hb4⟩
        have HB4 := Lib.hid (HB2.out.trans (hb4.mono HB2.out.size))
        have HC4 := Lib.hid (HK1.out.below hb4)
        have HD4 := Lib.hid (HK2.out.below hb4)
        have d0 := HD4.out.c0
        have d1 := HD4.out.c1
        have d2 := HD4.out.c2
        clear hb4
        go_wp2_with fail
        refine (HI'.out _).mono ?_
        rintro e w5 ⟨rfl, hb5⟩
        have HB5 := Lib.hid (HB4.out.trans (hb5.mono HB4.out.size))
        have HC5 := Lib.hid (HC4.out.below hb5)
        have HD5 := Lib.hid (HD4.out.below hb5)
        clear c0 c1 c2 d0 d1 d2 hb5
        have c0 := HC5.out.c0
        have c1 := HC5.out.c1
        have c2 := HC5.out.c2
        have d0 := HD5.out.c0
        have d1 := HD5.out.c1
        have d2 := HD5.out.c2
        go_wp2
        go_ret
        exact ⟨rfl, HB5.out⟩

set_option maxRecDepth 100000 in
set_option maxHeartbeats 3200000 in
theorem impl_sameRings_yes (k n n' m : Nat) (o o' : ByteArray) (ok : CodeOk k n o) (ok' : CodeOk k n' o') (h1 : 1 ≤ m) (h6 : m ≤ 6) (w : World) :
    Calls Try.prog 43 #[.agg #[.int .i64 (k : Int), .int .i64 (n : Int), .string o], .agg #[.int .i64 (k : Int), .int .i64 (n' : Int), .string o'], .int .i64 (m : Int)] w (Says (.bool (sameB (k : Int) (n : Int) o (k : Int) (n' : Int) o' (m : Int))) w) := by
  have k3 := ok.k3
  have k2 := ok.k2
  have ho : o.size ≤ 1099511627776 := by rw [ok.len]; have := ok.le; omega
  have ho' : o'.size ≤ 1099511627776 := by rw [ok'.len]; have := ok'.le; omega
  have HRES := Lib.hid (same_yes ok ok' h1 h6)
  have hc1 := code_is ok
  have hc2 := code_is ok'
  have hl : (allW k m).length ≤ 729 ∧ 0 < (allW k m).length := by rw [allW_length]; exact ⟨six_pow k3 h6, Nat.pow_pos (by omega)⟩
  have HLEN := Lib.hid hl
  have HSZ : Hid (∀ x ∈ allW k m, x.size ≤ 16) := Lib.hid fun x hx => by rw [allW_size k m x hx]; omega
  have HWO := Lib.hid (fun w' => by have h := impl_wordsOf (k : Int) (m : Int) w'; rwa [wordsOf_yes (by omega) k3 (by omega) (six_pow k3 h6)] at h)
  have g1 : decide ((m : Int) < (1 : Int)) = false := decide_eq_false (by omega)
  have g2 : decide ((6 : Int) < (m : Int)) = false := decide_eq_false (by omega)
  clear hl ok ok'
  rw [HRES.out]
  clear HRES
  generalize allW k m = ws at *
  obtain ⟨K, hK⟩ : ∃ K : Int, (k : Int) = K := ⟨_, rfl⟩
  obtain ⟨N, hN⟩ : ∃ N : Int, (n : Int) = N := ⟨_, rfl⟩
  obtain ⟨N', hN'⟩ : ∃ N' : Int, (n' : Int) = N' := ⟨_, rfl⟩
  rw [hK, hN] at hc1
  rw [hK, hN'] at hc2
  rw [hK, hN, hN']
  have HKK := Lib.hid hK
  clear hN hN' hK
  have hkk : (K != K) = false := by simp
  obtain ⟨W2, hW2, hb2, z2, k1, k2⟩ := two_start K N K N' o o' w
  have c0 := k1.c0
  have c1 := k1.c1
  have c2 := k1.c2
  have HI := Lib.hid (impl_isCode K N o ho W2)
  have HI' := Lib.hid (fun w' => impl_isCode K N' o' ho' w')
  have HK1 := Lib.hid k1
  have HK2 := Lib.hid k2
  have HB2 := Lib.hid hb2
  have HW := Lib.hid hW2
  clear k1 k2 hb2 hW2 z2
  rw [hc1] at HI
  rw [hc2] at HI'
  clear hc1 hc2
  go_enter Try.func43, Try.ntmps43
  go_wp2_with fail
  rw [HW.out]
  refine HI.out.mono ?_
  rintro e w4 ⟨rfl, hb4⟩
  have HB4 := Lib.hid (HB2.out.trans (hb4.mono HB2.out.size))
  have HC4 := Lib.hid (HK1.out.below hb4)
  have HD4 := Lib.hid (HK2.out.below hb4)
  have d0 := HD4.out.c0
  have d1 := HD4.out.c1
  have d2 := HD4.out.c2
  clear hb4
  go_wp2_with fail
  refine (HI'.out _).mono ?_
  rintro e w5 ⟨rfl, hb5⟩
  have HB5 := Lib.hid (HB4.out.trans (hb5.mono HB4.out.size))
  have HC5 := Lib.hid (HC4.out.below hb5)
  have HD5 := Lib.hid (HD4.out.below hb5)
  clear c0 c1 c2 d0 d1 d2 hb5
  have c0 := HC5.out.c0
  have c1 := HC5.out.c1
  have c2 := HC5.out.c2
  have d0 := HD5.out.c0
  have d1 := HD5.out.c1
  have d2 := HD5.out.c2
  rw [HKK.out] at HWO
  go_wp2_with fail
  refine (HWO.out _).mono ?_
  rintro e w7 hp7
  obtain ⟨g, cap, rfl, ho7, hb7⟩ := hp7.some HLEN.out.2
  have HST := Lib.hid (StrsAt.of_owns ho7 rfl)
  have hgl := (ho7.lt g rfl).2
  have HB7 := Lib.hid (HB5.out.trans (hb7.mono HB5.out.size))
  have HC7 := Lib.hid (HC5.out.below hb7)
  have HD7 := Lib.hid (HD5.out.below hb7)
  clear c0 c1 c2 d0 d1 d2 hb7 ho7 hp7
  have HT : Hid (TestAt w7.heap.size w7 84 #[.pointer (some ⟨w.heap.size, 0, none⟩), .pointer (some ⟨w.heap.size + 1, 0, none⟩)] (fun x => !ringEq K N o K N' o' x) (fun x => x.size ≤ 16)) := Lib.hid fun x W hx hW =>
    same_at K N N' o o' x _ _ ho ho' hx W (HC7.out.below hW) (HD7.out.below hW)
  have HS := Lib.hid (contains_strs _ _ _ _ enters_same _ _ HT.out g cap ws HSZ.out (by have := HLEN.out.1; omega) w7 (Below.refl _ _) (Nat.le_refl _) HST.out hgl)
  have HE : Hid ((!(ws.any fun x => !ringEq K N o K N' o' x)) = ws.all (ringEq K N o K N' o')) := Lib.hid (by rw [List.not_any_eq_all_not]; simp)
  generalize (ws.any fun x => !ringEq K N o K N' o' x) = b at *
  go_wp2_with fail
  refine HS.out.mono ?_
  rintro e w10 ⟨rfl, hb10⟩
  have HB10 := Lib.hid (HB7.out.trans (hb10.mono HB7.out.size))
  clear hb10
  go_wp2
  go_ret
  exact ⟨by rw [← HE.out]; rfl, HB10.out⟩

theorem impl_sameRings (K N K' N' m : Int) (o o' : ByteArray) (ho : o.size ≤ 1099511627776) (ho' : o'.size ≤ 1099511627776) (w : World) :
    Calls Try.prog 43 #[.agg #[.int .i64 K, .int .i64 N, .string o], .agg #[.int .i64 K', .int .i64 N', .string o'], .int .i64 m] w (Says (.bool (sameB K N o K' N' o' m)) w) := by
  by_cases h : (isCodeB K N o = true ∧ isCodeB K' N' o' = true) ∧ K = K' ∧ 1 ≤ m ∧ m ≤ 6
  · obtain ⟨⟨h1, h2⟩, rfl, h3, h4⟩ := h
    obtain ⟨k, n, rfl, rfl, ok⟩ := codeOk_of h1
    obtain ⟨k', n', e, rfl, ok'⟩ := codeOk_of h2
    obtain rfl : k = k' := by omega
    obtain ⟨mm, rfl⟩ := Int.eq_ofNat_of_zero_le (show 0 ≤ m by omega)
    exact impl_sameRings_yes k n n' mm o o' ok ok' (by omega) (by omega) w
  · rw [same_no h]
    exact impl_sameRings_no K N K' N' m o o' ho ho' h w
end Go.Proofs.Ytcoiodfggaanbaa
