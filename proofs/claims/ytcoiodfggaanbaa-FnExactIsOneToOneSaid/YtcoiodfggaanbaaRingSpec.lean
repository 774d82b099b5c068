/-
  The model's SameOnRings: as the plain words say; nothing that was there before is changed.
-/
import Derived.Test.YtcoiodfggaanbaaRingNum
import Derived.Test.YtcoiodfggaanbaaCodeSpecC
import Derived.Test.YtcoiodfggaanbaaAllW
namespace Go.Proofs.Ytcoiodfggaanbaa
open Go Go.RowKit

theorem getD_memR {ws : List ByteArray} {i : Nat} (h : i < ws.length) : ws.getD i ByteArray.empty ∈ ws := by
  rw [List.getD_eq_getElem?_getD, List.getElem?_eq_getElem h]; exact List.getElem_mem h
theorem one_wrapsR {x : Nat} (hx : x ≤ 1000) : wrap64 ((x : Int) + 1) = (x : Int) + 1 ∧ IntKind.i64.wrap ((x : Int) + 1) = (x : Int) + 1 := by
  rw [IntKind.wrap_i64]
  exact ⟨small_wrap (by omega), by omega⟩

set_option maxRecDepth 100000 in
set_option maxHeartbeats 1600000 in
theorem spec_sameRings_no (K N K' N' m : Int) (o o' : ByteArray) (ho : o.size ≤ 1099511627776) (ho' : o'.size ≤ 1099511627776) (h : ¬ ((isCodeB K N o = true ∧ isCodeB K' N' o' = true) ∧ K = K' ∧ 1 ≤ m ∧ m ≤ 6)) (w : World) :
    Calls Try.prog 42 #[.agg #[.int .i64 K, .int .i64 N, .string o], .agg #[.int .i64 K', .int .i64 N', .string o'], .int .i64 m] w (Says (.bool false) w) := by
  obtain ⟨W2, hW2, hb2, z2, k1, k2⟩ := two_start K N K' N' o o' w
  have c0 := k1.c0
  have c1 := k1.c1
  have c2 := k1.c2
  have HI := Lib.hid (spec_isCode K N o ho W2)
  have HI' := Lib.hid (fun w' => spec_isCode K' N' o' ho' w')
  have HK1 := Lib.hid k1
  have HK2 := Lib.hid k2
  have HB2 := Lib.hid hb2
  have HW := Lib.hid hW2
  clear k1 k2 hb2 hW2 z2
  cases h1 : isCodeB K N o with
  | false =>
    rw [h1] at HI
    clear h h1
    go_enter Try.func42, Try.ntmps42
    go_wp2_with fail
    rw [HW.out]
    refine HI.out.mono ?_
    rintro e w4 ⟨rfl, hb4⟩
    have HB4 := Lib.hid (HB2.out.trans (hb4.mono HB2.out.size))
    have HC4 := Lib.hid (HK1.out.below hb4)
    have HD4 := Lib.hid (HK2.out.below hb4)
    clear hb4
    go_wp2
    go_ret
    exact ⟨rfl, HB4.out⟩
  | true =>
    rw [h1] at HI
    cases h2 : isCodeB K' N' o' with
    | false =>
      rw [h2] at HI'
      clear h h1 h2
      go_enter Try.func42, Try.ntmps42
      go_wp2_with fail
      rw [HW.out]
      refine HI.out.mono ?_
      rintro e w4 ⟨rfl, hb4⟩
      have HB4 := Lib.hid (HB2.out.trans (hb4.mono HB2.out.size))
      have HC4 := Lib.hid (HK1.out.below hb4)
      have HD4 := Lib.hid (HK2.out.below hb4)
      have d0 := HD4.out.c0
      have d1 := HD4.out.c1
      have d2 := HD4.out.c2
      clear hb4
      go_wp2_with fail
      refine (HI'.out _).mono ?_
      rintro e w5 ⟨rfl, hb5⟩
      have HB5 := Lib.hid (HB4.out.trans (hb5.mono HB4.out.size))
      have HC5 := Lib.hid (HC4.out.below hb5)
      have HD5 := Lib.hid (HD4.out.below hb5)
      clear c0 c1 c2 d0 d1 d2 hb5
      have c0 := HC5.out.c0
      have c1 := HC5.out.c1
      have c2 := HC5.out.c2
      have d0 := HD5.out.c0
      have d1 := HD5.out.c1
      have d2 := HD5.out.c2
      go_wp2
      go_ret
      exact ⟨rfl, HB5.out⟩
    | true =>
      rw [h2] at HI'
      by_cases hne : K = K'
      · subst hne
        have hkk : (K != K) = false := by simp
        have HL := Lib.hid (fun w' => spec_inB m 1 6 w')
        have hin : inB m 1 6 = false := by
          rw [← Bool.not_eq_true]
          intro e
          unfold inB at e
          simp only [Bool.and_eq_true, decide_eq_true_eq] at e
          exact h ⟨⟨h1, h2⟩, rfl, e⟩
        rw [hin] at HL
        clear h h1 h2 hin
        go_enter Try.func42, Try.ntmps42
        go_wp2_with fail
        rw [HW.out]
        refine HI.out.mono ?_
        rintro e w4 ⟨rfl, hb4⟩
        have HB4 := Lib.hid (HB2.out.trans (hb4.mono HB2.out.size))
        have HC4 := Lib.hid (HK1.out.below hb4)
        have HD4 := Lib.hid (HK2.out.below hb4)
        have d0 := HD4.out.c0
        have d1 := HD4.out.c1
        have d2 := HD4.out.c2
        clear hb4
        go_wp2_with fail
        refine (HI'.out _).mono ?_
        rintro e w5 ⟨rfl, hb5⟩
        have HB5 := Lib.hid (HB4.out.trans (hb5.mono HB4.out.size))
        have HC5 := Lib.hid (HC4.out.below hb5)
        have HD5 := Lib.hid (HD4.out.below hb5)
        clear c0 c1 c2 d0 d1 d2 hb5
        have c0 := HC5.out.c0
        have c1 := HC5.out.c1
        have c2 := HC5.out.c2
        have d0 := HD5.out.c0
        have d1 := HD5.out.c1
        have d2 := HD5.out.c2
        go_wp2_with fail
        refine (HL.out _).mono ?_
        rintro e w6 ⟨rfl, rfl⟩
        go_wp2
        go_ret
        exact ⟨rfl, HB5.out⟩
      · have hn2 : (K != K') = true := by rw [bne_iff_ne]; exact hne
        clear h h1 h2 hne
        go_enter Try.func42, Try.ntmps42
        go_wp2_with fail
        rw [HW.out]
        refine HI.out.mono ?_
        rintro e w4 ⟨rfl, hb4⟩
        have HB4 := Lib.hid (HB2.out.trans (hb4.mono HB2.out.size))
        have HC4 := Lib.hid (HK1.out.below hb4)
        have HD4 := Lib.hid (HK2.out.below hb4)
        have d0 := HD4.out.c0
        have d1 := HD4.out.c1
        have d2 := HD4.out.c2
        clear hb4
        go_wp2_with fail
        refine (HI'.out _).mono ?_
        rintro e w5 ⟨rfl, hb5⟩
        have HB5 := Lib.hid (HB4.out.trans (hb5.mono HB4.out.size))
        have HC5 := Lib.hid (HC4.out.below hb5)
        have HD5 := Lib.hid (HD4.out.below hb5)
        clear c0 c1 c2 d0 d1 d2 hb5
        have c0 := HC5.out.c0
        have c1 := HC5.out.c1
        have c2 := HC5.out.c2
        have d0 := HD5.out.c0
        have d1 := HD5.out.c1
        have d2 := HD5.out.c2
        go_wp2
        go_ret
        exact ⟨rfl, HB5.out⟩

set_option maxRecDepth 100000 in
set_option maxHeartbeats 3200000 in
theorem spec_sameRings_yes (k n n' m : Nat) (o o' : ByteArray) (ok : CodeOk k n o) (ok' : CodeOk k n' o') (h1 : 1 ≤ m) (h6 : m ≤ 6) (w : World) :
    Calls Try.prog 42 #[.agg #[.int .i64 (k : Int), .int .i64 (n : Int), .string o], .agg #[.int .i64 (k : Int), .int .i64 (n' : Int), .string o'], .int .i64 (m : Int)] w (Says (.bool (sameB (k : Int) (n : Int) o (k : Int) (n' : Int) o' (m : Int))) w) := by
  have k3 := ok.k3
  have k2 := ok.k2
  have ho : o.size ≤ 1099511627776 := by rw [ok.len]; have := ok.le; omega
  have ho' : o'.size ≤ 1099511627776 := by rw [ok'.len]; have := ok'.le; omega
  have HRES := Lib.hid (same_yes ok ok' h1 h6)
  have hc1 := code_is ok
  have hc2 := code_is ok'
  have hl : (allW k m).length ≤ 729 ∧ 0 < (allW k m).length := by rw [allW_length]; exact ⟨six_pow k3 h6, Nat.pow_pos (by omega)⟩
  have HLEN := Lib.hid hl
  have HSZ : Hid (∀ x ∈ allW k m, x.size ≤ 16) := Lib.hid fun x hx => by rw [allW_size k m x hx]; omega
  have HL := Lib.hid (fun w' => spec_inB (m : Int) 1 6 w')
  rw [show inB (m : Int) 1 6 = true by unfold inB; simp only [Bool.and_eq_true, decide_eq_true_eq]; omega] at HL
  have HALL := Lib.hid (fun w => spec_all k m (by omega) k3 (by omega) (fun i hi => six_pow k3 (by omega)) w)
  clear hl ok ok'
  rw [HRES.out]
  clear HRES
  generalize allW k m = ws at *
  obtain ⟨K, hK⟩ : ∃ K : Int, (k : Int) = K := ⟨_, rfl⟩
  obtain ⟨N, hN⟩ : ∃ N : Int, (n : Int) = N := ⟨_, rfl⟩
  obtain ⟨N', hN'⟩ : ∃ N' : Int, (n' : Int) = N' := ⟨_, rfl⟩
  rw [hK, hN] at hc1
  rw [hK, hN'] at hc2
  rw [hK, hN, hN']
  have HKK := Lib.hid hK
  clear hN hN' hK
  have hkk : (K != K) = false := by simp
  have HR1 := Lib.hid (fun x (hx : x.size ≤ 16) w' => spec_applyRing K N o x ho (by omega) w')
  have HR2 := Lib.hid (fun x (hx : x.size ≤ 16) w' => spec_applyRing K N' o' x ho' (by omega) w')
  obtain ⟨W2, hW2, hb2, z2, k1, k2⟩ := two_start K N K N' o o' w
  have c0 := k1.c0
  have c1 := k1.c1
  have c2 := k1.c2
  have HI := Lib.hid (spec_isCode K N o ho W2)
  have HI' := Lib.hid (fun w' => spec_isCode K N' o' ho' w')
  have HK1 := Lib.hid k1
  have HK2 := Lib.hid k2
  have HB2 := Lib.hid hb2
  have HW := Lib.hid hW2
  clear k1 k2 hb2 hW2 z2
  rw [hc1] at HI
  rw [hc2] at HI'
  clear hc1 hc2
  go_enter Try.func42, Try.ntmps42
  go_wp2_with fail
  rw [HW.out]
  refine HI.out.mono ?_
  rintro e w4 ⟨rfl, hb4⟩
  have HB4 := Lib.hid (HB2.out.trans (hb4.mono HB2.out.size))
  have HC4 := Lib.hid (HK1.out.below hb4)
  have HD4 := Lib.hid (HK2.out.below hb4)
  have d0 := HD4.out.c0
  have d1 := HD4.out.c1
  have d2 := HD4.out.c2
  clear hb4
  go_wp2_with fail
  refine (HI'.out _).mono ?_
  rintro e w5 ⟨rfl, hb5⟩
  have HB5 := Lib.hid (HB4.out.trans (hb5.mono HB4.out.size))
  have HC5 := Lib.hid (HC4.out.below hb5)
  have HD5 := Lib.hid (HD4.out.below hb5)
  clear c0 c1 c2 d0 d1 d2 hb5
  have c0 := HC5.out.c0
  have c1 := HC5.out.c1
  have c2 := HC5.out.c2
  have d0 := HD5.out.c0
  have d1 := HD5.out.c1
  have d2 := HD5.out.c2
  go_wp2_with fail
  refine (HL.out _).mono ?_
  rintro e w6 ⟨rfl, rfl⟩
  rw [HKK.out] at HALL
  go_wp2_with fail
  refine (HALL.out _).mono ?_
  rintro e w7 hp7
  obtain ⟨v7, rfl, ho7, hb7⟩ := hp7
  rcases ho7.2 with ⟨rfl, h0⟩ | ⟨g, cap, cur, rfl, _, _, _⟩
  · have := HLEN.out.2; omega
  have HST := Lib.hid (StrsAt.of_owns ho7 rfl)
  have hgl := (ho7.lt g rfl).2
  have HB7 := Lib.hid (HB5.out.trans (hb7.mono HB5.out.size))
  have HC7 := Lib.hid (HC5.out.below hb7)
  have HD7 := Lib.hid (HD5.out.below hb7)
  clear c0 c1 c2 d0 d1 d2 hb7 ho7
  go_wp2
  go_loopw [8] (fun iv wr => ∃ i : Nat, i ≤ ws.length ∧ iv = .int .i64 (i : Int) ∧ Hid (AllTo (ringEq K N o K N' o') ws i) ∧ Hid (Below w7.heap.size w7 wr)) (fun iv _ => ws.length - (intOf iv).toNat)
  case atStart => exact ⟨0, Nat.zero_le _, rfl, Lib.hid (AllTo.zero _ _), Lib.hid (Below.refl _ _)⟩
  case round =>
    obtain ⟨i, hi, rfl, hA, HB⟩ := hrel
    by_cases hlt : i < ws.length
    · have kx := HST.out.below HB.out hgl i hlt
      rw [Nat.zero_add] at kx
      have HX16 := Lib.hid (HSZ.out _ (getD_memR hlt))
      have HRA := Lib.hid (HR1.out _ HX16.out)
      have HRB := Lib.hid (HR2.out _ HX16.out)
      have HNEXT := Lib.hid (fun h => hA.out.next (i := i) h)
      have HNO := Lib.hid (fun h => allW_not (p := ringEq K N o K N' o') hlt h)
      have HEQ : Hid (ringEq K N o K N' o' (ws.getD i ByteArray.empty) = ((ringS K N o (ws.getD i ByteArray.empty)).toList == (ringS K N' o' (ws.getD i ByteArray.empty)).toList)) := Lib.hid rfl
      have hl9 := HLEN.out.1
      have hi0 : (0 : Int) ≤ (i : Int) := by omega
      have hi1 : (i : Int) < (ws.length : Int) := by omega
      have HCr := Lib.hid (HC7.out.below HB.out)
      have HDr := Lib.hid (HD7.out.below HB.out)
      have c0 := HCr.out.c0
      have c1 := HCr.out.c1
      have c2 := HCr.out.c2
      have d0 := HDr.out.c0
      have d1 := HDr.out.c1
      have d2 := HDr.out.c2
      have hmx : ws.length - (i + 1) < ws.length - i := by omega
      obtain ⟨x3, x3b⟩ := one_wrapsR (show i ≤ 1000 by omega)
      have HLT := Lib.hid hlt
      have hglr : g < wr.heap.size := Nat.lt_of_lt_of_le hgl HB.out.size
      generalize ws.getD i ByteArray.empty = x at *
      generalize ringEq K N o K N' o' x = b at *
      generalize ringS K N o x = y1 at *
      generalize ringS K N' o' x = y2 at *
      generalize ringOk K N o x = b1 at *
      generalize ringOk K N' o' x = b2 at *
      clear hA hlt
      obtain ⟨W8, rfl⟩ : ∃ W8 : World, W8 = wr := ⟨_, rfl⟩
      go_wp2
      go_region_held3 (fun w' => w'.cell? ⟨w.heap.size, 0, none⟩ = some (.int .i64 K) ∧ w'.cell? ⟨w.heap.size, 1, none⟩ = some (.int .i64 N) ∧ w'.cell? ⟨w.heap.size, 2, none⟩ = some (.string o) ∧ w'.cell? ⟨g, i, none⟩ = some (.string x)) (first | exact ⟨c0, c1, c2, kx⟩ | exact ⟨a0, a1, a2, ax⟩ | go_keep) ((go_at_call 83; refine (HRA.out _).mono ?_; rintro e w9 ⟨rfl, hb9⟩; have HB9 : Hid (Below W8.heap.size W8 w9) := Lib.hid ((Below.refl W8.heap.size W8).drew.trans hb9); have a0 := (HCr.out.below HB9.out).c0; have a1 := (HCr.out.below HB9.out).c1; have a2 := (HCr.out.below HB9.out).c2; have ax := (HB9.out.cell (p := ⟨g, i, none⟩) hglr).trans kx; clear hb9))
      have HDs := Lib.hid (HDr.out.below HB9.out)
      have HBs := Lib.hid (HB.out.trans (HB9.out.mono HB.out.size))
      clear c0 c1 c2 d0 d1 d2 kx a0 a1 a2
      have d0 := HDs.out.c0
      have d1 := HDs.out.c1
      have d2 := HDs.out.c2
      have hgl9 : g < w9.heap.size := Nat.lt_of_lt_of_le hglr HB9.out.size
      go_wp2
      go_region_held3 (fun w' => w'.cell? ⟨w.heap.size + 1, 0, none⟩ = some (.int .i64 K) ∧ w'.cell? ⟨w.heap.size + 1, 1, none⟩ = some (.int .i64 N') ∧ w'.cell? ⟨w.heap.size + 1, 2, none⟩ = some (.string o') ∧ w'.cell? ⟨g, i, none⟩ = some (.string x)) (first | exact ⟨d0, d1, d2, ax⟩ | exact ⟨e0, e1, e2, ex⟩ | go_keep) ((go_at_call 83; refine (HRB.out _).mono ?_; rintro e w10 ⟨rfl, hb10⟩; have HB10 : Hid (Below w9.heap.size w9 w10) := Lib.hid ((Below.refl w9.heap.size w9).drew.trans hb10); have e0 := (HDs.out.below HB10.out).c0; have e1 := (HDs.out.below HB10.out).c1; have e2 := (HDs.out.below HB10.out).c2; have ex := (HB10.out.cell (p := ⟨g, i, none⟩) hgl9).trans ax; clear hb10))
      have HBt := Lib.hid (HBs.out.trans (HB10.out.mono HBs.out.size))
      clear d0 d1 d2 ax e0 e1 e2 ex
      cases b with
      | true =>
        have hq : (y1.toList == y2.toList) = true := HEQ.out.symm
        have HN := Lib.hid (HNEXT.out rfl)
        go_wp2
        go_roundw
        case rel => exact ⟨i + 1, HLT.out, by go_num, HN, HBt⟩
        case measure => simp [intOf]; omega
      | false =>
        have hq : (y1.toList == y2.toList) = false := HEQ.out.symm
        have HF := Lib.hid (HNO.out rfl)
        go_wp2
        go_ret
        exact ⟨by rw [HF.out]; rfl, HB7.out.trans (HBt.out.mono HB7.out.size)⟩
    · obtain rfl : i = ws.length := by omega
      have HF := Lib.hid hA.out.all
      go_wp2
      go_ret
      exact ⟨by rw [HF.out]; rfl, HB7.out.trans (HB.out.mono HB7.out.size)⟩

theorem spec_sameRings (K N K' N' m : Int) (o o' : ByteArray) (ho : o.size ≤ 1099511627776) (ho' : o'.size ≤ 1099511627776) (w : World) :
    Calls Try.prog 42 #[.agg #[.int .i64 K, .int .i64 N, .string o], .agg #[.int .i64 K', .int .i64 N', .string o'], .int .i64 m] w (Says (.bool (sameB K N o K' N' o' m)) w) := by
  by_cases h : (isCodeB K N o = true ∧ isCodeB K' N' o' = true) ∧ K = K' ∧ 1 ≤ m ∧ m ≤ 6
  · obtain ⟨⟨h1, h2⟩, rfl, h3, h4⟩ := h
    obtain ⟨k, n, rfl, rfl, ok⟩ := codeOk_of h1
    obtain ⟨k', n', e, rfl, ok'⟩ := codeOk_of h2
    obtain rfl : k = k' := by omega
    obtain ⟨mm, rfl⟩ := Int.eq_ofNat_of_zero_le (show 0 ≤ m by omega)
    exact spec_sameRings_yes k n n' mm o o' ok ok' (by omega) (by omega) w
  · rw [same_no h]
    exact spec_sameRings_no K N K' N' m o o' ho ho' h w
end Go.Proofs.Ytcoiodfggaanbaa
