/-
  The program's TwinsOf, length by length: as the plain words say; nothing that was there before is changed.
-/
import Derived.Test.YtlncehnbdhkaoaaTwinIC
namespace Go.Proofs.Ytlncehnbdhkaoaa
open Go Go.RowKit Go.Shelf

theorem twin_res_noneI {K N : Int} {o : ByteArray} (h : twinS K N o = none) : twinA K N o = ⟨#[]⟩ ∧ twinB K N o = ⟨#[]⟩ ∧ twinF K N o = false := by unfold twinA twinB twinF; rw [h]; exact ⟨rfl, rfl, rfl⟩
theorem twin_res_someI {K N : Int} {o u v : ByteArray} (h : twinS K N o = some (u, v)) : twinA K N o = u ∧ twinB K N o = v ∧ twinF K N o = true := by unfold twinA twinB twinF; rw [h]; exact ⟨rfl, rfl, rfl⟩
/-- No twins of a length from n on below L. -/
def NoLenI (n : Nat) (o : ByteArray) (L : Nat) : Prop := ∀ y, n ≤ y → y < L → lenTwin 2 n o y = none
theorem NoLenI.next {n L : Nat} {o : ByteArray} (h : NoLenI n o L) (h2 : lenTwin 2 n o L = none) : NoLenI n o (L + 1) := fun y h0 h1 => by
  by_cases e : y = L
  · subst e; exact h2
  · exact h y h0 (by omega)

set_option maxRecDepth 100000 in
set_option maxHeartbeats 3200000 in
theorem impl_twinsOf (K N : Int) (o : ByteArray) (ho : o.size ≤ 1099511627776) (w : World) :
    Calls Try.prog 21 #[.agg #[.int .i64 K, .int .i64 N, .string o]] w (Says (.tuple #[.string (twinA K N o), .string (twinB K N o), .bool (twinF K N o)]) w) := by
  have hk := codeIn_new w K N o
  have HK := Lib.hid hk
  have c0 := hk.c0
  have c1 := hk.c1
  have c2 := hk.c2
  have HB0 := Lib.hid ((Below.refl w.heap.size w).alloc (Nat.le_refl _) (.cells #[.int .i64 K, .int .i64 N, .string o] 25))
  have HI := Lib.hid (impl_isCode K N o ho)
  clear hk
  cases hc : isCodeB K N o with
  | false =>
    rw [hc] at HI
    obtain ⟨ra, rb, rc⟩ := twin_res_noneI (twin_no (K := K) (N := N) (o := o) (fun h => by rw [hc] at h; cases h.1))
    have HR := Lib.hid (show _ ∧ _ ∧ _ from ⟨ra, rb, rc⟩)
    clear hc ra rb rc
    go_enter Try.func21, Try.ntmps21
    go_wp2_with fail
    refine (HI.out _).mono ?_
    rintro e w1 ⟨rfl, hb1⟩
    have HB1 := Lib.hid (HB0.out.trans (hb1.mono HB0.out.size))
    have HK1 := Lib.hid (HK.out.below hb1)
    clear c0 c1 c2 hb1
    have c0 := HK1.out.c0
    go_wp2
    go_ret3
    exact ⟨by rw [HR.out.1, HR.out.2.1, HR.out.2.2]; rfl, HB1.out⟩
  | true =>
    rw [hc] at HI
    by_cases h2 : K ≠ 2
    · obtain ⟨ra, rb, rc⟩ := twin_res_noneI (twin_no (K := K) (N := N) (o := o) (fun h => h2 h.2))
      have HR := Lib.hid (show _ ∧ _ ∧ _ from ⟨ra, rb, rc⟩)
      have g2 : (K != 2) = true := by rw [bne_iff_ne]; exact h2
      clear hc ra rb rc h2
      go_enter Try.func21, Try.ntmps21
      go_wp2_with fail
      refine (HI.out _).mono ?_
      rintro e w1 ⟨rfl, hb1⟩
      have HB1 := Lib.hid (HB0.out.trans (hb1.mono HB0.out.size))
      have HK1 := Lib.hid (HK.out.below hb1)
      clear c0 c1 c2 hb1
      have c0 := HK1.out.c0
      go_wp2
      go_ret3
      exact ⟨by rw [HR.out.1, HR.out.2.1, HR.out.2.2]; rfl, HB1.out⟩
    · obtain ⟨k, n, rfl, rfl, ok⟩ := codeOk_of hc
      obtain rfl : k = 2 := by omega
      have hc2 : isCodeB 2 (n : Int) o = true := hc
      have n1 := ok.n1
      have n4 := ok.n4
      have HOK := Lib.hid ok
      have HNO : Hid (NoLenI n o 8 → twinA 2 (n : Int) o = ⟨#[]⟩ ∧ twinB 2 (n : Int) o = ⟨#[]⟩ ∧ twinF 2 (n : Int) o = false) := Lib.hid fun h => twin_res_noneI (twin_none hc2 h)
      have HYES : Hid (∀ L i j, L ≤ 7 → n ≤ L → NoLenI n o L → firstPair (twL 2 n o (allW 2 L)) (allW 2 L).length = some (i, j) → twinA 2 (n : Int) o = (allW 2 L).getD i ByteArray.empty ∧ twinB 2 (n : Int) o = (allW 2 L).getD j ByteArray.empty ∧ twinF 2 (n : Int) o = true) := Lib.hid fun L i j hL hn h0 h => twin_res_someI (twin_at hc2 hL hn (len_some h) h0)
      have HW : Hid (∀ L : Nat, L ≤ 7 → ∀ w', Calls Try.prog 45 #[.int .i64 ((2 : Nat) : Int), .int .i64 (L : Int)] w' (ListPost (allW 2 L) w')) := Lib.hid fun L hL w' => by
        have h := impl_wordsOf ((2 : Nat) : Int) (L : Int) w'
        rwa [wordsOf_yes (by decide) (by decide) (by omega) (Nat.le_trans (two_words L hL) (by decide))] at h
      have HLEN : Hid (∀ L, L ≤ 7 → 0 < (allW 2 L).length ∧ (allW 2 L).length ≤ 729) := Lib.hid fun L hL => by
        rw [allW_length]
        exact ⟨Nat.pow_pos (by decide), Nat.le_trans (two_words L hL) (by decide)⟩
      have HMK := Lib.hid (fun L g cap (hL : n ≤ L) (hL7 : L ≤ 7) W hs hg => impl_marks 2 n L g cap o (allW 2 L) HOK.out hL (by omega) (HLEN.out L hL7).2 (fun x hx => ⟨allW_size 2 L x hx, allW_all (by decide) L x hx⟩) W hs hg)
      have HFT := Lib.hid (fun L b cap (hL7 : L ≤ 7) hcap W hs hb => impl_firstTwo 2 n b cap o (allW 2 L) (HLEN.out L hL7).2 hcap W hs hb)
      clear hc hc2 h2 ok
      go_enter Try.func21, Try.ntmps21
      go_wp2_with fail
      refine (HI.out _).mono ?_
      rintro e w1 ⟨rfl, hb1⟩
      have HB1 := Lib.hid (HB0.out.trans (hb1.mono HB0.out.size))
      have HK1 := Lib.hid (HK.out.below hb1)
      clear c0 c1 c2 hb1
      have c0 := HK1.out.c0
      have c1 := HK1.out.c1
      have c2 := HK1.out.c2
      go_wp2
      go_loopw [5] (fun lv wr => ∃ L : Nat, n ≤ L ∧ L ≤ 8 ∧ lv = .int .i64 (L : Int) ∧ Hid (NoLenI n o L) ∧ Hid (Below w1.heap.size w1 wr)) (fun lv _ => 8 - (intOf lv).toNat)
      case atStart => exact ⟨n, Nat.le_refl _, by omega, rfl, Lib.hid (fun y h1 h2 => by omega), Lib.hid (Below.refl _ _)⟩
      case round =>
        clear c0 c1 c2
        obtain ⟨L, hnL, hL8, rfl, HNL, HB⟩ := hrel
        by_cases hL7 : L ≤ 7
        · have g7 : (L : Int) ≤ 7 := by omega
          have HK2 := Lib.hid (HK1.out.below HB.out)
          have c0 := HK2.out.c0
          have HWL := Lib.hid (HW.out L hL7)
          have HML := Lib.hid (fun g cap W hs hg => HMK.out L g cap hnL hL7 W hs hg)
          have HFL := Lib.hid (fun b cap hcap W hs hb => HFT.out L b cap hL7 hcap W hs hb)
          have HYL := Lib.hid (fun i j h => HYES.out L i j hL7 hnL HNL.out h)
          have HPN : Hid (firstPair (twL 2 n o (allW 2 L)) (allW 2 L).length = none → NoLenI n o (L + 1)) := Lib.hid fun h => HNL.out.next (len_none h)
          obtain ⟨hl0, hl729⟩ := HLEN.out L hL7
          generalize allW 2 L = ps at *
          go_wp2_with fail
          refine (HWL.out _).mono ?_
          rintro e w2 hp2
          obtain ⟨g, cap, rfl, ho2, hb2⟩ := hp2.some hl0
          have HB2 := Lib.hid (HB.out.trans (hb2.mono HB.out.size))
          have HST := Lib.hid (StrsAt.of_owns ho2 rfl)
          have hgl := (ho2.lt g rfl).2
          have HC := Lib.hid (HML.out g cap w2 HST.out hgl)
          have HK3 := Lib.hid (HK1.out.below HB2.out)
          clear c0 hb2 ho2 hp2
          have c0 := HK3.out.c0
          have c1 := HK3.out.c1
          have c2 := HK3.out.c2
          go_wp2_with fail
          refine HC.out.mono ?_
          rintro e w3 ⟨r, rfl, ho3, hb3⟩
          rcases ho3.2 with ⟨rfl, h0⟩ | ⟨b, cap3, cur, rfl, _, _, hcap3, _⟩
          · omega
          have HB3 := Lib.hid (HB2.out.trans (hb3.mono HB2.out.size))
          have hbl := (ho3.lt b rfl).2
          have HF := Lib.hid (HFL.out b cap3 hcap3 w3 (marksAt_of ho3) hbl)
          have HST3 := Lib.hid (HST.out.below hb3 hgl)
          have hgl3 : g < w3.heap.size := Nat.lt_of_lt_of_le hgl hb3.size
          clear c0 c1 c2 hb3 ho3 hcap3
          cases hfp : firstPair (twL 2 n o ps) ps.length with
          | none =>
            rw [hfp] at HF
            have HF2 : Hid (Calls Try.prog 46 #[.slice (some ⟨b, 0, none⟩) ps.length cap3] w3 (Says (.tuple #[.int .i64 0, .int .i64 0, .bool false]) w3)) := HF
            have HN := Lib.hid (HPN.out hfp)
            clear hfp HF
            go_wp2_with fail
            refine HF2.out.mono ?_
            rintro e w4 ⟨rfl, hb4⟩
            have HB4 := Lib.hid (HB3.out.trans (hb4.mono HB3.out.size))
            clear hb4
            go_wp2
            go_roundw
            case rel => exact ⟨L + 1, Nat.le_succ_of_le hnL, Nat.succ_le_succ hL7, by go_num, HN, HB4⟩
            case measure => simp [intOf]; omega
          | some pr =>
            obtain ⟨i, j⟩ := pr
            rw [hfp] at HF
            have HF2 : Hid (Calls Try.prog 46 #[.slice (some ⟨b, 0, none⟩) ps.length cap3] w3 (Says (.tuple #[.int .i64 (i : Int), .int .i64 (j : Int), .bool true]) w3)) := HF
            have HR := Lib.hid (HYL.out i j hfp)
            obtain ⟨hi, hj, _, _⟩ := pair_lt hfp
            have ku := HST3.out i hi
            have kv := HST3.out j hj
            rw [Nat.zero_add] at ku kv
            clear hfp HF
            generalize ps.getD j ByteArray.empty = v at *
            generalize ps.getD i ByteArray.empty = u at *
            have gi0 : (0 : Int) ≤ (i : Int) := Int.natCast_nonneg i
            have gi1 : (i : Int) < (ps.length : Int) := Int.ofNat_lt.2 hi
            have gj0 : (0 : Int) ≤ (j : Int) := Int.natCast_nonneg j
            have gj1 : (j : Int) < (ps.length : Int) := Int.ofNat_lt.2 hj
            go_wp2_with fail
            refine HF2.out.mono ?_
            rintro e w4 ⟨rfl, hb4⟩
            have HB4 := Lib.hid ((HB1.out.trans (HB3.out.mono HB1.out.size)).trans (hb4.mono (Nat.le_trans HB1.out.size HB3.out.size)))
            have ku4 := (hb4.cell (p := ⟨g, i, none⟩) hgl3).trans ku
            have kv4 := (hb4.cell (p := ⟨g, j, none⟩) hgl3).trans kv
            clear hb4 ku kv
            go_wp2
            go_quiet (fail)
            have HBq := Lib.hid (drewN_below HB4.out nq)
            go_wp2
            go_ret3
            exact ⟨by show _ = Ending.returned (.tuple #[.string (twinA 2 (n : Int) o), .string (twinB 2 (n : Int) o), .bool (twinF 2 (n : Int) o)]); rw [HR.out.1, HR.out.2.1, HR.out.2.2]; rfl, HBq.out⟩
        · obtain rfl : L = 8 := by omega
          have HR := Lib.hid (HNO.out HNL.out)
          go_wp2
          go_ret3
          exact ⟨by show _ = Ending.returned (.tuple #[.string (twinA 2 (n : Int) o), .string (twinB 2 (n : Int) o), .bool (twinF 2 (n : Int) o)]); rw [HR.out.1, HR.out.2.1, HR.out.2.2]; rfl, HB1.out.trans (HB.out.mono HB1.out.size)⟩
end Go.Proofs.Ytlncehnbdhkaoaa
