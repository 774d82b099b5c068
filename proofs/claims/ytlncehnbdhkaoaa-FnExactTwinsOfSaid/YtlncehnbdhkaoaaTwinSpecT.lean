/-
  The model's TwinsOf, length by length and word by word: as the plain words say; nothing that was there before is changed.
-/
import Derived.Test.YtlncehnbdhkaoaaTwinSpec
import Derived.OwnWalk
namespace Go.Proofs.Ytlncehnbdhkaoaa
open Go Go.RowKit

theorem twin_res_none {K N : Int} {o : ByteArray} (h : twinS K N o = none) : twinA K N o = ⟨#[]⟩ ∧ twinB K N o = ⟨#[]⟩ ∧ twinF K N o = false := by unfold twinA twinB twinF; rw [h]; exact ⟨rfl, rfl, rfl⟩
theorem twin_res_some {K N : Int} {o u v : ByteArray} (h : twinS K N o = some (u, v)) : twinA K N o = u ∧ twinB K N o = v ∧ twinF K N o = true := by unfold twinA twinB twinF; rw [h]; exact ⟨rfl, rfl, rfl⟩
/-- No twins of a length from n on below L. -/
def NoLen (n : Nat) (o : ByteArray) (L : Nat) : Prop := ∀ y, n ≤ y → y < L → lenTwin 2 n o y = none
theorem NoLen.next {n L : Nat} {o : ByteArray} (h : NoLen n o L) (h2 : lenTwin 2 n o L = none) : NoLen n o (L + 1) := fun y h0 h1 => by
  by_cases e : y = L
  · subst e; exact h2
  · exact h y h0 (by omega)

set_option maxRecDepth 100000 in
set_option maxHeartbeats 3200000 in
theorem spec_twinsOf (K N : Int) (o : ByteArray) (ho : o.size ≤ 1099511627776) (w : World) :
    Calls Try.prog 22 #[.agg #[.int .i64 K, .int .i64 N, .string o]] w (Says (.tuple #[.string (twinA K N o), .string (twinB K N o), .bool (twinF K N o)]) w) := by
  have hk := codeIn_new w K N o
  have HK := Lib.hid hk
  have c0 := hk.c0
  have c1 := hk.c1
  have c2 := hk.c2
  have HB0 := Lib.hid ((Below.refl w.heap.size w).alloc (Nat.le_refl _) (.cells #[.int .i64 K, .int .i64 N, .string o] 25))
  have HI := Lib.hid (spec_isCode K N o ho)
  clear hk
  cases hc : isCodeB K N o with
  | false =>
    rw [hc] at HI
    obtain ⟨ra, rb, rc⟩ := twin_res_none (twin_no (K := K) (N := N) (o := o) (fun h => by rw [hc] at h; cases h.1))
    have HR := Lib.hid (show _ ∧ _ ∧ _ from ⟨ra, rb, rc⟩)
    clear hc ra rb rc
    go_enter Try.func22, Try.ntmps22
    go_wp2_with fail
    refine (HI.out _).mono ?_
    rintro e w1 ⟨rfl, hb1⟩
    have HB1 := Lib.hid (HB0.out.trans (hb1.mono HB0.out.size))
    have HK1 := Lib.hid (HK.out.below hb1)
    clear c0 c1 c2 hb1
    have c0 := HK1.out.c0
    go_wp2
    go_ret3
    exact ⟨by rw [HR.out.1, HR.out.2.1, HR.out.2.2]; rfl, HB1.out⟩
  | true =>
    rw [hc] at HI
    by_cases h3 : K = 3
    · subst h3
      obtain ⟨ra, rb, rc⟩ := twin_res_none (twin_no (K := 3) (N := N) (o := o) (fun h => by cases h.2))
      have HR := Lib.hid (show _ ∧ _ ∧ _ from ⟨ra, rb, rc⟩)
      clear hc ra rb rc
      go_enter Try.func22, Try.ntmps22
      go_wp2_with fail
      refine (HI.out _).mono ?_
      rintro e w1 ⟨rfl, hb1⟩
      have HB1 := Lib.hid (HB0.out.trans (hb1.mono HB0.out.size))
      have HK1 := Lib.hid (HK.out.below hb1)
      clear c0 c1 c2 hb1
      have c0 := HK1.out.c0
      go_wp2
      go_ret3
      exact ⟨by rw [HR.out.1, HR.out.2.1, HR.out.2.2]; rfl, HB1.out⟩
    · obtain ⟨k, n, rfl, rfl, ok⟩ := codeOk_of hc
      obtain rfl : k = 2 := by have := ok.k2; have := ok.k3; omega
      have hc2 : isCodeB 2 (n : Int) o = true := hc
      have n1 := ok.n1
      have n4 := ok.n4
      have HOK := Lib.hid ok
      have HNO : Hid (NoLen n o 8 → twinA 2 (n : Int) o = ⟨#[]⟩ ∧ twinB 2 (n : Int) o = ⟨#[]⟩ ∧ twinF 2 (n : Int) o = false) := Lib.hid fun h => twin_res_none (twin_none hc2 h)
      have HYES : Hid (∀ L i j, L ≤ 7 → n ≤ L → NoLen n o L → firstPair (twL 2 n o (allW 2 L)) (allW 2 L).length = some (i, j) → twinA 2 (n : Int) o = (allW 2 L).getD i ByteArray.empty ∧ twinB 2 (n : Int) o = (allW 2 L).getD j ByteArray.empty ∧ twinF 2 (n : Int) o = true) := Lib.hid fun L i j hL hn h0 h => twin_res_some (twin_at hc2 hL hn (len_some h) h0)
      have HW := Lib.hid (fun L (hL : L ≤ 7) w' => spec_all 2 L (by decide) (by decide) (by omega) (fun i hi => Nat.le_trans (two_words i (by omega)) (by decide)) w')
      have HTW := Lib.hid (fun L i g cap (hL : n ≤ L) (hL7 : L ≤ 7) (hi : i < (allW 2 L).length) W hs hg => spec_twin 2 n L i g cap o (allW 2 L) HOK.out hL (by omega) (by rw [allW_length]; exact Nat.le_trans (two_words L hL7) (by decide)) (fun x hx => ⟨allW_size 2 L x hx, allW_all (by decide) L x hx⟩) hi W hs hg)
      have HLEN : Hid (∀ L, L ≤ 7 → 0 < (allW 2 L).length ∧ (allW 2 L).length ≤ 729) := Lib.hid fun L hL => by
        rw [allW_length]
        exact ⟨Nat.pow_pos (by decide), Nat.le_trans (two_words L hL) (by decide)⟩
      clear hc hc2 h3 ok
      go_enter Try.func22, Try.ntmps22
      go_wp2_with fail
      refine (HI.out _).mono ?_
      rintro e w1 ⟨rfl, hb1⟩
      have HB1 := Lib.hid (HB0.out.trans (hb1.mono HB0.out.size))
      have HK1 := Lib.hid (HK.out.below hb1)
      clear c0 c1 c2 hb1
      have c0 := HK1.out.c0
      have c1 := HK1.out.c1
      have c2 := HK1.out.c2
      go_wp2
      go_loopw [5] (fun lv wr => ∃ L : Nat, n ≤ L ∧ L ≤ 8 ∧ lv = .int .i64 (L : Int) ∧ Hid (NoLen n o L) ∧ Hid (Below w1.heap.size w1 wr)) (fun lv _ => 8 - (intOf lv).toNat)
      case atStart => exact ⟨n, Nat.le_refl _, by omega, rfl, Lib.hid (fun y h1 h2 => by omega), Lib.hid (Below.refl _ _)⟩
      case round =>
        clear c0 c1 c2
        obtain ⟨L, hnL, hL8, rfl, HNL, HB⟩ := hrel
        by_cases hL7 : L ≤ 7
        · have g7 : (L : Int) ≤ 7 := by omega
          have HWL := Lib.hid (HW.out L hL7)
          have HTL := Lib.hid (fun i g cap hi W hs hg => HTW.out L i g cap hnL hL7 hi W hs hg)
          have HYL := Lib.hid (fun i j => HYES.out L i j hL7 hnL HNL.out)
          have HPS := Lib.hid (fun i j (hi : i < (allW 2 L).length) (h : behindJ (twL 2 n o (allW 2 L)) (allW 2 L).length i = some j) h0 => pair_some hi h h0)
          have HPN : Hid ((∀ y, y < (allW 2 L).length → behindJ (twL 2 n o (allW 2 L)) (allW 2 L).length y = none) → NoLen n o (L + 1)) := Lib.hid fun h => HNL.out.next (len_none (pair_none h))
          obtain ⟨hl0, hl729⟩ := HLEN.out L hL7
          generalize allW 2 L = ps at *
          go_wp2_with fail
          refine (HWL.out _).mono ?_
          rintro e w2 hp2
          obtain ⟨g, cap, rfl, ho2, hb2⟩ := hp2.some hl0
          have HB2 := Lib.hid (HB.out.trans (hb2.mono HB.out.size))
          have HST := Lib.hid (StrsAt.of_owns ho2 rfl)
          have hgl := (ho2.lt g rfl).2
          clear hb2 ho2 hp2
          go_wp2
          go_loopw [7] (fun iv wr => ∃ i : Nat, i ≤ ps.length ∧ iv = .int .i64 (i : Int) ∧ Hid (∀ y, y < i → behindJ (twL 2 n o ps) ps.length y = none) ∧ Hid (Below w2.heap.size w2 wr)) (fun iv _ => ps.length - (intOf iv).toNat)
          case atStart => exact ⟨0, Nat.zero_le _, rfl, Lib.hid (fun y h => by omega), Lib.hid (Below.refl _ _)⟩
          case round =>
            obtain ⟨i, hi, rfl, HNI, HBI⟩ := hrel
            have HB3 := Lib.hid (HB2.out.trans (HBI.out.mono HB2.out.size))
            by_cases hlt : i < ps.length
            · have HK3 := Lib.hid (HK1.out.below HB3.out)
              have c0 := HK3.out.c0
              have c1 := HK3.out.c1
              have c2 := HK3.out.c2
              have hgw : g < wr.heap.size := Nat.lt_of_lt_of_le hgl HBI.out.size
              have HC := Lib.hid (HTL.out i g cap hlt wr (HST.out.below HBI.out hgl) hgw)
              have ku := (HST.out.below HBI.out hgl) i hlt
              rw [Nat.zero_add] at ku
              cases hb : behindJ (twL 2 n o ps) ps.length i with
              | none =>
                rw [hb] at HC
                have HC2 : Hid (Calls Try.prog 49 #[.agg #[.int .i64 ((2 : Nat) : Int), .int .i64 (n : Int), .string o], .slice (some ⟨g, 0, none⟩) ps.length cap, .int .i64 (i : Int)] wr (Says (.tuple #[.string ⟨#[]⟩, .bool false]) wr)) := HC
                have HN : Hid (∀ y, y < i + 1 → behindJ (twL 2 n o ps) ps.length y = none) := Lib.hid fun y hy => by
                  by_cases e : y = i
                  · subst e; exact hb
                  · exact HNI.out y (by omega)
                clear hb HC
                go_wp2_with fail
                refine HC2.out.mono ?_
                rintro e w4 ⟨rfl, hb4⟩
                have HB4 := Lib.hid (HBI.out.trans (hb4.mono HBI.out.size))
                clear hb4 ku
                go_wp2
                go_roundw
                case rel => exact ⟨i + 1, hlt, by go_num, HN, HB4⟩
                case measure => simp [intOf]; omega
              | some j =>
                rw [hb] at HC
                have HC2 : Hid (Calls Try.prog 49 #[.agg #[.int .i64 ((2 : Nat) : Int), .int .i64 (n : Int), .string o], .slice (some ⟨g, 0, none⟩) ps.length cap, .int .i64 (i : Int)] wr (Says (.tuple #[.string (ps.getD j ByteArray.empty), .bool true]) wr)) := HC
                have HR := Lib.hid (HYL.out i j (HPS.out i j hlt hb HNI.out))
                clear hb HC
                generalize ps.getD j ByteArray.empty = v at *
                generalize ps.getD i ByteArray.empty = u at *
                go_wp2_with fail
                refine HC2.out.mono ?_
                rintro e w4 ⟨rfl, hb4⟩
                have HB4 := Lib.hid ((HB1.out.trans (HB3.out.mono HB1.out.size)).trans (hb4.mono (Nat.le_trans HB1.out.size HB3.out.size)))
                have ku4 := (hb4.cell (p := ⟨g, i, none⟩) hgw).trans ku
                clear hb4 ku
                go_wp2
                go_ret3
                exact ⟨by show _ = Ending.returned (.tuple #[.string (twinA 2 (n : Int) o), .string (twinB 2 (n : Int) o), .bool (twinF 2 (n : Int) o)]); rw [HR.out.1, HR.out.2.1, HR.out.2.2]; rfl, HB4.out⟩
            · obtain rfl : i = ps.length := by omega
              have HN := Lib.hid (HPN.out HNI.out)
              go_wp2
              go_roundw
              case rel => exact ⟨L + 1, Nat.le_succ_of_le hnL, Nat.succ_le_succ hL7, by go_num, HN, HB3⟩
              case measure => simp [intOf]; omega
        · obtain rfl : L = 8 := by omega
          have HR := Lib.hid (HNO.out HNL.out)
          go_wp2
          go_ret3
          exact ⟨by show _ = Ending.returned (.tuple #[.string (twinA 2 (n : Int) o), .string (twinB 2 (n : Int) o), .bool (twinF 2 (n : Int) o)]); rw [HR.out.1, HR.out.2.1, HR.out.2.2]; rfl, HB1.out.trans (HB.out.mono HB1.out.size)⟩
end Go.Proofs.Ytlncehnbdhkaoaa
