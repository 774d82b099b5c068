/-
  The model's IsBelow, FloorOfGrowth and CompareGrowth: what the plain words say; nothing that was there before is changed.
-/
import Derived.Test.YtanelokploifhaaBelowSpec
import Derived.Test.YtanelokploifhaaPolySpec
namespace Go.Proofs.Ytanelokploifhaa
open Go Go.RowKit

theorem spec_inI (x lo hi : Int) (w : World) :
    Calls Try.prog 23 #[.int .i64 x, .int .i64 lo, .int .i64 hi] w fun e w' => e = .returned (.bool (decide (lo ≤ x ∧ x ≤ hi))) ∧ w' = w := by
  have hd : decide (lo ≤ x ∧ x ≤ hi) = (decide (lo ≤ x) && decide (x ≤ hi)) := by
    rw [Bool.eq_iff_iff, Bool.and_eq_true, decide_eq_true_iff, decide_eq_true_iff, decide_eq_true_iff]
  rw [hd]
  go_enter Try.func23, Try.ntmps23
  cases h1 : decide (lo ≤ x) with
  | false => go_wp2; go_ret; exact ⟨rfl, rfl⟩
  | true => go_wp2; go_ret; exact ⟨rfl, rfl⟩
/-- The comparison of two numbers, -2 where one of them is below 0. -/
def cmpI (x y : Int) : Int := if x < 0 ∨ y < 0 then -2 else if y < x then 1 else if x < y then -1 else 0
def cmpS (a b : List (List Int)) (d : Int) : Int := cmpI (floorS a d) (floorS b d)
theorem floorS_range (m : List (List Int)) (d : Int) : -1 ≤ floorS m d ∧ floorS m d ≤ 3600 := by
  unfold floorS
  split
  · next h =>
    rw [Bool.and_eq_true, decide_eq_true_iff] at h
    have := (floor_is h.1 h.2.1).2.2
    omega
  · omega

set_option maxRecDepth 100000 in
set_option maxHeartbeats 1600000 in
theorem spec_isBelow (A : Option Addr) (c : Nat) (m : List (List Int)) (hn : m.length ≤ 1048576) (ht : ∀ k, k < m.length → (m.getD k []).length ≤ 1099511627776) (q d : Int) (w : World) (hg : GridS w A m) :
    Calls Try.prog 9 #[.slice A m.length c, .int .i64 q, .int .i64 d] w (Scalar (.bool (belowS m q d)) w) := by
  have HI := Lib.hid (spec_isSmall A c m (by omega) ht w hg)
  have HQ := Lib.hid (fun w => spec_inI q 0 3600 w)
  have HD := Lib.hid (fun w => spec_inI d 1 100 w)
  unfold belowS
  cases hm : smallM m with
  | false =>
    rw [hm] at HI
    clear hg ht hm
    go_enter Try.func9, Try.ntmps9
    go_wp2_with fail
    refine HI.out.mono ?_
    rintro e w1 ⟨rfl, rfl⟩
    go_wp2
    go_ret
    exact ⟨rfl, Below.refl _ _⟩
  | true =>
    rw [hm] at HI
    by_cases hq : 0 ≤ q ∧ q ≤ 3600
    · rw [decide_eq_true hq] at HQ ⊢
      by_cases hd : 1 ≤ d ∧ d ≤ 100
      · rw [decide_eq_true hd] at HD ⊢
        have HB := Lib.hid (spec_below8 A c m hm q d ⟨hq.1, by omega⟩ hd w hg)
        rw [show (true && true && true && belB m q d) = belB m q d from rfl]
        clear hg ht hm hq hd
        generalize belB m q d = b at *
        go_enter Try.func9, Try.ntmps9
        go_wp2_with fail
        refine HI.out.mono ?_
        rintro e w1 ⟨rfl, hw⟩
        obtain rfl : w = w1 := hw.symm
        clear HI hw
        go_wp2_with fail
        refine (HQ.out _).mono ?_
        rintro e w1 ⟨rfl, hw⟩
        obtain rfl : w = w1 := hw.symm
        clear hw
        go_wp2_with fail
        refine (HD.out _).mono ?_
        rintro e w1 ⟨rfl, hw⟩
        obtain rfl : w = w1 := hw.symm
        clear hw
        go_wp2_with fail
        refine HB.out.mono ?_
        rintro e w2 ⟨rfl, hb⟩
        go_wp2
        go_ret
        exact ⟨rfl, hb⟩
      · rw [decide_eq_false hd] at HD ⊢
        clear hg ht hm hq hd
        go_enter Try.func9, Try.ntmps9
        go_wp2_with fail
        refine HI.out.mono ?_
        rintro e w1 ⟨rfl, rfl⟩
        go_wp2_with fail
        refine (HQ.out _).mono ?_
        rintro e w1 ⟨rfl, rfl⟩
        go_wp2_with fail
        refine (HD.out _).mono ?_
        rintro e w1 ⟨rfl, rfl⟩
        go_wp2
        go_ret
        exact ⟨rfl, Below.refl _ _⟩
    · rw [decide_eq_false hq] at HQ ⊢
      clear hg ht hm hq
      go_enter Try.func9, Try.ntmps9
      go_wp2_with fail
      refine HI.out.mono ?_
      rintro e w1 ⟨rfl, rfl⟩
      go_wp2_with fail
      refine (HQ.out _).mono ?_
      rintro e w1 ⟨rfl, rfl⟩
      go_wp2
      go_ret
      exact ⟨rfl, Below.refl _ _⟩

set_option maxRecDepth 100000 in
set_option maxHeartbeats 1600000 in
theorem spec_floor (A : Option Addr) (c : Nat) (m : List (List Int)) (hn : m.length ≤ 1048576) (ht : ∀ k, k < m.length → (m.getD k []).length ≤ 1099511627776) (d : Int) (w : World) (hg : GridS w A m) :
    Calls Try.prog 13 #[.slice A m.length c, .int .i64 d] w (Scalar (.int .i64 (floorS m d)) w) := by
  have HI := Lib.hid (spec_isSmall A c m (by omega) ht w hg)
  have HD := Lib.hid (fun w => spec_inI d 1 100 w)
  unfold floorS
  cases hm : smallM m with
  | false =>
    rw [hm] at HI
    clear hg ht hm
    rw [Bool.false_and, if_neg (by decide)]
    go_enter Try.func13, Try.ntmps13
    go_wp2_with fail
    refine HI.out.mono ?_
    rintro e w1 ⟨rfl, rfl⟩
    go_wp2
    go_ret
    exact ⟨rfl, Below.refl _ _⟩
  | true =>
    rw [hm] at HI
    by_cases hd : 1 ≤ d ∧ d ≤ 100
    · rw [decide_eq_true hd] at HD ⊢
      rw [Bool.true_and, if_pos rfl]
      have HB : Hid (∀ (q : Int) (w' : World), 0 ≤ q → q ≤ 3601 → Below w.heap.size w w' → Calls Try.prog 24 #[.slice A m.length c, .int .i64 q, .int .i64 d] w' (Scalar (.bool (belB m q d)) w')) := Lib.hid fun q w' q0 q1 hb => spec_below8 A c m hm q d ⟨q0, q1⟩ hd w' (hg.below hb)
      have HF := Lib.hid (fun q => bel_floor hm (q := q) hd.1)
      have HBI := Lib.hid (fun q => belB_iff hm (q := q) (show 0 ≤ d by omega))
      have hle := (floor_is hm hd.1).2.2
      obtain ⟨d0, d1⟩ := hd
      clear hg ht hm
      generalize floorN m d = F at *
      go_enter Try.func13, Try.ntmps13
      go_wp2_with fail
      refine HI.out.mono ?_
      rintro e w1 ⟨rfl, hw⟩
      obtain rfl : w = w1 := hw.symm
      clear HI hw
      go_wp2_with fail
      refine (HD.out _).mono ?_
      rintro e w1 ⟨rfl, hw⟩
      obtain rfl : w = w1 := hw.symm
      clear HD hw
      go_wp2
      go_loopw [5, 6, 7] (fun lv hv qv wr => ∃ lo hi : Int, lv = .int .i64 lo ∧ hv = .int .i64 hi ∧ 0 ≤ lo ∧ lo ≤ (F : Int) ∧ (F : Int) < hi ∧ hi ≤ 3601 ∧ Hid (Below w.heap.size w wr)) (fun lv hv _ _ => (intOf hv - intOf lv).toNat)
      case atStart => exact ⟨0, 36 * d + 1, rfl, rfl, by omega, by omega, by omega, by omega, Lib.hid (Below.refl _ _)⟩
      case round =>
        obtain ⟨lo, hi, rfl, rfl, l0, l1, h0, h1, hbl⟩ := hrel
        by_cases hgt : 1 < hi - lo
        · obtain ⟨z, hz⟩ : ∃ z, (lo + hi).tdiv 2 = z := ⟨_, rfl⟩
          have hz1 : lo < z ∧ z < hi := by
            rw [← hz, Int.tdiv_eq_ediv_of_nonneg (by omega)]
            omega
          have HC := Lib.hid (HB.out z wr (by omega) (by omega) hbl.out)
          have HFZ := Lib.hid (HF.out z)
          have HBZ := Lib.hid (HBI.out z)
          obtain ⟨z0, z1⟩ := hz1
          cases hb : belB m z d with
          | true =>
            have hFz := HFZ.out.1 (HBZ.out.1 hb)
            rw [hb] at HC
            clear hb HFZ HBZ
            go_wp2_with fail
            refine HC.out.mono ?_
            rintro e w2 ⟨rfl, hb2⟩
            have HB2 := Lib.hid (below_behind hbl.out hb2)
            clear hb2
            go_wp2
            go_roundw
            case rel => exact ⟨lo, z, rfl, rfl, by omega, by omega, by omega, by omega, HB2⟩
            case measure => simp [intOf]; omega
          | false =>
            have hFz : ¬ (F : Int) < z := fun h => by
              have := HBZ.out.2 (HFZ.out.2 h)
              rw [hb] at this; cases this
            rw [hb] at HC
            clear hb HFZ HBZ
            go_wp2_with fail
            refine HC.out.mono ?_
            rintro e w2 ⟨rfl, hb2⟩
            have HB2 := Lib.hid (below_behind hbl.out hb2)
            clear hb2
            go_wp2
            go_roundw
            case rel => exact ⟨z, hi, rfl, rfl, by omega, by omega, by omega, by omega, HB2⟩
            case measure => simp [intOf]; omega
        · obtain rfl : lo = (F : Int) := by omega
          go_wp2
          go_ret
          exact ⟨rfl, hbl.out⟩
    · rw [decide_eq_false hd] at HD ⊢
      rw [Bool.and_false, if_neg (by decide)]
      clear hg ht hm hd
      go_enter Try.func13, Try.ntmps13
      go_wp2_with fail
      refine HI.out.mono ?_
      rintro e w1 ⟨rfl, rfl⟩
      go_wp2_with fail
      refine (HD.out _).mono ?_
      rintro e w1 ⟨rfl, rfl⟩
      go_wp2
      go_ret
      exact ⟨rfl, Below.refl _ _⟩

set_option maxRecDepth 100000 in
set_option maxHeartbeats 1600000 in
theorem spec_compare (A B : Option Addr) (c c' : Nat) (a b : List (List Int)) (hna : a.length ≤ 1048576) (hta : ∀ k, k < a.length → (a.getD k []).length ≤ 1099511627776) (hnb : b.length ≤ 1048576) (htb : ∀ k, k < b.length → (b.getD k []).length ≤ 1099511627776) (d : Int) (w : World) (hg : GridS w A a) (hg' : GridS w B b) :
    Calls Try.prog 17 #[.slice A a.length c, .slice B b.length c', .int .i64 d] w (Scalar (.int .i64 (cmpS a b d)) w) := by
  have HA := Lib.hid (spec_floor A c a hna hta d w hg)
  have HB := Lib.hid (fun w' (hb : Below w.heap.size w w') => spec_floor B c' b hnb htb d w' (hg'.below hb))
  have HBT := Lib.hid bit_true
  have HBF := Lib.hid bit_false
  obtain ⟨x0, x1⟩ := floorS_range a d
  obtain ⟨y0, y1⟩ := floorS_range b d
  unfold cmpS
  clear hg hg' hta htb
  generalize floorS a d = x at *
  generalize floorS b d = y at *
  obtain ⟨r, hr⟩ : ∃ r, cmpI x y = r := ⟨_, rfl⟩
  rw [hr]
  have HR := Lib.hid hr
  clear hr
  go_enter Try.func17, Try.ntmps17
  go_wp2_with fail
  refine HA.out.mono ?_
  rintro e w1 ⟨rfl, hb1⟩
  have HB1 := Lib.hid (HB.out w1 hb1)
  have H1 := Lib.hid hb1
  clear hb1 HA HB
  go_wp2_with fail
  refine HB1.out.mono ?_
  rintro e w2 ⟨rfl, hb2⟩
  have H2 := Lib.hid (below_behind H1.out hb2)
  clear hb2
  by_cases h1 : x < 0
  · have HV : Hid (r = -2) := Lib.hid (by rw [← HR.out]; unfold cmpI; rw [if_pos (Or.inl h1)])
    go_wp2
    go_ret
    exact ⟨by rw [HV.out]; rfl, H2.out⟩
  · by_cases h2 : y < 0
    · have HV : Hid (r = -2) := Lib.hid (by rw [← HR.out]; unfold cmpI; rw [if_pos (Or.inr h2)])
      go_wp2
      go_ret
      exact ⟨by rw [HV.out]; rfl, H2.out⟩
    · by_cases h3 : y < x
      · have h4 : ¬ x < y := by omega
        have HV : Hid (r = 1) := Lib.hid (by rw [← HR.out]; unfold cmpI; rw [if_neg (by omega), if_pos h3])
        have t3 : decide (y < x) = true := decide_eq_true h3
        have t4 : decide (x < y) = false := decide_eq_false h4
        go_wp2_with (first | (go_at_call 39; first | (refine (HBT.out _).mono ?_; rintro e w3 ⟨rfl, rfl⟩) | (refine (HBF.out _).mono ?_; rintro e w3 ⟨rfl, rfl⟩)))
        go_ret
        exact ⟨by rw [HV.out]; rfl, H2.out⟩
      · by_cases h4 : x < y
        · have HV : Hid (r = -1) := Lib.hid (by rw [← HR.out]; unfold cmpI; rw [if_neg (by omega), if_neg h3, if_pos h4])
          have t3 : decide (y < x) = false := decide_eq_false h3
          have t4 : decide (x < y) = true := decide_eq_true h4
          go_wp2_with (first | (go_at_call 39; first | (refine (HBT.out _).mono ?_; rintro e w3 ⟨rfl, rfl⟩) | (refine (HBF.out _).mono ?_; rintro e w3 ⟨rfl, rfl⟩)))
          go_ret
          exact ⟨by rw [HV.out]; rfl, H2.out⟩
        · have HV : Hid (r = 0) := Lib.hid (by rw [← HR.out]; unfold cmpI; rw [if_neg (by omega), if_neg h3, if_neg h4])
          have t3 : decide (y < x) = false := decide_eq_false h3
          have t4 : decide (x < y) = false := decide_eq_false h4
          go_wp2_with (first | (go_at_call 39; first | (refine (HBT.out _).mono ?_; rintro e w3 ⟨rfl, rfl⟩) | (refine (HBF.out _).mono ?_; rintro e w3 ⟨rfl, rfl⟩)))
          go_ret
          exact ⟨by rw [HV.out]; rfl, H2.out⟩
end Go.Proofs.Ytanelokploifhaa
