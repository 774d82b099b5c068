/-
  The program's halfWithGrowth, FloorOfGrowth and CompareGrowth: what the plain words say; nothing that was there before is changed.
-/
import Derived.Test.YtanelokploifhaaDoorGrowBelowI
import Derived.Test.YtanelokploifhaaDoorGrowRowsI
namespace Go.Proofs.YtanelokploifhaaDoor
open Go Go.RowKit

theorem mid_quo {x y : Int} (h0 : 0 ≤ x) (h1 : 0 ≤ y) (h2 : x ≤ 1000000) (h3 : y ≤ 1000000) : RowKit.wrap64 (x + y) = x + y ∧ (x + y).tdiv 2 = (x + y) / 2 ∧ RowKit.wrap64 ((x + y) / 2) = (x + y) / 2 := by
  refine ⟨by unfold RowKit.wrap64; omega, Int.tdiv_eq_ediv_of_nonneg (by omega), by unfold RowKit.wrap64; omega⟩

set_option maxRecDepth 100000 in
set_option maxHeartbeats 800000 in
theorem impl_half (A : Option Addr) (c : Nat) (m : List (List Int)) (hm : smallM m = true) (d x y : Int) (hd : 1 ≤ d ∧ d ≤ 100) (h0 : 0 ≤ x) (hxy : x + 1 < y) (h1 : y ≤ 3601) (w : World) (hg : GridS w A m) :
    Calls Tryd.prog 29 #[.slice A m.length c, .int .i64 d, .int .i64 x, .int .i64 y] w (Scalar (.tuple #[.int .i64 (if belB m ((x + y) / 2) d then x else (x + y) / 2), .int .i64 (if belB m ((x + y) / 2) d then (x + y) / 2 else y)]) w) := by
  have h9 := (small_facts hm).2.1
  have hrow := (isMat_facts (small_facts hm).1).row
  have HI := Lib.hid (impl_isBelow A c m (by omega) (fun k hk => by rw [hrow k hk]; omega) ((x + y) / 2) d w hg)
  have hb : belowS m ((x + y) / 2) d = belB m ((x + y) / 2) d := by
    unfold belowS
    rw [hm, decide_eq_true (show 0 ≤ (x + y) / 2 ∧ (x + y) / 2 ≤ 3600 by omega), decide_eq_true hd]
    rfl
  rw [hb] at HI
  obtain ⟨q1, q2, q3⟩ := mid_quo h0 (show 0 ≤ y by omega) (by omega) (by omega)
  clear hb hg hm hrow
  generalize belB m ((x + y) / 2) d = b at *
  generalize (x + y) / 2 = z at *
  obtain ⟨u, hu⟩ : ∃ u, (if b = true then x else z) = u := ⟨_, rfl⟩
  obtain ⟨v, hv⟩ : ∃ v, (if b = true then z else y) = v := ⟨_, rfl⟩
  rw [hu, hv]
  have HU := Lib.hid hu
  have HV := Lib.hid hv
  clear hu hv
  go_enter Tryd.func29, Tryd.ntmps29
  go_wp2_with fail
  refine HI.out.mono ?_
  rintro e w1 ⟨rfl, hb1⟩
  cases b with
  | true =>
    obtain rfl : x = u := HU.out
    obtain rfl : z = v := HV.out
    clear HU HV
    go_wp2
    go_ret2
    exact ⟨rfl, hb1⟩
  | false =>
    obtain rfl : z = u := HU.out
    obtain rfl : y = v := HV.out
    clear HU HV
    go_wp2
    go_ret2
    exact ⟨rfl, hb1⟩

set_option maxRecDepth 100000 in
set_option maxHeartbeats 1600000 in
theorem impl_floor (A : Option Addr) (c : Nat) (m : List (List Int)) (hn : m.length ≤ 1099511627776) (ht : ∀ k, k < m.length → (m.getD k []).length ≤ 1099511627776) (d : Int) (w : World) (hg : GridS w A m) :
    Calls Tryd.prog 7 #[.slice A m.length c, .int .i64 d] w (Scalar (.int .i64 (floorS m d)) w) := by
  have HI := Lib.hid (impl_hasGrowth A c m hn ht d w hg)
  by_cases hs : (smallM m && decide (1 ≤ d ∧ d ≤ 100)) = true
  · rw [hs] at HI
    rw [Bool.and_eq_true, decide_eq_true_iff] at hs
    obtain ⟨hm, hd⟩ := hs
    have HR := Lib.hid (impl_rowBounds A c m hn ht w hg)
    have HG := Lib.hid hg
    have HH := Lib.hid (fun x y w' hb h0 hxy h1 => impl_half A c m hm d x y hd h0 hxy h1 w' (HG.out.below hb))
    have HV := Lib.hid (fun x y h1 h2 h3 h4 => halved (x := x) (y := y) hm hd h1 h2 h3 h4)
    obtain ⟨b0, b1, l0, l1, l2⟩ := low_high hm hd.1
    have hdl0 : 0 ≤ d * lowS m := Int.mul_nonneg (by omega) l0
    have hdl1 : d * lowS m ≤ d * highS m := Int.mul_le_mul_of_nonneg_left l1 (by omega)
    have hdl2 : d * highS m ≤ 100 * 36 := Int.le_trans (Int.mul_le_mul_of_nonneg_right hd.2 (by omega)) (Int.mul_le_mul_of_nonneg_left l2 (by decide))
    have hw1 : RowKit.wrap64 (d * lowS m) = d * lowS m := by unfold RowKit.wrap64; omega
    have hw2 : RowKit.wrap64 (d * highS m) = d * highS m := by unfold RowKit.wrap64; omega
    have hw3 : RowKit.wrap64 (d * highS m + 1) = d * highS m + 1 := by unfold RowKit.wrap64; omega
    have HB0 := Lib.hid b0
    have HB1 := Lib.hid b1
    clear hg hn ht hm b0 b1 l0 l1 l2
    generalize floorS m d = v at *
    generalize lowS m = lo at *
    generalize highS m = hi at *
    obtain ⟨p, hp⟩ : ∃ p : Int → Bool, (fun q => belB m q d) = p := ⟨_, rfl⟩
    have hpp : ∀ q, belB m q d = p q := fun q => by rw [← hp]
    simp only [hpp] at *
    clear hp hpp
    go_enter Tryd.func7, Tryd.ntmps7
    go_wp2_with fail
    refine HI.out.mono ?_
    rintro e w1 ⟨rfl, hw⟩
    obtain rfl : w = w1 := hw.symm
    clear HI hw
    go_wp2_with fail
    refine HR.out.mono ?_
    rintro e w1 ⟨rfl, hb1⟩
    have HBL := Lib.hid hb1
    clear HR hb1
    go_wp2
    go_loopw [7, 8] (fun xv yv wr => ∃ x y : Int, xv = .int .i64 x ∧ yv = .int .i64 y ∧ 0 ≤ x ∧ x < y ∧ y ≤ 3601 ∧ Hid (p x = false) ∧ Hid (p y = true) ∧ Hid (Below w.heap.size w wr)) (fun xv yv _ => (intOf yv - intOf xv).toNat)
    case atStart => exact ⟨d * lo, d * hi + 1, rfl, rfl, hdl0, by omega, by omega, HB0, HB1, HBL⟩
    case round =>
      clear HB0 HB1
      obtain ⟨x, y, rfl, rfl, hx0, hxy, hy1, hx, hy, hb⟩ := hrel
      have hsub : RowKit.wrap64 (y - x) = y - x := by unfold RowKit.wrap64; omega
      by_cases hgt : x + 1 < y
      · have hgo : y - x > 1 := by omega
        have C1 := Lib.hid (HH.out x y wr hb.out hx0 hgt hy1)
        have hws := hb.out.size
        cases hpz : p ((x + y) / 2) with
        | true =>
          rw [hpz, if_pos rfl, if_pos rfl] at C1
          have HZ := Lib.hid hpz
          clear hpz
          go_wp2_with fail
          refine C1.out.mono ?_
          rintro e w2 ⟨rfl, hb2⟩
          have HB2 := Lib.hid (hb.out.trans (hb2.mono hws))
          clear hb2
          go_wp2
          go_roundw
          case rel => exact ⟨x, (x + y) / 2, rfl, rfl, hx0, by omega, by omega, hx, HZ, HB2⟩
          case measure => simp [intOf]; omega
        | false =>
          rw [hpz, if_neg (by decide), if_neg (by decide)] at C1
          have HZ := Lib.hid hpz
          clear hpz
          go_wp2_with fail
          refine C1.out.mono ?_
          rintro e w2 ⟨rfl, hb2⟩
          have HB2 := Lib.hid (hb.out.trans (hb2.mono hws))
          clear hb2
          go_wp2
          go_roundw
          case rel => exact ⟨(x + y) / 2, y, rfl, rfl, by omega, by omega, hy1, HZ, hy, HB2⟩
          case measure => simp [intOf]; omega
      · have hgo : ¬ y - x > 1 := by omega
        have HE := Lib.hid (HV.out x y hx.out hy.out (by omega) hxy)
        clear hx hy
        go_wp2
        go_ret
        exact ⟨by rw [← HE.out]; rfl, hb.out⟩
  · have hs := Bool.eq_false_iff.2 hs
    rw [hs] at HI
    have hv : floorS m d = -1 := by unfold floorS; rw [hs]; rfl
    rw [hv]
    clear hg hn ht hs hv
    go_enter Tryd.func7, Tryd.ntmps7
    go_wp2_with fail
    refine HI.out.mono ?_
    rintro e w1 ⟨rfl, rfl⟩
    go_wp2
    go_ret
    exact ⟨rfl, Below.refl _ _⟩

theorem impl_isNaN (x : Int) (w : World) : Calls Tryd.prog 71 #[.int .i64 x] w fun e w' => e = .returned (.bool false) ∧ w' = w := by
  go_enter Tryd.func71, Tryd.ntmps71
  go_wp2
  go_ret
  exact ⟨by simp, rfl⟩
theorem impl_cmp (x y : Int) (w : World) : Calls Tryd.prog 47 #[.int .i64 x, .int .i64 y] w fun e w' => e = .returned (.int .i64 (if y < x then 1 else if x < y then -1 else 0)) ∧ w' = w := by
  have HN := Lib.hid impl_isNaN
  obtain ⟨u, hu⟩ : ∃ u : Int, (if y < x then 1 else if x < y then -1 else 0) = u := ⟨_, rfl⟩
  rw [hu]
  have HU := Lib.hid hu
  clear hu
  go_enter Tryd.func47, Tryd.ntmps47
  go_wp2_with fail
  refine (HN.out _ _).mono ?_
  rintro e w1 ⟨rfl, rfl⟩
  go_wp2_with fail
  refine (HN.out _ _).mono ?_
  rintro e w1 ⟨rfl, rfl⟩
  by_cases h1 : x < y
  · have h2 : ¬ y < x := by omega
    obtain rfl : -1 = u := by have h := HU.out; rw [if_neg h2, if_pos h1] at h; exact h
    go_wp2
    go_ret
    exact ⟨rfl, rfl⟩
  · by_cases h2 : y < x
    · have h3 : x > y := h2
      obtain rfl : 1 = u := by have h := HU.out; rw [if_pos h2] at h; exact h
      go_wp2
      go_ret
      exact ⟨rfl, rfl⟩
    · have h3 : ¬ x > y := h2
      obtain rfl : 0 = u := by have h := HU.out; rw [if_neg h2, if_neg h1] at h; exact h
      go_wp2
      go_ret
      exact ⟨rfl, rfl⟩

set_option maxRecDepth 100000 in
set_option maxHeartbeats 800000 in
theorem impl_compare (A A2 : Option Addr) (c c2 : Nat) (a b : List (List Int)) (hn : a.length ≤ 1099511627776) (ht : ∀ k, k < a.length → (a.getD k []).length ≤ 1099511627776) (hn2 : b.length ≤ 1099511627776) (ht2 : ∀ k, k < b.length → (b.getD k []).length ≤ 1099511627776) (d : Int) (w : World) (hg : GridS w A a) (hg2 : GridS w A2 b) :
    Calls Tryd.prog 15 #[.slice A a.length c, .slice A2 b.length c2, .int .i64 d] w (Scalar (.int .i64 (cmpS a b d)) w) := by
  have H1 := Lib.hid (impl_floor A c a hn ht d w hg)
  have H2 := Lib.hid (fun w' (hb : Below w.heap.size w w') => impl_floor A2 c2 b hn2 ht2 d w' (hg2.below hb))
  have HC := Lib.hid impl_cmp
  have r1 := floorS_range a d
  have r2 := floorS_range b d
  unfold cmpS cmpI
  clear hg hg2 hn hn2 ht ht2
  generalize floorS a d = x at *
  generalize floorS b d = y at *
  obtain ⟨u, hu⟩ : ∃ u : Int, (if x < 0 ∨ y < 0 then -2 else if y < x then 1 else if x < y then -1 else 0) = u := ⟨_, rfl⟩
  rw [hu]
  have HU := Lib.hid hu
  clear hu
  go_enter Tryd.func15, Tryd.ntmps15
  go_wp2_with fail
  refine H1.out.mono ?_
  rintro e w1 ⟨rfl, hb1⟩
  go_wp2_with fail
  refine (H2.out w1 hb1).mono ?_
  rintro e w2 ⟨rfl, hb2⟩
  have HB2 := Lib.hid (hb1.trans (hb2.mono hb1.size))
  clear hb1 hb2 H1 H2
  by_cases hx : x < 0
  · obtain rfl : x = -1 := by omega
    obtain rfl : -2 = u := by have h := HU.out; rw [if_pos (Or.inl (by decide))] at h; exact h
    go_wp2
    go_ret
    exact ⟨rfl, HB2.out⟩
  · have ex : (x == -1) = false := by rw [beq_eq_false_iff_ne]; omega
    by_cases hy : y < 0
    · obtain rfl : y = -1 := by omega
      obtain rfl : -2 = u := by have h := HU.out; rw [if_pos (Or.inr (by decide))] at h; exact h
      go_wp2
      go_ret
      exact ⟨rfl, HB2.out⟩
    · have ey : (y == -1) = false := by rw [beq_eq_false_iff_ne]; omega
      have HU2 : Hid ((if y < x then 1 else if x < y then -1 else 0) = u) := Lib.hid (by have h := HU.out; rw [if_neg (by omega)] at h; exact h)
      have C2 := Lib.hid (HC.out x y w2)
      rw [HU2.out] at C2
      go_wp2_with fail
      refine C2.out.mono ?_
      rintro e w3 ⟨rfl, rfl⟩
      go_wp2
      go_ret
      exact ⟨rfl, HB2.out⟩
end Go.Proofs.YtanelokploifhaaDoor
