/-
  The model's JoinGraphs: what the plain words say, in new memory; nothing that was there before is changed.
-/
import Derived.Test.YtalclebehbdliaaGreatDoorGridTexts
namespace Go.Proofs.YtalclebehbdliaaGreatDoor
open Go Go.RowKit

/-- A table into which another one is put at place p of both, row by row. -/
def rectF (base f : Nat → Nat → Int) (p n i j : Nat) : Nat → Nat → Int := fun a b => if p ≤ a ∧ p ≤ b ∧ b < p + n ∧ (a < p + i ∨ (a = p + i ∧ b < p + j)) then f (a - p) (b - p) else base a b
theorem rect_zero (base f : Nat → Nat → Int) (p n N : Nat) : tabOf N N (rectF base f p n 0 0) = tabOf N N base := tabOf_congr fun a b _ _ => by unfold rectF; rw [if_neg (by omega)]
theorem rect_next (base f : Nat → Nat → Int) (p n N i j : Nat) (hi : p + i < N) (hj : j < n) : (tabOf N N (rectF base f p n i j)).set (p + i) (((tabOf N N (rectF base f p n i j)).getD (p + i) []).set (p + j) (f i j)) = tabOf N N (rectF base f p n i (j + 1)) := by
  rw [tabOf_set _ _ hi]
  refine tabOf_congr fun a b _ _ => ?_
  unfold rectF
  by_cases e : a = p + i ∧ b = p + j
  · obtain ⟨rfl, rfl⟩ := e
    rw [if_pos ⟨rfl, rfl⟩, if_pos (by omega), show p + i - p = i by omega, show p + j - p = j by omega]
  · rw [if_neg e]
    by_cases h : p ≤ a ∧ p ≤ b ∧ b < p + n ∧ (a < p + i ∨ (a = p + i ∧ b < p + j))
    · rw [if_pos h, if_pos (by omega)]
    · rw [if_neg h, if_neg (by omega)]
theorem rect_row (base f : Nat → Nat → Int) (p n N i : Nat) : tabOf N N (rectF base f p n i n) = tabOf N N (rectF base f p n (i + 1) 0) := tabOf_congr fun a b _ hb => by
  unfold rectF
  by_cases h : p ≤ a ∧ p ≤ b ∧ b < p + n ∧ (a < p + i ∨ (a = p + i ∧ b < p + n))
  · rw [if_pos h, if_pos (by omega)]
  · rw [if_neg h, if_neg (by omega)]
theorem rect_join (a b : List (List Int)) (la lb : Nat) (ha : a.length = la) (hb : b.length = lb) : tabOf (la + lb) (la + lb) (rectF (rectF (fun _ _ => 0) (cellOf a) 0 la la 0) (cellOf b) la lb lb 0) = joinT a b := by
  subst ha hb
  refine tabOf_congr fun i j hi hj => ?_
  unfold rectF
  by_cases c1 : i < a.length
  · rw [if_neg (by omega), if_pos c1]
    by_cases c2 : j < a.length
    · rw [if_pos c2, if_pos (by omega)]; rfl
    · rw [if_neg c2, if_neg (by omega)]
  · rw [if_neg c1]
    by_cases c2 : j < a.length
    · rw [if_pos c2, if_neg (by omega), if_neg (by omega)]
    · rw [if_neg c2, if_pos (by omega)]

set_option maxRecDepth 100000 in
set_option maxHeartbeats 6400000 in
theorem spec_joinGraphs (A1 A2 : Option Addr) (c1 c2 : Nat) (a b : List (List Int)) (ha : a.length ≤ 1048576) (hb : b.length ≤ 1048576) (ta : tot a ≤ 1048576) (tb : tot b ≤ 1048576) (w : World) (h1 : GridS w A1 a) (h2 : GridS w A2 b) :
    Calls Tryz.prog 11 #[.slice A1 a.length c1, .slice A2 b.length c2] w (NewGB (joinG a b) w) := by
  have I1 := Lib.hid (spec_isMatrix A1 c1 a (by omega) (fun k hk => by have := row_le_tot hk; omega) w h1)
  have I2 := Lib.hid (spec_isMatrix A2 c2 b (by omega) (fun k hk => by have := row_le_tot hk; omega) w h2)
  have HE := Lib.hid (ownG_empty w)
  cases ma : isMat a with
  | false =>
    rw [ma] at I1
    rw [show joinG a b = none from if_neg (by rw [ma]; simp)]
    clear h1 h2 I2
    go_enter Tryz.func11, Tryz.ntmps11
    go_wp2_with fail
    refine I1.out.mono ?_
    rintro e w1 ⟨rfl, rfl⟩
    go_wp2
    go_ret2
    exact ⟨_, rfl, HE.out, below_new⟩
  | true =>
    rw [ma] at I1
    cases mb : isMat b with
    | false =>
      rw [mb] at I2
      rw [show joinG a b = none from if_neg (by rw [mb]; simp)]
      clear h1 h2
      go_enter Tryz.func11, Tryz.ntmps11
      go_wp2_with fail
      refine I1.out.mono ?_
      rintro e w1 ⟨rfl, rfl⟩
      go_wp2_with fail
      refine I2.out.mono ?_
      rintro e w2 ⟨rfl, rfl⟩
      go_wp2
      go_ret2
      exact ⟨_, rfl, HE.out, below_new⟩
    | true =>
      rw [mb] at I2
      have wl : IntKind.i64.wrap ((a.length : Int) + (b.length : Int)) = ((a.length + b.length : Nat) : Int) := by rw [IntKind.wrap_i64]; omega
      by_cases hs : a.length + b.length ≤ 9
      · rw [show joinG a b = some (joinT a b) from if_pos ⟨ma, mb, hs⟩]
        have HA := Lib.hid (isMat_facts ma).row
        have HB := Lib.hid (isMat_facts mb).row
        have H1 := Lib.hid h1
        have H2 := Lib.hid h2
        have HZ := Lib.hid (spec_zero (a.length + b.length) (a.length + b.length) (by omega) (by omega))
        have HJ := Lib.hid (rect_join a b a.length b.length rfl rfl)
        obtain ⟨N, hN⟩ : ∃ N, a.length + b.length = N := ⟨_, rfl⟩
        rw [hN] at wl HZ HJ hs
        clear h1 h2 ma mb
        go_enter Tryz.func11, Tryz.ntmps11
        go_wp2_with fail
        refine I1.out.mono ?_
        rintro e wi ⟨rfl, hw⟩
        obtain rfl : w = wi := hw.symm
        go_wp2_with fail
        refine I2.out.mono ?_
        rintro e wi ⟨rfl, hw⟩
        obtain rfl : w = wi := hw.symm
        go_wp2_with fail
        refine (HZ.out _).mono ?_
        rintro e w1 ⟨v, rfl, hown, b1⟩
        obtain ⟨A, c, rfl, -⟩ := hown.gridS
        rw [← rect_zero (fun _ _ => 0) (cellOf a) 0 a.length N] at hown
        rw [tabOf_length] at hown ⊢
        have HO := Lib.hid hown
        have HB1 := Lib.hid b1
        clear hown b1 HZ HE I1 I2
        go_wp2
        go_loopw [7] (fun iv wr => ∃ i : Nat, i ≤ a.length ∧ iv = .int .i64 i ∧ OwnG wr w.heap.size (.slice A N c) (tabOf N N (rectF (fun _ _ => 0) (cellOf a) 0 a.length i 0)) ∧ Below w.heap.size w wr) (fun i _ => a.length - (intOf i).toNat)
        case atStart => exact ⟨0, Nat.zero_le _, rfl, HO.out, HB1.out⟩
        case round =>
          obtain ⟨i, hi, rfl, hown, hbl⟩ := hrel
          by_cases hil : i < a.length
          · have HO1 := Lib.hid hown
            have HB2 := Lib.hid hbl
            clear hown hbl
            obtain ⟨W1, rfl⟩ : ∃ W1 : World, W1 = wr := ⟨_, rfl⟩
            go_wp2
            go_loopw [8] (fun jv wr => ∃ j : Nat, j ≤ a.length ∧ jv = .int .i64 j ∧ OwnG wr w.heap.size (.slice A N c) (tabOf N N (rectF (fun _ _ => 0) (cellOf a) 0 a.length i j)) ∧ Below w.heap.size w wr) (fun j _ => a.length - (intOf j).toNat)
            case atStart => exact ⟨0, Nat.zero_le _, rfl, HO1.out, HB2.out⟩
            case round =>
              obtain ⟨j, hj, rfl, hown, hbl⟩ := hrel
              by_cases hjl : j < a.length
              · have hiN : i < N := by omega
                have hjN : j < N := by omega
                have hrl : ((tabOf N N (rectF (fun _ _ => 0) (cellOf a) 0 a.length i j)).getD i []).length = N := by rw [tabOf_row hiN]; simp
                obtain ⟨g, cap, gi, ci, hv, k1, k2, kf, kb, kl, hset⟩ := hown.at (i := i) (j := j) (by rw [tabOf_length]; exact hiN) (by rw [hrl]; exact hjN)
                rw [tabOf_length] at hv
                simp only [Value.slice.injEq, true_and] at hv
                obtain ⟨rfl, rfl⟩ := hv
                rw [hrl] at k1
                obtain ⟨p1, p2, p3, p4, p5, rfl, ka1, ka2, _, _⟩ := (H1.out.below hbl).num hil (j := j) (by rw [HA.out i hil]; exact hjl)
                rw [HA.out i hil] at ka1
                have hs1 := hset (cellOf a i j)
                have hn1 := rect_next (fun _ _ => 0) (cellOf a) 0 a.length N i j (by omega) hjl
                rw [Nat.zero_add, Nat.zero_add] at hn1
                rw [hn1] at hs1
                have HS := Lib.hid hs1
                have HB4 := Lib.hid hbl
                clear hset hs1 hown hbl hn1
                generalize cellOf a i j = x at *
                generalize cellOf (tabOf N N (rectF (fun _ _ => 0) (cellOf a) 0 a.length i j)) i j = T at *
                go_wp2
                go_region
                go_wp2
                go_roundw
                case rel => exact ⟨j + 1, by omega, by go_num, HS.out.drew, (HB4.out.setCell kb _).drew⟩
                case measure => simp [intOf]; omega
              · obtain rfl : j = a.length := by omega
                rw [rect_row] at hown
                have HO3 := Lib.hid hown
                clear hown
                go_wp2
                go_roundw
                case rel => exact ⟨i + 1, by omega, by go_num, HO3.out, hbl⟩
                case measure => simp [intOf]; omega
          · obtain rfl : i = a.length := by omega
            generalize hbase : rectF (fun _ _ => 0) (cellOf a) 0 a.length a.length 0 = base at *
            rw [← rect_zero base (cellOf b) a.length b.length N] at hown
            have HO1 := Lib.hid hown
            have HB2 := Lib.hid hbl
            clear hown hbl HO HB1 hbase
            obtain ⟨W1, rfl⟩ : ∃ W1 : World, W1 = wr := ⟨_, rfl⟩
            go_wp2
            go_loopw [9] (fun iv wr => ∃ i : Nat, i ≤ b.length ∧ iv = .int .i64 i ∧ OwnG wr w.heap.size (.slice A N c) (tabOf N N (rectF base (cellOf b) a.length b.length i 0)) ∧ Below w.heap.size w wr) (fun i _ => b.length - (intOf i).toNat)
            case atStart => exact ⟨0, Nat.zero_le _, rfl, HO1.out, HB2.out⟩
            case round =>
              obtain ⟨i, hi, rfl, hown, hbl⟩ := hrel
              by_cases hil : i < b.length
              · have HO1 := Lib.hid hown
                have HB2 := Lib.hid hbl
                clear hown hbl
                obtain ⟨W2, rfl⟩ : ∃ W2 : World, W2 = wr := ⟨_, rfl⟩
                go_wp2
                go_loopw [10] (fun jv wr => ∃ j : Nat, j ≤ b.length ∧ jv = .int .i64 j ∧ OwnG wr w.heap.size (.slice A N c) (tabOf N N (rectF base (cellOf b) a.length b.length i j)) ∧ Below w.heap.size w wr) (fun j _ => b.length - (intOf j).toNat)
                case atStart => exact ⟨0, Nat.zero_le _, rfl, HO1.out, HB2.out⟩
                case round =>
                  obtain ⟨j, hj, rfl, hown, hbl⟩ := hrel
                  by_cases hjl : j < b.length
                  · have hiN : a.length + i < N := by omega
                    have hjN : a.length + j < N := by omega
                    have hrl : ((tabOf N N (rectF base (cellOf b) a.length b.length i j)).getD (a.length + i) []).length = N := by rw [tabOf_row hiN]; simp
                    obtain ⟨g, cap, gi, ci, hv, k1, k2, kf, kb, kl, hset⟩ := hown.at (i := a.length + i) (j := a.length + j) (by rw [tabOf_length]; exact hiN) (by rw [hrl]; exact hjN)
                    rw [tabOf_length] at hv
                    simp only [Value.slice.injEq, true_and] at hv
                    obtain ⟨rfl, rfl⟩ := hv
                    rw [hrl] at k1
                    obtain ⟨p1, p2, p3, p4, p5, rfl, ka1, ka2, _, _⟩ := (H2.out.below hbl).num hil (j := j) (by rw [HB.out i hil]; exact hjl)
                    rw [HB.out i hil] at ka1
                    have hs1 := hset (cellOf b i j)
                    rw [rect_next base (cellOf b) a.length b.length N i j hiN hjl] at hs1
                    have HS := Lib.hid hs1
                    have HB4 := Lib.hid hbl
                    have w1 : IntKind.i64.wrap ((a.length : Int) + (i : Int)) = ((a.length + i : Nat) : Int) := by rw [IntKind.wrap_i64]; omega
                    have w2 : IntKind.i64.wrap ((a.length : Int) + (j : Int)) = ((a.length + j : Nat) : Int) := by rw [IntKind.wrap_i64]; omega
                    clear hset hs1 hown hbl
                    generalize cellOf b i j = x at *
                    generalize cellOf (tabOf N N (rectF base (cellOf b) a.length b.length i j)) (a.length + i) (a.length + j) = T at *
                    generalize hai : a.length + i = ai at *
                    generalize haj : a.length + j = aj at *
                    go_wp2
                    go_region
                    go_wp2
                    go_roundw
                    case rel => exact ⟨j + 1, by omega, by go_num, HS.out.drew, (HB4.out.setCell kb _).drew⟩
                    case measure => simp [intOf]; omega
                  · obtain rfl : j = b.length := by omega
                    rw [rect_row] at hown
                    have HO3 := Lib.hid hown
                    clear hown
                    go_wp2
                    go_roundw
                    case rel => exact ⟨i + 1, by omega, by go_num, HO3.out, hbl⟩
                    case measure => simp [intOf]; omega
              · obtain rfl : i = b.length := by omega
                rw [HJ.out] at hown
                have HO3 := Lib.hid hown
                clear hown
                go_wp2
                go_ret2
                exact ⟨_, rfl, HO3.out, hbl⟩
      · rw [show joinG a b = none from if_neg (by omega)]
        clear h1 h2 ma mb
        go_enter Tryz.func11, Tryz.ntmps11
        go_wp2_with fail
        refine I1.out.mono ?_
        rintro e wi ⟨rfl, hw⟩
        obtain rfl : w = wi := hw.symm
        go_wp2_with fail
        refine I2.out.mono ?_
        rintro e wi ⟨rfl, hw⟩
        obtain rfl : w = wi := hw.symm
        go_wp2
        go_ret2
        exact ⟨_, rfl, HE.out, below_new⟩
end Go.Proofs.YtalclebehbdliaaGreatDoor
