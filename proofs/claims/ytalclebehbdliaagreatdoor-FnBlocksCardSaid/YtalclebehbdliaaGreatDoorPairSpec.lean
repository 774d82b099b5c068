/-
  The model's PairGraph: what the plain words say, in new memory; nothing that was there before is changed.
-/
import Derived.Test.YtalclebehbdliaaGreatDoorGridTexts
namespace Go.Proofs.YtalclebehbdliaaGreatDoor
open Go Go.RowKit

def pairF (a b : List (List Int)) : Nat → Nat → Int := fun x y => cellOf a (x / b.length) (y / b.length) * cellOf b (x % b.length) (y % b.length)
theorem div_in {x n d : Nat} (hd : 0 < d) (h : x < n * d) : x / d < n ∧ x % d < d := ⟨(Nat.div_lt_iff_lt_mul hd).2 h, Nat.mod_lt _ hd⟩

set_option maxRecDepth 100000 in
set_option maxHeartbeats 6400000 in
theorem spec_pairGraph (A1 A2 : Option Addr) (c1 c2 : Nat) (a b : List (List Int)) (ha : a.length ≤ 1048576) (hb : b.length ≤ 1048576) (ta : tot a ≤ 1048576) (tb : tot b ≤ 1048576) (w : World) (h1 : GridS w A1 a) (h2 : GridS w A2 b) :
    Calls Tryz.prog 14 #[.slice A1 a.length c1, .slice A2 b.length c2] w (NewGB (pairG a b) w) := by
  have I1 := Lib.hid (spec_isMatrix A1 c1 a (by omega) (fun k hk => by have := row_le_tot hk; omega) w h1)
  have I2 := Lib.hid (spec_isMatrix A2 c2 b (by omega) (fun k hk => by have := row_le_tot hk; omega) w h2)
  have HE := Lib.hid (ownG_empty w)
  cases ma : isMat a with
  | false =>
    rw [ma] at I1
    rw [show pairG a b = none from if_neg (by rw [ma]; simp)]
    clear h1 h2 I2
    go_enter Tryz.func14, Tryz.ntmps14
    go_wp2_with fail
    refine I1.out.mono ?_
    rintro e w1 ⟨rfl, rfl⟩
    go_wp2
    go_ret2
    exact ⟨_, rfl, HE.out, below_new⟩
  | true =>
    rw [ma] at I1
    cases mb : isMat b with
    | false =>
      rw [mb] at I2
      rw [show pairG a b = none from if_neg (by rw [mb]; simp)]
      clear h1 h2
      go_enter Tryz.func14, Tryz.ntmps14
      go_wp2_with fail
      refine I1.out.mono ?_
      rintro e w1 ⟨rfl, rfl⟩
      go_wp2_with fail
      refine I2.out.mono ?_
      rintro e w2 ⟨rfl, rfl⟩
      go_wp2
      go_ret2
      exact ⟨_, rfl, HE.out, below_new⟩
    | true =>
      rw [mb] at I2
      have la := (isMat_iff.1 ma).1
      have lb := (isMat_iff.1 mb).1
      have hmul : a.length * b.length ≤ 9 * 9 := Nat.mul_le_mul la.2 lb.2
      have wl : IntKind.i64.wrap ((a.length : Int) * (b.length : Int)) = ((a.length * b.length : Nat) : Int) := by rw [← Int.natCast_mul, IntKind.wrap_i64]; omega
      by_cases hs : a.length * b.length ≤ 9
      · rw [show pairG a b = if isMat (pairT a b) = true then some (pairT a b) else none by
          unfold pairG
          by_cases hp : isMat (pairT a b) = true
          · rw [if_pos ⟨ma, mb, hs, hp⟩, if_pos hp]
          · rw [if_neg (fun h => hp h.2.2.2), if_neg hp]]
        have HA := Lib.hid (isMat_facts ma)
        have HB := Lib.hid (isMat_facts mb)
        have CA := Lib.hid (fun i j (hi : i < a.length) (hj : j < a.length) => ((isMat_iff.1 ma).2 i hi).2 j hj)
        have CB := Lib.hid (fun i j (hi : i < b.length) (hj : j < b.length) => ((isMat_iff.1 mb).2 i hi).2 j hj)
        have H1 := Lib.hid h1
        have H2 := Lib.hid h2
        have HZ := Lib.hid (spec_zero (a.length * b.length) (a.length * b.length) (by omega) (by omega))
        have HP : Hid (tabOf (a.length * b.length) (a.length * b.length) (pairF a b) = pairT a b) := Lib.hid rfl
        have HIM : Hid (∀ A c w', GridS w' A (pairT a b) → Calls Tryz.prog 42 #[.slice A (a.length * b.length) c] w' fun e w2 => e = .returned (.bool (isMat (pairT a b))) ∧ w2 = w') := Lib.hid fun A c w' hg => by
          have hl : (pairT a b).length = a.length * b.length := tabOf_length _ _ _
          have h := spec_isMatrix A c (pairT a b) (by omega) (fun k hk => by rw [hl] at hk; rw [show (pairT a b).getD k [] = _ from tabOf_row hk]; simp; omega) w' hg
          rwa [hl] at h
        have HR1 : Hid (isMat (pairT a b) = true → (if isMat (pairT a b) = true then some (pairT a b) else none) = some (pairT a b)) := Lib.hid fun h => if_pos h
        have HR2 : Hid (isMat (pairT a b) = false → (if isMat (pairT a b) = true then some (pairT a b) else none) = none) := Lib.hid fun h => if_neg (by rw [h]; decide)
        generalize (if isMat (pairT a b) = true then some (pairT a b) else none) = r at *
        have HD : Hid (∀ x, x < a.length * b.length → x / b.length < a.length ∧ x % b.length < b.length) := Lib.hid fun x hx => div_in (by omega) hx
        obtain ⟨N, hN⟩ : ∃ N, a.length * b.length = N := ⟨_, rfl⟩
        rw [hN] at wl HZ HP hs HIM HD
        generalize pairT a b = p at *
        clear h1 h2 ma mb hmul hN
        go_enter Tryz.func14, Tryz.ntmps14
        go_wp2_with fail
        refine I1.out.mono ?_
        rintro e wi ⟨rfl, hw⟩
        obtain rfl : w = wi := hw.symm
        go_wp2_with fail
        refine I2.out.mono ?_
        rintro e wi ⟨rfl, hw⟩
        obtain rfl : w = wi := hw.symm
        go_wp2_with fail
        refine (HZ.out _).mono ?_
        rintro e w1 ⟨v, rfl, hown, b1⟩
        obtain ⟨A, c, rfl, -⟩ := hown.gridS
        rw [← fillF_zero (pairF a b) N] at hown
        rw [tabOf_length] at hown ⊢
        have HO := Lib.hid hown
        have HB1 := Lib.hid b1
        clear hown b1 HZ I1 I2
        go_wp2
        go_loopw [8] (fun iv wr => ∃ x : Nat, x ≤ N ∧ iv = .int .i64 x ∧ OwnG wr w.heap.size (.slice A N c) (tabOf N N (fillF (pairF a b) x 0)) ∧ Below w.heap.size w wr) (fun i _ => N - (intOf i).toNat)
        case atStart => exact ⟨0, Nat.zero_le _, rfl, HO.out, HB1.out⟩
        case round =>
          obtain ⟨x, hx, rfl, hown, hbl⟩ := hrel
          by_cases hxl : x < N
          · have HO1 := Lib.hid hown
            have HB2 := Lib.hid hbl
            clear hown hbl
            obtain ⟨W1, rfl⟩ : ∃ W1 : World, W1 = wr := ⟨_, rfl⟩
            go_wp2
            go_loopw [9] (fun jv wr => ∃ y : Nat, y ≤ N ∧ jv = .int .i64 y ∧ OwnG wr w.heap.size (.slice A N c) (tabOf N N (fillF (pairF a b) x y)) ∧ Below w.heap.size w wr) (fun j _ => N - (intOf j).toNat)
            case atStart => exact ⟨0, Nat.zero_le _, rfl, HO1.out, HB2.out⟩
            case round =>
              obtain ⟨y, hy, rfl, hown, hbl⟩ := hrel
              by_cases hyl : y < N
              · have hrl : ((tabOf N N (fillF (pairF a b) x y)).getD x []).length = N := by rw [tabOf_row hxl]; simp
                obtain ⟨g, cap, gi, ci, hv, k1, k2, kf, kb, kl, hset⟩ := hown.at (i := x) (j := y) (by rw [tabOf_length]; exact hxl) (by rw [hrl]; exact hyl)
                rw [tabOf_length] at hv
                simp only [Value.slice.injEq, true_and] at hv
                obtain ⟨rfl, rfl⟩ := hv
                rw [hrl] at k1
                obtain ⟨x1, x2⟩ := HD.out x hxl
                obtain ⟨y1, y2⟩ := HD.out y hyl
                obtain ⟨p1, p2, p3, p4, p5, rfl, ka1, ka2, _, _⟩ := (H1.out.below hbl).num x1 (j := y / b.length) (by rw [HA.out.row _ x1]; exact y1)
                rw [HA.out.row _ x1] at ka1
                obtain ⟨q1, q2, q3, q4, q5, rfl, kc1, kc2, _, _⟩ := (H2.out.below hbl).num x2 (j := y % b.length) (by rw [HB.out.row _ x2]; exact y2)
                rw [HB.out.row _ x2] at kc1
                have hs1 := hset (pairF a b x y)
                rw [fillF_next (pairF a b) N x y hxl] at hs1
                have ca := CA.out _ _ x1 y1
                have cb := CB.out _ _ x2 y2
                have hpf : pairF a b x y = cellOf a (x / b.length) (y / b.length) * cellOf b (x % b.length) (y % b.length) := rfl
                rw [hpf] at hs1
                have hm0 := Int.mul_nonneg ca.1 cb.1
                have hm1 : cellOf a (x / b.length) (y / b.length) * cellOf b (x % b.length) (y % b.length) ≤ 1000000 * 1000000 := Int.le_trans (Int.mul_le_mul_of_nonneg_right ca.2 cb.1) (Int.mul_le_mul_of_nonneg_left cb.2 (by decide))
                have w1 : IntKind.i64.wrap (cellOf a (x / b.length) (y / b.length) * cellOf b (x % b.length) (y % b.length)) = cellOf a (x / b.length) (y / b.length) * cellOf b (x % b.length) (y % b.length) := by rw [IntKind.wrap_i64]; omega
                have HS := Lib.hid hs1
                have HB4 := Lib.hid hbl
                have d1 : Int.tdiv (x : Int) (b.length : Int) = ((x / b.length : Nat) : Int) := rfl
                have d2 : Int.tdiv (y : Int) (b.length : Int) = ((y / b.length : Nat) : Int) := rfl
                have d3 : Int.tmod (x : Int) (b.length : Int) = ((x % b.length : Nat) : Int) := rfl
                have d4 : Int.tmod (y : Int) (b.length : Int) = ((y % b.length : Nat) : Int) := rfl
                have z0 : ((b.length : Int) == 0) = false := by rw [beq_eq_false_iff_ne]; omega
                have z1 : ¬ (b.length : Int) = 0 := by omega
                clear hset hs1 hown hbl hm0 hm1 hpf ca cb
                generalize cellOf a (x / b.length) (y / b.length) = u at *
                generalize cellOf b (x % b.length) (y % b.length) = v at *
                generalize cellOf (tabOf N N (fillF (pairF a b) x y)) x y = T at *
                generalize x / b.length = xd at *
                generalize y / b.length = yd at *
                generalize x % b.length = xm at *
                generalize y % b.length = ym at *
                have e1 : IntKind.i64.wrap (xd : Int) = (xd : Int) := by rw [IntKind.wrap_i64]; omega
                have e2 : IntKind.i64.wrap (yd : Int) = (yd : Int) := by rw [IntKind.wrap_i64]; omega
                have e3 : IntKind.i64.wrap (xm : Int) = (xm : Int) := by rw [IntKind.wrap_i64]; omega
                have e4 : IntKind.i64.wrap (ym : Int) = (ym : Int) := by rw [IntKind.wrap_i64]; omega
                go_wp2
                go_region
                go_wp2
                go_roundw
                case rel => exact ⟨y + 1, by omega, by go_num, HS.out.drew, (HB4.out.setCell kb _).drew⟩
                case measure => simp [intOf]; omega
              · obtain rfl : y = N := by omega
                rw [fillF_row] at hown
                have HO3 := Lib.hid hown
                clear hown
                go_wp2
                go_roundw
                case rel => exact ⟨x + 1, by omega, by go_num, HO3.out, hbl⟩
                case measure => simp [intOf]; omega
          · obtain rfl : x = N := by omega
            rw [fillF_all, HP.out] at hown
            obtain ⟨A', c', hv, hg⟩ := hown.gridS
            have HC := Lib.hid (HIM.out A c wr (by
              have hl : p.length = x := by rw [← HP.out, tabOf_length]
              rw [hl] at hv
              simp only [Value.slice.injEq, true_and] at hv
              obtain ⟨rfl, rfl⟩ := hv
              exact hg))
            have HO3 := Lib.hid hown
            clear hown hg hv
            go_wp2_with fail
            refine HC.out.mono ?_
            rintro e wi ⟨rfl, hw⟩
            obtain rfl : wr = wi := hw.symm
            cases hp : isMat p with
            | true =>
              have hr := HR1.out hp
              subst hr
              clear HR1 HR2
              go_wp2
              go_ret2
              exact ⟨_, rfl, HO3.out, hbl⟩
            | false =>
              have hr := HR2.out hp
              subst hr
              clear HR1 HR2
              have HE3 := Lib.hid ((ownG_empty wr).mono hbl.size)
              go_wp2
              go_ret2
              exact ⟨_, rfl, HE3.out, below_behind hbl below_new⟩
      · rw [show pairG a b = none from if_neg (fun h => hs h.2.2.1)]
        clear h1 h2 ma mb
        go_enter Tryz.func14, Tryz.ntmps14
        go_wp2_with fail
        refine I1.out.mono ?_
        rintro e wi ⟨rfl, hw⟩
        obtain rfl : w = wi := hw.symm
        go_wp2_with fail
        refine I2.out.mono ?_
        rintro e wi ⟨rfl, hw⟩
        obtain rfl : w = wi := hw.symm
        have hng : ¬ ((a.length * b.length : Nat) : Int) ≤ 9 := by omega
        generalize a.length * b.length = N at *
        go_wp2
        go_ret2
        exact ⟨_, rfl, HE.out, below_new⟩
end Go.Proofs.YtalclebehbdliaaGreatDoor
