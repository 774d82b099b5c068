/-
  The model's PeriodOf, IsPrimitive and PrimitiveStep: what the plain words say; nothing that was there before is changed.
-/
import Derived.Test.YtjmjcegaomhdcaaStepSpec
import Derived.Test.YtjmjcegaomhdcaaCompSpec
import Derived.Test.YtjmjcegaomhdcaaMatPower
namespace Go.Proofs.Ytjmjcegaomhdcaa
open Go Go.RowKit

theorem perRow_le {m : List (List Int)} {n B : Nat} (hn0 : 0 < n) (hn : n ≤ B) : ∀ {i p : Nat}, p ≤ B → perRow m n i p ≤ B
  | 0, _, hp => hp
  | i + 1, p, hp => by
    rw [perRow]
    split
    · exact Nat.le_trans (Nat.gcd_le_right _ hn0) hn
    · exact perRow_le hn0 hn hp
theorem perAcc_le {m : List (List Int)} : ∀ (n : Nat), perAcc m n ≤ n
  | 0 => Nat.le_refl _
  | n + 1 => perRow_le (by omega) (Nat.le_refl _) (Nat.le_trans (perAcc_le n) (by omega))

set_option maxRecDepth 100000 in
set_option maxHeartbeats 1600000 in
theorem spec_period (A1 : Option Addr) (c1 : Nat) (m : List (List Int)) (hl : m.length ≤ 1048576) (ht : tot m ≤ 1048576) (w : World) (h1 : GridS w A1 m) :
    Calls Try.prog 18 #[.slice A1 m.length c1] w (Scalar (.int .i64 (perS m)) w) := by
  have I1 := Lib.hid (spec_isMatrix A1 c1 m (by omega) (fun k hk => by have := row_le_tot hk; omega) w h1)
  cases hm : isMat m with
  | false =>
    have hr : perS m = 0 := by unfold perS; rw [if_neg (by rw [hm]; decide)]
    rw [hm] at I1
    rw [hr]
    clear h1 hm hr
    go_enter Try.func18, Try.ntmps18
    go_wp2_with fail
    refine I1.out.mono ?_
    rintro e w1 ⟨rfl, rfl⟩
    go_wp2
    go_ret
    exact ⟨rfl, Below.refl _ _⟩
  | true =>
    have hr : perS m = ((perM m : Nat) : Int) := by unfold perS; rw [if_pos hm]
    have hf := isMat_facts hm
    have hle := hf.le
    rw [hm] at I1
    rw [hr]
    have HON := Lib.hid (spec_one m.length (by omega) w)
    rw [wk_one m] at HON
    have HST : Hid (∀ A c k w', Below w.heap.size w w' → GridS w' A (markM (wkB m k) m.length) → Calls Try.prog 52 #[.slice A m.length c, .slice A1 m.length c1] w' (NewG (markM (wkB m (k + 1)) m.length) w')) :=
      Lib.hid fun A c k w' hb hg => spec_step6 A A1 c c1 m hf (wkB m k) w' hg (h1.below hb)
    have HGC := Lib.hid (fun a b ha hb w' => m_gcd a b ha hb w')
    have HEND : Hid (perAcc m (2 * m.length) = perM m) := Lib.hid rfl
    clear h1 hm hr hf
    go_enter Try.func18, Try.ntmps18
    go_wp2_with fail
    refine I1.out.mono ?_
    rintro e w1 ⟨rfl, rfl⟩
    go_wp2_with fail
    refine HON.out.mono ?_
    rintro e w2 ⟨v, rfl, ho, hb⟩
    have HO := Lib.hid ho
    have HB := Lib.hid hb
    clear ho hb
    go_wp2
    go_loopw [3, 4, 5] (fun pv av nv wr => ∃ k : Nat, k ≤ 2 * m.length ∧ nv = .int .i64 ((k + 1 : Nat) : Int) ∧ pv = .int .i64 ((perAcc m k : Nat) : Int) ∧ OwnG wr w1.heap.size av (markM (wkB m k) m.length) ∧ Below w1.heap.size w1 wr) (fun _ _ nv _ => 2 * m.length + 1 - (intOf nv).toNat)
    case atStart => exact ⟨0, Nat.zero_le _, rfl, rfl, HO.out, HB.out⟩
    case round =>
      obtain ⟨k, hk, rfl, rfl, hown, hbl⟩ := hrel
      obtain ⟨A, c, rfl, hg⟩ := hown.gridS
      rw [markM_length] at *
      have hpk := perAcc_le (m := m) k
      by_cases hlt : k < 2 * m.length
      · have HC := Lib.hid (HST.out A c k wr hbl hg)
        have HBL := Lib.hid hbl
        have hsz := hbl.size
        clear hown hbl hg
        have HPA : Hid (∀ i, perRow m (k + 1) i (perAcc m k) ≤ 18) := Lib.hid fun i => perRow_le (by omega) (by omega) (by omega)
        have HPN : Hid (∀ i, perRow m (k + 1) (i + 1) (perAcc m k) = if wkB m (k + 1) i i then Nat.gcd (perRow m (k + 1) i (perAcc m k)) (k + 1) else perRow m (k + 1) i (perAcc m k)) := Lib.hid fun _ => rfl
        have HP0 : Hid (perRow m (k + 1) 0 (perAcc m k) = perAcc m k) := Lib.hid rfl
        have HPE : Hid (perRow m (k + 1) m.length (perAcc m k) = perAcc m (k + 1)) := Lib.hid rfl
        generalize perAcc m k = p0 at *
        go_wp2_with fail
        refine HC.out.mono ?_
        rintro e w3 ⟨v3, rfl, ho3, b3⟩
        have HO3 := Lib.hid (ho3.mono hsz)
        have HB3 := Lib.hid (HBL.out.trans (b3.mono hsz))
        obtain ⟨A3, c3, rfl, hg3⟩ := ho3.gridS
        rw [markM_length] at *
        have HG3 := Lib.hid hg3
        clear ho3 b3 hg3
        go_wp2
        go_loopw [3, 6] (fun pv iv wr => ∃ i : Nat, i ≤ m.length ∧ iv = .int .i64 i ∧ pv = .int .i64 ((perRow m (k + 1) i p0 : Nat) : Int) ∧ wr = w3) (fun _ iv _ => m.length - (intOf iv).toNat)
        case atStart => exact ⟨0, Nat.zero_le _, rfl, by rw [HP0.out], rfl⟩
        case round =>
          obtain ⟨i, hi, rfl, rfl, rfl⟩ := hrel
          by_cases hil : i < m.length
          · obtain ⟨q1, q2, q3, q4, q5, rfl, kq1, kq2, _, _⟩ := HG3.out.num (i := i) (by rw [markM_length]; exact hil) (j := i) (by rw [markM_row _ hil]; exact hil)
            rw [markM_row _ hil] at kq1
            rw [markM_cell _ hil hil] at kq2
            have hle2 := HPA.out i
            have HNX := Lib.hid (HPN.out i)
            generalize perRow m (k + 1) i p0 = p at *
            cases hx : wkB m (k + 1) i i with
            | false =>
              rw [hx, show bI false = 0 from rfl] at kq2
              rw [hx, if_neg (by decide)] at HNX
              clear hx
              go_wp2
              go_roundw
              case rel => exact ⟨i + 1, by omega, by go_num, by rw [HNX.out], trivial⟩
              case measure => simp [intOf]; omega
            | true =>
              rw [hx, show bI true = 1 from rfl] at kq2
              rw [hx, if_pos rfl] at HNX
              have HG := Lib.hid (HGC.out p (k + 1) (by omega) (by omega) wr)
              clear hx
              go_wp2_with fail
              refine HG.out.mono ?_
              rintro e w4 ⟨rfl, rfl⟩
              go_wp2
              go_roundw
              case rel => exact ⟨i + 1, by omega, by go_num, by rw [HNX.out], trivial⟩
              case measure => simp [intOf]; omega
          · obtain rfl : i = m.length := by omega
            go_wp2
            go_roundw
            case rel => exact ⟨k + 1, by omega, by go_num, by rw [HPE.out], HO3.out, HB3.out⟩
            case measure => simp [intOf]; omega
      · obtain rfl : k = 2 * m.length := by omega
        have HBL := Lib.hid hbl
        clear hown hbl hg
        rw [HEND.out] at *
        go_wp2
        go_ret
        exact ⟨rfl, HBL.out⟩
end Go.Proofs.Ytjmjcegaomhdcaa
