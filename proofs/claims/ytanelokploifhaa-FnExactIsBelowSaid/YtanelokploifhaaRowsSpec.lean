/-
  The model's RowBounds: what the plain words say; nothing is changed.
-/
import Derived.Test.YtanelokploifhaaMidTexts
import Derived.Test.YtanelokploifhaaBaseTexts
namespace Go.Proofs.Ytanelokploifhaa
open Go Go.RowKit

theorem rowSum_range {m : List (List Int)} (hm : isMat m = true) {i : Nat} (hi : i < m.length) : 0 ≤ rowSum m i ∧ rowSum m i ≤ 9000000 := by
  have hf := isMat_facts hm
  have h1 := sumTo_le (f := cellOf m i) (B := 1000000) m.length fun j hj => hf.cell i j hi hj
  have := hf.le
  unfold rowSum
  omega
theorem leastTo_range {m : List (List Int)} (hm : isMat m = true) : ∀ {k : Nat}, k ≤ m.length → 0 ≤ leastTo m k ∧ leastTo m k ≤ 9000000
  | 0, _ => by rw [leastTo]; omega
  | k + 1, h => by
    have h1 := rowSum_range hm (i := k) (by omega)
    have h2 := leastTo_range hm (k := k) (by omega)
    rw [leastTo]
    split <;> omega
theorem mostTo_range {m : List (List Int)} (hm : isMat m = true) : ∀ {k : Nat}, k ≤ m.length → 0 ≤ mostTo m k ∧ mostTo m k ≤ 9000000
  | 0, _ => by rw [mostTo]; omega
  | k + 1, h => by
    have h1 := rowSum_range hm (i := k) (by omega)
    have h2 := mostTo_range hm (k := k) (by omega)
    rw [mostTo]
    split <;> omega
theorem spec_maxI (x y : Int) (w : World) : Calls Try.prog 33 #[.int .i64 x, .int .i64 y] w fun e w' => e = .returned (.int .i64 (if x < y then y else x)) ∧ w' = w := by
  go_enter Try.func33, Try.ntmps33
  by_cases h : x < y
  · rw [if_pos h]
    have h2 : ¬ y < x := by omega
    have h3 : ¬ y ≤ x := by omega
    go_wp2
    all_goals first | (go_ret; exact ⟨rfl, rfl⟩) | skip
  · rw [if_neg h]
    by_cases e : x = y
    · subst e
      have h2 : ¬ x < x := by omega
      go_wp2
      all_goals first | (go_ret; exact ⟨rfl, rfl⟩) | skip
    · have h2 : y < x := by omega
      go_wp2
      all_goals first | (go_ret; exact ⟨rfl, rfl⟩) | skip

set_option maxRecDepth 100000 in
set_option maxHeartbeats 1600000 in
theorem spec_rowBounds (A : Option Addr) (c : Nat) (m : List (List Int)) (hn : m.length ≤ 1048576) (ht : ∀ k, k < m.length → (m.getD k []).length ≤ 1099511627776) (w : World) (hg : GridS w A m) :
    Calls Try.prog 15 #[.slice A m.length c] w fun e w' => e = .returned (.tuple #[.int .i64 (lowS m), .int .i64 (highS m)]) ∧ w' = w := by
  have HI := Lib.hid (spec_isMatrix A c m (by omega) ht w hg)
  unfold lowS highS
  cases hm : isMat m with
  | false =>
    rw [hm] at HI
    clear hg ht hm
    go_enter Try.func15, Try.ntmps15
    go_wp2_with fail
    refine HI.out.mono ?_
    rintro e w1 ⟨rfl, rfl⟩
    go_wp2
    go_ret2
    exact ⟨rfl, rfl⟩
  | true =>
    rw [hm] at HI
    rw [if_pos rfl, if_pos rfl]
    have hf := isMat_facts hm
    have HG := Lib.hid hg
    have HR := Lib.hid hf.row
    have HL := Lib.hid (fun k hk => leastTo_range hm (k := k) hk)
    have HM := Lib.hid (fun k hk => mostTo_range hm (k := k) hk)
    have HS := Lib.hid (fun i hi => rowSum_range hm (i := i) hi)
    have HC := Lib.hid hf.cell
    have HP : Hid (∀ i k, i < m.length → k ≤ m.length → 0 ≤ sumTo k (cellOf m i) ∧ sumTo k (cellOf m i) ≤ 9000000) := Lib.hid fun i k hi hk => by
      have h1 := sumTo_le (f := cellOf m i) (B := 1000000) k fun j hj => hf.cell i j hi (by omega)
      have := hf.le
      omega
    have HLN : Hid (∀ k, leastTo m (k + 1) = if k = 0 ∨ rowSum m k < leastTo m k then rowSum m k else leastTo m k) := Lib.hid fun _ => rfl
    have HMN : Hid (∀ k, mostTo m (k + 1) = if mostTo m k < rowSum m k then rowSum m k else mostTo m k) := Lib.hid fun _ => rfl
    have HSN : Hid (∀ i k, sumTo (k + 1) (cellOf m i) = sumTo k (cellOf m i) + cellOf m i k) := Lib.hid fun _ _ => rfl
    have HSS : Hid (∀ i, sumTo m.length (cellOf m i) = rowSum m i) := Lib.hid fun _ => rfl
    have HMX := Lib.hid spec_maxI
    have hl9 := hf.le
    clear hg ht hm hf
    go_enter Try.func15, Try.ntmps15
    go_wp2_with fail
    refine HI.out.mono ?_
    rintro e w1 ⟨rfl, hw⟩
    obtain rfl : w = w1 := hw.symm
    clear HI hw
    go_wp2
    go_loopw [4, 5, 6] (fun lv mv iv wr => ∃ (i : Nat) (l h : Int), i ≤ m.length ∧ iv = .int .i64 (i : Int) ∧ lv = .int .i64 l ∧ mv = .int .i64 h ∧ Hid (l = leastTo m i) ∧ Hid (h = mostTo m i) ∧ wr = w) (fun _ _ iv _ => m.length - (intOf iv).toNat)
    case atStart => exact ⟨0, 0, 0, Nat.zero_le _, rfl, rfl, rfl, Lib.hid rfl, Lib.hid rfl, rfl⟩
    case round =>
      obtain ⟨i, l, h, hi, rfl, rfl, rfl, hl, hh, rfl⟩ := hrel
      obtain ⟨W0, rfl⟩ : ∃ W0 : World, W0 = wr := ⟨_, rfl⟩
      by_cases hil : i < m.length
      · have hlr := HL.out i hi
        have hhr := HM.out i hi
        rw [← hl.out] at hlr
        rw [← hh.out] at hhr
        go_wp2
        go_loopw [7, 8] (fun sv jv wr => ∃ (j : Nat) (s : Int), j ≤ m.length ∧ jv = .int .i64 (j : Int) ∧ sv = .int .i64 s ∧ Hid (s = sumTo j (cellOf m i)) ∧ wr = W0) (fun _ jv _ => m.length - (intOf jv).toNat)
        case atStart => exact ⟨0, 0, Nat.zero_le _, rfl, rfl, Lib.hid rfl, rfl⟩
        case round =>
          obtain ⟨j, s, hj, rfl, rfl, hs, rfl⟩ := hrel
          by_cases hjl : j < m.length
          · obtain ⟨p1, p2, p3, p4, p5, rfl, ka1, ka2, pb1, pb2⟩ := HG.out.num hil (j := j) (by rw [HR.out i hil]; exact hjl)
            rw [HR.out i hil] at ka1
            have hb := HP.out i (j + 1) hil (by omega)
            have hsn := HSN.out i j
            rw [← hs.out] at hsn
            obtain ⟨q, hq⟩ : ∃ q, sumTo (j + 1) (cellOf m i) = q := ⟨_, rfl⟩
            rw [hq] at hb hsn
            have HQ := Lib.hid hq
            clear hq
            generalize cellOf m i j = x at *
            have hw : RowKit.wrap64 (s + x) = q := by rw [← hsn]; unfold RowKit.wrap64; omega
            clear hsn hb
            go_wp2
            go_roundw
            case rel => exact ⟨j + 1, _, by omega, by go_num, rfl, Lib.hid (hw.trans HQ.out.symm), trivial⟩
            case measure => simp [intOf]; omega
          · obtain rfl : j = m.length := by omega
            have hsr := HS.out i hil
            have hse := HSS.out i
            rw [← hs.out] at hse
            rw [← hse] at hsr
            have HSE := Lib.hid hse
            have HLN1 := Lib.hid (HLN.out i)
            have HMN1 := Lib.hid (HMN.out i)
            rw [← hse, ← hl.out] at HLN1
            rw [← hse, ← hh.out] at HMN1
            clear hse
            by_cases h0 : i = 0 ∨ s < l
            · rw [if_pos h0] at HLN1
              rcases Nat.eq_zero_or_pos i with hz | hz
              · have hne : ((i : Int) == 0) = true := by rw [beq_iff_eq]; omega
                clear h0
                go_wp2_with fail
                refine (HMX.out _ _ _).mono ?_
                rintro e w2 ⟨rfl, rfl⟩
                go_wp2
                go_roundw
                case rel => exact ⟨i + 1, _, _, by omega, by go_num, rfl, rfl, Lib.hid HLN1.out.symm, Lib.hid HMN1.out.symm, trivial⟩
                case measure => simp [intOf]; omega
              · have h1 : s < l := by omega
                have hne : ((i : Int) == 0) = false := by rw [beq_eq_false_iff_ne]; omega
                clear h0
                go_wp2_with fail
                refine (HMX.out _ _ _).mono ?_
                rintro e w2 ⟨rfl, rfl⟩
                go_wp2
                go_roundw
                case rel => exact ⟨i + 1, _, _, by omega, by go_num, rfl, rfl, Lib.hid HLN1.out.symm, Lib.hid HMN1.out.symm, trivial⟩
                case measure => simp [intOf]; omega
            · rw [if_neg h0] at HLN1
              have h1 : ¬ s < l := fun h => h0 (Or.inr h)
              have hne : ((i : Int) == 0) = false := by
                rw [beq_eq_false_iff_ne]
                intro e
                exact h0 (Or.inl (by omega))
              clear h0
              go_wp2_with fail
              refine (HMX.out _ _ _).mono ?_
              rintro e w2 ⟨rfl, rfl⟩
              go_wp2
              go_roundw
              case rel => exact ⟨i + 1, _, _, by omega, by go_num, rfl, rfl, Lib.hid HLN1.out.symm, Lib.hid HMN1.out.symm, trivial⟩
              case measure => simp [intOf]; omega
      · obtain rfl : i = m.length := by omega
        have HL2 := Lib.hid hl.out
        have HH2 := Lib.hid hh.out
        clear hl hh
        go_wp2
        go_ret2
        exact ⟨by have h1 := HL2.out; have h2 := HH2.out; simp [h1, h2], rfl⟩
end Go.Proofs.Ytanelokploifhaa
