/-
  The model's determinant of a table that is right, by its first row; nothing that was there before is changed.
-/
import Derived.Test.YtanelokploifhaaDetSpec
namespace Go.Proofs.Ytanelokploifhaa
open Go Go.RowKit

theorem w64 (n : Int) (h : -9223372036854775808 ≤ n ∧ n ≤ 9223372036854775807) : IntKind.i64.wrap n = n := by rw [IntKind.wrap_i64]; omega
theorem det_step {n : Nat} (t : List (List Int)) (j : Nat) : detF n (cellOf (tabOf n n (lessF (cellOf t) j))) = detF n (lessF (cellOf t) j) := detF_congr fun _ _ ha hb => tabOf_cell ha hb
theorem detB_le {n : Nat} (h : n ≤ 4) : detB 10000 n ≤ 240000000000000000 := by
  have hn : n = 0 ∨ n = 1 ∨ n = 2 ∨ n = 3 ∨ n = 4 := by omega
  rcases hn with rfl | rfl | rfl | rfl | rfl <;> decide
theorem detB_le3 {n : Nat} (h : n ≤ 3) : detB 10000 n ≤ 6000000000000 := by
  have hn : n = 0 ∨ n = 1 ∨ n = 2 ∨ n = 3 := by omega
  rcases hn with rfl | rfl | rfl | rfl <;> decide
/-- The sum by the first row, so far. -/
def detTo (t : List (List Int)) (n k : Nat) : Int := sumTo k fun j => sgn j * cellOf t 0 j * detF n (lessF (cellOf t) j)
theorem detTo_next (t : List (List Int)) (n k : Nat) : detTo t n (k + 1) = detTo t n k + sgn k * cellOf t 0 k * detF n (lessF (cellOf t) k) := rfl
theorem less_abs {t : List (List Int)} {n B : Nat} (hab : ∀ i j, i < n + 1 → j < n + 1 → (cellOf t i j).natAbs ≤ B) (j : Nat) : ∀ a b, a < n → b < n → (lessF (cellOf t) j a b).natAbs ≤ B := fun a b ha hb => by
  unfold lessF
  exact hab _ _ (by omega) (by split <;> omega)

set_option maxRecDepth 100000 in
set_option maxHeartbeats 3200000 in
theorem spec_det : ∀ (n : Nat), n ≤ 4 → ∀ (A : Option Addr) (c : Nat) (t : List (List Int)), t.length = n → (∀ i, i < n → (t.getD i []).length = n) → (∀ i j, i < n → j < n → (cellOf t i j).natAbs ≤ 10000) → ∀ (w : World), GridC w A t →
    Calls Try.prog 47 #[.slice A n c] w (Scalar (.int .i64 (detF n (cellOf t))) w) := by
  intro n
  induction n with
  | zero =>
    intro _ A c t _ _ _ w _
    go_enter Try.func47, Try.ntmps47
    go_wp2
    go_ret
    exact ⟨rfl, Below.refl _ _⟩
  | succ n ih =>
    intro hn A c t hl hr hab w hg
    have HIH : Hid (∀ (A : Option Addr) (c : Nat) (j : Nat) (w' : World), GridC w' A (tabOf n n (lessF (cellOf t) j)) → Calls Try.prog 47 #[.slice A n c] w' (Scalar (.int .i64 (detF n (lessF (cellOf t) j))) w')) := Lib.hid fun A c j w' hg' => by
      have h := ih (by omega) A c (tabOf n n (lessF (cellOf t) j)) (tabOf_length _ _ _) (fun i hi => by rw [tabOf_row hi]; simp) (fun a b ha hb => by rw [tabOf_cell ha hb]; exact less_abs hab j a b ha hb) w' hg'
      rwa [det_step] at h
    have HMI : Hid (∀ (j : Nat) (w' : World), j ≤ n → GridC w' A t → Calls Try.prog 58 #[.slice A (n + 1) c, .int .i64 0, .int .i64 (j : Int)] w' (NewG (tabOf n n (lessF (cellOf t) j)) w')) := Lib.hid fun j w' hj hg' => spec_minor A c t n (by omega) hl hr j hj w' hg'
    have HG := Lib.hid hg
    have HL := Lib.hid hl
    have HR := Lib.hid hr
    have HAB := Lib.hid hab
    have HDB : Hid (∀ j, (detF n (lessF (cellOf t) j)).natAbs ≤ 6000000000000) := Lib.hid fun j => Nat.le_trans (detF_abs (less_abs hab j)) (detB_le3 (by omega))
    have hend : detF (n + 1) (cellOf t) = detTo t n (n + 1) := rfl
    rw [hend]
    have hnz : ((n : Int) + 1 == 0) = false := by rw [beq_eq_false_iff_ne]; omega
    clear hg hl hr hab ih hend
    go_enter Try.func47, Try.ntmps47
    go_wp2
    go_loopw [3, 4, 5] (fun sv gv jv wr => ∃ j : Nat, j ≤ n + 1 ∧ jv = .int .i64 (j : Int) ∧ sv = .int .i64 (detTo t n j) ∧ gv = .int .i64 (sgn j) ∧ Below w.heap.size w wr) (fun _ _ jv _ => n + 1 - (intOf jv).toNat)
    case atStart => exact ⟨0, Nat.zero_le _, rfl, rfl, rfl, Below.refl _ _⟩
    case round =>
      obtain ⟨j, hj, rfl, rfl, rfl, hbl⟩ := hrel
      by_cases hlt : j < n + 1
      · obtain ⟨b, off, b2, off2, c2, rfl, k1, hat, hc2, hb1, hb2⟩ := HG.out.row (k := 0) (by rw [HL.out]; omega) (by rw [HR.out 0 (by omega)]; omega)
        have k2 := hat j (by rw [HR.out 0 (by omega)]; exact hlt)
        rw [HR.out 0 (by omega)] at k1
        have hS : (detTo t n j).natAbs ≤ j * 60000000000000000 := sumTo_abs fun k hk => term_abs (B := 10000) (D := 6000000000000) (sgn_two k) (HAB.out 0 k (by omega) (by omega)) (HDB.out k)
        have hD := HDB.out j
        have hX := HAB.out 0 j (by omega) hlt
        have hTT := term_abs (B := 10000) (D := 6000000000000) (sgn_two j) hX hD
        have hSX : (sgn j * cellOf t 0 j).natAbs ≤ 10000 := by
          rcases sgn_two j with e | e <;> rw [e] <;> omega
        have hs2 := sgn_two j
        have HSN := Lib.hid (sgn_next j)
        have HNX := Lib.hid (detTo_next t n j)
        have HGR : Hid (∀ w', Below wr.heap.size wr w' → GridC w' (some ⟨b, off, none⟩) t) := Lib.hid fun w' hb => HG.out.below (hbl.trans (hb.mono hbl.size))
        have hw := hbl.size
        have k1' := (hbl.cell (p := ⟨b, off + 0, none⟩) hb1).trans k1
        have k2' := (hbl.cell (p := ⟨b2, off2 + j, none⟩) hb2).trans k2
        have hb1' : b < wr.heap.size := by omega
        have hb2' : b2 < wr.heap.size := by omega
        have HBL := Lib.hid hbl
        have HIHj := Lib.hid fun A c w' => HIH.out A c j w'
        clear k1 k2 hat hbl HIH
        rw [show (t.getD 0 []).getD j 0 = cellOf t 0 j from rfl] at k2'
        rw [Nat.add_zero] at k1'
        generalize cellOf t 0 j = x at *
        generalize detF n (lessF (cellOf t) j) = d at *
        generalize detTo t n j = S at *
        generalize sgn j = s at *
        have hS1 : -240000000000000000 ≤ S ∧ S ≤ 240000000000000000 := by omega
        have hT1 : -60000000000000000 ≤ s * x * d ∧ s * x * d ≤ 60000000000000000 := by omega
        have hX1 : -10000 ≤ s * x ∧ s * x ≤ 10000 := by omega
        have hs1 : -1 ≤ s ∧ s ≤ 1 := by omega
        obtain ⟨hSa, hSb⟩ := hS1
        obtain ⟨hTa, hTb⟩ := hT1
        obtain ⟨hXa, hXb⟩ := hX1
        obtain ⟨hsa, hsb⟩ := hs1
        clear hS hD hX hTT hSX hs2
        have HWR : Hid (IntKind.i64.wrap (S + IntKind.i64.wrap (IntKind.i64.wrap (s * x) * d)) = S + s * x * d) := Lib.hid (by rw [w64 (s * x) (by omega), w64 (s * x * d) (by omega), w64 _ (by omega)])
        by_cases hx : x = 0
        · subst hx
          have HNX2 : Hid (detTo t n (j + 1) = S) := Lib.hid (by rw [HNX.out]; simp)
          go_wp2
          go_roundw
          case rel => exact ⟨j + 1, by omega, by go_num, by rw [HNX2.out], by rw [HSN.out], HBL.out⟩
          case measure => simp [intOf]; omega
        · have y0 := k1'
          have y1 := k2'
          go_wp2
          go_region_held3 (fun w' => w'.cell? ⟨b, off, none⟩ = some (.slice (some ⟨b2, off2, none⟩) (n + 1) c2) ∧ w'.cell? ⟨b2, off2 + j, none⟩ = some (.int .i64 x)) (first | exact ⟨y0, y1⟩ | exact ⟨z0, z1⟩ | go_keep) (first | (go_at_call 58; refine (HMI.out j _ (by omega) (HGR.out _ (by first | exact Below.refl _ _ | exact (Below.refl _ _).drew))).mono ?_; rintro e w6 ⟨v6, rfl, ho6, hb6⟩; obtain ⟨A6, c6, rfl, hg6⟩ := ho6.gridC; rw [tabOf_length]; have hq6 : Below wr.heap.size wr w6 := (Below.refl wr.heap.size wr).drew.trans hb6; have hs6 := hq6.size; have z0 := (hq6.cell (p := ⟨b, off, none⟩) hb1').trans k1'; have z1 := (hq6.cell (p := ⟨b2, off2 + j, none⟩) hb2').trans k2') | (go_at_call 47; refine (HIHj.out A6 c6 w6 hg6).mono ?_; rintro e w7 ⟨rfl, hb7⟩; have hq7 : Below wr.heap.size wr w7 := hq6.trans (hb7.mono hs6); have y0 := (hq7.cell (p := ⟨b, off, none⟩) hb1').trans k1'; have y1 := (hq7.cell (p := ⟨b2, off2 + j, none⟩) hb2').trans k2'))
          go_wp2
          go_roundw
          case rel => exact ⟨j + 1, by omega, by go_num, by rw [HNX.out]; first | rfl | rw [HWR.out], by rw [HSN.out], HBL.out.trans (hq7.mono hw)⟩
          case measure => simp [intOf]; omega
      · obtain rfl : j = n + 1 := by omega
        generalize detTo t n (n + 1) = S at *
        go_wp2
        go_ret
        exact ⟨rfl, hbl⟩
end Go.Proofs.Ytanelokploifhaa
