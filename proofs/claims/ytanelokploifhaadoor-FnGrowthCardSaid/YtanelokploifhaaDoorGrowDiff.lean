/-
  The program's hasGrowth and differenceOf: what the plain words say, a square by value; nothing that was there before is changed.
-/
import Derived.Test.YtanelokploifhaaDoorGrowINum
import Derived.Test.YtanelokploifhaaDoorPolyScal
import Derived.Test.YtanelokploifhaaDoorSquareOf
import Derived.BigRegion
namespace Go.Proofs.YtanelokploifhaaDoor
open Go Go.RowKit

set_option maxRecDepth 100000 in
set_option maxHeartbeats 800000 in
theorem impl_hasGrowth (A : Option Addr) (c : Nat) (m : List (List Int)) (hn : m.length ≤ 1099511627776) (ht : ∀ k, k < m.length → (m.getD k []).length ≤ 1099511627776) (d : Int) (w : World) (hg : GridS w A m) :
    Calls Tryd.prog 28 #[.slice A m.length c, .int .i64 d] w fun e w' => e = .returned (.bool (smallM m && decide (1 ≤ d ∧ d ≤ 100))) ∧ w' = w := by
  have HI := Lib.hid (impl_isSmall A c m hn ht w hg)
  have hd : decide (1 ≤ d ∧ d ≤ 100) = (decide (1 ≤ d) && decide (d ≤ 100)) := by
    rw [Bool.eq_iff_iff, Bool.and_eq_true, decide_eq_true_iff, decide_eq_true_iff, decide_eq_true_iff]
  rw [hd]
  clear hg hn ht hd
  generalize smallM m = s at *
  go_enter Tryd.func28, Tryd.ntmps28
  go_wp2_with fail
  refine HI.out.mono ?_
  rintro e w1 ⟨rfl, rfl⟩
  cases s with
  | false => go_wp2; go_ret; exact ⟨rfl, rfl⟩
  | true =>
    have e1 : decide (d ≥ 1) = decide (1 ≤ d) := rfl
    cases h1 : decide (1 ≤ d) with
    | false => rw [h1] at e1; go_wp2; go_ret; exact ⟨by rw [h1]; rfl, rfl⟩
    | true => rw [h1] at e1; go_wp2; go_ret; exact ⟨by rw [h1]; rfl, rfl⟩

theorem neg_d {d : Int} (hd : 1 ≤ d ∧ d ≤ 100) : RowKit.wrap64 (-d) = -d := by unfold RowKit.wrap64; omega
theorem mul_d {d x : Int} (hd : 1 ≤ d ∧ d ≤ 100) (hx : 0 ≤ x ∧ x ≤ 9) : -900 ≤ -d * x ∧ -d * x ≤ 0 ∧ RowKit.wrap64 (-d * x) = -d * x := by
  have h1 : 0 ≤ d * x := Int.mul_nonneg (by omega) hx.1
  have h2 : d * x ≤ 100 * 9 := Int.le_trans (Int.mul_le_mul_of_nonneg_right hd.2 hx.1) (Int.mul_le_mul_of_nonneg_left hx.2 (by decide))
  rw [Int.neg_mul]
  generalize d * x = y at *
  refine ⟨by omega, by omega, ?_⟩
  unfold RowKit.wrap64; omega

set_option maxRecDepth 100000 in
set_option maxHeartbeats 1600000 in
theorem impl_difference (A : Option Addr) (c : Nat) (m : List (List Int)) (hm : smallM m = true) (q d : Int) (hq : 0 ≤ q ∧ q ≤ 3600) (hd : 1 ≤ d ∧ d ≤ 100) (w : World) (hg : GridS w A m) :
    Calls Tryd.prog 44 #[.slice A m.length c, .int .i64 q, .int .i64 d] w (SqV (difF (cellOf m) m.length q d m.length 0) w) := by
  obtain ⟨Z, hz, HZ⟩ := sq_zero
  obtain ⟨hmat, h4, h9⟩ := small_facts hm
  have HROW := Lib.hid (isMat_facts hmat).row
  have HG := Lib.hid hg
  have H9 := Lib.hid h9
  have HN := Lib.hid (sq_two w)
  have HND := Lib.hid (neg_d hd)
  have HMD := Lib.hid (fun x hx => mul_d (x := x) hd hx)
  clear hg h9 hm hmat
  go_enter Tryd.func44, Tryd.ntmps44
  go_wp2
  go_loopw [14] (fun i wr => ∃ k : Nat, k ≤ m.length ∧ i = .int .i64 k ∧ SqAt wr (w.heap.size + 1) (difF (cellOf m) m.length q d k 0) ∧ SqAt wr w.heap.size (fun _ _ => 0) ∧ Below w.heap.size w wr) (fun i _ => m.length - (intOf i).toNat)
  case atStart => exact ⟨0, Nat.zero_le _, rfl, by rw [HZ.out]; exact HN.out.1.congr fun i j _ _ => (difF_zero _ _ q d i j).symm, by rw [HZ.out]; exact HN.out.2, ((Below.refl _ _).alloc (Nat.le_refl _) _).alloc (by rw [World.size_alloc]; omega) _⟩
  case round =>
    obtain ⟨k, hk, rfl, hs, hr, hb⟩ := hrel
    by_cases hlt : k < m.length
    · obtain ⟨b, off, A', c', rfl, hc0, hrow, hbl⟩ := HG.out.row hlt
      have hlen := HROW.out k hlt
      obtain ⟨b2, off2, rfl, hat, hb2⟩ := hrow (by omega)
      have HAT : Hid (∀ w', Below w.heap.size w w' → ∀ j, j < m.length → w'.cell? ⟨b2, off2 + j, none⟩ = some (.int .i64 (cellOf m k j))) := Lib.hid fun w' h j hj => (hat.below h hb2) j (by rw [hlen]; exact hj)
      have hc := (hb.cell (p := ⟨b, off + k, none⟩) hbl).trans hc0
      rw [hlen] at hc
      have HS0 := Lib.hid hs
      have HR0 := Lib.hid hr
      have HB0 := Lib.hid hb
      have hk9 : k < 9 := by omega
      obtain ⟨W1, rfl⟩ : ∃ W1 : World, W1 = wr := ⟨_, rfl⟩
      clear hs hr hb hrow hbl hat hc0
      go_wp2
      go_loopw [21] (fun jv wr => ∃ j : Nat, j ≤ m.length ∧ jv = .int .i64 j ∧ SqAt wr (w.heap.size + 1) (difF (cellOf m) m.length q d k j) ∧ SqAt wr w.heap.size (fun _ _ => 0) ∧ Below w.heap.size w wr) (fun j _ => m.length - (intOf j).toNat)
      case atStart => exact ⟨0, Nat.zero_le _, rfl, HS0.out, HR0.out, HB0.out⟩
      case round =>
        obtain ⟨j, hj, rfl, hs, hr, hb⟩ := hrel
        by_cases hjl : j < m.length
        · have kx := HAT.out wr hb j hjl
          have hx9 := H9.out k j hlt hjl
          have hj9 : j < 9 := by omega
          have kf := hs.frozen (k * 9 + j)
          have k0 := hs.cell hk9 hj9
          have HMX := HMD.out _ hx9
          have HS := Lib.hid ((hs.put hk9 hj9 (-d * cellOf m k j)).congr fun a b _ _ => difF_next (cellOf m) m.length q d k j a b)
          have HR := Lib.hid (hr.set_other (a := ⟨w.heap.size + 1, k * 9 + j, none⟩) (v := .int .i64 (-d * cellOf m k j)) (show w.heap.size ≠ w.heap.size + 1 by omega))
          have HB : Hid (Below w.heap.size w (wr.setCell ⟨w.heap.size + 1, k * 9 + j, none⟩ (.int .i64 (-d * cellOf m k j)))) := Lib.hid (hb.setCell (by simp) _)
          have HND1 := HND.out
          clear hs hr hb
          generalize cellOf m k j = x at *
          go_wp2
          go_roundw
          case rel => exact ⟨j + 1, by omega, by go_num, HS.out, HR.out, HB.out⟩
          case measure => simp [intOf]; omega
        · obtain rfl : j = m.length := by omega
          have hx9 := H9.out k k hlt hlt
          have kf := hs.frozen (k * 9 + k)
          have k0 := hs.cell hk9 hk9
          rw [difF_diag (cellOf m) m.length q d k hlt] at k0
          have HMX := HMD.out _ hx9
          have HS := Lib.hid ((hs.put hk9 hk9 (-d * cellOf m k k + q)).congr fun a b _ _ => difF_row (cellOf m) m.length q d k hlt a b)
          have HR := Lib.hid (hr.set_other (a := ⟨w.heap.size + 1, k * 9 + k, none⟩) (v := .int .i64 (-d * cellOf m k k + q)) (show w.heap.size ≠ w.heap.size + 1 by omega))
          have HB : Hid (Below w.heap.size w (wr.setCell ⟨w.heap.size + 1, k * 9 + k, none⟩ (.int .i64 (-d * cellOf m k k + q)))) := Lib.hid (hb.setCell (by simp) _)
          clear hs hr hb
          generalize -d * cellOf m k k = x at *
          have hw : RowKit.wrap64 (x + q) = x + q := by unfold RowKit.wrap64; omega
          go_wp2
          go_region
          go_wp2
          go_roundw
          case rel => exact ⟨k + 1, by omega, by go_num, HS.out, HR.out, HB.out.drew⟩
          case measure => simp [intOf]; omega
    · obtain rfl : k = m.length := by omega
      have HS := Lib.hid hs
      have HR := Lib.hid hr
      have HB := Lib.hid hb
      clear hs hr hb
      generalize difF (cellOf m) m.length q d m.length 0 = F at *
      go_wp2
      refine sq_load HS.out _ rfl rfl ?_
      have hst := HR.out.store (f' := F)
      go_wp2
      refine bodyPost_ret (sq_results rfl _ _ w.heap.size F rfl HR.out.stored) rfl ⟨rfl, below_row HB.out (Nat.le_refl _) _⟩
end Go.Proofs.YtanelokploifhaaDoor
