/-
  The program's sets of vertices: a set of one vertex and of all, whether a vertex is in one, a row of ones and zeros, and the greatest common divisor; nothing that was there before is changed.
-/
import Derived.Test.YtanelokploifhaaDoorBitsU
import Derived.Test.YtanelokploifhaaDoorMidTexts
import Derived.BigQuiet
namespace Go.Proofs.YtanelokploifhaaDoor
open Go Go.RowKit

set_option maxRecDepth 100000 in
theorem impl_onlyVertex (v : Nat) (hv : v < 16) (w : World) : Calls Tryd.prog 93 #[.int .i64 (v : Int)] w fun e w' => e = .returned (.int .u16 ((2 ^ v : Nat) : Int)) ∧ w' = w := by
  have HP := Lib.hid (pow_bit v hv)
  go_enter Tryd.func93, Tryd.ntmps93
  go_wp2
  go_ret
  exact ⟨by rw [← HP.out]; simp, rfl⟩

set_option maxRecDepth 100000 in
theorem impl_has (s : Nat) (hs : s < 512) (v : Nat) (hv : v < 16) (w : World) : Calls Tryd.prog 92 #[.int .u16 (s : Int), .int .i64 (v : Int)] w fun e w' => e = .returned (.bool (s.testBit v)) ∧ w' = w := by
  have HT := Lib.hid (has_bit s v (by omega))
  go_enter Tryd.func92, Tryd.ntmps92
  go_wp2
  go_ret
  exact ⟨by rw [← HT.out]; simp, rfl⟩

/-- Ones for the vertices of a set, zeros for the others. -/
def onesS (s n : Nat) : List Int := (List.range n).map fun v => bI (s.testBit v)
theorem onesS_length (s n : Nat) : (onesS s n).length = n := by unfold onesS; simp
theorem onesS_at (s : Nat) {n k : Nat} (hk : k < n) : (onesS s n).getD k 0 = bI (s.testBit k) := by
  unfold onesS
  simp [List.getD_eq_getElem?_getD, hk]

set_option maxRecDepth 100000 in
set_option maxHeartbeats 800000 in
theorem impl_row (s : Nat) (hs : s < 512) (n : Nat) (hn : n ≤ 9) (w : World) :
    Calls Tryd.prog 85 #[.int .u16 (s : Int), .int .i64 (n : Int)] w (NewA (onesS s n) w) := by
  obtain ⟨i0, hi, hz0, hz1, hz2⟩ := info_parts infoInt
  have hxl := onesS_length s n
  have HX : Hid (∀ k, k < n → (onesS s n).getD k 0 = bI (s.testBit k)) := Lib.hid fun k hk => onesS_at s hk
  have HBT : Hid (∀ v, bits .and .u16 ((s : Int) / 2 ^ v) 1 = bI (s.testBit v)) := Lib.hid fun v => bit_of s v (by omega)
  have HF0 : Hid (filledI (onesS s n) 0 n = List.replicate n (.int .i64 0)) := Lib.hid (filledI_none _ _)
  have HFA : Hid (filledI (onesS s n) n n = (onesS s n).map (Value.int .i64)) := Lib.hid (by have h := filledI_all (onesS s n); rw [hxl] at h; exact h)
  have HFS : Hid (∀ k, k < n → (filledI (onesS s n) k n).set k (.int .i64 (bI (s.testBit k))) = filledI (onesS s n) (k + 1) n) := Lib.hid fun k hk => by
    have h := filledI_set (onesS s n) k (by rw [hxl]; exact hk)
    rw [hxl, onesS_at s hk] at h
    exact h
  have HFT : Hid (∀ k, k < n → (filledI (onesS s n) k n)[k]? = some (.int .i64 0)) := Lib.hid fun k hk => by
    have h := filledI_at (onesS s n) k (by rw [hxl]; exact hk)
    rw [hxl] at h
    exact h
  have HXL := Lib.hid hxl
  clear hxl
  generalize onesS s n = xs at *
  go_enter Tryd.func85, Tryd.ntmps85
  go_wp2_with (at_make; refine wpList_make_full _ rfl _ _ 48 rfl w.heap.size 3 i0 (.int .i64 0) 1 Tryd.underlying48 hi hz0 hz1 .i64 .i64 _ _ n rfl rfl rfl rfl (by rw [hz2]; omega) (by unfold maxLen; omega) (Nat.le_refl _) ?_; intro w1 hown hgrow)
  have hown0 : w1.ownsRow w.heap.size 3 1 (.slice (some ⟨w.heap.size, 0, none⟩) n n) n (filledI xs 0 n) := by
    have e : (madeCells (Value.int .i64 0).cells (n * 1)).toList = List.replicate n (.int .i64 0) := by rw [Nat.mul_one]; exact toList_madeCells_one _ _
    rw [HF0.out, ← e]; exact hown
  have hbel : Below w.heap.size w w1 := (Below.refl _ _).grown hgrow (Nat.le_refl _) (fun k hk => by cases hk)
  clear hown hgrow
  go_loopw [11] (fun i wr => ∃ k : Nat, k ≤ n ∧ i = .int .i64 k ∧ wr.ownsRow w.heap.size 3 1 (.slice (some ⟨w.heap.size, 0, none⟩) n n) n (filledI xs k n) ∧ Below w.heap.size w wr) (fun i _ => n - (intOf i).toNat)
  case atStart => exact ⟨0, Nat.zero_le _, rfl, hown0, hbel⟩
  case round =>
    obtain ⟨k, hk, rfl, ho, hbl⟩ := hrel
    by_cases hlt : k < n
    · have hc2 : wr.cell? ⟨w.heap.size, k, none⟩ = some (.int .i64 0) := (ho.cellAt k (by omega)).trans (HFT.out k hlt)
      have hf2 : wr.frozen? ⟨w.heap.size, k, none⟩ = false := ho.frozenAt k
      have hst := (ho.stored k (.int .i64 (bI (s.testBit k)))).1
      rw [HFS.out k hlt] at hst
      have HO := Lib.hid hst
      have HB := Lib.hid hbl
      have hbt := HBT.out k
      have hbr := bI_range (s.testBit k)
      clear hst ho hbl
      generalize bI (s.testBit k) = x at *
      go_wp2
      go_roundw
      case rel => exact ⟨k + 1, by omega, by go_num, HO.out, HB.out.setCell (Nat.le_refl _) _⟩
      case measure => simp [intOf]; omega
    · obtain rfl : k = n := by omega
      rw [HFA.out] at ho
      have HO : Hid (OwnA wr w.heap.size (.slice (some ⟨w.heap.size, 0, none⟩) k k) xs) := Lib.hid (by unfold OwnA; rw [HXL.out]; exact ho)
      clear ho
      go_wp2
      go_ret
      exact ⟨_, rfl, HO.out, hbl⟩
end Go.Proofs.YtanelokploifhaaDoor
