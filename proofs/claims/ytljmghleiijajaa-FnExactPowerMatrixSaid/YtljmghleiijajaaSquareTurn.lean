/-
  The program's square that is turned around; nothing that was there before is changed.
-/
import Derived.Test.YtljmghleiijajaaSquareOf
import Derived.Test.YtljmghleiijajaaMatTimes
namespace Go.Proofs.Ytljmghleiijajaa
open Go Go.RowKit

/-- A square that is being turned: all columns ahead of i, and j numbers of column i. -/
def turnQ (f : Nat → Nat → Int) (i j : Nat) : Nat → Nat → Int := fun a b => if b < i ∨ (b = i ∧ a < j) then f b a else 0
theorem turnQ_zero (f : Nat → Nat → Int) (a b : Nat) : turnQ f 0 0 a b = 0 := by unfold turnQ; rw [if_neg (by omega)]
theorem turnQ_next (f : Nat → Nat → Int) (i j a b : Nat) : putF (turnQ f i j) j i (f i j) a b = turnQ f i (j + 1) a b := by
  unfold putF turnQ
  by_cases e : a = j ∧ b = i
  · obtain ⟨rfl, rfl⟩ := e
    rw [if_pos ⟨rfl, rfl⟩, if_pos (by omega)]
  · rw [if_neg e]
    by_cases h : b < i ∨ (b = i ∧ a < j)
    · rw [if_pos h, if_pos (by omega)]
    · rw [if_neg h, if_neg (by omega)]
theorem turnQ_row (f : Nat → Nat → Int) (i a b : Nat) (ha : a < 9) : turnQ f i 9 a b = turnQ f (i + 1) 0 a b := by
  unfold turnQ
  by_cases h : b < i ∨ (b = i ∧ a < 9)
  · rw [if_pos h, if_pos (by omega)]
  · rw [if_neg h, if_neg (by omega)]
theorem turnQ_all (f : Nat → Nat → Int) (a b : Nat) (hb : b < 9) : turnQ f 9 0 a b = f b a := by unfold turnQ; rw [if_pos (Or.inl hb)]

theorem sq_three (f : Nat → Nat → Int) (w : World) :
    SqAt (((w.alloc (.cells (sqA f) 41)).alloc (.cells (sqA fun _ _ => 0) 41)).alloc (.cells (sqA fun _ _ => 0) 41)) w.heap.size f ∧
    SqAt (((w.alloc (.cells (sqA f) 41)).alloc (.cells (sqA fun _ _ => 0) 41)).alloc (.cells (sqA fun _ _ => 0) 41)) (w.heap.size + 1) (fun _ _ => 0) ∧
    SqAt (((w.alloc (.cells (sqA f) 41)).alloc (.cells (sqA fun _ _ => 0) 41)).alloc (.cells (sqA fun _ _ => 0) 41)) (w.heap.size + 1 + 1) (fun _ _ => 0) ∧
    Below w.heap.size w (((w.alloc (.cells (sqA f) 41)).alloc (.cells (sqA fun _ _ => 0) 41)).alloc (.cells (sqA fun _ _ => 0) 41)) := by
  refine ⟨((SqAt.new w f).alloc _).alloc _, ?_, ?_, ((below_new.alloc ?_ _).alloc ?_ _)⟩
  · have h := (SqAt.new (w.alloc (.cells (sqA f) 41)) fun _ _ => 0).alloc (.cells (sqA fun _ _ => 0) 41)
    rw [World.size_alloc] at h
    exact h
  · have h := SqAt.new ((w.alloc (.cells (sqA f) 41)).alloc (.cells (sqA fun _ _ => 0) 41)) fun _ _ => 0
    rw [World.size_alloc, World.size_alloc] at h
    exact h
  all_goals simp only [World.size_alloc]; omega

theorem rowA_fold (f : Nat → Nat → Int) (i : Nat) : (#[(rowA f i)[0]'(by rw [rowA_size]; decide), (rowA f i)[1]'(by rw [rowA_size]; decide), (rowA f i)[2]'(by rw [rowA_size]; decide), (rowA f i)[3]'(by rw [rowA_size]; decide), (rowA f i)[4]'(by rw [rowA_size]; decide), (rowA f i)[5]'(by rw [rowA_size]; decide), (rowA f i)[6]'(by rw [rowA_size]; decide), (rowA f i)[7]'(by rw [rowA_size]; decide), (rowA f i)[8]'(by rw [rowA_size]; decide)] : Array Value) = rowA f i := by
  refine Array.ext (rowA_size f i).symm fun k h1 h2 => ?_
  rw [rowA_size] at h2
  have h3 : k = 0 ∨ k = 1 ∨ k = 2 ∨ k = 3 ∨ k = 4 ∨ k = 5 ∨ k = 6 ∨ k = 7 ∨ k = 8 := by omega
  rcases h3 with rfl | rfl | rfl | rfl | rfl | rfl | rfl | rfl | rfl
  all_goals rfl
theorem row_info : (Try.prog.info? 39).map (·.size) = some 9 := by kernel_rfl

set_option maxRecDepth 100000 in
set_option maxHeartbeats 3200000 in
theorem impl_turned (f : Nat → Nat → Int) (w : World) :
    Calls Try.prog 47 #[.agg (sqA f)] w (SqV (fun i j => f j i) w) := by
  obtain ⟨Z, hz, HZ⟩ := sq_zero
  have HST := Lib.hid (sq_three f w)
  rw [← HZ.out] at HST
  clear HZ
  go_enter Try.func47, Try.ntmps47
  go_wp2
  refine sq_load HST.out.1 _ rfl rfl ?_
  go_wp2
  go_loopw [9] (fun iv wr => ∃ i : Nat, i ≤ 9 ∧ iv = .int .i64 i ∧ SqAt wr (w.heap.size + 1) (fun _ _ => 0) ∧ SqAt wr (w.heap.size + 1 + 1) (turnQ f i 0) ∧ Below w.heap.size w wr) (fun i _ => 9 - (intOf i).toNat)
  case atStart => exact ⟨0, Nat.zero_le _, rfl, HST.out.2.1, HST.out.2.2.1.congr fun a b _ _ => (turnQ_zero f a b).symm, HST.out.2.2.2⟩
  case round =>
    obtain ⟨i, hi, rfl, h2, h3, hb⟩ := hrel
    by_cases hil : i < 9
    · have hix := fun w => index_row f hil w
      have hst := run_storeCells_new (P := Try.prog) wr 39 #[.int .i64 0, .int .i64 0, .int .i64 0, .int .i64 0, .int .i64 0, .int .i64 0, .int .i64 0, .int .i64 0, .int .i64 0] (rowA f i) (by rw [rowA_size]; exact row_info) (by rw [rowA_size]; rfl) (rowA_one f i)
      have hld := run_loadCellsFrom_new (P := Try.prog) wr 39 (rowA f i) 9 (rowA_size f i)
      have HS2 := Lib.hid (h2.alloc (.cells (rowA f i) 39))
      have HS3 := Lib.hid (h3.alloc (.cells (rowA f i) 39))
      have HB := Lib.hid (hb.alloc hb.size (.cells (rowA f i) 39))
      clear h2 h3 hb
      obtain ⟨W1, rfl⟩ : ∃ W1 : World, W1 = wr := ⟨_, rfl⟩
      go_wp2
      rw [rowA_fold f i]
      go_loopw [14] (fun jv wr => ∃ j : Nat, j ≤ 9 ∧ jv = .int .i64 j ∧ SqAt wr (w.heap.size + 1) (fun _ _ => 0) ∧ SqAt wr (w.heap.size + 1 + 1) (turnQ f i j) ∧ Below w.heap.size w wr) (fun j _ => 9 - (intOf j).toNat)
      case atStart => exact ⟨0, Nat.zero_le _, rfl, HS2.out, HS3.out, HB.out⟩
      case round =>
        obtain ⟨j, hj, rfl, h2, h3, hb⟩ := hrel
        by_cases hjl : j < 9
        · have hin := fun w => index_num f i hjl w
          have k1 := h3.cell hjl hil
          have kf := h3.frozen (j * 9 + i)
          have HS4 : Hid (SqAt (wr.setCell ⟨w.heap.size + 1 + 1, j * 9 + i, none⟩ (.int .i64 (f i j))) (w.heap.size + 1) fun _ _ => 0) := Lib.hid (h2.set_other (show w.heap.size + 1 ≠ w.heap.size + 1 + 1 by omega))
          have HS5 : Hid (SqAt (wr.setCell ⟨w.heap.size + 1 + 1, j * 9 + i, none⟩ (.int .i64 (f i j))) (w.heap.size + 1 + 1) (turnQ f i (j + 1))) := Lib.hid ((h3.put hjl hil (f i j)).congr fun a b _ _ => turnQ_next f i j a b)
          have HB5 : Hid (Below w.heap.size w (wr.setCell ⟨w.heap.size + 1 + 1, j * 9 + i, none⟩ (.int .i64 (f i j)))) := Lib.hid (hb.setCell (by simp; omega) _)
          clear h2 h3 hb hst hld hix
          generalize turnQ f i j j i = x at *
          generalize f i j = y at *
          go_wp2
          go_roundw
          case rel => exact ⟨j + 1, by omega, by go_num, HS4.out, HS5.out, HB5.out⟩
          case measure => simp [intOf]; omega
        · obtain rfl : j = 9 := by omega
          have HS4 := Lib.hid h2
          have HS5 := Lib.hid (h3.congr fun a b ha _ => turnQ_row f i a b ha)
          have HB5 := Lib.hid hb
          clear h2 h3 hb hst hld hix
          go_wp2
          go_roundw
          case rel => exact ⟨i + 1, by omega, by go_num, HS4.out, HS5.out, HB5.out⟩
          case measure => simp [intOf]; omega
    · obtain rfl : i = 9 := by omega
      have HS2 := Lib.hid h2
      have HS3 := Lib.hid (h3.congr fun a b _ hb => turnQ_all f a b hb)
      have HB := Lib.hid hb
      clear h2 h3 hb
      go_wp2
      refine sq_load HS3.out _ rfl rfl ?_
      have hst := HS2.out.store (f' := fun i j => f j i)
      go_wp2
      refine bodyPost_ret (sq_results rfl _ _ (w.heap.size + 1) _ rfl HS2.out.stored) rfl ⟨rfl, below_row HB.out (by omega) _⟩
end Go.Proofs.Ytljmghleiijajaa
