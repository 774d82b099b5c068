/-
  The program's square with 1 on the diagonal and 0 elsewhere; nothing that was there before is changed.
-/
import Derived.Test.YtalclebehbdliaaGreatDoorSquareTimes
import Derived.Test.YtalclebehbdliaaGreatDoorBaseTexts
namespace Go.Proofs.YtalclebehbdliaaGreatDoor
open Go Go.RowKit

theorem oneF_put (k a b : Nat) : putF (oneF k) k k 1 a b = oneF (k + 1) a b := by
  unfold putF oneF
  by_cases e : a = k ∧ b = k
  · obtain ⟨rfl, rfl⟩ := e
    rw [if_pos ⟨rfl, rfl⟩, if_pos ⟨rfl, by omega⟩]
  · rw [if_neg e]
    by_cases h : a = b ∧ a < k
    · rw [if_pos h, if_pos (by omega)]
    · rw [if_neg h, if_neg (by omega)]

set_option maxRecDepth 100000 in
set_option maxHeartbeats 1600000 in
theorem impl_unitSquare (w : World) :
    Calls Tryz.prog 70 #[] w (SqV (oneF 9) w) := by
  obtain ⟨Z, hz, HZ⟩ := sq_zero
  have HN := Lib.hid (sq_two w)
  rw [← HZ.out] at HN
  clear HZ
  go_enter Tryz.func70, Tryz.ntmps70
  go_wp2
  go_loopw [3] (fun i wr => ∃ k : Nat, k ≤ 9 ∧ i = .int .i64 k ∧ SqAt wr (w.heap.size + 1) (oneF k) ∧ SqAt wr w.heap.size (fun _ _ => 0) ∧ Below w.heap.size w wr) (fun i _ => 9 - (intOf i).toNat)
  case atStart => exact ⟨0, Nat.zero_le _, rfl, HN.out.1.congr fun i j _ _ => by unfold oneF; rw [if_neg (by omega)], HN.out.2, below_new.alloc (by rw [World.size_alloc]; omega) _⟩
  case round =>
    obtain ⟨k, hk, rfl, hs, hr, hb⟩ := hrel
    by_cases hlt : k < 9
    · have k1 := hs.cell hlt hlt
      have kf := hs.frozen (k * 9 + k)
      have HS := Lib.hid ((hs.put hlt hlt 1).congr fun a b _ _ => oneF_put k a b)
      have HR := Lib.hid (hr.set_other (a := ⟨w.heap.size + 1, k * 9 + k, none⟩) (v := .int .i64 1) (show w.heap.size ≠ w.heap.size + 1 by omega))
      have HB : Hid (Below w.heap.size w (wr.setCell ⟨w.heap.size + 1, k * 9 + k, none⟩ (.int .i64 1))) := Lib.hid (hb.setCell (by simp) _)
      clear hs hr hb
      generalize oneF k k k = x at *
      go_wp2
      go_roundw
      case rel => exact ⟨k + 1, by omega, by go_num, HS.out, HR.out, HB.out⟩
      case measure => simp [intOf]; omega
    · obtain rfl : k = 9 := by omega
      have HS := Lib.hid hs
      have HR := Lib.hid hr
      have HB := Lib.hid hb
      clear hs hr hb
      go_wp2
      refine sq_load HS.out _ rfl rfl ?_
      have hst := HR.out.store (f' := oneF 9)
      go_wp2
      refine bodyPost_ret (sq_results rfl _ _ w.heap.size _ rfl HR.out.stored) rfl ⟨rfl, below_row HB.out (Nat.le_refl _) _⟩

end Go.Proofs.YtalclebehbdliaaGreatDoor
