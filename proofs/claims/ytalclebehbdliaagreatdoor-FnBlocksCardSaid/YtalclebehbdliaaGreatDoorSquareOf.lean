/-
  The program's squareOf at every matrix: the square of its numbers; nothing that was there before is changed.
-/
import Derived.Test.YtalclebehbdliaaGreatDoorSquare
namespace Go.Proofs.YtalclebehbdliaaGreatDoor
open Go Go.RowKit

/-- A square, by value. -/
def SqV (f : Nat → Nat → Int) (w : World) (e : Ending) (w' : World) : Prop := e = .returned (.agg (sqA f)) ∧ Below w.heap.size w w'
theorem copy_row {w : World} {g k : Nat} {m : List (List Int)} {b off c : Nat} (hs : SqAt w g (rowsK m k)) (hk : k < 9) (hl : (m.getD k []).length ≤ 9) (hr : IntsAt w b off (m.getD k [])) (ty : TypeId) :
    (Builtin.copy_ #[48, 48] ty #[.slice (some ⟨g, k * 9, none⟩) 9 9, .slice (some ⟨b, off, none⟩) (m.getD k []).length c]).run Tryz.prog w = .ok (goInt (m.getD k []).length) (w.setRow g (sqA (rowsK m (k + 1)))) := by
  have h := run_copy_row (P := Tryz.prog) w 48 48 ty 3 g (k * 9) 9 9 ⟨b, off, none⟩ (m.getD k []).length c _ _ ((m.getD k []).map (Value.int .i64)) Tryz.underlying48 (by kernel_rfl) hs
    (by rw [List.length_map]; exact (Nat.min_eq_left hl).symm) (fun j v hv => by
      rw [List.getElem?_map] at hv
      have hj : j < (m.getD k []).length := by
        by_cases h : j < (m.getD k []).length
        · exact h
        · rw [List.getElem?_eq_none (by omega)] at hv; cases hv
      have e : (⟨b, off, none⟩ : Addr).add j = ⟨b, off + j, none⟩ := by unfold Addr.add; split <;> simp_all
      rw [e, hr j hj]
      rw [List.getElem?_eq_getElem hj] at hv
      rw [← hv, List.getD_eq_getElem?_getD, List.getElem?_eq_getElem hj]; rfl) (by rw [List.length_map, sqA_size]; omega) (fun v hv => by
      obtain ⟨x, _, rfl⟩ := List.mem_map.1 hv
      rfl)
  rw [rowsK_next m k hk hl, List.length_map] at h
  exact h

theorem rowsK_z (m : List (List Int)) (i j : Nat) : rowsK m 0 i j = 0 := by unfold rowsK; rw [if_neg (by omega)]
theorem sq_two (w : World) : SqAt ((w.alloc (.cells (sqA fun _ _ => 0) 59)).alloc (.cells (sqA fun _ _ => 0) 59)) (w.heap.size + 1) (fun _ _ => 0) ∧
    SqAt ((w.alloc (.cells (sqA fun _ _ => 0) 59)).alloc (.cells (sqA fun _ _ => 0) 59)) w.heap.size (fun _ _ => 0) :=
  ⟨by rw [← World.size_alloc w]; exact SqAt.new _ _, (SqAt.new w _).alloc _⟩

set_option maxRecDepth 100000 in
set_option maxHeartbeats 1600000 in
theorem impl_squareOf (A : Option Addr) (c : Nat) (m : List (List Int)) (hm : MatFacts m) (w : World) (hg : GridS w A m) :
    Calls Tryz.prog 40 #[.slice A m.length c] w (SqV (cellOf m) w) := by
  obtain ⟨Z, hz, HZ⟩ := sq_zero
  have HG := Lib.hid hg
  have HM := Lib.hid hm
  have hle := hm.le
  clear hg hm
  have HN := Lib.hid (sq_two w)
  go_enter Tryz.func40, Tryz.ntmps40
  go_wp2
  go_loopw [8] (fun i wr => ∃ k : Nat, k ≤ m.length ∧ i = .int .i64 k ∧ SqAt wr (w.heap.size + 1) (rowsK m k) ∧ SqAt wr w.heap.size (fun _ _ => 0) ∧ Below w.heap.size w wr) (fun i _ => m.length - (intOf i).toNat)
  case atStart => exact ⟨0, Nat.zero_le _, rfl, by rw [HZ.out]; exact HN.out.1.congr fun i j _ _ => (rowsK_z m i j).symm, by rw [HZ.out]; exact HN.out.2, ((Below.refl _ _).alloc (Nat.le_refl _) _).alloc (by rw [World.size_alloc]; omega) _⟩
  case round =>
    obtain ⟨k, hk, rfl, hs, hr, hb⟩ := hrel
    by_cases hlt : k < m.length
    · obtain ⟨b, off, A', c', rfl, hc, hrow, hbl⟩ := (HG.out.below hb).row hlt
      have hlen := HM.out.row k hlt
      obtain ⟨b2, off2, rfl, hat, _⟩ := hrow (by omega)
      have hcp := copy_row (c := c') hs (by omega) (by omega) hat
      have HS := Lib.hid (hs.stored (f' := rowsK m (k + 1)))
      have HR := Lib.hid (hr.row_other (cs := sqA (rowsK m (k + 1))) (show w.heap.size ≠ w.heap.size + 1 by omega))
      have HB := Lib.hid (below_row hb (show w.heap.size ≤ w.heap.size + 1 by omega) (sqA (rowsK m (k + 1))))
      rw [hlen] at hc hcp
      clear hs hr hb hat hrow
      go_wp2
      go_roundw
      case rel => exact ⟨k + 1, by omega, by go_num, HS.out, HR.out, HB.out⟩
      case measure => simp [intOf]; omega
    · obtain rfl : k = m.length := by omega
      have HS := Lib.hid hs
      have HR := Lib.hid hr
      have HB := Lib.hid hb
      have HE : Hid (sqA (rowsK m m.length) = sqA (cellOf m)) := Lib.hid (sqA_congr fun i j _ _ => rowsK_all i j)
      clear hs hr hb
      generalize rowsK m m.length = F at *
      go_wp2
      refine sq_load HS.out _ rfl rfl ?_
      have hst := HR.out.store (f' := F)
      go_wp2
      refine bodyPost_ret (sq_results rfl _ _ w.heap.size F rfl HR.out.stored) rfl ⟨by rw [HE.out], below_row HB.out (Nat.le_refl _) _⟩
end Go.Proofs.YtalclebehbdliaaGreatDoor
