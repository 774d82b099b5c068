/-
  The program's squareOf at every matrix: the square of its numbers; nothing that was there before is changed.
-/
import Derived.Test.YtcoiodfggaanbaaSquare
namespace Go.Proofs.Ytcoiodfggaanbaa
open Go Go.RowKit

/-- A square, by value. -/
def SqV (f : Nat → Nat → Int) (w : World) (e : Ending) (w' : World) : Prop := e = .returned (.agg (sqA f)) ∧ Below w.heap.size w w'
theorem copy_row {w : World} {g k : Nat} {m : List (List Int)} {b off c : Nat} (hs : SqAt w g (rowsK m k)) (hk : k < 9) (hl : (m.getD k []).length ≤ 9) (hr : IntsAt w b off (m.getD k [])) (ty : TypeId) :
    (Builtin.copy_ #[68, 68] ty #[.slice (some ⟨g, k * 9, none⟩) 9 9, .slice (some ⟨b, off, none⟩) (m.getD k []).length c]).run Try.prog w = .ok (goInt (m.getD k []).length) (w.setRow g (sqA (rowsK m (k + 1)))) := by
  have h := run_copy_row (P := Try.prog) w 68 68 ty 3 g (k * 9) 9 9 ⟨b, off, none⟩ (m.getD k []).length c _ _ ((m.getD k []).map (Value.int .i64)) Try.underlying68 (by kernel_rfl) hs
    (by rw [List.length_map]; exact (Nat.min_eq_left hl).symm) (fun j v hv => by
      rw [List.getElem?_map] at hv
      have hj : j < (m.getD k []).length := by
        by_cases h : j < (m.getD k []).length
        · exact h
        · rw [List.getElem?_eq_none (by omega)] at hv; cases hv
      have e : (⟨b, off, none⟩ : Addr).add j = ⟨b, off + j, none⟩ := by unfold Addr.add; split <;> simp_all
      rw [e, hr j hj]
      rw [List.getElem?_eq_getElem hj] at hv
      rw [← hv, List.getD_eq_getElem?_getD, List.getElem?_eq_getElem hj]; rfl) (by rw [List.length_map, sqA_size]; omega) (fun v hv => by
      obtain ⟨x, _, rfl⟩ := List.mem_map.1 hv
      rfl)
  rw [rowsK_next m k hk hl, List.length_map] at h
  exact h

theorem rowsK_z (m : List (List Int)) (i j : Nat) : rowsK m 0 i j = 0 := by unfold rowsK; rw [if_neg (by omega)]
theorem sq_two (w : World) : SqAt ((w.alloc (.cells (sqA fun _ _ => 0) 135)).alloc (.cells (sqA fun _ _ => 0) 135)) (w.heap.size + 1) (fun _ _ => 0) ∧
    SqAt ((w.alloc (.cells (sqA fun _ _ => 0) 135)).alloc (.cells (sqA fun _ _ => 0) 135)) w.heap.size (fun _ _ => 0) :=
  ⟨by rw [← World.size_alloc w]; exact SqAt.new _ _, (SqAt.new w _).alloc _⟩

end Go.Proofs.Ytcoiodfggaanbaa
