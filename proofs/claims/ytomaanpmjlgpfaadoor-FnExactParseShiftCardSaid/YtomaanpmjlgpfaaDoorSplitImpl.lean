/-
  The program's SplitByte: at every string of at most 2^20 bytes and every byte it returns the pieces in new memory; nothing that was there before is changed.
-/
import Derived.Test.YtomaanpmjlgpfaaDoorSplitSpec
import Derived.Test.YtomaanpmjlgpfaaDoorShelfS
import Derived.Laws.BytesArg
namespace Go.Proofs.YtomaanpmjlgpfaaDoor
open Go Go.RowKit Go.Shelf

theorem sp_conv (b : UInt8) (w : World) : (convert 46 9 (.slice (some ⟨w.heap.size, 0, none⟩) 1 1)).run Tryd.prog (w.alloc (.cells #[.int .u8 (b.toNat : Int)] 5)) = .ok (.string ⟨#[b]⟩) (w.alloc (.cells #[.int .u8 (b.toNat : Int)] 5)) := by
  have h := run_convert_bytes_arg (P := Tryd.prog) (w.alloc (.cells #[.int .u8 (b.toNat : Int)] 5)) 46 5 Tryd.underlying46 Tryd.underlying5 w.heap.size 0 1 1 [(b.toNat : Int)] rfl (fun i hi => by
    obtain rfl : i = 0 := by omega
    simp [go_sem]) 9 Tryd.underlying9
  rw [h]
  simp [strOfNums]

/-- The shape of a world is that of each later one in which nothing that was there has turned. -/
theorem shaped_below {P : Program} {w w' : World} (h : w.ShapedOpen P) (hb : Below w.heap.size w w') : w'.ShapedOpen P := h.keptBut (hb.frame (fun _ => False)) (fun _ h => h.elim)

set_option maxRecDepth 100000 in
set_option maxHeartbeats 400000 in
theorem impl_split (c : UInt8) (s : ByteArray) (hs : s.size ≤ 1048576) (w : World) (hsh : w.ShapedOpen Tryd.prog) :
    Calls Tryd.prog 25 #[.string s, .int .u8 (c.toNat : Int)] w (PartsPost c s w) := by
  have hcv := sp_conv c
  have hl := parts_length c s
  have hle := (parts_facts c s.size s (Nat.le_refl _)).1
  have HS := Lib.hid (Tryd.strings_Split_shaped s ⟨#[c]⟩ _ (shaped_below hsh ((Below.refl _ w).alloc (Nat.le_refl _) (.cells #[.int .u8 (c.toNat : Int)] 5))) (by omega) (Nat.le_refl 1))
  have HL := Lib.hid hl
  clear hsh hl
  go_enter Tryd.func25, Tryd.ntmps25
  go_wp2_with fail
  refine HS.out.mono ?_
  rintro e w1 ⟨rfl, rfl⟩
  go_wp2
  go_ret
  have hl := HL.out
  refine ⟨_, _, by rw [hl]; rfl, ?_, ((Below.refl _ _).alloc (Nat.le_refl _) _).alloc (by simp) _⟩
  rw [hl]
  have h := World.ownsRow_lit (base := w.heap.size) (e := 9) (size := 1) (w.alloc (.cells #[.int .u8 (c.toNat : Int)] 5)) ((parts c s).map Value.string).toArray (Lib.countB s ⟨#[c]⟩ + 1) (by simp) (by unfold maxLen; omega) (by simp [hl])
  rw [World.size_alloc] at h
  exact h
end Go.Proofs.YtomaanpmjlgpfaaDoor
