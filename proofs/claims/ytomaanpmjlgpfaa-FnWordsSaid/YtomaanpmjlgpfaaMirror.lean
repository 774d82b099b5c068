/-
  The mirror of a string: the model's MirrorWord and the program's, at every string of at most 2^40 bytes, answer the same; nothing that was there before is changed.
-/
import Derived.Test.YtomaanpmjlgpfaaWordNum
import Derived.Test.YtomaanpmjlgpfaaShelfV
import Derived.Test.YtomaanpmjlgpfaaChecked
import Derived.Test.YtomaanpmjlgpfaaJoinNum
import Derived.Lib.ConvBytes
import Derived.Lib.OwnBridge
namespace Go.Proofs.Ytomaanpmjlgpfaa
open Go Go.RowKit

theorem infoByte : (Try.prog.info? 5).map (fun i => (i.zero, i.size, i.bytes)) = some (some (.int .u8 0), 1, 1) := by kernel_rfl

def MirrorPost (s : ByteArray) (w : World) (e : Ending) (w' : World) : Prop := e = .returned (.string (mirror s)) ∧ Below w.heap.size w w'

theorem bytesWorld_below (w : World) (e : TypeId) (s : ByteArray) : Below w.heap.size w (Lib.bytesWorld w e s) :=
  ⟨by simp [Lib.bytesWorld, World.freeze, World.alloc, World.drew, -World.alloc_eq, -World.drew_eq], by simp [Lib.bytesWorld, World.freeze, World.alloc, World.drew, -World.alloc_eq, -World.drew_eq], by simp [Lib.bytesWorld, World.freeze, World.alloc, World.drew, -World.alloc_eq, -World.drew_eq],
    by rw [Lib.bytesWorld_size]; omega, fun k hk => Lib.bytesWorld_at_old w e s k hk⟩
/-- A byte as a cell. -/
def encB (b : UInt8) : Value := .int .u8 b.toNat
theorem bytesWorld_holds (w : World) (e : TypeId) (s : ByteArray) : Sort.Holds encB (Lib.bytesWorld w e s) w.heap.size 0 s.data.toList.toArray := by
  intro j hj
  have hj' : j < s.data.toList.length := by simpa using hj
  refine ⟨?_, ?_⟩
  · rw [Nat.zero_add, Lib.bytesWorld_cell w e s j hj']
    simp [encB, List.getD, List.getElem?_eq_getElem hj']
    rw [getElem!_pos s.data j (by simpa using hj')]
  · have hsz : s.data.toList.length ≤ (Lib.bytesCells w e s).size := by simp [Lib.bytesCells]
    simp [World.frozen?, Lib.bytesWorld_at_new]
    omega

set_option maxRecDepth 100000 in
theorem impl_mirror (s : ByteArray) (hs : s.size ≤ 1099511627776) (w : World) :
    Calls Try.prog 37 #[.string s] w (MirrorPost s w) := by
  have hcv := fun w => Lib.run_convert_string_bytes (P := Try.prog) w 9 22 5 s Try.underlying9 Try.underlying22 Try.underlying5
  have hH := bytesWorld_holds w 5 s
  have hR := Try.slices_Reverse_bytes w.heap.size 0 (grownCap w s.size 0 5) s.data.toList (Lib.bytesWorld w 5 s) hH (by rw [ba_len]; omega)
  have hback : ∀ n, (convert 22 9 (.slice (some ⟨w.heap.size, 0, none⟩) s.size (grownCap w s.size 0 5))).run Try.prog (Sort.putRow encB (Sort.ahead (Lib.bytesWorld w 5 s) n) w.heap.size 0 s.data.toList.reverse.toArray) = .ok (.string (mirror s)) (Sort.putRow encB (Sort.ahead (Lib.bytesWorld w 5 s) n) w.heap.size 0 s.data.toList.reverse.toArray) := by
    intro n
    have hh := Sort.holds_putRow encB (Sort.ahead (Lib.bytesWorld w 5 s) n) w.heap.size 0 s.data.toList.toArray s.data.toList.reverse.toArray hH (by simp)
    have h := run_convert_bytes_back (P := Try.prog) (Sort.putRow encB (Sort.ahead (Lib.bytesWorld w 5 s) n) w.heap.size 0 s.data.toList.reverse.toArray) 22 9 5 ⟨w.heap.size, 0, none⟩ (grownCap w s.size 0 5) s.data.toList.reverse Try.underlying22 Try.underlying5 Try.underlying9 (fun j hj => by
      have hc := (hh j (by simpa using hj)).1
      have e : (⟨w.heap.size, 0, none⟩ : Addr).add j = ⟨w.heap.size, 0 + j, none⟩ := by unfold Addr.add; split <;> simp_all
      rw [e, hc]
      rw [getElem!_pos _ j (by simpa using hj)]
      simp [encB])
    rw [List.length_reverse, ba_len] at h
    exact h
  rw [ba_len] at hR
  change Calls _ _ _ _ (fun e w' => e = .returned (.tuple #[]) ∧ ∃ n, w' = Sort.putRow encB (Sort.ahead (Lib.bytesWorld w 5 s) n) w.heap.size 0 s.data.toList.reverse.toArray) at hR
  have HR := Lib.hid hR
  have HC := Lib.hid hback
  have HB := Lib.hid (bytesWorld_below w 5 s)
  clear hR hback hH
  go_enter Try.func37, Try.ntmps37
  go_wp2_with fail
  refine HR.out.mono ?_
  rintro e w1 ⟨rfl, n, hw1⟩
  have hc := HC.out n
  have hb := Lib.below_putRow (enc := encB) (q := n) (d := s.data.toList.reverse.toArray) HB.out (Nat.le_refl w.heap.size)
  rw [← hw1] at hc hb
  have HB1 := Lib.hid hb
  clear hcv hw1 hb
  go_wp2
  go_ret
  exact ⟨rfl, HB1.out⟩

theorem rev_next (s : ByteArray) (k m : Nat) (h : k + m + 1 = s.size) (hm : m < s.size) : s.data.toList.reverse.take (k + 1) = s.data.toList.reverse.take k ++ [s[m]] := by
  have hl : k < s.data.toList.reverse.length := by rw [List.length_reverse, ba_len]; omega
  rw [List.take_succ_eq_append_getElem hl, List.getElem_reverse]
  congr 2
  rw [ba_get]
  congr 1
  rw [ba_len]; omega

set_option maxRecDepth 100000 in
set_option maxHeartbeats 800000 in
theorem spec_mirror (s : ByteArray) (hs : s.size ≤ 1099511627776) (w : World) :
    Calls Try.prog 38 #[.string s] w (MirrorPost s w) := by
  obtain ⟨i0, hi, hz0, hz1, hz2⟩ := info_parts infoByte
  go_enter Try.func38, Try.ntmps38
  go_wp2
  go_loopw [3, 4] (fun v i wr => ∃ k : Nat, k ≤ s.size ∧ ((∃ m : Nat, k + m + 1 = s.size ∧ i = .int .i64 m) ∨ (k = s.size ∧ i = .int .i64 (-1))) ∧ wr.ownsRow w.heap.size 5 1 v k (cellsB (s.data.toList.reverse.take k)) ∧ Below w.heap.size w wr) (fun _ i _ => (intOf i + 1).toNat)
  case atStart =>
    refine ⟨0, Nat.zero_le _, ?_, World.ownsRow_made _ _ 0 (Nat.le_refl _) (by decide) rfl, (Below.refl _ _).alloc (Nat.le_refl _) _⟩
    by_cases h0 : s.size = 0
    · exact Or.inr ⟨h0.symm, by rw [h0]; rfl⟩
    · exact Or.inl ⟨s.size - 1, by omega, by congr 1; omega⟩
  case round =>
    obtain ⟨k, hk, hcase, ho, hbl⟩ := hrel
    have HB := Lib.hid hbl
    rcases hcase with ⟨m, hm, rfl⟩ | ⟨rfl, rfl⟩
    · have hlt : m < s.size := by omega
      have HN := Lib.hid (rev_next s k m hm hlt)
      have HO := Lib.hid ho
      clear ho hbl
      go_wp2_with (at_builtin; refine wpList_append_own _ rfl (.tmp 13) (.tmp 17) 22 rfl w.heap.size 5 i0 (.int .u8 0) 1 1 Try.underlying22 hi hz0 hz1 hz2 rfl (by decide) _ _ _ rfl (HO.out.alloc _) ⟨wr.heap.size, 0, none⟩ 1 1 [.int .u8 (s[m].toNat : Int)] rfl rfl (cell_one_new _ _ _) (by intro u hu; rw [List.mem_singleton] at hu; subst hu; rfl) (by unfold maxLen; omega) (by omega) (by have := HB.out.size; simp; omega) ?_; intro v1 w1 ho1 hg1 _; have hb1 : Below w.heap.size w w1 := (HB.out.alloc HB.out.size _).grown hg1 (by have := HB.out.size; simp; omega) (fun k hk => (HO.out.lt k hk).1); have HO1 := Lib.hid ho1; have HB1 := Lib.hid hb1; clear ho1 hb1 hg1)
      go_roundw
      case rel =>
        refine ⟨k + 1, by omega, ?_, by rw [HN.out]; have h := HO1.out; rw [← cellsB_append]; exact h, HB1.out⟩
        by_cases h0 : m = 0
        · subst h0; exact Or.inr ⟨by omega, rfl⟩
        · exact Or.inl ⟨m - 1, by omega, by go_num⟩
      case measure => simp [intOf]
    · have hcv := conv_owned (P := Try.prog) (l := s.data.toList.reverse) Try.underlying22 Try.underlying5 Try.underlying9 (by rw [List.length_reverse, ba_len]; rw [List.take_of_length_le (by rw [List.length_reverse, ba_len]; exact Nat.le_refl _)] at ho; exact ho)
      change ((convert _ _ _).run _ _ = .ok (.string (mirror s)) _) at hcv
      clear ho hbl
      go_wp2
      go_ret
      exact ⟨rfl, HB.out⟩

end Go.Proofs.Ytomaanpmjlgpfaa
