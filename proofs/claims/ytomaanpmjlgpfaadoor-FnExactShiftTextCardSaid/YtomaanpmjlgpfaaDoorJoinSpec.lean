/-
  The model's Join: at every slice of strings of at most 2^40 bytes together with its separators it returns them joined; nothing that was there before is changed.
-/
import Derived.Test.YtomaanpmjlgpfaaDoorStrOps
import Derived.Test.YtomaanpmjlgpfaaDoorJoinNum
namespace Go.Proofs.YtomaanpmjlgpfaaDoor
open Go Go.RowKit

theorem infoByte : (Tryd.prog.info? 5).map (fun i => (i.zero, i.size, i.bytes)) = some (some (.int .u8 0), 1, 1) := by kernel_rfl

def StrPost (l : List UInt8) (w : World) (e : Ending) (w' : World) : Prop := e = .returned (.string ⟨l.toArray⟩) ∧ Below w.heap.size w w'

set_option maxRecDepth 100000 in
set_option maxHeartbeats 1600000 in
theorem spec_join (b off c : Nat) (xs : List ByteArray) (sep : ByteArray) (hn : xs.length ≤ 1099511627776) (hlim : sep.size * xs.length + total xs ≤ 8796093022208) (w : World) (hc : StrsAt w b off xs) (hb : b < w.heap.size) :
    Calls Tryd.prog 16 #[.slice (some ⟨b, off, none⟩) xs.length c, .string sep] w (StrPost (joinOf xs sep) w) := by
  obtain ⟨i0, hi, hz0, hz1, hz2⟩ := info_parts infoByte
  have HC := Lib.hid hc
  have HJ := Lib.hid (fun k => joinOf_take_length xs sep k)
  clear hc
  go_enter Tryd.func16, Tryd.ntmps16
  go_wp2
  go_loopw [5, 6] (fun v i wr => ∃ k : Nat, k ≤ xs.length ∧ i = .int .i64 k ∧ wr.ownsRow w.heap.size 5 1 v (joinOf (xs.take k) sep).length (cellsB (joinOf (xs.take k) sep)) ∧ Below w.heap.size w wr) (fun _ i _ => xs.length - (intOf i).toNat)
  case atStart => exact ⟨0, Nat.zero_le _, rfl, World.ownsRow_made _ _ 0 (Nat.le_refl _) (by decide) rfl, (Below.refl _ _).alloc (Nat.le_refl _) _⟩
  case round =>
    obtain ⟨k, hk, rfl, ho, hbl⟩ := hrel
    by_cases hlt : k < xs.length
    · have hc1 := HC.out.below hbl hb k hlt
      obtain ⟨x, hx⟩ : ∃ x, xs.getD k ByteArray.empty = x := ⟨_, rfl⟩
      rw [hx] at hc1
      have hjl := HJ.out (k + 1)
      have HX := Lib.hid hx
      have HO := Lib.hid ho
      have HB := Lib.hid hbl
      by_cases hk0 : 0 < k
      · have hjn := joinOf_next xs sep k hlt hk0
        rw [hx] at hjn
        rw [hjn] at hjl
        simp only [List.length_append] at hjl
        change _ + sep.size + x.size ≤ _ at hjl
        have HN := Lib.hid hjn
        clear hjn ho hbl hx
        go_wp2_with (first | (at_builtin; refine Lib.wpList_append_own_string _ rfl (.tmp 16) (.tmp 17) 46 9 rfl w.heap.size 5 i0 Tryd.underlying46 Tryd.underlying9 hi hz0 hz1 hz2 _ _ _ rfl HO.out sep rfl (by unfold maxLen; omega) (by omega) HB.out.size ?_; intro v1 w1 ho1 hg1 _; have hb1 : Below w.heap.size w w1 := HB.out.grown hg1 HB.out.size (fun k hk => (HO.out.lt k hk).1); have hc2 : w1.cell? ⟨b, off + k, none⟩ = some (.string x) := (by rw [← HX.out]; exact HC.out.below hb1 hb k hlt); have HO1 := Lib.hid ho1; have HB1 := Lib.hid hb1; clear ho1 hb1 hg1) | (at_builtin; refine Lib.wpList_append_own_string _ rfl (.tmp 19) (.tmp 23) 46 9 rfl w.heap.size 5 i0 Tryd.underlying46 Tryd.underlying9 hi hz0 hz1 hz2 _ _ _ rfl HO1.out x rfl (by unfold maxLen; omega) (by omega) HB1.out.size ?_; intro v2 w2 ho2 hg2 _; have hb2 : Below w.heap.size w w2 := HB1.out.grown hg2 HB1.out.size (fun k hk => (HO1.out.lt k hk).1); have HO2 := Lib.hid ho2; have HB2 := Lib.hid hb2; clear ho2 hb2 hg2))
        go_roundw
        case rel => exact ⟨k + 1, by omega, by go_num, by rw [HN.out]; simp only [List.length_append, ← cellsB_append]; exact HO2.out, HB2.out⟩
        case measure => simp [intOf]; omega
      · obtain rfl : k = 0 := by omega
        have hjn := joinOf_first xs sep hlt
        rw [hx] at hjn
        rw [hjn] at hjl
        change x.size ≤ _ at hjl
        have HN := Lib.hid hjn
        clear HO
        simp only [List.take_zero, joinOf_nil, List.length_nil] at ho
        have HO := Lib.hid ho
        simp only [Nat.add_zero] at hc1
        clear hjn ho hbl hx
        go_wp2_with (at_builtin; refine Lib.wpList_append_own_string _ rfl (.tmp 19) (.tmp 23) 46 9 rfl w.heap.size 5 i0 Tryd.underlying46 Tryd.underlying9 hi hz0 hz1 hz2 _ _ _ rfl HO.out x rfl (by unfold maxLen; omega) (by omega) HB.out.size ?_; intro v2 w2 ho2 hg2 _; have hb2 : Below w.heap.size w w2 := HB.out.grown hg2 HB.out.size (fun k hk => (HO.out.lt k hk).1); have HO2 := Lib.hid ho2; have HB2 := Lib.hid hb2; clear ho2 hb2 hg2)
        go_roundw
        case rel => exact ⟨1, by omega, by go_num, by rw [HN.out]; have h := HO2.out; rw [Nat.zero_add] at h; exact h, HB2.out⟩
        case measure => simp [intOf]; omega
    · obtain rfl : k = xs.length := by omega
      rw [List.take_of_length_le (Nat.le_refl _)] at ho
      have HO := Lib.hid ho
      have hcv := conv_owned (P := Tryd.prog) Tryd.underlying46 Tryd.underlying5 Tryd.underlying9 ho
      clear ho
      go_wp2
      go_ret
      exact ⟨rfl, hbl⟩
end Go.Proofs.YtomaanpmjlgpfaaDoor
