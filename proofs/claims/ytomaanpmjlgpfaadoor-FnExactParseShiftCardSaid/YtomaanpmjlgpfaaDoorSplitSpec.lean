/-
  The model's SplitByte: at every string of at most 2^20 bytes and every byte it returns the pieces in new memory; nothing that was there before is changed.
-/
import Derived.Test.YtomaanpmjlgpfaaDoorStrSame
import Derived.Test.YtomaanpmjlgpfaaDoorSplitNum
namespace Go.Proofs.YtomaanpmjlgpfaaDoor
open Go Go.RowKit

/-- The pieces, in new memory. -/
def PartsPost (c : UInt8) (s : ByteArray) (w : World) (e : Ending) (w' : World) : Prop :=
  ∃ g cap, e = .returned (.slice (some ⟨g, 0, none⟩) (parts c s).length cap) ∧ w'.ownsRow w.heap.size 9 1 (.slice (some ⟨g, 0, none⟩) (parts c s).length cap) (parts c s).length ((parts c s).map Value.string) ∧ Below w.heap.size w w'
def SplitInv (c : UInt8) (s : ByteArray) (k f : Nat) (done : List ByteArray) : Prop :=
  done.length ≤ k ∧ ((k ≤ s.size ∧ f ≤ k ∧ done ++ parts c (s.extract f s.size) = parts c s ∧ ∀ j : Nat, f ≤ j → j < k → s.data.toList[j]? ≠ some c) ∨ (k = s.size + 1 ∧ done = parts c s))
theorem SplitInv.start (c : UInt8) (s : ByteArray) : SplitInv c s 0 0 [] := ⟨Nat.le_refl _, Or.inl ⟨Nat.zero_le _, Nat.le_refl _, by rw [ext_all]; rfl, fun j _ h => by omega⟩⟩
theorem SplitInv.part {c : UInt8} {s : ByteArray} {k f : Nat} {done : List ByteArray} (h : SplitInv c s k f done) (hk : k < s.size) : f ≤ k := by
  rcases h.2 with h | h
  · exact h.2.1
  · omega
theorem SplitInv.skip {c : UInt8} {s : ByteArray} {k f : Nat} {done : List ByteArray} (h : SplitInv c s k f done) (hk : k < s.size) (hne : s.data.toList[k]? ≠ some c) : SplitInv c s (k + 1) f done := by
  obtain ⟨h0, h | h⟩ := h
  · refine ⟨by omega, Or.inl ⟨by omega, by omega, h.2.2.1, fun j hf hj => ?_⟩⟩
    rcases Nat.lt_or_ge j k with h1 | h1
    · exact h.2.2.2 j hf h1
    · obtain rfl : j = k := by omega
      exact hne
  · omega
theorem SplitInv.cut {c : UInt8} {s : ByteArray} {k f : Nat} {done : List ByteArray} (h : SplitInv c s k f done) (hk : k < s.size) (he : s.data.toList[k]? = some c) : SplitInv c s (k + 1) (k + 1) (done ++ [s.extract f k]) := by
  obtain ⟨h0, h | h⟩ := h
  · refine ⟨by simp; omega, Or.inl ⟨by omega, Nat.le_refl _, ?_, fun j hf hj => by omega⟩⟩
    rw [← h.2.2.1, parts_tail_at h.2.1 he h.2.2.2]
    simp
  · omega
theorem SplitInv.last {c : UInt8} {s : ByteArray} {f : Nat} {done : List ByteArray} (h : SplitInv c s s.size f done) : SplitInv c s (s.size + 1) (s.size + 1) (done ++ [s.extract f s.size]) := by
  obtain ⟨h0, h | h⟩ := h
  · refine ⟨by simp; omega, Or.inr ⟨rfl, ?_⟩⟩
    rw [← h.2.2.1, parts_tail_none (fun j hf hc => ?_)]
    have hlt := at_lt hc
    exact h.2.2.2 j hf hlt hc
  · omega
theorem SplitInv.endf {c : UInt8} {s : ByteArray} {f : Nat} {done : List ByteArray} (h : SplitInv c s s.size f done) : f ≤ s.size := by
  rcases h.2 with h | h
  · exact h.2.1
  · omega
theorem SplitInv.done {c : UInt8} {s : ByteArray} {f : Nat} {done : List ByteArray} (h : SplitInv c s (s.size + 1) f done) : done = parts c s := by
  rcases h.2 with h | h
  · omega
  · exact h.2

set_option maxRecDepth 100000 in
set_option maxHeartbeats 1600000 in
theorem spec_split (c : UInt8) (s : ByteArray) (hs : s.size ≤ 1048576) (w : World) :
    Calls Tryd.prog 23 #[.string s, .int .u8 (c.toNat : Int)] w (PartsPost c s w) := by
  obtain ⟨i0, hi, hz0, hz1, hz2⟩ := info_parts infoStr
  go_enter Tryd.func23, Tryd.ntmps23
  go_wp2
  go_loopw [5, 6, 7] (fun v fr i wr => ∃ (k f : Nat) (done : List ByteArray), k ≤ s.size + 1 ∧ done.length ≤ k ∧ fr = .int .i64 f ∧ i = .int .i64 k ∧ wr.ownsRow w.heap.size 9 1 v done.length (done.map Value.string) ∧ Below w.heap.size w wr ∧ Hid (SplitInv c s k f done)) (fun _ _ i _ => s.size + 1 - (intOf i).toNat)
  case atStart => exact ⟨0, 0, [], by omega, Nat.le_refl _, rfl, rfl, World.ownsRow_made _ _ 0 (Nat.le_refl _) (by decide) rfl, (Below.refl _ _).alloc (Nat.le_refl _) _, Lib.hid (SplitInv.start c s)⟩
  case round =>
    obtain ⟨k, f, done, hk, hdl, rfl, rfl, ho, hbl, hinv⟩ := hrel
    have HO := Lib.hid ho
    have HB := Lib.hid hbl
    clear ho hbl
    by_cases hlt : k < s.size
    · have hfk := hinv.out.part hlt
      have hq : s.data.toList[k]? = some s[k] := by
        have h' : k < s.data.toList.length := hlt
        rw [List.getElem?_eq_getElem h']; rfl
      have g0 : ((k : Int) == (s.size : Int)) = false := by simp; omega
      by_cases he : s[k] = c
      · have hn := Lib.hid (hinv.out.cut hlt (by rw [hq, he]))
        have g1 : ((s[k].toNat : Int) == (c.toNat : Int)) = true := by simp [he]
        clear hq he
        go_wp2_with (at_builtin; refine wpList_append_own _ rfl (.tmp 26) (.tmp 31) 22 rfl w.heap.size 9 i0 (.string ByteArray.empty) 1 16 Tryd.underlying22 hi hz0 hz1 hz2 rfl (by decide) _ _ _ rfl (HO.out.alloc _) ⟨wr.heap.size, 0, none⟩ 1 1 [.string (s.extract f k)] rfl rfl (cell_one_new _ _ _) (by intro u hu; rw [List.mem_singleton] at hu; subst hu; rfl) (by unfold maxLen; omega) (by omega) (by have := HB.out.size; simp; omega) ?_; intro v1 w1 ho1 hg1 _; have hb1 : Below w.heap.size w w1 := (HB.out.alloc HB.out.size _).grown hg1 (by have := HB.out.size; simp; omega) (fun k hk => (HO.out.lt k hk).1); have HO1 := Lib.hid ho1; have HB1 := Lib.hid hb1; clear ho1 hb1 hg1)
        go_roundw
        case rel => exact ⟨k + 1, k + 1, done ++ [s.extract f k], by omega, by simp; omega, by go_num, by go_num, by have h := HO1.out; rw [List.length_append, List.map_append]; exact h, HB1.out, hn⟩
        case measure => simp [intOf]; omega
      · have hn := Lib.hid (hinv.out.skip hlt (by rw [hq]; intro h; exact he (Option.some.inj h)))
        have g1 : ((s[k].toNat : Int) == (c.toNat : Int)) = false := by
          rw [beq_eq_false_iff_ne]
          intro h
          exact he (UInt8.toNat_inj.1 (by omega))
        clear hq he
        go_wp2
        go_roundw
        case rel => exact ⟨k + 1, f, done, by omega, by omega, rfl, by go_num, HO.out, HB.out, hn⟩
        case measure => simp [intOf]; omega
    · by_cases heq : k = s.size
      · subst heq
        have hfk := hinv.out.endf
        have hn := Lib.hid hinv.out.last
        go_wp2_with (at_builtin; refine wpList_append_own _ rfl (.tmp 26) (.tmp 31) 22 rfl w.heap.size 9 i0 (.string ByteArray.empty) 1 16 Tryd.underlying22 hi hz0 hz1 hz2 rfl (by decide) _ _ _ rfl (HO.out.alloc _) ⟨wr.heap.size, 0, none⟩ 1 1 [.string (s.extract f s.size)] rfl rfl (cell_one_new _ _ _) (by intro u hu; rw [List.mem_singleton] at hu; subst hu; rfl) (by unfold maxLen; omega) (by omega) (by have := HB.out.size; simp; omega) ?_; intro v1 w1 ho1 hg1 _; have hb1 : Below w.heap.size w w1 := (HB.out.alloc HB.out.size _).grown hg1 (by have := HB.out.size; simp; omega) (fun k hk => (HO.out.lt k hk).1); have HO1 := Lib.hid ho1; have HB1 := Lib.hid hb1; clear ho1 hb1 hg1)
        go_roundw
        case rel => exact ⟨s.size + 1, s.size + 1, done ++ [s.extract f s.size], by omega, by simp; omega, by go_num, by go_num, by have h := HO1.out; rw [List.length_append, List.map_append]; exact h, HB1.out, hn⟩
        case measure => simp [intOf]
      · obtain rfl : k = s.size + 1 := by omega
        have hd := hinv.out.done
        subst hd
        have ho := HO.out
        rcases ho.2 with ⟨rfl, h0⟩ | ⟨g, cap, cur, rfl, _, _, _⟩
        · exact absurd h0 (by rw [parts_length]; omega)
        · clear HO
          have HO := Lib.hid ho
          clear ho
          go_wp2
          go_ret
          exact ⟨g, cap, rfl, HO.out, HB.out⟩
end Go.Proofs.YtomaanpmjlgpfaaDoor
