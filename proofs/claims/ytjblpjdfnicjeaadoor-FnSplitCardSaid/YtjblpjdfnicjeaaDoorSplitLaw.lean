/-
  The law on splitting: whatever the bytes of the draw, it returns true; nothing that was there before is changed.
-/
import Derived.Test.YtjblpjdfnicjeaaDoorDrawSplit
import Derived.Test.YtjblpjdfnicjeaaDoorSplitImpl
import Derived.Test.YtjblpjdfnicjeaaDoorJoinImpl
import Derived.Test.YtjblpjdfnicjeaaDoorBig
namespace Go.Proofs.YtjblpjdfnicjeaaDoor
open Go Go.RowKit

theorem part_single {c : UInt8} {s : ByteArray} {k : Nat} (hk : k < (parts c s).length) : parts c ((parts c s).getD k ByteArray.empty) = [(parts c s).getD k ByteArray.empty] := by
  refine parts_none ((parts_facts c s.size s (Nat.le_refl _)).2.2.1 _ ?_)
  exact getD_mem' hk
theorem part_size {c : UInt8} {s : ByteArray} {k : Nat} (hk : k < (parts c s).length) : ((parts c s).getD k ByteArray.empty).size ≤ s.size := by
  have h1 := size_le_total hk
  have h2 := (parts_facts c s.size s (Nat.le_refl _)).2.1
  omega

set_option maxRecDepth 100000 in
set_option maxHeartbeats 1600000 in
theorem law_splits (a : Option Addr) (n cp : Nat) (w : World) (hcode : n ≤ 1048576 → CodeAt w w.heap.size a n) (hsh : w.ShapedOpen Tryd.prog) :
    Calls Tryd.prog 4 #[.slice a n cp] w fun e w' => e = .returned (.bool true) ∧ Below w.heap.size w w' := by
  by_cases hn : n ≤ 1048576
  case neg =>
    have HBig := Lib.hid (big_is a n cp true (by simp; omega) w)
    clear hcode hsh
    go_enter Tryd.func4, Tryd.ntmps4
    go_wp2_with fail
    refine HBig.out.mono ?_
    rintro e w' ⟨rfl, rfl⟩
    go_wp2_with fail
    go_ret
    exact ⟨rfl, Below.refl _ _⟩
  have HBig := Lib.hid (big_is a n cp false (by simp; omega) w)
  have HSH := Lib.hid hsh
  have HD := Lib.hid (draw_split a n cp w (hcode hn) hn)
  clear hcode hsh
  go_enter Tryd.func4, Tryd.ntmps4
  go_wp2_with fail
  refine HBig.out.mono ?_
  rintro e w' ⟨rfl, rfl⟩
  go_wp2_with fail
  refine HD.out.mono ?_
  rintro e w1 ⟨s, c, hs, rfl, hb1⟩
  have HI := Lib.hid (fun (p : ByteArray) (hp : p.size ≤ 1000) w hw => impl_split c p (by omega) w hw)
  have HS := Lib.hid (spec_split c s (by omega))
  have hpf := parts_facts c s.size s (Nat.le_refl _)
  have hjo := Lib.hid hpf.2.2.2
  have hle := hpf.1
  have hto := hpf.2.1
  have hone : Hid (∀ k, k < (parts c s).length → parts c ((parts c s).getD k ByteArray.empty) = [(parts c s).getD k ByteArray.empty] ∧ ((parts c s).getD k ByteArray.empty).size ≤ 1000) :=
    Lib.hid fun k hk => ⟨part_single hk, Nat.le_trans (part_size hk) hs⟩
  have hcv := sp_conv c
  clear hpf
  have HI1 := Lib.hid (HI.out s hs w1 (shaped_below HSH.out hb1))
  go_wp2_with fail
  refine HI1.out.mono fun e w2 h2 => ?_
  have HP : Hid (PartsPost c s w1 e w2) := h2
  clear h2
  obtain ⟨g, cap, rfl, ho, hb2⟩ := HP.out
  clear HP
  have hB2 : Below w.heap.size w w2 := hb1.trans (hb2.mono hb1.size)
  have hg := (ho.lt g rfl)
  have hcap : (parts c s).length ≤ cap := by
    rcases ho.2 with ⟨h, _⟩ | ⟨g', cap', cur, h, _, _, h4, _⟩
    · cases h
    · injection h with _ _ h6
      omega
  have HST := Lib.hid (StrsAt.of_owns ho rfl)
  clear ho
  generalize hP : parts c s = ps at hle hto hcap HST hone
  have hpl : 0 < ps.length := by rw [← hP, parts_length]; omega
  have HSP : Hid (∀ w, Calls Tryd.prog 20 #[.string s, .int .u8 (c.toNat : Int)] w fun e w' => (∃ g0 c0, e = .returned (.slice (some ⟨g0, 0, none⟩) ps.length c0)) ∧ Below w.heap.size w w') := by
    intro w
    refine (HS.out w).mono ?_
    rintro e w' ⟨g0, c0, rfl, _, hb⟩
    exact ⟨⟨g0, c0, by rw [hP]⟩, hb⟩
  have hj2 : Hid (joinOf ps ⟨#[c]⟩ = s.data.toList) := Lib.hid (by rw [← hP]; exact hjo.out)
  clear hP
  have e1 : (⟨#[c]⟩ : ByteArray).size = 1 := rfl
  have HJ : Hid (Calls Tryd.prog 19 #[.slice (some ⟨g, 0, none⟩) ps.length cap, .string ⟨#[c]⟩] (w2.alloc (.cells #[.int .u8 (c.toNat : Int)] 5)) fun e w' => e = .returned (.string s) ∧ Below w2.heap.size w2 w') := by
    have hb : Below w2.heap.size w2 (w2.alloc (.cells #[.int .u8 (c.toNat : Int)] 5)) := (Below.refl _ _).alloc (Nat.le_refl _) _
    have h := impl_join g 0 cap ps ⟨#[c]⟩ (by omega) hcap (by rw [e1]; omega) _ (HST.out.below hb hg.2) (by simp; omega)
    refine h.mono ?_
    rintro e w' ⟨rfl, hb'⟩
    rw [hj2.out]
    exact ⟨rfl, hb.trans (hb'.mono hb.size)⟩
  clear e1
  go_wp2_with fail
  refine HJ.out.mono ?_
  rintro e w3 ⟨rfl, hb3⟩
  have hB3 : Below w.heap.size w w3 := hB2.trans (hb3.mono hB2.size)
  go_wp2_with fail
  refine (HSP.out _).mono ?_
  rintro e w4 ⟨⟨g0, c0, rfl⟩, hb4⟩
  have hB4 : Below w.heap.size w w4 := hB3.trans (hb4.mono hB3.size)
  have hb24 : Below w2.heap.size w2 w4 := hb3.trans (hb4.mono hb3.size)
  clear hb4 hb3 hB3
  go_wp2
  go_loopw [6] (fun i wr => ∃ k : Nat, k ≤ ps.length ∧ i = .int .i64 k ∧ Below w2.heap.size w2 wr ∧ Below w.heap.size w wr) (fun i _ => ps.length - (intOf i).toNat)
  case atStart => exact ⟨0, Nat.zero_le _, rfl, hb24, hB4⟩
  case round =>
    obtain ⟨k, hk, rfl, hbl, hBl⟩ := hrel
    by_cases hlt : k < ps.length
    · obtain ⟨h1, h2⟩ := hone.out k hlt
      have hc1 := HST.out.below hbl hg.2 k hlt
      rw [Nat.zero_add] at hc1
      generalize ps.getD k ByteArray.empty = p at h1 h2 hc1
      have HK : Hid (Calls Tryd.prog 18 #[.string p, .int .u8 (c.toNat : Int)] wr fun e w' => (∃ g0 c0, e = .returned (.slice (some ⟨g0, 0, none⟩) 1 c0)) ∧ Below wr.heap.size wr w') := by
        refine (HI.out p h2 wr (shaped_below HSH.out hBl)).mono ?_
        rintro e w' ⟨g0, c0, rfl, _, hb⟩
        exact ⟨⟨g0, c0, by rw [h1]; rfl⟩, hb⟩
      clear h1
      go_wp2_with fail
      refine HK.out.mono ?_
      rintro e w5 ⟨⟨g1, c1, rfl⟩, hb5⟩
      have hb6 := hbl.trans (hb5.mono hbl.size)
      have hb7 := hBl.trans (hb5.mono hBl.size)
      clear hb5
      go_wp2
      go_roundw
      case rel => exact ⟨k + 1, by omega, by go_num, hb6, hb7⟩
      case measure => simp [intOf]; omega
    · obtain rfl : k = ps.length := by omega
      go_wp2
      go_ret
      exact ⟨rfl, hBl⟩
end Go.Proofs.YtjblpjdfnicjeaaDoor
