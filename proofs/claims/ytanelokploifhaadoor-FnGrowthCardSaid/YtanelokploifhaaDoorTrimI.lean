/-
  The program's TrimGraph: what the plain words say, a table in new memory; nothing that was there before is changed.
-/
import Derived.Test.YtanelokploifhaaDoorLiveI
namespace Go.Proofs.YtanelokploifhaaDoor
open Go Go.RowKit

set_option maxRecDepth 100000 in
set_option maxHeartbeats 3200000 in
theorem impl_partR (A : Option Addr) (c : Nat) (m : List (List Int)) (hm : ∀ i, i < m.length → (m.getD i []).length = m.length) (Al : Option Addr) (cl : Nat) (l : List Int) (hl : l.length ≤ 1048576) (hv : ∀ k, k < l.length → 0 ≤ l.getD k 0 ∧ l.getD k 0 < (m.length : Int)) (w : World) (hg : GridS w A m) (hr : RowS w Al l) :
    Calls Tryd.prog 54 #[.slice A m.length c, .slice Al l.length cl] w (NewG (partM m l) w) := by
  obtain ⟨i0, hi, hz0, hz1, hz2⟩ := info_parts infoSl
  obtain ⟨j0, hj, hy0, hy1, hy2⟩ := info_parts infoInt
  have HM0 := Lib.hid (World.ownsRow_nil w w.heap.size 48 1)
  have HG := Lib.hid hg
  have HR := Lib.hid hr
  have HV := Lib.hid hv
  have HF := Lib.hid hm
  rw [partM_as]
  have HNX : Hid (∀ i, tabOf (i + 1) l.length (partF m l) = tabOf i l.length (partF m l) ++ [partRow m l i l.length]) := Lib.hid fun i => tabOf_next i l.length (partF m l)
  have HRN := Lib.hid (partRow_next m l)
  have HRL := Lib.hid (partRow_length m l)
  have HPF : Hid (∀ i j : Nat, partF m l i j = cellOf m (l.getD i 0).toNat (l.getD j 0).toNat) := Lib.hid fun _ _ => rfl
  have HTL : Hid (∀ i, (tabOf i l.length (partF m l)).length = i) := Lib.hid fun i => tabOf_length _ _ _
  clear hg hr hv hm
  go_enter Tryd.func54, Tryd.ntmps54
  go_wp2
  go_loopw [5, 13] (fun v iv wr => ∃ (i : Nat) (vs : List Value), i ≤ l.length ∧ iv = .int .i64 i ∧ wr.ownsRow w.heap.size 48 1 v (tabOf i l.length (partF m l)).length vs ∧ RowsOwn wr w.heap.size v.ownBlock vs (tabOf i l.length (partF m l)) ∧ Below w.heap.size w wr) (fun _ i _ => l.length - (intOf i).toNat)
  case atStart => exact ⟨0, [], Nat.zero_le _, rfl, HM0.out, RowsOwn.nil _ _ _, Below.refl _ _⟩
  case round =>
    obtain ⟨i, vs, hi2, rfl, hO, hR, hbl⟩ := hrel
    obtain ⟨W0, rfl⟩ : ∃ W0 : World, W0 = wr := ⟨_, rfl⟩
    by_cases hil : i < l.length
    · have HO := Lib.hid hO
      have HRO := Lib.hid hR
      have HB := Lib.hid hbl
      have hw0 := hbl.size
      have HI0 := Lib.hid (World.ownsRow_nil W0 W0.heap.size 3 1)
      obtain ⟨lb, lo, rfl, hat, hlb⟩ := (HR.out.below HB.out) (by omega)
      have a0 := hat i hil
      have vx := HV.out i hil
      have HAT : Hid (∀ t, t < l.length → W0.cell? ⟨lb, lo + t, none⟩ = some (.int .i64 (l.getD t 0))) := Lib.hid fun t htl => hat t htl
      obtain ⟨xn, hxn⟩ : ∃ n : Nat, l.getD i 0 = (n : Int) := ⟨(l.getD i 0).toNat, by omega⟩
      rw [hxn] at a0 vx
      have HX := Lib.hid hxn
      have gi : (i : Int) < (l.length : Int) := by omega
      clear hO hR hbl hat hxn
      obtain ⟨vx0, vx1⟩ := vx
      go_wp2
      go_loopw [8, 19] (fun u jv w4 => ∃ t : Nat, t ≤ l.length ∧ jv = .int .i64 t ∧ w4.ownsRow W0.heap.size 3 1 u (partRow m l i t).length ((partRow m l i t).map (Value.int .i64)) ∧ Below W0.heap.size W0 w4) (fun _ j _ => l.length - (intOf j).toNat)
      case atStart => exact ⟨0, Nat.zero_le _, rfl, HI0.out, Below.refl _ _⟩
      case round =>
        obtain ⟨t, ht, rfl, hU, hb4⟩ := hrel
        by_cases htl : t < l.length
        · have a1 := HAT.out t htl
          have vy := HV.out t htl
          have HP := Lib.hid (HPF.out i t)
          rw [HX.out] at HP
          have HRN1 := Lib.hid (HRN.out i t)
          have HRL1 := Lib.hid (HRL.out i t)
          generalize l.getD t 0 = y at *
          obtain ⟨yn, rfl⟩ : ∃ n : Nat, y = (n : Int) := ⟨y.toNat, by omega⟩
          rw [Int.toNat_natCast, Int.toNat_natCast] at HP
          obtain ⟨b1, o1, b2, o2, c2, rfl, a2, a3, hb1, hb2⟩ := (HG.out.below HB.out).num (i := xn) (by omega) (j := yn) (by rw [HF.out xn (by omega)]; omega)
          rw [HF.out xn (by omega)] at a2
          rw [HP.out] at HRN1
          generalize cellOf m xn yn = z at *
          have e1 := (hb4.cell (p := ⟨lb, lo + t, none⟩) hlb).trans a1
          have e2 := (hb4.cell (p := ⟨b1, o1 + xn, none⟩) hb1).trans a2
          have e3 := (hb4.cell (p := ⟨b2, o2 + yn, none⟩) hb2).trans a3
          obtain ⟨gy0, gy1⟩ := vy
          have HU := Lib.hid hU
          have HB4 := Lib.hid hb4
          have hs4 := hb4.size
          have gt : (t : Int) < (l.length : Int) := by omega
          have hpr : (partRow m l i t).length ≤ 1048576 := by rw [HRL1.out]; omega
          clear hU hb4 a0 a1 a2 a3
          generalize hX : partRow m l i t = X at *
          go_wp2_with (at_builtin; refine wpList_append_lies _ rfl (.tmp 23) (.tmp 31) 48 rfl W0.heap.size 3 j0 (.int .i64 0) 1 8 Tryd.underlying48 hj hy0 hy1 hy2 rfl (by decide) _ _ _ rfl (HU.out.alloc _) ⟨wr.heap.size, 0, none⟩ 1 1 [.int .i64 z] rfl rfl (World.news_of_block (cs := #[.int .i64 z]) (t := 3) (fr := (0, 0)) (heap_alloc_new wr _)) (by simp [Value.oneCell']) (by decide) (by unfold maxLen; omega) (by omega) (by simp; omega) (wr.heap.size + 1) (by simp) ?_; intro gg cap w6 ho6 hg6 hat6 hlt6; have HT := Lib.hid (list_next HB4.out HU.out _ rfl ho6 hg6); clear ho6 hg6 hat6)
          go_roundw
          case rel => exact ⟨t + 1, by omega, by go_num, by rw [HRN1.out]; exact HT.out.1, HT.out.2⟩
          case measure => simp [intOf]; omega
        · obtain rfl : t = l.length := by omega
          have HU := Lib.hid hU
          have HB4 := Lib.hid hb4
          have hs4 := hb4.size
          have HOK := Lib.hid (kept_below HO.out hb4)
          have HGK := Lib.hid (HTL.out i)
          have HNX1 := Lib.hid (HNX.out i)
          obtain ⟨A7, c7, rfl⟩ := slice_of_owns hU
          clear hU hb4 a0
          generalize tabOf i l.length (partF m l) = G at *
          generalize partRow m l i l.length = X at *
          go_wp2_with (at_builtin; refine wpList_append_lies _ rfl (.tmp 34) (.tmp 36) 24 rfl w.heap.size 48 i0 (.slice none 0 0) 1 24 Tryd.underlying24 hi hz0 hz1 hz2 rfl (by decide) _ _ _ rfl (HOK.out.alloc _) ⟨wr.heap.size, 0, none⟩ 1 1 [.slice A7 X.length c7] rfl rfl (World.news_of_block (cs := #[.slice A7 X.length c7]) (t := 48) (fr := (0, 0)) (heap_alloc_new wr _)) (by simp [Value.oneCell']) (by decide) (by rw [HGK.out]; unfold maxLen; omega) (by rw [HGK.out]; omega) (by simp; omega) (wr.heap.size + 1) (by simp) ?_; intro gg cap w6 ho6 hg6 hat6 hlt6; have HM := Lib.hid (part_more HO.out HRO.out HB4.out hw0 HU.out _ ho6 hg6 hat6); clear ho6 hg6 hat6)
          go_roundw
          case rel => exact ⟨i + 1, _, by omega, by go_num, by rw [HNX1.out]; exact HM.out.1, by rw [HNX1.out]; exact HM.out.2.1, HM.out.2.2 _ rfl HB.out⟩
          case measure => simp [intOf]; omega
    · obtain rfl : i = l.length := by omega
      have HO := Lib.hid hO
      have HRO := Lib.hid hR
      clear hO hR
      go_wp2
      go_ret
      exact ⟨_, rfl, ⟨vs, HO.out, HRO.out⟩, hbl⟩

theorem impl_part (A : Option Addr) (c : Nat) (m : List (List Int)) (hm : MatFacts m) (Al : Option Addr) (cl : Nat) (l : List Int) (hl : l.length ≤ 1048576) (hv : ∀ k, k < l.length → 0 ≤ l.getD k 0 ∧ l.getD k 0 < (m.length : Int)) (w : World) (hg : GridS w A m) (hr : RowS w Al l) :
    Calls Tryd.prog 54 #[.slice A m.length c, .slice Al l.length cl] w (NewG (partM m l) w) := impl_partR A c m (fun i hi => hm.row i hi) Al cl l hl hv w hg hr

end Go.Proofs.YtanelokploifhaaDoor
