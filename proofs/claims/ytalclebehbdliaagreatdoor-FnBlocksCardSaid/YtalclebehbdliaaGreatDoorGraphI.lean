/-
  The program's IsGraph, ArcsOf and IsPath: what the plain words say, tables in new memory; nothing that was there before is changed.
-/
import Derived.Test.YtalclebehbdliaaGreatDoorGridTexts
import Derived.Test.YtalclebehbdliaaGreatDoorRowSums
namespace Go.Proofs.YtalclebehbdliaaGreatDoor
open Go Go.RowKit

set_option maxRecDepth 100000 in
set_option maxHeartbeats 400000 in
theorem impl_isGraph (A : Option Addr) (c : Nat) (m : List (List Int)) (hn : m.length ≤ 1099511627776) (ht : ∀ k, k < m.length → (m.getD k []).length ≤ 1099511627776) (w : World) (hg : GridS w A m) :
    Calls Tryz.prog 60 #[.slice A m.length c] w fun e w' => e = .returned (.bool (isGraphM m)) ∧ w' = w := by
  have HI := Lib.hid (impl_isMatrix A c m hn ht w hg)
  have HS := Lib.hid (impl_sumOf A c m hn ht w hg)
  clear hg ht
  unfold isGraphM
  cases hm : isMat m with
  | false =>
    rw [hm] at HI
    go_enter Tryz.func60, Tryz.ntmps60
    go_wp2_with fail
    refine HI.out.mono ?_
    rintro e w1 ⟨rfl, rfl⟩
    go_wp2
    go_ret
    exact ⟨rfl, rfl⟩
  | true =>
    rw [hm] at HI
    clear hm
    generalize sumM m = s at *
    go_enter Tryz.func60, Tryz.ntmps60
    go_wp2_with fail
    refine HI.out.mono ?_
    rintro e w1 ⟨rfl, rfl⟩
    go_wp2_with fail
    refine HS.out.mono ?_
    rintro e w2 ⟨rfl, rfl⟩
    go_wp2
    go_ret
    exact ⟨by simp, rfl⟩

set_option maxRecDepth 100000 in
set_option maxHeartbeats 3200000 in
theorem impl_arcsOf (A : Option Addr) (c : Nat) (m : List (List Int)) (hn : m.length ≤ 1099511627776) (ht : ∀ k, k < m.length → (m.getD k []).length ≤ 1099511627776) (w : World) (hg : GridS w A m) :
    Calls Tryz.prog 30 #[.slice A m.length c] w (NewG (arcsOfM m) w) := by
  have HI := Lib.hid (impl_isGraph A c m hn ht w hg)
  unfold arcsOfM
  cases hm0 : isGraphM m with
  | false =>
    rw [hm0] at HI
    rw [if_neg (by decide)]
    have HE := Lib.hid (ownG_empty w)
    clear hg ht
    go_enter Tryz.func30, Tryz.ntmps30
    go_wp2_with fail
    refine HI.out.mono ?_
    rintro e w1 ⟨rfl, rfl⟩
    go_wp2
    go_ret
    exact ⟨_, rfl, ⟨[], World.ownsRow_nil _ _ _ _, RowsOwn.nil _ _ _⟩, Below.refl _ _⟩
  | true =>
    rw [hm0] at HI
    rw [if_pos rfl]
    have hm := (isGraphM_facts hm0).1
    obtain ⟨i0, hi0, hz0, hz1, hz2⟩ := info_parts infoSl
    have hf := isMat_facts hm
    have hle := hf.le
    have HG := Lib.hid hg
    have HF := Lib.hid hf
    have HM := Lib.hid hm
    clear hg hf hm hm0 ht
    go_enter Tryz.func30, Tryz.ntmps30
    go_wp2_with fail
    refine HI.out.mono ?_
    rintro e w1 ⟨rfl, hw⟩
    obtain rfl : w = w1 := hw.symm
    have HM0 : Hid (w.ownsRow w.heap.size 48 1 (.slice none 0 0) 0 []) := Lib.hid (World.ownsRow_nil _ _ _ _)
    go_wp2
    go_loopw [3, 13] (fun v iv wr => ∃ (i : Nat) (vs : List Value), i ≤ m.length ∧ iv = .int .i64 i ∧ wr.ownsRow w.heap.size 48 1 v (arcsTo m i 0 0).length vs ∧ RowsOwn wr w.heap.size v.ownBlock vs (arcsTo m i 0 0) ∧ Below w.heap.size w wr) (fun _ i _ => m.length - (intOf i).toNat)
    case atStart => exact ⟨0, [], Nat.zero_le _, rfl, HM0.out, RowsOwn.nil _ _ _, Below.refl _ _⟩
    case round =>
      obtain ⟨i, vs, hi, rfl, hO, hR, hbl⟩ := hrel
      by_cases hil : i < m.length
      · have HO := Lib.hid hO
        have HR := Lib.hid hR
        have HB := Lib.hid hbl
        obtain ⟨b, off, A', c', hA, k0, hrow, hlt0⟩ := HG.out.row hil
        rw [HF.out.row i hil] at k0
        obtain ⟨b2, off2, rfl, hat, hlt2⟩ := hrow (by rw [HF.out.row i hil]; omega)
        have HAT : Hid (∀ t w', t < m.length → Below w.heap.size w w' → w'.cell? ⟨b2, off2 + t, none⟩ = some (.int .i64 (cellOf m i t))) := Lib.hid fun t w' htt hb => (hb.cell (p := ⟨b2, off2 + t, none⟩) hlt2).trans (hat t (by rw [HF.out.row i hil]; exact htt))
        have k1 := (hbl.cell (p := ⟨b, off + i, none⟩) hlt0).trans k0
        subst hA
        obtain ⟨Wr, hWr⟩ : ∃ Wr : World, Wr = wr := ⟨_, rfl⟩
        have k3 := k1
        rw [← hWr] at k3
        clear hO hR hbl hat k0
        go_wp2
        go_loopw [3, 20] (fun v jv w2 => ∃ (j : Nat) (vs : List Value), j ≤ m.length ∧ jv = .int .i64 j ∧ w2.ownsRow w.heap.size 48 1 v (arcsTo m i j 0).length vs ∧ RowsOwn w2 w.heap.size v.ownBlock vs (arcsTo m i j 0) ∧ Below w.heap.size w w2) (fun _ j _ => m.length - (intOf j).toNat)
        case atStart => exact ⟨0, vs, Nat.zero_le _, rfl, HO.out, HR.out, HB.out⟩
        case round =>
          clear HO HR HB vs
          obtain ⟨j, vs, hj, rfl, hO, hR, hbl⟩ := hrel
          by_cases hjl : j < m.length
          · have HO := Lib.hid hO
            have HR := Lib.hid hR
            have HB := Lib.hid hbl
            have hcl := HF.out.cell i j hil hjl
            have k2 := HAT.out j _ hjl hbl
            clear hO hR hbl
            have hcell : (0 : Int) ≤ cellOf m i j ∧ cellOf m i j ≤ 1000000 := hcl
            obtain ⟨x, hx⟩ : ∃ x : Nat, cellOf m i j = (x : Int) := ⟨(cellOf m i j).toNat, by omega⟩
            rw [hx] at k2 hcl
            go_wp2
            go_loopw [3, 26] (fun v kv w3 => ∃ (k : Nat) (vs : List Value), k ≤ x ∧ kv = .int .i64 k ∧ w3.ownsRow w.heap.size 48 1 v (arcsTo m i j k).length vs ∧ RowsOwn w3 w.heap.size v.ownBlock vs (arcsTo m i j k) ∧ Below w.heap.size w w3) (fun _ k _ => x - (intOf k).toNat)
            case atStart => exact ⟨0, vs, Nat.zero_le _, rfl, HO.out, HR.out, HB.out⟩
            case round =>
              clear HO HR HB vs k2
              obtain ⟨k, vs, hk, rfl, hO, hR, hbl⟩ := hrel
              have hal := arcsTo_le HM.out (Nat.le_of_lt hil) (Nat.le_of_lt hjl) (Or.inl hil) (k := k) (by omega)
              by_cases hkl : k < x
              · have HO := Lib.hid hO
                have HR := Lib.hid hR
                have HB := Lib.hid hbl
                have hsz := hbl.size
                clear hO hR hbl
                go_wp2_with (at_builtin; refine wpList_append_lies _ rfl (.tmp 28) (.tmp 32) 24 rfl w.heap.size 48 i0 (.slice none 0 0) 1 24 Tryz.underlying24 hi0 hz0 hz1 hz2 rfl (by decide) _ _ _ rfl ((HO.out.alloc _).alloc _) ⟨wr.heap.size + 1, 0, none⟩ 1 1 [.slice (some ⟨wr.heap.size, 0, none⟩) 2 2] rfl rfl (World.news_of_block (cs := #[.slice (some ⟨wr.heap.size, 0, none⟩) 2 2]) (t := 48) (fr := (0, 0)) (by have := heap_alloc_new (wr.alloc (.cells #[.int .i64 (i : Int), .int .i64 (j : Int)] 3)) (.cells #[.slice (some ⟨wr.heap.size, 0, none⟩) 2 2] 48); rw [World.size_alloc] at this; exact this)) (by simp [Value.oneCell']) (by decide) (by unfold maxLen; omega) (by omega) (by simp; omega) (wr.heap.size + 1 + 1) (by simp) ?_; intro gg cap w3 ho3 hg3 hat hlt3; have HN := Lib.hid (arcs_next HB.out HO.out HR.out ho3 hg3 hat); clear ho3 hg3 hat)
                go_roundw
                case rel => exact ⟨k + 1, _, by omega, by go_num, HN.out.1, HN.out.2.1, HN.out.2.2⟩
                case measure => simp [intOf]; omega
              · have hkk : k = (cellOf m i j).toNat := by omega
                rw [hkk, arcsTo_col] at hO hR
                have HO := Lib.hid hO
                have HR := Lib.hid hR
                clear hO hR
                go_wp2
                go_roundw
                case rel => exact ⟨j + 1, vs, by omega, by go_num, HO.out, HR.out, hbl⟩
                case measure => simp [intOf]; omega
          · obtain rfl : j = m.length := by omega
            rw [arcsTo_row] at hO hR
            have HO := Lib.hid hO
            have HR := Lib.hid hR
            clear hO hR
            go_wp2
            go_roundw
            case rel => exact ⟨i + 1, vs, by omega, by go_num, HO.out, HR.out, hbl⟩
            case measure => simp [intOf]; omega
      · obtain rfl : i = m.length := by omega
        rw [arcsTo_all] at hO hR
        have HO := Lib.hid hO
        have HR := Lib.hid hR
        clear hO hR
        go_wp2
        go_ret
        exact ⟨_, rfl, ⟨vs, HO.out, HR.out⟩, hbl⟩

/-! ### goesOn, IsPath -/

theorem take_getD {p : List Int} {k j : Nat} (hj : j < k) : (p.take k).getD j 0 = p.getD j 0 := by
  simp only [List.getD_eq_getElem?_getD, List.getElem?_take]
  rw [if_pos hj]
/-- What is asked of arc k of a path whose arcs ahead of it are known. -/
theorem pathOk_goes {arcs : List (List Int)} {p : List Int} {k y : Nat} (hk : k < p.length) (hy : p.getD k 0 = (y : Int)) (hl : y < arcs.length) : pathOk arcs p k = goesOnM arcs (p.take k) y := by
  have hlen : (p.take k).length = k := by rw [List.length_take]; omega
  unfold pathOk goesOnM startOf
  rw [hy, decide_eq_true (show (0 : Int) ≤ (y : Int) by omega), decide_eq_true (show (y : Int) ≤ (arcs.length : Int) - 1 by omega), hlen, Int.toNat_natCast]
  cases k with
  | zero => simp
  | succ k => rw [Nat.add_sub_cancel, take_getD (Nat.lt_succ_self k)]; simp

end Go.Proofs.YtalclebehbdliaaGreatDoor
