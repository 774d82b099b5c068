/-
  The program's ParseMatrix: what the plain words say, in new memory; nothing that was there before is changed.
-/
import Derived.Test.YtljmghleiijajaaDoorMatParse
import Derived.Test.YtljmghleiijajaaDoorImplRead
import Derived.Test.YtljmghleiijajaaDoorSplitImpl
import Derived.Test.YtljmghleiijajaaDoorRowEnds
import Derived.Test.YtljmghleiijajaaDoorMatDoor
namespace Go.Proofs.YtljmghleiijajaaDoor
open Go Go.RowKit

theorem ownG_none (w : World) (B : Nat) : OwnG w B (.slice none 0 0) [] := ⟨[], ⟨rfl, .inl ⟨rfl, rfl⟩⟩, RowsOwn.nil _ _ _⟩
/-- What the row's text gives: its numbers in new memory, where all are numbers. -/
def RowGot (p : ByteArray) (w : World) (e : Ending) (w' : World) : Prop :=
  ∃ v, e = .returned (.tuple #[v, .bool (okRow intOfS p)]) ∧ (okRow intOfS p = true → w'.ownsRow w.heap.size 3 1 v (rowOfT intOfS p).length ((rowOfT intOfS p).map (Value.int .i64))) ∧ Below w.heap.size w w'

set_option maxRecDepth 100000 in
set_option maxHeartbeats 1600000 in
theorem impl_parseRow (p : ByteArray) (hpz : p.size ≤ 1048576) (w : World) (hpw : Pow w) (her : Errs w) (hsh : w.ShapedOpen Tryd.prog) :
    Calls Tryd.prog 26 #[.string p] w (RowGot p w) := by
  obtain ⟨j0, hj, hy0, hy1, hy2⟩ := info_parts infoInt
  have HSP := Lib.hid (impl_split 44 p hpz w hsh)
  have hqz := (parts_facts 44 p.size p (Nat.le_refl _)).2.1
  have hqb : (parts 44 p).length ≤ 1048577 := by have := (parts_facts 44 p.size p (Nat.le_refl _)).1; omega
  have HQZ : Hid (∀ t, t < (parts 44 p).length → ((parts 44 p).getD t ByteArray.empty).size ≤ 281474976710656) := Lib.hid fun t ht => by have := size_le_total ht; omega
  have HXN : Hid (∀ t, t < (parts 44 p).length → (rowOfT intOfS p).take t ++ [numV (intOfS ((parts 44 p).getD t ByteArray.empty))] = (rowOfT intOfS p).take (t + 1)) := Lib.hid fun t ht => row_next ht
  have HXA : Hid ((rowOfT intOfS p).take (parts 44 p).length = rowOfT intOfS p) := Lib.hid row_all
  have HXL : Hid ((rowOfT intOfS p).length = (parts 44 p).length) := Lib.hid (List.length_map _)
  have HBAD : Hid (∀ t, t < (parts 44 p).length → numB (intOfS ((parts 44 p).getD t ByteArray.empty)) = false → okRow intOfS p = false) := Lib.hid fun t ht h => okRow_bad ht h
  have HALL : Hid ((∀ t, t < (parts 44 p).length → numB (intOfS ((parts 44 p).getD t ByteArray.empty)) = true) → okRow intOfS p = true) := Lib.hid okRow_all
  have HPE : Hid (∀ w', Below w.heap.size w w' → Pow w' ∧ Errs w') := Lib.hid fun w' hb => ⟨hpw.below hb, her.below hb⟩
  clear hqz hpw her hsh
  unfold RowGot
  generalize rowOfT intOfS p = X at *
  generalize okRow intOfS p = R at *
  go_enter Tryd.func26, Tryd.ntmps26
  go_wp2_with fail
  refine HSP.out.mono ?_
  rintro e w3 ⟨gp, cp, rfl, ho3, b3⟩
  generalize parts 44 p = qs at *
  have hgp := ho3.lt gp rfl
  have HQ3 := Lib.hid (StrsAt.of_owns ho3 rfl)
  have HB3 := Lib.hid b3
  clear ho3 b3 HSP
  go_wp2
  go_loopw [4, 12] (fun u j w4 => ∃ t : Nat, t ≤ qs.length ∧ j = .int .i64 t ∧ w4.ownsRow w.heap.size 3 1 u t ((X.take t).map (Value.int .i64)) ∧ StrsAt w4 gp 0 qs ∧ gp < w4.heap.size ∧ u.ownBlock ≠ some gp ∧ Hid (∀ j, j < t → numB (intOfS (qs.getD j ByteArray.empty)) = true) ∧ Below w.heap.size w w4) (fun _ j _ => qs.length - (intOf j).toNat)
  case atStart => exact ⟨0, Nat.zero_le _, rfl, ⟨by simp, .inl ⟨rfl, rfl⟩⟩, HQ3.out, hgp.2, (fun h => by cases h), Lib.hid (fun j h => by omega), HB3.out⟩
  case round =>
    obtain ⟨t, ht, rfl, hU, hSq, hgq, hneq, hnum, hb4⟩ := hrel
    by_cases htl : t < qs.length
    · have hcq := hSq t htl
      rw [Nat.zero_add] at hcq
      have hz := HQZ.out t htl
      have HX := Lib.hid (HXN.out t htl)
      have HBT := Lib.hid (HBAD.out t htl)
      have HNN : Hid (numB (intOfS (qs.getD t ByteArray.empty)) = true → ∀ j, j < t + 1 → numB (intOfS (qs.getD j ByteArray.empty)) = true) := Lib.hid fun h j hj => by
        by_cases e : j = t
        · subst e; exact h
        · exact hnum.out j (by omega)
      have HU := Lib.hid hU
      have HSQ := Lib.hid hSq
      have HNQ := Lib.hid hneq
      have HB4 := Lib.hid hb4
      have hs4 := hb4.size
      clear hU hSq hneq hnum hb4
      generalize qs.getD t ByteArray.empty = q at *
      have HPI := Lib.hid (impl_parseInt q hz wr (HPE.out wr HB4.out).1 (HPE.out wr HB4.out).2)
      go_wp2_with fail
      refine HPI.out.mono ?_
      rintro e w5 ⟨rfl, b5⟩
      have HB5 := Lib.hid (HB4.out.trans (b5.mono hs4))
      have hs5 := HB5.out.size
      have HU5 := Lib.hid (kept_below HU.out b5)
      have HSQ5 := Lib.hid (HSQ.out.below b5 hgq)
      have hgq5 : gp < _ := Nat.lt_of_lt_of_le hgq b5.size
      clear b5
      obtain ⟨x, HV⟩ : ∃ x, Hid (numV (intOfS q) = x) := ⟨_, Lib.hid rfl⟩
      rw [HV.out]
      rw [HV.out] at HX
      cases hnb : numB (intOfS q) with
      | false =>
        have hr := HBT.out hnb
        subst hr
        clear hnb
        go_wp2
        go_ret2
        exact ⟨_, rfl, (fun h => by cases h), HB5.out⟩
      | true =>
        have HN1 := Lib.hid (HNN.out hnb)
        clear hnb
        go_wp2_with (at_builtin; refine wpList_append_lies _ rfl (.tmp 23) (.tmp 25) 32 rfl w.heap.size 3 j0 (.int .i64 0) 1 8 Tryd.underlying32 hj hy0 hy1 hy2 rfl (by decide) _ _ _ rfl (HU5.out.alloc _) ⟨w5.heap.size, 0, none⟩ 1 1 [.int .i64 x] rfl rfl (World.news_of_block (cs := #[.int .i64 x]) (t := 3) (fr := (0, 0)) (heap_alloc_new w5 _)) (by simp [Value.oneCell']) (by decide) (by unfold maxLen; omega) (by omega) (by simp; omega) (w5.heap.size + 1) (by simp) ?_; intro gg cap w6 ho6 hg6 hat6 hlt6; have HM := Lib.hid (ints_more HB5.out hs5 HU5.out HSQ5.out hgq5 HNQ.out _ HX.out ho6 hg6 hat6); clear ho6 hg6 hat6)
        go_roundw
        case rel => exact ⟨t + 1, by omega, by go_num, HM.out.1, HM.out.2.2.1, HM.out.2.2.2.1, HM.out.2.2.2.2, HN1, HM.out.2.1⟩
        case measure => simp [intOf]; omega
    · obtain rfl : t = qs.length := by omega
      have hr := HALL.out hnum.out
      subst hr
      rw [HXA.out, ← HXL.out] at hU
      have HU := Lib.hid hU
      have HB4 := Lib.hid hb4
      clear hU hnum hb4 hSq
      go_wp2
      go_ret2
      exact ⟨_, rfl, HU.out, HB4.out⟩

set_option maxRecDepth 100000 in
set_option maxHeartbeats 3200000 in
theorem impl_parseMatrix (s : ByteArray) (hs : s.size ≤ 1048576) (w : World) (hpw : Pow w) (her : Errs w) (hsh : w.ShapedOpen Tryd.prog) :
    Calls Tryd.prog 11 #[.string s] w fun e w' => ∃ v, e = .returned (.tuple #[v, .bool (parseM intOfS s).isSome]) ∧ OwnG w' w.heap.size v ((parseM intOfS s).getD []) ∧ Below w.heap.size w w' := by
  obtain ⟨i0, hi, hz0, hz1, hz2⟩ := info_parts infoSl
  have hlen := (parts_facts 47 s.size s (Nat.le_refl _)).1
  have htot := (parts_facts 47 s.size s (Nat.le_refl _)).2.1
  have HSP := Lib.hid (impl_split 47 s hs w hsh)
  have HROW : Hid (∀ k, k < (parts 47 s).length → ∀ w', Below w.heap.size w w' → Calls Tryd.prog 26 #[.string ((parts 47 s).getD k ByteArray.empty)] w' (RowGot ((parts 47 s).getD k ByteArray.empty) w')) :=
    Lib.hid fun k hk w' hb => impl_parseRow _ (by have := size_le_total hk; omega) w' (hpw.below hb) (her.below hb) (shaped_below hsh hb)
  have HBADR : Hid (∀ k, k < (parts 47 s).length → okRow intOfS ((parts 47 s).getD k ByteArray.empty) = false → parseM intOfS s = none) := Lib.hid fun k hk => parseM_bad hk
  have HEND : Hid ((∀ k, k < (parts 47 s).length → okRow intOfS ((parts 47 s).getD k ByteArray.empty) = true) → parseM intOfS s = if isMat (gridOfT intOfS s) = true then some (gridOfT intOfS s) else none) := Lib.hid parseM_end
  have HGN : Hid (∀ k, k < (parts 47 s).length → (gridOfT intOfS s).take k ++ [rowOfT intOfS ((parts 47 s).getD k ByteArray.empty)] = (gridOfT intOfS s).take (k + 1)) := Lib.hid fun k hk => grid_next hk
  have HGA : Hid ((gridOfT intOfS s).take (parts 47 s).length = gridOfT intOfS s) := Lib.hid grid_all
  have hgl := gridOfT_length intOfS s
  have HGL := Lib.hid hgl
  have htg := tot_gridOfT intOfS s
  have HISM : Hid (∀ A c w', GridS w' A (gridOfT intOfS s) → Calls Tryd.prog 19 #[.slice A (gridOfT intOfS s).length c] w' fun e w2 => e = .returned (.bool (isMat (gridOfT intOfS s))) ∧ w2 = w') := Lib.hid fun A c w' hg => impl_isMatrix A c (gridOfT intOfS s) (by omega) (fun k hk => by have := row_le_tot hk; omega) w' hg
  generalize parseM intOfS s = R at *
  generalize gridOfT intOfS s = G at *
  clear htot hgl htg hpw her hsh
  go_enter Tryd.func11, Tryd.ntmps11
  go_wp2_with fail
  refine HSP.out.mono ?_
  rintro e w2 ⟨gr, cr, rfl, ho, hb⟩
  generalize hps : parts 47 s = ps at *
  have hgr := (ho.lt gr rfl).2
  have HST := Lib.hid (StrsAt.of_owns ho rfl)
  have HB0 := Lib.hid hb
  clear ho hb HSP
  go_wp2
  go_loopw [4, 12] (fun v i wr => ∃ (k : Nat) (vs : List Value), k ≤ ps.length ∧ i = .int .i64 k ∧ wr.ownsRow w.heap.size 32 1 v (G.take k).length vs ∧ RowsOwn wr w.heap.size v.ownBlock vs (G.take k) ∧ StrsAt wr gr 0 ps ∧ gr < wr.heap.size ∧ v.ownBlock ≠ some gr ∧ Hid (∀ j, j < k → okRow intOfS (ps.getD j ByteArray.empty) = true) ∧ Below w.heap.size w wr) (fun _ i _ => ps.length - (intOf i).toNat)
  case atStart => exact ⟨0, [], Nat.zero_le _, rfl, by rw [List.take_zero]; exact ⟨rfl, .inl ⟨rfl, rfl⟩⟩, by rw [List.take_zero]; exact RowsOwn.nil _ _ _, HST.out, hgr, (fun h => by cases h), Lib.hid (fun j h => by omega), HB0.out⟩
  case round =>
    obtain ⟨k, vs, hk, rfl, hO, hR, hS, hgl, hne, hok, hbl⟩ := hrel
    obtain ⟨W0, rfl⟩ : ∃ W0 : World, W0 = wr := ⟨_, rfl⟩
    by_cases hlt : k < ps.length
    · have hc := hS k hlt
      rw [Nat.zero_add] at hc
      have HC := Lib.hid (HROW.out k hlt W0 hbl)
      have HBADK := Lib.hid (HBADR.out k hlt)
      have HGNK := Lib.hid (HGN.out k hlt)
      have HOKN : Hid (okRow intOfS (ps.getD k ByteArray.empty) = true → ∀ j, j < k + 1 → okRow intOfS (ps.getD j ByteArray.empty) = true) := Lib.hid fun h j hj => by
        by_cases e : j = k
        · subst e; exact h
        · exact hok.out j (by omega)
      have HO := Lib.hid hO
      have HR := Lib.hid hR
      have HS := Lib.hid hS
      have HNE := Lib.hid hne
      have HB := Lib.hid hbl
      have hwr := hbl.size
      have hGk : (G.take k).length = k := take_len HGL.out (by omega)
      clear hO hR hS hok hbl hne
      generalize ps.getD k ByteArray.empty = p at *
      go_wp2_with fail
      refine HC.out.mono ?_
      rintro e w4 ⟨u, rfl, hu, b4⟩
      have HB4 := Lib.hid b4
      have hs4 := b4.size
      have HB5 := Lib.hid (HB.out.trans (b4.mono hwr))
      clear b4
      cases hnb : okRow intOfS p with
      | false =>
        have hr := HBADK.out hnb
        subst hr
        clear hnb hu
        go_wp2
        go_ret2
        exact ⟨_, rfl, ownG_none _ _, HB5.out⟩
      | true =>
        have HNX := Lib.hid (HOKN.out hnb)
        have hU := hu hnb
        clear hu hnb
        generalize rowOfT intOfS p = X at *
        have HU := Lib.hid hU
        have HOK := Lib.hid (kept_below HO.out HB4.out)
        obtain ⟨A7, c7, rfl⟩ := slice_of_owns hU
        clear hU
        go_wp2_with (at_builtin; refine wpList_append_lies _ rfl (.tmp 23) (.tmp 25) 22 rfl w.heap.size 32 i0 (.slice none 0 0) 1 24 Tryd.underlying22 hi hz0 hz1 hz2 rfl (by decide) _ _ _ rfl (HOK.out.alloc _) ⟨w4.heap.size, 0, none⟩ 1 1 [.slice A7 X.length c7] rfl rfl (World.news_of_block (cs := #[.slice A7 X.length c7]) (t := 32) (fr := (0, 0)) (heap_alloc_new w4 _)) (by simp [Value.oneCell']) (by decide) (by rw [hGk]; unfold maxLen; omega) (by rw [hGk]; omega) (by simp; omega) (w4.heap.size + 1) (by simp) ?_; intro gg cap w6 ho6 hg6 hat6 hlt6; have hm6 := grid_more HO.out HR.out HB4.out hwr HU.out HS.out hgl HNE.out _ HGNK.out ho6 hg6 hat6; rw [hGk] at hm6; have HM := Lib.hid hm6; clear ho6 hg6 hat6 hm6)
        go_roundw
        case rel => exact ⟨k + 1, _, by omega, by go_num, HM.out.1, HM.out.2.1, HM.out.2.2.1, HM.out.2.2.2.1, HM.out.2.2.2.2.1, HNX, HM.out.2.2.2.2.2 _ rfl HB.out⟩
        case measure => simp [intOf]; omega
    · obtain rfl : k = ps.length := by omega
      have hR2 := HEND.out hok.out
      rw [HGA.out] at hO hR
      have HOG : Hid (OwnG W0 w.heap.size _ G) := Lib.hid ⟨vs, hO, hR⟩
      obtain ⟨A, c, rfl, hg⟩ := HOG.out.gridS
      have HC := Lib.hid (HISM.out A c W0 hg)
      have HB := Lib.hid hbl
      clear hO hR hS hok hbl hne hg
      go_wp2_with fail
      refine HC.out.mono ?_
      rintro e w3 ⟨rfl, hw⟩
      obtain rfl : W0 = w3 := hw.symm
      cases hm : isMat G with
      | true =>
        rw [hm, if_pos rfl] at hR2
        have HR2 := Lib.hid hR2
        clear hR2 hm
        go_wp2
        go_ret2
        rw [HR2.out]
        exact ⟨_, rfl, HOG.out, HB.out⟩
      | false =>
        rw [hm, if_neg (by decide)] at hR2
        have HR2 := Lib.hid hR2
        clear hR2 hm
        go_wp2
        go_ret2
        rw [HR2.out]
        exact ⟨_, rfl, ownG_none _ _, HB.out⟩

/-! ### At the laws' copies -/

theorem atImpl_parseMatrix (s : ByteArray) (hs : s.size ≤ 1048576) (w : World) (hpw : Pow w) (her : Errs w) (hsh : w.ShapedOpen Tryd.prog) : Calls Tryd.prog 11 #[.string s] w (ImplGB ((parseM intOfS s).getD []) (parseM intOfS s).isSome w) :=
  (impl_parseMatrix s hs w hpw her hsh).mono fun _ _ ⟨v, he, ho, hb⟩ => ⟨v, he, ho.res (sizeB_parse intOfS s), hb⟩
end Go.Proofs.YtljmghleiijajaaDoor
