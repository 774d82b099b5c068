/-
  The model's ParseShift: at every text it gives the shift that the plain words say, its words in new memory; nothing that was there before is changed.
-/
import Derived.Test.YtomaanpmjlgpfaaDoorParseImpl
import Derived.Test.YtomaanpmjlgpfaaDoorShiftText
import Derived.Test.YtomaanpmjlgpfaaDoorSplitSpec
import Derived.Test.YtomaanpmjlgpfaaDoorTexts
namespace Go.Proofs.YtomaanpmjlgpfaaDoor
open Go Go.RowKit

theorem strs_cellsO {w : World} {g o : Nat} {ps : List ByteArray} (h : StrsAt w g o ps) : ∀ j u, (ps.map Value.string)[j]? = some u → w.cell? ((⟨g, o, none⟩ : Addr).add j) = some u := by
  intro j u hu
  rw [List.getElem?_map] at hu
  obtain ⟨x, hx, rfl⟩ := Option.map_eq_some_iff.1 hu
  have hj := (List.getElem?_eq_some_iff.1 hx).1
  have := h j hj
  rw [show (⟨g, o, none⟩ : Addr).add j = ⟨g, o + j, none⟩ by unfold Addr.add; split <;> simp_all, this, List.getD_eq_getElem?_getD, hx]; rfl

set_option maxRecDepth 100000 in
set_option maxHeartbeats 3200000 in
theorem spec_parse (s p : ByteArray) (xs : List ByteArray) (hp : parts 32 s = p :: xs) (hs : s.size ≤ 1048576) (w : World) :
    Calls Tryd.prog 10 #[.string s] w (ParsedRow (outL (intOfS p) xs) (outX (intOfS p) xs) (goodR (intOfS p) xs) w) := by
  obtain ⟨i0, hi, hz0, hz1, hz2⟩ := info_parts infoStr
  obtain ⟨hlen, htot, _⟩ := parts_facts 32 s.size s (Nat.le_refl _)
  rw [hp] at hlen htot
  have hb := (Below.refl w.heap.size w).alloc (Nat.le_refl _) (.cells #[.int .i64 0, .slice none 0 0] 27)
  have h0 := heap_alloc_new w (.cells #[.int .i64 0, .slice none 0 0] 27)
  have hsp := spec_split 32 s hs (w.alloc (.cells #[.int .i64 0, .slice none 0 0] 27))
  unfold PartsPost at hsp
  rw [hp] at hsp
  have HSP := Lib.hid hsp
  have hpz : p.size ≤ 1048576 := by
    have : total (p :: xs) = p.size + total xs := by simp [total]
    omega
  have hxz : total xs ≤ 1048576 := by
    have : total (p :: xs) = p.size + total xs := by simp [total]
    omega
  have hxl : xs.length ≤ 1048576 := by simp at hlen; omega
  have HPN := Lib.hid (fun w' => spec_parseInt p (by omega) w')
  have HB := Lib.hid hb
  have HH := Lib.hid h0
  clear hsp hb h0 hlen htot hp
  go_enter Tryd.func10, Tryd.ntmps10
  go_wp2_with fail
  refine HSP.out.mono ?_
  rintro e w2 ⟨g, cap, rfl, ow, b2⟩
  rw [World.size_alloc] at ow b2
  have HO2 := Lib.hid ow
  have hg := ow.lt g rfl
  have hcap : xs.length + 1 ≤ cap := by
    rcases ow.2 with ⟨h', _⟩ | ⟨g', cap', cur, h', _, _, hnc, _⟩
    · simp at h'
    · simp only [Value.slice.injEq, Option.some.injEq, Addr.mk.injEq, and_true, true_and] at h'
      obtain ⟨rfl, rfl⟩ := h'
      simpa using hnc
  have c0 : w2.cell? ⟨g, 0, none⟩ = some (.string p) := by
    have := ow.cellAt 0 (by simp)
    simpa using this
  have HB2 := Lib.hid (HB.out.trans (b2.mono (by omega)))
  have HH2 := Lib.hid ((b2.block w.heap.size (by omega)).trans HH.out)
  have HP1 := Lib.hid (HPN.out w2)
  have hs2 : w.heap.size + 1 ≤ w2.heap.size := by have := b2.size; rw [World.size_alloc] at this; exact this
  clear ow b2
  go_wp2_with fail
  refine HP1.out.mono ?_
  rintro e w3 ⟨rfl, b3⟩
  have HO3 := Lib.hid (owns_below HO2.out b3)
  have HB3 := Lib.hid (below_after HB2.out b3)
  have HH3 := Lib.hid ((b3.block w.heap.size (by omega)).trans HH2.out)
  have hs3 : w2.heap.size ≤ w3.heap.size := b3.size
  clear b3 c0
  -- the two places of the tail
  obtain ⟨n, HN⟩ : ∃ n, Hid (numV (intOfS p) = n) := ⟨_, Lib.hid rfl⟩
  rw [HN.out]
  clear HP1 HSP HPN HO2 HB2 HH2 HB HH
  have b3a := (Below.refl w3.heap.size w3).alloc (Nat.le_refl _) (.cells #[] 9)
  have HM := Lib.hid (World.ownsRow_made (base := w3.heap.size) (e := 9) (size := 1) w3 #[] 0 (Nat.le_refl _) (by decide) rfl)
  have HBa := Lib.hid (HB3.out.trans (b3a.mono (by omega)))
  have HHa := Lib.hid ((heap_alloc_old w3 (.cells #[] 9) (by omega)).trans HH3.out)
  clear b3a
  by_cases hc1 : cap = 1
  · obtain rfl : xs = [] := List.eq_nil_of_length_eq_zero (by omega)
    subst hc1
    have HA5 : Hid (Below w.heap.size w ((w3.alloc (.cells #[] 9)).alloc (.cells #[.int .i64 n, .slice (some ⟨w3.heap.size, 0, none⟩) 0 0] 27))) := Lib.hid (HBa.out.alloc (by simp; omega) _)
    have h5 : ((w3.alloc (.cells #[] 9)).alloc (.cells #[.int .i64 n, .slice (some ⟨w3.heap.size, 0, none⟩) 0 0] 27)).heap[w.heap.size]? = some (.cells #[.int .i64 0, .slice none 0 0] 27) := (heap_alloc_old _ _ (by simp; omega)).trans HHa.out
    have HH5 := Lib.hid h5
    obtain ⟨d0, d1, d2⟩ := row_cells h5
    clear h5
    cases hb' : numB (intOfS p) with
    | false =>
      have HG : Hid (goodR (intOfS p) [] = false) := Lib.hid (by unfold goodR; rw [hb']; rfl)
      have HL : Hid (outL (intOfS p) [] = 0) := Lib.hid (by unfold outL; rw [HG.out]; rfl)
      have HX : Hid (outX (intOfS p) [] = []) := Lib.hid (by unfold outX; rw [HG.out]; rfl)
      rw [hb'] at *
      go_wp2_with (at_builtin; refine wpList_append_zero rfl (.tmp 18) (.tmp 20) 22 rfl 9 i0 Tryd.underlying22 hi w3.heap.size 0 0 (Nat.le_refl _) ⟨g, 0, none⟩ 0 rfl rfl ?_)
      refine bodyPost_ret (results_row_tmp rfl _ _ w.heap.size 27 #[.int .i64 0, .slice none 0 0] (0, 0) _ rfl (two_stores HH5.out) Tryd.underlying27 rfl (by kernel_rfl)) rfl ?_
      rw [HL.out, HX.out, HG.out]
      exact ⟨none, 0, rfl, fun h => by simp at h, ((HA5.out.setCell (p := ⟨w.heap.size, 0, none⟩) (Nat.le_refl _) _).setCell (p := ⟨w.heap.size, 1, none⟩) (Nat.le_refl _) _)⟩
    | true =>
      have HGn : Hid (goodR (intOfS p) [] = isShift n []) := Lib.hid (by unfold goodR; rw [hb', HN.out]; rfl)
      have HI := Lib.hid (spec_isShift n (some ⟨w3.heap.size, 0, none⟩) 0 [] (by simp) (fun k hk => by simp at hk) ((w3.alloc (.cells #[] 9)).alloc (.cells #[.int .i64 n, .slice (some ⟨w3.heap.size, 0, none⟩) 0 0] 27)) (.of (fun k hk => by simp at hk) (by simp; omega)))
      rw [hb'] at *
      go_wp2_with (at_builtin; refine wpList_append_zero rfl (.tmp 18) (.tmp 20) 22 rfl 9 i0 Tryd.underlying22 hi w3.heap.size 0 0 (Nat.le_refl _) ⟨g, 0, none⟩ 0 rfl rfl ?_)
      refine HI.out.mono ?_
      rintro e w6 ⟨rfl, b6⟩
      rw [World.size_alloc] at b6
      have HB6 := Lib.hid (HA5.out.trans (b6.mono (by simp; omega)))
      have h6 := (b6.block w.heap.size (by simp; omega)).trans HH5.out
      have HH6 := Lib.hid h6
      have h7 := (b6.block (w3.alloc (.cells #[] 9)).heap.size (by omega)).trans (heap_alloc_new (w3.alloc (.cells #[] 9)) (.cells #[.int .i64 n, .slice (some ⟨w3.heap.size, 0, none⟩) 0 0] 27))
      rw [World.size_alloc] at h7
      obtain ⟨p0, p1, p2⟩ := row_cells h6
      obtain ⟨q0, q1, _⟩ := row_cells h7
      clear d0 d1 d2 h6 h7 b6
      cases hs : isShift n [] with
      | false =>
        have HG : Hid (goodR (intOfS p) [] = false) := Lib.hid (HGn.out.trans hs)
        have HL : Hid (outL (intOfS p) [] = 0) := Lib.hid (by unfold outL; rw [HG.out]; rfl)
        have HX : Hid (outX (intOfS p) [] = []) := Lib.hid (by unfold outX; rw [HG.out]; rfl)
        clear hs
        go_wp2
        refine bodyPost_ret (results_row_tmp rfl _ _ w.heap.size 27 #[.int .i64 0, .slice none 0 0] (0, 0) _ rfl (two_stores HH6.out) Tryd.underlying27 rfl (by kernel_rfl)) rfl ?_
        rw [HL.out, HX.out, HG.out]
        exact ⟨none, 0, rfl, fun h => by simp at h, ((HB6.out.setCell (p := ⟨w.heap.size, 0, none⟩) (Nat.le_refl _) _).setCell (p := ⟨w.heap.size, 1, none⟩) (Nat.le_refl _) _)⟩
      | true =>
        have HG : Hid (goodR (intOfS p) [] = true) := Lib.hid (HGn.out.trans hs)
        have HL : Hid (outL (intOfS p) [] = n) := Lib.hid (by unfold outL; rw [if_pos HG.out, HN.out])
        have HX : Hid (outX (intOfS p) [] = []) := Lib.hid (by unfold outX; rw [if_pos HG.out])
        clear hs
        go_wp2
        refine bodyPost_ret (results_row_tmp rfl _ _ w.heap.size 27 #[.int .i64 n, .slice (some ⟨w3.heap.size, 0, none⟩) 0 0] (0, 0) _ rfl (two_stores HH6.out) Tryd.underlying27 rfl (by kernel_rfl)) rfl ?_
        rw [HL.out, HX.out, HG.out]
        refine ⟨some ⟨w3.heap.size, 0, none⟩, 0, rfl, fun h => by simp at h, ((HB6.out.setCell (p := ⟨w.heap.size, 0, none⟩) (Nat.le_refl _) _).setCell (p := ⟨w.heap.size, 1, none⟩) (Nat.le_refl _) _)⟩
  · have hc2 : 1 < cap := by omega
    have hne : ¬ (cap : Int) = 1 := by omega
    by_cases hx0 : xs.length = 0
    · obtain rfl : xs = [] := List.eq_nil_of_length_eq_zero hx0
      have HA5 : Hid (Below w.heap.size w ((w3.alloc (.cells #[] 9)).alloc (.cells #[.int .i64 n, .slice (some ⟨w3.heap.size, 0, none⟩) 0 0] 27))) := Lib.hid (HBa.out.alloc (by simp; omega) _)
      have h5 : ((w3.alloc (.cells #[] 9)).alloc (.cells #[.int .i64 n, .slice (some ⟨w3.heap.size, 0, none⟩) 0 0] 27)).heap[w.heap.size]? = some (.cells #[.int .i64 0, .slice none 0 0] 27) := (heap_alloc_old _ _ (by simp; omega)).trans HHa.out
      have HH5 := Lib.hid h5
      obtain ⟨d0, d1, d2⟩ := row_cells h5
      clear h5
      cases hb' : numB (intOfS p) with
      | false =>
        have HG : Hid (goodR (intOfS p) [] = false) := Lib.hid (by unfold goodR; rw [hb']; rfl)
        have HL : Hid (outL (intOfS p) [] = 0) := Lib.hid (by unfold outL; rw [HG.out]; rfl)
        have HX : Hid (outX (intOfS p) [] = []) := Lib.hid (by unfold outX; rw [HG.out]; rfl)
        rw [hb'] at *
        go_wp2_with (at_builtin; refine wpList_append_zero rfl (.tmp 18) (.tmp 20) 22 rfl 9 i0 Tryd.underlying22 hi w3.heap.size 0 0 (Nat.le_refl _) ⟨g, 1, none⟩ (cap - 1) rfl rfl ?_)
        refine bodyPost_ret (results_row_tmp rfl _ _ w.heap.size 27 #[.int .i64 0, .slice none 0 0] (0, 0) _ rfl (two_stores HH5.out) Tryd.underlying27 rfl (by kernel_rfl)) rfl ?_
        rw [HL.out, HX.out, HG.out]
        exact ⟨none, 0, rfl, fun h => by simp at h, ((HA5.out.setCell (p := ⟨w.heap.size, 0, none⟩) (Nat.le_refl _) _).setCell (p := ⟨w.heap.size, 1, none⟩) (Nat.le_refl _) _)⟩
      | true =>
        have HGn : Hid (goodR (intOfS p) [] = isShift n []) := Lib.hid (by unfold goodR; rw [hb', HN.out]; rfl)
        have HI := Lib.hid (spec_isShift n (some ⟨w3.heap.size, 0, none⟩) 0 [] (by simp) (fun k hk => by simp at hk) ((w3.alloc (.cells #[] 9)).alloc (.cells #[.int .i64 n, .slice (some ⟨w3.heap.size, 0, none⟩) 0 0] 27)) (.of (fun k hk => by simp at hk) (by simp; omega)))
        rw [hb'] at *
        go_wp2_with (at_builtin; refine wpList_append_zero rfl (.tmp 18) (.tmp 20) 22 rfl 9 i0 Tryd.underlying22 hi w3.heap.size 0 0 (Nat.le_refl _) ⟨g, 1, none⟩ (cap - 1) rfl rfl ?_)
        refine HI.out.mono ?_
        rintro e w6 ⟨rfl, b6⟩
        rw [World.size_alloc] at b6
        have HB6 := Lib.hid (HA5.out.trans (b6.mono (by simp; omega)))
        have h6 := (b6.block w.heap.size (by simp; omega)).trans HH5.out
        have HH6 := Lib.hid h6
        have h7 := (b6.block (w3.alloc (.cells #[] 9)).heap.size (by omega)).trans (heap_alloc_new (w3.alloc (.cells #[] 9)) (.cells #[.int .i64 n, .slice (some ⟨w3.heap.size, 0, none⟩) 0 0] 27))
        rw [World.size_alloc] at h7
        obtain ⟨p0, p1, p2⟩ := row_cells h6
        obtain ⟨q0, q1, _⟩ := row_cells h7
        clear d0 d1 d2 h6 h7 b6
        cases hs : isShift n [] with
        | false =>
          have HG : Hid (goodR (intOfS p) [] = false) := Lib.hid (HGn.out.trans hs)
          have HL : Hid (outL (intOfS p) [] = 0) := Lib.hid (by unfold outL; rw [HG.out]; rfl)
          have HX : Hid (outX (intOfS p) [] = []) := Lib.hid (by unfold outX; rw [HG.out]; rfl)
          clear hs
          go_wp2
          refine bodyPost_ret (results_row_tmp rfl _ _ w.heap.size 27 #[.int .i64 0, .slice none 0 0] (0, 0) _ rfl (two_stores HH6.out) Tryd.underlying27 rfl (by kernel_rfl)) rfl ?_
          rw [HL.out, HX.out, HG.out]
          exact ⟨none, 0, rfl, fun h => by simp at h, ((HB6.out.setCell (p := ⟨w.heap.size, 0, none⟩) (Nat.le_refl _) _).setCell (p := ⟨w.heap.size, 1, none⟩) (Nat.le_refl _) _)⟩
        | true =>
          have HG : Hid (goodR (intOfS p) [] = true) := Lib.hid (HGn.out.trans hs)
          have HL : Hid (outL (intOfS p) [] = n) := Lib.hid (by unfold outL; rw [if_pos HG.out, HN.out])
          have HX : Hid (outX (intOfS p) [] = []) := Lib.hid (by unfold outX; rw [if_pos HG.out])
          clear hs
          go_wp2
          refine bodyPost_ret (results_row_tmp rfl _ _ w.heap.size 27 #[.int .i64 n, .slice (some ⟨w3.heap.size, 0, none⟩) 0 0] (0, 0) _ rfl (two_stores HH6.out) Tryd.underlying27 rfl (by kernel_rfl)) rfl ?_
          rw [HL.out, HX.out, HG.out]
          refine ⟨some ⟨w3.heap.size, 0, none⟩, 0, rfl, fun h => by simp at h, ((HB6.out.setCell (p := ⟨w.heap.size, 0, none⟩) (Nat.le_refl _) _).setCell (p := ⟨w.heap.size, 1, none⟩) (Nat.le_refl _) _)⟩
    · have HT3 : Hid (StrsAt (w3.alloc (.cells #[] 9)) g 1 xs) := Lib.hid (fun k hk => by have h1 := (HO3.out.alloc (.cells #[] 9)).cellAt (1 + k) (by simp; omega); rw [h1]; simp [Nat.add_comm 1 k, List.getD, hk])
      have u1 := strs_cellsO HT3.out
      have u2 := strs_one xs
      cases hb' : numB (intOfS p) with
      | false =>
        have HG : Hid (goodR (intOfS p) xs = false) := Lib.hid (by unfold goodR; rw [hb']; rfl)
        have HL : Hid (outL (intOfS p) xs = 0) := Lib.hid (by unfold outL; rw [HG.out]; rfl)
        have HX : Hid (outX (intOfS p) xs = []) := Lib.hid (by unfold outX; rw [HG.out]; rfl)
        rw [hb'] at *
        go_wp2_with (at_builtin; refine wpList_append_lies _ rfl (.tmp 18) (.tmp 20) 22 rfl w3.heap.size 9 i0 (.string ByteArray.empty) 1 16 Tryd.underlying22 hi hz0 hz1 hz2 rfl (by decide) _ _ _ rfl HM.out ⟨g, 1, none⟩ xs.length (cap - 1) (xs.map Value.string) rfl (by simp) u1 u2 (by omega) (by unfold maxLen; omega) (by omega) (by simp) (w3.heap.size + 1) (by simp) ?_; intro gg c2 w4 ho4 hg4 hat4 hlt4; rw [Nat.zero_add, List.nil_append] at ho4; rw [Nat.zero_add]; have HO4 := Lib.hid ho4; have HB4 := Lib.hid (HBa.out.grown hg4 (by simp; omega) (fun q hq => by have h1 : w3.heap.size = q := Option.some.inj hq; omega)); have HH4 := Lib.hid ((hg4.block w.heap.size (by simp; omega) (by intro h1; have h2 : w.heap.size = w3.heap.size := Option.some.inj h1; omega)).trans HHa.out); have hs4 : w3.heap.size + 1 ≤ w4.heap.size := (by have := hg4.size; simpa using this); clear ho4 hg4 hat4; have HA5 : Hid (Below w.heap.size w (w4.alloc (.cells #[.int .i64 n, .slice (some ⟨gg, 0, none⟩) xs.length c2] 27))) := Lib.hid (HB4.out.alloc (by omega) _); have h5 : (w4.alloc (.cells #[.int .i64 n, .slice (some ⟨gg, 0, none⟩) xs.length c2] 27)).heap[w.heap.size]? = some (.cells #[.int .i64 0, .slice none 0 0] 27) := (heap_alloc_old _ _ (by omega)).trans HH4.out; have HH5 := Lib.hid h5; obtain ⟨d0, d1, d2⟩ := row_cells h5; clear h5)
        refine bodyPost_ret (results_row_tmp rfl _ _ w.heap.size 27 #[.int .i64 0, .slice none 0 0] (0, 0) _ rfl (two_stores HH5.out) Tryd.underlying27 rfl (by kernel_rfl)) rfl ?_
        rw [HL.out, HX.out, HG.out]
        exact ⟨none, 0, rfl, fun h => by simp at h, ((HA5.out.setCell (p := ⟨w.heap.size, 0, none⟩) (Nat.le_refl _) _).setCell (p := ⟨w.heap.size, 1, none⟩) (Nat.le_refl _) _)⟩
      | true =>
        have HGn : Hid (goodR (intOfS p) xs = isShift n xs) := Lib.hid (by unfold goodR; rw [hb', HN.out]; rfl)
        rw [hb'] at *
        go_wp2_with (at_builtin; refine wpList_append_lies _ rfl (.tmp 18) (.tmp 20) 22 rfl w3.heap.size 9 i0 (.string ByteArray.empty) 1 16 Tryd.underlying22 hi hz0 hz1 hz2 rfl (by decide) _ _ _ rfl HM.out ⟨g, 1, none⟩ xs.length (cap - 1) (xs.map Value.string) rfl (by simp) u1 u2 (by omega) (by unfold maxLen; omega) (by omega) (by simp) (w3.heap.size + 1) (by simp) ?_; intro gg c2 w4 ho4 hg4 hat4 hlt4; rw [Nat.zero_add, List.nil_append] at ho4; rw [Nat.zero_add]; have HO4 := Lib.hid ho4; have HB4 := Lib.hid (HBa.out.grown hg4 (by simp; omega) (fun q hq => by have h1 : w3.heap.size = q := Option.some.inj hq; omega)); have HH4 := Lib.hid ((hg4.block w.heap.size (by simp; omega) (by intro h1; have h2 : w.heap.size = w3.heap.size := Option.some.inj h1; omega)).trans HHa.out); have hs4 : w3.heap.size + 1 ≤ w4.heap.size := (by have := hg4.size; simpa using this); clear ho4 hg4 hat4; have HA5 : Hid (Below w.heap.size w (w4.alloc (.cells #[.int .i64 n, .slice (some ⟨gg, 0, none⟩) xs.length c2] 27))) := Lib.hid (HB4.out.alloc (by omega) _); have h5 : (w4.alloc (.cells #[.int .i64 n, .slice (some ⟨gg, 0, none⟩) xs.length c2] 27)).heap[w.heap.size]? = some (.cells #[.int .i64 0, .slice none 0 0] 27) := (heap_alloc_old _ _ (by omega)).trans HH4.out; have HH5 := Lib.hid h5; obtain ⟨d0, d1, d2⟩ := row_cells h5; clear h5; have HT5 : Hid (StrsAt (w4.alloc (.cells #[.int .i64 n, .slice (some ⟨gg, 0, none⟩) xs.length c2] 27)) gg 0 xs ∧ gg < (w4.alloc (.cells #[.int .i64 n, .slice (some ⟨gg, 0, none⟩) xs.length c2] 27)).heap.size) := Lib.hid ⟨StrsAt.of_owns (HO4.out.alloc _) rfl, ((HO4.out.alloc _).lt gg rfl).2⟩; have HI := Lib.hid (spec_isShift n (some ⟨gg, 0, none⟩) c2 xs hxl (fun k hk => by have := size_le_total hk; omega) (w4.alloc (.cells #[.int .i64 n, .slice (some ⟨gg, 0, none⟩) xs.length c2] 27)) (.of HT5.out.1 HT5.out.2)))
        refine HI.out.mono ?_
        rintro e w6 ⟨rfl, b6⟩
        rw [World.size_alloc] at b6
        have HB6 := Lib.hid (HA5.out.trans (b6.mono (by omega)))
        have h6 := (b6.block w.heap.size (by omega)).trans HH5.out
        have HH6 := Lib.hid h6
        have h7 := (b6.block w4.heap.size (by omega)).trans (heap_alloc_new w4 (.cells #[.int .i64 n, .slice (some ⟨gg, 0, none⟩) xs.length c2] 27))
        have HO6 := Lib.hid (owns_below (HO4.out.alloc (.cells #[.int .i64 n, .slice (some ⟨gg, 0, none⟩) xs.length c2] 27)) (by rw [World.size_alloc]; exact b6))
        obtain ⟨p0, p1, p2⟩ := row_cells h6
        obtain ⟨q0, q1, _⟩ := row_cells h7
        clear d0 d1 d2 h6 h7 b6
        cases hs : isShift n xs with
        | false =>
          have HG : Hid (goodR (intOfS p) xs = false) := Lib.hid (HGn.out.trans hs)
          have HL : Hid (outL (intOfS p) xs = 0) := Lib.hid (by unfold outL; rw [HG.out]; rfl)
          have HX : Hid (outX (intOfS p) xs = []) := Lib.hid (by unfold outX; rw [HG.out]; rfl)
          clear hs
          go_wp2
          refine bodyPost_ret (results_row_tmp rfl _ _ w.heap.size 27 #[.int .i64 0, .slice none 0 0] (0, 0) _ rfl (two_stores HH6.out) Tryd.underlying27 rfl (by kernel_rfl)) rfl ?_
          rw [HL.out, HX.out, HG.out]
          exact ⟨none, 0, rfl, fun h => by simp at h, ((HB6.out.setCell (p := ⟨w.heap.size, 0, none⟩) (Nat.le_refl _) _).setCell (p := ⟨w.heap.size, 1, none⟩) (Nat.le_refl _) _)⟩
        | true =>
          have HG : Hid (goodR (intOfS p) xs = true) := Lib.hid (HGn.out.trans hs)
          have HL : Hid (outL (intOfS p) xs = n) := Lib.hid (by unfold outL; rw [if_pos HG.out, HN.out])
          have HX : Hid (outX (intOfS p) xs = xs) := Lib.hid (by unfold outX; rw [if_pos HG.out])
          clear hs
          go_wp2
          refine bodyPost_ret (results_row_tmp rfl _ _ w.heap.size 27 #[.int .i64 n, .slice (some ⟨gg, 0, none⟩) xs.length c2] (0, 0) _ rfl (two_stores HH6.out) Tryd.underlying27 rfl (by kernel_rfl)) rfl ?_
          rw [HL.out, HX.out, HG.out]
          refine ⟨some ⟨gg, 0, none⟩, c2, rfl, fun _ => ⟨gg, rfl, ?_⟩, ((HB6.out.setCell (p := ⟨w.heap.size, 0, none⟩) (Nat.le_refl _) _).setCell (p := ⟨w.heap.size, 1, none⟩) (Nat.le_refl _) _)⟩
          have ho := ownsRow_setCell_below (ownsRow_setCell_below HO6.out (a := ⟨w.heap.size, 0, none⟩) (by show w.heap.size < _; omega) (.int .i64 n)) (a := ⟨w.heap.size, 1, none⟩) (by show w.heap.size < _; omega) (.slice (some ⟨gg, 0, none⟩) xs.length c2)
          exact ⟨StrsAt.of_owns ho rfl, (ho.lt gg rfl).2⟩
end Go.Proofs.YtomaanpmjlgpfaaDoor
