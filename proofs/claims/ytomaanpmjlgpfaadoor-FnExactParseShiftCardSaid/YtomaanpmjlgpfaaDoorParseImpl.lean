/-
  The program's ParseShift: at every text it gives the shift that the plain words say, its words in new memory; nothing that was there before is changed.
-/
import Derived.Test.YtomaanpmjlgpfaaDoorParseNum
import Derived.Test.YtomaanpmjlgpfaaDoorShiftIs
import Derived.Test.YtomaanpmjlgpfaaDoorShiftLaw
import Derived.Test.YtomaanpmjlgpfaaDoorSplitImpl
import Derived.Test.YtomaanpmjlgpfaaDoorParseSays
import Derived.Test.YtomaanpmjlgpfaaDoorImplRead
import Derived.Laws.ResultCell
namespace Go.Proofs.YtomaanpmjlgpfaaDoor
open Go Go.RowKit

theorem two_stores {W : World} {h : Nat} {x y x' y' : Value} {t : TypeId} (hk : W.heap[h]? = some (.cells #[x, y] t (0, 0))) :
    ((W.setCell ⟨h, 0, none⟩ x').setCell ⟨h, 1, none⟩ y').heap[h]? = some (.cells #[x', y'] t (0, 0)) := by
  have m2 := heap_setCell_same W h 0 _ _ x' hk
  have m3 := heap_setCell_same _ h 1 _ _ y' m2
  rw [m3]; rfl
theorem row_cells {W : World} {h : Nat} {x y : Value} {t : TypeId} (hk : W.heap[h]? = some (.cells #[x, y] t (0, 0))) :
    W.cell? ⟨h, 0, none⟩ = some x ∧ W.cell? ⟨h, 1, none⟩ = some y ∧ ∀ j, W.frozen? ⟨h, j, none⟩ = false :=
  ⟨by simp [World.cell?, hk], by simp [World.cell?, hk], fun j => by simp [World.frozen?, hk]⟩

set_option maxRecDepth 100000 in
set_option maxHeartbeats 3200000 in
theorem impl_parse (s p : ByteArray) (xs : List ByteArray) (hp : parts 32 s = p :: xs) (hs : s.size ≤ 1048576) (w : World) (hsh : w.ShapedOpen Tryd.prog) (ht : Pow w) (he : Errs w) :
    Calls Tryd.prog 11 #[.string s] w (ParsedTail (outL (numOfS p) xs) (outX (numOfS p) xs) (goodR (numOfS p) xs) w) := by
  obtain ⟨hlen, htot, _⟩ := parts_facts 32 s.size s (Nat.le_refl _)
  rw [hp] at hlen htot
  have hb := (Below.refl w.heap.size w).alloc (Nat.le_refl _) (.cells #[.int .i64 0, .slice none 0 0] 27)
  have h0 := heap_alloc_new w (.cells #[.int .i64 0, .slice none 0 0] 27)
  have hsp := impl_split 32 s hs (w.alloc (.cells #[.int .i64 0, .slice none 0 0] 27)) (shaped_below hsh hb)
  unfold PartsPost at hsp
  rw [hp] at hsp
  have HSP := Lib.hid hsp
  have hpz : p.size ≤ 1048576 := by
    have : total (p :: xs) = p.size + total xs := by simp [total]
    omega
  have hxz : total xs ≤ 1048576 := by
    have : total (p :: xs) = p.size + total xs := by simp [total]
    omega
  have hxl : xs.length ≤ 1048576 := by simp at hlen; omega
  have HPN := Lib.hid (fun w' (h : Below w.heap.size w w') => impl_parseNumber p (by omega) w' (ht.below h) (he.below h))
  have HB := Lib.hid hb
  have HH := Lib.hid h0
  clear hsp hb h0 hsh ht he hlen htot hp
  go_enter Tryd.func11, Tryd.ntmps11
  go_wp2_with fail
  refine HSP.out.mono ?_
  rintro e w2 ⟨g, cap, rfl, ow, b2⟩
  rw [World.size_alloc] at ow b2
  have HO2 := Lib.hid ow
  have hg := ow.lt g rfl
  have hcap : xs.length + 1 ≤ cap := by
    rcases ow.2 with ⟨h', _⟩ | ⟨g', cap', cur, h', _, _, hnc, _⟩
    · simp at h'
    · simp only [Value.slice.injEq, Option.some.injEq, Addr.mk.injEq, and_true, true_and] at h'
      obtain ⟨rfl, rfl⟩ := h'
      simpa using hnc
  have c0 : w2.cell? ⟨g, 0, none⟩ = some (.string p) := by
    have := ow.cellAt 0 (by simp)
    simpa using this
  have HB2 := Lib.hid (HB.out.trans (b2.mono (by omega)))
  have HH2 := Lib.hid ((b2.block w.heap.size (by omega)).trans HH.out)
  have HP1 := Lib.hid (HPN.out w2 HB2.out)
  have hs2 : w.heap.size + 1 ≤ w2.heap.size := by have := b2.size; rw [World.size_alloc] at this; exact this
  clear ow b2
  go_wp2_with fail
  refine HP1.out.mono ?_
  rintro e w3 ⟨rfl, b3⟩
  have HO3 := Lib.hid (owns_below HO2.out b3)
  have HB3 := Lib.hid (below_after HB2.out b3)
  have HH3 := Lib.hid ((b3.block w.heap.size (by omega)).trans HH2.out)
  have hs3 : w2.heap.size ≤ w3.heap.size := b3.size
  clear b3 c0
  -- the two places of the tail
  obtain ⟨n, HN⟩ : ∃ n, Hid (numV (numOfS p) = n) := ⟨_, Lib.hid rfl⟩
  rw [HN.out]
  clear HP1 HSP HPN HO2 HB2 HH2 HB HH
  by_cases hc1 : cap = 1
  · obtain rfl : xs = [] := List.eq_nil_of_length_eq_zero (by omega)
    subst hc1
    have HA4 : Hid (Below w.heap.size w (w3.alloc (.cells #[.int .i64 n, .slice (some ⟨g, 0, none⟩) 0 (0)] 27))) := Lib.hid (HB3.out.alloc (by omega) _)
    have h4 : (w3.alloc (.cells #[.int .i64 n, .slice (some ⟨g, 0, none⟩) 0 (0)] 27)).heap[w.heap.size]? = some (.cells #[.int .i64 0, .slice none 0 0] 27) := (heap_alloc_old _ _ (by omega)).trans HH3.out
    have HH4 := Lib.hid h4
    obtain ⟨d0, d1, d2⟩ := row_cells h4
    clear h4
    cases hb' : numB (numOfS p) with
    | false =>
      have HG : Hid (goodR (numOfS p) [] = false) := Lib.hid (by unfold goodR; rw [hb']; rfl)
      have HL : Hid (outL (numOfS p) [] = 0) := Lib.hid (by unfold outL; rw [HG.out]; rfl)
      have HX : Hid (outX (numOfS p) [] = []) := Lib.hid (by unfold outX; rw [HG.out]; rfl)
      rw [hb'] at *
      go_wp2
      refine bodyPost_ret (results_row_tmp rfl _ _ w.heap.size 27 #[.int .i64 0, .slice none 0 0] (0, 0) _ rfl (two_stores HH4.out) Tryd.underlying27 rfl (by kernel_rfl)) rfl ?_
      rw [HL.out, HX.out, HG.out]
      exact ⟨none, 0, rfl, fun h => by simp at h, ((HA4.out.setCell (p := ⟨w.heap.size, 0, none⟩) (Nat.le_refl _) _).setCell (p := ⟨w.heap.size, 1, none⟩) (Nat.le_refl _) _)⟩
    | true =>
      have HGn : Hid (goodR (numOfS p) [] = isShift n []) := Lib.hid (by unfold goodR; rw [hb', HN.out]; rfl)
      have HI := Lib.hid (impl_isShiftO n g 0 (0) [] (by simp) (fun k hk => by simp at hk) (w3.alloc (.cells #[.int .i64 n, .slice (some ⟨g, 0, none⟩) 0 (0)] 27)) (fun k hk => by simp at hk) (by have := hg.2; simp; omega))
      rw [hb'] at *
      go_wp2_with fail
      refine HI.out.mono ?_
      rintro e w5 ⟨rfl, b5⟩
      rw [World.size_alloc] at b5
      have HB5 := Lib.hid (HA4.out.trans (b5.mono (by omega)))
      have h5 := (b5.block w.heap.size (by omega)).trans HH4.out
      have HH5 := Lib.hid h5
      have h6 := (b5.block w3.heap.size (by omega)).trans (heap_alloc_new w3 (.cells #[.int .i64 n, .slice (some ⟨g, 0, none⟩) 0 (0)] 27))
      obtain ⟨p0, p1, p2⟩ := row_cells h5
      obtain ⟨q0, q1, _⟩ := row_cells h6
      clear d0 d1 d2 h5 h6 b5
      cases hs : isShift n [] with
      | false =>
        have HG : Hid (goodR (numOfS p) [] = false) := Lib.hid (HGn.out.trans hs)
        have HL : Hid (outL (numOfS p) [] = 0) := Lib.hid (by unfold outL; rw [HG.out]; rfl)
        have HX : Hid (outX (numOfS p) [] = []) := Lib.hid (by unfold outX; rw [HG.out]; rfl)
        clear hs
        go_wp2
        refine bodyPost_ret (results_row_tmp rfl _ _ w.heap.size 27 #[.int .i64 0, .slice none 0 0] (0, 0) _ rfl (two_stores HH5.out) Tryd.underlying27 rfl (by kernel_rfl)) rfl ?_
        rw [HL.out, HX.out, HG.out]
        exact ⟨none, 0, rfl, fun h => by simp at h, ((HB5.out.setCell (p := ⟨w.heap.size, 0, none⟩) (Nat.le_refl _) _).setCell (p := ⟨w.heap.size, 1, none⟩) (Nat.le_refl _) _)⟩
      | true =>
        have HG : Hid (goodR (numOfS p) [] = true) := Lib.hid (HGn.out.trans hs)
        have HL : Hid (outL (numOfS p) [] = n) := Lib.hid (by unfold outL; rw [if_pos HG.out, HN.out])
        have HX : Hid (outX (numOfS p) [] = []) := Lib.hid (by unfold outX; rw [if_pos HG.out])
        clear hs
        go_wp2
        refine bodyPost_ret (results_row_tmp rfl _ _ w.heap.size 27 #[.int .i64 n, .slice (some ⟨g, 0, none⟩) 0 (0)] (0, 0) _ rfl (two_stores HH5.out) Tryd.underlying27 rfl (by kernel_rfl)) rfl ?_
        rw [HL.out, HX.out, HG.out]
        refine ⟨some ⟨g, 0, none⟩, 0, rfl, fun h => by simp at h, ((HB5.out.setCell (p := ⟨w.heap.size, 0, none⟩) (Nat.le_refl _) _).setCell (p := ⟨w.heap.size, 1, none⟩) (Nat.le_refl _) _)⟩
  · have hc2 : 1 < cap := by omega
    have hne : ¬ (cap : Int) = 1 := by omega
    have HA4 : Hid (Below w.heap.size w (w3.alloc (.cells #[.int .i64 n, .slice (some ⟨g, 1, none⟩) xs.length (cap - 1)] 27))) := Lib.hid (HB3.out.alloc (by omega) _)
    have h4 : (w3.alloc (.cells #[.int .i64 n, .slice (some ⟨g, 1, none⟩) xs.length (cap - 1)] 27)).heap[w.heap.size]? = some (.cells #[.int .i64 0, .slice none 0 0] 27) := (heap_alloc_old _ _ (by omega)).trans HH3.out
    have HH4 := Lib.hid h4
    obtain ⟨d0, d1, d2⟩ := row_cells h4
    clear h4
    cases hb' : numB (numOfS p) with
    | false =>
      have HG : Hid (goodR (numOfS p) xs = false) := Lib.hid (by unfold goodR; rw [hb']; rfl)
      have HL : Hid (outL (numOfS p) xs = 0) := Lib.hid (by unfold outL; rw [HG.out]; rfl)
      have HX : Hid (outX (numOfS p) xs = []) := Lib.hid (by unfold outX; rw [HG.out]; rfl)
      rw [hb'] at *
      go_wp2
      refine bodyPost_ret (results_row_tmp rfl _ _ w.heap.size 27 #[.int .i64 0, .slice none 0 0] (0, 0) _ rfl (two_stores HH4.out) Tryd.underlying27 rfl (by kernel_rfl)) rfl ?_
      rw [HL.out, HX.out, HG.out]
      exact ⟨none, 0, rfl, fun h => by simp at h, ((HA4.out.setCell (p := ⟨w.heap.size, 0, none⟩) (Nat.le_refl _) _).setCell (p := ⟨w.heap.size, 1, none⟩) (Nat.le_refl _) _)⟩
    | true =>
      have HT4 : Hid (StrsAt (w3.alloc (.cells #[.int .i64 n, .slice (some ⟨g, 1, none⟩) xs.length (cap - 1)] 27)) g 1 xs) := Lib.hid (fun k hk => by have h1 := (HO3.out.alloc (.cells #[.int .i64 n, .slice (some ⟨g, 1, none⟩) xs.length (cap - 1)] 27)).cellAt (1 + k) (by simp; omega); rw [h1]; simp [Nat.add_comm 1 k, List.getD, hk])
      have HGn : Hid (goodR (numOfS p) xs = isShift n xs) := Lib.hid (by unfold goodR; rw [hb', HN.out]; rfl)
      have HI := Lib.hid (impl_isShiftO n g 1 (cap - 1) xs hxl (fun k hk => by have := size_le_total hk; omega) (w3.alloc (.cells #[.int .i64 n, .slice (some ⟨g, 1, none⟩) xs.length (cap - 1)] 27)) HT4.out (by have := hg.2; simp; omega))
      rw [hb'] at *
      go_wp2_with fail
      refine HI.out.mono ?_
      rintro e w5 ⟨rfl, b5⟩
      rw [World.size_alloc] at b5
      have HB5 := Lib.hid (HA4.out.trans (b5.mono (by omega)))
      have h5 := (b5.block w.heap.size (by omega)).trans HH4.out
      have HH5 := Lib.hid h5
      have h6 := (b5.block w3.heap.size (by omega)).trans (heap_alloc_new w3 (.cells #[.int .i64 n, .slice (some ⟨g, 1, none⟩) xs.length (cap - 1)] 27))
      have HO5 := Lib.hid (owns_below (HO3.out.alloc (.cells #[.int .i64 n, .slice (some ⟨g, 1, none⟩) xs.length (cap - 1)] 27)) (by rw [World.size_alloc]; exact b5))
      obtain ⟨p0, p1, p2⟩ := row_cells h5
      obtain ⟨q0, q1, _⟩ := row_cells h6
      clear d0 d1 d2 h5 h6 b5
      cases hs : isShift n xs with
      | false =>
        have HG : Hid (goodR (numOfS p) xs = false) := Lib.hid (HGn.out.trans hs)
        have HL : Hid (outL (numOfS p) xs = 0) := Lib.hid (by unfold outL; rw [HG.out]; rfl)
        have HX : Hid (outX (numOfS p) xs = []) := Lib.hid (by unfold outX; rw [HG.out]; rfl)
        clear hs
        go_wp2
        refine bodyPost_ret (results_row_tmp rfl _ _ w.heap.size 27 #[.int .i64 0, .slice none 0 0] (0, 0) _ rfl (two_stores HH5.out) Tryd.underlying27 rfl (by kernel_rfl)) rfl ?_
        rw [HL.out, HX.out, HG.out]
        exact ⟨none, 0, rfl, fun h => by simp at h, ((HB5.out.setCell (p := ⟨w.heap.size, 0, none⟩) (Nat.le_refl _) _).setCell (p := ⟨w.heap.size, 1, none⟩) (Nat.le_refl _) _)⟩
      | true =>
        have HG : Hid (goodR (numOfS p) xs = true) := Lib.hid (HGn.out.trans hs)
        have HL : Hid (outL (numOfS p) xs = n) := Lib.hid (by unfold outL; rw [if_pos HG.out, HN.out])
        have HX : Hid (outX (numOfS p) xs = xs) := Lib.hid (by unfold outX; rw [if_pos HG.out])
        clear hs
        go_wp2
        refine bodyPost_ret (results_row_tmp rfl _ _ w.heap.size 27 #[.int .i64 n, .slice (some ⟨g, 1, none⟩) xs.length (cap - 1)] (0, 0) _ rfl (two_stores HH5.out) Tryd.underlying27 rfl (by kernel_rfl)) rfl ?_
        rw [HL.out, HX.out, HG.out]
        refine ⟨some ⟨g, 1, none⟩, cap - 1, rfl, fun _ => ⟨g, p, cap, rfl, ?_⟩, ((HB5.out.setCell (p := ⟨w.heap.size, 0, none⟩) (Nat.le_refl _) _).setCell (p := ⟨w.heap.size, 1, none⟩) (Nat.le_refl _) _)⟩
        exact World.ownsRow.mono (ownsRow_setCell_below (ownsRow_setCell_below HO5.out (a := ⟨w.heap.size, 0, none⟩) (by show w.heap.size < _; omega) _) (a := ⟨w.heap.size, 1, none⟩) (by show w.heap.size < _; omega) _) (by omega)
end Go.Proofs.YtomaanpmjlgpfaaDoor
