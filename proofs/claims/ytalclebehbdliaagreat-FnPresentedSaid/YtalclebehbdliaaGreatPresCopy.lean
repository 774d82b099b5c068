/-
  The model's copy of a shift: its words in new memory; nothing that was there before is changed.
-/
import Derived.Test.YtalclebehbdliaaGreatBaseTexts
import Derived.Deep.RegionHeld3
namespace Go.Proofs.YtalclebehbdliaaGreat
open Go Go.RowKit

def CopySh (L : Int) (ps : List ByteArray) (w : World) (e : Ending) (w' : World) : Prop := ∃ g c, e = .returned (.agg #[.int .i64 L, .slice (some ⟨g, 0, none⟩) ps.length c]) ∧ w'.ownsRow w.heap.size 9 1 (.slice (some ⟨g, 0, none⟩) ps.length c) ps.length (ps.map Value.string) ∧ Below w.heap.size w w'

set_option maxRecDepth 100000 in
set_option maxHeartbeats 1600000 in
theorem spec_l3Copy (L : Int) (G : Option Addr) (c : Nat) (ps : List ByteArray) (hl : ps.length ≤ 1048576) (w : World) (hs : StrsG w G ps) :
    Calls Tryz.prog 58 #[.agg #[.int .i64 L, .slice G ps.length c]] w (CopySh L ps w) := by
  obtain ⟨i0, hi, hz0, hz1, hz2⟩ := info_parts infoStr
  have HS := Lib.hid (fun w' (h : Below w.heap.size w w') => hs.below h)
  clear hs
  go_enter Tryz.func58, Tryz.ntmps58
  go_wp2
  obtain ⟨Wb, hWb⟩ : ∃ Wb, (w.alloc (.cells #[.int .i64 L, .slice G ps.length c] 26)).alloc (.cells #[.int .i64 0, .slice none 0 0] 26) = Wb := ⟨_, rfl⟩
  have sb : Wb.heap.size = w.heap.size + 1 + 1 := by rw [← hWb]; simp
  have xb : BoxAt Wb w.heap.size L (.slice G ps.length c) := by
    rw [← hWb]
    exact (boxAt_new w L _ 26).below ((Below.refl (w.heap.size + 1) _).alloc (by simp) _) (by omega)
  have rb : Wb.heap[w.heap.size + 1]? = some (.cells #[.int .i64 0, .slice none 0 0] 26) := by
    rw [← hWb]
    have h := heap_alloc_new (w.alloc (.cells #[.int .i64 L, .slice G ps.length c] 26)) (.cells #[.int .i64 0, .slice none 0 0] 26)
    rw [World.size_alloc] at h; exact h
  have bb : Below w.heap.size w Wb := by rw [← hWb]; exact ((Below.refl _ _).alloc (Nat.le_refl _) _).alloc (by simp) _
  rw [hWb]
  clear hWb
  obtain ⟨x0, x1⟩ := xb
  have RB := Lib.hid rb
  have BB := Lib.hid bb
  have b3 : Below Wb.heap.size Wb (Wb.drew.alloc (.cells #[] 9)) := (Below.refl _ _).drew.alloc (Nat.le_refl _) _
  have z0 := (b3.cell (p := ⟨w.heap.size, 0, none⟩) (by show w.heap.size < Wb.heap.size; omega)).trans x0
  have z1 := (b3.cell (p := ⟨w.heap.size, 1, none⟩) (by show w.heap.size < Wb.heap.size; omega)).trans x1
  have B3 := Lib.hid b3
  obtain ⟨d0, d1, d2⟩ := sh_cells rb
  clear rb bb b3
  by_cases h0 : ps.length = 0
  · obtain rfl : ps = [] := List.eq_nil_of_length_eq_zero h0
    have hn0 : ([] : List ByteArray).length = 0 := rfl
    rw [hn0] at x1 z1 ⊢
    go_region_held3 (fun w' => w'.cell? ⟨w.heap.size, 0, none⟩ = some (.int .i64 L) ∧ w'.cell? ⟨w.heap.size, 1, none⟩ = some (.slice G 0 c)) (first | exact ⟨x0, x1⟩ | exact ⟨z0, z1⟩ | go_keep) (first | (refine step_append_zeroG (by rfl) _ _ _ (by rfl) 9 i0 Tryz.underlying24 hi (w.heap.size + 1 + 1) 0 0 (Nat.le_refl _) G c (by rfl) (by rfl) ?_))
    go_wp2
    have h6 := (heap_alloc_old ((Wb.setCell ⟨w.heap.size + 1, 0, none⟩ (.int .i64 L)).setCell ⟨w.heap.size + 1, 1, none⟩ (.slice (some ⟨w.heap.size + 1 + 1, 0, none⟩) 0 0)) (.cells #[] 9) (r := w.heap.size + 1) (by simp; omega)).trans (sh_stores RB.out)
    have h7 := World.ownsRow_made (base := w.heap.size) (e := 9) (size := 1) ((Wb.setCell ⟨w.heap.size + 1, 0, none⟩ (.int .i64 L)).setCell ⟨w.heap.size + 1, 1, none⟩ (.slice (some ⟨w.heap.size + 1 + 1, 0, none⟩) 0 0)) #[] 0 (by simp; omega) (by decide) rfl
    rw [show ((Wb.setCell ⟨w.heap.size + 1, 0, none⟩ (.int .i64 L)).setCell ⟨w.heap.size + 1, 1, none⟩ (.slice (some ⟨w.heap.size + 1 + 1, 0, none⟩) 0 0)).heap.size = w.heap.size + 1 + 1 by simp; omega] at h7
    refine bodyPost_ret (results_cell_row rfl _ _ (w.heap.size + 1) 26 #[.int .i64 L, .slice (some ⟨w.heap.size + 1 + 1, 0, none⟩) 0 0] (0, 0) _ rfl h6 Tryz.underlying26 rfl (by kernel_rfl)) rfl ?_
    exact ⟨w.heap.size + 1 + 1, 0, rfl, h7, ((below_stores BB.out (by omega) _ _).alloc (by simp; omega) _).drew⟩
  · obtain ⟨b, off, rfl, hst, hbl⟩ := HS.out w (Below.refl _ _) (by omega)
    have HST := Lib.hid (fun w' (h : Below Wb.heap.size Wb w') => news_of_strs (hst.below (BB.out.trans (h.mono (by omega))) hbl))
    clear hst
    have hmade := World.ownsRow_made (base := Wb.heap.size) (e := 9) (size := 1) Wb #[] 0 (Nat.le_refl _) (by decide) rfl
    rw [sb] at hmade
    have HM := Lib.hid hmade.drew
    have hb5 : Below Wb.heap.size Wb (Wb.alloc (.cells #[] 9)).drew := ((Below.refl _ _).alloc (Nat.le_refl _) _).drew
    have HB5 := Lib.hid hb5
    clear hmade hb5
    go_region_held3 (fun w' => w'.cell? ⟨w.heap.size, 0, none⟩ = some (.int .i64 L) ∧ w'.cell? ⟨w.heap.size, 1, none⟩ = some (.slice (some ⟨b, off, none⟩) ps.length c)) (first | exact ⟨x0, x1⟩ | exact ⟨z0, z1⟩ | exact ⟨y0, y1⟩ | go_keep) (first | (refine step_append_lies _ (by rfl) _ _ _ (by rfl) (w.heap.size + 1 + 1) 9 i0 _ 1 16 Tryz.underlying24 hi hz0 hz1 hz2 rfl (by decide) _ 0 [] (by rfl) HM.out ⟨b, off, none⟩ ps.length c (ps.map Value.string) (by rfl) (by simp) (HST.out _ HB5.out) (str_cells _) (by omega) (by unfold maxLen; omega) (by omega) (by simp; omega) (w.heap.size + 1 + 1 + 1) (by simp; omega) ?_; intro gg cap w6 ho6 hg6 hat6 hlt6; have hq6 : Below Wb.heap.size Wb w6 := HB5.out.grown hg6 (by simp) (fun q hq => by have : w.heap.size + 1 + 1 = q := Option.some.inj hq; omega); have y0 := (hq6.cell (p := ⟨w.heap.size, 0, none⟩) (by show w.heap.size < Wb.heap.size; omega)).trans x0; have y1 := (hq6.cell (p := ⟨w.heap.size, 1, none⟩) (by show w.heap.size < Wb.heap.size; omega)).trans x1; have h6 := (hq6.block (w.heap.size + 1) (by omega)).trans RB.out; obtain ⟨g0, g1, g2⟩ := sh_cells h6))
    have ho7 : w6.ownsRow (w.heap.size + 1 + 1) 9 1 (.slice (some ⟨gg, 0, none⟩) ps.length cap) ps.length (ps.map Value.string) := by simpa using ho6
    have HO7 := Lib.hid (World.ownsRow.mono (owns_stores (h := w.heap.size + 1) (x := .int .i64 L) (y := .slice (some ⟨gg, 0, none⟩) ps.length cap) ho7 (by omega)) (show w.heap.size ≤ w.heap.size + 1 + 1 by omega))
    have HQ6 := Lib.hid (below_stores (h := w.heap.size + 1) (BB.out.trans (hq6.mono (by omega))) (by omega) (.int .i64 L) (.slice (some ⟨gg, 0, none⟩) ps.length cap))
    have H8 := Lib.hid (sh_stores (x' := .int .i64 L) (y' := .slice (some ⟨gg, 0, none⟩) ps.length cap) h6)
    clear ho6 ho7 hg6 hat6 hlt6 hq6 h6
    go_wp2
    refine bodyPost_ret (results_cell_row rfl _ _ (w.heap.size + 1) 26 #[.int .i64 L, .slice (some ⟨gg, 0, none⟩) ps.length cap] (0, 0) _ rfl H8.out Tryz.underlying26 rfl (by kernel_rfl)) rfl ?_
    exact ⟨gg, cap, rfl, HO7.out, HQ6.out⟩
end Go.Proofs.YtalclebehbdliaaGreat
