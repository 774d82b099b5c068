/-
  The model's draw of two shifts, as the law calls it.
-/
import Derived.Test.YtalclebehbdliaaGreatDrawTwoS
namespace Go.Proofs.YtalclebehbdliaaGreat
open Go Go.RowKit

def AreDrawn (w : World) (e : Ending) (w' : World) : Prop := ∃ L G c ps L' G' c' qs, e = .returned (.tuple #[.agg #[.int .i64 L, .slice G ps.length c], .agg #[.int .i64 L', .slice G' qs.length c']]) ∧ StrsG w' G ps ∧ StrsG w' G' qs ∧ SmallM ps ∧ SmallM qs ∧ Below w.heap.size w w'
theorem TwoDrawn.are {w W w' : World} {e : Ending} (h : TwoDrawn W e w') (hb : Below w.heap.size w W) : AreDrawn w e w' := by
  obtain ⟨L, G, c, ps, L', G', c', qs, he, h1, h2, h3, h4, h5⟩ := h
  exact ⟨L, G, c, ps, L', G', c', qs, he, strsG_of_owns h1, strsG_of_owns h2, h3, h4, hb.trans (h5.mono hb.size)⟩

set_option maxRecDepth 100000 in
set_option maxHeartbeats 3200000 in
theorem draw_areSame (a : Option Addr) (n c : Nat) (w : World) (hcode : CodeAt w w.heap.size a n) (hn : n ≤ 1048576) :
    Calls Tryz.prog 12 #[.slice a n c] w (AreDrawn w) := by
  have hb0 := (Below.refl w.heap.size w).alloc (Nat.le_refl _) (.cells #[.int .i64 0, .slice none 0 0] 26)
  have hbw := hb0.alloc (by rw [World.size_alloc]; omega) (.cells #[.int .i64 0, .slice none 0 0] 26)
  have hgr := (heap_alloc_old (w.alloc (.cells #[.int .i64 0, .slice none 0 0] 26)) (.cells #[.int .i64 0, .slice none 0 0] 26) (show w.heap.size < (w.alloc (.cells #[.int .i64 0, .slice none 0 0] 26)).heap.size by rw [World.size_alloc]; omega)).trans (heap_alloc_new w (.cells #[.int .i64 0, .slice none 0 0] 26))
  have hgr' := heap_alloc_new (w.alloc (.cells #[.int .i64 0, .slice none 0 0] 26)) (.cells #[.int .i64 0, .slice none 0 0] 26)
  rw [World.size_alloc] at hgr'
  have hc1 := codeAt_after hcode hbw
  obtain ⟨W, hW⟩ : ∃ W, (w.alloc (.cells #[.int .i64 0, .slice none 0 0] 26)).alloc (.cells #[.int .i64 0, .slice none 0 0] 26) = W := ⟨_, rfl⟩
  have hsW : W.heap.size = w.heap.size + 2 := by rw [← hW, World.size_alloc, World.size_alloc]
  rw [hW] at hbw hgr hgr' hc1
  have HT := Lib.hid (draw_two a n c W hc1 hn)
  have HGR := Lib.hid hgr
  have HGR' := Lib.hid hgr'
  have HBW := Lib.hid hbw
  have hq0 : w.heap.size + 2 ≤ W.heap.size := by omega
  clear hcode hb0 hbw hgr hgr' hc1 hsW
  go_enter Tryz.func12, Tryz.ntmps12
  go_wp2_with fail
  try simp only [hW]
  refine HT.out.mono ?_
  rintro e w1 ⟨L, G, c1, ps, L', G', c2, qs, rfl, ho, ho', hsm, hsm', hb1⟩
  have hq1 := hb1.size
  have s1 : (w1.alloc (.cells #[.int .i64 L, .slice G ps.length c1] 26)).heap.size = w1.heap.size + 1 := World.size_alloc _ _
  have s2 : ((w1.alloc (.cells #[.int .i64 L, .slice G ps.length c1] 26)).alloc (.cells #[.int .i64 L', .slice G' qs.length c2] 26)).heap.size = w1.heap.size + 2 := by rw [World.size_alloc, World.size_alloc]
  have hba := (hb1.alloc (show W.heap.size ≤ w1.heap.size by omega) (.cells #[.int .i64 L, .slice G ps.length c1] 26)).alloc (by rw [World.size_alloc]; omega) (.cells #[.int .i64 L', .slice G' qs.length c2] 26)
  have HR := Lib.hid ((ho.alloc (.cells #[.int .i64 L, .slice G ps.length c1] 26)).alloc (.cells #[.int .i64 L', .slice G' qs.length c2] 26))
  have HQ := Lib.hid ((ho'.alloc (.cells #[.int .i64 L, .slice G ps.length c1] 26)).alloc (.cells #[.int .i64 L', .slice G' qs.length c2] 26))
  have hk := (heap_alloc_old (w1.alloc (.cells #[.int .i64 L, .slice G ps.length c1] 26)) (.cells #[.int .i64 L', .slice G' qs.length c2] 26) (show w1.heap.size < (w1.alloc (.cells #[.int .i64 L, .slice G ps.length c1] 26)).heap.size by omega)).trans (heap_alloc_new w1 (.cells #[.int .i64 L, .slice G ps.length c1] 26))
  have hj := heap_alloc_new (w1.alloc (.cells #[.int .i64 L, .slice G ps.length c1] 26)) (.cells #[.int .i64 L', .slice G' qs.length c2] 26)
  rw [World.size_alloc] at hj
  have HG := Lib.hid ((hba.block w.heap.size (by omega)).trans HGR.out)
  have HS := Lib.hid ((hba.block (w.heap.size + 1) (by omega)).trans HGR'.out)
  have HBE := Lib.hid (HBW.out.trans (hba.mono (show w.heap.size ≤ W.heap.size by omega)))
  obtain ⟨y0, y1, y2⟩ := sh_cells hk
  obtain ⟨z0, z1, z2⟩ := sh_cells hj
  obtain ⟨d0, d1, d2⟩ := sh_cells HG.out
  obtain ⟨e0, e1, e2⟩ := sh_cells HS.out
  have HSM := Lib.hid hsm
  have HSQ := Lib.hid hsm'
  have n1 : w.heap.size ≠ w1.heap.size := by omega
  have n2 : w.heap.size ≠ w1.heap.size + 1 := by omega
  have n3 : w.heap.size + 1 ≠ w1.heap.size := by omega
  have n4 : w.heap.size + 1 ≠ w1.heap.size + 1 := by omega
  clear s1 s2 hba ho ho' hk hj hb1 HT hsm hsm'
  go_wp2
  go_region
  all_goals go_wp2
  refine bodyPost_ret (results_two rfl _ _ w.heap.size (w.heap.size + 1) 26 #[.int .i64 L, .slice G ps.length c1] #[.int .i64 L', .slice G' qs.length c2] (0, 0) (0, 0) _ rfl rfl (four_stores HG.out HS.out (by omega)).1 (four_stores HG.out HS.out (by omega)).2 Tryz.underlying26 rfl (by kernel_rfl) (by kernel_rfl)) rfl ?_
  exact TwoDrawn.are (two_drew (two_end (B := W.heap.size) (Nat.le_refl _) (by omega) (by omega) (by omega) HR.out HQ.out HSM.out HSQ.out HBE.out)) (Below.refl _ _)
end Go.Proofs.YtalclebehbdliaaGreat
