/-
  The law on MeetShifts: where the model's and the program's function give back the same shift in new memory at every copy of the two shifts, the law returns true; nothing that was there before is changed.
-/
import Derived.Test.YtalclebehbdliaaPresOps
import Derived.Test.YtalclebehbdliaaPresArg
import Derived.Test.YtalclebehbdliaaPresSb
import Derived.Deep.RegionHeld3
import Derived.Deep.CutRange
namespace Go.Proofs.Ytalclebehbdliaa
open Go Go.RowKit

set_option maxRecDepth 100000 in
set_option maxHeartbeats 6400000 in
theorem law_meetShifts (L L' : Int) (V V' : Value) (xs xs' : List ByteArray) (M : Int) (ps : List ByteArray) (b : Bool) (hps : ps.length ≤ 1048576) (w : World) (ha1 : SliceArgQ w V xs) (ha2 : SliceArgQ w V' xs')
    (hS : ∀ g1 c1 g2 c2 w', Below w.heap.size w w' → xs.length ≤ 1048576 → total xs ≤ 1048576 → xs'.length ≤ 1048576 → total xs' ≤ 1048576 → StrsAt w' g1 0 xs → g1 < w'.heap.size → StrsAt w' g2 0 xs' → g2 < w'.heap.size → Calls Try.prog 30 #[.agg #[.int .i64 L, .slice (some ⟨g1, 0, none⟩) xs.length c1], .agg #[.int .i64 L', .slice (some ⟨g2, 0, none⟩) xs'.length c2]] w' (SbPost M ps b w'))
    (hI : ∀ g1 c1 g2 c2 w', Below w.heap.size w w' → xs.length ≤ 1048576 → total xs ≤ 1048576 → xs'.length ≤ 1048576 → total xs' ≤ 1048576 → StrsAt w' g1 0 xs → g1 < w'.heap.size → StrsAt w' g2 0 xs' → g2 < w'.heap.size → Calls Try.prog 31 #[.agg #[.int .i64 L, .slice (some ⟨g1, 0, none⟩) xs.length c1], .agg #[.int .i64 L', .slice (some ⟨g2, 0, none⟩) xs'.length c2]] w' (SbPost M ps b w')) :
    Calls Try.prog 8 #[.agg #[.int .i64 L, V], .agg #[.int .i64 L', V']] w fun e w' => e = .returned (.bool true) ∧ Below w.heap.size w w' := by
  have HA1 := Lib.hid ha1
  have HA2 := Lib.hid ha2
  have HS := Lib.hid hS
  have HI := Lib.hid hI
  have hbb : (b == b) = true := beq_self_eq_true b
  clear hS hI ha1 ha2
  go_enter Try.func8, Try.ntmps8
  go_wp2_with fail
  obtain ⟨w0, hw0⟩ : ∃ w0, (w.alloc (.cells #[.int .i64 L, V] 24)).alloc (.cells #[.int .i64 L', V'] 24) = w0 := ⟨_, rfl⟩
  have l0 : w.heap.size + 2 ≤ w0.heap.size := by rw [← hw0]; simp
  have BW_0 : Hid (Below w.heap.size w w0) := Lib.hid (by rw [← hw0]; exact ((Below.refl _ _).alloc (Nat.le_refl _) _).alloc (by simp) _)
  have X1_0 : Hid (BoxAt w0 w.heap.size L V) := Lib.hid (by rw [← hw0]; exact (boxAt_new w L V 24).below ((Below.refl (w.heap.size + 1) _).alloc (by simp) _) (by omega))
  have X2_0 : Hid (BoxAt w0 (w.heap.size + 1) L' V') := Lib.hid (by
    rw [← hw0]
    have h := boxAt_new (w.alloc (.cells #[.int .i64 L, V] 24)) L' V' 24
    rw [World.size_alloc] at h; exact h)
  rw [hw0]
  clear hw0
  obtain ⟨eX10, eX11⟩ := X1_0.out
  obtain ⟨eX20, eX21⟩ := X2_0.out
  have HC := Lib.hid (sz_shiftQ L V xs 1048576 (by decide) (by decide) w0 (HA1.out.later BW_0.out))
  refine HC.out.mono ?_
  rintro e w1 ⟨r1, rfl, hr1, hb⟩
  clear HC
  clear eX10 eX11 eX20 eX21
  have lw1 : w0.heap.size ≤ w1.heap.size := hb.size
  have BW_1 := Lib.hid (below_after BW_0.out hb)
  clear BW_0
  have X1_1 := Lib.hid (X1_0.out.below hb (by first | omega | (rw [World.size_alloc]; omega)))
  clear X1_0
  have X2_1 := Lib.hid (X2_0.out.below hb (by first | omega | (rw [World.size_alloc]; omega)))
  clear X2_0
  clear hb
  rcases hr1 with rfl | ⟨hr10, hr11, hr12⟩
  · go_wp2
    go_ret
    exact ⟨rfl, BW_1.out⟩
  have hn1 : ¬ r1 < 0 := by omega
  obtain ⟨eX10, eX11⟩ := X1_1.out
  obtain ⟨eX20, eX21⟩ := X2_1.out
  have HC := Lib.hid (sz_shiftQ L' V' xs' r1 hr10 hr11 w1 (HA2.out.later BW_1.out))
  go_wp2_with fail
  refine HC.out.mono ?_
  rintro e w2 ⟨r2, rfl, hr2, hb⟩
  clear HC
  clear eX10 eX11 eX20 eX21
  have lw2 : w1.heap.size ≤ w2.heap.size := hb.size
  have BW_2 := Lib.hid (below_after BW_1.out hb)
  clear BW_1
  have X1_2 := Lib.hid (X1_1.out.below hb (by first | omega | (rw [World.size_alloc]; omega)))
  clear X1_1
  have X2_2 := Lib.hid (X2_1.out.below hb (by first | omega | (rw [World.size_alloc]; omega)))
  clear X2_1
  clear hb
  rcases hr2 with rfl | ⟨hr20, hr21, hr22⟩
  · go_wp2
    go_ret
    exact ⟨rfl, BW_2.out⟩
  have hn2 : ¬ r2 < 0 := by omega
  have HL1 : Hid (xs.length ≤ 1048576 ∧ total xs ≤ 1048576) := Lib.hid ⟨by omega, by omega⟩
  have HL2 : Hid (xs'.length ≤ 1048576 ∧ total xs' ≤ 1048576) := Lib.hid ⟨by omega, by omega⟩
  clear hr11 hr12 hr21 hr22
  have HTO1 : Hid (∀ w', Below w.heap.size w w' → Calls Try.prog 11 #[.agg #[.int .i64 L, V]] w' (ToShiftPost L xs w')) := Lib.hid (fun w' hb => to_shift L V xs HL1.out.1 w' (HA1.out.arg.later hb))
  have HTO2 : Hid (∀ w', Below w.heap.size w w' → Calls Try.prog 11 #[.agg #[.int .i64 L', V']] w' (ToShiftPost L' xs' w')) := Lib.hid (fun w' hb => to_shift L' V' xs' HL2.out.1 w' (HA2.out.arg.later hb))
  go_upto_region 8 with (fail)
  go_cut [6, 7] from 27 to 34 (fun sp sb wx => ∃ (gb k : Nat) (A : Option Addr), sp = .pointer (some ⟨gb, 0, none⟩) ∧ sb = .bool b ∧ w2.heap.size ≤ gb ∧ gb < wx.heap.size ∧ Hid (BoxAt wx gb M (.slice A ps.length k)) ∧ Hid (OwnR wx w2.heap.size wx.heap.size (.slice A ps.length k) ps) ∧ Hid (Below w2.heap.size w2 wx))
  case first =>
    have lW : w.heap.size + 2 ≤ w2.heap.size := by omega
    have XB := Lib.hid (fun w' (h : Below w2.heap.size w2 w') => (show BoxAt w' w.heap.size L V ∧ BoxAt w' (w.heap.size + 1) L' V' from ⟨X1_2.out.below h (by omega), X2_2.out.below h (by omega)⟩))
    have SB := Lib.hid (fun w' (h : Below w2.heap.size w2 w') => (show w'.cell? ⟨w.heap.size, 0, none⟩ = some (.int .i64 L) ∧ w'.cell? ⟨w.heap.size, 1, none⟩ = some V ∧ w'.cell? ⟨w.heap.size + 1, 0, none⟩ = some (.int .i64 L') ∧ w'.cell? ⟨w.heap.size + 1, 1, none⟩ = some V' from ⟨(XB.out w' h).1.1, (XB.out w' h).1.2, (XB.out w' h).2.1, (XB.out w' h).2.2⟩))
    have CA := Lib.hid (fun w' (h : Below w2.heap.size w2 w') => HTO1.out w' (below_after BW_2.out h))
    have CB := Lib.hid (fun w' (h : Below w2.heap.size w2 w') => HTO2.out w' (below_after BW_2.out h))
    have CF := Lib.hid (fun g g' w' (h : Below w2.heap.size w2 w') => HS.out g xs.length g' xs'.length w' (below_after BW_2.out h) HL1.out.1 HL1.out.2 HL2.out.1 HL2.out.2)
    clear HS HI
    obtain ⟨⟨x0, x1⟩, ⟨x2, x3⟩⟩ := XB.out w2 (Below.refl _ _)
    go_wp2_with fail
    go_region_held3 (fun w' => w'.cell? ⟨w.heap.size, 0, none⟩ = some (.int .i64 L) ∧ w'.cell? ⟨w.heap.size, 1, none⟩ = some (V) ∧ w'.cell? ⟨w.heap.size + 1, 0, none⟩ = some (.int .i64 L') ∧ w'.cell? ⟨w.heap.size + 1, 1, none⟩ = some (V')) (first | exact SB.out _ (by (first | assumption | exact Below.refl _ _ | (refine Below.drew ?_; (first | assumption | exact Below.refl _ _ | (refine Below.drew ?_; (first | assumption | exact Below.refl _ _ | (refine Below.drew ?_; (first | assumption | exact Below.refl _ _)) | (refine Below.alloc ?_ ?_ _ <;> first | (first | assumption | exact Below.refl _ _) | (first | omega | exact Nat.le_refl _ | (simp only [World.size_alloc]; omega))) | (refine Below.setCell ?_ ?_ _ <;> first | (first | assumption | exact Below.refl _ _) | (first | omega | exact Nat.le_refl _ | (simp only [World.size_alloc]; omega))))) | (refine Below.alloc ?_ ?_ _ <;> first | (first | assumption | exact Below.refl _ _ | (refine Below.drew ?_; (first | assumption | exact Below.refl _ _)) | (refine Below.alloc ?_ ?_ _ <;> first | (first | assumption | exact Below.refl _ _) | (first | omega | exact Nat.le_refl _ | (simp only [World.size_alloc]; omega))) | (refine Below.setCell ?_ ?_ _ <;> first | (first | assumption | exact Below.refl _ _) | (first | omega | exact Nat.le_refl _ | (simp only [World.size_alloc]; omega)))) | (first | omega | exact Nat.le_refl _ | (simp only [World.size_alloc]; omega))) | (refine Below.setCell ?_ ?_ _ <;> first | (first | assumption | exact Below.refl _ _ | (refine Below.drew ?_; (first | assumption | exact Below.refl _ _)) | (refine Below.alloc ?_ ?_ _ <;> first | (first | assumption | exact Below.refl _ _) | (first | omega | exact Nat.le_refl _ | (simp only [World.size_alloc]; omega))) | (refine Below.setCell ?_ ?_ _ <;> first | (first | assumption | exact Below.refl _ _) | (first | omega | exact Nat.le_refl _ | (simp only [World.size_alloc]; omega)))) | (first | omega | exact Nat.le_refl _ | (simp only [World.size_alloc]; omega))))) | (refine Below.alloc ?_ ?_ _ <;> first | (first | assumption | exact Below.refl _ _ | (refine Below.drew ?_; (first | assumption | exact Below.refl _ _ | (refine Below.drew ?_; (first | assumption | exact Below.refl _ _)) | (refine Below.alloc ?_ ?_ _ <;> first | (first | assumption | exact Below.refl _ _) | (first | omega | exact Nat.le_refl _ | (simp only [World.size_alloc]; omega))) | (refine Below.setCell ?_ ?_ _ <;> first | (first | assumption | exact Below.refl _ _) | (first | omega | exact Nat.le_refl _ | (simp only [World.size_alloc]; omega))))) | (refine Below.alloc ?_ ?_ _ <;> first | (first | assumption | exact Below.refl _ _ | (refine Below.drew ?_; (first | assumption | exact Below.refl _ _)) | (refine Below.alloc ?_ ?_ _ <;> first | (first | assumption | exact Below.refl _ _) | (first | omega | exact Nat.le_refl _ | (simp only [World.size_alloc]; omega))) | (refine Below.setCell ?_ ?_ _ <;> first | (first | assumption | exact Below.refl _ _) | (first | omega | exact Nat.le_refl _ | (simp only [World.size_alloc]; omega)))) | (first | omega | exact Nat.le_refl _ | (simp only [World.size_alloc]; omega))) | (refine Below.setCell ?_ ?_ _ <;> first | (first | assumption | exact Below.refl _ _ | (refine Below.drew ?_; (first | assumption | exact Below.refl _ _)) | (refine Below.alloc ?_ ?_ _ <;> first | (first | assumption | exact Below.refl _ _) | (first | omega | exact Nat.le_refl _ | (simp only [World.size_alloc]; omega))) | (refine Below.setCell ?_ ?_ _ <;> first | (first | assumption | exact Below.refl _ _) | (first | omega | exact Nat.le_refl _ | (simp only [World.size_alloc]; omega)))) | (first | omega | exact Nat.le_refl _ | (simp only [World.size_alloc]; omega)))) | (first | omega | exact Nat.le_refl _ | (simp only [World.size_alloc]; omega))) | (refine Below.setCell ?_ ?_ _ <;> first | (first | assumption | exact Below.refl _ _ | (refine Below.drew ?_; (first | assumption | exact Below.refl _ _ | (refine Below.drew ?_; (first | assumption | exact Below.refl _ _)) | (refine Below.alloc ?_ ?_ _ <;> first | (first | assumption | exact Below.refl _ _) | (first | omega | exact Nat.le_refl _ | (simp only [World.size_alloc]; omega))) | (refine Below.setCell ?_ ?_ _ <;> first | (first | assumption | exact Below.refl _ _) | (first | omega | exact Nat.le_refl _ | (simp only [World.size_alloc]; omega))))) | (refine Below.alloc ?_ ?_ _ <;> first | (first | assumption | exact Below.refl _ _ | (refine Below.drew ?_; (first | assumption | exact Below.refl _ _)) | (refine Below.alloc ?_ ?_ _ <;> first | (first | assumption | exact Below.refl _ _) | (first | omega | exact Nat.le_refl _ | (simp only [World.size_alloc]; omega))) | (refine Below.setCell ?_ ?_ _ <;> first | (first | assumption | exact Below.refl _ _) | (first | omega | exact Nat.le_refl _ | (simp only [World.size_alloc]; omega)))) | (first | omega | exact Nat.le_refl _ | (simp only [World.size_alloc]; omega))) | (refine Below.setCell ?_ ?_ _ <;> first | (first | assumption | exact Below.refl _ _ | (refine Below.drew ?_; (first | assumption | exact Below.refl _ _)) | (refine Below.alloc ?_ ?_ _ <;> first | (first | assumption | exact Below.refl _ _) | (first | omega | exact Nat.le_refl _ | (simp only [World.size_alloc]; omega))) | (refine Below.setCell ?_ ?_ _ <;> first | (first | assumption | exact Below.refl _ _) | (first | omega | exact Nat.le_refl _ | (simp only [World.size_alloc]; omega)))) | (first | omega | exact Nat.le_refl _ | (simp only [World.size_alloc]; omega)))) | (first | omega | exact Nat.le_refl _ | (simp only [World.size_alloc]; omega)))))) (first | ((first | (have hx := sq3; clear hx) | fail); go_at_call 11; refine (CB.out _ (by first | exact hq3 | exact hq3.alloc sq3 _)).mono ?_; rintro e w4 ⟨g4, rfl, ho4, hb4⟩; have hq4 : Below w2.heap.size w2 w4 := (by first | exact hq3.trans (hb4.mono sq3) | exact (hq3.alloc sq3 _).trans (hb4.mono (by rw [World.size_alloc]; omega))); have sq4 := hq4.size; have oa4 : OwnR w4 _ _ _ xs := (by first | exact oa3.below hb4 | exact (oa3.below ((Below.refl _ _).alloc (Nat.le_refl _) _)).below hb4); have ob4 := OwnR.new ho4; first | have kb4 : w4.heap[w3.heap.size]? = some (.cells #[.int .i64 0, .slice none 0 0] 27) := (hb4.block w3.heap.size (by rw [World.size_alloc]; omega)).trans (heap_alloc_new w3 _) | have kb4 : w4.heap[w2.heap.size]? = some (.cells #[.int .i64 0, .slice none 0 0] 27) := (hb4.block _ lb3).trans kb3 | skip) | (go_at_call 11; refine (CA.out _ (by first | exact (Below.refl _ _).drew | exact ((Below.refl _ _).alloc (Nat.le_refl _) _).drew)).mono ?_; rintro e w3 ⟨g3, rfl, ho3, hb3⟩; have hq3 : Below w2.heap.size w2 w3 := (by first | exact (Below.refl _ _).drew.trans hb3 | exact ((Below.refl w2.heap.size w2).alloc (Nat.le_refl _) _).drew.trans (hb3.mono (by show w2.heap.size ≤ (w2.alloc (.cells #[.int .i64 0, .slice none 0 0] 27)).heap.size; rw [World.size_alloc]; exact Nat.le_succ _))); have sq3 := hq3.size; have oa3 := OwnR.new ho3; first | (have kb3 : w3.heap[w2.heap.size]? = some (.cells #[.int .i64 0, .slice none 0 0] 27) := (hb3.block w2.heap.size (by show w2.heap.size < (w2.alloc (.cells #[.int .i64 0, .slice none 0 0] 27)).heap.size; rw [World.size_alloc]; exact Nat.lt_succ_self _)).trans (heap_alloc_new w2 (.cells #[.int .i64 0, .slice none 0 0] 27)); have lb3 : w2.heap.size < w3.heap.size := Nat.lt_of_lt_of_le (by show w2.heap.size < (w2.alloc (.cells #[.int .i64 0, .slice none 0 0] 27)).heap.size; rw [World.size_alloc]; exact Nat.lt_succ_self _) hb3.size) | skip) | ((first | (have hx := sq4; clear hx) | fail); go_at_call 30; refine (CF.out g3 g4 _ (by first | exact hq4 | exact hq4.alloc sq4 _) (by first | exact oa4.strs.1 | exact (oa4.below ((Below.refl _ _).alloc (Nat.le_refl _) _)).strs.1) (by first | exact oa4.strs.2 | exact (oa4.below ((Below.refl _ _).alloc (Nat.le_refl _) _)).strs.2) (by first | exact ob4.strs.1 | exact (ob4.below ((Below.refl _ _).alloc (Nat.le_refl _) _)).strs.1) (by first | exact ob4.strs.2 | exact (ob4.below ((Below.refl _ _).alloc (Nat.le_refl _) _)).strs.2)).mono ?_; rintro e w5 ⟨A, k, rfl, ho5, hb5⟩; have hq5 : Below w2.heap.size w2 w5 := (by first | exact hq4.trans (hb5.mono sq4) | exact (hq4.alloc sq4 _).trans (hb5.mono (by rw [World.size_alloc]; omega))); have sq5 := hq5.size; first | (have kb5 : w5.heap[w4.heap.size]? = some (.cells #[.int .i64 0, .slice none 0 0] 27) := (hb5.block w4.heap.size (by rw [World.size_alloc]; omega)).trans (heap_alloc_new w4 _); obtain ⟨d0, d1, d2⟩ := sh_cells kb5) | (have kb5 := (hb5.block _ (by first | omega | (have := hb4.size; rw [World.size_alloc] at this; omega) | (have := hb4.size; omega))).trans kb4; obtain ⟨d0, d1, d2⟩ := sh_cells kb5) | skip))
    all_goals (
      go_wp2
      go_meet
      first | exact ⟨w5.heap.size, k, A, rfl, rfl, sq5, (by simp), Lib.hid (boxAt_new w5 M (.slice A ps.length k) 27), Lib.hid (OwnR.new (World.ownsRow.mono (ho5.alloc _) (by omega))), Lib.hid (hq5.alloc sq5 _)⟩ | (have hf := sb_stored (M := M) kb5 ho5 (by first | omega | (have := hb4.size; omega) | (have := hb4.size; rw [World.size_alloc] at this; omega) | (rw [World.size_alloc]; omega)) (by omega) hq5; exact ⟨_, k, A, rfl, rfl, (by omega), hf.1, Lib.hid hf.2.1, Lib.hid hf.2.2.1, Lib.hid hf.2.2.2⟩))
  case rest =>
  obtain ⟨gbs, ks, As, rfl, rfl, hgbs, hgss, HBX, HOW, HBL⟩ := hcut
  obtain ⟨w3, rfl⟩ : ∃ x : World, x = wc := ⟨_, rfl⟩
  have hb := HBL.out
  clear HBL
  have lw3 : w2.heap.size ≤ w3.heap.size := hb.size
  have BW_3 := Lib.hid (below_after BW_2.out hb)
  clear BW_2
  have X1_3 := Lib.hid (X1_2.out.below hb (by first | omega | (rw [World.size_alloc]; omega)))
  clear X1_2
  have X2_3 := Lib.hid (X2_2.out.below hb (by first | omega | (rw [World.size_alloc]; omega)))
  clear X2_2
  clear hb
  have Ys_3 := Lib.hid HBX.out
  have R_3 := Lib.hid HOW.out
  clear HBX HOW
  obtain ⟨eX10, eX11⟩ := X1_3.out
  have HC := Lib.hid (HTO1.out _ BW_3.out)
  go_wp2_with fail
  refine HC.out.mono ?_
  rintro e w4 ⟨gx1, rfl, ho, hb⟩
  clear HC
  clear eX10 eX11
  have lw4 : w3.heap.size ≤ w4.heap.size := hb.size
  have BW_4 := Lib.hid (below_after BW_3.out hb)
  clear BW_3
  have X1_4 := Lib.hid (X1_3.out.below hb (by first | omega | (rw [World.size_alloc]; omega)))
  clear X1_3
  have X2_4 := Lib.hid (X2_3.out.below hb (by first | omega | (rw [World.size_alloc]; omega)))
  clear X2_3
  have Ys_4 := Lib.hid (Ys_3.out.below hb (by first | omega | (rw [World.size_alloc]; omega)))
  clear Ys_3
  have R_4 := Lib.hid (R_3.out.below hb)
  clear R_3
  clear hb
  have O1_4 := Lib.hid (OwnR.new (World.ownsRow.mono ho (show w3.heap.size ≤ w3.heap.size by first | omega | (rw [World.size_alloc]; omega))))
  clear ho
  have hb := (Below.refl w4.heap.size w4).alloc (Nat.le_refl _) (.cells #[.int .i64 L, .slice (some ⟨gx1, 0, none⟩) xs.length xs.length] 27)
  have BW_5 := Lib.hid (below_after BW_4.out hb)
  clear BW_4
  have X1_5 := Lib.hid (X1_4.out.below hb (by first | omega | (rw [World.size_alloc]; omega)))
  clear X1_4
  have X2_5 := Lib.hid (X2_4.out.below hb (by first | omega | (rw [World.size_alloc]; omega)))
  clear X2_4
  have Ys_5 := Lib.hid (Ys_4.out.below hb (by first | omega | (rw [World.size_alloc]; omega)))
  clear Ys_4
  have R_5 := Lib.hid (R_4.out.below hb)
  clear R_4
  have O1_5 := Lib.hid (O1_4.out.below hb)
  clear O1_4
  clear hb
  have Yx1_5 := Lib.hid (boxAt_new w4 L (.slice (some ⟨gx1, 0, none⟩) xs.length xs.length) 27)
  obtain ⟨eX20, eX21⟩ := X2_5.out
  have HC := Lib.hid (HTO2.out _ BW_5.out)
  go_wp2_with fail
  refine HC.out.mono ?_
  rintro e w5 ⟨gx2, rfl, ho, hb⟩
  clear HC
  clear eX20 eX21
  have lw5 : w4.heap.size + 1 ≤ w5.heap.size := by have := hb.size; rw [World.size_alloc] at this; exact this
  have BW_6 := Lib.hid (below_after BW_5.out hb)
  clear BW_5
  have X1_6 := Lib.hid (X1_5.out.below hb (by first | omega | (rw [World.size_alloc]; omega)))
  clear X1_5
  have X2_6 := Lib.hid (X2_5.out.below hb (by first | omega | (rw [World.size_alloc]; omega)))
  clear X2_5
  have Ys_6 := Lib.hid (Ys_5.out.below hb (by first | omega | (rw [World.size_alloc]; omega)))
  clear Ys_5
  have R_6 := Lib.hid (R_5.out.below hb)
  clear R_5
  have O1_6 := Lib.hid (O1_5.out.below hb)
  clear O1_5
  have Yx1_6 := Lib.hid (Yx1_5.out.below hb (by first | omega | (rw [World.size_alloc]; omega)))
  clear Yx1_5
  clear hb
  have O2_6 := Lib.hid (OwnR.new (World.ownsRow.mono ho (show w4.heap.size + 1 ≤ (w4.alloc (.cells #[.int .i64 L, .slice (some ⟨gx1, 0, none⟩) xs.length xs.length] 27)).heap.size by first | omega | (rw [World.size_alloc]; omega))))
  clear ho
  have hb := (Below.refl w5.heap.size w5).alloc (Nat.le_refl _) (.cells #[.int .i64 L', .slice (some ⟨gx2, 0, none⟩) xs'.length xs'.length] 27)
  have BW_7 := Lib.hid (below_after BW_6.out hb)
  clear BW_6
  have X1_7 := Lib.hid (X1_6.out.below hb (by first | omega | (rw [World.size_alloc]; omega)))
  clear X1_6
  have X2_7 := Lib.hid (X2_6.out.below hb (by first | omega | (rw [World.size_alloc]; omega)))
  clear X2_6
  have Ys_7 := Lib.hid (Ys_6.out.below hb (by first | omega | (rw [World.size_alloc]; omega)))
  clear Ys_6
  have R_7 := Lib.hid (R_6.out.below hb)
  clear R_6
  have O1_7 := Lib.hid (O1_6.out.below hb)
  clear O1_6
  have Yx1_7 := Lib.hid (Yx1_6.out.below hb (by first | omega | (rw [World.size_alloc]; omega)))
  clear Yx1_6
  have O2_7 := Lib.hid (O2_6.out.below hb)
  clear O2_6
  clear hb
  have Yx2_7 := Lib.hid (boxAt_new w5 L' (.slice (some ⟨gx2, 0, none⟩) xs'.length xs'.length) 27)
  obtain ⟨eYx10, eYx11⟩ := Yx1_7.out
  obtain ⟨eYx20, eYx21⟩ := Yx2_7.out
  have HC := Lib.hid (HI.out gx1 xs.length gx2 xs'.length _ BW_7.out HL1.out.1 HL1.out.2 HL2.out.1 HL2.out.2 O1_7.out.strs.1 O1_7.out.strs.2 O2_7.out.strs.1 O2_7.out.strs.2)
  go_wp2_with fail
  refine HC.out.mono ?_
  rintro e w6 ⟨Ag, kg, rfl, ho, hb⟩
  clear HC
  clear eYx10 eYx11 eYx20 eYx21
  have lw6 : w5.heap.size + 1 ≤ w6.heap.size := by have := hb.size; rw [World.size_alloc] at this; exact this
  have BW_8 := Lib.hid (below_after BW_7.out hb)
  clear BW_7
  have X1_8 := Lib.hid (X1_7.out.below hb (by first | omega | (rw [World.size_alloc]; omega)))
  clear X1_7
  have X2_8 := Lib.hid (X2_7.out.below hb (by first | omega | (rw [World.size_alloc]; omega)))
  clear X2_7
  have Ys_8 := Lib.hid (Ys_7.out.below hb (by first | omega | (rw [World.size_alloc]; omega)))
  clear Ys_7
  have R_8 := Lib.hid (R_7.out.below hb)
  clear R_7
  have O1_8 := Lib.hid (O1_7.out.below hb)
  clear O1_7
  have Yx1_8 := Lib.hid (Yx1_7.out.below hb (by first | omega | (rw [World.size_alloc]; omega)))
  clear Yx1_7
  have O2_8 := Lib.hid (O2_7.out.below hb)
  clear O2_7
  have Yx2_8 := Lib.hid (Yx2_7.out.below hb (by first | omega | (rw [World.size_alloc]; omega)))
  clear Yx2_7
  clear hb
  have P_8 := Lib.hid (OwnR.new (World.ownsRow.mono ho (show w5.heap.size + 1 ≤ (w5.alloc (.cells #[.int .i64 L', .slice (some ⟨gx2, 0, none⟩) xs'.length xs'.length] 27)).heap.size by first | omega | (rw [World.size_alloc]; omega))))
  clear ho
  have hb := (Below.refl w6.heap.size w6).alloc (Nat.le_refl _) (.cells #[.int .i64 M, .slice Ag ps.length kg] 27)
  have BW_9 := Lib.hid (below_after BW_8.out hb)
  clear BW_8
  have X1_9 := Lib.hid (X1_8.out.below hb (by first | omega | (rw [World.size_alloc]; omega)))
  clear X1_8
  have X2_9 := Lib.hid (X2_8.out.below hb (by first | omega | (rw [World.size_alloc]; omega)))
  clear X2_8
  have Ys_9 := Lib.hid (Ys_8.out.below hb (by first | omega | (rw [World.size_alloc]; omega)))
  clear Ys_8
  have R_9 := Lib.hid (R_8.out.below hb)
  clear R_8
  have O1_9 := Lib.hid (O1_8.out.below hb)
  clear O1_8
  have Yx1_9 := Lib.hid (Yx1_8.out.below hb (by first | omega | (rw [World.size_alloc]; omega)))
  clear Yx1_8
  have O2_9 := Lib.hid (O2_8.out.below hb)
  clear O2_8
  have Yx2_9 := Lib.hid (Yx2_8.out.below hb (by first | omega | (rw [World.size_alloc]; omega)))
  clear Yx2_8
  have P_9 := Lib.hid (P_8.out.below hb)
  clear P_8
  clear hb
  have Yg_9 := Lib.hid (boxAt_new w6 M (.slice Ag ps.length kg) 27)
  obtain ⟨eYg0, eYg1⟩ := Yg_9.out
  obtain ⟨eYs0, eYs1⟩ := Ys_9.out
  have HC := Lib.hid (same_shiftR M Ag As kg ks ps hps _ P_9.out.row R_9.out.row)
  go_wp2_with fail
  refine HC.out.mono ?_
  rintro e w7 ⟨rfl, hb⟩
  clear HC
  clear eYg0 eYg1 eYs0 eYs1
  have lw7 : w6.heap.size + 1 ≤ w7.heap.size := by have := hb.size; rw [World.size_alloc] at this; exact this
  have BW_10 := Lib.hid (below_after BW_9.out hb)
  clear BW_9
  have X1_10 := Lib.hid (X1_9.out.below hb (by first | omega | (rw [World.size_alloc]; omega)))
  clear X1_9
  have X2_10 := Lib.hid (X2_9.out.below hb (by first | omega | (rw [World.size_alloc]; omega)))
  clear X2_9
  have Ys_10 := Lib.hid (Ys_9.out.below hb (by first | omega | (rw [World.size_alloc]; omega)))
  clear Ys_9
  have R_10 := Lib.hid (R_9.out.below hb)
  clear R_9
  have O1_10 := Lib.hid (O1_9.out.below hb)
  clear O1_9
  have Yx1_10 := Lib.hid (Yx1_9.out.below hb (by first | omega | (rw [World.size_alloc]; omega)))
  clear Yx1_9
  have O2_10 := Lib.hid (O2_9.out.below hb)
  clear O2_9
  have Yx2_10 := Lib.hid (Yx2_9.out.below hb (by first | omega | (rw [World.size_alloc]; omega)))
  clear Yx2_9
  have P_10 := Lib.hid (P_9.out.below hb)
  clear P_9
  have Yg_10 := Lib.hid (Yg_9.out.below hb (by first | omega | (rw [World.size_alloc]; omega)))
  clear Yg_9
  clear hb
  obtain ⟨eX10, eX11⟩ := X1_10.out
  obtain ⟨eYx10, eYx11⟩ := Yx1_10.out
  have CT := Lib.hid (fun w' (h : Below w7.heap.size w7 w') => HTO1.out w' (below_after BW_10.out h))
  have CE : Hid (∀ w' g, Below w7.heap.size w7 w' → w'.ownsRow w7.heap.size 9 1 (.slice (some ⟨g, 0, none⟩) xs.length xs.length) xs.length (xs.map Value.string) → Calls Try.prog 14 #[.agg #[.int .i64 L, .slice (some ⟨gx1, 0, none⟩) xs.length xs.length], .agg #[.int .i64 L, .slice (some ⟨g, 0, none⟩) xs.length xs.length]] w' (TrueBelow w')) :=
    Lib.hid (fun w' g hb ho => same_shift L gx1 xs.length g xs.length xs HL1.out.1 w' ((O1_10.out.below hb).strs.1) ((O1_10.out.below hb).strs.2) (StrsAt.of_owns ho rfl) (ho.lt g rfl).2)
  go_wp2_with fail
  go_region_held3 (fun w' => w'.cell? ⟨w.heap.size, 0, none⟩ = some (.int .i64 L) ∧ w'.cell? ⟨w.heap.size, 1, none⟩ = some (V) ∧ w'.cell? ⟨w4.heap.size, 0, none⟩ = some (.int .i64 L) ∧ w'.cell? ⟨w4.heap.size, 1, none⟩ = some ((.slice (some ⟨gx1, 0, none⟩) xs.length xs.length))) (first | exact ⟨y0, y1, y2, y3⟩ | exact ⟨z0, z1, z2, z3⟩ | go_keep) (first | (go_at_call 11; refine (CT.out _ (by first | exact Below.refl _ _ | exact (Below.refl _ _).drew)).mono ?_; rintro e w8 ⟨gy, rfl, hoy, hby⟩; have hqy : Below w7.heap.size w7 w8 := (Below.refl w7.heap.size w7).drew.trans hby; have z0 := (hqy.cell (p := ⟨w.heap.size, 0, none⟩) (by show w.heap.size < w7.heap.size; omega)).trans eX10; have z1 := (hqy.cell (p := ⟨w.heap.size, 1, none⟩) (by show w.heap.size < w7.heap.size; omega)).trans eX11; have z2 := (hqy.cell (p := ⟨w4.heap.size, 0, none⟩) (by show w4.heap.size < w7.heap.size; omega)).trans eYx10; have z3 := (hqy.cell (p := ⟨w4.heap.size, 1, none⟩) (by show w4.heap.size < w7.heap.size; omega)).trans eYx11) | (go_at_call 14; refine (CE.out _ gy hqy hoy).mono ?_; rintro e w9 ⟨rfl, hbz⟩; have hqz : Below w7.heap.size w7 w9 := below_after hqy hbz; have y0 := (hqz.cell (p := ⟨w.heap.size, 0, none⟩) (by show w.heap.size < w7.heap.size; omega)).trans eX10; have y1 := (hqz.cell (p := ⟨w.heap.size, 1, none⟩) (by show w.heap.size < w7.heap.size; omega)).trans eX11; have y2 := (hqz.cell (p := ⟨w4.heap.size, 0, none⟩) (by show w4.heap.size < w7.heap.size; omega)).trans eYx10; have y3 := (hqz.cell (p := ⟨w4.heap.size, 1, none⟩) (by show w4.heap.size < w7.heap.size; omega)).trans eYx11))
  clear CT CE hoy hby hbz hqy z0 z1 z2 z3 y0 y1 y2 y3
  clear eX10 eX11 eYx10 eYx11
  have lw9 : w7.heap.size ≤ w9.heap.size := hqz.size
  have BW_11 := Lib.hid (below_after BW_10.out hqz)
  clear BW_10
  have X1_11 := Lib.hid (X1_10.out.below hqz (by first | omega | (rw [World.size_alloc]; omega)))
  clear X1_10
  have X2_11 := Lib.hid (X2_10.out.below hqz (by first | omega | (rw [World.size_alloc]; omega)))
  clear X2_10
  have Ys_11 := Lib.hid (Ys_10.out.below hqz (by first | omega | (rw [World.size_alloc]; omega)))
  clear Ys_10
  have R_11 := Lib.hid (R_10.out.below hqz)
  clear R_10
  have O1_11 := Lib.hid (O1_10.out.below hqz)
  clear O1_10
  have Yx1_11 := Lib.hid (Yx1_10.out.below hqz (by first | omega | (rw [World.size_alloc]; omega)))
  clear Yx1_10
  have O2_11 := Lib.hid (O2_10.out.below hqz)
  clear O2_10
  have Yx2_11 := Lib.hid (Yx2_10.out.below hqz (by first | omega | (rw [World.size_alloc]; omega)))
  clear Yx2_10
  have P_11 := Lib.hid (P_10.out.below hqz)
  clear P_10
  have Yg_11 := Lib.hid (Yg_10.out.below hqz (by first | omega | (rw [World.size_alloc]; omega)))
  clear Yg_10
  clear hqz
  obtain ⟨eX20, eX21⟩ := X2_11.out
  obtain ⟨eYx20, eYx21⟩ := Yx2_11.out
  have CT := Lib.hid (fun w' (h : Below w9.heap.size w9 w') => HTO2.out w' (below_after BW_11.out h))
  have CE : Hid (∀ w' g, Below w9.heap.size w9 w' → w'.ownsRow w9.heap.size 9 1 (.slice (some ⟨g, 0, none⟩) xs'.length xs'.length) xs'.length (xs'.map Value.string) → Calls Try.prog 14 #[.agg #[.int .i64 L', .slice (some ⟨gx2, 0, none⟩) xs'.length xs'.length], .agg #[.int .i64 L', .slice (some ⟨g, 0, none⟩) xs'.length xs'.length]] w' (TrueBelow w')) :=
    Lib.hid (fun w' g hb ho => same_shift L' gx2 xs'.length g xs'.length xs' HL2.out.1 w' ((O2_11.out.below hb).strs.1) ((O2_11.out.below hb).strs.2) (StrsAt.of_owns ho rfl) (ho.lt g rfl).2)
  go_wp2_with fail
  go_region_held3 (fun w' => w'.cell? ⟨w.heap.size + 1, 0, none⟩ = some (.int .i64 L') ∧ w'.cell? ⟨w.heap.size + 1, 1, none⟩ = some (V') ∧ w'.cell? ⟨w5.heap.size, 0, none⟩ = some (.int .i64 L') ∧ w'.cell? ⟨w5.heap.size, 1, none⟩ = some ((.slice (some ⟨gx2, 0, none⟩) xs'.length xs'.length))) (first | exact ⟨y0, y1, y2, y3⟩ | exact ⟨z0, z1, z2, z3⟩ | go_keep) (first | (go_at_call 11; refine (CT.out _ (by first | exact Below.refl _ _ | exact (Below.refl _ _).drew)).mono ?_; rintro e w10 ⟨gy, rfl, hoy, hby⟩; have hqy : Below w9.heap.size w9 w10 := (Below.refl w9.heap.size w9).drew.trans hby; have z0 := (hqy.cell (p := ⟨w.heap.size + 1, 0, none⟩) (by show w.heap.size + 1 < w9.heap.size; omega)).trans eX20; have z1 := (hqy.cell (p := ⟨w.heap.size + 1, 1, none⟩) (by show w.heap.size + 1 < w9.heap.size; omega)).trans eX21; have z2 := (hqy.cell (p := ⟨w5.heap.size, 0, none⟩) (by show w5.heap.size < w9.heap.size; omega)).trans eYx20; have z3 := (hqy.cell (p := ⟨w5.heap.size, 1, none⟩) (by show w5.heap.size < w9.heap.size; omega)).trans eYx21) | (go_at_call 14; refine (CE.out _ gy hqy hoy).mono ?_; rintro e w11 ⟨rfl, hbz⟩; have hqz : Below w9.heap.size w9 w11 := below_after hqy hbz; have y0 := (hqz.cell (p := ⟨w.heap.size + 1, 0, none⟩) (by show w.heap.size + 1 < w9.heap.size; omega)).trans eX20; have y1 := (hqz.cell (p := ⟨w.heap.size + 1, 1, none⟩) (by show w.heap.size + 1 < w9.heap.size; omega)).trans eX21; have y2 := (hqz.cell (p := ⟨w5.heap.size, 0, none⟩) (by show w5.heap.size < w9.heap.size; omega)).trans eYx20; have y3 := (hqz.cell (p := ⟨w5.heap.size, 1, none⟩) (by show w5.heap.size < w9.heap.size; omega)).trans eYx21))
  clear CT CE hoy hby hbz hqy z0 z1 z2 z3 y0 y1 y2 y3
  clear eX20 eX21 eYx20 eYx21
  have lw11 : w9.heap.size ≤ w11.heap.size := hqz.size
  have BW_12 := Lib.hid (below_after BW_11.out hqz)
  clear BW_11
  have X1_12 := Lib.hid (X1_11.out.below hqz (by first | omega | (rw [World.size_alloc]; omega)))
  clear X1_11
  have X2_12 := Lib.hid (X2_11.out.below hqz (by first | omega | (rw [World.size_alloc]; omega)))
  clear X2_11
  have Ys_12 := Lib.hid (Ys_11.out.below hqz (by first | omega | (rw [World.size_alloc]; omega)))
  clear Ys_11
  have R_12 := Lib.hid (R_11.out.below hqz)
  clear R_11
  have O1_12 := Lib.hid (O1_11.out.below hqz)
  clear O1_11
  have Yx1_12 := Lib.hid (Yx1_11.out.below hqz (by first | omega | (rw [World.size_alloc]; omega)))
  clear Yx1_11
  have O2_12 := Lib.hid (O2_11.out.below hqz)
  clear O2_11
  have Yx2_12 := Lib.hid (Yx2_11.out.below hqz (by first | omega | (rw [World.size_alloc]; omega)))
  clear Yx2_11
  have P_12 := Lib.hid (P_11.out.below hqz)
  clear P_11
  have Yg_12 := Lib.hid (Yg_11.out.below hqz (by first | omega | (rw [World.size_alloc]; omega)))
  clear Yg_11
  clear hqz
  obtain ⟨eYx10, eYx11⟩ := Yx1_12.out
  have HC := Lib.hid (mark_shiftR L _ _ (1) _ _ xs (by decide) (by decide) HL1.out.1 _ O1_12.out)
  go_wp2_with fail
  refine HC.out.mono ?_
  rintro e w12 ⟨rfl, -, hw⟩
  clear HC
  clear eYx10 eYx11
  clear O1_12
  clear Yx1_12
  have lw12 : w11.heap.size ≤ w12.heap.size := hw.size
  have BW_13 := Lib.hid (BW_12.out.trans ((hw.below (by omega)).mono (by omega)))
  clear BW_12
  have X1_13 := Lib.hid (X1_12.out.within hw (by omega) (by omega))
  clear X1_12
  have X2_13 := Lib.hid (X2_12.out.within hw (by omega) (by omega))
  clear X2_12
  have Ys_13 := Lib.hid (Ys_12.out.within hw (by omega) (by omega))
  clear Ys_12
  have R_13 := Lib.hid (R_12.out.within hw (by omega))
  clear R_12
  have O2_13 := Lib.hid (O2_12.out.within hw (by omega))
  clear O2_12
  have Yx2_13 := Lib.hid (Yx2_12.out.within hw (by omega) (by omega))
  clear Yx2_12
  have P_13 := Lib.hid (P_12.out.within hw (by omega))
  clear P_12
  have Yg_13 := Lib.hid (Yg_12.out.within hw (by omega) (by omega))
  clear Yg_12
  clear hw
  obtain ⟨eYx20, eYx21⟩ := Yx2_13.out
  have HC := Lib.hid (mark_shiftR L' _ _ (1 + xs.length) _ _ xs' (by omega) (by have := HL1.out.1; omega) HL2.out.1 _ O2_13.out)
  go_wp2_with fail
  refine HC.out.mono ?_
  rintro e w13 ⟨rfl, -, hw⟩
  clear HC
  clear eYx20 eYx21
  clear O2_13
  clear Yx2_13
  have lw13 : w12.heap.size ≤ w13.heap.size := hw.size
  have BW_14 := Lib.hid (BW_13.out.trans ((hw.below (by omega)).mono (by omega)))
  clear BW_13
  have X1_14 := Lib.hid (X1_13.out.within hw (by omega) (by omega))
  clear X1_13
  have X2_14 := Lib.hid (X2_13.out.within hw (by omega) (by omega))
  clear X2_13
  have Ys_14 := Lib.hid (Ys_13.out.within hw (by omega) (by omega))
  clear Ys_13
  have R_14 := Lib.hid (R_13.out.within hw (by omega))
  clear R_13
  have P_14 := Lib.hid (P_13.out.within hw (by omega))
  clear P_13
  have Yg_14 := Lib.hid (Yg_13.out.within hw (by omega) (by omega))
  clear Yg_13
  clear hw
  have q0 : decide (((1 + xs.length + xs'.length : Nat) : Int) < 0) = false := by rw [decide_eq_false_iff_not]; omega
  have q0' : ¬ ((1 + xs.length + xs'.length : Nat) : Int) < 0 := by omega
  obtain ⟨eYg0, eYg1⟩ := Yg_14.out
  obtain ⟨eYs0, eYs1⟩ := Ys_14.out
  have HC := Lib.hid (same_shiftR M Ag As kg ks ps hps _ P_14.out.row R_14.out.row)
  go_wp2_with fail
  refine HC.out.mono ?_
  rintro e w14 ⟨rfl, hb⟩
  clear HC
  clear eYg0 eYg1 eYs0 eYs1
  have lw14 : w13.heap.size ≤ w14.heap.size := hb.size
  have BW_15 := Lib.hid (below_after BW_14.out hb)
  clear BW_14
  have X1_15 := Lib.hid (X1_14.out.below hb (by first | omega | (rw [World.size_alloc]; omega)))
  clear X1_14
  have X2_15 := Lib.hid (X2_14.out.below hb (by first | omega | (rw [World.size_alloc]; omega)))
  clear X2_14
  have Ys_15 := Lib.hid (Ys_14.out.below hb (by first | omega | (rw [World.size_alloc]; omega)))
  clear Ys_14
  have R_15 := Lib.hid (R_14.out.below hb)
  clear R_14
  have P_15 := Lib.hid (P_14.out.below hb)
  clear P_14
  have Yg_15 := Lib.hid (Yg_14.out.below hb (by first | omega | (rw [World.size_alloc]; omega)))
  clear Yg_14
  clear hb
  obtain ⟨eYg0, eYg1⟩ := Yg_15.out
  have HC := Lib.hid (mark_shiftR M _ _ 1 _ _ ps (by decide) (by decide) hps _ P_15.out)
  go_wp2_with fail
  refine HC.out.mono ?_
  rintro e w15 ⟨rfl, hm, hw⟩
  clear HC
  clear eYg0 eYg1
  clear P_15
  have lw15 : w14.heap.size ≤ w15.heap.size := hw.size
  have BW_16 := Lib.hid (BW_15.out.trans ((hw.below (by omega)).mono (by omega)))
  clear BW_15
  have X1_16 := Lib.hid (X1_15.out.within hw (by omega) (by omega))
  clear X1_15
  have X2_16 := Lib.hid (X2_15.out.within hw (by omega) (by omega))
  clear X2_15
  have Ys_16 := Lib.hid (Ys_15.out.within hw (by omega) (by omega))
  clear Ys_15
  have R_16 := Lib.hid (R_15.out.within hw (by omega))
  clear R_15
  have Yg_16 := Lib.hid (Yg_15.out.within hw (by omega) (by omega))
  clear Yg_15
  have M_16 := Lib.hid hm
  clear hm hw
  have q1 : decide (((1 + ps.length : Nat) : Int) < 0) = false := by rw [decide_eq_false_iff_not]; omega
  obtain ⟨eYg0, eYg1⟩ := Yg_16.out
  have HC := Lib.hid (held_shiftR M Ag kg ps.length hps _ M_16.out)
  go_wp2_with fail
  refine HC.out.mono ?_
  rintro e w16 ⟨rfl, hb⟩
  clear HC
  clear eYg0 eYg1
  have lw16 : w15.heap.size ≤ w16.heap.size := hb.size
  have BW_17 := Lib.hid (below_after BW_16.out hb)
  clear BW_16
  have X1_17 := Lib.hid (X1_16.out.below hb (by first | omega | (rw [World.size_alloc]; omega)))
  clear X1_16
  have X2_17 := Lib.hid (X2_16.out.below hb (by first | omega | (rw [World.size_alloc]; omega)))
  clear X2_16
  have Ys_17 := Lib.hid (Ys_16.out.below hb (by first | omega | (rw [World.size_alloc]; omega)))
  clear Ys_16
  have R_17 := Lib.hid (R_16.out.below hb)
  clear R_16
  have Yg_17 := Lib.hid (Yg_16.out.below hb (by first | omega | (rw [World.size_alloc]; omega)))
  clear Yg_16
  have M_17 := Lib.hid (M_16.out.below hb)
  clear M_16
  clear hb
  go_upto_region 31 with (fail)
  go_cut [15, 16] from 94 to 101 (fun sp sb wx => ∃ (gb k : Nat) (A : Option Addr), sp = .pointer (some ⟨gb, 0, none⟩) ∧ sb = .bool b ∧ w16.heap.size ≤ gb ∧ gb < wx.heap.size ∧ Hid (BoxAt wx gb M (.slice A ps.length k)) ∧ Hid (OwnR wx w16.heap.size wx.heap.size (.slice A ps.length k) ps) ∧ Hid (Below w16.heap.size w16 wx))
  case first =>
    have lW : w.heap.size + 2 ≤ w16.heap.size := by omega
    clear q0 q0' q1 hbb hgbs hgss hn1 hn2 lw16 lw15 lw14 lw13 lw12 lw11 lw9 lw7 lw6 lw5 lw4 lw3 lw2 lw1 l0 R_17 M_17 Ys_17 Yg_17
    have XB := Lib.hid (fun w' (h : Below w16.heap.size w16 w') => (show BoxAt w' w.heap.size L V ∧ BoxAt w' (w.heap.size + 1) L' V' from ⟨X1_17.out.below h (by omega), X2_17.out.below h (by omega)⟩))
    have SB := Lib.hid (fun w' (h : Below w16.heap.size w16 w') => (show w'.cell? ⟨w.heap.size, 0, none⟩ = some (.int .i64 L) ∧ w'.cell? ⟨w.heap.size, 1, none⟩ = some V ∧ w'.cell? ⟨w.heap.size + 1, 0, none⟩ = some (.int .i64 L') ∧ w'.cell? ⟨w.heap.size + 1, 1, none⟩ = some V' from ⟨(XB.out w' h).1.1, (XB.out w' h).1.2, (XB.out w' h).2.1, (XB.out w' h).2.2⟩))
    have CA := Lib.hid (fun w' (h : Below w16.heap.size w16 w') => HTO1.out w' (below_after BW_17.out h))
    have CB := Lib.hid (fun w' (h : Below w16.heap.size w16 w') => HTO2.out w' (below_after BW_17.out h))
    have CF := Lib.hid (fun g g' w' (h : Below w16.heap.size w16 w') => HI.out g xs.length g' xs'.length w' (below_after BW_17.out h) HL1.out.1 HL1.out.2 HL2.out.1 HL2.out.2)
    clear HS HI
    obtain ⟨⟨x0, x1⟩, ⟨x2, x3⟩⟩ := XB.out w16 (Below.refl _ _)
    go_wp2_with fail
    go_region_held3 (fun w' => w'.cell? ⟨w.heap.size, 0, none⟩ = some (.int .i64 L) ∧ w'.cell? ⟨w.heap.size, 1, none⟩ = some (V) ∧ w'.cell? ⟨w.heap.size + 1, 0, none⟩ = some (.int .i64 L') ∧ w'.cell? ⟨w.heap.size + 1, 1, none⟩ = some (V')) (first | exact SB.out _ (by (first | assumption | exact Below.refl _ _ | (refine Below.drew ?_; (first | assumption | exact Below.refl _ _ | (refine Below.drew ?_; (first | assumption | exact Below.refl _ _ | (refine Below.drew ?_; (first | assumption | exact Below.refl _ _)) | (refine Below.alloc ?_ ?_ _ <;> first | (first | assumption | exact Below.refl _ _) | (first | omega | exact Nat.le_refl _ | (simp only [World.size_alloc]; omega))) | (refine Below.setCell ?_ ?_ _ <;> first | (first | assumption | exact Below.refl _ _) | (first | omega | exact Nat.le_refl _ | (simp only [World.size_alloc]; omega))))) | (refine Below.alloc ?_ ?_ _ <;> first | (first | assumption | exact Below.refl _ _ | (refine Below.drew ?_; (first | assumption | exact Below.refl _ _)) | (refine Below.alloc ?_ ?_ _ <;> first | (first | assumption | exact Below.refl _ _) | (first | omega | exact Nat.le_refl _ | (simp only [World.size_alloc]; omega))) | (refine Below.setCell ?_ ?_ _ <;> first | (first | assumption | exact Below.refl _ _) | (first | omega | exact Nat.le_refl _ | (simp only [World.size_alloc]; omega)))) | (first | omega | exact Nat.le_refl _ | (simp only [World.size_alloc]; omega))) | (refine Below.setCell ?_ ?_ _ <;> first | (first | assumption | exact Below.refl _ _ | (refine Below.drew ?_; (first | assumption | exact Below.refl _ _)) | (refine Below.alloc ?_ ?_ _ <;> first | (first | assumption | exact Below.refl _ _) | (first | omega | exact Nat.le_refl _ | (simp only [World.size_alloc]; omega))) | (refine Below.setCell ?_ ?_ _ <;> first | (first | assumption | exact Below.refl _ _) | (first | omega | exact Nat.le_refl _ | (simp only [World.size_alloc]; omega)))) | (first | omega | exact Nat.le_refl _ | (simp only [World.size_alloc]; omega))))) | (refine Below.alloc ?_ ?_ _ <;> first | (first | assumption | exact Below.refl _ _ | (refine Below.drew ?_; (first | assumption | exact Below.refl _ _ | (refine Below.drew ?_; (first | assumption | exact Below.refl _ _)) | (refine Below.alloc ?_ ?_ _ <;> first | (first | assumption | exact Below.refl _ _) | (first | omega | exact Nat.le_refl _ | (simp only [World.size_alloc]; omega))) | (refine Below.setCell ?_ ?_ _ <;> first | (first | assumption | exact Below.refl _ _) | (first | omega | exact Nat.le_refl _ | (simp only [World.size_alloc]; omega))))) | (refine Below.alloc ?_ ?_ _ <;> first | (first | assumption | exact Below.refl _ _ | (refine Below.drew ?_; (first | assumption | exact Below.refl _ _)) | (refine Below.alloc ?_ ?_ _ <;> first | (first | assumption | exact Below.refl _ _) | (first | omega | exact Nat.le_refl _ | (simp only [World.size_alloc]; omega))) | (refine Below.setCell ?_ ?_ _ <;> first | (first | assumption | exact Below.refl _ _) | (first | omega | exact Nat.le_refl _ | (simp only [World.size_alloc]; omega)))) | (first | omega | exact Nat.le_refl _ | (simp only [World.size_alloc]; omega))) | (refine Below.setCell ?_ ?_ _ <;> first | (first | assumption | exact Below.refl _ _ | (refine Below.drew ?_; (first | assumption | exact Below.refl _ _)) | (refine Below.alloc ?_ ?_ _ <;> first | (first | assumption | exact Below.refl _ _) | (first | omega | exact Nat.le_refl _ | (simp only [World.size_alloc]; omega))) | (refine Below.setCell ?_ ?_ _ <;> first | (first | assumption | exact Below.refl _ _) | (first | omega | exact Nat.le_refl _ | (simp only [World.size_alloc]; omega)))) | (first | omega | exact Nat.le_refl _ | (simp only [World.size_alloc]; omega)))) | (first | omega | exact Nat.le_refl _ | (simp only [World.size_alloc]; omega))) | (refine Below.setCell ?_ ?_ _ <;> first | (first | assumption | exact Below.refl _ _ | (refine Below.drew ?_; (first | assumption | exact Below.refl _ _ | (refine Below.drew ?_; (first | assumption | exact Below.refl _ _)) | (refine Below.alloc ?_ ?_ _ <;> first | (first | assumption | exact Below.refl _ _) | (first | omega | exact Nat.le_refl _ | (simp only [World.size_alloc]; omega))) | (refine Below.setCell ?_ ?_ _ <;> first | (first | assumption | exact Below.refl _ _) | (first | omega | exact Nat.le_refl _ | (simp only [World.size_alloc]; omega))))) | (refine Below.alloc ?_ ?_ _ <;> first | (first | assumption | exact Below.refl _ _ | (refine Below.drew ?_; (first | assumption | exact Below.refl _ _)) | (refine Below.alloc ?_ ?_ _ <;> first | (first | assumption | exact Below.refl _ _) | (first | omega | exact Nat.le_refl _ | (simp only [World.size_alloc]; omega))) | (refine Below.setCell ?_ ?_ _ <;> first | (first | assumption | exact Below.refl _ _) | (first | omega | exact Nat.le_refl _ | (simp only [World.size_alloc]; omega)))) | (first | omega | exact Nat.le_refl _ | (simp only [World.size_alloc]; omega))) | (refine Below.setCell ?_ ?_ _ <;> first | (first | assumption | exact Below.refl _ _ | (refine Below.drew ?_; (first | assumption | exact Below.refl _ _)) | (refine Below.alloc ?_ ?_ _ <;> first | (first | assumption | exact Below.refl _ _) | (first | omega | exact Nat.le_refl _ | (simp only [World.size_alloc]; omega))) | (refine Below.setCell ?_ ?_ _ <;> first | (first | assumption | exact Below.refl _ _) | (first | omega | exact Nat.le_refl _ | (simp only [World.size_alloc]; omega)))) | (first | omega | exact Nat.le_refl _ | (simp only [World.size_alloc]; omega)))) | (first | omega | exact Nat.le_refl _ | (simp only [World.size_alloc]; omega)))))) (first | ((first | (have hx := sq3; clear hx) | fail); go_at_call 11; refine (CB.out _ (by first | exact hq3 | exact hq3.alloc sq3 _)).mono ?_; rintro e w4 ⟨g4, rfl, ho4, hb4⟩; have hq4 : Below w16.heap.size w16 w4 := (by first | exact hq3.trans (hb4.mono sq3) | exact (hq3.alloc sq3 _).trans (hb4.mono (by rw [World.size_alloc]; omega))); have sq4 := hq4.size; have oa4 : OwnR w4 _ _ _ xs := (by first | exact oa3.below hb4 | exact (oa3.below ((Below.refl _ _).alloc (Nat.le_refl _) _)).below hb4); have ob4 := OwnR.new ho4; first | have kb4 : w4.heap[w3.heap.size]? = some (.cells #[.int .i64 0, .slice none 0 0] 27) := (hb4.block w3.heap.size (by rw [World.size_alloc]; omega)).trans (heap_alloc_new w3 _) | have kb4 : w4.heap[w16.heap.size]? = some (.cells #[.int .i64 0, .slice none 0 0] 27) := (hb4.block _ lb3).trans kb3 | skip) | (go_at_call 11; refine (CA.out _ (by first | exact (Below.refl _ _).drew | exact ((Below.refl _ _).alloc (Nat.le_refl _) _).drew)).mono ?_; rintro e w3 ⟨g3, rfl, ho3, hb3⟩; have hq3 : Below w16.heap.size w16 w3 := (by first | exact (Below.refl _ _).drew.trans hb3 | exact ((Below.refl w16.heap.size w16).alloc (Nat.le_refl _) _).drew.trans (hb3.mono (by show w16.heap.size ≤ (w16.alloc (.cells #[.int .i64 0, .slice none 0 0] 27)).heap.size; rw [World.size_alloc]; exact Nat.le_succ _))); have sq3 := hq3.size; have oa3 := OwnR.new ho3; first | (have kb3 : w3.heap[w16.heap.size]? = some (.cells #[.int .i64 0, .slice none 0 0] 27) := (hb3.block w16.heap.size (by show w16.heap.size < (w16.alloc (.cells #[.int .i64 0, .slice none 0 0] 27)).heap.size; rw [World.size_alloc]; exact Nat.lt_succ_self _)).trans (heap_alloc_new w16 (.cells #[.int .i64 0, .slice none 0 0] 27)); have lb3 : w16.heap.size < w3.heap.size := Nat.lt_of_lt_of_le (by show w16.heap.size < (w16.alloc (.cells #[.int .i64 0, .slice none 0 0] 27)).heap.size; rw [World.size_alloc]; exact Nat.lt_succ_self _) hb3.size) | skip) | ((first | (have hx := sq4; clear hx) | fail); go_at_call 31; refine (CF.out g3 g4 _ (by first | exact hq4 | exact hq4.alloc sq4 _) (by first | exact oa4.strs.1 | exact (oa4.below ((Below.refl _ _).alloc (Nat.le_refl _) _)).strs.1) (by first | exact oa4.strs.2 | exact (oa4.below ((Below.refl _ _).alloc (Nat.le_refl _) _)).strs.2) (by first | exact ob4.strs.1 | exact (ob4.below ((Below.refl _ _).alloc (Nat.le_refl _) _)).strs.1) (by first | exact ob4.strs.2 | exact (ob4.below ((Below.refl _ _).alloc (Nat.le_refl _) _)).strs.2)).mono ?_; rintro e w5 ⟨A, k, rfl, ho5, hb5⟩; have hq5 : Below w16.heap.size w16 w5 := (by first | exact hq4.trans (hb5.mono sq4) | exact (hq4.alloc sq4 _).trans (hb5.mono (by rw [World.size_alloc]; omega))); have sq5 := hq5.size; first | (have kb5 : w5.heap[w4.heap.size]? = some (.cells #[.int .i64 0, .slice none 0 0] 27) := (hb5.block w4.heap.size (by rw [World.size_alloc]; omega)).trans (heap_alloc_new w4 _); obtain ⟨d0, d1, d2⟩ := sh_cells kb5) | (have kb5 := (hb5.block _ (by first | omega | (have := hb4.size; rw [World.size_alloc] at this; omega) | (have := hb4.size; omega))).trans kb4; obtain ⟨d0, d1, d2⟩ := sh_cells kb5) | skip))
    all_goals (
      go_wp2
      go_meet
      first | exact ⟨w5.heap.size, k, A, rfl, rfl, sq5, (by simp), Lib.hid (boxAt_new w5 M (.slice A ps.length k) 27), Lib.hid (OwnR.new (World.ownsRow.mono (ho5.alloc _) (by omega))), Lib.hid (hq5.alloc sq5 _)⟩ | (have hf := sb_stored (M := M) kb5 ho5 (by first | omega | (have := hb4.size; omega) | (have := hb4.size; rw [World.size_alloc] at this; omega) | (rw [World.size_alloc]; omega)) (by omega) hq5; exact ⟨_, k, A, rfl, rfl, (by omega), hf.1, Lib.hid hf.2.1, Lib.hid hf.2.2.1, Lib.hid hf.2.2.2⟩))
  case rest =>
  obtain ⟨gbh, kh, Ah, rfl, rfl, hgbh, hgsh, HBX, HOW, HBL⟩ := hcut
  obtain ⟨w17, rfl⟩ : ∃ x : World, x = wc := ⟨_, rfl⟩
  have hb := HBL.out
  clear HBL
  have lw17 : w16.heap.size ≤ w17.heap.size := hb.size
  have BW_18 := Lib.hid (below_after BW_17.out hb)
  clear BW_17
  have X1_18 := Lib.hid (X1_17.out.below hb (by first | omega | (rw [World.size_alloc]; omega)))
  clear X1_17
  have X2_18 := Lib.hid (X2_17.out.below hb (by first | omega | (rw [World.size_alloc]; omega)))
  clear X2_17
  have Ys_18 := Lib.hid (Ys_17.out.below hb (by first | omega | (rw [World.size_alloc]; omega)))
  clear Ys_17
  have R_18 := Lib.hid (R_17.out.below hb)
  clear R_17
  have Yg_18 := Lib.hid (Yg_17.out.below hb (by first | omega | (rw [World.size_alloc]; omega)))
  clear Yg_17
  have M_18 := Lib.hid (M_17.out.below hb)
  clear M_17
  clear hb
  have Yh_18 := Lib.hid HBX.out
  have Rh_18 := Lib.hid HOW.out
  clear HBX HOW
  obtain ⟨eYh0, eYh1⟩ := Yh_18.out
  obtain ⟨eYs0, eYs1⟩ := Ys_18.out
  have HC := Lib.hid (same_shiftR M Ah As kh ks ps hps _ Rh_18.out.row R_18.out.row)
  go_wp2_with fail
  refine HC.out.mono ?_
  rintro e w18 ⟨rfl, hb⟩
  clear HC
  clear eYh0 eYh1 eYs0 eYs1
  have lw18 : w17.heap.size ≤ w18.heap.size := hb.size
  have BW_19 := Lib.hid (below_after BW_18.out hb)
  clear BW_18
  have X1_19 := Lib.hid (X1_18.out.below hb (by first | omega | (rw [World.size_alloc]; omega)))
  clear X1_18
  have X2_19 := Lib.hid (X2_18.out.below hb (by first | omega | (rw [World.size_alloc]; omega)))
  clear X2_18
  have Ys_19 := Lib.hid (Ys_18.out.below hb (by first | omega | (rw [World.size_alloc]; omega)))
  clear Ys_18
  have R_19 := Lib.hid (R_18.out.below hb)
  clear R_18
  have Yg_19 := Lib.hid (Yg_18.out.below hb (by first | omega | (rw [World.size_alloc]; omega)))
  clear Yg_18
  have M_19 := Lib.hid (M_18.out.below hb)
  clear M_18
  have Yh_19 := Lib.hid (Yh_18.out.below hb (by first | omega | (rw [World.size_alloc]; omega)))
  clear Yh_18
  have Rh_19 := Lib.hid (Rh_18.out.below hb)
  clear Rh_18
  clear hb
  obtain ⟨eYg0, eYg1⟩ := Yg_19.out
  have HC := Lib.hid (held_shiftR M Ag kg ps.length hps _ M_19.out)
  go_wp2_with fail
  refine HC.out.mono ?_
  rintro e w19 ⟨rfl, hb⟩
  clear HC
  clear eYg0 eYg1
  have lw19 : w18.heap.size ≤ w19.heap.size := hb.size
  have BW_20 := Lib.hid (below_after BW_19.out hb)
  clear BW_19
  have X1_20 := Lib.hid (X1_19.out.below hb (by first | omega | (rw [World.size_alloc]; omega)))
  clear X1_19
  have X2_20 := Lib.hid (X2_19.out.below hb (by first | omega | (rw [World.size_alloc]; omega)))
  clear X2_19
  have Ys_20 := Lib.hid (Ys_19.out.below hb (by first | omega | (rw [World.size_alloc]; omega)))
  clear Ys_19
  have R_20 := Lib.hid (R_19.out.below hb)
  clear R_19
  have Yg_20 := Lib.hid (Yg_19.out.below hb (by first | omega | (rw [World.size_alloc]; omega)))
  clear Yg_19
  have M_20 := Lib.hid (M_19.out.below hb)
  clear M_19
  have Yh_20 := Lib.hid (Yh_19.out.below hb (by first | omega | (rw [World.size_alloc]; omega)))
  clear Yh_19
  have Rh_20 := Lib.hid (Rh_19.out.below hb)
  clear Rh_19
  clear hb
  go_wp2
  go_ret
  exact ⟨rfl, BW_20.out⟩
end Go.Proofs.Ytalclebehbdliaa
