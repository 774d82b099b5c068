/-
  The program's MeetShifts: at every two shifts in memory what the plain words say, in new memory; nothing that was there before is changed.
-/
import Derived.Test.YtalclebehbdliaaGreatAreI
import Derived.Test.YtalclebehbdliaaGreatBaseTexts
import Derived.Test.YtalclebehbdliaaGreatPresMeet
import Derived.Deep.RegionHeld3
namespace Go.Proofs.YtalclebehbdliaaGreat
open Go Go.RowKit

/-- What there is to know where both are shifts with the same letters. -/
theorem meet_is {L : Int} {ps : List ByteArray} {L' : Int} {qs : List ByteArray} (h : haveB L ps L' qs = true) : ps.length ≤ 8 ∧ qs.length ≤ 8 ∧ (∀ x ∈ ps ++ qs, x.size ≤ 3) ∧ withoutS L (ps ++ qs) = meetS L ps L' qs := by
  unfold haveB at h
  simp only [Bool.and_eq_true, decide_eq_true_eq] at h
  obtain ⟨⟨h1, h2⟩, rfl⟩ := h
  refine ⟨(isShift_letters h1).2.2, (isShift_letters h2).2.2, fun x hx => ?_, ?_⟩
  · rcases List.mem_append.1 hx with hx | hx
    · exact (shift_words h1 x hx).2.2
    · exact (shift_words h2 x hx).2.2
  · have hm := meet_shift h1 h2
    unfold withoutS meetS
    rw [meet_asc (shift_asc h1), hm, h1, h2]
    by_cases h8 : (putAll qs ps).length ≤ 8
    · rw [decide_eq_true h8]; simp
    · rw [decide_eq_false h8]; simp
theorem meet_not {L : Int} {ps : List ByteArray} {L' : Int} {qs : List ByteArray} (h : haveB L ps L' qs = false) : meetS L ps L' qs = none := by
  unfold haveB at h
  unfold meetS
  rw [h]; rfl
theorem pair_new {w : World} {a b : Value} {t : TypeId} : (w.alloc (.cells #[a, b] t)).cell? ⟨w.heap.size, 0, none⟩ = some a ∧ (w.alloc (.cells #[a, b] t)).cell? ⟨w.heap.size, 1, none⟩ = some b := by
  have h : (w.alloc (.cells #[a, b] t)).heap[w.heap.size]? = some (.cells #[a, b] t (0, 0)) := heap_alloc_new w _
  unfold World.cell?
  constructor <;> (rw [h]; rfl)
theorem cell_stores {W : World} {h : Nat} {x y : Value} {p : Addr} (hp : p.block ≠ h) : ((W.setCell ⟨h, 0, none⟩ x).setCell ⟨h, 1, none⟩ y).cell? p = W.cell? p :=
  (World.cell?_of_block (Below.heap_setCell _ ⟨h, 1, none⟩ y p.block hp)).trans (World.cell?_of_block (Below.heap_setCell _ ⟨h, 0, none⟩ x p.block hp))

set_option maxRecDepth 100000 in
set_option maxHeartbeats 3200000 in
theorem impl_meetShifts (L L' : Int) (G G' : Option Addr) (c c' : Nat) (ps qs : List ByteArray) (hl : ps.length ≤ 1048576) (hl' : qs.length ≤ 1048576) (hz : ∀ k, k < ps.length → (ps.getD k ByteArray.empty).size ≤ 2147483648) (hz' : ∀ k, k < qs.length → (qs.getD k ByteArray.empty).size ≤ 2147483648) (w : World) (hs : StrsG w G ps) (hs' : StrsG w G' qs) :
    Calls Tryz.prog 13 #[.agg #[.int .i64 L, .slice G ps.length c], .agg #[.int .i64 L', .slice G' qs.length c']] w (NewShB (meetS L ps L' qs) w) := by
  have HA := Lib.hid (fun w' (h : Below w.heap.size w w') => impl_haveSame L L' G G' c c' ps qs hl hl' hz hz' w' (hs.below h) (hs'.below h))
  have HQ := Lib.hid (fun w' (h : Below w.heap.size w w') => (show StrsG w' G ps ∧ StrsG w' G' qs from ⟨hs.below h, hs'.below h⟩))
  have HYES := Lib.hid (fun h => meet_is (L := L) (ps := ps) (L' := L') (qs := qs) h)
  have HNOT := Lib.hid (fun h => meet_not (L := L) (ps := ps) (L' := L') (qs := qs) h)
  obtain ⟨R, hR⟩ : ∃ R, meetS L ps L' qs = R := ⟨_, rfl⟩
  rw [hR] at HYES HNOT ⊢
  clear hs hs' hz hz' hR
  go_enter Tryz.func13, Tryz.ntmps13
  go_wp2_with fail
  obtain ⟨Wb, hWb⟩ : ∃ Wb, ((w.alloc (.cells #[.int .i64 L, .slice G ps.length c] 26)).alloc (.cells #[.int .i64 L', .slice G' qs.length c'] 26)).alloc (.cells #[.int .i64 0, .slice none 0 0] 26) = Wb := ⟨_, rfl⟩
  have sb : Wb.heap.size = w.heap.size + 1 + 1 + 1 := by rw [← hWb]; simp
  have xb : BoxAt Wb w.heap.size L (.slice G ps.length c) := by
    rw [← hWb]
    exact (boxAt_new w L _ 26).below (((Below.refl (w.heap.size + 1) _).alloc (by simp) _).alloc (by simp) _) (by omega)
  have xb' : BoxAt Wb (w.heap.size + 1) L' (.slice G' qs.length c') := by
    rw [← hWb]
    have h := boxAt_new (w.alloc (.cells #[.int .i64 L, .slice G ps.length c] 26)) L' (.slice G' qs.length c') 26
    rw [World.size_alloc] at h
    exact h.below ((Below.refl (w.heap.size + 1 + 1) _).alloc (by simp) _) (by omega)
  have rb : Wb.heap[w.heap.size + 1 + 1]? = some (.cells #[.int .i64 0, .slice none 0 0] 26) := by
    rw [← hWb]
    have h := heap_alloc_new ((w.alloc (.cells #[.int .i64 L, .slice G ps.length c] 26)).alloc (.cells #[.int .i64 L', .slice G' qs.length c'] 26)) (.cells #[.int .i64 0, .slice none 0 0] 26)
    rw [World.size_alloc, World.size_alloc] at h; exact h
  have bb : Below w.heap.size w Wb := by rw [← hWb]; exact (((Below.refl _ _).alloc (Nat.le_refl _) _).alloc (by simp) _).alloc (by simp; omega) _
  rw [hWb]
  clear hWb
  have XB := Lib.hid (fun w' (h : Below Wb.heap.size Wb w') => (show w'.cell? ⟨w.heap.size, 0, none⟩ = some (.int .i64 L) ∧ w'.cell? ⟨w.heap.size, 1, none⟩ = some (.slice G ps.length c) ∧ w'.cell? ⟨w.heap.size + 1, 0, none⟩ = some (.int .i64 L') ∧ w'.cell? ⟨w.heap.size + 1, 1, none⟩ = some (.slice G' qs.length c') from ⟨(xb.below h (by omega)).1, (xb.below h (by omega)).2, (xb'.below h (by omega)).1, (xb'.below h (by omega)).2⟩))
  have RB := Lib.hid (fun w' (h : Below Wb.heap.size Wb w') => (h.block (w.heap.size + 1 + 1) (by omega)).trans rb)
  have BB := Lib.hid (fun w' (h : Below Wb.heap.size Wb w') => bb.trans (h.mono (by omega)))
  have HNO : Hid (∀ w', Below Wb.heap.size Wb w' → NewShB none w (.returned (.tuple #[.agg #[.int .i64 0, .slice none 0 0], .bool false])) ((w'.setCell ⟨w.heap.size + 1 + 1, 0, none⟩ (.int .i64 0)).setCell ⟨w.heap.size + 1 + 1, 1, none⟩ (.slice none 0 0))) := Lib.hid fun w' h => ⟨_, rfl, ownSh_nil _ _ _, below_stores (bb.trans (h.mono (by omega))) (by omega) _ _⟩
  clear xb xb' rb bb
  refine (HA.out Wb (BB.out Wb (Below.refl _ _))).mono ?_
  rintro e w1 ⟨rfl, h1⟩
  have B1 : Hid (Below Wb.heap.size Wb w1) := Lib.hid h1
  clear h1
  obtain ⟨x0, x1, x2, x3⟩ := XB.out w1 B1.out
  cases hh : haveB L ps L' qs with
  | false =>
    have HN : Hid (R = none) := Lib.hid (HNOT.out hh)
    have h5 := RB.out w1 B1.out
    obtain ⟨d0, d1, d2⟩ := sh_cells h5
    have HH := Lib.hid h5
    clear hh h5 HYES HNOT
    go_wp2
    refine bodyPost_ret (results_sh rfl _ _ (w.heap.size + 1 + 1) 26 #[.int .i64 0, .slice none 0 0] (0, 0) _ rfl (sh_stores HH.out) Tryz.underlying26 rfl (by kernel_rfl)) rfl ?_
    rw [HN.out]
    exact HNO.out w1 B1.out
  | true =>
    obtain ⟨h8, h8', hx3, hfin⟩ := HYES.out hh
    have s1 := B1.out.size
    have HCC : Hid (∀ (g cc : Nat) (W : World), Below Wb.heap.size Wb W → W.cell? ⟨g, 0, none⟩ = some (.slice G ps.length c) → W.cell? ⟨g, 1, none⟩ = some (.slice G' qs.length c') → g < W.heap.size → Calls Tryz.prog 57 #[.slice (some ⟨g, 0, none⟩) 2 cc] W (ListPost (ps ++ qs) W)) := Lib.hid fun g cc W hb h1 h2 hg => concat_strs g cc G G' c c' ps qs (by omega) (by omega) W h1 h2 hg (HQ.out W (BB.out W hb)).1 (HQ.out W (BB.out W hb)).2
    have HCW : Hid (∀ (v : Value) (W : World), Below Wb.heap.size Wb W → W.ownsRow Wb.heap.size 9 1 v (ps ++ qs).length ((ps ++ qs).map Value.string) → Calls Tryz.prog 48 #[.int .i64 L, v] W (ShPost Wb.heap.size Wb R)) := Lib.hid fun v W hb ho => by
      rw [← hfin]
      exact impl_without Wb.heap.size Wb L v (ps ++ qs) (by rw [List.length_append]; omega) (fun x hx => by have := hx3 x hx; omega) W hb hb.size ho
    clear hh hx3 hfin HYES HNOT HQ HA
    go_wp2
    have hk0 : Below Wb.heap.size Wb w1.drew := B1.out.drew
    have hkA : ∀ o, Below Wb.heap.size Wb (w1.alloc o).drew := fun o => (B1.out.alloc s1 o).drew
    have hsA : ∀ o, w1.heap.size < (w1.alloc o).drew.heap.size := fun o => by show w1.heap.size < (w1.alloc o).heap.size; rw [World.size_alloc]; omega
    go_region_held3 (fun w' => w'.cell? ⟨w.heap.size, 0, none⟩ = some (.int .i64 L) ∧ w'.cell? ⟨w.heap.size, 1, none⟩ = some (.slice G ps.length c) ∧ w'.cell? ⟨w.heap.size + 1, 0, none⟩ = some (.int .i64 L') ∧ w'.cell? ⟨w.heap.size + 1, 1, none⟩ = some (.slice G' qs.length c')) (first | assumption | exact XB.out _ hk3 | exact ⟨(cell_stores (show w.heap.size ≠ w.heap.size + 1 + 1 by omega)).trans y0, (cell_stores (show w.heap.size ≠ w.heap.size + 1 + 1 by omega)).trans y1, (cell_stores (show w.heap.size + 1 ≠ w.heap.size + 1 + 1 by omega)).trans y2, (cell_stores (show w.heap.size + 1 ≠ w.heap.size + 1 + 1 by omega)).trans y3⟩ | exact XB.out _ hk2 | exact XB.out _ (hkA _) | go_keep) (first
      | (go_at_call 57; refine (HCC.out _ _ _ (hkA _) pair_new.1 pair_new.2 (hsA _)).mono ?_; rintro e u2 ⟨v2, rfl, ho2, k2⟩; have hk2 : Below Wb.heap.size Wb u2 := (hkA _).trans (k2.mono (hkA _).size); have HO2 := Lib.hid (World.ownsRow.mono ho2 (hkA _).size); clear ho2 k2)
      | (go_at_call 48; refine (HCW.out _ _ hk2 HO2.out).mono ?_; rintro e u3 ⟨v3, rfl, ho3, hk3⟩; obtain ⟨G4, c4, rfl, hown⟩ := ho3; have h5 := RB.out u3 hk3; obtain ⟨d0, d1, d2⟩ := sh_cells h5; have HH := Lib.hid h5; have HOW := Lib.hid hown; obtain ⟨y0, y1, y2, y3⟩ := XB.out u3 hk3; clear h5 hown))
    go_wp2
    refine bodyPost_ret (results_sh rfl _ _ (w.heap.size + 1 + 1) 26 #[.int .i64 (R.getD (0, [])).1, .slice G4 (R.getD (0, [])).2.length c4] (0, 0) _ rfl (sh_stores HH.out) Tryz.underlying26 rfl (by kernel_rfl)) rfl ?_
    exact ⟨_, rfl, ⟨G4, c4, rfl, World.ownsRow.mono (owns_stores HOW.out (by omega)) (by omega)⟩, below_stores (BB.out _ hk3) (by omega) _ _⟩
end Go.Proofs.YtalclebehbdliaaGreat
