/-
  The program's signed sums of minors of a small matrix: what the plain words say, a list in new memory; nothing that was there before is changed.
-/
import Derived.Test.YtfbdmheaalmboaaPolyDet
import Derived.Test.YtfbdmheaalmboaaChoiceI
import Derived.Test.YtfbdmheaalmboaaTrimI
namespace Go.Proofs.Ytfbdmheaalmboaa
open Go Go.RowKit Go.Shelf

theorem small_sq {m : List (List Int)} (h : smallM m = true) : Sq 9 m.length m := by
  obtain ⟨h1, h2, h3⟩ := small_facts h
  have hf := isMat_facts h1
  exact ⟨rfl, fun i hi => hf.row i hi, fun i j hi hj => by have := h3 i j hi hj; omega⟩
theorem Sq.wide {B B' n : Nat} {t : List (List Int)} (h : Sq B n t) (hB : B ≤ B') : Sq B' n t := ⟨h.len, h.row, fun i j hi hj => Nat.le_trans (h.cell i j hi hj) hB⟩
theorem small_part {m : List (List Int)} (h : smallM m = true) {l : List Int} (hl : ∀ x ∈ l, 0 ≤ x ∧ x < (m.length : Int)) : Sq 10000 l.length (partM m l) := by
  have hs := (small_sq h).wide (show 9 ≤ 10000 by decide)
  obtain ⟨h1, h2⟩ := part_rows m l
  refine ⟨h1, h2, fun i j hi hj => ?_⟩
  have ha : ∀ k, k < l.length → (l.getD k 0).toNat < m.length := fun k hk => by
    rw [List.getD_eq_getElem?_getD, List.getElem?_eq_getElem hk]
    have := hl l[k] (List.getElem_mem hk)
    show (l[k]).toNat < _
    omega
  unfold partM
  rw [tabOf_cell hi hj]
  exact hs.cell _ _ (ha i hi) (ha j hj)

theorem enters_minor (args : Array Value) (w : World) : (callFunc 61 args).run Try.prog w = .ok (.enter 61 args) w := enters_of Try.func61 (by kernel_rfl) rfl args w

set_option maxRecDepth 100000 in
set_option maxHeartbeats 1600000 in
theorem minor_term (gt : Nat) (A : Option Addr) (c : Nat) (m : List (List Int)) (hm : smallM m = true) (k : Nat) (Al : Option Addr) (cl : Nat) (l : List Int) (hl4 : l.length ≤ 4) (hl : ∀ x ∈ l, 0 ≤ x ∧ x < (m.length : Int)) (W : World)
    (h1 : W.cell? ⟨gt, 0, none⟩ = some (.slice A m.length c)) (hg : GridS W A m) (hr : RowS W Al l) :
    Calls Try.prog 61 #[.int .i64 (k : Int), .slice Al l.length cl, .pointer (some ⟨gt, 0, none⟩)] W (Scalar (.int .i64 (minorI m l)) W) := by
  have hsq := small_part hm hl
  have HP := Lib.hid (impl_part A c m (isMat_facts (small_facts hm).1) Al cl l (by omega) (fun k hk => by
    rw [List.getD_eq_getElem?_getD, List.getElem?_eq_getElem hk]
    exact hl l[k] (List.getElem_mem hk)) W hg hr)
  have HD := Lib.hid (fun A c w h => impl_det l.length hl4 A c (partM m l) hsq w h)
  rw [det_part] at HD
  have HL : Hid ((partM m l).length = l.length) := Lib.hid (part_rows m l).1
  clear hsq hg hr hl hm
  generalize partM m l = pt at *
  generalize minorI m l = μ at *
  generalize l.length = ll at *
  go_enter Try.func61, Try.ntmps61
  go_wp2_with fail
  refine HP.out.mono ?_
  rintro e w1 ⟨v1, rfl, ho1, hb1⟩
  obtain ⟨A1, c1, rfl, hg1⟩ := ho1.gridR
  rw [HL.out]
  have HD1 := Lib.hid (HD.out A1 c1 w1 hg1)
  have HB1 := Lib.hid hb1
  clear ho1 hg1 hb1 HD HP
  go_wp2_with fail
  refine HD1.out.mono ?_
  rintro e w2 ⟨rfl, hb2⟩
  have HB2 := Lib.hid (below_behind HB1.out hb2)
  clear hb2
  go_wp2
  go_ret
  exact ⟨rfl, HB2.out⟩

set_option maxRecDepth 100000 in
set_option maxHeartbeats 3200000 in
theorem impl_turnedCoef (A : Option Addr) (c : Nat) (m : List (List Int)) (hm : smallM m = true) (w : World) (hg : GridS w A m) :
    Calls Try.prog 43 #[.slice A m.length c] w (NewA (turnedL m) w) := by
  obtain ⟨j0, hj, hy0, hy1, hy2⟩ := info_parts infoInt
  obtain ⟨_, h4, _⟩ := small_facts hm
  have hpos := (isMat_facts (small_facts hm).1).pos
  obtain ⟨W1, hW1⟩ : ∃ W1, w.alloc (.cells #[.slice A m.length c] 22) = W1 := ⟨_, rfl⟩
  have hb1 : Below w.heap.size w W1 := by rw [← hW1]; exact below_new
  have hbox : W1.cell? ⟨w.heap.size, 0, none⟩ = some (.slice A m.length c) := by rw [← hW1]; exact box_at w _ _
  have hlt : w.heap.size < W1.heap.size := cell_in hbox
  have HBOX : Hid (∀ w', Below W1.heap.size W1 w' → w'.cell? ⟨w.heap.size, 0, none⟩ = some (.slice A m.length c)) := Lib.hid fun w' hb => (hb.cell (p := ⟨w.heap.size, 0, none⟩) hlt).trans hbox
  have HTL : Hid ((turnedL m).length = m.length + 1) := Lib.hid (turnedL_len m)
  have HCH := Lib.hid (fun (k : Nat) (hk : k ≤ m.length) w' => impl_choices m.length (by omega) k (by omega) w')
  have HSUM : Hid (∀ (k : Nat) (w' : World) (Ac : Option Addr) (cc : Nat), k ≤ m.length → Below W1.heap.size W1 w' → GridC w' Ac (choicesL m.length k) → Calls Try.prog 60 #[.slice Ac (choicesL m.length k).length cc, .func (.func 61) #[] #[.pointer (some ⟨w.heap.size, 0, none⟩)]] w' (Scalar (.int .i64 (minorsN m k)) w')) := Lib.hid (by
    intro k w' Ac cc hk hb hgc
    have hin : ∀ i, i < (choicesL m.length k).length → ((choicesL m.length k).getD i []).length = k ∧ ∀ x ∈ (choicesL m.length k).getD i [], 0 ≤ x ∧ x < (m.length : Int) := fun i hi => by
      rw [List.getD_eq_getElem?_getD, List.getElem?_eq_getElem hi]
      exact choicesL_in (List.getElem_mem hi)
    have hlen := choicesL_len (n := m.length) (k := k)
    have h16 : 2 ^ m.length ≤ 2 ^ 4 := Nat.pow_le_pow_right (by decide) h4
    rw [← minors_choices h4 hk]
    refine sum_rows w'.heap.size w' 61 _ enters_minor Ac cc (choicesL m.length k) (fun t => minorI m ((choicesL m.length k).getD t [])) (fun i W A' c' hi hW hr hc => ?_) (by omega) (fun i hi => ?_) w' (Below.refl _ _) (Nat.le_refl _) hgc
    · obtain ⟨e1, e2⟩ := hin i hi
      have hbb := hb.trans (hW.mono hb.size)
      exact minor_term w.heap.size A c m hm i A' c' _ (by omega) e2 W (HBOX.out W hbb) ((hg.below hb1).below hbb) hr
    · have h1 := sumTo_abs (n := i) (B := 240000000000000000) (f := fun t => minorI m ((choicesL m.length k).getD t [])) fun t ht => by
        obtain ⟨e1, e2⟩ := hin t (by omega)
        have h2 := (small_part hm e2).abs
        rw [det_part, e1] at h2
        exact Nat.le_trans h2 (detB_mono 10000 (by omega) (Nat.le_refl _))
      omega)
  have HPW := Lib.hid (fun (k : Nat) (hk : k ≤ m.length) w => impl_power (-1) k (by omega) (fun i _ => by rw [sgn_pow]; rcases sgn_two i with e | e <;> rw [e] <;> decide) w)
  have HMA : Hid (∀ k, (minorsN m k).natAbs ≤ 1000000) := Lib.hid fun k => minors_abs hm k
  have HAT : Hid (∀ k, k ≤ m.length → (turnedL m).getD k 0 = sgn k * minorsN m k) := Lib.hid fun k hk => turnedL_at m hk
  have HB1 := Lib.hid hb1
  have HSZ : Hid (w.heap.size ≤ W1.heap.size) := Lib.hid hb1.size
  clear hg hm hb1 hbox
  go_enter Try.func43, Try.ntmps43
  have k0 := HBOX.out W1 (Below.refl _ _)
  go_wp2_with (at_make; refine wpList_make_full _ rfl _ _ 29 rfl W1.heap.size 3 j0 (.int .i64 0) 1 Try.underlying29 hj hy0 hy1 .i64 .i64 _ _ (m.length + 1) rfl rfl rfl rfl (by rw [hy2]; omega) (by unfold maxLen; omega) (Nat.le_refl _) ?_; intro w2 hown hgrow)
  have hown0 : w2.ownsRow W1.heap.size 3 1 (.slice (some ⟨W1.heap.size, 0, none⟩) (m.length + 1) (m.length + 1)) (m.length + 1) (filledI (turnedL m) 0 (m.length + 1)) := by
    have e : (madeCells (Value.int .i64 0).cells ((m.length + 1) * 1)).toList = List.replicate (m.length + 1) (.int .i64 0) := by rw [Nat.mul_one]; exact toList_madeCells_one _ _
    rw [filledI_none, ← e]; exact hown
  have hbel : Below W1.heap.size W1 w2 := (Below.refl _ _).grown hgrow (Nat.le_refl _) (fun k hk => by cases hk)
  clear hown hgrow hW1 k0
  go_loopw [13] (fun i wr => ∃ k : Nat, k ≤ m.length + 1 ∧ i = .int .i64 (k : Int) ∧ wr.ownsRow W1.heap.size 3 1 (.slice (some ⟨W1.heap.size, 0, none⟩) (m.length + 1) (m.length + 1)) (m.length + 1) (filledI (turnedL m) k (m.length + 1)) ∧ Below W1.heap.size W1 wr) (fun i _ => m.length + 1 - (intOf i).toNat)
  case atStart => exact ⟨0, Nat.zero_le _, rfl, hown0, hbel⟩
  case round =>
    obtain ⟨k, hk, rfl, ho, hbl⟩ := hrel
    by_cases hkl : k < m.length + 1
    · have k0 := HBOX.out wr hbl
      have C1 := Lib.hid (HCH.out k (by omega) wr)
      have HO := Lib.hid ho
      have HBL := Lib.hid hbl
      have HPK := Lib.hid (fun w => HPW.out k (by omega) w)
      have HATK := Lib.hid (HAT.out k (by omega))
      have HS := Lib.hid (fun w' Ac cc => HSUM.out k w' Ac cc (by omega))
      have hma := HMA.out k
      clear ho hbl
      rw [sgn_pow] at HPK
      generalize minorsN m k = μ at *
      have hsg := sgn_two k
      generalize sgn k = σ at *
      have hw : RowKit.wrap64 (σ * μ) = σ * μ := by rcases hsg with e | e <;> rw [e] <;> unfold RowKit.wrap64 <;> omega
      have HW := Lib.hid hw
      clear hw hsg hma
      go_wp2_with fail
      refine C1.out.mono ?_
      rintro e w3 ⟨v3, rfl, ho3, hb3⟩
      obtain ⟨A3, c3, rfl, hg3⟩ := ho3.gridC
      have hb13 := HBL.out.trans (hb3.mono HBL.out.size)
      have k3 := HBOX.out w3 hb13
      have S1 := Lib.hid (HS.out w3 A3 c3 hb13 hg3)
      have HB3 := Lib.hid hb13
      have HO3 := Lib.hid (kept_below HO.out hb3)
      clear ho3 hb3 hg3 hb13 C1 HS k0
      go_wp2_with fail
      refine S1.out.mono ?_
      rintro e w4 ⟨rfl, hb4⟩
      have HB4 := Lib.hid (HB3.out.trans (hb4.mono HB3.out.size))
      have HO4 := Lib.hid (kept_below HO3.out hb4)
      clear hb4 S1 HO3 HB3
      go_wp2_with fail
      refine (HPK.out w4).mono ?_
      rintro e w5 ⟨rfl, rfl⟩
      have hc2 : w5.cell? ⟨W1.heap.size, k, none⟩ = some (.int .i64 0) := (HO4.out.cellAt k (by omega)).trans (by have h := filledI_at (turnedL m) k (by rw [HTL.out]; exact hkl); rw [HTL.out] at h; exact h)
      have hf2 : w5.frozen? ⟨W1.heap.size, k, none⟩ = false := HO4.out.frozenAt k
      have hst := (HO4.out.stored k (.int .i64 (RowKit.wrap64 (σ * μ)))).1
      have hset := filledI_set (turnedL m) k (by rw [HTL.out]; exact hkl)
      rw [HTL.out, HATK.out] at hset
      rw [HW.out, hset] at hst
      have HST := Lib.hid hst
      clear hst hset k3
      go_wp2
      go_roundw
      case rel => exact ⟨k + 1, by omega, by go_num, by have h := HST.out; rw [← HW.out] at h; exact h, HB4.out.setCell (Nat.le_refl _) _⟩
      case measure => simp [intOf]; omega
    · obtain rfl : k = m.length + 1 := by omega
      have HO : Hid (OwnA wr w.heap.size (.slice (some ⟨W1.heap.size, 0, none⟩) (m.length + 1) (m.length + 1)) (turnedL m)) := Lib.hid (by
        have h := filledI_all (turnedL m)
        rw [HTL.out] at h
        rw [h] at ho
        unfold OwnA
        rw [HTL.out]
        exact World.ownsRow.mono ho HSZ.out)
      have HBL : Hid (Below w.heap.size w wr) := Lib.hid (below_behind HB1.out hbl)
      clear ho
      go_wp2
      go_ret
      exact ⟨_, rfl, HO.out, HBL.out⟩
end Go.Proofs.Ytfbdmheaalmboaa
