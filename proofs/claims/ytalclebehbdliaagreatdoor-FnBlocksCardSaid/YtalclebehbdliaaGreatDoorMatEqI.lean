/-
  The program's EqualMatrix: what the plain words say; nothing that was there before is changed.
-/
import Derived.Test.YtalclebehbdliaaGreatDoorSquareOf
import Derived.Test.YtalclebehbdliaaGreatDoorRowEnds
import Derived.Deep.Draws
namespace Go.Proofs.YtalclebehbdliaaGreatDoor
open Go Go.RowKit

set_option maxRecDepth 100000 in
set_option maxHeartbeats 800000 in
theorem equal_row (A1 A2 : Option Addr) (c1 c2 : Nat) (xs ys : List Int) (hx : xs.length ≤ 1099511627776) (w : World) (h1 : RowS w A1 xs) (h2 : RowS w A2 ys) :
    Calls Tryz.prog 85 #[.slice A1 xs.length c1, .slice A2 ys.length c2] w (BelowBool (decide (xs = ys)) w) := by
  have H1 := Lib.hid h1
  have H2 := Lib.hid h2
  clear h1 h2
  by_cases hl : xs.length = ys.length
  · have HF : Hid (∀ k, k < xs.length → ¬ xs.getD k 0 = ys.getD k 0 → decide (xs = ys) = false) := Lib.hid (fun k _ h => decide_eq_false (fun e => h (by rw [e])))
    have HT : Hid (xs.take xs.length = ys.take xs.length → decide (xs = ys) = true) := Lib.hid (fun h => decide_eq_true (lists_same h rfl hl.symm))
    have HN : Hid (∀ k, k < xs.length → xs.take k = ys.take k → xs.getD k 0 = ys.getD k 0 → xs.take (k + 1) = ys.take (k + 1)) := Lib.hid (fun k hk h e => take_same_next h hk (by omega) e)
    generalize decide (xs = ys) = r at *
    rw [← hl]
    have HL := Lib.hid hl
    clear hl
    go_enter Tryz.func85, Tryz.ntmps85
    go_wp2
    go_loopw [13] (fun i wr => ∃ k q : Nat, k ≤ xs.length ∧ i = .int .i64 k ∧ wr = w.drewN q ∧ Hid (xs.take k = ys.take k)) (fun i _ => xs.length - (intOf i).toNat)
    case atStart => exact ⟨0, 0, Nat.zero_le _, rfl, rfl, Lib.hid rfl⟩
    case round =>
      obtain ⟨k, q, hk, rfl, rfl, hs⟩ := hrel
      by_cases hlt : k < xs.length
      · obtain ⟨b1, o1, rfl, s1, _⟩ := H1.out (by omega)
        obtain ⟨b2, o2, rfl, s2, _⟩ := H2.out (by have := HL.out; omega)
        have ha := s1 k hlt
        have hb := s2 k (by have := HL.out; omega)
        have HF1 := Lib.hid (HF.out k hlt)
        have HN1 := Lib.hid (HN.out k hlt hs.out)
        clear s1 s2
        generalize xs.getD k 0 = x at ha HF1 HN1
        generalize ys.getD k 0 = y at hb HF1 HN1
        by_cases hxy : x = y
        · subst hxy
          have HN2 := Lib.hid (HN1.out rfl)
          clear HN1 HF1
          go_wp2
          go_quiet (fail)
          go_wp2
          go_roundw
          case rel => exact ⟨k + 1, q + nq, by omega, by go_num, rfl, HN2⟩
          case measure => simp [intOf]; omega
        · have hr := HF1.out hxy
          subst hr
          clear HN1 HF1
          go_wp2
          go_quiet (fail)
          go_wp2
          go_ret
          exact ⟨rfl, below_drewN (below_drewN (Below.refl _ _) _) _⟩
      · obtain rfl : k = xs.length := by omega
        have hr := HT.out hs.out
        subst hr
        go_wp2
        go_ret
        exact ⟨rfl, below_drewN (Below.refl _ _) _⟩
  · have hr : decide (xs = ys) = false := decide_eq_false (fun e => hl (by rw [e]))
    rw [hr]
    have hne : ¬ (xs.length : Int) = (ys.length : Int) := by omega
    go_enter Tryz.func85, Tryz.ntmps85
    go_wp2
    go_ret
    exact ⟨rfl, Below.refl _ _⟩

set_option maxRecDepth 100000 in
set_option maxHeartbeats 1600000 in
theorem equal_func (A1 A2 : Option Addr) (c1 c2 : Nat) (a b : List (List Int)) (ha : a.length ≤ 1048576) (ta : tot a ≤ 1048576) (w : World) (h1 : GridS w A1 a) (h2 : GridS w A2 b) :
    Calls Tryz.prog 84 #[.slice A1 a.length c1, .slice A2 b.length c2, .func (.func 85) #[] #[]] w (BelowBool (decide (a = b)) w) := by
  have H1 := Lib.hid h1
  have H2 := Lib.hid h2
  clear h1 h2
  by_cases hl : a.length = b.length
  · have HF : Hid (∀ k, k < a.length → decide (a.getD k [] = b.getD k []) = false → decide (a = b) = false) := Lib.hid (fun k _ h => decide_eq_false (fun e => (of_decide_eq_false h) (by rw [e])))
    have HT : Hid (a.take a.length = b.take a.length → decide (a = b) = true) := Lib.hid (fun h => decide_eq_true (lists_same h rfl hl.symm))
    have HN : Hid (∀ k, k < a.length → a.take k = b.take k → decide (a.getD k [] = b.getD k []) = true → a.take (k + 1) = b.take (k + 1)) := Lib.hid (fun k hk h e => rows_same_next h hk (by omega) (of_decide_eq_true e))
    generalize decide (a = b) = r at *
    rw [← hl]
    have HL := Lib.hid hl
    clear hl
    go_enter Tryz.func84, Tryz.ntmps84
    go_wp2
    go_loopw [17] (fun i wr => ∃ k : Nat, k ≤ a.length ∧ i = .int .i64 k ∧ Below w.heap.size w wr ∧ Hid (a.take k = b.take k)) (fun i _ => a.length - (intOf i).toNat)
    case atStart => exact ⟨0, Nat.zero_le _, rfl, Below.refl _ _, Lib.hid rfl⟩
    case round =>
      obtain ⟨k, hk, rfl, hbl, hs⟩ := hrel
      by_cases hlt : k < a.length
      · obtain ⟨b1, o1, R1, d1, rfl, k1, hr1, hb1⟩ := (H1.out.below hbl).row hlt
        obtain ⟨b2, o2, R2, d2, rfl, k2, hr2, hb2⟩ := (H2.out.below hbl).row (k := k) (by have := HL.out; omega)
        have hx : (a.getD k []).length ≤ 1048576 := Nat.le_trans (row_le_tot hlt) ta
        have HF1 := Lib.hid (HF.out k hlt)
        have HN1 := Lib.hid (HN.out k hlt hs.out)
        generalize a.getD k [] = x at k1 hr1 hx HF1 HN1
        generalize b.getD k [] = y at k2 hr2 HF1 HN1
        have HE := Lib.hid (equal_row R1 R2 d1 d2 x y (by omega) wr hr1 hr2)
        have HB := Lib.hid hbl
        clear hbl hr1 hr2
        cases hd : decide (x = y) with
        | true =>
          have HN2 := Lib.hid (HN1.out hd)
          rw [hd] at HE
          clear hd HN1 HF1
          go_wp2_with fail
          refine HE.out.mono ?_
          rintro e w2 ⟨rfl, hb3⟩
          have HB3 := Lib.hid (HB.out.trans (hb3.mono HB.out.size))
          clear hb3
          go_wp2
          go_roundw
          case rel => exact ⟨k + 1, by omega, by go_num, HB3.out, HN2⟩
          case measure => simp [intOf]; omega
        | false =>
          have hr := HF1.out hd
          subst hr
          rw [hd] at HE
          clear hd HN1 HF1
          go_wp2_with fail
          refine HE.out.mono ?_
          rintro e w2 ⟨rfl, hb3⟩
          have HB3 := Lib.hid (HB.out.trans (hb3.mono HB.out.size))
          clear hb3
          go_wp2
          go_ret
          exact ⟨rfl, HB3.out⟩
      · obtain rfl : k = a.length := by omega
        have hr := HT.out hs.out
        subst hr
        go_wp2
        go_ret
        exact ⟨rfl, hbl⟩
  · have hr : decide (a = b) = false := decide_eq_false (fun e => hl (by rw [e]))
    rw [hr]
    have hne : ¬ (a.length : Int) = (b.length : Int) := by omega
    go_enter Tryz.func84, Tryz.ntmps84
    go_wp2
    go_ret
    exact ⟨rfl, Below.refl _ _⟩

theorem sqEq_iff (f g : Nat → Nat → Int) : sqEq f g (List.range 9) = true ↔ ∀ i j, i < 9 → j < 9 → f i j = g i j := by
  unfold sqEq
  rw [List.all_eq_true]
  constructor
  · intro h i j hi hj
    have h1 := h i (List.mem_range.2 hi)
    unfold rowEq at h1
    rw [List.all_eq_true] at h1
    exact eq_of_beq (h1 j (List.mem_range.2 hj))
  · intro h i hi
    unfold rowEq
    rw [List.all_eq_true]
    intro j hj
    rw [h i j (List.mem_range.1 hi) (List.mem_range.1 hj)]
    exact beq_self_eq_true _
theorem sqEq_mats {a b : List (List Int)} (fa : MatFacts a) (fb : MatFacts b) (hab : a.length = b.length) : sqEq (cellOf a) (cellOf b) (List.range 9) = decide (a = b) := by
  have h : sqEq (cellOf a) (cellOf b) (List.range 9) = true ↔ decide (a = b) = true := by
    rw [sqEq_iff, decide_eq_true_iff]
    constructor
    · intro h
      have la := fa.le
      have ea := tabOf_self fun i hi => fa.row i hi
      have eb := tabOf_self fun i hi => fb.row i hi
      rw [← ea, ← eb, ← hab]
      exact tabOf_congr fun i j hi hj => h i j (by omega) (by omega)
    · rintro rfl i j _ _
      rfl
  cases h1 : decide (a = b) with
  | true => exact h.2 h1
  | false =>
    cases h2 : sqEq (cellOf a) (cellOf b) (List.range 9) with
    | false => rfl
    | true => rw [h.1 h2] at h1; cases h1

set_option maxRecDepth 100000 in
set_option maxHeartbeats 1600000 in
theorem impl_equalMatrix (A1 A2 : Option Addr) (c1 c2 : Nat) (a b : List (List Int)) (ha : a.length ≤ 1048576) (hb : b.length ≤ 1048576) (ta : tot a ≤ 1048576) (tb : tot b ≤ 1048576) (w : World) (h1 : GridS w A1 a) (h2 : GridS w A2 b) :
    Calls Tryz.prog 56 #[.slice A1 a.length c1, .slice A2 b.length c2] w (BelowBool (decide (a = b)) w) := by
  have I1 := Lib.hid (fun w' (hb : Below w.heap.size w w') => impl_isMatrix A1 c1 a (by omega) (fun k hk => by have := row_le_tot hk; omega) w' (h1.below hb))
  have I2 := Lib.hid (fun w' (hb : Below w.heap.size w w') => impl_isMatrix A2 c2 b (by omega) (fun k hk => by have := row_le_tot hk; omega) w' (h2.below hb))
  have HF := Lib.hid (fun w' (hb : Below w.heap.size w w') => equal_func A1 A2 c1 c2 a b ha ta w' (h1.below hb) (h2.below hb))
  cases ma : isMat a with
  | false =>
    rw [ma] at I1
    clear h1 h2 I2
    generalize decide (a = b) = r at *
    go_enter Tryz.func56, Tryz.ntmps56
    go_wp2_with fail
    refine (I1.out w (Below.refl _ _)).mono ?_
    rintro e w1 ⟨rfl, rfl⟩
    go_wp2_with fail
    refine (HF.out _ (Below.refl _ _)).mono ?_
    rintro e w2 ⟨rfl, b2⟩
    go_wp2
    go_ret
    exact ⟨rfl, b2⟩
  | true =>
    rw [ma] at I1
    cases mb : isMat b with
    | false =>
      rw [mb] at I2
      clear h1 h2
      generalize decide (a = b) = r at *
      go_enter Tryz.func56, Tryz.ntmps56
      go_wp2_with fail
      refine (I1.out w (Below.refl _ _)).mono ?_
      rintro e w1 ⟨rfl, rfl⟩
      go_wp2_with fail
      refine (I2.out w1 (Below.refl _ _)).mono ?_
      rintro e w2 ⟨rfl, rfl⟩
      go_wp2_with fail
      refine (HF.out _ (Below.refl _ _)).mono ?_
      rintro e w3 ⟨rfl, b3⟩
      go_wp2
      go_ret
      exact ⟨rfl, b3⟩
    | true =>
      rw [mb] at I2
      have fa := isMat_facts ma
      have fb := isMat_facts mb
      by_cases hab : a.length = b.length
      · have HQ1 := Lib.hid (fun w' (hb : Below w.heap.size w w') => impl_squareOf A1 c1 a fa w' (h1.below hb))
        have HQ2 := Lib.hid (fun w' (hb : Below w.heap.size w w') => impl_squareOf A2 c2 b fb w' (h2.below hb))
        have heq := fun w' => run_eq_sq (cellOf a) (cellOf b) w'
        rw [sqEq_mats fa fb hab] at heq
        have hne : ((a.length : Int) == (a.length : Int)) = true := by simp
        rw [← hab] at I2 HQ2 ⊢
        clear h1 h2 fa fb ma mb hab HF
        generalize decide (a = b) = r at *
        go_enter Tryz.func56, Tryz.ntmps56
        go_wp2_with fail
        refine (I1.out w (Below.refl _ _)).mono ?_
        rintro e w1 ⟨rfl, rfl⟩
        go_wp2_with fail
        refine (I2.out w1 (Below.refl _ _)).mono ?_
        rintro e w2 ⟨rfl, rfl⟩
        go_wp2_with fail
        refine (HQ1.out w2 (Below.refl _ _)).mono ?_
        rintro e w3 ⟨rfl, b3⟩
        have B3 := Lib.hid b3
        clear b3
        go_wp2_with fail
        refine (HQ2.out w3 B3.out).mono ?_
        rintro e w4 ⟨rfl, b4⟩
        have B4 := Lib.hid (B3.out.trans (b4.mono B3.out.size))
        clear b4
        go_wp2
        go_ret
        exact ⟨rfl, B4.out⟩
      · have hr : decide (a = b) = false := decide_eq_false (fun e => hab (by rw [e]))
        rw [hr]
        have hne : ((a.length : Int) == (b.length : Int)) = false := by rw [beq_eq_false_iff_ne]; omega
        clear h1 h2 HF fa fb
        go_enter Tryz.func56, Tryz.ntmps56
        go_wp2_with fail
        refine (I1.out w (Below.refl _ _)).mono ?_
        rintro e w1 ⟨rfl, rfl⟩
        go_wp2_with fail
        refine (I2.out w1 (Below.refl _ _)).mono ?_
        rintro e w2 ⟨rfl, rfl⟩
        go_wp2
        go_ret
        exact ⟨rfl, Below.refl _ _⟩
end Go.Proofs.YtalclebehbdliaaGreatDoor
