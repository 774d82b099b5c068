/-
  The program's TurnMatrix and MultiplyMatrices: what the plain words say, in new memory; nothing that was there before is changed.
-/
import Derived.Test.YtalclebehbdliaaGreatDoorSquareTimes
import Derived.Test.YtalclebehbdliaaGreatDoorSquareRows
import Derived.Test.YtalclebehbdliaaGreatDoorRowEnds
import Derived.Test.YtalclebehbdliaaGreatDoorBaseTexts
namespace Go.Proofs.YtalclebehbdliaaGreatDoor
open Go Go.RowKit

theorem ownG_nil (w : World) (B : Nat) : OwnG w B (.slice none 0 0) [] := ⟨[], ⟨rfl, .inl ⟨rfl, rfl⟩⟩, RowsOwn.nil _ _ _⟩

theorem sumTo_cut {f : Nat → Int} {n : Nat} (h : ∀ k, n ≤ k → f k = 0) : ∀ d, sumTo (n + d) f = sumTo n f
  | 0 => rfl
  | d + 1 => by
    rw [← Nat.add_assoc, sumTo, sumTo_cut h d, h (n + d) (by omega)]; omega
theorem cellOf_beyond {m : List (List Int)} (h : MatFacts m) {i k : Nat} (hi : i < m.length) (hk : m.length ≤ k) : cellOf m i k = 0 := by
  have := h.row i hi
  unfold cellOf
  rw [List.getD_eq_getElem?_getD, List.getElem?_eq_none (by omega)]
  rfl
theorem termsQ_mul {a b : List (List Int)} (fa : MatFacts a) (hab : a.length = b.length) : tabOf a.length a.length (fun i j => termsQ (cellOf a) (cellOf b) i j 9) = mulM a b := by
  unfold mulM
  rw [← hab]
  refine tabOf_congr fun i j hi _ => ?_
  have hle := fa.le
  obtain ⟨d, hd⟩ : ∃ d, 9 = a.length + d := ⟨9 - a.length, by omega⟩
  unfold termsQ
  rw [hd]
  exact sumTo_cut (fun k hk => by rw [cellOf_beyond fa hi hk, Int.zero_mul]) d

set_option maxRecDepth 100000 in
set_option maxHeartbeats 1600000 in
theorem impl_multiply (A1 A2 : Option Addr) (c1 c2 : Nat) (a b : List (List Int)) (ha : a.length ≤ 1048576) (hb : b.length ≤ 1048576) (ta : tot a ≤ 1048576) (tb : tot b ≤ 1048576) (w : World) (h1 : GridS w A1 a) (h2 : GridS w A2 b) :
    Calls Tryz.prog 71 #[.slice A1 a.length c1, .slice A2 b.length c2] w (NewGB (prodM a b) w) := by
  have I1 := Lib.hid (fun w' (hb : Below w.heap.size w w') => impl_isMatrix A1 c1 a (by omega) (fun k hk => by have := row_le_tot hk; omega) w' (h1.below hb))
  have I2 := Lib.hid (fun w' (hb : Below w.heap.size w w') => impl_isMatrix A2 c2 b (by omega) (fun k hk => by have := row_le_tot hk; omega) w' (h2.below hb))
  have HE := Lib.hid (ownG_nil w w.heap.size)
  cases ma : isMat a with
  | false =>
    rw [ma] at I1
    rw [prodM_none (Or.inl ma)]
    clear h1 h2 I2
    go_enter Tryz.func71, Tryz.ntmps71
    go_wp2_with fail
    refine (I1.out w (Below.refl _ _)).mono ?_
    rintro e w1 ⟨rfl, rfl⟩
    go_wp2
    go_ret2
    exact ⟨_, rfl, HE.out, Below.refl _ _⟩
  | true =>
    rw [ma] at I1
    cases mb : isMat b with
    | false =>
      rw [mb] at I2
      rw [prodM_none (Or.inr (Or.inl mb))]
      clear h1 h2
      go_enter Tryz.func71, Tryz.ntmps71
      go_wp2_with fail
      refine (I1.out w (Below.refl _ _)).mono ?_
      rintro e w1 ⟨rfl, rfl⟩
      go_wp2_with fail
      refine (I2.out w1 (Below.refl _ _)).mono ?_
      rintro e w2 ⟨rfl, rfl⟩
      go_wp2
      go_ret2
      exact ⟨_, rfl, HE.out, Below.refl _ _⟩
    | true =>
      rw [mb] at I2
      by_cases hab : a.length = b.length
      · rw [prodM_if ma mb hab]
        have fa := isMat_facts ma
        have fb := isMat_facts mb
        have l1 := fa.le
        have HQ1 := Lib.hid (fun w' (hb : Below w.heap.size w w') => impl_squareOf A1 c1 a fa w' (h1.below hb))
        have HQ2 := Lib.hid (fun w' (hb : Below w.heap.size w w') => impl_squareOf A2 c2 b fb w' (h2.below hb))
        have HT := Lib.hid (fun w' => impl_times (cellOf a) (cellOf b) (smallF_cell fa) (smallF_cell fb) w')
        have HR := Lib.hid (fun w' => impl_rows (fun i j => termsQ (cellOf a) (cellOf b) i j 9) a.length l1 w')
        rw [termsQ_mul fa hab] at HR
        have HI3 : Hid (∀ A c w', GridS w' A (mulM a b) → Calls Tryz.prog 39 #[.slice A (mulM a b).length c] w' fun e w2 => e = .returned (.bool (isMat (mulM a b))) ∧ w2 = w') := Lib.hid fun A c w' hg => impl_isMatrix A c (mulM a b) (by rw [mulM_length]; omega) (fun k hk => by rw [mulM_row hk]; omega) w' hg
        have HR1 : Hid (isMat (mulM a b) = true → (if isMat (mulM a b) = true then some (mulM a b) else none) = some (mulM a b)) := Lib.hid fun h => if_pos h
        have HR2 : Hid (isMat (mulM a b) = false → (if isMat (mulM a b) = true then some (mulM a b) else none) = none) := Lib.hid fun h => if_neg (by rw [h]; decide)
        have hne : ((a.length : Int) != (a.length : Int)) = false := by simp
        generalize (if isMat (mulM a b) = true then some (mulM a b) else none) = r at *
        rw [← hab] at I2 HQ2 ⊢
        clear h1 h2 fa fb ma mb hab HE
        generalize mulM a b = p at *
        go_enter Tryz.func71, Tryz.ntmps71
        go_wp2_with fail
        refine (I1.out w (Below.refl _ _)).mono ?_
        rintro e w1 ⟨rfl, rfl⟩
        go_wp2_with fail
        refine (I2.out w1 (Below.refl _ _)).mono ?_
        rintro e w2 ⟨rfl, rfl⟩
        go_wp2_with fail
        refine (HQ1.out w2 (Below.refl _ _)).mono ?_
        rintro e w3 ⟨rfl, b3⟩
        have B3 := Lib.hid b3
        clear b3
        go_wp2_with fail
        refine (HQ2.out w3 B3.out).mono ?_
        rintro e w4 ⟨rfl, b4⟩
        have B4 := Lib.hid (B3.out.trans (b4.mono B3.out.size))
        clear b4
        go_wp2_with fail
        refine (HT.out w4).mono ?_
        rintro e w5 ⟨rfl, b5⟩
        have B5 := Lib.hid (B4.out.trans (b5.mono B4.out.size))
        clear b5
        go_wp2_with fail
        refine (HR.out w5).mono ?_
        rintro e w6 ⟨v, rfl, ho6, b6⟩
        have hs5 := B5.out.size
        have B6 := Lib.hid (B5.out.trans (b6.mono hs5))
        obtain ⟨A, c, rfl, hg6⟩ := ho6.gridS
        have HO6 := Lib.hid (ho6.mono hs5)
        have HC := Lib.hid (HI3.out A c w6 hg6)
        clear ho6 hg6 b6
        go_wp2_with fail
        refine HC.out.mono ?_
        rintro e w7 ⟨rfl, rfl⟩
        cases hp : isMat p with
        | true =>
          have hr := HR1.out hp
          subst hr
          clear HR1 HR2
          go_wp2
          go_ret2
          exact ⟨_, rfl, HO6.out, B6.out⟩
        | false =>
          have hr := HR2.out hp
          subst hr
          clear HR1 HR2
          go_wp2
          go_ret2
          exact ⟨_, rfl, ownG_nil _ _, B6.out⟩
      · rw [prodM_none (Or.inr (Or.inr hab))]
        have hne : ((a.length : Int) == (b.length : Int)) = false := by rw [beq_eq_false_iff_ne]; omega
        have hne2 : ((a.length : Int) != (b.length : Int)) = true := by rw [bne, hne]; rfl
        clear h1 h2
        go_enter Tryz.func71, Tryz.ntmps71
        go_wp2_with fail
        refine (I1.out w (Below.refl _ _)).mono ?_
        rintro e w1 ⟨rfl, rfl⟩
        go_wp2_with fail
        refine (I2.out w1 (Below.refl _ _)).mono ?_
        rintro e w2 ⟨rfl, rfl⟩
        go_wp2
        go_ret2
        exact ⟨_, rfl, HE.out, Below.refl _ _⟩
end Go.Proofs.YtalclebehbdliaaGreatDoor
