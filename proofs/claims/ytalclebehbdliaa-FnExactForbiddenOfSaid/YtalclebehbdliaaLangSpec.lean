/-
  The model's l3In, InLanguage and IsEmptyShift: at every shift in memory they answer as the plain words say; nothing that was there before is changed.
-/
import Derived.Test.YtalclebehbdliaaPairsSpec
import Derived.Test.YtalclebehbdliaaShiftLaws
namespace Go.Proofs.Ytalclebehbdliaa
open Go Go.RowKit

set_option maxRecDepth 100000 in
set_option maxHeartbeats 1600000 in
theorem spec_l3In (L : Int) (G : Option Addr) (c : Nat) (ps : List ByteArray) (hl : ps.length ≤ 1048576) (hz : ∀ k, k < ps.length → (ps.getD k ByteArray.empty).size ≤ 2147483648) (A : Option Addr) (cm : Nat) (M : List ByteArray) (hn : M.length ≤ 1000000) (h2 : ∀ x ∈ M, x.size = 2) (x : ByteArray) (hx : x.size ≤ 2147483648) (w : World) (hs : StrsG w G ps) (hm : RowAt w A M) :
    Calls Try.prog 56 #[.agg #[.int .i64 L, .slice G ps.length c], .slice A M.length cm, .string x] w (BoolPost (inM ps M x) w) := by
  have hb := (Below.refl w.heap.size w).alloc (Nat.le_refl _) (.cells #[.int .i64 L, .slice G ps.length c] 27)
  have HB := Lib.hid hb
  have HA := Lib.hid (spec_avoids G c ps x hl hz hx _ (hs.below hb))
  have HM := Lib.hid (hm.below hb)
  have HT := Lib.hid (fun y => spec_hasText A cm M y hn _ (hm.below hb))
  have H2 := Lib.hid h2
  clear hs hz hb hm h2
  go_enter Try.func56, Try.ntmps56
  by_cases h0 : M.length = 0
  · have g0 : ((M.length : Int) == 0) = true := by rw [beq_iff_eq]; omega
    have HR : Hid (inM ps M x = false) := Lib.hid (by unfold inM; rw [decide_eq_true h0]; rfl)
    go_wp2
    go_ret
    exact ⟨by rw [HR.out]; rfl, HB.out⟩
  · have g0 : ((M.length : Int) == 0) = false := beq_eq_false_iff_ne.2 (by omega)
    cases ha : avoids ps x with
    | false =>
      have HR : Hid (inM ps M x = false) := Lib.hid (by unfold inM; rw [ha, Bool.and_false, Bool.false_and])
      rw [ha] at HA
      clear ha
      go_wp2_with fail
      refine HA.out.mono ?_
      rintro e w1 ⟨rfl, rfl⟩
      go_wp2
      go_ret
      exact ⟨by rw [HR.out]; rfl, HB.out⟩
    | true =>
      have HD : Hid (inM ps M x = (if 2 ≤ x.size then Lib.containsS M (x.extract 0 2) && Lib.containsS M (x.extract (x.size - 2) x.size) else M.any fun q => Lib.contains q.data.toList x.data.toList)) := Lib.hid (by
        unfold inM; rw [ha, decide_eq_false h0]; rfl)
      rw [ha] at HA
      clear ha
      by_cases h2 : 2 ≤ x.size
      · have g2 : decide ((2 : Int) ≤ (x.size : Int)) = true := by rw [decide_eq_true_eq]; omega
        rw [if_pos h2] at HD
        have HT1 := Lib.hid (HT.out (x.extract 0 2))
        have HT2 := Lib.hid (HT.out (x.extract (x.size - 2) x.size))
        have e2 : ((x.size : Int) - 2).toNat = x.size - 2 := by omega
        cases hc : Lib.containsS M (x.extract 0 2) with
        | false =>
          rw [hc] at HT1 HD
          clear hc
          go_wp2_with fail
          refine HA.out.mono ?_
          rintro e w1 ⟨rfl, rfl⟩
          go_wp2_with fail
          refine HT1.out.mono ?_
          rintro e w2 ⟨rfl, rfl⟩
          go_wp2
          go_ret
          exact ⟨by rw [HD.out]; rfl, HB.out⟩
        | true =>
          rw [hc] at HT1 HD
          rw [Bool.true_and] at HD
          clear hc
          go_wp2_with fail
          refine HA.out.mono ?_
          rintro e w1 ⟨rfl, rfl⟩
          go_wp2_with fail
          refine HT1.out.mono ?_
          rintro e w2 ⟨rfl, rfl⟩
          go_wp2_with fail
          refine HT2.out.mono ?_
          rintro e w3 ⟨rfl, rfl⟩
          go_wp2
          go_ret
          exact ⟨by rw [HD.out]; rfl, HB.out⟩
      · have g2 : decide ((2 : Int) ≤ (x.size : Int)) = false := by rw [decide_eq_false_iff_not]; omega
        rw [if_neg h2] at HD
        go_wp2_with fail
        refine HA.out.mono ?_
        rintro e w1 ⟨rfl, rfl⟩
        go_wp2
        go_loop [7] (fun i => ∃ k : Nat, k ≤ M.length ∧ i = .int .i64 k ∧ Hid (∀ j, j < k → Lib.contains (M.getD j ByteArray.empty).data.toList x.data.toList = false)) (fun i => M.length - (intOf i).toNat)
        case atStart => exact ⟨0, Nat.zero_le _, rfl, Lib.hid (fun j h => by omega)⟩
        case round =>
          obtain ⟨k, hk, rfl, hto⟩ := hrel
          by_cases hlt : k < M.length
          · obtain ⟨gm, rfl, hst, hgm⟩ := HM.out (by omega)
            have hc := hst k hlt
            rw [Nat.zero_add] at hc
            have HO := Lib.hid (fun w' => spec_occurs (M.getD k ByteArray.empty) x (by rw [H2.out _ (getD_mem hlt)]; omega) hx w')
            clear hst
            cases he : occ (M.getD k ByteArray.empty) x with
            | true =>
              have HY := Lib.hid (any_yes (f := fun q : ByteArray => Lib.contains q.data.toList x.data.toList) hlt he)
              rw [he] at HO
              clear he
              generalize M.getD k ByteArray.empty = y at *
              go_wp2_with fail
              refine (HO.out _).mono ?_
              rintro e w2 ⟨rfl, rfl⟩
              go_wp2
              go_ret
              exact ⟨by rw [HD.out, HY.out]; rfl, HB.out⟩
            | false =>
              have HN : Hid (∀ j, j < k + 1 → Lib.contains (M.getD j ByteArray.empty).data.toList x.data.toList = false) := Lib.hid (fun j hj => by
                by_cases e : j = k
                · subst e; exact he
                · exact hto.out j (by omega))
              rw [he] at HO
              clear he
              generalize M.getD k ByteArray.empty = y at *
              go_wp2_with fail
              refine (HO.out _).mono ?_
              rintro e w2 ⟨rfl, rfl⟩
              go_wp2
              go_round
              case rel => exact ⟨k + 1, by omega, by go_num, HN⟩
              case measure => simp [intOf]; omega
          · have HY := Lib.hid (any_no (f := fun q : ByteArray => Lib.contains q.data.toList x.data.toList) (M := M) (fun j hj => hto.out j (by omega)))
            go_wp2
            go_ret
            exact ⟨by rw [HD.out, HY.out]; rfl, HB.out⟩
/-! ### InLanguage -/
def inLangS (L : Int) (ps : List ByteArray) (s : ByteArray) : Bool := (isShift L ps && isW L s) && inM ps (pairsW L.toNat ps) s
def emptyT (L : Int) (ps : List ByteArray) : Bool := isShift L ps && decide ((pairsW L.toNat ps).length = 0)
theorem pairsW_two {ps : List ByteArray} {k : Nat} (hk : k ≤ 3) : ∀ x ∈ pairsW k ps, x.size = 2 := by
  intro x hx
  obtain ⟨a, b, rfl, _, _⟩ := mem_pairsW' hk hx
  rfl
theorem pairsW_length {ps : List ByteArray} {k : Nat} (hk : k ≤ 3) : (pairsW k ps).length ≤ 9 := by
  have h1 := keepW_two ps hk
  have h2 : ∀ (n : Nat) (l : List ByteArray), (fixW ps n l).length ≤ l.length := by
    intro n
    induction n with
    | zero => intro l; exact Nat.le_refl _
    | succ n ih =>
      intro l
      unfold fixW
      split
      · exact Nat.le_refl _
      · exact Nat.le_trans (ih _) (stepW_length ps l)
  exact Nat.le_trans (h2 9 _) h1

end Go.Proofs.Ytalclebehbdliaa
