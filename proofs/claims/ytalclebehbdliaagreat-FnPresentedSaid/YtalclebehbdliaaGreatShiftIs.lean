/-
  The program's IsShift: at every number and every list of strings in memory it answers as the plain words say; nothing that was there before is changed.
-/
import Derived.Test.YtalclebehbdliaaGreatBaseTexts
namespace Go.Proofs.YtalclebehbdliaaGreat
open Go Go.RowKit

theorem okAt_empty {L : Int} {ps : List ByteArray} {k : Nat} (h : ps.getD k ByteArray.empty = ByteArray.empty) : okAt L ps k = false := by
  unfold okAt; rw [h]; simp
theorem okAt_long {L : Int} {ps : List ByteArray} {k : Nat} (h : 3 < (ps.getD k ByteArray.empty).size) : okAt L ps k = false := by
  unfold okAt
  rw [show decide ((ps.getD k ByteArray.empty).size ≤ 3) = false by rw [decide_eq_false_iff_not]; omega]
  simp
theorem okAt_yes {L : Int} {ps : List ByteArray} {k : Nat} (h1 : 0 < (ps.getD k ByteArray.empty).size) (h3 : (ps.getD k ByteArray.empty).size ≤ 3) (hw : isW L (ps.getD k ByteArray.empty) = true)
    (ho : (decide (k = 0) || decide ((ps.getD (k - 1) ByteArray.empty).data.toList < (ps.getD k ByteArray.empty).data.toList)) = true) : okAt L ps k = true := by
  unfold okAt
  rw [ho, hw, show decide ((ps.getD k ByteArray.empty).size ≤ 3) = true by rw [decide_eq_true_eq]; omega, show decide (1 ≤ (ps.getD k ByteArray.empty).size) = true by rw [decide_eq_true_eq]; omega]
  rfl
theorem empty_of_size {y : ByteArray} (h : y.size = 0) : y = ByteArray.empty := ba_ext (List.eq_nil_of_length_eq_zero h)
theorem toList_ne {y : ByteArray} (h : 0 < y.size) : ¬ y.toList = [] := by
  rw [ByteArray.toList_eq]
  intro e
  have : y.data.toList.length = 0 := by rw [e]; rfl
  rw [ba_len] at this; omega

set_option maxRecDepth 100000 in
set_option maxHeartbeats 1600000 in
theorem impl_isShift (L : Int) (G : Option Addr) (c : Nat) (ps : List ByteArray) (hl : ps.length ≤ 1048576) (hz : ∀ k, k < ps.length → (ps.getD k ByteArray.empty).size ≤ 1099511627776) (w : World) (hs : StrsG w G ps) :
    Calls Tryz.prog 36 #[.agg #[.int .i64 L, .slice G ps.length c]] w (BoolPost (isShift L ps) w) := by
  have hb := (Below.refl w.heap.size w).alloc (Nat.le_refl _) (.cells #[.int .i64 L, .slice G ps.length c] 26)
  have HS := Lib.hid (hs.below hb)
  have HZ := Lib.hid hz
  have HW := Lib.hid (fun k hk w' => impl_isWord L (ps.getD k ByteArray.empty) (hz k hk) w')
  have HL := Lib.hid (impl_isLetterCount L)
  have HB := Lib.hid hb
  clear hs hz hb
  go_enter Tryz.func36, Tryz.ntmps36
  go_wp2_with fail
  refine (HL.out _).mono ?_
  rintro e w1 ⟨rfl, rfl⟩
  cases hx : (decide (1 ≤ L) && decide (L ≤ 3)) with
  | false =>
    have HR : Hid (isShift L ps = false) := Lib.hid (by unfold isShift; rw [hx, Bool.false_and, Bool.and_false])
    go_wp2
    go_ret
    exact ⟨by rw [HR.out]; rfl, HB.out⟩
  | true =>
    by_cases h8 : 8 < ps.length
    · have g8 : decide ((8 : Int) < (ps.length : Int)) = true := by rw [decide_eq_true_eq]; omega
      have HR : Hid (isShift L ps = false) := Lib.hid (by
        unfold isShift
        rw [show decide (ps.length ≤ 8) = false by rw [decide_eq_false_iff_not]; omega, Bool.and_false, Bool.and_false])
      go_wp2
      go_ret
      exact ⟨by rw [HR.out]; rfl, HB.out⟩
    · have g8 : decide ((8 : Int) < (ps.length : Int)) = false := by rw [decide_eq_false_iff_not]; omega
      have HX := Lib.hid hx
      clear hx
      go_wp2
      clear g8
      go_loop [18] (fun i => ∃ k : Nat, k ≤ ps.length ∧ i = .int .i64 k ∧ Hid (ShiftTo L ps k)) (fun i => ps.length - (intOf i).toNat)
      case atStart => exact ⟨0, Nat.zero_le _, rfl, Lib.hid (ShiftTo.zero L ps)⟩
      case round =>
        obtain ⟨k, hk, rfl, hto⟩ := hrel
        by_cases hlt : k < ps.length
        · obtain ⟨bg, og, rfl, hst, _⟩ := HS.out (by omega)
          have hc := hst k hlt
          have hw := HW.out k hlt
          by_cases h1 : (ps.getD k ByteArray.empty).size = 0
          · have he := empty_of_size h1
            have HR := Lib.hid (isShift_not hlt (okAt_empty (L := L) he))
            rw [he] at hc
            clear hw h1 he
            go_wp2
            go_ret
            exact ⟨by rw [HR.out]; rfl, HB.out⟩
          · have h1' : 0 < (ps.getD k ByteArray.empty).size := by omega
            have n1 := toList_ne h1'
            have n2 : (ps.getD k ByteArray.empty).toList.isEmpty = false := by
              cases e : (ps.getD k ByteArray.empty).toList with
              | nil => exact absurd e n1
              | cons a r => rfl
            by_cases h3 : 3 < (ps.getD k ByteArray.empty).size
            · have g3 : decide ((3 : Int) < ((ps.getD k ByteArray.empty).size : Int)) = true := by rw [decide_eq_true_eq]; omega
              have HR := Lib.hid (isShift_not hlt (okAt_long (L := L) h3))
              generalize ps.getD k ByteArray.empty = y at *
              clear hw h1 h1' h3
              go_wp2
              go_ret
              exact ⟨by rw [HR.out]; rfl, HB.out⟩
            · have g3 : decide ((3 : Int) < ((ps.getD k ByteArray.empty).size : Int)) = false := by rw [decide_eq_false_iff_not]; omega
              cases hi : isW L (ps.getD k ByteArray.empty) with
              | false =>
                have HR := Lib.hid (isShift_not hlt (okAt_word hi))
                rw [hi] at hw
                have HW1 := Lib.hid hw
                generalize ps.getD k ByteArray.empty = y at *
                clear hw hi h1 h1' h3
                go_wp2_with fail
                refine (HW1.out _).mono ?_
                rintro e w1 ⟨rfl, rfl⟩
                go_wp2
                go_ret
                exact ⟨by rw [HR.out]; rfl, HB.out⟩
              | true =>
                rw [hi] at hw
                have HW1 := Lib.hid hw
                clear hw
                by_cases h0 : 0 < k
                · obtain ⟨j, rfl⟩ : ∃ j, k = j + 1 := ⟨k - 1, by omega⟩
                  have hc0 := hst j (by omega)
                  have g0 : decide ((0 : Int) < ((j + 1 : Nat) : Int)) = true := by rw [decide_eq_true_eq]; omega
                  have j0 : (0 : Int) ≤ (j : Int) := by omega
                  have j1 : (j : Int) < (ps.length : Int) := by omega
                  have j2 : (j : Int) + 1 < (ps.length : Int) := by omega
                  have j3 : (0 : Int) ≤ (j : Int) + 1 := by omega
                  cases hle : decide ((ps.getD j ByteArray.empty).data.toList < (ps.getD (j + 1) ByteArray.empty).data.toList) with
                  | false =>
                    have HR := Lib.hid (isShift_not hlt (show okAt L ps (j + 1) = false by unfold okAt; rw [Nat.add_sub_cancel, hle]; simp))
                    rw [← ba_less] at hle
                    generalize ps.getD j ByteArray.empty = z at *
                    generalize ps.getD (j + 1) ByteArray.empty = y at *
                    clear hi h1 h1' h3
                    go_wp2_with fail
                    refine (HW1.out _).mono ?_
                    rintro e w1 ⟨rfl, rfl⟩
                    go_wp2
                    go_ret
                    exact ⟨by rw [HR.out]; rfl, HB.out⟩
                  | true =>
                    have HT := Lib.hid (hto.out.next (okAt_yes h1' (by omega) hi (by rw [Nat.add_sub_cancel, hle, Bool.or_true])))
                    rw [← ba_less] at hle
                    generalize ps.getD j ByteArray.empty = z at *
                    generalize ps.getD (j + 1) ByteArray.empty = y at *
                    clear hi h1 h1' h3
                    go_wp2_with fail
                    refine (HW1.out _).mono ?_
                    rintro e w1 ⟨rfl, rfl⟩
                    go_wp2
                    go_round
                    case rel => exact ⟨j + 2, by omega, by go_num, HT⟩
                    case measure => simp [intOf]; omega
                · obtain rfl : k = 0 := by omega
                  rw [Nat.add_zero] at hc
                  have HT := Lib.hid (hto.out.next (okAt_yes h1' (by omega) hi rfl))
                  have i1 : (0 : Int) < (ps.length : Int) := by omega
                  generalize ps.getD 0 ByteArray.empty = y at *
                  clear hi h1 h1' h3
                  go_wp2_with fail
                  refine (HW1.out _).mono ?_
                  rintro e w1 ⟨rfl, rfl⟩
                  go_wp2
                  go_round
                  case rel => exact ⟨1, by omega, by go_num, HT⟩
                  case measure => simp [intOf]; omega
        · obtain rfl : k = ps.length := by omega
          have HE := Lib.hid (isShift_end hto.out)
          go_wp2
          go_ret
          exact ⟨by rw [HE.out, HX.out, show decide (ps.length ≤ 8) = true by rw [decide_eq_true_eq]; omega]; rfl, HB.out⟩

theorem impl_isShiftO (L : Int) (g o c : Nat) (ps : List ByteArray) (hl : ps.length ≤ 1048576) (hz : ∀ k, k < ps.length → (ps.getD k ByteArray.empty).size ≤ 1099511627776) (w : World) (hs : StrsAt w g o ps) (hg : g < w.heap.size) :
    Calls Tryz.prog 36 #[.agg #[.int .i64 L, .slice (some ⟨g, o, none⟩) ps.length c]] w (BoolPost (isShift L ps) w) := impl_isShift L _ c ps hl hz w fun _ => ⟨g, o, rfl, hs, hg⟩
end Go.Proofs.YtalclebehbdliaaGreat
