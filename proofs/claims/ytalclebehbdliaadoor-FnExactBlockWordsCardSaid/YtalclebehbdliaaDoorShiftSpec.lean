/-
  The model's IsShift, l3Avoids and AvoidsAll: at every number and every list of strings in memory they answer as the plain words say; nothing that was there before is changed.
-/
import Derived.Test.YtalclebehbdliaaDoorShiftNum
import Derived.Test.YtalclebehbdliaaDoorStrsG
import Derived.Test.YtalclebehbdliaaDoorIsW
import Derived.Test.YtalclebehbdliaaDoorOccursSpec
import Derived.WalkLawsBesides
import Derived.Deep.QuietTactic
import Derived.BigQuiet
namespace Go.Proofs.YtalclebehbdliaaDoor
open Go Go.RowKit

def BoolPost (b : Bool) (w : World) (e : Ending) (w' : World) : Prop := e = .returned (.bool b) ∧ Below w.heap.size w w'

set_option maxRecDepth 100000 in
set_option maxHeartbeats 1600000 in
theorem spec_isShift (L : Int) (G : Option Addr) (c : Nat) (ps : List ByteArray) (hl : ps.length ≤ 1048576) (hz : ∀ k, k < ps.length → (ps.getD k ByteArray.empty).size ≤ 1099511627776) (w : World) (hs : StrsG w G ps) :
    Calls Tryd.prog 14 #[.agg #[.int .i64 L, .slice G ps.length c]] w (BoolPost (isShift L ps) w) := by
  have hb := (Below.refl w.heap.size w).alloc (Nat.le_refl _) (.cells #[.int .i64 L, .slice G ps.length c] 27)
  have HS := Lib.hid (hs.below hb)
  have HZ := Lib.hid hz
  have HW := Lib.hid (fun k hk w' => spec_isWord L (ps.getD k ByteArray.empty) (hz k hk) w')
  have HN := Lib.hid (fun (n : Nat) w' => spec_in (n : Int) 1 3 w')
  have HL := Lib.hid (spec_in L 1 3)
  have HB := Lib.hid hb
  clear hs hz hb
  go_enter Tryd.func14, Tryd.ntmps14
  go_wp2
  go_loop [3] (fun i => ∃ k : Nat, k ≤ ps.length ∧ i = .int .i64 k ∧ Hid (ShiftTo L ps k)) (fun i => ps.length - (intOf i).toNat)
  case atStart => exact ⟨0, Nat.zero_le _, rfl, Lib.hid (ShiftTo.zero L ps)⟩
  case round =>
    obtain ⟨k, hk, rfl, hto⟩ := hrel
    by_cases hlt : k < ps.length
    · obtain ⟨bg, og, rfl, hst, _⟩ := HS.out (by omega)
      have hc := hst k hlt
      have hw := HW.out k hlt
      cases hi : isW L (ps.getD k ByteArray.empty) with
      | false =>
        have HR := Lib.hid (isShift_not hlt (okAt_word hi))
        rw [hi] at hw
        have HW1 := Lib.hid hw
        generalize ps.getD k ByteArray.empty = y at *
        clear hw hi
        go_wp2_with fail
        refine (HW1.out _).mono ?_
        rintro e w1 ⟨rfl, rfl⟩
        go_wp2
        go_ret
        exact ⟨by rw [HR.out]; rfl, HB.out⟩
      | true =>
        rw [hi] at hw
        have HW1 := Lib.hid hw
        clear hw
        have hn := HN.out (ps.getD k ByteArray.empty).size
        cases hz : (decide (1 ≤ (ps.getD k ByteArray.empty).size) && decide ((ps.getD k ByteArray.empty).size ≤ 3)) with
        | false =>
          have HR := Lib.hid (isShift_not hlt (okAt_size (L := L) hz))
          rw [show (decide ((1 : Int) ≤ ((ps.getD k ByteArray.empty).size : Int)) && decide (((ps.getD k ByteArray.empty).size : Int) ≤ 3)) = false by rw [← hz]; congr 1 <;> (apply decide_eq_decide.2; omega)] at hn
          have HN1 := Lib.hid hn
          generalize ps.getD k ByteArray.empty = y at *
          clear hn hz hi
          go_wp2_with fail
          refine (HW1.out _).mono ?_
          rintro e w1 ⟨rfl, rfl⟩
          go_wp2_with fail
          refine (HN1.out _).mono ?_
          rintro e w2 ⟨rfl, rfl⟩
          go_wp2
          go_ret
          exact ⟨by rw [HR.out]; rfl, HB.out⟩
        | true =>
          rw [show (decide ((1 : Int) ≤ ((ps.getD k ByteArray.empty).size : Int)) && decide (((ps.getD k ByteArray.empty).size : Int) ≤ 3)) = true by rw [← hz]; congr 1 <;> (apply decide_eq_decide.2; omega)] at hn
          have HN1 := Lib.hid hn
          clear hn
          by_cases h0 : 0 < k
          · obtain ⟨j, rfl⟩ : ∃ j, k = j + 1 := ⟨k - 1, by omega⟩
            have hc0 := hst j (by omega)
            have g0 : decide ((0 : Int) < ((j + 1 : Nat) : Int)) = true := by rw [decide_eq_true_eq]; omega
            have j0 : (0 : Int) ≤ (j : Int) := by omega
            have j1 : (j : Int) < (ps.length : Int) := by omega
            have j2 : (j : Int) + 1 < (ps.length : Int) := by omega
            have j3 : (0 : Int) ≤ (j : Int) + 1 := by omega
            cases hle : decide ((ps.getD j ByteArray.empty).data.toList < (ps.getD (j + 1) ByteArray.empty).data.toList) with
            | false =>
              have HR := Lib.hid (isShift_not hlt (show okAt L ps (j + 1) = false by unfold okAt; rw [Nat.add_sub_cancel, hle]; simp))
              rw [← ba_less] at hle
              generalize ps.getD j ByteArray.empty = z at *
              generalize ps.getD (j + 1) ByteArray.empty = y at *
              clear hz hi
              go_wp2_with fail
              refine (HW1.out _).mono ?_
              rintro e w1 ⟨rfl, rfl⟩
              go_wp2_with fail
              refine (HN1.out _).mono ?_
              rintro e w2 ⟨rfl, rfl⟩
              go_wp2
              go_ret
              exact ⟨by rw [HR.out]; rfl, HB.out⟩
            | true =>
              have HT := Lib.hid (hto.out.next (show okAt L ps (j + 1) = true by unfold okAt; rw [Nat.add_sub_cancel, hle, hi, hz]; simp))
              rw [← ba_less] at hle
              generalize ps.getD j ByteArray.empty = z at *
              generalize ps.getD (j + 1) ByteArray.empty = y at *
              clear hz hi
              go_wp2_with fail
              refine (HW1.out _).mono ?_
              rintro e w1 ⟨rfl, rfl⟩
              go_wp2_with fail
              refine (HN1.out _).mono ?_
              rintro e w2 ⟨rfl, rfl⟩
              go_wp2
              go_round
              case rel => exact ⟨j + 2, by omega, by go_num, HT⟩
              case measure => simp [intOf]; omega
          · obtain rfl : k = 0 := by omega
            rw [Nat.add_zero] at hc
            have HT := Lib.hid (hto.out.next (show okAt L ps 0 = true by unfold okAt; rw [hi, hz]; simp))
            have i1 : (0 : Int) < (ps.length : Int) := by omega
            generalize ps.getD 0 ByteArray.empty = y at *
            clear hz hi
            go_wp2_with fail
            refine (HW1.out _).mono ?_
            rintro e w1 ⟨rfl, rfl⟩
            go_wp2_with fail
            refine (HN1.out _).mono ?_
            rintro e w2 ⟨rfl, rfl⟩
            go_wp2
            go_round
            case rel => exact ⟨1, by omega, by go_num, HT⟩
            case measure => simp [intOf]; omega
    · obtain rfl : k = ps.length := by omega
      have HE := Lib.hid (isShift_end hto.out)
      go_wp2_with fail
      refine (HL.out _).mono ?_
      rintro e w1 ⟨rfl, rfl⟩
      cases hx : (decide (1 ≤ L) && decide (L ≤ 3)) with
      | false =>
        go_wp2
        go_ret
        exact ⟨by rw [HE.out, hx]; rfl, HB.out⟩
      | true =>
        have e8 : decide ((ps.length : Int) ≤ 8) = decide (ps.length ≤ 8) := decide_eq_decide.2 (by omega)
        go_wp2
        go_ret
        exact ⟨by rw [HE.out, hx, Bool.true_and, ← e8]; first | rfl | (rw [e8]; rfl), HB.out⟩
set_option maxRecDepth 100000 in
set_option maxHeartbeats 800000 in
theorem spec_avoids (G : Option Addr) (c : Nat) (ps : List ByteArray) (s : ByteArray) (hl : ps.length ≤ 1048576) (hz : ∀ k, k < ps.length → (ps.getD k ByteArray.empty).size ≤ 2147483648) (hs2 : s.size ≤ 2147483648) (w : World) (hs : StrsG w G ps) :
    Calls Tryd.prog 36 #[.slice G ps.length c, .string s] w fun e w' => e = .returned (.bool (avoids ps s)) ∧ w' = w := by
  have HS := Lib.hid hs
  have HO := Lib.hid (fun k hk w' => spec_occurs s (ps.getD k ByteArray.empty) hs2 (hz k hk) w')
  clear hs hz
  go_enter Tryd.func36, Tryd.ntmps36
  go_wp2
  go_loop [5] (fun i => ∃ k : Nat, k ≤ ps.length ∧ i = .int .i64 k ∧ Hid (AvoidTo ps s k)) (fun i => ps.length - (intOf i).toNat)
  case atStart => exact ⟨0, Nat.zero_le _, rfl, Lib.hid (fun j h => by omega)⟩
  case round =>
    obtain ⟨k, hk, rfl, hto⟩ := hrel
    by_cases hlt : k < ps.length
    · obtain ⟨bg, og, rfl, hst, _⟩ := HS.out (by omega)
      have hc := hst k hlt
      have ho := HO.out k hlt
      cases hx : occ s (ps.getD k ByteArray.empty) with
      | true =>
        rw [hx] at ho
        have HR := Lib.hid (avoids_not hlt (show Lib.contains s.data.toList (ps.getD k ByteArray.empty).data.toList = true from hx))
        have HO1 := Lib.hid ho
        generalize ps.getD k ByteArray.empty = y at *
        clear ho hx
        go_wp2_with fail
        refine (HO1.out _).mono ?_
        rintro e w1 ⟨rfl, rfl⟩
        go_wp2
        go_ret
        exact ⟨by rw [HR.out]; rfl, rfl⟩
      | false =>
        rw [hx] at ho
        have HT := Lib.hid (hto.out.next (show Lib.contains s.data.toList (ps.getD k ByteArray.empty).data.toList = false from hx))
        have HO1 := Lib.hid ho
        generalize ps.getD k ByteArray.empty = y at *
        clear ho hx
        go_wp2_with fail
        refine (HO1.out _).mono ?_
        rintro e w1 ⟨rfl, rfl⟩
        go_wp2
        go_round
        case rel => exact ⟨k + 1, by omega, by go_num, HT⟩
        case measure => simp [intOf]; omega
    · obtain rfl : k = ps.length := by omega
      have HE := Lib.hid (avoids_end hto.out)
      go_wp2
      go_ret
      exact ⟨by rw [HE.out]; rfl, rfl⟩

end Go.Proofs.YtalclebehbdliaaDoor
