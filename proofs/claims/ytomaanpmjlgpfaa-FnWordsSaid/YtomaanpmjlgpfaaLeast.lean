/-
  The least turn of a word: the model's LeastTurn and the program's, at every string of at most 2^40 bytes, answer the same; nothing is changed.
-/
import Derived.Test.YtomaanpmjlgpfaaTurn
namespace Go.Proofs.Ytomaanpmjlgpfaa
open Go Go.RowKit

/-- Go's builtin 'min' of two strings. -/
theorem run_min_str {P : Program} (w : World) (ts : Array TypeId) (t : TypeId) (x y : ByteArray) :
    (Builtin.min_ ts t #[.string x, .string y]).run P w = .ok (.string (if y.data.toList < x.data.toList then y else x)) w := by
  simp only [Builtin.min_, Builtin.min2, Op.stringOp, List.foldlM, ba_less, ba_same]
  by_cases h : y.data.toList < x.data.toList
  · have h1 : ¬ x.data.toList < y.data.toList := List.lt_asymm h
    have h2 : ¬ x = y := fun e => by subst e; exact List.lt_irrefl _ h
    simp [h, h1, h2, asBool]
  · rw [if_neg h]
    have h1 : (decide (x.data.toList < y.data.toList) || decide (x = y)) = true := by
      by_cases h2 : x = y
      · simp [h2]
      · rcases List.le_iff_lt_or_eq.1 (List.not_lt.1 h) with h3 | h3
        · simp [h3]
        · exact absurd (ba_ext h3) h2
    rw [h1]
    simp [asBool]

set_option maxRecDepth 100000 in
theorem impl_least (s : ByteArray) (hs : s.size ≤ 1099511627776) (w : World) :
    Calls Try.prog 35 #[.string s] w fun e w' => e = .returned (.string (least s)) ∧ Below w.heap.size w w' := by
  have HI := Lib.hid (impl_nonEmpty s hs)
  have HT := Lib.hid (fun k : Nat => impl_turn s (k : Int) hs)
  go_enter Try.func35, Try.ntmps35
  cases hw : wordy s with
  | false =>
    rw [hw] at HI
    go_wp2_with fail
    refine (HI.out _).mono ?_
    rintro e w1 ⟨rfl, rfl⟩
    go_wp2
    go_ret
    exact ⟨by simp [least, hw]; rfl, Below.refl _ _⟩
  | true =>
    rw [hw] at HI
    have hp := wordy_pos hw
    have HF := Lib.hid (show least s = leastTo s s.size by unfold least; rw [if_pos hw])
    have HN := Lib.hid (fun k (hk : k < s.size) => show turned s (k : Int) = turnAt s k by unfold turned; rw [if_pos hw, turnNo_of_lt s k hk])
    clear hw
    go_wp2_with fail
    refine (HI.out _).mono ?_
    rintro e w1 ⟨rfl, rfl⟩
    go_wp2
    go_loopw [3, 11] (fun v i wr => ∃ k : Nat, k ≤ s.size ∧ v = .string (leastTo s k) ∧ i = .int .i64 k ∧ Below w1.heap.size w1 wr) (fun _ i _ => s.size - (intOf i).toNat)
    case atStart => exact ⟨0, Nat.zero_le _, rfl, rfl, Below.refl _ _⟩
    case round =>
      obtain ⟨k, hk, rfl, rfl, hbl⟩ := hrel
      have HB := Lib.hid hbl
      clear hbl
      by_cases hlt : k < s.size
      · have hmin : ∀ (w : World) (ts : Array TypeId) (t : TypeId), (Builtin.min_ ts t #[.string (leastTo s k), .string (turnAt s k)]).run Try.prog w = .ok (.string (leastTo s (k + 1))) w := fun w ts t => run_min_str w ts t (leastTo s k) (turnAt s k)
        have hT := HT.out k
        rw [HN.out k hlt] at hT
        have HT1 := Lib.hid hT
        clear hT
        go_wp2_with fail
        refine (HT1.out _).mono ?_
        rintro e w2 ⟨rfl, hb2⟩
        have HB2 := Lib.hid hb2
        clear hb2
        go_wp2
        go_roundw
        case rel => exact ⟨k + 1, by omega, rfl, by go_num, HB.out.trans (HB2.out.mono HB.out.size)⟩
        case measure => simp [intOf]; omega
      · obtain rfl : k = s.size := by omega
        go_wp2
        go_ret
        exact ⟨by rw [HF.out]; rfl, HB.out⟩

set_option maxRecDepth 100000 in
theorem spec_least (s : ByteArray) (hs : s.size ≤ 1099511627776) (w : World) :
    Calls Try.prog 36 #[.string s] w fun e w' => e = .returned (.string (least s)) ∧ Below w.heap.size w w' := by
  have HT := Lib.hid (spec_turn s 0 hs)
  go_enter Try.func36, Try.ntmps36
  cases hw : wordy s with
  | false =>
    rw [show turned s 0 = ByteArray.empty by simp [turned, hw]] at HT
    go_wp2_with fail
    refine (HT.out _).mono ?_
    rintro e w1 ⟨rfl, hb1⟩
    have HB := Lib.hid hb1
    clear hb1
    go_wp2
    go_loopw [3, 4] (fun v i wr => v = .string ByteArray.empty ∧ i = .int .i64 1 ∧ Below w.heap.size w wr) (fun _ _ _ => 0)
    case atStart => exact ⟨rfl, rfl, HB.out⟩
    case round =>
      obtain ⟨rfl, rfl, hb⟩ := hrel
      have HB2 := Lib.hid hb
      clear hb
      go_wp2
      go_ret
      exact ⟨by simp [least, hw], HB2.out⟩
  | true =>
    have hp := wordy_pos hw
    have HF := Lib.hid (show least s = leastTo s s.size by unfold least; rw [if_pos hw])
    have HZ := Lib.hid (leastTo_size s hp)
    rw [show turned s 0 = s by unfold turned; rw [if_pos hw, show turnNo s 0 = 0 by simp [turnNo], turnAt_zero]] at HT
    clear hw
    go_wp2_with fail
    refine (HT.out _).mono ?_
    rintro e w1 ⟨rfl, hb1⟩
    have HB := Lib.hid hb1
    clear hb1
    go_wp2
    go_loopw [3, 4] (fun v i wr => ∃ k : Nat, 1 ≤ k ∧ k ≤ s.size ∧ v = .string (leastTo s k) ∧ i = .int .i64 k ∧ Below w.heap.size w wr) (fun _ i _ => s.size - (intOf i).toNat)
    case atStart => exact ⟨1, Nat.le_refl _, hp, by rw [leastTo_one], rfl, HB.out⟩
    case round =>
      obtain ⟨k, hk1, hk, rfl, rfl, hbl⟩ := hrel
      have HB2 := Lib.hid hbl
      clear hbl
      have hz := HZ.out k hk
      by_cases hlt : k < s.size
      · cases hl : decide ((turnAt s k).data.toList < (leastTo s k).data.toList) with
        | true =>
          have HN := Lib.hid (show leastTo s (k + 1) = turnAt s k by rw [leastTo, if_pos (of_decide_eq_true hl)])
          rw [← ba_less] at hl
          have hl2 : Op.bytesLess (s.extract k s.size ++ s.extract 0 k).toList (leastTo s k).toList = true := hl
          clear hl
          go_wp2
          go_quiet (fail)
          go_wp2
          go_quiet (fail)
          go_wp2
          go_roundw
          case rel => exact ⟨k + 1, by omega, by omega, by rw [HN.out]; rfl, by go_num, below_drewN HB2.out _⟩
          case measure => simp [intOf]; omega
        | false =>
          have HN := Lib.hid (show leastTo s (k + 1) = leastTo s k by rw [leastTo, if_neg (of_decide_eq_false hl)])
          rw [← ba_less] at hl
          have hl2 : Op.bytesLess (s.extract k s.size ++ s.extract 0 k).toList (leastTo s k).toList = false := hl
          clear hl
          go_wp2
          go_quiet (fail)
          go_wp2
          go_roundw
          case rel => exact ⟨k + 1, by omega, by omega, by rw [HN.out], by go_num, below_drewN HB2.out _⟩
          case measure => simp [intOf]; omega
      · obtain rfl : k = s.size := by omega
        go_wp2
        go_ret
        exact ⟨by rw [HF.out]; rfl, HB2.out⟩

set_option maxRecDepth 100000 in
theorem law_least (s : ByteArray) (hs : s.size ≤ 9223372036854775807) (w : World) :
    Calls Try.prog 8 #[.string s] w fun e w' => e = .returned (.bool true) ∧ Below w.heap.size w w' := by
  by_cases hle : s.size ≤ 1048576
  · have HS := Lib.hid (spec_least s (by omega))
    have HP := Lib.hid (impl_least s (by omega))
    go_enter Try.func8, Try.ntmps8
    go_wp2_with fail
    refine (HS.out _).mono ?_
    rintro e w1 ⟨rfl, hb1⟩
    have HB1 := Lib.hid hb1
    clear hb1
    go_wp2_with fail
    refine (HP.out _).mono ?_
    rintro e w2 ⟨rfl, hb2⟩
    have HB2 := Lib.hid hb2
    clear hb2
    go_wp2
    go_ret
    exact ⟨rfl, HB1.out.trans (HB2.out.mono HB1.out.size)⟩
  · have g : decide ((1048576 : Int) < (s.size : Int)) = true := by simp; omega
    go_enter Try.func8, Try.ntmps8
    go_wp2
    go_ret
    exact ⟨rfl, Below.refl _ _⟩
end Go.Proofs.Ytomaanpmjlgpfaa
