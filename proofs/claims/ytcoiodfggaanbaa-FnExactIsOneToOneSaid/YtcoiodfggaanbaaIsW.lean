/-
  What a word is: the model's IsWord and the program's, at every int and every string of at most 2^40 bytes, answer the same; nothing is changed.
-/
import Derived.Test.YtcoiodfggaanbaaWordNum
import Derived.Test.YtcoiodfggaanbaaChecked
namespace Go.Proofs.Ytcoiodfggaanbaa
open Go Go.RowKit

theorem impl_isLetterCount (k : Int) (w : World) :
    Calls Try.prog 103 #[.int .i64 k] w fun e w' => e = .returned (.bool (decide (1 ≤ k) && decide (k ≤ 3))) ∧ w' = w := by
  go_enter Try.func103, Try.ntmps103
  cases h1 : decide (1 ≤ k) with
  | false => go_wp2; go_ret; exact ⟨rfl, rfl⟩
  | true => go_wp2; go_ret; exact ⟨rfl, rfl⟩
theorem spec_in (x lo hi : Int) (w : World) :
    Calls Try.prog 65 #[.int .i64 x, .int .i64 lo, .int .i64 hi] w fun e w' => e = .returned (.bool (decide (lo ≤ x) && decide (x ≤ hi))) ∧ w' = w := by
  go_enter Try.func65, Try.ntmps65
  cases h1 : decide (lo ≤ x) with
  | false => go_wp2; go_ret; exact ⟨rfl, rfl⟩
  | true => go_wp2; go_ret; exact ⟨rfl, rfl⟩

/-- The first k bytes are letters. -/
def OkTo (n : Int) (s : ByteArray) (k : Nat) : Prop := ∀ j (hj : j < s.size), j < k → isL n s[j] = true
theorem OkTo.zero (n : Int) (s : ByteArray) : OkTo n s 0 := fun j _ h => by omega
theorem OkTo.next {n : Int} {s : ByteArray} {k : Nat} (h : OkTo n s k) (hk : k < s.size) (hl : isL n s[k] = true) : OkTo n s (k + 1) := by
  intro j hj hjk
  by_cases e : j = k
  · subst e; exact hl
  · exact h j hj (by omega)
theorem OkTo.all {n : Int} {s : ByteArray} (h : OkTo n s s.size) : s.data.toList.all (isL n) = true := all_of (fun j hj => h j hj hj)

theorem letter_no (m : Nat) (hm : m < 256) (h : 97 ≤ m) : wrap64 (wrap64 (m : Int) - 97) = (m : Int) - 97 := by unfold wrap64; omega

set_option maxRecDepth 100000 in
theorem spec_isWord (n : Int) (s : ByteArray) (hs : s.size ≤ 1099511627776) (w : World) :
    Calls Try.prog 67 #[.int .i64 n, .string s] w fun e w' => e = .returned (.bool (isW n s)) ∧ w' = w := by
  have HI := Lib.hid (spec_in n 1 3)
  go_enter Try.func67, Try.ntmps67
  go_wp2
  go_loop [5] (fun i => ∃ k : Nat, k ≤ s.size ∧ i = .int .i64 k ∧ Hid (OkTo n s k)) (fun i => s.size - (intOf i).toNat)
  case atStart => exact ⟨0, Nat.zero_le _, rfl, Lib.hid (OkTo.zero n s)⟩
  case round =>
    obtain ⟨k, hk, rfl, hok⟩ := hrel
    by_cases hlt : k < s.size
    · cases hl : isL n s[k] with
      | true =>
        have hnext := Lib.hid (hok.out.next hlt hl)
        unfold isL at hl
        simp only [Bool.and_eq_true, decide_eq_true_eq] at hl
        obtain ⟨l1, l2⟩ := hl
        have hb : s[k].toNat < 256 := s[k].toNat_lt
        have c1 : decide ((s[k].toNat : Int) < 97) = false := by simp; omega
        have c2 : decide (n ≤ wrap64 (wrap64 (s[k].toNat : Int) - 97)) = false := by rw [letter_no _ hb l1]; simp; omega
        go_wp2
        go_round
        case rel => exact ⟨k + 1, by omega, by go_num, hnext⟩
        case measure => simp [intOf]; omega
      | false =>
        have HR := Lib.hid (all_not hlt hl)
        have hb : s[k].toNat < 256 := s[k].toNat_lt
        by_cases c0 : s[k].toNat < 97
        · have c1 : decide ((s[k].toNat : Int) < 97) = true := by simp; omega
          go_wp2
          all_goals first | (go_ret; exact ⟨by simp [isW, HR.out], rfl⟩) | (exfalso; omega)
        · have c1 : decide ((s[k].toNat : Int) < 97) = false := by simp; omega
          have c2 : decide (n ≤ wrap64 (wrap64 (s[k].toNat : Int) - 97)) = true := by
            rw [letter_no _ hb (by omega)]
            unfold isL at hl
            simp at hl ⊢; omega
          have c3 : n ≤ (s[k].toNat : Int) - 97 := by have := of_decide_eq_true c2; rw [letter_no _ hb (by omega)] at this; exact this
          clear hl c2
          go_wp2
          all_goals first | (go_ret; exact ⟨by simp [isW, HR.out], rfl⟩) | (exfalso; omega)
    · obtain rfl : k = s.size := by omega
      have HA := Lib.hid hok.out.all
      go_wp2_with fail
      refine (HI.out _).mono ?_
      rintro e w1 ⟨rfl, rfl⟩
      cases hx : (decide (1 ≤ n) && decide (n ≤ 3)) with
      | false =>
        go_wp2
        go_ret
        exact ⟨by simp only [isW, HA.out, hx]; rfl, rfl⟩
      | true =>
        go_wp2
        go_ret
        exact ⟨by simp [isW, HA.out, hx]; omega, rfl⟩

/-- All bytes are letters, where there are n. -/
def allL (n : Int) (s : ByteArray) : Bool := s.data.toList.all (isL n)

set_option maxRecDepth 100000 in
theorem impl_only (n : Int) (hn : 1 ≤ n ∧ n ≤ 3) (s : ByteArray) (hs : s.size ≤ 1099511627776) (w : World) :
    Calls Try.prog 89 #[.int .i64 n, .string s] w fun e w' => e = .returned (.bool (allL n s)) ∧ w' = w := by
  go_enter Try.func89, Try.ntmps89
  go_wp2
  go_loop [8] (fun i => ∃ k : Nat, k ≤ s.size ∧ i = .int .i64 k ∧ Hid (OkTo n s k)) (fun i => s.size - (intOf i).toNat)
  case atStart => exact ⟨0, Nat.zero_le _, rfl, Lib.hid (OkTo.zero n s)⟩
  case round =>
    obtain ⟨k, hk, rfl, hok⟩ := hrel
    by_cases hlt : k < s.size
    · have hb : s[k].toNat < 256 := s[k].toNat_lt
      cases hl : isL n s[k] with
      | true =>
        have hnext := Lib.hid (hok.out.next hlt hl)
        unfold isL at hl
        simp only [Bool.and_eq_true, decide_eq_true_eq] at hl
        obtain ⟨l1, l2⟩ := hl
        have c1 : decide ((s[k].toNat : Int) < 97) = false := by simp; omega
        go_wp2
        go_round
        case rel => exact ⟨k + 1, by omega, by go_num, hnext⟩
        case measure => simp [intOf]; omega
      | false =>
        have HR : Hid (allL n s = false) := Lib.hid (all_not hlt hl)
        by_cases c0 : s[k].toNat < 97
        · have c1 : decide ((s[k].toNat : Int) < 97) = true := by simp; omega
          go_wp2
          all_goals (go_ret; exact ⟨by simp [HR.out], rfl⟩)
        · have c1 : decide ((s[k].toNat : Int) < 97) = false := by simp; omega
          have c2 : n ≤ (s[k].toNat : Int) - 97 := by
            unfold isL at hl
            simp at hl; omega
          clear hl
          go_wp2
          all_goals (go_ret; exact ⟨by simp [HR.out], rfl⟩)
    · obtain rfl : k = s.size := by omega
      have HA : Hid (allL n s = true) := Lib.hid hok.out.all
      go_wp2
      go_ret
      exact ⟨by simp [HA.out], rfl⟩

set_option maxRecDepth 100000 in
theorem impl_isWord (n : Int) (s : ByteArray) (hs : s.size ≤ 1099511627776) (w : World) :
    Calls Try.prog 120 #[.int .i64 n, .string s] w fun e w' => e = .returned (.bool (isW n s)) ∧ w' = w := by
  have HI := Lib.hid (impl_isLetterCount n)
  go_enter Try.func120, Try.ntmps120
  go_wp2_with fail
  refine (HI.out _).mono ?_
  rintro e w1 ⟨rfl, rfl⟩
  cases hx : (decide (1 ≤ n) && decide (n ≤ 3)) with
  | false =>
    go_wp2
    go_ret
    exact ⟨by simp only [isW, hx]; rfl, rfl⟩
  | true =>
    have hn : 1 ≤ n ∧ n ≤ 3 := by simpa using hx
    by_cases h16 : s.size ≤ 16
    · have g0 : decide ((s.size : Int) ≤ (16 : Int)) = true := by simp; omega
      have HX := Lib.hid hx
      have HO := Lib.hid (impl_only n hn s hs w1)
      clear hx hn
      go_wp2_with fail
      refine HO.out.mono ?_
      rintro e w2 ⟨rfl, rfl⟩
      go_wp2
      go_ret
      exact ⟨by simp only [isW, HX.out, decide_eq_true h16, Bool.and_true, Bool.true_and]; rfl, rfl⟩
    · have g0 : decide ((s.size : Int) ≤ (16 : Int)) = false := by simp; omega
      clear hx
      go_wp2
      go_ret
      exact ⟨by simp [isW, h16], rfl⟩

end Go.Proofs.Ytcoiodfggaanbaa
