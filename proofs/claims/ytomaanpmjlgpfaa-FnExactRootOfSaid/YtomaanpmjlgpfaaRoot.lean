/-
  The root of a word: the model's RootOf and the program's, at every string of at most 2^40 bytes, answer the same; nothing that was there before is changed.
-/
import Derived.Test.YtomaanpmjlgpfaaTurn
import Derived.Test.YtomaanpmjlgpfaaShelfR
namespace Go.Proofs.Ytomaanpmjlgpfaa
open Go Go.RowKit Go.Shelf

def rootUp (w : ByteArray) : Nat → Nat → Nat
  | 0, n => n
  | f + 1, n => if rootAt w n = true then n else rootUp w f (n + 1)
theorem rootUp_eq (w : ByteArray) (k : Nat) (h : RootOk w k) : ∀ f n, 1 ≤ n → n ≤ k → k < n + f → rootUp w f n = k
  | 0, n, _, h1, h2 => by omega
  | f + 1, n, h0, h1, h2 => by
    unfold rootUp
    by_cases e : n = k
    · subst e; rw [if_pos h.2.2.1]
    · rw [if_neg (by rw [h.2.2.2 n h0 (by omega)]; decide), rootUp_eq w k h f (n + 1) (by omega) (by omega) (by omega)]
/-- How long the root of a word is. -/
def rootNo (w : ByteArray) : Nat := rootUp w w.size 1
theorem rootNo_eq {w : ByteArray} {k : Nat} (h : RootOk w k) : rootNo w = k := rootUp_eq w k h _ _ (Nat.le_refl _) h.1 (by have := h.2.1; omega)
def rootW (w : ByteArray) : ByteArray := if wordy w = true then w.extract 0 (rootNo w) else ByteArray.empty
def rootC (w : ByteArray) : Nat := if wordy w = true then w.size / rootNo w else 0
def RootPost (s : ByteArray) (w : World) (e : Ending) (w' : World) : Prop := e = .returned (.tuple #[.string (rootW s), .int .i64 (rootC s : Nat)]) ∧ Below w.heap.size w w'
theorem rootPost_none {s : ByteArray} {w w' : World} (hw : wordy s = false) (hb : Below w.heap.size w w') : RootPost s w (.returned (.tuple #[.string ⟨#[]⟩, .int .i64 0])) w' := by
  refine ⟨?_, hb⟩
  simp [rootW, rootC, hw]; rfl
theorem rootPost_at {s : ByteArray} {k : Nat} {w w' : World} (hw : wordy s = true) (h : RootOk s k) (hb : Below w.heap.size w w') : RootPost s w (.returned (.tuple #[.string (s.extract 0 k), .int .i64 ((s.size / k : Nat) : Int)])) w' := by
  refine ⟨?_, hb⟩
  simp [rootW, rootC, hw, rootNo_eq h]

/-- No shorter head than of k letters gives the word. -/
def NoRoot (s : ByteArray) (k : Nat) : Prop := ∀ m, 1 ≤ m → m < k → rootAt s m = false
theorem NoRoot.next {s : ByteArray} {k : Nat} (h : NoRoot s k) (hk : rootAt s k = false) : NoRoot s (k + 1) := by
  intro m h1 h2
  by_cases e : m = k
  · subst e; exact hk
  · exact h m h1 (by omega)
theorem wrap_div (a b : Nat) (h : a ≤ 1099511627776) : wrap64 ((a : Int) / (b : Int)) = ((a / b : Nat) : Int) := by
  have hd := Nat.div_le_self a b
  rw [← Int.natCast_ediv]
  generalize a / b = d at *
  unfold wrap64
  omega

set_option maxRecDepth 100000 in
set_option maxHeartbeats 400000 in
theorem impl_root (s : ByteArray) (hs : s.size ≤ 1099511627776) (w : World) :
    Calls Try.prog 17 #[.string s] w (RootPost s w) := by
  have HI := Lib.hid (impl_nonEmpty s hs)
  go_enter Try.func17, Try.ntmps17
  cases hw : wordy s with
  | false =>
    rw [hw] at HI
    go_wp2_with fail
    refine (HI.out _).mono ?_
    rintro e w1 ⟨rfl, rfl⟩
    go_wp2
    go_ret2
    exact rootPost_none hw (Below.refl _ _)
  | true =>
    rw [hw] at HI
    have hp := wordy_pos hw
    have h16 := wordy_len hw
    have HW := Lib.hid hw
    clear hw
    go_wp2_with fail
    refine (HI.out _).mono ?_
    rintro e w1 ⟨rfl, rfl⟩
    go_wp2
    go_loopw [4] (fun i wr => ∃ k : Nat, 1 ≤ k ∧ k ≤ s.size ∧ i = .int .i64 k ∧ Below w1.heap.size w1 wr ∧ Hid (NoRoot s k)) (fun i _ => s.size - (intOf i).toNat)
    case atStart => exact ⟨1, Nat.le_refl _, hp, rfl, Below.refl _ _, Lib.hid (fun m _ _ => by omega)⟩
    case round =>
      obtain ⟨k, hk1, hk, rfl, hbl, hno⟩ := hrel
      have HB := Lib.hid hbl
      clear hbl
      by_cases hlt : k < s.size
      · have hd : s.size / k ≤ s.size := Nat.div_le_self _ _
        have hx : (s.extract 0 k).size * (s.size / k) ≤ 256 := by
          rw [head_size s k hk]
          have := Nat.mul_le_mul (show k ≤ 16 by omega) (show s.size / k ≤ 16 by omega)
          omega
        have hR := fun w => Try.strings_Repeat (s.extract 0 k) (s.size / k) w (by omega) (by omega)
        have hwr := wrap_div s.size k (by omega)
        have HQ := Lib.hid hwr
        rw [← hwr] at hR
        clear hwr
        change ∀ w, Calls _ _ _ w (fun e w' => e = .returned (.string (timesB (s.extract 0 k) (s.size / k))) ∧ Below w.heap.size w w') at hR
        have hq : ((timesB (s.extract 0 k) (s.size / k)).toList == s.toList) = rootAt s k := by rw [ba_same, timesB_root]
        have HR := Lib.hid hR
        clear hR hx
        cases hr : rootAt s k with
        | true =>
          rw [hr] at hq
          have HO := Lib.hid (show RootOk s k from ⟨hk1, hk, hr, hno.out⟩)
          clear hr
          go_wp2_with fail
          refine (HR.out _).mono ?_
          rintro e w2 ⟨rfl, hb2⟩
          have HB2 := Lib.hid hb2
          clear hb2
          generalize timesB (s.extract 0 k) (s.size / k) = y at *
          go_wp2
          go_ret2
          have h := rootPost_at HW.out HO.out (HB.out.trans (HB2.out.mono HB.out.size))
          rw [← HQ.out] at h
          exact h
        | false =>
          rw [hr] at hq
          have HO := Lib.hid (hno.out.next hr)
          clear hr
          go_wp2_with fail
          refine (HR.out _).mono ?_
          rintro e w2 ⟨rfl, hb2⟩
          have HB2 := Lib.hid hb2
          clear hb2
          generalize timesB (s.extract 0 k) (s.size / k) = y at *
          go_wp2
          go_roundw
          case rel => exact ⟨k + 1, by omega, by omega, by go_num, HB.out.trans (HB2.out.mono HB.out.size), HO⟩
          case measure => simp [intOf]; omega
      · obtain rfl : k = s.size := by omega
        have HO := Lib.hid (show RootOk s s.size from ⟨hk1, hk, rootAt_all s hp, hno.out⟩)
        go_wp2
        go_ret2
        have h := rootPost_at HW.out HO.out HB.out
        rw [Nat.div_self hp, show s.extract 0 s.size = s from ByteArray.extract_zero_size] at h
        exact h

set_option maxRecDepth 100000 in
theorem spec_times (p : ByteArray) (c : Nat) (hc : c ≤ 1048576) (hz : c * p.size ≤ 1099511627776) (w : World) :
    Calls Try.prog 62 #[.string p, .int .i64 c] w fun e w' => e = .returned (.string (timesB p c)) ∧ w' = w := by
  go_enter Try.func62, Try.ntmps62
  go_wp2
  go_loop [5, 6] (fun v i => ∃ k : Nat, k ≤ c ∧ v = .string (timesB p k) ∧ i = .int .i64 k) (fun _ i => c - (intOf i).toNat)
  case atStart => exact ⟨0, Nat.zero_le _, rfl, rfl⟩
  case round =>
    obtain ⟨k, hk, rfl, rfl⟩ := hrel
    by_cases hlt : k < c
    · have hsz : (timesB p k).size + p.size ≤ 1099511627776 := by
        rw [timesB_size, ← Nat.succ_mul]
        exact Nat.le_trans (Nat.mul_le_mul_right _ hlt) hz
      have HN := Lib.hid (timesB_next p k)
      go_wp2
      go_round
      case rel => exact ⟨k + 1, by omega, by rw [← HN.out], by go_num⟩
      case measure => simp [intOf]; omega
    · obtain rfl : k = c := by omega
      go_wp2
      go_ret
      exact ⟨rfl, rfl⟩

set_option maxRecDepth 100000 in
set_option maxHeartbeats 400000 in
theorem spec_root (s : ByteArray) (hs : s.size ≤ 1099511627776) (w : World) :
    Calls Try.prog 18 #[.string s] w (RootPost s w) := by
  have HI := Lib.hid (spec_isWord 3 s hs)
  go_enter Try.func18, Try.ntmps18
  by_cases h0 : s.size = 0
  · have he := list_empty h0
    have he2 : s.toList.isEmpty = true := by simpa using he
    go_wp2
    go_ret2
    exact rootPost_none (by simp [wordy, h0]) (Below.refl _ _)
  have he := list_some h0
  have he2 : s.toList.isEmpty = false := by simpa using he
  cases hw : isW 3 s with
  | false =>
    rw [hw] at HI
    go_wp2_with fail
    refine (HI.out _).mono ?_
    rintro e w1 ⟨rfl, rfl⟩
    go_wp2
    go_ret2
    exact rootPost_none (by simp [wordy, hw]) (Below.refl _ _)
  | true =>
    rw [hw] at HI
    have hw' : wordy s = true := by simp [wordy, h0, hw]
    have hp := wordy_pos hw'
    have h16 := wordy_len hw'
    have HW := Lib.hid hw'
    clear hw hw'
    go_wp2_with fail
    refine (HI.out _).mono ?_
    rintro e w1 ⟨rfl, rfl⟩
    go_wp2
    go_loopw [4] (fun i wr => ∃ k : Nat, 1 ≤ k ∧ k ≤ s.size ∧ i = .int .i64 k ∧ Below w1.heap.size w1 wr ∧ Hid (NoRoot s k)) (fun i _ => s.size - (intOf i).toNat)
    case atStart => exact ⟨1, Nat.le_refl _, hp, rfl, Below.refl _ _, Lib.hid (fun m _ _ => by omega)⟩
    case round =>
      obtain ⟨k, hk1, hk, rfl, hbl, hno⟩ := hrel
      have HB := Lib.hid hbl
      clear hbl
      have hd : s.size / k ≤ s.size := Nat.div_le_self _ _
      have hx : s.size / k * (s.extract 0 k).size ≤ 256 := by
        rw [head_size s k hk]
        have := Nat.mul_le_mul (show s.size / k ≤ 16 by omega) (show k ≤ 16 by omega)
        omega
      have hT := fun w => spec_times (s.extract 0 k) (s.size / k) (by omega) (by omega) w
      have hwr := wrap_div s.size k (by omega)
      have HQ := Lib.hid hwr
      rw [← hwr] at hT
      have hq : ((timesB (s.extract 0 k) (s.size / k)).toList == s.toList) = rootAt s k := by rw [ba_same, timesB_root]
      have HT := Lib.hid hT
      clear hT hx hwr
      have hrem : Int.tmod (s.size : Int) (k : Int) = ((s.size % k : Nat) : Int) := (Int.ofNat_tmod _ _).symm
      by_cases hm : s.size % k = 0
      · have g0 : (Int.tmod (s.size : Int) (k : Int) == 0) = true := by rw [hrem, hm]; rfl
        have g1 : ((s.size : Int) % (k : Int) == 0) = true := by rw [← Int.natCast_emod, hm]; rfl
        cases hr : rootAt s k with
        | true =>
          rw [hr] at hq
          have HO := Lib.hid (show RootOk s k from ⟨hk1, hk, hr, hno.out⟩)
          clear hr
          go_wp2_with fail
          go_quiet (first | (go_at_call 62; refine Calls.quiet_of_same (HT.out _)))
          go_wp2
          go_quiet (fail)
          go_wp2
          go_ret2
          have h := fun n m => rootPost_at (w := w1) (w' := (wr.drewN n).drewN m) HW.out HO.out (below_drewN (below_drewN HB.out n) m)
          rw [← HQ.out] at h
          exact h _ _
        | false =>
          rw [hr] at hq
          have HO := Lib.hid (hno.out.next hr)
          have hne : k ≠ s.size := fun e => by rw [e, rootAt_all s hp] at hr; cases hr
          clear hr
          go_wp2_with fail
          go_quiet (first | (go_at_call 62; refine Calls.quiet_of_same (HT.out _)))
          go_wp2
          go_roundw
          case rel => exact ⟨k + 1, by omega, by omega, by go_num, below_drewN HB.out _, HO⟩
          case measure => simp [intOf]; omega
      · have g0 : (Int.tmod (s.size : Int) (k : Int) == 0) = false := by rw [hrem, beq_eq_false_iff_ne]; omega
        have g1 : ((s.size : Int) % (k : Int) == 0) = false := by rw [← Int.natCast_emod, beq_eq_false_iff_ne]; omega
        have hr : rootAt s k = false := by
          rw [← Bool.not_eq_true]
          exact fun e => hm (rootAt_div hk e)
        have HO := Lib.hid (hno.out.next hr)
        have hne : k ≠ s.size := fun e => by rw [e, rootAt_all s hp] at hr; cases hr
        clear hr hm hrem hq
        have g2 : ((s.size : Int) % (k : Int) != 0) = true := by rw [bne, g1]; rfl
        go_wp2_with fail
        go_quiet (fail)
        go_wp2
        go_roundw
        case rel => exact ⟨k + 1, by omega, by omega, by go_num, below_drewN HB.out _, HO⟩
        case measure => simp [intOf]; omega

set_option maxRecDepth 100000 in
theorem law_root (s : ByteArray) (hs : s.size ≤ 9223372036854775807) (w : World) :
    Calls Try.prog 6 #[.string s] w fun e w' => e = .returned (.bool true) ∧ Below w.heap.size w w' := by
  by_cases hle : s.size ≤ 1048576
  · have HS := Lib.hid (spec_root s (by omega))
    have HP := Lib.hid (impl_root s (by omega))
    go_enter Try.func6, Try.ntmps6
    go_wp2_with fail
    refine (HS.out _).mono ?_
    rintro e w1 ⟨rfl, hb1⟩
    have HB1 := Lib.hid hb1
    clear hb1
    go_wp2_with fail
    refine (HP.out _).mono ?_
    rintro e w2 ⟨rfl, hb2⟩
    have HB2 := Lib.hid hb2
    clear hb2
    go_wp2
    go_ret
    exact ⟨rfl, HB1.out.trans (HB2.out.mono HB1.out.size)⟩
  · have g : decide ((1048576 : Int) < (s.size : Int)) = true := by simp; omega
    go_enter Try.func6, Try.ntmps6
    go_wp2
    go_ret
    exact ⟨rfl, Below.refl _ _⟩
end Go.Proofs.Ytomaanpmjlgpfaa
