/-
  The model's FormatInt at every int: its digit loop gives the numeral; nothing that was there before is changed.
-/
import Derived.Test.YtalclebehbdliaaDoorRows
import Derived.Test.YtalclebehbdliaaDoorNum
import Derived.WalkKit
import Derived.WalkSpells
import Derived.WalkLawsBesides
import Derived.Laws.BytesArg
import Derived.Lib.Hide
import Derived.Lib.AppendIntMem
namespace Go.Proofs.YtalclebehbdliaaDoor
open Go Go.RowKit

theorem ret_str {a b : ByteArray} (h : a = b) : Ending.returned (.string a) = .returned (.string b) := by rw [h]
theorem bytes_ext {a : ByteArray} {l : List UInt8} (h : a.data.toList = l) : a = ⟨l.toArray⟩ := by subst h; rfl

/-- 'string([]byte{x})' -/
theorem conv_one (b : UInt8) (y : Int) (hy : y = (b.toNat : Int)) (w : World) : (convert 43 9 (.slice (some ⟨w.heap.size, 0, none⟩) 1 1)).run Tryd.prog (w.alloc (.cells #[.int .u8 y] 5)) = .ok (.string ⟨#[b]⟩) (w.alloc (.cells #[.int .u8 y] 5)) := by
  subst hy
  have h := run_convert_bytes_arg (P := Tryd.prog) (w.alloc (.cells #[.int .u8 (b.toNat : Int)] 5)) 43 5 Tryd.underlying43 Tryd.underlying5 w.heap.size 0 1 1 [(b.toNat : Int)] rfl (fun i hi => by
    obtain rfl : i = 0 := by omega
    simp [go_sem]) 9 Tryd.underlying9
  rw [h]
  simp [strOfNums]

theorem dd_rest {u c : Nat} {s : ByteArray} {b : UInt8} (h : dd c ++ s.data.toList = dd u) (h0 : 0 < c) (hb : b = UInt8.ofNat (48 + c % 10)) : dd (c / 10) ++ ((⟨#[b]⟩ : ByteArray) ++ s).data.toList = dd u := by
  rw [← h, dd_step (show c ≠ 0 by omega), hb]; simp [ByteArray.data_append]
theorem dd_len {u c : Nat} {s : ByteArray} (h : dd c ++ s.data.toList = dd u) (hu : u ≤ 9223372036854775808) : s.size ≤ 1000 := by
  have h1 := dd_length 20 u (by omega)
  rw [← h, List.length_append] at h1
  have h2 : s.size = s.data.toList.length := rfl
  omega
theorem digit_byte (c : Nat) : ∃ b : UInt8, b = UInt8.ofNat (48 + c % 10) ∧ (48 : Int) + (c : Int) % 10 = (b.toNat : Int) :=
  ⟨_, rfl, by
    have e : (UInt8.ofNat (48 + c % 10)).toNat = 48 + c % 10 := by rw [UInt8.toNat_ofNat']; exact Nat.mod_eq_of_lt (by omega)
    rw [e]; omega⟩

set_option maxRecDepth 100000 in
set_option maxHeartbeats 400000 in
theorem spec_fmt_pos (u : Nat) (hu0 : 0 < u) (hu : u ≤ 9223372036854775807) (w : World) :
    Calls Tryd.prog 17 #[.int .i64 u] w fun e w' => e = .returned (.string ⟨(Lib.itoa u).toArray⟩) ∧ Below w.heap.size w w' := by
  have hz : ((u : Int) == 0) = false := by simp; omega
  have hn : decide ((u : Int) < 0) = false := by simp
  go_enter Tryd.func17, Tryd.ntmps17
  go_wp2
  go_loopw [0, 4] (fun n o wr => ∃ (c : Nat) (s : ByteArray), c ≤ u ∧ Hid (dd c ++ s.data.toList = dd u) ∧ n = .int .i64 c ∧ o = .string s ∧ Below w.heap.size w wr) (fun n _ _ => (intOf n).toNat)
  case atStart => exact ⟨u, _, Nat.le_refl _, Lib.hid (by simp), rfl, rfl, Below.refl _ _⟩
  case round =>
    obtain ⟨c, s, hc, hl, rfl, rfl, hb⟩ := hrel
    by_cases h0 : 0 < c
    · obtain ⟨b, hb1, hb2⟩ := digit_byte c
      have hcv := conv_one b (48 + (c : Int) % 10) hb2
      have hs := dd_len hl.out (by omega)
      have HB := Lib.hid hb1
      clear hb1 hb2
      go_wp2
      go_roundw
      case rel => exact ⟨c / 10, _, by omega, Lib.hid (dd_rest hl.out h0 HB.out), by go_num, rfl, hb.alloc (by have := hb.size; omega) _⟩
      case measure => simp [intOf]; omega
    · obtain rfl : c = 0 := by omega
      go_wp2
      go_ret
      exact ⟨ret_str (bytes_ext (by have := hl.out; rw [dd_zero] at this; rw [itoa_pos (by omega), ← this]; rfl)), hb⟩

theorem tmod_neg (c : Nat) : Int.tmod (-(c : Int)) 10 = -((c : Int) % 10) := by
  rw [Int.neg_tmod, Int.tmod_eq_emod_of_nonneg (by omega)]
theorem tdiv_neg (c : Nat) : Int.tdiv (-(c : Int)) 10 = -((c : Int) / 10) := by
  rw [Int.neg_tdiv, Int.tdiv_eq_ediv_of_nonneg (by omega)]

set_option maxRecDepth 100000 in
set_option maxHeartbeats 400000 in
theorem spec_fmt_neg (u : Nat) (hu0 : 0 < u) (hu : u ≤ 9223372036854775808) (w : World) :
    Calls Tryd.prog 17 #[.int .i64 (-(u : Int))] w fun e w' => e = .returned (.string ⟨(Lib.itoa (-(u : Int))).toArray⟩) ∧ Below w.heap.size w w' := by
  have hz : ((-(u : Int)) == 0) = false := by simp; omega
  have hn : decide ((-(u : Int)) < 0) = true := by simp; omega
  go_enter Tryd.func17, Tryd.ntmps17
  go_wp2
  go_loopw [0, 4] (fun n o wr => ∃ (c : Nat) (s : ByteArray), c ≤ u ∧ Hid (dd c ++ s.data.toList = dd u) ∧ n = .int .i64 (-(c : Int)) ∧ o = .string s ∧ Below w.heap.size w wr) (fun n _ _ => (intOf n).natAbs)
  case atStart => exact ⟨u, _, Nat.le_refl _, Lib.hid (by simp), rfl, rfl, Below.refl _ _⟩
  case round =>
    obtain ⟨c, s, hc, hl, rfl, rfl, hb⟩ := hrel
    by_cases h0 : 0 < c
    · obtain ⟨b, hb1, hb2⟩ := digit_byte c
      have hcv := conv_one b (48 + (c : Int) % 10) hb2
      have hs := dd_len hl.out (by omega)
      have HB := Lib.hid hb1
      have ht := tmod_neg c
      have hd := tdiv_neg c
      have hb3 := Lib.hid hb2
      clear hb1 hb2
      by_cases h1 : 0 < (c : Int) % 10
      · go_wp2
        go_roundw
        case rel => exact ⟨c / 10, _, by omega, Lib.hid (dd_rest hl.out h0 HB.out), by go_num, rfl, hb.alloc (by have := hb.size; omega) _⟩
        case measure => simp [intOf]; omega
      · have hcv2 := conv_one b (48 + -((c : Int) % 10)) (by have := HB.out; subst this; rw [← hb3.out]; omega)
        clear hcv
        go_wp2
        go_roundw
        case rel => exact ⟨c / 10, _, by omega, Lib.hid (dd_rest hl.out h0 HB.out), by go_num, rfl, hb.alloc (by have := hb.size; omega) _⟩
        case measure => simp [intOf]; omega
    · obtain rfl : c = 0 := by omega
      have hs := dd_len hl.out (by omega)
      go_wp2
      go_ret
      exact ⟨ret_str (bytes_ext (by have := hl.out; rw [dd_zero] at this; rw [itoa_negd (by omega), ← this]; simp [ByteArray.data_append])), hb⟩

set_option maxRecDepth 100000 in
set_option maxHeartbeats 400000 in
theorem spec_fmt_zero (w : World) :
    Calls Tryd.prog 17 #[.int .i64 0] w fun e w' => e = .returned (.string ⟨(Lib.itoa 0).toArray⟩) ∧ Below w.heap.size w w' := by
  rw [itoa_zero]
  go_enter Tryd.func17, Tryd.ntmps17
  go_wp2
  go_ret
  exact ⟨rfl, Below.refl _ _⟩

/-- The model's FormatInt, at every int. -/
theorem spec_fmt (n : Int) (h0 : -9223372036854775808 ≤ n) (h1 : n ≤ 9223372036854775807) (w : World) :
    Calls Tryd.prog 17 #[.int .i64 n] w fun e w' => e = .returned (.string ⟨(Lib.itoa n).toArray⟩) ∧ Below w.heap.size w w' := by
  rcases Int.lt_trichotomy n 0 with h | h | h
  · obtain ⟨u, rfl⟩ : ∃ u : Nat, n = -(u : Int) := ⟨n.natAbs, by omega⟩
    exact spec_fmt_neg u (by omega) (by omega) w
  · subst h; exact spec_fmt_zero w
  · obtain ⟨u, rfl⟩ : ∃ u : Nat, n = (u : Int) := ⟨n.toNat, by omega⟩
    exact spec_fmt_pos u (by omega) (by omega) w
end Go.Proofs.YtalclebehbdliaaDoor
