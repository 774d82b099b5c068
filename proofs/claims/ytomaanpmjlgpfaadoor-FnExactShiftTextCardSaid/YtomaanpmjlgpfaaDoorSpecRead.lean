/-
  The model's reading of a numeral (l1Read, ParseInt, ParseNumber): at every string it returns the integer between the limits whose numeral the string is, and true; else 0 and false; nothing that was there before is changed.
-/
import Derived.Test.YtomaanpmjlgpfaaDoorFmtSpec
import Derived.Test.YtomaanpmjlgpfaaDoorRead
import Derived.Lib.IndexBytes
namespace Go.Proofs.YtomaanpmjlgpfaaDoor
open Go Go.RowKit

theorem getElem_q (t : ByteArray) (k : Nat) (h : k < t.size) : t.data.toList[k]? = some t[k] := by
  have h' : k < t.data.toList.length := h
  rw [List.getElem?_eq_getElem h']; rfl
theorem ret_num {a b : Int} {x y : Bool} (h : a = b) (h2 : x = y) : Ending.returned (.tuple #[.int .i64 a, .bool x]) = .returned (.tuple #[.int .i64 b, .bool y]) := by rw [h, h2]
theorem len_data (t : ByteArray) : t.data.toList.length = t.size := rfl
theorem pow_le_12 {k : Nat} (h : k ≤ 12) : 10 ^ k ≤ 1000000000000 := by
  have := Nat.pow_le_pow_right (show 0 < 10 by decide) h
  simpa using this
theorem spec_fmt_as (n : Int) (h0 : -9223372036854775808 ≤ n) (h1 : n ≤ 9223372036854775807) (x : ByteArray) (hx : Lib.itoa n = x.data.toList) (w : World) :
    Calls Tryd.prog 17 #[.int .i64 n] w fun e w' => e = .returned (.string x) ∧ Below w.heap.size w w' := by
  have h := spec_fmt n h0 h1 w
  rw [hx] at h
  exact h
theorem str_eq_iff {l : List UInt8} {s : ByteArray} : ((⟨l.toArray⟩ : ByteArray) = s) ↔ l = s.data.toList := by
  constructor
  · rintro rfl; rfl
  · rintro rfl; rfl

set_option maxRecDepth 100000 in
set_option maxHeartbeats 1600000 in
theorem spec_read_pos (s : ByteArray) (most lim : Nat) (hm1 : 1 ≤ most) (hm2 : most ≤ 12) (hl : Hid (lim + 1 = 10 ^ most)) (w : World) (h0 : 0 < s.size)
    (hb : ((s[0].toNat : Int) == 45) = false) (ht : Hid (magOf s.data.toList = s.data.toList)) (hn : Hid (negOf s.data.toList = false)) (hts : s.size ≤ 9223372036854775807) :
    Calls Tryd.prog 35 #[.string s, .int .i64 most] w fun e w' => e = .returned (.tuple #[.int .i64 (numV (readOf lim s.data.toList)), .bool (numB (readOf lim s.data.toList))]) ∧ Below w.heap.size w w' := by
  have hz : ¬ s.size < 1 := by omega
  by_cases hy : most < s.size
  · have hR : readOf lim s.data.toList = none := readOf_length hm1 (by have := hl.out; omega) (by rw [ht.out, len_data]; omega)
    have HR := Lib.hid hR
    clear hR
    go_enter Tryd.func35, Tryd.ntmps35
    go_wp2
    go_ret2
    exact ⟨ret_num (by rw [HR.out]; rfl) (by rw [HR.out]; rfl), Below.refl _ _⟩
  have hz1 : decide ((s.size : Int) < 1) = false := by simp; omega
  have hy1 : decide (most < s.size) = false := by simp; omega
  go_enter Tryd.func35, Tryd.ntmps35
  go_wp2
  go_loop [8, 9] (fun n i => ∃ k m : Nat, k ≤ s.size ∧ m < 1000000000000 ∧ Hid (Lib.decFrom 0 (s.data.toList.take k) = some m) ∧ n = .int .i64 m ∧ i = .int .i64 k) (fun _ i => s.size - (intOf i).toNat)
  case atStart => exact ⟨0, 0, Nat.zero_le _, by decide, Lib.hid (by simp [Lib.decFrom]), rfl, rfl⟩
  case round =>
    obtain ⟨k, m, hk, hmb, hd, rfl, rfl⟩ := hrel
    by_cases hlt : k < s.size
    · have hq := getElem_q s k hlt
      by_cases hdig : 48 ≤ s[k].toNat ∧ s[k].toNat ≤ 57
      · obtain ⟨hd1, hd2⟩ := hdig
        have hnext := decFrom_next hd.out hq hd1 hd2
        have hbound := decFrom_take_lt (l := s.data.toList) (k := k + 1) (by rw [len_data]; omega) hnext
        have hp := pow_le_12 (k := k + 1) (by omega)
        have HN := Lib.hid hnext
        have hm' : m * 10 + (s[k].toNat - 48) < 1000000000000 := by omega
        clear hnext hq hbound hp
        have c1 : decide ((s[k].toNat : Int) < 48) = false := by simp; omega
        have c2 : decide ((57 : Int) < (s[k].toNat : Int)) = false := by simp; omega
        go_wp2
        go_round
        case rel => exact ⟨k + 1, m * 10 + (s[k].toNat - 48), by omega, hm', HN, by go_num, by go_num⟩
        case measure => simp [intOf]; omega
      · have hR : readOf lim s.data.toList = none := readOf_nodigit (k := k) (b := s[k]) (by rw [ht.out]; exact hq) (by omega)
        have HR := Lib.hid hR
        clear hR hq
        go_wp2
        all_goals (go_ret2; exact ⟨ret_num (by rw [HR.out]; rfl) (by rw [HR.out]; rfl), Below.refl _ _⟩)
    · obtain rfl : k = s.size := by omega
      have hall : Lib.decFrom 0 (magOf s.data.toList) = some m := by
        have := hd.out
        rw [List.take_of_length_le (by rw [len_data]; omega)] at this
        rw [ht.out]; exact this
      have hmm : m ≤ lim := by
        have h1 := decFrom_lt _ 0 0 m (by decide) hall
        have h2 := hl.out
        rw [ht.out, len_data, Nat.zero_add] at h1
        have h3 := Nat.pow_le_pow_right (show 0 < 10 by decide) (show s.size ≤ most by omega)
        omega
      have HA := Lib.hid hall
      clear hall
      by_cases he : Lib.itoa (sg false m) = s.data.toList
      · have hR : readOf lim s.data.toList = some (sg false m) := by
          have := readOf_same hmm (l := s.data.toList) (by rw [hn.out]; exact he)
          rw [hn.out] at this; exact this
        have HR := Lib.hid hR
        have HF := Lib.hid (spec_fmt_as ((m : Nat) : Int) (by omega) (by omega) s he)
        clear hR he
        go_wp2_with fail
        refine (HF.out _).mono ?_
        rintro e w1 ⟨rfl, hb1⟩
        go_wp2
        go_ret2
        exact ⟨ret_num (by rw [HR.out]; rfl) (by rw [HR.out]; rfl), hb1⟩
      · have hR : readOf lim s.data.toList = none := readOf_other HA.out (by rw [hn.out]; exact he)
        have HR := Lib.hid hR
        obtain ⟨x, hx⟩ : ∃ x : ByteArray, Lib.itoa (sg false m) = x.data.toList := ⟨⟨_⟩, rfl⟩
        have hne : (x.toList == s.toList) = false := by
          rw [beq_eq_false_iff_ne]
          intro h
          rw [ByteArray.toList_eq, ByteArray.toList_eq] at h
          exact he (by rw [hx, h])
        have HF := Lib.hid (spec_fmt_as ((m : Nat) : Int) (by omega) (by omega) x hx)
        clear hR he hx
        go_wp2_with fail
        refine (HF.out _).mono ?_
        rintro e w1 ⟨rfl, hb1⟩
        go_wp2
        go_ret2
        exact ⟨ret_num (by rw [HR.out]; rfl) (by rw [HR.out]; rfl), hb1⟩

set_option maxRecDepth 100000 in
set_option maxHeartbeats 1600000 in
theorem spec_read_neg (s t : ByteArray) (most lim : Nat) (hm1 : 1 ≤ most) (hm2 : most ≤ 12) (hl : Hid (lim + 1 = 10 ^ most)) (w : World) (h0 : 0 < s.size)
    (hb : ((s[0].toNat : Int) == 45) = true) (hsl : ∀ w, (Instr.slice 9 (.string s) (some (.int .i64 1)) none none).run Tryd.prog w = .ok (.string t) w) (ht : Hid (magOf s.data.toList = t.data.toList)) (hn : Hid (negOf s.data.toList = true)) (hts : t.size ≤ 9223372036854775807) :
    Calls Tryd.prog 35 #[.string s, .int .i64 most] w fun e w' => e = .returned (.tuple #[.int .i64 (numV (readOf lim s.data.toList)), .bool (numB (readOf lim s.data.toList))]) ∧ Below w.heap.size w w' := by
  by_cases hz : t.size < 1
  · have hR : readOf lim s.data.toList = none := readOf_length hm1 (by have := hl.out; omega) (by rw [ht.out, len_data]; omega)
    have HR := Lib.hid hR
    clear hR
    go_enter Tryd.func35, Tryd.ntmps35
    go_wp2
    go_ret2
    exact ⟨ret_num (by rw [HR.out]; rfl) (by rw [HR.out]; rfl), Below.refl _ _⟩
  by_cases hy : most < t.size
  · have hR : readOf lim s.data.toList = none := readOf_length hm1 (by have := hl.out; omega) (by rw [ht.out, len_data]; omega)
    have HR := Lib.hid hR
    clear hR
    go_enter Tryd.func35, Tryd.ntmps35
    go_wp2
    go_ret2
    exact ⟨ret_num (by rw [HR.out]; rfl) (by rw [HR.out]; rfl), Below.refl _ _⟩
  have hz1 : decide ((t.size : Int) < 1) = false := by simp; omega
  have hy1 : decide (most < t.size) = false := by simp; omega
  go_enter Tryd.func35, Tryd.ntmps35
  go_wp2
  go_loop [8, 9] (fun n i => ∃ k m : Nat, k ≤ t.size ∧ m < 1000000000000 ∧ Hid (Lib.decFrom 0 (t.data.toList.take k) = some m) ∧ n = .int .i64 m ∧ i = .int .i64 k) (fun _ i => t.size - (intOf i).toNat)
  case atStart => exact ⟨0, 0, Nat.zero_le _, by decide, Lib.hid (by simp [Lib.decFrom]), rfl, rfl⟩
  case round =>
    obtain ⟨k, m, hk, hmb, hd, rfl, rfl⟩ := hrel
    by_cases hlt : k < t.size
    · have hq := getElem_q t k hlt
      by_cases hdig : 48 ≤ t[k].toNat ∧ t[k].toNat ≤ 57
      · obtain ⟨hd1, hd2⟩ := hdig
        have hnext := decFrom_next hd.out hq hd1 hd2
        have hbound := decFrom_take_lt (l := t.data.toList) (k := k + 1) (by rw [len_data]; omega) hnext
        have hp := pow_le_12 (k := k + 1) (by omega)
        have HN := Lib.hid hnext
        have hm' : m * 10 + (t[k].toNat - 48) < 1000000000000 := by omega
        clear hnext hq hbound hp
        have c1 : decide ((t[k].toNat : Int) < 48) = false := by simp; omega
        have c2 : decide ((57 : Int) < (t[k].toNat : Int)) = false := by simp; omega
        go_wp2
        go_round
        case rel => exact ⟨k + 1, m * 10 + (t[k].toNat - 48), by omega, hm', HN, by go_num, by go_num⟩
        case measure => simp [intOf]; omega
      · have hR : readOf lim s.data.toList = none := readOf_nodigit (k := k) (b := t[k]) (by rw [ht.out]; exact hq) (by omega)
        have HR := Lib.hid hR
        clear hR hq
        go_wp2
        all_goals (go_ret2; exact ⟨ret_num (by rw [HR.out]; rfl) (by rw [HR.out]; rfl), Below.refl _ _⟩)
    · obtain rfl : k = t.size := by omega
      have hall : Lib.decFrom 0 (magOf s.data.toList) = some m := by
        have := hd.out
        rw [List.take_of_length_le (by rw [len_data]; omega)] at this
        rw [ht.out]; exact this
      have hmm : m ≤ lim := by
        have h1 := decFrom_lt _ 0 0 m (by decide) hall
        have h2 := hl.out
        rw [ht.out, len_data, Nat.zero_add] at h1
        have h3 := Nat.pow_le_pow_right (show 0 < 10 by decide) (show t.size ≤ most by omega)
        omega
      have HA := Lib.hid hall
      clear hall
      by_cases he : Lib.itoa (sg true m) = s.data.toList
      · have hR : readOf lim s.data.toList = some (sg true m) := by
          have := readOf_same hmm (l := s.data.toList) (by rw [hn.out]; exact he)
          rw [hn.out] at this; exact this
        have HR := Lib.hid hR
        have HF := Lib.hid (spec_fmt_as (-(m : Int)) (by omega) (by omega) s he)
        clear hR he
        go_wp2_with fail
        refine (HF.out _).mono ?_
        rintro e w1 ⟨rfl, hb1⟩
        go_wp2
        go_ret2
        exact ⟨ret_num (by rw [HR.out]; rfl) (by rw [HR.out]; rfl), hb1⟩
      · have hR : readOf lim s.data.toList = none := readOf_other HA.out (by rw [hn.out]; exact he)
        have HR := Lib.hid hR
        obtain ⟨x, hx⟩ : ∃ x : ByteArray, Lib.itoa (sg true m) = x.data.toList := ⟨⟨_⟩, rfl⟩
        have hne : (x.toList == s.toList) = false := by
          rw [beq_eq_false_iff_ne]
          intro h
          rw [ByteArray.toList_eq, ByteArray.toList_eq] at h
          exact he (by rw [hx, h])
        have HF := Lib.hid (spec_fmt_as (-(m : Int)) (by omega) (by omega) x hx)
        clear hR he hx
        go_wp2_with fail
        refine (HF.out _).mono ?_
        rintro e w1 ⟨rfl, hb1⟩
        go_wp2
        go_ret2
        exact ⟨ret_num (by rw [HR.out]; rfl) (by rw [HR.out]; rfl), hb1⟩

set_option maxRecDepth 100000 in
set_option maxHeartbeats 400000 in
theorem spec_read_empty (s : ByteArray) (h0 : s.size = 0) (most lim : Nat) (hm1 : 1 ≤ most) (hl : Hid (lim + 1 = 10 ^ most)) (w : World) :
    Calls Tryd.prog 35 #[.string s, .int .i64 most] w fun e w' => e = .returned (.tuple #[.int .i64 (numV (readOf lim s.data.toList)), .bool (numB (readOf lim s.data.toList))]) ∧ Below w.heap.size w w' := by
  have hR : readOf lim s.data.toList = none := readOf_length hm1 (by have := hl.out; omega) (Or.inl (by
    have h1 : s.data.toList = [] := List.eq_nil_of_length_eq_zero h0
    rw [h1]; decide))
  have HR := Lib.hid hR
  clear hR
  have hd1 : decide (0 < s.size) = false := by simp [h0]
  have hd2 : ¬ 0 < s.size := by omega
  clear h0
  go_enter Tryd.func35, Tryd.ntmps35
  go_wp2
  go_ret2
  exact ⟨ret_num (by rw [HR.out]; rfl) (by rw [HR.out]; rfl), Below.refl _ _⟩

/-- The model's l1Read. -/
theorem spec_read (s : ByteArray) (most lim : Nat) (hm1 : 1 ≤ most) (hm2 : most ≤ 12) (hl : Hid (lim + 1 = 10 ^ most)) (hs : s.size ≤ 9223372036854775807) (w : World) :
    Calls Tryd.prog 35 #[.string s, .int .i64 most] w fun e w' => e = .returned (.tuple #[.int .i64 (numV (readOf lim s.data.toList)), .bool (numB (readOf lim s.data.toList))]) ∧ Below w.heap.size w w' := by
  by_cases h0 : 0 < s.size
  · have hq := getElem_q s 0 h0
    have hh : s.data.toList.head? = some s[0] := by rw [List.head?_eq_getElem?]; exact hq
    by_cases h45 : s[0] = 45
    · have hn : negOf s.data.toList = true := by unfold negOf; rw [hh, h45]; rfl
      refine spec_read_neg s (s.extract 1 s.size) most lim hm1 hm2 hl w h0 (by rw [h45]; rfl) (fun w => ?_) (Lib.hid ?_) (Lib.hid hn) (by simp; omega)
      · exact run_slice_string_l w 9 s Tryd.underlying9 .i64 1 (by decide) (by omega)
      · unfold magOf
        rw [hn, if_pos rfl, Lib.extract_to_end, List.drop_one]
    · have hn : negOf s.data.toList = false := by
        unfold negOf; rw [hh, beq_eq_false_iff_ne]
        intro h; exact h45 (Option.some.inj h)
      have hb : ((s[0].toNat : Int) == 45) = false := by
        rw [beq_eq_false_iff_ne]
        intro h
        exact h45 (UInt8.toNat_inj.1 (by have : s[0].toNat = 45 := by omega
                                         rw [this]; rfl))
      refine spec_read_pos s most lim hm1 hm2 hl w h0 hb (Lib.hid ?_) (Lib.hid hn) hs
      unfold magOf
      rw [hn]; rfl
  · exact spec_read_empty s (by omega) most lim hm1 hl w

/-- ParseInt's and ParseNumber's answers, said of the string's bytes. -/
def intOfS (s : ByteArray) : Option Int := numOf (-999999999999) 999999999999 s.data.toList
def numOfS (s : ByteArray) : Option Int := numOf 0 999999 s.data.toList

set_option maxRecDepth 100000 in
set_option maxHeartbeats 400000 in
theorem spec_parseInt (s : ByteArray) (hs : s.size ≤ 9223372036854775807) (w : World) :
    Calls Tryd.prog 24 #[.string s] w fun e w' => e = .returned (.tuple #[.int .i64 (numV (intOfS s)), .bool (numB (intOfS s))]) ∧ Below w.heap.size w w' := by
  have h := Lib.hid (fun w => spec_read s 12 999999999999 (by decide) (by decide) (Lib.hid (by decide)) hs w)
  go_enter Tryd.func24, Tryd.ntmps24
  go_wp2_with fail
  refine (h.out _).mono ?_
  rintro e w1 ⟨rfl, hb1⟩
  go_wp2
  go_ret2
  exact ⟨rfl, hb1⟩

theorem numOfS_of_read {s : ByteArray} : numOfS s = match readOf 999999 s.data.toList with | some n => if n < 0 then none else some n | none => none := by
  cases e : numOfS s with
  | some n =>
    obtain ⟨h1, h2, h3⟩ := numOf_some.1 e
    have : readOf 999999 s.data.toList = some n := numOf_some.2 ⟨by omega, h2, h3⟩
    rw [this]
    simp only
    rw [if_neg (by omega)]
  | none =>
    cases e2 : readOf 999999 s.data.toList with
    | none => rfl
    | some n =>
      simp only
      by_cases h : n < 0
      · rw [if_pos h]
      · obtain ⟨h1, h2, h3⟩ := numOf_some.1 e2
        have : numOfS s = some n := numOf_some.2 ⟨by omega, h2, h3⟩
        rw [e] at this; cases this

end Go.Proofs.YtomaanpmjlgpfaaDoor
