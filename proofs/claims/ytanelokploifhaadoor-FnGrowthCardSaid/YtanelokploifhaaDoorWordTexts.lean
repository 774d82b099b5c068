/-
  Merged: PLAIN FACTS ON DECIMAL NUMERALS (no program in this text): the digits one after the other; a list of bytes is the numeral of at most one integer between two limits ('numOf'), and strconv.Atoi's reading finds it.
  The model's FormatInt at every int: its digit loop gives the numeral; nothing that was there before is changed.
  PLAIN FACTS ON SLICES OF STRINGS IN MEMORY (no program in this text): what it means that a row of cells holds a list of strings; how long the strings are together.
  The laws' helper that compares two slices of strings: two rows that hold the same strings are found equal.
  The laws' helpers on slices of strings: their size is counted down from a limit; they are copied into new memory.
  PLAIN FACTS ON JOINED STRINGS (no program in this text): the joined bytes of the first k + 1 strings out of those of the first k; how many they are; a row of bytes that the call owns, turned into a string.
  The model's Join: at every slice of strings of at most 2^40 bytes together with its separators it returns them joined; nothing that was there before is changed.
  The model's MatrixText: at every table the text that the plain words say; nothing that was there before is changed.
-/
import Derived.Lib.ItoaMem
import Derived.Lib.AtoiAll
import Derived.Lib.AtoiTie
import Derived.Test.YtanelokploifhaaDoorRows
import Derived.WalkKit
import Derived.WalkSpells
import Derived.WalkLawsBesides
import Derived.Laws.BytesArg
import Derived.Lib.Hide
import Derived.Lib.AppendIntMem
import Derived.Laws.OwnMore
import Derived.Deep.QuietTactic
import Derived.BigQuiet
import Derived.Lib.Join
import Derived.Lib.AppendStr
import Derived.Laws.IdiomStrings
import Derived.Test.YtanelokploifhaaDoorBaseTexts
import Derived.Deep.AppendLies
import Derived.Lib.ItoaLen
namespace Go.Proofs.YtanelokploifhaaDoor
open Go

/-- The digits of u, none for 0. -/
def dd (u : Nat) : List UInt8 := if u = 0 then [] else Lib.decDigits u
theorem dd_zero : dd 0 = [] := rfl
theorem dd_pos {u : Nat} (h : u ≠ 0) : dd u = Lib.decDigits u := by unfold dd; rw [if_neg h]
theorem dd_step {u : Nat} (h : u ≠ 0) : dd u = dd (u / 10) ++ [UInt8.ofNat (48 + u % 10)] := by
  rw [dd_pos h]
  by_cases h10 : u < 10
  · have e0 : u / 10 = 0 := by omega
    rw [e0, dd_zero, Lib.decDigits_one h10, Nat.mod_eq_of_lt h10]; rfl
  · rw [Lib.decDigits, dif_neg h10, dd_pos (by omega)]
theorem dd_length : ∀ (k u : Nat), u < 10 ^ k → (dd u).length ≤ k
  | 0, u, h => by
    have : u = 0 := by simpa using h
    subst this; simp [dd_zero]
  | k + 1, u, h => by
    by_cases h0 : u = 0
    · subst h0; simp [dd_zero]
    · rw [dd_step h0, List.length_append]
      rw [Nat.pow_succ] at h
      have := dd_length k (u / 10) (by omega)
      simp; omega
theorem itoa_pos {u : Nat} (h : u ≠ 0) : Lib.itoa (u : Int) = dd u := by rw [Lib.itoa_nonneg, dd_pos h]
theorem itoa_negd {u : Nat} (h : u ≠ 0) : Lib.itoa (-(u : Int)) = 45 :: dd u := by rw [Lib.itoa_neg u (by omega), dd_pos h]
theorem itoa_zero : Lib.itoa 0 = [48] := by rw [show (0 : Int) = ((0 : Nat) : Int) from rfl, Lib.itoa_nonneg, Lib.decDigits_one (by decide)]; rfl

/-! ### Reading digits -/
theorem decFrom_append : ∀ (l r : List UInt8) (acc : Nat), Lib.decFrom acc (l ++ r) = (Lib.decFrom acc l).bind fun n => Lib.decFrom n r
  | [], r, acc => by simp [Lib.decFrom]
  | a :: t, r, acc => by
    simp only [List.cons_append, Lib.decFrom]
    cases Lib.digitVal a with
    | none => rfl
    | some d => exact decFrom_append t r _
theorem digitVal_of {d : Nat} (h : d < 10) : Lib.digitVal (UInt8.ofNat (48 + d)) = some d := by
  have e : (UInt8.ofNat (48 + d)).toNat = 48 + d := by simp [UInt8.toNat_ofNat']; omega
  unfold Lib.digitVal; rw [e, if_pos (by omega)]; congr 1; omega
theorem decFrom_dd : ∀ (k u : Nat), u < 10 ^ k → Lib.decFrom 0 (dd u) = some u
  | 0, u, h => by
    have : u = 0 := by simpa using h
    subst this; rfl
  | k + 1, u, h => by
    by_cases h0 : u = 0
    · subst h0; rfl
    · rw [Nat.pow_succ] at h
      rw [dd_step h0, decFrom_append, decFrom_dd k (u / 10) (by omega)]
      simp only [Option.bind_some, Lib.decFrom, digitVal_of (show u % 10 < 10 by omega)]
      congr 1; omega
theorem lt_pow_self (u : Nat) : u < 10 ^ u := Nat.lt_pow_self (by decide)
theorem decFrom_decDigits (u : Nat) : Lib.decFrom 0 (Lib.decDigits u) = some u := by
  by_cases h0 : u = 0
  · subst h0; rw [Lib.decDigits_one (by decide)]; rfl
  · rw [← dd_pos h0]; exact decFrom_dd u u (lt_pow_self u)
theorem decDigits_ne (u : Nat) : Lib.decDigits u ≠ [] := by
  intro h
  have := Lib.decDigits_length u
  rw [h] at this
  have := Lib.nDigits_pos u
  simp at *; omega
theorem decNat_decDigits (u : Nat) : Lib.decNat (Lib.decDigits u) = some u := by
  unfold Lib.decNat
  rw [if_neg (by simpa using decDigits_ne u), decFrom_decDigits]
/-- The first byte of a numeral without a sign is a digit. -/
theorem decDigits_head {u : Nat} {b : UInt8} {r : List UInt8} (h : Lib.decDigits u = b :: r) : 48 ≤ b.toNat ∧ b.toNat ≤ 57 := by
  have hd := decFrom_decDigits u
  rw [h] at hd
  obtain ⟨d, e⟩ := Lib.digit_of_decFrom _ _ _ hd 0 b rfl
  unfold Lib.digitVal at e
  split at e
  · assumption
  · cases e

theorem atoi_itoa (n : Int) : Lib.atoi (Lib.itoa n) = some n := by
  by_cases h : n < 0
  · have e : Lib.itoa n = 45 :: Lib.decDigits n.natAbs := by unfold Lib.itoa; rw [if_pos h]
    rw [e]
    simp only [Lib.atoi, decNat_decDigits]
    simp; omega
  · have e : Lib.itoa n = Lib.decDigits n.toNat := by unfold Lib.itoa; rw [if_neg h]
    rw [e]
    cases hl : Lib.decDigits n.toNat with
    | nil => exact absurd hl (decDigits_ne _)
    | cons b r =>
      have hb := decDigits_head hl
      have h45 : (b == 45) = false := by
        rw [beq_eq_false_iff_ne]; rintro rfl; simp at hb
      have h43 : (b == 43) = false := by
        rw [beq_eq_false_iff_ne]; rintro rfl; simp at hb
      simp only [Lib.atoi, h45, h43, ← hl, decNat_decDigits]
      simp; omega
theorem itoa_inj {a b : Int} (h : Lib.itoa a = Lib.itoa b) : a = b := by
  have := atoi_itoa a; rw [h, atoi_itoa] at this; exact (Option.some.inj this).symm

/-! ### The integer between two limits that a list of bytes is the numeral of -/
def numOf (lo hi : Int) (l : List UInt8) : Option Int :=
  match Lib.atoi l with
  | some v => if lo ≤ v ∧ v ≤ hi ∧ Lib.itoa v = l then some v else none
  | none => none
theorem numOf_some {lo hi : Int} {l : List UInt8} {n : Int} : numOf lo hi l = some n ↔ lo ≤ n ∧ n ≤ hi ∧ Lib.itoa n = l := by
  constructor
  · intro h
    unfold numOf at h
    split at h
    · split at h
      · cases h; assumption
      · cases h
    · cases h
  · rintro ⟨h1, h2, rfl⟩
    unfold numOf
    simp only [atoi_itoa]
    rw [if_pos ⟨h1, h2, trivial⟩]
theorem numOf_none {lo hi : Int} {l : List UInt8} (h : ∀ n, lo ≤ n → n ≤ hi → Lib.itoa n ≠ l) : numOf lo hi l = none := by
  cases e : numOf lo hi l with
  | none => rfl
  | some n => obtain ⟨a, b, c⟩ := numOf_some.1 e; exact absurd c (h n a b)

/-! ### How long the numerals are -/
theorem decDigits_length_le {k u : Nat} (hk : 1 ≤ k) (h : u < 10 ^ k) : (Lib.decDigits u).length ≤ k := by
  by_cases h0 : u = 0
  · subst h0; rw [Lib.decDigits_one (by decide)]; simpa using hk
  · rw [← dd_pos h0]; exact dd_length k u h
theorem itoa_length_le {k : Nat} {n : Int} (hk : 1 ≤ k) (h : n.natAbs < 10 ^ k) : (Lib.itoa n).length ≤ k + 1 := by
  unfold Lib.itoa
  split
  · have := decDigits_length_le hk h; simp; omega
  · have := decDigits_length_le hk (u := n.toNat) (by omega); omega
/-- strconv.Atoi reads every numeral between the limits. -/
theorem atoiAll_of_numOf {lo hi : Int} {l : List UInt8} {n : Int} (hlo : -999999999999 ≤ lo) (hhi : hi ≤ 999999999999) (h : numOf lo hi l = some n) : Lib.atoiAll l = .ok n := by
  obtain ⟨h1, h2, rfl⟩ := numOf_some.1 h
  have hlen := itoa_length_le (k := 12) (n := n) (by decide) (by omega)
  rw [Lib.atoiAll_short _ (by omega), atoi_itoa]
  rfl
/-- What strconv.Atoi reads, and is no numeral of that form between the limits, is none. -/
theorem numOf_of_atoiAll {lo hi v : Int} {l : List UInt8} (hlo : -999999999999 ≤ lo) (hhi : hi ≤ 999999999999) (h : Lib.atoiAll l = .ok v) (hn : ¬ (lo ≤ v ∧ v ≤ hi ∧ Lib.itoa v = l)) : numOf lo hi l = none := by
  cases e : numOf lo hi l with
  | none => rfl
  | some n =>
    have := atoiAll_of_numOf hlo hhi e
    rw [h] at this
    cases this
    exact absurd (numOf_some.1 e) hn
theorem numOf_of_atoiAll_not {lo hi : Int} {l : List UInt8} (hlo : -999999999999 ≤ lo) (hhi : hi ≤ 999999999999) (h : ∀ v, Lib.atoiAll l ≠ .ok v) : numOf lo hi l = none := by
  cases e : numOf lo hi l with
  | none => rfl
  | some n => exact absurd (atoiAll_of_numOf hlo hhi e) (h n)
end Go.Proofs.YtanelokploifhaaDoor
namespace Go.Proofs.YtanelokploifhaaDoor
open Go Go.RowKit

theorem ret_str {a b : ByteArray} (h : a = b) : Ending.returned (.string a) = .returned (.string b) := by rw [h]
theorem bytes_ext {a : ByteArray} {l : List UInt8} (h : a.data.toList = l) : a = ⟨l.toArray⟩ := by subst h; rfl

/-- 'string([]byte{x})' -/
theorem conv_one (b : UInt8) (y : Int) (hy : y = (b.toNat : Int)) (w : World) : (convert 22 9 (.slice (some ⟨w.heap.size, 0, none⟩) 1 1)).run Tryd.prog (w.alloc (.cells #[.int .u8 y] 5)) = .ok (.string ⟨#[b]⟩) (w.alloc (.cells #[.int .u8 y] 5)) := by
  subst hy
  have h := run_convert_bytes_arg (P := Tryd.prog) (w.alloc (.cells #[.int .u8 (b.toNat : Int)] 5)) 22 5 Tryd.underlying22 Tryd.underlying5 w.heap.size 0 1 1 [(b.toNat : Int)] rfl (fun i hi => by
    obtain rfl : i = 0 := by omega
    simp [go_sem]) 9 Tryd.underlying9
  rw [h]
  simp [strOfNums]

theorem dd_rest {u c : Nat} {s : ByteArray} {b : UInt8} (h : dd c ++ s.data.toList = dd u) (h0 : 0 < c) (hb : b = UInt8.ofNat (48 + c % 10)) : dd (c / 10) ++ ((⟨#[b]⟩ : ByteArray) ++ s).data.toList = dd u := by
  rw [← h, dd_step (show c ≠ 0 by omega), hb]; simp [ByteArray.data_append]
theorem dd_len {u c : Nat} {s : ByteArray} (h : dd c ++ s.data.toList = dd u) (hu : u ≤ 9223372036854775808) : s.size ≤ 1000 := by
  have h1 := dd_length 20 u (by omega)
  rw [← h, List.length_append] at h1
  have h2 : s.size = s.data.toList.length := rfl
  omega
theorem digit_byte (c : Nat) : ∃ b : UInt8, b = UInt8.ofNat (48 + c % 10) ∧ (48 : Int) + (c : Int) % 10 = (b.toNat : Int) :=
  ⟨_, rfl, by
    have e : (UInt8.ofNat (48 + c % 10)).toNat = 48 + c % 10 := by rw [UInt8.toNat_ofNat']; exact Nat.mod_eq_of_lt (by omega)
    rw [e]; omega⟩

set_option maxRecDepth 100000 in
set_option maxHeartbeats 400000 in
theorem spec_fmt_pos (u : Nat) (hu0 : 0 < u) (hu : u ≤ 9223372036854775807) (w : World) :
    Calls Tryd.prog 50 #[.int .i64 u] w fun e w' => e = .returned (.string ⟨(Lib.itoa u).toArray⟩) ∧ Below w.heap.size w w' := by
  have hz : ((u : Int) == 0) = false := by simp; omega
  have hn : decide ((u : Int) < 0) = false := by simp
  go_enter Tryd.func50, Tryd.ntmps50
  go_wp2
  go_loopw [0, 4] (fun n o wr => ∃ (c : Nat) (s : ByteArray), c ≤ u ∧ Hid (dd c ++ s.data.toList = dd u) ∧ n = .int .i64 c ∧ o = .string s ∧ Below w.heap.size w wr) (fun n _ _ => (intOf n).toNat)
  case atStart => exact ⟨u, _, Nat.le_refl _, Lib.hid (by simp), rfl, rfl, Below.refl _ _⟩
  case round =>
    obtain ⟨c, s, hc, hl, rfl, rfl, hb⟩ := hrel
    by_cases h0 : 0 < c
    · obtain ⟨b, hb1, hb2⟩ := digit_byte c
      have hcv := conv_one b (48 + (c : Int) % 10) hb2
      have hs := dd_len hl.out (by omega)
      have HB := Lib.hid hb1
      clear hb1 hb2
      go_wp2
      go_roundw
      case rel => exact ⟨c / 10, _, by omega, Lib.hid (dd_rest hl.out h0 HB.out), by go_num, rfl, hb.alloc (by have := hb.size; omega) _⟩
      case measure => simp [intOf]; omega
    · obtain rfl : c = 0 := by omega
      go_wp2
      go_ret
      exact ⟨ret_str (bytes_ext (by have := hl.out; rw [dd_zero] at this; rw [itoa_pos (by omega), ← this]; rfl)), hb⟩

theorem tmod_neg (c : Nat) : Int.tmod (-(c : Int)) 10 = -((c : Int) % 10) := by
  rw [Int.neg_tmod, Int.tmod_eq_emod_of_nonneg (by omega)]
theorem tdiv_neg (c : Nat) : Int.tdiv (-(c : Int)) 10 = -((c : Int) / 10) := by
  rw [Int.neg_tdiv, Int.tdiv_eq_ediv_of_nonneg (by omega)]

set_option maxRecDepth 100000 in
set_option maxHeartbeats 400000 in
theorem spec_fmt_neg (u : Nat) (hu0 : 0 < u) (hu : u ≤ 9223372036854775808) (w : World) :
    Calls Tryd.prog 50 #[.int .i64 (-(u : Int))] w fun e w' => e = .returned (.string ⟨(Lib.itoa (-(u : Int))).toArray⟩) ∧ Below w.heap.size w w' := by
  have hz : ((-(u : Int)) == 0) = false := by simp; omega
  have hn : decide ((-(u : Int)) < 0) = true := by simp; omega
  go_enter Tryd.func50, Tryd.ntmps50
  go_wp2
  go_loopw [0, 4] (fun n o wr => ∃ (c : Nat) (s : ByteArray), c ≤ u ∧ Hid (dd c ++ s.data.toList = dd u) ∧ n = .int .i64 (-(c : Int)) ∧ o = .string s ∧ Below w.heap.size w wr) (fun n _ _ => (intOf n).natAbs)
  case atStart => exact ⟨u, _, Nat.le_refl _, Lib.hid (by simp), rfl, rfl, Below.refl _ _⟩
  case round =>
    obtain ⟨c, s, hc, hl, rfl, rfl, hb⟩ := hrel
    by_cases h0 : 0 < c
    · obtain ⟨b, hb1, hb2⟩ := digit_byte c
      have hcv := conv_one b (48 + (c : Int) % 10) hb2
      have hs := dd_len hl.out (by omega)
      have HB := Lib.hid hb1
      have ht := tmod_neg c
      have hd := tdiv_neg c
      have hb3 := Lib.hid hb2
      clear hb1 hb2
      by_cases h1 : 0 < (c : Int) % 10
      · go_wp2
        go_roundw
        case rel => exact ⟨c / 10, _, by omega, Lib.hid (dd_rest hl.out h0 HB.out), by go_num, rfl, hb.alloc (by have := hb.size; omega) _⟩
        case measure => simp [intOf]; omega
      · have hcv2 := conv_one b (48 + -((c : Int) % 10)) (by have := HB.out; subst this; rw [← hb3.out]; omega)
        clear hcv
        go_wp2
        go_roundw
        case rel => exact ⟨c / 10, _, by omega, Lib.hid (dd_rest hl.out h0 HB.out), by go_num, rfl, hb.alloc (by have := hb.size; omega) _⟩
        case measure => simp [intOf]; omega
    · obtain rfl : c = 0 := by omega
      have hs := dd_len hl.out (by omega)
      go_wp2
      go_ret
      exact ⟨ret_str (bytes_ext (by have := hl.out; rw [dd_zero] at this; rw [itoa_negd (by omega), ← this]; simp [ByteArray.data_append])), hb⟩

set_option maxRecDepth 100000 in
set_option maxHeartbeats 400000 in
theorem spec_fmt_zero (w : World) :
    Calls Tryd.prog 50 #[.int .i64 0] w fun e w' => e = .returned (.string ⟨(Lib.itoa 0).toArray⟩) ∧ Below w.heap.size w w' := by
  rw [itoa_zero]
  go_enter Tryd.func50, Tryd.ntmps50
  go_wp2
  go_ret
  exact ⟨rfl, Below.refl _ _⟩

/-- The model's FormatInt, at every int. -/
theorem spec_fmt (n : Int) (h0 : -9223372036854775808 ≤ n) (h1 : n ≤ 9223372036854775807) (w : World) :
    Calls Tryd.prog 50 #[.int .i64 n] w fun e w' => e = .returned (.string ⟨(Lib.itoa n).toArray⟩) ∧ Below w.heap.size w w' := by
  rcases Int.lt_trichotomy n 0 with h | h | h
  · obtain ⟨u, rfl⟩ : ∃ u : Nat, n = -(u : Int) := ⟨n.natAbs, by omega⟩
    exact spec_fmt_neg u (by omega) (by omega) w
  · subst h; exact spec_fmt_zero w
  · obtain ⟨u, rfl⟩ : ∃ u : Nat, n = (u : Int) := ⟨n.toNat, by omega⟩
    exact spec_fmt_pos u (by omega) (by omega) w
end Go.Proofs.YtanelokploifhaaDoor
namespace Go.Proofs.YtanelokploifhaaDoor
open Go Go.RowKit

/-- From ⟨b, off⟩ on the cells hold the strings xs. -/
def StrsAt (w : World) (b off : Nat) (xs : List ByteArray) : Prop := ∀ k, k < xs.length → w.cell? ⟨b, off + k, none⟩ = some (.string (xs.getD k ByteArray.empty))
theorem StrsAt.below {B b off : Nat} {w w' : World} {xs : List ByteArray} (h : StrsAt w b off xs) (hb : Below B w w') (hlt : b < B) : StrsAt w' b off xs :=
  fun k hk => (hb.cell (p := ⟨b, off + k, none⟩) hlt).trans (h k hk)
theorem StrsAt.of_owns {w : World} {base e g n cap : Nat} {xs : List ByteArray} (h : w.ownsRow base e 1 (.slice (some ⟨g, 0, none⟩) n cap) n (xs.map Value.string)) (hn : n = xs.length) : StrsAt w g 0 xs := by
  intro k hk
  rw [Nat.zero_add, h.cellAt k (by omega)]
  simp [List.getD, List.getElem?_eq_getElem hk]
/-- How long the strings are together. -/
def total (xs : List ByteArray) : Nat := (xs.map (·.size)).sum
theorem take_next (xs : List ByteArray) (k : Nat) (h : k < xs.length) : xs.take (k + 1) = xs.take k ++ [xs.getD k ByteArray.empty] := by
  rw [List.take_succ_eq_append_getElem h]
  simp [List.getD, List.getElem?_eq_getElem h]
theorem total_next (xs : List ByteArray) (k : Nat) (h : k < xs.length) : total (xs.take (k + 1)) = total (xs.take k) + (xs.getD k ByteArray.empty).size := by
  rw [take_next xs k h]; simp [total]
theorem total_le_take (xs : List ByteArray) (k : Nat) : total (xs.take k) ≤ total xs := by
  have h2 : total (xs.take k ++ xs.drop k) = total (xs.take k) + total (xs.drop k) := by simp only [total, List.map_append, List.sum_append]
  rw [List.take_append_drop] at h2
  omega
theorem size_le_total {xs : List ByteArray} {k : Nat} (h : k < xs.length) : (xs.getD k ByteArray.empty).size ≤ total xs := by
  have := total_next xs k h
  have := total_le_take xs (k + 1)
  omega
theorem total_all {xs : List ByteArray} {k : Nat} (h : xs.length ≤ k) : total (xs.take k) = total xs := by rw [List.take_of_length_le h]
/-- A row that is being filled from the front. -/
def filled (xs : List ByteArray) (k n : Nat) : List Value := (xs.take k).map Value.string ++ List.replicate (n - k) (.string ByteArray.empty)
theorem filled_none (xs : List ByteArray) (n : Nat) : filled xs 0 n = List.replicate n (.string ByteArray.empty) := by simp [filled]
theorem filled_all (xs : List ByteArray) : filled xs xs.length xs.length = xs.map Value.string := by simp [filled]
theorem filled_set (xs : List ByteArray) (k : Nat) (h : k < xs.length) : (filled xs k xs.length).set k (.string (xs.getD k ByteArray.empty)) = filled xs (k + 1) xs.length := by
  have hl : ((xs.take k).map Value.string).length = k := by simp; omega
  have hr : List.replicate (xs.length - k) (Value.string ByteArray.empty) = .string ByteArray.empty :: List.replicate (xs.length - (k + 1)) (.string ByteArray.empty) := by
    rw [show xs.length - k = (xs.length - (k + 1)) + 1 by omega, List.replicate_succ]
  unfold filled
  rw [take_next xs k h, List.map_append, hr]
  rw [List.set_append_right _ _ (by omega), hl, Nat.sub_self]
  simp
theorem filled_at (xs : List ByteArray) (k : Nat) (h : k < xs.length) : (filled xs k xs.length)[k]? = some (.string ByteArray.empty) := by
  have hl : ((xs.take k).map Value.string).length = k := by simp; omega
  unfold filled
  rw [List.getElem?_append_right (by omega), hl, Nat.sub_self]
  rw [List.getElem?_replicate, if_pos (by omega)]
end Go.Proofs.YtanelokploifhaaDoor
namespace Go.Proofs.YtanelokploifhaaDoor
open Go Go.RowKit

theorem infoStr : (Tryd.prog.info? 9).map (fun i => (i.zero, i.size, i.bytes)) = some (some (.string ByteArray.empty), 1, 16) := by kernel_rfl

/-- Two rows that hold the same strings are found equal. -/
def TrueBelow (w : World) (e : Ending) (w' : World) : Prop := e = .returned (.bool true) ∧ Below w.heap.size w w'

end Go.Proofs.YtanelokploifhaaDoor
namespace Go.Proofs.YtanelokploifhaaDoor
open Go Go.RowKit

/-- What is left of the limit, or -1. -/
def SzPost (L : Int) (xs : List ByteArray) (w : World) (e : Ending) (w' : World) : Prop := ∃ r : Int, e = .returned (.int .i64 r) ∧ (r = -1 ∨ (0 ≤ r ∧ (xs.length : Int) + total xs ≤ L)) ∧ w = w'

/-- A copy in new memory, at the heap's end. -/
def CopyPost (xs : List ByteArray) (w : World) (e : Ending) (w' : World) : Prop :=
  e = .returned (.slice (some ⟨w.heap.size, 0, none⟩) xs.length xs.length) ∧ w'.ownsRow w.heap.size 9 1 (.slice (some ⟨w.heap.size, 0, none⟩) xs.length xs.length) xs.length (xs.map Value.string) ∧ Below w.heap.size w w' ∧ w.heap.size < w'.heap.size

end Go.Proofs.YtanelokploifhaaDoor
namespace Go.Proofs.YtanelokploifhaaDoor
open Go Go.RowKit

def joinOf (xs : List ByteArray) (sep : ByteArray) : List UInt8 := Lib.join (xs.map (·.data.toList)) sep.data.toList
theorem joinOf_nil (sep : ByteArray) : joinOf [] sep = [] := rfl
theorem joinOf_first (xs : List ByteArray) (sep : ByteArray) (h : 0 < xs.length) : joinOf (xs.take (0 + 1)) sep = (xs.getD 0 ByteArray.empty).data.toList := by
  cases xs with
  | nil => simp at h
  | cons x r => simp [joinOf, Lib.join_one]
theorem joinOf_next (xs : List ByteArray) (sep : ByteArray) (k : Nat) (h : k < xs.length) (h0 : 0 < k) : joinOf (xs.take (k + 1)) sep = joinOf (xs.take k) sep ++ sep.data.toList ++ (xs.getD k ByteArray.empty).data.toList := by
  cases xs with
  | nil => simp at h
  | cons x r =>
    obtain ⟨j, rfl⟩ : ∃ j, k = j + 1 := ⟨k - 1, by omega⟩
    have hj : j < r.length := by simpa using h
    have e1 : (r.map (·.data.toList))[j]? = some (r.getD j ByteArray.empty).data.toList := by
      rw [List.getElem?_map, List.getElem?_eq_getElem hj]
      simp [List.getD, List.getElem?_eq_getElem hj]
    have e2 := Lib.joinTail_take_succ sep.data.toList (r.map (·.data.toList)) j _ e1
    unfold joinOf
    simp only [List.take_succ_cons, List.map_cons, Lib.join_cons, List.map_take, List.getD_cons_succ]
    rw [e2]
    simp [List.append_assoc]
theorem lens_eq_total (xs : List ByteArray) : Lib.lens (xs.map (·.data.toList)) = total xs := by
  induction xs with
  | nil => rfl
  | cons x r ih =>
    have : Lib.lens ((x :: r).map (·.data.toList)) = x.data.toList.length + Lib.lens (r.map (·.data.toList)) := by simp [Lib.lens]
    rw [this, ih]
    simp only [total, List.map_cons, List.sum_cons]
    rfl
theorem joinOf_length (xs : List ByteArray) (sep : ByteArray) : (joinOf xs sep).length ≤ sep.size * xs.length + total xs := by
  cases xs with
  | nil => simp [joinOf_nil]
  | cons x r =>
    have h := Lib.join_length x.data.toList (r.map (·.data.toList)) sep.data.toList
    have h2 := lens_eq_total (x :: r)
    simp only [List.map_cons] at h2
    unfold joinOf
    rw [List.map_cons, h, h2, List.length_map]
    have h3 : sep.data.toList.length = sep.size := rfl
    rw [h3, List.length_cons, Nat.mul_add]
    omega
theorem joinOf_take_length (xs : List ByteArray) (sep : ByteArray) (k : Nat) : (joinOf (xs.take k) sep).length ≤ sep.size * xs.length + total xs := by
  have h1 := joinOf_length (xs.take k) sep
  have h2 := total_le_take xs k
  have h3 : sep.size * (xs.take k).length ≤ sep.size * xs.length := Nat.mul_le_mul_left _ (by rw [List.length_take]; omega)
  omega

/-- Bytes as cells. -/
def cellsB (l : List UInt8) : List Value := l.map fun b => .int .u8 b.toNat
theorem cellsB_length (l : List UInt8) : (cellsB l).length = l.length := by simp [cellsB]
theorem cellsB_append (l m : List UInt8) : cellsB l ++ cellsB m = cellsB (l ++ m) := by simp [cellsB]
theorem strCells_cellsB (s : ByteArray) : Lib.strCells s = cellsB s.data.toList := rfl

/-- 'string(b)' of a row that the call owns. -/
theorem conv_owned {P : Program} {w : World} {base src dst e : Nat} {v : Value} {l : List UInt8} (hs : P.underlying src = some (.slice e)) (he : P.underlying e = some (.int .u8)) (hd : P.underlying dst = some .string)
    (h : w.ownsRow base e 1 v l.length (cellsB l)) : (convert src dst v).run P w = .ok (.string ⟨l.toArray⟩) w := by
  rcases h.2 with ⟨rfl, h0⟩ | ⟨g, cap, cur, rfl, _, _, _⟩
  · have : l = [] := List.eq_nil_of_length_eq_zero h0
    subst this
    rw [run_convert_bytes_string w src dst e _ _ _ hs he hd]
    simp [Conv.bytesToString]
    rfl
  · refine run_convert_bytes_back w src dst e ⟨g, 0, none⟩ cap l hs he hd fun j hj => ?_
    have := h.cellAt j (by omega)
    have e : (⟨g, 0, none⟩ : Addr).add j = ⟨g, j, none⟩ := by simp [Addr.add]; exact fun h => h.symm
    rw [e, this]
    simp [cellsB, List.getElem?_eq_getElem hj]
end Go.Proofs.YtanelokploifhaaDoor
namespace Go.Proofs.YtanelokploifhaaDoor
open Go Go.RowKit

theorem infoByte : (Tryd.prog.info? 5).map (fun i => (i.zero, i.size, i.bytes)) = some (some (.int .u8 0), 1, 1) := by kernel_rfl

def StrPost (l : List UInt8) (w : World) (e : Ending) (w' : World) : Prop := e = .returned (.string ⟨l.toArray⟩) ∧ Below w.heap.size w w'

end Go.Proofs.YtanelokploifhaaDoor
namespace Go.Proofs.YtanelokploifhaaDoor
open Go Go.RowKit

def itoaB (n : Int) : ByteArray := ⟨(Lib.itoa n).toArray⟩
theorem itoaB_size {n : Int} (h0 : -9223372036854775808 ≤ n) (h1 : n ≤ 9223372036854775807) : (itoaB n).size ≤ 21 := Lib.itoa_length_le n h0 h1
/-- Numbers in decimal, with a string between them; a table's rows, with one between them. -/
def numsB (xs : List Int) (sep : ByteArray) : ByteArray := ⟨(joinOf (xs.map itoaB) sep).toArray⟩
def gridB (m : List (List Int)) : ByteArray := ⟨(joinOf (m.map fun r => numsB r ⟨#[44]⟩) ⟨#[47]⟩).toArray⟩
def textM (m : List (List Int)) : ByteArray := if isMat m = true then gridB m else ByteArray.empty
theorem total_itoaB {xs : List Int} (h : ∀ x ∈ xs, -9223372036854775808 ≤ x ∧ x ≤ 9223372036854775807) : total (xs.map itoaB) ≤ 21 * xs.length := by
  induction xs with
  | nil => simp [total]
  | cons x xs ih =>
    have h1 := itoaB_size (h x (by simp)).1 (h x (by simp)).2
    have h2 := ih fun y hy => h y (by simp [hy])
    have e : total ((x :: xs).map itoaB) = (itoaB x).size + total (xs.map itoaB) := by simp [total]
    rw [e, List.length_cons]; omega
theorem numsB_size {xs : List Int} {sep : ByteArray} (h : ∀ x ∈ xs, -9223372036854775808 ≤ x ∧ x ≤ 9223372036854775807) (hs : sep.size = 1) : (numsB xs sep).size ≤ 22 * xs.length := by
  have h1 := joinOf_length (xs.map itoaB) sep
  have h2 := total_itoaB h
  rw [hs, List.length_map, Nat.one_mul] at h1
  show (joinOf (xs.map itoaB) sep).length ≤ _
  omega
theorem take_strs (ps : List ByteArray) (k : Nat) (h : k < ps.length) : (ps.take k).map Value.string ++ [.string (ps.getD k ByteArray.empty)] = (ps.take (k + 1)).map Value.string := by
  rw [take_next ps k h, List.map_append]; rfl
theorem strs_made {w : World} : (w.alloc (.cells #[] 9)).ownsRow w.heap.size 9 1 (.slice (some ⟨w.heap.size, 0, none⟩) 0 0) 0 [] :=
  World.ownsRow_made (base := w.heap.size) (e := 9) (size := 1) w #[] 0 (Nat.le_refl _) (by unfold maxLen; omega) rfl
theorem strs_more {w w1 w2 : World} {g cap : Nat} {v : Value} {k n : Nat} {ps : List ByteArray} (hB : Below w.heap.size w w1) (hO : w1.ownsRow w.heap.size 9 1 v k ((ps.take k).map Value.string)) (hk : k < ps.length) (o : Obj)
    (ho2 : w2.ownsRow w.heap.size 9 1 (.slice (some ⟨g, 0, none⟩) n cap) n ((ps.take k).map Value.string ++ [.string (ps.getD k ByteArray.empty)])) (hg : (w1.alloc o).grownBy w2 v.ownBlock) :
    w2.ownsRow w.heap.size 9 1 (.slice (some ⟨g, 0, none⟩) n cap) n ((ps.take (k + 1)).map Value.string) ∧ Below w.heap.size w w2 := by
  rw [take_strs ps k hk] at ho2
  refine ⟨ho2, (hB.alloc hB.size o).grown hg (by have := hB.size; simp; omega) fun q hq => (hO.lt q hq).1⟩

end Go.Proofs.YtanelokploifhaaDoor
