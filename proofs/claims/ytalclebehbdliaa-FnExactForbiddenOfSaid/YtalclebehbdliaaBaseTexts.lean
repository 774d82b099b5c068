/-
  Merged: PLAIN FACTS ON SLICES OF STRINGS IN MEMORY (no program in this text): what it means that a row of cells holds a list of strings; how long the strings are together.
  A list of strings in memory, wherever it lies; an empty one may lie nowhere (no program's function in this text).
  The laws' helper that compares two slices of strings: two rows that hold the same strings are found equal.
  The laws' helpers on slices of strings: their size is counted down from a limit; they are copied into new memory.
  What the laws on shifts share: how long a shift is, its copy, and that two equal shifts are found equal. A shift is a number and a slice of strings.
  PLAIN FACTS ON WORDS (no program in this text): what a word is, its turns and the least one, its root, its mirror, all words of a length, and where a string occurs in another.
  PLAIN FACTS ON SHIFTS (no program in this text): what a shift is, which words avoid its forbidden ones.
  What a word is: the model's IsWord and the program's, at every int and every string of at most 2^40 bytes, answer the same; nothing is changed.
  Whether a string has a part: the model's OccursIn, at every two strings of at most 2^31 bytes; nothing is changed.
  The model's IsShift, l3Avoids and AvoidsAll: at every number and every list of strings in memory they answer as the plain words say; nothing that was there before is changed.
  The laws on functions of a shift that answer a bool: where the model's and the program's function answer the same at every copy of the shift, the law returns true; nothing that was there before is changed.
  Shifts in memory, by value: the letters, and the forbidden words in a slice that lies anywhere; what a function gives back of one (no program's function in this text).
  PLAIN FACTS ON TABLES OF NUMBERS (no program in this text): when a table is a matrix; products, powers, sums, the matrix that is turned around; slices of slices of numbers in memory.
  PLAIN FACTS ON SLICES OF SLICES OF NUMBERS IN MEMORY (no program in this text): what it means that a slice holds a table; how many numbers there are; memory in which only some blocks have turned.
  The laws' helpers on slices of slices of numbers: how many numbers there are, counted down from a limit; a copy in new memory; two that hold the same are found equal.
  PLAIN FACTS ON TABLES IN MEMORY OF THE CALL'S OWN (no program's function in this text): each row in a block of its own; a row is put behind the others, a number or a row is put in another's place.
  Tables that the call makes: a row is put behind the others, a number is put in another's place; the model's table of zeros.
  The model's IsMatrix, EqualMatrix, TraceOf and SumOf: at every table they answer what the plain words say, and change nothing.
  The model's products: what the plain words say, in new memory; nothing that was there before is changed.
  PLAIN FACTS (no program in this text): a square table that is filled row by row.
  PLAIN FACTS ON THE LANGUAGE OF A SHIFT (no program in this text): the pairs of letters that go on without end on both sides, once as a list of words and once as a set of bits. Both are the greatest set of its kind, so both decide alike which words are in the language.
  All words of a length: the model's list of them, where the letters are at most 3 and the words at most 729, in new memory; nothing that was there before is changed.
  The laws' helper that compares two lists of strings: two lists that hold the same strings are found equal.
  The model's l2HasText and l3Goes: at lists of strings in memory they answer as the plain words say; nothing that was there before is changed.
  The laws' helpers on slices of slices of numbers: a whole copy in new memory; two tables that hold the same are found equal; a table that the call owns is marked, and a marked one is found marked.
  What the laws on tables share: the helpers' contracts at whatever slice holds a table; a result that is marked, and what stays as it was.
  A matrix is not too large; what a function answers at the laws' copies of tables.
  The model's PowerMatrix and TurnMatrix: what the plain words say, in new memory; nothing that was there before is changed.
  The model's GraphOf, over the states that its StatesOf gives: the table that the plain words say, in new memory; nothing that was there before is changed.
  PLAIN FACTS ON DECIMAL NUMERALS (no program in this text): the digits one after the other; a list of bytes is the numeral of at most one integer between two limits ('numOf'), and strconv.Atoi's reading finds it.
  The laws' marks on slices of strings: each mark is a text of its own number; a row that the call owns is marked and found marked; other memory that was there is not changed.
  The laws' marks on slices of strings: a row that the call owns is marked, and a marked row is found marked; other memory that was there is not changed.
  What the laws on lists of strings share: the helpers at slices of length 0; a list in new memory, empty or not.
  The model's AreSameShift, over the words that its LanguageOf gives: what the plain words say; nothing that was there before is changed.
  A slice of strings that came in as a shift's words, in the words of the laws; what the model's functions answer at copies.
  The laws' helpers at slices of strings of whatever length, none too: compared, marked, looked at.
  A copy of a shift is marked: its number as before, each of its words overwritten; nothing else is changed.
  The law on AvoidingWords, and on every function of a shift and an int that answers a list of strings: where the model's and the program's function give the same list in new memory at every copy of the shift, the law returns true; nothing that was there before is changed.
  The model's l3Words and AvoidingWords: at every shift in memory the words of a length that avoid the forbidden ones, in new memory; nothing that was there before is changed.
-/
import Derived.WalkKit
import Derived.WalkSpells
import Derived.Lib.Hide
import Derived.Laws.OwnMore
import Derived.Test.YtalclebehbdliaaRows
import Derived.WalkLawsBesides
import Derived.Deep.QuietTactic
import Derived.BigQuiet
import Derived.Deep.RegionHeld3
import Derived.Deep.Onto
import Derived.Lib.Repeat
import Derived.Lib.IndexMore
import Derived.Sort.Walk0
import Derived.Test.YtalclebehbdliaaChecked
import Derived.Deep.AppendLies
import Derived.Deep.WholeRow
import Derived.Lib.SlicesS
import Derived.OwnWalk
import Derived.Lib.ItoaMem
import Derived.Lib.AtoiAll
import Derived.Lib.AtoiTie
import Derived.Laws.BytesArg
import Derived.Lib.AtoiErrMem
namespace Go.Proofs.Ytalclebehbdliaa
open Go Go.RowKit

/-- From ⟨b, off⟩ on the cells hold the strings xs. -/
def StrsAt (w : World) (b off : Nat) (xs : List ByteArray) : Prop := ∀ k, k < xs.length → w.cell? ⟨b, off + k, none⟩ = some (.string (xs.getD k ByteArray.empty))
theorem StrsAt.below {B b off : Nat} {w w' : World} {xs : List ByteArray} (h : StrsAt w b off xs) (hb : Below B w w') (hlt : b < B) : StrsAt w' b off xs :=
  fun k hk => (hb.cell (p := ⟨b, off + k, none⟩) hlt).trans (h k hk)
theorem StrsAt.of_owns {w : World} {base e g n cap : Nat} {xs : List ByteArray} (h : w.ownsRow base e 1 (.slice (some ⟨g, 0, none⟩) n cap) n (xs.map Value.string)) (hn : n = xs.length) : StrsAt w g 0 xs := by
  intro k hk
  rw [Nat.zero_add, h.cellAt k (by omega)]
  simp [List.getD, List.getElem?_eq_getElem hk]
/-- How long the strings are together. -/
def total (xs : List ByteArray) : Nat := (xs.map (·.size)).sum
theorem take_next (xs : List ByteArray) (k : Nat) (h : k < xs.length) : xs.take (k + 1) = xs.take k ++ [xs.getD k ByteArray.empty] := by
  rw [List.take_succ_eq_append_getElem h]
  simp [List.getD, List.getElem?_eq_getElem h]
theorem total_next (xs : List ByteArray) (k : Nat) (h : k < xs.length) : total (xs.take (k + 1)) = total (xs.take k) + (xs.getD k ByteArray.empty).size := by
  rw [take_next xs k h]; simp [total]
theorem total_le_take (xs : List ByteArray) (k : Nat) : total (xs.take k) ≤ total xs := by
  have h2 : total (xs.take k ++ xs.drop k) = total (xs.take k) + total (xs.drop k) := by simp only [total, List.map_append, List.sum_append]
  rw [List.take_append_drop] at h2
  omega
theorem size_le_total {xs : List ByteArray} {k : Nat} (h : k < xs.length) : (xs.getD k ByteArray.empty).size ≤ total xs := by
  have := total_next xs k h
  have := total_le_take xs (k + 1)
  omega
theorem total_all {xs : List ByteArray} {k : Nat} (h : xs.length ≤ k) : total (xs.take k) = total xs := by rw [List.take_of_length_le h]
/-- A row that is being filled from the front. -/
def filled (xs : List ByteArray) (k n : Nat) : List Value := (xs.take k).map Value.string ++ List.replicate (n - k) (.string ByteArray.empty)
theorem filled_none (xs : List ByteArray) (n : Nat) : filled xs 0 n = List.replicate n (.string ByteArray.empty) := by simp [filled]
theorem filled_all (xs : List ByteArray) : filled xs xs.length xs.length = xs.map Value.string := by simp [filled]
theorem filled_set (xs : List ByteArray) (k : Nat) (h : k < xs.length) : (filled xs k xs.length).set k (.string (xs.getD k ByteArray.empty)) = filled xs (k + 1) xs.length := by
  have hl : ((xs.take k).map Value.string).length = k := by simp; omega
  have hr : List.replicate (xs.length - k) (Value.string ByteArray.empty) = .string ByteArray.empty :: List.replicate (xs.length - (k + 1)) (.string ByteArray.empty) := by
    rw [show xs.length - k = (xs.length - (k + 1)) + 1 by omega, List.replicate_succ]
  unfold filled
  rw [take_next xs k h, List.map_append, hr]
  rw [List.set_append_right _ _ (by omega), hl, Nat.sub_self]
  simp
theorem filled_at (xs : List ByteArray) (k : Nat) (h : k < xs.length) : (filled xs k xs.length)[k]? = some (.string ByteArray.empty) := by
  have hl : ((xs.take k).map Value.string).length = k := by simp; omega
  unfold filled
  rw [List.getElem?_append_right (by omega), hl, Nat.sub_self]
  rw [List.getElem?_replicate, if_pos (by omega)]
end Go.Proofs.Ytalclebehbdliaa
namespace Go.Proofs.Ytalclebehbdliaa
open Go Go.RowKit

/-- The slice holds the strings. -/
def StrsG (w : World) (G : Option Addr) (xs : List ByteArray) : Prop := 0 < xs.length → ∃ b off, G = some ⟨b, off, none⟩ ∧ StrsAt w b off xs ∧ b < w.heap.size
theorem StrsG.below {w w' : World} {G : Option Addr} {xs : List ByteArray} (h : StrsG w G xs) (hb : Below w.heap.size w w') : StrsG w' G xs := fun h0 => by
  obtain ⟨b, off, e, hs, hl⟩ := h h0
  exact ⟨b, off, e, hs.below hb hl, Nat.lt_of_lt_of_le hl hb.size⟩
theorem StrsG.of {w : World} {g : Nat} {xs : List ByteArray} (h : StrsAt w g 0 xs) (hg : g < w.heap.size) : StrsG w (some ⟨g, 0, none⟩) xs := fun _ => ⟨g, 0, rfl, h, hg⟩
theorem StrsG.none (w : World) : StrsG w none [] := fun h => absurd h (by simp)
end Go.Proofs.Ytalclebehbdliaa
namespace Go.Proofs.Ytalclebehbdliaa
open Go Go.RowKit

theorem infoStr : (Try.prog.info? 9).map (fun i => (i.zero, i.size, i.bytes)) = some (some (.string ByteArray.empty), 1, 16) := by kernel_rfl

/-- Two rows that hold the same strings are found equal. -/
def TrueBelow (w : World) (e : Ending) (w' : World) : Prop := e = .returned (.bool true) ∧ Below w.heap.size w w'

set_option maxRecDepth 100000 in
set_option maxHeartbeats 800000 in
theorem same_some (b1 o1 c1 b2 o2 c2 : Nat) (xs : List ByteArray) (hn : xs.length ≤ 1099511627776) (w : World) (h1 : StrsAt w b1 o1 xs) (h2 : StrsAt w b2 o2 xs) :
    Calls Try.prog 13 #[.slice (some ⟨b1, o1, none⟩) xs.length c1, .slice (some ⟨b2, o2, none⟩) xs.length c2] w (TrueBelow w) := by
  have H1 := Lib.hid h1
  have H2 := Lib.hid h2
  clear h1 h2
  go_enter Try.func13, Try.ntmps13
  go_wp2
  go_loopw [5] (fun i wr => ∃ k q : Nat, k ≤ xs.length ∧ i = .int .i64 k ∧ wr = w.drewN q) (fun i _ => xs.length - (intOf i).toNat)
  case atStart => exact ⟨0, 0, Nat.zero_le _, rfl, rfl⟩
  case round =>
    obtain ⟨k, q, hk, rfl, rfl⟩ := hrel
    by_cases hlt : k < xs.length
    · have ha := H1.out k hlt
      have hb := H2.out k hlt
      generalize xs.getD k ByteArray.empty = x at ha hb
      go_wp2
      go_quiet (fail)
      go_wp2
      go_roundw
      case rel => exact ⟨k + 1, q + nq, by omega, by go_num, rfl⟩
      case measure => simp [intOf]; omega
    · obtain rfl : k = xs.length := by omega
      go_wp2
      go_ret
      exact ⟨rfl, below_drewN (Below.refl _ _) _⟩

end Go.Proofs.Ytalclebehbdliaa
namespace Go.Proofs.Ytalclebehbdliaa
open Go Go.RowKit

/-- What is left of the limit, or -1. -/
def SzPost (L : Int) (xs : List ByteArray) (w : World) (e : Ending) (w' : World) : Prop := ∃ r : Int, e = .returned (.int .i64 r) ∧ (r = -1 ∨ (0 ≤ r ∧ (xs.length : Int) + total xs + r ≤ L)) ∧ w = w'

set_option maxRecDepth 100000 in
set_option maxHeartbeats 800000 in
theorem sz_some (b off c : Nat) (xs : List ByteArray) (L : Int) (hL0 : 0 ≤ L) (hL : L ≤ 1099511627776) (hn : xs.length ≤ 9223372036854775807) (hsz : ∀ k, k < xs.length → (xs.getD k ByteArray.empty).size ≤ 9223372036854775807) (w : World) (hc : StrsAt w b off xs) :
    Calls Try.prog 32 #[.slice (some ⟨b, off, none⟩) xs.length c, .int .i64 L] w (SzPost L xs w) := by
  by_cases h0 : L - (xs.length : Int) < 0
  · go_enter Try.func32, Try.ntmps32
    go_wp2
    go_ret
    exact ⟨-1, rfl, Or.inl rfl, rfl⟩
  have HC := Lib.hid hc
  have HS := Lib.hid hsz
  clear hc hsz
  go_enter Try.func32, Try.ntmps32
  go_wp2
  go_loop [1, 5] (fun l i => ∃ (k : Nat) (r : Int), k ≤ xs.length ∧ 0 ≤ r ∧ r ≤ L ∧ Hid (r + xs.length + total (xs.take k) = L) ∧ l = .int .i64 r ∧ i = .int .i64 k) (fun _ i => xs.length - (intOf i).toNat)
  case atStart => exact ⟨0, _, Nat.zero_le _, by omega, by omega, Lib.hid (by simp [total]), rfl, rfl⟩
  case round =>
    obtain ⟨k, r, hk, hr0, hr1, hr, rfl, rfl⟩ := hrel
    by_cases hlt : k < xs.length
    · have hnx := Lib.hid (total_next xs k hlt)
      have hc1 := HC.out k hlt
      have hs1 := HS.out k hlt
      generalize xs.getD k ByteArray.empty = x at hc1 hs1 hnx
      by_cases hneg : r - (x.size : Int) < 0
      · go_wp2
        go_ret
        exact ⟨-1, rfl, Or.inl rfl, rfl⟩
      · go_wp2
        go_round
        case rel => exact ⟨k + 1, r - x.size, by omega, by omega, by omega, Lib.hid (by have := hnx.out; have := hr.out; omega), rfl, by go_num⟩
        case measure => simp [intOf]; omega
    · obtain rfl : k = xs.length := by omega
      go_wp2
      go_ret
      exact ⟨r, rfl, Or.inr ⟨hr0, by have := hr.out; rw [total_all (Nat.le_refl _)] at this; omega⟩, rfl⟩

/-- A copy in new memory, at the heap's end. -/
def CopyPost (xs : List ByteArray) (w : World) (e : Ending) (w' : World) : Prop :=
  e = .returned (.slice (some ⟨w.heap.size, 0, none⟩) xs.length xs.length) ∧ w'.ownsRow w.heap.size 9 1 (.slice (some ⟨w.heap.size, 0, none⟩) xs.length xs.length) xs.length (xs.map Value.string) ∧ Below w.heap.size w w' ∧ w.heap.size < w'.heap.size

set_option maxRecDepth 100000 in
set_option maxHeartbeats 800000 in
theorem copy_some (b off c : Nat) (xs : List ByteArray) (hn : xs.length ≤ 1099511627776) (w : World) (hc : StrsAt w b off xs) (hb : b < w.heap.size) :
    Calls Try.prog 34 #[.slice (some ⟨b, off, none⟩) xs.length c] w (CopyPost xs w) := by
  obtain ⟨i0, hi, hz0, hz1, hz2⟩ := info_parts infoStr
  have HC := Lib.hid hc
  clear hc
  go_enter Try.func34, Try.ntmps34
  go_wp2_with (at_make; refine wpList_make_full _ rfl _ _ 22 rfl w.heap.size 9 i0 (.string ByteArray.empty) 1 Try.underlying22 hi hz0 hz1 .i64 .i64 _ _ xs.length rfl rfl rfl rfl (by rw [hz2]; omega) (by unfold maxLen; omega) (Nat.le_refl _) ?_; intro w1 hown hgrow)
  have hown0 : w1.ownsRow w.heap.size 9 1 (.slice (some ⟨w.heap.size, 0, none⟩) xs.length xs.length) xs.length (filled xs 0 xs.length) := by
    have e : (madeCells (Value.string ByteArray.empty).cells (xs.length * 1)).toList = List.replicate xs.length (.string ByteArray.empty) := by rw [Nat.mul_one]; exact toList_madeCells_one _ _
    rw [filled_none, ← e]; exact hown
  have hbel : Below w.heap.size w w1 := (Below.refl _ _).grown hgrow (Nat.le_refl _) (fun k hk => by cases hk)
  have hsz1 : w.heap.size < w1.heap.size := (hown0.lt _ rfl).2
  clear hown hgrow
  go_loopw [4] (fun i wr => ∃ k : Nat, k ≤ xs.length ∧ i = .int .i64 k ∧ wr.ownsRow w.heap.size 9 1 (.slice (some ⟨w.heap.size, 0, none⟩) xs.length xs.length) xs.length (filled xs k xs.length) ∧ Below w.heap.size w wr ∧ w.heap.size < wr.heap.size) (fun i _ => xs.length - (intOf i).toNat)
  case atStart => exact ⟨0, Nat.zero_le _, rfl, hown0, hbel, hsz1⟩
  case round =>
    obtain ⟨k, hk, rfl, ho, hbl, hs2⟩ := hrel
    by_cases hlt : k < xs.length
    · have hc1 := HC.out.below hbl hb k hlt
      have hc2 : wr.cell? ⟨w.heap.size, k, none⟩ = some (.string ByteArray.empty) := (ho.cellAt k (by omega)).trans (filled_at xs k hlt)
      have hf2 : wr.frozen? ⟨w.heap.size, k, none⟩ = false := ho.frozenAt k
      have hst := (ho.stored k (.string (xs.getD k ByteArray.empty))).1
      rw [filled_set xs k hlt] at hst
      have HO := Lib.hid hst
      have HB := Lib.hid hbl
      clear hst ho hbl
      generalize xs.getD k ByteArray.empty = x at hc1 HO
      go_wp2
      go_roundw
      case rel => exact ⟨k + 1, by omega, by go_num, HO.out, HB.out.setCell (Nat.le_refl _) _, by simpa using hs2⟩
      case measure => simp [intOf]; omega
    · obtain rfl : k = xs.length := by omega
      rw [filled_all] at ho
      have HO := Lib.hid ho
      clear ho
      go_wp2
      go_ret
      exact ⟨rfl, HO.out, hbl, hs2⟩

set_option maxRecDepth 100000 in
set_option maxHeartbeats 400000 in
theorem sz_none (a : Option Addr) (c : Nat) (L : Int) (hL0 : 0 ≤ L) (hL : L ≤ 1099511627776) (w : World) :
    Calls Try.prog 32 #[.slice a 0 c, .int .i64 L] w (SzPost L [] w) := by
  go_enter Try.func32, Try.ntmps32
  go_wp2
  refine wp_loop_rounds 1 ?_
  rw [rounds_succ]
  go_wp2
  go_ret
  exact ⟨L, rfl, Or.inr ⟨hL0, by simp [total]⟩, rfl⟩

set_option maxRecDepth 100000 in
set_option maxHeartbeats 400000 in
theorem copy_none (a : Option Addr) (c : Nat) (w : World) :
    Calls Try.prog 34 #[.slice a 0 c] w (CopyPost [] w) := by
  obtain ⟨i0, hi, hz0, hz1, hz2⟩ := info_parts infoStr
  go_enter Try.func34, Try.ntmps34
  go_wp2_with (at_make; refine wpList_make_full _ rfl _ _ 22 rfl w.heap.size 9 i0 (.string ByteArray.empty) 1 Try.underlying22 hi hz0 hz1 .i64 .i64 _ _ 0 rfl rfl rfl rfl (by rw [hz2]; omega) (by unfold maxLen; omega) (Nat.le_refl _) ?_; intro w1 hown hgrow)
  have hown0 : w1.ownsRow w.heap.size 9 1 (.slice (some ⟨w.heap.size, 0, none⟩) 0 0) 0 [] := by
    have e : (madeCells (Value.string ByteArray.empty).cells (0 * 1)).toList = [] := toList_madeCells_one (.string ByteArray.empty) 0
    rw [← e]; exact hown
  have hbel : Below w.heap.size w w1 := (Below.refl _ _).grown hgrow (Nat.le_refl _) (fun k hk => by cases hk)
  have hsz1 : w.heap.size < w1.heap.size := (hown0.lt _ rfl).2
  have HO := Lib.hid hown0
  clear hown hgrow hown0
  refine wp_loop_rounds 1 ?_
  rw [rounds_succ]
  go_wp2
  go_ret
  exact ⟨rfl, HO.out, hbel, hsz1⟩
end Go.Proofs.Ytalclebehbdliaa
namespace Go.Proofs.Ytalclebehbdliaa
open Go Go.RowKit

/-- V holds the strings xs, now and in every later world in which nothing that is there has turned. -/
def SliceArg (W : World) (V : Value) (xs : List ByteArray) : Prop :=
  (∀ w', Below W.heap.size W w' → Calls Try.prog 32 #[V, .int .i64 1048576] w' (SzPost 1048576 xs w')) ∧
  (xs.length ≤ 1048576 → ∀ w', Below W.heap.size W w' → Calls Try.prog 34 #[V] w' (CopyPost xs w'))
theorem SliceArg.later {W W' : World} {V : Value} {xs : List ByteArray} (h : SliceArg W V xs) (hb : Below W.heap.size W W') : SliceArg W' V xs :=
  ⟨fun w' hw => h.1 w' (hb.trans (hw.mono hb.size)), fun hl w' hw => h.2 hl w' (hb.trans (hw.mono hb.size))⟩

def SzShiftPost (xs : List ByteArray) (w : World) (e : Ending) (w' : World) : Prop := ∃ r : Int, e = .returned (.int .i64 r) ∧ (r = -1 ∨ (0 ≤ r ∧ (xs.length : Int) + total xs ≤ 1048576)) ∧ Below w.heap.size w w'

set_option maxRecDepth 100000 in
theorem sz_shift (L : Int) (V : Value) (xs : List ByteArray) (w : World) (h : SliceArg w V xs) :
    Calls Try.prog 9 #[.agg #[.int .i64 L, V], .int .i64 1048576] w (SzShiftPost xs w) := by
  have HS := Lib.hid (h.1 (w.alloc (.cells #[.int .i64 L, V] 24)) ((Below.refl _ _).alloc (Nat.le_refl _) _))
  clear h
  go_enter Try.func9, Try.ntmps9
  go_wp2_with fail
  refine HS.out.mono ?_
  rintro e w1 ⟨r, rfl, hr, rfl⟩
  rcases hr with rfl | ⟨hr0, hr1⟩
  · go_wp2
    go_ret
    exact ⟨-1, rfl, Or.inl rfl, (Below.refl _ _).alloc (Nat.le_refl _) _⟩
  · go_wp2
    go_ret
    exact ⟨r, rfl, Or.inr ⟨hr0, by omega⟩, (Below.refl _ _).alloc (Nat.le_refl _) _⟩

/-- A copy: its own slice, in new memory. -/
def ToShiftPost (L : Int) (xs : List ByteArray) (w : World) (e : Ending) (w' : World) : Prop :=
  ∃ g, e = .returned (.agg #[.int .i64 L, .slice (some ⟨g, 0, none⟩) xs.length xs.length]) ∧ w'.ownsRow w.heap.size 9 1 (.slice (some ⟨g, 0, none⟩) xs.length xs.length) xs.length (xs.map Value.string) ∧ Below w.heap.size w w'

set_option maxRecDepth 100000 in
set_option maxHeartbeats 800000 in
theorem to_shift (L : Int) (V : Value) (xs : List ByteArray) (hl : xs.length ≤ 1048576) (w : World) (h : SliceArg w V xs) :
    Calls Try.prog 11 #[.agg #[.int .i64 L, V]] w (ToShiftPost L xs w) := by
  have HC := Lib.hid (h.2 hl)
  clear h
  go_enter Try.func11, Try.ntmps11
  go_wp2_with fail
  obtain ⟨W3, hW3⟩ : ∃ W3, (((w.alloc (.cells #[.int .i64 L, V] 24)).alloc (.cells #[.int .i64 0, .slice none 0 0] 27)).alloc (.cells #[.int .i64 L, .slice none 0 0] 27)) = W3 := ⟨_, rfl⟩
  have hbW : Below w.heap.size w W3 := by rw [← hW3]; exact (((Below.refl _ _).alloc (Nat.le_refl _) _).alloc (by simp) _).alloc (by simp; omega) _
  have hsz : W3.heap.size = w.heap.size + 1 + 1 + 1 := by rw [← hW3]; simp
  have h1 : W3.heap[w.heap.size + 1]? = some (.cells #[.int .i64 0, .slice none 0 0] 27) := by
    rw [← hW3]
    have e := heap_alloc_new (w.alloc (.cells #[.int .i64 L, V] 24)) (.cells #[.int .i64 0, .slice none 0 0] 27)
    rw [World.size_alloc] at e
    rw [← e]
    exact ((Below.refl _ ((w.alloc (.cells #[.int .i64 L, V] 24)).alloc (.cells #[.int .i64 0, .slice none 0 0] 27))).alloc (Nat.le_refl _) _).block _ (by simp)
  have h2 : W3.heap[w.heap.size + 1 + 1]? = some (.cells #[.int .i64 L, .slice none 0 0] 27) := by
    rw [← hW3]
    have e := heap_alloc_new ((w.alloc (.cells #[.int .i64 L, V] 24)).alloc (.cells #[.int .i64 0, .slice none 0 0] 27)) (.cells #[.int .i64 L, .slice none 0 0] 27)
    rw [World.size_alloc, World.size_alloc] at e
    exact e
  rw [hW3]
  clear hW3
  refine (HC.out W3 hbW).mono ?_
  rintro e w3 ⟨rfl, ho3, hb3, hlt3⟩
  have k1 := (hb3.block (w.heap.size + 1) (by omega)).trans h1
  have k2 := (hb3.block (w.heap.size + 1 + 1) (by omega)).trans h2
  have HO3 := Lib.hid ho3
  have HB3 := Lib.hid (hbW.trans (hb3.mono hbW.size))
  clear ho3 hb3 hbW h1 h2 hlt3
  have c10 : w3.cell? ⟨w.heap.size + 1, 0, none⟩ = some (.int .i64 0) := by simp [World.cell?, k1]
  have c11 : w3.cell? ⟨w.heap.size + 1, 1, none⟩ = some (.slice none 0 0) := by simp [World.cell?, k1]
  have c20 : w3.cell? ⟨w.heap.size + 1 + 1, 0, none⟩ = some (.int .i64 L) := by simp [World.cell?, k2]
  have c21 : w3.cell? ⟨w.heap.size + 1 + 1, 1, none⟩ = some (.slice none 0 0) := by simp [World.cell?, k2]
  have f1 : ∀ j, w3.frozen? ⟨w.heap.size + 1, j, none⟩ = false := fun j => by simp [World.frozen?, k1]
  have f2 : ∀ j, w3.frozen? ⟨w.heap.size + 1 + 1, j, none⟩ = false := fun j => by simp [World.frozen?, k2]
  go_wp2
  generalize hv : Value.slice (some ⟨w.heap.size + 1 + 1 + 1, 0, none⟩) xs.length xs.length = v at *
  have m1 : (w3.setCell ⟨w.heap.size + 1 + 1, 1, none⟩ v).heap[w.heap.size + 1]? = some (.cells #[.int .i64 0, .slice none 0 0] 27) := by
    rw [heap_setCell_other _ _ _ _ (by simp)]; exact k1
  have m2 := heap_setCell_same (w3.setCell ⟨w.heap.size + 1 + 1, 1, none⟩ v) (w.heap.size + 1) 0 _ _ (.int .i64 L) m1
  have m3 := heap_setCell_same _ (w.heap.size + 1) 1 _ _ v m2
  refine bodyPost_ret (results_cell_row rfl _ _ (w.heap.size + 1) 27 #[.int .i64 L, v] (0, 0) _ rfl ?_ Try.underlying27 rfl (by kernel_rfl)) rfl ?_
  · rw [m3]; rfl
  · subst hv
    have ho := HO3.out
    rw [hsz] at ho
    have o1 := ownsRow_setCell_below ho (a := ⟨w.heap.size + 1 + 1, 1, none⟩) (by show w.heap.size + 1 + 1 < _; omega) (Value.slice (some ⟨w.heap.size + 1 + 1 + 1, 0, none⟩) xs.length xs.length)
    have o2 := ownsRow_setCell_below o1 (a := ⟨w.heap.size + 1, 0, none⟩) (by show w.heap.size + 1 < _; omega) (.int .i64 L)
    have o3 := ownsRow_setCell_below o2 (a := ⟨w.heap.size + 1, 1, none⟩) (by show w.heap.size + 1 < _; omega) (Value.slice (some ⟨w.heap.size + 1 + 1 + 1, 0, none⟩) xs.length xs.length)
    have b1 := HB3.out.setCell (p := ⟨w.heap.size + 1 + 1, 1, none⟩) (by show _ ≤ w.heap.size + 1 + 1; omega) (Value.slice (some ⟨w.heap.size + 1 + 1 + 1, 0, none⟩) xs.length xs.length)
    have b2 := b1.setCell (p := ⟨w.heap.size + 1, 0, none⟩) (by show _ ≤ w.heap.size + 1; omega) (.int .i64 L)
    have b3 := b2.setCell (p := ⟨w.heap.size + 1, 1, none⟩) (by show _ ≤ w.heap.size + 1; omega) (Value.slice (some ⟨w.heap.size + 1 + 1 + 1, 0, none⟩) xs.length xs.length)
    exact ⟨_, rfl, World.ownsRow.mono o3 (by omega), b3⟩

/-- Two equal shifts are found equal. -/
theorem same_shift (L : Int) (g1 c1 g2 c2 : Nat) (xs : List ByteArray) (hl : xs.length ≤ 1048576) (w : World) (h1 : StrsAt w g1 0 xs) (k1 : g1 < w.heap.size) (h2 : StrsAt w g2 0 xs) (k2 : g2 < w.heap.size) :
    Calls Try.prog 14 #[.agg #[.int .i64 L, .slice (some ⟨g1, 0, none⟩) xs.length c1], .agg #[.int .i64 L, .slice (some ⟨g2, 0, none⟩) xs.length c2]] w (TrueBelow w) := by
  have hb : Below w.heap.size w ((w.alloc (.cells #[.int .i64 L, .slice (some ⟨g1, 0, none⟩) xs.length c1] 27)).alloc (.cells #[.int .i64 L, .slice (some ⟨g2, 0, none⟩) xs.length c2] 27)) := ((Below.refl _ _).alloc (Nat.le_refl _) _).alloc (by simp) _
  have HE := Lib.hid (same_some g1 0 c1 g2 0 c2 xs (by omega) _ (h1.below hb k1) (h2.below hb k2))
  have HB := Lib.hid hb
  clear h1 h2 hb
  go_enter Try.func14, Try.ntmps14
  go_wp2_with fail
  refine HE.out.mono ?_
  rintro e w1 ⟨rfl, hb1⟩
  go_wp2
  go_ret
  exact ⟨rfl, HB.out.trans (hb1.mono HB.out.size)⟩
end Go.Proofs.Ytalclebehbdliaa
namespace Go.Proofs.Ytalclebehbdliaa
open Go Go.RowKit

theorem ba_ext {a b : ByteArray} (h : a.data.toList = b.data.toList) : a = b := by
  cases a; cases b
  simpa using h
theorem ba_len (s : ByteArray) : s.data.toList.length = s.size := rfl
theorem ba_append (a b : ByteArray) : (a ++ b).data.toList = a.data.toList ++ b.data.toList := by simp
theorem ba_extract (s : ByteArray) (i j : Nat) : (s.extract i j).data.toList = (s.data.toList.drop i).take (j - i) := Lib.extract_data s i j
theorem ba_get (s : ByteArray) (k : Nat) (h : k < s.size) : s[k] = s.data.toList[k]'h := rfl
theorem ba_same (a b : ByteArray) : (a.toList == b.toList) = decide (a = b) := by
  rw [ByteArray.toList_eq, ByteArray.toList_eq]
  by_cases h : a = b
  · subst h; simp
  · have : a.data.toList ≠ b.data.toList := fun e => h (ba_ext e)
    rw [beq_eq_false_iff_ne.2 this, decide_eq_false h]
theorem ba_less (a b : ByteArray) : Op.bytesLess a.toList b.toList = decide (a.data.toList < b.data.toList) := by
  rw [bytesLess_eq, ByteArray.toList_eq, ByteArray.toList_eq]

/-! ### Words -/
/-- A letter, where there are k. -/
def isL (k : Int) (b : UInt8) : Bool := decide (97 ≤ b.toNat) && decide ((b.toNat : Int) - 97 < k)
/-- w is a word with k letters. -/
def isW (k : Int) (w : ByteArray) : Bool := (decide (1 ≤ k) && decide (k ≤ 3) && decide (w.size ≤ 16)) && w.data.toList.all (isL k)
theorem all_of {k : Int} {w : ByteArray} (h : ∀ j (hj : j < w.size), isL k w[j] = true) : w.data.toList.all (isL k) = true := by
  rw [List.all_eq_true]
  intro b hb
  obtain ⟨j, hj, rfl⟩ := List.getElem_of_mem hb
  exact h j hj
theorem all_not {k : Int} {w : ByteArray} {j : Nat} (hj : j < w.size) (h : isL k w[j] = false) : w.data.toList.all (isL k) = false := by
  rw [← Bool.not_eq_true, List.all_eq_true]
  intro hall
  have := hall w[j] (List.getElem_mem (l := w.data.toList) hj)
  rw [h] at this; cases this
theorem isW_len {k : Int} {w : ByteArray} (h : isW k w = true) : w.size ≤ 16 := by
  unfold isW at h
  simp only [Bool.and_eq_true, decide_eq_true_eq] at h
  exact h.1.2
/-- A word that is not empty. -/
def wordy (w : ByteArray) : Bool := decide (w.size ≠ 0) && isW 3 w
theorem wordy_pos {w : ByteArray} (h : wordy w = true) : 0 < w.size := by
  unfold wordy at h
  simp only [Bool.and_eq_true, decide_eq_true_eq] at h
  omega
theorem wordy_len {w : ByteArray} (h : wordy w = true) : w.size ≤ 16 := by
  unfold wordy at h
  simp only [Bool.and_eq_true] at h
  exact isW_len h.2

/-! ### Turns -/
/-- w with its first m letters moved to its end. -/
def turnAt (w : ByteArray) (m : Nat) : ByteArray := w.extract m w.size ++ w.extract 0 m
theorem turnAt_data (w : ByteArray) (m : Nat) : (turnAt w m).data.toList = w.data.toList.drop m ++ w.data.toList.take m := by
  unfold turnAt
  rw [ba_append, ba_extract, ba_extract, List.drop_zero, Nat.sub_zero, List.take_of_length_le (by rw [List.length_drop, ba_len]; exact Nat.le_refl _)]
theorem turnAt_size (w : ByteArray) (m : Nat) (h : m ≤ w.size) : (turnAt w m).size = w.size := by
  rw [← ba_len, turnAt_data, List.length_append, List.length_drop, List.length_take, ba_len]; omega
theorem turnAt_zero (w : ByteArray) : turnAt w 0 = w := ba_ext (by rw [turnAt_data]; simp)
theorem turnAt_all (w : ByteArray) (k : Int) (m : Nat) : (turnAt w m).data.toList.all (isL k) = w.data.toList.all (isL k) := by
  rw [turnAt_data, List.all_append, Bool.and_comm, ← List.all_append, List.take_append_drop]
theorem turnAt_isW (w : ByteArray) (k : Int) (m : Nat) (h : m ≤ w.size) : isW k (turnAt w m) = isW k w := by
  unfold isW; rw [turnAt_all, turnAt_size w m h]
theorem turnAt_wordy (w : ByteArray) (m : Nat) (h : m ≤ w.size) : wordy (turnAt w m) = wordy w := by
  unfold wordy; rw [turnAt_isW w 3 m h, turnAt_size w m h]
/-- A turn of a turn is a turn. -/
theorem turnAt_turn (w : ByteArray) (a b : Nat) (ha : a ≤ w.size) (hb : b ≤ w.size) : turnAt (turnAt w a) b = turnAt w (if a + b ≤ w.size then a + b else a + b - w.size) := by
  apply ba_ext
  rw [turnAt_data, turnAt_data, turnAt_data]
  have hl : (w.data.toList.drop a).length = w.size - a := by rw [List.length_drop, ba_len]
  generalize w.data.toList = l at *
  by_cases h : a + b ≤ w.size
  · rw [if_pos h, List.drop_append_of_le_length (by omega), List.take_append_of_le_length (by omega), List.drop_drop, List.append_assoc]
    congr 1
    rw [List.take_add]
  · rw [if_neg h]
    obtain ⟨c, hc⟩ : ∃ c, a + b - w.size = c := ⟨_, rfl⟩
    have hb' : b = (l.drop a).length + c := by omega
    rw [hc, hb', List.drop_append, List.take_append, List.drop_of_length_le (by omega), List.nil_append, List.take_of_length_le (by omega : (l.drop a).length ≤ _)]
    rw [Nat.add_sub_cancel_left, List.take_take, Nat.min_eq_left (by omega), ← List.append_assoc]
    congr 1
    rw [List.drop_take]
    have e : l.drop a = (l.drop c).drop (a - c) := by rw [List.drop_drop, show c + (a - c) = a by omega]
    rw [e, List.take_append_drop]
theorem turnAt_full (w : ByteArray) : turnAt w w.size = w := ba_ext (by
  rw [turnAt_data, ← ba_len, List.drop_length, List.take_length, List.nil_append])
/-- How far a word is turned: n, reduced. -/
def turnNo (w : ByteArray) (n : Int) : Nat := (n % (w.size : Int)).toNat
theorem turnNo_lt (w : ByteArray) (n : Int) (h : 0 < w.size) : turnNo w n < w.size := by
  have h1 := Int.emod_nonneg n (show (w.size : Int) ≠ 0 by omega)
  have h2 := Int.emod_lt_of_pos n (show (0 : Int) < (w.size : Int) by omega)
  unfold turnNo; omega
theorem turnNo_of_lt (w : ByteArray) (n : Nat) (h : n < w.size) : turnNo w (n : Int) = n := by
  unfold turnNo
  rw [Int.emod_eq_of_lt (by omega) (by omega)]; rfl
def turned (w : ByteArray) (n : Int) : ByteArray := if wordy w = true then turnAt w (turnNo w n) else ByteArray.empty

/-- The least of w and its first k turns. -/
def leastTo (w : ByteArray) : Nat → ByteArray
  | 0 => w
  | k + 1 => if (turnAt w k).data.toList < (leastTo w k).data.toList then turnAt w k else leastTo w k
theorem leastTo_one (w : ByteArray) : leastTo w 1 = w := by
  unfold leastTo
  rw [turnAt_zero]
  simp [leastTo]
theorem leastTo_is (w : ByteArray) (h : 0 < w.size) : ∀ k, k ≤ w.size → ∃ m, m < w.size ∧ leastTo w k = turnAt w m
  | 0, _ => ⟨0, h, (turnAt_zero w).symm⟩
  | k + 1, hk => by
    unfold leastTo
    split
    · exact ⟨k, by omega, rfl⟩
    · exact leastTo_is w h k (by omega)
theorem le_of_nlt {a b : List UInt8} (h : ¬ a < b) : b ≤ a := List.not_lt.1 h
theorem leastTo_le (w : ByteArray) : ∀ k j, j < k → (leastTo w k).data.toList ≤ (turnAt w j).data.toList
  | 0, j, h => by omega
  | k + 1, j, h => by
    unfold leastTo
    by_cases hj : j = k
    · subst hj
      split
      · exact List.le_refl _
      · next hn => exact le_of_nlt hn
    · have ih := leastTo_le w k j (by omega)
      split
      · next hl => exact List.le_trans (List.le_of_lt hl) ih
      · exact ih
theorem leastTo_size (w : ByteArray) (h : 0 < w.size) (k : Nat) (hk : k ≤ w.size) : (leastTo w k).size = w.size := by
  obtain ⟨m, hm, e⟩ := leastTo_is w h k hk
  rw [e, turnAt_size w m (by omega)]
def least (w : ByteArray) : ByteArray := if wordy w = true then leastTo w w.size else ByteArray.empty
/-- Turns of a word have the same least turn. -/
theorem least_turn (w : ByteArray) (m : Nat) (hw : wordy w = true) (hm : m < w.size) : least (turnAt w m) = least w := by
  have hs := turnAt_size w m (by omega)
  have hp := wordy_pos hw
  unfold least
  rw [turnAt_wordy w m (by omega), if_pos hw, if_pos hw, hs]
  obtain ⟨a, ha, ea⟩ := leastTo_is (turnAt w m) (by omega) w.size (by omega)
  obtain ⟨b, hb, eb⟩ := leastTo_is w hp w.size (by omega)
  apply ba_ext
  apply List.le_antisymm
  · rw [eb]
    -- turn b of w is a turn of turn m
    by_cases h : m ≤ b
    · have e : turnAt w b = turnAt (turnAt w m) (b - m) := by
        rw [turnAt_turn w m (b - m) (by omega) (by omega), if_pos (by omega), show m + (b - m) = b by omega]
      rw [e]
      exact leastTo_le _ _ _ (by omega)
    · have e : turnAt w b = turnAt (turnAt w m) (b + w.size - m) := by
        rw [turnAt_turn w m (b + w.size - m) (by omega) (by omega)]
        by_cases hb0 : m + (b + w.size - m) ≤ w.size
        · rw [if_pos hb0]
          obtain rfl : b = 0 := by omega
          rw [show m + (0 + w.size - m) = w.size by omega]
          rw [turnAt_full, turnAt_zero]
        · rw [if_neg hb0, show m + (b + w.size - m) - w.size = b by omega]
      rw [e]
      exact leastTo_le _ _ _ (by omega)
  · rw [ea, turnAt_turn w m a (by omega) (by rw [hs] at ha; omega)]
    rw [hs] at ha
    split
    · next h =>
      by_cases h2 : m + a = w.size
      · have e : turnAt w (m + a) = turnAt w 0 := by
          rw [h2, turnAt_full, turnAt_zero]
        rw [e]
        exact leastTo_le _ _ _ hp
      · exact leastTo_le _ _ _ (by omega)
    · exact leastTo_le _ _ _ (by omega)

/-! ### Roots -/
/-- w is its first n letters repeated. -/
def rootAt (w : ByteArray) (n : Nat) : Bool := decide (Lib.repeatL (w.extract 0 n).data.toList (w.size / n) = w.data.toList)
def RootOk (w : ByteArray) (n : Nat) : Prop := 1 ≤ n ∧ n ≤ w.size ∧ rootAt w n = true ∧ ∀ m, 1 ≤ m → m < n → rootAt w m = false
theorem RootOk.unique {w : ByteArray} {a b : Nat} (ha : RootOk w a) (hb : RootOk w b) : a = b := by
  obtain ⟨a1, a2, a3, a4⟩ := ha
  obtain ⟨b1, b2, b3, b4⟩ := hb
  rcases Nat.lt_trichotomy a b with h | h | h
  · rw [b4 a a1 h] at a3; cases a3
  · exact h
  · rw [a4 b b1 h] at b3; cases b3
theorem rootAt_all (w : ByteArray) (h : 0 < w.size) : rootAt w w.size = true := by
  unfold rootAt
  rw [decide_eq_true_eq, Nat.div_self h, Lib.repeatL_one, ba_extract, List.drop_zero, Nat.sub_zero, ← ba_len, List.take_length]
theorem head_size (w : ByteArray) (n : Nat) (h : n ≤ w.size) : (w.extract 0 n).size = n := by rw [ByteArray.size_extract]; omega
theorem rootAt_div {w : ByteArray} {n : Nat} (hn : n ≤ w.size) (h : rootAt w n = true) : w.size % n = 0 := by
  unfold rootAt at h
  rw [decide_eq_true_eq] at h
  have hl := congrArg List.length h
  rw [Lib.repeatL_length, ba_len, ba_len, head_size w n hn] at hl
  have := Nat.div_add_mod w.size n
  rw [Nat.mul_comm] at this
  omega
theorem root_exists (w : ByteArray) (h : 0 < w.size) : ∃ n, RootOk w n := by
  have key : ∀ d n, w.size - n = d → 1 ≤ n → n ≤ w.size → (∀ m, 1 ≤ m → m < n → rootAt w m = false) → ∃ n, RootOk w n := by
    intro d
    induction d with
    | zero =>
      intro n hd h1 h2 h3
      obtain rfl : n = w.size := by omega
      exact ⟨_, h1, h2, rootAt_all w h, h3⟩
    | succ d ih =>
      intro n hd h1 h2 h3
      cases hr : rootAt w n with
      | true => exact ⟨n, h1, h2, hr, h3⟩
      | false =>
        refine ih (n + 1) (by omega) (by omega) (by omega) (fun m m1 m2 => ?_)
        by_cases hm : m = n
        · subst hm; exact hr
        · exact h3 m m1 (by omega)
  exact key _ 1 rfl (Nat.le_refl _) h (fun m _ _ => by omega)
/-- c copies of a string. -/
def timesB (p : ByteArray) (c : Nat) : ByteArray := ⟨(Lib.repeatL p.data.toList c).toArray⟩
theorem timesB_data (p : ByteArray) (c : Nat) : (timesB p c).data.toList = Lib.repeatL p.data.toList c := by simp [timesB]
theorem timesB_zero (p : ByteArray) : timesB p 0 = ByteArray.empty := rfl
theorem timesB_next (p : ByteArray) (c : Nat) : timesB p c ++ p = timesB p (c + 1) := ba_ext (by
  rw [ba_append, timesB_data, timesB_data, Lib.repeatL_add, Lib.repeatL_one])
theorem timesB_size (p : ByteArray) (c : Nat) : (timesB p c).size = c * p.size := by rw [← ba_len, timesB_data, Lib.repeatL_length, ba_len]
theorem timesB_root (w : ByteArray) (n : Nat) : decide (timesB (w.extract 0 n) (w.size / n) = w) = rootAt w n := by
  unfold rootAt
  apply decide_eq_decide.2
  constructor
  · intro h; rw [← timesB_data, h]
  · intro h; exact ba_ext (by rw [timesB_data, h])

/-! ### Mirrors -/
def mirror (w : ByteArray) : ByteArray := ⟨w.data.toList.reverse.toArray⟩
theorem mirror_data (w : ByteArray) : (mirror w).data.toList = w.data.toList.reverse := by simp [mirror]
theorem mirror_size (w : ByteArray) : (mirror w).size = w.size := by rw [← ba_len, mirror_data, List.length_reverse, ba_len]
theorem mirror_twice (w : ByteArray) : mirror (mirror w) = w := ba_ext (by rw [mirror_data, mirror_data, List.reverse_reverse])

/-! ### Where a string occurs -/
theorem occ_lt {s sub : List UInt8} {i : Nat} (h : s.length < i + sub.length) (hi : i ≤ s.length) : Lib.occAt s sub i = false := by
  rw [← Bool.not_eq_true]
  intro ho
  unfold Lib.occAt at ho
  have hp := (List.isPrefixOf_iff_prefix.1 ho).length_le
  rw [List.length_drop] at hp
  omega
theorem contains_yes {s sub : List UInt8} : ∀ {i : Nat}, i ≤ s.length → Lib.occAt s sub i = true → Lib.contains s sub = true := by
  intro i hi ho
  unfold Lib.contains
  rw [decide_eq_true_eq]
  induction s generalizing i with
  | nil =>
    obtain rfl : i = 0 := by simpa using hi
    cases sub with
    | nil => decide
    | cons a t => simp [Lib.occAt] at ho
  | cons b l ih =>
    unfold Lib.index
    cases hp : sub.isPrefixOf (b :: l) with
    | true => simp
    | false =>
      match i, hi, ho with
      | 0, _, ho => simp [Lib.occAt, hp] at ho
      | i + 1, hi, ho =>
        have := ih (i := i) (by simpa using hi) (by simpa [Lib.occAt] using ho)
        have h2 : (Lib.index l sub == -1) = false := by rw [beq_eq_false_iff_ne]; omega
        simp [h2]; omega
theorem contains_no {s sub : List UInt8} (h : ∀ i, i + sub.length ≤ s.length → Lib.occAt s sub i = false) : Lib.contains s sub = false := by
  have e : Lib.index s sub = -1 := Lib.index_none (fun j hj => by
    by_cases hl : j + sub.length ≤ s.length
    · exact h j hl
    · exact occ_lt (by omega) hj)
  unfold Lib.contains
  rw [e]; rfl
theorem occ_eq (s sub : ByteArray) (i : Nat) : decide (s.extract i (i + sub.size) = sub) = Lib.occAt s.data.toList sub.data.toList i := by
  unfold Lib.occAt
  have hd : (s.extract i (i + sub.size)).data.toList = (s.data.toList.drop i).take sub.data.toList.length := by
    rw [ba_extract, Nat.add_sub_cancel_left, ba_len]
  by_cases hp : sub.data.toList <+: s.data.toList.drop i
  · rw [List.isPrefixOf_iff_prefix.2 hp, decide_eq_true_eq]
    exact ba_ext (by rw [hd]; exact (List.prefix_iff_eq_take.1 hp).symm)
  · have h1 : sub.data.toList.isPrefixOf (s.data.toList.drop i) = false := by
      rw [← Bool.not_eq_true]; exact fun e => hp (List.isPrefixOf_iff_prefix.1 e)
    rw [h1, decide_eq_false_iff_not]
    intro e
    apply hp
    rw [List.prefix_iff_eq_take, ← hd, e]

/-! ### All words of a length -/
def letterB (j : Nat) : ByteArray := ⟨#[UInt8.ofNat (97 + j)]⟩
/-- Each of the words with each letter behind it. -/
def longer (ws : List ByteArray) (k : Nat) : List ByteArray := ws.flatMap fun w => (List.range k).map fun j => w ++ letterB j
def allW (k : Nat) : Nat → List ByteArray
  | 0 => [ByteArray.empty]
  | n + 1 => longer (allW k n) k
theorem longer_length (ws : List ByteArray) (k : Nat) : (longer ws k).length = ws.length * k := by
  unfold longer
  induction ws with
  | nil => simp
  | cons a l ih => rw [List.flatMap_cons, List.length_append, ih, List.length_map, List.length_range, List.length_cons, Nat.succ_mul, Nat.add_comm]
theorem allW_length (k : Nat) : ∀ n, (allW k n).length = k ^ n
  | 0 => rfl
  | n + 1 => by rw [allW, longer_length, allW_length k n, Nat.pow_succ]
theorem letterB_size (j : Nat) : (letterB j).size = 1 := rfl
theorem longer_size {ws : List ByteArray} {k m : Nat} (h : ∀ x ∈ ws, x.size = m) : ∀ x ∈ longer ws k, x.size = m + 1 := by
  intro x hx
  unfold longer at hx
  rw [List.mem_flatMap] at hx
  obtain ⟨w, hw, hx⟩ := hx
  rw [List.mem_map] at hx
  obtain ⟨j, _, rfl⟩ := hx
  rw [ByteArray.size_append, h w hw, letterB_size]
theorem allW_size (k : Nat) : ∀ n, ∀ x ∈ allW k n, x.size = n
  | 0 => fun x hx => by
    rw [allW, List.mem_singleton] at hx
    subst hx; rfl
  | n + 1 => longer_size (allW_size k n)
theorem longer_next (ws : List ByteArray) (k i : Nat) (h : i < ws.length) : longer (ws.take (i + 1)) k = longer (ws.take i) k ++ (List.range k).map fun j => ws[i] ++ letterB j := by
  unfold longer
  rw [List.take_succ_eq_append_getElem h, List.flatMap_append]
  simp
theorem range_next (w : ByteArray) (j : Nat) : (List.range (j + 1)).map (fun j => w ++ letterB j) = (List.range j).map (fun j => w ++ letterB j) ++ [w ++ letterB j] := by
  rw [List.range_succ, List.map_append]; rfl
/-- The list that WordsOf gives: none where the numbers are out of bounds or the words more than 729. -/
def wordsOf (k n : Int) : List ByteArray :=
  if (1 ≤ k ∧ k ≤ 3) ∧ 0 ≤ n ∧ n ≤ 16 ∧ k.toNat ^ n.toNat ≤ 729 then allW k.toNat n.toNat else []
end Go.Proofs.Ytalclebehbdliaa
namespace Go.Proofs.Ytalclebehbdliaa
open Go Go.RowKit

/-- The forbidden word at place k is one, and stands behind the word ahead of it. -/
def okAt (L : Int) (ps : List ByteArray) (k : Nat) : Bool :=
  (isW L (ps.getD k ByteArray.empty) && (decide (1 ≤ (ps.getD k ByteArray.empty).size) && decide ((ps.getD k ByteArray.empty).size ≤ 3))) &&
    (decide (k = 0) || decide ((ps.getD (k - 1) ByteArray.empty).data.toList < (ps.getD k ByteArray.empty).data.toList))
def isShift (L : Int) (ps : List ByteArray) : Bool :=
  (List.range ps.length).all (okAt L ps) && ((decide (1 ≤ L) && decide (L ≤ 3)) && decide (ps.length ≤ 8))
def ShiftTo (L : Int) (ps : List ByteArray) (k : Nat) : Prop := ∀ j, j < k → okAt L ps j = true
theorem ShiftTo.zero (L : Int) (ps : List ByteArray) : ShiftTo L ps 0 := fun j h => by omega
theorem ShiftTo.next {L : Int} {ps : List ByteArray} {k : Nat} (h : ShiftTo L ps k) (hk : okAt L ps k = true) : ShiftTo L ps (k + 1) := by
  intro j hj
  by_cases e : j = k
  · subst e; exact hk
  · exact h j (by omega)
theorem isShift_not {L : Int} {ps : List ByteArray} {k : Nat} (hk : k < ps.length) (h : okAt L ps k = false) : isShift L ps = false := by
  have : (List.range ps.length).all (okAt L ps) = false := by
    rw [← Bool.not_eq_true, List.all_eq_true]
    intro hall
    have := hall k (List.mem_range.2 hk)
    rw [h] at this; cases this
  unfold isShift
  rw [this]; rfl
theorem isShift_end {L : Int} {ps : List ByteArray} (h : ShiftTo L ps ps.length) : isShift L ps = ((decide (1 ≤ L) && decide (L ≤ 3)) && decide (ps.length ≤ 8)) := by
  have : (List.range ps.length).all (okAt L ps) = true := by
    rw [List.all_eq_true]
    intro k hk
    exact h k (List.mem_range.1 hk)
  unfold isShift
  rw [this]; rfl
theorem isShift_letters {L : Int} {ps : List ByteArray} (h : isShift L ps = true) : 1 ≤ L ∧ L ≤ 3 ∧ ps.length ≤ 8 := by
  unfold isShift at h
  simp only [Bool.and_eq_true, decide_eq_true_eq] at h
  exact ⟨h.2.1.1, h.2.1.2, h.2.2⟩
theorem okAt_word {L : Int} {ps : List ByteArray} {k : Nat} (h : isW L (ps.getD k ByteArray.empty) = false) : okAt L ps k = false := by
  unfold okAt; rw [h]; rfl
theorem okAt_size {L : Int} {ps : List ByteArray} {k : Nat} (h : (decide (1 ≤ (ps.getD k ByteArray.empty).size) && decide ((ps.getD k ByteArray.empty).size ≤ 3)) = false) : okAt L ps k = false := by
  unfold okAt; rw [h, Bool.and_false]; rfl

/-! ### Words that avoid -/
/-- None of the words occurs in w. -/
def avoids (ps : List ByteArray) (w : ByteArray) : Bool := ps.all fun f => !Lib.contains w.data.toList f.data.toList
def AvoidTo (ps : List ByteArray) (w : ByteArray) (k : Nat) : Prop := ∀ j, j < k → Lib.contains w.data.toList (ps.getD j ByteArray.empty).data.toList = false
theorem AvoidTo.next {ps : List ByteArray} {w : ByteArray} {k : Nat} (h : AvoidTo ps w k) (hk : Lib.contains w.data.toList (ps.getD k ByteArray.empty).data.toList = false) : AvoidTo ps w (k + 1) := by
  intro j hj
  by_cases e : j = k
  · subst e; exact hk
  · exact h j (by omega)
theorem avoids_not {ps : List ByteArray} {w : ByteArray} {k : Nat} (hk : k < ps.length) (h : Lib.contains w.data.toList (ps.getD k ByteArray.empty).data.toList = true) : avoids ps w = false := by
  unfold avoids
  rw [← Bool.not_eq_true, List.all_eq_true]
  intro hall
  rw [List.getD_eq_getElem?_getD, List.getElem?_eq_getElem hk, Option.getD_some] at h
  have := hall _ (List.getElem_mem hk)
  rw [h] at this; cases this
theorem avoids_end {ps : List ByteArray} {w : ByteArray} (h : AvoidTo ps w ps.length) : avoids ps w = true := by
  unfold avoids
  rw [List.all_eq_true]
  intro f hf
  obtain ⟨k, hk, rfl⟩ := List.getElem_of_mem hf
  have := h k hk
  rw [List.getD_eq_getElem?_getD, List.getElem?_eq_getElem hk, Option.getD_some] at this
  rw [this]; rfl
def avoidsAll (L : Int) (ps : List ByteArray) (w : ByteArray) : Bool := (isShift L ps && isW L w) && avoids ps w
end Go.Proofs.Ytalclebehbdliaa
namespace Go.Proofs.Ytalclebehbdliaa
open Go Go.RowKit

theorem impl_isLetterCount (k : Int) (w : World) :
    Calls Try.prog 72 #[.int .i64 k] w fun e w' => e = .returned (.bool (decide (1 ≤ k) && decide (k ≤ 3))) ∧ w' = w := by
  go_enter Try.func72, Try.ntmps72
  cases h1 : decide (1 ≤ k) with
  | false => go_wp2; go_ret; exact ⟨rfl, rfl⟩
  | true => go_wp2; go_ret; exact ⟨rfl, rfl⟩
theorem spec_in (x lo hi : Int) (w : World) :
    Calls Try.prog 46 #[.int .i64 x, .int .i64 lo, .int .i64 hi] w fun e w' => e = .returned (.bool (decide (lo ≤ x) && decide (x ≤ hi))) ∧ w' = w := by
  go_enter Try.func46, Try.ntmps46
  cases h1 : decide (lo ≤ x) with
  | false => go_wp2; go_ret; exact ⟨rfl, rfl⟩
  | true => go_wp2; go_ret; exact ⟨rfl, rfl⟩

/-- The first k bytes are letters. -/
def OkTo (n : Int) (s : ByteArray) (k : Nat) : Prop := ∀ j (hj : j < s.size), j < k → isL n s[j] = true
theorem OkTo.zero (n : Int) (s : ByteArray) : OkTo n s 0 := fun j _ h => by omega
theorem OkTo.next {n : Int} {s : ByteArray} {k : Nat} (h : OkTo n s k) (hk : k < s.size) (hl : isL n s[k] = true) : OkTo n s (k + 1) := by
  intro j hj hjk
  by_cases e : j = k
  · subst e; exact hl
  · exact h j hj (by omega)
theorem OkTo.all {n : Int} {s : ByteArray} (h : OkTo n s s.size) : s.data.toList.all (isL n) = true := all_of (fun j hj => h j hj hj)

theorem letter_no (m : Nat) (hm : m < 256) (h : 97 ≤ m) : wrap64 (wrap64 (m : Int) - 97) = (m : Int) - 97 := by unfold wrap64; omega

set_option maxRecDepth 100000 in
theorem spec_isWord (n : Int) (s : ByteArray) (hs : s.size ≤ 1099511627776) (w : World) :
    Calls Try.prog 71 #[.int .i64 n, .string s] w fun e w' => e = .returned (.bool (isW n s)) ∧ w' = w := by
  have HI := Lib.hid (spec_in n 1 3)
  go_enter Try.func71, Try.ntmps71
  go_wp2
  go_loop [5] (fun i => ∃ k : Nat, k ≤ s.size ∧ i = .int .i64 k ∧ Hid (OkTo n s k)) (fun i => s.size - (intOf i).toNat)
  case atStart => exact ⟨0, Nat.zero_le _, rfl, Lib.hid (OkTo.zero n s)⟩
  case round =>
    obtain ⟨k, hk, rfl, hok⟩ := hrel
    by_cases hlt : k < s.size
    · cases hl : isL n s[k] with
      | true =>
        have hnext := Lib.hid (hok.out.next hlt hl)
        unfold isL at hl
        simp only [Bool.and_eq_true, decide_eq_true_eq] at hl
        obtain ⟨l1, l2⟩ := hl
        have hb : s[k].toNat < 256 := s[k].toNat_lt
        have c1 : decide ((s[k].toNat : Int) < 97) = false := by simp; omega
        have c2 : decide (n ≤ wrap64 (wrap64 (s[k].toNat : Int) - 97)) = false := by rw [letter_no _ hb l1]; simp; omega
        go_wp2
        go_round
        case rel => exact ⟨k + 1, by omega, by go_num, hnext⟩
        case measure => simp [intOf]; omega
      | false =>
        have HR := Lib.hid (all_not hlt hl)
        have hb : s[k].toNat < 256 := s[k].toNat_lt
        by_cases c0 : s[k].toNat < 97
        · have c1 : decide ((s[k].toNat : Int) < 97) = true := by simp; omega
          go_wp2
          all_goals first | (go_ret; exact ⟨by simp [isW, HR.out], rfl⟩) | (exfalso; omega)
        · have c1 : decide ((s[k].toNat : Int) < 97) = false := by simp; omega
          have c2 : decide (n ≤ wrap64 (wrap64 (s[k].toNat : Int) - 97)) = true := by
            rw [letter_no _ hb (by omega)]
            unfold isL at hl
            simp at hl ⊢; omega
          have c3 : n ≤ (s[k].toNat : Int) - 97 := by have := of_decide_eq_true c2; rw [letter_no _ hb (by omega)] at this; exact this
          clear hl c2
          go_wp2
          all_goals first | (go_ret; exact ⟨by simp [isW, HR.out], rfl⟩) | (exfalso; omega)
    · obtain rfl : k = s.size := by omega
      have HA := Lib.hid hok.out.all
      go_wp2_with fail
      refine (HI.out _).mono ?_
      rintro e w1 ⟨rfl, rfl⟩
      cases hx : (decide (1 ≤ n) && decide (n ≤ 3)) with
      | false =>
        go_wp2
        go_ret
        exact ⟨by simp only [isW, HA.out, hx]; rfl, rfl⟩
      | true =>
        go_wp2
        go_ret
        exact ⟨by simp [isW, HA.out, hx]; omega, rfl⟩

/-- All bytes are letters, where there are n. -/
def allL (n : Int) (s : ByteArray) : Bool := s.data.toList.all (isL n)

set_option maxRecDepth 100000 in
theorem impl_only (n : Int) (hn : 1 ≤ n ∧ n ≤ 3) (s : ByteArray) (hs : s.size ≤ 1099511627776) (w : World) :
    Calls Try.prog 87 #[.int .i64 n, .string s] w fun e w' => e = .returned (.bool (allL n s)) ∧ w' = w := by
  go_enter Try.func87, Try.ntmps87
  go_wp2
  go_loop [8] (fun i => ∃ k : Nat, k ≤ s.size ∧ i = .int .i64 k ∧ Hid (OkTo n s k)) (fun i => s.size - (intOf i).toNat)
  case atStart => exact ⟨0, Nat.zero_le _, rfl, Lib.hid (OkTo.zero n s)⟩
  case round =>
    obtain ⟨k, hk, rfl, hok⟩ := hrel
    by_cases hlt : k < s.size
    · have hb : s[k].toNat < 256 := s[k].toNat_lt
      cases hl : isL n s[k] with
      | true =>
        have hnext := Lib.hid (hok.out.next hlt hl)
        unfold isL at hl
        simp only [Bool.and_eq_true, decide_eq_true_eq] at hl
        obtain ⟨l1, l2⟩ := hl
        have c1 : decide ((s[k].toNat : Int) < 97) = false := by simp; omega
        go_wp2
        go_round
        case rel => exact ⟨k + 1, by omega, by go_num, hnext⟩
        case measure => simp [intOf]; omega
      | false =>
        have HR : Hid (allL n s = false) := Lib.hid (all_not hlt hl)
        by_cases c0 : s[k].toNat < 97
        · have c1 : decide ((s[k].toNat : Int) < 97) = true := by simp; omega
          go_wp2
          all_goals (go_ret; exact ⟨by simp [HR.out], rfl⟩)
        · have c1 : decide ((s[k].toNat : Int) < 97) = false := by simp; omega
          have c2 : n ≤ (s[k].toNat : Int) - 97 := by
            unfold isL at hl
            simp at hl; omega
          clear hl
          go_wp2
          all_goals (go_ret; exact ⟨by simp [HR.out], rfl⟩)
    · obtain rfl : k = s.size := by omega
      have HA : Hid (allL n s = true) := Lib.hid hok.out.all
      go_wp2
      go_ret
      exact ⟨by simp [HA.out], rfl⟩

set_option maxRecDepth 100000 in
theorem impl_isWord (n : Int) (s : ByteArray) (hs : s.size ≤ 1099511627776) (w : World) :
    Calls Try.prog 73 #[.int .i64 n, .string s] w fun e w' => e = .returned (.bool (isW n s)) ∧ w' = w := by
  have HI := Lib.hid (impl_isLetterCount n)
  go_enter Try.func73, Try.ntmps73
  go_wp2_with fail
  refine (HI.out _).mono ?_
  rintro e w1 ⟨rfl, rfl⟩
  cases hx : (decide (1 ≤ n) && decide (n ≤ 3)) with
  | false =>
    go_wp2
    go_ret
    exact ⟨by simp only [isW, hx]; rfl, rfl⟩
  | true =>
    have hn : 1 ≤ n ∧ n ≤ 3 := by simpa using hx
    by_cases h16 : s.size ≤ 16
    · have g0 : decide ((s.size : Int) ≤ (16 : Int)) = true := by simp; omega
      have HX := Lib.hid hx
      have HO := Lib.hid (impl_only n hn s hs w1)
      clear hx hn
      go_wp2_with fail
      refine HO.out.mono ?_
      rintro e w2 ⟨rfl, rfl⟩
      go_wp2
      go_ret
      exact ⟨by simp only [isW, HX.out, decide_eq_true h16, Bool.and_true, Bool.true_and]; rfl, rfl⟩
    · have g0 : decide ((s.size : Int) ≤ (16 : Int)) = false := by simp; omega
      clear hx
      go_wp2
      go_ret
      exact ⟨by simp [isW, h16], rfl⟩

end Go.Proofs.Ytalclebehbdliaa
namespace Go.Proofs.Ytalclebehbdliaa
open Go Go.RowKit

def occ (s sub : ByteArray) : Bool := Lib.contains s.data.toList sub.data.toList
/-- The part doesn't begin before place k. -/
def NoOcc (s sub : ByteArray) (k : Nat) : Prop := ∀ j, j < k → j + sub.size ≤ s.size → Lib.occAt s.data.toList sub.data.toList j = false
theorem NoOcc.next {s sub : ByteArray} {k : Nat} (h : NoOcc s sub k) (ho : Lib.occAt s.data.toList sub.data.toList k = false) : NoOcc s sub (k + 1) := by
  intro j h1 h2
  by_cases e : j = k
  · subst e; exact ho
  · exact h j (by omega) h2
theorem NoOcc.no {s sub : ByteArray} {k : Nat} (h : NoOcc s sub k) (hk : s.size < k + sub.size) : occ s sub = false :=
  contains_no (fun i hi => by
    rw [ba_len, ba_len] at hi
    exact h i (by omega) hi)

set_option maxRecDepth 100000 in
theorem spec_occurs (s sub : ByteArray) (hs : s.size ≤ 2147483648) (hb : sub.size ≤ 2147483648) (w : World) :
    Calls Try.prog 69 #[.string s, .string sub] w fun e w' => e = .returned (.bool (occ s sub)) ∧ w' = w := by
  go_enter Try.func69, Try.ntmps69
  go_wp2
  go_loop [5] (fun i => ∃ k : Nat, k ≤ s.size + 1 ∧ i = .int .i64 k ∧ Hid (NoOcc s sub k)) (fun i => s.size + 1 - (intOf i).toNat)
  case atStart => exact ⟨0, Nat.zero_le _, rfl, Lib.hid (fun j h => by omega)⟩
  case round =>
    obtain ⟨k, hk, rfl, hno⟩ := hrel
    by_cases hlt : k + sub.size ≤ s.size
    · have hq : ((s.extract k (k + sub.size)).toList == sub.toList) = Lib.occAt s.data.toList sub.data.toList k := by rw [ba_same, occ_eq]
      cases ho : Lib.occAt s.data.toList sub.data.toList k with
      | true =>
        rw [ho] at hq
        have HO := Lib.hid (show occ s sub = true from contains_yes (i := k) (by rw [ba_len]; omega) ho)
        clear ho
        go_wp2
        go_ret
        exact ⟨by rw [HO.out]; rfl, rfl⟩
      | false =>
        rw [ho] at hq
        have HO := Lib.hid (hno.out.next ho)
        clear ho
        go_wp2
        go_round
        case rel => exact ⟨k + 1, by omega, by go_num, HO⟩
        case measure => simp [intOf]; omega
    · have HO := Lib.hid (hno.out.no (by omega))
      go_wp2
      go_ret
      exact ⟨by rw [HO.out]; rfl, rfl⟩

end Go.Proofs.Ytalclebehbdliaa
namespace Go.Proofs.Ytalclebehbdliaa
open Go Go.RowKit

def BoolPost (b : Bool) (w : World) (e : Ending) (w' : World) : Prop := e = .returned (.bool b) ∧ Below w.heap.size w w'

set_option maxRecDepth 100000 in
set_option maxHeartbeats 1600000 in
theorem spec_isShift (L : Int) (G : Option Addr) (c : Nat) (ps : List ByteArray) (hl : ps.length ≤ 1048576) (hz : ∀ k, k < ps.length → (ps.getD k ByteArray.empty).size ≤ 1099511627776) (w : World) (hs : StrsG w G ps) :
    Calls Try.prog 45 #[.agg #[.int .i64 L, .slice G ps.length c]] w (BoolPost (isShift L ps) w) := by
  have hb := (Below.refl w.heap.size w).alloc (Nat.le_refl _) (.cells #[.int .i64 L, .slice G ps.length c] 27)
  have HS := Lib.hid (hs.below hb)
  have HZ := Lib.hid hz
  have HW := Lib.hid (fun k hk w' => spec_isWord L (ps.getD k ByteArray.empty) (hz k hk) w')
  have HN := Lib.hid (fun (n : Nat) w' => spec_in (n : Int) 1 3 w')
  have HL := Lib.hid (spec_in L 1 3)
  have HB := Lib.hid hb
  clear hs hz hb
  go_enter Try.func45, Try.ntmps45
  go_wp2
  go_loop [3] (fun i => ∃ k : Nat, k ≤ ps.length ∧ i = .int .i64 k ∧ Hid (ShiftTo L ps k)) (fun i => ps.length - (intOf i).toNat)
  case atStart => exact ⟨0, Nat.zero_le _, rfl, Lib.hid (ShiftTo.zero L ps)⟩
  case round =>
    obtain ⟨k, hk, rfl, hto⟩ := hrel
    by_cases hlt : k < ps.length
    · obtain ⟨bg, og, rfl, hst, _⟩ := HS.out (by omega)
      have hc := hst k hlt
      have hw := HW.out k hlt
      cases hi : isW L (ps.getD k ByteArray.empty) with
      | false =>
        have HR := Lib.hid (isShift_not hlt (okAt_word hi))
        rw [hi] at hw
        have HW1 := Lib.hid hw
        generalize ps.getD k ByteArray.empty = y at *
        clear hw hi
        go_wp2_with fail
        refine (HW1.out _).mono ?_
        rintro e w1 ⟨rfl, rfl⟩
        go_wp2
        go_ret
        exact ⟨by rw [HR.out]; rfl, HB.out⟩
      | true =>
        rw [hi] at hw
        have HW1 := Lib.hid hw
        clear hw
        have hn := HN.out (ps.getD k ByteArray.empty).size
        cases hz : (decide (1 ≤ (ps.getD k ByteArray.empty).size) && decide ((ps.getD k ByteArray.empty).size ≤ 3)) with
        | false =>
          have HR := Lib.hid (isShift_not hlt (okAt_size (L := L) hz))
          rw [show (decide ((1 : Int) ≤ ((ps.getD k ByteArray.empty).size : Int)) && decide (((ps.getD k ByteArray.empty).size : Int) ≤ 3)) = false by rw [← hz]; congr 1 <;> (apply decide_eq_decide.2; omega)] at hn
          have HN1 := Lib.hid hn
          generalize ps.getD k ByteArray.empty = y at *
          clear hn hz hi
          go_wp2_with fail
          refine (HW1.out _).mono ?_
          rintro e w1 ⟨rfl, rfl⟩
          go_wp2_with fail
          refine (HN1.out _).mono ?_
          rintro e w2 ⟨rfl, rfl⟩
          go_wp2
          go_ret
          exact ⟨by rw [HR.out]; rfl, HB.out⟩
        | true =>
          rw [show (decide ((1 : Int) ≤ ((ps.getD k ByteArray.empty).size : Int)) && decide (((ps.getD k ByteArray.empty).size : Int) ≤ 3)) = true by rw [← hz]; congr 1 <;> (apply decide_eq_decide.2; omega)] at hn
          have HN1 := Lib.hid hn
          clear hn
          by_cases h0 : 0 < k
          · obtain ⟨j, rfl⟩ : ∃ j, k = j + 1 := ⟨k - 1, by omega⟩
            have hc0 := hst j (by omega)
            have g0 : decide ((0 : Int) < ((j + 1 : Nat) : Int)) = true := by rw [decide_eq_true_eq]; omega
            have j0 : (0 : Int) ≤ (j : Int) := by omega
            have j1 : (j : Int) < (ps.length : Int) := by omega
            have j2 : (j : Int) + 1 < (ps.length : Int) := by omega
            have j3 : (0 : Int) ≤ (j : Int) + 1 := by omega
            cases hle : decide ((ps.getD j ByteArray.empty).data.toList < (ps.getD (j + 1) ByteArray.empty).data.toList) with
            | false =>
              have HR := Lib.hid (isShift_not hlt (show okAt L ps (j + 1) = false by unfold okAt; rw [Nat.add_sub_cancel, hle]; simp))
              rw [← ba_less] at hle
              generalize ps.getD j ByteArray.empty = z at *
              generalize ps.getD (j + 1) ByteArray.empty = y at *
              clear hz hi
              go_wp2_with fail
              refine (HW1.out _).mono ?_
              rintro e w1 ⟨rfl, rfl⟩
              go_wp2_with fail
              refine (HN1.out _).mono ?_
              rintro e w2 ⟨rfl, rfl⟩
              go_wp2
              go_ret
              exact ⟨by rw [HR.out]; rfl, HB.out⟩
            | true =>
              have HT := Lib.hid (hto.out.next (show okAt L ps (j + 1) = true by unfold okAt; rw [Nat.add_sub_cancel, hle, hi, hz]; simp))
              rw [← ba_less] at hle
              generalize ps.getD j ByteArray.empty = z at *
              generalize ps.getD (j + 1) ByteArray.empty = y at *
              clear hz hi
              go_wp2_with fail
              refine (HW1.out _).mono ?_
              rintro e w1 ⟨rfl, rfl⟩
              go_wp2_with fail
              refine (HN1.out _).mono ?_
              rintro e w2 ⟨rfl, rfl⟩
              go_wp2
              go_round
              case rel => exact ⟨j + 2, by omega, by go_num, HT⟩
              case measure => simp [intOf]; omega
          · obtain rfl : k = 0 := by omega
            rw [Nat.add_zero] at hc
            have HT := Lib.hid (hto.out.next (show okAt L ps 0 = true by unfold okAt; rw [hi, hz]; simp))
            have i1 : (0 : Int) < (ps.length : Int) := by omega
            generalize ps.getD 0 ByteArray.empty = y at *
            clear hz hi
            go_wp2_with fail
            refine (HW1.out _).mono ?_
            rintro e w1 ⟨rfl, rfl⟩
            go_wp2_with fail
            refine (HN1.out _).mono ?_
            rintro e w2 ⟨rfl, rfl⟩
            go_wp2
            go_round
            case rel => exact ⟨1, by omega, by go_num, HT⟩
            case measure => simp [intOf]; omega
    · obtain rfl : k = ps.length := by omega
      have HE := Lib.hid (isShift_end hto.out)
      go_wp2_with fail
      refine (HL.out _).mono ?_
      rintro e w1 ⟨rfl, rfl⟩
      cases hx : (decide (1 ≤ L) && decide (L ≤ 3)) with
      | false =>
        go_wp2
        go_ret
        exact ⟨by rw [HE.out, hx]; rfl, HB.out⟩
      | true =>
        have e8 : decide ((ps.length : Int) ≤ 8) = decide (ps.length ≤ 8) := decide_eq_decide.2 (by omega)
        go_wp2
        go_ret
        exact ⟨by rw [HE.out, hx, Bool.true_and, ← e8]; first | rfl | (rw [e8]; rfl), HB.out⟩
set_option maxRecDepth 100000 in
set_option maxHeartbeats 800000 in
theorem spec_avoids (G : Option Addr) (c : Nat) (ps : List ByteArray) (s : ByteArray) (hl : ps.length ≤ 1048576) (hz : ∀ k, k < ps.length → (ps.getD k ByteArray.empty).size ≤ 2147483648) (hs2 : s.size ≤ 2147483648) (w : World) (hs : StrsG w G ps) :
    Calls Try.prog 39 #[.slice G ps.length c, .string s] w fun e w' => e = .returned (.bool (avoids ps s)) ∧ w' = w := by
  have HS := Lib.hid hs
  have HO := Lib.hid (fun k hk w' => spec_occurs s (ps.getD k ByteArray.empty) hs2 (hz k hk) w')
  clear hs hz
  go_enter Try.func39, Try.ntmps39
  go_wp2
  go_loop [5] (fun i => ∃ k : Nat, k ≤ ps.length ∧ i = .int .i64 k ∧ Hid (AvoidTo ps s k)) (fun i => ps.length - (intOf i).toNat)
  case atStart => exact ⟨0, Nat.zero_le _, rfl, Lib.hid (fun j h => by omega)⟩
  case round =>
    obtain ⟨k, hk, rfl, hto⟩ := hrel
    by_cases hlt : k < ps.length
    · obtain ⟨bg, og, rfl, hst, _⟩ := HS.out (by omega)
      have hc := hst k hlt
      have ho := HO.out k hlt
      cases hx : occ s (ps.getD k ByteArray.empty) with
      | true =>
        rw [hx] at ho
        have HR := Lib.hid (avoids_not hlt (show Lib.contains s.data.toList (ps.getD k ByteArray.empty).data.toList = true from hx))
        have HO1 := Lib.hid ho
        generalize ps.getD k ByteArray.empty = y at *
        clear ho hx
        go_wp2_with fail
        refine (HO1.out _).mono ?_
        rintro e w1 ⟨rfl, rfl⟩
        go_wp2
        go_ret
        exact ⟨by rw [HR.out]; rfl, rfl⟩
      | false =>
        rw [hx] at ho
        have HT := Lib.hid (hto.out.next (show Lib.contains s.data.toList (ps.getD k ByteArray.empty).data.toList = false from hx))
        have HO1 := Lib.hid ho
        generalize ps.getD k ByteArray.empty = y at *
        clear ho hx
        go_wp2_with fail
        refine (HO1.out _).mono ?_
        rintro e w1 ⟨rfl, rfl⟩
        go_wp2
        go_round
        case rel => exact ⟨k + 1, by omega, by go_num, HT⟩
        case measure => simp [intOf]; omega
    · obtain rfl : k = ps.length := by omega
      have HE := Lib.hid (avoids_end hto.out)
      go_wp2
      go_ret
      exact ⟨by rw [HE.out]; rfl, rfl⟩

end Go.Proofs.Ytalclebehbdliaa
namespace Go.Proofs.Ytalclebehbdliaa
open Go Go.RowKit

/-- A block holds a shift. -/
def BoxAt (w : World) (g : Nat) (L : Int) (V : Value) : Prop := w.cell? ⟨g, 0, none⟩ = some (.int .i64 L) ∧ w.cell? ⟨g, 1, none⟩ = some V
theorem BoxAt.below {w w' : World} {g B : Nat} {L : Int} {V : Value} (h : BoxAt w g L V) (hb : Below B w w') (hg : g < B) : BoxAt w' g L V :=
  ⟨(hb.cell (p := ⟨g, 0, none⟩) hg).trans h.1, (hb.cell (p := ⟨g, 1, none⟩) hg).trans h.2⟩
theorem boxAt_new (w : World) (L : Int) (V : Value) (t : TypeId) : BoxAt (w.alloc (.cells #[.int .i64 L, V] t)) w.heap.size L V := ⟨by simp, by simp⟩
theorem below_after {w w1 w2 : World} (h : Below w.heap.size w w1) (k : Below w1.heap.size w1 w2) : Below w.heap.size w w2 := h.trans (k.mono h.size)

/-- What a function of a shift answers at its copies, in every world behind W in which nothing that was there has turned. -/
def AtCopies (W : World) (f : Nat) (L : Int) (xs : List ByteArray) (b : Bool) : Prop :=
  ∀ g c w', Below W.heap.size W w' → xs.length ≤ 1048576 → total xs ≤ 1048576 → StrsAt w' g 0 xs → g < w'.heap.size → Calls Try.prog f #[.agg #[.int .i64 L, .slice (some ⟨g, 0, none⟩) xs.length c]] w' (BoolPost b w')

end Go.Proofs.Ytalclebehbdliaa
namespace Go.Proofs.Ytalclebehbdliaa
open Go Go.RowKit

def SizeSh (ps : List ByteArray) : Prop := ps.length ≤ 1048576 ∧ ∀ k, k < ps.length → (ps.getD k ByteArray.empty).size ≤ 2147483648
def ShV (w : World) (v : Value) (L : Int) (ps : List ByteArray) : Prop := ∃ G c, v = .agg #[.int .i64 L, .slice G ps.length c] ∧ StrsG w G ps
theorem ShV.below {w w' : World} {v : Value} {L : Int} {ps : List ByteArray} (h : ShV w v L ps) (hb : Below w.heap.size w w') : ShV w' v L ps := by
  obtain ⟨G, c, hv, hs⟩ := h
  exact ⟨G, c, hv, hs.below hb⟩
/-- The list lies in memory of its own. -/
def OwnSh (w : World) (B : Nat) (v : Value) (L : Int) (ps : List ByteArray) : Prop := ∃ G c, v = .agg #[.int .i64 L, .slice G ps.length c] ∧ w.ownsRow B 9 1 (.slice G ps.length c) ps.length (ps.map Value.string)
theorem strsG_of_owns {w : World} {B c : Nat} {G : Option Addr} {ps : List ByteArray} (h : w.ownsRow B 9 1 (.slice G ps.length c) ps.length (ps.map Value.string)) : StrsG w G ps := fun h0 => by
  obtain ⟨g, c2, hv, _, _⟩ := World.ownsRow.form h h0
  simp only [Value.slice.injEq, true_and] at hv
  obtain ⟨rfl, rfl⟩ := hv
  exact ⟨g, 0, rfl, StrsAt.of_owns h rfl, (h.lt g rfl).2⟩
theorem OwnSh.shV {w : World} {B : Nat} {v : Value} {L : Int} {ps : List ByteArray} (h : OwnSh w B v L ps) : ShV w v L ps := by
  obtain ⟨G, c, hv, ho⟩ := h
  exact ⟨G, c, hv, strsG_of_owns ho⟩
theorem OwnSh.mono {w : World} {B B' : Nat} {v : Value} {L : Int} {ps : List ByteArray} (h : OwnSh w B v L ps) (hB : B' ≤ B) : OwnSh w B' v L ps := by
  obtain ⟨G, c, hv, ho⟩ := h
  exact ⟨G, c, hv, World.ownsRow.mono ho hB⟩
/-- A shift, new, and whether there is one. -/
def NewShB (o : Option (Int × List ByteArray)) (w : World) (e : Ending) (w' : World) : Prop := ∃ v, e = .returned (.tuple #[v, .bool o.isSome]) ∧ OwnSh w' w.heap.size v (o.getD (0, [])).1 (o.getD (0, [])).2 ∧ Below w.heap.size w w'
theorem ownSh_nil (w : World) (B : Nat) (L : Int) : OwnSh w B (.agg #[.int .i64 L, .slice none 0 0]) L [] := ⟨none, 0, rfl, World.ownsRow_nil w B 9 1⟩
theorem sh_stores {W : World} {h : Nat} {x y x' y' : Value} {t : TypeId} (hk : W.heap[h]? = some (.cells #[x, y] t (0, 0))) :
    ((W.setCell ⟨h, 0, none⟩ x').setCell ⟨h, 1, none⟩ y').heap[h]? = some (.cells #[x', y'] t (0, 0)) := by
  have m2 := heap_setCell_same W h 0 _ _ x' hk
  have m3 := heap_setCell_same _ h 1 _ _ y' m2
  rw [m3]; rfl
theorem sh_cells {W : World} {h : Nat} {x y : Value} {t : TypeId} (hk : W.heap[h]? = some (.cells #[x, y] t (0, 0))) :
    W.cell? ⟨h, 0, none⟩ = some x ∧ W.cell? ⟨h, 1, none⟩ = some y ∧ ∀ j, W.frozen? ⟨h, j, none⟩ = false :=
  ⟨by simp [World.cell?, hk], by simp [World.cell?, hk], fun j => by simp [World.frozen?, hk]⟩
section
variable {P : Program}
theorem results_sh {fn : Func} {p u : Tmp} {ty : TypeId} (h : fn.results = #[.cell p ty, .tmp u]) (tmps : Array Value) (w : World) (g : Nat) (t : TypeId) (cs : Array Value) (fr : Nat × Nat) (d : TypeDesc)
    (hp : tmps.getD p undef = .pointer (some ⟨g, 0, none⟩)) (hg : w.heap[g]? = some (.cells cs t fr))
    (hu : P.underlying ty = some d) (hd : (match d with | .struct _ | .array _ _ => true | _ => false) = true) (hi : (P.info? ty).map (·.size) = some cs.size) :
    (results fn tmps).run P w = .ok (.tuple #[.agg cs, tmps.getD u undef]) w := by
  have hp' : tmps[p]?.getD undef = .pointer (some ⟨g, 0, none⟩) := by simpa using hp
  simp [results, h, hp', asAddr, run_loadVar_row w g t ty cs fr d hg hu hd hi]
end
/-- The list stays its own when a shift's block below it is written. -/
theorem owns_stores {w : World} {B h : Nat} {v x y : Value} {n : Nat} {xs : List Value} (ho : w.ownsRow B 9 1 v n xs) (hh : h < B) : ((w.setCell ⟨h, 0, none⟩ x).setCell ⟨h, 1, none⟩ y).ownsRow B 9 1 v n xs :=
  ownsRow_setCell_below (ownsRow_setCell_below ho (a := ⟨h, 0, none⟩) hh x) (a := ⟨h, 1, none⟩) hh y
theorem below_stores {B : Nat} {w w' : World} (hb : Below B w w') {h : Nat} (hh : B ≤ h) (x y : Value) : Below B w ((w'.setCell ⟨h, 0, none⟩ x).setCell ⟨h, 1, none⟩ y) :=
  (hb.setCell (p := ⟨h, 0, none⟩) hh x).setCell (p := ⟨h, 1, none⟩) hh y
end Go.Proofs.Ytalclebehbdliaa
namespace Go.Proofs.Ytalclebehbdliaa
open Go Go.RowKit

/-! ### Tables -/

def rowOk (n : Nat) (r : List Int) : Bool := decide (r.length = n) && r.all fun x => decide (0 ≤ x ∧ x ≤ 1000000)
def isMat (m : List (List Int)) : Bool := (m.all (rowOk m.length)) && decide (1 ≤ m.length ∧ m.length ≤ 9)
def cellOf (m : List (List Int)) (i j : Nat) : Int := (m.getD i []).getD j 0
theorem rowOk_iff {n : Nat} {r : List Int} : rowOk n r = true ↔ r.length = n ∧ ∀ k, k < r.length → 0 ≤ r.getD k 0 ∧ r.getD k 0 ≤ 1000000 := by
  unfold rowOk
  rw [Bool.and_eq_true, decide_eq_true_iff, List.all_eq_true]
  constructor
  · rintro ⟨h1, h2⟩
    refine ⟨h1, fun k hk => ?_⟩
    have := h2 r[k] (List.getElem_mem hk)
    simp only [decide_eq_true_eq] at this
    simpa [List.getD, hk] using this
  · rintro ⟨h1, h2⟩
    refine ⟨h1, fun x hx => ?_⟩
    obtain ⟨k, hk, rfl⟩ := List.getElem_of_mem hx
    have := h2 k hk
    simp only [decide_eq_true_eq]
    simpa [List.getD, hk] using this
theorem isMat_iff {m : List (List Int)} : isMat m = true ↔ (1 ≤ m.length ∧ m.length ≤ 9) ∧ ∀ i, i < m.length → (m.getD i []).length = m.length ∧ ∀ j, j < m.length → 0 ≤ cellOf m i j ∧ cellOf m i j ≤ 1000000 := by
  unfold isMat
  rw [Bool.and_eq_true, decide_eq_true_iff, List.all_eq_true, and_comm]
  refine and_congr_right fun _ => ⟨fun h i hi => ?_, fun h r hr => ?_⟩
  · have := rowOk_iff.1 (h m[i] (List.getElem_mem hi))
    have e : m.getD i [] = m[i] := by simp [List.getD, hi]
    unfold cellOf
    rw [e]
    exact ⟨this.1, fun j hj => this.2 j (by rw [this.1]; exact hj)⟩
  · obtain ⟨i, hi, rfl⟩ := List.getElem_of_mem hr
    have e : m.getD i [] = m[i] := by simp [List.getD, hi]
    have := h i hi
    unfold cellOf at this
    rw [e] at this
    exact rowOk_iff.2 ⟨this.1, fun k hk => this.2 k (by rw [← this.1]; exact hk)⟩

/-- f 0 + .. + f (n - 1). -/
def sumTo : Nat → (Nat → Int) → Int
  | 0, _ => 0
  | n + 1, f => sumTo n f + f n
theorem sumTo_congr {f g : Nat → Int} : ∀ (n : Nat), (∀ k, k < n → f k = g k) → sumTo n f = sumTo n g
  | 0, _ => rfl
  | n + 1, h => by rw [sumTo, sumTo, sumTo_congr n (fun k hk => h k (by omega)), h n (by omega)]
theorem sumTo_le {f : Nat → Int} {B : Int} : ∀ (n : Nat), (∀ k, k < n → 0 ≤ f k ∧ f k ≤ B) → 0 ≤ sumTo n f ∧ sumTo n f ≤ n * B
  | 0, _ => ⟨Int.le_refl _, by simp [sumTo]⟩
  | n + 1, h => by
    obtain ⟨h1, h2⟩ := sumTo_le n (fun k hk => h k (by omega))
    obtain ⟨h3, h4⟩ := h n (by omega)
    rw [sumTo]
    refine ⟨by omega, ?_⟩
    have : ((n + 1 : Nat) : Int) * B = n * B + B := by rw [Int.natCast_succ, Int.add_mul, Int.one_mul]
    omega
/-- A table by its numbers. -/
def tabOf (n m : Nat) (f : Nat → Nat → Int) : List (List Int) := (List.range n).map fun i => (List.range m).map (f i)
theorem tabOf_length (n m : Nat) (f : Nat → Nat → Int) : (tabOf n m f).length = n := by simp [tabOf]
theorem tabOf_row {n m : Nat} {f : Nat → Nat → Int} {i : Nat} (hi : i < n) : (tabOf n m f).getD i [] = (List.range m).map (f i) := by simp [tabOf, List.getD, hi]
theorem tabOf_cell {n m : Nat} {f : Nat → Nat → Int} {i j : Nat} (hi : i < n) (hj : j < m) : cellOf (tabOf n m f) i j = f i j := by
  unfold cellOf
  rw [tabOf_row hi]
  simp [List.getD, hj]
theorem tabOf_congr {n m : Nat} {f g : Nat → Nat → Int} (h : ∀ i j, i < n → j < m → f i j = g i j) : tabOf n m f = tabOf n m g := by
  unfold tabOf
  refine List.map_congr_left fun i hi => List.map_congr_left fun j hj => ?_
  exact h i j (List.mem_range.1 hi) (List.mem_range.1 hj)
theorem tabOf_self {m : List (List Int)} {n : Nat} (h : ∀ i, i < m.length → (m.getD i []).length = n) : tabOf m.length n (cellOf m) = m := by
  refine List.ext_getElem (tabOf_length _ _ _) fun i h1 h2 => ?_
  have hr := h i h2
  have e : m.getD i [] = m[i] := by simp [List.getD, h2]
  have e1 : (tabOf m.length n (cellOf m))[i] = (List.range n).map (cellOf m i) := by simp [tabOf]
  rw [e1]
  rw [e] at hr
  refine List.ext_getElem (by simp [hr]) fun j k1 k2 => ?_
  simp [cellOf, List.getD, h2, k2]
def mulM (a b : List (List Int)) : List (List Int) := tabOf a.length b.length fun i j => sumTo b.length fun k => cellOf a i k * cellOf b k j
def oneM (n : Nat) : List (List Int) := tabOf n n fun i j => if i = j then 1 else 0
def turnM (m : List (List Int)) : List (List Int) := tabOf m.length m.length fun i j => cellOf m j i
/-- The product of two matrices, where there is one. -/
def prodM (a b : List (List Int)) : Option (List (List Int)) := if isMat a && isMat b && decide (a.length = b.length) && isMat (mulM a b) then some (mulM a b) else none
/-- The products of k times m, made one after the other. -/
def powM (m : List (List Int)) : Nat → Option (List (List Int))
  | 0 => some (oneM m.length)
  | k + 1 => (powM m k).bind fun p => prodM p m
def traceM (m : List (List Int)) : Int := if isMat m then sumTo m.length fun k => cellOf m k k else -1
def sumM (m : List (List Int)) : Int := if isMat m then sumTo m.length fun i => sumTo m.length fun j => cellOf m i j else -1

theorem prodM_some {a b c : List (List Int)} (h : prodM a b = some c) : isMat a = true ∧ isMat b = true ∧ a.length = b.length ∧ isMat c = true ∧ c = mulM a b := by
  unfold prodM at h
  split at h
  · next hc =>
    rw [Bool.and_eq_true, Bool.and_eq_true, Bool.and_eq_true, decide_eq_true_iff] at hc
    obtain ⟨⟨⟨h1, h2⟩, h3⟩, h4⟩ := hc
    obtain rfl := Option.some.inj h
    exact ⟨h1, h2, h3, h4, rfl⟩
  · cases h
theorem oneM_isMat {n : Nat} (h1 : 1 ≤ n) (h2 : n ≤ 9) : isMat (oneM n) = true := by
  have hl : (oneM n).length = n := tabOf_length _ _ _
  refine isMat_iff.2 ⟨by omega, fun i hi => ⟨?_, fun j hj => ?_⟩⟩
  · rw [hl] at hi
    unfold oneM; rw [tabOf_row hi, List.length_map, List.length_range, tabOf_length]
  · rw [hl] at hi hj
    unfold oneM
    rw [tabOf_cell hi hj]
    split <;> omega
theorem powM_length {m : List (List Int)} : ∀ (k : Nat) {p : List (List Int)}, powM m k = some p → p.length = m.length
  | 0, p, h => by
    obtain rfl := Option.some.inj h
    exact tabOf_length _ _ _
  | k + 1, p, h => by
    rw [powM] at h
    obtain ⟨q, hq, hp⟩ := Option.bind_eq_some_iff.1 h
    obtain ⟨_, _, h3, _, rfl⟩ := prodM_some hp
    unfold mulM
    rw [tabOf_length, powM_length k hq]
theorem powM_isMat {m : List (List Int)} (hm : isMat m = true) : ∀ (k : Nat) {p : List (List Int)}, powM m k = some p → isMat p = true
  | 0, p, h => by
    obtain rfl := Option.some.inj h
    obtain ⟨⟨h1, h2⟩, _⟩ := isMat_iff.1 hm
    exact oneM_isMat h1 h2
  | k + 1, p, h => by
    rw [powM] at h
    obtain ⟨q, hq, hp⟩ := Option.bind_eq_some_iff.1 h
    exact (prodM_some hp).2.2.2.1
theorem powM_stuck {m : List (List Int)} {k : Nat} (h : powM m k = none) : ∀ (n : Nat), k ≤ n → powM m n = none := by
  intro n hn
  induction n with
  | zero => obtain rfl : k = 0 := by omega
            exact h
  | succ n ih =>
    by_cases hk : k = n + 1
    · subst hk; exact h
    · rw [powM, ih (by omega)]; rfl
end Go.Proofs.Ytalclebehbdliaa
namespace Go.Proofs.Ytalclebehbdliaa
open Go Go.RowKit

/-- From ⟨b, off⟩ on the cells hold the numbers xs. -/
def IntsAt (w : World) (b off : Nat) (xs : List Int) : Prop := ∀ k, k < xs.length → w.cell? ⟨b, off + k, none⟩ = some (.int .i64 (xs.getD k 0))
theorem IntsAt.below {B b off : Nat} {w w' : World} {xs : List Int} (h : IntsAt w b off xs) (hb : Below B w w') (hlt : b < B) : IntsAt w' b off xs :=
  fun k hk => (hb.cell (p := ⟨b, off + k, none⟩) hlt).trans (h k hk)
theorem IntsAt.of_owns {w : World} {base e g n cap : Nat} {xs : List Int} (h : w.ownsRow base e 1 (.slice (some ⟨g, 0, none⟩) n cap) n (xs.map (Value.int .i64))) (hn : n = xs.length) : IntsAt w g 0 xs := by
  intro k hk
  rw [Nat.zero_add, h.cellAt k (by omega)]
  simp [List.getD, List.getElem?_eq_getElem hk]
/-- The slice A holds the numbers xs. -/
def RowS (w : World) (A : Option Addr) (xs : List Int) : Prop := 0 < xs.length → ∃ b off, A = some ⟨b, off, none⟩ ∧ IntsAt w b off xs ∧ b < w.heap.size
theorem RowS.below {w w' : World} {A : Option Addr} {xs : List Int} (h : RowS w A xs) (hb : Below w.heap.size w w') : RowS w' A xs := by
  intro hp
  obtain ⟨b, off, hA, hs, hg⟩ := h hp
  exact ⟨b, off, hA, hs.below hb hg, Nat.lt_of_lt_of_le hg hb.size⟩
/-- From ⟨b, off⟩ on the cells hold slices, each of a row of m. -/
def GridAt (w : World) (b off : Nat) (m : List (List Int)) : Prop := ∀ k, k < m.length → ∃ A c, w.cell? ⟨b, off + k, none⟩ = some (.slice A (m.getD k []).length c) ∧ RowS w A (m.getD k [])
theorem GridAt.below {b off : Nat} {w w' : World} {m : List (List Int)} (h : GridAt w b off m) (hb : Below w.heap.size w w') (hlt : b < w.heap.size) : GridAt w' b off m := by
  intro k hk
  obtain ⟨A, c, hc, hr⟩ := h k hk
  exact ⟨A, c, (hb.cell (p := ⟨b, off + k, none⟩) hlt).trans hc, hr.below hb⟩
/-- The slice A holds the table m. -/
def GridS (w : World) (A : Option Addr) (m : List (List Int)) : Prop := 0 < m.length → ∃ b off, A = some ⟨b, off, none⟩ ∧ GridAt w b off m ∧ b < w.heap.size
theorem GridS.below {w w' : World} {A : Option Addr} {m : List (List Int)} (h : GridS w A m) (hb : Below w.heap.size w w') : GridS w' A m := by
  intro hp
  obtain ⟨b, off, hA, hs, hg⟩ := h hp
  exact ⟨b, off, hA, hs.below hb hg, Nat.lt_of_lt_of_le hg hb.size⟩
theorem GridS.nil (w : World) (A : Option Addr) : GridS w A [] := fun h => by simp at h
/-- Row k of a table in memory. -/
theorem GridS.row {w : World} {A : Option Addr} {m : List (List Int)} (h : GridS w A m) {k : Nat} (hk : k < m.length) :
    ∃ b off A' c, A = some ⟨b, off, none⟩ ∧ w.cell? ⟨b, off + k, none⟩ = some (.slice A' (m.getD k []).length c) ∧ RowS w A' (m.getD k []) ∧ b < w.heap.size := by
  obtain ⟨b, off, hA, hs, hg⟩ := h (by omega)
  obtain ⟨A', c, hc, hr⟩ := hs k hk
  exact ⟨b, off, A', c, hA, hc, hr, hg⟩

/-- How many numbers a table has. -/
def tot (m : List (List Int)) : Nat := (m.map List.length).sum
theorem rows_take_next (m : List (List Int)) (k : Nat) (h : k < m.length) : m.take (k + 1) = m.take k ++ [m.getD k []] := by
  rw [List.take_succ_eq_append_getElem h]
  simp [List.getD, List.getElem?_eq_getElem h]
theorem tot_next (m : List (List Int)) (k : Nat) (h : k < m.length) : tot (m.take (k + 1)) = tot (m.take k) + (m.getD k []).length := by
  rw [rows_take_next m k h]; simp [tot]
theorem tot_take_le (m : List (List Int)) (k : Nat) : tot (m.take k) ≤ tot m := by
  have h2 : tot (m.take k ++ m.drop k) = tot (m.take k) + tot (m.drop k) := by simp only [tot, List.map_append, List.sum_append]
  rw [List.take_append_drop] at h2
  omega
theorem row_le_tot {m : List (List Int)} {k : Nat} (h : k < m.length) : (m.getD k []).length ≤ tot m := by
  have := tot_next m k h
  have := tot_take_le m (k + 1)
  omega
theorem tot_all {m : List (List Int)} {k : Nat} (h : m.length ≤ k) : tot (m.take k) = tot m := by rw [List.take_of_length_le h]

/-- Of what was there only blocks from B on and below S have turned. -/
structure Within (B S : Nat) (w w' : World) : Prop where
  os : w'.os = w.os
  tape : w'.tape = w.tape
  output : w'.output = w.output
  size : w.heap.size ≤ w'.heap.size
  block : ∀ k, k < w.heap.size → k < B ∨ S ≤ k → w'.heap[k]? = w.heap[k]?
namespace Within
variable {B S : Nat} {w w' w'' : World}
theorem refl (B S : Nat) (w : World) : Within B S w w := ⟨rfl, rfl, rfl, Nat.le_refl _, fun _ _ _ => rfl⟩
theorem trans (h : Within B S w w') (k : Within B S w' w'') : Within B S w w'' :=
  ⟨k.os.trans h.os, k.tape.trans h.tape, k.output.trans h.output, Nat.le_trans h.size k.size, fun j hj hn => (k.block j (Nat.lt_of_lt_of_le hj h.size) hn).trans (h.block j hj hn)⟩
theorem mono {B' S' : Nat} (h : Within B S w w') (hB : B' ≤ B) (hS : S ≤ S') : Within B' S' w w' :=
  ⟨h.os, h.tape, h.output, h.size, fun k hk hn => h.block k hk (by omega)⟩
theorem of_grown {r : Option Nat} (h : w.grownBy w' r) (hr : ∀ g, r = some g → B ≤ g ∧ g < S) : Within B S w w' :=
  ⟨h.os, h.tape, h.output, h.size, fun k hk hn => h.block k hk (by
    intro e
    have := hr k e.symm
    omega)⟩
theorem of_below (h : Below w.heap.size w w') : Within B S w w' := ⟨h.os, h.tape, h.output, h.size, fun k hk _ => h.block k hk⟩
theorem below (h : Within B S w w') (hB : B ≤ w.heap.size) : Below B w w' := ⟨h.os, h.tape, h.output, h.size, fun k hk => h.block k (by omega) (Or.inl hk)⟩
theorem cell (h : Within B S w w') {p : Addr} (hp : p.block < B ∨ S ≤ p.block) (hl : p.block < w.heap.size) : w'.cell? p = w.cell? p := by
  have hb := h.block p.block hl hp
  unfold World.cell?
  rw [hb]
theorem ints (h : Within B S w w') {b off : Nat} {xs : List Int} (hi : IntsAt w b off xs) (hb : b < w.heap.size) (hn : b < B ∨ S ≤ b) : IntsAt w' b off xs :=
  fun k hk => (h.cell (p := ⟨b, off + k, none⟩) hn hb).trans (hi k hk)
end Within
end Go.Proofs.Ytalclebehbdliaa
namespace Go.Proofs.Ytalclebehbdliaa
open Go Go.RowKit

theorem infoInt : (Try.prog.info? 3).map (fun i => (i.zero, i.size, i.bytes)) = some (some (.int .i64 0), 1, 8) := by kernel_rfl
theorem infoSl : (Try.prog.info? 49).map (fun i => (i.zero, i.size, i.bytes)) = some (some (.slice none 0 0), 1, 24) := by kernel_rfl

def TrueBelowG (w : World) (e : Ending) (w' : World) : Prop := e = .returned (.bool true) ∧ Below w.heap.size w w'
/-- What is left of the limit, or -1. -/
def LeftPost (L : Int) (n : Nat) (w : World) (e : Ending) (w' : World) : Prop := ∃ r : Int, e = .returned (.int .i64 r) ∧ (r = -1 ∨ (0 ≤ r ∧ r + n = L)) ∧ w' = w

/-- What is left of the limit behind a table, or -1. -/
def SzGPost (L : Int) (m : List (List Int)) (w : World) (e : Ending) (w' : World) : Prop := ∃ r : Int, e = .returned (.int .i64 r) ∧ (r = -1 ∨ (0 ≤ r ∧ r + m.length + tot m = L)) ∧ w' = w

/-- A row that is being filled from the front. -/
def filledI (xs : List Int) (k n : Nat) : List Value := (xs.take k).map (Value.int .i64) ++ List.replicate (n - k) (.int .i64 0)
theorem filledI_none (xs : List Int) (n : Nat) : filledI xs 0 n = List.replicate n (.int .i64 0) := by simp [filledI]
theorem filledI_all (xs : List Int) : filledI xs xs.length xs.length = xs.map (Value.int .i64) := by simp [filledI]
theorem ints_take_next (xs : List Int) (k : Nat) (h : k < xs.length) : xs.take (k + 1) = xs.take k ++ [xs.getD k 0] := by
  rw [List.take_succ_eq_append_getElem h]
  simp [List.getD, List.getElem?_eq_getElem h]
theorem filledI_set (xs : List Int) (k : Nat) (h : k < xs.length) : (filledI xs k xs.length).set k (.int .i64 (xs.getD k 0)) = filledI xs (k + 1) xs.length := by
  have hl : ((xs.take k).map (Value.int .i64)).length = k := by simp; omega
  have hr : List.replicate (xs.length - k) (Value.int .i64 0) = .int .i64 0 :: List.replicate (xs.length - (k + 1)) (.int .i64 0) := by
    rw [show xs.length - k = (xs.length - (k + 1)) + 1 by omega, List.replicate_succ]
  unfold filledI
  rw [ints_take_next xs k h, List.map_append, hr]
  rw [List.set_append_right _ _ (by omega), hl, Nat.sub_self]
  simp
theorem filledI_at (xs : List Int) (k : Nat) (h : k < xs.length) : (filledI xs k xs.length)[k]? = some (.int .i64 0) := by
  have hl : ((xs.take k).map (Value.int .i64)).length = k := by simp; omega
  unfold filledI
  rw [List.getElem?_append_right (by omega), hl, Nat.sub_self]
  rw [List.getElem?_replicate, if_pos (by omega)]

/-- A copy in new memory, at the heap's end. -/
def CopyIPost (xs : List Int) (w : World) (e : Ending) (w' : World) : Prop :=
  e = .returned (.slice (some ⟨w.heap.size, 0, none⟩) xs.length xs.length) ∧ w'.ownsRow w.heap.size 3 1 (.slice (some ⟨w.heap.size, 0, none⟩) xs.length xs.length) xs.length (xs.map (Value.int .i64)) ∧ Below w.heap.size w w' ∧ w.heap.size < w'.heap.size

set_option maxRecDepth 100000 in
set_option maxHeartbeats 800000 in
theorem same_ints (A1 A2 : Option Addr) (c1 c2 : Nat) (xs : List Int) (hn : xs.length ≤ 1099511627776) (w : World) (h1 : RowS w A1 xs) (h2 : RowS w A2 xs) :
    Calls Try.prog 42 #[.slice A1 xs.length c1, .slice A2 xs.length c2] w (TrueBelowG w) := by
  have H1 := Lib.hid h1
  have H2 := Lib.hid h2
  clear h1 h2
  go_enter Try.func42, Try.ntmps42
  go_wp2
  go_loopw [5] (fun i wr => ∃ k q : Nat, k ≤ xs.length ∧ i = .int .i64 k ∧ wr = w.drewN q) (fun i _ => xs.length - (intOf i).toNat)
  case atStart => exact ⟨0, 0, Nat.zero_le _, rfl, rfl⟩
  case round =>
    obtain ⟨k, q, hk, rfl, rfl⟩ := hrel
    by_cases hlt : k < xs.length
    · obtain ⟨b1, o1, rfl, s1, _⟩ := H1.out (by omega)
      obtain ⟨b2, o2, rfl, s2, _⟩ := H2.out (by omega)
      have ha := s1 k hlt
      have hb := s2 k hlt
      clear s1 s2
      generalize xs.getD k 0 = x at ha hb
      go_wp2
      go_quiet (fail)
      go_wp2
      go_roundw
      case rel => exact ⟨k + 1, q + nq, by omega, by go_num, rfl⟩
      case measure => simp [intOf]; omega
    · obtain rfl : k = xs.length := by omega
      go_wp2
      go_ret
      exact ⟨rfl, below_drewN (Below.refl _ _) _⟩
end Go.Proofs.Ytalclebehbdliaa
namespace Go.Proofs.Ytalclebehbdliaa
open Go Go.RowKit

/-- The values vs are slices of the rows of m, each in a block of its own from B on, none in the block ob. -/
structure RowsOwn (w : World) (B : Nat) (ob : Option Nat) (vs : List Value) (m : List (List Int)) : Prop where
  len : vs.length = m.length
  row : ∀ (k : Nat) (r : Value), vs[k]? = some r → w.ownsRow B 3 1 r (m.getD k []).length ((m.getD k []).map (Value.int .i64)) ∧ (r.ownBlock = none ∨ r.ownBlock ≠ ob)
  two : ∀ (j k : Nat) (r s : Value), j < k → vs[j]? = some r → vs[k]? = some s → r.ownBlock = none ∨ r.ownBlock ≠ s.ownBlock
namespace RowsOwn
variable {w w' : World} {B : Nat} {ob : Option Nat} {vs : List Value} {m : List (List Int)}
theorem nil (w : World) (B : Nat) (ob : Option Nat) : RowsOwn w B ob [] [] := ⟨rfl, fun k r h => by simp at h, fun j k r s _ h => by simp at h⟩
theorem kept (h : RowsOwn w B ob vs m) {o : Option Nat} (hg : w.grownBy w' o) (hne : ∀ (k : Nat) (r : Value), vs[k]? = some r → r.ownBlock = none ∨ r.ownBlock ≠ o) : RowsOwn w' B ob vs m :=
  ⟨h.len, fun k r hk => ⟨(h.row k r hk).1.kept hg (hne k r hk), (h.row k r hk).2⟩, h.two⟩
theorem keptOuter (h : RowsOwn w B ob vs m) (hg : w.grownBy w' ob) : RowsOwn w' B ob vs m := h.kept hg fun k r hk => (h.row k r hk).2
theorem lt (h : RowsOwn w B ob vs m) {k : Nat} {r : Value} (hk : vs[k]? = some r) : ∀ g, r.ownBlock = some g → B ≤ g ∧ g < w.heap.size := (h.row k r hk).1.lt
theorem below (h : RowsOwn w B ob vs m) (hb : Below w.heap.size w w') : RowsOwn w' B ob vs m :=
  h.kept (o := none) ⟨hb.os, hb.tape, hb.output, hb.size, fun j hj _ => hb.block j hj⟩ fun k r _ => by
    cases e : r.ownBlock with
    | none => exact Or.inl rfl
    | some g => exact Or.inr (by intro h; cases h)
/-- The outer block has moved to new memory. -/
theorem moved (h : RowsOwn w B ob vs m) {ob' : Option Nat} (hn : ob' = ob ∨ ∀ g, ob' = some g → w.heap.size ≤ g) : RowsOwn w B ob' vs m := by
  refine ⟨h.len, fun k r hk => ⟨(h.row k r hk).1, ?_⟩, h.two⟩
  rcases hn with rfl | hn
  · exact (h.row k r hk).2
  · cases e : r.ownBlock with
    | none => exact Or.inl rfl
    | some g =>
      refine Or.inr fun e2 => ?_
      have := hn g e2.symm
      have := (h.lt hk g e).2
      omega
theorem push (h : RowsOwn w B ob vs m) {r : Value} {xs : List Int} (hr : w.ownsRow B 3 1 r xs.length (xs.map (Value.int .i64))) (h1 : r.ownBlock = none ∨ r.ownBlock ≠ ob)
    (h2 : ∀ (k : Nat) (s : Value), vs[k]? = some s → s.ownBlock = none ∨ s.ownBlock ≠ r.ownBlock) : RowsOwn w B ob (vs ++ [r]) (m ++ [xs]) := by
  have hl := h.len
  refine ⟨by simp [hl], fun k s hk => ?_, fun j k s t hjk hj hk => ?_⟩
  · by_cases hlt : k < vs.length
    · rw [List.getElem?_append_left hlt] at hk
      have e : (m ++ [xs]).getD k [] = m.getD k [] := by simp [List.getD, List.getElem?_append_left (show k < m.length by omega)]
      rw [e]
      exact h.row k s hk
    · have hk2 : k = vs.length := by
        have := (List.getElem?_eq_some_iff.1 hk).1
        simp at this; omega
      subst hk2
      rw [List.getElem?_append_right (Nat.le_refl _), Nat.sub_self] at hk
      obtain rfl : r = s := by simpa using hk
      have e : (m ++ [xs]).getD vs.length [] = xs := by simp [List.getD, hl]
      rw [e]
      exact ⟨hr, h1⟩
  · by_cases hlt : k < vs.length
    · rw [List.getElem?_append_left hlt] at hk
      rw [List.getElem?_append_left (by omega)] at hj
      exact h.two j k s t hjk hj hk
    · have hk2 : k = vs.length := by
        have := (List.getElem?_eq_some_iff.1 hk).1
        simp at this; omega
      subst hk2
      rw [List.getElem?_append_right (Nat.le_refl _), Nat.sub_self] at hk
      obtain rfl : r = t := by simpa using hk
      rw [List.getElem?_append_left hjk] at hj
      exact h2 j s hj
/-- One row has turned. -/
theorem setRow (h : RowsOwn w B ob vs m) {k : Nat} {r : Value} (hk : vs[k]? = some r) {xs : List Int} (hx : xs.length = (m.getD k []).length) (hr : w'.ownsRow B 3 1 r xs.length (xs.map (Value.int .i64))) (hg : w.grownBy w' r.ownBlock) : RowsOwn w' B ob vs (m.set k xs) := by
  have hl := h.len
  have hkl := (List.getElem?_eq_some_iff.1 hk).1
  refine ⟨by simp [hl], fun j s hj => ?_, h.two⟩
  have hjl := (List.getElem?_eq_some_iff.1 hj).1
  by_cases hjk : j = k
  · subst hjk
    obtain rfl : r = s := by rw [hk] at hj; exact Option.some.inj hj
    have e : (m.set j xs).getD j [] = xs := by simp [List.getD, show j < m.length by omega]
    rw [e]
    exact ⟨hr, (h.row j r hk).2⟩
  · have e : (m.set k xs).getD j [] = m.getD j [] := by simp [List.getD, List.getElem?_set_ne (Ne.symm hjk)]
    rw [e]
    refine ⟨(h.row j s hj).1.kept hg ?_, (h.row j s hj).2⟩
    by_cases hlt : j < k
    · exact h.two j k s r hlt hj hk
    · rcases h.two k j r s (by omega) hk hj with e1 | e1
      · cases e2 : s.ownBlock with
        | none => exact Or.inl rfl
        | some g => exact Or.inr (by rw [e1]; intro h; cases h)
      · exact Or.inr (Ne.symm e1)
end RowsOwn

/-- A table in memory of the call's own, each row in a block of its own. -/
def OwnG (w : World) (B : Nat) (v : Value) (m : List (List Int)) : Prop := ∃ vs, w.ownsRow B 49 1 v m.length vs ∧ RowsOwn w B v.ownBlock vs m
theorem OwnG.below {w w' : World} {B : Nat} {v : Value} {m : List (List Int)} (h : OwnG w B v m) (hb : Below w.heap.size w w') : OwnG w' B v m := by
  obtain ⟨vs, ho, hr⟩ := h
  refine ⟨vs, ho.kept (row := none) ⟨hb.os, hb.tape, hb.output, hb.size, fun j hj _ => hb.block j hj⟩ ?_, hr.below hb⟩
  cases e : v.ownBlock with
  | none => exact Or.inl rfl
  | some g => exact Or.inr (by intro h; cases h)
theorem OwnG.mono {w : World} {B B' : Nat} {v : Value} {m : List (List Int)} (h : OwnG w B v m) (hB : B' ≤ B) : OwnG w B' v m := by
  obtain ⟨vs, ho, hr⟩ := h
  exact ⟨vs, World.ownsRow.mono ho hB, ⟨hr.len, fun k r hk => ⟨World.ownsRow.mono (hr.row k r hk).1 hB, (hr.row k r hk).2⟩, hr.two⟩⟩
/-- What an owned row of numbers reads as. -/
theorem rowS_of_owns {w : World} {B : Nat} {r : Value} {xs : List Int} (h : w.ownsRow B 3 1 r xs.length (xs.map (Value.int .i64))) : ∃ A c, r = .slice A xs.length c ∧ RowS w A xs := by
  rcases h.2 with ⟨rfl, h0⟩ | ⟨g, cap, cur, rfl, _, _, _⟩
  · exact ⟨none, 0, by rw [h0], fun hp => by omega⟩
  · exact ⟨some ⟨g, 0, none⟩, cap, rfl, fun _ => ⟨g, 0, rfl, IntsAt.of_owns h rfl, (h.lt g rfl).2⟩⟩
theorem OwnG.gridS {w : World} {B : Nat} {v : Value} {m : List (List Int)} (h : OwnG w B v m) : ∃ A c, v = .slice A m.length c ∧ GridS w A m := by
  obtain ⟨vs, ho, hr⟩ := h
  rcases ho.2 with ⟨rfl, h0⟩ | ⟨g, cap, cur, rfl, _, _, _⟩
  · exact ⟨none, 0, by rw [h0], fun hp => by omega⟩
  · refine ⟨some ⟨g, 0, none⟩, cap, rfl, fun _ => ⟨g, 0, rfl, fun k hk => ?_, (ho.lt g rfl).2⟩⟩
    have hl := hr.len
    have hk' : vs[k]? = some vs[k] := List.getElem?_eq_getElem (by omega)
    obtain ⟨A, c, e, hs⟩ := rowS_of_owns (hr.row k _ hk').1
    refine ⟨A, c, ?_, hs⟩
    rw [Nat.zero_add, ho.cellAt k (by omega), hk', e]
theorem OwnG.drew {w : World} {B : Nat} {v : Value} {m : List (List Int)} (h : OwnG w B v m) : OwnG w.drew B v m := by
  obtain ⟨vs, ho, hr⟩ := h
  exact ⟨vs, ho, ⟨hr.len, hr.row, hr.two⟩⟩
/-- The same, the rows in blocks below S. -/
def OwnIn (w : World) (B S : Nat) (v : Value) (m : List (List Int)) : Prop := ∃ vs, w.ownsRow B 49 1 v m.length vs ∧ RowsOwn w B v.ownBlock vs m ∧ ∀ (k : Nat) (r : Value) (g : Nat), vs[k]? = some r → r.ownBlock = some g → g < S
theorem OwnG.ownIn {w : World} {B : Nat} {v : Value} {m : List (List Int)} (h : OwnG w B v m) : OwnIn w B w.heap.size v m := by
  obtain ⟨vs, ho, hr⟩ := h
  exact ⟨vs, ho, hr, fun k r g hk hg => (hr.lt hk g hg).2⟩
theorem OwnIn.ownG {w : World} {B S : Nat} {v : Value} {m : List (List Int)} (h : OwnIn w B S v m) : OwnG w B v m := by
  obtain ⟨vs, ho, hr, _⟩ := h
  exact ⟨vs, ho, hr⟩
theorem OwnIn.below {w w' : World} {B S : Nat} {v : Value} {m : List (List Int)} (h : OwnIn w B S v m) (hb : Below w.heap.size w w') : OwnIn w' B S v m := by
  obtain ⟨vs, ho, hr, hs⟩ := h
  refine ⟨vs, ho.kept (row := none) ⟨hb.os, hb.tape, hb.output, hb.size, fun j hj _ => hb.block j hj⟩ ?_, hr.below hb, hs⟩
  cases e : v.ownBlock with
  | none => exact Or.inl rfl
  | some g => exact Or.inr (by intro h; cases h)
theorem slice_of_owns {w : World} {B e n : Nat} {r : Value} {xs : List Value} (h : w.ownsRow B e 1 r n xs) : ∃ A c, r = .slice A n c := by
  rcases h.2 with ⟨rfl, h0⟩ | ⟨g, cap, cur, rfl, _⟩
  · exact ⟨none, 0, by rw [h0]⟩
  · exact ⟨_, cap, rfl⟩
/-- A table of which one row has turned. -/
theorem OwnG.setRow {w w' : World} {B g cap N : Nat} {m : List (List Int)} {vs : List Value} (ho : w.ownsRow B 49 1 (.slice (some ⟨g, 0, none⟩) N cap) N vs) (hr : RowsOwn w B (some g) vs m) {k : Nat} {r : Value} (hk : vs[k]? = some r)
    {xs : List Int} (hx : xs.length = (m.getD k []).length) (hr' : w'.ownsRow B 3 1 r xs.length (xs.map (Value.int .i64))) (hg : w.grownBy w' r.ownBlock) :
    w'.ownsRow B 49 1 (.slice (some ⟨g, 0, none⟩) N cap) N vs ∧ RowsOwn w' B (some g) vs (m.set k xs) := by
  refine ⟨ho.kept hg ?_, hr.setRow hk hx hr' hg⟩
  rcases (hr.row k r hk).2 with e | e
  · rw [e]; exact Or.inr (by intro h; cases h)
  · exact Or.inr (Ne.symm e)
end Go.Proofs.Ytalclebehbdliaa
namespace Go.Proofs.Ytalclebehbdliaa
open Go Go.RowKit

/-- A row that is new has been put behind the others. -/
theorem own_append {w0 w w3 : World} {B gg cap : Nat} {v r : Value} {vs : List Value} {m : List (List Int)} {xs : List Int} (hO : w0.ownsRow B 49 1 v m.length vs) (hR : RowsOwn w0 B v.ownBlock vs m) (hb : Below w0.heap.size w0 w)
    (hr : w.ownsRow B 3 1 r xs.length (xs.map (Value.int .i64))) (hf : ∀ g, r.ownBlock = some g → w0.heap.size ≤ g)
    (ho3 : w3.ownsRow B 49 1 (.slice (some ⟨gg, 0, none⟩) (m.length + 1) cap) (m.length + 1) (vs ++ [r])) (hg3 : w.grownBy w3 v.ownBlock) (hat : v.ownBlock = some gg ∨ gg = w.heap.size) :
    RowsOwn w3 B (some gg) (vs ++ [r]) (m ++ [xs]) := by
  have hv := hO.lt
  have hrl := hr.lt
  have hbs := hb.size
  have hR1 := hR.below hb
  have hgg : ∀ g, r.ownBlock = some g → g ≠ gg := by
    intro g hg e
    rcases hat with h | h
    · have := (hv gg h).2
      have := hf g hg
      omega
    · have := (hrl g hg).2
      omega
  have hne : r.ownBlock = none ∨ r.ownBlock ≠ v.ownBlock := by
    cases e : r.ownBlock with
    | none => exact Or.inl rfl
    | some g =>
      refine Or.inr fun h => ?_
      have := (hv g h.symm).2
      have := hf g e
      omega
  have hR2 : RowsOwn w3 B (some gg) vs m := by
    have h1 : RowsOwn w B (some gg) vs m := by
      refine ⟨hR1.len, fun k s hk => ⟨(hR1.row k s hk).1, ?_⟩, hR1.two⟩
      cases e : s.ownBlock with
      | none => exact Or.inl rfl
      | some g =>
        refine Or.inr fun h => ?_
        obtain rfl := Option.some.inj h
        rcases hat with h2 | h2
        · rcases (hR.row k s hk).2 with h3 | h3
          · rw [e] at h3; cases h3
          · exact h3 (e.trans h2.symm)
        · have := (hR1.lt hk _ e).2
          omega
    exact h1.kept hg3 fun k s hk => (hR1.row k s hk).2
  refine hR2.push (hr.kept hg3 hne) ?_ fun k s hk => ?_
  · cases e : r.ownBlock with
    | none => exact Or.inl rfl
    | some g => exact Or.inr fun h => hgg g e (Option.some.inj h)
  · cases e : s.ownBlock with
    | none => exact Or.inl rfl
    | some g =>
      refine Or.inr fun h => ?_
      have := (hR.lt hk g e).2
      have := hf g h.symm
      omega
/-- Number j of row i: where it lies, and what the table is once another number has been put there. -/
theorem OwnG.at {w : World} {B : Nat} {v : Value} {m : List (List Int)} (h : OwnG w B v m) {i j : Nat} (hi : i < m.length) (hj : j < (m.getD i []).length) :
    ∃ g cap gi ci, v = .slice (some ⟨g, 0, none⟩) m.length cap ∧ w.cell? ⟨g, i, none⟩ = some (.slice (some ⟨gi, 0, none⟩) (m.getD i []).length ci) ∧ w.cell? ⟨gi, j, none⟩ = some (.int .i64 (cellOf m i j)) ∧ w.frozen? ⟨gi, j, none⟩ = false ∧ B ≤ gi ∧ gi < w.heap.size ∧
      ∀ x : Int, OwnG (w.setCell ⟨gi, j, none⟩ (.int .i64 x)) B v (m.set i ((m.getD i []).set j x)) := by
  obtain ⟨vs, ho, hr⟩ := h
  rcases ho.2 with ⟨_, h0⟩ | ⟨g, cap, cur, rfl, _⟩
  · omega
  have hl := hr.len
  have hv : vs[i]? = some vs[i] := List.getElem?_eq_getElem (by omega)
  obtain ⟨h1, h2⟩ := hr.row i _ hv
  rcases h1.2 with ⟨_, h0⟩ | ⟨gi, ci, cur2, he, _⟩
  · omega
  rw [he] at hv h1 h2
  have hc : w.cell? ⟨gi, j, none⟩ = some (.int .i64 (cellOf m i j)) := by
    rw [h1.cellAt j (by omega), List.getElem?_map, List.getElem?_eq_getElem hj]
    simp [cellOf, List.getD, hi]
    have e : m[i]? = some m[i] := List.getElem?_eq_getElem hi
    simp [List.getD, e] at hj
    rw [List.getElem?_eq_getElem hj]; rfl
  refine ⟨g, cap, gi, ci, rfl, ?_, hc, h1.frozenAt j, (h1.lt gi rfl).1, (h1.lt gi rfl).2, fun x => ?_⟩
  · rw [ho.cellAt i (by omega), hv]
  · have hst := h1.stored j (.int .i64 x)
    have e1 : ((m.getD i []).map (Value.int .i64)).set j (.int .i64 x) = ((m.getD i []).set j x).map (Value.int .i64) := by rw [List.map_set]
    rw [e1] at hst
    have hs2 := OwnG.setRow ho hr hv (xs := (m.getD i []).set j x) (by simp) (by rw [List.length_set]; exact hst.1) hst.2
    exact ⟨vs, by rw [List.length_set]; exact hs2.1, hs2.2⟩

theorem tabOf_next (n m : Nat) (f : Nat → Nat → Int) : tabOf (n + 1) m f = tabOf n m f ++ [(List.range m).map (f n)] := by
  unfold tabOf
  rw [List.range_succ, List.map_append]; rfl
theorem tabOf_set {n m i j : Nat} (f : Nat → Nat → Int) (x : Int) (hi : i < n) : (tabOf n m f).set i (((tabOf n m f).getD i []).set j x) = tabOf n m fun a b => if a = i ∧ b = j then x else f a b := by
  rw [tabOf_row hi]
  refine List.ext_getElem (by simp [tabOf]) fun a h1 h2 => ?_
  have ha : a < n := by simpa [tabOf] using h2
  rw [List.getElem_set]
  by_cases e : i = a
  · subst e
    rw [if_pos rfl]
    refine List.ext_getElem (by simp [tabOf]) fun b k1 k2 => ?_
    simp [tabOf, List.getElem_set]
    by_cases e2 : j = b
    · subst e2; simp
    · rw [if_neg e2, if_neg (Ne.symm e2)]
  · rw [if_neg e]
    simp [tabOf, Ne.symm e]
theorem replicate_zero (n : Nat) : List.replicate n (Value.int .i64 0) = ((List.range n).map fun _ => (0 : Int)).map (Value.int .i64) := by
  induction n with
  | zero => rfl
  | succ n ih => rw [List.range_succ, List.map_append, List.map_append, ← ih, List.replicate_succ']; rfl

theorem made_ints {w : World} {B g m : Nat} (h : w.ownsRow B 3 1 (.slice (some ⟨g, 0, none⟩) m m) m (madeCells (Value.int .i64 0).cells (m * 1)).toList) :
    w.ownsRow B 3 1 (.slice (some ⟨g, 0, none⟩) m m) m (((List.range m).map fun _ => (0 : Int)).map (Value.int .i64)) := by
  have e : (madeCells (Value.int .i64 0).cells (m * 1)).toList = List.replicate m (.int .i64 0) := by rw [Nat.mul_one]; exact toList_madeCells_one _ _
  rw [e, replicate_zero] at h
  exact h
theorem kept_alloc {w w1 : World} {B n e : Nat} {v : Value} {vs : List Value} (h : w.ownsRow B e 1 v n vs) (hg : w.grownBy w1 none) (o : Obj) : (w1.alloc o).ownsRow B e 1 v n vs := by
  refine World.ownsRow.alloc (h.kept hg ?_) o
  cases e : v.ownBlock with
  | none => exact Or.inl rfl
  | some g => exact Or.inr (by intro h; cases h)
theorem kept_below {w w1 : World} {B n e : Nat} {v : Value} {vs : List Value} (h : w.ownsRow B e 1 v n vs) (hb : Below w.heap.size w w1) : w1.ownsRow B e 1 v n vs := by
  refine h.kept (row := none) ⟨hb.os, hb.tape, hb.output, hb.size, fun j hj _ => hb.block j hj⟩ ?_
  cases e : v.ownBlock with
  | none => exact Or.inl rfl
  | some g => exact Or.inr (by intro h; cases h)
theorem grown_below {w w' : World} (h : w.grownBy w' none) : Below w.heap.size w w' := ⟨h.os, h.tape, h.output, h.size, fun k hk => h.block k hk (by intro h; cases h)⟩
theorem zero_next {w wr w1 w3 : World} {k m gg cap : Nat} {v : Value} {vs : List Value} {o : Obj} (hB : Below w.heap.size w wr) (hO : wr.ownsRow w.heap.size 49 1 v (tabOf k m fun _ _ => 0).length vs) (hR : RowsOwn wr w.heap.size v.ownBlock vs (tabOf k m fun _ _ => 0))
    (hg1 : wr.grownBy w1 none) (hW : w1.ownsRow w.heap.size 3 1 (.slice (some ⟨wr.heap.size, 0, none⟩) m m) m (((List.range m).map fun _ => (0 : Int)).map (Value.int .i64))) (hs1 : wr.heap.size < w1.heap.size)
    (ho3 : w3.ownsRow w.heap.size 49 1 (.slice (some ⟨gg, 0, none⟩) ((tabOf k m fun _ _ => 0).length + 1) cap) ((tabOf k m fun _ _ => 0).length + 1) (vs ++ [.slice (some ⟨wr.heap.size, 0, none⟩) m m])) (hg3 : (w1.alloc o).grownBy w3 v.ownBlock) (hat : v.ownBlock = some gg ∨ gg = w1.heap.size + 1) :
    w3.ownsRow w.heap.size 49 1 (.slice (some ⟨gg, 0, none⟩) ((tabOf k m fun _ _ => 0).length + 1) cap) (tabOf (k + 1) m fun _ _ => 0).length (vs ++ [.slice (some ⟨wr.heap.size, 0, none⟩) m m]) ∧
    RowsOwn w3 w.heap.size (Value.slice (some ⟨gg, 0, none⟩) ((tabOf k m fun _ _ => 0).length + 1) cap).ownBlock (vs ++ [.slice (some ⟨wr.heap.size, 0, none⟩) m m]) (tabOf (k + 1) m fun _ _ => 0) ∧ Below w.heap.size w w3 := by
  have hb1 : Below wr.heap.size wr (w1.alloc o) := (grown_below hg1).alloc (by omega) o
  have hl : ((List.range m).map fun _ => (0 : Int)).length = m := by simp
  refine ⟨by rw [tabOf_next, List.length_append]; exact ho3, ?_, ?_⟩
  · rw [tabOf_next]
    refine own_append (w := w1.alloc o) (cap := cap) hO hR hb1 ?_ (fun g hg => ?_) ho3 hg3 ?_
    · rw [hl]; exact World.ownsRow.alloc hW o
    · have : wr.heap.size = g := Option.some.inj hg
      omega
    · rw [World.size_alloc]; exact hat
  · have hb2 := hB.trans (hb1.mono hB.size)
    refine hb2.grown hg3 (by have := hb2.size; omega) (fun q hq => ?_)
    exact (hO.lt q hq).1
/-- A new table. -/
def NewG (m : List (List Int)) (w : World) (e : Ending) (w' : World) : Prop := ∃ v, e = .returned v ∧ OwnG w' w.heap.size v m ∧ Below w.heap.size w w'

set_option maxRecDepth 100000 in
set_option maxHeartbeats 1600000 in
theorem spec_zero (n m : Nat) (hn : n ≤ 1048576) (hm : m ≤ 1048576) (w : World) :
    Calls Try.prog 38 #[.int .i64 n, .int .i64 m] w (NewG (tabOf n m fun _ _ => 0) w) := by
  obtain ⟨i0, hi, hz0, hz1, hz2⟩ := info_parts infoSl
  obtain ⟨j0, hj, hy0, hy1, hy2⟩ := info_parts infoInt
  go_enter Try.func38, Try.ntmps38
  have hmade := World.ownsRow_made (base := w.heap.size) (e := 49) (size := 1) w #[] 0 (Nat.le_refl _) (by unfold maxLen; omega) rfl
  have HM0 := Lib.hid hmade
  clear hmade
  go_wp2
  go_loopw [5, 6] (fun v i wr => ∃ (k : Nat) (vs : List Value), k ≤ n ∧ i = .int .i64 k ∧ wr.ownsRow w.heap.size 49 1 v (tabOf k m fun _ _ => 0).length vs ∧ RowsOwn wr w.heap.size v.ownBlock vs (tabOf k m fun _ _ => 0) ∧ Below w.heap.size w wr) (fun _ i _ => n - (intOf i).toNat)
  case atStart => exact ⟨0, [], Nat.zero_le _, rfl, HM0.out, RowsOwn.nil _ _ _, (Below.refl _ _).alloc (Nat.le_refl _) _⟩
  case round =>
    obtain ⟨k, vs, hk, rfl, hO, hR, hbl⟩ := hrel
    by_cases hlt : k < n
    · have HO := Lib.hid hO
      have HR := Lib.hid hR
      have HB := Lib.hid hbl
      have hsz := hbl.size
      clear hO hR hbl
      go_wp2_with (first | (at_make; refine wpList_make_full _ rfl _ _ 49 rfl w.heap.size 3 j0 (.int .i64 0) 1 Try.underlying49 hj hy0 hy1 .i64 .i64 _ _ m rfl rfl rfl rfl (by rw [hy2]; omega) (by unfold maxLen; omega) hsz ?_; intro w1 hown hgrow; have HW1 := Lib.hid (made_ints hown); have HG1 := Lib.hid hgrow; have hs1 : wr.heap.size < w1.heap.size := (hown.lt _ rfl).2; clear hown hgrow) | (at_builtin; refine wpList_append_lies _ rfl (.tmp 13) (.tmp 16) 34 rfl w.heap.size 49 i0 (.slice none 0 0) 1 24 Try.underlying34 hi hz0 hz1 hz2 rfl (by decide) _ _ _ rfl (kept_alloc HO.out HG1.out _) ⟨w1.heap.size, 0, none⟩ 1 1 [.slice (some ⟨wr.heap.size, 0, none⟩) m m] rfl rfl (World.news_of_block (cs := #[.slice (some ⟨wr.heap.size, 0, none⟩) m m]) (t := 49) (fr := (0, 0)) (heap_alloc_new w1 _)) (by simp [Value.oneCell']) (by decide) (by rw [tabOf_length]; unfold maxLen; omega) (by rw [tabOf_length]; omega) (by simp; omega) (w1.heap.size + 1) (by simp) ?_; intro gg cap w3 ho3 hg3 hat hlt3; have HN := Lib.hid (zero_next HB.out HO.out HR.out HG1.out HW1.out hs1 ho3 hg3 hat); clear ho3 hg3 hat))
      go_roundw
      case rel => exact ⟨k + 1, _, by omega, by go_num, HN.out.1, HN.out.2.1, HN.out.2.2⟩
      case measure => simp [intOf]; omega
    · obtain rfl : k = n := by omega
      have HO := Lib.hid hO
      have HR := Lib.hid hR
      clear hO hR
      go_wp2
      go_ret
      exact ⟨_, rfl, ⟨vs, HO.out, HR.out⟩, hbl⟩
end Go.Proofs.Ytalclebehbdliaa
namespace Go.Proofs.Ytalclebehbdliaa
open Go Go.RowKit

theorem m_in (x lo hi : Int) (w : World) :
    Calls Try.prog 46 #[.int .i64 x, .int .i64 lo, .int .i64 hi] w fun e w' => e = .returned (.bool (decide (lo ≤ x) && decide (x ≤ hi))) ∧ w' = w := by
  go_enter Try.func46, Try.ntmps46
  cases h1 : decide (lo ≤ x) with
  | false => go_wp2; go_ret; exact ⟨rfl, rfl⟩
  | true => go_wp2; go_ret; exact ⟨rfl, rfl⟩

theorem isMat_not {m : List (List Int)} {k : Nat} (hk : k < m.length) (h : rowOk m.length (m.getD k []) = false) : isMat m = false := by
  unfold isMat
  have : m.all (rowOk m.length) = false := by
    rw [List.all_eq_false]
    refine ⟨m[k], List.getElem_mem hk, ?_⟩
    rw [show m[k] = m.getD k [] by simp [List.getD, hk], h]; simp
  rw [this]; rfl
theorem isMat_rows {m : List (List Int)} (h : ∀ j, j < m.length → rowOk m.length (m.getD j []) = true) : isMat m = (decide (1 ≤ (m.length : Int)) && decide ((m.length : Int) ≤ 9)) := by
  unfold isMat
  have : m.all (rowOk m.length) = true := by
    rw [List.all_eq_true]
    intro r hr
    obtain ⟨i, hi, rfl⟩ := List.getElem_of_mem hr
    have := h i hi
    simpa [List.getD, hi] using this
  rw [this, Bool.true_and]
  by_cases h1 : 1 ≤ m.length <;> by_cases h2 : m.length ≤ 9 <;> simp [h1, h2] <;> omega
theorem rowOk_short {n : Nat} {r : List Int} (h : ¬ r.length = n) : rowOk n r = false := by unfold rowOk; simp [h]
theorem rowOk_bad {n k : Nat} {r : List Int} (hk : k < r.length) (h : (decide ((0 : Int) ≤ r.getD k 0) && decide (r.getD k 0 ≤ 1000000)) = false) : rowOk n r = false := by
  cases e : rowOk n r with
  | false => rfl
  | true =>
    have := (rowOk_iff.1 e).2 k hk
    rw [decide_eq_true this.1, decide_eq_true this.2] at h
    cases h

theorem take_same_next {xs ys : List Int} {k : Nat} (h : xs.take k = ys.take k) (h1 : k < xs.length) (h2 : k < ys.length) (he : xs.getD k 0 = ys.getD k 0) : xs.take (k + 1) = ys.take (k + 1) := by
  rw [ints_take_next xs k h1, ints_take_next ys k h2, h, he]
theorem rows_same_next {a b : List (List Int)} {k : Nat} (h : a.take k = b.take k) (h1 : k < a.length) (h2 : k < b.length) (he : a.getD k [] = b.getD k []) : a.take (k + 1) = b.take (k + 1) := by
  rw [rows_take_next a k h1, rows_take_next b k h2, h, he]
theorem lists_same {α : Type} {xs ys : List α} {n : Nat} (h : xs.take n = ys.take n) (h1 : xs.length = n) (h2 : ys.length = n) : xs = ys := by
  rwa [List.take_of_length_le (by omega), List.take_of_length_le (by omega)] at h

def BelowBool (b : Bool) (w : World) (e : Ending) (w' : World) : Prop := e = .returned (.bool b) ∧ Below w.heap.size w w'

/-- A matrix: at most nine rows, each as long, its numbers from 0 to a million. -/
structure MatFacts (m : List (List Int)) : Prop where
  pos : 1 ≤ m.length
  le : m.length ≤ 9
  row : ∀ i, i < m.length → (m.getD i []).length = m.length
  cell : ∀ i j, i < m.length → j < m.length → 0 ≤ cellOf m i j ∧ cellOf m i j ≤ 1000000
theorem isMat_facts {m : List (List Int)} (h : isMat m = true) : MatFacts m := by
  obtain ⟨⟨h1, h2⟩, h3⟩ := isMat_iff.1 h
  exact ⟨h1, h2, fun i hi => (h3 i hi).1, fun i j hi hj => (h3 i hi).2 j hj⟩
/-- A number of a matrix in memory. -/
theorem GridS.num {w : World} {A : Option Addr} {m : List (List Int)} (h : GridS w A m) {i j : Nat} (hi : i < m.length) (hj : j < (m.getD i []).length) :
    ∃ b off b2 off2 c', A = some ⟨b, off, none⟩ ∧ w.cell? ⟨b, off + i, none⟩ = some (.slice (some ⟨b2, off2, none⟩) (m.getD i []).length c') ∧ w.cell? ⟨b2, off2 + j, none⟩ = some (.int .i64 (cellOf m i j)) ∧ b < w.heap.size ∧ b2 < w.heap.size := by
  obtain ⟨b, off, A', c', hA, hc, hr, hb⟩ := h.row hi
  obtain ⟨b2, off2, rfl, hat, hb2⟩ := hr (by omega)
  exact ⟨b, off, b2, off2, c', hA, hc, hat j hj, hb, hb2⟩

end Go.Proofs.Ytalclebehbdliaa
namespace Go.Proofs.Ytalclebehbdliaa
open Go Go.RowKit

/-- The product's number at i and j, of its first t terms. -/
def termsM (a b : List (List Int)) (i j t : Nat) : Int := sumTo t fun k => cellOf a i k * cellOf b k j
/-- A product that is being made: all numbers ahead of i and j, and t terms there. -/
def timesF (a b : List (List Int)) (i j t : Nat) : Nat → Nat → Int := fun i' j' => if i' < i ∨ (i' = i ∧ j' < j) then termsM a b i' j' b.length else if i' = i ∧ j' = j then termsM a b i j t else 0
theorem timesF_zero (a b : List (List Int)) (n m : Nat) : tabOf n m (timesF a b 0 0 0) = tabOf n m fun _ _ => 0 := tabOf_congr fun i j _ _ => by
  unfold timesF termsM
  rw [if_neg (by omega)]
  split <;> rfl
theorem timesF_cell (a b : List (List Int)) (n m i j t : Nat) (hi : i < n) (hj : j < m) : cellOf (tabOf n m (timesF a b i j t)) i j = termsM a b i j t := by
  rw [tabOf_cell hi hj]
  unfold timesF
  rw [if_neg (by omega), if_pos ⟨rfl, rfl⟩]
theorem timesF_term (a b : List (List Int)) (n m i j t : Nat) (hi : i < n) : (tabOf n m (timesF a b i j t)).set i (((tabOf n m (timesF a b i j t)).getD i []).set j (termsM a b i j t + cellOf a i t * cellOf b t j)) = tabOf n m (timesF a b i j (t + 1)) := by
  rw [tabOf_set _ _ hi]
  refine tabOf_congr fun i' j' _ _ => ?_
  by_cases e : i' = i ∧ j' = j
  · obtain ⟨rfl, rfl⟩ := e
    rw [if_pos ⟨rfl, rfl⟩]
    unfold timesF
    rw [if_neg (by omega), if_pos ⟨rfl, rfl⟩]; rfl
  · rw [if_neg e]
    unfold timesF
    rw [if_neg e, if_neg e]
theorem timesF_next (a b : List (List Int)) (n m i j : Nat) : tabOf n m (timesF a b i j b.length) = tabOf n m (timesF a b i (j + 1) 0) := tabOf_congr fun i' j' _ _ => by
  unfold timesF
  by_cases h1 : i' < i ∨ (i' = i ∧ j' < j)
  · rw [if_pos h1, if_pos (by omega)]
  · rw [if_neg h1]
    by_cases h2 : i' = i ∧ j' = j
    · obtain ⟨rfl, rfl⟩ := h2
      rw [if_pos ⟨rfl, rfl⟩, if_pos (by omega)]
    · rw [if_neg h2, if_neg (by omega)]
      split <;> rfl
theorem timesF_row (a b : List (List Int)) (n m i : Nat) : tabOf n m (timesF a b i m 0) = tabOf n m (timesF a b (i + 1) 0 0) := tabOf_congr fun i' j' _ hj => by
  unfold timesF
  by_cases h1 : i' < i ∨ (i' = i ∧ j' < m)
  · rw [if_pos h1, if_pos (by omega)]
  · rw [if_neg h1, if_neg (by omega), if_neg (by omega)]
    split <;> rfl
theorem timesF_all (a b : List (List Int)) : tabOf a.length b.length (timesF a b a.length 0 0) = mulM a b := tabOf_congr fun i' j' hi _ => by
  unfold timesF termsM
  rw [if_pos (Or.inl hi)]
theorem termsM_le {a b : List (List Int)} (ha : MatFacts a) (hb : MatFacts b) (hab : a.length = b.length) {i j t : Nat} (hi : i < a.length) (hj : j < b.length) (ht : t ≤ b.length) : 0 ≤ termsM a b i j t ∧ termsM a b i j t ≤ t * 1000000000000 :=
  sumTo_le t fun k hk => by
    obtain ⟨x1, x2⟩ := ha.cell i k hi (by omega)
    obtain ⟨y1, y2⟩ := hb.cell k j (by omega) hj
    refine ⟨Int.mul_nonneg x1 y1, ?_⟩
    calc cellOf a i k * cellOf b k j ≤ 1000000 * cellOf b k j := Int.mul_le_mul_of_nonneg_right x2 y1
      _ ≤ 1000000 * 1000000 := Int.mul_le_mul_of_nonneg_left y2 (by decide)
theorem prod_le {x y : Int} (hx : 0 ≤ x ∧ x ≤ 1000000) (hy : 0 ≤ y ∧ y ≤ 1000000) : 0 ≤ x * y ∧ x * y ≤ 1000000000000 := by
  refine ⟨Int.mul_nonneg hx.1 hy.1, ?_⟩
  calc x * y ≤ 1000000 * y := Int.mul_le_mul_of_nonneg_right hx.2 hy.1
    _ ≤ 1000000 * 1000000 := Int.mul_le_mul_of_nonneg_left hy.2 (by decide)

set_option maxRecDepth 100000 in
set_option maxHeartbeats 3200000 in
theorem spec_times (A1 A2 : Option Addr) (c1 c2 : Nat) (a b : List (List Int)) (ha : MatFacts a) (hb : MatFacts b) (hab : a.length = b.length) (w : World) (h1 : GridS w A1 a) (h2 : GridS w A2 b) :
    Calls Try.prog 47 #[.slice A1 a.length c1, .slice A2 b.length c2, .int .i64 (b.length : Int)] w (NewG (mulM a b) w) := by
  have H1 := Lib.hid h1
  have H2 := Lib.hid h2
  have HA := Lib.hid ha
  have HBF := Lib.hid hb
  have HZ := Lib.hid (spec_zero a.length b.length (by have := ha.le; omega) (by have := hb.le; omega) w)
  have HL := Lib.hid hab
  have l1 := ha.le
  have l2 := hb.le
  clear h1 h2 ha hb hab
  go_enter Try.func47, Try.ntmps47
  go_wp2_with fail
  refine HZ.out.mono ?_
  rintro e w1 ⟨v, rfl, hown, b1⟩
  obtain ⟨A, c, rfl, -⟩ := hown.gridS
  rw [← timesF_zero a b] at hown
  rw [tabOf_length] at hown ⊢
  have HO := Lib.hid hown
  have HB1 := Lib.hid b1
  clear hown b1
  go_wp2
  go_loopw [8] (fun i wr => ∃ k : Nat, k ≤ a.length ∧ i = .int .i64 k ∧ OwnG wr w.heap.size (.slice A a.length c) (tabOf a.length b.length (timesF a b k 0 0)) ∧ Below w.heap.size w wr) (fun i _ => a.length - (intOf i).toNat)
  case atStart => exact ⟨0, Nat.zero_le _, rfl, HO.out, HB1.out⟩
  case round =>
    obtain ⟨i, hi, rfl, hown, hbl⟩ := hrel
    by_cases hil : i < a.length
    · have HO1 := Lib.hid hown
      have HB2 := Lib.hid hbl
      clear hown hbl
      go_wp2
      go_loopw [9] (fun jv w2 => ∃ j : Nat, j ≤ b.length ∧ jv = .int .i64 j ∧ OwnG w2 w.heap.size (.slice A a.length c) (tabOf a.length b.length (timesF a b i j 0)) ∧ Below w.heap.size w w2) (fun j _ => b.length - (intOf j).toNat)
      case atStart => exact ⟨0, Nat.zero_le _, rfl, HO1.out, HB2.out⟩
      case round =>
        obtain ⟨j, hj, rfl, hown, hbl⟩ := hrel
        by_cases hjl : j < b.length
        · have HO2 := Lib.hid hown
          have HB3 := Lib.hid hbl
          clear hown hbl
          go_wp2
          go_loopw [10] (fun tv w3 => ∃ t : Nat, t ≤ b.length ∧ tv = .int .i64 t ∧ OwnG w3 w.heap.size (.slice A a.length c) (tabOf a.length b.length (timesF a b i j t)) ∧ Below w.heap.size w w3) (fun t _ => b.length - (intOf t).toNat)
          case atStart => exact ⟨0, Nat.zero_le _, rfl, HO2.out, HB3.out⟩
          case round =>
            obtain ⟨t, ht, rfl, hown, hbl⟩ := hrel
            by_cases htl : t < b.length
            · have hrl : ((tabOf a.length b.length (timesF a b i j t)).getD i []).length = b.length := by rw [tabOf_row hil]; simp
              obtain ⟨g, cap, gi, ci, hv, k1, k2, kf, kb, kl, hset⟩ := hown.at (i := i) (j := j) (by rw [tabOf_length]; exact hil) (by rw [hrl]; exact hjl)
              rw [tabOf_length] at hv
              simp only [Value.slice.injEq, true_and] at hv
              obtain ⟨rfl, rfl⟩ := hv
              rw [hrl] at k1
              rw [timesF_cell a b _ _ i j t hil hjl] at k2
              obtain ⟨p1, p2, p3, p4, p5, rfl, ka1, ka2, _, _⟩ := (H1.out.below hbl).num hil (j := t) (by rw [HA.out.row i hil]; have := HL.out; omega)
              obtain ⟨q1, q2, q3, q4, q5, rfl, kb1, kb2, _, _⟩ := (H2.out.below hbl).num htl (j := j) (by rw [HBF.out.row t htl]; exact hjl)
              rw [HA.out.row i hil] at ka1
              rw [HBF.out.row t htl] at kb1
              have hs1 := hset (termsM a b i j t + cellOf a i t * cellOf b t j)
              rw [timesF_term a b _ _ i j t hil] at hs1
              have HS := Lib.hid hs1
              have hT := termsM_le HA.out HBF.out HL.out hil hjl (Nat.le_of_lt htl)
              have hxy := prod_le (HA.out.cell i t hil (by have := HL.out; omega)) (HBF.out.cell t j htl hjl)
              have HB4 := Lib.hid hbl
              have hta : t < a.length := by have := HL.out; omega
              clear hset hs1 hown hbl
              generalize termsM a b i j t = T at *
              generalize cellOf a i t = x at *
              generalize cellOf b t j = y at *
              have hT2 : T ≤ 9000000000000 := by omega
              go_wp2
              go_region
              go_wp2
              go_roundw
              case rel => exact ⟨t + 1, by omega, by go_num, HS.out.drew, (HB4.out.setCell kb _).drew⟩
              case measure => simp [intOf]; omega
            · obtain rfl : t = b.length := by omega
              rw [timesF_next] at hown
              have HO3 := Lib.hid hown
              clear hown
              go_wp2
              go_roundw
              case rel => exact ⟨j + 1, by omega, by go_num, HO3.out, hbl⟩
              case measure => simp [intOf]; omega
        · obtain rfl : j = b.length := by omega
          rw [timesF_row] at hown
          have HO3 := Lib.hid hown
          clear hown
          go_wp2
          go_roundw
          case rel => exact ⟨i + 1, by omega, by go_num, HO3.out, hbl⟩
          case measure => simp [intOf]; omega
    · obtain rfl : i = a.length := by omega
      rw [timesF_all] at hown
      have HO3 := Lib.hid hown
      clear hown
      go_wp2
      go_ret
      exact ⟨_, rfl, HO3.out, hbl⟩

/-- A table and whether there is one. -/
def NewGB (o : Option (List (List Int))) (w : World) (e : Ending) (w' : World) : Prop := ∃ v, e = .returned (.tuple #[v, .bool o.isSome]) ∧ OwnG w' w.heap.size v (o.getD []) ∧ Below w.heap.size w w'
theorem ownG_empty (w : World) : OwnG (w.alloc (.cells #[] 49)) w.heap.size (.slice (some ⟨w.heap.size, 0, none⟩) 0 0) [] := by
  have h := World.ownsRow_made (base := w.heap.size) (e := 49) (size := 1) w #[] 0 (Nat.le_refl _) (by unfold maxLen; omega) rfl
  exact ⟨[], h, RowsOwn.nil _ _ _⟩
theorem below_new {w : World} {o : Obj} : Below w.heap.size w (w.alloc o) := (Below.refl _ _).alloc (Nat.le_refl _) _
theorem prodM_none {a b : List (List Int)} (h : isMat a = false ∨ isMat b = false ∨ ¬ a.length = b.length) : prodM a b = none := by
  unfold prodM
  rw [if_neg]
  intro hc
  rw [Bool.and_eq_true, Bool.and_eq_true, Bool.and_eq_true, decide_eq_true_iff] at hc
  obtain ⟨⟨⟨h1, h2⟩, h3⟩, _⟩ := hc
  rcases h with h | h | h
  · rw [h] at h1; cases h1
  · rw [h] at h2; cases h2
  · exact h h3
theorem prodM_if {a b : List (List Int)} (h1 : isMat a = true) (h2 : isMat b = true) (h3 : a.length = b.length) : prodM a b = if isMat (mulM a b) = true then some (mulM a b) else none := by
  unfold prodM
  rw [h1, h2, decide_eq_true h3, Bool.true_and, Bool.true_and, Bool.true_and]
theorem mulM_length (a b : List (List Int)) : (mulM a b).length = a.length := tabOf_length _ _ _
theorem mulM_row {a b : List (List Int)} {k : Nat} (hk : k < (mulM a b).length) : ((mulM a b).getD k []).length = b.length := by
  rw [mulM_length] at hk
  unfold mulM
  rw [tabOf_row hk]; simp

end Go.Proofs.Ytalclebehbdliaa
namespace Go.Proofs.Ytalclebehbdliaa
open Go Go.RowKit

/-- The numbers f up to place j of row i, zeros behind. -/
def fillF (f : Nat → Nat → Int) (i j : Nat) : Nat → Nat → Int := fun a b => if a < i ∨ (a = i ∧ b < j) then f a b else 0
theorem fillF_zero (f : Nat → Nat → Int) (n : Nat) : tabOf n n (fillF f 0 0) = tabOf n n fun _ _ => 0 := tabOf_congr fun i j _ _ => by unfold fillF; rw [if_neg (by omega)]
theorem fillF_next (f : Nat → Nat → Int) (n i j : Nat) (hi : i < n) : (tabOf n n (fillF f i j)).set i (((tabOf n n (fillF f i j)).getD i []).set j (f i j)) = tabOf n n (fillF f i (j + 1)) := by
  rw [tabOf_set _ _ hi]
  refine tabOf_congr fun a b _ _ => ?_
  unfold fillF
  by_cases e : a = i ∧ b = j
  · obtain ⟨rfl, rfl⟩ := e
    rw [if_pos ⟨rfl, rfl⟩, if_pos (by omega)]
  · rw [if_neg e]
    by_cases h : a < i ∨ (a = i ∧ b < j)
    · rw [if_pos h, if_pos (by omega)]
    · rw [if_neg h, if_neg (by omega)]
theorem fillF_row (f : Nat → Nat → Int) (n i : Nat) : tabOf n n (fillF f i n) = tabOf n n (fillF f (i + 1) 0) := tabOf_congr fun a b _ hb => by
  unfold fillF
  by_cases h : a < i ∨ (a = i ∧ b < n)
  · rw [if_pos h, if_pos (by omega)]
  · rw [if_neg h, if_neg (by omega)]
theorem fillF_all (f : Nat → Nat → Int) (n : Nat) : tabOf n n (fillF f n 0) = tabOf n n f := tabOf_congr fun a b ha _ => by unfold fillF; rw [if_pos (by omega)]

theorem fillF_still (f : Nat → Nat → Int) (n i j : Nat) (h : f i j = 0) : tabOf n n (fillF f i (j + 1)) = tabOf n n (fillF f i j) := tabOf_congr fun a b _ _ => by
  unfold fillF
  by_cases e : a = i ∧ b = j
  · obtain ⟨rfl, rfl⟩ := e
    rw [if_pos (by omega), if_neg (by omega), h]
  · by_cases h2 : a < i ∨ (a = i ∧ b < j)
    · rw [if_pos h2, if_pos (by omega)]
    · rw [if_neg h2, if_neg (by omega)]
end Go.Proofs.Ytalclebehbdliaa
namespace Go.Proofs.Ytalclebehbdliaa
open Go Go.RowKit

/-! ### Parts of words -/
theorem contains_iff {s sub : List UInt8} : Lib.contains s sub = true ↔ sub <:+: s := by
  constructor
  · intro h
    by_cases hx : ∃ i, i + sub.length ≤ s.length ∧ Lib.occAt s sub i = true
    · obtain ⟨i, _, hi⟩ := hx
      unfold Lib.occAt at hi
      exact (List.isPrefixOf_iff_prefix.1 hi).isInfix.trans (List.drop_suffix i s).isInfix
    · have := contains_no (s := s) (sub := sub) (fun i hi => by
        rw [← Bool.not_eq_true]; exact fun ho => hx ⟨i, hi, ho⟩)
      rw [this] at h; cases h
  · rintro ⟨x, y, rfl⟩
    refine contains_yes (i := x.length) (by simp) ?_
    unfold Lib.occAt
    rw [List.isPrefixOf_iff_prefix, List.append_assoc, List.drop_left]
    exact List.prefix_append sub y
theorem avoids_part {ps : List ByteArray} {u v : ByteArray} (h : u.data.toList <:+: v.data.toList) (ha : avoids ps v = true) : avoids ps u = true := by
  unfold avoids at ha ⊢
  rw [List.all_eq_true] at ha ⊢
  intro f hf
  have := ha f hf
  cases hc : Lib.contains u.data.toList f.data.toList with
  | false => rfl
  | true => rw [contains_iff.2 ((contains_iff.1 hc).trans h)] at this; cases this
def pr (a b : UInt8) : ByteArray := ⟨#[a, b]⟩
def tri (a b c : UInt8) : ByteArray := ⟨#[a, b, c]⟩
/-- The byte at a place. -/
def ch (w : ByteArray) (i : Nat) : UInt8 := w.data.toList.getD i 0
theorem ch_lt (w : ByteArray) (i : Nat) (h : i < w.size) : ch w i = w[i] := by
  unfold ch
  rw [List.getD_eq_getElem?_getD, List.getElem?_eq_getElem (by exact h), Option.getD_some]; rfl
theorem list2 {l : List UInt8} (h : l.length = 2) : ∃ a b, l = [a, b] := by
  match l, h with
  | [a, b], _ => exact ⟨a, b, rfl⟩
theorem list3 {l : List UInt8} (h : l.length = 3) : ∃ a b c, l = [a, b, c] := by
  match l, h with
  | [a, b, c], _ => exact ⟨a, b, c, rfl⟩
theorem is_pr {w : ByteArray} (h : w.size = 2) : ∃ a b, w = pr a b := by
  obtain ⟨a, b, e⟩ := list2 (l := w.data.toList) h
  exact ⟨a, b, ba_ext e⟩
theorem is_tri {w : ByteArray} (h : w.size = 3) : ∃ a b c, w = tri a b c := by
  obtain ⟨a, b, c, e⟩ := list3 (l := w.data.toList) h
  exact ⟨a, b, c, ba_ext e⟩
theorem pr_inj {a b c d : UInt8} (h : pr a b = pr c d) : a = c ∧ b = d := by
  have : [a, b] = [c, d] := congrArg (fun w : ByteArray => w.data.toList) h
  simpa using this

theorem getD_mem {ps : List ByteArray} {k : Nat} (h : k < ps.length) : ps.getD k ByteArray.empty ∈ ps := by
  rw [List.getD_eq_getElem?_getD, List.getElem?_eq_getElem h]; exact List.getElem_mem h

/-! ### All words of a length -/
theorem isL_letter {k j : Nat} (hk : k ≤ 3) (hj : j < k) : isL (k : Int) (UInt8.ofNat (97 + j)) = true := by
  have e : (UInt8.ofNat (97 + j)).toNat = 97 + j := by rw [UInt8.toNat_ofNat']; omega
  unfold isL
  rw [e, Bool.and_eq_true, decide_eq_true_eq, decide_eq_true_eq]
  exact ⟨by omega, by omega⟩
theorem isL_is {k : Nat} {b : UInt8} (h : isL (k : Int) b = true) : ∃ j, j < k ∧ b = UInt8.ofNat (97 + j) := by
  unfold isL at h
  rw [Bool.and_eq_true, decide_eq_true_eq, decide_eq_true_eq] at h
  refine ⟨b.toNat - 97, by omega, ?_⟩
  rw [show 97 + (b.toNat - 97) = b.toNat by omega, UInt8.ofNat_toNat]
theorem mem_allW (k : Nat) (hk : k ≤ 3) : ∀ (n : Nat) (w : ByteArray), w ∈ allW k n ↔ w.size = n ∧ w.data.toList.all (isL (k : Int)) = true
  | 0, w => by
    show w ∈ [ByteArray.empty] ↔ _
    rw [List.mem_singleton]
    constructor
    · rintro rfl; exact ⟨rfl, rfl⟩
    · rintro ⟨h, _⟩
      exact ba_ext (List.eq_nil_of_length_eq_zero h)
  | n + 1, w => by
    show w ∈ longer (allW k n) k ↔ _
    unfold longer
    rw [List.mem_flatMap]
    constructor
    · rintro ⟨u, hu, hw⟩
      obtain ⟨j, hj, rfl⟩ := List.mem_map.1 hw
      obtain ⟨h1, h2⟩ := (mem_allW k hk n u).1 hu
      refine ⟨by rw [ByteArray.size_append, letterB_size, h1], ?_⟩
      rw [ba_append, List.all_append, h2]
      show (true && ([UInt8.ofNat (97 + j)].all (isL (k : Int)))) = true
      simp only [List.all_cons, List.all_nil, Bool.and_true, Bool.true_and]
      exact isL_letter hk (List.mem_range.1 hj)
    · rintro ⟨h1, h2⟩
      have hl : w.data.toList.length = n + 1 := h1
      have hne : w.data.toList ≠ [] := by intro e; rw [e] at hl; cases hl
      have hsplit := List.dropLast_concat_getLast hne
      rw [← hsplit, List.all_append, Bool.and_eq_true] at h2
      obtain ⟨j, hj, hb⟩ := isL_is (b := w.data.toList.getLast hne) (by have := h2.2; simp only [List.all_cons, List.all_nil, Bool.and_true] at this; exact this)
      refine ⟨⟨w.data.toList.dropLast.toArray⟩, (mem_allW k hk n _).2 ⟨?_, by simpa using h2.1⟩, List.mem_map.2 ⟨j, List.mem_range.2 hj, ?_⟩⟩
      · show w.data.toList.dropLast.toArray.size = n
        rw [List.size_toArray, List.length_dropLast, hl]; rfl
      · refine ba_ext ?_
        rw [ba_append]
        show w.data.toList.dropLast ++ [UInt8.ofNat (97 + j)] = w.data.toList
        rw [← hb]
        exact hsplit

/-! ### The pairs that go on -/
def Closed (L : Int) (ps : List ByteArray) (S : UInt8 → UInt8 → Prop) : Prop :=
  ∀ a b, S a b → isL L a = true ∧ isL L b = true ∧ (∃ c, isL L c = true ∧ avoids ps (tri a b c) = true ∧ S b c) ∧ (∃ c, isL L c = true ∧ avoids ps (tri c a b) = true ∧ S c a)
def Lively (L : Int) (ps : List ByteArray) (a b : UInt8) : Prop := ∃ S, Closed L ps S ∧ S a b
theorem Lively.closed (L : Int) (ps : List ByteArray) : Closed L ps (Lively L ps) := by
  rintro a b ⟨S, hS, hab⟩
  obtain ⟨h1, h2, ⟨c, hc, ht, hs⟩, d, hd, ht', hs'⟩ := hS a b hab
  exact ⟨h1, h2, ⟨c, hc, ht, S, hS, hs⟩, d, hd, ht', S, hS, hs'⟩

/-! ### As a list -/
def goesB (ps list : List ByteArray) (w : ByteArray) : Bool := list.any fun q => decide (ch q 0 = ch w 1) && avoids ps (w ++ q.extract 1 q.size)
def goesA (ps list : List ByteArray) (w : ByteArray) : Bool := list.any fun q => decide (ch q 1 = ch w 0) && avoids ps (q ++ w.extract 1 w.size)
def stepW (ps l : List ByteArray) : List ByteArray := l.filter fun w => goesB ps l w && goesA ps l w
def fixW (ps : List ByteArray) : Nat → List ByteArray → List ByteArray
  | 0, l => l
  | n + 1, l => if (stepW ps l).length = l.length then l else fixW ps n (stepW ps l)
theorem stepW_length (ps l : List ByteArray) : (stepW ps l).length ≤ l.length := List.length_filter_le _ _
theorem stepW_same {ps l : List ByteArray} (h : (stepW ps l).length = l.length) : stepW ps l = l := by
  unfold stepW at h ⊢
  exact List.filter_eq_self.2 (List.length_filter_eq_length_iff.1 h)
theorem fixW_fixed (ps : List ByteArray) : ∀ (n : Nat) (l : List ByteArray), l.length ≤ n → stepW ps (fixW ps n l) = fixW ps n l
  | 0, l, h => by
    obtain rfl : l = [] := List.eq_nil_of_length_eq_zero (by omega)
    rfl
  | n + 1, l, h => by
    unfold fixW
    split
    · next e => exact stepW_same e
    · next e =>
      have := stepW_length ps l
      exact fixW_fixed ps n _ (by omega)
theorem fixW_sub (ps : List ByteArray) : ∀ (n : Nat) (l : List ByteArray), ∀ x ∈ fixW ps n l, x ∈ l
  | 0, l, x, h => h
  | n + 1, l, x, h => by
    unfold fixW at h
    split at h
    · exact h
    · exact (List.mem_filter.1 (fixW_sub ps n _ x h)).1
theorem pr_tail (a b c d : UInt8) : pr a b ++ (pr c d).extract 1 (pr c d).size = tri a b d := ba_ext (by rw [ba_append, ba_extract]; rfl)
theorem lively_step {L : Int} {ps l : List ByteArray} (h : ∀ a b, Lively L ps a b → pr a b ∈ l) : ∀ a b, Lively L ps a b → pr a b ∈ stepW ps l := by
  intro a b hab
  obtain ⟨_, _, ⟨c, _, hc, hbc⟩, d, _, hd, hda⟩ := Lively.closed L ps a b hab
  unfold stepW
  refine List.mem_filter.2 ⟨h a b hab, ?_⟩
  rw [Bool.and_eq_true]
  refine ⟨List.any_eq_true.2 ⟨pr b c, h b c hbc, ?_⟩, List.any_eq_true.2 ⟨pr d a, h d a hda, ?_⟩⟩
  · rw [Bool.and_eq_true, decide_eq_true_eq, pr_tail]; exact ⟨rfl, hc⟩
  · rw [Bool.and_eq_true, decide_eq_true_eq, pr_tail]; exact ⟨rfl, hd⟩
theorem lively_fix {L : Int} {ps : List ByteArray} : ∀ (n : Nat) (l : List ByteArray), (∀ a b, Lively L ps a b → pr a b ∈ l) → ∀ a b, Lively L ps a b → pr a b ∈ fixW ps n l
  | 0, l, h => h
  | n + 1, l, h => by
    unfold fixW
    split
    · exact h
    · exact lively_fix n _ (lively_step h)
def keepW (ps ws : List ByteArray) : List ByteArray := ws.filter (avoids ps)
def pairsW (k : Nat) (ps : List ByteArray) : List ByteArray := fixW ps 9 (keepW ps (allW k 2))
theorem two_le {k : Nat} (hk : k ≤ 3) : k ^ 2 ≤ 9 := Nat.le_trans (Nat.pow_le_pow_left hk 2) (by decide)
theorem keepW_two (ps : List ByteArray) {k : Nat} (hk : k ≤ 3) : (keepW ps (allW k 2)).length ≤ 9 :=
  Nat.le_trans (List.length_filter_le _ _) (by rw [allW_length]; exact two_le hk)
theorem pairsW_fixed (ps : List ByteArray) {k : Nat} (hk : k ≤ 3) : stepW ps (pairsW k ps) = pairsW k ps := fixW_fixed ps 9 _ (keepW_two ps hk)
theorem mem_pairsW' {ps : List ByteArray} {k : Nat} (hk : k ≤ 3) {w : ByteArray} (h : w ∈ pairsW k ps) : ∃ a b, w = pr a b ∧ isL (k : Int) a = true ∧ isL (k : Int) b = true := by
  have h1 := fixW_sub ps 9 _ w h
  obtain ⟨h2, h3⟩ := (mem_allW k hk 2 w).1 ((List.mem_filter.1 h1).1)
  obtain ⟨a, b, rfl⟩ := is_pr h2
  have h4 : ([a, b].all (isL (k : Int))) = true := h3
  simp at h4
  exact ⟨a, b, rfl, h4.1, h4.2⟩
theorem mem_pairsW {ps : List ByteArray} {k : Nat} (hk : k ≤ 3) (a b : UInt8) : pr a b ∈ pairsW k ps ↔ Lively (k : Int) ps a b := by
  constructor
  · intro h
    refine ⟨fun x y => pr x y ∈ pairsW k ps, ?_, h⟩
    intro x y hxy
    obtain ⟨x', y', e, hx, hy⟩ := mem_pairsW' hk hxy
    obtain ⟨rfl, rfl⟩ := pr_inj e
    have h2 := hxy
    rw [← pairsW_fixed ps hk] at h2
    have h3 := (List.mem_filter.1 h2).2
    rw [Bool.and_eq_true] at h3
    obtain ⟨q, hq, hq2⟩ := List.any_eq_true.1 h3.1
    obtain ⟨r, hr, hr2⟩ := List.any_eq_true.1 h3.2
    obtain ⟨a1, b1, rfl, _, hb1⟩ := mem_pairsW' hk hq
    obtain ⟨a2, b2, rfl, ha2, _⟩ := mem_pairsW' hk hr
    rw [Bool.and_eq_true, decide_eq_true_eq, pr_tail] at hq2 hr2
    have e1 : a1 = y := hq2.1
    have e2 : b2 = x := hr2.1
    subst e1 e2
    exact ⟨hx, hy, ⟨b1, hb1, hq2.2, hq⟩, a2, ha2, hr2.2, hr⟩
  · refine lively_fix 9 _ ?_ a b
    intro a b hab
    obtain ⟨h1, h2, ⟨c, _, hc, _⟩, _⟩ := Lively.closed _ _ a b hab
    refine List.mem_filter.2 ⟨(mem_allW k hk 2 _).2 ⟨rfl, ?_⟩, avoids_part ⟨[], [c], rfl⟩ hc⟩
    show ([a, b].all (isL (k : Int))) = true
    simp [h1, h2]

/-! ### As bits -/
def ix (b : UInt8) : Nat := b.toNat - 97
def bitOf (a b : UInt8) : Nat := 3 * ix a + ix b
def bitAt (w : ByteArray) (i : Nat) : Nat := bitOf (ch w i) (ch w (i + 1))
def hasP (p : Nat) (w : ByteArray) (i : Nat) : Bool := p.testBit (bitAt w i)
def stepF (p : Nat) (r : Nat × Nat) (w : ByteArray) : Nat × Nat :=
  if (hasP p w 0 && hasP p w 1) = true then (r.1 ||| 2 ^ bitAt w 0, r.2 ||| 2 ^ bitAt w 1) else r
def stepB (ws : List ByteArray) (p : Nat) : Nat := (ws.foldl (stepF p) (0, 0)).1 &&& (ws.foldl (stepF p) (0, 0)).2
theorem foldl_next (ws : List ByteArray) (p k : Nat) (r : Nat × Nat) (h : k < ws.length) : (ws.take (k + 1)).foldl (stepF p) r = stepF p ((ws.take k).foldl (stepF p) r) (ws.getD k ByteArray.empty) := by
  rw [List.take_succ_eq_append_getElem h, List.foldl_append, List.getD_eq_getElem?_getD, List.getElem?_eq_getElem h]; rfl
theorem foldl_ahead (p b : Nat) : ∀ (ws : List ByteArray) (r : Nat × Nat), (ws.foldl (stepF p) r).1.testBit b = true ↔ r.1.testBit b = true ∨ ∃ w ∈ ws, hasP p w 0 = true ∧ hasP p w 1 = true ∧ bitAt w 0 = b
  | [], r => by simp
  | w :: ws, r => by
    rw [List.foldl_cons, foldl_ahead p b ws]
    unfold stepF
    by_cases h : (hasP p w 0 && hasP p w 1) = true
    · rw [if_pos h]
      rw [Bool.and_eq_true] at h
      simp only [Nat.testBit_or, Bool.or_eq_true, Nat.testBit_two_pow, decide_eq_true_eq, List.mem_cons, exists_eq_or_imp, h, true_and, or_assoc]
    · rw [if_neg h]
      rw [Bool.and_eq_true] at h
      simp only [List.mem_cons, exists_eq_or_imp]
      constructor
      · rintro (h1 | h1)
        · exact .inl h1
        · exact .inr (.inr h1)
      · rintro (h1 | h1 | h1)
        · exact .inl h1
        · exact absurd ⟨h1.1, h1.2.1⟩ h
        · exact .inr h1
theorem foldl_behind (p b : Nat) : ∀ (ws : List ByteArray) (r : Nat × Nat), (ws.foldl (stepF p) r).2.testBit b = true ↔ r.2.testBit b = true ∨ ∃ w ∈ ws, hasP p w 0 = true ∧ hasP p w 1 = true ∧ bitAt w 1 = b
  | [], r => by simp
  | w :: ws, r => by
    rw [List.foldl_cons, foldl_behind p b ws]
    unfold stepF
    by_cases h : (hasP p w 0 && hasP p w 1) = true
    · rw [if_pos h]
      rw [Bool.and_eq_true] at h
      simp only [Nat.testBit_or, Bool.or_eq_true, Nat.testBit_two_pow, decide_eq_true_eq, List.mem_cons, exists_eq_or_imp, h, true_and, or_assoc]
    · rw [if_neg h]
      rw [Bool.and_eq_true] at h
      simp only [List.mem_cons, exists_eq_or_imp]
      constructor
      · rintro (h1 | h1)
        · exact .inl h1
        · exact .inr (.inr h1)
      · rintro (h1 | h1 | h1)
        · exact .inl h1
        · exact absurd ⟨h1.1, h1.2.1⟩ h
        · exact .inr h1
theorem stepB_iff (ws : List ByteArray) (p b : Nat) : (stepB ws p).testBit b = true ↔ (∃ w ∈ ws, hasP p w 0 = true ∧ hasP p w 1 = true ∧ bitAt w 0 = b) ∧ ∃ w ∈ ws, hasP p w 0 = true ∧ hasP p w 1 = true ∧ bitAt w 1 = b := by
  unfold stepB
  rw [Nat.testBit_and, Bool.and_eq_true, foldl_ahead, foldl_behind]
  simp
theorem stepB_le (ws : List ByteArray) (p : Nat) : stepB ws p ≤ p := by
  have : stepB ws p &&& p = stepB ws p := by
    apply Nat.eq_of_testBit_eq
    intro b
    rw [Nat.testBit_and]
    cases h : (stepB ws p).testBit b with
    | false => rfl
    | true =>
      obtain ⟨⟨w, _, h1, _, rfl⟩, _⟩ := (stepB_iff ws p b).1 h
      rw [Bool.true_and]; exact h1
  rw [← this]; exact Nat.and_le_right
def fixB (ws : List ByteArray) : Nat → Nat → Nat
  | 0, p => p
  | n + 1, p => if stepB ws p = p then p else fixB ws n (stepB ws p)
theorem fixB_fixed (ws : List ByteArray) : ∀ (n p : Nat), p ≤ n → stepB ws (fixB ws n p) = fixB ws n p
  | 0, p, h => by
    have := stepB_le ws p
    unfold fixB; omega
  | n + 1, p, h => by
    unfold fixB
    split
    · next e => exact e
    · next e =>
      have := stepB_le ws p
      exact fixB_fixed ws n _ (by omega)
def setB (ws : List ByteArray) : Nat := fixB ws 511 511
theorem setB_fixed (ws : List ByteArray) : stepB ws (setB ws) = setB ws := fixB_fixed ws 511 511 (Nat.le_refl _)
theorem fixB_le (ws : List ByteArray) : ∀ (n p : Nat), fixB ws n p ≤ p
  | 0, p => Nat.le_refl _
  | n + 1, p => by
    unfold fixB
    split
    · exact Nat.le_refl _
    · exact Nat.le_trans (fixB_le ws n _) (stepB_le ws p)
theorem ix_lt {L : Int} {a : UInt8} (hL : L ≤ 3) (h : isL L a = true) : 97 ≤ a.toNat ∧ ix a < 3 := by
  unfold isL at h
  rw [Bool.and_eq_true, decide_eq_true_eq, decide_eq_true_eq] at h
  unfold ix
  omega
theorem bitOf_inj {L : Int} {a b c d : UInt8} (hL : L ≤ 3) (ha : isL L a = true) (hb : isL L b = true) (hc : isL L c = true) (hd : isL L d = true) (h : bitOf a b = bitOf c d) : a = c ∧ b = d := by
  have h1 := ix_lt hL ha; have h2 := ix_lt hL hb; have h3 := ix_lt hL hc; have h4 := ix_lt hL hd
  unfold bitOf at h
  have e1 : a.toNat = c.toNat := by unfold ix at *; omega
  have e2 : b.toNat = d.toNat := by unfold ix at *; omega
  exact ⟨UInt8.toNat_inj.1 e1, UInt8.toNat_inj.1 e2⟩
/-- The avoiding words of three letters. -/
def trisW (k : Nat) (ps : List ByteArray) : List ByteArray := keepW ps (allW k 3)
theorem mem_trisW {ps : List ByteArray} {k : Nat} (hk : k ≤ 3) (w : ByteArray) : w ∈ trisW k ps ↔ ∃ a b c, w = tri a b c ∧ isL (k : Int) a = true ∧ isL (k : Int) b = true ∧ isL (k : Int) c = true ∧ avoids ps (tri a b c) = true := by
  unfold trisW keepW
  rw [List.mem_filter, mem_allW k hk]
  constructor
  · rintro ⟨⟨h1, h2⟩, h3⟩
    obtain ⟨a, b, c, rfl⟩ := is_tri h1
    have h4 : ([a, b, c].all (isL (k : Int))) = true := h2
    simp at h4
    exact ⟨a, b, c, rfl, h4.1, h4.2.1, h4.2.2, h3⟩
  · rintro ⟨a, b, c, rfl, h1, h2, h3, h4⟩
    refine ⟨⟨rfl, ?_⟩, h4⟩
    show ([a, b, c].all (isL (k : Int))) = true
    simp [h1, h2, h3]
theorem lively_stepB {ps : List ByteArray} {k : Nat} (hk : k ≤ 3) {p : Nat} (h : ∀ a b, Lively (k : Int) ps a b → p.testBit (bitOf a b) = true) : ∀ a b, Lively (k : Int) ps a b → (stepB (trisW k ps) p).testBit (bitOf a b) = true := by
  intro a b hab
  obtain ⟨ha, hb, ⟨c, hc, htc, hbc⟩, d, hd, htd, hda⟩ := Lively.closed (k : Int) ps a b hab
  rw [stepB_iff]
  exact ⟨⟨tri a b c, (mem_trisW hk _).2 ⟨a, b, c, rfl, ha, hb, hc, htc⟩, h a b hab, h b c hbc, rfl⟩, tri d a b, (mem_trisW hk _).2 ⟨d, a, b, rfl, hd, ha, hb, htd⟩, h d a hda, h a b hab, rfl⟩
theorem lively_fixB {ps : List ByteArray} {k : Nat} (hk : k ≤ 3) : ∀ (n p : Nat), (∀ a b, Lively (k : Int) ps a b → p.testBit (bitOf a b) = true) → ∀ a b, Lively (k : Int) ps a b → (fixB (trisW k ps) n p).testBit (bitOf a b) = true
  | 0, p, h => h
  | n + 1, p, h => by
    unfold fixB
    split
    · exact h
    · exact lively_fixB hk n _ (lively_stepB hk h)
theorem all_bits : ∀ b, b < 9 → (511 : Nat).testBit b = true := by decide
theorem setB_iff {ps : List ByteArray} {k : Nat} (hk : k ≤ 3) (n : Nat) : (setB (trisW k ps)).testBit n = true ↔ ∃ a b, Lively (k : Int) ps a b ∧ n = bitOf a b := by
  have hk3 : (k : Int) ≤ 3 := by omega
  constructor
  · intro h
    have h0 := h
    rw [← setB_fixed, stepB_iff] at h0
    obtain ⟨⟨w, hw, hw0, hw1, hwb⟩, _⟩ := h0
    obtain ⟨a, b, c, rfl, ha, hb, hc, ht⟩ := (mem_trisW hk _).1 hw
    refine ⟨a, b, ⟨fun x y => isL (k : Int) x = true ∧ isL (k : Int) y = true ∧ (setB (trisW k ps)).testBit (bitOf x y) = true, ?_, ha, hb, by rw [show bitOf a b = n from hwb]; exact h⟩, hwb.symm⟩
    rintro x y ⟨hx, hy, hxy⟩
    have h1 := hxy
    rw [← setB_fixed, stepB_iff] at h1
    obtain ⟨⟨u, hu, hu0, hu1, hub⟩, v, hv, hv0, hv1, hvb⟩ := h1
    obtain ⟨a1, b1, c1, rfl, ha1, hb1, hc1, ht1⟩ := (mem_trisW hk _).1 hu
    obtain ⟨a2, b2, c2, rfl, ha2, hb2, hc2, ht2⟩ := (mem_trisW hk _).1 hv
    obtain ⟨rfl, rfl⟩ := bitOf_inj hk3 ha1 hb1 hx hy hub
    obtain ⟨rfl, rfl⟩ := bitOf_inj hk3 hb2 hc2 hx hy hvb
    exact ⟨hx, hy, ⟨c1, hc1, ht1, hy, hc1, hu1⟩, a2, ha2, ht2, ha2, hx, hv0⟩
  · rintro ⟨a, b, hab, rfl⟩
    refine lively_fixB hk 511 511 ?_ a b hab
    intro a b hab
    obtain ⟨ha, hb, _⟩ := Lively.closed _ _ a b hab
    have h1 := ix_lt hk3 ha; have h2 := ix_lt hk3 hb
    exact all_bits _ (by unfold bitOf; omega)
theorem setB_at {ps : List ByteArray} {k : Nat} (hk : k ≤ 3) {a b : UInt8} (ha : isL (k : Int) a = true) (hb : isL (k : Int) b = true) : (setB (trisW k ps)).testBit (bitOf a b) = true ↔ Lively (k : Int) ps a b := by
  rw [setB_iff hk]
  constructor
  · rintro ⟨c, d, hcd, e⟩
    obtain ⟨hc, hd, _⟩ := Lively.closed _ _ c d hcd
    obtain ⟨rfl, rfl⟩ := bitOf_inj (by omega : (k : Int) ≤ 3) ha hb hc hd e
    exact hcd
  · exact fun h => ⟨a, b, h, rfl⟩
theorem setB_zero {ps : List ByteArray} {k : Nat} (hk : k ≤ 3) : setB (trisW k ps) = 0 ↔ pairsW k ps = [] := by
  constructor
  · intro h
    cases e : pairsW k ps with
    | nil => rfl
    | cons w r =>
      have hw : w ∈ pairsW k ps := by rw [e]; exact List.mem_cons_self ..
      obtain ⟨a, b, rfl, _, _⟩ := mem_pairsW' hk hw
      have := (setB_iff hk (bitOf a b)).2 ⟨a, b, (mem_pairsW hk a b).1 hw, rfl⟩
      rw [h] at this
      simp at this
  · intro h
    apply Nat.eq_of_testBit_eq
    intro n
    rw [Nat.zero_testBit]
    cases hn : (setB (trisW k ps)).testBit n with
    | false => rfl
    | true =>
      obtain ⟨a, b, hab, _⟩ := (setB_iff hk n).1 hn
      have := (mem_pairsW hk a b).2 hab
      rw [h] at this; cases this

/-! ### Which words are in the language -/
def coverB (p : Nat) (w : ByteArray) : Bool :=
  if w.size = 0 then decide (p ≠ 0) else if w.size = 1 then decide ((p >>> (3 * ix (ch w 0))) &&& 7 ≠ 0) else (List.range (w.size - 1)).all (hasP p w)
def inM (ps M : List ByteArray) (w : ByteArray) : Bool :=
  (!decide (M.length = 0) && avoids ps w) && (if 2 ≤ w.size then Lib.containsS M (w.extract 0 2) && Lib.containsS M (w.extract (w.size - 2) w.size) else M.any fun q => Lib.contains q.data.toList w.data.toList)
theorem ch_isL {k : Int} {w : ByteArray} (h : w.data.toList.all (isL k) = true) {i : Nat} (hi : i < w.size) : isL k (ch w i) = true := by
  rw [List.all_eq_true] at h
  unfold ch
  rw [List.getD_eq_getElem?_getD, List.getElem?_eq_getElem (by exact hi), Option.getD_some]
  exact h _ (List.getElem_mem _)
theorem pr_at {w : ByteArray} {i : Nat} (h : i + 2 ≤ w.size) : w.extract i (i + 2) = pr (ch w i) (ch w (i + 1)) := by
  refine ba_ext ?_
  rw [ba_extract, Nat.add_sub_cancel_left]
  show _ = [ch w i, ch w (i + 1)]
  have hl : w.data.toList.length = w.size := rfl
  rw [List.drop_eq_getElem_cons (by omega), List.drop_eq_getElem_cons (by omega)]
  unfold ch
  rw [List.getD_eq_getElem?_getD, List.getElem?_eq_getElem (by omega), List.getD_eq_getElem?_getD, List.getElem?_eq_getElem (by omega)]
  rfl
theorem tri_at {w : ByteArray} {i : Nat} (h : i + 3 ≤ w.size) : (tri (ch w i) (ch w (i + 1)) (ch w (i + 2))).data.toList <:+: w.data.toList := by
  have hl : w.data.toList.length = w.size := rfl
  refine ⟨w.data.toList.take i, w.data.toList.drop (i + 3), ?_⟩
  have e : w.data.toList.drop i = (tri (ch w i) (ch w (i + 1)) (ch w (i + 2))).data.toList ++ w.data.toList.drop (i + 3) := by
    rw [List.drop_eq_getElem_cons (by omega), List.drop_eq_getElem_cons (by omega), List.drop_eq_getElem_cons (by omega)]
    unfold ch
    rw [List.getD_eq_getElem?_getD, List.getElem?_eq_getElem (by omega), List.getD_eq_getElem?_getD, List.getElem?_eq_getElem (by omega), List.getD_eq_getElem?_getD, List.getElem?_eq_getElem (by omega)]
    rfl
  rw [List.append_assoc, ← e, List.take_append_drop]
/-- If the first pair and the last of a word that avoids go on, each of its pairs does. -/
theorem lively_inner {L : Int} {ps : List ByteArray} {w : ByteArray} (hw : w.data.toList.all (isL L) = true) (ha : avoids ps w = true) (h2 : 2 ≤ w.size) (hf : Lively L ps (ch w 0) (ch w 1)) (hl : Lively L ps (ch w (w.size - 2)) (ch w (w.size - 1))) :
    ∀ i, i + 2 ≤ w.size → Lively L ps (ch w i) (ch w (i + 1)) := by
  intro i hi
  refine ⟨fun a b => Lively L ps a b ∨ ∃ j, j + 2 ≤ w.size ∧ a = ch w j ∧ b = ch w (j + 1), ?_, .inr ⟨i, hi, rfl, rfl⟩⟩
  have hc := Lively.closed L ps
  rintro a b (hab | ⟨j, hj, rfl, rfl⟩)
  · obtain ⟨h1, h3, ⟨c, h4, h5, h6⟩, d, h7, h8, h9⟩ := hc a b hab
    exact ⟨h1, h3, ⟨c, h4, h5, .inl h6⟩, d, h7, h8, .inl h9⟩
  · refine ⟨ch_isL hw (by omega), ch_isL hw (by omega), ?_, ?_⟩
    · by_cases hj3 : j + 3 ≤ w.size
      · exact ⟨ch w (j + 2), ch_isL hw (by omega), avoids_part (tri_at hj3) ha, .inr ⟨j + 1, by omega, rfl, rfl⟩⟩
      · rw [show w.size - 2 = j by omega, show w.size - 1 = j + 1 by omega] at hl
        obtain ⟨_, _, ⟨c, h4, h5, h6⟩, _⟩ := hc _ _ hl
        exact ⟨c, h4, h5, .inl h6⟩
    · by_cases hj0 : j = 0
      · subst hj0
        obtain ⟨_, _, _, d, h7, h8, h9⟩ := hc _ _ hf
        exact ⟨d, h7, h8, .inl h9⟩
      · obtain ⟨m, rfl⟩ : ∃ m, j = m + 1 := ⟨j - 1, by omega⟩
        exact ⟨ch w m, ch_isL hw (by omega), avoids_part (tri_at (by omega)) ha, .inr ⟨m, by omega, rfl, rfl⟩⟩
theorem seven_bit : ∀ j, j < 3 → (7 : Nat).testBit j = true := by decide
theorem begin_iff (p n : Nat) : (p >>> n) &&& 7 ≠ 0 ↔ ∃ j, j < 3 ∧ p.testBit (n + j) = true := by
  constructor
  · intro h
    by_cases hx : ∃ j, j < 3 ∧ p.testBit (n + j) = true
    · exact hx
    · exfalso; apply h
      apply Nat.eq_of_testBit_eq
      intro j
      rw [Nat.testBit_and, Nat.testBit_shiftRight, Nat.zero_testBit]
      by_cases hj : j < 3
      · have : p.testBit (n + j) = false := by
          rw [← Bool.not_eq_true]; exact fun e => hx ⟨j, hj, e⟩
        rw [this, Bool.false_and]
      · have : (7 : Nat).testBit j = false := Nat.testBit_lt_two_pow (Nat.lt_of_lt_of_le (by decide : 7 < 2 ^ 3) (Nat.pow_le_pow_right (by decide) (by omega)))
        rw [this, Bool.and_false]
  · rintro ⟨j, hj, h⟩ e
    have := congrArg (fun x => Nat.testBit x j) e
    simp only [Nat.testBit_and, Nat.testBit_shiftRight, Nat.zero_testBit, h, seven_bit j hj] at this
    cases this
theorem in_same {ps : List ByteArray} {k : Nat} (hk : k ≤ 3) {w : ByteArray} (hw : w.data.toList.all (isL (k : Int)) = true) : inM ps (pairsW k ps) w = (avoids ps w && coverB (setB (trisW k ps)) w) := by
  have hk3 : (k : Int) ≤ 3 := by omega
  unfold inM
  cases ha : avoids ps w with
  | false => rw [Bool.and_false, Bool.false_and, Bool.false_and]
  | true =>
    rw [Bool.and_true, Bool.true_and]
    by_cases hM : pairsW k ps = []
    · have h0 := (setB_zero hk).2 hM
      rw [hM, h0]
      show false = coverB 0 w
      unfold coverB
      split
      · rfl
      · split
        · simp
        · next h1 h2 =>
          have : (List.range (w.size - 1)).all (hasP 0 w) = false := by
            rw [← Bool.not_eq_true, List.all_eq_true]
            intro h
            have := h 0 (List.mem_range.2 (by omega))
            unfold hasP at this
            rw [Nat.zero_testBit] at this
            cases this
          exact this.symm
    · have hne : setB (trisW k ps) ≠ 0 := fun e => hM ((setB_zero hk).1 e)
      have hlen : decide ((pairsW k ps).length = 0) = false := by
        rw [decide_eq_false_iff_not]; exact fun e => hM (List.eq_nil_of_length_eq_zero e)
      obtain ⟨q0, hq0⟩ : ∃ q, q ∈ pairsW k ps := by
        cases e : pairsW k ps with
        | nil => exact absurd e hM
        | cons a r => exact ⟨a, List.mem_cons_self ..⟩
      rw [hlen, Bool.not_false, Bool.true_and]
      by_cases h2 : 2 ≤ w.size
      · rw [if_pos h2]
        unfold coverB
        rw [if_neg (by omega), if_neg (by omega), Bool.eq_iff_iff, Bool.and_eq_true, Lib.containsS_iff, Lib.containsS_iff, List.all_eq_true]
        have e1 := pr_at (w := w) (i := 0) (by omega)
        have e2 := pr_at (w := w) (i := w.size - 2) (by omega)
        rw [show w.size - 2 + 2 = w.size by omega, show w.size - 2 + 1 = w.size - 1 by omega] at e2
        rw [e1, e2, mem_pairsW hk, mem_pairsW hk]
        constructor
        · rintro ⟨hf, hl⟩ i hi
          have hi2 : i + 2 ≤ w.size := by have := List.mem_range.1 hi; omega
          have := lively_inner hw ha h2 hf hl i hi2
          exact (setB_at hk (ch_isL hw (by omega)) (ch_isL hw (by omega))).2 this
        · intro h
          have at' : ∀ i, i + 2 ≤ w.size → Lively (k : Int) ps (ch w i) (ch w (i + 1)) := fun i hi =>
            (setB_at hk (ch_isL hw (by omega)) (ch_isL hw (by omega))).1 (h i (List.mem_range.2 (by omega)))
          have h3 := at' (w.size - 2) (by omega)
          rw [show w.size - 2 + 1 = w.size - 1 by omega] at h3
          exact ⟨at' 0 (by omega), h3⟩
      · rw [if_neg h2]
        by_cases h0 : w.size = 0
        · unfold coverB
          rw [if_pos h0, decide_eq_true hne, List.any_eq_true]
          have : w.data.toList = [] := List.eq_nil_of_length_eq_zero h0
          exact ⟨q0, hq0, by rw [this]; exact contains_iff.2 (List.nil_infix)⟩
        · have h1 : w.size = 1 := by omega
          unfold coverB
          rw [if_neg h0, if_pos h1, Bool.eq_iff_iff, decide_eq_true_eq, begin_iff, List.any_eq_true]
          have hwl : w.data.toList = [ch w 0] := by
            have hl : w.data.toList.length = w.size := rfl
            match e : w.data.toList with
            | [] => rw [e] at hl; simp at hl; omega
            | [a] => unfold ch; rw [e]; rfl
            | a :: b :: r => rw [e] at hl; simp at hl; omega
          have hca := ch_isL hw (i := 0) (by omega)
          rw [hwl]
          constructor
          · rintro ⟨q, hq, hc⟩
            obtain ⟨a, b, rfl, hla, hlb⟩ := mem_pairsW' hk hq
            have hab := (mem_pairsW hk a b).1 hq
            have hmem : ch w 0 ∈ [a, b] := by
              have := contains_iff.1 hc
              exact this.subset (List.mem_singleton.2 rfl)
            have : ∃ c, Lively (k : Int) ps (ch w 0) c := by
              simp at hmem
              rcases hmem with e | e
              · exact ⟨b, by rw [e]; exact hab⟩
              · obtain ⟨_, _, ⟨c, _, _, h6⟩, _⟩ := Lively.closed _ _ a b hab
                exact ⟨c, by rw [e]; exact h6⟩
            obtain ⟨c, hc⟩ := this
            obtain ⟨_, hlc, _⟩ := Lively.closed _ _ _ c hc
            exact ⟨ix c, (ix_lt hk3 hlc).2, (setB_at hk hca hlc).2 hc⟩
          · rintro ⟨j, hj, hb⟩
            obtain ⟨a, b, hab, e⟩ := (setB_iff hk _).1 hb
            obtain ⟨hla, hlb, _⟩ := Lively.closed _ _ a b hab
            have := ix_lt hk3 hla; have := ix_lt hk3 hlb; have := ix_lt hk3 hca
            have ea : ix a = ix (ch w 0) := by unfold bitOf at e; omega
            have ea2 : a = ch w 0 := UInt8.toNat_inj.1 (by unfold ix at ea; omega)
            refine ⟨pr a b, (mem_pairsW hk a b).2 hab, contains_iff.2 ?_⟩
            rw [← ea2]
            exact ⟨[], [b], rfl⟩
end Go.Proofs.Ytalclebehbdliaa
namespace Go.Proofs.Ytalclebehbdliaa
open Go Go.RowKit

/-- A list of strings in new memory. -/
def ListPost (ps : List ByteArray) (w : World) (e : Ending) (w' : World) : Prop :=
  ∃ v, e = .returned v ∧ w'.ownsRow w.heap.size 9 1 v ps.length (ps.map Value.string) ∧ Below w.heap.size w w'
theorem letter_at (x : Nat) (h : x < 3) : (⟨#[97, 98, 99]⟩ : ByteArray).extract x (x + 1) = letterB x := by
  match x, h with
  | 0, _ => rfl
  | 1, _ => rfl
  | 2, _ => rfl
theorem wrap_next (x : Nat) (h : x ≤ 1000000) : IntKind.i64.wrap ((x : Int) + 1) = (x : Int) + 1 := by
  simp [IntKind.wrap, IntKind.bits, IntKind.signed]
  omega
/-- The words with a letter behind each: j of them done, and the next with x letters. -/
def upTo (ws : List ByteArray) (k j x : Nat) : List ByteArray := longer (ws.take j) k ++ (List.range x).map fun y => ws.getD j ByteArray.empty ++ letterB y
theorem upTo_zero (ws : List ByteArray) (k j : Nat) : upTo ws k j 0 = longer (ws.take j) k := by simp [upTo]
theorem upTo_next (ws : List ByteArray) (k j x : Nat) : upTo ws k j (x + 1) = upTo ws k j x ++ [ws.getD j ByteArray.empty ++ letterB x] := by
  unfold upTo
  rw [range_next, List.append_assoc]
theorem upTo_full (ws : List ByteArray) (k j : Nat) (h : j < ws.length) : upTo ws k j k = longer (ws.take (j + 1)) k := by
  unfold upTo
  rw [longer_next ws k j h, List.getD_eq_getElem?_getD, List.getElem?_eq_getElem h]; rfl
theorem upTo_length (ws : List ByteArray) (k j x : Nat) (h : j ≤ ws.length) : (upTo ws k j x).length = j * k + x := by
  unfold upTo
  rw [List.length_append, longer_length, List.length_take, List.length_map, List.length_range, Nat.min_eq_left h]
theorem getD_size {ws : List ByteArray} {m j : Nat} (h : ∀ x ∈ ws, x.size = m) (hj : j < ws.length) : (ws.getD j ByteArray.empty).size = m := by
  rw [List.getD_eq_getElem?_getD, List.getElem?_eq_getElem hj]
  exact h _ (List.getElem_mem hj)

set_option maxRecDepth 100000 in
set_option maxHeartbeats 1600000 in
theorem spec_all (k n : Nat) (hk1 : 1 ≤ k) (hk : k ≤ 3) (hn : n ≤ 16) (hmax : ∀ i, i ≤ n → k ^ i ≤ 729) (w : World) :
    Calls Try.prog 55 #[.int .i64 k, .int .i64 n] w (ListPost (allW k n) w) := by
  obtain ⟨i0, hi, hz0, hz1, hz2⟩ := info_parts infoStr
  have HMAX := Lib.hid hmax
  clear hmax
  go_enter Try.func55, Try.ntmps55
  go_wp2
  go_loopw [5, 6] (fun v i wr => ∃ m : Nat, m ≤ n ∧ i = .int .i64 m ∧ wr.ownsRow w.heap.size 9 1 v (allW k m).length ((allW k m).map Value.string) ∧ Below w.heap.size w wr) (fun _ i _ => n - (intOf i).toNat)
  case atStart => exact ⟨0, Nat.zero_le _, rfl, World.ownsRow_lit w #[.string ByteArray.empty] 1 (Nat.le_refl _) (by decide) rfl, (Below.refl _ _).alloc (Nat.le_refl _) _⟩
  case round =>
    obtain ⟨m, hm, rfl, ho, hbl⟩ := hrel
    have HB := Lib.hid hbl
    clear hbl
    by_cases hlt : m < n
    · have hlen := allW_length k m
      have hle := HMAX.out m hm
      have hsz := allW_size k m
      have hn1 : allW k (m + 1) = longer (allW k m) k := rfl
      have hpos : 0 < (allW k m).length := by rw [hlen]; exact Nat.pow_pos hk1
      generalize allW k m = ws at *
      rw [← hlen] at hle
      rcases ho.2 with ⟨rfl, h0⟩ | ⟨g, cap, cur, rfl, _, _, _⟩
      · omega
      have hgl := (ho.lt g rfl).2
      have HS := Lib.hid (StrsAt.of_owns ho rfl)
      have HZ := Lib.hid hsz
      have HN := Lib.hid hn1
      clear hsz hn1 hlen ho
      obtain ⟨wo, rfl⟩ : ∃ wo, wo = wr := ⟨_, rfl⟩
      go_wp2
      go_loopw [7, 8] (fun v j wq => ∃ jn : Nat, jn ≤ ws.length ∧ j = .int .i64 jn ∧ wq.ownsRow wo.heap.size 9 1 v (upTo ws k jn 0).length ((upTo ws k jn 0).map Value.string) ∧ Below wo.heap.size wo wq) (fun _ j _ => ws.length - (intOf j).toNat)
      case atStart => exact ⟨0, Nat.zero_le _, rfl, World.ownsRow_made _ _ 0 (Nat.le_refl _) (by decide) rfl, (Below.refl _ _).alloc (Nat.le_refl _) _⟩
      case round =>
        obtain ⟨j, hj, rfl, ho, hbl⟩ := hrel
        have HO := Lib.hid ho
        have HB1 := Lib.hid hbl
        clear ho hbl
        by_cases hjl : j < ws.length
        · go_wp2
          go_loopw [7, 9] (fun v x wq => ∃ xn : Nat, xn ≤ k ∧ x = .int .i64 xn ∧ wq.ownsRow wo.heap.size 9 1 v (upTo ws k j xn).length ((upTo ws k j xn).map Value.string) ∧ Below wo.heap.size wo wq) (fun _ x _ => k - (intOf x).toNat)
          case atStart => exact ⟨0, Nat.zero_le _, rfl, HO.out, HB1.out⟩
          case round =>
            obtain ⟨x, hx, rfl, ho2, hbl2⟩ := hrel
            have HO2 := Lib.hid ho2
            have HB2 := Lib.hid hbl2
            clear ho2 hbl2
            by_cases hxk : x < k
            · have hcell := HS.out.below HB2.out hgl j hjl
              rw [Nat.zero_add] at hcell
              have hws := getD_size HZ.out hjl
              have HU := Lib.hid (upTo_next ws k j x)
              generalize ws.getD j ByteArray.empty = y at *
              have x6 := letter_at x (by omega)
              have x7 := letterB_size x
              have x8 : y.size + (letterB x).size ≤ 9223372036854775807 := by rw [x7, hws]; omega
              clear x7
              have x9 : ∀ w, (Op.stringOp .add y (letterB x)).run Try.prog w = .ok (.string (y ++ letterB x)) w := fun w => run_string_add_sum w _ _ x8
              have HL := Lib.hid (upTo_length ws k j x (by omega))
              have hne : u7.ownBlock ≠ some g := fun h => by have := (HO2.out.lt g h).1; omega
              have hys : (upTo ws k j x).length + 1 ≤ 10000 := by
                have h1 := HL.out
                have h2 : j * k ≤ 729 * 3 := Nat.mul_le_mul (by omega) hk
                omega
              have hb1 : wo.heap.size ≤ wr.heap.size := HB2.out.size
              have j0 : (0 : Int) ≤ (j : Int) := by omega
              have j1 : (j : Int) < (ws.length : Int) := by omega
              have x0 : (0 : Int) ≤ (x : Int) := by omega
              have x1 : (x : Int) + 1 ≤ 3 := by omega
              have x2 : (x : Int) ≤ (x : Int) + 1 := by omega
              have x3 : IntKind.i64.wrap ((x : Int) + 1) = (x : Int) + 1 := wrap_next x (by omega)
              have x4 : (⟨#[97, 98, 99]⟩ : ByteArray).size = 3 := rfl
              have x5 : (x : Int) + 1 ≤ ((⟨#[97, 98, 99]⟩ : ByteArray).size : Int) := x1
              go_wp2
              go_region_held3 (fun w' => w'.cell? ⟨g, j, none⟩ = some (.string y)) (first | go_keep | (rw [hgrow.cell_far _ (by simp; omega) (Ne.symm hne)]; assumption))
                ((refine step_append_lies _ (by rfl) _ _ _ (by rfl) wo.heap.size 9 i0 _ 1 16 Try.underlying22 hi hz0 hz1 hz2 rfl (by omega) u7 (upTo ws k j x).length ((upTo ws k j x).map Value.string) (by rfl) ((HO2.out.alloc _).drew) ⟨wr.heap.size, 0, none⟩ 1 1 [.string (y ++ letterB x)] (by rfl) (by rfl) (World.news_of_block (cs := #[.string (y ++ letterB x)]) (t := 9) (fr := (0, 0)) (heap_alloc_new wr _)) (by simp [Value.oneCell']) (by omega) (by unfold maxLen; omega) (by omega) (by simp; omega) (wr.heap.size + 1) (by simp) ?_; intro gg cap1 w1 hown1 hgrow hat hlt1))
              have hb2 : Below wo.heap.size wo w1 := (HB2.out.alloc HB2.out.size _).drew.grown hgrow (by simp; omega) (fun k hk => (HO2.out.lt k hk).1)
              have HO3 := Lib.hid hown1
              have HB3 := Lib.hid hb2
              clear hown1 hb2 hgrow hat hlt1
              go_wp2
              go_roundw
              case rel => exact ⟨x + 1, by omega, by go_num, by rw [HU.out, List.length_append, List.map_append]; exact HO3.out, HB3.out⟩
              case measure => simp [intOf]; omega
            · obtain rfl : x = k := by omega
              go_wp2
              go_roundw
              case rel => exact ⟨j + 1, by omega, by go_num, by rw [upTo_zero, ← upTo_full ws x j hjl]; exact HO2.out, HB2.out⟩
              case measure => simp [intOf]; omega
        · obtain rfl : j = ws.length := by omega
          go_wp2
          go_roundw
          case rel => exact ⟨m + 1, by omega, by go_num, by rw [HN.out]; have h := HO.out; rw [upTo_zero, List.take_length] at h; exact h.mono HB.out.size, HB.out.trans (HB1.out.mono HB.out.size)⟩
          case measure => simp [intOf]; omega
    · obtain rfl : m = n := by omega
      have HO := Lib.hid ho
      clear ho
      go_wp2
      go_ret
      exact ⟨_, rfl, HO.out, HB.out⟩
end Go.Proofs.Ytalclebehbdliaa
namespace Go.Proofs.Ytalclebehbdliaa
open Go Go.RowKit

/-- The slice A holds the strings ps. -/
def RowAt (w : World) (A : Option Addr) (ps : List ByteArray) : Prop := 0 < ps.length → ∃ g, A = some ⟨g, 0, none⟩ ∧ StrsAt w g 0 ps ∧ g < w.heap.size
theorem RowAt.below {w w' : World} {A : Option Addr} {ps : List ByteArray} (h : RowAt w A ps) (hb : Below w.heap.size w w') : RowAt w' A ps := by
  intro hp
  obtain ⟨g, hA, hs, hg⟩ := h hp
  exact ⟨g, hA, hs.below hb hg, Nat.lt_of_lt_of_le hg hb.size⟩
theorem ListPost.rowAt {ps : List ByteArray} {w w' : World} {e : Ending} (h : ListPost ps w e w') : ∃ A cap, e = .returned (.slice A ps.length cap) ∧ RowAt w' A ps ∧ Below w.heap.size w w' := by
  obtain ⟨v, rfl, ho, hb⟩ := h
  rcases ho.2 with ⟨rfl, h0⟩ | ⟨g, cap, cur, rfl, _, _, _⟩
  · exact ⟨none, 0, by rw [h0], fun hp => by omega, hb⟩
  · exact ⟨some ⟨g, 0, none⟩, cap, rfl, fun _ => ⟨g, rfl, StrsAt.of_owns ho rfl, (ho.lt g rfl).2⟩, hb⟩
end Go.Proofs.Ytalclebehbdliaa
namespace Go.Proofs.Ytalclebehbdliaa
open Go Go.RowKit

theorem hasText_no {M : List ByteArray} {x : ByteArray} (h : ∀ j, j < M.length → ((M.getD j ByteArray.empty).toList == x.toList) = false) : Lib.containsS M x = false := by
  rw [← Bool.not_eq_true, Lib.containsS_iff]
  intro hx
  obtain ⟨j, hj, rfl⟩ := List.getElem_of_mem hx
  have := h j hj
  rw [List.getD_eq_getElem?_getD, List.getElem?_eq_getElem hj, Option.getD_some, ba_same, decide_eq_false_iff_not] at this
  exact this rfl
theorem hasText_yes {M : List ByteArray} {x : ByteArray} {k : Nat} (hk : k < M.length) (h : ((M.getD k ByteArray.empty).toList == x.toList) = true) : Lib.containsS M x = true := by
  rw [Lib.containsS_iff]
  rw [ba_same, decide_eq_true_eq] at h
  rw [← h, List.getD_eq_getElem?_getD, List.getElem?_eq_getElem hk]
  exact List.getElem_mem hk

set_option maxRecDepth 100000 in
theorem spec_hasText (A : Option Addr) (c : Nat) (M : List ByteArray) (x : ByteArray) (hn : M.length ≤ 1000000) (w : World) (hm : RowAt w A M) :
    Calls Try.prog 61 #[.slice A M.length c, .string x] w fun e w' => e = .returned (.bool (Lib.containsS M x)) ∧ w' = w := by
  have HM := Lib.hid hm
  clear hm
  go_enter Try.func61, Try.ntmps61
  go_wp2
  go_loop [5] (fun i => ∃ k : Nat, k ≤ M.length ∧ i = .int .i64 k ∧ Hid (∀ j, j < k → ((M.getD j ByteArray.empty).toList == x.toList) = false)) (fun i => M.length - (intOf i).toNat)
  case atStart => exact ⟨0, Nat.zero_le _, rfl, Lib.hid (fun j h => by omega)⟩
  case round =>
    obtain ⟨k, hk, rfl, hto⟩ := hrel
    by_cases hlt : k < M.length
    · obtain ⟨g, rfl, hst, hg⟩ := HM.out (by omega)
      have hc := hst k hlt
      rw [Nat.zero_add] at hc
      clear hst
      cases he : ((M.getD k ByteArray.empty).toList == x.toList) with
      | true =>
        have HR := Lib.hid (hasText_yes hlt he)
        generalize M.getD k ByteArray.empty = y at *
        go_wp2
        go_ret
        exact ⟨by rw [HR.out]; rfl, rfl⟩
      | false =>
        have HT : Hid (∀ j, j < k + 1 → ((M.getD j ByteArray.empty).toList == x.toList) = false) := Lib.hid (fun j hj => by
          by_cases e : j = k
          · subst e; exact he
          · exact hto.out j (by omega))
        generalize M.getD k ByteArray.empty = y at *
        go_wp2
        go_round
        case rel => exact ⟨k + 1, by omega, by go_num, HT⟩
        case measure => simp [intOf]; omega
    · have HR := Lib.hid (hasText_no (x := x) (fun j (hj : j < M.length) => hto.out j (by omega)))
      go_wp2
      go_ret
      exact ⟨by rw [HR.out]; rfl, rfl⟩

/-- A struct that was laid lies in every later world; what lay ahead of it, too. -/
theorem box_below (w : World) (L : Int) (V : Value) (t : TypeId) (w' : World) (h : Below (w.heap.size + 1) (w.alloc (.cells #[.int .i64 L, V] t)) w') :
    w'.cell? ⟨w.heap.size, 0, none⟩ = some (.int .i64 L) ∧ w'.cell? ⟨w.heap.size, 1, none⟩ = some V ∧ Below w.heap.size w w' :=
  ⟨(h.cell (p := ⟨w.heap.size, 0, none⟩) (by show w.heap.size < _; omega)).trans (by simp), (h.cell (p := ⟨w.heap.size, 1, none⟩) (by show w.heap.size < _; omega)).trans (by simp),
    ((Below.refl w.heap.size w).alloc (Nat.le_refl _) _).trans (h.mono (by omega))⟩
/-! ### Whether a pair goes on -/
def testB (ps : List ByteArray) (x q : ByteArray) : Bool := decide (ch q 0 = ch x 1) && avoids ps (x ++ q.extract 1 q.size)
def testA (ps : List ByteArray) (x q : ByteArray) : Bool := decide (ch q 1 = ch x 0) && avoids ps (q ++ x.extract 1 x.size)
theorem any_no {f : ByteArray → Bool} {M : List ByteArray} (h : ∀ j, j < M.length → f (M.getD j ByteArray.empty) = false) : M.any f = false := by
  rw [← Bool.not_eq_true, List.any_eq_true]
  rintro ⟨q, hq, hf⟩
  obtain ⟨j, hj, rfl⟩ := List.getElem_of_mem hq
  have := h j hj
  rw [List.getD_eq_getElem?_getD, List.getElem?_eq_getElem hj, Option.getD_some, hf] at this
  cases this
theorem any_yes {f : ByteArray → Bool} {M : List ByteArray} {k : Nat} (hk : k < M.length) (h : f (M.getD k ByteArray.empty) = true) : M.any f = true := by
  rw [List.any_eq_true]
  refine ⟨_, ?_, h⟩
  rw [List.getD_eq_getElem?_getD, List.getElem?_eq_getElem hk]
  exact List.getElem_mem hk
theorem byte_eq (a b : UInt8) : ((a.toNat : Int) == (b.toNat : Int)) = decide (a = b) := by
  by_cases h : a = b
  · subst h; simp
  · rw [decide_eq_false h, beq_eq_false_iff_ne]
    intro e
    exact h (UInt8.toNat_inj.1 (by omega))

set_option maxRecDepth 100000 in
set_option maxHeartbeats 1600000 in
theorem spec_goesB (L : Int) (G : Option Addr) (c : Nat) (ps : List ByteArray) (hl : ps.length ≤ 1048576) (hz : ∀ k, k < ps.length → (ps.getD k ByteArray.empty).size ≤ 2147483648) (gm cm : Nat) (M : List ByteArray) (hn : M.length ≤ 1000000) (h2 : ∀ k, k < M.length → (M.getD k ByteArray.empty).size = 2) (x : ByteArray) (hx : x.size = 2) (w : World) (hs : StrsG w G ps) (hm : StrsAt w gm 0 M) (hgm : gm < w.heap.size) :
    Calls Try.prog 82 #[.agg #[.int .i64 L, .slice G ps.length c], .slice (some ⟨gm, 0, none⟩) M.length cm, .string x, .bool true] w (BoolPost (goesB ps M x) w) := by
  have HS := Lib.hid hs
  have HM := Lib.hid hm
  have HZ := Lib.hid hz
  have H2 := Lib.hid h2
  have HG : Hid (goesB ps M x = M.any (testB ps x)) := Lib.hid rfl
  clear hs hm hz h2
  go_enter Try.func82, Try.ntmps82
  go_wp2
  have HBX := Lib.hid (fun w' (h : Below (w.heap.size + 1) (w.alloc (.cells #[.int .i64 L, .slice G ps.length c] 27)) w') => box_below w L (.slice G ps.length c) 27 w' h)
  go_loopw [9] (fun i wr => ∃ k : Nat, k ≤ M.length ∧ i = .int .i64 k ∧ Hid (Below (w.heap.size + 1) (w.alloc (.cells #[.int .i64 L, .slice G ps.length c] 27)) wr) ∧ Hid (∀ j, j < k → testB ps x (M.getD j ByteArray.empty) = false)) (fun i _ => M.length - (intOf i).toNat)
  case atStart => exact ⟨0, Nat.zero_le _, rfl, Lib.hid (Below.refl _ _), Lib.hid (fun j h => by omega)⟩
  case round =>
    obtain ⟨k, hk, rfl, hbl, hto⟩ := hrel
    obtain ⟨x0, x1, hB⟩ := HBX.out wr hbl.out
    have HB := Lib.hid hB
    clear hB
    by_cases hlt : k < M.length
    · have hc := (HM.out.below HB.out hgm) k hlt
      rw [Nat.zero_add] at hc
      have hy := H2.out k hlt
      have HAV : Hid (∀ w', Below w.heap.size w w' → Calls Try.prog 39 #[.slice G ps.length c, .string (x ++ (M.getD k ByteArray.empty).extract 1 2)] w' fun e w'' => e = .returned (.bool (avoids ps (x ++ (M.getD k ByteArray.empty).extract 1 2))) ∧ w'' = w') :=
        Lib.hid (fun w' hw => spec_avoids G c ps _ hl HZ.out (by rw [ByteArray.size_append, ByteArray.size_extract]; omega) w' (HS.out.below hw))
      have j0 : (0 : Int) ≤ (k : Int) := by omega
      have j1 : (k : Int) < (M.length : Int) := by omega
      have HT : Hid (testB ps x (M.getD k ByteArray.empty) = (decide (ch (M.getD k ByteArray.empty) 0 = ch x 1) && avoids ps (x ++ (M.getD k ByteArray.empty).extract 1 2))) := Lib.hid (by
        unfold testB; rw [hy])
      have x8 : x.size + ((M.getD k ByteArray.empty).extract 1 2).size ≤ 9223372036854775807 := by rw [ByteArray.size_extract]; omega
      have x9 : ∀ w, (Op.stringOp .add x ((M.getD k ByteArray.empty).extract 1 2)).run Try.prog w = .ok (.string (x ++ (M.getD k ByteArray.empty).extract 1 2)) w := fun w => run_string_add_sum w _ _ x8
      have HY : Hid (∀ b, testB ps x (M.getD k ByteArray.empty) = b → (b = false → ∀ j, j < k + 1 → testB ps x (M.getD j ByteArray.empty) = false) ∧ (b = true → goesB ps M x = true)) := Lib.hid (fun b hb => ⟨fun e j hj => by
          by_cases ej : j = k
          · subst ej; rw [hb, e]
          · exact hto.out j (by omega), fun e => by rw [HG.out]; exact any_yes hlt (hb.trans e)⟩)
      generalize M.getD k ByteArray.empty = y at *
      clear x8
      have k0 : (0 : Nat) < y.size := by omega
      have k1 : (1 : Nat) < x.size := by omega
      have k2 : (1 : Nat) ≤ 2 := by omega
      have be := byte_eq y[0] x[1]
      rw [← ch_lt y 0 k0, ← ch_lt x 1 k1] at be
      cases he : decide (ch y 0 = ch x 1) with
      | false =>
        rw [he, ch_lt y 0 k0, ch_lt x 1 k1] at be
        have HF := Lib.hid ((HY.out _ HT.out).1 (by rw [he]; rfl))
        clear he
        go_wp2
        go_quiet (fail)
        go_wp2
        go_quiet (fail)
        go_wp2
        go_roundw
        case rel => exact ⟨k + 1, by omega, by go_num, Lib.hid (below_drewN hbl.out _), HF⟩
        case measure => simp [intOf]; omega
      | true =>
        rw [he, ch_lt y 0 k0, ch_lt x 1 k1] at be
        cases hv : avoids ps (x ++ y.extract 1 2) with
        | false =>
          have HF := Lib.hid ((HY.out _ HT.out).1 (by rw [he, hv]; rfl))
          rw [hv] at HAV
          clear he hv
          go_wp2
          go_quiet (first | (go_at_call 39; refine Calls.quiet_of_same (HAV.out _ (below_drewN HB.out _))))
          go_wp2
          go_quiet (fail)
          go_wp2
          go_roundw
          case rel => exact ⟨k + 1, by omega, by go_num, Lib.hid (below_drewN hbl.out _), HF⟩
          case measure => simp [intOf]; omega
        | true =>
          have HF := Lib.hid ((HY.out _ HT.out).2 (by rw [he, hv]; rfl))
          rw [hv] at HAV
          clear he hv
          go_wp2
          go_quiet (first | (go_at_call 39; refine Calls.quiet_of_same (HAV.out _ (below_drewN HB.out _))))
          go_wp2
          go_ret
          exact ⟨by rw [HF.out]; rfl, below_drewN HB.out _⟩
    · have HR := Lib.hid (any_no (fun j (hj : j < M.length) => hto.out j (by omega)))
      go_wp2
      go_ret
      exact ⟨by rw [HG.out, HR.out]; rfl, HB.out⟩
set_option maxRecDepth 100000 in
set_option maxHeartbeats 1600000 in
theorem spec_goesA (L : Int) (G : Option Addr) (c : Nat) (ps : List ByteArray) (hl : ps.length ≤ 1048576) (hz : ∀ k, k < ps.length → (ps.getD k ByteArray.empty).size ≤ 2147483648) (gm cm : Nat) (M : List ByteArray) (hn : M.length ≤ 1000000) (h2 : ∀ k, k < M.length → (M.getD k ByteArray.empty).size = 2) (x : ByteArray) (hx : x.size = 2) (w : World) (hs : StrsG w G ps) (hm : StrsAt w gm 0 M) (hgm : gm < w.heap.size) :
    Calls Try.prog 82 #[.agg #[.int .i64 L, .slice G ps.length c], .slice (some ⟨gm, 0, none⟩) M.length cm, .string x, .bool false] w (BoolPost (goesA ps M x) w) := by
  have HS := Lib.hid hs
  have HM := Lib.hid hm
  have HZ := Lib.hid hz
  have H2 := Lib.hid h2
  have HG : Hid (goesA ps M x = M.any (testA ps x)) := Lib.hid rfl
  clear hs hm hz h2
  go_enter Try.func82, Try.ntmps82
  go_wp2
  have HBX := Lib.hid (fun w' (h : Below (w.heap.size + 1) (w.alloc (.cells #[.int .i64 L, .slice G ps.length c] 27)) w') => box_below w L (.slice G ps.length c) 27 w' h)
  go_loopw [9] (fun i wr => ∃ k : Nat, k ≤ M.length ∧ i = .int .i64 k ∧ Hid (Below (w.heap.size + 1) (w.alloc (.cells #[.int .i64 L, .slice G ps.length c] 27)) wr) ∧ Hid (∀ j, j < k → testA ps x (M.getD j ByteArray.empty) = false)) (fun i _ => M.length - (intOf i).toNat)
  case atStart => exact ⟨0, Nat.zero_le _, rfl, Lib.hid (Below.refl _ _), Lib.hid (fun j h => by omega)⟩
  case round =>
    obtain ⟨k, hk, rfl, hbl, hto⟩ := hrel
    obtain ⟨x0, x1, hB⟩ := HBX.out wr hbl.out
    have HB := Lib.hid hB
    clear hB
    by_cases hlt : k < M.length
    · have hc := (HM.out.below HB.out hgm) k hlt
      rw [Nat.zero_add] at hc
      have hy := H2.out k hlt
      have HAV : Hid (∀ w', Below w.heap.size w w' → Calls Try.prog 39 #[.slice G ps.length c, .string ((M.getD k ByteArray.empty) ++ x.extract 1 2)] w' fun e w'' => e = .returned (.bool (avoids ps ((M.getD k ByteArray.empty) ++ x.extract 1 2))) ∧ w'' = w') :=
        Lib.hid (fun w' hw => spec_avoids G c ps _ hl HZ.out (by rw [ByteArray.size_append, ByteArray.size_extract]; omega) w' (HS.out.below hw))
      have j0 : (0 : Int) ≤ (k : Int) := by omega
      have j1 : (k : Int) < (M.length : Int) := by omega
      have HT : Hid (testA ps x (M.getD k ByteArray.empty) = (decide (ch (M.getD k ByteArray.empty) 1 = ch x 0) && avoids ps ((M.getD k ByteArray.empty) ++ x.extract 1 2))) := Lib.hid (by
        unfold testA; rw [hx])
      have x8 : (M.getD k ByteArray.empty).size + (x.extract 1 2).size ≤ 9223372036854775807 := by rw [ByteArray.size_extract]; omega
      have x9 : ∀ w, (Op.stringOp .add (M.getD k ByteArray.empty) (x.extract 1 2)).run Try.prog w = .ok (.string ((M.getD k ByteArray.empty) ++ x.extract 1 2)) w := fun w => run_string_add_sum w _ _ x8
      have HY : Hid (∀ b, testA ps x (M.getD k ByteArray.empty) = b → (b = false → ∀ j, j < k + 1 → testA ps x (M.getD j ByteArray.empty) = false) ∧ (b = true → goesA ps M x = true)) := Lib.hid (fun b hb => ⟨fun e j hj => by
          by_cases ej : j = k
          · subst ej; rw [hb, e]
          · exact hto.out j (by omega), fun e => by rw [HG.out]; exact any_yes hlt (hb.trans e)⟩)
      generalize M.getD k ByteArray.empty = y at *
      clear x8
      have k0 : (1 : Nat) < y.size := by omega
      have k1 : (0 : Nat) < x.size := by omega
      have k2 : (1 : Nat) ≤ 2 := by omega
      have be := byte_eq y[1] x[0]
      rw [← ch_lt y 1 k0, ← ch_lt x 0 k1] at be
      cases he : decide (ch y 1 = ch x 0) with
      | false =>
        rw [he, ch_lt y 1 k0, ch_lt x 0 k1] at be
        have HF := Lib.hid ((HY.out _ HT.out).1 (by rw [he]; rfl))
        clear he
        go_wp2
        go_quiet (fail)
        go_wp2
        go_quiet (fail)
        go_wp2
        go_roundw
        case rel => exact ⟨k + 1, by omega, by go_num, Lib.hid (below_drewN hbl.out _), HF⟩
        case measure => simp [intOf]; omega
      | true =>
        rw [he, ch_lt y 1 k0, ch_lt x 0 k1] at be
        cases hv : avoids ps (y ++ x.extract 1 2) with
        | false =>
          have HF := Lib.hid ((HY.out _ HT.out).1 (by rw [he, hv]; rfl))
          rw [hv] at HAV
          clear he hv
          go_wp2
          go_quiet (fail)
          have HB2 := Lib.hid (below_drewN HB.out nq)
          have HL2 := Lib.hid (below_drewN hbl.out nq)
          have hc2 : (wr.drewN nq).cell? ⟨gm, k, none⟩ = some (.string y) := hc
          have y0 : (wr.drewN nq).cell? ⟨w.heap.size, 0, none⟩ = some (.int .i64 L) := x0
          have y1 : (wr.drewN nq).cell? ⟨w.heap.size, 1, none⟩ = some (.slice G ps.length c) := x1
          obtain ⟨wq, hwq⟩ : ∃ wq, wr.drewN nq = wq := ⟨_, rfl⟩
          rw [hwq] at HB2 HL2 hc2 y0 y1 ⊢
          clear hwq
          go_wp2
          go_quiet (first | (go_at_call 39; refine Calls.quiet_of_same (HAV.out _ (below_drewN HB2.out _))))
          go_wp2
          go_roundw
          case rel => exact ⟨k + 1, by omega, by go_num, Lib.hid (below_drewN HL2.out _), HF⟩
          case measure => simp [intOf]; omega
        | true =>
          have HF := Lib.hid ((HY.out _ HT.out).2 (by rw [he, hv]; rfl))
          rw [hv] at HAV
          clear he hv
          go_wp2
          go_quiet (fail)
          have HB2 := Lib.hid (below_drewN HB.out nq)
          have HL2 := Lib.hid (below_drewN hbl.out nq)
          have hc2 : (wr.drewN nq).cell? ⟨gm, k, none⟩ = some (.string y) := hc
          have y0 : (wr.drewN nq).cell? ⟨w.heap.size, 0, none⟩ = some (.int .i64 L) := x0
          have y1 : (wr.drewN nq).cell? ⟨w.heap.size, 1, none⟩ = some (.slice G ps.length c) := x1
          obtain ⟨wq, hwq⟩ : ∃ wq, wr.drewN nq = wq := ⟨_, rfl⟩
          rw [hwq] at HB2 HL2 hc2 y0 y1 ⊢
          clear hwq
          go_wp2
          go_quiet (first | (go_at_call 39; refine Calls.quiet_of_same (HAV.out _ (below_drewN HB2.out _))))
          go_wp2
          go_ret
          exact ⟨by rw [HF.out]; rfl, below_drewN HB2.out _⟩
    · have HR := Lib.hid (any_no (fun j (hj : j < M.length) => hto.out j (by omega)))
      go_wp2
      go_ret
      exact ⟨by rw [HG.out, HR.out]; rfl, HB.out⟩
end Go.Proofs.Ytalclebehbdliaa
namespace Go.Proofs.Ytalclebehbdliaa
open Go Go.RowKit

/-- A copy of a table in new memory, at the heap's end. -/
def CopyGPost (m : List (List Int)) (w : World) (e : Ending) (w' : World) : Prop :=
  e = .returned (.slice (some ⟨w.heap.size, 0, none⟩) m.length m.length) ∧ OwnG w' w.heap.size (.slice (some ⟨w.heap.size, 0, none⟩) m.length m.length) m ∧ Below w.heap.size w w'

set_option maxRecDepth 100000 in
set_option maxHeartbeats 1600000 in
theorem same_grids (A1 A2 : Option Addr) (c1 c2 : Nat) (m : List (List Int)) (hn : m.length ≤ 1048576) (ht : tot m ≤ 1048576) (w : World) (h1 : GridS w A1 m) (h2 : GridS w A2 m) :
    Calls Try.prog 20 #[.slice A1 m.length c1, .slice A2 m.length c2] w (TrueBelowG w) := by
  have H1 := Lib.hid h1
  have H2 := Lib.hid h2
  clear h1 h2
  go_enter Try.func20, Try.ntmps20
  go_wp2
  go_loopw [5] (fun i wr => ∃ k : Nat, k ≤ m.length ∧ i = .int .i64 k ∧ Below w.heap.size w wr) (fun i _ => m.length - (intOf i).toNat)
  case atStart => exact ⟨0, Nat.zero_le _, rfl, Below.refl _ _⟩
  case round =>
    obtain ⟨k, hk, rfl, hbl⟩ := hrel
    by_cases hlt : k < m.length
    · obtain ⟨b1, o1, R1, d1, rfl, k1, hr1, hb1⟩ := (H1.out.below hbl).row hlt
      obtain ⟨b2, o2, R2, d2, rfl, k2, hr2, hb2⟩ := (H2.out.below hbl).row hlt
      have hx : (m.getD k []).length ≤ 1048576 := Nat.le_trans (row_le_tot hlt) ht
      generalize m.getD k [] = x at k1 k2 hr1 hr2 hx
      have HE : Hid (∀ w', Below wr.heap.size wr w' → Calls Try.prog 42 #[.slice R1 x.length d1, .slice R2 x.length d2] w' (TrueBelowG w')) := Lib.hid fun w' hb => same_ints R1 R2 d1 d2 x (by omega) w' (hr1.below hb) (hr2.below hb)
      have HB := Lib.hid hbl
      clear hbl hr1 hr2
      have g0 : (0 : Int) ≤ (k : Int) := by omega
      have g1 : (k : Int) < (m.length : Int) := by omega
      go_wp2
      go_region_held3 (fun w' => w'.cell? ⟨b1, o1 + k, none⟩ = some (.slice R1 x.length d1) ∧ w'.cell? ⟨b2, o2 + k, none⟩ = some (.slice R2 x.length d2)) (first | exact ⟨y0, y1⟩ | go_keep) (first | (go_at_call 42; refine (HE.out _ (by first | exact Below.refl _ _ | exact (Below.refl _ _).drew)).mono ?_; rintro e w2 ⟨rfl, hb3⟩; have y0 := (hb3.cell (p := ⟨b1, o1 + k, none⟩) hb1).trans k1; have y1 := (hb3.cell (p := ⟨b2, o2 + k, none⟩) hb2).trans k2))
      go_wp2
      go_roundw
      case rel => exact ⟨k + 1, by omega, by go_num, HB.out.drew.trans (hb3.mono HB.out.size)⟩
      case measure => simp [intOf]; omega
    · obtain rfl : k = m.length := by omega
      go_wp2
      go_ret
      exact ⟨rfl, hbl⟩

/-! ### Marks -/

/-- The numbers from q on. -/
def marksI (q : Nat) : Nat → List Int
  | 0 => []
  | n + 1 => (q : Int) :: marksI (q + 1) n
theorem marksI_length : ∀ (n q : Nat), (marksI q n).length = n
  | 0, _ => rfl
  | n + 1, q => by rw [marksI, List.length_cons, marksI_length n]
theorem marksI_get : ∀ (n q j : Nat), j < n → (marksI q n).getD j 0 = ((q + j : Nat) : Int)
  | 0, _, j, h => by omega
  | n + 1, q, 0, _ => by simp [marksI]
  | n + 1, q, j + 1, h => by
    rw [marksI, List.getD_cons_succ, marksI_get n (q + 1) j (by omega)]
    congr 1; omega
theorem marksI_next : ∀ (n q : Nat), marksI q (n + 1) = marksI q n ++ [((q + n : Nat) : Int)]
  | 0, q => rfl
  | n + 1, q => by
    rw [marksI, marksI_next n (q + 1), marksI, List.cons_append]
    congr 4; omega
/-- A row that is being marked from the front. -/
def markedI (xs : List Int) (q k : Nat) : List Value := ((marksI q k) ++ xs.drop k).map (Value.int .i64)
theorem markedI_set (xs : List Int) (q k : Nat) (h : k < xs.length) : (markedI xs q k).set k (.int .i64 ((q + k : Nat) : Int)) = markedI xs q (k + 1) := by
  have hl : ((marksI q k).map (Value.int .i64)).length = k := by rw [List.length_map, marksI_length]
  have hd : xs.drop k = xs[k] :: xs.drop (k + 1) := List.drop_eq_getElem_cons h
  unfold markedI
  rw [marksI_next, List.map_append, List.map_append, List.map_append, hd, List.map_cons]
  rw [List.set_append_right _ _ (by omega), hl, Nat.sub_self]
  simp
theorem markedI_at (xs : List Int) (q k : Nat) (h : k < xs.length) : ∃ y, (markedI xs q k)[k]? = some (.int .i64 y) := by
  have hl : (marksI q k).length = k := marksI_length k q
  refine ⟨xs[k], ?_⟩
  unfold markedI
  rw [List.getElem?_map, List.getElem?_append_right (by omega), hl, Nat.sub_self, List.getElem?_drop, Nat.add_zero, List.getElem?_eq_getElem h]
  rfl
theorem markedI_none (xs : List Int) (q : Nat) : markedI xs q 0 = xs.map (Value.int .i64) := by simp [markedI, marksI]
theorem markedI_all (xs : List Int) (q : Nat) : markedI xs q xs.length = (marksI q xs.length).map (Value.int .i64) := by simp [markedI]

/-- The row holds the marks from q on; of what was there no other block has turned. -/
def MarkIPost (B q : Nat) (r : Value) (n : Nat) (w : World) (e : Ending) (w' : World) : Prop :=
  e = .returned (.int .i64 ((q + n : Nat) : Int)) ∧ w'.ownsRow B 3 1 r n ((marksI q n).map (Value.int .i64)) ∧ w.grownBy w' r.ownBlock

set_option maxRecDepth 100000 in
set_option maxHeartbeats 800000 in
theorem mark_ints_some (B q g cap : Nat) (xs : List Int) (hq : q ≤ 1000000000000) (hn : xs.length ≤ 1099511627776) (w : World) (ho : w.ownsRow B 3 1 (.slice (some ⟨g, 0, none⟩) xs.length cap) xs.length (xs.map (Value.int .i64))) :
    Calls Try.prog 43 #[.slice (some ⟨g, 0, none⟩) xs.length cap, .int .i64 (q : Int)] w (MarkIPost B q (.slice (some ⟨g, 0, none⟩) xs.length cap) xs.length w) := by
  have HO0 := Lib.hid ho
  clear ho
  go_enter Try.func43, Try.ntmps43
  go_wp2
  go_loopw [1, 5] (fun p i wr => ∃ k : Nat, k ≤ xs.length ∧ p = .int .i64 ((q + k : Nat) : Int) ∧ i = .int .i64 k ∧ wr.ownsRow B 3 1 (.slice (some ⟨g, 0, none⟩) xs.length cap) xs.length (markedI xs q k) ∧ w.grownBy wr (some g)) (fun _ i _ => xs.length - (intOf i).toNat)
  case atStart => exact ⟨0, Nat.zero_le _, rfl, rfl, by rw [markedI_none]; exact HO0.out, World.grownBy.refl _ _⟩
  case round =>
    obtain ⟨k, hk, rfl, rfl, ho, hgr⟩ := hrel
    by_cases hlt : k < xs.length
    · obtain ⟨y, hy⟩ := markedI_at xs q k hlt
      have hc := (ho.cellAt k (by omega)).trans hy
      have hf := ho.frozenAt k
      have hst := ho.stored k (.int .i64 ((q + k : Nat) : Int))
      rw [markedI_set xs q k hlt] at hst
      have HS := Lib.hid hst.1
      have HG : Hid (w.grownBy (wr.setCell ⟨g, k, none⟩ (.int .i64 ((q + k : Nat) : Int))) (some g)) :=
        Lib.hid ⟨hst.2.os.trans hgr.os, hst.2.tape.trans hgr.tape, hst.2.output.trans hgr.output, Nat.le_trans hgr.size hst.2.size, fun j hj hne => (hst.2.block j (Nat.lt_of_lt_of_le hj hgr.size) hne).trans (hgr.block j hj hne)⟩
      clear hst ho hgr hy
      go_wp2
      go_roundw
      case rel => exact ⟨k + 1, by omega, by go_num, by go_num, HS.out, HG.out⟩
      case measure => simp [intOf]; omega
    · obtain rfl : k = xs.length := by omega
      rw [markedI_all] at ho
      have HO := Lib.hid ho
      clear ho
      go_wp2
      go_ret
      exact ⟨rfl, HO.out, hgr⟩
theorem mark_ints_none (A : Option Addr) (c : Nat) (q : Int) (w : World) :
    Calls Try.prog 43 #[.slice A 0 c, .int .i64 q] w fun e w' => e = .returned (.int .i64 q) ∧ w' = w := by
  go_enter Try.func43, Try.ntmps43
  go_wp2
  go_loop [1, 5] (fun p i => p = .int .i64 q ∧ i = .int .i64 0) (fun _ _ => 0)
  case atStart => exact ⟨rfl, rfl⟩
  case round =>
    obtain ⟨rfl, rfl⟩ := hrel
    go_wp2
    go_ret
    exact ⟨rfl, rfl⟩
theorem mark_ints (B q : Nat) (r : Value) (xs : List Int) (hq : q ≤ 1000000000000) (hn : xs.length ≤ 1099511627776) (w : World) (ho : w.ownsRow B 3 1 r xs.length (xs.map (Value.int .i64))) :
    Calls Try.prog 43 #[r, .int .i64 (q : Int)] w (MarkIPost B q r xs.length w) := by
  have ho' := ho
  rcases ho.2 with ⟨rfl, h0⟩ | ⟨g, cap, cur, rfl, _⟩
  · refine (mark_ints_none none 0 q w).mono ?_
    rintro e w' ⟨rfl, rfl⟩
    rw [h0]
    refine ⟨rfl, ?_, World.grownBy.refl _ _⟩
    obtain rfl : xs = [] := List.eq_nil_of_length_eq_zero h0
    exact ho'
  · exact mark_ints_some B q g cap xs hq hn w ho'

/-- The tables of marks: each row goes on where the one before it ended. -/
def marksG : Nat → List (List Int) → List (List Int)
  | _, [] => []
  | q, r :: m => marksI q r.length :: marksG (q + r.length) m
theorem marksG_length : ∀ (m : List (List Int)) (q : Nat), (marksG q m).length = m.length
  | [], _ => rfl
  | r :: m, q => by rw [marksG, List.length_cons, marksG_length m, List.length_cons]
theorem tot_cons (r : List Int) (m : List (List Int)) : tot (r :: m) = r.length + tot m := by simp [tot]
theorem marksG_get : ∀ (m : List (List Int)) (q k : Nat), k < m.length → (marksG q m).getD k [] = marksI (q + tot (m.take k)) (m.getD k []).length
  | [], _, k, h => by simp at h
  | r :: m, q, 0, _ => by simp [marksG, tot]
  | r :: m, q, k + 1, h => by
    rw [marksG, List.getD_cons_succ, marksG_get m (q + r.length) k (by simpa using h), List.getD_cons_succ, List.take_succ_cons, tot_cons]
    congr 1; omega
theorem tot_marksG : ∀ (m : List (List Int)) (q : Nat), tot (marksG q m) = tot m
  | [], _ => rfl
  | r :: m, q => by rw [marksG, tot_cons, tot_cons, marksI_length, tot_marksG m]
/-- A table that is being marked from the front. -/
def markedG (m : List (List Int)) (q k : Nat) : List (List Int) := (marksG q m).take k ++ m.drop k
theorem markedG_length (m : List (List Int)) (q k : Nat) (hk : k ≤ m.length) : (markedG m q k).length = m.length := by
  unfold markedG; simp [marksG_length]; omega
theorem markedG_none (m : List (List Int)) (q : Nat) : markedG m q 0 = m := by simp [markedG]
theorem markedG_all (m : List (List Int)) (q : Nat) : markedG m q m.length = marksG q m := by
  unfold markedG
  rw [List.drop_length, List.append_nil, List.take_of_length_le (by rw [marksG_length]; exact Nat.le_refl _)]
theorem markedG_get (m : List (List Int)) (q k : Nat) (hk : k < m.length) : (markedG m q k).getD k [] = m.getD k [] := by
  unfold markedG
  have hl : ((marksG q m).take k).length = k := by rw [List.length_take, marksG_length]; omega
  simp only [List.getD]
  rw [List.getElem?_append_right (by omega), hl, Nat.sub_self, List.getElem?_drop, Nat.add_zero]
theorem markedG_set (m : List (List Int)) (q k : Nat) (hk : k < m.length) : (markedG m q k).set k (marksI (q + tot (m.take k)) (m.getD k []).length) = markedG m q (k + 1) := by
  unfold markedG
  have hl : ((marksG q m).take k).length = k := by rw [List.length_take, marksG_length]; omega
  have hm : k < (marksG q m).length := by rw [marksG_length]; exact hk
  have hd : m.drop k = m[k] :: m.drop (k + 1) := List.drop_eq_getElem_cons hk
  have hg := marksG_get m q k hk
  rw [List.set_append_right _ _ (by omega), hl, Nat.sub_self, hd, List.set_cons_zero, List.take_succ_eq_append_getElem hm, List.append_assoc, List.singleton_append]
  congr 2
  rw [← hg]
  simp [List.getD, hm]

/-- The table holds the marks; of what was there only blocks from B on and below S have turned. -/
def MarkGPost (B S q : Nat) (v : Value) (m : List (List Int)) (w : World) (e : Ending) (w' : World) : Prop :=
  e = .returned (.int .i64 ((q + tot m : Nat) : Int)) ∧ OwnIn w' B S v (marksG q m) ∧ Within B S w w'

set_option maxRecDepth 100000 in
set_option maxHeartbeats 800000 in
theorem mark_grid (B S q : Nat) (v : Value) (m : List (List Int)) (hq : q ≤ 100000000000) (hn : m.length ≤ 1048576) (ht : tot m ≤ 1048576) (w : World) (ho : OwnIn w B S v m) :
    Calls Try.prog 21 #[v, .int .i64 (q : Int)] w (MarkGPost B S q v m w) := by
  obtain ⟨A, c, rfl, -⟩ := ho.ownG.gridS
  obtain ⟨vs, hov0, hrv0, hin⟩ := ho
  have HO0 := Lib.hid hov0
  have HR0 := Lib.hid hrv0
  have HIN := Lib.hid hin
  clear hov0 hrv0 hin
  go_enter Try.func21, Try.ntmps21
  go_wp2
  go_loopw [1, 5] (fun p i wr => ∃ k : Nat, k ≤ m.length ∧ p = .int .i64 ((q + tot (m.take k) : Nat) : Int) ∧ i = .int .i64 k ∧ wr.ownsRow B 49 1 (.slice A m.length c) m.length vs ∧ RowsOwn wr B (Value.slice A m.length c).ownBlock vs (markedG m q k) ∧ Within B S w wr) (fun _ i _ => m.length - (intOf i).toNat)
  case atStart => exact ⟨0, Nat.zero_le _, rfl, rfl, HO0.out, by rw [markedG_none]; exact HR0.out, Within.refl _ _ _⟩
  case round =>
    obtain ⟨k, hk, rfl, rfl, hov, hrv, hw⟩ := hrel
    have hlen := markedG_length m q k hk
    by_cases hlt : k < m.length
    · rcases hov.2 with ⟨e0, h0⟩ | ⟨g, cap, cur, e0, _⟩
      · omega
      simp only [Value.slice.injEq, true_and] at e0
      obtain ⟨rfl, rfl⟩ := e0
      have hvl := hrv.len
      have hvk : vs[k]? = some vs[k] := List.getElem?_eq_getElem (by omega)
      obtain ⟨hrk, hrb⟩ := hrv.row k _ hvk
      rw [markedG_get m q k hlt] at hrk
      have hc1 : wr.cell? ⟨g, k, none⟩ = some vs[k] := (hov.cellAt k (by omega)).trans hvk
      have hx : (m.getD k []).length ≤ 1048576 := Nat.le_trans (row_le_tot hlt) ht
      have hq2 : tot (m.take k) ≤ 1048576 := Nat.le_trans (tot_take_le m k) ht
      have HNX := Lib.hid (tot_next m k hlt)
      have HST := Lib.hid (markedG_set m q k hlt)
      have HGT : Hid (((markedG m q k).getD k []).length = (m.getD k []).length) := Lib.hid (by rw [markedG_get m q k hlt])
      have HM := Lib.hid (mark_ints B (q + tot (m.take k)) vs[k] (m.getD k []) (by omega) (by omega) wr hrk)
      have HOV := Lib.hid hov
      have HRV := Lib.hid hrv
      have HVK := Lib.hid hvk
      have HB : Hid (∀ h, vs[k].ownBlock = some h → B ≤ h ∧ h < S) := Lib.hid fun h hh => ⟨(hrk.lt h hh).1, HIN.out k _ h hvk hh⟩
      obtain ⟨A', c', hr'⟩ := slice_of_owns hrk
      have HW := Lib.hid hw
      clear hov hrv hrk hvk hw
      generalize vs[k] = r at hc1 HM HB HVK hrb hr'
      subst hr'
      generalize hqq : q + tot (m.take k) = q' at *
      generalize (m.getD k []).length = n at *
      go_wp2_with fail
      refine HM.out.mono ?_
      rintro e w1 ⟨rfl, ho1, hg1⟩
      have h2 := OwnG.setRow (xs := marksI q' n) HOV.out HRV.out HVK.out (by rw [marksI_length]; exact HGT.out.symm) (by rw [marksI_length]; exact ho1) hg1
      rw [HST.out] at h2
      have H2 := Lib.hid h2
      have HW2 := Lib.hid (HW.out.trans (Within.of_grown hg1 HB.out))
      clear h2 ho1 hg1
      go_wp2
      go_roundw
      case rel => exact ⟨k + 1, by omega, by rw [HNX.out, ← Nat.add_assoc, hqq]; go_num, by go_num, H2.out.1, H2.out.2, HW2.out⟩
      case measure => simp [intOf]; omega
    · obtain rfl : k = m.length := by omega
      rw [markedG_all] at hrv
      have HO := Lib.hid hov
      have HR := Lib.hid hrv
      clear hov hrv
      go_wp2
      go_ret
      exact ⟨by rw [tot_all (Nat.le_refl _)]; rfl, ⟨vs, by rw [marksG_length]; exact HO.out, HR.out, HIN.out⟩, hw⟩

/-! ### Looking at marks -/

set_option maxRecDepth 100000 in
set_option maxHeartbeats 400000 in
theorem held_ints (q n : Nat) (A : Option Addr) (c : Nat) (hq : q ≤ 1000000000000) (hn : n ≤ 1099511627776) (w : World) (h : RowS w A (marksI q n)) :
    Calls Try.prog 44 #[.slice A n c, .int .i64 (q : Int)] w fun e w' => e = .returned (.int .i64 ((q + n : Nat) : Int)) ∧ w' = w := by
  have HT := Lib.hid h
  clear h
  go_enter Try.func44, Try.ntmps44
  go_wp2
  go_loop [1, 5] (fun p i => ∃ k : Nat, k ≤ n ∧ p = .int .i64 ((q + k : Nat) : Int) ∧ i = .int .i64 k) (fun _ i => n - (intOf i).toNat)
  case atStart => exact ⟨0, Nat.zero_le _, rfl, rfl⟩
  case round =>
    obtain ⟨k, hk, rfl, rfl⟩ := hrel
    by_cases hlt : k < n
    · obtain ⟨b, off, rfl, hat, hb⟩ := HT.out (by rw [marksI_length]; omega)
      have hc := hat k (by rw [marksI_length]; exact hlt)
      rw [marksI_get n q k hlt] at hc
      clear hat
      go_wp2
      go_round
      case rel => exact ⟨k + 1, by omega, by go_num, by go_num⟩
      case measure => simp [intOf]; omega
    · obtain rfl : k = n := by omega
      go_wp2
      go_ret
      exact ⟨rfl, rfl⟩

set_option maxRecDepth 100000 in
set_option maxHeartbeats 400000 in
theorem held_grid (q : Nat) (m : List (List Int)) (A : Option Addr) (c : Nat) (hq : q ≤ 100000000000) (hn : m.length ≤ 1048576) (ht : tot m ≤ 1048576) (w : World) (h : GridS w A (marksG q m)) :
    Calls Try.prog 22 #[.slice A m.length c, .int .i64 (q : Int)] w fun e w' => e = .returned (.int .i64 ((q + tot m : Nat) : Int)) ∧ w' = w := by
  have HT := Lib.hid h
  clear h
  go_enter Try.func22, Try.ntmps22
  go_wp2
  go_loop [1, 5] (fun p i => ∃ k : Nat, k ≤ m.length ∧ p = .int .i64 ((q + tot (m.take k) : Nat) : Int) ∧ i = .int .i64 k) (fun _ i => m.length - (intOf i).toNat)
  case atStart => exact ⟨0, Nat.zero_le _, rfl, rfl⟩
  case round =>
    obtain ⟨k, hk, rfl, rfl⟩ := hrel
    by_cases hlt : k < m.length
    · obtain ⟨b, off, A', c', rfl, hc, hrow, hb⟩ := HT.out.row (k := k) (by rw [marksG_length]; exact hlt)
      rw [marksG_get m q k hlt, marksI_length] at hc
      rw [marksG_get m q k hlt] at hrow
      have hx : (m.getD k []).length ≤ 1048576 := Nat.le_trans (row_le_tot hlt) ht
      have hq2 : tot (m.take k) ≤ 1048576 := Nat.le_trans (tot_take_le m k) ht
      have HNX := Lib.hid (tot_next m k hlt)
      have HH := Lib.hid (held_ints (q + tot (m.take k)) (m.getD k []).length A' c' (by omega) (by omega) w hrow)
      clear hrow
      generalize (m.getD k []).length = n at hc hx HNX HH
      generalize hqq : q + tot (m.take k) = q' at *
      go_wp2_with fail
      refine HH.out.mono ?_
      rintro e w1 ⟨rfl, rfl⟩
      go_wp2
      go_round
      case rel => exact ⟨k + 1, by omega, by rw [HNX.out, ← Nat.add_assoc, hqq]; go_num, by go_num⟩
      case measure => simp [intOf]; omega
    · obtain rfl : k = m.length := by omega
      go_wp2
      go_ret
      exact ⟨rfl, rfl⟩
end Go.Proofs.Ytalclebehbdliaa
namespace Go.Proofs.Ytalclebehbdliaa
open Go Go.RowKit

/-- The value is a slice that holds the table m. -/
def GridV (w : World) (v : Value) (m : List (List Int)) : Prop := ∃ A c, v = .slice A m.length c ∧ GridS w A m
theorem GridV.below {w w' : World} {v : Value} {m : List (List Int)} (h : GridV w v m) (hb : Below w.heap.size w w') : GridV w' v m := by
  obtain ⟨A, c, hv, hg⟩ := h
  exact ⟨A, c, hv, hg.below hb⟩
theorem OwnG.gridV {w : World} {B : Nat} {v : Value} {m : List (List Int)} (h : OwnG w B v m) : GridV w v m := h.gridS
/-- The table is not too large. -/
def SizeB (m : List (List Int)) : Prop := m.length + tot m ≤ 1048576
/-- No slice is longer than a slice can be. -/
def SizeA (m : List (List Int)) : Prop := m.length ≤ 9223372036854775807 ∧ ∀ k, k < m.length → (m.getD k []).length ≤ 9223372036854775807

/-- All blocks that were there from B on are as they were. -/
structure From (B : Nat) (w w' : World) : Prop where
  size : w.heap.size ≤ w'.heap.size
  block : ∀ k, B ≤ k → k < w.heap.size → w'.heap[k]? = w.heap[k]?
namespace From
variable {B : Nat} {w w' w'' : World}
theorem refl (B : Nat) (w : World) : From B w w := ⟨Nat.le_refl _, fun _ _ _ => rfl⟩
theorem trans (h : From B w w') (k : From B w' w'') : From B w w'' := ⟨Nat.le_trans h.size k.size, fun j h1 h2 => (k.block j h1 (Nat.lt_of_lt_of_le h2 h.size)).trans (h.block j h1 h2)⟩
theorem of_below (h : Below w.heap.size w w') : From B w w' := ⟨h.size, fun k _ hk => h.block k hk⟩
theorem of_within {B' S' : Nat} (h : Within B' S' w w') (hS : S' ≤ B) : From B w w' := ⟨h.size, fun k h1 h2 => h.block k h2 (Or.inr (by omega))⟩
theorem owns {e n : Nat} {v : Value} {xs : List Value} (h : w.ownsRow B e 1 v n xs) (hf : From B w w') : w'.ownsRow B e 1 v n xs := by
  refine ⟨h.1, ?_⟩
  rcases h.2 with hn | ⟨g, cap, cur, rfl, hb, hgg, rest⟩
  · exact .inl hn
  · refine .inr ⟨g, cap, cur, rfl, hb, ?_, rest⟩
    rw [hf.block g hb (Array.getElem?_eq_some_iff.1 hgg).1]
    exact hgg
theorem ownIn {S : Nat} {v : Value} {m : List (List Int)} (h : OwnIn w B S v m) (hf : From B w w') : OwnIn w' B S v m := by
  obtain ⟨vs, ho, hr, hs⟩ := h
  exact ⟨vs, owns ho hf, ⟨hr.len, fun k r hk => ⟨owns (hr.row k r hk).1 hf, (hr.row k r hk).2⟩, hr.two⟩, hs⟩
end From

/-- A table has been marked: only blocks from B on and below S have turned. -/
def MarkedG (B S : Nat) (v : Value) (m : List (List Int)) (w : World) (e : Ending) (w' : World) : Prop := e = .returned (.int .i64 ((1 + tot m : Nat) : Int)) ∧ GridV w' v (marksG 1 m) ∧ Within B S w w'
/-- A result in memory of its own, from B on: it holds the table, and can be marked, as long as that memory stays as it is. -/
def ResG (w : World) (B : Nat) (v : Value) (m : List (List Int)) : Prop :=
  ∀ w', From B w w' → GridV w' v m ∧ Calls Try.prog 21 #[v, .int .i64 1] w' (MarkedG B w.heap.size v m w')
theorem OwnIn.marked {w : World} {B S : Nat} {v : Value} {m : List (List Int)} (h : OwnIn w B S v m) (hm : SizeB m) : Calls Try.prog 21 #[v, .int .i64 1] w (MarkedG B S v m w) := by
  unfold SizeB at hm
  refine (mark_grid B S 1 v m (by decide) (by omega) (by omega) w h).mono ?_
  rintro e w' ⟨he, ho, hw⟩
  exact ⟨he, ho.ownG.gridV, hw⟩
/-- The same from a number on; how far it came does not matter. -/
def MarkedX (B S q : Nat) (w : World) (e : Ending) (w' : World) : Prop := ∃ K : Nat, e = .returned (.int .i64 (K : Int)) ∧ K ≤ q + 1048576 ∧ Within B S w w'
theorem OwnIn.markedX {w : World} {B S : Nat} {v : Value} {m : List (List Int)} (h : OwnIn w B S v m) (hm : SizeB m) (q : Nat) (hq : q ≤ 100000000000) : Calls Try.prog 21 #[v, .int .i64 (q : Int)] w (MarkedX B S q w) := by
  unfold SizeB at hm
  refine (mark_grid B S q v m hq (by omega) (by omega) w h).mono ?_
  rintro e w' ⟨he, _, hw⟩
  exact ⟨_, he, by omega, hw⟩
theorem OwnG.res {w : World} {B : Nat} {v : Value} {m : List (List Int)} (h : OwnG w B v m) (hm : SizeB m) : ResG w B v m := by
  intro w' hf
  have h' := From.ownIn h.ownIn hf
  exact ⟨h'.ownG.gridV, h'.marked hm⟩

/-! ### The helpers' contracts -/

theorem eqV (m : List (List Int)) (hm : SizeB m) (v v' : Value) (w : World) (h : GridV w v m) (h' : GridV w v' m) : Calls Try.prog 20 #[v, v'] w (TrueBelowG w) := by
  obtain ⟨A, c, rfl, hg⟩ := h
  obtain ⟨A', c', rfl, hg'⟩ := h'
  unfold SizeB at hm
  exact same_grids A A' c c' m (by omega) (by omega) w hg hg'
def HeldG (n : Nat) (w : World) (e : Ending) (w' : World) : Prop := e = .returned (.int .i64 (n : Int)) ∧ Below w.heap.size w w'
theorem heldV (m : List (List Int)) (hm : SizeB m) (v : Value) (w : World) (h : GridV w v (marksG 1 m)) : Calls Try.prog 22 #[v, .int .i64 1] w (HeldG (1 + tot m) w) := by
  obtain ⟨A, c, rfl, hg⟩ := h
  rw [marksG_length]
  unfold SizeB at hm
  refine (held_grid 1 m A c (by decide) (by omega) (by omega) w hg).mono ?_
  rintro e w' ⟨he, rfl⟩
  exact ⟨he, Below.refl _ _⟩
theorem below_behind {w w1 w2 : World} (h : Below w.heap.size w w1) (k : Below w1.heap.size w1 w2) : Below w.heap.size w w2 := h.trans (k.mono h.size)

/-- What a function answers: a value that is no slice. -/
def Scalar (x : Value) (w : World) (e : Ending) (w' : World) : Prop := e = .returned x ∧ Below w.heap.size w w'
/-- The model's table, the program's table; each with a bool, too. -/
def SpecG (m : List (List Int)) (w : World) (e : Ending) (w' : World) : Prop := ∃ v, e = .returned v ∧ GridV w' v m ∧ Below w.heap.size w w'
def ImplG (m : List (List Int)) (w : World) (e : Ending) (w' : World) : Prop := ∃ v, e = .returned v ∧ ResG w' w.heap.size v m ∧ Below w.heap.size w w'
def SpecGB (m : List (List Int)) (b : Bool) (w : World) (e : Ending) (w' : World) : Prop := ∃ v, e = .returned (.tuple #[v, .bool b]) ∧ GridV w' v m ∧ Below w.heap.size w w'
def ImplGB (m : List (List Int)) (b : Bool) (w : World) (e : Ending) (w' : World) : Prop := ∃ v, e = .returned (.tuple #[v, .bool b]) ∧ ResG w' w.heap.size v m ∧ Below w.heap.size w w'
end Go.Proofs.Ytalclebehbdliaa
namespace Go.Proofs.Ytalclebehbdliaa
open Go Go.RowKit

theorem tot_le_of {m : List (List Int)} {n : Nat} (h : ∀ r, r ∈ m → r.length ≤ n) : tot m ≤ m.length * n := by
  induction m with
  | nil => simp [tot]
  | cons r m ih =>
    have h1 := h r (by simp)
    have h2 := ih fun s hs => h s (by simp [hs])
    have e : tot (r :: m) = r.length + tot m := by simp [tot]
    rw [e, List.length_cons, Nat.add_mul, Nat.one_mul]; omega
theorem tot_isMat {m : List (List Int)} (h : MatFacts m) : tot m ≤ 81 := by
  have h1 := tot_le_of (m := m) (n := 9) fun r hr => by
    obtain ⟨i, hi, rfl⟩ := List.getElem_of_mem hr
    have := h.row i hi
    have e : m.getD i [] = m[i] := by simp [List.getD, hi]
    rw [e] at this
    have := h.le
    omega
  have := h.le
  omega

theorem sizeB_facts {m : List (List Int)} (h : MatFacts m) : SizeB m := by
  have := h.le
  have := tot_isMat h
  unfold SizeB; omega
theorem sizeB_nil : SizeB [] := by unfold SizeB; decide
/-- What a function of one table, of two answers at the laws' copies. -/
def At1 (W : World) (f : Nat) (m : List (List Int)) (P : World → Ending → World → Prop) : Prop := ∀ v w', Below W.heap.size W w' → SizeB m → OwnG w' W.heap.size v m → Calls Try.prog f #[v] w' (P w')
def At1I (W : World) (f : Nat) (m : List (List Int)) (n : Int) (P : World → Ending → World → Prop) : Prop := ∀ v w', Below W.heap.size W w' → SizeB m → OwnG w' W.heap.size v m → Calls Try.prog f #[v, .int .i64 n] w' (P w')
def At2 (W : World) (f : Nat) (a b : List (List Int)) (P : World → Ending → World → Prop) : Prop := ∀ v v' w', Below W.heap.size W w' → SizeB a → SizeB b → OwnG w' W.heap.size v a → OwnG w' W.heap.size v' b → Calls Try.prog f #[v, v'] w' (P w')

theorem rows_le {m : List (List Int)} (h : SizeB m) : m.length ≤ 1048576 ∧ tot m ≤ 1048576 ∧ ∀ k, k < m.length → (m.getD k []).length ≤ 1099511627776 := by
  unfold SizeB at h
  exact ⟨by omega, by omega, fun k hk => by have := row_le_tot hk; omega⟩
end Go.Proofs.Ytalclebehbdliaa
namespace Go.Proofs.Ytalclebehbdliaa
open Go Go.RowKit

/-- The diagonal's first k ones. -/
def oneF (k : Nat) : Nat → Nat → Int := fun i j => if i = j ∧ i < k then 1 else 0
theorem oneF_zero (n : Nat) : tabOf n n (oneF 0) = tabOf n n fun _ _ => 0 := tabOf_congr fun i j _ _ => by unfold oneF; rw [if_neg (by omega)]
theorem oneF_next (n k : Nat) (hk : k < n) : (tabOf n n (oneF k)).set k (((tabOf n n (oneF k)).getD k []).set k 1) = tabOf n n (oneF (k + 1)) := by
  rw [tabOf_set _ _ hk]
  refine tabOf_congr fun i j _ _ => ?_
  unfold oneF
  by_cases e : i = k ∧ j = k
  · obtain ⟨rfl, rfl⟩ := e
    rw [if_pos ⟨rfl, rfl⟩, if_pos ⟨rfl, by omega⟩]
  · rw [if_neg e]
    by_cases h : i = j ∧ i < k
    · rw [if_pos h, if_pos (by omega)]
    · rw [if_neg h, if_neg (by omega)]
theorem oneF_all (n : Nat) : tabOf n n (oneF n) = oneM n := tabOf_congr fun i j hi _ => by
  unfold oneF
  by_cases h : i = j
  · rw [if_pos ⟨h, hi⟩, if_pos h]
  · rw [if_neg (fun e => h e.1), if_neg h]

/-- PowerMatrix. -/
def powS (m : List (List Int)) (n : Int) : Option (List (List Int)) := if isMat m = true ∧ 0 ≤ n ∧ n ≤ 30 then powM m n.toNat else none

/-- A table that is being filled: all columns ahead of i, and j numbers of column i. -/
def turnF (m : List (List Int)) (i j : Nat) : Nat → Nat → Int := fun i' j' => if j' < i ∨ (j' = i ∧ i' < j) then cellOf m j' i' else 0
theorem turnF_zero (m : List (List Int)) (n : Nat) : tabOf n n (turnF m 0 0) = tabOf n n fun _ _ => 0 := tabOf_congr fun i j _ _ => by unfold turnF; rw [if_neg (by omega)]
theorem turnF_next (m : List (List Int)) (n i j : Nat) (hj : j < n) : (tabOf n n (turnF m i j)).set j (((tabOf n n (turnF m i j)).getD j []).set i (cellOf m i j)) = tabOf n n (turnF m i (j + 1)) := by
  rw [tabOf_set _ _ hj]
  refine tabOf_congr fun i' j' _ _ => ?_
  unfold turnF
  by_cases e : i' = j ∧ j' = i
  · obtain ⟨rfl, rfl⟩ := e
    rw [if_pos ⟨rfl, rfl⟩, if_pos (by omega)]
  · rw [if_neg e]
    by_cases h : j' < i ∨ (j' = i ∧ i' < j)
    · rw [if_pos h, if_pos (by omega)]
    · rw [if_neg h, if_neg (by omega)]
theorem turnF_row (m : List (List Int)) (n i : Nat) : tabOf n n (turnF m i n) = tabOf n n (turnF m (i + 1) 0) := tabOf_congr fun i' j' hi _ => by
  unfold turnF
  by_cases h : j' < i ∨ (j' = i ∧ i' < n)
  · rw [if_pos h, if_pos (by omega)]
  · rw [if_neg h, if_neg (by omega)]
theorem turnF_all (m : List (List Int)) : tabOf m.length m.length (turnF m m.length 0) = turnM m := tabOf_congr fun i' j' _ hj => by
  unfold turnF; rw [if_pos (Or.inl hj)]

/-- TurnMatrix. -/
def turnS (m : List (List Int)) : List (List Int) := if isMat m = true then turnM m else []
end Go.Proofs.Ytalclebehbdliaa
namespace Go.Proofs.Ytalclebehbdliaa
open Go Go.RowKit

def goesQ (ps : List ByteArray) (p q : ByteArray) : Bool := decide (ch p 1 = ch q 0) && avoids ps (p ++ q.extract 1 q.size)
def arcQ (ps M : List ByteArray) (i j : Nat) : Int := if goesQ ps (M.getD i ByteArray.empty) (M.getD j ByteArray.empty) = true then 1 else 0
def tabQ (ps M : List ByteArray) : List (List Int) := tabOf M.length M.length (arcQ ps M)

set_option maxRecDepth 100000 in
set_option maxHeartbeats 6400000 in
theorem spec_graphOf_of (L : Int) (G : Option Addr) (c : Nat) (ps : List ByteArray) (hl : ps.length ≤ 1048576) (hz : ∀ k, k < ps.length → (ps.getD k ByteArray.empty).size ≤ 2147483648) (M : List ByteArray) (h2 : ∀ k, k < M.length → (M.getD k ByteArray.empty).size = 2) (h9 : M.length ≤ 1000) (w : World) (hs : StrsG w G ps)
    (hST : ∀ w', Below w.heap.size w w' → Calls Try.prog 10 #[.agg #[.int .i64 L, .slice G ps.length c]] w' (ListPost M w')) :
    Calls Try.prog 18 #[.agg #[.int .i64 L, .slice G ps.length c]] w (NewGB (if M.length = 0 then none else some (tabQ ps M)) w) := by
  have HS := Lib.hid hs
  have HZ := Lib.hid hz
  have H2 := Lib.hid h2
  have HST := Lib.hid hST
  have HZR := Lib.hid (fun w' => spec_zero M.length M.length (by omega) (by omega) w')
  obtain ⟨R, hR⟩ : ∃ R, (if M.length = 0 then none else some (tabQ ps M)) = R := ⟨_, rfl⟩
  have HR0 := Lib.hid hR
  rw [hR]
  clear hs hz h2 hST hR
  go_enter Try.func18, Try.ntmps18
  go_wp2_with fail
  obtain ⟨Wb, hWb⟩ : ∃ Wb, w.alloc (.cells #[.int .i64 L, .slice G ps.length c] 27) = Wb := ⟨_, rfl⟩
  have sb : Wb.heap.size = w.heap.size + 1 := by rw [← hWb]; simp
  have xb : BoxAt Wb w.heap.size L (.slice G ps.length c) := by rw [← hWb]; exact boxAt_new w L _ 27
  have bb : Below w.heap.size w Wb := by rw [← hWb]; exact (Below.refl _ _).alloc (Nat.le_refl _) _
  rw [hWb]
  clear hWb
  have XB := Lib.hid xb
  have BB := Lib.hid bb
  clear xb bb
  refine (HST.out Wb BB.out).mono ?_
  rintro e w1 ⟨v, rfl, ho, b1⟩
  obtain ⟨A, cM, rfl⟩ : ∃ A c, v = .slice A M.length c := by
    rcases ho.2 with ⟨rfl, h0⟩ | ⟨b, cc, cur, rfl, _⟩
    · exact ⟨none, 0, by rw [h0]⟩
    · exact ⟨_, cc, rfl⟩
  have s1 := b1.size
  have B1 := Lib.hid (BB.out.trans (b1.mono (by omega)))
  have X1 := Lib.hid (XB.out.below b1 (by omega))
  have O1 := Lib.hid ho
  clear ho b1
  by_cases h0 : M.length = 0
  · obtain rfl : R = none := HR0.out.symm.trans (if_pos h0)
    clear HR0
    have hz0 : ((M.length : Int) == 0) = true := by rw [h0]; rfl
    go_wp2
    go_ret2
    exact ⟨_, rfl, (ownG_empty w1).mono (by omega), B1.out.alloc (by omega) _⟩
  · obtain rfl : R = some (tabQ ps M) := HR0.out.symm.trans (if_neg h0)
    clear HR0
    obtain ⟨gm, rfl⟩ : ∃ gm, A = some ⟨gm, 0, none⟩ := by
      rcases O1.out.2 with ⟨h, h'⟩ | ⟨b, cc, cur, h, _⟩
      · exact absurd h' h0
      · injection h with h3 _ _
        exact ⟨b, h3⟩
    have HM := Lib.hid (StrsAt.of_owns O1.out rfl)
    have hgm := O1.out.lt gm rfl
    have hz0 : ((M.length : Int) == 0) = false := by rw [beq_eq_false_iff_ne]; omega
    have Z1 := Lib.hid (HZR.out w1)
    clear O1 HZR
    go_wp2_with fail
    refine Z1.out.mono ?_
    rintro e w2 ⟨v2, rfl, hown, b2⟩
    obtain ⟨A2, c2, rfl, -⟩ := hown.gridS
    rw [← fillF_zero (arcQ ps M)] at hown
    rw [tabOf_length] at hown ⊢
    have s2 := b2.size
    have HO := Lib.hid hown
    have HB2 := Lib.hid b2
    have HMW := Lib.hid (fun w' (h : Below w1.heap.size w1 w') => (show StrsAt w' gm 0 M from HM.out.below h hgm.2))
    have HXW := Lib.hid (fun w' (h : Below w1.heap.size w1 w') => X1.out.below h (by omega))
    have HAV : Hid (∀ i j w', i < M.length → j < M.length → Below w1.heap.size w1 w' → Calls Try.prog 39 #[.slice G ps.length c, .string (M.getD i ByteArray.empty ++ (M.getD j ByteArray.empty).extract 1 2)] w' fun e w'' => e = .returned (.bool (avoids ps (M.getD i ByteArray.empty ++ (M.getD j ByteArray.empty).extract 1 2))) ∧ w'' = w') :=
      Lib.hid (fun i j w' hi hj hw => spec_avoids G c ps _ hl HZ.out (by rw [ByteArray.size_append, ByteArray.size_extract]; have := H2.out i hi; have := H2.out j hj; omega) w' (HS.out.below (B1.out.trans (hw.mono (by omega)))))
    clear hown b2 HM X1 HST XB
    go_wp2
    go_loopw [6] (fun iv wr => ∃ i : Nat, i ≤ M.length ∧ iv = .int .i64 i ∧ OwnG wr w1.heap.size (.slice A2 M.length c2) (tabOf M.length M.length (fillF (arcQ ps M) i 0)) ∧ Below w1.heap.size w1 wr) (fun i _ => M.length - (intOf i).toNat)
    case atStart => exact ⟨0, Nat.zero_le _, rfl, HO.out, HB2.out⟩
    case round =>
      obtain ⟨i, hi, rfl, hown, hbl⟩ := hrel
      by_cases hil : i < M.length
      · have HO1 := Lib.hid hown
        have HB3 := Lib.hid hbl
        clear hown hbl
        obtain ⟨W1, rfl⟩ : ∃ W1 : World, W1 = wr := ⟨_, rfl⟩
        go_wp2
        go_loopw [7] (fun jv wr => ∃ j : Nat, j ≤ M.length ∧ jv = .int .i64 j ∧ OwnG wr w1.heap.size (.slice A2 M.length c2) (tabOf M.length M.length (fillF (arcQ ps M) i j)) ∧ Below w1.heap.size w1 wr) (fun j _ => M.length - (intOf j).toNat)
        case atStart => exact ⟨0, Nat.zero_le _, rfl, HO1.out, HB3.out⟩
        case round =>
          obtain ⟨j, hj, rfl, hown, hbl⟩ := hrel
          by_cases hjl : j < M.length
          · have hrl : ((tabOf M.length M.length (fillF (arcQ ps M) i j)).getD i []).length = M.length := by rw [tabOf_row hil]; simp
            obtain ⟨gq, cap, gi, ci, hv, k1, k2, kf, kb, kl, hset⟩ := hown.at (i := i) (j := j) (by rw [tabOf_length]; exact hil) (by rw [hrl]; exact hjl)
            rw [tabOf_length] at hv
            simp only [Value.slice.injEq, true_and] at hv
            obtain ⟨rfl, rfl⟩ := hv
            rw [hrl] at k1
            have hcx := (HMW.out wr hbl) i hil
            have hcy := (HMW.out wr hbl) j hjl
            rw [Nat.zero_add] at hcx hcy
            obtain ⟨x0, x1⟩ := HXW.out wr hbl
            have sx := H2.out i hil
            have sy := H2.out j hjl
            have HAVW := Lib.hid (fun w' hb => HAV.out i j w' hil hjl hb)
            have HT : Hid (goesQ ps (M.getD i ByteArray.empty) (M.getD j ByteArray.empty) = (decide (ch (M.getD i ByteArray.empty) 1 = ch (M.getD j ByteArray.empty) 0) && avoids ps (M.getD i ByteArray.empty ++ (M.getD j ByteArray.empty).extract 1 2))) := Lib.hid (by unfold goesQ; rw [sy])
            have HA : Hid (arcQ ps M i j = if goesQ ps (M.getD i ByteArray.empty) (M.getD j ByteArray.empty) = true then 1 else 0) := Lib.hid rfl
            have HNO : Hid (arcQ ps M i j = 0 → OwnG wr w1.heap.size (.slice (some ⟨gq, 0, none⟩) M.length _) (tabOf M.length M.length (fillF (arcQ ps M) i (j + 1)))) := Lib.hid fun h => by rw [fillF_still _ _ _ _ h]; exact hown
            have HYES : Hid (arcQ ps M i j = 1 → OwnG (wr.setCell ⟨gi, j, none⟩ (.int .i64 1)) w1.heap.size (.slice (some ⟨gq, 0, none⟩) M.length _) (tabOf M.length M.length (fillF (arcQ ps M) i (j + 1)))) := Lib.hid fun h => by have h1 := hset (arcQ ps M i j); rw [fillF_next _ _ i j hil, h] at h1; exact h1
            have HB4 := Lib.hid hbl
            clear hset hown hbl
            generalize cellOf (tabOf M.length M.length (fillF (arcQ ps M) i j)) i j = T at *
            have j0 : (0 : Int) ≤ (i : Int) := by omega
            have j1 : (i : Int) < (M.length : Int) := by omega
            have j2 : (0 : Int) ≤ (j : Int) := by omega
            have j3 : (j : Int) < (M.length : Int) := by omega
            generalize M.getD i ByteArray.empty = x at *
            generalize M.getD j ByteArray.empty = y at *
            have x8 : x.size + (y.extract 1 2).size ≤ 9223372036854775807 := by rw [ByteArray.size_extract]; omega
            have x9 : ∀ w, (Op.stringOp .add x (y.extract 1 2)).run Try.prog w = .ok (.string (x ++ y.extract 1 2)) w := fun w => run_string_add_sum w _ _ x8
            clear x8
            have n0 : (0 : Nat) < y.size := by omega
            have n1 : (1 : Nat) < x.size := by omega
            have n2 : (1 : Nat) ≤ 2 := by omega
            have be := byte_eq x[1] y[0]
            rw [← ch_lt x 1 n1, ← ch_lt y 0 n0] at be
            cases he : decide (ch x 1 = ch y 0) with
            | false =>
              rw [he, ch_lt x 1 n1, ch_lt y 0 n0] at be
              have HF := Lib.hid (HNO.out (by rw [HA.out, HT.out, he]; rfl))
              clear he k1 k2 kf kb kl
              go_wp2
              go_quiet (fail)
              go_wp2
              go_roundw
              case rel => exact ⟨j + 1, by omega, by go_num, (From.ownIn HF.out.ownIn (From.of_below (below_drewN (Below.refl _ _) _))).ownG, below_drewN HB4.out _⟩
              case measure => simp [intOf]; omega
            | true =>
              rw [he, ch_lt x 1 n1, ch_lt y 0 n0] at be
              cases hvv : avoids ps (x ++ y.extract 1 2) with
              | false =>
                have HF := Lib.hid (HNO.out (by rw [HA.out, HT.out, he, hvv]; rfl))
                rw [hvv] at HAVW
                clear he hvv k1 k2 kf kb kl
                go_wp2
                go_quiet (first | (go_at_call 39; refine Calls.quiet_of_same (HAVW.out _ (below_drewN HB4.out _))))
                go_wp2
                go_roundw
                case rel => exact ⟨j + 1, by omega, by go_num, (From.ownIn HF.out.ownIn (From.of_below (below_drewN (Below.refl _ _) _))).ownG, below_drewN HB4.out _⟩
                case measure => simp [intOf]; omega
              | true =>
                have HF := Lib.hid (HYES.out (by rw [HA.out, HT.out, he, hvv]; rfl))
                rw [hvv] at HAVW
                clear he hvv
                go_wp2
                go_quiet (first | (go_at_call 39; refine Calls.quiet_of_same (HAVW.out _ (below_drewN HB4.out _))))
                go_wp2
                go_roundw
                case rel => exact ⟨j + 1, by omega, by go_num, (From.ownIn HF.out.ownIn (From.of_below (below_drewN (Below.refl _ _) _))).ownG, below_drewN (HB4.out.setCell kb _) _⟩
                case measure => simp [intOf]; omega
          · obtain rfl : j = M.length := by omega
            rw [fillF_row] at hown
            have HO3 := Lib.hid hown
            clear hown
            go_wp2
            go_roundw
            case rel => exact ⟨i + 1, by omega, by go_num, HO3.out, hbl⟩
            case measure => simp [intOf]; omega
      · obtain rfl : i = M.length := by omega
        rw [fillF_all] at hown
        have HO3 := Lib.hid hown
        clear hown
        go_wp2
        go_ret2
        exact ⟨_, rfl, HO3.out.mono (by omega), B1.out.trans (hbl.mono (by omega))⟩
end Go.Proofs.Ytalclebehbdliaa
namespace Go.Proofs.Ytalclebehbdliaa
open Go

/-- The digits of u, none for 0. -/
def dd (u : Nat) : List UInt8 := if u = 0 then [] else Lib.decDigits u
theorem dd_zero : dd 0 = [] := rfl
theorem dd_pos {u : Nat} (h : u ≠ 0) : dd u = Lib.decDigits u := by unfold dd; rw [if_neg h]
theorem dd_step {u : Nat} (h : u ≠ 0) : dd u = dd (u / 10) ++ [UInt8.ofNat (48 + u % 10)] := by
  rw [dd_pos h]
  by_cases h10 : u < 10
  · have e0 : u / 10 = 0 := by omega
    rw [e0, dd_zero, Lib.decDigits_one h10, Nat.mod_eq_of_lt h10]; rfl
  · rw [Lib.decDigits, dif_neg h10, dd_pos (by omega)]
theorem dd_length : ∀ (k u : Nat), u < 10 ^ k → (dd u).length ≤ k
  | 0, u, h => by
    have : u = 0 := by simpa using h
    subst this; simp [dd_zero]
  | k + 1, u, h => by
    by_cases h0 : u = 0
    · subst h0; simp [dd_zero]
    · rw [dd_step h0, List.length_append]
      rw [Nat.pow_succ] at h
      have := dd_length k (u / 10) (by omega)
      simp; omega
theorem itoa_pos {u : Nat} (h : u ≠ 0) : Lib.itoa (u : Int) = dd u := by rw [Lib.itoa_nonneg, dd_pos h]
theorem itoa_negd {u : Nat} (h : u ≠ 0) : Lib.itoa (-(u : Int)) = 45 :: dd u := by rw [Lib.itoa_neg u (by omega), dd_pos h]
theorem itoa_zero : Lib.itoa 0 = [48] := by rw [show (0 : Int) = ((0 : Nat) : Int) from rfl, Lib.itoa_nonneg, Lib.decDigits_one (by decide)]; rfl

/-! ### Reading digits -/
theorem decFrom_append : ∀ (l r : List UInt8) (acc : Nat), Lib.decFrom acc (l ++ r) = (Lib.decFrom acc l).bind fun n => Lib.decFrom n r
  | [], r, acc => by simp [Lib.decFrom]
  | a :: t, r, acc => by
    simp only [List.cons_append, Lib.decFrom]
    cases Lib.digitVal a with
    | none => rfl
    | some d => exact decFrom_append t r _
theorem digitVal_of {d : Nat} (h : d < 10) : Lib.digitVal (UInt8.ofNat (48 + d)) = some d := by
  have e : (UInt8.ofNat (48 + d)).toNat = 48 + d := by simp [UInt8.toNat_ofNat']; omega
  unfold Lib.digitVal; rw [e, if_pos (by omega)]; congr 1; omega
theorem decFrom_dd : ∀ (k u : Nat), u < 10 ^ k → Lib.decFrom 0 (dd u) = some u
  | 0, u, h => by
    have : u = 0 := by simpa using h
    subst this; rfl
  | k + 1, u, h => by
    by_cases h0 : u = 0
    · subst h0; rfl
    · rw [Nat.pow_succ] at h
      rw [dd_step h0, decFrom_append, decFrom_dd k (u / 10) (by omega)]
      simp only [Option.bind_some, Lib.decFrom, digitVal_of (show u % 10 < 10 by omega)]
      congr 1; omega
theorem lt_pow_self (u : Nat) : u < 10 ^ u := Nat.lt_pow_self (by decide)
theorem decFrom_decDigits (u : Nat) : Lib.decFrom 0 (Lib.decDigits u) = some u := by
  by_cases h0 : u = 0
  · subst h0; rw [Lib.decDigits_one (by decide)]; rfl
  · rw [← dd_pos h0]; exact decFrom_dd u u (lt_pow_self u)
theorem decDigits_ne (u : Nat) : Lib.decDigits u ≠ [] := by
  intro h
  have := Lib.decDigits_length u
  rw [h] at this
  have := Lib.nDigits_pos u
  simp at *; omega
theorem decNat_decDigits (u : Nat) : Lib.decNat (Lib.decDigits u) = some u := by
  unfold Lib.decNat
  rw [if_neg (by simpa using decDigits_ne u), decFrom_decDigits]
/-- The first byte of a numeral without a sign is a digit. -/
theorem decDigits_head {u : Nat} {b : UInt8} {r : List UInt8} (h : Lib.decDigits u = b :: r) : 48 ≤ b.toNat ∧ b.toNat ≤ 57 := by
  have hd := decFrom_decDigits u
  rw [h] at hd
  obtain ⟨d, e⟩ := Lib.digit_of_decFrom _ _ _ hd 0 b rfl
  unfold Lib.digitVal at e
  split at e
  · assumption
  · cases e

theorem atoi_itoa (n : Int) : Lib.atoi (Lib.itoa n) = some n := by
  by_cases h : n < 0
  · have e : Lib.itoa n = 45 :: Lib.decDigits n.natAbs := by unfold Lib.itoa; rw [if_pos h]
    rw [e]
    simp only [Lib.atoi, decNat_decDigits]
    simp; omega
  · have e : Lib.itoa n = Lib.decDigits n.toNat := by unfold Lib.itoa; rw [if_neg h]
    rw [e]
    cases hl : Lib.decDigits n.toNat with
    | nil => exact absurd hl (decDigits_ne _)
    | cons b r =>
      have hb := decDigits_head hl
      have h45 : (b == 45) = false := by
        rw [beq_eq_false_iff_ne]; rintro rfl; simp at hb
      have h43 : (b == 43) = false := by
        rw [beq_eq_false_iff_ne]; rintro rfl; simp at hb
      simp only [Lib.atoi, h45, h43, ← hl, decNat_decDigits]
      simp; omega
theorem itoa_inj {a b : Int} (h : Lib.itoa a = Lib.itoa b) : a = b := by
  have := atoi_itoa a; rw [h, atoi_itoa] at this; exact (Option.some.inj this).symm

/-! ### The integer between two limits that a list of bytes is the numeral of -/
def numOf (lo hi : Int) (l : List UInt8) : Option Int :=
  match Lib.atoi l with
  | some v => if lo ≤ v ∧ v ≤ hi ∧ Lib.itoa v = l then some v else none
  | none => none
theorem numOf_some {lo hi : Int} {l : List UInt8} {n : Int} : numOf lo hi l = some n ↔ lo ≤ n ∧ n ≤ hi ∧ Lib.itoa n = l := by
  constructor
  · intro h
    unfold numOf at h
    split at h
    · split at h
      · cases h; assumption
      · cases h
    · cases h
  · rintro ⟨h1, h2, rfl⟩
    unfold numOf
    simp only [atoi_itoa]
    rw [if_pos ⟨h1, h2, trivial⟩]
theorem numOf_none {lo hi : Int} {l : List UInt8} (h : ∀ n, lo ≤ n → n ≤ hi → Lib.itoa n ≠ l) : numOf lo hi l = none := by
  cases e : numOf lo hi l with
  | none => rfl
  | some n => obtain ⟨a, b, c⟩ := numOf_some.1 e; exact absurd c (h n a b)

/-! ### How long the numerals are -/
theorem decDigits_length_le {k u : Nat} (hk : 1 ≤ k) (h : u < 10 ^ k) : (Lib.decDigits u).length ≤ k := by
  by_cases h0 : u = 0
  · subst h0; rw [Lib.decDigits_one (by decide)]; simpa using hk
  · rw [← dd_pos h0]; exact dd_length k u h
theorem itoa_length_le {k : Nat} {n : Int} (hk : 1 ≤ k) (h : n.natAbs < 10 ^ k) : (Lib.itoa n).length ≤ k + 1 := by
  unfold Lib.itoa
  split
  · have := decDigits_length_le hk h; simp; omega
  · have := decDigits_length_le hk (u := n.toNat) (by omega); omega
/-- strconv.Atoi reads every numeral between the limits. -/
theorem atoiAll_of_numOf {lo hi : Int} {l : List UInt8} {n : Int} (hlo : -999999999999 ≤ lo) (hhi : hi ≤ 999999999999) (h : numOf lo hi l = some n) : Lib.atoiAll l = .ok n := by
  obtain ⟨h1, h2, rfl⟩ := numOf_some.1 h
  have hlen := itoa_length_le (k := 12) (n := n) (by decide) (by omega)
  rw [Lib.atoiAll_short _ (by omega), atoi_itoa]
  rfl
/-- What strconv.Atoi reads, and is no numeral of that form between the limits, is none. -/
theorem numOf_of_atoiAll {lo hi v : Int} {l : List UInt8} (hlo : -999999999999 ≤ lo) (hhi : hi ≤ 999999999999) (h : Lib.atoiAll l = .ok v) (hn : ¬ (lo ≤ v ∧ v ≤ hi ∧ Lib.itoa v = l)) : numOf lo hi l = none := by
  cases e : numOf lo hi l with
  | none => rfl
  | some n =>
    have := atoiAll_of_numOf hlo hhi e
    rw [h] at this
    cases this
    exact absurd (numOf_some.1 e) hn
theorem numOf_of_atoiAll_not {lo hi : Int} {l : List UInt8} (hlo : -999999999999 ≤ lo) (hhi : hi ≤ 999999999999) (h : ∀ v, Lib.atoiAll l ≠ .ok v) : numOf lo hi l = none := by
  cases e : numOf lo hi l with
  | none => rfl
  | some n => exact absurd (atoiAll_of_numOf hlo hhi e) (h n)
end Go.Proofs.Ytalclebehbdliaa
namespace Go.Proofs.Ytalclebehbdliaa
open Go Go.RowKit

/-- The mark of k. -/
def mark (k : Nat) : ByteArray := ⟨(109 :: dd k).toArray⟩
/-- The marks from k on. -/
def marks (k : Nat) : Nat → List ByteArray
  | 0 => []
  | n + 1 => mark k :: marks (k + 1) n
theorem marks_length : ∀ (n k : Nat), (marks k n).length = n
  | 0, _ => rfl
  | n + 1, k => by rw [marks, List.length_cons, marks_length n]
theorem marks_get : ∀ (n k j : Nat), j < n → (marks k n).getD j ByteArray.empty = mark (k + j)
  | 0, _, j, h => by omega
  | n + 1, k, 0, _ => by simp [marks]
  | n + 1, k, j + 1, h => by
    rw [marks, List.getD_cons_succ, marks_get n (k + 1) j (by omega)]
    congr 1; omega

theorem mk_conv (b : UInt8) (y : Int) (hy : y = (b.toNat : Int)) (w : World) : (convert 72 9 (.slice (some ⟨w.heap.size, 0, none⟩) 1 1)).run Try.prog (w.alloc (.cells #[.int .u8 y] 5)) = .ok (.string ⟨#[b]⟩) (w.alloc (.cells #[.int .u8 y] 5)) := by
  subst hy
  have h := run_convert_bytes_arg (P := Try.prog) (w.alloc (.cells #[.int .u8 (b.toNat : Int)] 5)) 72 5 Try.underlying72 Try.underlying5 w.heap.size 0 1 1 [(b.toNat : Int)] rfl (fun i hi => by
    obtain rfl : i = 0 := by omega
    simp [go_sem]) 9 Try.underlying9
  rw [h]
  simp [strOfNums]
theorem mk_rest {u c : Nat} {s : ByteArray} {b : UInt8} (h : dd c ++ s.data.toList = dd u) (h0 : 0 < c) (hb : b = UInt8.ofNat (48 + c % 10)) : dd (c / 10) ++ ((⟨#[b]⟩ : ByteArray) ++ s).data.toList = dd u := by
  rw [← h, dd_step (show c ≠ 0 by omega), hb]; simp [ByteArray.data_append]
theorem mk_len {u c : Nat} {s : ByteArray} (h : dd c ++ s.data.toList = dd u) (hu : u ≤ 9223372036854775808) : s.size ≤ 1000 := by
  have h1 := dd_length 20 u (by omega)
  rw [← h, List.length_append] at h1
  have h2 : s.size = s.data.toList.length := rfl
  omega
theorem mk_byte (c : Nat) : ∃ b : UInt8, b = UInt8.ofNat (48 + c % 10) ∧ (48 : Int) + (c : Int) % 10 = (b.toNat : Int) :=
  ⟨_, rfl, by
    have e : (UInt8.ofNat (48 + c % 10)).toNat = 48 + c % 10 := by rw [UInt8.toNat_ofNat']; exact Nat.mod_eq_of_lt (by omega)
    rw [e]; omega⟩
theorem mk_bytes {a : ByteArray} {l : List UInt8} (h : a.data.toList = l) : a = ⟨l.toArray⟩ := by subst h; rfl
theorem mk_ret {a b : ByteArray} (h : a = b) : Ending.returned (.string a) = .returned (.string b) := by rw [h]

def MarkPost (u : Nat) (w : World) (e : Ending) (w' : World) : Prop := e = .returned (.string (mark u)) ∧ Below w.heap.size w w'

set_option maxRecDepth 100000 in
set_option maxHeartbeats 400000 in
theorem markText_pos (u : Nat) (hu0 : 0 < u) (hu : u ≤ 9223372036854775807) (w : World) :
    Calls Try.prog 37 #[.int .i64 u] w (MarkPost u w) := by
  have hz : decide ((u : Int) ≤ 0) = false := by simp; omega
  go_enter Try.func37, Try.ntmps37
  go_wp2
  go_loopw [0, 3] (fun n o wr => ∃ (c : Nat) (s : ByteArray), c ≤ u ∧ Hid (dd c ++ s.data.toList = dd u) ∧ n = .int .i64 c ∧ o = .string s ∧ Below w.heap.size w wr) (fun n _ _ => (intOf n).toNat)
  case atStart => exact ⟨u, _, Nat.le_refl _, Lib.hid (by simp), rfl, rfl, Below.refl _ _⟩
  case round =>
    obtain ⟨c, s, hc, hl, rfl, rfl, hb⟩ := hrel
    have hs := mk_len hl.out (by omega)
    by_cases h0 : 0 < c
    · obtain ⟨b, hb1, hb2⟩ := mk_byte c
      have hcv := mk_conv b (48 + (c : Int) % 10) hb2
      have HB := Lib.hid hb1
      clear hb1 hb2
      go_wp2
      go_roundw
      case rel => exact ⟨c / 10, _, by omega, Lib.hid (mk_rest hl.out h0 HB.out), by go_num, rfl, hb.alloc (by have := hb.size; omega) _⟩
      case measure => simp [intOf]; omega
    · obtain rfl : c = 0 := by omega
      go_wp2
      go_ret
      exact ⟨mk_ret (by have := hl.out; rw [dd_zero] at this; unfold mark; rw [← this]; exact mk_bytes (by simp [ByteArray.data_append])), hb⟩

/-- A row that is being marked from the front. -/
def marked (xs : List ByteArray) (q k : Nat) : List Value := ((marks q k) ++ xs.drop k).map Value.string
theorem marks_next : ∀ (n k : Nat), marks k (n + 1) = marks k n ++ [mark (k + n)]
  | 0, k => rfl
  | n + 1, k => by
    rw [marks, marks_next n (k + 1), marks, List.cons_append]
    congr 4; omega
theorem marked_set (xs : List ByteArray) (q k : Nat) (h : k < xs.length) : (marked xs q k).set k (.string (mark (q + k))) = marked xs q (k + 1) := by
  have hl : ((marks q k).map Value.string).length = k := by rw [List.length_map, marks_length]
  have hd : xs.drop k = xs[k] :: xs.drop (k + 1) := List.drop_eq_getElem_cons h
  unfold marked
  rw [marks_next, List.map_append, List.map_append, List.map_append, hd, List.map_cons]
  rw [List.set_append_right _ _ (by omega), hl, Nat.sub_self]
  simp
theorem marked_at (xs : List ByteArray) (q k : Nat) (h : k < xs.length) : ∃ y, (marked xs q k)[k]? = some (.string y) := by
  have hl : (marks q k).length = k := marks_length k q
  refine ⟨xs[k], ?_⟩
  unfold marked
  rw [List.getElem?_map, List.getElem?_append_right (by omega), hl, Nat.sub_self, List.getElem?_drop, Nat.add_zero, List.getElem?_eq_getElem h]
  rfl
theorem marked_none (xs : List ByteArray) (q : Nat) : marked xs q 0 = xs.map Value.string := by simp [marked, marks]
theorem marked_all (xs : List ByteArray) (q : Nat) : marked xs q xs.length = (marks q xs.length).map Value.string := by simp [marked]
end Go.Proofs.Ytalclebehbdliaa
namespace Go.Proofs.Ytalclebehbdliaa
open Go Go.RowKit

/-- The row holds the marks from q on; of what was there no other block has turned. -/
def MarksPost (B q g cap n : Nat) (w : World) (e : Ending) (w' : World) : Prop :=
  e = .returned (.int .i64 ((q + n : Nat) : Int)) ∧ w'.ownsRow B 9 1 (.slice (some ⟨g, 0, none⟩) n cap) n ((marks q n).map Value.string) ∧ w.grownBy w' (some g)

set_option maxRecDepth 100000 in
set_option maxHeartbeats 800000 in
theorem mark_row (B q g cap : Nat) (xs : List ByteArray) (hq0 : 0 < q) (hq : q ≤ 1000000000000) (hn : xs.length ≤ 1099511627776) (w : World) (ho : w.ownsRow B 9 1 (.slice (some ⟨g, 0, none⟩) xs.length cap) xs.length (xs.map Value.string)) :
    Calls Try.prog 16 #[.slice (some ⟨g, 0, none⟩) xs.length cap, .int .i64 (q : Int)] w (MarksPost B q g cap xs.length w) := by
  have HO0 := Lib.hid ho
  have hg := (ho.lt g rfl).2
  clear ho
  go_enter Try.func16, Try.ntmps16
  go_wp2
  go_loopw [1, 5] (fun p i wr => ∃ k : Nat, k ≤ xs.length ∧ p = .int .i64 ((q + k : Nat) : Int) ∧ i = .int .i64 k ∧ wr.ownsRow B 9 1 (.slice (some ⟨g, 0, none⟩) xs.length cap) xs.length (marked xs q k) ∧ w.grownBy wr (some g)) (fun _ i _ => xs.length - (intOf i).toNat)
  case atStart => exact ⟨0, Nat.zero_le _, rfl, rfl, by rw [marked_none]; exact HO0.out, World.grownBy.refl _ _⟩
  case round =>
    obtain ⟨k, hk, rfl, rfl, ho, hgr⟩ := hrel
    by_cases hlt : k < xs.length
    · have HM := Lib.hid (markText_pos (q + k) (by omega) (by omega))
      obtain ⟨y, hy⟩ := marked_at xs q k hlt
      have HY := Lib.hid ((ho.cellAt k (by omega)).trans hy)
      have HF := Lib.hid (ho.frozenAt k)
      have HO := Lib.hid ho
      have hgl := (ho.lt g rfl).2
      clear ho hy
      go_wp2_with fail
      refine (HM.out _).mono ?_
      rintro e w1 ⟨rfl, hb1⟩
      have hc : w1.cell? ⟨g, k, none⟩ = some (.string y) := (hb1.cell (p := ⟨g, k, none⟩) hgl).trans HY.out
      have hf : w1.frozen? ⟨g, k, none⟩ = false := (hb1.frozen (p := ⟨g, k, none⟩) hgl).trans HF.out
      have ho1 : w1.ownsRow B 9 1 (.slice (some ⟨g, 0, none⟩) xs.length cap) xs.length (marked xs q k) := HO.out.kept (row := none) ⟨hb1.os, hb1.tape, hb1.output, hb1.size, fun j hj _ => hb1.block j hj⟩ (Or.inr (by simp [Value.ownBlock]))
      have hst := ho1.stored k (.string (mark (q + k)))
      rw [marked_set xs q k hlt] at hst
      have HS := Lib.hid hst.1
      have HG : Hid (w.grownBy (w1.setCell ⟨g, k, none⟩ (.string (mark (q + k)))) (some g)) := by
        refine ⟨hst.2.os.trans (hb1.os.trans hgr.os), hst.2.tape.trans (hb1.tape.trans hgr.tape), hst.2.output.trans (hb1.output.trans hgr.output), Nat.le_trans hgr.size (Nat.le_trans hb1.size hst.2.size), fun j hj hne => ?_⟩
        have hj1 := Nat.lt_of_lt_of_le hj hgr.size
        exact (hst.2.block j (Nat.lt_of_lt_of_le hj1 hb1.size) hne).trans ((hb1.block j hj1).trans (hgr.block j hj hne))
      clear hst ho1 hb1 hgr
      go_wp2
      go_roundw
      case rel => exact ⟨k + 1, by omega, by go_num, by go_num, HS.out, HG.out⟩
      case measure => simp [intOf]; omega
    · obtain rfl : k = xs.length := by omega
      rw [marked_all] at ho
      have HO := Lib.hid ho
      clear ho
      go_wp2
      go_ret
      exact ⟨rfl, HO.out, hgr⟩

def HeldPost (q n : Nat) (w : World) (e : Ending) (w' : World) : Prop := e = .returned (.int .i64 ((q + n : Nat) : Int)) ∧ Below w.heap.size w w'

set_option maxRecDepth 100000 in
set_option maxHeartbeats 1600000 in
theorem held_row (q g cap n : Nat) (hq0 : 0 < q) (hq : q ≤ 1000000000000) (hn : n ≤ 1099511627776) (w : World) (hst : StrsAt w g 0 (marks q n)) (hg : g < w.heap.size) :
    Calls Try.prog 17 #[.slice (some ⟨g, 0, none⟩) n cap, .int .i64 (q : Int)] w (HeldPost q n w) := by
  have HT := Lib.hid hst
  clear hst
  go_enter Try.func17, Try.ntmps17
  go_wp2
  go_loopw [1, 5] (fun p i wr => ∃ k : Nat, k ≤ n ∧ p = .int .i64 ((q + k : Nat) : Int) ∧ i = .int .i64 k ∧ Below w.heap.size w wr) (fun _ i _ => n - (intOf i).toNat)
  case atStart => exact ⟨0, Nat.zero_le _, rfl, rfl, Below.refl _ _⟩
  case round =>
    obtain ⟨k, hk, rfl, rfl, hbl⟩ := hrel
    by_cases hlt : k < n
    · have hc0 := HT.out.below hbl hg k (by rw [marks_length]; exact hlt)
      rw [marks_get n q k hlt, Nat.zero_add] at hc0
      have hgl : g < wr.heap.size := Nat.lt_of_lt_of_le hg hbl.size
      have HM := Lib.hid (markText_pos (q + k) (by omega) (by omega))
      have HB := Lib.hid hbl
      clear hbl
      have k0 : (0 : Int) ≤ (k : Int) := by omega
      have k1 : (k : Int) < (n : Int) := by omega
      go_wp2
      go_region_held3 (fun w' => w'.cell? ⟨g, k, none⟩ = some (.string (mark (q + k)))) (first | (rw [Below.cell (by assumption) (by first | assumption | (simp; omega))]; assumption) | go_keep) (first | (go_at_call 37; refine (HM.out _).mono ?_; rintro e w2 ⟨rfl, hb2⟩))
      go_wp2
      go_roundw
      case rel => exact ⟨k + 1, by omega, by go_num, by go_num, HB.out.drew.trans (hb2.mono HB.out.size)⟩
      case measure => simp [intOf]; omega
    · obtain rfl : k = n := by omega
      go_wp2
      go_ret
      exact ⟨rfl, hbl⟩
end Go.Proofs.Ytalclebehbdliaa
namespace Go.Proofs.Ytalclebehbdliaa
open Go Go.RowKit

theorem owns_below {w w' : World} {B e n : Nat} {v : Value} {xs : List Value} (h : w.ownsRow B e 1 v n xs) (hb : Below w.heap.size w w') : w'.ownsRow B e 1 v n xs := by
  refine h.kept (row := none) ⟨hb.os, hb.tape, hb.output, hb.size, fun j hj _ => hb.block j hj⟩ ?_
  cases hv : v.ownBlock with
  | none => exact Or.inl rfl
  | some k => exact Or.inr (by intro h; cases h)
theorem StrsAt.grown {w w' : World} {g b : Nat} {xs : List ByteArray} (h : StrsAt w b 0 xs) (hg : w.grownBy w' (some g)) (hne : b ≠ g) : StrsAt w' b 0 xs := by
  intro k hk
  exact hg.cell (h k hk) (by intro h; exact hne (Option.some.inj h))
theorem ListPost.full {ps : List ByteArray} {w w' : World} {e : Ending} (h : ListPost ps w e w') (hp : 0 < ps.length) :
    ∃ g cap, e = .returned (.slice (some ⟨g, 0, none⟩) ps.length cap) ∧ w'.ownsRow w.heap.size 9 1 (.slice (some ⟨g, 0, none⟩) ps.length cap) ps.length (ps.map Value.string) ∧ Below w.heap.size w w' := by
  obtain ⟨v, rfl, ho, hb⟩ := h
  rcases ho.2 with ⟨rfl, h0⟩ | ⟨g, cap, cur, rfl, _, _, _⟩
  · omega
  · exact ⟨g, cap, rfl, ho, hb⟩
theorem ListPost.bare {ps : List ByteArray} {w w' : World} {e : Ending} (h : ListPost ps w e w') (hp : ¬ 0 < ps.length) :
    ∃ a cap, e = .returned (.slice a 0 cap) ∧ Below w.heap.size w w' := by
  obtain ⟨v, rfl, ho, hb⟩ := h
  have h0 : ps.length = 0 := by omega
  rcases ho.2 with ⟨rfl, _⟩ | ⟨g, cap, cur, rfl, _, _, _⟩
  · exact ⟨none, 0, rfl, hb⟩
  · exact ⟨some ⟨g, 0, none⟩, cap, by rw [h0], hb⟩

theorem same_none (a1 a2 : Option Addr) (c1 c2 : Nat) (w : World) :
    Calls Try.prog 13 #[.slice a1 0 c1, .slice a2 0 c2] w fun e w' => e = .returned (.bool true) ∧ w' = w := by
  go_enter Try.func13, Try.ntmps13
  go_wp2
  go_loop [5] (fun i => i = .int .i64 0) (fun _ => 0)
  case atStart => rfl
  case round =>
    obtain rfl := hrel
    go_wp2
    go_ret
    exact ⟨rfl, rfl⟩
theorem mark_none (a : Option Addr) (c : Nat) (q : Int) (w : World) :
    Calls Try.prog 16 #[.slice a 0 c, .int .i64 q] w fun e w' => e = .returned (.int .i64 q) ∧ w' = w := by
  go_enter Try.func16, Try.ntmps16
  go_wp2
  go_loop [1, 5] (fun p i => p = .int .i64 q ∧ i = .int .i64 0) (fun _ _ => 0)
  case atStart => exact ⟨rfl, rfl⟩
  case round =>
    obtain ⟨rfl, rfl⟩ := hrel
    go_wp2
    go_ret
    exact ⟨rfl, rfl⟩
theorem held_none (a : Option Addr) (c : Nat) (q : Int) (w : World) :
    Calls Try.prog 17 #[.slice a 0 c, .int .i64 q] w fun e w' => e = .returned (.int .i64 q) ∧ w' = w := by
  go_enter Try.func17, Try.ntmps17
  go_wp2
  go_loop [1, 5] (fun p i => p = .int .i64 q ∧ i = .int .i64 0) (fun _ _ => 0)
  case atStart => exact ⟨rfl, rfl⟩
  case round =>
    obtain ⟨rfl, rfl⟩ := hrel
    go_wp2
    go_ret
    exact ⟨rfl, rfl⟩
end Go.Proofs.Ytalclebehbdliaa
namespace Go.Proofs.Ytalclebehbdliaa
open Go Go.RowKit

def sameA (a b : List ByteArray) : Bool := (a.all fun x => Lib.containsS b x) && decide (a.length = b.length)
def sameS (L : Int) (ps : List ByteArray) (L' : Int) (qs a b : List ByteArray) : Bool := ((isShift L ps && isShift L' qs) && decide (L = L')) && sameA a b
theorem allA_not {f : ByteArray → Bool} {a : List ByteArray} {k : Nat} (hk : k < a.length) (h : f (a.getD k ByteArray.empty) = false) : a.all f = false := by
  rw [← Bool.not_eq_true, List.all_eq_true]
  intro hall
  rw [List.getD_eq_getElem?_getD, List.getElem?_eq_getElem hk, Option.getD_some] at h
  have := hall _ (List.getElem_mem hk)
  rw [h] at this; cases this
theorem allA_done {f : ByteArray → Bool} {a : List ByteArray} (h : ∀ j, j < a.length → f (a.getD j ByteArray.empty) = true) : a.all f = true := by
  rw [List.all_eq_true]
  intro x hx
  obtain ⟨j, hj, rfl⟩ := List.getElem_of_mem hx
  have := h j hj
  rwa [List.getD_eq_getElem?_getD, List.getElem?_eq_getElem hj, Option.getD_some] at this

set_option maxRecDepth 100000 in
set_option maxHeartbeats 6400000 in
theorem spec_areSame_of (L L' : Int) (G G' : Option Addr) (c c' : Nat) (ps qs : List ByteArray) (hl : ps.length ≤ 1048576) (hl' : qs.length ≤ 1048576) (hz : ∀ k, k < ps.length → (ps.getD k ByteArray.empty).size ≤ 2147483648) (hz' : ∀ k, k < qs.length → (qs.getD k ByteArray.empty).size ≤ 2147483648) (a b : List ByteArray) (h9 : a.length ≤ 1000) (h9' : b.length ≤ 1000) (w : World) (hs : StrsG w G ps) (hs' : StrsG w G' qs)
    (hA : isShift L ps = true → isShift L' qs = true → ∀ w', Below w.heap.size w w' → Calls Try.prog 33 #[.agg #[.int .i64 L, .slice G ps.length c], .int .i64 3] w' (ListPost a w'))
    (hB : isShift L ps = true → isShift L' qs = true → ∀ w', Below w.heap.size w w' → Calls Try.prog 33 #[.agg #[.int .i64 L', .slice G' qs.length c'], .int .i64 3] w' (ListPost b w')) :
    Calls Try.prog 28 #[.agg #[.int .i64 L, .slice G ps.length c], .agg #[.int .i64 L', .slice G' qs.length c']] w (BoolPost (sameS L ps L' qs a b) w) := by
  have HI := Lib.hid (fun w' (h : Below w.heap.size w w') => spec_isShift L G c ps hl (fun k hk => by have := hz k hk; omega) w' (hs.below h))
  have HI' := Lib.hid (fun w' (h : Below w.heap.size w w') => spec_isShift L' G' c' qs hl' (fun k hk => by have := hz' k hk; omega) w' (hs'.below h))
  have HA := Lib.hid hA
  have HB := Lib.hid hB
  have HSS : Hid (sameS L ps L' qs a b = (((isShift L ps && isShift L' qs) && decide (L = L')) && sameA a b)) := Lib.hid rfl
  generalize sameS L ps L' qs a b = R at *
  clear hs hs' hz hz' hA hB
  go_enter Try.func28, Try.ntmps28
  go_wp2_with fail
  obtain ⟨Wb, hWb⟩ : ∃ Wb, (w.alloc (.cells #[.int .i64 L, .slice G ps.length c] 27)).alloc (.cells #[.int .i64 L', .slice G' qs.length c'] 27) = Wb := ⟨_, rfl⟩
  have sb : Wb.heap.size = w.heap.size + 2 := by rw [← hWb]; simp
  have b1 : Below w.heap.size w (w.alloc (.cells #[.int .i64 L, .slice G ps.length c] 27)) := (Below.refl _ _).alloc (Nat.le_refl _) _
  have bb : Below w.heap.size w Wb := by rw [← hWb]; exact b1.alloc b1.size _
  have xb : BoxAt Wb w.heap.size L (.slice G ps.length c) := by
    rw [← hWb]
    exact (boxAt_new w L _ 27).below ((Below.refl (w.heap.size + 1) _).alloc (by simp) _) (by omega)
  have xb' : BoxAt Wb (w.heap.size + 1) L' (.slice G' qs.length c') := by
    rw [← hWb]
    have h := boxAt_new (w.alloc (.cells #[.int .i64 L, .slice G ps.length c] 27)) L' (.slice G' qs.length c') 27
    rw [World.size_alloc] at h; exact h
  have hbx : ((w.alloc (.cells #[.int .i64 L, .slice G ps.length c] 27)).heap.size) = w.heap.size + 1 := by simp
  rw [hWb]
  try rw [hbx]
  clear hWb hbx b1
  have BB := Lib.hid bb
  have XB := Lib.hid (fun w' (h : Below Wb.heap.size Wb w') => (show BoxAt w' w.heap.size L (.slice G ps.length c) ∧ BoxAt w' (w.heap.size + 1) L' (.slice G' qs.length c') from ⟨xb.below h (by omega), xb'.below h (by omega)⟩))
  clear bb xb xb'
  refine (HI.out Wb BB.out).mono ?_
  rintro e w1 ⟨rfl, h1⟩
  have B1 := Lib.hid h1
  clear h1
  have C1 := Lib.hid (BB.out.trans (B1.out.mono (by omega)))
  obtain ⟨⟨x0, x1⟩, ⟨x2, x3⟩⟩ := XB.out w1 B1.out
  cases e1 : isShift L ps with
  | false =>
    have HR : Hid (R = false) := Lib.hid (by rw [HSS.out, e1]; rfl)
    clear e1 HSS
    go_wp2
    go_ret
    exact ⟨by rw [HR.out]; rfl, C1.out⟩
  | true =>
    go_wp2_with fail
    refine (HI'.out w1 C1.out).mono ?_
    rintro e w2 ⟨rfl, h2⟩
    have B2 := Lib.hid (B1.out.trans (h2.mono B1.out.size))
    have C2 := Lib.hid (C1.out.trans (h2.mono C1.out.size))
    clear h2 x0 x1 x2 x3
    obtain ⟨⟨x0, x1⟩, ⟨x2, x3⟩⟩ := XB.out w2 B2.out
    cases e2 : isShift L' qs with
    | false =>
      have HR : Hid (R = false) := Lib.hid (by rw [HSS.out, e1, e2]; rfl)
      clear e1 e2 HSS
      go_wp2
      go_ret
      exact ⟨by rw [HR.out]; rfl, C2.out⟩
    | true =>
      by_cases hL : L = L'
      · subst hL
        have HR : Hid (R = sameA a b) := Lib.hid (by rw [HSS.out, e1, e2, decide_eq_true (show L = L from rfl)]; rfl)
        have HA1 := Lib.hid (HA.out e1 e2)
        have HB1 := Lib.hid (HB.out e1 e2)
        clear e1 e2 HSS HA HB HI HI' B1 C1
        go_wp2_with fail
        refine (HA1.out w2 C2.out).mono ?_
        rintro e w3 ⟨va, rfl, oa, b3⟩
        have B3 := Lib.hid (B2.out.trans (b3.mono B2.out.size))
        have C3 := Lib.hid (C2.out.trans (b3.mono C2.out.size))
        have OA3 := Lib.hid oa
        clear oa b3 x0 x1 x2 x3
        obtain ⟨⟨x0, x1⟩, ⟨x2, x3⟩⟩ := XB.out w3 B3.out
        go_wp2_with fail
        refine (HB1.out w3 C3.out).mono ?_
        rintro e w4 ⟨vb, rfl, ob, b4⟩
        have C4 := Lib.hid (C3.out.trans (b4.mono C3.out.size))
        have OA4 := Lib.hid (owns_below OA3.out b4)
        obtain ⟨Aa, ca, rfl⟩ : ∃ A c, va = .slice A a.length c := by
          rcases OA4.out.2 with ⟨rfl, h0⟩ | ⟨b, cc, cur, rfl, _⟩
          · exact ⟨none, 0, by rw [h0]⟩
          · exact ⟨_, cc, rfl⟩
        obtain ⟨Ab, cb, rfl⟩ : ∃ A c, vb = .slice A b.length c := by
          rcases ob.2 with ⟨rfl, h0⟩ | ⟨b, cc, cur, rfl, _⟩
          · exact ⟨none, 0, by rw [h0]⟩
          · exact ⟨_, cc, rfl⟩
        have RB : Hid (RowAt w4 Ab b) := Lib.hid fun hp => by
          rcases ob.2 with ⟨_, h0⟩ | ⟨gb, cc, cur, h, _⟩
          · omega
          · injection h with h3 _ _
            subst h3
            exact ⟨gb, rfl, StrsAt.of_owns ob rfl, (ob.lt gb rfl).2⟩
        have HH := Lib.hid (fun x => spec_hasText Ab cb b x (by omega) w4 RB.out)
        clear ob b4 x0 x1 x2 x3 OA3 B2 B3 C2 C3 HA1 HB1 XB BB RB
        go_wp2
        go_loop [7] (fun i => ∃ k : Nat, k ≤ a.length ∧ i = .int .i64 k ∧ Hid (∀ j, j < k → Lib.containsS b (a.getD j ByteArray.empty) = true)) (fun i => a.length - (intOf i).toNat)
        case atStart => exact ⟨0, Nat.zero_le _, rfl, Lib.hid (fun j h => by omega)⟩
        case round =>
          obtain ⟨k, hk, rfl, hto⟩ := hrel
          by_cases hlt : k < a.length
          · obtain ⟨ga, rfl⟩ : ∃ ga, Aa = some ⟨ga, 0, none⟩ := by
              rcases OA4.out.2 with ⟨_, h0⟩ | ⟨gb, cc, cur, h, _⟩
              · omega
              · injection h with h3 _ _
                exact ⟨gb, h3⟩
            have hc := (StrsAt.of_owns OA4.out rfl) k hlt
            rw [Nat.zero_add] at hc
            have hh := HH.out (a.getD k ByteArray.empty)
            cases hx : Lib.containsS b (a.getD k ByteArray.empty) with
            | false =>
              have HF : Hid (R = false) := Lib.hid (by rw [HR.out]; unfold sameA; rw [allA_not hlt hx]; rfl)
              rw [hx] at hh
              have HH1 := Lib.hid hh
              generalize a.getD k ByteArray.empty = y at *
              clear hh hx
              go_wp2_with fail
              refine HH1.out.mono ?_
              rintro e w5 ⟨rfl, rfl⟩
              go_wp2
              go_ret
              exact ⟨by rw [HF.out]; rfl, C4.out⟩
            | true =>
              have HN : Hid (∀ j, j < k + 1 → Lib.containsS b (a.getD j ByteArray.empty) = true) := Lib.hid fun j hj => by
                by_cases ej : j = k
                · subst ej; exact hx
                · exact hto.out j (by omega)
              rw [hx] at hh
              have HH1 := Lib.hid hh
              generalize a.getD k ByteArray.empty = y at *
              clear hh hx
              go_wp2_with fail
              refine HH1.out.mono ?_
              rintro e w5 ⟨rfl, rfl⟩
              go_wp2
              go_round
              case rel => exact ⟨k + 1, by omega, by go_num, HN⟩
              case measure => simp [intOf]; omega
          · obtain rfl : k = a.length := by omega
            have HF : Hid (R = decide (a.length = b.length)) := Lib.hid (by rw [HR.out]; unfold sameA; rw [allA_done hto.out]; rfl)
            have hd : ((a.length : Int) == (b.length : Int)) = decide (a.length = b.length) := by
              rw [Bool.eq_iff_iff, beq_iff_eq, decide_eq_true_iff]; omega
            go_wp2
            go_ret
            exact ⟨by rw [HF.out, ← hd]; rfl, C4.out⟩
      · have HR : Hid (R = false) := Lib.hid (by rw [HSS.out, e1, e2, decide_eq_false hL]; rfl)
        have hb : (L == L') = false := by rw [beq_eq_false_iff_ne]; exact hL
        clear e1 e2 HSS
        go_wp2
        go_ret
        exact ⟨by rw [HR.out]; rfl, C2.out⟩
end Go.Proofs.Ytalclebehbdliaa
namespace Go.Proofs.Ytalclebehbdliaa
open Go Go.RowKit

theorem sliceArg_none (a : Option Addr) (c : Nat) (W : World) : SliceArg W (.slice a 0 c) [] :=
  ⟨fun w' _ => sz_none a c _ (by decide) (by decide) w', fun _ w' _ => copy_none a c w'⟩
theorem sliceArg_some (b off c : Nat) (xs : List ByteArray) (hn : xs.length ≤ 9223372036854775807) (hz : ∀ k, k < xs.length → (xs.getD k ByteArray.empty).size ≤ 9223372036854775807) (W : World) (hs : StrsAt W b off xs) (hb : b < W.heap.size) :
    SliceArg W (.slice (some ⟨b, off, none⟩) xs.length c) xs :=
  ⟨fun w' h => sz_some b off c xs 1048576 (by decide) (by decide) hn hz w' (hs.below h hb),
   fun hl w' h => copy_some b off c xs (by omega) w' (hs.below h hb) (Nat.lt_of_lt_of_le hb h.size)⟩
theorem atCopies_isShift (W : World) (L : Int) (xs : List ByteArray) : AtCopies W 45 L xs (isShift L xs) :=
  fun g c w' _ hl ht hs hg => spec_isShift L (some ⟨g, 0, none⟩) c xs hl (fun k hk => by have := size_le_total hk; omega) w' (.of hs hg)
end Go.Proofs.Ytalclebehbdliaa
namespace Go.Proofs.Ytalclebehbdliaa
open Go Go.RowKit

theorem same_rows (A1 A2 : Option Addr) (c1 c2 : Nat) (ps : List ByteArray) (hn : ps.length ≤ 1048576) (w : World) (h1 : RowAt w A1 ps) (h2 : RowAt w A2 ps) :
    Calls Try.prog 13 #[.slice A1 ps.length c1, .slice A2 ps.length c2] w (TrueBelow w) := by
  by_cases hp : 0 < ps.length
  · obtain ⟨g1, rfl, s1, _⟩ := h1 hp
    obtain ⟨g2, rfl, s2, _⟩ := h2 hp
    exact same_some g1 0 c1 g2 0 c2 ps (by omega) w s1 s2
  · have h0 : ps.length = 0 := by omega
    rw [h0]
    exact (same_none A1 A2 c1 c2 w).mono fun e w' ⟨he, hw⟩ => ⟨he, hw ▸ Below.refl _ _⟩
/-- The slice A holds the strings ps in memory from block B on. -/
def OwnAt (w : World) (B : Nat) (A : Option Addr) (c : Nat) (ps : List ByteArray) : Prop :=
  0 < ps.length → ∃ g, A = some ⟨g, 0, none⟩ ∧ w.ownsRow B 9 1 (.slice (some ⟨g, 0, none⟩) ps.length c) ps.length (ps.map Value.string)
theorem OwnAt.row {w : World} {B : Nat} {A : Option Addr} {c : Nat} {ps : List ByteArray} (h : OwnAt w B A c ps) : RowAt w A ps := by
  intro hp
  obtain ⟨g, hA, ho⟩ := h hp
  exact ⟨g, hA, StrsAt.of_owns ho rfl, (ho.lt g rfl).2⟩
theorem OwnAt.below {w w' : World} {B : Nat} {A : Option Addr} {c : Nat} {ps : List ByteArray} (h : OwnAt w B A c ps) (hb : Below w.heap.size w w') : OwnAt w' B A c ps := by
  intro hp
  obtain ⟨g, hA, ho⟩ := h hp
  exact ⟨g, hA, owns_below ho hb⟩
theorem ListPost.ownAt {ps : List ByteArray} {w w' : World} {e : Ending} (h : ListPost ps w e w') : ∃ A cap, e = .returned (.slice A ps.length cap) ∧ OwnAt w' w.heap.size A cap ps ∧ Below w.heap.size w w' := by
  obtain ⟨v, rfl, ho, hb⟩ := h
  rcases ho.2 with ⟨rfl, h0⟩ | ⟨g, cap, cur, rfl, _, _, _⟩
  · exact ⟨none, 0, by rw [h0], fun hp => by omega, hb⟩
  · exact ⟨some ⟨g, 0, none⟩, cap, rfl, fun _ => ⟨g, rfl, ho⟩, hb⟩
/-- Only the slice's own block has been written. -/
def OnlyAt (B : Nat) (A : Option Addr) (w w' : World) : Prop := ∃ r, w.grownBy w' r ∧ (r = none ∨ ∃ g, A = some ⟨g, 0, none⟩ ∧ B ≤ g ∧ r = some g)
theorem OnlyAt.below {B : Nat} {A : Option Addr} {w w' : World} (h : OnlyAt B A w w') (hB : B ≤ w.heap.size) : Below B w w' := by
  obtain ⟨r, hg, hr⟩ := h
  refine ⟨hg.os, hg.tape, hg.output, hg.size, fun k hk => hg.block k (by omega) ?_⟩
  rcases hr with rfl | ⟨g, _, hBg, rfl⟩
  · intro e; cases e
  · intro e
    have := Option.some.inj e
    omega
theorem mark_rows (B : Nat) (A : Option Addr) (c : Nat) (ps : List ByteArray) (hn : ps.length ≤ 1048576) (w : World) (h : OwnAt w B A c ps) :
    Calls Try.prog 16 #[.slice A ps.length c, .int .i64 1] w fun e w' => e = .returned (.int .i64 ((1 + ps.length : Nat) : Int)) ∧ RowAt w' A (marks 1 ps.length) ∧ OnlyAt B A w w' := by
  by_cases hp : 0 < ps.length
  · obtain ⟨g, rfl, ho⟩ := h hp
    refine (mark_row B 1 g c ps (by decide) (by decide) (by omega) w ho).mono ?_
    rintro e w' ⟨he, ho', hg⟩
    exact ⟨he, fun _ => ⟨g, rfl, StrsAt.of_owns ho' (by rw [marks_length]), (ho'.lt g rfl).2⟩, some g, hg, Or.inr ⟨g, rfl, (ho.lt g rfl).1, rfl⟩⟩
  · have h0 : ps.length = 0 := by omega
    rw [h0]
    refine (mark_none A c 1 w).mono ?_
    rintro e w' ⟨he, rfl⟩
    exact ⟨he, fun hq => by rw [marks_length] at hq; omega, none, World.grownBy.refl _ _, Or.inl rfl⟩
theorem held_rows (A : Option Addr) (c n : Nat) (hn : n ≤ 1048576) (w : World) (h : RowAt w A (marks 1 n)) :
    Calls Try.prog 17 #[.slice A n c, .int .i64 1] w (HeldPost 1 n w) := by
  by_cases hp : 0 < n
  · obtain ⟨g, rfl, hs, hg⟩ := h (by rw [marks_length]; exact hp)
    exact held_row 1 g c n (by decide) (by decide) (by omega) w hs hg
  · obtain rfl : n = 0 := by omega
    exact (held_none A c 1 w).mono fun e w' ⟨he, hw⟩ => ⟨he, hw ▸ Below.refl _ _⟩
end Go.Proofs.Ytalclebehbdliaa
namespace Go.Proofs.Ytalclebehbdliaa
open Go Go.RowKit

set_option maxRecDepth 100000 in
theorem mark_shift (L : Int) (B g c : Nat) (xs : List ByteArray) (hn : xs.length ≤ 1048576) (w : World) (ho : w.ownsRow B 9 1 (.slice (some ⟨g, 0, none⟩) xs.length c) xs.length (xs.map Value.string)) :
    Calls Try.prog 15 #[.agg #[.int .i64 L, .slice (some ⟨g, 0, none⟩) xs.length c], .int .i64 1] w fun e w' => e = .returned (.int .i64 ((1 + xs.length : Nat) : Int)) ∧ OnlyAt B (some ⟨g, 0, none⟩) w w' := by
  have hB := ho.lt g rfl
  have HM := Lib.hid (mark_rows B (some ⟨g, 0, none⟩) c xs hn (w.alloc (.cells #[.int .i64 L, .slice (some ⟨g, 0, none⟩) xs.length c] 27)) (fun _ => ⟨g, rfl, ho.alloc _⟩))
  clear ho
  go_enter Try.func15, Try.ntmps15
  go_wp2_with fail
  refine HM.out.mono ?_
  rintro e w1 ⟨rfl, _, r, hg, hr⟩
  have HG : Hid (OnlyAt B (some ⟨g, 0, none⟩) w w1) := Lib.hid (by
    refine ⟨r, ?_, hr⟩
    have ha := World.grownBy_alloc w (.cells #[.int .i64 L, .slice (some ⟨g, 0, none⟩) xs.length c] 27) r
    have hsz := ha.size
    exact ⟨hg.os.trans ha.os, hg.tape.trans ha.tape, hg.output.trans ha.output, Nat.le_trans ha.size hg.size, fun k hk hne => (hg.block k (by omega) hne).trans (ha.block k hk hne)⟩)
  clear hg hr
  go_wp2
  go_ret
  exact ⟨rfl, HG.out⟩
end Go.Proofs.Ytalclebehbdliaa
namespace Go.Proofs.Ytalclebehbdliaa
open Go Go.RowKit

/-- What a function of a shift and an int answers at copies of the shift: a list, in new memory. -/
def AtCopiesL (W : World) (f : Nat) (L : Int) (xs : List ByteArray) (n : Int) (ps : List ByteArray) : Prop :=
  ∀ g c w', Below W.heap.size W w' → xs.length ≤ 1048576 → total xs ≤ 1048576 → StrsAt w' g 0 xs → g < w'.heap.size → Calls Try.prog f #[.agg #[.int .i64 L, .slice (some ⟨g, 0, none⟩) xs.length c], .int .i64 n] w' (ListPost ps w')
/-- The slice A holds the strings ps in a block below H. -/
def RowIn (H : Nat) (w : World) (A : Option Addr) (ps : List ByteArray) : Prop := 0 < ps.length → ∃ g, A = some ⟨g, 0, none⟩ ∧ StrsAt w g 0 ps ∧ g < H
theorem RowIn.below {H B : Nat} {w w' : World} {A : Option Addr} {ps : List ByteArray} (h : RowIn H w A ps) (hb : Below B w w') (hB : H ≤ B) : RowIn H w' A ps := by
  intro hp
  obtain ⟨g, hA, hs, hg⟩ := h hp
  exact ⟨g, hA, hs.below (hb.mono hB) hg, hg⟩
theorem RowIn.row {H : Nat} {w : World} {A : Option Addr} {ps : List ByteArray} (h : RowIn H w A ps) (hH : H ≤ w.heap.size) : RowAt w A ps := by
  intro hp
  obtain ⟨g, hA, hs, hg⟩ := h hp
  exact ⟨g, hA, hs, Nat.lt_of_lt_of_le hg hH⟩
theorem OwnAt.only {w w' : World} {B B4 g4 c : Nat} {A : Option Addr} {ps : List ByteArray} (h : OwnAt w B A c ps) (ho : OnlyAt B4 (some ⟨g4, 0, none⟩) w w') (hlt : g4 < B) : OwnAt w' B A c ps := by
  intro hp
  obtain ⟨g, hA, hw⟩ := h hp
  obtain ⟨r, hg, hr⟩ := ho
  refine ⟨g, hA, hw.kept hg ?_⟩
  have hgB := (hw.lt g rfl).1
  rcases hr with rfl | ⟨g', hg', _, rfl⟩
  · exact Or.inr (by intro e; cases e)
  · refine Or.inr ?_
    intro e
    have h1 : g = g' := Option.some.inj e
    have h2 : g4 = g' := by
      have := Option.some.inj hg'
      injection this
    omega

end Go.Proofs.Ytalclebehbdliaa
namespace Go.Proofs.Ytalclebehbdliaa
open Go Go.RowKit

theorem pow_six {k n : Nat} (hk : k ≤ 3) (hn : n ≤ 6) : ∀ i, i ≤ n → k ^ i ≤ 729 := by
  intro i hi
  have h1 : k ^ i ≤ 3 ^ i := Nat.pow_le_pow_left hk i
  have h2 : 3 ^ i ≤ 3 ^ 6 := Nat.pow_le_pow_right (by decide) (by omega)
  have h3 : 3 ^ 6 = 729 := by decide
  omega
/-- The words that avoid, out of a list. -/
theorem keepW_length (ps ws : List ByteArray) : (keepW ps ws).length ≤ ws.length := List.length_filter_le _ _
theorem keepW_yes {ps ws : List ByteArray} {k : Nat} (hk : k < ws.length) (h : avoids ps (ws.getD k ByteArray.empty) = true) : keepW ps (ws.take (k + 1)) = keepW ps (ws.take k) ++ [ws.getD k ByteArray.empty] := by
  unfold keepW
  rw [take_next ws k hk, List.filter_append, List.filter_cons_of_pos h]
  rfl
theorem keepW_no {ps ws : List ByteArray} {k : Nat} (hk : k < ws.length) (h : avoids ps (ws.getD k ByteArray.empty) = false) : keepW ps (ws.take (k + 1)) = keepW ps (ws.take k) := by
  unfold keepW
  rw [take_next ws k hk, List.filter_append, List.filter_cons_of_neg (by rw [h]; decide)]
  simp

theorem one_cell (x : ByteArray) : ∀ u ∈ [Value.string x], u.oneCell' = true := by
  intro u hu
  rw [List.mem_singleton] at hu
  subst hu; rfl
/-- Behind an append the other list lies as it lay. -/
theorem appended {B gv gw gg nq len cv : Nat} {ws : List ByteArray} {W wr w2 : World} {o : Obj} {xs : List Value} (hB : Below B W wr) (hs : StrsAt wr gw 0 ws) (ho : wr.ownsRow B 9 1 (.slice (some ⟨gv, 0, none⟩) len cv) len xs) (hgl : gw < wr.heap.size) (hne : gv ≠ gw)
    (hg : ((wr.drewN nq).alloc o).grownBy w2 (Value.slice (some ⟨gv, 0, none⟩) len cv).ownBlock) (hat : (Value.slice (some ⟨gv, 0, none⟩) len cv).ownBlock = some gg ∨ gg = wr.heap.size + 1) :
    Below B W w2 ∧ StrsAt w2 gw 0 ws ∧ gg ≠ gw ∧ gw < w2.heap.size := by
  have hgB := (ho.lt gv rfl).1
  have hsz := hg.size
  simp at hsz
  have hlB := hB.size
  have e : (Value.slice (some ⟨gv, 0, none⟩) len cv).ownBlock = some gv := rfl
  rw [e] at hg hat
  have hWB : B ≤ ((wr.drewN nq).alloc o).heap.size := by
    have := (ho.lt gv rfl).2
    simp; omega
  refine ⟨((below_drewN hB nq).alloc (by have := (ho.lt gv rfl).2; simp; omega) o).grown hg hWB (fun q hq => by have := Option.some.inj hq; omega), ?_, ?_, by omega⟩
  · intro j hj
    have h1 := hs j hj
    have h2 : ((wr.drewN nq).alloc o).cell? ⟨gw, 0 + j, none⟩ = some (.string (ws.getD j ByteArray.empty)) := ((((below_drewN (Below.refl wr.heap.size wr) nq).alloc (Nat.le_refl _) o)).cell (p := ⟨gw, 0 + j, none⟩) hgl).trans h1
    exact hg.cell h2 (by intro h; exact hne (Option.some.inj h).symm)
  · rcases hat with h | h
    · have := Option.some.inj h; omega
    · omega

set_option maxRecDepth 100000 in
set_option maxHeartbeats 3200000 in
theorem spec_l3Words (kk nn : Nat) (G : Option Addr) (c : Nat) (ps : List ByteArray) (k1 : 1 ≤ kk) (k3 : kk ≤ 3) (n6 : nn ≤ 6) (hl : ps.length ≤ 1048576) (hz : ∀ k, k < ps.length → (ps.getD k ByteArray.empty).size ≤ 2147483648) (w : World) (hs : StrsG w G ps) :
    Calls Try.prog 81 #[.agg #[.int .i64 kk, .slice G ps.length c], .int .i64 nn] w (ListPost (keepW ps (allW kk nn)) w) := by
  obtain ⟨i0, hi, hz0, hz1, hz2⟩ := info_parts infoStr
  have HS := Lib.hid hs
  have HZ := Lib.hid hz
  have HA := Lib.hid (spec_all kk nn k1 k3 (by omega) (pow_six k3 n6))
  clear hs hz
  go_enter Try.func81, Try.ntmps81
  go_wp2_with fail
  obtain ⟨Wb, hWb⟩ : ∃ Wb, w.alloc (.cells #[.int .i64 kk, .slice G ps.length c] 27) = Wb := ⟨_, rfl⟩
  have sb : Wb.heap.size = w.heap.size + 1 := by rw [← hWb]; simp
  have xb : BoxAt Wb w.heap.size kk (.slice G ps.length c) := by rw [← hWb]; exact boxAt_new w kk _ 27
  have bb : Below w.heap.size w Wb := by rw [← hWb]; exact (Below.refl _ _).alloc (Nat.le_refl _) _
  rw [hWb]
  clear hWb
  have b0 := (Below.refl Wb.heap.size Wb).alloc (Nat.le_refl _) (.cells #[] 9)
  have o0 := World.ownsRow_made (base := Wb.heap.size) (e := 9) (size := 1) Wb #[] 0 (Nat.le_refl _) (by decide) rfl
  have XB := Lib.hid xb
  have BB := Lib.hid bb
  have B0 := Lib.hid b0
  have O0 := Lib.hid o0
  clear b0 o0 xb bb
  refine (HA.out _).mono fun e w1 h1 => ?_
  have hlen : (allW kk nn).length ≤ 729 := by rw [allW_length]; exact pow_six k3 n6 nn (Nat.le_refl _)
  have hpos : 0 < (allW kk nn).length := by rw [allW_length]; exact Nat.pow_pos k1
  have hb : ∀ y ∈ allW kk nn, y.size ≤ 16 := fun y hy => by rw [allW_size kk nn y hy]; omega
  obtain ⟨gw, c1, rfl, ow, b1⟩ := h1.full hpos
  rw [World.size_alloc] at ow
  have hgw := ow.lt gw rfl
  have stw := StrsAt.of_owns ow rfl
  have B1 := Lib.hid (B0.out.trans (b1.mono (by simp)))
  have O1 := Lib.hid (owns_below O0.out b1)
  have SW := Lib.hid stw
  clear h1 b1 ow stw B0 O0
  generalize allW kk nn = ws at *
  go_wp2
  go_loopw [5, 7] (fun v i wr => ∃ k gv cv : Nat, k ≤ ws.length ∧ i = .int .i64 k ∧ v = .slice (some ⟨gv, 0, none⟩) (keepW ps (ws.take k)).length cv ∧ gv ≠ gw ∧ gw < wr.heap.size ∧ wr.ownsRow Wb.heap.size 9 1 (.slice (some ⟨gv, 0, none⟩) (keepW ps (ws.take k)).length cv) (keepW ps (ws.take k)).length ((keepW ps (ws.take k)).map Value.string) ∧ Hid (Below Wb.heap.size Wb wr) ∧ Hid (StrsAt wr gw 0 ws)) (fun _ i _ => ws.length - (intOf i).toNat)
  case atStart => exact ⟨0, Wb.heap.size, 0, Nat.zero_le _, rfl, by simp [keepW, sb], by omega, hgw.2, O1.out, B1, SW⟩
  case round =>
    obtain ⟨k, gv, cv, hk, rfl, rfl, hne, hgl, ho, HB, HST⟩ := hrel
    have HO := Lib.hid ho
    clear ho
    by_cases hlt : k < ws.length
    · have hc := HST.out k hlt
      rw [Nat.zero_add] at hc
      obtain ⟨x0, x1⟩ := XB.out.below HB.out (by omega)
      have hmem : ws.getD k ByteArray.empty ∈ ws := by
        simp only [List.getD_eq_getElem?_getD, List.getElem?_eq_getElem hlt, Option.getD_some]
        exact List.getElem_mem hlt
      have hsz := hb _ hmem
      have HAV : Hid (∀ w', Below Wb.heap.size Wb w' → Calls Try.prog 39 #[.slice G ps.length c, .string (ws.getD k ByteArray.empty)] w' fun e w'' => e = .returned (.bool (avoids ps (ws.getD k ByteArray.empty))) ∧ w'' = w') :=
        Lib.hid (fun w' hw => spec_avoids G c ps (ws.getD k ByteArray.empty) hl HZ.out (by omega) w' ((HS.out.below BB.out).below hw))
      have k0 : (0 : Int) ≤ (k : Int) := by omega
      have k1' : (k : Int) < (ws.length : Int) := by omega
      have hlen2 : (keepW ps (ws.take k)).length ≤ 729 := by
        have h1 := keepW_length ps (ws.take k)
        rw [List.length_take] at h1
        omega
      have lb : Wb.heap.size ≤ wr.heap.size := HB.out.size
      cases hav : avoids ps (ws.getD k ByteArray.empty) with
      | true =>
        have HN := Lib.hid (keepW_yes hlt hav)
        rw [hav] at HAV
        generalize ws.getD k ByteArray.empty = y at *
        generalize keepW ps (ws.take k) = qs at *
        clear hav hmem
        go_wp2_with fail
        go_quiet (first | (go_at_call 39; refine Calls.quiet_of_same (HAV.out _ (below_drewN HB.out _))))
        have OQ := Lib.hid (owns_below HO.out (below_drewN (Below.refl wr.heap.size wr) nq))
        go_wp2_with (at_builtin; refine wpList_append_lies _ rfl (.tmp 26) (.tmp 31) 22 rfl Wb.heap.size 9 i0 (.string ByteArray.empty) 1 16 Try.underlying22 hi hz0 hz1 hz2 rfl (by decide) _ _ _ rfl (OQ.out.alloc _) ⟨wr.heap.size, 0, none⟩ 1 1 [.string y] rfl rfl (cell_one_new (wr.drewN nq) _ _) (one_cell y) (by decide) (by unfold maxLen; omega) (by omega) (by simp; omega) (wr.heap.size + 1) (by simp) ?_; intro gg cap2 w2 ho2 hg2 hat2 hlt2; have HAP := Lib.hid (appended HB.out HST.out HO.out hgl hne hg2 hat2); have HO2 := Lib.hid ho2; clear ho2 hg2 hat2)
        obtain ⟨p1, p2, p3, p4⟩ := HAP.out
        go_roundw
        case rel => exact ⟨k + 1, gg, cap2, by omega, by go_num, by rw [HN.out]; simp, p3, p4, by rw [HN.out, List.length_append, List.map_append]; exact HO2.out, p1, p2⟩
        case measure => simp [intOf]; omega
      | false =>
        have HN := Lib.hid (keepW_no hlt hav)
        rw [hav] at HAV
        generalize ws.getD k ByteArray.empty = y at *
        clear hav hmem
        go_wp2_with fail
        go_quiet (first | (go_at_call 39; refine Calls.quiet_of_same (HAV.out _ (below_drewN HB.out _))))
        go_wp2
        go_roundw
        case rel => exact ⟨k + 1, gv, cv, by omega, by go_num, by rw [HN.out], hne, hgl, by rw [HN.out]; exact owns_below HO.out (below_drewN (Below.refl _ _) _), below_drewN HB.out _, HST.out.below (below_drewN (Below.refl wr.heap.size _) _) hgl⟩
        case measure => simp [intOf]; omega
    · obtain rfl : k = ws.length := by omega
      have h := HO.out
      rw [List.take_length] at h
      have HF := Lib.hid h
      clear h
      go_wp2
      go_ret
      refine ⟨_, rfl, ?_, BB.out.trans (HB.out.mono (by omega))⟩
      rw [List.take_length]
      exact World.ownsRow.mono HF.out (by omega)
/-- The words of a length that avoid the forbidden ones; none where there is no shift or the length is out of bounds. -/
def avoidingWords (L : Int) (ps : List ByteArray) (n : Int) : List ByteArray := if isShift L ps = true ∧ 0 ≤ n ∧ n ≤ 6 then keepW ps (allW L.toNat n.toNat) else []
theorem avoidingWords_length (L : Int) (ps : List ByteArray) (n : Int) : (avoidingWords L ps n).length ≤ 1000000 := by
  unfold avoidingWords
  split
  · next h =>
    have h1 := keepW_length ps (allW L.toNat n.toNat)
    have h2 := isShift_letters h.1
    rw [allW_length] at h1
    have h3 := pow_six (k := L.toNat) (n := n.toNat) (by omega) (by omega) n.toNat (Nat.le_refl _)
    omega
  · simp

end Go.Proofs.Ytalclebehbdliaa
