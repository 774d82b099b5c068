/-
  Merged: PLAIN FACTS ON SLICES OF STRINGS IN MEMORY (no program in this text): what it means that a row of cells holds a list of strings; how long the strings are together.
  The laws' helper that compares two slices of strings: two rows that hold the same strings are found equal.
  PLAIN FACTS ON JOINED STRINGS (no program in this text): the joined bytes of the first k + 1 strings out of those of the first k; how many they are; a row of bytes that the call owns, turned into a string.
  PLAIN FACTS ON SPLITTING AT A BYTE (no program in this text): a string is cut at the first byte c; where there is none it stays whole; the pieces are one more than c occurs, none longer than the string, none contains c; joined at c they give the string.
  The model's SplitByte: at every string of at most 2^20 bytes and every byte it returns the pieces in new memory; nothing that was there before is changed.
  PLAIN FACTS ON DECIMAL NUMERALS (no program in this text): the digits one after the other; a list of bytes is the numeral of at most one integer between two limits ('numOf'), and strconv.Atoi's reading finds it.
  The model's FormatInt at every int: its digit loop gives the numeral; nothing that was there before is changed.
  PLAIN FACTS ON READING A NUMERAL (no program in this text): a sign, then digits; what is read is the integer whose numeral the bytes are, or nothing.
  The model's reading of a numeral (l1Read, ParseInt, ParseNumber): at every string it returns the integer between the limits whose numeral the string is, and true; else 0 and false; nothing that was there before is changed.
  PLAIN FACTS ON WORDS (no program in this text): what a word is, its turns and the least one, its root, its mirror, all words of a length, and where a string occurs in another.
  PLAIN FACTS ON SHIFTS (no program in this text): what a shift is, which words avoid its forbidden ones.
  A list of strings in memory, wherever it lies; an empty one may lie nowhere (no program's function in this text).
  What a word is: the model's IsWord and the program's, at every int and every string of at most 2^40 bytes, answer the same; nothing is changed.
  Whether a string has a part: the model's OccursIn, at every two strings of at most 2^31 bytes; nothing is changed.
  The model's IsShift, l3Avoids and AvoidsAll: at every number and every list of strings in memory they answer as the plain words say; nothing that was there before is changed.
  The laws' helpers on slices of strings: their size is counted down from a limit; they are copied into new memory.
  What the laws on shifts share: how long a shift is, its copy, and that two equal shifts are found equal. A shift is a number and a slice of strings.
  The laws on functions of a shift that answer a bool: where the model's and the program's function answer the same at every copy of the shift, the law returns true; nothing that was there before is changed.
  Shifts in memory, by value: the letters, and the forbidden words in a slice that lies anywhere; what a function gives back of one (no program's function in this text).
  All words of a length: the model's list of them, where the letters are at most 3 and the words at most 729, in new memory; nothing that was there before is changed.
  The laws' marks on slices of strings: each mark is a text of its own number; a row that the call owns is marked and found marked; other memory that was there is not changed.
  The laws' marks on slices of strings: a row that the call owns is marked, and a marked row is found marked; other memory that was there is not changed.
  What the laws on lists of strings share: the helpers at slices of length 0; a list in new memory, empty or not.
  An append of nothing, from a slice that is not nil: the slice stays as it is.
  The library's Concat of two slices of strings (and Grow of the nil slice): a list in new memory that holds both, one behind the other; nothing that was there before is changed.
  PLAIN FACTS ON ORDERED LISTS OF STRINGS (no program in this text): a string is put into an ascending list once; the parts of a word with one length, put so; what a map's keys give, sorted.
  The model's l2Put: a string is put into an ascending list once, at every list in memory of the call's own; nothing below that memory is changed.
  The model's cursor over the bytes of a draw: whatever the bytes, it gives numbers from 0 to 255, and numbers below a given one; it changes its own block alone.
  The model's cursor is made in a new block, whatever the bytes; a pick out of a list of strings or ints that lies in a block of its own gives one of its elements.
  A pick out of a list of strings, or of ints, that lies in a block of its own, gives one of its elements.
  PLAIN FACTS ON TABLES OF NUMBERS (no program in this text): when a table is a matrix; products, powers, sums, the matrix that is turned around; slices of slices of numbers in memory.
  PLAIN FACTS ON SLICES OF SLICES OF NUMBERS IN MEMORY (no program in this text): what it means that a slice holds a table; how many numbers there are; memory in which only some blocks have turned.
  The laws' helpers on slices of slices of numbers: how many numbers there are, counted down from a limit; a copy in new memory; two that hold the same are found equal.
  PLAIN FACTS ON TABLES IN MEMORY OF THE CALL'S OWN (no program's function in this text): each row in a block of its own; a row is put behind the others, a number or a row is put in another's place.
  The laws' helpers on slices of slices of numbers: a whole copy in new memory; two tables that hold the same are found equal; a table that the call owns is marked, and a marked one is found marked.
  Tables that the call makes: a row is put behind the others, a number is put in another's place; the model's table of zeros.
  What the laws on tables share: the helpers' contracts at whatever slice holds a table; a result that is marked, and what stays as it was.
-/
import Derived.WalkKit
import Derived.WalkSpells
import Derived.Lib.Hide
import Derived.Laws.OwnMore
import Derived.Test.YtalclebehbdliaaGreatRows
import Derived.WalkLawsBesides
import Derived.Deep.QuietTactic
import Derived.BigQuiet
import Derived.Lib.Join
import Derived.Lib.AppendStr
import Derived.Laws.IdiomStrings
import Derived.Lib.SplitLaws
import Derived.Lib.IndexBytes
import Derived.Lib.ItoaMem
import Derived.Lib.AtoiAll
import Derived.Lib.AtoiTie
import Derived.Laws.BytesArg
import Derived.Lib.AppendIntMem
import Derived.Lib.Repeat
import Derived.Lib.IndexMore
import Derived.Sort.Walk0
import Derived.Test.YtalclebehbdliaaGreatChecked
import Derived.Deep.RegionHeld3
import Derived.Deep.Onto
import Derived.Deep.AppendLies
import Derived.Deep.WholeRow
import Derived.OwnWalk
import Derived.RegionTactic
import Derived.Lib.AppendZerosOnto
import Derived.Sort.KeysCollected
import Derived.ChangeMaps
import Derived.MapViews
namespace Go.Proofs.YtalclebehbdliaaGreat
open Go Go.RowKit

/-- From ⟨b, off⟩ on the cells hold the strings xs. -/
def StrsAt (w : World) (b off : Nat) (xs : List ByteArray) : Prop := ∀ k, k < xs.length → w.cell? ⟨b, off + k, none⟩ = some (.string (xs.getD k ByteArray.empty))
theorem StrsAt.below {B b off : Nat} {w w' : World} {xs : List ByteArray} (h : StrsAt w b off xs) (hb : Below B w w') (hlt : b < B) : StrsAt w' b off xs :=
  fun k hk => (hb.cell (p := ⟨b, off + k, none⟩) hlt).trans (h k hk)
theorem StrsAt.of_owns {w : World} {base e g n cap : Nat} {xs : List ByteArray} (h : w.ownsRow base e 1 (.slice (some ⟨g, 0, none⟩) n cap) n (xs.map Value.string)) (hn : n = xs.length) : StrsAt w g 0 xs := by
  intro k hk
  rw [Nat.zero_add, h.cellAt k (by omega)]
  simp [List.getD, List.getElem?_eq_getElem hk]
/-- How long the strings are together. -/
def total (xs : List ByteArray) : Nat := (xs.map (·.size)).sum
theorem take_next (xs : List ByteArray) (k : Nat) (h : k < xs.length) : xs.take (k + 1) = xs.take k ++ [xs.getD k ByteArray.empty] := by
  rw [List.take_succ_eq_append_getElem h]
  simp [List.getD, List.getElem?_eq_getElem h]
theorem total_next (xs : List ByteArray) (k : Nat) (h : k < xs.length) : total (xs.take (k + 1)) = total (xs.take k) + (xs.getD k ByteArray.empty).size := by
  rw [take_next xs k h]; simp [total]
theorem total_le_take (xs : List ByteArray) (k : Nat) : total (xs.take k) ≤ total xs := by
  have h2 : total (xs.take k ++ xs.drop k) = total (xs.take k) + total (xs.drop k) := by simp only [total, List.map_append, List.sum_append]
  rw [List.take_append_drop] at h2
  omega
theorem size_le_total {xs : List ByteArray} {k : Nat} (h : k < xs.length) : (xs.getD k ByteArray.empty).size ≤ total xs := by
  have := total_next xs k h
  have := total_le_take xs (k + 1)
  omega
theorem total_all {xs : List ByteArray} {k : Nat} (h : xs.length ≤ k) : total (xs.take k) = total xs := by rw [List.take_of_length_le h]
/-- A row that is being filled from the front. -/
def filled (xs : List ByteArray) (k n : Nat) : List Value := (xs.take k).map Value.string ++ List.replicate (n - k) (.string ByteArray.empty)
theorem filled_none (xs : List ByteArray) (n : Nat) : filled xs 0 n = List.replicate n (.string ByteArray.empty) := by simp [filled]
theorem filled_all (xs : List ByteArray) : filled xs xs.length xs.length = xs.map Value.string := by simp [filled]
theorem filled_set (xs : List ByteArray) (k : Nat) (h : k < xs.length) : (filled xs k xs.length).set k (.string (xs.getD k ByteArray.empty)) = filled xs (k + 1) xs.length := by
  have hl : ((xs.take k).map Value.string).length = k := by simp; omega
  have hr : List.replicate (xs.length - k) (Value.string ByteArray.empty) = .string ByteArray.empty :: List.replicate (xs.length - (k + 1)) (.string ByteArray.empty) := by
    rw [show xs.length - k = (xs.length - (k + 1)) + 1 by omega, List.replicate_succ]
  unfold filled
  rw [take_next xs k h, List.map_append, hr]
  rw [List.set_append_right _ _ (by omega), hl, Nat.sub_self]
  simp
theorem filled_at (xs : List ByteArray) (k : Nat) (h : k < xs.length) : (filled xs k xs.length)[k]? = some (.string ByteArray.empty) := by
  have hl : ((xs.take k).map Value.string).length = k := by simp; omega
  unfold filled
  rw [List.getElem?_append_right (by omega), hl, Nat.sub_self]
  rw [List.getElem?_replicate, if_pos (by omega)]
end Go.Proofs.YtalclebehbdliaaGreat
namespace Go.Proofs.YtalclebehbdliaaGreat
open Go Go.RowKit

theorem infoStr : (Tryz.prog.info? 9).map (fun i => (i.zero, i.size, i.bytes)) = some (some (.string ByteArray.empty), 1, 16) := by kernel_rfl

/-- Two rows that hold the same strings are found equal. -/
def TrueBelow (w : World) (e : Ending) (w' : World) : Prop := e = .returned (.bool true) ∧ Below w.heap.size w w'

set_option maxRecDepth 100000 in
set_option maxHeartbeats 800000 in
theorem same_some (b1 o1 c1 b2 o2 c2 : Nat) (xs : List ByteArray) (hn : xs.length ≤ 1099511627776) (w : World) (h1 : StrsAt w b1 o1 xs) (h2 : StrsAt w b2 o2 xs) :
    Calls Tryz.prog 74 #[.slice (some ⟨b1, o1, none⟩) xs.length c1, .slice (some ⟨b2, o2, none⟩) xs.length c2] w (TrueBelow w) := by
  have H1 := Lib.hid h1
  have H2 := Lib.hid h2
  clear h1 h2
  go_enter Tryz.func74, Tryz.ntmps74
  go_wp2
  go_loopw [5] (fun i wr => ∃ k q : Nat, k ≤ xs.length ∧ i = .int .i64 k ∧ wr = w.drewN q) (fun i _ => xs.length - (intOf i).toNat)
  case atStart => exact ⟨0, 0, Nat.zero_le _, rfl, rfl⟩
  case round =>
    obtain ⟨k, q, hk, rfl, rfl⟩ := hrel
    by_cases hlt : k < xs.length
    · have ha := H1.out k hlt
      have hb := H2.out k hlt
      generalize xs.getD k ByteArray.empty = x at ha hb
      go_wp2
      go_quiet (fail)
      go_wp2
      go_roundw
      case rel => exact ⟨k + 1, q + nq, by omega, by go_num, rfl⟩
      case measure => simp [intOf]; omega
    · obtain rfl : k = xs.length := by omega
      go_wp2
      go_ret
      exact ⟨rfl, below_drewN (Below.refl _ _) _⟩

end Go.Proofs.YtalclebehbdliaaGreat
namespace Go.Proofs.YtalclebehbdliaaGreat
open Go Go.RowKit

def joinOf (xs : List ByteArray) (sep : ByteArray) : List UInt8 := Lib.join (xs.map (·.data.toList)) sep.data.toList
theorem joinOf_nil (sep : ByteArray) : joinOf [] sep = [] := rfl
theorem joinOf_first (xs : List ByteArray) (sep : ByteArray) (h : 0 < xs.length) : joinOf (xs.take (0 + 1)) sep = (xs.getD 0 ByteArray.empty).data.toList := by
  cases xs with
  | nil => simp at h
  | cons x r => simp [joinOf, Lib.join_one]
theorem joinOf_next (xs : List ByteArray) (sep : ByteArray) (k : Nat) (h : k < xs.length) (h0 : 0 < k) : joinOf (xs.take (k + 1)) sep = joinOf (xs.take k) sep ++ sep.data.toList ++ (xs.getD k ByteArray.empty).data.toList := by
  cases xs with
  | nil => simp at h
  | cons x r =>
    obtain ⟨j, rfl⟩ : ∃ j, k = j + 1 := ⟨k - 1, by omega⟩
    have hj : j < r.length := by simpa using h
    have e1 : (r.map (·.data.toList))[j]? = some (r.getD j ByteArray.empty).data.toList := by
      rw [List.getElem?_map, List.getElem?_eq_getElem hj]
      simp [List.getD, List.getElem?_eq_getElem hj]
    have e2 := Lib.joinTail_take_succ sep.data.toList (r.map (·.data.toList)) j _ e1
    unfold joinOf
    simp only [List.take_succ_cons, List.map_cons, Lib.join_cons, List.map_take, List.getD_cons_succ]
    rw [e2]
    simp [List.append_assoc]
theorem lens_eq_total (xs : List ByteArray) : Lib.lens (xs.map (·.data.toList)) = total xs := by
  induction xs with
  | nil => rfl
  | cons x r ih =>
    have : Lib.lens ((x :: r).map (·.data.toList)) = x.data.toList.length + Lib.lens (r.map (·.data.toList)) := by simp [Lib.lens]
    rw [this, ih]
    simp only [total, List.map_cons, List.sum_cons]
    rfl
theorem joinOf_length (xs : List ByteArray) (sep : ByteArray) : (joinOf xs sep).length ≤ sep.size * xs.length + total xs := by
  cases xs with
  | nil => simp [joinOf_nil]
  | cons x r =>
    have h := Lib.join_length x.data.toList (r.map (·.data.toList)) sep.data.toList
    have h2 := lens_eq_total (x :: r)
    simp only [List.map_cons] at h2
    unfold joinOf
    rw [List.map_cons, h, h2, List.length_map]
    have h3 : sep.data.toList.length = sep.size := rfl
    rw [h3, List.length_cons, Nat.mul_add]
    omega
theorem joinOf_take_length (xs : List ByteArray) (sep : ByteArray) (k : Nat) : (joinOf (xs.take k) sep).length ≤ sep.size * xs.length + total xs := by
  have h1 := joinOf_length (xs.take k) sep
  have h2 := total_le_take xs k
  have h3 : sep.size * (xs.take k).length ≤ sep.size * xs.length := Nat.mul_le_mul_left _ (by rw [List.length_take]; omega)
  omega

/-- Bytes as cells. -/
def cellsB (l : List UInt8) : List Value := l.map fun b => .int .u8 b.toNat
theorem cellsB_length (l : List UInt8) : (cellsB l).length = l.length := by simp [cellsB]
theorem cellsB_append (l m : List UInt8) : cellsB l ++ cellsB m = cellsB (l ++ m) := by simp [cellsB]
theorem strCells_cellsB (s : ByteArray) : Lib.strCells s = cellsB s.data.toList := rfl

/-- 'string(b)' of a row that the call owns. -/
theorem conv_owned {P : Program} {w : World} {base src dst e : Nat} {v : Value} {l : List UInt8} (hs : P.underlying src = some (.slice e)) (he : P.underlying e = some (.int .u8)) (hd : P.underlying dst = some .string)
    (h : w.ownsRow base e 1 v l.length (cellsB l)) : (convert src dst v).run P w = .ok (.string ⟨l.toArray⟩) w := by
  rcases h.2 with ⟨rfl, h0⟩ | ⟨g, cap, cur, rfl, _, _, _⟩
  · have : l = [] := List.eq_nil_of_length_eq_zero h0
    subst this
    rw [run_convert_bytes_string w src dst e _ _ _ hs he hd]
    simp [Conv.bytesToString]
    rfl
  · refine run_convert_bytes_back w src dst e ⟨g, 0, none⟩ cap l hs he hd fun j hj => ?_
    have := h.cellAt j (by omega)
    have e : (⟨g, 0, none⟩ : Addr).add j = ⟨g, j, none⟩ := by simp [Addr.add]; exact fun h => h.symm
    rw [e, this]
    simp [cellsB, List.getElem?_eq_getElem hj]
end Go.Proofs.YtalclebehbdliaaGreat
namespace Go.Proofs.YtalclebehbdliaaGreat
open Go Go.RowKit

theorem index1_none (c : UInt8) : ∀ l : List UInt8, (∀ j : Nat, l[j]? ≠ some c) → Lib.index l [c] = -1
  | [], _ => by simp [Lib.index]
  | b :: l, h => by
    have hb : b ≠ c := fun e => h 0 (by simp [e])
    have hp : ([c] : List UInt8).isPrefixOf (b :: l) = false := by simp [List.isPrefixOf, Ne.symm hb]
    have ih := index1_none c l (fun j => by have := h (j + 1); simpa using this)
    rw [Lib.index, hp, ih]; simp
theorem index1_at (c : UInt8) : ∀ (l : List UInt8) (i : Nat), l[i]? = some c → (∀ j : Nat, j < i → l[j]? ≠ some c) → Lib.index l [c] = (i : Int)
  | [], i, h, _ => by simp at h
  | b :: l, 0, h, _ => by
    have hb : b = c := by simpa using h
    subst hb
    rw [Lib.index]; simp [List.isPrefixOf]
  | b :: l, i + 1, h, hn => by
    have hb : b ≠ c := fun e => hn 0 (by omega) (by simp [e])
    have hp : ([c] : List UInt8).isPrefixOf (b :: l) = false := by simp [List.isPrefixOf, Ne.symm hb]
    have ih := index1_at c l i (by simpa using h) (fun j hj => by have := hn (j + 1) (by omega); simpa using this)
    rw [Lib.index, hp, ih]
    simp

/-- The pieces of s, cut at each byte c. -/
def parts (c : UInt8) (s : ByteArray) : List ByteArray := Lib.splitB ⟨#[c]⟩ 0 (Lib.countB s ⟨#[c]⟩) s
theorem parts_length (c : UInt8) (s : ByteArray) : (parts c s).length = Lib.countB s ⟨#[c]⟩ + 1 := Lib.splitB_all ⟨#[c]⟩ (Nat.le_refl 1) 0 _ s rfl
theorem tail_data (s : ByteArray) (f : Nat) : (s.extract f s.size).data.toList = s.data.toList.drop f := Lib.extract_to_end s f
theorem tail_get (s : ByteArray) (f j : Nat) : (s.extract f s.size).data.toList[j]? = s.data.toList[f + j]? := by rw [tail_data, List.getElem?_drop]
theorem tail_size (s : ByteArray) (f : Nat) : (s.extract f s.size).size = s.size - f := by rw [ByteArray.size_extract]; omega
theorem parts_none {c : UInt8} {s : ByteArray} (h : ∀ j : Nat, s.data.toList[j]? ≠ some c) : parts c s = [s] := by
  unfold parts
  exact Lib.splitB_miss _ 0 _ s (index1_none c _ h)
theorem parts_at {c : UInt8} {s : ByteArray} {i : Nat} (h : s.data.toList[i]? = some c) (hn : ∀ j : Nat, j < i → s.data.toList[j]? ≠ some c) : parts c s = s.extract 0 i :: parts c (s.extract (i + 1) s.size) := by
  have hix : Lib.indexB s ⟨#[c]⟩ = (i : Int) := index1_at c _ i h hn
  have hc := Lib.countB_hit s ⟨#[c]⟩ i (Nat.le_refl 1) hix
  have e1 : (⟨#[c]⟩ : ByteArray).size = 1 := rfl
  rw [e1] at hc
  unfold parts
  rw [hc, Nat.add_comm 1, Lib.splitB_hit _ 0 _ s i hix, e1, Nat.add_zero]
theorem bytes_eq {a b : ByteArray} (h : a.data.toList = b.data.toList) : a = b := by
  cases a; cases b
  simpa using h
theorem ext_ext (s : ByteArray) (f k : Nat) (hf : f ≤ k) : (s.extract f s.size).extract 0 (k - f) = s.extract f k := by
  apply bytes_eq
  rw [Lib.extract_data, Lib.extract_data, Lib.extract_data, List.drop_zero, Nat.sub_zero]
  rw [List.take_take]
  by_cases h : k ≤ s.size
  · rw [Nat.min_eq_left (by omega)]
  · have hl : (s.data.toList.drop f).length ≤ s.size - f := by rw [List.length_drop]; exact Nat.le_refl _
    rw [List.take_of_length_le (by rw [Nat.min_def]; split <;> omega), List.take_of_length_le (by omega)]
theorem ext_tail (s : ByteArray) (f d : Nat) : (s.extract f s.size).extract d (s.extract f s.size).size = s.extract (f + d) s.size := by
  apply bytes_eq
  rw [Lib.extract_to_end, Lib.extract_to_end, Lib.extract_to_end, List.drop_drop]
/-- The loop's two steps. -/
theorem parts_tail_none {c : UInt8} {s : ByteArray} {f : Nat} (h : ∀ j : Nat, f ≤ j → s.data.toList[j]? ≠ some c) : parts c (s.extract f s.size) = [s.extract f s.size] :=
  parts_none fun j => by rw [tail_get]; exact h _ (by omega)
theorem parts_tail_at {c : UInt8} {s : ByteArray} {f k : Nat} (hf : f ≤ k) (h : s.data.toList[k]? = some c) (hn : ∀ j : Nat, f ≤ j → j < k → s.data.toList[j]? ≠ some c) : parts c (s.extract f s.size) = s.extract f k :: parts c (s.extract (k + 1) s.size) := by
  rw [parts_at (i := k - f) (by rw [tail_get, show f + (k - f) = k by omega]; exact h) (fun j hj => by rw [tail_get]; exact hn _ (by omega) (by omega))]
  rw [ext_ext s f k hf, ext_tail, show f + (k - f + 1) = k + 1 by omega]
theorem ext_all (s : ByteArray) : s.extract 0 s.size = s := by
  apply bytes_eq
  rw [Lib.extract_to_end, List.drop_zero]

/-! ### What the pieces are -/
/-- Either there is no byte c from f on, or a first one. -/
theorem first_at (c : UInt8) (l : List UInt8) : (∀ j : Nat, l[j]? ≠ some c) ∨ ∃ i, l[i]? = some c ∧ ∀ j : Nat, j < i → l[j]? ≠ some c := by
  induction l with
  | nil => exact Or.inl fun j => by simp
  | cons b r ih =>
    by_cases hb : b = c
    · subst hb; exact Or.inr ⟨0, by simp, fun j hj => by omega⟩
    · rcases ih with h | ⟨i, h, hn⟩
      · left
        intro j
        cases j with
        | zero => simpa using hb
        | succ j => simpa using h j
      · right
        refine ⟨i + 1, by simpa using h, fun j hj => ?_⟩
        cases j with
        | zero => simpa using hb
        | succ j => have := hn j (by omega); simpa using this
theorem at_lt {c : UInt8} {s : ByteArray} {i : Nat} (h : s.data.toList[i]? = some c) : i < s.size := (List.getElem?_eq_some_iff.1 h).1
theorem parts_facts (c : UInt8) : ∀ (n : Nat) (s : ByteArray), s.size ≤ n → (parts c s).length ≤ s.size + 1 ∧ total (parts c s) ≤ s.size ∧ (∀ p ∈ parts c s, ∀ j : Nat, p.data.toList[j]? ≠ some c) ∧ joinOf (parts c s) ⟨#[c]⟩ = s.data.toList := by
  intro n
  induction n with
  | zero =>
    intro s hs
    have h0 : s.data.toList = [] := List.eq_nil_of_length_eq_zero (by show s.size = 0; omega)
    have hno : ∀ j : Nat, s.data.toList[j]? ≠ some c := fun j => by rw [h0]; simp
    rw [parts_none hno]
    exact ⟨by simp, by simp [total], fun p hp => by rw [List.mem_singleton] at hp; subst hp; exact hno, by simp [joinOf, Lib.join_one]⟩
  | succ n ih =>
    intro s hs
    rcases first_at c s.data.toList with hno | ⟨i, hi, hn⟩
    · rw [parts_none hno]
      exact ⟨by simp, by simp [total], fun p hp => by rw [List.mem_singleton] at hp; subst hp; exact hno, by simp [joinOf, Lib.join_one]⟩
    · have hlt := at_lt hi
      have hts := tail_size s (i + 1)
      obtain ⟨h1, h2, h3, h4⟩ := ih (s.extract (i + 1) s.size) (by omega)
      have e0 : (s.extract 0 i).size = i := by rw [ByteArray.size_extract]; omega
      have e1 : (s.extract 0 i).data.toList = s.data.toList.take i := by rw [Lib.extract_data]; simp
      rw [parts_at hi hn]
      refine ⟨by rw [List.length_cons]; omega, by simp only [total, List.map_cons, List.sum_cons] at *; rw [e0]; omega, ?_, ?_⟩
      · intro p hp j
        rcases List.mem_cons.1 hp with rfl | hp
        · rw [e1]
          intro hc
          by_cases hj : j < i
          · rw [List.getElem?_take, if_pos hj] at hc; exact hn j hj hc
          · rw [List.getElem?_take, if_neg hj] at hc; cases hc
        · exact h3 p hp j
      · have hne : ∃ y r, parts c (s.extract (i + 1) s.size) = y :: r := by
          cases hq : parts c (s.extract (i + 1) s.size) with
          | nil => have := parts_length c (s.extract (i + 1) s.size); rw [hq] at this; simp at this
          | cons y r => exact ⟨y, r, rfl⟩
        obtain ⟨y, r, hq⟩ := hne
        rw [hq] at h4 ⊢
        unfold joinOf at h4 ⊢
        simp only [List.map_cons] at h4 ⊢
        rw [Lib.join_cons] at h4 ⊢
        rw [tail_data] at h4
        have e2 : Lib.joinTail (⟨#[c]⟩ : ByteArray).data.toList (y.data.toList :: r.map (·.data.toList)) = [c] ++ (y.data.toList ++ Lib.joinTail (⟨#[c]⟩ : ByteArray).data.toList (r.map (·.data.toList))) := by simp [Lib.joinTail]
        rw [e2, h4, e1]
        have hlen : i < s.data.toList.length := hlt
        have e3 : s.data.toList[i] = c := by rw [List.getElem?_eq_getElem hlen] at hi; exact Option.some.inj hi
        have e4 : s.data.toList.drop i = c :: s.data.toList.drop (i + 1) := by rw [List.drop_eq_getElem_cons hlen, e3]
        rw [List.singleton_append, ← e4, List.take_append_drop]
end Go.Proofs.YtalclebehbdliaaGreat
namespace Go.Proofs.YtalclebehbdliaaGreat
open Go Go.RowKit

/-- The pieces, in new memory. -/
def PartsPost (c : UInt8) (s : ByteArray) (w : World) (e : Ending) (w' : World) : Prop :=
  ∃ g cap, e = .returned (.slice (some ⟨g, 0, none⟩) (parts c s).length cap) ∧ w'.ownsRow w.heap.size 9 1 (.slice (some ⟨g, 0, none⟩) (parts c s).length cap) (parts c s).length ((parts c s).map Value.string) ∧ Below w.heap.size w w'
def SplitInv (c : UInt8) (s : ByteArray) (k f : Nat) (done : List ByteArray) : Prop :=
  done.length ≤ k ∧ ((k ≤ s.size ∧ f ≤ k ∧ done ++ parts c (s.extract f s.size) = parts c s ∧ ∀ j : Nat, f ≤ j → j < k → s.data.toList[j]? ≠ some c) ∨ (k = s.size + 1 ∧ done = parts c s))
theorem SplitInv.start (c : UInt8) (s : ByteArray) : SplitInv c s 0 0 [] := ⟨Nat.le_refl _, Or.inl ⟨Nat.zero_le _, Nat.le_refl _, by rw [ext_all]; rfl, fun j _ h => by omega⟩⟩
theorem SplitInv.part {c : UInt8} {s : ByteArray} {k f : Nat} {done : List ByteArray} (h : SplitInv c s k f done) (hk : k < s.size) : f ≤ k := by
  rcases h.2 with h | h
  · exact h.2.1
  · omega
theorem SplitInv.skip {c : UInt8} {s : ByteArray} {k f : Nat} {done : List ByteArray} (h : SplitInv c s k f done) (hk : k < s.size) (hne : s.data.toList[k]? ≠ some c) : SplitInv c s (k + 1) f done := by
  obtain ⟨h0, h | h⟩ := h
  · refine ⟨by omega, Or.inl ⟨by omega, by omega, h.2.2.1, fun j hf hj => ?_⟩⟩
    rcases Nat.lt_or_ge j k with h1 | h1
    · exact h.2.2.2 j hf h1
    · obtain rfl : j = k := by omega
      exact hne
  · omega
theorem SplitInv.cut {c : UInt8} {s : ByteArray} {k f : Nat} {done : List ByteArray} (h : SplitInv c s k f done) (hk : k < s.size) (he : s.data.toList[k]? = some c) : SplitInv c s (k + 1) (k + 1) (done ++ [s.extract f k]) := by
  obtain ⟨h0, h | h⟩ := h
  · refine ⟨by simp; omega, Or.inl ⟨by omega, Nat.le_refl _, ?_, fun j hf hj => by omega⟩⟩
    rw [← h.2.2.1, parts_tail_at h.2.1 he h.2.2.2]
    simp
  · omega
theorem SplitInv.last {c : UInt8} {s : ByteArray} {f : Nat} {done : List ByteArray} (h : SplitInv c s s.size f done) : SplitInv c s (s.size + 1) (s.size + 1) (done ++ [s.extract f s.size]) := by
  obtain ⟨h0, h | h⟩ := h
  · refine ⟨by simp; omega, Or.inr ⟨rfl, ?_⟩⟩
    rw [← h.2.2.1, parts_tail_none (fun j hf hc => ?_)]
    have hlt := at_lt hc
    exact h.2.2.2 j hf hlt hc
  · omega
theorem SplitInv.endf {c : UInt8} {s : ByteArray} {f : Nat} {done : List ByteArray} (h : SplitInv c s s.size f done) : f ≤ s.size := by
  rcases h.2 with h | h
  · exact h.2.1
  · omega
theorem SplitInv.done {c : UInt8} {s : ByteArray} {f : Nat} {done : List ByteArray} (h : SplitInv c s (s.size + 1) f done) : done = parts c s := by
  rcases h.2 with h | h
  · omega
  · exact h.2

set_option maxRecDepth 100000 in
set_option maxHeartbeats 1600000 in
theorem spec_split (c : UInt8) (s : ByteArray) (hs : s.size ≤ 1048576) (w : World) :
    Calls Tryz.prog 123 #[.string s, .int .u8 (c.toNat : Int)] w (PartsPost c s w) := by
  obtain ⟨i0, hi, hz0, hz1, hz2⟩ := info_parts infoStr
  go_enter Tryz.func123, Tryz.ntmps123
  go_wp2
  go_loopw [5, 6, 7] (fun v fr i wr => ∃ (k f : Nat) (done : List ByteArray), k ≤ s.size + 1 ∧ done.length ≤ k ∧ fr = .int .i64 f ∧ i = .int .i64 k ∧ wr.ownsRow w.heap.size 9 1 v done.length (done.map Value.string) ∧ Below w.heap.size w wr ∧ Hid (SplitInv c s k f done)) (fun _ _ i _ => s.size + 1 - (intOf i).toNat)
  case atStart => exact ⟨0, 0, [], by omega, Nat.le_refl _, rfl, rfl, World.ownsRow_made _ _ 0 (Nat.le_refl _) (by decide) rfl, (Below.refl _ _).alloc (Nat.le_refl _) _, Lib.hid (SplitInv.start c s)⟩
  case round =>
    obtain ⟨k, f, done, hk, hdl, rfl, rfl, ho, hbl, hinv⟩ := hrel
    have HO := Lib.hid ho
    have HB := Lib.hid hbl
    clear ho hbl
    by_cases hlt : k < s.size
    · have hfk := hinv.out.part hlt
      have hq : s.data.toList[k]? = some s[k] := by
        have h' : k < s.data.toList.length := hlt
        rw [List.getElem?_eq_getElem h']; rfl
      have g0 : ((k : Int) == (s.size : Int)) = false := by simp; omega
      by_cases he : s[k] = c
      · have hn := Lib.hid (hinv.out.cut hlt (by rw [hq, he]))
        have g1 : ((s[k].toNat : Int) == (c.toNat : Int)) = true := by simp [he]
        clear hq he
        go_wp2_with (at_builtin; refine wpList_append_own _ rfl (.tmp 26) (.tmp 31) 24 rfl w.heap.size 9 i0 (.string ByteArray.empty) 1 16 Tryz.underlying24 hi hz0 hz1 hz2 rfl (by decide) _ _ _ rfl (HO.out.alloc _) ⟨wr.heap.size, 0, none⟩ 1 1 [.string (s.extract f k)] rfl rfl (cell_one_new _ _ _) (by intro u hu; rw [List.mem_singleton] at hu; subst hu; rfl) (by unfold maxLen; omega) (by omega) (by have := HB.out.size; simp; omega) ?_; intro v1 w1 ho1 hg1 _; have hb1 : Below w.heap.size w w1 := (HB.out.alloc HB.out.size _).grown hg1 (by have := HB.out.size; simp; omega) (fun k hk => (HO.out.lt k hk).1); have HO1 := Lib.hid ho1; have HB1 := Lib.hid hb1; clear ho1 hb1 hg1)
        go_roundw
        case rel => exact ⟨k + 1, k + 1, done ++ [s.extract f k], by omega, by simp; omega, by go_num, by go_num, by have h := HO1.out; rw [List.length_append, List.map_append]; exact h, HB1.out, hn⟩
        case measure => simp [intOf]; omega
      · have hn := Lib.hid (hinv.out.skip hlt (by rw [hq]; intro h; exact he (Option.some.inj h)))
        have g1 : ((s[k].toNat : Int) == (c.toNat : Int)) = false := by
          rw [beq_eq_false_iff_ne]
          intro h
          exact he (UInt8.toNat_inj.1 (by omega))
        clear hq he
        go_wp2
        go_roundw
        case rel => exact ⟨k + 1, f, done, by omega, by omega, rfl, by go_num, HO.out, HB.out, hn⟩
        case measure => simp [intOf]; omega
    · by_cases heq : k = s.size
      · subst heq
        have hfk := hinv.out.endf
        have hn := Lib.hid hinv.out.last
        go_wp2_with (at_builtin; refine wpList_append_own _ rfl (.tmp 26) (.tmp 31) 24 rfl w.heap.size 9 i0 (.string ByteArray.empty) 1 16 Tryz.underlying24 hi hz0 hz1 hz2 rfl (by decide) _ _ _ rfl (HO.out.alloc _) ⟨wr.heap.size, 0, none⟩ 1 1 [.string (s.extract f s.size)] rfl rfl (cell_one_new _ _ _) (by intro u hu; rw [List.mem_singleton] at hu; subst hu; rfl) (by unfold maxLen; omega) (by omega) (by have := HB.out.size; simp; omega) ?_; intro v1 w1 ho1 hg1 _; have hb1 : Below w.heap.size w w1 := (HB.out.alloc HB.out.size _).grown hg1 (by have := HB.out.size; simp; omega) (fun k hk => (HO.out.lt k hk).1); have HO1 := Lib.hid ho1; have HB1 := Lib.hid hb1; clear ho1 hb1 hg1)
        go_roundw
        case rel => exact ⟨s.size + 1, s.size + 1, done ++ [s.extract f s.size], by omega, by simp; omega, by go_num, by go_num, by have h := HO1.out; rw [List.length_append, List.map_append]; exact h, HB1.out, hn⟩
        case measure => simp [intOf]
      · obtain rfl : k = s.size + 1 := by omega
        have hd := hinv.out.done
        subst hd
        have ho := HO.out
        rcases ho.2 with ⟨rfl, h0⟩ | ⟨g, cap, cur, rfl, _, _, _⟩
        · exact absurd h0 (by rw [parts_length]; omega)
        · clear HO
          have HO := Lib.hid ho
          clear ho
          go_wp2
          go_ret
          exact ⟨g, cap, rfl, HO.out, HB.out⟩
end Go.Proofs.YtalclebehbdliaaGreat
namespace Go.Proofs.YtalclebehbdliaaGreat
open Go

/-- The digits of u, none for 0. -/
def dd (u : Nat) : List UInt8 := if u = 0 then [] else Lib.decDigits u
theorem dd_zero : dd 0 = [] := rfl
theorem dd_pos {u : Nat} (h : u ≠ 0) : dd u = Lib.decDigits u := by unfold dd; rw [if_neg h]
theorem dd_step {u : Nat} (h : u ≠ 0) : dd u = dd (u / 10) ++ [UInt8.ofNat (48 + u % 10)] := by
  rw [dd_pos h]
  by_cases h10 : u < 10
  · have e0 : u / 10 = 0 := by omega
    rw [e0, dd_zero, Lib.decDigits_one h10, Nat.mod_eq_of_lt h10]; rfl
  · rw [Lib.decDigits, dif_neg h10, dd_pos (by omega)]
theorem dd_length : ∀ (k u : Nat), u < 10 ^ k → (dd u).length ≤ k
  | 0, u, h => by
    have : u = 0 := by simpa using h
    subst this; simp [dd_zero]
  | k + 1, u, h => by
    by_cases h0 : u = 0
    · subst h0; simp [dd_zero]
    · rw [dd_step h0, List.length_append]
      rw [Nat.pow_succ] at h
      have := dd_length k (u / 10) (by omega)
      simp; omega
theorem itoa_pos {u : Nat} (h : u ≠ 0) : Lib.itoa (u : Int) = dd u := by rw [Lib.itoa_nonneg, dd_pos h]
theorem itoa_negd {u : Nat} (h : u ≠ 0) : Lib.itoa (-(u : Int)) = 45 :: dd u := by rw [Lib.itoa_neg u (by omega), dd_pos h]
theorem itoa_zero : Lib.itoa 0 = [48] := by rw [show (0 : Int) = ((0 : Nat) : Int) from rfl, Lib.itoa_nonneg, Lib.decDigits_one (by decide)]; rfl

/-! ### Reading digits -/
theorem decFrom_append : ∀ (l r : List UInt8) (acc : Nat), Lib.decFrom acc (l ++ r) = (Lib.decFrom acc l).bind fun n => Lib.decFrom n r
  | [], r, acc => by simp [Lib.decFrom]
  | a :: t, r, acc => by
    simp only [List.cons_append, Lib.decFrom]
    cases Lib.digitVal a with
    | none => rfl
    | some d => exact decFrom_append t r _
theorem digitVal_of {d : Nat} (h : d < 10) : Lib.digitVal (UInt8.ofNat (48 + d)) = some d := by
  have e : (UInt8.ofNat (48 + d)).toNat = 48 + d := by simp [UInt8.toNat_ofNat']; omega
  unfold Lib.digitVal; rw [e, if_pos (by omega)]; congr 1; omega
theorem decFrom_dd : ∀ (k u : Nat), u < 10 ^ k → Lib.decFrom 0 (dd u) = some u
  | 0, u, h => by
    have : u = 0 := by simpa using h
    subst this; rfl
  | k + 1, u, h => by
    by_cases h0 : u = 0
    · subst h0; rfl
    · rw [Nat.pow_succ] at h
      rw [dd_step h0, decFrom_append, decFrom_dd k (u / 10) (by omega)]
      simp only [Option.bind_some, Lib.decFrom, digitVal_of (show u % 10 < 10 by omega)]
      congr 1; omega
theorem lt_pow_self (u : Nat) : u < 10 ^ u := Nat.lt_pow_self (by decide)
theorem decFrom_decDigits (u : Nat) : Lib.decFrom 0 (Lib.decDigits u) = some u := by
  by_cases h0 : u = 0
  · subst h0; rw [Lib.decDigits_one (by decide)]; rfl
  · rw [← dd_pos h0]; exact decFrom_dd u u (lt_pow_self u)
theorem decDigits_ne (u : Nat) : Lib.decDigits u ≠ [] := by
  intro h
  have := Lib.decDigits_length u
  rw [h] at this
  have := Lib.nDigits_pos u
  simp at *; omega
theorem decNat_decDigits (u : Nat) : Lib.decNat (Lib.decDigits u) = some u := by
  unfold Lib.decNat
  rw [if_neg (by simpa using decDigits_ne u), decFrom_decDigits]
/-- The first byte of a numeral without a sign is a digit. -/
theorem decDigits_head {u : Nat} {b : UInt8} {r : List UInt8} (h : Lib.decDigits u = b :: r) : 48 ≤ b.toNat ∧ b.toNat ≤ 57 := by
  have hd := decFrom_decDigits u
  rw [h] at hd
  obtain ⟨d, e⟩ := Lib.digit_of_decFrom _ _ _ hd 0 b rfl
  unfold Lib.digitVal at e
  split at e
  · assumption
  · cases e

theorem atoi_itoa (n : Int) : Lib.atoi (Lib.itoa n) = some n := by
  by_cases h : n < 0
  · have e : Lib.itoa n = 45 :: Lib.decDigits n.natAbs := by unfold Lib.itoa; rw [if_pos h]
    rw [e]
    simp only [Lib.atoi, decNat_decDigits]
    simp; omega
  · have e : Lib.itoa n = Lib.decDigits n.toNat := by unfold Lib.itoa; rw [if_neg h]
    rw [e]
    cases hl : Lib.decDigits n.toNat with
    | nil => exact absurd hl (decDigits_ne _)
    | cons b r =>
      have hb := decDigits_head hl
      have h45 : (b == 45) = false := by
        rw [beq_eq_false_iff_ne]; rintro rfl; simp at hb
      have h43 : (b == 43) = false := by
        rw [beq_eq_false_iff_ne]; rintro rfl; simp at hb
      simp only [Lib.atoi, h45, h43, ← hl, decNat_decDigits]
      simp; omega
theorem itoa_inj {a b : Int} (h : Lib.itoa a = Lib.itoa b) : a = b := by
  have := atoi_itoa a; rw [h, atoi_itoa] at this; exact (Option.some.inj this).symm

/-! ### The integer between two limits that a list of bytes is the numeral of -/
def numOf (lo hi : Int) (l : List UInt8) : Option Int :=
  match Lib.atoi l with
  | some v => if lo ≤ v ∧ v ≤ hi ∧ Lib.itoa v = l then some v else none
  | none => none
theorem numOf_some {lo hi : Int} {l : List UInt8} {n : Int} : numOf lo hi l = some n ↔ lo ≤ n ∧ n ≤ hi ∧ Lib.itoa n = l := by
  constructor
  · intro h
    unfold numOf at h
    split at h
    · split at h
      · cases h; assumption
      · cases h
    · cases h
  · rintro ⟨h1, h2, rfl⟩
    unfold numOf
    simp only [atoi_itoa]
    rw [if_pos ⟨h1, h2, trivial⟩]
theorem numOf_none {lo hi : Int} {l : List UInt8} (h : ∀ n, lo ≤ n → n ≤ hi → Lib.itoa n ≠ l) : numOf lo hi l = none := by
  cases e : numOf lo hi l with
  | none => rfl
  | some n => obtain ⟨a, b, c⟩ := numOf_some.1 e; exact absurd c (h n a b)

/-! ### How long the numerals are -/
theorem decDigits_length_le {k u : Nat} (hk : 1 ≤ k) (h : u < 10 ^ k) : (Lib.decDigits u).length ≤ k := by
  by_cases h0 : u = 0
  · subst h0; rw [Lib.decDigits_one (by decide)]; simpa using hk
  · rw [← dd_pos h0]; exact dd_length k u h
theorem itoa_length_le {k : Nat} {n : Int} (hk : 1 ≤ k) (h : n.natAbs < 10 ^ k) : (Lib.itoa n).length ≤ k + 1 := by
  unfold Lib.itoa
  split
  · have := decDigits_length_le hk h; simp; omega
  · have := decDigits_length_le hk (u := n.toNat) (by omega); omega
/-- strconv.Atoi reads every numeral between the limits. -/
theorem atoiAll_of_numOf {lo hi : Int} {l : List UInt8} {n : Int} (hlo : -999999999999 ≤ lo) (hhi : hi ≤ 999999999999) (h : numOf lo hi l = some n) : Lib.atoiAll l = .ok n := by
  obtain ⟨h1, h2, rfl⟩ := numOf_some.1 h
  have hlen := itoa_length_le (k := 12) (n := n) (by decide) (by omega)
  rw [Lib.atoiAll_short _ (by omega), atoi_itoa]
  rfl
/-- What strconv.Atoi reads, and is no numeral of that form between the limits, is none. -/
theorem numOf_of_atoiAll {lo hi v : Int} {l : List UInt8} (hlo : -999999999999 ≤ lo) (hhi : hi ≤ 999999999999) (h : Lib.atoiAll l = .ok v) (hn : ¬ (lo ≤ v ∧ v ≤ hi ∧ Lib.itoa v = l)) : numOf lo hi l = none := by
  cases e : numOf lo hi l with
  | none => rfl
  | some n =>
    have := atoiAll_of_numOf hlo hhi e
    rw [h] at this
    cases this
    exact absurd (numOf_some.1 e) hn
theorem numOf_of_atoiAll_not {lo hi : Int} {l : List UInt8} (hlo : -999999999999 ≤ lo) (hhi : hi ≤ 999999999999) (h : ∀ v, Lib.atoiAll l ≠ .ok v) : numOf lo hi l = none := by
  cases e : numOf lo hi l with
  | none => rfl
  | some n => exact absurd (atoiAll_of_numOf hlo hhi e) (h n)
end Go.Proofs.YtalclebehbdliaaGreat
namespace Go.Proofs.YtalclebehbdliaaGreat
open Go Go.RowKit

theorem ret_str {a b : ByteArray} (h : a = b) : Ending.returned (.string a) = .returned (.string b) := by rw [h]
theorem bytes_ext {a : ByteArray} {l : List UInt8} (h : a.data.toList = l) : a = ⟨l.toArray⟩ := by subst h; rfl

/-- 'string([]byte{x})' -/
theorem conv_one (b : UInt8) (y : Int) (hy : y = (b.toNat : Int)) (w : World) : (convert 22 9 (.slice (some ⟨w.heap.size, 0, none⟩) 1 1)).run Tryz.prog (w.alloc (.cells #[.int .u8 y] 5)) = .ok (.string ⟨#[b]⟩) (w.alloc (.cells #[.int .u8 y] 5)) := by
  subst hy
  have h := run_convert_bytes_arg (P := Tryz.prog) (w.alloc (.cells #[.int .u8 (b.toNat : Int)] 5)) 22 5 Tryz.underlying22 Tryz.underlying5 w.heap.size 0 1 1 [(b.toNat : Int)] rfl (fun i hi => by
    obtain rfl : i = 0 := by omega
    simp [go_sem]) 9 Tryz.underlying9
  rw [h]
  simp [strOfNums]

theorem dd_rest {u c : Nat} {s : ByteArray} {b : UInt8} (h : dd c ++ s.data.toList = dd u) (h0 : 0 < c) (hb : b = UInt8.ofNat (48 + c % 10)) : dd (c / 10) ++ ((⟨#[b]⟩ : ByteArray) ++ s).data.toList = dd u := by
  rw [← h, dd_step (show c ≠ 0 by omega), hb]; simp [ByteArray.data_append]
theorem dd_len {u c : Nat} {s : ByteArray} (h : dd c ++ s.data.toList = dd u) (hu : u ≤ 9223372036854775808) : s.size ≤ 1000 := by
  have h1 := dd_length 20 u (by omega)
  rw [← h, List.length_append] at h1
  have h2 : s.size = s.data.toList.length := rfl
  omega
theorem digit_byte (c : Nat) : ∃ b : UInt8, b = UInt8.ofNat (48 + c % 10) ∧ (48 : Int) + (c : Int) % 10 = (b.toNat : Int) :=
  ⟨_, rfl, by
    have e : (UInt8.ofNat (48 + c % 10)).toNat = 48 + c % 10 := by rw [UInt8.toNat_ofNat']; exact Nat.mod_eq_of_lt (by omega)
    rw [e]; omega⟩

set_option maxRecDepth 100000 in
set_option maxHeartbeats 400000 in
theorem spec_fmt_pos (u : Nat) (hu0 : 0 < u) (hu : u ≤ 9223372036854775807) (w : World) :
    Calls Tryz.prog 152 #[.int .i64 u] w fun e w' => e = .returned (.string ⟨(Lib.itoa u).toArray⟩) ∧ Below w.heap.size w w' := by
  have hz : ((u : Int) == 0) = false := by simp; omega
  have hn : decide ((u : Int) < 0) = false := by simp
  go_enter Tryz.func152, Tryz.ntmps152
  go_wp2
  go_loopw [0, 4] (fun n o wr => ∃ (c : Nat) (s : ByteArray), c ≤ u ∧ Hid (dd c ++ s.data.toList = dd u) ∧ n = .int .i64 c ∧ o = .string s ∧ Below w.heap.size w wr) (fun n _ _ => (intOf n).toNat)
  case atStart => exact ⟨u, _, Nat.le_refl _, Lib.hid (by simp), rfl, rfl, Below.refl _ _⟩
  case round =>
    obtain ⟨c, s, hc, hl, rfl, rfl, hb⟩ := hrel
    by_cases h0 : 0 < c
    · obtain ⟨b, hb1, hb2⟩ := digit_byte c
      have hcv := conv_one b (48 + (c : Int) % 10) hb2
      have hs := dd_len hl.out (by omega)
      have HB := Lib.hid hb1
      clear hb1 hb2
      go_wp2
      go_roundw
      case rel => exact ⟨c / 10, _, by omega, Lib.hid (dd_rest hl.out h0 HB.out), by go_num, rfl, hb.alloc (by have := hb.size; omega) _⟩
      case measure => simp [intOf]; omega
    · obtain rfl : c = 0 := by omega
      go_wp2
      go_ret
      exact ⟨ret_str (bytes_ext (by have := hl.out; rw [dd_zero] at this; rw [itoa_pos (by omega), ← this]; rfl)), hb⟩

theorem tmod_neg (c : Nat) : Int.tmod (-(c : Int)) 10 = -((c : Int) % 10) := by
  rw [Int.neg_tmod, Int.tmod_eq_emod_of_nonneg (by omega)]
theorem tdiv_neg (c : Nat) : Int.tdiv (-(c : Int)) 10 = -((c : Int) / 10) := by
  rw [Int.neg_tdiv, Int.tdiv_eq_ediv_of_nonneg (by omega)]

set_option maxRecDepth 100000 in
set_option maxHeartbeats 400000 in
theorem spec_fmt_neg (u : Nat) (hu0 : 0 < u) (hu : u ≤ 9223372036854775808) (w : World) :
    Calls Tryz.prog 152 #[.int .i64 (-(u : Int))] w fun e w' => e = .returned (.string ⟨(Lib.itoa (-(u : Int))).toArray⟩) ∧ Below w.heap.size w w' := by
  have hz : ((-(u : Int)) == 0) = false := by simp; omega
  have hn : decide ((-(u : Int)) < 0) = true := by simp; omega
  go_enter Tryz.func152, Tryz.ntmps152
  go_wp2
  go_loopw [0, 4] (fun n o wr => ∃ (c : Nat) (s : ByteArray), c ≤ u ∧ Hid (dd c ++ s.data.toList = dd u) ∧ n = .int .i64 (-(c : Int)) ∧ o = .string s ∧ Below w.heap.size w wr) (fun n _ _ => (intOf n).natAbs)
  case atStart => exact ⟨u, _, Nat.le_refl _, Lib.hid (by simp), rfl, rfl, Below.refl _ _⟩
  case round =>
    obtain ⟨c, s, hc, hl, rfl, rfl, hb⟩ := hrel
    by_cases h0 : 0 < c
    · obtain ⟨b, hb1, hb2⟩ := digit_byte c
      have hcv := conv_one b (48 + (c : Int) % 10) hb2
      have hs := dd_len hl.out (by omega)
      have HB := Lib.hid hb1
      have ht := tmod_neg c
      have hd := tdiv_neg c
      have hb3 := Lib.hid hb2
      clear hb1 hb2
      by_cases h1 : 0 < (c : Int) % 10
      · go_wp2
        go_roundw
        case rel => exact ⟨c / 10, _, by omega, Lib.hid (dd_rest hl.out h0 HB.out), by go_num, rfl, hb.alloc (by have := hb.size; omega) _⟩
        case measure => simp [intOf]; omega
      · have hcv2 := conv_one b (48 + -((c : Int) % 10)) (by have := HB.out; subst this; rw [← hb3.out]; omega)
        clear hcv
        go_wp2
        go_roundw
        case rel => exact ⟨c / 10, _, by omega, Lib.hid (dd_rest hl.out h0 HB.out), by go_num, rfl, hb.alloc (by have := hb.size; omega) _⟩
        case measure => simp [intOf]; omega
    · obtain rfl : c = 0 := by omega
      have hs := dd_len hl.out (by omega)
      go_wp2
      go_ret
      exact ⟨ret_str (bytes_ext (by have := hl.out; rw [dd_zero] at this; rw [itoa_negd (by omega), ← this]; simp [ByteArray.data_append])), hb⟩

set_option maxRecDepth 100000 in
set_option maxHeartbeats 400000 in
theorem spec_fmt_zero (w : World) :
    Calls Tryz.prog 152 #[.int .i64 0] w fun e w' => e = .returned (.string ⟨(Lib.itoa 0).toArray⟩) ∧ Below w.heap.size w w' := by
  rw [itoa_zero]
  go_enter Tryz.func152, Tryz.ntmps152
  go_wp2
  go_ret
  exact ⟨rfl, Below.refl _ _⟩

/-- The model's FormatInt, at every int. -/
theorem spec_fmt (n : Int) (h0 : -9223372036854775808 ≤ n) (h1 : n ≤ 9223372036854775807) (w : World) :
    Calls Tryz.prog 152 #[.int .i64 n] w fun e w' => e = .returned (.string ⟨(Lib.itoa n).toArray⟩) ∧ Below w.heap.size w w' := by
  rcases Int.lt_trichotomy n 0 with h | h | h
  · obtain ⟨u, rfl⟩ : ∃ u : Nat, n = -(u : Int) := ⟨n.natAbs, by omega⟩
    exact spec_fmt_neg u (by omega) (by omega) w
  · subst h; exact spec_fmt_zero w
  · obtain ⟨u, rfl⟩ : ∃ u : Nat, n = (u : Int) := ⟨n.toNat, by omega⟩
    exact spec_fmt_pos u (by omega) (by omega) w
end Go.Proofs.YtalclebehbdliaaGreat
namespace Go.Proofs.YtalclebehbdliaaGreat
open Go

/-! ### The sign and what stands behind it -/
def negOf (l : List UInt8) : Bool := l.head? == some 45
def magOf (l : List UInt8) : List UInt8 := if negOf l then l.tail else l
def sg (neg : Bool) (m : Nat) : Int := if neg then -(m : Int) else m
theorem itoa_parts (n : Int) : negOf (Lib.itoa n) = decide (n < 0) ∧ magOf (Lib.itoa n) = Lib.decDigits n.natAbs := by
  by_cases h : n < 0
  · have e : Lib.itoa n = 45 :: Lib.decDigits n.natAbs := by unfold Lib.itoa; rw [if_pos h]
    rw [e]
    have hn : negOf (45 :: Lib.decDigits n.natAbs) = true := rfl
    refine ⟨by rw [hn]; simp [h], ?_⟩
    unfold magOf; rw [hn]; rfl
  · have e : Lib.itoa n = Lib.decDigits n.toNat := by unfold Lib.itoa; rw [if_neg h]
    have e2 : n.natAbs = n.toNat := by omega
    rw [e, e2]
    have hn : negOf (Lib.decDigits n.toNat) = false := by
      cases hl : Lib.decDigits n.toNat with
      | nil => rfl
      | cons b r =>
        have hb := decDigits_head hl
        unfold negOf
        simp only [List.head?_cons]
        rw [beq_eq_false_iff_ne]
        intro hc
        cases hc
        simp at hb
    refine ⟨by rw [hn]; simp [h], ?_⟩
    unfold magOf; rw [hn]; rfl
theorem sg_natAbs (n : Int) : sg (decide (n < 0)) n.natAbs = n := by
  unfold sg
  by_cases h : n < 0
  · simp [h]; omega
  · simp [h]; omega
theorem digitVal_lt {b : UInt8} {d : Nat} (h : Lib.digitVal b = some d) : d < 10 := by
  unfold Lib.digitVal at h
  split at h
  · cases h; omega
  · cases h
theorem decFrom_lt : ∀ (l : List UInt8) (acc k m : Nat), acc < 10 ^ k → Lib.decFrom acc l = some m → m < 10 ^ (k + l.length)
  | [], acc, k, m, ha, h => by
    simp only [Lib.decFrom, Option.some.injEq] at h
    subst h; simpa using ha
  | b :: r, acc, k, m, ha, h => by
    simp only [Lib.decFrom] at h
    cases hd : Lib.digitVal b with
    | none => rw [hd] at h; cases h
    | some d =>
      rw [hd] at h
      have h10 := digitVal_lt hd
      have := decFrom_lt r (acc * 10 + d) (k + 1) m (by rw [Nat.pow_succ]; omega) h
      rw [List.length_cons]
      rw [show k + (r.length + 1) = k + 1 + r.length by omega]
      exact this
theorem decFrom_take_lt {l : List UInt8} {k m : Nat} (hk : k ≤ l.length) (h : Lib.decFrom 0 (l.take k) = some m) : m < 10 ^ k := by
  have := decFrom_lt (l.take k) 0 0 m (by decide) h
  rwa [List.length_take, Nat.zero_add, Nat.min_eq_left hk] at this

/-- The reading between -lim and lim, at its four ends. -/
def readOf (lim : Nat) (l : List UInt8) : Option Int := numOf (-(lim : Int)) lim l
theorem readOf_parts {lim : Nat} {l : List UInt8} {n : Int} (h : readOf lim l = some n) : n.natAbs ≤ lim ∧ negOf l = decide (n < 0) ∧ magOf l = Lib.decDigits n.natAbs ∧ Lib.itoa n = l := by
  obtain ⟨h1, h2, rfl⟩ := numOf_some.1 h
  exact ⟨by omega, (itoa_parts n).1, (itoa_parts n).2, rfl⟩
theorem readOf_length {most lim : Nat} {l : List UInt8} (hm : 1 ≤ most) (hl : lim < 10 ^ most) (h : (magOf l).length < 1 ∨ most < (magOf l).length) : readOf lim l = none := by
  cases e : readOf lim l with
  | none => rfl
  | some n =>
    obtain ⟨h1, _, h3, _⟩ := readOf_parts e
    rw [h3] at h
    have h4 := decDigits_length_le (u := n.natAbs) hm (by omega)
    have h5 : 1 ≤ (Lib.decDigits n.natAbs).length := by rw [Lib.decDigits_length]; exact Lib.nDigits_pos _
    omega
theorem readOf_nodigit {lim : Nat} {l : List UInt8} {k : Nat} {b : UInt8} (hb : (magOf l)[k]? = some b) (h : b.toNat < 48 ∨ 57 < b.toNat) : readOf lim l = none := by
  cases e : readOf lim l with
  | none => rfl
  | some n =>
    obtain ⟨_, _, h3, _⟩ := readOf_parts e
    rw [h3] at hb
    obtain ⟨d, hd⟩ := Lib.digit_of_decFrom _ _ _ (decFrom_decDigits n.natAbs) k b hb
    unfold Lib.digitVal at hd
    rw [if_neg (by omega)] at hd
    cases hd
theorem readOf_other {lim m : Nat} {l : List UInt8} (h : Lib.decFrom 0 (magOf l) = some m) (hne : Lib.itoa (sg (negOf l) m) ≠ l) : readOf lim l = none := by
  cases e : readOf lim l with
  | none => rfl
  | some n =>
    obtain ⟨_, h2, h3, h4⟩ := readOf_parts e
    rw [h3, decFrom_decDigits] at h
    obtain rfl := Option.some.inj h
    rw [h2, sg_natAbs] at hne
    exact absurd h4 hne
theorem readOf_same {lim m : Nat} {l : List UInt8} (hm : m ≤ lim) (he : Lib.itoa (sg (negOf l) m) = l) : readOf lim l = some (sg (negOf l) m) := by
  refine numOf_some.2 ⟨?_, ?_, he⟩
  · unfold sg; split <;> omega
  · unfold sg; split <;> omega
theorem decFrom_next {l : List UInt8} {k m : Nat} {b : UInt8} (h : Lib.decFrom 0 (l.take k) = some m) (hb : l[k]? = some b) (h1 : 48 ≤ b.toNat) (h2 : b.toNat ≤ 57) : Lib.decFrom 0 (l.take (k + 1)) = some (m * 10 + (b.toNat - 48)) :=
  Lib.decFrom_take l k 0 m b _ h hb (by unfold Lib.digitVal; rw [if_pos ⟨h1, h2⟩])
/-- The results. -/
def numV (r : Option Int) : Int := r.getD 0
def numB (r : Option Int) : Bool := r.isSome
end Go.Proofs.YtalclebehbdliaaGreat
namespace Go.Proofs.YtalclebehbdliaaGreat
open Go Go.RowKit

theorem getElem_q (t : ByteArray) (k : Nat) (h : k < t.size) : t.data.toList[k]? = some t[k] := by
  have h' : k < t.data.toList.length := h
  rw [List.getElem?_eq_getElem h']; rfl
theorem ret_num {a b : Int} {x y : Bool} (h : a = b) (h2 : x = y) : Ending.returned (.tuple #[.int .i64 a, .bool x]) = .returned (.tuple #[.int .i64 b, .bool y]) := by rw [h, h2]
theorem len_data (t : ByteArray) : t.data.toList.length = t.size := rfl
theorem pow_le_12 {k : Nat} (h : k ≤ 12) : 10 ^ k ≤ 1000000000000 := by
  have := Nat.pow_le_pow_right (show 0 < 10 by decide) h
  simpa using this
theorem spec_fmt_as (n : Int) (h0 : -9223372036854775808 ≤ n) (h1 : n ≤ 9223372036854775807) (x : ByteArray) (hx : Lib.itoa n = x.data.toList) (w : World) :
    Calls Tryz.prog 152 #[.int .i64 n] w fun e w' => e = .returned (.string x) ∧ Below w.heap.size w w' := by
  have h := spec_fmt n h0 h1 w
  rw [hx] at h
  exact h
theorem str_eq_iff {l : List UInt8} {s : ByteArray} : ((⟨l.toArray⟩ : ByteArray) = s) ↔ l = s.data.toList := by
  constructor
  · rintro rfl; rfl
  · rintro rfl; rfl

set_option maxRecDepth 100000 in
set_option maxHeartbeats 1600000 in
theorem spec_read_pos (s : ByteArray) (most lim : Nat) (hm1 : 1 ≤ most) (hm2 : most ≤ 12) (hl : Hid (lim + 1 = 10 ^ most)) (w : World) (h0 : 0 < s.size)
    (hb : ((s[0].toNat : Int) == 45) = false) (ht : Hid (magOf s.data.toList = s.data.toList)) (hn : Hid (negOf s.data.toList = false)) (hts : s.size ≤ 9223372036854775807) :
    Calls Tryz.prog 145 #[.string s, .int .i64 most] w fun e w' => e = .returned (.tuple #[.int .i64 (numV (readOf lim s.data.toList)), .bool (numB (readOf lim s.data.toList))]) ∧ Below w.heap.size w w' := by
  have hz : ¬ s.size < 1 := by omega
  by_cases hy : most < s.size
  · have hR : readOf lim s.data.toList = none := readOf_length hm1 (by have := hl.out; omega) (by rw [ht.out, len_data]; omega)
    have HR := Lib.hid hR
    clear hR
    go_enter Tryz.func145, Tryz.ntmps145
    go_wp2
    go_ret2
    exact ⟨ret_num (by rw [HR.out]; rfl) (by rw [HR.out]; rfl), Below.refl _ _⟩
  have hz1 : decide ((s.size : Int) < 1) = false := by simp; omega
  have hy1 : decide (most < s.size) = false := by simp; omega
  go_enter Tryz.func145, Tryz.ntmps145
  go_wp2
  go_loop [8, 9] (fun n i => ∃ k m : Nat, k ≤ s.size ∧ m < 1000000000000 ∧ Hid (Lib.decFrom 0 (s.data.toList.take k) = some m) ∧ n = .int .i64 m ∧ i = .int .i64 k) (fun _ i => s.size - (intOf i).toNat)
  case atStart => exact ⟨0, 0, Nat.zero_le _, by decide, Lib.hid (by simp [Lib.decFrom]), rfl, rfl⟩
  case round =>
    obtain ⟨k, m, hk, hmb, hd, rfl, rfl⟩ := hrel
    by_cases hlt : k < s.size
    · have hq := getElem_q s k hlt
      by_cases hdig : 48 ≤ s[k].toNat ∧ s[k].toNat ≤ 57
      · obtain ⟨hd1, hd2⟩ := hdig
        have hnext := decFrom_next hd.out hq hd1 hd2
        have hbound := decFrom_take_lt (l := s.data.toList) (k := k + 1) (by rw [len_data]; omega) hnext
        have hp := pow_le_12 (k := k + 1) (by omega)
        have HN := Lib.hid hnext
        have hm' : m * 10 + (s[k].toNat - 48) < 1000000000000 := by omega
        clear hnext hq hbound hp
        have c1 : decide ((s[k].toNat : Int) < 48) = false := by simp; omega
        have c2 : decide ((57 : Int) < (s[k].toNat : Int)) = false := by simp; omega
        go_wp2
        go_round
        case rel => exact ⟨k + 1, m * 10 + (s[k].toNat - 48), by omega, hm', HN, by go_num, by go_num⟩
        case measure => simp [intOf]; omega
      · have hR : readOf lim s.data.toList = none := readOf_nodigit (k := k) (b := s[k]) (by rw [ht.out]; exact hq) (by omega)
        have HR := Lib.hid hR
        clear hR hq
        go_wp2
        all_goals (go_ret2; exact ⟨ret_num (by rw [HR.out]; rfl) (by rw [HR.out]; rfl), Below.refl _ _⟩)
    · obtain rfl : k = s.size := by omega
      have hall : Lib.decFrom 0 (magOf s.data.toList) = some m := by
        have := hd.out
        rw [List.take_of_length_le (by rw [len_data]; omega)] at this
        rw [ht.out]; exact this
      have hmm : m ≤ lim := by
        have h1 := decFrom_lt _ 0 0 m (by decide) hall
        have h2 := hl.out
        rw [ht.out, len_data, Nat.zero_add] at h1
        have h3 := Nat.pow_le_pow_right (show 0 < 10 by decide) (show s.size ≤ most by omega)
        omega
      have HA := Lib.hid hall
      clear hall
      by_cases he : Lib.itoa (sg false m) = s.data.toList
      · have hR : readOf lim s.data.toList = some (sg false m) := by
          have := readOf_same hmm (l := s.data.toList) (by rw [hn.out]; exact he)
          rw [hn.out] at this; exact this
        have HR := Lib.hid hR
        have HF := Lib.hid (spec_fmt_as ((m : Nat) : Int) (by omega) (by omega) s he)
        clear hR he
        go_wp2_with fail
        refine (HF.out _).mono ?_
        rintro e w1 ⟨rfl, hb1⟩
        go_wp2
        go_ret2
        exact ⟨ret_num (by rw [HR.out]; rfl) (by rw [HR.out]; rfl), hb1⟩
      · have hR : readOf lim s.data.toList = none := readOf_other HA.out (by rw [hn.out]; exact he)
        have HR := Lib.hid hR
        obtain ⟨x, hx⟩ : ∃ x : ByteArray, Lib.itoa (sg false m) = x.data.toList := ⟨⟨_⟩, rfl⟩
        have hne : (x.toList == s.toList) = false := by
          rw [beq_eq_false_iff_ne]
          intro h
          rw [ByteArray.toList_eq, ByteArray.toList_eq] at h
          exact he (by rw [hx, h])
        have HF := Lib.hid (spec_fmt_as ((m : Nat) : Int) (by omega) (by omega) x hx)
        clear hR he hx
        go_wp2_with fail
        refine (HF.out _).mono ?_
        rintro e w1 ⟨rfl, hb1⟩
        go_wp2
        go_ret2
        exact ⟨ret_num (by rw [HR.out]; rfl) (by rw [HR.out]; rfl), hb1⟩

set_option maxRecDepth 100000 in
set_option maxHeartbeats 1600000 in
theorem spec_read_neg (s t : ByteArray) (most lim : Nat) (hm1 : 1 ≤ most) (hm2 : most ≤ 12) (hl : Hid (lim + 1 = 10 ^ most)) (w : World) (h0 : 0 < s.size)
    (hb : ((s[0].toNat : Int) == 45) = true) (hsl : ∀ w, (Instr.slice 9 (.string s) (some (.int .i64 1)) none none).run Tryz.prog w = .ok (.string t) w) (ht : Hid (magOf s.data.toList = t.data.toList)) (hn : Hid (negOf s.data.toList = true)) (hts : t.size ≤ 9223372036854775807) :
    Calls Tryz.prog 145 #[.string s, .int .i64 most] w fun e w' => e = .returned (.tuple #[.int .i64 (numV (readOf lim s.data.toList)), .bool (numB (readOf lim s.data.toList))]) ∧ Below w.heap.size w w' := by
  by_cases hz : t.size < 1
  · have hR : readOf lim s.data.toList = none := readOf_length hm1 (by have := hl.out; omega) (by rw [ht.out, len_data]; omega)
    have HR := Lib.hid hR
    clear hR
    go_enter Tryz.func145, Tryz.ntmps145
    go_wp2
    go_ret2
    exact ⟨ret_num (by rw [HR.out]; rfl) (by rw [HR.out]; rfl), Below.refl _ _⟩
  by_cases hy : most < t.size
  · have hR : readOf lim s.data.toList = none := readOf_length hm1 (by have := hl.out; omega) (by rw [ht.out, len_data]; omega)
    have HR := Lib.hid hR
    clear hR
    go_enter Tryz.func145, Tryz.ntmps145
    go_wp2
    go_ret2
    exact ⟨ret_num (by rw [HR.out]; rfl) (by rw [HR.out]; rfl), Below.refl _ _⟩
  have hz1 : decide ((t.size : Int) < 1) = false := by simp; omega
  have hy1 : decide (most < t.size) = false := by simp; omega
  go_enter Tryz.func145, Tryz.ntmps145
  go_wp2
  go_loop [8, 9] (fun n i => ∃ k m : Nat, k ≤ t.size ∧ m < 1000000000000 ∧ Hid (Lib.decFrom 0 (t.data.toList.take k) = some m) ∧ n = .int .i64 m ∧ i = .int .i64 k) (fun _ i => t.size - (intOf i).toNat)
  case atStart => exact ⟨0, 0, Nat.zero_le _, by decide, Lib.hid (by simp [Lib.decFrom]), rfl, rfl⟩
  case round =>
    obtain ⟨k, m, hk, hmb, hd, rfl, rfl⟩ := hrel
    by_cases hlt : k < t.size
    · have hq := getElem_q t k hlt
      by_cases hdig : 48 ≤ t[k].toNat ∧ t[k].toNat ≤ 57
      · obtain ⟨hd1, hd2⟩ := hdig
        have hnext := decFrom_next hd.out hq hd1 hd2
        have hbound := decFrom_take_lt (l := t.data.toList) (k := k + 1) (by rw [len_data]; omega) hnext
        have hp := pow_le_12 (k := k + 1) (by omega)
        have HN := Lib.hid hnext
        have hm' : m * 10 + (t[k].toNat - 48) < 1000000000000 := by omega
        clear hnext hq hbound hp
        have c1 : decide ((t[k].toNat : Int) < 48) = false := by simp; omega
        have c2 : decide ((57 : Int) < (t[k].toNat : Int)) = false := by simp; omega
        go_wp2
        go_round
        case rel => exact ⟨k + 1, m * 10 + (t[k].toNat - 48), by omega, hm', HN, by go_num, by go_num⟩
        case measure => simp [intOf]; omega
      · have hR : readOf lim s.data.toList = none := readOf_nodigit (k := k) (b := t[k]) (by rw [ht.out]; exact hq) (by omega)
        have HR := Lib.hid hR
        clear hR hq
        go_wp2
        all_goals (go_ret2; exact ⟨ret_num (by rw [HR.out]; rfl) (by rw [HR.out]; rfl), Below.refl _ _⟩)
    · obtain rfl : k = t.size := by omega
      have hall : Lib.decFrom 0 (magOf s.data.toList) = some m := by
        have := hd.out
        rw [List.take_of_length_le (by rw [len_data]; omega)] at this
        rw [ht.out]; exact this
      have hmm : m ≤ lim := by
        have h1 := decFrom_lt _ 0 0 m (by decide) hall
        have h2 := hl.out
        rw [ht.out, len_data, Nat.zero_add] at h1
        have h3 := Nat.pow_le_pow_right (show 0 < 10 by decide) (show t.size ≤ most by omega)
        omega
      have HA := Lib.hid hall
      clear hall
      by_cases he : Lib.itoa (sg true m) = s.data.toList
      · have hR : readOf lim s.data.toList = some (sg true m) := by
          have := readOf_same hmm (l := s.data.toList) (by rw [hn.out]; exact he)
          rw [hn.out] at this; exact this
        have HR := Lib.hid hR
        have HF := Lib.hid (spec_fmt_as (-(m : Int)) (by omega) (by omega) s he)
        clear hR he
        go_wp2_with fail
        refine (HF.out _).mono ?_
        rintro e w1 ⟨rfl, hb1⟩
        go_wp2
        go_ret2
        exact ⟨ret_num (by rw [HR.out]; rfl) (by rw [HR.out]; rfl), hb1⟩
      · have hR : readOf lim s.data.toList = none := readOf_other HA.out (by rw [hn.out]; exact he)
        have HR := Lib.hid hR
        obtain ⟨x, hx⟩ : ∃ x : ByteArray, Lib.itoa (sg true m) = x.data.toList := ⟨⟨_⟩, rfl⟩
        have hne : (x.toList == s.toList) = false := by
          rw [beq_eq_false_iff_ne]
          intro h
          rw [ByteArray.toList_eq, ByteArray.toList_eq] at h
          exact he (by rw [hx, h])
        have HF := Lib.hid (spec_fmt_as (-(m : Int)) (by omega) (by omega) x hx)
        clear hR he hx
        go_wp2_with fail
        refine (HF.out _).mono ?_
        rintro e w1 ⟨rfl, hb1⟩
        go_wp2
        go_ret2
        exact ⟨ret_num (by rw [HR.out]; rfl) (by rw [HR.out]; rfl), hb1⟩

set_option maxRecDepth 100000 in
set_option maxHeartbeats 400000 in
theorem spec_read_empty (s : ByteArray) (h0 : s.size = 0) (most lim : Nat) (hm1 : 1 ≤ most) (hl : Hid (lim + 1 = 10 ^ most)) (w : World) :
    Calls Tryz.prog 145 #[.string s, .int .i64 most] w fun e w' => e = .returned (.tuple #[.int .i64 (numV (readOf lim s.data.toList)), .bool (numB (readOf lim s.data.toList))]) ∧ Below w.heap.size w w' := by
  have hR : readOf lim s.data.toList = none := readOf_length hm1 (by have := hl.out; omega) (Or.inl (by
    have h1 : s.data.toList = [] := List.eq_nil_of_length_eq_zero h0
    rw [h1]; decide))
  have HR := Lib.hid hR
  clear hR
  have hd1 : decide (0 < s.size) = false := by simp [h0]
  have hd2 : ¬ 0 < s.size := by omega
  clear h0
  go_enter Tryz.func145, Tryz.ntmps145
  go_wp2
  go_ret2
  exact ⟨ret_num (by rw [HR.out]; rfl) (by rw [HR.out]; rfl), Below.refl _ _⟩

/-- The model's l1Read. -/
theorem spec_read (s : ByteArray) (most lim : Nat) (hm1 : 1 ≤ most) (hm2 : most ≤ 12) (hl : Hid (lim + 1 = 10 ^ most)) (hs : s.size ≤ 9223372036854775807) (w : World) :
    Calls Tryz.prog 145 #[.string s, .int .i64 most] w fun e w' => e = .returned (.tuple #[.int .i64 (numV (readOf lim s.data.toList)), .bool (numB (readOf lim s.data.toList))]) ∧ Below w.heap.size w w' := by
  by_cases h0 : 0 < s.size
  · have hq := getElem_q s 0 h0
    have hh : s.data.toList.head? = some s[0] := by rw [List.head?_eq_getElem?]; exact hq
    by_cases h45 : s[0] = 45
    · have hn : negOf s.data.toList = true := by unfold negOf; rw [hh, h45]; rfl
      refine spec_read_neg s (s.extract 1 s.size) most lim hm1 hm2 hl w h0 (by rw [h45]; rfl) (fun w => ?_) (Lib.hid ?_) (Lib.hid hn) (by simp; omega)
      · exact run_slice_string_l w 9 s Tryz.underlying9 .i64 1 (by decide) (by omega)
      · unfold magOf
        rw [hn, if_pos rfl, Lib.extract_to_end, List.drop_one]
    · have hn : negOf s.data.toList = false := by
        unfold negOf; rw [hh, beq_eq_false_iff_ne]
        intro h; exact h45 (Option.some.inj h)
      have hb : ((s[0].toNat : Int) == 45) = false := by
        rw [beq_eq_false_iff_ne]
        intro h
        exact h45 (UInt8.toNat_inj.1 (by have : s[0].toNat = 45 := by omega
                                         rw [this]; rfl))
      refine spec_read_pos s most lim hm1 hm2 hl w h0 hb (Lib.hid ?_) (Lib.hid hn) hs
      unfold magOf
      rw [hn]; rfl
  · exact spec_read_empty s (by omega) most lim hm1 hl w

/-- ParseInt's and ParseNumber's answers, said of the string's bytes. -/
def intOfS (s : ByteArray) : Option Int := numOf (-999999999999) 999999999999 s.data.toList
def numOfS (s : ByteArray) : Option Int := numOf 0 999999 s.data.toList

set_option maxRecDepth 100000 in
set_option maxHeartbeats 400000 in
theorem spec_parseInt (s : ByteArray) (hs : s.size ≤ 9223372036854775807) (w : World) :
    Calls Tryz.prog 124 #[.string s] w fun e w' => e = .returned (.tuple #[.int .i64 (numV (intOfS s)), .bool (numB (intOfS s))]) ∧ Below w.heap.size w w' := by
  have h := Lib.hid (fun w => spec_read s 12 999999999999 (by decide) (by decide) (Lib.hid (by decide)) hs w)
  go_enter Tryz.func124, Tryz.ntmps124
  go_wp2_with fail
  refine (h.out _).mono ?_
  rintro e w1 ⟨rfl, hb1⟩
  go_wp2
  go_ret2
  exact ⟨rfl, hb1⟩

theorem numOfS_of_read {s : ByteArray} : numOfS s = match readOf 999999 s.data.toList with | some n => if n < 0 then none else some n | none => none := by
  cases e : numOfS s with
  | some n =>
    obtain ⟨h1, h2, h3⟩ := numOf_some.1 e
    have : readOf 999999 s.data.toList = some n := numOf_some.2 ⟨by omega, h2, h3⟩
    rw [this]
    simp only
    rw [if_neg (by omega)]
  | none =>
    cases e2 : readOf 999999 s.data.toList with
    | none => rfl
    | some n =>
      simp only
      by_cases h : n < 0
      · rw [if_pos h]
      · obtain ⟨h1, h2, h3⟩ := numOf_some.1 e2
        have : numOfS s = some n := numOf_some.2 ⟨by omega, h2, h3⟩
        rw [e] at this; cases this

end Go.Proofs.YtalclebehbdliaaGreat
namespace Go.Proofs.YtalclebehbdliaaGreat
open Go Go.RowKit

theorem ba_ext {a b : ByteArray} (h : a.data.toList = b.data.toList) : a = b := by
  cases a; cases b
  simpa using h
theorem ba_len (s : ByteArray) : s.data.toList.length = s.size := rfl
theorem ba_append (a b : ByteArray) : (a ++ b).data.toList = a.data.toList ++ b.data.toList := by simp
theorem ba_extract (s : ByteArray) (i j : Nat) : (s.extract i j).data.toList = (s.data.toList.drop i).take (j - i) := Lib.extract_data s i j
theorem ba_get (s : ByteArray) (k : Nat) (h : k < s.size) : s[k] = s.data.toList[k]'h := rfl
theorem ba_same (a b : ByteArray) : (a.toList == b.toList) = decide (a = b) := by
  rw [ByteArray.toList_eq, ByteArray.toList_eq]
  by_cases h : a = b
  · subst h; simp
  · have : a.data.toList ≠ b.data.toList := fun e => h (ba_ext e)
    rw [beq_eq_false_iff_ne.2 this, decide_eq_false h]
theorem ba_less (a b : ByteArray) : Op.bytesLess a.toList b.toList = decide (a.data.toList < b.data.toList) := by
  rw [bytesLess_eq, ByteArray.toList_eq, ByteArray.toList_eq]

/-! ### Words -/
/-- A letter, where there are k. -/
def isL (k : Int) (b : UInt8) : Bool := decide (97 ≤ b.toNat) && decide ((b.toNat : Int) - 97 < k)
/-- w is a word with k letters. -/
def isW (k : Int) (w : ByteArray) : Bool := (decide (1 ≤ k) && decide (k ≤ 3) && decide (w.size ≤ 16)) && w.data.toList.all (isL k)
theorem all_of {k : Int} {w : ByteArray} (h : ∀ j (hj : j < w.size), isL k w[j] = true) : w.data.toList.all (isL k) = true := by
  rw [List.all_eq_true]
  intro b hb
  obtain ⟨j, hj, rfl⟩ := List.getElem_of_mem hb
  exact h j hj
theorem all_not {k : Int} {w : ByteArray} {j : Nat} (hj : j < w.size) (h : isL k w[j] = false) : w.data.toList.all (isL k) = false := by
  rw [← Bool.not_eq_true, List.all_eq_true]
  intro hall
  have := hall w[j] (List.getElem_mem (l := w.data.toList) hj)
  rw [h] at this; cases this
theorem isW_len {k : Int} {w : ByteArray} (h : isW k w = true) : w.size ≤ 16 := by
  unfold isW at h
  simp only [Bool.and_eq_true, decide_eq_true_eq] at h
  exact h.1.2
/-- A word that is not empty. -/
def wordy (w : ByteArray) : Bool := decide (w.size ≠ 0) && isW 3 w
theorem wordy_pos {w : ByteArray} (h : wordy w = true) : 0 < w.size := by
  unfold wordy at h
  simp only [Bool.and_eq_true, decide_eq_true_eq] at h
  omega
theorem wordy_len {w : ByteArray} (h : wordy w = true) : w.size ≤ 16 := by
  unfold wordy at h
  simp only [Bool.and_eq_true] at h
  exact isW_len h.2

/-! ### Turns -/
/-- w with its first m letters moved to its end. -/
def turnAt (w : ByteArray) (m : Nat) : ByteArray := w.extract m w.size ++ w.extract 0 m
theorem turnAt_data (w : ByteArray) (m : Nat) : (turnAt w m).data.toList = w.data.toList.drop m ++ w.data.toList.take m := by
  unfold turnAt
  rw [ba_append, ba_extract, ba_extract, List.drop_zero, Nat.sub_zero, List.take_of_length_le (by rw [List.length_drop, ba_len]; exact Nat.le_refl _)]
theorem turnAt_size (w : ByteArray) (m : Nat) (h : m ≤ w.size) : (turnAt w m).size = w.size := by
  rw [← ba_len, turnAt_data, List.length_append, List.length_drop, List.length_take, ba_len]; omega
theorem turnAt_zero (w : ByteArray) : turnAt w 0 = w := ba_ext (by rw [turnAt_data]; simp)
theorem turnAt_all (w : ByteArray) (k : Int) (m : Nat) : (turnAt w m).data.toList.all (isL k) = w.data.toList.all (isL k) := by
  rw [turnAt_data, List.all_append, Bool.and_comm, ← List.all_append, List.take_append_drop]
theorem turnAt_isW (w : ByteArray) (k : Int) (m : Nat) (h : m ≤ w.size) : isW k (turnAt w m) = isW k w := by
  unfold isW; rw [turnAt_all, turnAt_size w m h]
theorem turnAt_wordy (w : ByteArray) (m : Nat) (h : m ≤ w.size) : wordy (turnAt w m) = wordy w := by
  unfold wordy; rw [turnAt_isW w 3 m h, turnAt_size w m h]
/-- A turn of a turn is a turn. -/
theorem turnAt_turn (w : ByteArray) (a b : Nat) (ha : a ≤ w.size) (hb : b ≤ w.size) : turnAt (turnAt w a) b = turnAt w (if a + b ≤ w.size then a + b else a + b - w.size) := by
  apply ba_ext
  rw [turnAt_data, turnAt_data, turnAt_data]
  have hl : (w.data.toList.drop a).length = w.size - a := by rw [List.length_drop, ba_len]
  generalize w.data.toList = l at *
  by_cases h : a + b ≤ w.size
  · rw [if_pos h, List.drop_append_of_le_length (by omega), List.take_append_of_le_length (by omega), List.drop_drop, List.append_assoc]
    congr 1
    rw [List.take_add]
  · rw [if_neg h]
    obtain ⟨c, hc⟩ : ∃ c, a + b - w.size = c := ⟨_, rfl⟩
    have hb' : b = (l.drop a).length + c := by omega
    rw [hc, hb', List.drop_append, List.take_append, List.drop_of_length_le (by omega), List.nil_append, List.take_of_length_le (by omega : (l.drop a).length ≤ _)]
    rw [Nat.add_sub_cancel_left, List.take_take, Nat.min_eq_left (by omega), ← List.append_assoc]
    congr 1
    rw [List.drop_take]
    have e : l.drop a = (l.drop c).drop (a - c) := by rw [List.drop_drop, show c + (a - c) = a by omega]
    rw [e, List.take_append_drop]
theorem turnAt_full (w : ByteArray) : turnAt w w.size = w := ba_ext (by
  rw [turnAt_data, ← ba_len, List.drop_length, List.take_length, List.nil_append])
/-- How far a word is turned: n, reduced. -/
def turnNo (w : ByteArray) (n : Int) : Nat := (n % (w.size : Int)).toNat
theorem turnNo_lt (w : ByteArray) (n : Int) (h : 0 < w.size) : turnNo w n < w.size := by
  have h1 := Int.emod_nonneg n (show (w.size : Int) ≠ 0 by omega)
  have h2 := Int.emod_lt_of_pos n (show (0 : Int) < (w.size : Int) by omega)
  unfold turnNo; omega
theorem turnNo_of_lt (w : ByteArray) (n : Nat) (h : n < w.size) : turnNo w (n : Int) = n := by
  unfold turnNo
  rw [Int.emod_eq_of_lt (by omega) (by omega)]; rfl
def turned (w : ByteArray) (n : Int) : ByteArray := if wordy w = true then turnAt w (turnNo w n) else ByteArray.empty

/-- The least of w and its first k turns. -/
def leastTo (w : ByteArray) : Nat → ByteArray
  | 0 => w
  | k + 1 => if (turnAt w k).data.toList < (leastTo w k).data.toList then turnAt w k else leastTo w k
theorem leastTo_one (w : ByteArray) : leastTo w 1 = w := by
  unfold leastTo
  rw [turnAt_zero]
  simp [leastTo]
theorem leastTo_is (w : ByteArray) (h : 0 < w.size) : ∀ k, k ≤ w.size → ∃ m, m < w.size ∧ leastTo w k = turnAt w m
  | 0, _ => ⟨0, h, (turnAt_zero w).symm⟩
  | k + 1, hk => by
    unfold leastTo
    split
    · exact ⟨k, by omega, rfl⟩
    · exact leastTo_is w h k (by omega)
theorem le_of_nlt {a b : List UInt8} (h : ¬ a < b) : b ≤ a := List.not_lt.1 h
theorem leastTo_le (w : ByteArray) : ∀ k j, j < k → (leastTo w k).data.toList ≤ (turnAt w j).data.toList
  | 0, j, h => by omega
  | k + 1, j, h => by
    unfold leastTo
    by_cases hj : j = k
    · subst hj
      split
      · exact List.le_refl _
      · next hn => exact le_of_nlt hn
    · have ih := leastTo_le w k j (by omega)
      split
      · next hl => exact List.le_trans (List.le_of_lt hl) ih
      · exact ih
theorem leastTo_size (w : ByteArray) (h : 0 < w.size) (k : Nat) (hk : k ≤ w.size) : (leastTo w k).size = w.size := by
  obtain ⟨m, hm, e⟩ := leastTo_is w h k hk
  rw [e, turnAt_size w m (by omega)]
def least (w : ByteArray) : ByteArray := if wordy w = true then leastTo w w.size else ByteArray.empty
/-- Turns of a word have the same least turn. -/
theorem least_turn (w : ByteArray) (m : Nat) (hw : wordy w = true) (hm : m < w.size) : least (turnAt w m) = least w := by
  have hs := turnAt_size w m (by omega)
  have hp := wordy_pos hw
  unfold least
  rw [turnAt_wordy w m (by omega), if_pos hw, if_pos hw, hs]
  obtain ⟨a, ha, ea⟩ := leastTo_is (turnAt w m) (by omega) w.size (by omega)
  obtain ⟨b, hb, eb⟩ := leastTo_is w hp w.size (by omega)
  apply ba_ext
  apply List.le_antisymm
  · rw [eb]
    -- turn b of w is a turn of turn m
    by_cases h : m ≤ b
    · have e : turnAt w b = turnAt (turnAt w m) (b - m) := by
        rw [turnAt_turn w m (b - m) (by omega) (by omega), if_pos (by omega), show m + (b - m) = b by omega]
      rw [e]
      exact leastTo_le _ _ _ (by omega)
    · have e : turnAt w b = turnAt (turnAt w m) (b + w.size - m) := by
        rw [turnAt_turn w m (b + w.size - m) (by omega) (by omega)]
        by_cases hb0 : m + (b + w.size - m) ≤ w.size
        · rw [if_pos hb0]
          obtain rfl : b = 0 := by omega
          rw [show m + (0 + w.size - m) = w.size by omega]
          rw [turnAt_full, turnAt_zero]
        · rw [if_neg hb0, show m + (b + w.size - m) - w.size = b by omega]
      rw [e]
      exact leastTo_le _ _ _ (by omega)
  · rw [ea, turnAt_turn w m a (by omega) (by rw [hs] at ha; omega)]
    rw [hs] at ha
    split
    · next h =>
      by_cases h2 : m + a = w.size
      · have e : turnAt w (m + a) = turnAt w 0 := by
          rw [h2, turnAt_full, turnAt_zero]
        rw [e]
        exact leastTo_le _ _ _ hp
      · exact leastTo_le _ _ _ (by omega)
    · exact leastTo_le _ _ _ (by omega)

/-! ### Roots -/
/-- w is its first n letters repeated. -/
def rootAt (w : ByteArray) (n : Nat) : Bool := decide (Lib.repeatL (w.extract 0 n).data.toList (w.size / n) = w.data.toList)
def RootOk (w : ByteArray) (n : Nat) : Prop := 1 ≤ n ∧ n ≤ w.size ∧ rootAt w n = true ∧ ∀ m, 1 ≤ m → m < n → rootAt w m = false
theorem RootOk.unique {w : ByteArray} {a b : Nat} (ha : RootOk w a) (hb : RootOk w b) : a = b := by
  obtain ⟨a1, a2, a3, a4⟩ := ha
  obtain ⟨b1, b2, b3, b4⟩ := hb
  rcases Nat.lt_trichotomy a b with h | h | h
  · rw [b4 a a1 h] at a3; cases a3
  · exact h
  · rw [a4 b b1 h] at b3; cases b3
theorem rootAt_all (w : ByteArray) (h : 0 < w.size) : rootAt w w.size = true := by
  unfold rootAt
  rw [decide_eq_true_eq, Nat.div_self h, Lib.repeatL_one, ba_extract, List.drop_zero, Nat.sub_zero, ← ba_len, List.take_length]
theorem head_size (w : ByteArray) (n : Nat) (h : n ≤ w.size) : (w.extract 0 n).size = n := by rw [ByteArray.size_extract]; omega
theorem rootAt_div {w : ByteArray} {n : Nat} (hn : n ≤ w.size) (h : rootAt w n = true) : w.size % n = 0 := by
  unfold rootAt at h
  rw [decide_eq_true_eq] at h
  have hl := congrArg List.length h
  rw [Lib.repeatL_length, ba_len, ba_len, head_size w n hn] at hl
  have := Nat.div_add_mod w.size n
  rw [Nat.mul_comm] at this
  omega
theorem root_exists (w : ByteArray) (h : 0 < w.size) : ∃ n, RootOk w n := by
  have key : ∀ d n, w.size - n = d → 1 ≤ n → n ≤ w.size → (∀ m, 1 ≤ m → m < n → rootAt w m = false) → ∃ n, RootOk w n := by
    intro d
    induction d with
    | zero =>
      intro n hd h1 h2 h3
      obtain rfl : n = w.size := by omega
      exact ⟨_, h1, h2, rootAt_all w h, h3⟩
    | succ d ih =>
      intro n hd h1 h2 h3
      cases hr : rootAt w n with
      | true => exact ⟨n, h1, h2, hr, h3⟩
      | false =>
        refine ih (n + 1) (by omega) (by omega) (by omega) (fun m m1 m2 => ?_)
        by_cases hm : m = n
        · subst hm; exact hr
        · exact h3 m m1 (by omega)
  exact key _ 1 rfl (Nat.le_refl _) h (fun m _ _ => by omega)
/-- c copies of a string. -/
def timesB (p : ByteArray) (c : Nat) : ByteArray := ⟨(Lib.repeatL p.data.toList c).toArray⟩
theorem timesB_data (p : ByteArray) (c : Nat) : (timesB p c).data.toList = Lib.repeatL p.data.toList c := by simp [timesB]
theorem timesB_zero (p : ByteArray) : timesB p 0 = ByteArray.empty := rfl
theorem timesB_next (p : ByteArray) (c : Nat) : timesB p c ++ p = timesB p (c + 1) := ba_ext (by
  rw [ba_append, timesB_data, timesB_data, Lib.repeatL_add, Lib.repeatL_one])
theorem timesB_size (p : ByteArray) (c : Nat) : (timesB p c).size = c * p.size := by rw [← ba_len, timesB_data, Lib.repeatL_length, ba_len]
theorem timesB_root (w : ByteArray) (n : Nat) : decide (timesB (w.extract 0 n) (w.size / n) = w) = rootAt w n := by
  unfold rootAt
  apply decide_eq_decide.2
  constructor
  · intro h; rw [← timesB_data, h]
  · intro h; exact ba_ext (by rw [timesB_data, h])

/-! ### Mirrors -/
def mirror (w : ByteArray) : ByteArray := ⟨w.data.toList.reverse.toArray⟩
theorem mirror_data (w : ByteArray) : (mirror w).data.toList = w.data.toList.reverse := by simp [mirror]
theorem mirror_size (w : ByteArray) : (mirror w).size = w.size := by rw [← ba_len, mirror_data, List.length_reverse, ba_len]
theorem mirror_twice (w : ByteArray) : mirror (mirror w) = w := ba_ext (by rw [mirror_data, mirror_data, List.reverse_reverse])

/-! ### Where a string occurs -/
theorem occ_lt {s sub : List UInt8} {i : Nat} (h : s.length < i + sub.length) (hi : i ≤ s.length) : Lib.occAt s sub i = false := by
  rw [← Bool.not_eq_true]
  intro ho
  unfold Lib.occAt at ho
  have hp := (List.isPrefixOf_iff_prefix.1 ho).length_le
  rw [List.length_drop] at hp
  omega
theorem contains_yes {s sub : List UInt8} : ∀ {i : Nat}, i ≤ s.length → Lib.occAt s sub i = true → Lib.contains s sub = true := by
  intro i hi ho
  unfold Lib.contains
  rw [decide_eq_true_eq]
  induction s generalizing i with
  | nil =>
    obtain rfl : i = 0 := by simpa using hi
    cases sub with
    | nil => decide
    | cons a t => simp [Lib.occAt] at ho
  | cons b l ih =>
    unfold Lib.index
    cases hp : sub.isPrefixOf (b :: l) with
    | true => simp
    | false =>
      match i, hi, ho with
      | 0, _, ho => simp [Lib.occAt, hp] at ho
      | i + 1, hi, ho =>
        have := ih (i := i) (by simpa using hi) (by simpa [Lib.occAt] using ho)
        have h2 : (Lib.index l sub == -1) = false := by rw [beq_eq_false_iff_ne]; omega
        simp [h2]; omega
theorem contains_no {s sub : List UInt8} (h : ∀ i, i + sub.length ≤ s.length → Lib.occAt s sub i = false) : Lib.contains s sub = false := by
  have e : Lib.index s sub = -1 := Lib.index_none (fun j hj => by
    by_cases hl : j + sub.length ≤ s.length
    · exact h j hl
    · exact occ_lt (by omega) hj)
  unfold Lib.contains
  rw [e]; rfl
theorem occ_eq (s sub : ByteArray) (i : Nat) : decide (s.extract i (i + sub.size) = sub) = Lib.occAt s.data.toList sub.data.toList i := by
  unfold Lib.occAt
  have hd : (s.extract i (i + sub.size)).data.toList = (s.data.toList.drop i).take sub.data.toList.length := by
    rw [ba_extract, Nat.add_sub_cancel_left, ba_len]
  by_cases hp : sub.data.toList <+: s.data.toList.drop i
  · rw [List.isPrefixOf_iff_prefix.2 hp, decide_eq_true_eq]
    exact ba_ext (by rw [hd]; exact (List.prefix_iff_eq_take.1 hp).symm)
  · have h1 : sub.data.toList.isPrefixOf (s.data.toList.drop i) = false := by
      rw [← Bool.not_eq_true]; exact fun e => hp (List.isPrefixOf_iff_prefix.1 e)
    rw [h1, decide_eq_false_iff_not]
    intro e
    apply hp
    rw [List.prefix_iff_eq_take, ← hd, e]

/-! ### All words of a length -/
def letterB (j : Nat) : ByteArray := ⟨#[UInt8.ofNat (97 + j)]⟩
/-- Each of the words with each letter behind it. -/
def longer (ws : List ByteArray) (k : Nat) : List ByteArray := ws.flatMap fun w => (List.range k).map fun j => w ++ letterB j
def allW (k : Nat) : Nat → List ByteArray
  | 0 => [ByteArray.empty]
  | n + 1 => longer (allW k n) k
theorem longer_length (ws : List ByteArray) (k : Nat) : (longer ws k).length = ws.length * k := by
  unfold longer
  induction ws with
  | nil => simp
  | cons a l ih => rw [List.flatMap_cons, List.length_append, ih, List.length_map, List.length_range, List.length_cons, Nat.succ_mul, Nat.add_comm]
theorem allW_length (k : Nat) : ∀ n, (allW k n).length = k ^ n
  | 0 => rfl
  | n + 1 => by rw [allW, longer_length, allW_length k n, Nat.pow_succ]
theorem letterB_size (j : Nat) : (letterB j).size = 1 := rfl
theorem longer_size {ws : List ByteArray} {k m : Nat} (h : ∀ x ∈ ws, x.size = m) : ∀ x ∈ longer ws k, x.size = m + 1 := by
  intro x hx
  unfold longer at hx
  rw [List.mem_flatMap] at hx
  obtain ⟨w, hw, hx⟩ := hx
  rw [List.mem_map] at hx
  obtain ⟨j, _, rfl⟩ := hx
  rw [ByteArray.size_append, h w hw, letterB_size]
theorem allW_size (k : Nat) : ∀ n, ∀ x ∈ allW k n, x.size = n
  | 0 => fun x hx => by
    rw [allW, List.mem_singleton] at hx
    subst hx; rfl
  | n + 1 => longer_size (allW_size k n)
theorem longer_next (ws : List ByteArray) (k i : Nat) (h : i < ws.length) : longer (ws.take (i + 1)) k = longer (ws.take i) k ++ (List.range k).map fun j => ws[i] ++ letterB j := by
  unfold longer
  rw [List.take_succ_eq_append_getElem h, List.flatMap_append]
  simp
theorem range_next (w : ByteArray) (j : Nat) : (List.range (j + 1)).map (fun j => w ++ letterB j) = (List.range j).map (fun j => w ++ letterB j) ++ [w ++ letterB j] := by
  rw [List.range_succ, List.map_append]; rfl
/-- The list that WordsOf gives: none where the numbers are out of bounds or the words more than 729. -/
def wordsOf (k n : Int) : List ByteArray :=
  if (1 ≤ k ∧ k ≤ 3) ∧ 0 ≤ n ∧ n ≤ 16 ∧ k.toNat ^ n.toNat ≤ 729 then allW k.toNat n.toNat else []
end Go.Proofs.YtalclebehbdliaaGreat
namespace Go.Proofs.YtalclebehbdliaaGreat
open Go Go.RowKit

/-- The forbidden word at place k is one, and stands behind the word ahead of it. -/
def okAt (L : Int) (ps : List ByteArray) (k : Nat) : Bool :=
  (isW L (ps.getD k ByteArray.empty) && (decide (1 ≤ (ps.getD k ByteArray.empty).size) && decide ((ps.getD k ByteArray.empty).size ≤ 3))) &&
    (decide (k = 0) || decide ((ps.getD (k - 1) ByteArray.empty).data.toList < (ps.getD k ByteArray.empty).data.toList))
def isShift (L : Int) (ps : List ByteArray) : Bool :=
  (List.range ps.length).all (okAt L ps) && ((decide (1 ≤ L) && decide (L ≤ 3)) && decide (ps.length ≤ 8))
def ShiftTo (L : Int) (ps : List ByteArray) (k : Nat) : Prop := ∀ j, j < k → okAt L ps j = true
theorem ShiftTo.zero (L : Int) (ps : List ByteArray) : ShiftTo L ps 0 := fun j h => by omega
theorem ShiftTo.next {L : Int} {ps : List ByteArray} {k : Nat} (h : ShiftTo L ps k) (hk : okAt L ps k = true) : ShiftTo L ps (k + 1) := by
  intro j hj
  by_cases e : j = k
  · subst e; exact hk
  · exact h j (by omega)
theorem isShift_not {L : Int} {ps : List ByteArray} {k : Nat} (hk : k < ps.length) (h : okAt L ps k = false) : isShift L ps = false := by
  have : (List.range ps.length).all (okAt L ps) = false := by
    rw [← Bool.not_eq_true, List.all_eq_true]
    intro hall
    have := hall k (List.mem_range.2 hk)
    rw [h] at this; cases this
  unfold isShift
  rw [this]; rfl
theorem isShift_end {L : Int} {ps : List ByteArray} (h : ShiftTo L ps ps.length) : isShift L ps = ((decide (1 ≤ L) && decide (L ≤ 3)) && decide (ps.length ≤ 8)) := by
  have : (List.range ps.length).all (okAt L ps) = true := by
    rw [List.all_eq_true]
    intro k hk
    exact h k (List.mem_range.1 hk)
  unfold isShift
  rw [this]; rfl
theorem isShift_letters {L : Int} {ps : List ByteArray} (h : isShift L ps = true) : 1 ≤ L ∧ L ≤ 3 ∧ ps.length ≤ 8 := by
  unfold isShift at h
  simp only [Bool.and_eq_true, decide_eq_true_eq] at h
  exact ⟨h.2.1.1, h.2.1.2, h.2.2⟩
theorem okAt_word {L : Int} {ps : List ByteArray} {k : Nat} (h : isW L (ps.getD k ByteArray.empty) = false) : okAt L ps k = false := by
  unfold okAt; rw [h]; rfl
theorem okAt_size {L : Int} {ps : List ByteArray} {k : Nat} (h : (decide (1 ≤ (ps.getD k ByteArray.empty).size) && decide ((ps.getD k ByteArray.empty).size ≤ 3)) = false) : okAt L ps k = false := by
  unfold okAt; rw [h, Bool.and_false]; rfl

/-! ### Words that avoid -/
/-- None of the words occurs in w. -/
def avoids (ps : List ByteArray) (w : ByteArray) : Bool := ps.all fun f => !Lib.contains w.data.toList f.data.toList
def AvoidTo (ps : List ByteArray) (w : ByteArray) (k : Nat) : Prop := ∀ j, j < k → Lib.contains w.data.toList (ps.getD j ByteArray.empty).data.toList = false
theorem AvoidTo.next {ps : List ByteArray} {w : ByteArray} {k : Nat} (h : AvoidTo ps w k) (hk : Lib.contains w.data.toList (ps.getD k ByteArray.empty).data.toList = false) : AvoidTo ps w (k + 1) := by
  intro j hj
  by_cases e : j = k
  · subst e; exact hk
  · exact h j (by omega)
theorem avoids_not {ps : List ByteArray} {w : ByteArray} {k : Nat} (hk : k < ps.length) (h : Lib.contains w.data.toList (ps.getD k ByteArray.empty).data.toList = true) : avoids ps w = false := by
  unfold avoids
  rw [← Bool.not_eq_true, List.all_eq_true]
  intro hall
  rw [List.getD_eq_getElem?_getD, List.getElem?_eq_getElem hk, Option.getD_some] at h
  have := hall _ (List.getElem_mem hk)
  rw [h] at this; cases this
theorem avoids_end {ps : List ByteArray} {w : ByteArray} (h : AvoidTo ps w ps.length) : avoids ps w = true := by
  unfold avoids
  rw [List.all_eq_true]
  intro f hf
  obtain ⟨k, hk, rfl⟩ := List.getElem_of_mem hf
  have := h k hk
  rw [List.getD_eq_getElem?_getD, List.getElem?_eq_getElem hk, Option.getD_some] at this
  rw [this]; rfl
def avoidsAll (L : Int) (ps : List ByteArray) (w : ByteArray) : Bool := (isShift L ps && isW L w) && avoids ps w
end Go.Proofs.YtalclebehbdliaaGreat
namespace Go.Proofs.YtalclebehbdliaaGreat
open Go Go.RowKit

/-- The slice holds the strings. -/
def StrsG (w : World) (G : Option Addr) (xs : List ByteArray) : Prop := 0 < xs.length → ∃ b off, G = some ⟨b, off, none⟩ ∧ StrsAt w b off xs ∧ b < w.heap.size
theorem StrsG.below {w w' : World} {G : Option Addr} {xs : List ByteArray} (h : StrsG w G xs) (hb : Below w.heap.size w w') : StrsG w' G xs := fun h0 => by
  obtain ⟨b, off, e, hs, hl⟩ := h h0
  exact ⟨b, off, e, hs.below hb hl, Nat.lt_of_lt_of_le hl hb.size⟩
theorem StrsG.of {w : World} {g : Nat} {xs : List ByteArray} (h : StrsAt w g 0 xs) (hg : g < w.heap.size) : StrsG w (some ⟨g, 0, none⟩) xs := fun _ => ⟨g, 0, rfl, h, hg⟩
theorem StrsG.none (w : World) : StrsG w none [] := fun h => absurd h (by simp)
end Go.Proofs.YtalclebehbdliaaGreat
namespace Go.Proofs.YtalclebehbdliaaGreat
open Go Go.RowKit

theorem impl_isLetterCount (k : Int) (w : World) :
    Calls Tryz.prog 78 #[.int .i64 k] w fun e w' => e = .returned (.bool (decide (1 ≤ k) && decide (k ≤ 3))) ∧ w' = w := by
  go_enter Tryz.func78, Tryz.ntmps78
  cases h1 : decide (1 ≤ k) with
  | false => go_wp2; go_ret; exact ⟨rfl, rfl⟩
  | true => go_wp2; go_ret; exact ⟨rfl, rfl⟩
theorem spec_in (x lo hi : Int) (w : World) :
    Calls Tryz.prog 59 #[.int .i64 x, .int .i64 lo, .int .i64 hi] w fun e w' => e = .returned (.bool (decide (lo ≤ x) && decide (x ≤ hi))) ∧ w' = w := by
  go_enter Tryz.func59, Tryz.ntmps59
  cases h1 : decide (lo ≤ x) with
  | false => go_wp2; go_ret; exact ⟨rfl, rfl⟩
  | true => go_wp2; go_ret; exact ⟨rfl, rfl⟩

/-- The first k bytes are letters. -/
def OkTo (n : Int) (s : ByteArray) (k : Nat) : Prop := ∀ j (hj : j < s.size), j < k → isL n s[j] = true
theorem OkTo.zero (n : Int) (s : ByteArray) : OkTo n s 0 := fun j _ h => by omega
theorem OkTo.next {n : Int} {s : ByteArray} {k : Nat} (h : OkTo n s k) (hk : k < s.size) (hl : isL n s[k] = true) : OkTo n s (k + 1) := by
  intro j hj hjk
  by_cases e : j = k
  · subst e; exact hl
  · exact h j hj (by omega)
theorem OkTo.all {n : Int} {s : ByteArray} (h : OkTo n s s.size) : s.data.toList.all (isL n) = true := all_of (fun j hj => h j hj hj)

theorem letter_no (m : Nat) (hm : m < 256) (h : 97 ≤ m) : wrap64 (wrap64 (m : Int) - 97) = (m : Int) - 97 := by unfold wrap64; omega

set_option maxRecDepth 100000 in
theorem spec_isWord (n : Int) (s : ByteArray) (hs : s.size ≤ 1099511627776) (w : World) :
    Calls Tryz.prog 69 #[.int .i64 n, .string s] w fun e w' => e = .returned (.bool (isW n s)) ∧ w' = w := by
  have HI := Lib.hid (spec_in n 1 3)
  go_enter Tryz.func69, Tryz.ntmps69
  go_wp2
  go_loop [5] (fun i => ∃ k : Nat, k ≤ s.size ∧ i = .int .i64 k ∧ Hid (OkTo n s k)) (fun i => s.size - (intOf i).toNat)
  case atStart => exact ⟨0, Nat.zero_le _, rfl, Lib.hid (OkTo.zero n s)⟩
  case round =>
    obtain ⟨k, hk, rfl, hok⟩ := hrel
    by_cases hlt : k < s.size
    · cases hl : isL n s[k] with
      | true =>
        have hnext := Lib.hid (hok.out.next hlt hl)
        unfold isL at hl
        simp only [Bool.and_eq_true, decide_eq_true_eq] at hl
        obtain ⟨l1, l2⟩ := hl
        have hb : s[k].toNat < 256 := s[k].toNat_lt
        have c1 : decide ((s[k].toNat : Int) < 97) = false := by simp; omega
        have c2 : decide (n ≤ wrap64 (wrap64 (s[k].toNat : Int) - 97)) = false := by rw [letter_no _ hb l1]; simp; omega
        go_wp2
        go_round
        case rel => exact ⟨k + 1, by omega, by go_num, hnext⟩
        case measure => simp [intOf]; omega
      | false =>
        have HR := Lib.hid (all_not hlt hl)
        have hb : s[k].toNat < 256 := s[k].toNat_lt
        by_cases c0 : s[k].toNat < 97
        · have c1 : decide ((s[k].toNat : Int) < 97) = true := by simp; omega
          go_wp2
          all_goals first | (go_ret; exact ⟨by simp [isW, HR.out], rfl⟩) | (exfalso; omega)
        · have c1 : decide ((s[k].toNat : Int) < 97) = false := by simp; omega
          have c2 : decide (n ≤ wrap64 (wrap64 (s[k].toNat : Int) - 97)) = true := by
            rw [letter_no _ hb (by omega)]
            unfold isL at hl
            simp at hl ⊢; omega
          have c3 : n ≤ (s[k].toNat : Int) - 97 := by have := of_decide_eq_true c2; rw [letter_no _ hb (by omega)] at this; exact this
          clear hl c2
          go_wp2
          all_goals first | (go_ret; exact ⟨by simp [isW, HR.out], rfl⟩) | (exfalso; omega)
    · obtain rfl : k = s.size := by omega
      have HA := Lib.hid hok.out.all
      go_wp2_with fail
      refine (HI.out _).mono ?_
      rintro e w1 ⟨rfl, rfl⟩
      cases hx : (decide (1 ≤ n) && decide (n ≤ 3)) with
      | false =>
        go_wp2
        go_ret
        exact ⟨by simp only [isW, HA.out, hx]; rfl, rfl⟩
      | true =>
        go_wp2
        go_ret
        exact ⟨by simp [isW, HA.out, hx]; omega, rfl⟩

/-- All bytes are letters, where there are n. -/
def allL (n : Int) (s : ByteArray) : Bool := s.data.toList.all (isL n)

set_option maxRecDepth 100000 in
theorem impl_only (n : Int) (hn : 1 ≤ n ∧ n ≤ 3) (s : ByteArray) (hs : s.size ≤ 1099511627776) (w : World) :
    Calls Tryz.prog 105 #[.int .i64 n, .string s] w fun e w' => e = .returned (.bool (allL n s)) ∧ w' = w := by
  go_enter Tryz.func105, Tryz.ntmps105
  go_wp2
  go_loop [8] (fun i => ∃ k : Nat, k ≤ s.size ∧ i = .int .i64 k ∧ Hid (OkTo n s k)) (fun i => s.size - (intOf i).toNat)
  case atStart => exact ⟨0, Nat.zero_le _, rfl, Lib.hid (OkTo.zero n s)⟩
  case round =>
    obtain ⟨k, hk, rfl, hok⟩ := hrel
    by_cases hlt : k < s.size
    · have hb : s[k].toNat < 256 := s[k].toNat_lt
      cases hl : isL n s[k] with
      | true =>
        have hnext := Lib.hid (hok.out.next hlt hl)
        unfold isL at hl
        simp only [Bool.and_eq_true, decide_eq_true_eq] at hl
        obtain ⟨l1, l2⟩ := hl
        have c1 : decide ((s[k].toNat : Int) < 97) = false := by simp; omega
        go_wp2
        go_round
        case rel => exact ⟨k + 1, by omega, by go_num, hnext⟩
        case measure => simp [intOf]; omega
      | false =>
        have HR : Hid (allL n s = false) := Lib.hid (all_not hlt hl)
        by_cases c0 : s[k].toNat < 97
        · have c1 : decide ((s[k].toNat : Int) < 97) = true := by simp; omega
          go_wp2
          all_goals (go_ret; exact ⟨by simp [HR.out], rfl⟩)
        · have c1 : decide ((s[k].toNat : Int) < 97) = false := by simp; omega
          have c2 : n ≤ (s[k].toNat : Int) - 97 := by
            unfold isL at hl
            simp at hl; omega
          clear hl
          go_wp2
          all_goals (go_ret; exact ⟨by simp [HR.out], rfl⟩)
    · obtain rfl : k = s.size := by omega
      have HA : Hid (allL n s = true) := Lib.hid hok.out.all
      go_wp2
      go_ret
      exact ⟨by simp [HA.out], rfl⟩

set_option maxRecDepth 100000 in
theorem impl_isWord (n : Int) (s : ByteArray) (hs : s.size ≤ 1099511627776) (w : World) :
    Calls Tryz.prog 79 #[.int .i64 n, .string s] w fun e w' => e = .returned (.bool (isW n s)) ∧ w' = w := by
  have HI := Lib.hid (impl_isLetterCount n)
  go_enter Tryz.func79, Tryz.ntmps79
  go_wp2_with fail
  refine (HI.out _).mono ?_
  rintro e w1 ⟨rfl, rfl⟩
  cases hx : (decide (1 ≤ n) && decide (n ≤ 3)) with
  | false =>
    go_wp2
    go_ret
    exact ⟨by simp only [isW, hx]; rfl, rfl⟩
  | true =>
    have hn : 1 ≤ n ∧ n ≤ 3 := by simpa using hx
    by_cases h16 : s.size ≤ 16
    · have g0 : decide ((s.size : Int) ≤ (16 : Int)) = true := by simp; omega
      have HX := Lib.hid hx
      have HO := Lib.hid (impl_only n hn s hs w1)
      clear hx hn
      go_wp2_with fail
      refine HO.out.mono ?_
      rintro e w2 ⟨rfl, rfl⟩
      go_wp2
      go_ret
      exact ⟨by simp only [isW, HX.out, decide_eq_true h16, Bool.and_true, Bool.true_and]; rfl, rfl⟩
    · have g0 : decide ((s.size : Int) ≤ (16 : Int)) = false := by simp; omega
      clear hx
      go_wp2
      go_ret
      exact ⟨by simp [isW, h16], rfl⟩

end Go.Proofs.YtalclebehbdliaaGreat
namespace Go.Proofs.YtalclebehbdliaaGreat
open Go Go.RowKit

def occ (s sub : ByteArray) : Bool := Lib.contains s.data.toList sub.data.toList
/-- The part doesn't begin before place k. -/
def NoOcc (s sub : ByteArray) (k : Nat) : Prop := ∀ j, j < k → j + sub.size ≤ s.size → Lib.occAt s.data.toList sub.data.toList j = false
theorem NoOcc.next {s sub : ByteArray} {k : Nat} (h : NoOcc s sub k) (ho : Lib.occAt s.data.toList sub.data.toList k = false) : NoOcc s sub (k + 1) := by
  intro j h1 h2
  by_cases e : j = k
  · subst e; exact ho
  · exact h j (by omega) h2
theorem NoOcc.no {s sub : ByteArray} {k : Nat} (h : NoOcc s sub k) (hk : s.size < k + sub.size) : occ s sub = false :=
  contains_no (fun i hi => by
    rw [ba_len, ba_len] at hi
    exact h i (by omega) hi)

set_option maxRecDepth 100000 in
theorem spec_occurs (s sub : ByteArray) (hs : s.size ≤ 2147483648) (hb : sub.size ≤ 2147483648) (w : World) :
    Calls Tryz.prog 88 #[.string s, .string sub] w fun e w' => e = .returned (.bool (occ s sub)) ∧ w' = w := by
  go_enter Tryz.func88, Tryz.ntmps88
  go_wp2
  go_loop [5] (fun i => ∃ k : Nat, k ≤ s.size + 1 ∧ i = .int .i64 k ∧ Hid (NoOcc s sub k)) (fun i => s.size + 1 - (intOf i).toNat)
  case atStart => exact ⟨0, Nat.zero_le _, rfl, Lib.hid (fun j h => by omega)⟩
  case round =>
    obtain ⟨k, hk, rfl, hno⟩ := hrel
    by_cases hlt : k + sub.size ≤ s.size
    · have hq : ((s.extract k (k + sub.size)).toList == sub.toList) = Lib.occAt s.data.toList sub.data.toList k := by rw [ba_same, occ_eq]
      cases ho : Lib.occAt s.data.toList sub.data.toList k with
      | true =>
        rw [ho] at hq
        have HO := Lib.hid (show occ s sub = true from contains_yes (i := k) (by rw [ba_len]; omega) ho)
        clear ho
        go_wp2
        go_ret
        exact ⟨by rw [HO.out]; rfl, rfl⟩
      | false =>
        rw [ho] at hq
        have HO := Lib.hid (hno.out.next ho)
        clear ho
        go_wp2
        go_round
        case rel => exact ⟨k + 1, by omega, by go_num, HO⟩
        case measure => simp [intOf]; omega
    · have HO := Lib.hid (hno.out.no (by omega))
      go_wp2
      go_ret
      exact ⟨by rw [HO.out]; rfl, rfl⟩

end Go.Proofs.YtalclebehbdliaaGreat
namespace Go.Proofs.YtalclebehbdliaaGreat
open Go Go.RowKit

def BoolPost (b : Bool) (w : World) (e : Ending) (w' : World) : Prop := e = .returned (.bool b) ∧ Below w.heap.size w w'

set_option maxRecDepth 100000 in
set_option maxHeartbeats 1600000 in
theorem spec_isShift (L : Int) (G : Option Addr) (c : Nat) (ps : List ByteArray) (hl : ps.length ≤ 1048576) (hz : ∀ k, k < ps.length → (ps.getD k ByteArray.empty).size ≤ 1099511627776) (w : World) (hs : StrsG w G ps) :
    Calls Tryz.prog 49 #[.agg #[.int .i64 L, .slice G ps.length c]] w (BoolPost (isShift L ps) w) := by
  have hb := (Below.refl w.heap.size w).alloc (Nat.le_refl _) (.cells #[.int .i64 L, .slice G ps.length c] 26)
  have HS := Lib.hid (hs.below hb)
  have HZ := Lib.hid hz
  have HW := Lib.hid (fun k hk w' => spec_isWord L (ps.getD k ByteArray.empty) (hz k hk) w')
  have HN := Lib.hid (fun (n : Nat) w' => spec_in (n : Int) 1 3 w')
  have HL := Lib.hid (spec_in L 1 3)
  have HB := Lib.hid hb
  clear hs hz hb
  go_enter Tryz.func49, Tryz.ntmps49
  go_wp2
  go_loop [3] (fun i => ∃ k : Nat, k ≤ ps.length ∧ i = .int .i64 k ∧ Hid (ShiftTo L ps k)) (fun i => ps.length - (intOf i).toNat)
  case atStart => exact ⟨0, Nat.zero_le _, rfl, Lib.hid (ShiftTo.zero L ps)⟩
  case round =>
    obtain ⟨k, hk, rfl, hto⟩ := hrel
    by_cases hlt : k < ps.length
    · obtain ⟨bg, og, rfl, hst, _⟩ := HS.out (by omega)
      have hc := hst k hlt
      have hw := HW.out k hlt
      cases hi : isW L (ps.getD k ByteArray.empty) with
      | false =>
        have HR := Lib.hid (isShift_not hlt (okAt_word hi))
        rw [hi] at hw
        have HW1 := Lib.hid hw
        generalize ps.getD k ByteArray.empty = y at *
        clear hw hi
        go_wp2_with fail
        refine (HW1.out _).mono ?_
        rintro e w1 ⟨rfl, rfl⟩
        go_wp2
        go_ret
        exact ⟨by rw [HR.out]; rfl, HB.out⟩
      | true =>
        rw [hi] at hw
        have HW1 := Lib.hid hw
        clear hw
        have hn := HN.out (ps.getD k ByteArray.empty).size
        cases hz : (decide (1 ≤ (ps.getD k ByteArray.empty).size) && decide ((ps.getD k ByteArray.empty).size ≤ 3)) with
        | false =>
          have HR := Lib.hid (isShift_not hlt (okAt_size (L := L) hz))
          rw [show (decide ((1 : Int) ≤ ((ps.getD k ByteArray.empty).size : Int)) && decide (((ps.getD k ByteArray.empty).size : Int) ≤ 3)) = false by rw [← hz]; congr 1 <;> (apply decide_eq_decide.2; omega)] at hn
          have HN1 := Lib.hid hn
          generalize ps.getD k ByteArray.empty = y at *
          clear hn hz hi
          go_wp2_with fail
          refine (HW1.out _).mono ?_
          rintro e w1 ⟨rfl, rfl⟩
          go_wp2_with fail
          refine (HN1.out _).mono ?_
          rintro e w2 ⟨rfl, rfl⟩
          go_wp2
          go_ret
          exact ⟨by rw [HR.out]; rfl, HB.out⟩
        | true =>
          rw [show (decide ((1 : Int) ≤ ((ps.getD k ByteArray.empty).size : Int)) && decide (((ps.getD k ByteArray.empty).size : Int) ≤ 3)) = true by rw [← hz]; congr 1 <;> (apply decide_eq_decide.2; omega)] at hn
          have HN1 := Lib.hid hn
          clear hn
          by_cases h0 : 0 < k
          · obtain ⟨j, rfl⟩ : ∃ j, k = j + 1 := ⟨k - 1, by omega⟩
            have hc0 := hst j (by omega)
            have g0 : decide ((0 : Int) < ((j + 1 : Nat) : Int)) = true := by rw [decide_eq_true_eq]; omega
            have j0 : (0 : Int) ≤ (j : Int) := by omega
            have j1 : (j : Int) < (ps.length : Int) := by omega
            have j2 : (j : Int) + 1 < (ps.length : Int) := by omega
            have j3 : (0 : Int) ≤ (j : Int) + 1 := by omega
            cases hle : decide ((ps.getD j ByteArray.empty).data.toList < (ps.getD (j + 1) ByteArray.empty).data.toList) with
            | false =>
              have HR := Lib.hid (isShift_not hlt (show okAt L ps (j + 1) = false by unfold okAt; rw [Nat.add_sub_cancel, hle]; simp))
              rw [← ba_less] at hle
              generalize ps.getD j ByteArray.empty = z at *
              generalize ps.getD (j + 1) ByteArray.empty = y at *
              clear hz hi
              go_wp2_with fail
              refine (HW1.out _).mono ?_
              rintro e w1 ⟨rfl, rfl⟩
              go_wp2_with fail
              refine (HN1.out _).mono ?_
              rintro e w2 ⟨rfl, rfl⟩
              go_wp2
              go_ret
              exact ⟨by rw [HR.out]; rfl, HB.out⟩
            | true =>
              have HT := Lib.hid (hto.out.next (show okAt L ps (j + 1) = true by unfold okAt; rw [Nat.add_sub_cancel, hle, hi, hz]; simp))
              rw [← ba_less] at hle
              generalize ps.getD j ByteArray.empty = z at *
              generalize ps.getD (j + 1) ByteArray.empty = y at *
              clear hz hi
              go_wp2_with fail
              refine (HW1.out _).mono ?_
              rintro e w1 ⟨rfl, rfl⟩
              go_wp2_with fail
              refine (HN1.out _).mono ?_
              rintro e w2 ⟨rfl, rfl⟩
              go_wp2
              go_round
              case rel => exact ⟨j + 2, by omega, by go_num, HT⟩
              case measure => simp [intOf]; omega
          · obtain rfl : k = 0 := by omega
            rw [Nat.add_zero] at hc
            have HT := Lib.hid (hto.out.next (show okAt L ps 0 = true by unfold okAt; rw [hi, hz]; simp))
            have i1 : (0 : Int) < (ps.length : Int) := by omega
            generalize ps.getD 0 ByteArray.empty = y at *
            clear hz hi
            go_wp2_with fail
            refine (HW1.out _).mono ?_
            rintro e w1 ⟨rfl, rfl⟩
            go_wp2_with fail
            refine (HN1.out _).mono ?_
            rintro e w2 ⟨rfl, rfl⟩
            go_wp2
            go_round
            case rel => exact ⟨1, by omega, by go_num, HT⟩
            case measure => simp [intOf]; omega
    · obtain rfl : k = ps.length := by omega
      have HE := Lib.hid (isShift_end hto.out)
      go_wp2_with fail
      refine (HL.out _).mono ?_
      rintro e w1 ⟨rfl, rfl⟩
      cases hx : (decide (1 ≤ L) && decide (L ≤ 3)) with
      | false =>
        go_wp2
        go_ret
        exact ⟨by rw [HE.out, hx]; rfl, HB.out⟩
      | true =>
        have e8 : decide ((ps.length : Int) ≤ 8) = decide (ps.length ≤ 8) := decide_eq_decide.2 (by omega)
        go_wp2
        go_ret
        exact ⟨by rw [HE.out, hx, Bool.true_and, ← e8]; first | rfl | (rw [e8]; rfl), HB.out⟩
set_option maxRecDepth 100000 in
set_option maxHeartbeats 800000 in
theorem spec_avoids (G : Option Addr) (c : Nat) (ps : List ByteArray) (s : ByteArray) (hl : ps.length ≤ 1048576) (hz : ∀ k, k < ps.length → (ps.getD k ByteArray.empty).size ≤ 2147483648) (hs2 : s.size ≤ 2147483648) (w : World) (hs : StrsG w G ps) :
    Calls Tryz.prog 45 #[.slice G ps.length c, .string s] w fun e w' => e = .returned (.bool (avoids ps s)) ∧ w' = w := by
  have HS := Lib.hid hs
  have HO := Lib.hid (fun k hk w' => spec_occurs s (ps.getD k ByteArray.empty) hs2 (hz k hk) w')
  clear hs hz
  go_enter Tryz.func45, Tryz.ntmps45
  go_wp2
  go_loop [5] (fun i => ∃ k : Nat, k ≤ ps.length ∧ i = .int .i64 k ∧ Hid (AvoidTo ps s k)) (fun i => ps.length - (intOf i).toNat)
  case atStart => exact ⟨0, Nat.zero_le _, rfl, Lib.hid (fun j h => by omega)⟩
  case round =>
    obtain ⟨k, hk, rfl, hto⟩ := hrel
    by_cases hlt : k < ps.length
    · obtain ⟨bg, og, rfl, hst, _⟩ := HS.out (by omega)
      have hc := hst k hlt
      have ho := HO.out k hlt
      cases hx : occ s (ps.getD k ByteArray.empty) with
      | true =>
        rw [hx] at ho
        have HR := Lib.hid (avoids_not hlt (show Lib.contains s.data.toList (ps.getD k ByteArray.empty).data.toList = true from hx))
        have HO1 := Lib.hid ho
        generalize ps.getD k ByteArray.empty = y at *
        clear ho hx
        go_wp2_with fail
        refine (HO1.out _).mono ?_
        rintro e w1 ⟨rfl, rfl⟩
        go_wp2
        go_ret
        exact ⟨by rw [HR.out]; rfl, rfl⟩
      | false =>
        rw [hx] at ho
        have HT := Lib.hid (hto.out.next (show Lib.contains s.data.toList (ps.getD k ByteArray.empty).data.toList = false from hx))
        have HO1 := Lib.hid ho
        generalize ps.getD k ByteArray.empty = y at *
        clear ho hx
        go_wp2_with fail
        refine (HO1.out _).mono ?_
        rintro e w1 ⟨rfl, rfl⟩
        go_wp2
        go_round
        case rel => exact ⟨k + 1, by omega, by go_num, HT⟩
        case measure => simp [intOf]; omega
    · obtain rfl : k = ps.length := by omega
      have HE := Lib.hid (avoids_end hto.out)
      go_wp2
      go_ret
      exact ⟨by rw [HE.out]; rfl, rfl⟩

end Go.Proofs.YtalclebehbdliaaGreat
namespace Go.Proofs.YtalclebehbdliaaGreat
open Go Go.RowKit

/-- What is left of the limit, or -1. -/
def SzPost (L : Int) (xs : List ByteArray) (w : World) (e : Ending) (w' : World) : Prop := ∃ r : Int, e = .returned (.int .i64 r) ∧ (r = -1 ∨ (0 ≤ r ∧ (xs.length : Int) + total xs + r ≤ L)) ∧ w = w'

set_option maxRecDepth 100000 in
set_option maxHeartbeats 800000 in
theorem sz_some (b off c : Nat) (xs : List ByteArray) (L : Int) (hL0 : 0 ≤ L) (hL : L ≤ 1099511627776) (hn : xs.length ≤ 9223372036854775807) (hsz : ∀ k, k < xs.length → (xs.getD k ByteArray.empty).size ≤ 9223372036854775807) (w : World) (hc : StrsAt w b off xs) :
    Calls Tryz.prog 72 #[.slice (some ⟨b, off, none⟩) xs.length c, .int .i64 L] w (SzPost L xs w) := by
  by_cases h0 : L - (xs.length : Int) < 0
  · go_enter Tryz.func72, Tryz.ntmps72
    go_wp2
    go_ret
    exact ⟨-1, rfl, Or.inl rfl, rfl⟩
  have HC := Lib.hid hc
  have HS := Lib.hid hsz
  clear hc hsz
  go_enter Tryz.func72, Tryz.ntmps72
  go_wp2
  go_loop [1, 5] (fun l i => ∃ (k : Nat) (r : Int), k ≤ xs.length ∧ 0 ≤ r ∧ r ≤ L ∧ Hid (r + xs.length + total (xs.take k) = L) ∧ l = .int .i64 r ∧ i = .int .i64 k) (fun _ i => xs.length - (intOf i).toNat)
  case atStart => exact ⟨0, _, Nat.zero_le _, by omega, by omega, Lib.hid (by simp [total]), rfl, rfl⟩
  case round =>
    obtain ⟨k, r, hk, hr0, hr1, hr, rfl, rfl⟩ := hrel
    by_cases hlt : k < xs.length
    · have hnx := Lib.hid (total_next xs k hlt)
      have hc1 := HC.out k hlt
      have hs1 := HS.out k hlt
      generalize xs.getD k ByteArray.empty = x at hc1 hs1 hnx
      by_cases hneg : r - (x.size : Int) < 0
      · go_wp2
        go_ret
        exact ⟨-1, rfl, Or.inl rfl, rfl⟩
      · go_wp2
        go_round
        case rel => exact ⟨k + 1, r - x.size, by omega, by omega, by omega, Lib.hid (by have := hnx.out; have := hr.out; omega), rfl, by go_num⟩
        case measure => simp [intOf]; omega
    · obtain rfl : k = xs.length := by omega
      go_wp2
      go_ret
      exact ⟨r, rfl, Or.inr ⟨hr0, by have := hr.out; rw [total_all (Nat.le_refl _)] at this; omega⟩, rfl⟩

/-- A copy in new memory, at the heap's end. -/
def CopyPost (xs : List ByteArray) (w : World) (e : Ending) (w' : World) : Prop :=
  e = .returned (.slice (some ⟨w.heap.size, 0, none⟩) xs.length xs.length) ∧ w'.ownsRow w.heap.size 9 1 (.slice (some ⟨w.heap.size, 0, none⟩) xs.length xs.length) xs.length (xs.map Value.string) ∧ Below w.heap.size w w' ∧ w.heap.size < w'.heap.size

set_option maxRecDepth 100000 in
set_option maxHeartbeats 800000 in
theorem copy_some (b off c : Nat) (xs : List ByteArray) (hn : xs.length ≤ 1099511627776) (w : World) (hc : StrsAt w b off xs) (hb : b < w.heap.size) :
    Calls Tryz.prog 73 #[.slice (some ⟨b, off, none⟩) xs.length c] w (CopyPost xs w) := by
  obtain ⟨i0, hi, hz0, hz1, hz2⟩ := info_parts infoStr
  have HC := Lib.hid hc
  clear hc
  go_enter Tryz.func73, Tryz.ntmps73
  go_wp2_with (at_make; refine wpList_make_full _ rfl _ _ 24 rfl w.heap.size 9 i0 (.string ByteArray.empty) 1 Tryz.underlying24 hi hz0 hz1 .i64 .i64 _ _ xs.length rfl rfl rfl rfl (by rw [hz2]; omega) (by unfold maxLen; omega) (Nat.le_refl _) ?_; intro w1 hown hgrow)
  have hown0 : w1.ownsRow w.heap.size 9 1 (.slice (some ⟨w.heap.size, 0, none⟩) xs.length xs.length) xs.length (filled xs 0 xs.length) := by
    have e : (madeCells (Value.string ByteArray.empty).cells (xs.length * 1)).toList = List.replicate xs.length (.string ByteArray.empty) := by rw [Nat.mul_one]; exact toList_madeCells_one _ _
    rw [filled_none, ← e]; exact hown
  have hbel : Below w.heap.size w w1 := (Below.refl _ _).grown hgrow (Nat.le_refl _) (fun k hk => by cases hk)
  have hsz1 : w.heap.size < w1.heap.size := (hown0.lt _ rfl).2
  clear hown hgrow
  go_loopw [4] (fun i wr => ∃ k : Nat, k ≤ xs.length ∧ i = .int .i64 k ∧ wr.ownsRow w.heap.size 9 1 (.slice (some ⟨w.heap.size, 0, none⟩) xs.length xs.length) xs.length (filled xs k xs.length) ∧ Below w.heap.size w wr ∧ w.heap.size < wr.heap.size) (fun i _ => xs.length - (intOf i).toNat)
  case atStart => exact ⟨0, Nat.zero_le _, rfl, hown0, hbel, hsz1⟩
  case round =>
    obtain ⟨k, hk, rfl, ho, hbl, hs2⟩ := hrel
    by_cases hlt : k < xs.length
    · have hc1 := HC.out.below hbl hb k hlt
      have hc2 : wr.cell? ⟨w.heap.size, k, none⟩ = some (.string ByteArray.empty) := (ho.cellAt k (by omega)).trans (filled_at xs k hlt)
      have hf2 : wr.frozen? ⟨w.heap.size, k, none⟩ = false := ho.frozenAt k
      have hst := (ho.stored k (.string (xs.getD k ByteArray.empty))).1
      rw [filled_set xs k hlt] at hst
      have HO := Lib.hid hst
      have HB := Lib.hid hbl
      clear hst ho hbl
      generalize xs.getD k ByteArray.empty = x at hc1 HO
      go_wp2
      go_roundw
      case rel => exact ⟨k + 1, by omega, by go_num, HO.out, HB.out.setCell (Nat.le_refl _) _, by simpa using hs2⟩
      case measure => simp [intOf]; omega
    · obtain rfl : k = xs.length := by omega
      rw [filled_all] at ho
      have HO := Lib.hid ho
      clear ho
      go_wp2
      go_ret
      exact ⟨rfl, HO.out, hbl, hs2⟩

set_option maxRecDepth 100000 in
set_option maxHeartbeats 400000 in
theorem sz_none (a : Option Addr) (c : Nat) (L : Int) (hL0 : 0 ≤ L) (hL : L ≤ 1099511627776) (w : World) :
    Calls Tryz.prog 72 #[.slice a 0 c, .int .i64 L] w (SzPost L [] w) := by
  go_enter Tryz.func72, Tryz.ntmps72
  go_wp2
  refine wp_loop_rounds 1 ?_
  rw [rounds_succ]
  go_wp2
  go_ret
  exact ⟨L, rfl, Or.inr ⟨hL0, by simp [total]⟩, rfl⟩

set_option maxRecDepth 100000 in
set_option maxHeartbeats 400000 in
theorem copy_none (a : Option Addr) (c : Nat) (w : World) :
    Calls Tryz.prog 73 #[.slice a 0 c] w (CopyPost [] w) := by
  obtain ⟨i0, hi, hz0, hz1, hz2⟩ := info_parts infoStr
  go_enter Tryz.func73, Tryz.ntmps73
  go_wp2_with (at_make; refine wpList_make_full _ rfl _ _ 24 rfl w.heap.size 9 i0 (.string ByteArray.empty) 1 Tryz.underlying24 hi hz0 hz1 .i64 .i64 _ _ 0 rfl rfl rfl rfl (by rw [hz2]; omega) (by unfold maxLen; omega) (Nat.le_refl _) ?_; intro w1 hown hgrow)
  have hown0 : w1.ownsRow w.heap.size 9 1 (.slice (some ⟨w.heap.size, 0, none⟩) 0 0) 0 [] := by
    have e : (madeCells (Value.string ByteArray.empty).cells (0 * 1)).toList = [] := toList_madeCells_one (.string ByteArray.empty) 0
    rw [← e]; exact hown
  have hbel : Below w.heap.size w w1 := (Below.refl _ _).grown hgrow (Nat.le_refl _) (fun k hk => by cases hk)
  have hsz1 : w.heap.size < w1.heap.size := (hown0.lt _ rfl).2
  have HO := Lib.hid hown0
  clear hown hgrow hown0
  refine wp_loop_rounds 1 ?_
  rw [rounds_succ]
  go_wp2
  go_ret
  exact ⟨rfl, HO.out, hbel, hsz1⟩
end Go.Proofs.YtalclebehbdliaaGreat
namespace Go.Proofs.YtalclebehbdliaaGreat
open Go Go.RowKit

/-- V holds the strings xs, now and in every later world in which nothing that is there has turned. -/
def SliceArg (W : World) (V : Value) (xs : List ByteArray) : Prop :=
  (∀ w', Below W.heap.size W w' → Calls Tryz.prog 72 #[V, .int .i64 1048576] w' (SzPost 1048576 xs w')) ∧
  (xs.length ≤ 1048576 → ∀ w', Below W.heap.size W w' → Calls Tryz.prog 73 #[V] w' (CopyPost xs w'))
theorem SliceArg.later {W W' : World} {V : Value} {xs : List ByteArray} (h : SliceArg W V xs) (hb : Below W.heap.size W W') : SliceArg W' V xs :=
  ⟨fun w' hw => h.1 w' (hb.trans (hw.mono hb.size)), fun hl w' hw => h.2 hl w' (hb.trans (hw.mono hb.size))⟩

def SzShiftPost (xs : List ByteArray) (w : World) (e : Ending) (w' : World) : Prop := ∃ r : Int, e = .returned (.int .i64 r) ∧ (r = -1 ∨ (0 ≤ r ∧ (xs.length : Int) + total xs ≤ 1048576)) ∧ Below w.heap.size w w'

set_option maxRecDepth 100000 in
theorem sz_shift (L : Int) (V : Value) (xs : List ByteArray) (w : World) (h : SliceArg w V xs) :
    Calls Tryz.prog 29 #[.agg #[.int .i64 L, V], .int .i64 1048576] w (SzShiftPost xs w) := by
  have HS := Lib.hid (h.1 (w.alloc (.cells #[.int .i64 L, V] 47)) ((Below.refl _ _).alloc (Nat.le_refl _) _))
  clear h
  go_enter Tryz.func29, Tryz.ntmps29
  go_wp2_with fail
  refine HS.out.mono ?_
  rintro e w1 ⟨r, rfl, hr, rfl⟩
  rcases hr with rfl | ⟨hr0, hr1⟩
  · go_wp2
    go_ret
    exact ⟨-1, rfl, Or.inl rfl, (Below.refl _ _).alloc (Nat.le_refl _) _⟩
  · go_wp2
    go_ret
    exact ⟨r, rfl, Or.inr ⟨hr0, by omega⟩, (Below.refl _ _).alloc (Nat.le_refl _) _⟩

/-- A copy: its own slice, in new memory. -/
def ToShiftPost (L : Int) (xs : List ByteArray) (w : World) (e : Ending) (w' : World) : Prop :=
  ∃ g, e = .returned (.agg #[.int .i64 L, .slice (some ⟨g, 0, none⟩) xs.length xs.length]) ∧ w'.ownsRow w.heap.size 9 1 (.slice (some ⟨g, 0, none⟩) xs.length xs.length) xs.length (xs.map Value.string) ∧ Below w.heap.size w w'

set_option maxRecDepth 100000 in
set_option maxHeartbeats 800000 in
theorem to_shift (L : Int) (V : Value) (xs : List ByteArray) (hl : xs.length ≤ 1048576) (w : World) (h : SliceArg w V xs) :
    Calls Tryz.prog 30 #[.agg #[.int .i64 L, V]] w (ToShiftPost L xs w) := by
  have HC := Lib.hid (h.2 hl)
  clear h
  go_enter Tryz.func30, Tryz.ntmps30
  go_wp2_with fail
  obtain ⟨W3, hW3⟩ : ∃ W3, (((w.alloc (.cells #[.int .i64 L, V] 47)).alloc (.cells #[.int .i64 0, .slice none 0 0] 26)).alloc (.cells #[.int .i64 L, .slice none 0 0] 26)) = W3 := ⟨_, rfl⟩
  have hbW : Below w.heap.size w W3 := by rw [← hW3]; exact (((Below.refl _ _).alloc (Nat.le_refl _) _).alloc (by simp) _).alloc (by simp; omega) _
  have hsz : W3.heap.size = w.heap.size + 1 + 1 + 1 := by rw [← hW3]; simp
  have h1 : W3.heap[w.heap.size + 1]? = some (.cells #[.int .i64 0, .slice none 0 0] 26) := by
    rw [← hW3]
    have e := heap_alloc_new (w.alloc (.cells #[.int .i64 L, V] 47)) (.cells #[.int .i64 0, .slice none 0 0] 26)
    rw [World.size_alloc] at e
    rw [← e]
    exact ((Below.refl _ ((w.alloc (.cells #[.int .i64 L, V] 47)).alloc (.cells #[.int .i64 0, .slice none 0 0] 26))).alloc (Nat.le_refl _) _).block _ (by simp)
  have h2 : W3.heap[w.heap.size + 1 + 1]? = some (.cells #[.int .i64 L, .slice none 0 0] 26) := by
    rw [← hW3]
    have e := heap_alloc_new ((w.alloc (.cells #[.int .i64 L, V] 47)).alloc (.cells #[.int .i64 0, .slice none 0 0] 26)) (.cells #[.int .i64 L, .slice none 0 0] 26)
    rw [World.size_alloc, World.size_alloc] at e
    exact e
  rw [hW3]
  clear hW3
  refine (HC.out W3 hbW).mono ?_
  rintro e w3 ⟨rfl, ho3, hb3, hlt3⟩
  have k1 := (hb3.block (w.heap.size + 1) (by omega)).trans h1
  have k2 := (hb3.block (w.heap.size + 1 + 1) (by omega)).trans h2
  have HO3 := Lib.hid ho3
  have HB3 := Lib.hid (hbW.trans (hb3.mono hbW.size))
  clear ho3 hb3 hbW h1 h2 hlt3
  have c10 : w3.cell? ⟨w.heap.size + 1, 0, none⟩ = some (.int .i64 0) := by simp [World.cell?, k1]
  have c11 : w3.cell? ⟨w.heap.size + 1, 1, none⟩ = some (.slice none 0 0) := by simp [World.cell?, k1]
  have c20 : w3.cell? ⟨w.heap.size + 1 + 1, 0, none⟩ = some (.int .i64 L) := by simp [World.cell?, k2]
  have c21 : w3.cell? ⟨w.heap.size + 1 + 1, 1, none⟩ = some (.slice none 0 0) := by simp [World.cell?, k2]
  have f1 : ∀ j, w3.frozen? ⟨w.heap.size + 1, j, none⟩ = false := fun j => by simp [World.frozen?, k1]
  have f2 : ∀ j, w3.frozen? ⟨w.heap.size + 1 + 1, j, none⟩ = false := fun j => by simp [World.frozen?, k2]
  go_wp2
  generalize hv : Value.slice (some ⟨w.heap.size + 1 + 1 + 1, 0, none⟩) xs.length xs.length = v at *
  have m1 : (w3.setCell ⟨w.heap.size + 1 + 1, 1, none⟩ v).heap[w.heap.size + 1]? = some (.cells #[.int .i64 0, .slice none 0 0] 26) := by
    rw [heap_setCell_other _ _ _ _ (by simp)]; exact k1
  have m2 := heap_setCell_same (w3.setCell ⟨w.heap.size + 1 + 1, 1, none⟩ v) (w.heap.size + 1) 0 _ _ (.int .i64 L) m1
  have m3 := heap_setCell_same _ (w.heap.size + 1) 1 _ _ v m2
  refine bodyPost_ret (results_cell_row rfl _ _ (w.heap.size + 1) 26 #[.int .i64 L, v] (0, 0) _ rfl ?_ Tryz.underlying26 rfl (by kernel_rfl)) rfl ?_
  · rw [m3]; rfl
  · subst hv
    have ho := HO3.out
    rw [hsz] at ho
    have o1 := ownsRow_setCell_below ho (a := ⟨w.heap.size + 1 + 1, 1, none⟩) (by show w.heap.size + 1 + 1 < _; omega) (Value.slice (some ⟨w.heap.size + 1 + 1 + 1, 0, none⟩) xs.length xs.length)
    have o2 := ownsRow_setCell_below o1 (a := ⟨w.heap.size + 1, 0, none⟩) (by show w.heap.size + 1 < _; omega) (.int .i64 L)
    have o3 := ownsRow_setCell_below o2 (a := ⟨w.heap.size + 1, 1, none⟩) (by show w.heap.size + 1 < _; omega) (Value.slice (some ⟨w.heap.size + 1 + 1 + 1, 0, none⟩) xs.length xs.length)
    have b1 := HB3.out.setCell (p := ⟨w.heap.size + 1 + 1, 1, none⟩) (by show _ ≤ w.heap.size + 1 + 1; omega) (Value.slice (some ⟨w.heap.size + 1 + 1 + 1, 0, none⟩) xs.length xs.length)
    have b2 := b1.setCell (p := ⟨w.heap.size + 1, 0, none⟩) (by show _ ≤ w.heap.size + 1; omega) (.int .i64 L)
    have b3 := b2.setCell (p := ⟨w.heap.size + 1, 1, none⟩) (by show _ ≤ w.heap.size + 1; omega) (Value.slice (some ⟨w.heap.size + 1 + 1 + 1, 0, none⟩) xs.length xs.length)
    exact ⟨_, rfl, World.ownsRow.mono o3 (by omega), b3⟩

/-- Two equal shifts are found equal. -/
theorem same_shift (L : Int) (g1 c1 g2 c2 : Nat) (xs : List ByteArray) (hl : xs.length ≤ 1048576) (w : World) (h1 : StrsAt w g1 0 xs) (k1 : g1 < w.heap.size) (h2 : StrsAt w g2 0 xs) (k2 : g2 < w.heap.size) :
    Calls Tryz.prog 31 #[.agg #[.int .i64 L, .slice (some ⟨g1, 0, none⟩) xs.length c1], .agg #[.int .i64 L, .slice (some ⟨g2, 0, none⟩) xs.length c2]] w (TrueBelow w) := by
  have hb : Below w.heap.size w ((w.alloc (.cells #[.int .i64 L, .slice (some ⟨g1, 0, none⟩) xs.length c1] 26)).alloc (.cells #[.int .i64 L, .slice (some ⟨g2, 0, none⟩) xs.length c2] 26)) := ((Below.refl _ _).alloc (Nat.le_refl _) _).alloc (by simp) _
  have HE := Lib.hid (same_some g1 0 c1 g2 0 c2 xs (by omega) _ (h1.below hb k1) (h2.below hb k2))
  have HB := Lib.hid hb
  clear h1 h2 hb
  go_enter Tryz.func31, Tryz.ntmps31
  go_wp2_with fail
  refine HE.out.mono ?_
  rintro e w1 ⟨rfl, hb1⟩
  go_wp2
  go_ret
  exact ⟨rfl, HB.out.trans (hb1.mono HB.out.size)⟩
end Go.Proofs.YtalclebehbdliaaGreat
namespace Go.Proofs.YtalclebehbdliaaGreat
open Go Go.RowKit

/-- A block holds a shift. -/
def BoxAt (w : World) (g : Nat) (L : Int) (V : Value) : Prop := w.cell? ⟨g, 0, none⟩ = some (.int .i64 L) ∧ w.cell? ⟨g, 1, none⟩ = some V
theorem BoxAt.below {w w' : World} {g B : Nat} {L : Int} {V : Value} (h : BoxAt w g L V) (hb : Below B w w') (hg : g < B) : BoxAt w' g L V :=
  ⟨(hb.cell (p := ⟨g, 0, none⟩) hg).trans h.1, (hb.cell (p := ⟨g, 1, none⟩) hg).trans h.2⟩
theorem boxAt_new (w : World) (L : Int) (V : Value) (t : TypeId) : BoxAt (w.alloc (.cells #[.int .i64 L, V] t)) w.heap.size L V := ⟨by simp, by simp⟩
theorem below_after {w w1 w2 : World} (h : Below w.heap.size w w1) (k : Below w1.heap.size w1 w2) : Below w.heap.size w w2 := h.trans (k.mono h.size)

/-- What a function of a shift answers at its copies, in every world behind W in which nothing that was there has turned. -/
def AtCopies (W : World) (f : Nat) (L : Int) (xs : List ByteArray) (b : Bool) : Prop :=
  ∀ g c w', Below W.heap.size W w' → xs.length ≤ 1048576 → total xs ≤ 1048576 → StrsAt w' g 0 xs → g < w'.heap.size → Calls Tryz.prog f #[.agg #[.int .i64 L, .slice (some ⟨g, 0, none⟩) xs.length c]] w' (BoolPost b w')

end Go.Proofs.YtalclebehbdliaaGreat
namespace Go.Proofs.YtalclebehbdliaaGreat
open Go Go.RowKit

def SizeSh (ps : List ByteArray) : Prop := ps.length ≤ 1048576 ∧ ∀ k, k < ps.length → (ps.getD k ByteArray.empty).size ≤ 2147483648
def ShV (w : World) (v : Value) (L : Int) (ps : List ByteArray) : Prop := ∃ G c, v = .agg #[.int .i64 L, .slice G ps.length c] ∧ StrsG w G ps
theorem ShV.below {w w' : World} {v : Value} {L : Int} {ps : List ByteArray} (h : ShV w v L ps) (hb : Below w.heap.size w w') : ShV w' v L ps := by
  obtain ⟨G, c, hv, hs⟩ := h
  exact ⟨G, c, hv, hs.below hb⟩
/-- The list lies in memory of its own. -/
def OwnSh (w : World) (B : Nat) (v : Value) (L : Int) (ps : List ByteArray) : Prop := ∃ G c, v = .agg #[.int .i64 L, .slice G ps.length c] ∧ w.ownsRow B 9 1 (.slice G ps.length c) ps.length (ps.map Value.string)
theorem strsG_of_owns {w : World} {B c : Nat} {G : Option Addr} {ps : List ByteArray} (h : w.ownsRow B 9 1 (.slice G ps.length c) ps.length (ps.map Value.string)) : StrsG w G ps := fun h0 => by
  obtain ⟨g, c2, hv, _, _⟩ := World.ownsRow.form h h0
  simp only [Value.slice.injEq, true_and] at hv
  obtain ⟨rfl, rfl⟩ := hv
  exact ⟨g, 0, rfl, StrsAt.of_owns h rfl, (h.lt g rfl).2⟩
theorem OwnSh.shV {w : World} {B : Nat} {v : Value} {L : Int} {ps : List ByteArray} (h : OwnSh w B v L ps) : ShV w v L ps := by
  obtain ⟨G, c, hv, ho⟩ := h
  exact ⟨G, c, hv, strsG_of_owns ho⟩
theorem OwnSh.mono {w : World} {B B' : Nat} {v : Value} {L : Int} {ps : List ByteArray} (h : OwnSh w B v L ps) (hB : B' ≤ B) : OwnSh w B' v L ps := by
  obtain ⟨G, c, hv, ho⟩ := h
  exact ⟨G, c, hv, World.ownsRow.mono ho hB⟩
/-- A shift, new, and whether there is one. -/
def NewShB (o : Option (Int × List ByteArray)) (w : World) (e : Ending) (w' : World) : Prop := ∃ v, e = .returned (.tuple #[v, .bool o.isSome]) ∧ OwnSh w' w.heap.size v (o.getD (0, [])).1 (o.getD (0, [])).2 ∧ Below w.heap.size w w'
theorem ownSh_nil (w : World) (B : Nat) (L : Int) : OwnSh w B (.agg #[.int .i64 L, .slice none 0 0]) L [] := ⟨none, 0, rfl, World.ownsRow_nil w B 9 1⟩
theorem sh_stores {W : World} {h : Nat} {x y x' y' : Value} {t : TypeId} (hk : W.heap[h]? = some (.cells #[x, y] t (0, 0))) :
    ((W.setCell ⟨h, 0, none⟩ x').setCell ⟨h, 1, none⟩ y').heap[h]? = some (.cells #[x', y'] t (0, 0)) := by
  have m2 := heap_setCell_same W h 0 _ _ x' hk
  have m3 := heap_setCell_same _ h 1 _ _ y' m2
  rw [m3]; rfl
theorem sh_cells {W : World} {h : Nat} {x y : Value} {t : TypeId} (hk : W.heap[h]? = some (.cells #[x, y] t (0, 0))) :
    W.cell? ⟨h, 0, none⟩ = some x ∧ W.cell? ⟨h, 1, none⟩ = some y ∧ ∀ j, W.frozen? ⟨h, j, none⟩ = false :=
  ⟨by simp [World.cell?, hk], by simp [World.cell?, hk], fun j => by simp [World.frozen?, hk]⟩
section
variable {P : Program}
theorem results_sh {fn : Func} {p u : Tmp} {ty : TypeId} (h : fn.results = #[.cell p ty, .tmp u]) (tmps : Array Value) (w : World) (g : Nat) (t : TypeId) (cs : Array Value) (fr : Nat × Nat) (d : TypeDesc)
    (hp : tmps.getD p undef = .pointer (some ⟨g, 0, none⟩)) (hg : w.heap[g]? = some (.cells cs t fr))
    (hu : P.underlying ty = some d) (hd : (match d with | .struct _ | .array _ _ => true | _ => false) = true) (hi : (P.info? ty).map (·.size) = some cs.size) :
    (results fn tmps).run P w = .ok (.tuple #[.agg cs, tmps.getD u undef]) w := by
  have hp' : tmps[p]?.getD undef = .pointer (some ⟨g, 0, none⟩) := by simpa using hp
  simp [results, h, hp', asAddr, run_loadVar_row w g t ty cs fr d hg hu hd hi]
end
/-- The list stays its own when a shift's block below it is written. -/
theorem owns_stores {w : World} {B h : Nat} {v x y : Value} {n : Nat} {xs : List Value} (ho : w.ownsRow B 9 1 v n xs) (hh : h < B) : ((w.setCell ⟨h, 0, none⟩ x).setCell ⟨h, 1, none⟩ y).ownsRow B 9 1 v n xs :=
  ownsRow_setCell_below (ownsRow_setCell_below ho (a := ⟨h, 0, none⟩) hh x) (a := ⟨h, 1, none⟩) hh y
theorem below_stores {B : Nat} {w w' : World} (hb : Below B w w') {h : Nat} (hh : B ≤ h) (x y : Value) : Below B w ((w'.setCell ⟨h, 0, none⟩ x).setCell ⟨h, 1, none⟩ y) :=
  (hb.setCell (p := ⟨h, 0, none⟩) hh x).setCell (p := ⟨h, 1, none⟩) hh y
end Go.Proofs.YtalclebehbdliaaGreat
namespace Go.Proofs.YtalclebehbdliaaGreat
open Go Go.RowKit

/-- A list of strings in new memory. -/
def ListPost (ps : List ByteArray) (w : World) (e : Ending) (w' : World) : Prop :=
  ∃ v, e = .returned v ∧ w'.ownsRow w.heap.size 9 1 v ps.length (ps.map Value.string) ∧ Below w.heap.size w w'
theorem letter_at (x : Nat) (h : x < 3) : (⟨#[97, 98, 99]⟩ : ByteArray).extract x (x + 1) = letterB x := by
  match x, h with
  | 0, _ => rfl
  | 1, _ => rfl
  | 2, _ => rfl
theorem wrap_next (x : Nat) (h : x ≤ 1000000) : IntKind.i64.wrap ((x : Int) + 1) = (x : Int) + 1 := by
  simp [IntKind.wrap, IntKind.bits, IntKind.signed]
  omega
/-- The words with a letter behind each: j of them done, and the next with x letters. -/
def upTo (ws : List ByteArray) (k j x : Nat) : List ByteArray := longer (ws.take j) k ++ (List.range x).map fun y => ws.getD j ByteArray.empty ++ letterB y
theorem upTo_zero (ws : List ByteArray) (k j : Nat) : upTo ws k j 0 = longer (ws.take j) k := by simp [upTo]
theorem upTo_next (ws : List ByteArray) (k j x : Nat) : upTo ws k j (x + 1) = upTo ws k j x ++ [ws.getD j ByteArray.empty ++ letterB x] := by
  unfold upTo
  rw [range_next, List.append_assoc]
theorem upTo_full (ws : List ByteArray) (k j : Nat) (h : j < ws.length) : upTo ws k j k = longer (ws.take (j + 1)) k := by
  unfold upTo
  rw [longer_next ws k j h, List.getD_eq_getElem?_getD, List.getElem?_eq_getElem h]; rfl
theorem upTo_length (ws : List ByteArray) (k j x : Nat) (h : j ≤ ws.length) : (upTo ws k j x).length = j * k + x := by
  unfold upTo
  rw [List.length_append, longer_length, List.length_take, List.length_map, List.length_range, Nat.min_eq_left h]
theorem getD_size {ws : List ByteArray} {m j : Nat} (h : ∀ x ∈ ws, x.size = m) (hj : j < ws.length) : (ws.getD j ByteArray.empty).size = m := by
  rw [List.getD_eq_getElem?_getD, List.getElem?_eq_getElem hj]
  exact h _ (List.getElem_mem hj)

set_option maxRecDepth 100000 in
set_option maxHeartbeats 1600000 in
theorem spec_all (k n : Nat) (hk1 : 1 ≤ k) (hk : k ≤ 3) (hn : n ≤ 16) (hmax : ∀ i, i ≤ n → k ^ i ≤ 729) (w : World) :
    Calls Tryz.prog 52 #[.int .i64 k, .int .i64 n] w (ListPost (allW k n) w) := by
  obtain ⟨i0, hi, hz0, hz1, hz2⟩ := info_parts infoStr
  have HMAX := Lib.hid hmax
  clear hmax
  go_enter Tryz.func52, Tryz.ntmps52
  go_wp2
  go_loopw [5, 6] (fun v i wr => ∃ m : Nat, m ≤ n ∧ i = .int .i64 m ∧ wr.ownsRow w.heap.size 9 1 v (allW k m).length ((allW k m).map Value.string) ∧ Below w.heap.size w wr) (fun _ i _ => n - (intOf i).toNat)
  case atStart => exact ⟨0, Nat.zero_le _, rfl, World.ownsRow_lit w #[.string ByteArray.empty] 1 (Nat.le_refl _) (by decide) rfl, (Below.refl _ _).alloc (Nat.le_refl _) _⟩
  case round =>
    obtain ⟨m, hm, rfl, ho, hbl⟩ := hrel
    have HB := Lib.hid hbl
    clear hbl
    by_cases hlt : m < n
    · have hlen := allW_length k m
      have hle := HMAX.out m hm
      have hsz := allW_size k m
      have hn1 : allW k (m + 1) = longer (allW k m) k := rfl
      have hpos : 0 < (allW k m).length := by rw [hlen]; exact Nat.pow_pos hk1
      generalize allW k m = ws at *
      rw [← hlen] at hle
      rcases ho.2 with ⟨rfl, h0⟩ | ⟨g, cap, cur, rfl, _, _, _⟩
      · omega
      have hgl := (ho.lt g rfl).2
      have HS := Lib.hid (StrsAt.of_owns ho rfl)
      have HZ := Lib.hid hsz
      have HN := Lib.hid hn1
      clear hsz hn1 hlen ho
      obtain ⟨wo, rfl⟩ : ∃ wo, wo = wr := ⟨_, rfl⟩
      go_wp2
      go_loopw [7, 8] (fun v j wq => ∃ jn : Nat, jn ≤ ws.length ∧ j = .int .i64 jn ∧ wq.ownsRow wo.heap.size 9 1 v (upTo ws k jn 0).length ((upTo ws k jn 0).map Value.string) ∧ Below wo.heap.size wo wq) (fun _ j _ => ws.length - (intOf j).toNat)
      case atStart => exact ⟨0, Nat.zero_le _, rfl, World.ownsRow_made _ _ 0 (Nat.le_refl _) (by decide) rfl, (Below.refl _ _).alloc (Nat.le_refl _) _⟩
      case round =>
        obtain ⟨j, hj, rfl, ho, hbl⟩ := hrel
        have HO := Lib.hid ho
        have HB1 := Lib.hid hbl
        clear ho hbl
        by_cases hjl : j < ws.length
        · go_wp2
          go_loopw [7, 9] (fun v x wq => ∃ xn : Nat, xn ≤ k ∧ x = .int .i64 xn ∧ wq.ownsRow wo.heap.size 9 1 v (upTo ws k j xn).length ((upTo ws k j xn).map Value.string) ∧ Below wo.heap.size wo wq) (fun _ x _ => k - (intOf x).toNat)
          case atStart => exact ⟨0, Nat.zero_le _, rfl, HO.out, HB1.out⟩
          case round =>
            obtain ⟨x, hx, rfl, ho2, hbl2⟩ := hrel
            have HO2 := Lib.hid ho2
            have HB2 := Lib.hid hbl2
            clear ho2 hbl2
            by_cases hxk : x < k
            · have hcell := HS.out.below HB2.out hgl j hjl
              rw [Nat.zero_add] at hcell
              have hws := getD_size HZ.out hjl
              have HU := Lib.hid (upTo_next ws k j x)
              generalize ws.getD j ByteArray.empty = y at *
              have x6 := letter_at x (by omega)
              have x7 := letterB_size x
              have x8 : y.size + (letterB x).size ≤ 9223372036854775807 := by rw [x7, hws]; omega
              clear x7
              have x9 : ∀ w, (Op.stringOp .add y (letterB x)).run Tryz.prog w = .ok (.string (y ++ letterB x)) w := fun w => run_string_add_sum w _ _ x8
              have HL := Lib.hid (upTo_length ws k j x (by omega))
              have hne : u7.ownBlock ≠ some g := fun h => by have := (HO2.out.lt g h).1; omega
              have hys : (upTo ws k j x).length + 1 ≤ 10000 := by
                have h1 := HL.out
                have h2 : j * k ≤ 729 * 3 := Nat.mul_le_mul (by omega) hk
                omega
              have hb1 : wo.heap.size ≤ wr.heap.size := HB2.out.size
              have j0 : (0 : Int) ≤ (j : Int) := by omega
              have j1 : (j : Int) < (ws.length : Int) := by omega
              have x0 : (0 : Int) ≤ (x : Int) := by omega
              have x1 : (x : Int) + 1 ≤ 3 := by omega
              have x2 : (x : Int) ≤ (x : Int) + 1 := by omega
              have x3 : IntKind.i64.wrap ((x : Int) + 1) = (x : Int) + 1 := wrap_next x (by omega)
              have x4 : (⟨#[97, 98, 99]⟩ : ByteArray).size = 3 := rfl
              have x5 : (x : Int) + 1 ≤ ((⟨#[97, 98, 99]⟩ : ByteArray).size : Int) := x1
              go_wp2
              go_region_held3 (fun w' => w'.cell? ⟨g, j, none⟩ = some (.string y)) (first | go_keep | (rw [hgrow.cell_far _ (by simp; omega) (Ne.symm hne)]; assumption))
                ((refine step_append_lies _ (by rfl) _ _ _ (by rfl) wo.heap.size 9 i0 _ 1 16 Tryz.underlying24 hi hz0 hz1 hz2 rfl (by omega) u7 (upTo ws k j x).length ((upTo ws k j x).map Value.string) (by rfl) ((HO2.out.alloc _).drew) ⟨wr.heap.size, 0, none⟩ 1 1 [.string (y ++ letterB x)] (by rfl) (by rfl) (World.news_of_block (cs := #[.string (y ++ letterB x)]) (t := 9) (fr := (0, 0)) (heap_alloc_new wr _)) (by simp [Value.oneCell']) (by omega) (by unfold maxLen; omega) (by omega) (by simp; omega) (wr.heap.size + 1) (by simp) ?_; intro gg cap1 w1 hown1 hgrow hat hlt1))
              have hb2 : Below wo.heap.size wo w1 := (HB2.out.alloc HB2.out.size _).drew.grown hgrow (by simp; omega) (fun k hk => (HO2.out.lt k hk).1)
              have HO3 := Lib.hid hown1
              have HB3 := Lib.hid hb2
              clear hown1 hb2 hgrow hat hlt1
              go_wp2
              go_roundw
              case rel => exact ⟨x + 1, by omega, by go_num, by rw [HU.out, List.length_append, List.map_append]; exact HO3.out, HB3.out⟩
              case measure => simp [intOf]; omega
            · obtain rfl : x = k := by omega
              go_wp2
              go_roundw
              case rel => exact ⟨j + 1, by omega, by go_num, by rw [upTo_zero, ← upTo_full ws x j hjl]; exact HO2.out, HB2.out⟩
              case measure => simp [intOf]; omega
        · obtain rfl : j = ws.length := by omega
          go_wp2
          go_roundw
          case rel => exact ⟨m + 1, by omega, by go_num, by rw [HN.out]; have h := HO.out; rw [upTo_zero, List.take_length] at h; exact h.mono HB.out.size, HB.out.trans (HB1.out.mono HB.out.size)⟩
          case measure => simp [intOf]; omega
    · obtain rfl : m = n := by omega
      have HO := Lib.hid ho
      clear ho
      go_wp2
      go_ret
      exact ⟨_, rfl, HO.out, HB.out⟩
end Go.Proofs.YtalclebehbdliaaGreat
namespace Go.Proofs.YtalclebehbdliaaGreat
open Go Go.RowKit

/-- The mark of k. -/
def mark (k : Nat) : ByteArray := ⟨(109 :: dd k).toArray⟩
/-- The marks from k on. -/
def marks (k : Nat) : Nat → List ByteArray
  | 0 => []
  | n + 1 => mark k :: marks (k + 1) n
theorem marks_length : ∀ (n k : Nat), (marks k n).length = n
  | 0, _ => rfl
  | n + 1, k => by rw [marks, List.length_cons, marks_length n]
theorem marks_get : ∀ (n k j : Nat), j < n → (marks k n).getD j ByteArray.empty = mark (k + j)
  | 0, _, j, h => by omega
  | n + 1, k, 0, _ => by simp [marks]
  | n + 1, k, j + 1, h => by
    rw [marks, List.getD_cons_succ, marks_get n (k + 1) j (by omega)]
    congr 1; omega

theorem mk_conv (b : UInt8) (y : Int) (hy : y = (b.toNat : Int)) (w : World) : (convert 22 9 (.slice (some ⟨w.heap.size, 0, none⟩) 1 1)).run Tryz.prog (w.alloc (.cells #[.int .u8 y] 5)) = .ok (.string ⟨#[b]⟩) (w.alloc (.cells #[.int .u8 y] 5)) := by
  subst hy
  have h := run_convert_bytes_arg (P := Tryz.prog) (w.alloc (.cells #[.int .u8 (b.toNat : Int)] 5)) 22 5 Tryz.underlying22 Tryz.underlying5 w.heap.size 0 1 1 [(b.toNat : Int)] rfl (fun i hi => by
    obtain rfl : i = 0 := by omega
    simp [go_sem]) 9 Tryz.underlying9
  rw [h]
  simp [strOfNums]
theorem mk_rest {u c : Nat} {s : ByteArray} {b : UInt8} (h : dd c ++ s.data.toList = dd u) (h0 : 0 < c) (hb : b = UInt8.ofNat (48 + c % 10)) : dd (c / 10) ++ ((⟨#[b]⟩ : ByteArray) ++ s).data.toList = dd u := by
  rw [← h, dd_step (show c ≠ 0 by omega), hb]; simp [ByteArray.data_append]
theorem mk_len {u c : Nat} {s : ByteArray} (h : dd c ++ s.data.toList = dd u) (hu : u ≤ 9223372036854775808) : s.size ≤ 1000 := by
  have h1 := dd_length 20 u (by omega)
  rw [← h, List.length_append] at h1
  have h2 : s.size = s.data.toList.length := rfl
  omega
theorem mk_byte (c : Nat) : ∃ b : UInt8, b = UInt8.ofNat (48 + c % 10) ∧ (48 : Int) + (c : Int) % 10 = (b.toNat : Int) :=
  ⟨_, rfl, by
    have e : (UInt8.ofNat (48 + c % 10)).toNat = 48 + c % 10 := by rw [UInt8.toNat_ofNat']; exact Nat.mod_eq_of_lt (by omega)
    rw [e]; omega⟩
theorem mk_bytes {a : ByteArray} {l : List UInt8} (h : a.data.toList = l) : a = ⟨l.toArray⟩ := by subst h; rfl
theorem mk_ret {a b : ByteArray} (h : a = b) : Ending.returned (.string a) = .returned (.string b) := by rw [h]

def MarkPost (u : Nat) (w : World) (e : Ending) (w' : World) : Prop := e = .returned (.string (mark u)) ∧ Below w.heap.size w w'

/-- A row that is being marked from the front. -/
def marked (xs : List ByteArray) (q k : Nat) : List Value := ((marks q k) ++ xs.drop k).map Value.string
theorem marks_next : ∀ (n k : Nat), marks k (n + 1) = marks k n ++ [mark (k + n)]
  | 0, k => rfl
  | n + 1, k => by
    rw [marks, marks_next n (k + 1), marks, List.cons_append]
    congr 4; omega
theorem marked_set (xs : List ByteArray) (q k : Nat) (h : k < xs.length) : (marked xs q k).set k (.string (mark (q + k))) = marked xs q (k + 1) := by
  have hl : ((marks q k).map Value.string).length = k := by rw [List.length_map, marks_length]
  have hd : xs.drop k = xs[k] :: xs.drop (k + 1) := List.drop_eq_getElem_cons h
  unfold marked
  rw [marks_next, List.map_append, List.map_append, List.map_append, hd, List.map_cons]
  rw [List.set_append_right _ _ (by omega), hl, Nat.sub_self]
  simp
theorem marked_at (xs : List ByteArray) (q k : Nat) (h : k < xs.length) : ∃ y, (marked xs q k)[k]? = some (.string y) := by
  have hl : (marks q k).length = k := marks_length k q
  refine ⟨xs[k], ?_⟩
  unfold marked
  rw [List.getElem?_map, List.getElem?_append_right (by omega), hl, Nat.sub_self, List.getElem?_drop, Nat.add_zero, List.getElem?_eq_getElem h]
  rfl
theorem marked_none (xs : List ByteArray) (q : Nat) : marked xs q 0 = xs.map Value.string := by simp [marked, marks]
theorem marked_all (xs : List ByteArray) (q : Nat) : marked xs q xs.length = (marks q xs.length).map Value.string := by simp [marked]
end Go.Proofs.YtalclebehbdliaaGreat
namespace Go.Proofs.YtalclebehbdliaaGreat
open Go Go.RowKit

/-- The row holds the marks from q on; of what was there no other block has turned. -/
def MarksPost (B q g cap n : Nat) (w : World) (e : Ending) (w' : World) : Prop :=
  e = .returned (.int .i64 ((q + n : Nat) : Int)) ∧ w'.ownsRow B 9 1 (.slice (some ⟨g, 0, none⟩) n cap) n ((marks q n).map Value.string) ∧ w.grownBy w' (some g)

def HeldPost (q n : Nat) (w : World) (e : Ending) (w' : World) : Prop := e = .returned (.int .i64 ((q + n : Nat) : Int)) ∧ Below w.heap.size w w'

end Go.Proofs.YtalclebehbdliaaGreat
namespace Go.Proofs.YtalclebehbdliaaGreat
open Go Go.RowKit

theorem owns_below {w w' : World} {B e n : Nat} {v : Value} {xs : List Value} (h : w.ownsRow B e 1 v n xs) (hb : Below w.heap.size w w') : w'.ownsRow B e 1 v n xs := by
  refine h.kept (row := none) ⟨hb.os, hb.tape, hb.output, hb.size, fun j hj _ => hb.block j hj⟩ ?_
  cases hv : v.ownBlock with
  | none => exact Or.inl rfl
  | some k => exact Or.inr (by intro h; cases h)
theorem StrsAt.grown {w w' : World} {g b : Nat} {xs : List ByteArray} (h : StrsAt w b 0 xs) (hg : w.grownBy w' (some g)) (hne : b ≠ g) : StrsAt w' b 0 xs := by
  intro k hk
  exact hg.cell (h k hk) (by intro h; exact hne (Option.some.inj h))
theorem ListPost.full {ps : List ByteArray} {w w' : World} {e : Ending} (h : ListPost ps w e w') (hp : 0 < ps.length) :
    ∃ g cap, e = .returned (.slice (some ⟨g, 0, none⟩) ps.length cap) ∧ w'.ownsRow w.heap.size 9 1 (.slice (some ⟨g, 0, none⟩) ps.length cap) ps.length (ps.map Value.string) ∧ Below w.heap.size w w' := by
  obtain ⟨v, rfl, ho, hb⟩ := h
  rcases ho.2 with ⟨rfl, h0⟩ | ⟨g, cap, cur, rfl, _, _, _⟩
  · omega
  · exact ⟨g, cap, rfl, ho, hb⟩
theorem ListPost.bare {ps : List ByteArray} {w w' : World} {e : Ending} (h : ListPost ps w e w') (hp : ¬ 0 < ps.length) :
    ∃ a cap, e = .returned (.slice a 0 cap) ∧ Below w.heap.size w w' := by
  obtain ⟨v, rfl, ho, hb⟩ := h
  have h0 : ps.length = 0 := by omega
  rcases ho.2 with ⟨rfl, _⟩ | ⟨g, cap, cur, rfl, _, _, _⟩
  · exact ⟨none, 0, rfl, hb⟩
  · exact ⟨some ⟨g, 0, none⟩, cap, by rw [h0], hb⟩

theorem same_none (a1 a2 : Option Addr) (c1 c2 : Nat) (w : World) :
    Calls Tryz.prog 74 #[.slice a1 0 c1, .slice a2 0 c2] w fun e w' => e = .returned (.bool true) ∧ w' = w := by
  go_enter Tryz.func74, Tryz.ntmps74
  go_wp2
  go_loop [5] (fun i => i = .int .i64 0) (fun _ => 0)
  case atStart => rfl
  case round =>
    obtain rfl := hrel
    go_wp2
    go_ret
    exact ⟨rfl, rfl⟩
end Go.Proofs.YtalclebehbdliaaGreat
namespace Go.Proofs.YtalclebehbdliaaGreat
open Go Go.RowKit

section
variable {P : Program} {w : World}
theorem run_append_zero (t ty e : TypeId) (i : TypeInfo) (ht : P.underlying t = some (.slice e)) (hi : P.info? e = some i) (g n cap : Nat) (hn : n ≤ cap) (ad : Addr) (c : Nat) :
    (Builtin.append_ #[t, t] ty #[.slice (some ⟨g, 0, none⟩) n cap, .slice (some ad) 0 c]).run P w = .ok (.slice (some ⟨g, 0, none⟩) n cap) w := by
  simp [Builtin.append_, run_underlying ht, sizeOf, typeInfo, hi, Builtin.lenOf, Builtin.firstCells, hn, loadCells, loadCellsFrom, storeCells]
theorem wp_append_zero {o : Oper} {a : Act} {K : Act → World → Prop} {Q : Exit → Act → World → Prop} (s x : Operand) (t : TypeId)
    (ho : o.op = .call { callee := .builtin .append, args := #[s, x], argTypes := #[t, t] })
    (e : TypeId) (i : TypeInfo) (ht : P.underlying t = some (.slice e)) (hi : P.info? e = some i)
    (g n cap : Nat) (hn : n ≤ cap) (ad : Addr) (c : Nat) (hs : a.eval s = .slice (some ⟨g, 0, none⟩) n cap) (hx : a.eval x = .slice (some ad) 0 c)
    (h : K (a.put o.dst (.slice (some ⟨g, 0, none⟩) n cap)) w) : Oper.wp P o a w K Q := by
  have hrun := run_append_zero (P := P) (w := w) t o.type e i ht hi g n cap hn ad c
  unfold Oper.wp
  simp [execOp, ho, resolve, invoke, builtin, hs, hx, hrun, Result.andThen]
  exact h
theorem step_append_zero {ops : Array Oper} {o : Oper} {a : Act} {K : Act → World → Prop} {Q : Exit → Act → World → Prop} {E : Prop} (hgd : o.guard = none) (s x : Operand) (t : TypeId)
    (ho : o.op = .call { callee := .builtin .append, args := #[s, x], argTypes := #[t, t] })
    (e : TypeId) (i : TypeInfo) (ht : P.underlying t = some (.slice e)) (hi : P.info? e = some i)
    (g n cap : Nat) (hn : n ≤ cap) (ad : Addr) (c : Nat) (hs : a.eval s = .slice (some ⟨g, 0, none⟩) n cap) (hx : a.eval x = .slice (some ad) 0 c)
    (h : K (a.put o.dst (.slice (some ⟨g, 0, none⟩) n cap)) w) : if Region.wanted o (yielded ops a.tmps) = true then Oper.wp P o a w K Q else E := by
  have hw : Region.wanted o (yielded ops a.tmps) = true := by simp [Region.wanted, hgd]
  rw [if_pos hw]
  exact wp_append_zero s x t ho e i ht hi g n cap hn ad c hs hx h
theorem wpList_append_zero {ops : Array Oper} {rest : List Oper} {o : Oper} {a : Act} {Q : Exit → Act → World → Prop} (hgd : o.guard = none) (s x : Operand) (t : TypeId)
    (ho : o.op = .call { callee := .builtin .append, args := #[s, x], argTypes := #[t, t] })
    (e : TypeId) (i : TypeInfo) (ht : P.underlying t = some (.slice e)) (hi : P.info? e = some i)
    (g n cap : Nat) (hn : n ≤ cap) (ad : Addr) (c : Nat) (hs : a.eval s = .slice (some ⟨g, 0, none⟩) n cap) (hx : a.eval x = .slice (some ad) 0 c)
    (h : wpList P ops Q rest (a.put o.dst (.slice (some ⟨g, 0, none⟩) n cap)) w) : wpList P ops Q (o :: rest) a w :=
  wpList_plain hgd fun _ hK => wp_append_zero s x t ho e i ht hi g n cap hn ad c hs hx (hK _ _ h)
/-- The same, wherever the nothing lies. -/
theorem run_append_zeroG (t ty e : TypeId) (i : TypeInfo) (ht : P.underlying t = some (.slice e)) (hi : P.info? e = some i) (g n cap : Nat) (hn : n ≤ cap) (A : Option Addr) (c : Nat) :
    (Builtin.append_ #[t, t] ty #[.slice (some ⟨g, 0, none⟩) n cap, .slice A 0 c]).run P w = .ok (.slice (some ⟨g, 0, none⟩) n cap) w := by
  cases A with
  | none => simp [Builtin.append_, run_underlying ht, sizeOf, typeInfo, hi, Builtin.lenOf, Builtin.firstCells, hn, storeCells]
  | some ad => exact run_append_zero t ty e i ht hi g n cap hn ad c
theorem step_append_zeroG {ops : Array Oper} {o : Oper} {a : Act} {K : Act → World → Prop} {Q : Exit → Act → World → Prop} {E : Prop} (hgd : o.guard = none) (s x : Operand) (t : TypeId)
    (ho : o.op = .call { callee := .builtin .append, args := #[s, x], argTypes := #[t, t] })
    (e : TypeId) (i : TypeInfo) (ht : P.underlying t = some (.slice e)) (hi : P.info? e = some i)
    (g n cap : Nat) (hn : n ≤ cap) (A : Option Addr) (c : Nat) (hs : a.eval s = .slice (some ⟨g, 0, none⟩) n cap) (hx : a.eval x = .slice A 0 c)
    (h : K (a.put o.dst (.slice (some ⟨g, 0, none⟩) n cap)) w) : if Region.wanted o (yielded ops a.tmps) = true then Oper.wp P o a w K Q else E := by
  have hw : Region.wanted o (yielded ops a.tmps) = true := by simp [Region.wanted, hgd]
  rw [if_pos hw]
  have hrun := run_append_zeroG (P := P) (w := w) t o.type e i ht hi g n cap hn A c
  unfold Oper.wp
  simp [execOp, ho, resolve, invoke, builtin, hs, hx, hrun, Result.andThen]
  exact h
end
end Go.Proofs.YtalclebehbdliaaGreat
namespace Go.Proofs.YtalclebehbdliaaGreat
open Go Go.RowKit

theorem grown_nilS {w w' : World} {cap : Nat} {cur : Array Value} {g : Nat} (hg : g = w.heap.size) (hb : w'.heap[g]? = some (.cells cur 9 (0, 0))) (hc : cap ≤ maxLen) (hs : cur.size = cap) : w'.ownsRow w.heap.size 9 1 (.slice (some ⟨g, 0, none⟩) 0 cap) 0 [] :=
  ⟨rfl, Or.inr ⟨g, cap, cur, rfl, by omega, hb, Nat.zero_le _, hc, by omega, by simp⟩⟩

set_option maxRecDepth 100000 in
set_option maxHeartbeats 1600000 in
theorem grow_strs (n : Nat) (hn : n ≤ 1000000) (w : World) :
    Calls Tryz.prog 92 #[.slice none 0 0, .int .i64 (n : Int)] w (ListPost [] w) := by
  obtain ⟨j0, hj, hy0, hy1, hy2⟩ := info_parts infoStr
  by_cases h0 : n = 0
  · subst h0
    go_enter Tryz.func92, Tryz.ntmps92
    go_wp2
    go_ret
    exact ⟨_, rfl, World.ownsRow_nil _ _ _ _, Below.refl _ _⟩
  · have hcap : n ≤ grownCap w n 0 9 := by have := grownCap_ge w (0 + n) 0 9; rw [Nat.zero_add] at this; exact this
    have hmax : grownCap w n 0 9 ≤ maxLen := grownCap_le_maxLen w n 0 9 (by unfold maxLen; omega)
    have hrz : ∀ ty, (Builtin.append_ #[24, 3] ty #[.slice none 0 0, .int .i64 (n : Int)]).run Tryz.prog w =
        .ok (.slice (some ⟨w.heap.size, 0, none⟩) n (grownCap w n 0 9)) (w.drew.alloc (.cells (#[] ++ Builtin.zeroCells (Value.string ByteArray.empty).cells n ++ Builtin.zeroCells (Value.string ByteArray.empty).cells (grownCap w n 0 9 - n)) 9)) := fun ty => by
      have h := Lib.run_append_grow_zeros (P := Tryz.prog) w 24 3 ty 9 j0 (.string ByteArray.empty) .i64 .i64 Tryz.underlying24 Tryz.underlying3 hj hy0 none 0 0 [] (run_firstCells_none w.drew _ 0 0 0) n (by omega) (by omega) (by omega) (by omega) (by rw [hy2]; omega) (growslice_fits (by omega) (by rw [hy2]; omega))
      rw [Nat.zero_add] at h
      exact h
    have hown : (w.drew.alloc (.cells (#[] ++ Builtin.zeroCells (Value.string ByteArray.empty).cells n ++ Builtin.zeroCells (Value.string ByteArray.empty).cells (grownCap w n 0 9 - n)) 9)).ownsRow w.heap.size 9 1 (.slice (some ⟨w.heap.size, 0, none⟩) 0 (grownCap w n 0 9)) 0 [] :=
      grown_nilS rfl (heap_alloc_new w.drew _) hmax (by have e : (Value.string ByteArray.empty).cells.size = 1 := rfl; simp [Builtin.zeroCells, e]; omega)
    have hbel : Below w.heap.size w (w.drew.alloc (.cells (#[] ++ Builtin.zeroCells (Value.string ByteArray.empty).cells n ++ Builtin.zeroCells (Value.string ByteArray.empty).cells (grownCap w n 0 9 - n)) 9)) := (Below.refl _ _).drew.alloc (Nat.le_refl _) _
    have hc63 : grownCap w n 0 9 ≤ 9223372036854775807 := by unfold maxLen at hmax; omega
    obtain ⟨W1, hW1⟩ : ∃ W1, w.drew.alloc (.cells (#[] ++ Builtin.zeroCells (Value.string ByteArray.empty).cells n ++ Builtin.zeroCells (Value.string ByteArray.empty).cells (grownCap w n 0 9 - n)) 9) = W1 := ⟨_, rfl⟩
    rw [hW1] at hrz hown hbel
    generalize grownCap w n 0 9 = G at *
    have HOW := Lib.hid hown
    have HBE := Lib.hid hbel
    clear hown hbel hW1 hmax
    have h1 : ¬ ((n : Int) < 0) := by omega
    have h4 : (n : Int) > 0 := by omega
    go_enter Tryz.func92, Tryz.ntmps92
    go_wp2_with (at_builtin; refine Lib.wpList_append_run _ rfl _ _ _ _ rfl _ _ rfl rfl _ _ (hrz _) ?_)
    all_goals (go_ret; exact ⟨_, rfl, HOW.out, HBE.out⟩)

/-- An append of a list that lies anywhere, or nowhere if it is empty. -/
theorem wpList_append_src {P : Program} {w : World} {ops : Array Oper} {rest : List Oper} {o : Oper} {a : Act} {Q : Exit → Act → World → Prop} (hgd : o.guard = none) (s x : Operand) (t : TypeId)
    (ho : o.op = .call { callee := .builtin .append, args := #[s, x], argTypes := #[t, t] })
    (base : Nat) (e : TypeId) (i : TypeInfo) (z : Value) (bytes : Nat) (ht : P.underlying t = some (.slice e)) (hi : P.info? e = some i) (hz : i.zero = some z)
    (hsize : i.size = 1) (hby : i.bytes = bytes) (hzs : z.cells.size = 1)
    (v : Value) (n : Nat) (xs : List Value) (hs : a.eval s = v) (hown : w.ownsRow base e 1 v n xs)
    (A : Option Addr) (m c : Nat) (news : List Value) (hx : a.eval x = .slice A m c) (hl : news.length = m) (hnews : 0 < m → ∃ ad, A = some ad ∧ ∀ j u, news[j]? = some u → w.cell? (ad.add j) = some u) (h1 : ∀ u ∈ news, u.oneCell' = true)
    (h63 : n + m ≤ maxLen) (hbytes : (n + m) * bytes ≤ 140737488355328) (hbase : base ≤ w.heap.size)
    (h : ∀ v' w', w'.ownsRow base e 1 v' (n + m) (xs ++ news) → w.grownBy w' v.ownBlock → wpList P ops Q rest (a.put o.dst v') w') : wpList P ops Q (o :: rest) a w := by
  by_cases hm : m = 0
  · subst hm
    obtain rfl : news = [] := List.eq_nil_of_length_eq_zero hl
    refine wpList_plain hgd fun K hK => ?_
    have hrun : (Builtin.append_ #[t, t] o.type #[v, .slice A 0 c]).run P w = .ok v w := by
      rcases hown.2 with ⟨rfl, h0⟩ | ⟨g, cap, cur, rfl, _, _, hnc, _⟩
      · cases A with
        | none => simp [Builtin.append_, run_underlying ht, sizeOf, typeInfo, hi, Builtin.lenOf, Builtin.firstCells]
        | some ad => simp [Builtin.append_, run_underlying ht, sizeOf, typeInfo, hi, Builtin.lenOf, Builtin.firstCells, loadCells, loadCellsFrom]
      · exact run_append_zeroG t o.type e i ht hi g n cap hnc A c
    unfold Oper.wp
    simp [execOp, ho, resolve, invoke, builtin, hs, hx, hrun, Result.andThen]
    exact hK _ _ (h v w (by simpa using hown) (World.grownBy.refl _ _))
  · obtain ⟨ad, rfl, hn⟩ := hnews (by omega)
    exact wpList_append_own w hgd s x t ho base e i z 1 bytes ht hi hz hsize hby hzs (by decide) v n xs hs hown ad m c news hx (by omega) hn h1 h63 hbytes hbase fun v' w' h2 h3 _ => h v' w' h2 h3
theorem strsG_news {w : World} {G : Option Addr} {xs : List ByteArray} (h : StrsG w G xs) : 0 < xs.length → ∃ ad, G = some ad ∧ ∀ j u, (xs.map Value.string)[j]? = some u → w.cell? (ad.add j) = some u := fun hp => by
  obtain ⟨b, off, rfl, hs, _⟩ := h hp
  refine ⟨_, rfl, fun j u hu => ?_⟩
  have hj : j < xs.length := by
    by_cases hj : j < xs.length
    · exact hj
    · rw [List.getElem?_eq_none (by simpa using Nat.le_of_not_lt hj)] at hu; cases hu
  have e : (⟨b, off, none⟩ : Addr).add j = ⟨b, off + j, none⟩ := by unfold Addr.add; split <;> simp_all
  rw [e, hs j hj]
  rw [List.getElem?_map, List.getElem?_eq_getElem hj] at hu
  rw [List.getD_eq_getElem?_getD, List.getElem?_eq_getElem hj]
  exact hu
theorem str_one {xs : List ByteArray} : ∀ u ∈ xs.map Value.string, u.oneCell' = true := fun u hu => by
  obtain ⟨x, _, rfl⟩ := List.mem_map.1 hu
  rfl
theorem own_joinedS {w : World} {B : Nat} {v : Value} {xs ys : List ByteArray} {n : Nat} (h : w.ownsRow B 9 1 v n (xs.map Value.string ++ ys.map Value.string)) : w.ownsRow B 9 1 v (xs ++ ys).length ((xs ++ ys).map Value.string) := by
  have hl := h.1
  rw [List.length_append, List.length_map, List.length_map] at hl
  rw [List.length_append, List.map_append, show xs.length + ys.length = n by omega]
  exact h

set_option maxRecDepth 100000 in
set_option maxHeartbeats 1600000 in
theorem concat_strs (g c : Nat) (G1 G2 : Option Addr) (c1 c2 : Nat) (xs ys : List ByteArray) (hx : xs.length ≤ 1000) (hy : ys.length ≤ 1000) (w : World)
    (h1 : w.cell? ⟨g, 0, none⟩ = some (.slice G1 xs.length c1)) (h2 : w.cell? ⟨g, 1, none⟩ = some (.slice G2 ys.length c2)) (hg : g < w.heap.size) (k1 : StrsG w G1 xs) (k2 : StrsG w G2 ys) :
    Calls Tryz.prog 57 #[.slice (some ⟨g, 0, none⟩) 2 c] w (ListPost (xs ++ ys) w) := by
  obtain ⟨j0, hj, hy0, hy1, hy2⟩ := info_parts infoStr
  have HGR := Lib.hid (grow_strs (xs.length + ys.length) (by omega) w)
  have HC : Hid (∀ w', Below w.heap.size w w' → w'.cell? ⟨g, 0, none⟩ = some (.slice G1 xs.length c1) ∧ w'.cell? ⟨g, 1, none⟩ = some (.slice G2 ys.length c2)) := Lib.hid fun w' hb => ⟨(hb.cell (p := ⟨g, 0, none⟩) hg).trans h1, (hb.cell (p := ⟨g, 1, none⟩) hg).trans h2⟩
  have HX : Hid (∀ w', Below w.heap.size w w' → 0 < xs.length → ∃ ad, G1 = some ad ∧ ∀ j u, (xs.map Value.string)[j]? = some u → w'.cell? (ad.add j) = some u) := Lib.hid fun w' hb => strsG_news (k1.below hb)
  have HY : Hid (∀ w', Below w.heap.size w w' → 0 < ys.length → ∃ ad, G2 = some ad ∧ ∀ j u, (ys.map Value.string)[j]? = some u → w'.cell? (ad.add j) = some u) := Lib.hid fun w' hb => strsG_news (k2.below hb)
  clear k1 k2 hg
  obtain ⟨lx, hlx⟩ : ∃ n, xs.length = n := ⟨_, rfl⟩
  obtain ⟨ly, hly⟩ : ∃ n, ys.length = n := ⟨_, rfl⟩
  have HLX := Lib.hid hlx
  have HLY := Lib.hid hly
  rw [hlx] at h1 HC hx HX
  rw [hly] at h2 HC hy HY
  rw [hlx, hly] at HGR
  clear hlx hly
  go_enter Tryz.func57, Tryz.ntmps57
  go_wp2
  go_loopw [3, 11] (fun s i wr => ∃ k : Nat, k ≤ 2 ∧ i = .int .i64 k ∧ s = .int .i64 (if k = 0 then 0 else if k = 1 then (lx : Int) else ((lx + ly : Nat) : Int)) ∧ wr = w) (fun _ i _ => 2 - (intOf i).toNat)
  case atStart => exact ⟨0, by omega, rfl, rfl, rfl⟩
  case round =>
    obtain ⟨k, hk, rfl, rfl, rfl⟩ := hrel
    have h3 : k = 0 ∨ k = 1 ∨ k = 2 := by omega
    rcases h3 with rfl | rfl | rfl
    · rw [if_pos rfl]
      go_wp2
      go_roundw
      case rel => exact ⟨1, by omega, rfl, by simp, trivial⟩
      case measure => simp [intOf]
    · rw [if_neg (by decide), if_pos rfl]
      go_wp2
      go_roundw
      case rel => exact ⟨2, by omega, rfl, by simp, trivial⟩
      case measure => simp [intOf]
    · rw [if_neg (by decide), if_neg (by decide)]
      obtain ⟨W0, rfl⟩ : ∃ W0 : World, W0 = wr := ⟨_, rfl⟩
      clear h1 h2
      go_wp2_with fail
      refine HGR.out.mono ?_
      rintro e w1 ⟨v1, rfl, ho1, hb1⟩
      have HO1 : Hid (w1.ownsRow W0.heap.size 9 1 v1 0 []) := Lib.hid ho1
      have HB1 := Lib.hid hb1
      clear ho1 hb1 HGR
      go_wp2
      go_loopw [6, 27] (fun v i w2 => ∃ k : Nat, k ≤ 2 ∧ i = .int .i64 k ∧ Hid (w2.ownsRow W0.heap.size 9 1 v (if k = 0 then [] else if k = 1 then xs else xs ++ ys).length ((if k = 0 then [] else if k = 1 then xs else xs ++ ys).map Value.string)) ∧ Hid (Below W0.heap.size W0 w2)) (fun _ i _ => 2 - (intOf i).toNat)
      case atStart => exact ⟨0, by omega, rfl, HO1, HB1⟩
      case round =>
        obtain ⟨k, hk, rfl, ho, hb⟩ := hrel
        have h3 : k = 0 ∨ k = 1 ∨ k = 2 := by omega
        obtain ⟨hc1, hc2⟩ := HC.out _ hb.out
        have hs := hb.out.size
        rcases h3 with rfl | rfl | rfl
        · rw [if_pos rfl] at ho
          go_wp2_with (at_builtin; refine wpList_append_src rfl (.tmp 31) (.tmp 32) 24 rfl W0.heap.size 9 j0 (.string ByteArray.empty) 16 Tryz.underlying24 hj hy0 hy1 hy2 rfl _ _ _ rfl ho.out G1 lx c1 (xs.map Value.string) rfl (by rw [List.length_map, HLX.out]) (HX.out _ hb.out) str_one (by unfold maxLen; simp; omega) (by simp; omega) hs ?_; intro v3 w3 ho3 hg3; have HO3 := Lib.hid (own_joinedS (xs := []) ho3); have HB3 := Lib.hid (hb.out.grown hg3 hs (fun q hq => (World.ownsRow.lt ho.out q hq).1)); clear ho3 hg3)
          go_roundw
          case rel => exact ⟨1, by omega, rfl, by rw [if_neg (by decide), if_pos rfl]; exact HO3, HB3⟩
          case measure => simp [intOf]
        · rw [if_neg (by decide), if_pos rfl] at ho
          go_wp2_with (at_builtin; refine wpList_append_src rfl (.tmp 31) (.tmp 32) 24 rfl W0.heap.size 9 j0 (.string ByteArray.empty) 16 Tryz.underlying24 hj hy0 hy1 hy2 rfl _ _ _ rfl ho.out G2 ly c2 (ys.map Value.string) rfl (by rw [List.length_map, HLY.out]) (HY.out _ hb.out) str_one (by rw [HLX.out]; unfold maxLen; omega) (by rw [HLX.out]; omega) hs ?_; intro v3 w3 ho3 hg3; have HO3 := Lib.hid (own_joinedS ho3); have HB3 := Lib.hid (hb.out.grown hg3 hs (fun q hq => (World.ownsRow.lt ho.out q hq).1)); clear ho3 hg3)
          go_roundw
          case rel => exact ⟨2, by omega, rfl, by rw [if_neg (by decide), if_neg (by decide)]; exact HO3, HB3⟩
          case measure => simp [intOf]
        · rw [if_neg (by decide), if_neg (by decide)] at ho
          go_wp2
          go_ret
          exact ⟨_, rfl, ho.out, hb.out⟩
end Go.Proofs.YtalclebehbdliaaGreat
namespace Go.Proofs.YtalclebehbdliaaGreat
open Go Go.RowKit

def putW (x : ByteArray) : List ByteArray → List ByteArray
  | [] => [x]
  | y :: l => if y.data.toList < x.data.toList then y :: putW x l else if y = x then y :: l else x :: y :: l
/-- The first k are less than x. -/
def LessTo (x : ByteArray) (ps : List ByteArray) (k : Nat) : Prop := ∀ j, j < k → (ps.getD j ByteArray.empty).data.toList < x.data.toList
theorem LessTo.next {x : ByteArray} {ps : List ByteArray} {k : Nat} (h : LessTo x ps k) (hl : (ps.getD k ByteArray.empty).data.toList < x.data.toList) : LessTo x ps (k + 1) := by
  intro j hj
  by_cases e : j = k
  · subst e; exact hl
  · exact h j (by omega)
theorem putW_end (x : ByteArray) : ∀ ps : List ByteArray, LessTo x ps ps.length → putW x ps = ps ++ [x]
  | [], _ => rfl
  | y :: l, h => by
    have h0 := h 0 (by simp)
    simp only [List.getD_cons_zero] at h0
    rw [putW, if_pos h0, putW_end x l (fun j hj => by have := h (j + 1) (by simpa using hj); simpa using this)]
    rfl
theorem putW_same (x : ByteArray) : ∀ (ps : List ByteArray) (k : Nat), k < ps.length → LessTo x ps k → ps.getD k ByteArray.empty = x → putW x ps = ps
  | [], k, h, _, _ => by simp at h
  | y :: l, 0, _, _, he => by
    simp only [List.getD_cons_zero] at he
    subst he
    rw [putW, if_neg (List.lt_irrefl _), if_pos rfl]
  | y :: l, k + 1, hk, h, he => by
    have h0 := h 0 (by omega)
    simp only [List.getD_cons_zero] at h0
    rw [putW, if_pos h0, putW_same x l k (by simpa using hk) (fun j hj => by have := h (j + 1) (by omega); simpa using this) (by simpa using he)]
theorem putW_mid (x : ByteArray) : ∀ (ps : List ByteArray) (k : Nat), k < ps.length → LessTo x ps k → ¬ (ps.getD k ByteArray.empty).data.toList < x.data.toList → ps.getD k ByteArray.empty ≠ x → putW x ps = (ps.take k ++ [x]) ++ ps.drop k
  | [], k, h, _, _, _ => by simp at h
  | y :: l, 0, _, _, hn, he => by
    simp only [List.getD_cons_zero] at he hn
    rw [putW, if_neg hn, if_neg he]
    rfl
  | y :: l, k + 1, hk, h, hn, he => by
    have h0 := h 0 (by omega)
    simp only [List.getD_cons_zero] at h0
    rw [putW, if_pos h0, putW_mid x l k (by simpa using hk) (fun j hj => by have := h (j + 1) (by omega); simpa using this) (by simpa using hn) (by simpa using he)]
    rfl
theorem putW_length (x : ByteArray) : ∀ ps : List ByteArray, 0 < (putW x ps).length ∧ (putW x ps).length ≤ ps.length + 1
  | [] => by simp [putW]
  | y :: l => by
    have ih := putW_length x l
    unfold putW
    split
    · simp; omega
    · split <;> simp
theorem putW_mem (x z : ByteArray) : ∀ ps : List ByteArray, z ∈ putW x ps → z = x ∨ z ∈ ps
  | [], h => by simpa [putW] using h
  | y :: l, h => by
    unfold putW at h
    split at h
    · rcases List.mem_cons.1 h with h | h
      · exact Or.inr (by simp [h])
      · rcases putW_mem x z l h with h | h
        · exact Or.inl h
        · exact Or.inr (by simp [h])
    · split at h
      · exact Or.inr h
      · exact List.mem_cons.1 h
/-- Ascending, each once. -/
def Asc (ps : List ByteArray) : Prop := ps.Pairwise fun a b => a.data.toList < b.data.toList
theorem Asc.put {x : ByteArray} : ∀ {ps : List ByteArray}, Asc ps → Asc (putW x ps)
  | [], _ => by simp [putW, Asc]
  | y :: l, h => by
    have h1 := List.pairwise_cons.1 h
    unfold putW
    split
    · next hl =>
      refine List.pairwise_cons.2 ⟨fun z hz => ?_, Asc.put h1.2⟩
      rcases putW_mem x z l hz with e | hm
      · subst e; exact hl
      · exact h1.1 z hm
    · next hn =>
      split
      · exact h
      · next he =>
        have hlt : x.data.toList < y.data.toList := by
          rcases List.le_iff_lt_or_eq.1 (List.not_lt.1 hn) with h3 | h3
          · exact h3
          · exact absurd (ba_ext h3).symm he
        refine List.pairwise_cons.2 ⟨fun z hz => ?_, h⟩
        rcases List.mem_cons.1 hz with e | hm
        · subst e; exact hlt
        · exact List.lt_trans hlt (h1.1 z hm)
def notB (x : List UInt8) (z : List UInt8) : Bool := !(z == x)
def datas (ps : List ByteArray) : List (List UInt8) := ps.map fun p => p.data.toList
theorem filter_all_of {l : List (List UInt8)} {x : List UInt8} (h : ∀ z ∈ l, z ≠ x) : l.filter (notB x) = l := by
  rw [List.filter_eq_self]
  intro z hz
  simp [notB, h z hz]
theorem putW_perm (x : ByteArray) : ∀ {ps : List ByteArray}, Asc ps → (datas (putW x ps)).Perm (x.data.toList :: (datas ps).filter (notB x.data.toList))
  | [], _ => by simp [putW, datas]
  | y :: l, h => by
    have h1 := List.pairwise_cons.1 h
    have ih := putW_perm x h1.2
    unfold putW
    split
    · next hl =>
      have hne : notB x.data.toList y.data.toList = true := by
        have : y.data.toList ≠ x.data.toList := fun e => List.lt_irrefl _ (e ▸ hl)
        unfold notB
        rw [beq_eq_false_iff_ne.2 this]; rfl
      simp only [datas, List.map_cons, List.filter_cons, hne, if_true] at ih ⊢
      exact (ih.cons _).trans (List.Perm.swap _ _ _)
    · next hn =>
      split
      · next he =>
        subst he
        have hf : (datas l).filter (notB y.data.toList) = datas l := filter_all_of (fun z hz => by
          obtain ⟨p, hp, rfl⟩ := List.mem_map.1 hz
          intro e
          exact List.lt_irrefl _ (e ▸ h1.1 p hp))
        have hy : notB y.data.toList y.data.toList = false := by simp [notB]
        have hd : datas (y :: l) = y.data.toList :: datas l := rfl
        rw [hd, List.filter_cons, hy, if_neg (by decide), hf]
      · next he =>
        have hlt : x.data.toList < y.data.toList := by
          rcases List.le_iff_lt_or_eq.1 (List.not_lt.1 hn) with h3 | h3
          · exact h3
          · exact absurd (ba_ext h3).symm he
        have hf : (datas (y :: l)).filter (notB x.data.toList) = datas (y :: l) := filter_all_of (fun z hz => by
          obtain ⟨p, hp, rfl⟩ := List.mem_map.1 hz
          intro e
          rcases List.mem_cons.1 hp with e2 | hm
          · subst e2; exact List.lt_irrefl _ (e ▸ hlt)
          · exact List.lt_irrefl _ (e ▸ List.lt_trans hlt (h1.1 p hm)))
        rw [hf]
        exact List.Perm.refl _

/-! ### The parts of a word -/
def facsTo (w : ByteArray) (n : Nat) : Nat → List ByteArray
  | 0 => []
  | i + 1 => putW (w.extract i (i + n)) (facsTo w n i)
theorem facsTo_asc (w : ByteArray) (n : Nat) : ∀ i, Asc (facsTo w n i)
  | 0 => List.Pairwise.nil
  | i + 1 => (facsTo_asc w n i).put
theorem facsTo_length (w : ByteArray) (n : Nat) : ∀ i, (facsTo w n i).length ≤ i
  | 0 => Nat.le_refl _
  | i + 1 => by
    have := (putW_length (w.extract i (i + n)) (facsTo w n i)).2
    have := facsTo_length w n i
    unfold facsTo; omega
theorem facsTo_pos (w : ByteArray) (n i : Nat) (h : 0 < i) : 0 < (facsTo w n i).length := by
  match i, h with
  | i + 1, _ => exact (putW_length _ _).1
theorem facsTo_mem (w : ByteArray) (n : Nat) : ∀ i, ∀ z ∈ facsTo w n i, ∃ j, j < i ∧ z = w.extract j (j + n)
  | 0, z, h => by simp [facsTo] at h
  | i + 1, z, h => by
    rcases putW_mem _ z _ h with e | hm
    · exact ⟨i, by omega, e⟩
    · obtain ⟨j, hj, e⟩ := facsTo_mem w n i z hm
      exact ⟨j, by omega, e⟩
def factorsOf (w : ByteArray) (n : Int) : List ByteArray := if isW 3 w = true ∧ 0 ≤ n ∧ n ≤ (w.size : Int) then facsTo w n.toNat (w.size - n.toNat + 1) else []
theorem factorsOf_length (w : ByteArray) (n : Int) : (factorsOf w n).length ≤ 1000000 := by
  unfold factorsOf
  split
  · next h =>
    have := isW_len h.1
    have := facsTo_length w n.toNat (w.size - n.toNat + 1)
    omega
  · simp

/-! ### A map's keys -/
theorem strKeys_put {H : Type} (es : List (Lit × DataW H)) (x : List UInt8) (d : DataW H) (hk : ∀ p ∈ es, ∃ y, p.1 = .string y) :
    (strKeys ((DataW.map es).put (.string x) d)).Perm (x :: (strKeys (DataW.map es)).filter (notB x)) := by
  rw [DataW.put_eq]
  show ((ChangeMaps.putKey (.string x) d es).map fun p => strOf p.1).Perm (x :: (es.map fun p => strOf p.1).filter (notB x))
  unfold ChangeMaps.putKey
  have h1 := (WideShapes.insert_perm ((Lit.string x, d) : Lit × DataW H) (es.filter (ChangeMaps.notKey (.string x)))).map fun p => strOf p.1
  refine h1.trans ?_
  rw [List.map_cons]
  refine List.Perm.cons _ ?_
  rw [List.filter_map]
  have e : es.filter (ChangeMaps.notKey (.string x)) = es.filter (notB x ∘ fun p => strOf p.1) := by
    apply List.filter_congr
    intro p hp
    obtain ⟨y, hy⟩ := hk p hp
    simp [ChangeMaps.notKey, hy, Lit.sameKey, notB, strOf]
  rw [e]
theorem sorted_of_perm {ss : List (List UInt8)} {ps : List ByteArray} (h : ss.Perm (datas ps)) (ha : Asc ps) : ss.mergeSort (fun x y => decide (x ≤ y)) = datas ps := by
  have tr : ∀ a b c : List UInt8, decide (a ≤ b) = true → decide (b ≤ c) = true → decide (a ≤ c) = true := fun a b c h1 h2 => by simp only [decide_eq_true_eq] at *; exact List.le_trans h1 h2
  have to : ∀ a b : List UInt8, (decide (a ≤ b) || decide (b ≤ a)) = true := fun a b => by simp only [Bool.or_eq_true, decide_eq_true_eq]; exact List.le_total a b
  refine List.Perm.eq_of_pairwise (le := fun a b => decide (a ≤ b) = true) (fun a b _ _ h1 h2 => ?_) (List.pairwise_mergeSort tr to ss) ?_ ((List.mergeSort_perm ss _).trans h)
  · simp only [decide_eq_true_eq] at h1 h2
    exact List.le_antisymm h1 h2
  · refine List.pairwise_map.2 (List.Pairwise.imp (fun hlt => ?_) ha)
    rw [decide_eq_true_eq]
    exact List.le_of_lt hlt
theorem datas_enc (ps : List ByteArray) : (datas ps).map (fun l => Value.string ⟨l.toArray⟩) = ps.map Value.string := by
  rw [datas, List.map_map]
  apply List.map_congr_left
  intro p _
  simp
end Go.Proofs.YtalclebehbdliaaGreat
namespace Go.Proofs.YtalclebehbdliaaGreat
open Go Go.RowKit

def PutPost (B : Nat) (x : ByteArray) (ps : List ByteArray) (w : World) (e : Ending) (w' : World) : Prop :=
  ∃ g cap, e = .returned (.slice (some ⟨g, 0, none⟩) (putW x ps).length cap) ∧ w'.ownsRow B 9 1 (.slice (some ⟨g, 0, none⟩) (putW x ps).length cap) (putW x ps).length ((putW x ps).map Value.string) ∧ Below B w w'
/-- Nothing that was there has turned but block g. -/
def Kept1 (g : Nat) (w w' : World) : Prop := w.heap.size ≤ w'.heap.size ∧ ∀ k, k < w.heap.size → k ≠ g → w'.heap[k]? = w.heap[k]?
theorem Kept1.refl (g : Nat) (w : World) : Kept1 g w w := ⟨Nat.le_refl _, fun _ _ _ => rfl⟩
theorem Kept1.alloc {g : Nat} {w w1 : World} (h : Kept1 g w w1) (o : Obj) : Kept1 g w (w1.alloc o) :=
  ⟨by rw [World.size_alloc]; exact Nat.le_succ_of_le h.1, fun k hk hg => (heap_alloc_old w1 o (Nat.lt_of_lt_of_le hk h.1)).trans (h.2 k hk hg)⟩
theorem Kept1.grown {g : Nat} {w w1 w2 : World} (h : Kept1 g w w1) {r : Option Nat} (hg : w1.grownBy w2 r) (hr : ∀ q, r = some q → q = g ∨ w.heap.size ≤ q) : Kept1 g w w2 :=
  ⟨Nat.le_trans h.1 hg.size, fun k hk hne => (hg.block k (Nat.lt_of_lt_of_le hk h.1) (fun e => by
    rcases hr k e.symm with h1 | h1
    · exact hne h1
    · omega)).trans (h.2 k hk hne)⟩
theorem Kept1.cell {g : Nat} {w w' : World} (h : Kept1 g w w') {p : Addr} (hp : p.block < w.heap.size) (hne : p.block ≠ g) : w'.cell? p = w.cell? p := World.cell?_of_block (h.2 p.block hp hne)
def PutPost3 (B g : Nat) (x : ByteArray) (ps : List ByteArray) (w : World) (e : Ending) (w' : World) : Prop :=
  ∃ g' cap, e = .returned (.slice (some ⟨g', 0, none⟩) (putW x ps).length cap) ∧ w'.ownsRow B 9 1 (.slice (some ⟨g', 0, none⟩) (putW x ps).length cap) (putW x ps).length ((putW x ps).map Value.string) ∧ Below B w w' ∧ Kept1 g w w' ∧ (g' = g ∨ w.heap.size ≤ g')
theorem owns_head {w : World} {B e g n k cap : Nat} {xs : List Value} (h : w.ownsRow B e 1 (.slice (some ⟨g, 0, none⟩) n cap) n xs) (hk : k ≤ n) : w.ownsRow B e 1 (.slice (some ⟨g, 0, none⟩) k cap) k (xs.take k) := by
  obtain ⟨h1, h2⟩ := h
  rcases h2 with ⟨h2, _⟩ | ⟨g', cap', cur, e2, hb, hh, hn, hc, hs, ht⟩
  · cases h2
  · injection e2 with e3 _ e4
    injection e3 with e5
    injection e5 with e6
    subst e6 e4
    refine ⟨by rw [List.length_take]; omega, Or.inr ⟨g, cap, cur, rfl, hb, hh, by omega, hc, hs, ?_⟩⟩
    rw [← ht, List.take_take, Nat.min_eq_left (by omega), Nat.mul_one]

theorem form_of {w : World} {B e n : Nat} {v : Value} {xs : List Value} (h : w.ownsRow B e 1 v n xs) (hne : v ≠ .slice none 0 0) : ∃ g cap, v = .slice (some ⟨g, 0, none⟩) n cap := by
  rcases h.2 with ⟨h2, _⟩ | ⟨g, cap, cur, e2, _⟩
  · exact absurd h2 hne
  · exact ⟨g, cap, e2⟩
theorem news_of_strs {w : World} {b off : Nat} {xs : List ByteArray} (h : StrsAt w b off xs) : ∀ (j : Nat) (u : Value), (xs.map Value.string)[j]? = some u → w.cell? ((⟨b, off, none⟩ : Addr).add j) = some u := by
  intro j u hj
  rw [List.getElem?_map] at hj
  cases hx : xs[j]? with
  | none => rw [hx] at hj; cases hj
  | some y =>
    rw [hx] at hj
    have hlt := (List.getElem?_eq_some_iff.1 hx).1
    have e : (⟨b, off, none⟩ : Addr).add j = ⟨b, off + j, none⟩ := by unfold Addr.add; split <;> simp_all
    rw [e, h j hlt, ← hj]
    simp [List.getD_eq_getElem?_getD, hx]
theorem strs_drop {w : World} {b k : Nat} {xs : List ByteArray} (h : StrsAt w b 0 xs) : StrsAt w b k (xs.drop k) := by
  intro j hj
  rw [List.length_drop] at hj
  have h1 := h (k + j) (by omega)
  rw [Nat.zero_add] at h1
  rw [h1]
  simp [List.getD_eq_getElem?_getD]
theorem one_cellP (x : ByteArray) : ∀ u ∈ [Value.string x], u.oneCell' = true := by
  intro u hu
  rw [List.mem_singleton] at hu
  subst hu; rfl
theorem str_cells (xs : List ByteArray) : ∀ u ∈ xs.map Value.string, u.oneCell' = true := by
  intro u hu
  obtain ⟨s, _, rfl⟩ := List.mem_map.1 hu
  rfl

theorem put_rest {B g cap n k m : Nat} {xs rest : List Value} {w w1 : World} {v1 : Value} (ho : w.ownsRow B 9 1 (.slice (some ⟨g, 0, none⟩) n cap) n xs) (hk : k ≤ n)
    (ho1 : w1.ownsRow w.heap.size 9 1 v1 (0 + m) ([] ++ rest)) (hg1 : (w.alloc (.cells #[] 9)).grownBy w1 (Value.slice (some ⟨w.heap.size, 0, none⟩) 0 0).ownBlock)
    (hn1 : v1 = .slice none 0 0 ↔ Value.slice (some ⟨w.heap.size, 0, none⟩) 0 0 = .slice none 0 0 ∧ m = 0) :
    ∃ gr cr, v1 = .slice (some ⟨gr, 0, none⟩) m cr ∧ Hid (w1.ownsRow w.heap.size 9 1 (.slice (some ⟨gr, 0, none⟩) m cr) m rest) ∧ Hid (w1.ownsRow B 9 1 (.slice (some ⟨g, 0, none⟩) k cap) k (xs.take k)) ∧ Hid (Below B w w1) ∧
      w.heap.size ≤ gr ∧ gr < w1.heap.size ∧ w.heap.size ≤ w1.heap.size := by
  have hgB := (ho.lt g rfl).1
  have hgl := (ho.lt g rfl).2
  rw [List.nil_append, Nat.zero_add] at ho1
  have hb1 : Below B w w1 := ((Below.refl B w).alloc (by omega) _).grown hg1 (by simp; omega) (fun q hq => by
    have : w.heap.size = q := Option.some.inj hq
    omega)
  obtain ⟨gr, cr, rfl⟩ := form_of ho1 (fun e => by have := (hn1.1 e).1; cases this)
  have hgr := ho1.lt gr rfl
  refine ⟨gr, cr, rfl, ho1, ((owns_head ho hk).alloc (.cells #[] 9)).kept hg1 (Or.inr ?_), hb1, hgr.1, hgr.2, hb1.size⟩
  intro e
  have : g = w.heap.size := Option.some.inj e
  omega
theorem put_one {B g cap k m gr cr B0 : Nat} {xs rest : List Value} {x : ByteArray} {w w1 w2 : World} (hB0 : g < B0) (hR : w1.ownsRow B0 9 1 (.slice (some ⟨gr, 0, none⟩) m cr) m rest) (hH : w1.ownsRow B 9 1 (.slice (some ⟨g, 0, none⟩) k cap) k xs) (hb1 : Below B w w1)
    (hg2 : (w1.alloc (.cells #[.string x] 9)).grownBy w2 (Value.slice (some ⟨g, 0, none⟩) k cap).ownBlock) :
    Hid (w2.ownsRow B0 9 1 (.slice (some ⟨gr, 0, none⟩) m cr) m rest) ∧ Hid (Below B w w2) ∧ w1.heap.size ≤ w2.heap.size := by
  have hgB := (hH.lt g rfl).1
  have hgl := (hH.lt g rfl).2
  have hgr := hR.lt gr rfl
  have hb2 : Below B w w2 := (hb1.alloc (by omega) _).grown hg2 (by simp; omega) (fun q hq => by
    have : g = q := Option.some.inj hq
    omega)
  have hsz := hg2.size
  refine ⟨(hR.alloc (.cells #[.string x] 9)).kept hg2 (Or.inr ?_), hb2, by simp at hsz; omega⟩
  intro e
  have : gr = g := Option.some.inj e
  omega

theorem put_done {B g k g3 c3 : Nat} {x : ByteArray} {ps : List ByteArray} {w w3 : World} (hk : k ≤ ps.length) (hp : putW x ps = (ps.take k ++ [x]) ++ ps.drop k)
    (h : w3.ownsRow B 9 1 (.slice (some ⟨g3, 0, none⟩) (k + 1 + (ps.length - k)) c3) (k + 1 + (ps.length - k)) (((ps.map Value.string).take k ++ [.string x]) ++ (ps.drop k).map Value.string)) (hb : Below B w w3) (hK : Kept1 g w w3) (hat : g3 = g ∨ w.heap.size ≤ g3) :
    PutPost3 B g x ps w (.returned (.slice (some ⟨g3, 0, none⟩) (k + 1 + (ps.length - k)) c3)) w3 := by
  have e1 : (putW x ps).length = k + 1 + (ps.length - k) := by rw [hp]; simp; omega
  have e2 : (putW x ps).map Value.string = ((ps.map Value.string).take k ++ [.string x]) ++ (ps.drop k).map Value.string := by rw [hp]; simp
  rw [← e1, ← e2] at h
  exact ⟨g3, c3, by rw [e1], h, hb, hK, hat⟩
theorem put_end_done {B g g3 c3 : Nat} {x : ByteArray} {ps : List ByteArray} {w w3 : World} (hp : putW x ps = ps ++ [x])
    (h : w3.ownsRow B 9 1 (.slice (some ⟨g3, 0, none⟩) (ps.length + 1) c3) (ps.length + 1) (ps.map Value.string ++ [.string x])) (hb : Below B w w3) (hK : Kept1 g w w3) (hat : g3 = g ∨ w.heap.size ≤ g3) :
    PutPost3 B g x ps w (.returned (.slice (some ⟨g3, 0, none⟩) (ps.length + 1) c3)) w3 := by
  have e1 : (putW x ps).length = ps.length + 1 := by rw [hp]; simp
  have e2 : (putW x ps).map Value.string = ps.map Value.string ++ [.string x] := by rw [hp]; simp
  rw [← e1, ← e2] at h
  exact ⟨g3, c3, by rw [e1], h, hb, hK, hat⟩
theorem owns_cap {w : World} {B g n cap : Nat} {xs : List Value} (h : w.ownsRow B 9 1 (.slice (some ⟨g, 0, none⟩) n cap) n xs) : n ≤ cap := by
  rcases h.2 with ⟨h2, _⟩ | ⟨g', cap', cur, e2, _, _, hn, _, _, _⟩
  · cases h2
  · injection e2 with _ _ e4
    omega

set_option maxRecDepth 100000 in
set_option maxHeartbeats 1600000 in
theorem spec_put2 (B g cap : Nat) (ps : List ByteArray) (x : ByteArray) (hl : ps.length ≤ 1000) (w : World)
    (ho : w.ownsRow B 9 1 (.slice (some ⟨g, 0, none⟩) ps.length cap) ps.length (ps.map Value.string)) :
    Calls Tryz.prog 54 #[.slice (some ⟨g, 0, none⟩) ps.length cap, .string x] w (PutPost3 B g x ps w) := by
  obtain ⟨i0, hi, hz0, hz1, hz2⟩ := info_parts infoStr
  have hst := StrsAt.of_owns ho rfl
  have hgB := (ho.lt g rfl).1
  have hgl := (ho.lt g rfl).2
  have HS := Lib.hid hst
  have HO := Lib.hid ho
  have hcap : ps.length ≤ cap := by
    rcases ho.2 with ⟨h2, _⟩ | ⟨g', cap', cur, e2, _, _, hn, _, _, _⟩
    · cases h2
    · injection e2 with _ _ e4
      omega
  clear ho hst
  go_enter Tryz.func54, Tryz.ntmps54
  go_wp2
  go_loop [5] (fun i => ∃ k : Nat, k ≤ ps.length ∧ i = .int .i64 k ∧ Hid (LessTo x ps k)) (fun i => ps.length - (intOf i).toNat)
  case atStart => exact ⟨0, Nat.zero_le _, rfl, Lib.hid (fun j h => by omega)⟩
  case round =>
    obtain ⟨k, hk, rfl, hless⟩ := hrel
    by_cases hlt : k < ps.length
    · have hcell := HS.out k hlt
      rw [Nat.zero_add] at hcell
      have hg0 : decide ((k : Int) < (ps.length : Int)) = true := by simp; omega
      cases hc : decide ((ps.getD k ByteArray.empty).data.toList < x.data.toList) with
      | true =>
        have HN := Lib.hid (hless.out.next (of_decide_eq_true hc))
        rw [← ba_less] at hc
        generalize ps.getD k ByteArray.empty = y at *
        go_wp2
        go_round
        case rel => exact ⟨k + 1, by omega, by go_num, HN⟩
        case measure => simp [intOf]; omega
      | false =>
        cases he : decide (ps.getD k ByteArray.empty = x) with
        | true =>
          have HP := Lib.hid (putW_same x ps k hlt hless.out (of_decide_eq_true he))
          rw [← ba_less] at hc
          rw [← ba_same] at he
          generalize ps.getD k ByteArray.empty = y at *
          go_wp2
          go_ret
          refine ⟨g, cap, by rw [HP.out]; rfl, by rw [HP.out]; exact HO.out, Below.refl _ _, Kept1.refl _ _, Or.inl rfl⟩
        | false =>
          have HP := Lib.hid (putW_mid x ps k hlt hless.out (of_decide_eq_false hc) (of_decide_eq_false he))
          rw [← ba_less] at hc
          rw [← ba_same] at he
          generalize ps.getD k ByteArray.empty = y at *
          have HNEW := Lib.hid (fun (c : Obj) => news_of_strs (strs_drop (k := k) (HS.out.below ((Below.refl w.heap.size w).alloc (Nat.le_refl _) c) hgl)))
          go_wp2_with (first
            | (at_builtin; refine wpList_append_own _ rfl (.tmp 34) (.tmp 37) 24 rfl w.heap.size 9 i0 (.string ByteArray.empty) 1 16 Tryz.underlying24 hi hz0 hz1 hz2 rfl (by decide) _ _ _ rfl (World.ownsRow_made _ _ 0 (Nat.le_refl _) (by decide) rfl) ⟨g, k, none⟩ (ps.length - k) (cap - k) ((ps.drop k).map Value.string) rfl (by simp) (HNEW.out _) (str_cells _) (by unfold maxLen; omega) (by omega) (by simp) ?_; intro v1 w1 ho1 hg1 hn1; have HK1 := Lib.hid (((Kept1.refl g w).alloc (.cells #[] 9)).grown hg1 (fun q hq => Or.inr (by have : w.heap.size = q := Option.some.inj hq; omega))); obtain ⟨gr, cr, rfl, HR1, HH1, HB1, hgr1, hgr2, hsz1⟩ := put_rest HO.out hk ho1 hg1 hn1; clear ho1 hg1 hn1)
            | (at_builtin; refine wpList_append_lies _ rfl (.tmp 41) (.tmp 43) 24 rfl B 9 i0 (.string ByteArray.empty) 1 16 Tryz.underlying24 hi hz0 hz1 hz2 rfl (by decide) _ _ _ rfl (HH1.out.alloc _) ⟨w1.heap.size, 0, none⟩ 1 1 [.string x] rfl rfl (cell_one_new _ _ _) (one_cellP x) (by decide) (by unfold maxLen; omega) (by omega) (by simp; omega) _ rfl ?_; intro gg c2 w2 ho2 hg2 hat2 _; have HK2 := Lib.hid ((HK1.out.alloc (.cells #[.string x] 9)).grown hg2 (fun q hq => Or.inl (Option.some.inj hq).symm)); have HAT : Hid (gg = g ∨ w.heap.size ≤ gg) := Lib.hid (by rcases hat2 with h | h; exact Or.inl (Option.some.inj h).symm; exact Or.inr (by rw [h]; simp; omega));  obtain ⟨HRR, HB2, hsz2⟩ := put_one (by omega) HR1.out HH1.out HB1.out hg2; have HR2 := Lib.hid (news_of_strs (StrsAt.of_owns HRR.out (by simp))); have HO2 := Lib.hid ho2; clear ho2 hg2 hat2)
            | (at_builtin; refine wpList_append_lies _ rfl (.tmp 44) (.tmp 45) 24 rfl B 9 i0 (.string ByteArray.empty) 1 16 Tryz.underlying24 hi hz0 hz1 hz2 rfl (by decide) _ _ _ rfl HO2.out ⟨gr, 0, none⟩ (ps.length - k) cr ((ps.drop k).map Value.string) rfl (by simp) HR2.out (str_cells _) (by omega) (by unfold maxLen; omega) (by omega) (by omega) _ rfl ?_; intro g3 c3 w3 ho3 hg3 hat3 _; have HAT3 : Hid (g3 = g ∨ w.heap.size ≤ g3) := Lib.hid (hat3.elim (fun h => by have : gg = g3 := Option.some.inj h; subst this; exact HAT.out) (fun h => Or.inr (by rw [h]; omega))); have hb3 : Below B w w3 := HB2.out.grown hg3 (by omega) (fun q hq => (HO2.out.lt q hq).1); have HK3 := Lib.hid (HK2.out.grown hg3 (fun q hq => by have : gg = q := Option.some.inj hq; subst this; exact HAT.out)); have HO3 := Lib.hid ho3; have HB3 := Lib.hid hb3; clear ho3 hg3 hb3 hat3))
          go_ret
          exact put_done hk HP.out HO3.out HB3.out HK3.out HAT3.out
    · obtain rfl : k = ps.length := by omega
      have HP := Lib.hid (putW_end x ps hless.out)
      have hk : ps.length ≤ ps.length := Nat.le_refl _
      have hk0 : ps.length ≤ ps.length := Nat.le_refl _
      by_cases hce : cap = ps.length
      · subst hce
        have HR1 := Lib.hid (World.ownsRow_made (base := w.heap.size) (e := 9) (size := 1) w #[] 0 (Nat.le_refl _) (by decide) rfl)
        have HH1 := Lib.hid (HO.out.alloc (.cells #[] 9))
        have HB1 := Lib.hid ((Below.refl B w).alloc (by omega) (.cells #[] 9))
        have HK1 := Lib.hid ((Kept1.refl g w).alloc (.cells #[] 9))
        have hnew : ∀ (q : Nat) (u : Value), [Value.string x][q]? = some u → ((w.alloc (.cells #[] 9)).alloc (.cells #[.string x] 9)).cell? ((⟨w.heap.size + 1, 0, none⟩ : Addr).add q) = some u := by
          have h := cell_one_new (w.alloc (.cells #[] 9)) (.string x) 9
          rw [World.size_alloc] at h
          exact h
        have HNEW := Lib.hid hnew
        clear hnew
        go_wp2_with (first
          | (at_builtin; refine wpList_append_lies _ rfl (.tmp 41) (.tmp 43) 24 rfl B 9 i0 (.string ByteArray.empty) 1 16 Tryz.underlying24 hi hz0 hz1 hz2 rfl (by decide) _ _ _ rfl (HH1.out.alloc _) ⟨w.heap.size + 1, 0, none⟩ 1 1 [.string x] rfl rfl HNEW.out (one_cellP x) (by decide) (by unfold maxLen; omega) (by omega) (by simp; omega) _ rfl ?_; intro gg c2 w2 ho2 hg2 hat2 _; have HK2 := Lib.hid ((HK1.out.alloc (.cells #[.string x] 9)).grown hg2 (fun q hq => Or.inl (Option.some.inj hq).symm)); have HAT : Hid (gg = g ∨ w.heap.size ≤ gg) := Lib.hid (by rcases hat2 with h | h; exact Or.inl (Option.some.inj h).symm; exact Or.inr (by rw [h]; simp; omega));  obtain ⟨HRR, HB2, hsz2⟩ := put_one hgl HR1.out HH1.out HB1.out hg2; have HO2 := Lib.hid ho2; clear ho2 hg2 hat2)
          | (at_builtin; refine wpList_append_zero rfl (.tmp 44) (.tmp 45) 24 rfl 9 i0 Tryz.underlying24 hi gg _ c2 (owns_cap HO2.out) ⟨w.heap.size, 0, none⟩ 0 rfl rfl ?_))
        go_ret
        exact put_end_done HP.out HO2.out HB2.out HK2.out HAT.out
      · have hce2 : ps.length < cap := by omega
        have HR1 := Lib.hid (World.ownsRow_made (base := w.heap.size) (e := 9) (size := 1) w #[] 0 (Nat.le_refl _) (by decide) rfl)
        have HH1 := Lib.hid (HO.out.alloc (.cells #[] 9))
        have HB1 := Lib.hid ((Below.refl B w).alloc (by omega) (.cells #[] 9))
        have HK1 := Lib.hid ((Kept1.refl g w).alloc (.cells #[] 9))
        have hnew : ∀ (q : Nat) (u : Value), [Value.string x][q]? = some u → ((w.alloc (.cells #[] 9)).alloc (.cells #[.string x] 9)).cell? ((⟨w.heap.size + 1, 0, none⟩ : Addr).add q) = some u := by
          have h := cell_one_new (w.alloc (.cells #[] 9)) (.string x) 9
          rw [World.size_alloc] at h
          exact h
        have HNEW := Lib.hid hnew
        clear hnew
        go_wp2_with (first
          | (at_builtin; refine wpList_append_lies _ rfl (.tmp 41) (.tmp 43) 24 rfl B 9 i0 (.string ByteArray.empty) 1 16 Tryz.underlying24 hi hz0 hz1 hz2 rfl (by decide) _ _ _ rfl (HH1.out.alloc _) ⟨w.heap.size + 1, 0, none⟩ 1 1 [.string x] rfl rfl HNEW.out (one_cellP x) (by decide) (by unfold maxLen; omega) (by omega) (by simp; omega) _ rfl ?_; intro gg c2 w2 ho2 hg2 hat2 _; have HK2 := Lib.hid ((HK1.out.alloc (.cells #[.string x] 9)).grown hg2 (fun q hq => Or.inl (Option.some.inj hq).symm)); have HAT : Hid (gg = g ∨ w.heap.size ≤ gg) := Lib.hid (by rcases hat2 with h | h; exact Or.inl (Option.some.inj h).symm; exact Or.inr (by rw [h]; simp; omega));  obtain ⟨HRR, HB2, hsz2⟩ := put_one hgl HR1.out HH1.out HB1.out hg2; have HO2 := Lib.hid ho2; clear ho2 hg2 hat2)
          | (at_builtin; refine wpList_append_zero rfl (.tmp 44) (.tmp 45) 24 rfl 9 i0 Tryz.underlying24 hi gg _ c2 (owns_cap HO2.out) ⟨w.heap.size, 0, none⟩ 0 rfl rfl ?_))
        go_ret
        exact put_end_done HP.out HO2.out HB2.out HK2.out HAT.out
theorem spec_put (B g cap : Nat) (ps : List ByteArray) (x : ByteArray) (hl : ps.length ≤ 1000) (w : World)
    (ho : w.ownsRow B 9 1 (.slice (some ⟨g, 0, none⟩) ps.length cap) ps.length (ps.map Value.string)) :
    Calls Tryz.prog 54 #[.slice (some ⟨g, 0, none⟩) ps.length cap, .string x] w (PutPost B x ps w) := (spec_put2 B g cap ps x hl w ho).mono fun _ _ ⟨g', cap', h1, h2, h3, _⟩ => ⟨g', cap', h1, h2, h3⟩
end Go.Proofs.YtalclebehbdliaaGreat
namespace Go.Proofs.YtalclebehbdliaaGreat
open Go Go.RowKit

theorem and255 (x : Int) : 0 ≤ bits .and .i64 x 255 ∧ bits .and .i64 x 255 ≤ 255 := by
  have h : (BitVec.ofInt IntKind.i64.bits x &&& BitVec.ofInt IntKind.i64.bits 255).toNat ≤ 255 := by
    rw [BitVec.toNat_and]
    exact Nat.le_trans Nat.and_le_right (by decide)
  simp only [bits]
  rw [IntKind.wrap_i64]
  omega

/-- The cursor in block g: its bytes, how many of them are read, a number. Below block B nothing has turned since W0. -/
def Cur (B : Nat) (a : Option Addr) (n c g : Nat) (W0 w : World) : Prop :=
  Below B W0 w ∧ B ≤ w.heap.size ∧ B ≤ g ∧ ∃ (i : Nat) (h : Int), i ≤ n ∧ w.heap[g]? = some (.cells #[.slice a n c, .int .i64 i, .int .i64 h] 84 (0, 0))
/-- The bytes, in W0, below block B. -/
def CodeAt (W0 : World) (B : Nat) (a : Option Addr) (n : Nat) : Prop := ∀ k, k < n → ∃ b off z, a = some ⟨b, off, none⟩ ∧ b < B ∧ 0 ≤ z ∧ z ≤ 255 ∧ W0.cell? ⟨b, off + k, none⟩ = some (.int .u8 z)

theorem Cur.alloc {B : Nat} {a : Option Addr} {n c g : Nat} {W0 w : World} (h : Cur B a n c g W0 w) (o : Obj) : Cur B a n c g W0 (w.alloc o) := by
  obtain ⟨h1, h2, h3, i, x, h4, h5⟩ := h
  refine ⟨h1.alloc h2 o, by simp; omega, h3, i, x, h4, ?_⟩
  rw [Below.heap_alloc w o g (lt_of_block h5)]; exact h5
theorem Cur.drewN {B : Nat} {a : Option Addr} {n c g : Nat} {W0 w : World} (h : Cur B a n c g W0 w) (q : Nat) : Cur B a n c g W0 (w.drewN q) := by
  obtain ⟨h1, h2, h3, i, x, h4, h5⟩ := h
  exact ⟨below_drewN h1 q, h2, h3, i, x, h4, h5⟩
theorem Cur.below {B : Nat} {a : Option Addr} {n c g : Nat} {W0 w : World} (h : Cur B a n c g W0 w) : Below B W0 w := h.1
/-- .. and other blocks of the call's own that lie behind. -/
theorem Cur.step {B : Nat} {a : Option Addr} {n c g : Nat} {W0 w w' : World} (h : Cur B a n c g W0 w) (hb : Below w.heap.size w w') : Cur B a n c g W0 w' := by
  obtain ⟨h1, h2, h3, i, x, h4, h5⟩ := h
  refine ⟨h1.trans (hb.mono h2), Nat.le_trans h2 hb.size, h3, i, x, h4, ?_⟩
  rw [hb.block g (lt_of_block h5)]; exact h5

/-- No block but g has turned; none is new. -/
def Only (g : Nat) (w w' : World) : Prop := w'.heap.size = w.heap.size ∧ ∀ k, k ≠ g → w'.heap[k]? = w.heap[k]?
theorem Only.refl (g : Nat) (w : World) : Only g w w := ⟨rfl, fun _ _ => rfl⟩
theorem Only.trans {g : Nat} {w w1 w2 : World} (h : Only g w w1) (k : Only g w1 w2) : Only g w w2 := ⟨k.1.trans h.1, fun b hb => (k.2 b hb).trans (h.2 b hb)⟩
theorem Only.setCell {g : Nat} {w w1 : World} (h : Only g w w1) (o : Nat) (v : Value) : Only g w (w1.setCell ⟨g, o, none⟩ v) :=
  ⟨by rw [World.size_setCell]; exact h.1, fun b hb => (heap_setCell_other w1 ⟨g, o, none⟩ b v hb).trans (h.2 b hb)⟩
theorem Only.drewN {g : Nat} {w w1 : World} (h : Only g w w1) (q : Nat) : Only g w (w1.drewN q) := h
theorem Only.cell {g : Nat} {w w1 : World} (h : Only g w w1) {p : Addr} (hp : p.block ≠ g) : w1.cell? p = w.cell? p := World.cell?_of_block (h.2 p.block hp)

def BytePost (m : Int) (B : Nat) (a : Option Addr) (n c g : Nat) (W0 w : World) (e : Ending) (w' : World) : Prop := ∃ x : Int, 0 ≤ x ∧ x ≤ m ∧ e = .returned (.int .i64 x) ∧ Cur B a n c g W0 w' ∧ Only g w w'

set_option maxRecDepth 100000 in
set_option maxHeartbeats 1600000 in
theorem l1Byte (B : Nat) (a : Option Addr) (n c g : Nat) (W0 w : World) (hcode : CodeAt W0 B a n) (hn : n ≤ 1048576) (hcur : Cur B a n c g W0 w) :
    Calls Tryz.prog 77 #[.pointer (some ⟨g, 0, none⟩)] w (BytePost 255 B a n c g W0 w) := by
  obtain ⟨h1, h2, h3, i, h, h4, h5⟩ := hcur
  have hc0 : w.cell? ⟨g, 0, none⟩ = some (.slice a n c) := by rw [cell_of_row w g 0 _ _ _ h5]; rfl
  have hc1 : w.cell? ⟨g, 1, none⟩ = some (.int .i64 i) := by rw [cell_of_row w g 1 _ _ _ h5]; rfl
  have hc2 : w.cell? ⟨g, 2, none⟩ = some (.int .i64 h) := by rw [cell_of_row w g 2 _ _ _ h5]; rfl
  have hf2 : w.frozen? ⟨g, 2, none⟩ = false := frozen_of_row w g 2 _ _ h5
  have hf1 : w.frozen? ⟨g, 1, none⟩ = false := frozen_of_row w g 1 _ _ h5
  have hs : ∀ v, (w.setCell ⟨g, 2, none⟩ v).heap[g]? = some (.cells #[.slice a n c, .int .i64 i, v] 84 (0, 0)) := fun v => heap_setCell_same w g 2 _ _ v h5
  have d0 : ∀ v, (w.setCell ⟨g, 2, none⟩ v).cell? ⟨g, 0, none⟩ = some (.slice a n c) := fun v => by rw [cell_of_row _ g 0 _ _ _ (hs v)]; rfl
  have d1 : ∀ v, (w.setCell ⟨g, 2, none⟩ v).cell? ⟨g, 1, none⟩ = some (.int .i64 i) := fun v => by rw [cell_of_row _ g 1 _ _ _ (hs v)]; rfl
  have d2 : ∀ v, (w.setCell ⟨g, 2, none⟩ v).cell? ⟨g, 2, none⟩ = some v := fun v => by rw [cell_of_row _ g 2 _ _ _ (hs v)]; rfl
  have HS := Lib.hid hs
  have H1 := Lib.hid h1
  clear hs h1 h5
  by_cases hlt : i < n
  · obtain ⟨b, off, z, rfl, hb, z0, z1, hz⟩ := hcode i hlt
    have hz' : ∀ v, (w.setCell ⟨g, 2, none⟩ v).cell? ⟨b, off + i, none⟩ = some (.int .u8 z) := by
      intro v
      rw [← hz]
      exact (H1.out.setCell (p := ⟨g, 2, none⟩) h3 v).cell (p := ⟨b, off + i, none⟩) hb
    clear hz hcode
    go_enter Tryz.func77, Tryz.ntmps77
    go_wp2
    go_quiet (fail)
    go_wp2
    go_quiet (fail)
    go_wp2
    go_quiet (fail)
    go_wp2
    go_ret
    refine ⟨_, (and255 _).1, (and255 _).2, rfl, ?_⟩
    have hx : ∀ v q, ((w.setCell ⟨g, 2, none⟩ v).drewN q).heap[g]? = some (.cells #[.slice (some ⟨b, off, none⟩) n c, .int .i64 i, v] 84 (0, 0)) := fun v q => HS.out v
    exact ⟨⟨(below_drewN (H1.out.setCell h3 _) _).setCell h3 _, by simpa using h2, h3, i + 1, _, by omega, (heap_setCell_same _ g 1 _ _ _ (hx _ _)).trans rfl⟩, (((Only.refl g w).setCell 2 _).drewN _).setCell 1 _⟩
  · have hle : (n : Int) ≤ (i : Int) := by omega
    clear hcode
    go_enter Tryz.func77, Tryz.ntmps77
    go_wp2
    go_quiet (fail)
    go_wp2
    go_quiet (fail)
    go_wp2
    go_ret
    exact ⟨_, (and255 _).1, (and255 _).2, rfl, ⟨below_drewN (below_drewN (H1.out.setCell (p := ⟨g, 2, none⟩) h3 _) _) _, by simpa using h2, h3, i, _, h4, HS.out _⟩, (((Only.refl g w).setCell 2 _).drewN _).drewN _⟩

/-- A number from 0 to n - 1; 0 where n is not above 0. -/
def BelowPost (m : Int) (B : Nat) (a : Option Addr) (n c g : Nat) (W0 w : World) (e : Ending) (w' : World) : Prop := ∃ x : Int, 0 ≤ x ∧ (x < m ∨ x = 0) ∧ e = .returned (.int .i64 x) ∧ Cur B a n c g W0 w' ∧ Only g w w'

set_option maxRecDepth 100000 in
set_option maxHeartbeats 1600000 in
theorem l1Below (m : Int) (hm : m ≤ 1000000000) (B : Nat) (a : Option Addr) (n c g : Nat) (W0 w : World) (hcode : CodeAt W0 B a n) (hn : n ≤ 1048576) (hcur : Cur B a n c g W0 w) :
    Calls Tryz.prog 34 #[.pointer (some ⟨g, 0, none⟩), .int .i64 m] w (BelowPost m B a n c g W0 w) := by
  have HB := Lib.hid (fun w => l1Byte B a n c g W0 w hcode hn)
  have HC := Lib.hid hcur
  clear hcode hcur
  by_cases h0 : m ≤ 0
  · go_enter Tryz.func34, Tryz.ntmps34
    go_wp2
    go_ret
    exact ⟨0, Int.le_refl _, Or.inr rfl, rfl, HC.out, Only.refl _ _⟩
  by_cases h1 : m ≤ 256
  · go_enter Tryz.func34, Tryz.ntmps34
    go_wp2_with fail
    refine (HB.out _ HC.out).mono ?_
    rintro e w1 ⟨x, x0, x1, rfl, hc1, ho1⟩
    go_wp2
    go_ret
    exact ⟨_, Int.emod_nonneg _ (by omega), Or.inl (Int.emod_lt_of_pos _ (by omega)), rfl, hc1, ho1⟩
  · go_enter Tryz.func34, Tryz.ntmps34
    go_wp2_with fail
    refine (HB.out _ HC.out).mono ?_
    rintro e w1 ⟨x, x0, x1, rfl, hc1, ho1⟩
    go_wp2_with fail
    refine (HB.out _ hc1).mono ?_
    rintro e w2 ⟨y, y0, y1, rfl, hc2, ho2⟩
    clear hc1
    go_wp2_with fail
    refine (HB.out _ hc2).mono ?_
    rintro e w3 ⟨z, z0, z1, rfl, hc3, ho3⟩
    clear hc2
    go_wp2_with fail
    refine (HB.out _ hc3).mono ?_
    rintro e w4 ⟨u, u0, u1, rfl, hc4, ho4⟩
    clear hc3
    go_wp2
    go_ret
    exact ⟨_, Int.emod_nonneg _ (by omega), Or.inl (Int.emod_lt_of_pos _ (by omega)), rfl, hc4, ((ho1.trans ho2).trans ho3).trans ho4⟩

def OncePost (B : Nat) (a : Option Addr) (n c g : Nat) (W0 w : World) (e : Ending) (w' : World) : Prop := ∃ x : Bool, e = .returned (.bool x) ∧ Cur B a n c g W0 w' ∧ Only g w w'

set_option maxRecDepth 100000 in
set_option maxHeartbeats 400000 in
theorem l1Once (m : Int) (hm : m ≤ 1000000000) (B : Nat) (a : Option Addr) (n c g : Nat) (W0 w : World) (hcode : CodeAt W0 B a n) (hn : n ≤ 1048576) (hcur : Cur B a n c g W0 w) :
    Calls Tryz.prog 91 #[.pointer (some ⟨g, 0, none⟩), .int .i64 m] w (OncePost B a n c g W0 w) := by
  have HB := Lib.hid (l1Below m hm B a n c g W0 w hcode hn hcur)
  clear hcode hcur
  go_enter Tryz.func91, Tryz.ntmps91
  go_wp2_with fail
  refine HB.out.mono ?_
  rintro e w1 ⟨x, x0, x1, rfl, hc1, ho1⟩
  go_wp2
  go_ret
  exact ⟨_, rfl, hc1, ho1⟩
end Go.Proofs.YtalclebehbdliaaGreat
namespace Go.Proofs.YtalclebehbdliaaGreat
open Go Go.RowKit

def NewPost (B : Nat) (a : Option Addr) (n c : Nat) (W0 : World) (e : Ending) (w' : World) : Prop := ∃ g, e = .returned (.pointer (some ⟨g, 0, none⟩)) ∧ Cur B a n c g W0 w' ∧ g < w'.heap.size

theorem codeAt_pos {W0 : World} {B : Nat} {a : Option Addr} {n : Nat} (h : CodeAt W0 B a n) (hn : 0 < n) : ∃ b off, a = some ⟨b, off, none⟩ ∧ b < B ∧ ∀ k, k < n → ∃ z, 0 ≤ z ∧ z ≤ 255 ∧ W0.cell? ⟨b, off + k, none⟩ = some (.int .u8 z) := by
  obtain ⟨b, off, _, ha, hb, _⟩ := h 0 hn
  refine ⟨b, off, ha, hb, fun k hk => ?_⟩
  obtain ⟨b', off', z, ha', _, z0, z1, hz⟩ := h k hk
  rw [ha] at ha'
  injection ha' with h1
  injection h1 with h2 h3
  subst h2; subst h3
  exact ⟨z, z0, z1, hz⟩

set_option maxRecDepth 100000 in
set_option maxHeartbeats 1600000 in
theorem l1New (B : Nat) (a : Option Addr) (n c : Nat) (W0 w : World) (hcode : CodeAt W0 B a n) (hn : n ≤ 1048576) (hb : Below B W0 w) (hB : B ≤ w.heap.size) :
    Calls Tryz.prog 32 #[.slice a n c] w (NewPost B a n c W0) := by
  rcases Nat.eq_zero_or_pos n with h0 | h0
  · subst h0
    clear hcode
    go_enter Tryz.func32, Tryz.ntmps32
    go_wp2
    refine wp_loop_rounds 1 ?_
    rw [rounds_succ]
    go_wp2
    go_ret
    exact ⟨w.heap.size, rfl, ⟨hb.alloc hB _, by simp; omega, hB, 0, _, Nat.le_refl _, heap_alloc_new w _⟩, by simp⟩
  · obtain ⟨b, off, rfl, hbB, hz⟩ := codeAt_pos hcode h0
    have HZ := Lib.hid hz
    clear hz hcode
    go_enter Tryz.func32, Tryz.ntmps32
    go_wp2
    go_loop [3, 4] (fun h i => ∃ (x : Int) (k : Nat), k ≤ n ∧ h = .int .i64 x ∧ i = .int .i64 k) (fun _ i => n - (intOf i).toNat)
    case atStart => exact ⟨_, 0, Nat.zero_le _, rfl, rfl⟩
    case round =>
      obtain ⟨x, k, hk, rfl, rfl⟩ := hrel
      by_cases hlt : k < n
      · by_cases h4 : k < 4000
        · obtain ⟨z, z0, z1, hz⟩ := HZ.out k hlt
          have hzw : w.cell? ⟨b, off + k, none⟩ = some (.int .u8 z) := (hb.cell (p := ⟨b, off + k, none⟩) hbB).trans hz
          clear hz
          have g1 : decide ((k : Int) < 4000) = true := by simp; omega
          have g2 : decide (k < n) = true := by simpa using hlt
          go_wp2
          go_round
          case rel => exact ⟨_, k + 1, by omega, rfl, by go_num⟩
          case measure => simp [intOf]; omega
        · have g1 : decide ((k : Int) < 4000) = false := by simp; omega
          have g2 : decide (k < n) = true := by simpa using hlt
          go_wp2
          go_ret
          exact ⟨w.heap.size, rfl, ⟨hb.alloc hB _, by simp; omega, hB, 0, _, Nat.zero_le _, heap_alloc_new w _⟩, by simp⟩
      · have g2 : decide (k < n) = false := by simpa using hlt
        go_wp2
        go_ret
        exact ⟨w.heap.size, rfl, ⟨hb.alloc hB _, by simp; omega, hB, 0, _, Nat.zero_le _, heap_alloc_new w _⟩, by simp⟩
end Go.Proofs.YtalclebehbdliaaGreat
namespace Go.Proofs.YtalclebehbdliaaGreat
open Go Go.RowKit

/-- A list of strings in a new block. -/
theorem strsAt_new (w : World) (xs : List ByteArray) (t : TypeId) : StrsAt (w.alloc (.cells (xs.map Value.string).toArray t)) w.heap.size 0 xs := by
  intro k hk
  rw [Nat.zero_add, World.cell?_alloc_mark]
  simp [List.getD, List.getElem?_eq_getElem hk]
/-- From ⟨b, 0⟩ on the cells hold the ints zs. -/
def NumsAt (w : World) (b : Nat) (zs : List Int) : Prop := ∀ k, k < zs.length → w.cell? ⟨b, k, none⟩ = some (.int .i64 (zs.getD k 0))
theorem intsAt_new (w : World) (zs : List Int) (t : TypeId) : NumsAt (w.alloc (.cells (zs.map (Value.int .i64)).toArray t)) w.heap.size zs := by
  intro k hk
  rw [World.cell?_alloc_mark]
  simp [List.getD, List.getElem?_eq_getElem hk]

def PickPost (xs : List ByteArray) (B : Nat) (a : Option Addr) (n c g : Nat) (W0 w : World) (e : Ending) (w' : World) : Prop := ∃ k, k < xs.length ∧ e = .returned (.string (xs.getD k ByteArray.empty)) ∧ Cur B a n c g W0 w' ∧ Only g w w'

set_option maxRecDepth 100000 in
set_option maxHeartbeats 400000 in
theorem l1Pick (b d : Nat) (xs : List ByteArray) (hx0 : 0 < xs.length) (hx : xs.length ≤ 1000000) (B : Nat) (a : Option Addr) (n c g : Nat) (W0 w : World) (hcode : CodeAt W0 B a n) (hn : n ≤ 1048576) (hcur : Cur B a n c g W0 w) (hst : StrsAt w b 0 xs) (hbg : b ≠ g) :
    Calls Tryz.prog 76 #[.pointer (some ⟨g, 0, none⟩), .slice (some ⟨b, 0, none⟩) xs.length d] w (PickPost xs B a n c g W0 w) := by
  have HB := Lib.hid (l1Below xs.length (by omega) B a n c g W0 w hcode hn hcur)
  have HS := Lib.hid hst
  clear hcode hcur hst
  go_enter Tryz.func76, Tryz.ntmps76
  go_wp2_with fail
  refine HB.out.mono ?_
  rintro e w1 ⟨x, x0, x1, rfl, hc1, ho1⟩
  obtain ⟨k, rfl⟩ := Int.eq_ofNat_of_zero_le x0
  have hk : k < xs.length := by omega
  have hcell : w1.cell? ⟨b, k, none⟩ = some (.string (xs.getD k ByteArray.empty)) := by
    rw [ho1.cell (p := ⟨b, k, none⟩) hbg, ← HS.out k hk, Nat.zero_add]
  have HX : Hid (∃ x, xs.getD k ByteArray.empty = x) := ⟨_, rfl⟩
  obtain ⟨s, hs⟩ := HX.out
  rw [hs] at hcell
  have HE := Lib.hid hs
  clear hs
  go_wp2
  go_ret
  exact ⟨k, hk, by rw [HE.out]; rfl, hc1, ho1⟩

def PickIntPost (zs : List Int) (B : Nat) (a : Option Addr) (n c g : Nat) (W0 w : World) (e : Ending) (w' : World) : Prop := ∃ k, k < zs.length ∧ e = .returned (.int .i64 (zs.getD k 0)) ∧ Cur B a n c g W0 w' ∧ Only g w w'

set_option maxRecDepth 100000 in
set_option maxHeartbeats 400000 in
theorem l1PickInt (b d : Nat) (zs : List Int) (hx0 : 0 < zs.length) (hx : zs.length ≤ 1000000) (B : Nat) (a : Option Addr) (n c g : Nat) (W0 w : World) (hcode : CodeAt W0 B a n) (hn : n ≤ 1048576) (hcur : Cur B a n c g W0 w) (hst : NumsAt w b zs) (hbg : b ≠ g) :
    Calls Tryz.prog 35 #[.pointer (some ⟨g, 0, none⟩), .slice (some ⟨b, 0, none⟩) zs.length d] w (PickIntPost zs B a n c g W0 w) := by
  have HB := Lib.hid (l1Below zs.length (by omega) B a n c g W0 w hcode hn hcur)
  have HS := Lib.hid hst
  clear hcode hcur hst
  go_enter Tryz.func35, Tryz.ntmps35
  go_wp2_with fail
  refine HB.out.mono ?_
  rintro e w1 ⟨x, x0, x1, rfl, hc1, ho1⟩
  obtain ⟨k, rfl⟩ := Int.eq_ofNat_of_zero_le x0
  have hk : k < zs.length := by omega
  have hcell : w1.cell? ⟨b, k, none⟩ = some (.int .i64 (zs.getD k 0)) := by
    rw [ho1.cell (p := ⟨b, k, none⟩) hbg, ← HS.out k hk]
  have HX : Hid (∃ x, zs.getD k 0 = x) := ⟨_, rfl⟩
  obtain ⟨s, hs⟩ := HX.out
  rw [hs] at hcell
  have HE := Lib.hid hs
  clear hs
  go_wp2
  go_ret
  exact ⟨k, hk, by rw [HE.out]; rfl, hc1, ho1⟩
end Go.Proofs.YtalclebehbdliaaGreat
namespace Go.Proofs.YtalclebehbdliaaGreat
open Go Go.RowKit

/-! ### Tables -/

def rowOk (n : Nat) (r : List Int) : Bool := decide (r.length = n) && r.all fun x => decide (0 ≤ x ∧ x ≤ 1000000)
def isMat (m : List (List Int)) : Bool := (m.all (rowOk m.length)) && decide (1 ≤ m.length ∧ m.length ≤ 9)
def cellOf (m : List (List Int)) (i j : Nat) : Int := (m.getD i []).getD j 0
theorem rowOk_iff {n : Nat} {r : List Int} : rowOk n r = true ↔ r.length = n ∧ ∀ k, k < r.length → 0 ≤ r.getD k 0 ∧ r.getD k 0 ≤ 1000000 := by
  unfold rowOk
  rw [Bool.and_eq_true, decide_eq_true_iff, List.all_eq_true]
  constructor
  · rintro ⟨h1, h2⟩
    refine ⟨h1, fun k hk => ?_⟩
    have := h2 r[k] (List.getElem_mem hk)
    simp only [decide_eq_true_eq] at this
    simpa [List.getD, hk] using this
  · rintro ⟨h1, h2⟩
    refine ⟨h1, fun x hx => ?_⟩
    obtain ⟨k, hk, rfl⟩ := List.getElem_of_mem hx
    have := h2 k hk
    simp only [decide_eq_true_eq]
    simpa [List.getD, hk] using this
theorem isMat_iff {m : List (List Int)} : isMat m = true ↔ (1 ≤ m.length ∧ m.length ≤ 9) ∧ ∀ i, i < m.length → (m.getD i []).length = m.length ∧ ∀ j, j < m.length → 0 ≤ cellOf m i j ∧ cellOf m i j ≤ 1000000 := by
  unfold isMat
  rw [Bool.and_eq_true, decide_eq_true_iff, List.all_eq_true, and_comm]
  refine and_congr_right fun _ => ⟨fun h i hi => ?_, fun h r hr => ?_⟩
  · have := rowOk_iff.1 (h m[i] (List.getElem_mem hi))
    have e : m.getD i [] = m[i] := by simp [List.getD, hi]
    unfold cellOf
    rw [e]
    exact ⟨this.1, fun j hj => this.2 j (by rw [this.1]; exact hj)⟩
  · obtain ⟨i, hi, rfl⟩ := List.getElem_of_mem hr
    have e : m.getD i [] = m[i] := by simp [List.getD, hi]
    have := h i hi
    unfold cellOf at this
    rw [e] at this
    exact rowOk_iff.2 ⟨this.1, fun k hk => this.2 k (by rw [← this.1]; exact hk)⟩

/-- f 0 + .. + f (n - 1). -/
def sumTo : Nat → (Nat → Int) → Int
  | 0, _ => 0
  | n + 1, f => sumTo n f + f n
theorem sumTo_congr {f g : Nat → Int} : ∀ (n : Nat), (∀ k, k < n → f k = g k) → sumTo n f = sumTo n g
  | 0, _ => rfl
  | n + 1, h => by rw [sumTo, sumTo, sumTo_congr n (fun k hk => h k (by omega)), h n (by omega)]
theorem sumTo_le {f : Nat → Int} {B : Int} : ∀ (n : Nat), (∀ k, k < n → 0 ≤ f k ∧ f k ≤ B) → 0 ≤ sumTo n f ∧ sumTo n f ≤ n * B
  | 0, _ => ⟨Int.le_refl _, by simp [sumTo]⟩
  | n + 1, h => by
    obtain ⟨h1, h2⟩ := sumTo_le n (fun k hk => h k (by omega))
    obtain ⟨h3, h4⟩ := h n (by omega)
    rw [sumTo]
    refine ⟨by omega, ?_⟩
    have : ((n + 1 : Nat) : Int) * B = n * B + B := by rw [Int.natCast_succ, Int.add_mul, Int.one_mul]
    omega
/-- A table by its numbers. -/
def tabOf (n m : Nat) (f : Nat → Nat → Int) : List (List Int) := (List.range n).map fun i => (List.range m).map (f i)
theorem tabOf_length (n m : Nat) (f : Nat → Nat → Int) : (tabOf n m f).length = n := by simp [tabOf]
theorem tabOf_row {n m : Nat} {f : Nat → Nat → Int} {i : Nat} (hi : i < n) : (tabOf n m f).getD i [] = (List.range m).map (f i) := by simp [tabOf, List.getD, hi]
theorem tabOf_cell {n m : Nat} {f : Nat → Nat → Int} {i j : Nat} (hi : i < n) (hj : j < m) : cellOf (tabOf n m f) i j = f i j := by
  unfold cellOf
  rw [tabOf_row hi]
  simp [List.getD, hj]
theorem tabOf_congr {n m : Nat} {f g : Nat → Nat → Int} (h : ∀ i j, i < n → j < m → f i j = g i j) : tabOf n m f = tabOf n m g := by
  unfold tabOf
  refine List.map_congr_left fun i hi => List.map_congr_left fun j hj => ?_
  exact h i j (List.mem_range.1 hi) (List.mem_range.1 hj)
theorem tabOf_self {m : List (List Int)} {n : Nat} (h : ∀ i, i < m.length → (m.getD i []).length = n) : tabOf m.length n (cellOf m) = m := by
  refine List.ext_getElem (tabOf_length _ _ _) fun i h1 h2 => ?_
  have hr := h i h2
  have e : m.getD i [] = m[i] := by simp [List.getD, h2]
  have e1 : (tabOf m.length n (cellOf m))[i] = (List.range n).map (cellOf m i) := by simp [tabOf]
  rw [e1]
  rw [e] at hr
  refine List.ext_getElem (by simp [hr]) fun j k1 k2 => ?_
  simp [cellOf, List.getD, h2, k2]
def mulM (a b : List (List Int)) : List (List Int) := tabOf a.length b.length fun i j => sumTo b.length fun k => cellOf a i k * cellOf b k j
def oneM (n : Nat) : List (List Int) := tabOf n n fun i j => if i = j then 1 else 0
def turnM (m : List (List Int)) : List (List Int) := tabOf m.length m.length fun i j => cellOf m j i
/-- The product of two matrices, where there is one. -/
def prodM (a b : List (List Int)) : Option (List (List Int)) := if isMat a && isMat b && decide (a.length = b.length) && isMat (mulM a b) then some (mulM a b) else none
/-- The products of k times m, made one after the other. -/
def powM (m : List (List Int)) : Nat → Option (List (List Int))
  | 0 => some (oneM m.length)
  | k + 1 => (powM m k).bind fun p => prodM p m
def traceM (m : List (List Int)) : Int := if isMat m then sumTo m.length fun k => cellOf m k k else -1
def sumM (m : List (List Int)) : Int := if isMat m then sumTo m.length fun i => sumTo m.length fun j => cellOf m i j else -1

theorem prodM_some {a b c : List (List Int)} (h : prodM a b = some c) : isMat a = true ∧ isMat b = true ∧ a.length = b.length ∧ isMat c = true ∧ c = mulM a b := by
  unfold prodM at h
  split at h
  · next hc =>
    rw [Bool.and_eq_true, Bool.and_eq_true, Bool.and_eq_true, decide_eq_true_iff] at hc
    obtain ⟨⟨⟨h1, h2⟩, h3⟩, h4⟩ := hc
    obtain rfl := Option.some.inj h
    exact ⟨h1, h2, h3, h4, rfl⟩
  · cases h
theorem oneM_isMat {n : Nat} (h1 : 1 ≤ n) (h2 : n ≤ 9) : isMat (oneM n) = true := by
  have hl : (oneM n).length = n := tabOf_length _ _ _
  refine isMat_iff.2 ⟨by omega, fun i hi => ⟨?_, fun j hj => ?_⟩⟩
  · rw [hl] at hi
    unfold oneM; rw [tabOf_row hi, List.length_map, List.length_range, tabOf_length]
  · rw [hl] at hi hj
    unfold oneM
    rw [tabOf_cell hi hj]
    split <;> omega
theorem powM_length {m : List (List Int)} : ∀ (k : Nat) {p : List (List Int)}, powM m k = some p → p.length = m.length
  | 0, p, h => by
    obtain rfl := Option.some.inj h
    exact tabOf_length _ _ _
  | k + 1, p, h => by
    rw [powM] at h
    obtain ⟨q, hq, hp⟩ := Option.bind_eq_some_iff.1 h
    obtain ⟨_, _, h3, _, rfl⟩ := prodM_some hp
    unfold mulM
    rw [tabOf_length, powM_length k hq]
theorem powM_isMat {m : List (List Int)} (hm : isMat m = true) : ∀ (k : Nat) {p : List (List Int)}, powM m k = some p → isMat p = true
  | 0, p, h => by
    obtain rfl := Option.some.inj h
    obtain ⟨⟨h1, h2⟩, _⟩ := isMat_iff.1 hm
    exact oneM_isMat h1 h2
  | k + 1, p, h => by
    rw [powM] at h
    obtain ⟨q, hq, hp⟩ := Option.bind_eq_some_iff.1 h
    exact (prodM_some hp).2.2.2.1
theorem powM_stuck {m : List (List Int)} {k : Nat} (h : powM m k = none) : ∀ (n : Nat), k ≤ n → powM m n = none := by
  intro n hn
  induction n with
  | zero => obtain rfl : k = 0 := by omega
            exact h
  | succ n ih =>
    by_cases hk : k = n + 1
    · subst hk; exact h
    · rw [powM, ih (by omega)]; rfl
end Go.Proofs.YtalclebehbdliaaGreat
namespace Go.Proofs.YtalclebehbdliaaGreat
open Go Go.RowKit

/-- From ⟨b, off⟩ on the cells hold the numbers xs. -/
def IntsAt (w : World) (b off : Nat) (xs : List Int) : Prop := ∀ k, k < xs.length → w.cell? ⟨b, off + k, none⟩ = some (.int .i64 (xs.getD k 0))
theorem IntsAt.below {B b off : Nat} {w w' : World} {xs : List Int} (h : IntsAt w b off xs) (hb : Below B w w') (hlt : b < B) : IntsAt w' b off xs :=
  fun k hk => (hb.cell (p := ⟨b, off + k, none⟩) hlt).trans (h k hk)
theorem IntsAt.of_owns {w : World} {base e g n cap : Nat} {xs : List Int} (h : w.ownsRow base e 1 (.slice (some ⟨g, 0, none⟩) n cap) n (xs.map (Value.int .i64))) (hn : n = xs.length) : IntsAt w g 0 xs := by
  intro k hk
  rw [Nat.zero_add, h.cellAt k (by omega)]
  simp [List.getD, List.getElem?_eq_getElem hk]
/-- The slice A holds the numbers xs. -/
def RowS (w : World) (A : Option Addr) (xs : List Int) : Prop := 0 < xs.length → ∃ b off, A = some ⟨b, off, none⟩ ∧ IntsAt w b off xs ∧ b < w.heap.size
theorem RowS.below {w w' : World} {A : Option Addr} {xs : List Int} (h : RowS w A xs) (hb : Below w.heap.size w w') : RowS w' A xs := by
  intro hp
  obtain ⟨b, off, hA, hs, hg⟩ := h hp
  exact ⟨b, off, hA, hs.below hb hg, Nat.lt_of_lt_of_le hg hb.size⟩
/-- From ⟨b, off⟩ on the cells hold slices, each of a row of m. -/
def GridAt (w : World) (b off : Nat) (m : List (List Int)) : Prop := ∀ k, k < m.length → ∃ A c, w.cell? ⟨b, off + k, none⟩ = some (.slice A (m.getD k []).length c) ∧ RowS w A (m.getD k [])
theorem GridAt.below {b off : Nat} {w w' : World} {m : List (List Int)} (h : GridAt w b off m) (hb : Below w.heap.size w w') (hlt : b < w.heap.size) : GridAt w' b off m := by
  intro k hk
  obtain ⟨A, c, hc, hr⟩ := h k hk
  exact ⟨A, c, (hb.cell (p := ⟨b, off + k, none⟩) hlt).trans hc, hr.below hb⟩
/-- The slice A holds the table m. -/
def GridS (w : World) (A : Option Addr) (m : List (List Int)) : Prop := 0 < m.length → ∃ b off, A = some ⟨b, off, none⟩ ∧ GridAt w b off m ∧ b < w.heap.size
theorem GridS.below {w w' : World} {A : Option Addr} {m : List (List Int)} (h : GridS w A m) (hb : Below w.heap.size w w') : GridS w' A m := by
  intro hp
  obtain ⟨b, off, hA, hs, hg⟩ := h hp
  exact ⟨b, off, hA, hs.below hb hg, Nat.lt_of_lt_of_le hg hb.size⟩
theorem GridS.nil (w : World) (A : Option Addr) : GridS w A [] := fun h => by simp at h
/-- Row k of a table in memory. -/
theorem GridS.row {w : World} {A : Option Addr} {m : List (List Int)} (h : GridS w A m) {k : Nat} (hk : k < m.length) :
    ∃ b off A' c, A = some ⟨b, off, none⟩ ∧ w.cell? ⟨b, off + k, none⟩ = some (.slice A' (m.getD k []).length c) ∧ RowS w A' (m.getD k []) ∧ b < w.heap.size := by
  obtain ⟨b, off, hA, hs, hg⟩ := h (by omega)
  obtain ⟨A', c, hc, hr⟩ := hs k hk
  exact ⟨b, off, A', c, hA, hc, hr, hg⟩

/-- How many numbers a table has. -/
def tot (m : List (List Int)) : Nat := (m.map List.length).sum
theorem rows_take_next (m : List (List Int)) (k : Nat) (h : k < m.length) : m.take (k + 1) = m.take k ++ [m.getD k []] := by
  rw [List.take_succ_eq_append_getElem h]
  simp [List.getD, List.getElem?_eq_getElem h]
theorem tot_next (m : List (List Int)) (k : Nat) (h : k < m.length) : tot (m.take (k + 1)) = tot (m.take k) + (m.getD k []).length := by
  rw [rows_take_next m k h]; simp [tot]
theorem tot_take_le (m : List (List Int)) (k : Nat) : tot (m.take k) ≤ tot m := by
  have h2 : tot (m.take k ++ m.drop k) = tot (m.take k) + tot (m.drop k) := by simp only [tot, List.map_append, List.sum_append]
  rw [List.take_append_drop] at h2
  omega
theorem row_le_tot {m : List (List Int)} {k : Nat} (h : k < m.length) : (m.getD k []).length ≤ tot m := by
  have := tot_next m k h
  have := tot_take_le m (k + 1)
  omega
theorem tot_all {m : List (List Int)} {k : Nat} (h : m.length ≤ k) : tot (m.take k) = tot m := by rw [List.take_of_length_le h]

/-- Of what was there only blocks from B on and below S have turned. -/
structure Within (B S : Nat) (w w' : World) : Prop where
  os : w'.os = w.os
  tape : w'.tape = w.tape
  output : w'.output = w.output
  size : w.heap.size ≤ w'.heap.size
  block : ∀ k, k < w.heap.size → k < B ∨ S ≤ k → w'.heap[k]? = w.heap[k]?
namespace Within
variable {B S : Nat} {w w' w'' : World}
theorem refl (B S : Nat) (w : World) : Within B S w w := ⟨rfl, rfl, rfl, Nat.le_refl _, fun _ _ _ => rfl⟩
theorem trans (h : Within B S w w') (k : Within B S w' w'') : Within B S w w'' :=
  ⟨k.os.trans h.os, k.tape.trans h.tape, k.output.trans h.output, Nat.le_trans h.size k.size, fun j hj hn => (k.block j (Nat.lt_of_lt_of_le hj h.size) hn).trans (h.block j hj hn)⟩
theorem mono {B' S' : Nat} (h : Within B S w w') (hB : B' ≤ B) (hS : S ≤ S') : Within B' S' w w' :=
  ⟨h.os, h.tape, h.output, h.size, fun k hk hn => h.block k hk (by omega)⟩
theorem of_grown {r : Option Nat} (h : w.grownBy w' r) (hr : ∀ g, r = some g → B ≤ g ∧ g < S) : Within B S w w' :=
  ⟨h.os, h.tape, h.output, h.size, fun k hk hn => h.block k hk (by
    intro e
    have := hr k e.symm
    omega)⟩
theorem of_below (h : Below w.heap.size w w') : Within B S w w' := ⟨h.os, h.tape, h.output, h.size, fun k hk _ => h.block k hk⟩
theorem below (h : Within B S w w') (hB : B ≤ w.heap.size) : Below B w w' := ⟨h.os, h.tape, h.output, h.size, fun k hk => h.block k (by omega) (Or.inl hk)⟩
theorem cell (h : Within B S w w') {p : Addr} (hp : p.block < B ∨ S ≤ p.block) (hl : p.block < w.heap.size) : w'.cell? p = w.cell? p := by
  have hb := h.block p.block hl hp
  unfold World.cell?
  rw [hb]
theorem ints (h : Within B S w w') {b off : Nat} {xs : List Int} (hi : IntsAt w b off xs) (hb : b < w.heap.size) (hn : b < B ∨ S ≤ b) : IntsAt w' b off xs :=
  fun k hk => (h.cell (p := ⟨b, off + k, none⟩) hn hb).trans (hi k hk)
end Within
end Go.Proofs.YtalclebehbdliaaGreat
namespace Go.Proofs.YtalclebehbdliaaGreat
open Go Go.RowKit

theorem infoInt : (Tryz.prog.info? 3).map (fun i => (i.zero, i.size, i.bytes)) = some (some (.int .i64 0), 1, 8) := by kernel_rfl
theorem infoSl : (Tryz.prog.info? 56).map (fun i => (i.zero, i.size, i.bytes)) = some (some (.slice none 0 0), 1, 24) := by kernel_rfl

def TrueBelowG (w : World) (e : Ending) (w' : World) : Prop := e = .returned (.bool true) ∧ Below w.heap.size w w'
/-- What is left of the limit, or -1. -/
def LeftPost (L : Int) (n : Nat) (w : World) (e : Ending) (w' : World) : Prop := ∃ r : Int, e = .returned (.int .i64 r) ∧ (r = -1 ∨ (0 ≤ r ∧ r + n = L)) ∧ w' = w

/-- What is left of the limit behind a table, or -1. -/
def SzGPost (L : Int) (m : List (List Int)) (w : World) (e : Ending) (w' : World) : Prop := ∃ r : Int, e = .returned (.int .i64 r) ∧ (r = -1 ∨ (0 ≤ r ∧ r + m.length + tot m = L)) ∧ w' = w

/-- A row that is being filled from the front. -/
def filledI (xs : List Int) (k n : Nat) : List Value := (xs.take k).map (Value.int .i64) ++ List.replicate (n - k) (.int .i64 0)
theorem filledI_none (xs : List Int) (n : Nat) : filledI xs 0 n = List.replicate n (.int .i64 0) := by simp [filledI]
theorem filledI_all (xs : List Int) : filledI xs xs.length xs.length = xs.map (Value.int .i64) := by simp [filledI]
theorem ints_take_next (xs : List Int) (k : Nat) (h : k < xs.length) : xs.take (k + 1) = xs.take k ++ [xs.getD k 0] := by
  rw [List.take_succ_eq_append_getElem h]
  simp [List.getD, List.getElem?_eq_getElem h]
theorem filledI_set (xs : List Int) (k : Nat) (h : k < xs.length) : (filledI xs k xs.length).set k (.int .i64 (xs.getD k 0)) = filledI xs (k + 1) xs.length := by
  have hl : ((xs.take k).map (Value.int .i64)).length = k := by simp; omega
  have hr : List.replicate (xs.length - k) (Value.int .i64 0) = .int .i64 0 :: List.replicate (xs.length - (k + 1)) (.int .i64 0) := by
    rw [show xs.length - k = (xs.length - (k + 1)) + 1 by omega, List.replicate_succ]
  unfold filledI
  rw [ints_take_next xs k h, List.map_append, hr]
  rw [List.set_append_right _ _ (by omega), hl, Nat.sub_self]
  simp
theorem filledI_at (xs : List Int) (k : Nat) (h : k < xs.length) : (filledI xs k xs.length)[k]? = some (.int .i64 0) := by
  have hl : ((xs.take k).map (Value.int .i64)).length = k := by simp; omega
  unfold filledI
  rw [List.getElem?_append_right (by omega), hl, Nat.sub_self]
  rw [List.getElem?_replicate, if_pos (by omega)]

/-- A copy in new memory, at the heap's end. -/
def CopyIPost (xs : List Int) (w : World) (e : Ending) (w' : World) : Prop :=
  e = .returned (.slice (some ⟨w.heap.size, 0, none⟩) xs.length xs.length) ∧ w'.ownsRow w.heap.size 3 1 (.slice (some ⟨w.heap.size, 0, none⟩) xs.length xs.length) xs.length (xs.map (Value.int .i64)) ∧ Below w.heap.size w w' ∧ w.heap.size < w'.heap.size

end Go.Proofs.YtalclebehbdliaaGreat
namespace Go.Proofs.YtalclebehbdliaaGreat
open Go Go.RowKit

/-- The values vs are slices of the rows of m, each in a block of its own from B on, none in the block ob. -/
structure RowsOwn (w : World) (B : Nat) (ob : Option Nat) (vs : List Value) (m : List (List Int)) : Prop where
  len : vs.length = m.length
  row : ∀ (k : Nat) (r : Value), vs[k]? = some r → w.ownsRow B 3 1 r (m.getD k []).length ((m.getD k []).map (Value.int .i64)) ∧ (r.ownBlock = none ∨ r.ownBlock ≠ ob)
  two : ∀ (j k : Nat) (r s : Value), j < k → vs[j]? = some r → vs[k]? = some s → r.ownBlock = none ∨ r.ownBlock ≠ s.ownBlock
namespace RowsOwn
variable {w w' : World} {B : Nat} {ob : Option Nat} {vs : List Value} {m : List (List Int)}
theorem nil (w : World) (B : Nat) (ob : Option Nat) : RowsOwn w B ob [] [] := ⟨rfl, fun k r h => by simp at h, fun j k r s _ h => by simp at h⟩
theorem kept (h : RowsOwn w B ob vs m) {o : Option Nat} (hg : w.grownBy w' o) (hne : ∀ (k : Nat) (r : Value), vs[k]? = some r → r.ownBlock = none ∨ r.ownBlock ≠ o) : RowsOwn w' B ob vs m :=
  ⟨h.len, fun k r hk => ⟨(h.row k r hk).1.kept hg (hne k r hk), (h.row k r hk).2⟩, h.two⟩
theorem keptOuter (h : RowsOwn w B ob vs m) (hg : w.grownBy w' ob) : RowsOwn w' B ob vs m := h.kept hg fun k r hk => (h.row k r hk).2
theorem lt (h : RowsOwn w B ob vs m) {k : Nat} {r : Value} (hk : vs[k]? = some r) : ∀ g, r.ownBlock = some g → B ≤ g ∧ g < w.heap.size := (h.row k r hk).1.lt
theorem below (h : RowsOwn w B ob vs m) (hb : Below w.heap.size w w') : RowsOwn w' B ob vs m :=
  h.kept (o := none) ⟨hb.os, hb.tape, hb.output, hb.size, fun j hj _ => hb.block j hj⟩ fun k r _ => by
    cases e : r.ownBlock with
    | none => exact Or.inl rfl
    | some g => exact Or.inr (by intro h; cases h)
/-- The outer block has moved to new memory. -/
theorem moved (h : RowsOwn w B ob vs m) {ob' : Option Nat} (hn : ob' = ob ∨ ∀ g, ob' = some g → w.heap.size ≤ g) : RowsOwn w B ob' vs m := by
  refine ⟨h.len, fun k r hk => ⟨(h.row k r hk).1, ?_⟩, h.two⟩
  rcases hn with rfl | hn
  · exact (h.row k r hk).2
  · cases e : r.ownBlock with
    | none => exact Or.inl rfl
    | some g =>
      refine Or.inr fun e2 => ?_
      have := hn g e2.symm
      have := (h.lt hk g e).2
      omega
theorem push (h : RowsOwn w B ob vs m) {r : Value} {xs : List Int} (hr : w.ownsRow B 3 1 r xs.length (xs.map (Value.int .i64))) (h1 : r.ownBlock = none ∨ r.ownBlock ≠ ob)
    (h2 : ∀ (k : Nat) (s : Value), vs[k]? = some s → s.ownBlock = none ∨ s.ownBlock ≠ r.ownBlock) : RowsOwn w B ob (vs ++ [r]) (m ++ [xs]) := by
  have hl := h.len
  refine ⟨by simp [hl], fun k s hk => ?_, fun j k s t hjk hj hk => ?_⟩
  · by_cases hlt : k < vs.length
    · rw [List.getElem?_append_left hlt] at hk
      have e : (m ++ [xs]).getD k [] = m.getD k [] := by simp [List.getD, List.getElem?_append_left (show k < m.length by omega)]
      rw [e]
      exact h.row k s hk
    · have hk2 : k = vs.length := by
        have := (List.getElem?_eq_some_iff.1 hk).1
        simp at this; omega
      subst hk2
      rw [List.getElem?_append_right (Nat.le_refl _), Nat.sub_self] at hk
      obtain rfl : r = s := by simpa using hk
      have e : (m ++ [xs]).getD vs.length [] = xs := by simp [List.getD, hl]
      rw [e]
      exact ⟨hr, h1⟩
  · by_cases hlt : k < vs.length
    · rw [List.getElem?_append_left hlt] at hk
      rw [List.getElem?_append_left (by omega)] at hj
      exact h.two j k s t hjk hj hk
    · have hk2 : k = vs.length := by
        have := (List.getElem?_eq_some_iff.1 hk).1
        simp at this; omega
      subst hk2
      rw [List.getElem?_append_right (Nat.le_refl _), Nat.sub_self] at hk
      obtain rfl : r = t := by simpa using hk
      rw [List.getElem?_append_left hjk] at hj
      exact h2 j s hj
/-- One row has turned. -/
theorem setRow (h : RowsOwn w B ob vs m) {k : Nat} {r : Value} (hk : vs[k]? = some r) {xs : List Int} (hx : xs.length = (m.getD k []).length) (hr : w'.ownsRow B 3 1 r xs.length (xs.map (Value.int .i64))) (hg : w.grownBy w' r.ownBlock) : RowsOwn w' B ob vs (m.set k xs) := by
  have hl := h.len
  have hkl := (List.getElem?_eq_some_iff.1 hk).1
  refine ⟨by simp [hl], fun j s hj => ?_, h.two⟩
  have hjl := (List.getElem?_eq_some_iff.1 hj).1
  by_cases hjk : j = k
  · subst hjk
    obtain rfl : r = s := by rw [hk] at hj; exact Option.some.inj hj
    have e : (m.set j xs).getD j [] = xs := by simp [List.getD, show j < m.length by omega]
    rw [e]
    exact ⟨hr, (h.row j r hk).2⟩
  · have e : (m.set k xs).getD j [] = m.getD j [] := by simp [List.getD, List.getElem?_set_ne (Ne.symm hjk)]
    rw [e]
    refine ⟨(h.row j s hj).1.kept hg ?_, (h.row j s hj).2⟩
    by_cases hlt : j < k
    · exact h.two j k s r hlt hj hk
    · rcases h.two k j r s (by omega) hk hj with e1 | e1
      · cases e2 : s.ownBlock with
        | none => exact Or.inl rfl
        | some g => exact Or.inr (by rw [e1]; intro h; cases h)
      · exact Or.inr (Ne.symm e1)
end RowsOwn

/-- A table in memory of the call's own, each row in a block of its own. -/
def OwnG (w : World) (B : Nat) (v : Value) (m : List (List Int)) : Prop := ∃ vs, w.ownsRow B 56 1 v m.length vs ∧ RowsOwn w B v.ownBlock vs m
theorem OwnG.below {w w' : World} {B : Nat} {v : Value} {m : List (List Int)} (h : OwnG w B v m) (hb : Below w.heap.size w w') : OwnG w' B v m := by
  obtain ⟨vs, ho, hr⟩ := h
  refine ⟨vs, ho.kept (row := none) ⟨hb.os, hb.tape, hb.output, hb.size, fun j hj _ => hb.block j hj⟩ ?_, hr.below hb⟩
  cases e : v.ownBlock with
  | none => exact Or.inl rfl
  | some g => exact Or.inr (by intro h; cases h)
theorem OwnG.mono {w : World} {B B' : Nat} {v : Value} {m : List (List Int)} (h : OwnG w B v m) (hB : B' ≤ B) : OwnG w B' v m := by
  obtain ⟨vs, ho, hr⟩ := h
  exact ⟨vs, World.ownsRow.mono ho hB, ⟨hr.len, fun k r hk => ⟨World.ownsRow.mono (hr.row k r hk).1 hB, (hr.row k r hk).2⟩, hr.two⟩⟩
/-- What an owned row of numbers reads as. -/
theorem rowS_of_owns {w : World} {B : Nat} {r : Value} {xs : List Int} (h : w.ownsRow B 3 1 r xs.length (xs.map (Value.int .i64))) : ∃ A c, r = .slice A xs.length c ∧ RowS w A xs := by
  rcases h.2 with ⟨rfl, h0⟩ | ⟨g, cap, cur, rfl, _, _, _⟩
  · exact ⟨none, 0, by rw [h0], fun hp => by omega⟩
  · exact ⟨some ⟨g, 0, none⟩, cap, rfl, fun _ => ⟨g, 0, rfl, IntsAt.of_owns h rfl, (h.lt g rfl).2⟩⟩
theorem OwnG.gridS {w : World} {B : Nat} {v : Value} {m : List (List Int)} (h : OwnG w B v m) : ∃ A c, v = .slice A m.length c ∧ GridS w A m := by
  obtain ⟨vs, ho, hr⟩ := h
  rcases ho.2 with ⟨rfl, h0⟩ | ⟨g, cap, cur, rfl, _, _, _⟩
  · exact ⟨none, 0, by rw [h0], fun hp => by omega⟩
  · refine ⟨some ⟨g, 0, none⟩, cap, rfl, fun _ => ⟨g, 0, rfl, fun k hk => ?_, (ho.lt g rfl).2⟩⟩
    have hl := hr.len
    have hk' : vs[k]? = some vs[k] := List.getElem?_eq_getElem (by omega)
    obtain ⟨A, c, e, hs⟩ := rowS_of_owns (hr.row k _ hk').1
    refine ⟨A, c, ?_, hs⟩
    rw [Nat.zero_add, ho.cellAt k (by omega), hk', e]
theorem OwnG.drew {w : World} {B : Nat} {v : Value} {m : List (List Int)} (h : OwnG w B v m) : OwnG w.drew B v m := by
  obtain ⟨vs, ho, hr⟩ := h
  exact ⟨vs, ho, ⟨hr.len, hr.row, hr.two⟩⟩
/-- The same, the rows in blocks below S. -/
def OwnIn (w : World) (B S : Nat) (v : Value) (m : List (List Int)) : Prop := ∃ vs, w.ownsRow B 56 1 v m.length vs ∧ RowsOwn w B v.ownBlock vs m ∧ ∀ (k : Nat) (r : Value) (g : Nat), vs[k]? = some r → r.ownBlock = some g → g < S
theorem OwnG.ownIn {w : World} {B : Nat} {v : Value} {m : List (List Int)} (h : OwnG w B v m) : OwnIn w B w.heap.size v m := by
  obtain ⟨vs, ho, hr⟩ := h
  exact ⟨vs, ho, hr, fun k r g hk hg => (hr.lt hk g hg).2⟩
theorem OwnIn.ownG {w : World} {B S : Nat} {v : Value} {m : List (List Int)} (h : OwnIn w B S v m) : OwnG w B v m := by
  obtain ⟨vs, ho, hr, _⟩ := h
  exact ⟨vs, ho, hr⟩
theorem OwnIn.below {w w' : World} {B S : Nat} {v : Value} {m : List (List Int)} (h : OwnIn w B S v m) (hb : Below w.heap.size w w') : OwnIn w' B S v m := by
  obtain ⟨vs, ho, hr, hs⟩ := h
  refine ⟨vs, ho.kept (row := none) ⟨hb.os, hb.tape, hb.output, hb.size, fun j hj _ => hb.block j hj⟩ ?_, hr.below hb, hs⟩
  cases e : v.ownBlock with
  | none => exact Or.inl rfl
  | some g => exact Or.inr (by intro h; cases h)
theorem slice_of_owns {w : World} {B e n : Nat} {r : Value} {xs : List Value} (h : w.ownsRow B e 1 r n xs) : ∃ A c, r = .slice A n c := by
  rcases h.2 with ⟨rfl, h0⟩ | ⟨g, cap, cur, rfl, _⟩
  · exact ⟨none, 0, by rw [h0]⟩
  · exact ⟨_, cap, rfl⟩
/-- A table of which one row has turned. -/
theorem OwnG.setRow {w w' : World} {B g cap N : Nat} {m : List (List Int)} {vs : List Value} (ho : w.ownsRow B 56 1 (.slice (some ⟨g, 0, none⟩) N cap) N vs) (hr : RowsOwn w B (some g) vs m) {k : Nat} {r : Value} (hk : vs[k]? = some r)
    {xs : List Int} (hx : xs.length = (m.getD k []).length) (hr' : w'.ownsRow B 3 1 r xs.length (xs.map (Value.int .i64))) (hg : w.grownBy w' r.ownBlock) :
    w'.ownsRow B 56 1 (.slice (some ⟨g, 0, none⟩) N cap) N vs ∧ RowsOwn w' B (some g) vs (m.set k xs) := by
  refine ⟨ho.kept hg ?_, hr.setRow hk hx hr' hg⟩
  rcases (hr.row k r hk).2 with e | e
  · rw [e]; exact Or.inr (by intro h; cases h)
  · exact Or.inr (Ne.symm e)
end Go.Proofs.YtalclebehbdliaaGreat
namespace Go.Proofs.YtalclebehbdliaaGreat
open Go Go.RowKit

/-- A copy of a table in new memory, at the heap's end. -/
def CopyGPost (m : List (List Int)) (w : World) (e : Ending) (w' : World) : Prop :=
  e = .returned (.slice (some ⟨w.heap.size, 0, none⟩) m.length m.length) ∧ OwnG w' w.heap.size (.slice (some ⟨w.heap.size, 0, none⟩) m.length m.length) m ∧ Below w.heap.size w w'

/-- The numbers from q on. -/
def marksI (q : Nat) : Nat → List Int
  | 0 => []
  | n + 1 => (q : Int) :: marksI (q + 1) n
theorem marksI_length : ∀ (n q : Nat), (marksI q n).length = n
  | 0, _ => rfl
  | n + 1, q => by rw [marksI, List.length_cons, marksI_length n]
theorem marksI_get : ∀ (n q j : Nat), j < n → (marksI q n).getD j 0 = ((q + j : Nat) : Int)
  | 0, _, j, h => by omega
  | n + 1, q, 0, _ => by simp [marksI]
  | n + 1, q, j + 1, h => by
    rw [marksI, List.getD_cons_succ, marksI_get n (q + 1) j (by omega)]
    congr 1; omega
theorem marksI_next : ∀ (n q : Nat), marksI q (n + 1) = marksI q n ++ [((q + n : Nat) : Int)]
  | 0, q => rfl
  | n + 1, q => by
    rw [marksI, marksI_next n (q + 1), marksI, List.cons_append]
    congr 4; omega
/-- A row that is being marked from the front. -/
def markedI (xs : List Int) (q k : Nat) : List Value := ((marksI q k) ++ xs.drop k).map (Value.int .i64)
theorem markedI_set (xs : List Int) (q k : Nat) (h : k < xs.length) : (markedI xs q k).set k (.int .i64 ((q + k : Nat) : Int)) = markedI xs q (k + 1) := by
  have hl : ((marksI q k).map (Value.int .i64)).length = k := by rw [List.length_map, marksI_length]
  have hd : xs.drop k = xs[k] :: xs.drop (k + 1) := List.drop_eq_getElem_cons h
  unfold markedI
  rw [marksI_next, List.map_append, List.map_append, List.map_append, hd, List.map_cons]
  rw [List.set_append_right _ _ (by omega), hl, Nat.sub_self]
  simp
theorem markedI_at (xs : List Int) (q k : Nat) (h : k < xs.length) : ∃ y, (markedI xs q k)[k]? = some (.int .i64 y) := by
  have hl : (marksI q k).length = k := marksI_length k q
  refine ⟨xs[k], ?_⟩
  unfold markedI
  rw [List.getElem?_map, List.getElem?_append_right (by omega), hl, Nat.sub_self, List.getElem?_drop, Nat.add_zero, List.getElem?_eq_getElem h]
  rfl
theorem markedI_none (xs : List Int) (q : Nat) : markedI xs q 0 = xs.map (Value.int .i64) := by simp [markedI, marksI]
theorem markedI_all (xs : List Int) (q : Nat) : markedI xs q xs.length = (marksI q xs.length).map (Value.int .i64) := by simp [markedI]

/-- The row holds the marks from q on; of what was there no other block has turned. -/
def MarkIPost (B q : Nat) (r : Value) (n : Nat) (w : World) (e : Ending) (w' : World) : Prop :=
  e = .returned (.int .i64 ((q + n : Nat) : Int)) ∧ w'.ownsRow B 3 1 r n ((marksI q n).map (Value.int .i64)) ∧ w.grownBy w' r.ownBlock

/-- The tables of marks: each row goes on where the one before it ended. -/
def marksG : Nat → List (List Int) → List (List Int)
  | _, [] => []
  | q, r :: m => marksI q r.length :: marksG (q + r.length) m
theorem marksG_length : ∀ (m : List (List Int)) (q : Nat), (marksG q m).length = m.length
  | [], _ => rfl
  | r :: m, q => by rw [marksG, List.length_cons, marksG_length m, List.length_cons]
theorem tot_cons (r : List Int) (m : List (List Int)) : tot (r :: m) = r.length + tot m := by simp [tot]
theorem marksG_get : ∀ (m : List (List Int)) (q k : Nat), k < m.length → (marksG q m).getD k [] = marksI (q + tot (m.take k)) (m.getD k []).length
  | [], _, k, h => by simp at h
  | r :: m, q, 0, _ => by simp [marksG, tot]
  | r :: m, q, k + 1, h => by
    rw [marksG, List.getD_cons_succ, marksG_get m (q + r.length) k (by simpa using h), List.getD_cons_succ, List.take_succ_cons, tot_cons]
    congr 1; omega
theorem tot_marksG : ∀ (m : List (List Int)) (q : Nat), tot (marksG q m) = tot m
  | [], _ => rfl
  | r :: m, q => by rw [marksG, tot_cons, tot_cons, marksI_length, tot_marksG m]
/-- A table that is being marked from the front. -/
def markedG (m : List (List Int)) (q k : Nat) : List (List Int) := (marksG q m).take k ++ m.drop k
theorem markedG_length (m : List (List Int)) (q k : Nat) (hk : k ≤ m.length) : (markedG m q k).length = m.length := by
  unfold markedG; simp [marksG_length]; omega
theorem markedG_none (m : List (List Int)) (q : Nat) : markedG m q 0 = m := by simp [markedG]
theorem markedG_all (m : List (List Int)) (q : Nat) : markedG m q m.length = marksG q m := by
  unfold markedG
  rw [List.drop_length, List.append_nil, List.take_of_length_le (by rw [marksG_length]; exact Nat.le_refl _)]
theorem markedG_get (m : List (List Int)) (q k : Nat) (hk : k < m.length) : (markedG m q k).getD k [] = m.getD k [] := by
  unfold markedG
  have hl : ((marksG q m).take k).length = k := by rw [List.length_take, marksG_length]; omega
  simp only [List.getD]
  rw [List.getElem?_append_right (by omega), hl, Nat.sub_self, List.getElem?_drop, Nat.add_zero]
theorem markedG_set (m : List (List Int)) (q k : Nat) (hk : k < m.length) : (markedG m q k).set k (marksI (q + tot (m.take k)) (m.getD k []).length) = markedG m q (k + 1) := by
  unfold markedG
  have hl : ((marksG q m).take k).length = k := by rw [List.length_take, marksG_length]; omega
  have hm : k < (marksG q m).length := by rw [marksG_length]; exact hk
  have hd : m.drop k = m[k] :: m.drop (k + 1) := List.drop_eq_getElem_cons hk
  have hg := marksG_get m q k hk
  rw [List.set_append_right _ _ (by omega), hl, Nat.sub_self, hd, List.set_cons_zero, List.take_succ_eq_append_getElem hm, List.append_assoc, List.singleton_append]
  congr 2
  rw [← hg]
  simp [List.getD, hm]

/-- The table holds the marks; of what was there only blocks from B on and below S have turned. -/
def MarkGPost (B S q : Nat) (v : Value) (m : List (List Int)) (w : World) (e : Ending) (w' : World) : Prop :=
  e = .returned (.int .i64 ((q + tot m : Nat) : Int)) ∧ OwnIn w' B S v (marksG q m) ∧ Within B S w w'

end Go.Proofs.YtalclebehbdliaaGreat
namespace Go.Proofs.YtalclebehbdliaaGreat
open Go Go.RowKit

/-- A row that is new has been put behind the others. -/
theorem own_append {w0 w w3 : World} {B gg cap : Nat} {v r : Value} {vs : List Value} {m : List (List Int)} {xs : List Int} (hO : w0.ownsRow B 56 1 v m.length vs) (hR : RowsOwn w0 B v.ownBlock vs m) (hb : Below w0.heap.size w0 w)
    (hr : w.ownsRow B 3 1 r xs.length (xs.map (Value.int .i64))) (hf : ∀ g, r.ownBlock = some g → w0.heap.size ≤ g)
    (ho3 : w3.ownsRow B 56 1 (.slice (some ⟨gg, 0, none⟩) (m.length + 1) cap) (m.length + 1) (vs ++ [r])) (hg3 : w.grownBy w3 v.ownBlock) (hat : v.ownBlock = some gg ∨ gg = w.heap.size) :
    RowsOwn w3 B (some gg) (vs ++ [r]) (m ++ [xs]) := by
  have hv := hO.lt
  have hrl := hr.lt
  have hbs := hb.size
  have hR1 := hR.below hb
  have hgg : ∀ g, r.ownBlock = some g → g ≠ gg := by
    intro g hg e
    rcases hat with h | h
    · have := (hv gg h).2
      have := hf g hg
      omega
    · have := (hrl g hg).2
      omega
  have hne : r.ownBlock = none ∨ r.ownBlock ≠ v.ownBlock := by
    cases e : r.ownBlock with
    | none => exact Or.inl rfl
    | some g =>
      refine Or.inr fun h => ?_
      have := (hv g h.symm).2
      have := hf g e
      omega
  have hR2 : RowsOwn w3 B (some gg) vs m := by
    have h1 : RowsOwn w B (some gg) vs m := by
      refine ⟨hR1.len, fun k s hk => ⟨(hR1.row k s hk).1, ?_⟩, hR1.two⟩
      cases e : s.ownBlock with
      | none => exact Or.inl rfl
      | some g =>
        refine Or.inr fun h => ?_
        obtain rfl := Option.some.inj h
        rcases hat with h2 | h2
        · rcases (hR.row k s hk).2 with h3 | h3
          · rw [e] at h3; cases h3
          · exact h3 (e.trans h2.symm)
        · have := (hR1.lt hk _ e).2
          omega
    exact h1.kept hg3 fun k s hk => (hR1.row k s hk).2
  refine hR2.push (hr.kept hg3 hne) ?_ fun k s hk => ?_
  · cases e : r.ownBlock with
    | none => exact Or.inl rfl
    | some g => exact Or.inr fun h => hgg g e (Option.some.inj h)
  · cases e : s.ownBlock with
    | none => exact Or.inl rfl
    | some g =>
      refine Or.inr fun h => ?_
      have := (hR.lt hk g e).2
      have := hf g h.symm
      omega
/-- Number j of row i: where it lies, and what the table is once another number has been put there. -/
theorem OwnG.at {w : World} {B : Nat} {v : Value} {m : List (List Int)} (h : OwnG w B v m) {i j : Nat} (hi : i < m.length) (hj : j < (m.getD i []).length) :
    ∃ g cap gi ci, v = .slice (some ⟨g, 0, none⟩) m.length cap ∧ w.cell? ⟨g, i, none⟩ = some (.slice (some ⟨gi, 0, none⟩) (m.getD i []).length ci) ∧ w.cell? ⟨gi, j, none⟩ = some (.int .i64 (cellOf m i j)) ∧ w.frozen? ⟨gi, j, none⟩ = false ∧ B ≤ gi ∧ gi < w.heap.size ∧
      ∀ x : Int, OwnG (w.setCell ⟨gi, j, none⟩ (.int .i64 x)) B v (m.set i ((m.getD i []).set j x)) := by
  obtain ⟨vs, ho, hr⟩ := h
  rcases ho.2 with ⟨_, h0⟩ | ⟨g, cap, cur, rfl, _⟩
  · omega
  have hl := hr.len
  have hv : vs[i]? = some vs[i] := List.getElem?_eq_getElem (by omega)
  obtain ⟨h1, h2⟩ := hr.row i _ hv
  rcases h1.2 with ⟨_, h0⟩ | ⟨gi, ci, cur2, he, _⟩
  · omega
  rw [he] at hv h1 h2
  have hc : w.cell? ⟨gi, j, none⟩ = some (.int .i64 (cellOf m i j)) := by
    rw [h1.cellAt j (by omega), List.getElem?_map, List.getElem?_eq_getElem hj]
    simp [cellOf, List.getD, hi]
    have e : m[i]? = some m[i] := List.getElem?_eq_getElem hi
    simp [List.getD, e] at hj
    rw [List.getElem?_eq_getElem hj]; rfl
  refine ⟨g, cap, gi, ci, rfl, ?_, hc, h1.frozenAt j, (h1.lt gi rfl).1, (h1.lt gi rfl).2, fun x => ?_⟩
  · rw [ho.cellAt i (by omega), hv]
  · have hst := h1.stored j (.int .i64 x)
    have e1 : ((m.getD i []).map (Value.int .i64)).set j (.int .i64 x) = ((m.getD i []).set j x).map (Value.int .i64) := by rw [List.map_set]
    rw [e1] at hst
    have hs2 := OwnG.setRow ho hr hv (xs := (m.getD i []).set j x) (by simp) (by rw [List.length_set]; exact hst.1) hst.2
    exact ⟨vs, by rw [List.length_set]; exact hs2.1, hs2.2⟩

theorem tabOf_next (n m : Nat) (f : Nat → Nat → Int) : tabOf (n + 1) m f = tabOf n m f ++ [(List.range m).map (f n)] := by
  unfold tabOf
  rw [List.range_succ, List.map_append]; rfl
theorem tabOf_set {n m i j : Nat} (f : Nat → Nat → Int) (x : Int) (hi : i < n) : (tabOf n m f).set i (((tabOf n m f).getD i []).set j x) = tabOf n m fun a b => if a = i ∧ b = j then x else f a b := by
  rw [tabOf_row hi]
  refine List.ext_getElem (by simp [tabOf]) fun a h1 h2 => ?_
  have ha : a < n := by simpa [tabOf] using h2
  rw [List.getElem_set]
  by_cases e : i = a
  · subst e
    rw [if_pos rfl]
    refine List.ext_getElem (by simp [tabOf]) fun b k1 k2 => ?_
    simp [tabOf, List.getElem_set]
    by_cases e2 : j = b
    · subst e2; simp
    · rw [if_neg e2, if_neg (Ne.symm e2)]
  · rw [if_neg e]
    simp [tabOf, Ne.symm e]
theorem replicate_zero (n : Nat) : List.replicate n (Value.int .i64 0) = ((List.range n).map fun _ => (0 : Int)).map (Value.int .i64) := by
  induction n with
  | zero => rfl
  | succ n ih => rw [List.range_succ, List.map_append, List.map_append, ← ih, List.replicate_succ']; rfl

theorem made_ints {w : World} {B g m : Nat} (h : w.ownsRow B 3 1 (.slice (some ⟨g, 0, none⟩) m m) m (madeCells (Value.int .i64 0).cells (m * 1)).toList) :
    w.ownsRow B 3 1 (.slice (some ⟨g, 0, none⟩) m m) m (((List.range m).map fun _ => (0 : Int)).map (Value.int .i64)) := by
  have e : (madeCells (Value.int .i64 0).cells (m * 1)).toList = List.replicate m (.int .i64 0) := by rw [Nat.mul_one]; exact toList_madeCells_one _ _
  rw [e, replicate_zero] at h
  exact h
theorem kept_alloc {w w1 : World} {B n e : Nat} {v : Value} {vs : List Value} (h : w.ownsRow B e 1 v n vs) (hg : w.grownBy w1 none) (o : Obj) : (w1.alloc o).ownsRow B e 1 v n vs := by
  refine World.ownsRow.alloc (h.kept hg ?_) o
  cases e : v.ownBlock with
  | none => exact Or.inl rfl
  | some g => exact Or.inr (by intro h; cases h)
theorem kept_below {w w1 : World} {B n e : Nat} {v : Value} {vs : List Value} (h : w.ownsRow B e 1 v n vs) (hb : Below w.heap.size w w1) : w1.ownsRow B e 1 v n vs := by
  refine h.kept (row := none) ⟨hb.os, hb.tape, hb.output, hb.size, fun j hj _ => hb.block j hj⟩ ?_
  cases e : v.ownBlock with
  | none => exact Or.inl rfl
  | some g => exact Or.inr (by intro h; cases h)
theorem grown_below {w w' : World} (h : w.grownBy w' none) : Below w.heap.size w w' := ⟨h.os, h.tape, h.output, h.size, fun k hk => h.block k hk (by intro h; cases h)⟩
theorem zero_next {w wr w1 w3 : World} {k m gg cap : Nat} {v : Value} {vs : List Value} {o : Obj} (hB : Below w.heap.size w wr) (hO : wr.ownsRow w.heap.size 56 1 v (tabOf k m fun _ _ => 0).length vs) (hR : RowsOwn wr w.heap.size v.ownBlock vs (tabOf k m fun _ _ => 0))
    (hg1 : wr.grownBy w1 none) (hW : w1.ownsRow w.heap.size 3 1 (.slice (some ⟨wr.heap.size, 0, none⟩) m m) m (((List.range m).map fun _ => (0 : Int)).map (Value.int .i64))) (hs1 : wr.heap.size < w1.heap.size)
    (ho3 : w3.ownsRow w.heap.size 56 1 (.slice (some ⟨gg, 0, none⟩) ((tabOf k m fun _ _ => 0).length + 1) cap) ((tabOf k m fun _ _ => 0).length + 1) (vs ++ [.slice (some ⟨wr.heap.size, 0, none⟩) m m])) (hg3 : (w1.alloc o).grownBy w3 v.ownBlock) (hat : v.ownBlock = some gg ∨ gg = w1.heap.size + 1) :
    w3.ownsRow w.heap.size 56 1 (.slice (some ⟨gg, 0, none⟩) ((tabOf k m fun _ _ => 0).length + 1) cap) (tabOf (k + 1) m fun _ _ => 0).length (vs ++ [.slice (some ⟨wr.heap.size, 0, none⟩) m m]) ∧
    RowsOwn w3 w.heap.size (Value.slice (some ⟨gg, 0, none⟩) ((tabOf k m fun _ _ => 0).length + 1) cap).ownBlock (vs ++ [.slice (some ⟨wr.heap.size, 0, none⟩) m m]) (tabOf (k + 1) m fun _ _ => 0) ∧ Below w.heap.size w w3 := by
  have hb1 : Below wr.heap.size wr (w1.alloc o) := (grown_below hg1).alloc (by omega) o
  have hl : ((List.range m).map fun _ => (0 : Int)).length = m := by simp
  refine ⟨by rw [tabOf_next, List.length_append]; exact ho3, ?_, ?_⟩
  · rw [tabOf_next]
    refine own_append (w := w1.alloc o) (cap := cap) hO hR hb1 ?_ (fun g hg => ?_) ho3 hg3 ?_
    · rw [hl]; exact World.ownsRow.alloc hW o
    · have : wr.heap.size = g := Option.some.inj hg
      omega
    · rw [World.size_alloc]; exact hat
  · have hb2 := hB.trans (hb1.mono hB.size)
    refine hb2.grown hg3 (by have := hb2.size; omega) (fun q hq => ?_)
    exact (hO.lt q hq).1
/-- A new table. -/
def NewG (m : List (List Int)) (w : World) (e : Ending) (w' : World) : Prop := ∃ v, e = .returned v ∧ OwnG w' w.heap.size v m ∧ Below w.heap.size w w'

set_option maxRecDepth 100000 in
set_option maxHeartbeats 1600000 in
theorem spec_zero (n m : Nat) (hn : n ≤ 1048576) (hm : m ≤ 1048576) (w : World) :
    Calls Tryz.prog 44 #[.int .i64 n, .int .i64 m] w (NewG (tabOf n m fun _ _ => 0) w) := by
  obtain ⟨i0, hi, hz0, hz1, hz2⟩ := info_parts infoSl
  obtain ⟨j0, hj, hy0, hy1, hy2⟩ := info_parts infoInt
  go_enter Tryz.func44, Tryz.ntmps44
  have hmade := World.ownsRow_made (base := w.heap.size) (e := 56) (size := 1) w #[] 0 (Nat.le_refl _) (by unfold maxLen; omega) rfl
  have HM0 := Lib.hid hmade
  clear hmade
  go_wp2
  go_loopw [5, 6] (fun v i wr => ∃ (k : Nat) (vs : List Value), k ≤ n ∧ i = .int .i64 k ∧ wr.ownsRow w.heap.size 56 1 v (tabOf k m fun _ _ => 0).length vs ∧ RowsOwn wr w.heap.size v.ownBlock vs (tabOf k m fun _ _ => 0) ∧ Below w.heap.size w wr) (fun _ i _ => n - (intOf i).toNat)
  case atStart => exact ⟨0, [], Nat.zero_le _, rfl, HM0.out, RowsOwn.nil _ _ _, (Below.refl _ _).alloc (Nat.le_refl _) _⟩
  case round =>
    obtain ⟨k, vs, hk, rfl, hO, hR, hbl⟩ := hrel
    by_cases hlt : k < n
    · have HO := Lib.hid hO
      have HR := Lib.hid hR
      have HB := Lib.hid hbl
      have hsz := hbl.size
      clear hO hR hbl
      go_wp2_with (first | (at_make; refine wpList_make_full _ rfl _ _ 56 rfl w.heap.size 3 j0 (.int .i64 0) 1 Tryz.underlying56 hj hy0 hy1 .i64 .i64 _ _ m rfl rfl rfl rfl (by rw [hy2]; omega) (by unfold maxLen; omega) hsz ?_; intro w1 hown hgrow; have HW1 := Lib.hid (made_ints hown); have HG1 := Lib.hid hgrow; have hs1 : wr.heap.size < w1.heap.size := (hown.lt _ rfl).2; clear hown hgrow) | (at_builtin; refine wpList_append_lies _ rfl (.tmp 13) (.tmp 16) 30 rfl w.heap.size 56 i0 (.slice none 0 0) 1 24 Tryz.underlying30 hi hz0 hz1 hz2 rfl (by decide) _ _ _ rfl (kept_alloc HO.out HG1.out _) ⟨w1.heap.size, 0, none⟩ 1 1 [.slice (some ⟨wr.heap.size, 0, none⟩) m m] rfl rfl (World.news_of_block (cs := #[.slice (some ⟨wr.heap.size, 0, none⟩) m m]) (t := 56) (fr := (0, 0)) (heap_alloc_new w1 _)) (by simp [Value.oneCell']) (by decide) (by rw [tabOf_length]; unfold maxLen; omega) (by rw [tabOf_length]; omega) (by simp; omega) (w1.heap.size + 1) (by simp) ?_; intro gg cap w3 ho3 hg3 hat hlt3; have HN := Lib.hid (zero_next HB.out HO.out HR.out HG1.out HW1.out hs1 ho3 hg3 hat); clear ho3 hg3 hat))
      go_roundw
      case rel => exact ⟨k + 1, _, by omega, by go_num, HN.out.1, HN.out.2.1, HN.out.2.2⟩
      case measure => simp [intOf]; omega
    · obtain rfl : k = n := by omega
      have HO := Lib.hid hO
      have HR := Lib.hid hR
      clear hO hR
      go_wp2
      go_ret
      exact ⟨_, rfl, ⟨vs, HO.out, HR.out⟩, hbl⟩
end Go.Proofs.YtalclebehbdliaaGreat
namespace Go.Proofs.YtalclebehbdliaaGreat
open Go Go.RowKit

/-- The value is a slice that holds the table m. -/
def GridV (w : World) (v : Value) (m : List (List Int)) : Prop := ∃ A c, v = .slice A m.length c ∧ GridS w A m
theorem GridV.below {w w' : World} {v : Value} {m : List (List Int)} (h : GridV w v m) (hb : Below w.heap.size w w') : GridV w' v m := by
  obtain ⟨A, c, hv, hg⟩ := h
  exact ⟨A, c, hv, hg.below hb⟩
theorem OwnG.gridV {w : World} {B : Nat} {v : Value} {m : List (List Int)} (h : OwnG w B v m) : GridV w v m := h.gridS
/-- The table is not too large. -/
def SizeB (m : List (List Int)) : Prop := m.length + tot m ≤ 1048576
/-- No slice is longer than a slice can be. -/
def SizeA (m : List (List Int)) : Prop := m.length ≤ 9223372036854775807 ∧ ∀ k, k < m.length → (m.getD k []).length ≤ 9223372036854775807

/-- All blocks that were there from B on are as they were. -/
structure From (B : Nat) (w w' : World) : Prop where
  size : w.heap.size ≤ w'.heap.size
  block : ∀ k, B ≤ k → k < w.heap.size → w'.heap[k]? = w.heap[k]?
namespace From
variable {B : Nat} {w w' w'' : World}
theorem refl (B : Nat) (w : World) : From B w w := ⟨Nat.le_refl _, fun _ _ _ => rfl⟩
theorem trans (h : From B w w') (k : From B w' w'') : From B w w'' := ⟨Nat.le_trans h.size k.size, fun j h1 h2 => (k.block j h1 (Nat.lt_of_lt_of_le h2 h.size)).trans (h.block j h1 h2)⟩
theorem of_below (h : Below w.heap.size w w') : From B w w' := ⟨h.size, fun k _ hk => h.block k hk⟩
theorem of_within {B' S' : Nat} (h : Within B' S' w w') (hS : S' ≤ B) : From B w w' := ⟨h.size, fun k h1 h2 => h.block k h2 (Or.inr (by omega))⟩
theorem owns {e n : Nat} {v : Value} {xs : List Value} (h : w.ownsRow B e 1 v n xs) (hf : From B w w') : w'.ownsRow B e 1 v n xs := by
  refine ⟨h.1, ?_⟩
  rcases h.2 with hn | ⟨g, cap, cur, rfl, hb, hgg, rest⟩
  · exact .inl hn
  · refine .inr ⟨g, cap, cur, rfl, hb, ?_, rest⟩
    rw [hf.block g hb (Array.getElem?_eq_some_iff.1 hgg).1]
    exact hgg
theorem ownIn {S : Nat} {v : Value} {m : List (List Int)} (h : OwnIn w B S v m) (hf : From B w w') : OwnIn w' B S v m := by
  obtain ⟨vs, ho, hr, hs⟩ := h
  exact ⟨vs, owns ho hf, ⟨hr.len, fun k r hk => ⟨owns (hr.row k r hk).1 hf, (hr.row k r hk).2⟩, hr.two⟩, hs⟩
end From

/-- A table has been marked: only blocks from B on and below S have turned. -/
def MarkedG (B S : Nat) (v : Value) (m : List (List Int)) (w : World) (e : Ending) (w' : World) : Prop := e = .returned (.int .i64 ((1 + tot m : Nat) : Int)) ∧ GridV w' v (marksG 1 m) ∧ Within B S w w'
/-- The same from a number on; how far it came does not matter. -/
def MarkedX (B S q : Nat) (w : World) (e : Ending) (w' : World) : Prop := ∃ K : Nat, e = .returned (.int .i64 (K : Int)) ∧ K ≤ q + 1048576 ∧ Within B S w w'
def HeldG (n : Nat) (w : World) (e : Ending) (w' : World) : Prop := e = .returned (.int .i64 (n : Int)) ∧ Below w.heap.size w w'
theorem below_behind {w w1 w2 : World} (h : Below w.heap.size w w1) (k : Below w1.heap.size w1 w2) : Below w.heap.size w w2 := h.trans (k.mono h.size)

/-- What a function answers: a value that is no slice. -/
def Scalar (x : Value) (w : World) (e : Ending) (w' : World) : Prop := e = .returned x ∧ Below w.heap.size w w'
/-- The model's table, the program's table; each with a bool, too. -/
def SpecG (m : List (List Int)) (w : World) (e : Ending) (w' : World) : Prop := ∃ v, e = .returned v ∧ GridV w' v m ∧ Below w.heap.size w w'
def SpecGB (m : List (List Int)) (b : Bool) (w : World) (e : Ending) (w' : World) : Prop := ∃ v, e = .returned (.tuple #[v, .bool b]) ∧ GridV w' v m ∧ Below w.heap.size w w'
end Go.Proofs.YtalclebehbdliaaGreat
