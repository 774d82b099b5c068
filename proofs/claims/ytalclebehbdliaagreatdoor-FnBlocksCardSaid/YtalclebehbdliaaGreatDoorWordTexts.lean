/-
  Merged: PLAIN FACTS ON WORDS (no program in this text): what a word is, its turns and the least one, its root, its mirror, all words of a length, and where a string occurs in another.
  PLAIN FACTS ON SHIFTS (no program in this text): what a shift is, which words avoid its forbidden ones.
  A list of strings in memory, wherever it lies; an empty one may lie nowhere (no program's function in this text).
  What a word is: the model's IsWord and the program's, at every int and every string of at most 2^40 bytes, answer the same; nothing is changed.
  Whether a string has a part: the model's OccursIn, at every two strings of at most 2^31 bytes; nothing is changed.
  The model's IsShift, l3Avoids and AvoidsAll: at every number and every list of strings in memory they answer as the plain words say; nothing that was there before is changed.
  The laws' helpers on slices of strings: their size is counted down from a limit; they are copied into new memory.
  What the laws on shifts share: how long a shift is, its copy, and that two equal shifts are found equal. A shift is a number and a slice of strings.
  The laws on functions of a shift that answer a bool: where the model's and the program's function answer the same at every copy of the shift, the law returns true; nothing that was there before is changed.
  Shifts in memory, by value: the letters, and the forbidden words in a slice that lies anywhere; what a function gives back of one (no program's function in this text).
  All words of a length: the model's list of them, where the letters are at most 3 and the words at most 729, in new memory; nothing that was there before is changed.
  The laws' marks on slices of strings: each mark is a text of its own number; a row that the call owns is marked and found marked; other memory that was there is not changed.
  The laws' marks on slices of strings: a row that the call owns is marked, and a marked row is found marked; other memory that was there is not changed.
  What the laws on lists of strings share: the helpers at slices of length 0; a list in new memory, empty or not.
  The library's Concat of two slices of strings (and Grow of the nil slice): a list in new memory that holds both, one behind the other; nothing that was there before is changed.
  PLAIN FACTS ON ORDERED LISTS OF STRINGS (no program in this text): a string is put into an ascending list once; the parts of a word with one length, put so; what a map's keys give, sorted.
  The model's l2Put: a string is put into an ascending list once, at every list in memory of the call's own; nothing below that memory is changed.
  The model's draws of letters and short words: whatever the bytes, a short string; what lay above the cursor is as it was.
  The model's ParseShift at short texts: a shift whose words are few and short, in new memory; and its put of a word into a list that the call owns, wherever that lies.
  The model's put of a word into an ascending list that the call owns, wherever it lies, and also where it is nil: the list is the call's own, and no other block is changed.
  The model's draws of shifts: whatever the bytes, a shift whose words are few and short, its list in new memory; what lay above the cursor is as it was.
  The model's draw of a shift, bent: its letters or its list may be none of a shift's; the list in new memory.
  The model's draw of a shift and a number: whatever the bytes, a short shift in new memory; nothing that was there before is changed.
  The model's draw of a shift and a length of blocks: whatever the bytes, a short shift in new memory; nothing that was there before is changed.
-/
import Derived.WalkKit
import Derived.WalkSpells
import Derived.Lib.Hide
import Derived.Lib.Repeat
import Derived.Lib.IndexMore
import Derived.Sort.Walk0
import Derived.Test.YtalclebehbdliaaGreatDoorBaseTexts
import Derived.Test.YtalclebehbdliaaGreatDoorChecked
import Derived.WalkLawsBesides
import Derived.Deep.QuietTactic
import Derived.BigQuiet
import Derived.Test.YtalclebehbdliaaGreatDoorRows
import Derived.Deep.RegionHeld3
import Derived.Deep.Onto
import Derived.Deep.AppendLies
import Derived.Deep.WholeRow
import Derived.OwnWalk
import Derived.Laws.BytesArg
import Derived.Test.YtalclebehbdliaaGreatDoorGridTexts
import Derived.Lib.AppendZerosOnto
import Derived.Sort.KeysCollected
import Derived.ChangeMaps
import Derived.MapViews
import Derived.Deep.RegionLaw
namespace Go.Proofs.YtalclebehbdliaaGreatDoor
open Go Go.RowKit

theorem ba_ext {a b : ByteArray} (h : a.data.toList = b.data.toList) : a = b := by
  cases a; cases b
  simpa using h
theorem ba_len (s : ByteArray) : s.data.toList.length = s.size := rfl
theorem ba_append (a b : ByteArray) : (a ++ b).data.toList = a.data.toList ++ b.data.toList := by simp
theorem ba_extract (s : ByteArray) (i j : Nat) : (s.extract i j).data.toList = (s.data.toList.drop i).take (j - i) := Lib.extract_data s i j
theorem ba_get (s : ByteArray) (k : Nat) (h : k < s.size) : s[k] = s.data.toList[k]'h := rfl
theorem ba_same (a b : ByteArray) : (a.toList == b.toList) = decide (a = b) := by
  rw [ByteArray.toList_eq, ByteArray.toList_eq]
  by_cases h : a = b
  · subst h; simp
  · have : a.data.toList ≠ b.data.toList := fun e => h (ba_ext e)
    rw [beq_eq_false_iff_ne.2 this, decide_eq_false h]
theorem ba_less (a b : ByteArray) : Op.bytesLess a.toList b.toList = decide (a.data.toList < b.data.toList) := by
  rw [bytesLess_eq, ByteArray.toList_eq, ByteArray.toList_eq]

/-! ### Words -/
/-- A letter, where there are k. -/
def isL (k : Int) (b : UInt8) : Bool := decide (97 ≤ b.toNat) && decide ((b.toNat : Int) - 97 < k)
/-- w is a word with k letters. -/
def isW (k : Int) (w : ByteArray) : Bool := (decide (1 ≤ k) && decide (k ≤ 3) && decide (w.size ≤ 16)) && w.data.toList.all (isL k)
theorem all_of {k : Int} {w : ByteArray} (h : ∀ j (hj : j < w.size), isL k w[j] = true) : w.data.toList.all (isL k) = true := by
  rw [List.all_eq_true]
  intro b hb
  obtain ⟨j, hj, rfl⟩ := List.getElem_of_mem hb
  exact h j hj
theorem all_not {k : Int} {w : ByteArray} {j : Nat} (hj : j < w.size) (h : isL k w[j] = false) : w.data.toList.all (isL k) = false := by
  rw [← Bool.not_eq_true, List.all_eq_true]
  intro hall
  have := hall w[j] (List.getElem_mem (l := w.data.toList) hj)
  rw [h] at this; cases this
theorem isW_len {k : Int} {w : ByteArray} (h : isW k w = true) : w.size ≤ 16 := by
  unfold isW at h
  simp only [Bool.and_eq_true, decide_eq_true_eq] at h
  exact h.1.2
/-- A word that is not empty. -/
def wordy (w : ByteArray) : Bool := decide (w.size ≠ 0) && isW 3 w
theorem wordy_pos {w : ByteArray} (h : wordy w = true) : 0 < w.size := by
  unfold wordy at h
  simp only [Bool.and_eq_true, decide_eq_true_eq] at h
  omega
theorem wordy_len {w : ByteArray} (h : wordy w = true) : w.size ≤ 16 := by
  unfold wordy at h
  simp only [Bool.and_eq_true] at h
  exact isW_len h.2

/-! ### Turns -/
/-- w with its first m letters moved to its end. -/
def turnAt (w : ByteArray) (m : Nat) : ByteArray := w.extract m w.size ++ w.extract 0 m
theorem turnAt_data (w : ByteArray) (m : Nat) : (turnAt w m).data.toList = w.data.toList.drop m ++ w.data.toList.take m := by
  unfold turnAt
  rw [ba_append, ba_extract, ba_extract, List.drop_zero, Nat.sub_zero, List.take_of_length_le (by rw [List.length_drop, ba_len]; exact Nat.le_refl _)]
theorem turnAt_size (w : ByteArray) (m : Nat) (h : m ≤ w.size) : (turnAt w m).size = w.size := by
  rw [← ba_len, turnAt_data, List.length_append, List.length_drop, List.length_take, ba_len]; omega
theorem turnAt_zero (w : ByteArray) : turnAt w 0 = w := ba_ext (by rw [turnAt_data]; simp)
theorem turnAt_all (w : ByteArray) (k : Int) (m : Nat) : (turnAt w m).data.toList.all (isL k) = w.data.toList.all (isL k) := by
  rw [turnAt_data, List.all_append, Bool.and_comm, ← List.all_append, List.take_append_drop]
theorem turnAt_isW (w : ByteArray) (k : Int) (m : Nat) (h : m ≤ w.size) : isW k (turnAt w m) = isW k w := by
  unfold isW; rw [turnAt_all, turnAt_size w m h]
theorem turnAt_wordy (w : ByteArray) (m : Nat) (h : m ≤ w.size) : wordy (turnAt w m) = wordy w := by
  unfold wordy; rw [turnAt_isW w 3 m h, turnAt_size w m h]
/-- A turn of a turn is a turn. -/
theorem turnAt_turn (w : ByteArray) (a b : Nat) (ha : a ≤ w.size) (hb : b ≤ w.size) : turnAt (turnAt w a) b = turnAt w (if a + b ≤ w.size then a + b else a + b - w.size) := by
  apply ba_ext
  rw [turnAt_data, turnAt_data, turnAt_data]
  have hl : (w.data.toList.drop a).length = w.size - a := by rw [List.length_drop, ba_len]
  generalize w.data.toList = l at *
  by_cases h : a + b ≤ w.size
  · rw [if_pos h, List.drop_append_of_le_length (by omega), List.take_append_of_le_length (by omega), List.drop_drop, List.append_assoc]
    congr 1
    rw [List.take_add]
  · rw [if_neg h]
    obtain ⟨c, hc⟩ : ∃ c, a + b - w.size = c := ⟨_, rfl⟩
    have hb' : b = (l.drop a).length + c := by omega
    rw [hc, hb', List.drop_append, List.take_append, List.drop_of_length_le (by omega), List.nil_append, List.take_of_length_le (by omega : (l.drop a).length ≤ _)]
    rw [Nat.add_sub_cancel_left, List.take_take, Nat.min_eq_left (by omega), ← List.append_assoc]
    congr 1
    rw [List.drop_take]
    have e : l.drop a = (l.drop c).drop (a - c) := by rw [List.drop_drop, show c + (a - c) = a by omega]
    rw [e, List.take_append_drop]
theorem turnAt_full (w : ByteArray) : turnAt w w.size = w := ba_ext (by
  rw [turnAt_data, ← ba_len, List.drop_length, List.take_length, List.nil_append])
/-- How far a word is turned: n, reduced. -/
def turnNo (w : ByteArray) (n : Int) : Nat := (n % (w.size : Int)).toNat
theorem turnNo_lt (w : ByteArray) (n : Int) (h : 0 < w.size) : turnNo w n < w.size := by
  have h1 := Int.emod_nonneg n (show (w.size : Int) ≠ 0 by omega)
  have h2 := Int.emod_lt_of_pos n (show (0 : Int) < (w.size : Int) by omega)
  unfold turnNo; omega
theorem turnNo_of_lt (w : ByteArray) (n : Nat) (h : n < w.size) : turnNo w (n : Int) = n := by
  unfold turnNo
  rw [Int.emod_eq_of_lt (by omega) (by omega)]; rfl
def turned (w : ByteArray) (n : Int) : ByteArray := if wordy w = true then turnAt w (turnNo w n) else ByteArray.empty

/-- The least of w and its first k turns. -/
def leastTo (w : ByteArray) : Nat → ByteArray
  | 0 => w
  | k + 1 => if (turnAt w k).data.toList < (leastTo w k).data.toList then turnAt w k else leastTo w k
theorem leastTo_one (w : ByteArray) : leastTo w 1 = w := by
  unfold leastTo
  rw [turnAt_zero]
  simp [leastTo]
theorem leastTo_is (w : ByteArray) (h : 0 < w.size) : ∀ k, k ≤ w.size → ∃ m, m < w.size ∧ leastTo w k = turnAt w m
  | 0, _ => ⟨0, h, (turnAt_zero w).symm⟩
  | k + 1, hk => by
    unfold leastTo
    split
    · exact ⟨k, by omega, rfl⟩
    · exact leastTo_is w h k (by omega)
theorem le_of_nlt {a b : List UInt8} (h : ¬ a < b) : b ≤ a := List.not_lt.1 h
theorem leastTo_le (w : ByteArray) : ∀ k j, j < k → (leastTo w k).data.toList ≤ (turnAt w j).data.toList
  | 0, j, h => by omega
  | k + 1, j, h => by
    unfold leastTo
    by_cases hj : j = k
    · subst hj
      split
      · exact List.le_refl _
      · next hn => exact le_of_nlt hn
    · have ih := leastTo_le w k j (by omega)
      split
      · next hl => exact List.le_trans (List.le_of_lt hl) ih
      · exact ih
theorem leastTo_size (w : ByteArray) (h : 0 < w.size) (k : Nat) (hk : k ≤ w.size) : (leastTo w k).size = w.size := by
  obtain ⟨m, hm, e⟩ := leastTo_is w h k hk
  rw [e, turnAt_size w m (by omega)]
def least (w : ByteArray) : ByteArray := if wordy w = true then leastTo w w.size else ByteArray.empty
/-- Turns of a word have the same least turn. -/
theorem least_turn (w : ByteArray) (m : Nat) (hw : wordy w = true) (hm : m < w.size) : least (turnAt w m) = least w := by
  have hs := turnAt_size w m (by omega)
  have hp := wordy_pos hw
  unfold least
  rw [turnAt_wordy w m (by omega), if_pos hw, if_pos hw, hs]
  obtain ⟨a, ha, ea⟩ := leastTo_is (turnAt w m) (by omega) w.size (by omega)
  obtain ⟨b, hb, eb⟩ := leastTo_is w hp w.size (by omega)
  apply ba_ext
  apply List.le_antisymm
  · rw [eb]
    -- turn b of w is a turn of turn m
    by_cases h : m ≤ b
    · have e : turnAt w b = turnAt (turnAt w m) (b - m) := by
        rw [turnAt_turn w m (b - m) (by omega) (by omega), if_pos (by omega), show m + (b - m) = b by omega]
      rw [e]
      exact leastTo_le _ _ _ (by omega)
    · have e : turnAt w b = turnAt (turnAt w m) (b + w.size - m) := by
        rw [turnAt_turn w m (b + w.size - m) (by omega) (by omega)]
        by_cases hb0 : m + (b + w.size - m) ≤ w.size
        · rw [if_pos hb0]
          obtain rfl : b = 0 := by omega
          rw [show m + (0 + w.size - m) = w.size by omega]
          rw [turnAt_full, turnAt_zero]
        · rw [if_neg hb0, show m + (b + w.size - m) - w.size = b by omega]
      rw [e]
      exact leastTo_le _ _ _ (by omega)
  · rw [ea, turnAt_turn w m a (by omega) (by rw [hs] at ha; omega)]
    rw [hs] at ha
    split
    · next h =>
      by_cases h2 : m + a = w.size
      · have e : turnAt w (m + a) = turnAt w 0 := by
          rw [h2, turnAt_full, turnAt_zero]
        rw [e]
        exact leastTo_le _ _ _ hp
      · exact leastTo_le _ _ _ (by omega)
    · exact leastTo_le _ _ _ (by omega)

/-! ### Roots -/
/-- w is its first n letters repeated. -/
def rootAt (w : ByteArray) (n : Nat) : Bool := decide (Lib.repeatL (w.extract 0 n).data.toList (w.size / n) = w.data.toList)
def RootOk (w : ByteArray) (n : Nat) : Prop := 1 ≤ n ∧ n ≤ w.size ∧ rootAt w n = true ∧ ∀ m, 1 ≤ m → m < n → rootAt w m = false
theorem RootOk.unique {w : ByteArray} {a b : Nat} (ha : RootOk w a) (hb : RootOk w b) : a = b := by
  obtain ⟨a1, a2, a3, a4⟩ := ha
  obtain ⟨b1, b2, b3, b4⟩ := hb
  rcases Nat.lt_trichotomy a b with h | h | h
  · rw [b4 a a1 h] at a3; cases a3
  · exact h
  · rw [a4 b b1 h] at b3; cases b3
theorem rootAt_all (w : ByteArray) (h : 0 < w.size) : rootAt w w.size = true := by
  unfold rootAt
  rw [decide_eq_true_eq, Nat.div_self h, Lib.repeatL_one, ba_extract, List.drop_zero, Nat.sub_zero, ← ba_len, List.take_length]
theorem head_size (w : ByteArray) (n : Nat) (h : n ≤ w.size) : (w.extract 0 n).size = n := by rw [ByteArray.size_extract]; omega
theorem rootAt_div {w : ByteArray} {n : Nat} (hn : n ≤ w.size) (h : rootAt w n = true) : w.size % n = 0 := by
  unfold rootAt at h
  rw [decide_eq_true_eq] at h
  have hl := congrArg List.length h
  rw [Lib.repeatL_length, ba_len, ba_len, head_size w n hn] at hl
  have := Nat.div_add_mod w.size n
  rw [Nat.mul_comm] at this
  omega
theorem root_exists (w : ByteArray) (h : 0 < w.size) : ∃ n, RootOk w n := by
  have key : ∀ d n, w.size - n = d → 1 ≤ n → n ≤ w.size → (∀ m, 1 ≤ m → m < n → rootAt w m = false) → ∃ n, RootOk w n := by
    intro d
    induction d with
    | zero =>
      intro n hd h1 h2 h3
      obtain rfl : n = w.size := by omega
      exact ⟨_, h1, h2, rootAt_all w h, h3⟩
    | succ d ih =>
      intro n hd h1 h2 h3
      cases hr : rootAt w n with
      | true => exact ⟨n, h1, h2, hr, h3⟩
      | false =>
        refine ih (n + 1) (by omega) (by omega) (by omega) (fun m m1 m2 => ?_)
        by_cases hm : m = n
        · subst hm; exact hr
        · exact h3 m m1 (by omega)
  exact key _ 1 rfl (Nat.le_refl _) h (fun m _ _ => by omega)
/-- c copies of a string. -/
def timesB (p : ByteArray) (c : Nat) : ByteArray := ⟨(Lib.repeatL p.data.toList c).toArray⟩
theorem timesB_data (p : ByteArray) (c : Nat) : (timesB p c).data.toList = Lib.repeatL p.data.toList c := by simp [timesB]
theorem timesB_zero (p : ByteArray) : timesB p 0 = ByteArray.empty := rfl
theorem timesB_next (p : ByteArray) (c : Nat) : timesB p c ++ p = timesB p (c + 1) := ba_ext (by
  rw [ba_append, timesB_data, timesB_data, Lib.repeatL_add, Lib.repeatL_one])
theorem timesB_size (p : ByteArray) (c : Nat) : (timesB p c).size = c * p.size := by rw [← ba_len, timesB_data, Lib.repeatL_length, ba_len]
theorem timesB_root (w : ByteArray) (n : Nat) : decide (timesB (w.extract 0 n) (w.size / n) = w) = rootAt w n := by
  unfold rootAt
  apply decide_eq_decide.2
  constructor
  · intro h; rw [← timesB_data, h]
  · intro h; exact ba_ext (by rw [timesB_data, h])

/-! ### Mirrors -/
def mirror (w : ByteArray) : ByteArray := ⟨w.data.toList.reverse.toArray⟩
theorem mirror_data (w : ByteArray) : (mirror w).data.toList = w.data.toList.reverse := by simp [mirror]
theorem mirror_size (w : ByteArray) : (mirror w).size = w.size := by rw [← ba_len, mirror_data, List.length_reverse, ba_len]
theorem mirror_twice (w : ByteArray) : mirror (mirror w) = w := ba_ext (by rw [mirror_data, mirror_data, List.reverse_reverse])

/-! ### Where a string occurs -/
theorem occ_lt {s sub : List UInt8} {i : Nat} (h : s.length < i + sub.length) (hi : i ≤ s.length) : Lib.occAt s sub i = false := by
  rw [← Bool.not_eq_true]
  intro ho
  unfold Lib.occAt at ho
  have hp := (List.isPrefixOf_iff_prefix.1 ho).length_le
  rw [List.length_drop] at hp
  omega
theorem contains_yes {s sub : List UInt8} : ∀ {i : Nat}, i ≤ s.length → Lib.occAt s sub i = true → Lib.contains s sub = true := by
  intro i hi ho
  unfold Lib.contains
  rw [decide_eq_true_eq]
  induction s generalizing i with
  | nil =>
    obtain rfl : i = 0 := by simpa using hi
    cases sub with
    | nil => decide
    | cons a t => simp [Lib.occAt] at ho
  | cons b l ih =>
    unfold Lib.index
    cases hp : sub.isPrefixOf (b :: l) with
    | true => simp
    | false =>
      match i, hi, ho with
      | 0, _, ho => simp [Lib.occAt, hp] at ho
      | i + 1, hi, ho =>
        have := ih (i := i) (by simpa using hi) (by simpa [Lib.occAt] using ho)
        have h2 : (Lib.index l sub == -1) = false := by rw [beq_eq_false_iff_ne]; omega
        simp [h2]; omega
theorem contains_no {s sub : List UInt8} (h : ∀ i, i + sub.length ≤ s.length → Lib.occAt s sub i = false) : Lib.contains s sub = false := by
  have e : Lib.index s sub = -1 := Lib.index_none (fun j hj => by
    by_cases hl : j + sub.length ≤ s.length
    · exact h j hl
    · exact occ_lt (by omega) hj)
  unfold Lib.contains
  rw [e]; rfl
theorem occ_eq (s sub : ByteArray) (i : Nat) : decide (s.extract i (i + sub.size) = sub) = Lib.occAt s.data.toList sub.data.toList i := by
  unfold Lib.occAt
  have hd : (s.extract i (i + sub.size)).data.toList = (s.data.toList.drop i).take sub.data.toList.length := by
    rw [ba_extract, Nat.add_sub_cancel_left, ba_len]
  by_cases hp : sub.data.toList <+: s.data.toList.drop i
  · rw [List.isPrefixOf_iff_prefix.2 hp, decide_eq_true_eq]
    exact ba_ext (by rw [hd]; exact (List.prefix_iff_eq_take.1 hp).symm)
  · have h1 : sub.data.toList.isPrefixOf (s.data.toList.drop i) = false := by
      rw [← Bool.not_eq_true]; exact fun e => hp (List.isPrefixOf_iff_prefix.1 e)
    rw [h1, decide_eq_false_iff_not]
    intro e
    apply hp
    rw [List.prefix_iff_eq_take, ← hd, e]

/-! ### All words of a length -/
def letterB (j : Nat) : ByteArray := ⟨#[UInt8.ofNat (97 + j)]⟩
/-- Each of the words with each letter behind it. -/
def longer (ws : List ByteArray) (k : Nat) : List ByteArray := ws.flatMap fun w => (List.range k).map fun j => w ++ letterB j
def allW (k : Nat) : Nat → List ByteArray
  | 0 => [ByteArray.empty]
  | n + 1 => longer (allW k n) k
theorem longer_length (ws : List ByteArray) (k : Nat) : (longer ws k).length = ws.length * k := by
  unfold longer
  induction ws with
  | nil => simp
  | cons a l ih => rw [List.flatMap_cons, List.length_append, ih, List.length_map, List.length_range, List.length_cons, Nat.succ_mul, Nat.add_comm]
theorem allW_length (k : Nat) : ∀ n, (allW k n).length = k ^ n
  | 0 => rfl
  | n + 1 => by rw [allW, longer_length, allW_length k n, Nat.pow_succ]
theorem letterB_size (j : Nat) : (letterB j).size = 1 := rfl
theorem longer_size {ws : List ByteArray} {k m : Nat} (h : ∀ x ∈ ws, x.size = m) : ∀ x ∈ longer ws k, x.size = m + 1 := by
  intro x hx
  unfold longer at hx
  rw [List.mem_flatMap] at hx
  obtain ⟨w, hw, hx⟩ := hx
  rw [List.mem_map] at hx
  obtain ⟨j, _, rfl⟩ := hx
  rw [ByteArray.size_append, h w hw, letterB_size]
theorem allW_size (k : Nat) : ∀ n, ∀ x ∈ allW k n, x.size = n
  | 0 => fun x hx => by
    rw [allW, List.mem_singleton] at hx
    subst hx; rfl
  | n + 1 => longer_size (allW_size k n)
theorem longer_next (ws : List ByteArray) (k i : Nat) (h : i < ws.length) : longer (ws.take (i + 1)) k = longer (ws.take i) k ++ (List.range k).map fun j => ws[i] ++ letterB j := by
  unfold longer
  rw [List.take_succ_eq_append_getElem h, List.flatMap_append]
  simp
theorem range_next (w : ByteArray) (j : Nat) : (List.range (j + 1)).map (fun j => w ++ letterB j) = (List.range j).map (fun j => w ++ letterB j) ++ [w ++ letterB j] := by
  rw [List.range_succ, List.map_append]; rfl
/-- The list that WordsOf gives: none where the numbers are out of bounds or the words more than 729. -/
def wordsOf (k n : Int) : List ByteArray :=
  if (1 ≤ k ∧ k ≤ 3) ∧ 0 ≤ n ∧ n ≤ 16 ∧ k.toNat ^ n.toNat ≤ 729 then allW k.toNat n.toNat else []
end Go.Proofs.YtalclebehbdliaaGreatDoor
namespace Go.Proofs.YtalclebehbdliaaGreatDoor
open Go Go.RowKit

/-- The forbidden word at place k is one, and stands behind the word ahead of it. -/
def okAt (L : Int) (ps : List ByteArray) (k : Nat) : Bool :=
  (isW L (ps.getD k ByteArray.empty) && (decide (1 ≤ (ps.getD k ByteArray.empty).size) && decide ((ps.getD k ByteArray.empty).size ≤ 3))) &&
    (decide (k = 0) || decide ((ps.getD (k - 1) ByteArray.empty).data.toList < (ps.getD k ByteArray.empty).data.toList))
def isShift (L : Int) (ps : List ByteArray) : Bool :=
  (List.range ps.length).all (okAt L ps) && ((decide (1 ≤ L) && decide (L ≤ 3)) && decide (ps.length ≤ 8))
def ShiftTo (L : Int) (ps : List ByteArray) (k : Nat) : Prop := ∀ j, j < k → okAt L ps j = true
theorem ShiftTo.zero (L : Int) (ps : List ByteArray) : ShiftTo L ps 0 := fun j h => by omega
theorem ShiftTo.next {L : Int} {ps : List ByteArray} {k : Nat} (h : ShiftTo L ps k) (hk : okAt L ps k = true) : ShiftTo L ps (k + 1) := by
  intro j hj
  by_cases e : j = k
  · subst e; exact hk
  · exact h j (by omega)
theorem isShift_not {L : Int} {ps : List ByteArray} {k : Nat} (hk : k < ps.length) (h : okAt L ps k = false) : isShift L ps = false := by
  have : (List.range ps.length).all (okAt L ps) = false := by
    rw [← Bool.not_eq_true, List.all_eq_true]
    intro hall
    have := hall k (List.mem_range.2 hk)
    rw [h] at this; cases this
  unfold isShift
  rw [this]; rfl
theorem isShift_end {L : Int} {ps : List ByteArray} (h : ShiftTo L ps ps.length) : isShift L ps = ((decide (1 ≤ L) && decide (L ≤ 3)) && decide (ps.length ≤ 8)) := by
  have : (List.range ps.length).all (okAt L ps) = true := by
    rw [List.all_eq_true]
    intro k hk
    exact h k (List.mem_range.1 hk)
  unfold isShift
  rw [this]; rfl
theorem isShift_letters {L : Int} {ps : List ByteArray} (h : isShift L ps = true) : 1 ≤ L ∧ L ≤ 3 ∧ ps.length ≤ 8 := by
  unfold isShift at h
  simp only [Bool.and_eq_true, decide_eq_true_eq] at h
  exact ⟨h.2.1.1, h.2.1.2, h.2.2⟩
theorem okAt_word {L : Int} {ps : List ByteArray} {k : Nat} (h : isW L (ps.getD k ByteArray.empty) = false) : okAt L ps k = false := by
  unfold okAt; rw [h]; rfl
theorem okAt_size {L : Int} {ps : List ByteArray} {k : Nat} (h : (decide (1 ≤ (ps.getD k ByteArray.empty).size) && decide ((ps.getD k ByteArray.empty).size ≤ 3)) = false) : okAt L ps k = false := by
  unfold okAt; rw [h, Bool.and_false]; rfl

/-! ### Words that avoid -/
/-- None of the words occurs in w. -/
def avoids (ps : List ByteArray) (w : ByteArray) : Bool := ps.all fun f => !Lib.contains w.data.toList f.data.toList
def AvoidTo (ps : List ByteArray) (w : ByteArray) (k : Nat) : Prop := ∀ j, j < k → Lib.contains w.data.toList (ps.getD j ByteArray.empty).data.toList = false
theorem AvoidTo.next {ps : List ByteArray} {w : ByteArray} {k : Nat} (h : AvoidTo ps w k) (hk : Lib.contains w.data.toList (ps.getD k ByteArray.empty).data.toList = false) : AvoidTo ps w (k + 1) := by
  intro j hj
  by_cases e : j = k
  · subst e; exact hk
  · exact h j (by omega)
theorem avoids_not {ps : List ByteArray} {w : ByteArray} {k : Nat} (hk : k < ps.length) (h : Lib.contains w.data.toList (ps.getD k ByteArray.empty).data.toList = true) : avoids ps w = false := by
  unfold avoids
  rw [← Bool.not_eq_true, List.all_eq_true]
  intro hall
  rw [List.getD_eq_getElem?_getD, List.getElem?_eq_getElem hk, Option.getD_some] at h
  have := hall _ (List.getElem_mem hk)
  rw [h] at this; cases this
theorem avoids_end {ps : List ByteArray} {w : ByteArray} (h : AvoidTo ps w ps.length) : avoids ps w = true := by
  unfold avoids
  rw [List.all_eq_true]
  intro f hf
  obtain ⟨k, hk, rfl⟩ := List.getElem_of_mem hf
  have := h k hk
  rw [List.getD_eq_getElem?_getD, List.getElem?_eq_getElem hk, Option.getD_some] at this
  rw [this]; rfl
def avoidsAll (L : Int) (ps : List ByteArray) (w : ByteArray) : Bool := (isShift L ps && isW L w) && avoids ps w
end Go.Proofs.YtalclebehbdliaaGreatDoor
namespace Go.Proofs.YtalclebehbdliaaGreatDoor
open Go Go.RowKit

/-- The slice holds the strings. -/
def StrsG (w : World) (G : Option Addr) (xs : List ByteArray) : Prop := 0 < xs.length → ∃ b off, G = some ⟨b, off, none⟩ ∧ StrsAt w b off xs ∧ b < w.heap.size
theorem StrsG.below {w w' : World} {G : Option Addr} {xs : List ByteArray} (h : StrsG w G xs) (hb : Below w.heap.size w w') : StrsG w' G xs := fun h0 => by
  obtain ⟨b, off, e, hs, hl⟩ := h h0
  exact ⟨b, off, e, hs.below hb hl, Nat.lt_of_lt_of_le hl hb.size⟩
theorem StrsG.of {w : World} {g : Nat} {xs : List ByteArray} (h : StrsAt w g 0 xs) (hg : g < w.heap.size) : StrsG w (some ⟨g, 0, none⟩) xs := fun _ => ⟨g, 0, rfl, h, hg⟩
theorem StrsG.none (w : World) : StrsG w none [] := fun h => absurd h (by simp)
end Go.Proofs.YtalclebehbdliaaGreatDoor
namespace Go.Proofs.YtalclebehbdliaaGreatDoor
open Go Go.RowKit

theorem impl_isLetterCount (k : Int) (w : World) :
    Calls Tryz.prog 111 #[.int .i64 k] w fun e w' => e = .returned (.bool (decide (1 ≤ k) && decide (k ≤ 3))) ∧ w' = w := by
  go_enter Tryz.func111, Tryz.ntmps111
  cases h1 : decide (1 ≤ k) with
  | false => go_wp2; go_ret; exact ⟨rfl, rfl⟩
  | true => go_wp2; go_ret; exact ⟨rfl, rfl⟩
theorem spec_in (x lo hi : Int) (w : World) :
    Calls Tryz.prog 33 #[.int .i64 x, .int .i64 lo, .int .i64 hi] w fun e w' => e = .returned (.bool (decide (lo ≤ x) && decide (x ≤ hi))) ∧ w' = w := by
  go_enter Tryz.func33, Tryz.ntmps33
  cases h1 : decide (lo ≤ x) with
  | false => go_wp2; go_ret; exact ⟨rfl, rfl⟩
  | true => go_wp2; go_ret; exact ⟨rfl, rfl⟩

/-- The first k bytes are letters. -/
def OkTo (n : Int) (s : ByteArray) (k : Nat) : Prop := ∀ j (hj : j < s.size), j < k → isL n s[j] = true
theorem OkTo.zero (n : Int) (s : ByteArray) : OkTo n s 0 := fun j _ h => by omega
theorem OkTo.next {n : Int} {s : ByteArray} {k : Nat} (h : OkTo n s k) (hk : k < s.size) (hl : isL n s[k] = true) : OkTo n s (k + 1) := by
  intro j hj hjk
  by_cases e : j = k
  · subst e; exact hl
  · exact h j hj (by omega)
theorem OkTo.all {n : Int} {s : ByteArray} (h : OkTo n s s.size) : s.data.toList.all (isL n) = true := all_of (fun j hj => h j hj hj)

theorem letter_no (m : Nat) (hm : m < 256) (h : 97 ≤ m) : wrap64 (wrap64 (m : Int) - 97) = (m : Int) - 97 := by unfold wrap64; omega

set_option maxRecDepth 100000 in
theorem spec_isWord (n : Int) (s : ByteArray) (hs : s.size ≤ 1099511627776) (w : World) :
    Calls Tryz.prog 80 #[.int .i64 n, .string s] w fun e w' => e = .returned (.bool (isW n s)) ∧ w' = w := by
  have HI := Lib.hid (spec_in n 1 3)
  go_enter Tryz.func80, Tryz.ntmps80
  go_wp2
  go_loop [5] (fun i => ∃ k : Nat, k ≤ s.size ∧ i = .int .i64 k ∧ Hid (OkTo n s k)) (fun i => s.size - (intOf i).toNat)
  case atStart => exact ⟨0, Nat.zero_le _, rfl, Lib.hid (OkTo.zero n s)⟩
  case round =>
    obtain ⟨k, hk, rfl, hok⟩ := hrel
    by_cases hlt : k < s.size
    · cases hl : isL n s[k] with
      | true =>
        have hnext := Lib.hid (hok.out.next hlt hl)
        unfold isL at hl
        simp only [Bool.and_eq_true, decide_eq_true_eq] at hl
        obtain ⟨l1, l2⟩ := hl
        have hb : s[k].toNat < 256 := s[k].toNat_lt
        have c1 : decide ((s[k].toNat : Int) < 97) = false := by simp; omega
        have c2 : decide (n ≤ wrap64 (wrap64 (s[k].toNat : Int) - 97)) = false := by rw [letter_no _ hb l1]; simp; omega
        go_wp2
        go_round
        case rel => exact ⟨k + 1, by omega, by go_num, hnext⟩
        case measure => simp [intOf]; omega
      | false =>
        have HR := Lib.hid (all_not hlt hl)
        have hb : s[k].toNat < 256 := s[k].toNat_lt
        by_cases c0 : s[k].toNat < 97
        · have c1 : decide ((s[k].toNat : Int) < 97) = true := by simp; omega
          go_wp2
          all_goals first | (go_ret; exact ⟨by simp [isW, HR.out], rfl⟩) | (exfalso; omega)
        · have c1 : decide ((s[k].toNat : Int) < 97) = false := by simp; omega
          have c2 : decide (n ≤ wrap64 (wrap64 (s[k].toNat : Int) - 97)) = true := by
            rw [letter_no _ hb (by omega)]
            unfold isL at hl
            simp at hl ⊢; omega
          have c3 : n ≤ (s[k].toNat : Int) - 97 := by have := of_decide_eq_true c2; rw [letter_no _ hb (by omega)] at this; exact this
          clear hl c2
          go_wp2
          all_goals first | (go_ret; exact ⟨by simp [isW, HR.out], rfl⟩) | (exfalso; omega)
    · obtain rfl : k = s.size := by omega
      have HA := Lib.hid hok.out.all
      go_wp2_with fail
      refine (HI.out _).mono ?_
      rintro e w1 ⟨rfl, rfl⟩
      cases hx : (decide (1 ≤ n) && decide (n ≤ 3)) with
      | false =>
        go_wp2
        go_ret
        exact ⟨by simp only [isW, HA.out, hx]; rfl, rfl⟩
      | true =>
        go_wp2
        go_ret
        exact ⟨by simp [isW, HA.out, hx]; omega, rfl⟩

/-- All bytes are letters, where there are n. -/
def allL (n : Int) (s : ByteArray) : Bool := s.data.toList.all (isL n)

set_option maxRecDepth 100000 in
theorem impl_only (n : Int) (hn : 1 ≤ n ∧ n ≤ 3) (s : ByteArray) (hs : s.size ≤ 1099511627776) (w : World) :
    Calls Tryz.prog 117 #[.int .i64 n, .string s] w fun e w' => e = .returned (.bool (allL n s)) ∧ w' = w := by
  go_enter Tryz.func117, Tryz.ntmps117
  go_wp2
  go_loop [8] (fun i => ∃ k : Nat, k ≤ s.size ∧ i = .int .i64 k ∧ Hid (OkTo n s k)) (fun i => s.size - (intOf i).toNat)
  case atStart => exact ⟨0, Nat.zero_le _, rfl, Lib.hid (OkTo.zero n s)⟩
  case round =>
    obtain ⟨k, hk, rfl, hok⟩ := hrel
    by_cases hlt : k < s.size
    · have hb : s[k].toNat < 256 := s[k].toNat_lt
      cases hl : isL n s[k] with
      | true =>
        have hnext := Lib.hid (hok.out.next hlt hl)
        unfold isL at hl
        simp only [Bool.and_eq_true, decide_eq_true_eq] at hl
        obtain ⟨l1, l2⟩ := hl
        have c1 : decide ((s[k].toNat : Int) < 97) = false := by simp; omega
        go_wp2
        go_round
        case rel => exact ⟨k + 1, by omega, by go_num, hnext⟩
        case measure => simp [intOf]; omega
      | false =>
        have HR : Hid (allL n s = false) := Lib.hid (all_not hlt hl)
        by_cases c0 : s[k].toNat < 97
        · have c1 : decide ((s[k].toNat : Int) < 97) = true := by simp; omega
          go_wp2
          all_goals (go_ret; exact ⟨by simp [HR.out], rfl⟩)
        · have c1 : decide ((s[k].toNat : Int) < 97) = false := by simp; omega
          have c2 : n ≤ (s[k].toNat : Int) - 97 := by
            unfold isL at hl
            simp at hl; omega
          clear hl
          go_wp2
          all_goals (go_ret; exact ⟨by simp [HR.out], rfl⟩)
    · obtain rfl : k = s.size := by omega
      have HA : Hid (allL n s = true) := Lib.hid hok.out.all
      go_wp2
      go_ret
      exact ⟨by simp [HA.out], rfl⟩

set_option maxRecDepth 100000 in
theorem impl_isWord (n : Int) (s : ByteArray) (hs : s.size ≤ 1099511627776) (w : World) :
    Calls Tryz.prog 112 #[.int .i64 n, .string s] w fun e w' => e = .returned (.bool (isW n s)) ∧ w' = w := by
  have HI := Lib.hid (impl_isLetterCount n)
  go_enter Tryz.func112, Tryz.ntmps112
  go_wp2_with fail
  refine (HI.out _).mono ?_
  rintro e w1 ⟨rfl, rfl⟩
  cases hx : (decide (1 ≤ n) && decide (n ≤ 3)) with
  | false =>
    go_wp2
    go_ret
    exact ⟨by simp only [isW, hx]; rfl, rfl⟩
  | true =>
    have hn : 1 ≤ n ∧ n ≤ 3 := by simpa using hx
    by_cases h16 : s.size ≤ 16
    · have g0 : decide ((s.size : Int) ≤ (16 : Int)) = true := by simp; omega
      have HX := Lib.hid hx
      have HO := Lib.hid (impl_only n hn s hs w1)
      clear hx hn
      go_wp2_with fail
      refine HO.out.mono ?_
      rintro e w2 ⟨rfl, rfl⟩
      go_wp2
      go_ret
      exact ⟨by simp only [isW, HX.out, decide_eq_true h16, Bool.and_true, Bool.true_and]; rfl, rfl⟩
    · have g0 : decide ((s.size : Int) ≤ (16 : Int)) = false := by simp; omega
      clear hx
      go_wp2
      go_ret
      exact ⟨by simp [isW, h16], rfl⟩

end Go.Proofs.YtalclebehbdliaaGreatDoor
namespace Go.Proofs.YtalclebehbdliaaGreatDoor
open Go Go.RowKit

def occ (s sub : ByteArray) : Bool := Lib.contains s.data.toList sub.data.toList
/-- The part doesn't begin before place k. -/
def NoOcc (s sub : ByteArray) (k : Nat) : Prop := ∀ j, j < k → j + sub.size ≤ s.size → Lib.occAt s.data.toList sub.data.toList j = false
theorem NoOcc.next {s sub : ByteArray} {k : Nat} (h : NoOcc s sub k) (ho : Lib.occAt s.data.toList sub.data.toList k = false) : NoOcc s sub (k + 1) := by
  intro j h1 h2
  by_cases e : j = k
  · subst e; exact ho
  · exact h j (by omega) h2
theorem NoOcc.no {s sub : ByteArray} {k : Nat} (h : NoOcc s sub k) (hk : s.size < k + sub.size) : occ s sub = false :=
  contains_no (fun i hi => by
    rw [ba_len, ba_len] at hi
    exact h i (by omega) hi)

set_option maxRecDepth 100000 in
theorem spec_occurs (s sub : ByteArray) (hs : s.size ≤ 2147483648) (hb : sub.size ≤ 2147483648) (w : World) :
    Calls Tryz.prog 108 #[.string s, .string sub] w fun e w' => e = .returned (.bool (occ s sub)) ∧ w' = w := by
  go_enter Tryz.func108, Tryz.ntmps108
  go_wp2
  go_loop [5] (fun i => ∃ k : Nat, k ≤ s.size + 1 ∧ i = .int .i64 k ∧ Hid (NoOcc s sub k)) (fun i => s.size + 1 - (intOf i).toNat)
  case atStart => exact ⟨0, Nat.zero_le _, rfl, Lib.hid (fun j h => by omega)⟩
  case round =>
    obtain ⟨k, hk, rfl, hno⟩ := hrel
    by_cases hlt : k + sub.size ≤ s.size
    · have hq : ((s.extract k (k + sub.size)).toList == sub.toList) = Lib.occAt s.data.toList sub.data.toList k := by rw [ba_same, occ_eq]
      cases ho : Lib.occAt s.data.toList sub.data.toList k with
      | true =>
        rw [ho] at hq
        have HO := Lib.hid (show occ s sub = true from contains_yes (i := k) (by rw [ba_len]; omega) ho)
        clear ho
        go_wp2
        go_ret
        exact ⟨by rw [HO.out]; rfl, rfl⟩
      | false =>
        rw [ho] at hq
        have HO := Lib.hid (hno.out.next ho)
        clear ho
        go_wp2
        go_round
        case rel => exact ⟨k + 1, by omega, by go_num, HO⟩
        case measure => simp [intOf]; omega
    · have HO := Lib.hid (hno.out.no (by omega))
      go_wp2
      go_ret
      exact ⟨by rw [HO.out]; rfl, rfl⟩

end Go.Proofs.YtalclebehbdliaaGreatDoor
namespace Go.Proofs.YtalclebehbdliaaGreatDoor
open Go Go.RowKit

def BoolPost (b : Bool) (w : World) (e : Ending) (w' : World) : Prop := e = .returned (.bool b) ∧ Below w.heap.size w w'

set_option maxRecDepth 100000 in
set_option maxHeartbeats 1600000 in
theorem spec_isShift (L : Int) (G : Option Addr) (c : Nat) (ps : List ByteArray) (hl : ps.length ≤ 1048576) (hz : ∀ k, k < ps.length → (ps.getD k ByteArray.empty).size ≤ 1099511627776) (w : World) (hs : StrsG w G ps) :
    Calls Tryz.prog 52 #[.agg #[.int .i64 L, .slice G ps.length c]] w (BoolPost (isShift L ps) w) := by
  have hb := (Below.refl w.heap.size w).alloc (Nat.le_refl _) (.cells #[.int .i64 L, .slice G ps.length c] 30)
  have HS := Lib.hid (hs.below hb)
  have HZ := Lib.hid hz
  have HW := Lib.hid (fun k hk w' => spec_isWord L (ps.getD k ByteArray.empty) (hz k hk) w')
  have HN := Lib.hid (fun (n : Nat) w' => spec_in (n : Int) 1 3 w')
  have HL := Lib.hid (spec_in L 1 3)
  have HB := Lib.hid hb
  clear hs hz hb
  go_enter Tryz.func52, Tryz.ntmps52
  go_wp2
  go_loop [3] (fun i => ∃ k : Nat, k ≤ ps.length ∧ i = .int .i64 k ∧ Hid (ShiftTo L ps k)) (fun i => ps.length - (intOf i).toNat)
  case atStart => exact ⟨0, Nat.zero_le _, rfl, Lib.hid (ShiftTo.zero L ps)⟩
  case round =>
    obtain ⟨k, hk, rfl, hto⟩ := hrel
    by_cases hlt : k < ps.length
    · obtain ⟨bg, og, rfl, hst, _⟩ := HS.out (by omega)
      have hc := hst k hlt
      have hw := HW.out k hlt
      cases hi : isW L (ps.getD k ByteArray.empty) with
      | false =>
        have HR := Lib.hid (isShift_not hlt (okAt_word hi))
        rw [hi] at hw
        have HW1 := Lib.hid hw
        generalize ps.getD k ByteArray.empty = y at *
        clear hw hi
        go_wp2_with fail
        refine (HW1.out _).mono ?_
        rintro e w1 ⟨rfl, rfl⟩
        go_wp2
        go_ret
        exact ⟨by rw [HR.out]; rfl, HB.out⟩
      | true =>
        rw [hi] at hw
        have HW1 := Lib.hid hw
        clear hw
        have hn := HN.out (ps.getD k ByteArray.empty).size
        cases hz : (decide (1 ≤ (ps.getD k ByteArray.empty).size) && decide ((ps.getD k ByteArray.empty).size ≤ 3)) with
        | false =>
          have HR := Lib.hid (isShift_not hlt (okAt_size (L := L) hz))
          rw [show (decide ((1 : Int) ≤ ((ps.getD k ByteArray.empty).size : Int)) && decide (((ps.getD k ByteArray.empty).size : Int) ≤ 3)) = false by rw [← hz]; congr 1 <;> (apply decide_eq_decide.2; omega)] at hn
          have HN1 := Lib.hid hn
          generalize ps.getD k ByteArray.empty = y at *
          clear hn hz hi
          go_wp2_with fail
          refine (HW1.out _).mono ?_
          rintro e w1 ⟨rfl, rfl⟩
          go_wp2_with fail
          refine (HN1.out _).mono ?_
          rintro e w2 ⟨rfl, rfl⟩
          go_wp2
          go_ret
          exact ⟨by rw [HR.out]; rfl, HB.out⟩
        | true =>
          rw [show (decide ((1 : Int) ≤ ((ps.getD k ByteArray.empty).size : Int)) && decide (((ps.getD k ByteArray.empty).size : Int) ≤ 3)) = true by rw [← hz]; congr 1 <;> (apply decide_eq_decide.2; omega)] at hn
          have HN1 := Lib.hid hn
          clear hn
          by_cases h0 : 0 < k
          · obtain ⟨j, rfl⟩ : ∃ j, k = j + 1 := ⟨k - 1, by omega⟩
            have hc0 := hst j (by omega)
            have g0 : decide ((0 : Int) < ((j + 1 : Nat) : Int)) = true := by rw [decide_eq_true_eq]; omega
            have j0 : (0 : Int) ≤ (j : Int) := by omega
            have j1 : (j : Int) < (ps.length : Int) := by omega
            have j2 : (j : Int) + 1 < (ps.length : Int) := by omega
            have j3 : (0 : Int) ≤ (j : Int) + 1 := by omega
            cases hle : decide ((ps.getD j ByteArray.empty).data.toList < (ps.getD (j + 1) ByteArray.empty).data.toList) with
            | false =>
              have HR := Lib.hid (isShift_not hlt (show okAt L ps (j + 1) = false by unfold okAt; rw [Nat.add_sub_cancel, hle]; simp))
              rw [← ba_less] at hle
              generalize ps.getD j ByteArray.empty = z at *
              generalize ps.getD (j + 1) ByteArray.empty = y at *
              clear hz hi
              go_wp2_with fail
              refine (HW1.out _).mono ?_
              rintro e w1 ⟨rfl, rfl⟩
              go_wp2_with fail
              refine (HN1.out _).mono ?_
              rintro e w2 ⟨rfl, rfl⟩
              go_wp2
              go_ret
              exact ⟨by rw [HR.out]; rfl, HB.out⟩
            | true =>
              have HT := Lib.hid (hto.out.next (show okAt L ps (j + 1) = true by unfold okAt; rw [Nat.add_sub_cancel, hle, hi, hz]; simp))
              rw [← ba_less] at hle
              generalize ps.getD j ByteArray.empty = z at *
              generalize ps.getD (j + 1) ByteArray.empty = y at *
              clear hz hi
              go_wp2_with fail
              refine (HW1.out _).mono ?_
              rintro e w1 ⟨rfl, rfl⟩
              go_wp2_with fail
              refine (HN1.out _).mono ?_
              rintro e w2 ⟨rfl, rfl⟩
              go_wp2
              go_round
              case rel => exact ⟨j + 2, by omega, by go_num, HT⟩
              case measure => simp [intOf]; omega
          · obtain rfl : k = 0 := by omega
            rw [Nat.add_zero] at hc
            have HT := Lib.hid (hto.out.next (show okAt L ps 0 = true by unfold okAt; rw [hi, hz]; simp))
            have i1 : (0 : Int) < (ps.length : Int) := by omega
            generalize ps.getD 0 ByteArray.empty = y at *
            clear hz hi
            go_wp2_with fail
            refine (HW1.out _).mono ?_
            rintro e w1 ⟨rfl, rfl⟩
            go_wp2_with fail
            refine (HN1.out _).mono ?_
            rintro e w2 ⟨rfl, rfl⟩
            go_wp2
            go_round
            case rel => exact ⟨1, by omega, by go_num, HT⟩
            case measure => simp [intOf]; omega
    · obtain rfl : k = ps.length := by omega
      have HE := Lib.hid (isShift_end hto.out)
      go_wp2_with fail
      refine (HL.out _).mono ?_
      rintro e w1 ⟨rfl, rfl⟩
      cases hx : (decide (1 ≤ L) && decide (L ≤ 3)) with
      | false =>
        go_wp2
        go_ret
        exact ⟨by rw [HE.out, hx]; rfl, HB.out⟩
      | true =>
        have e8 : decide ((ps.length : Int) ≤ 8) = decide (ps.length ≤ 8) := decide_eq_decide.2 (by omega)
        go_wp2
        go_ret
        exact ⟨by rw [HE.out, hx, Bool.true_and, ← e8]; first | rfl | (rw [e8]; rfl), HB.out⟩
set_option maxRecDepth 100000 in
set_option maxHeartbeats 800000 in
theorem spec_avoids (G : Option Addr) (c : Nat) (ps : List ByteArray) (s : ByteArray) (hl : ps.length ≤ 1048576) (hz : ∀ k, k < ps.length → (ps.getD k ByteArray.empty).size ≤ 2147483648) (hs2 : s.size ≤ 2147483648) (w : World) (hs : StrsG w G ps) :
    Calls Tryz.prog 106 #[.slice G ps.length c, .string s] w fun e w' => e = .returned (.bool (avoids ps s)) ∧ w' = w := by
  have HS := Lib.hid hs
  have HO := Lib.hid (fun k hk w' => spec_occurs s (ps.getD k ByteArray.empty) hs2 (hz k hk) w')
  clear hs hz
  go_enter Tryz.func106, Tryz.ntmps106
  go_wp2
  go_loop [5] (fun i => ∃ k : Nat, k ≤ ps.length ∧ i = .int .i64 k ∧ Hid (AvoidTo ps s k)) (fun i => ps.length - (intOf i).toNat)
  case atStart => exact ⟨0, Nat.zero_le _, rfl, Lib.hid (fun j h => by omega)⟩
  case round =>
    obtain ⟨k, hk, rfl, hto⟩ := hrel
    by_cases hlt : k < ps.length
    · obtain ⟨bg, og, rfl, hst, _⟩ := HS.out (by omega)
      have hc := hst k hlt
      have ho := HO.out k hlt
      cases hx : occ s (ps.getD k ByteArray.empty) with
      | true =>
        rw [hx] at ho
        have HR := Lib.hid (avoids_not hlt (show Lib.contains s.data.toList (ps.getD k ByteArray.empty).data.toList = true from hx))
        have HO1 := Lib.hid ho
        generalize ps.getD k ByteArray.empty = y at *
        clear ho hx
        go_wp2_with fail
        refine (HO1.out _).mono ?_
        rintro e w1 ⟨rfl, rfl⟩
        go_wp2
        go_ret
        exact ⟨by rw [HR.out]; rfl, rfl⟩
      | false =>
        rw [hx] at ho
        have HT := Lib.hid (hto.out.next (show Lib.contains s.data.toList (ps.getD k ByteArray.empty).data.toList = false from hx))
        have HO1 := Lib.hid ho
        generalize ps.getD k ByteArray.empty = y at *
        clear ho hx
        go_wp2_with fail
        refine (HO1.out _).mono ?_
        rintro e w1 ⟨rfl, rfl⟩
        go_wp2
        go_round
        case rel => exact ⟨k + 1, by omega, by go_num, HT⟩
        case measure => simp [intOf]; omega
    · obtain rfl : k = ps.length := by omega
      have HE := Lib.hid (avoids_end hto.out)
      go_wp2
      go_ret
      exact ⟨by rw [HE.out]; rfl, rfl⟩

end Go.Proofs.YtalclebehbdliaaGreatDoor
namespace Go.Proofs.YtalclebehbdliaaGreatDoor
open Go Go.RowKit

/-- What is left of the limit, or -1. -/
def SzPost (L : Int) (xs : List ByteArray) (w : World) (e : Ending) (w' : World) : Prop := ∃ r : Int, e = .returned (.int .i64 r) ∧ (r = -1 ∨ (0 ≤ r ∧ (xs.length : Int) + total xs + r ≤ L)) ∧ w = w'

/-- A copy in new memory, at the heap's end. -/
def CopyPost (xs : List ByteArray) (w : World) (e : Ending) (w' : World) : Prop :=
  e = .returned (.slice (some ⟨w.heap.size, 0, none⟩) xs.length xs.length) ∧ w'.ownsRow w.heap.size 9 1 (.slice (some ⟨w.heap.size, 0, none⟩) xs.length xs.length) xs.length (xs.map Value.string) ∧ Below w.heap.size w w' ∧ w.heap.size < w'.heap.size

end Go.Proofs.YtalclebehbdliaaGreatDoor
namespace Go.Proofs.YtalclebehbdliaaGreatDoor
open Go Go.RowKit

def SzShiftPost (xs : List ByteArray) (w : World) (e : Ending) (w' : World) : Prop := ∃ r : Int, e = .returned (.int .i64 r) ∧ (r = -1 ∨ (0 ≤ r ∧ (xs.length : Int) + total xs ≤ 1048576)) ∧ Below w.heap.size w w'

/-- A copy: its own slice, in new memory. -/
def ToShiftPost (L : Int) (xs : List ByteArray) (w : World) (e : Ending) (w' : World) : Prop :=
  ∃ g, e = .returned (.agg #[.int .i64 L, .slice (some ⟨g, 0, none⟩) xs.length xs.length]) ∧ w'.ownsRow w.heap.size 9 1 (.slice (some ⟨g, 0, none⟩) xs.length xs.length) xs.length (xs.map Value.string) ∧ Below w.heap.size w w'

end Go.Proofs.YtalclebehbdliaaGreatDoor
namespace Go.Proofs.YtalclebehbdliaaGreatDoor
open Go Go.RowKit

/-- A block holds a shift. -/
def BoxAt (w : World) (g : Nat) (L : Int) (V : Value) : Prop := w.cell? ⟨g, 0, none⟩ = some (.int .i64 L) ∧ w.cell? ⟨g, 1, none⟩ = some V
theorem BoxAt.below {w w' : World} {g B : Nat} {L : Int} {V : Value} (h : BoxAt w g L V) (hb : Below B w w') (hg : g < B) : BoxAt w' g L V :=
  ⟨(hb.cell (p := ⟨g, 0, none⟩) hg).trans h.1, (hb.cell (p := ⟨g, 1, none⟩) hg).trans h.2⟩
theorem boxAt_new (w : World) (L : Int) (V : Value) (t : TypeId) : BoxAt (w.alloc (.cells #[.int .i64 L, V] t)) w.heap.size L V := ⟨by simp, by simp⟩
theorem below_after {w w1 w2 : World} (h : Below w.heap.size w w1) (k : Below w1.heap.size w1 w2) : Below w.heap.size w w2 := h.trans (k.mono h.size)

/-- What a function of a shift answers at its copies, in every world behind W in which nothing that was there has turned. -/
def AtCopies (W : World) (f : Nat) (L : Int) (xs : List ByteArray) (b : Bool) : Prop :=
  ∀ g c w', Below W.heap.size W w' → xs.length ≤ 1048576 → total xs ≤ 1048576 → StrsAt w' g 0 xs → g < w'.heap.size → Calls Tryz.prog f #[.agg #[.int .i64 L, .slice (some ⟨g, 0, none⟩) xs.length c]] w' (BoolPost b w')

end Go.Proofs.YtalclebehbdliaaGreatDoor
namespace Go.Proofs.YtalclebehbdliaaGreatDoor
open Go Go.RowKit

def SizeSh (ps : List ByteArray) : Prop := ps.length ≤ 1048576 ∧ ∀ k, k < ps.length → (ps.getD k ByteArray.empty).size ≤ 2147483648
def ShV (w : World) (v : Value) (L : Int) (ps : List ByteArray) : Prop := ∃ G c, v = .agg #[.int .i64 L, .slice G ps.length c] ∧ StrsG w G ps
theorem ShV.below {w w' : World} {v : Value} {L : Int} {ps : List ByteArray} (h : ShV w v L ps) (hb : Below w.heap.size w w') : ShV w' v L ps := by
  obtain ⟨G, c, hv, hs⟩ := h
  exact ⟨G, c, hv, hs.below hb⟩
/-- The list lies in memory of its own. -/
def OwnSh (w : World) (B : Nat) (v : Value) (L : Int) (ps : List ByteArray) : Prop := ∃ G c, v = .agg #[.int .i64 L, .slice G ps.length c] ∧ w.ownsRow B 9 1 (.slice G ps.length c) ps.length (ps.map Value.string)
theorem strsG_of_owns {w : World} {B c : Nat} {G : Option Addr} {ps : List ByteArray} (h : w.ownsRow B 9 1 (.slice G ps.length c) ps.length (ps.map Value.string)) : StrsG w G ps := fun h0 => by
  obtain ⟨g, c2, hv, _, _⟩ := World.ownsRow.form h h0
  simp only [Value.slice.injEq, true_and] at hv
  obtain ⟨rfl, rfl⟩ := hv
  exact ⟨g, 0, rfl, StrsAt.of_owns h rfl, (h.lt g rfl).2⟩
theorem OwnSh.shV {w : World} {B : Nat} {v : Value} {L : Int} {ps : List ByteArray} (h : OwnSh w B v L ps) : ShV w v L ps := by
  obtain ⟨G, c, hv, ho⟩ := h
  exact ⟨G, c, hv, strsG_of_owns ho⟩
theorem OwnSh.mono {w : World} {B B' : Nat} {v : Value} {L : Int} {ps : List ByteArray} (h : OwnSh w B v L ps) (hB : B' ≤ B) : OwnSh w B' v L ps := by
  obtain ⟨G, c, hv, ho⟩ := h
  exact ⟨G, c, hv, World.ownsRow.mono ho hB⟩
/-- A shift, new, and whether there is one. -/
def NewShB (o : Option (Int × List ByteArray)) (w : World) (e : Ending) (w' : World) : Prop := ∃ v, e = .returned (.tuple #[v, .bool o.isSome]) ∧ OwnSh w' w.heap.size v (o.getD (0, [])).1 (o.getD (0, [])).2 ∧ Below w.heap.size w w'
theorem ownSh_nil (w : World) (B : Nat) (L : Int) : OwnSh w B (.agg #[.int .i64 L, .slice none 0 0]) L [] := ⟨none, 0, rfl, World.ownsRow_nil w B 9 1⟩
theorem sh_stores {W : World} {h : Nat} {x y x' y' : Value} {t : TypeId} (hk : W.heap[h]? = some (.cells #[x, y] t (0, 0))) :
    ((W.setCell ⟨h, 0, none⟩ x').setCell ⟨h, 1, none⟩ y').heap[h]? = some (.cells #[x', y'] t (0, 0)) := by
  have m2 := heap_setCell_same W h 0 _ _ x' hk
  have m3 := heap_setCell_same _ h 1 _ _ y' m2
  rw [m3]; rfl
theorem sh_cells {W : World} {h : Nat} {x y : Value} {t : TypeId} (hk : W.heap[h]? = some (.cells #[x, y] t (0, 0))) :
    W.cell? ⟨h, 0, none⟩ = some x ∧ W.cell? ⟨h, 1, none⟩ = some y ∧ ∀ j, W.frozen? ⟨h, j, none⟩ = false :=
  ⟨by simp [World.cell?, hk], by simp [World.cell?, hk], fun j => by simp [World.frozen?, hk]⟩
section
variable {P : Program}
theorem results_sh {fn : Func} {p u : Tmp} {ty : TypeId} (h : fn.results = #[.cell p ty, .tmp u]) (tmps : Array Value) (w : World) (g : Nat) (t : TypeId) (cs : Array Value) (fr : Nat × Nat) (d : TypeDesc)
    (hp : tmps.getD p undef = .pointer (some ⟨g, 0, none⟩)) (hg : w.heap[g]? = some (.cells cs t fr))
    (hu : P.underlying ty = some d) (hd : (match d with | .struct _ | .array _ _ => true | _ => false) = true) (hi : (P.info? ty).map (·.size) = some cs.size) :
    (results fn tmps).run P w = .ok (.tuple #[.agg cs, tmps.getD u undef]) w := by
  have hp' : tmps[p]?.getD undef = .pointer (some ⟨g, 0, none⟩) := by simpa using hp
  simp [results, h, hp', asAddr, run_loadVar_row w g t ty cs fr d hg hu hd hi]
end
/-- The list stays its own when a shift's block below it is written. -/
theorem owns_stores {w : World} {B h : Nat} {v x y : Value} {n : Nat} {xs : List Value} (ho : w.ownsRow B 9 1 v n xs) (hh : h < B) : ((w.setCell ⟨h, 0, none⟩ x).setCell ⟨h, 1, none⟩ y).ownsRow B 9 1 v n xs :=
  ownsRow_setCell_below (ownsRow_setCell_below ho (a := ⟨h, 0, none⟩) hh x) (a := ⟨h, 1, none⟩) hh y
theorem below_stores {B : Nat} {w w' : World} (hb : Below B w w') {h : Nat} (hh : B ≤ h) (x y : Value) : Below B w ((w'.setCell ⟨h, 0, none⟩ x).setCell ⟨h, 1, none⟩ y) :=
  (hb.setCell (p := ⟨h, 0, none⟩) hh x).setCell (p := ⟨h, 1, none⟩) hh y
end Go.Proofs.YtalclebehbdliaaGreatDoor
namespace Go.Proofs.YtalclebehbdliaaGreatDoor
open Go Go.RowKit

/-- A list of strings in new memory. -/
def ListPost (ps : List ByteArray) (w : World) (e : Ending) (w' : World) : Prop :=
  ∃ v, e = .returned v ∧ w'.ownsRow w.heap.size 9 1 v ps.length (ps.map Value.string) ∧ Below w.heap.size w w'
theorem letter_at (x : Nat) (h : x < 3) : (⟨#[97, 98, 99]⟩ : ByteArray).extract x (x + 1) = letterB x := by
  match x, h with
  | 0, _ => rfl
  | 1, _ => rfl
  | 2, _ => rfl
theorem wrap_next (x : Nat) (h : x ≤ 1000000) : IntKind.i64.wrap ((x : Int) + 1) = (x : Int) + 1 := by
  simp [IntKind.wrap, IntKind.bits, IntKind.signed]
  omega
/-- The words with a letter behind each: j of them done, and the next with x letters. -/
def upTo (ws : List ByteArray) (k j x : Nat) : List ByteArray := longer (ws.take j) k ++ (List.range x).map fun y => ws.getD j ByteArray.empty ++ letterB y
theorem upTo_zero (ws : List ByteArray) (k j : Nat) : upTo ws k j 0 = longer (ws.take j) k := by simp [upTo]
theorem upTo_next (ws : List ByteArray) (k j x : Nat) : upTo ws k j (x + 1) = upTo ws k j x ++ [ws.getD j ByteArray.empty ++ letterB x] := by
  unfold upTo
  rw [range_next, List.append_assoc]
theorem upTo_full (ws : List ByteArray) (k j : Nat) (h : j < ws.length) : upTo ws k j k = longer (ws.take (j + 1)) k := by
  unfold upTo
  rw [longer_next ws k j h, List.getD_eq_getElem?_getD, List.getElem?_eq_getElem h]; rfl
theorem upTo_length (ws : List ByteArray) (k j x : Nat) (h : j ≤ ws.length) : (upTo ws k j x).length = j * k + x := by
  unfold upTo
  rw [List.length_append, longer_length, List.length_take, List.length_map, List.length_range, Nat.min_eq_left h]
theorem getD_size {ws : List ByteArray} {m j : Nat} (h : ∀ x ∈ ws, x.size = m) (hj : j < ws.length) : (ws.getD j ByteArray.empty).size = m := by
  rw [List.getD_eq_getElem?_getD, List.getElem?_eq_getElem hj]
  exact h _ (List.getElem_mem hj)

set_option maxRecDepth 100000 in
set_option maxHeartbeats 1600000 in
theorem spec_all (k n : Nat) (hk1 : 1 ≤ k) (hk : k ≤ 3) (hn : n ≤ 16) (hmax : ∀ i, i ≤ n → k ^ i ≤ 729) (w : World) :
    Calls Tryz.prog 82 #[.int .i64 k, .int .i64 n] w (ListPost (allW k n) w) := by
  obtain ⟨i0, hi, hz0, hz1, hz2⟩ := info_parts infoStr
  have HMAX := Lib.hid hmax
  clear hmax
  go_enter Tryz.func82, Tryz.ntmps82
  go_wp2
  go_loopw [5, 6] (fun v i wr => ∃ m : Nat, m ≤ n ∧ i = .int .i64 m ∧ wr.ownsRow w.heap.size 9 1 v (allW k m).length ((allW k m).map Value.string) ∧ Below w.heap.size w wr) (fun _ i _ => n - (intOf i).toNat)
  case atStart => exact ⟨0, Nat.zero_le _, rfl, World.ownsRow_lit w #[.string ByteArray.empty] 1 (Nat.le_refl _) (by decide) rfl, (Below.refl _ _).alloc (Nat.le_refl _) _⟩
  case round =>
    obtain ⟨m, hm, rfl, ho, hbl⟩ := hrel
    have HB := Lib.hid hbl
    clear hbl
    by_cases hlt : m < n
    · have hlen := allW_length k m
      have hle := HMAX.out m hm
      have hsz := allW_size k m
      have hn1 : allW k (m + 1) = longer (allW k m) k := rfl
      have hpos : 0 < (allW k m).length := by rw [hlen]; exact Nat.pow_pos hk1
      generalize allW k m = ws at *
      rw [← hlen] at hle
      rcases ho.2 with ⟨rfl, h0⟩ | ⟨g, cap, cur, rfl, _, _, _⟩
      · omega
      have hgl := (ho.lt g rfl).2
      have HS := Lib.hid (StrsAt.of_owns ho rfl)
      have HZ := Lib.hid hsz
      have HN := Lib.hid hn1
      clear hsz hn1 hlen ho
      obtain ⟨wo, rfl⟩ : ∃ wo, wo = wr := ⟨_, rfl⟩
      go_wp2
      go_loopw [7, 8] (fun v j wq => ∃ jn : Nat, jn ≤ ws.length ∧ j = .int .i64 jn ∧ wq.ownsRow wo.heap.size 9 1 v (upTo ws k jn 0).length ((upTo ws k jn 0).map Value.string) ∧ Below wo.heap.size wo wq) (fun _ j _ => ws.length - (intOf j).toNat)
      case atStart => exact ⟨0, Nat.zero_le _, rfl, World.ownsRow_made _ _ 0 (Nat.le_refl _) (by decide) rfl, (Below.refl _ _).alloc (Nat.le_refl _) _⟩
      case round =>
        obtain ⟨j, hj, rfl, ho, hbl⟩ := hrel
        have HO := Lib.hid ho
        have HB1 := Lib.hid hbl
        clear ho hbl
        by_cases hjl : j < ws.length
        · go_wp2
          go_loopw [7, 9] (fun v x wq => ∃ xn : Nat, xn ≤ k ∧ x = .int .i64 xn ∧ wq.ownsRow wo.heap.size 9 1 v (upTo ws k j xn).length ((upTo ws k j xn).map Value.string) ∧ Below wo.heap.size wo wq) (fun _ x _ => k - (intOf x).toNat)
          case atStart => exact ⟨0, Nat.zero_le _, rfl, HO.out, HB1.out⟩
          case round =>
            obtain ⟨x, hx, rfl, ho2, hbl2⟩ := hrel
            have HO2 := Lib.hid ho2
            have HB2 := Lib.hid hbl2
            clear ho2 hbl2
            by_cases hxk : x < k
            · have hcell := HS.out.below HB2.out hgl j hjl
              rw [Nat.zero_add] at hcell
              have hws := getD_size HZ.out hjl
              have HU := Lib.hid (upTo_next ws k j x)
              generalize ws.getD j ByteArray.empty = y at *
              have x6 := letter_at x (by omega)
              have x7 := letterB_size x
              have x8 : y.size + (letterB x).size ≤ 9223372036854775807 := by rw [x7, hws]; omega
              clear x7
              have x9 : ∀ w, (Op.stringOp .add y (letterB x)).run Tryz.prog w = .ok (.string (y ++ letterB x)) w := fun w => run_string_add_sum w _ _ x8
              have HL := Lib.hid (upTo_length ws k j x (by omega))
              have hne : u7.ownBlock ≠ some g := fun h => by have := (HO2.out.lt g h).1; omega
              have hys : (upTo ws k j x).length + 1 ≤ 10000 := by
                have h1 := HL.out
                have h2 : j * k ≤ 729 * 3 := Nat.mul_le_mul (by omega) hk
                omega
              have hb1 : wo.heap.size ≤ wr.heap.size := HB2.out.size
              have j0 : (0 : Int) ≤ (j : Int) := by omega
              have j1 : (j : Int) < (ws.length : Int) := by omega
              have x0 : (0 : Int) ≤ (x : Int) := by omega
              have x1 : (x : Int) + 1 ≤ 3 := by omega
              have x2 : (x : Int) ≤ (x : Int) + 1 := by omega
              have x3 : IntKind.i64.wrap ((x : Int) + 1) = (x : Int) + 1 := wrap_next x (by omega)
              have x4 : (⟨#[97, 98, 99]⟩ : ByteArray).size = 3 := rfl
              have x5 : (x : Int) + 1 ≤ ((⟨#[97, 98, 99]⟩ : ByteArray).size : Int) := x1
              go_wp2
              go_region_held3 (fun w' => w'.cell? ⟨g, j, none⟩ = some (.string y)) (first | go_keep | (rw [hgrow.cell_far _ (by simp; omega) (Ne.symm hne)]; assumption))
                ((refine step_append_lies _ (by rfl) _ _ _ (by rfl) wo.heap.size 9 i0 _ 1 16 Tryz.underlying28 hi hz0 hz1 hz2 rfl (by omega) u7 (upTo ws k j x).length ((upTo ws k j x).map Value.string) (by rfl) ((HO2.out.alloc _).drew) ⟨wr.heap.size, 0, none⟩ 1 1 [.string (y ++ letterB x)] (by rfl) (by rfl) (World.news_of_block (cs := #[.string (y ++ letterB x)]) (t := 9) (fr := (0, 0)) (heap_alloc_new wr _)) (by simp [Value.oneCell']) (by omega) (by unfold maxLen; omega) (by omega) (by simp; omega) (wr.heap.size + 1) (by simp) ?_; intro gg cap1 w1 hown1 hgrow hat hlt1))
              have hb2 : Below wo.heap.size wo w1 := (HB2.out.alloc HB2.out.size _).drew.grown hgrow (by simp; omega) (fun k hk => (HO2.out.lt k hk).1)
              have HO3 := Lib.hid hown1
              have HB3 := Lib.hid hb2
              clear hown1 hb2 hgrow hat hlt1
              go_wp2
              go_roundw
              case rel => exact ⟨x + 1, by omega, by go_num, by rw [HU.out, List.length_append, List.map_append]; exact HO3.out, HB3.out⟩
              case measure => simp [intOf]; omega
            · obtain rfl : x = k := by omega
              go_wp2
              go_roundw
              case rel => exact ⟨j + 1, by omega, by go_num, by rw [upTo_zero, ← upTo_full ws x j hjl]; exact HO2.out, HB2.out⟩
              case measure => simp [intOf]; omega
        · obtain rfl : j = ws.length := by omega
          go_wp2
          go_roundw
          case rel => exact ⟨m + 1, by omega, by go_num, by rw [HN.out]; have h := HO.out; rw [upTo_zero, List.take_length] at h; exact h.mono HB.out.size, HB.out.trans (HB1.out.mono HB.out.size)⟩
          case measure => simp [intOf]; omega
    · obtain rfl : m = n := by omega
      have HO := Lib.hid ho
      clear ho
      go_wp2
      go_ret
      exact ⟨_, rfl, HO.out, HB.out⟩
end Go.Proofs.YtalclebehbdliaaGreatDoor
namespace Go.Proofs.YtalclebehbdliaaGreatDoor
open Go Go.RowKit

/-- The mark of k. -/
def mark (k : Nat) : ByteArray := ⟨(109 :: dd k).toArray⟩
/-- The marks from k on. -/
def marks (k : Nat) : Nat → List ByteArray
  | 0 => []
  | n + 1 => mark k :: marks (k + 1) n
theorem marks_length : ∀ (n k : Nat), (marks k n).length = n
  | 0, _ => rfl
  | n + 1, k => by rw [marks, List.length_cons, marks_length n]
theorem marks_get : ∀ (n k j : Nat), j < n → (marks k n).getD j ByteArray.empty = mark (k + j)
  | 0, _, j, h => by omega
  | n + 1, k, 0, _ => by simp [marks]
  | n + 1, k, j + 1, h => by
    rw [marks, List.getD_cons_succ, marks_get n (k + 1) j (by omega)]
    congr 1; omega

theorem mk_conv (b : UInt8) (y : Int) (hy : y = (b.toNat : Int)) (w : World) : (convert 22 9 (.slice (some ⟨w.heap.size, 0, none⟩) 1 1)).run Tryz.prog (w.alloc (.cells #[.int .u8 y] 5)) = .ok (.string ⟨#[b]⟩) (w.alloc (.cells #[.int .u8 y] 5)) := by
  subst hy
  have h := run_convert_bytes_arg (P := Tryz.prog) (w.alloc (.cells #[.int .u8 (b.toNat : Int)] 5)) 22 5 Tryz.underlying22 Tryz.underlying5 w.heap.size 0 1 1 [(b.toNat : Int)] rfl (fun i hi => by
    obtain rfl : i = 0 := by omega
    simp [go_sem]) 9 Tryz.underlying9
  rw [h]
  simp [strOfNums]
theorem mk_rest {u c : Nat} {s : ByteArray} {b : UInt8} (h : dd c ++ s.data.toList = dd u) (h0 : 0 < c) (hb : b = UInt8.ofNat (48 + c % 10)) : dd (c / 10) ++ ((⟨#[b]⟩ : ByteArray) ++ s).data.toList = dd u := by
  rw [← h, dd_step (show c ≠ 0 by omega), hb]; simp [ByteArray.data_append]
theorem mk_len {u c : Nat} {s : ByteArray} (h : dd c ++ s.data.toList = dd u) (hu : u ≤ 9223372036854775808) : s.size ≤ 1000 := by
  have h1 := dd_length 20 u (by omega)
  rw [← h, List.length_append] at h1
  have h2 : s.size = s.data.toList.length := rfl
  omega
theorem mk_byte (c : Nat) : ∃ b : UInt8, b = UInt8.ofNat (48 + c % 10) ∧ (48 : Int) + (c : Int) % 10 = (b.toNat : Int) :=
  ⟨_, rfl, by
    have e : (UInt8.ofNat (48 + c % 10)).toNat = 48 + c % 10 := by rw [UInt8.toNat_ofNat']; exact Nat.mod_eq_of_lt (by omega)
    rw [e]; omega⟩
theorem mk_bytes {a : ByteArray} {l : List UInt8} (h : a.data.toList = l) : a = ⟨l.toArray⟩ := by subst h; rfl
theorem mk_ret {a b : ByteArray} (h : a = b) : Ending.returned (.string a) = .returned (.string b) := by rw [h]

def MarkPost (u : Nat) (w : World) (e : Ending) (w' : World) : Prop := e = .returned (.string (mark u)) ∧ Below w.heap.size w w'

/-- A row that is being marked from the front. -/
def marked (xs : List ByteArray) (q k : Nat) : List Value := ((marks q k) ++ xs.drop k).map Value.string
theorem marks_next : ∀ (n k : Nat), marks k (n + 1) = marks k n ++ [mark (k + n)]
  | 0, k => rfl
  | n + 1, k => by
    rw [marks, marks_next n (k + 1), marks, List.cons_append]
    congr 4; omega
theorem marked_set (xs : List ByteArray) (q k : Nat) (h : k < xs.length) : (marked xs q k).set k (.string (mark (q + k))) = marked xs q (k + 1) := by
  have hl : ((marks q k).map Value.string).length = k := by rw [List.length_map, marks_length]
  have hd : xs.drop k = xs[k] :: xs.drop (k + 1) := List.drop_eq_getElem_cons h
  unfold marked
  rw [marks_next, List.map_append, List.map_append, List.map_append, hd, List.map_cons]
  rw [List.set_append_right _ _ (by omega), hl, Nat.sub_self]
  simp
theorem marked_at (xs : List ByteArray) (q k : Nat) (h : k < xs.length) : ∃ y, (marked xs q k)[k]? = some (.string y) := by
  have hl : (marks q k).length = k := marks_length k q
  refine ⟨xs[k], ?_⟩
  unfold marked
  rw [List.getElem?_map, List.getElem?_append_right (by omega), hl, Nat.sub_self, List.getElem?_drop, Nat.add_zero, List.getElem?_eq_getElem h]
  rfl
theorem marked_none (xs : List ByteArray) (q : Nat) : marked xs q 0 = xs.map Value.string := by simp [marked, marks]
theorem marked_all (xs : List ByteArray) (q : Nat) : marked xs q xs.length = (marks q xs.length).map Value.string := by simp [marked]
end Go.Proofs.YtalclebehbdliaaGreatDoor
namespace Go.Proofs.YtalclebehbdliaaGreatDoor
open Go Go.RowKit

/-- The row holds the marks from q on; of what was there no other block has turned. -/
def MarksPost (B q g cap n : Nat) (w : World) (e : Ending) (w' : World) : Prop :=
  e = .returned (.int .i64 ((q + n : Nat) : Int)) ∧ w'.ownsRow B 9 1 (.slice (some ⟨g, 0, none⟩) n cap) n ((marks q n).map Value.string) ∧ w.grownBy w' (some g)

def HeldPost (q n : Nat) (w : World) (e : Ending) (w' : World) : Prop := e = .returned (.int .i64 ((q + n : Nat) : Int)) ∧ Below w.heap.size w w'

end Go.Proofs.YtalclebehbdliaaGreatDoor
namespace Go.Proofs.YtalclebehbdliaaGreatDoor
open Go Go.RowKit

theorem owns_below {w w' : World} {B e n : Nat} {v : Value} {xs : List Value} (h : w.ownsRow B e 1 v n xs) (hb : Below w.heap.size w w') : w'.ownsRow B e 1 v n xs := by
  refine h.kept (row := none) ⟨hb.os, hb.tape, hb.output, hb.size, fun j hj _ => hb.block j hj⟩ ?_
  cases hv : v.ownBlock with
  | none => exact Or.inl rfl
  | some k => exact Or.inr (by intro h; cases h)
theorem StrsAt.grown {w w' : World} {g b : Nat} {xs : List ByteArray} (h : StrsAt w b 0 xs) (hg : w.grownBy w' (some g)) (hne : b ≠ g) : StrsAt w' b 0 xs := by
  intro k hk
  exact hg.cell (h k hk) (by intro h; exact hne (Option.some.inj h))
theorem ListPost.full {ps : List ByteArray} {w w' : World} {e : Ending} (h : ListPost ps w e w') (hp : 0 < ps.length) :
    ∃ g cap, e = .returned (.slice (some ⟨g, 0, none⟩) ps.length cap) ∧ w'.ownsRow w.heap.size 9 1 (.slice (some ⟨g, 0, none⟩) ps.length cap) ps.length (ps.map Value.string) ∧ Below w.heap.size w w' := by
  obtain ⟨v, rfl, ho, hb⟩ := h
  rcases ho.2 with ⟨rfl, h0⟩ | ⟨g, cap, cur, rfl, _, _, _⟩
  · omega
  · exact ⟨g, cap, rfl, ho, hb⟩
theorem ListPost.bare {ps : List ByteArray} {w w' : World} {e : Ending} (h : ListPost ps w e w') (hp : ¬ 0 < ps.length) :
    ∃ a cap, e = .returned (.slice a 0 cap) ∧ Below w.heap.size w w' := by
  obtain ⟨v, rfl, ho, hb⟩ := h
  have h0 : ps.length = 0 := by omega
  rcases ho.2 with ⟨rfl, _⟩ | ⟨g, cap, cur, rfl, _, _, _⟩
  · exact ⟨none, 0, rfl, hb⟩
  · exact ⟨some ⟨g, 0, none⟩, cap, by rw [h0], hb⟩

end Go.Proofs.YtalclebehbdliaaGreatDoor
namespace Go.Proofs.YtalclebehbdliaaGreatDoor
open Go Go.RowKit

theorem grown_nilS {w w' : World} {cap : Nat} {cur : Array Value} {g : Nat} (hg : g = w.heap.size) (hb : w'.heap[g]? = some (.cells cur 9 (0, 0))) (hc : cap ≤ maxLen) (hs : cur.size = cap) : w'.ownsRow w.heap.size 9 1 (.slice (some ⟨g, 0, none⟩) 0 cap) 0 [] :=
  ⟨rfl, Or.inr ⟨g, cap, cur, rfl, by omega, hb, Nat.zero_le _, hc, by omega, by simp⟩⟩

/-- An append of a list that lies anywhere, or nowhere if it is empty. -/
theorem wpList_append_src {P : Program} {w : World} {ops : Array Oper} {rest : List Oper} {o : Oper} {a : Act} {Q : Exit → Act → World → Prop} (hgd : o.guard = none) (s x : Operand) (t : TypeId)
    (ho : o.op = .call { callee := .builtin .append, args := #[s, x], argTypes := #[t, t] })
    (base : Nat) (e : TypeId) (i : TypeInfo) (z : Value) (bytes : Nat) (ht : P.underlying t = some (.slice e)) (hi : P.info? e = some i) (hz : i.zero = some z)
    (hsize : i.size = 1) (hby : i.bytes = bytes) (hzs : z.cells.size = 1)
    (v : Value) (n : Nat) (xs : List Value) (hs : a.eval s = v) (hown : w.ownsRow base e 1 v n xs)
    (A : Option Addr) (m c : Nat) (news : List Value) (hx : a.eval x = .slice A m c) (hl : news.length = m) (hnews : 0 < m → ∃ ad, A = some ad ∧ ∀ j u, news[j]? = some u → w.cell? (ad.add j) = some u) (h1 : ∀ u ∈ news, u.oneCell' = true)
    (h63 : n + m ≤ maxLen) (hbytes : (n + m) * bytes ≤ 140737488355328) (hbase : base ≤ w.heap.size)
    (h : ∀ v' w', w'.ownsRow base e 1 v' (n + m) (xs ++ news) → w.grownBy w' v.ownBlock → wpList P ops Q rest (a.put o.dst v') w') : wpList P ops Q (o :: rest) a w := by
  by_cases hm : m = 0
  · subst hm
    obtain rfl : news = [] := List.eq_nil_of_length_eq_zero hl
    refine wpList_plain hgd fun K hK => ?_
    have hrun : (Builtin.append_ #[t, t] o.type #[v, .slice A 0 c]).run P w = .ok v w := by
      rcases hown.2 with ⟨rfl, h0⟩ | ⟨g, cap, cur, rfl, _, _, hnc, _⟩
      · cases A with
        | none => simp [Builtin.append_, run_underlying ht, sizeOf, typeInfo, hi, Builtin.lenOf, Builtin.firstCells]
        | some ad => simp [Builtin.append_, run_underlying ht, sizeOf, typeInfo, hi, Builtin.lenOf, Builtin.firstCells, loadCells, loadCellsFrom]
      · exact run_append_zeroG t o.type e i ht hi g n cap hnc A c
    unfold Oper.wp
    simp [execOp, ho, resolve, invoke, builtin, hs, hx, hrun, Result.andThen]
    exact hK _ _ (h v w (by simpa using hown) (World.grownBy.refl _ _))
  · obtain ⟨ad, rfl, hn⟩ := hnews (by omega)
    exact wpList_append_own w hgd s x t ho base e i z 1 bytes ht hi hz hsize hby hzs (by decide) v n xs hs hown ad m c news hx (by omega) hn h1 h63 hbytes hbase fun v' w' h2 h3 _ => h v' w' h2 h3
theorem strsG_news {w : World} {G : Option Addr} {xs : List ByteArray} (h : StrsG w G xs) : 0 < xs.length → ∃ ad, G = some ad ∧ ∀ j u, (xs.map Value.string)[j]? = some u → w.cell? (ad.add j) = some u := fun hp => by
  obtain ⟨b, off, rfl, hs, _⟩ := h hp
  refine ⟨_, rfl, fun j u hu => ?_⟩
  have hj : j < xs.length := by
    by_cases hj : j < xs.length
    · exact hj
    · rw [List.getElem?_eq_none (by simpa using Nat.le_of_not_lt hj)] at hu; cases hu
  have e : (⟨b, off, none⟩ : Addr).add j = ⟨b, off + j, none⟩ := by unfold Addr.add; split <;> simp_all
  rw [e, hs j hj]
  rw [List.getElem?_map, List.getElem?_eq_getElem hj] at hu
  rw [List.getD_eq_getElem?_getD, List.getElem?_eq_getElem hj]
  exact hu
theorem str_one {xs : List ByteArray} : ∀ u ∈ xs.map Value.string, u.oneCell' = true := fun u hu => by
  obtain ⟨x, _, rfl⟩ := List.mem_map.1 hu
  rfl
theorem own_joinedS {w : World} {B : Nat} {v : Value} {xs ys : List ByteArray} {n : Nat} (h : w.ownsRow B 9 1 v n (xs.map Value.string ++ ys.map Value.string)) : w.ownsRow B 9 1 v (xs ++ ys).length ((xs ++ ys).map Value.string) := by
  have hl := h.1
  rw [List.length_append, List.length_map, List.length_map] at hl
  rw [List.length_append, List.map_append, show xs.length + ys.length = n by omega]
  exact h

end Go.Proofs.YtalclebehbdliaaGreatDoor
namespace Go.Proofs.YtalclebehbdliaaGreatDoor
open Go Go.RowKit

def putW (x : ByteArray) : List ByteArray → List ByteArray
  | [] => [x]
  | y :: l => if y.data.toList < x.data.toList then y :: putW x l else if y = x then y :: l else x :: y :: l
/-- The first k are less than x. -/
def LessTo (x : ByteArray) (ps : List ByteArray) (k : Nat) : Prop := ∀ j, j < k → (ps.getD j ByteArray.empty).data.toList < x.data.toList
theorem LessTo.next {x : ByteArray} {ps : List ByteArray} {k : Nat} (h : LessTo x ps k) (hl : (ps.getD k ByteArray.empty).data.toList < x.data.toList) : LessTo x ps (k + 1) := by
  intro j hj
  by_cases e : j = k
  · subst e; exact hl
  · exact h j (by omega)
theorem putW_end (x : ByteArray) : ∀ ps : List ByteArray, LessTo x ps ps.length → putW x ps = ps ++ [x]
  | [], _ => rfl
  | y :: l, h => by
    have h0 := h 0 (by simp)
    simp only [List.getD_cons_zero] at h0
    rw [putW, if_pos h0, putW_end x l (fun j hj => by have := h (j + 1) (by simpa using hj); simpa using this)]
    rfl
theorem putW_same (x : ByteArray) : ∀ (ps : List ByteArray) (k : Nat), k < ps.length → LessTo x ps k → ps.getD k ByteArray.empty = x → putW x ps = ps
  | [], k, h, _, _ => by simp at h
  | y :: l, 0, _, _, he => by
    simp only [List.getD_cons_zero] at he
    subst he
    rw [putW, if_neg (List.lt_irrefl _), if_pos rfl]
  | y :: l, k + 1, hk, h, he => by
    have h0 := h 0 (by omega)
    simp only [List.getD_cons_zero] at h0
    rw [putW, if_pos h0, putW_same x l k (by simpa using hk) (fun j hj => by have := h (j + 1) (by omega); simpa using this) (by simpa using he)]
theorem putW_mid (x : ByteArray) : ∀ (ps : List ByteArray) (k : Nat), k < ps.length → LessTo x ps k → ¬ (ps.getD k ByteArray.empty).data.toList < x.data.toList → ps.getD k ByteArray.empty ≠ x → putW x ps = (ps.take k ++ [x]) ++ ps.drop k
  | [], k, h, _, _, _ => by simp at h
  | y :: l, 0, _, _, hn, he => by
    simp only [List.getD_cons_zero] at he hn
    rw [putW, if_neg hn, if_neg he]
    rfl
  | y :: l, k + 1, hk, h, hn, he => by
    have h0 := h 0 (by omega)
    simp only [List.getD_cons_zero] at h0
    rw [putW, if_pos h0, putW_mid x l k (by simpa using hk) (fun j hj => by have := h (j + 1) (by omega); simpa using this) (by simpa using hn) (by simpa using he)]
    rfl
theorem putW_length (x : ByteArray) : ∀ ps : List ByteArray, 0 < (putW x ps).length ∧ (putW x ps).length ≤ ps.length + 1
  | [] => by simp [putW]
  | y :: l => by
    have ih := putW_length x l
    unfold putW
    split
    · simp; omega
    · split <;> simp
theorem putW_mem (x z : ByteArray) : ∀ ps : List ByteArray, z ∈ putW x ps → z = x ∨ z ∈ ps
  | [], h => by simpa [putW] using h
  | y :: l, h => by
    unfold putW at h
    split at h
    · rcases List.mem_cons.1 h with h | h
      · exact Or.inr (by simp [h])
      · rcases putW_mem x z l h with h | h
        · exact Or.inl h
        · exact Or.inr (by simp [h])
    · split at h
      · exact Or.inr h
      · exact List.mem_cons.1 h
/-- Ascending, each once. -/
def Asc (ps : List ByteArray) : Prop := ps.Pairwise fun a b => a.data.toList < b.data.toList
theorem Asc.put {x : ByteArray} : ∀ {ps : List ByteArray}, Asc ps → Asc (putW x ps)
  | [], _ => by simp [putW, Asc]
  | y :: l, h => by
    have h1 := List.pairwise_cons.1 h
    unfold putW
    split
    · next hl =>
      refine List.pairwise_cons.2 ⟨fun z hz => ?_, Asc.put h1.2⟩
      rcases putW_mem x z l hz with e | hm
      · subst e; exact hl
      · exact h1.1 z hm
    · next hn =>
      split
      · exact h
      · next he =>
        have hlt : x.data.toList < y.data.toList := by
          rcases List.le_iff_lt_or_eq.1 (List.not_lt.1 hn) with h3 | h3
          · exact h3
          · exact absurd (ba_ext h3).symm he
        refine List.pairwise_cons.2 ⟨fun z hz => ?_, h⟩
        rcases List.mem_cons.1 hz with e | hm
        · subst e; exact hlt
        · exact List.lt_trans hlt (h1.1 z hm)
def notB (x : List UInt8) (z : List UInt8) : Bool := !(z == x)
def datas (ps : List ByteArray) : List (List UInt8) := ps.map fun p => p.data.toList
theorem filter_all_of {l : List (List UInt8)} {x : List UInt8} (h : ∀ z ∈ l, z ≠ x) : l.filter (notB x) = l := by
  rw [List.filter_eq_self]
  intro z hz
  simp [notB, h z hz]
theorem putW_perm (x : ByteArray) : ∀ {ps : List ByteArray}, Asc ps → (datas (putW x ps)).Perm (x.data.toList :: (datas ps).filter (notB x.data.toList))
  | [], _ => by simp [putW, datas]
  | y :: l, h => by
    have h1 := List.pairwise_cons.1 h
    have ih := putW_perm x h1.2
    unfold putW
    split
    · next hl =>
      have hne : notB x.data.toList y.data.toList = true := by
        have : y.data.toList ≠ x.data.toList := fun e => List.lt_irrefl _ (e ▸ hl)
        unfold notB
        rw [beq_eq_false_iff_ne.2 this]; rfl
      simp only [datas, List.map_cons, List.filter_cons, hne, if_true] at ih ⊢
      exact (ih.cons _).trans (List.Perm.swap _ _ _)
    · next hn =>
      split
      · next he =>
        subst he
        have hf : (datas l).filter (notB y.data.toList) = datas l := filter_all_of (fun z hz => by
          obtain ⟨p, hp, rfl⟩ := List.mem_map.1 hz
          intro e
          exact List.lt_irrefl _ (e ▸ h1.1 p hp))
        have hy : notB y.data.toList y.data.toList = false := by simp [notB]
        have hd : datas (y :: l) = y.data.toList :: datas l := rfl
        rw [hd, List.filter_cons, hy, if_neg (by decide), hf]
      · next he =>
        have hlt : x.data.toList < y.data.toList := by
          rcases List.le_iff_lt_or_eq.1 (List.not_lt.1 hn) with h3 | h3
          · exact h3
          · exact absurd (ba_ext h3).symm he
        have hf : (datas (y :: l)).filter (notB x.data.toList) = datas (y :: l) := filter_all_of (fun z hz => by
          obtain ⟨p, hp, rfl⟩ := List.mem_map.1 hz
          intro e
          rcases List.mem_cons.1 hp with e2 | hm
          · subst e2; exact List.lt_irrefl _ (e ▸ hlt)
          · exact List.lt_irrefl _ (e ▸ List.lt_trans hlt (h1.1 p hm)))
        rw [hf]
        exact List.Perm.refl _

/-! ### The parts of a word -/
def facsTo (w : ByteArray) (n : Nat) : Nat → List ByteArray
  | 0 => []
  | i + 1 => putW (w.extract i (i + n)) (facsTo w n i)
theorem facsTo_asc (w : ByteArray) (n : Nat) : ∀ i, Asc (facsTo w n i)
  | 0 => List.Pairwise.nil
  | i + 1 => (facsTo_asc w n i).put
theorem facsTo_length (w : ByteArray) (n : Nat) : ∀ i, (facsTo w n i).length ≤ i
  | 0 => Nat.le_refl _
  | i + 1 => by
    have := (putW_length (w.extract i (i + n)) (facsTo w n i)).2
    have := facsTo_length w n i
    unfold facsTo; omega
theorem facsTo_pos (w : ByteArray) (n i : Nat) (h : 0 < i) : 0 < (facsTo w n i).length := by
  match i, h with
  | i + 1, _ => exact (putW_length _ _).1
theorem facsTo_mem (w : ByteArray) (n : Nat) : ∀ i, ∀ z ∈ facsTo w n i, ∃ j, j < i ∧ z = w.extract j (j + n)
  | 0, z, h => by simp [facsTo] at h
  | i + 1, z, h => by
    rcases putW_mem _ z _ h with e | hm
    · exact ⟨i, by omega, e⟩
    · obtain ⟨j, hj, e⟩ := facsTo_mem w n i z hm
      exact ⟨j, by omega, e⟩
def factorsOf (w : ByteArray) (n : Int) : List ByteArray := if isW 3 w = true ∧ 0 ≤ n ∧ n ≤ (w.size : Int) then facsTo w n.toNat (w.size - n.toNat + 1) else []
theorem factorsOf_length (w : ByteArray) (n : Int) : (factorsOf w n).length ≤ 1000000 := by
  unfold factorsOf
  split
  · next h =>
    have := isW_len h.1
    have := facsTo_length w n.toNat (w.size - n.toNat + 1)
    omega
  · simp

/-! ### A map's keys -/
theorem strKeys_put {H : Type} (es : List (Lit × DataW H)) (x : List UInt8) (d : DataW H) (hk : ∀ p ∈ es, ∃ y, p.1 = .string y) :
    (strKeys ((DataW.map es).put (.string x) d)).Perm (x :: (strKeys (DataW.map es)).filter (notB x)) := by
  rw [DataW.put_eq]
  show ((ChangeMaps.putKey (.string x) d es).map fun p => strOf p.1).Perm (x :: (es.map fun p => strOf p.1).filter (notB x))
  unfold ChangeMaps.putKey
  have h1 := (WideShapes.insert_perm ((Lit.string x, d) : Lit × DataW H) (es.filter (ChangeMaps.notKey (.string x)))).map fun p => strOf p.1
  refine h1.trans ?_
  rw [List.map_cons]
  refine List.Perm.cons _ ?_
  rw [List.filter_map]
  have e : es.filter (ChangeMaps.notKey (.string x)) = es.filter (notB x ∘ fun p => strOf p.1) := by
    apply List.filter_congr
    intro p hp
    obtain ⟨y, hy⟩ := hk p hp
    simp [ChangeMaps.notKey, hy, Lit.sameKey, notB, strOf]
  rw [e]
theorem sorted_of_perm {ss : List (List UInt8)} {ps : List ByteArray} (h : ss.Perm (datas ps)) (ha : Asc ps) : ss.mergeSort (fun x y => decide (x ≤ y)) = datas ps := by
  have tr : ∀ a b c : List UInt8, decide (a ≤ b) = true → decide (b ≤ c) = true → decide (a ≤ c) = true := fun a b c h1 h2 => by simp only [decide_eq_true_eq] at *; exact List.le_trans h1 h2
  have to : ∀ a b : List UInt8, (decide (a ≤ b) || decide (b ≤ a)) = true := fun a b => by simp only [Bool.or_eq_true, decide_eq_true_eq]; exact List.le_total a b
  refine List.Perm.eq_of_pairwise (le := fun a b => decide (a ≤ b) = true) (fun a b _ _ h1 h2 => ?_) (List.pairwise_mergeSort tr to ss) ?_ ((List.mergeSort_perm ss _).trans h)
  · simp only [decide_eq_true_eq] at h1 h2
    exact List.le_antisymm h1 h2
  · refine List.pairwise_map.2 (List.Pairwise.imp (fun hlt => ?_) ha)
    rw [decide_eq_true_eq]
    exact List.le_of_lt hlt
theorem datas_enc (ps : List ByteArray) : (datas ps).map (fun l => Value.string ⟨l.toArray⟩) = ps.map Value.string := by
  rw [datas, List.map_map]
  apply List.map_congr_left
  intro p _
  simp
end Go.Proofs.YtalclebehbdliaaGreatDoor
namespace Go.Proofs.YtalclebehbdliaaGreatDoor
open Go Go.RowKit

def PutPost (B : Nat) (x : ByteArray) (ps : List ByteArray) (w : World) (e : Ending) (w' : World) : Prop :=
  ∃ g cap, e = .returned (.slice (some ⟨g, 0, none⟩) (putW x ps).length cap) ∧ w'.ownsRow B 9 1 (.slice (some ⟨g, 0, none⟩) (putW x ps).length cap) (putW x ps).length ((putW x ps).map Value.string) ∧ Below B w w'
/-- Nothing that was there has turned but block g. -/
def Kept1 (g : Nat) (w w' : World) : Prop := w.heap.size ≤ w'.heap.size ∧ ∀ k, k < w.heap.size → k ≠ g → w'.heap[k]? = w.heap[k]?
theorem Kept1.refl (g : Nat) (w : World) : Kept1 g w w := ⟨Nat.le_refl _, fun _ _ _ => rfl⟩
theorem Kept1.alloc {g : Nat} {w w1 : World} (h : Kept1 g w w1) (o : Obj) : Kept1 g w (w1.alloc o) :=
  ⟨by rw [World.size_alloc]; exact Nat.le_succ_of_le h.1, fun k hk hg => (heap_alloc_old w1 o (Nat.lt_of_lt_of_le hk h.1)).trans (h.2 k hk hg)⟩
theorem Kept1.grown {g : Nat} {w w1 w2 : World} (h : Kept1 g w w1) {r : Option Nat} (hg : w1.grownBy w2 r) (hr : ∀ q, r = some q → q = g ∨ w.heap.size ≤ q) : Kept1 g w w2 :=
  ⟨Nat.le_trans h.1 hg.size, fun k hk hne => (hg.block k (Nat.lt_of_lt_of_le hk h.1) (fun e => by
    rcases hr k e.symm with h1 | h1
    · exact hne h1
    · omega)).trans (h.2 k hk hne)⟩
theorem Kept1.cell {g : Nat} {w w' : World} (h : Kept1 g w w') {p : Addr} (hp : p.block < w.heap.size) (hne : p.block ≠ g) : w'.cell? p = w.cell? p := World.cell?_of_block (h.2 p.block hp hne)
def PutPost3 (B g : Nat) (x : ByteArray) (ps : List ByteArray) (w : World) (e : Ending) (w' : World) : Prop :=
  ∃ g' cap, e = .returned (.slice (some ⟨g', 0, none⟩) (putW x ps).length cap) ∧ w'.ownsRow B 9 1 (.slice (some ⟨g', 0, none⟩) (putW x ps).length cap) (putW x ps).length ((putW x ps).map Value.string) ∧ Below B w w' ∧ Kept1 g w w' ∧ (g' = g ∨ w.heap.size ≤ g')
theorem owns_head {w : World} {B e g n k cap : Nat} {xs : List Value} (h : w.ownsRow B e 1 (.slice (some ⟨g, 0, none⟩) n cap) n xs) (hk : k ≤ n) : w.ownsRow B e 1 (.slice (some ⟨g, 0, none⟩) k cap) k (xs.take k) := by
  obtain ⟨h1, h2⟩ := h
  rcases h2 with ⟨h2, _⟩ | ⟨g', cap', cur, e2, hb, hh, hn, hc, hs, ht⟩
  · cases h2
  · injection e2 with e3 _ e4
    injection e3 with e5
    injection e5 with e6
    subst e6 e4
    refine ⟨by rw [List.length_take]; omega, Or.inr ⟨g, cap, cur, rfl, hb, hh, by omega, hc, hs, ?_⟩⟩
    rw [← ht, List.take_take, Nat.min_eq_left (by omega), Nat.mul_one]

theorem form_of {w : World} {B e n : Nat} {v : Value} {xs : List Value} (h : w.ownsRow B e 1 v n xs) (hne : v ≠ .slice none 0 0) : ∃ g cap, v = .slice (some ⟨g, 0, none⟩) n cap := by
  rcases h.2 with ⟨h2, _⟩ | ⟨g, cap, cur, e2, _⟩
  · exact absurd h2 hne
  · exact ⟨g, cap, e2⟩
theorem news_of_strs {w : World} {b off : Nat} {xs : List ByteArray} (h : StrsAt w b off xs) : ∀ (j : Nat) (u : Value), (xs.map Value.string)[j]? = some u → w.cell? ((⟨b, off, none⟩ : Addr).add j) = some u := by
  intro j u hj
  rw [List.getElem?_map] at hj
  cases hx : xs[j]? with
  | none => rw [hx] at hj; cases hj
  | some y =>
    rw [hx] at hj
    have hlt := (List.getElem?_eq_some_iff.1 hx).1
    have e : (⟨b, off, none⟩ : Addr).add j = ⟨b, off + j, none⟩ := by unfold Addr.add; split <;> simp_all
    rw [e, h j hlt, ← hj]
    simp [List.getD_eq_getElem?_getD, hx]
theorem strs_drop {w : World} {b k : Nat} {xs : List ByteArray} (h : StrsAt w b 0 xs) : StrsAt w b k (xs.drop k) := by
  intro j hj
  rw [List.length_drop] at hj
  have h1 := h (k + j) (by omega)
  rw [Nat.zero_add] at h1
  rw [h1]
  simp [List.getD_eq_getElem?_getD]
theorem one_cellP (x : ByteArray) : ∀ u ∈ [Value.string x], u.oneCell' = true := by
  intro u hu
  rw [List.mem_singleton] at hu
  subst hu; rfl
theorem str_cells (xs : List ByteArray) : ∀ u ∈ xs.map Value.string, u.oneCell' = true := by
  intro u hu
  obtain ⟨s, _, rfl⟩ := List.mem_map.1 hu
  rfl

theorem put_rest {B g cap n k m : Nat} {xs rest : List Value} {w w1 : World} {v1 : Value} (ho : w.ownsRow B 9 1 (.slice (some ⟨g, 0, none⟩) n cap) n xs) (hk : k ≤ n)
    (ho1 : w1.ownsRow w.heap.size 9 1 v1 (0 + m) ([] ++ rest)) (hg1 : (w.alloc (.cells #[] 9)).grownBy w1 (Value.slice (some ⟨w.heap.size, 0, none⟩) 0 0).ownBlock)
    (hn1 : v1 = .slice none 0 0 ↔ Value.slice (some ⟨w.heap.size, 0, none⟩) 0 0 = .slice none 0 0 ∧ m = 0) :
    ∃ gr cr, v1 = .slice (some ⟨gr, 0, none⟩) m cr ∧ Hid (w1.ownsRow w.heap.size 9 1 (.slice (some ⟨gr, 0, none⟩) m cr) m rest) ∧ Hid (w1.ownsRow B 9 1 (.slice (some ⟨g, 0, none⟩) k cap) k (xs.take k)) ∧ Hid (Below B w w1) ∧
      w.heap.size ≤ gr ∧ gr < w1.heap.size ∧ w.heap.size ≤ w1.heap.size := by
  have hgB := (ho.lt g rfl).1
  have hgl := (ho.lt g rfl).2
  rw [List.nil_append, Nat.zero_add] at ho1
  have hb1 : Below B w w1 := ((Below.refl B w).alloc (by omega) _).grown hg1 (by simp; omega) (fun q hq => by
    have : w.heap.size = q := Option.some.inj hq
    omega)
  obtain ⟨gr, cr, rfl⟩ := form_of ho1 (fun e => by have := (hn1.1 e).1; cases this)
  have hgr := ho1.lt gr rfl
  refine ⟨gr, cr, rfl, ho1, ((owns_head ho hk).alloc (.cells #[] 9)).kept hg1 (Or.inr ?_), hb1, hgr.1, hgr.2, hb1.size⟩
  intro e
  have : g = w.heap.size := Option.some.inj e
  omega
theorem put_one {B g cap k m gr cr B0 : Nat} {xs rest : List Value} {x : ByteArray} {w w1 w2 : World} (hB0 : g < B0) (hR : w1.ownsRow B0 9 1 (.slice (some ⟨gr, 0, none⟩) m cr) m rest) (hH : w1.ownsRow B 9 1 (.slice (some ⟨g, 0, none⟩) k cap) k xs) (hb1 : Below B w w1)
    (hg2 : (w1.alloc (.cells #[.string x] 9)).grownBy w2 (Value.slice (some ⟨g, 0, none⟩) k cap).ownBlock) :
    Hid (w2.ownsRow B0 9 1 (.slice (some ⟨gr, 0, none⟩) m cr) m rest) ∧ Hid (Below B w w2) ∧ w1.heap.size ≤ w2.heap.size := by
  have hgB := (hH.lt g rfl).1
  have hgl := (hH.lt g rfl).2
  have hgr := hR.lt gr rfl
  have hb2 : Below B w w2 := (hb1.alloc (by omega) _).grown hg2 (by simp; omega) (fun q hq => by
    have : g = q := Option.some.inj hq
    omega)
  have hsz := hg2.size
  refine ⟨(hR.alloc (.cells #[.string x] 9)).kept hg2 (Or.inr ?_), hb2, by simp at hsz; omega⟩
  intro e
  have : gr = g := Option.some.inj e
  omega

theorem put_done {B g k g3 c3 : Nat} {x : ByteArray} {ps : List ByteArray} {w w3 : World} (hk : k ≤ ps.length) (hp : putW x ps = (ps.take k ++ [x]) ++ ps.drop k)
    (h : w3.ownsRow B 9 1 (.slice (some ⟨g3, 0, none⟩) (k + 1 + (ps.length - k)) c3) (k + 1 + (ps.length - k)) (((ps.map Value.string).take k ++ [.string x]) ++ (ps.drop k).map Value.string)) (hb : Below B w w3) (hK : Kept1 g w w3) (hat : g3 = g ∨ w.heap.size ≤ g3) :
    PutPost3 B g x ps w (.returned (.slice (some ⟨g3, 0, none⟩) (k + 1 + (ps.length - k)) c3)) w3 := by
  have e1 : (putW x ps).length = k + 1 + (ps.length - k) := by rw [hp]; simp; omega
  have e2 : (putW x ps).map Value.string = ((ps.map Value.string).take k ++ [.string x]) ++ (ps.drop k).map Value.string := by rw [hp]; simp
  rw [← e1, ← e2] at h
  exact ⟨g3, c3, by rw [e1], h, hb, hK, hat⟩
theorem put_end_done {B g g3 c3 : Nat} {x : ByteArray} {ps : List ByteArray} {w w3 : World} (hp : putW x ps = ps ++ [x])
    (h : w3.ownsRow B 9 1 (.slice (some ⟨g3, 0, none⟩) (ps.length + 1) c3) (ps.length + 1) (ps.map Value.string ++ [.string x])) (hb : Below B w w3) (hK : Kept1 g w w3) (hat : g3 = g ∨ w.heap.size ≤ g3) :
    PutPost3 B g x ps w (.returned (.slice (some ⟨g3, 0, none⟩) (ps.length + 1) c3)) w3 := by
  have e1 : (putW x ps).length = ps.length + 1 := by rw [hp]; simp
  have e2 : (putW x ps).map Value.string = ps.map Value.string ++ [.string x] := by rw [hp]; simp
  rw [← e1, ← e2] at h
  exact ⟨g3, c3, by rw [e1], h, hb, hK, hat⟩
theorem owns_cap {w : World} {B g n cap : Nat} {xs : List Value} (h : w.ownsRow B 9 1 (.slice (some ⟨g, 0, none⟩) n cap) n xs) : n ≤ cap := by
  rcases h.2 with ⟨h2, _⟩ | ⟨g', cap', cur, e2, _, _, hn, _, _, _⟩
  · cases h2
  · injection e2 with _ _ e4
    omega

set_option maxRecDepth 100000 in
set_option maxHeartbeats 1600000 in
theorem spec_put2 (B g cap : Nat) (ps : List ByteArray) (x : ByteArray) (hl : ps.length ≤ 1000) (w : World)
    (ho : w.ownsRow B 9 1 (.slice (some ⟨g, 0, none⟩) ps.length cap) ps.length (ps.map Value.string)) :
    Calls Tryz.prog 90 #[.slice (some ⟨g, 0, none⟩) ps.length cap, .string x] w (PutPost3 B g x ps w) := by
  obtain ⟨i0, hi, hz0, hz1, hz2⟩ := info_parts infoStr
  have hst := StrsAt.of_owns ho rfl
  have hgB := (ho.lt g rfl).1
  have hgl := (ho.lt g rfl).2
  have HS := Lib.hid hst
  have HO := Lib.hid ho
  have hcap : ps.length ≤ cap := by
    rcases ho.2 with ⟨h2, _⟩ | ⟨g', cap', cur, e2, _, _, hn, _, _, _⟩
    · cases h2
    · injection e2 with _ _ e4
      omega
  clear ho hst
  go_enter Tryz.func90, Tryz.ntmps90
  go_wp2
  go_loop [5] (fun i => ∃ k : Nat, k ≤ ps.length ∧ i = .int .i64 k ∧ Hid (LessTo x ps k)) (fun i => ps.length - (intOf i).toNat)
  case atStart => exact ⟨0, Nat.zero_le _, rfl, Lib.hid (fun j h => by omega)⟩
  case round =>
    obtain ⟨k, hk, rfl, hless⟩ := hrel
    by_cases hlt : k < ps.length
    · have hcell := HS.out k hlt
      rw [Nat.zero_add] at hcell
      have hg0 : decide ((k : Int) < (ps.length : Int)) = true := by simp; omega
      cases hc : decide ((ps.getD k ByteArray.empty).data.toList < x.data.toList) with
      | true =>
        have HN := Lib.hid (hless.out.next (of_decide_eq_true hc))
        rw [← ba_less] at hc
        generalize ps.getD k ByteArray.empty = y at *
        go_wp2
        go_round
        case rel => exact ⟨k + 1, by omega, by go_num, HN⟩
        case measure => simp [intOf]; omega
      | false =>
        cases he : decide (ps.getD k ByteArray.empty = x) with
        | true =>
          have HP := Lib.hid (putW_same x ps k hlt hless.out (of_decide_eq_true he))
          rw [← ba_less] at hc
          rw [← ba_same] at he
          generalize ps.getD k ByteArray.empty = y at *
          go_wp2
          go_ret
          refine ⟨g, cap, by rw [HP.out]; rfl, by rw [HP.out]; exact HO.out, Below.refl _ _, Kept1.refl _ _, Or.inl rfl⟩
        | false =>
          have HP := Lib.hid (putW_mid x ps k hlt hless.out (of_decide_eq_false hc) (of_decide_eq_false he))
          rw [← ba_less] at hc
          rw [← ba_same] at he
          generalize ps.getD k ByteArray.empty = y at *
          have HNEW := Lib.hid (fun (c : Obj) => news_of_strs (strs_drop (k := k) (HS.out.below ((Below.refl w.heap.size w).alloc (Nat.le_refl _) c) hgl)))
          go_wp2_with (first
            | (at_builtin; refine wpList_append_own _ rfl (.tmp 34) (.tmp 37) 28 rfl w.heap.size 9 i0 (.string ByteArray.empty) 1 16 Tryz.underlying28 hi hz0 hz1 hz2 rfl (by decide) _ _ _ rfl (World.ownsRow_made _ _ 0 (Nat.le_refl _) (by decide) rfl) ⟨g, k, none⟩ (ps.length - k) (cap - k) ((ps.drop k).map Value.string) rfl (by simp) (HNEW.out _) (str_cells _) (by unfold maxLen; omega) (by omega) (by simp) ?_; intro v1 w1 ho1 hg1 hn1; have HK1 := Lib.hid (((Kept1.refl g w).alloc (.cells #[] 9)).grown hg1 (fun q hq => Or.inr (by have : w.heap.size = q := Option.some.inj hq; omega))); obtain ⟨gr, cr, rfl, HR1, HH1, HB1, hgr1, hgr2, hsz1⟩ := put_rest HO.out hk ho1 hg1 hn1; clear ho1 hg1 hn1)
            | (at_builtin; refine wpList_append_lies _ rfl (.tmp 41) (.tmp 43) 28 rfl B 9 i0 (.string ByteArray.empty) 1 16 Tryz.underlying28 hi hz0 hz1 hz2 rfl (by decide) _ _ _ rfl (HH1.out.alloc _) ⟨w1.heap.size, 0, none⟩ 1 1 [.string x] rfl rfl (cell_one_new _ _ _) (one_cellP x) (by decide) (by unfold maxLen; omega) (by omega) (by simp; omega) _ rfl ?_; intro gg c2 w2 ho2 hg2 hat2 _; have HK2 := Lib.hid ((HK1.out.alloc (.cells #[.string x] 9)).grown hg2 (fun q hq => Or.inl (Option.some.inj hq).symm)); have HAT : Hid (gg = g ∨ w.heap.size ≤ gg) := Lib.hid (by rcases hat2 with h | h; exact Or.inl (Option.some.inj h).symm; exact Or.inr (by rw [h]; simp; omega));  obtain ⟨HRR, HB2, hsz2⟩ := put_one (by omega) HR1.out HH1.out HB1.out hg2; have HR2 := Lib.hid (news_of_strs (StrsAt.of_owns HRR.out (by simp))); have HO2 := Lib.hid ho2; clear ho2 hg2 hat2)
            | (at_builtin; refine wpList_append_lies _ rfl (.tmp 44) (.tmp 45) 28 rfl B 9 i0 (.string ByteArray.empty) 1 16 Tryz.underlying28 hi hz0 hz1 hz2 rfl (by decide) _ _ _ rfl HO2.out ⟨gr, 0, none⟩ (ps.length - k) cr ((ps.drop k).map Value.string) rfl (by simp) HR2.out (str_cells _) (by omega) (by unfold maxLen; omega) (by omega) (by omega) _ rfl ?_; intro g3 c3 w3 ho3 hg3 hat3 _; have HAT3 : Hid (g3 = g ∨ w.heap.size ≤ g3) := Lib.hid (hat3.elim (fun h => by have : gg = g3 := Option.some.inj h; subst this; exact HAT.out) (fun h => Or.inr (by rw [h]; omega))); have hb3 : Below B w w3 := HB2.out.grown hg3 (by omega) (fun q hq => (HO2.out.lt q hq).1); have HK3 := Lib.hid (HK2.out.grown hg3 (fun q hq => by have : gg = q := Option.some.inj hq; subst this; exact HAT.out)); have HO3 := Lib.hid ho3; have HB3 := Lib.hid hb3; clear ho3 hg3 hb3 hat3))
          go_ret
          exact put_done hk HP.out HO3.out HB3.out HK3.out HAT3.out
    · obtain rfl : k = ps.length := by omega
      have HP := Lib.hid (putW_end x ps hless.out)
      have hk : ps.length ≤ ps.length := Nat.le_refl _
      have hk0 : ps.length ≤ ps.length := Nat.le_refl _
      by_cases hce : cap = ps.length
      · subst hce
        have HR1 := Lib.hid (World.ownsRow_made (base := w.heap.size) (e := 9) (size := 1) w #[] 0 (Nat.le_refl _) (by decide) rfl)
        have HH1 := Lib.hid (HO.out.alloc (.cells #[] 9))
        have HB1 := Lib.hid ((Below.refl B w).alloc (by omega) (.cells #[] 9))
        have HK1 := Lib.hid ((Kept1.refl g w).alloc (.cells #[] 9))
        have hnew : ∀ (q : Nat) (u : Value), [Value.string x][q]? = some u → ((w.alloc (.cells #[] 9)).alloc (.cells #[.string x] 9)).cell? ((⟨w.heap.size + 1, 0, none⟩ : Addr).add q) = some u := by
          have h := cell_one_new (w.alloc (.cells #[] 9)) (.string x) 9
          rw [World.size_alloc] at h
          exact h
        have HNEW := Lib.hid hnew
        clear hnew
        go_wp2_with (first
          | (at_builtin; refine wpList_append_lies _ rfl (.tmp 41) (.tmp 43) 28 rfl B 9 i0 (.string ByteArray.empty) 1 16 Tryz.underlying28 hi hz0 hz1 hz2 rfl (by decide) _ _ _ rfl (HH1.out.alloc _) ⟨w.heap.size + 1, 0, none⟩ 1 1 [.string x] rfl rfl HNEW.out (one_cellP x) (by decide) (by unfold maxLen; omega) (by omega) (by simp; omega) _ rfl ?_; intro gg c2 w2 ho2 hg2 hat2 _; have HK2 := Lib.hid ((HK1.out.alloc (.cells #[.string x] 9)).grown hg2 (fun q hq => Or.inl (Option.some.inj hq).symm)); have HAT : Hid (gg = g ∨ w.heap.size ≤ gg) := Lib.hid (by rcases hat2 with h | h; exact Or.inl (Option.some.inj h).symm; exact Or.inr (by rw [h]; simp; omega));  obtain ⟨HRR, HB2, hsz2⟩ := put_one hgl HR1.out HH1.out HB1.out hg2; have HO2 := Lib.hid ho2; clear ho2 hg2 hat2)
          | (at_builtin; refine wpList_append_zero rfl (.tmp 44) (.tmp 45) 28 rfl 9 i0 Tryz.underlying28 hi gg _ c2 (owns_cap HO2.out) ⟨w.heap.size, 0, none⟩ 0 rfl rfl ?_))
        go_ret
        exact put_end_done HP.out HO2.out HB2.out HK2.out HAT.out
      · have hce2 : ps.length < cap := by omega
        have HR1 := Lib.hid (World.ownsRow_made (base := w.heap.size) (e := 9) (size := 1) w #[] 0 (Nat.le_refl _) (by decide) rfl)
        have HH1 := Lib.hid (HO.out.alloc (.cells #[] 9))
        have HB1 := Lib.hid ((Below.refl B w).alloc (by omega) (.cells #[] 9))
        have HK1 := Lib.hid ((Kept1.refl g w).alloc (.cells #[] 9))
        have hnew : ∀ (q : Nat) (u : Value), [Value.string x][q]? = some u → ((w.alloc (.cells #[] 9)).alloc (.cells #[.string x] 9)).cell? ((⟨w.heap.size + 1, 0, none⟩ : Addr).add q) = some u := by
          have h := cell_one_new (w.alloc (.cells #[] 9)) (.string x) 9
          rw [World.size_alloc] at h
          exact h
        have HNEW := Lib.hid hnew
        clear hnew
        go_wp2_with (first
          | (at_builtin; refine wpList_append_lies _ rfl (.tmp 41) (.tmp 43) 28 rfl B 9 i0 (.string ByteArray.empty) 1 16 Tryz.underlying28 hi hz0 hz1 hz2 rfl (by decide) _ _ _ rfl (HH1.out.alloc _) ⟨w.heap.size + 1, 0, none⟩ 1 1 [.string x] rfl rfl HNEW.out (one_cellP x) (by decide) (by unfold maxLen; omega) (by omega) (by simp; omega) _ rfl ?_; intro gg c2 w2 ho2 hg2 hat2 _; have HK2 := Lib.hid ((HK1.out.alloc (.cells #[.string x] 9)).grown hg2 (fun q hq => Or.inl (Option.some.inj hq).symm)); have HAT : Hid (gg = g ∨ w.heap.size ≤ gg) := Lib.hid (by rcases hat2 with h | h; exact Or.inl (Option.some.inj h).symm; exact Or.inr (by rw [h]; simp; omega));  obtain ⟨HRR, HB2, hsz2⟩ := put_one hgl HR1.out HH1.out HB1.out hg2; have HO2 := Lib.hid ho2; clear ho2 hg2 hat2)
          | (at_builtin; refine wpList_append_zero rfl (.tmp 44) (.tmp 45) 28 rfl 9 i0 Tryz.underlying28 hi gg _ c2 (owns_cap HO2.out) ⟨w.heap.size, 0, none⟩ 0 rfl rfl ?_))
        go_ret
        exact put_end_done HP.out HO2.out HB2.out HK2.out HAT.out
theorem spec_put (B g cap : Nat) (ps : List ByteArray) (x : ByteArray) (hl : ps.length ≤ 1000) (w : World)
    (ho : w.ownsRow B 9 1 (.slice (some ⟨g, 0, none⟩) ps.length cap) ps.length (ps.map Value.string)) :
    Calls Tryz.prog 90 #[.slice (some ⟨g, 0, none⟩) ps.length cap, .string x] w (PutPost B x ps w) := (spec_put2 B g cap ps x hl w ho).mono fun _ _ ⟨g', cap', h1, h2, h3, _⟩ => ⟨g', cap', h1, h2, h3⟩
end Go.Proofs.YtalclebehbdliaaGreatDoor
namespace Go.Proofs.YtalclebehbdliaaGreatDoor
open Go Go.RowKit

theorem cur_lt {B : Nat} {a : Option Addr} {n c g : Nat} {W0 w : World} (h : Cur B a n c g W0 w) : g < w.heap.size := by
  obtain ⟨_, _, _, i, x, _, h5⟩ := h
  exact lt_of_block h5
theorem cur_from {B : Nat} {a : Option Addr} {n c g : Nat} {W0 w : World} (h : Cur B a n c g W0 w) : B ≤ g := h.2.2.1
theorem only_from {g : Nat} {w w' : World} (h : Only g w w') : From (g + 1) w w' := ⟨Nat.le_of_eq h.1.symm, fun k hk _ => h.2 k (by omega)⟩
theorem from_new {B : Nat} {w : World} (o : Obj) : From B w (w.alloc o) := From.of_below ((Below.refl _ _).alloc (Nat.le_refl _) _)
theorem from_drew {B : Nat} {w : World} : From B w w.drew := ⟨Nat.le_refl _, fun _ _ _ => rfl⟩
theorem strs_from {B : Nat} {w w' : World} {g o : Nat} {xs : List ByteArray} (h : StrsAt w g o xs) (hf : From B w w') (hB : B ≤ g) (hl : g < w.heap.size) : StrsAt w' g o xs := fun k hk =>
  (World.cell?_of_block (w := w) (w' := w') (a := ⟨g, o + k, none⟩) (hf.block g hB hl)).trans (h k hk)
/-- A short string, the cursor moved on; what lay above the cursor is as it was. -/
def StrNew (m : Nat) (B : Nat) (a : Option Addr) (n c g : Nat) (W0 w : World) (e : Ending) (w' : World) : Prop := ∃ s : ByteArray, s.size ≤ m ∧ e = .returned (.string s) ∧ Cur B a n c g W0 w' ∧ From (g + 1) w w'
def abcL : List ByteArray := [⟨#[97]⟩, ⟨#[98]⟩, ⟨#[99]⟩]
theorem abcL_short : ∀ s ∈ abcL, s.size ≤ 1 := by decide
theorem getD_memS {l : List ByteArray} {k : Nat} (h : k < l.length) : l.getD k ByteArray.empty ∈ l := by
  simp only [List.getD, List.getElem?_eq_getElem h, Option.getD_some]
  exact List.getElem_mem h
theorem pick_of (xs : List ByteArray) (m d b : Nat) (hx0 : 0 < xs.length) (hx : xs.length ≤ 1000) (hs : ∀ s ∈ xs, s.size ≤ m) (B : Nat) (a : Option Addr) (n c g : Nat) (W0 w : World) (hcode : CodeAt W0 B a n) (hn : n ≤ 1048576) (hcur : Cur B a n c g W0 w) (hst : StrsAt w b 0 xs) (hbg : b ≠ g) :
    Calls Tryz.prog 64 #[.pointer (some ⟨g, 0, none⟩), .slice (some ⟨b, 0, none⟩) xs.length d] w (StrNew m B a n c g W0 w) := by
  refine (l1Pick b d xs hx0 (by omega) B a n c g W0 w hcode hn hcur hst hbg).mono ?_
  rintro e w1 ⟨k, hk, rfl, hc, ho⟩
  exact ⟨_, hs _ (getD_memS hk), rfl, hc, only_from ho⟩
theorem abc_take {k : Nat} (h3 : k ≤ 3) : (abcL.take k).length = k := by rw [List.length_take]; simp [abcL]; omega
theorem abc_at {w : World} {b k : Nat} (h : StrsAt w b 0 abcL) (h3 : k ≤ 3) : StrsAt w b 0 (abcL.take k) := fun j hj => by
  rw [abc_take h3] at hj
  rw [h j (by simp [abcL]; omega)]
  simp [List.getD_eq_getElem?_getD, hj]

set_option maxRecDepth 100000 in
set_option maxHeartbeats 800000 in
theorem draw_word (k m : Nat) (h1 : 1 ≤ k) (h3 : k ≤ 3) (hm : m ≤ 100) (B : Nat) (a : Option Addr) (n c g : Nat) (W0 w : World) (hcode : CodeAt W0 B a n) (hn : n ≤ 1048576) (hcur : Cur B a n c g W0 w) :
    Calls Tryz.prog 89 #[.pointer (some ⟨g, 0, none⟩), .int .i64 (k : Int), .int .i64 (m : Int)] w (StrNew m B a n c g W0 w) := by
  have HB := Lib.hid (l1Below ((m : Int) + 1) (by omega) B a n c g W0 w hcode hn hcur)
  have hgl := cur_lt hcur
  have HP : Hid (∀ w', Cur B a n c g W0 w' → Calls Tryz.prog 64 #[.pointer (some ⟨g, 0, none⟩), .slice (some ⟨w'.heap.size, 0, none⟩) k 3] (w'.alloc (.cells #[.string ⟨#[97]⟩, .string ⟨#[98]⟩, .string ⟨#[99]⟩] 9)) (StrNew 1 B a n c g W0 (w'.alloc (.cells #[.string ⟨#[97]⟩, .string ⟨#[98]⟩, .string ⟨#[99]⟩] 9)))) := Lib.hid fun w' hc => by
    have h := pick_of (abcL.take k) 1 3 w'.heap.size (by rw [abc_take h3]; omega) (by rw [abc_take h3]; omega) (fun s hs => abcL_short s (List.mem_of_mem_take hs)) B a n c g W0 (w'.alloc (.cells #[.string ⟨#[97]⟩, .string ⟨#[98]⟩, .string ⟨#[99]⟩] 9)) hcode hn (hc.alloc _) (abc_at (strsAt_new w' abcL 9) h3) (by have := cur_lt hc; omega)
    rw [abc_take h3] at h
    exact h
  clear hcode hcur
  go_enter Tryz.func89, Tryz.ntmps89
  go_wp2_with fail
  refine HB.out.mono ?_
  rintro e w1 ⟨x, x0, x1, rfl, hc1, ho1⟩
  obtain ⟨t, rfl⟩ := Int.eq_ofNat_of_zero_le x0
  have ht : t ≤ m := by omega
  have HC1 := Lib.hid hc1
  have HF1 := Lib.hid (only_from ho1)
  clear hc1 x0 x1 ho1
  go_wp2
  go_loopw [7, 8] (fun v i wr => ∃ (d : Nat) (s : ByteArray), d ≤ t ∧ i = .int .i64 d ∧ v = .string s ∧ s.size + d ≤ m ∧ Hid (Cur B a n c g W0 wr) ∧ Hid (From (g + 1) w wr)) (fun _ i _ => (intOf i).toNat)
  case atStart => exact ⟨t, ByteArray.empty, Nat.le_refl _, rfl, rfl, by simpa using ht, HC1, HF1⟩
  case round =>
    obtain ⟨d, s, hd, rfl, rfl, hs, hc, hf⟩ := hrel
    by_cases h0 : 0 < d
    · have HP1 := Lib.hid (HP.out wr hc.out)
      go_wp2_with fail
      refine HP1.out.mono ?_
      rintro e w2 ⟨y, hy, rfl, hc2, hf2⟩
      have HC2 := Lib.hid hc2
      have HF2 := Lib.hid ((hf.out.trans (from_new _)).trans hf2)
      clear hc2 hf2
      go_wp2
      go_roundw
      case rel => exact ⟨d - 1, s ++ y, by omega, by go_num, rfl, by rw [ByteArray.size_append]; omega, HC2, HF2⟩
      case measure => simp [intOf]; omega
    · obtain rfl : d = 0 := by omega
      go_wp2
      go_ret
      exact ⟨s, by omega, rfl, hc.out, hf.out⟩
end Go.Proofs.YtalclebehbdliaaGreatDoor
namespace Go.Proofs.YtalclebehbdliaaGreatDoor
open Go Go.RowKit

theorem sizeS (w : World) : (sizeOf 9).run Tryz.prog w = .ok 1 w := Tryz.sizeOf9 w
set_option maxRecDepth 100000 in
theorem strs_to (a : Addr) (n c j : Nat) (hj : j ≤ c) (w : World) : (Instr.slice 28 (.slice (some a) n c) none (some (.int .i64 (j : Int))) none).run Tryz.prog w = .ok (.slice (some a) j c) w := by
  have ht : Tryz.prog.underlying 28 = some (.slice (Tryz.prog.elem 28)) := Tryz.underlying28
  have he : Tryz.prog.elem 28 = 9 := by kernel_rfl
  rw [run_slice_h w _ _ _ _ ht .i64 (j : Int) (by omega) (by omega), he, sizeS]
  simp [Result.andThen, sliced, Addr.add]
set_option maxRecDepth 100000 in
theorem strs_from1 (b n c : Nat) (hn : n + 1 ≤ c) : ∃ p2, (p2 = 1 ∨ n = 0) ∧ ∀ w, (Instr.slice 28 (.slice (some ⟨b, 0, none⟩) (n + 1) c) (some (.int .i64 1)) none none).run Tryz.prog w = .ok (.slice (some ⟨b, p2, none⟩) n (c - 1)) w := by
  have ht : Tryz.prog.underlying 28 = some (.slice (Tryz.prog.elem 28)) := Tryz.underlying28
  have he : Tryz.prog.elem 28 = 9 := by kernel_rfl
  by_cases h : c = 1
  · refine ⟨0, Or.inr (by omega), fun w => ?_⟩
    rw [run_slice_l w _ _ _ _ ht .i64 (1 : Int) (by omega) (by omega), he, sizeS]
    simp [Result.andThen, sliced, h]
  · refine ⟨1, Or.inl rfl, fun w => ?_⟩
    rw [run_slice_l w _ _ _ _ ht .i64 (1 : Int) (by omega) (by omega), he, sizeS]
    simp [Result.andThen, sliced, h, Addr.add]

/-- A shift of which the words are few and short, in new memory. -/
def SmallL (ps : List ByteArray) : Prop := ps.length ≤ 200 ∧ ∀ x ∈ ps, x.size ≤ 1000
def ShOwn (w : World) (B : Nat) (v : Value) (L : Int) (ps : List ByteArray) : Prop := (∃ A cA, v = .agg #[.int .i64 L, .slice A ps.length cA] ∧ w.ownsRow B 9 1 (.slice A ps.length cA) ps.length (ps.map Value.string)) ∧ SmallL ps
def ParsedOwn (w : World) (e : Ending) (w' : World) : Prop := ∃ v L ps b, e = .returned (.tuple #[v, .bool b]) ∧ ShOwn w' w.heap.size v L ps ∧ Below w.heap.size w w'
theorem shOwn_nil (w : World) (B : Nat) (L : Int) : ShOwn w B (.agg #[.int .i64 L, .slice none 0 0]) L [] := ⟨⟨none, 0, rfl, World.ownsRow_nil w B 9 1⟩, by simp [SmallL]⟩

set_option maxRecDepth 100000 in
set_option maxHeartbeats 3200000 in
theorem spec_parseO (s : ByteArray) (hs : s.size ≤ 100) (w : World) :
    Calls Tryz.prog 88 #[.string s] w (ParsedOwn w) := by
  obtain ⟨i0, hi, hz0, hz1, hz2⟩ := info_parts infoStr
  obtain ⟨hlen, htot, _⟩ := parts_facts 32 s.size s (Nat.le_refl _)
  obtain ⟨p, xs, hp⟩ : ∃ p xs, parts 32 s = p :: xs := by
    have h := parts_length 32 s
    cases hq : parts 32 s with
    | nil => rw [hq] at h; simp at h
    | cons p xs => exact ⟨p, xs, rfl⟩
  rw [hp] at hlen htot
  have hb := (Below.refl w.heap.size w).alloc (Nat.le_refl _) (.cells #[.int .i64 0, .slice none 0 0] 30)
  have h0 := heap_alloc_new w (.cells #[.int .i64 0, .slice none 0 0] 30)
  have hsp := spec_split 32 s (by omega) (w.alloc (.cells #[.int .i64 0, .slice none 0 0] 30))
  unfold PartsPost at hsp
  rw [hp] at hsp
  have HSP := Lib.hid hsp
  have htot2 : total (p :: xs) = p.size + total xs := by simp [total]
  have hxl : xs.length ≤ 100 := by simp at hlen; omega
  have HXS : Hid (∀ x ∈ xs, x.size ≤ 1000) := Lib.hid fun x hx => by
    obtain ⟨k, hk, rfl⟩ := List.getElem_of_mem hx
    have := size_le_total (xs := xs) hk
    rw [List.getD_eq_getElem?_getD, List.getElem?_eq_getElem hk, Option.getD_some] at this
    omega
  have HPN := Lib.hid (fun w' => spec_parseInt p (by omega) w')
  have HB := Lib.hid hb
  have HH := Lib.hid h0
  clear hsp hb h0 hlen htot hp htot2
  go_enter Tryz.func88, Tryz.ntmps88
  go_wp2_with fail
  refine HSP.out.mono ?_
  rintro e w2 ⟨g, cap, rfl, ow, b2⟩
  rw [World.size_alloc] at ow b2
  have HO2 := Lib.hid ow
  have hg := ow.lt g rfl
  have hcap : xs.length + 1 ≤ cap := by
    rcases ow.2 with ⟨h', _⟩ | ⟨g', cap', cur, h', _, _, hnc, _⟩
    · simp at h'
    · simp only [Value.slice.injEq, Option.some.injEq, Addr.mk.injEq, and_true, true_and] at h'
      obtain ⟨rfl, rfl⟩ := h'
      simpa using hnc
  have c0 : w2.cell? ⟨g, 0, none⟩ = some (.string p) := by
    have := ow.cellAt 0 (by simp)
    simpa using this
  have HB2 := Lib.hid (HB.out.trans (b2.mono (by omega)))
  have HH2 := Lib.hid ((b2.block w.heap.size (by omega)).trans HH.out)
  have HP1 := Lib.hid (HPN.out w2)
  have hs2 : w.heap.size + 1 ≤ w2.heap.size := by have := b2.size; rw [World.size_alloc] at this; exact this
  have l1 : (p :: xs).length = xs.length + 1 := rfl
  rw [l1]
  clear ow b2 l1
  go_wp2_with fail
  refine HP1.out.mono ?_
  rintro e w3 ⟨rfl, b3⟩
  have HO3 := Lib.hid (owns_below HO2.out b3)
  have HB3 := Lib.hid (below_after HB2.out b3)
  have HH3 := Lib.hid ((b3.block w.heap.size (by omega)).trans HH2.out)
  have hs3 : w2.heap.size ≤ w3.heap.size := b3.size
  clear b3 c0
  obtain ⟨n, HN⟩ : ∃ n, Hid (numV (intOfS p) = n) := ⟨_, Lib.hid rfl⟩
  obtain ⟨bo, HBO⟩ : ∃ b, Hid (numB (intOfS p) = b) := ⟨_, Lib.hid rfl⟩
  rw [HN.out, HBO.out]
  clear HP1 HSP HPN HO2 HB2 HH2 HB HH
  have b3a := (Below.refl w3.heap.size w3).alloc (Nat.le_refl _) (.cells #[] 9)
  have HM := Lib.hid (World.ownsRow_made (base := w3.heap.size) (e := 9) (size := 1) w3 #[] 0 (Nat.le_refl _) (by decide) rfl)
  have HBa := Lib.hid (HB3.out.trans (b3a.mono (by omega)))
  have HHa := Lib.hid ((heap_alloc_old w3 (.cells #[] 9) (by omega)).trans HH3.out)
  obtain ⟨p2, hp2, hsl⟩ := strs_from1 g xs.length cap hcap
  have hst : 0 < xs.length → ∃ ad : Addr, (some ⟨g, p2, none⟩ : Option Addr) = some ad ∧ ∀ j u, (xs.map Value.string)[j]? = some u → (w3.alloc (.cells #[] 9)).cell? (ad.add j) = some u := fun hpos => by
    have e2 : p2 = 1 := by omega
    subst e2
    refine ⟨_, rfl, fun j u hu => ?_⟩
    have hj : j < xs.length := by
      by_cases hj : j < xs.length
      · exact hj
      · rw [List.getElem?_eq_none (by simpa using Nat.le_of_not_lt hj)] at hu; cases hu
    have e : (⟨g, 1, none⟩ : Addr).add j = ⟨g, 1 + j, none⟩ := by unfold Addr.add; split <;> simp_all
    have h1 := (HO3.out.alloc (.cells #[] 9)).cellAt (1 + j) (by simp; omega)
    rw [e, h1]
    rw [List.getElem?_map, List.getElem?_eq_getElem hj] at hu
    simp only [Option.map_some, Option.some.injEq] at hu
    simp [Nat.add_comm 1 j, hj, ← hu]
  have HST := Lib.hid hst
  clear b3a hst hp2
  cases bo with
  | false =>
    go_wp2_with (at_builtin; refine wpList_append_src rfl (.tmp 18) (.tmp 20) 28 rfl w3.heap.size 9 i0 (.string ByteArray.empty) 16 Tryz.underlying28 hi hz0 hz1 hz2 rfl _ _ _ rfl HM.out (some ⟨g, p2, none⟩) xs.length (cap - 1) (xs.map Value.string) rfl (by simp) HST.out str_one (by unfold maxLen; omega) (by omega) (by simp) ?_; intro v4 w4 ho4 hg4; have ho4' : w4.ownsRow w3.heap.size 9 1 v4 xs.length (xs.map Value.string) := (by rw [Nat.zero_add] at ho4; exact ho4); obtain ⟨A4, c4, rfl⟩ : ∃ A c, v4 = .slice A xs.length c := (by rcases ho4'.2 with ⟨rfl, h0⟩ | ⟨b, cc, cur, rfl, _⟩; exact ⟨none, 0, by rw [h0]⟩; exact ⟨_, cc, rfl⟩); have hb4 : Below w.heap.size w w4 := HBa.out.grown hg4 (by simp; omega) (fun q hq => by have := (HM.out.lt q hq).1; omega); have hh4 := (hg4.block w.heap.size (by simp; omega) (fun e => by have := (HM.out.lt _ e.symm).1; omega)).trans HHa.out; have hs4 := hg4.size; rw [World.size_alloc] at hs4; have HO4 := Lib.hid ho4'; have HB4 := Lib.hid hb4; have HH4 := Lib.hid hh4; have h6 := (heap_alloc_old w4 (.cells #[.int .i64 n, .slice A4 xs.length c4] 30) (by omega)).trans hh4; obtain ⟨d0, d1, d2⟩ := sh_cells h6; have HH6 := Lib.hid h6; clear ho4 ho4' hg4 hb4 hh4 h6)
    have HB6 := Lib.hid (HB4.out.alloc (by omega) (.cells #[.int .i64 n, .slice A4 xs.length c4] 30))
    refine bodyPost_ret (results_sh rfl _ _ w.heap.size 30 #[.int .i64 0, .slice none 0 0] (0, 0) _ rfl (sh_stores HH6.out) Tryz.underlying30 rfl (by kernel_rfl)) rfl ?_
    exact ⟨_, 0, [], false, rfl, shOwn_nil _ _ _, below_stores HB6.out (Nat.le_refl _) _ _⟩
  | true =>
    go_wp2_with (at_builtin; refine wpList_append_src rfl (.tmp 18) (.tmp 20) 28 rfl w3.heap.size 9 i0 (.string ByteArray.empty) 16 Tryz.underlying28 hi hz0 hz1 hz2 rfl _ _ _ rfl HM.out (some ⟨g, p2, none⟩) xs.length (cap - 1) (xs.map Value.string) rfl (by simp) HST.out str_one (by unfold maxLen; omega) (by omega) (by simp) ?_; intro v4 w4 ho4 hg4; have ho4' : w4.ownsRow w3.heap.size 9 1 v4 xs.length (xs.map Value.string) := (by rw [Nat.zero_add] at ho4; exact ho4); obtain ⟨A4, c4, rfl⟩ : ∃ A c, v4 = .slice A xs.length c := (by rcases ho4'.2 with ⟨rfl, h0⟩ | ⟨b, cc, cur, rfl, _⟩; exact ⟨none, 0, by rw [h0]⟩; exact ⟨_, cc, rfl⟩); have hb4 : Below w.heap.size w w4 := HBa.out.grown hg4 (by simp; omega) (fun q hq => by have := (HM.out.lt q hq).1; omega); have hh4 := (hg4.block w.heap.size (by simp; omega) (fun e => by have := (HM.out.lt _ e.symm).1; omega)).trans HHa.out; have hs4 := hg4.size; rw [World.size_alloc] at hs4; have HO4 := Lib.hid ho4'; have HB4 := Lib.hid hb4; have HH4 := Lib.hid hh4; clear ho4 ho4' hg4 hb4 hh4)
    obtain ⟨W5, hW5⟩ : ∃ W5, w4.alloc (.cells #[.int .i64 n, .slice A4 xs.length c4] 30) = W5 := ⟨_, rfl⟩
    have s5 : W5.heap.size = w4.heap.size + 1 := by rw [← hW5]; simp
    have h5 : W5.heap[w.heap.size]? = some (.cells #[.int .i64 0, .slice none 0 0] 30) := by rw [← hW5]; exact (heap_alloc_old w4 _ (by omega)).trans HH4.out
    have x5 : BoxAt W5 w4.heap.size n (.slice A4 xs.length c4) := by rw [← hW5]; exact boxAt_new w4 n _ 30
    have o5 : W5.ownsRow w3.heap.size 9 1 (.slice A4 xs.length c4) xs.length (xs.map Value.string) := by rw [← hW5]; exact HO4.out.alloc _
    have b5 : Below w.heap.size w W5 := by rw [← hW5]; exact HB4.out.alloc (by omega) _
    have CI := Lib.hid (spec_isShift n A4 c4 xs (by omega) (fun k hk => by have := HXS.out _ (getD_memS hk); omega) W5 (strsG_of_owns o5))
    have H5 := Lib.hid (fun w' (h : Below W5.heap.size W5 w') => (h.block w.heap.size (by omega)).trans h5)
    have X5 := Lib.hid (fun w' (h : Below W5.heap.size W5 w') => x5.below h (by omega))
    have O5 := Lib.hid (fun w' (h : Below W5.heap.size W5 w') => owns_below o5 h)
    have B5 := Lib.hid (fun w' (h : Below W5.heap.size W5 w') => b5.trans (h.mono (by omega)))
    rw [hW5]
    clear hW5 h5 x5 o5 b5
    refine CI.out.mono ?_
    rintro e w6 ⟨rfl, b6⟩
    have h6 := H5.out w6 b6
    obtain ⟨d0, d1, d2⟩ := sh_cells h6
    obtain ⟨y0, y1⟩ := X5.out w6 b6
    have HH6 := Lib.hid h6
    have O6 := Lib.hid (O5.out w6 b6)
    have B6 := Lib.hid (B5.out w6 b6)
    clear h6 b6 H5 X5 O5 B5 CI
    cases hsf : isShift n xs with
    | false =>
      clear hsf
      go_wp2
      refine bodyPost_ret (results_sh rfl _ _ w.heap.size 30 #[.int .i64 0, .slice none 0 0] (0, 0) _ rfl (sh_stores HH6.out) Tryz.underlying30 rfl (by kernel_rfl)) rfl ?_
      exact ⟨_, 0, [], false, rfl, shOwn_nil _ _ _, below_stores B6.out (Nat.le_refl _) _ _⟩
    | true =>
      clear hsf
      go_wp2
      refine bodyPost_ret (results_sh rfl _ _ w.heap.size 30 #[.int .i64 n, .slice A4 xs.length c4] (0, 0) _ rfl (sh_stores HH6.out) Tryz.underlying30 rfl (by kernel_rfl)) rfl ?_
      exact ⟨_, n, xs, true, rfl, ⟨⟨A4, c4, rfl, World.ownsRow.mono (owns_stores O6.out (by omega)) (by omega)⟩, by omega, HXS.out⟩, below_stores B6.out (Nat.le_refl _) _ _⟩
end Go.Proofs.YtalclebehbdliaaGreatDoor
namespace Go.Proofs.YtalclebehbdliaaGreatDoor
open Go Go.RowKit

/-- A list of the call's own; of the older blocks that one alone may have turned where the list lay. -/
def PutAny (B : Nat) (A : Option Addr) (x : ByteArray) (ps : List ByteArray) (w : World) (e : Ending) (w' : World) : Prop :=
  ∃ g c, e = .returned (.slice (some ⟨g, 0, none⟩) (putW x ps).length c) ∧ w'.ownsRow B 9 1 (.slice (some ⟨g, 0, none⟩) (putW x ps).length c) (putW x ps).length ((putW x ps).map Value.string) ∧ Below B w w' ∧ w.heap.size ≤ w'.heap.size ∧ (∀ k, k < w.heap.size → A ≠ some ⟨k, 0, none⟩ → w'.heap[k]? = w.heap[k]?) ∧ (A = some ⟨g, 0, none⟩ ∨ w.heap.size ≤ g)

set_option maxRecDepth 100000 in
set_option maxHeartbeats 1600000 in
theorem put_nil (x : ByteArray) (w : World) :
    Calls Tryz.prog 90 #[.slice none 0 0, .string x] w fun e w' => ∃ g c, e = .returned (.slice (some ⟨g, 0, none⟩) 1 c) ∧ w'.ownsRow w.heap.size 9 1 (.slice (some ⟨g, 0, none⟩) 1 c) 1 [.string x] ∧ Below w.heap.size w w' := by
  obtain ⟨i0, hi, hz0, hz1, hz2⟩ := info_parts infoStr
  have HM := Lib.hid (World.ownsRow_made (base := w.heap.size) (e := 9) (size := 1) w #[] 0 (Nat.le_refl _) (by decide) rfl)
  have HBA := Lib.hid ((Below.refl w.heap.size w).alloc (Nat.le_refl _) (.cells #[] 9))
  go_enter Tryz.func90, Tryz.ntmps90
  go_wp2
  go_loopw [5] (fun iv wr => iv = .int .i64 0 ∧ wr = w) (fun _ _ => 0)
  case atStart => exact ⟨rfl, rfl⟩
  case round =>
    obtain ⟨rfl, rfl⟩ := hrel
    obtain ⟨W0, rfl⟩ : ∃ W0 : World, W0 = wr := ⟨_, rfl⟩
    go_wp2_with (first
      | (at_builtin; refine wpList_append_src rfl (.tmp 34) (.tmp 37) 28 rfl W0.heap.size 9 i0 (.string ByteArray.empty) 16 Tryz.underlying28 hi hz0 hz1 hz2 rfl _ _ _ rfl HM.out none 0 0 [] rfl rfl (fun h => absurd h (by decide)) (fun u hu => by cases hu) (by unfold maxLen; omega) (by omega) (by simp) ?_; intro v1 w1 ho1 hg1; obtain ⟨A1, c1, rfl⟩ : ∃ A c, v1 = .slice A 0 c := (by rcases ho1.2 with ⟨rfl, _⟩ | ⟨b, cc, cur, rfl, _⟩; exact ⟨none, 0, rfl⟩; exact ⟨_, cc, rfl⟩); have HO1 : Hid (w1.ownsRow W0.heap.size 9 1 (.slice A1 0 c1) 0 []) := Lib.hid ho1; have HB1 := Lib.hid (HBA.out.grown hg1 (by simp) (fun q hq => (HM.out.lt q hq).1)); have hs1 := hg1.size; rw [World.size_alloc] at hs1; clear ho1 hg1)
      | (at_builtin; refine wpList_append_lies _ rfl (.tmp 41) (.tmp 43) 28 rfl w1.heap.size 9 i0 (.string ByteArray.empty) 1 16 Tryz.underlying28 hi hz0 hz1 hz2 rfl (by decide) _ _ _ rfl (World.ownsRow_nil _ w1.heap.size 9 1) ⟨w1.heap.size, 0, none⟩ 1 1 [.string x] rfl rfl (World.news_of_block (cs := #[.string x]) (t := 9) (fr := (0, 0)) (heap_alloc_new w1 _)) (by simp [Value.oneCell']) (by decide) (by unfold maxLen; omega) (by omega) (by simp) (w1.heap.size + 1) (by simp) ?_; intro g2 c2 w2 ho2 hg2 hat2 hlt2; have HO2 : Hid (w2.ownsRow w1.heap.size 9 1 (.slice (some ⟨g2, 0, none⟩) 1 c2) 1 [.string x]) := Lib.hid ho2; have HB2 := Lib.hid ((HB1.out.alloc (by omega) _).grown hg2 (by simp; omega) (fun q hq => by cases hq)); have hs2 := hg2.size; rw [World.size_alloc] at hs2; clear ho2 hg2 hat2)
      | (at_builtin; refine wpList_append_src rfl (.tmp 44) (.tmp 45) 28 rfl w1.heap.size 9 i0 (.string ByteArray.empty) 16 Tryz.underlying28 hi hz0 hz1 hz2 rfl _ _ _ rfl HO2.out A1 0 c1 [] rfl rfl (fun h => absurd h (by decide)) (fun u hu => by cases hu) (by unfold maxLen; omega) (by omega) (by omega) ?_; intro v3 w3 ho3 hg3; have HO3 : Hid (w3.ownsRow w1.heap.size 9 1 v3 1 [.string x]) := Lib.hid ho3; have HB3 := Lib.hid (HB2.out.grown hg3 (by omega) (fun q hq => by have := (HO2.out.lt q hq).1; omega)); clear ho3 hg3))
    go_ret
    obtain ⟨g3, c3, rfl, _, _⟩ := World.ownsRow.form HO3.out (by decide)
    exact ⟨g3, c3, rfl, World.ownsRow.mono HO3.out (by omega), HB3.out⟩
theorem put_any (B : Nat) (A : Option Addr) (cA : Nat) (ps : List ByteArray) (x : ByteArray) (hl : ps.length ≤ 1000) (w : World) (hB : B ≤ w.heap.size)
    (ho : w.ownsRow B 9 1 (.slice A ps.length cA) ps.length (ps.map Value.string)) :
    Calls Tryz.prog 90 #[.slice A ps.length cA, .string x] w (PutAny B A x ps w) := by
  rcases ho.2 with ⟨h, h0⟩ | ⟨g, cap, cur, h, _⟩
  · simp only [Value.slice.injEq] at h
    obtain ⟨rfl, hp, rfl⟩ := h
    obtain rfl : ps = [] := List.eq_nil_of_length_eq_zero hp
    refine (put_nil x w).mono ?_
    rintro e w' ⟨g, c, rfl, h1, h2⟩
    exact ⟨g, c, rfl, World.ownsRow.mono h1 hB, h2.mono hB, h2.size, fun k hk _ => h2.block k hk, .inr (h1.lt g rfl).1⟩
  · simp only [Value.slice.injEq, true_and] at h
    obtain ⟨rfl, rfl⟩ := h
    refine (spec_put2 B g cA ps x hl w ho).mono ?_
    rintro e w' ⟨g2, c2, rfl, h1, h2, h3, h4⟩
    refine ⟨g2, c2, rfl, h1, h2, h3.1, fun k hk hne => h3.2 k hk (fun e => hne (by rw [e])), ?_⟩
    rcases h4 with e | e
    · exact .inl (by rw [e])
    · exact .inr e
end Go.Proofs.YtalclebehbdliaaGreatDoor
namespace Go.Proofs.YtalclebehbdliaaGreatDoor
open Go Go.RowKit

theorem cur_put {B : Nat} {a : Option Addr} {n c g h o : Nat} {W0 w : World} {v : Value} (hc : Cur B a n c g W0 w) (hne : h ≠ g) (hB : B ≤ h) : Cur B a n c g W0 (w.setCell ⟨h, o, none⟩ v) := by
  obtain ⟨h1, h2, h3, i, x, h4, h5⟩ := hc
  refine ⟨h1.setCell (p := ⟨h, o, none⟩) hB v, by simpa using h2, h3, i, x, h4, ?_⟩
  rw [Below.heap_setCell w ⟨h, o, none⟩ v g (fun e => hne e.symm)]; exact h5
theorem from_put {b : Nat} {w w' : World} (h : From b w w') {gi : Nat} (hgi : w.heap.size ≤ gi) (o : Nat) (v : Value) : From b w (w'.setCell ⟨gi, o, none⟩ v) :=
  ⟨by simpa [World.setCell] using h.size, fun k h1 h2 => (Below.heap_setCell w' ⟨gi, o, none⟩ v k (by show k ≠ gi; omega)).trans (h.block k h1 h2)⟩
theorem from_cell {b : Nat} {w w' : World} (h : From b w w') {p : Addr} (h1 : b ≤ p.block) (h2 : p.block < w.heap.size) : w'.cell? p = w.cell? p := World.cell?_of_block (h.block p.block h1 h2)
theorem shOwn_stores {w : World} {B h : Nat} {v x y : Value} {L : Int} {ps : List ByteArray} (ho : ShOwn w B v L ps) (hh : h < B) : ShOwn ((w.setCell ⟨h, 0, none⟩ x).setCell ⟨h, 1, none⟩ y) B v L ps := by
  obtain ⟨⟨A, cA, hv, hr⟩, hs⟩ := ho
  exact ⟨⟨A, cA, hv, owns_stores hr hh⟩, hs⟩
theorem ShOwn.mono {w : World} {B B' : Nat} {v : Value} {L : Int} {ps : List ByteArray} (h : ShOwn w B v L ps) (hB : B' ≤ B) : ShOwn w B' v L ps := by
  obtain ⟨⟨A, cA, hv, hr⟩, hs⟩ := h
  exact ⟨⟨A, cA, hv, World.ownsRow.mono hr hB⟩, hs⟩
theorem ShOwn.below {w w' : World} {B : Nat} {v : Value} {L : Int} {ps : List ByteArray} (h : ShOwn w B v L ps) (hb : Below w.heap.size w w') : ShOwn w' B v L ps := by
  obtain ⟨⟨A, cA, hv, hr⟩, hs⟩ := h
  exact ⟨⟨A, cA, hv, owns_below hr hb⟩, hs⟩
theorem owns_from {w w' : World} {B b e n : Nat} {v : Value} {xs : List Value} (h : w.ownsRow B e 1 v n xs) (hf : From b w w') (hB : b ≤ B) : w'.ownsRow B e 1 v n xs := by
  refine ⟨h.1, ?_⟩
  rcases h.2 with h2 | ⟨g, cap, cur, rfl, hb, hg, rest⟩
  · exact .inl h2
  · refine .inr ⟨g, cap, cur, rfl, hb, ?_, rest⟩
    rw [hf.block g (by omega) (Array.getElem?_eq_some_iff.1 hg).1]
    exact hg
theorem ShOwn.from {w w' : World} {B b : Nat} {v : Value} {L : Int} {ps : List ByteArray} (h : ShOwn w B v L ps) (hf : From b w w') (hB : b ≤ B) : ShOwn w' B v L ps := by
  obtain ⟨⟨A, cA, hv, hr⟩, hs⟩ := h
  exact ⟨⟨A, cA, hv, owns_from hr hf hB⟩, hs⟩
theorem putW_small {x : ByteArray} {ps : List ByteArray} (hx : x.size ≤ 3) (hps : ∀ y ∈ ps, y.size ≤ 3) : ∀ y ∈ putW x ps, y.size ≤ 3 := fun y hy => by
  rcases putW_mem x y ps hy with rfl | h
  · exact hx
  · exact hps y h

theorem from_low {b B : Nat} {w u w6 : World} (h : From b w u) (hb : Below B u w6) (hB : w.heap.size ≤ B) (hz : u.heap.size ≤ w6.heap.size) : From b w w6 :=
  ⟨Nat.le_trans h.size hz, fun k h1 h2 => (hb.block k (Nat.lt_of_lt_of_le h2 hB)).trans (h.block k h1 h2)⟩
theorem cur_low {B C : Nat} {a : Option Addr} {n c g : Nat} {W0 w w' : World} (h : Cur B a n c g W0 w) (hb : Below C w w') (hg : g < C) (hC : B ≤ C) (hz : w.heap.size ≤ w'.heap.size) : Cur B a n c g W0 w' := by
  obtain ⟨h1, h2, h3, i, x, h4, h5⟩ := h
  refine ⟨h1.trans (hb.mono hC), Nat.le_trans h2 hz, h3, i, x, h4, ?_⟩
  rw [hb.block g hg]; exact h5
theorem small_few {ps : List ByteArray} {m : Nat} (h : ps.length + m ≤ 4) (hs : ∀ y ∈ ps, y.size ≤ 3) : SmallL ps := ⟨by omega, fun x hx => by have := hs x hx; omega⟩
/-- A drawn shift. -/
def ShNew (B : Nat) (a : Option Addr) (n c g : Nat) (W0 w : World) (e : Ending) (w' : World) : Prop := ∃ v L ps, e = .returned v ∧ ShOwn w' w.heap.size v L ps ∧ Cur B a n c g W0 w' ∧ From (g + 1) w w'
def shiftTexts : List ByteArray := [⟨#[50, 32, 98, 98]⟩, ⟨#[50, 32, 97, 97, 32, 98, 98]⟩, ⟨#[50, 32, 97, 97, 98]⟩, ⟨#[51, 32, 97, 98, 32, 98, 99, 32, 99, 97]⟩, ⟨#[50]⟩, ⟨#[49]⟩, ⟨#[51, 32, 97, 97, 32, 98, 98, 32, 99, 99]⟩, ⟨#[50, 32, 97, 98, 97, 32, 98, 97, 98]⟩, ⟨#[50, 32, 97, 98]⟩, ⟨#[50, 32, 97, 97, 97, 32, 98, 98]⟩, ⟨#[51, 32, 97, 99, 32, 98, 98]⟩]
theorem shiftTexts_short : ∀ s ∈ shiftTexts, s.size ≤ 100 := by decide
def letterNums : List Int := [1, 1, 2, 0]
theorem letter_nums {k : Nat} (hk : k < letterNums.length) : ∃ t : Nat, 1 ≤ t ∧ t ≤ 3 ∧ 1 + letterNums.getD k 0 = (t : Int) := by
  have h : k = 0 ∨ k = 1 ∨ k = 2 ∨ k = 3 := by
    have : letterNums.length = 4 := rfl
    omega
  rcases h with rfl | rfl | rfl | rfl
  · exact ⟨2, by decide, by decide, rfl⟩
  · exact ⟨2, by decide, by decide, rfl⟩
  · exact ⟨3, by decide, by decide, rfl⟩
  · exact ⟨1, by decide, by decide, rfl⟩

set_option maxRecDepth 100000 in
set_option maxHeartbeats 1600000 in
theorem draw_shift (B : Nat) (a : Option Addr) (n c g : Nat) (W0 w : World) (hcode : CodeAt W0 B a n) (hn : n ≤ 1048576) (hcur : Cur B a n c g W0 w) :
    Calls Tryz.prog 63 #[.pointer (some ⟨g, 0, none⟩)] w (ShNew B a n c g W0 w) := by
  have hgl := cur_lt hcur
  have hBg := cur_from hcur
  have hgr := heap_alloc_new w (.cells #[.int .i64 0, .slice none 0 0] 30)
  have hs1 : (w.alloc (.cells #[.int .i64 0, .slice none 0 0] 30)).heap.size = w.heap.size + 1 := World.size_alloc _ _
  have HO := Lib.hid (l1Once 3 (by decide) B a n c g W0 _ hcode hn (hcur.alloc (.cells #[.int .i64 0, .slice none 0 0] 30)))
  have HT : Hid (∀ W b, Cur B a n c g W0 W → StrsAt W b 0 shiftTexts → b ≠ g → Calls Tryz.prog 64 #[.pointer (some ⟨g, 0, none⟩), .slice (some ⟨b, 0, none⟩) 11 11] W (StrNew 100 B a n c g W0 W)) := Lib.hid fun W b hc hst hne => pick_of shiftTexts 100 11 b (by decide) (by decide) shiftTexts_short B a n c g W0 W hcode hn hc hst hne
  have HI : Hid (∀ W b, Cur B a n c g W0 W → NumsAt W b letterNums → b ≠ g → Calls Tryz.prog 59 #[.pointer (some ⟨g, 0, none⟩), .slice (some ⟨b, 0, none⟩) 4 4] W (PickIntPost letterNums B a n c g W0 W)) := Lib.hid fun W b hc hst hne => l1PickInt b 4 letterNums (by decide) (by decide) B a n c g W0 W hcode hn hc hst hne
  have H5 := Lib.hid (fun W (hc : Cur B a n c g W0 W) => l1Below 5 (by decide) B a n c g W0 W hcode hn hc)
  have HD : Hid (∀ k W, 1 ≤ k → k ≤ 3 → Cur B a n c g W0 W → Calls Tryz.prog 89 #[.pointer (some ⟨g, 0, none⟩), .int .i64 ((k : Nat) : Int), .int .i64 2] W (StrNew 2 B a n c g W0 W)) := Lib.hid fun k W h1 h3 hc => draw_word k 2 h1 h3 (by decide) B a n c g W0 W hcode hn hc
  have HP : Hid (∀ k W b, 1 ≤ k → k ≤ 3 → Cur B a n c g W0 W → StrsAt W b 0 abcL → b ≠ g → Calls Tryz.prog 64 #[.pointer (some ⟨g, 0, none⟩), .slice (some ⟨b, 0, none⟩) k 3] W (StrNew 1 B a n c g W0 W)) := Lib.hid fun k W b h1 h3 hc hst hne => by
    have h := pick_of (abcL.take k) 1 3 b (by rw [abc_take h3]; omega) (by rw [abc_take h3]; omega) (fun s hs => abcL_short s (List.mem_of_mem_take hs)) B a n c g W0 W hcode hn hc (abc_at hst h3) hne
    rwa [abc_take h3] at h
  have HF0 : Hid (From (g + 1) w (w.alloc (.cells #[.int .i64 0, .slice none 0 0] 30))) := Lib.hid (from_new _)
  have HGR := Lib.hid hgr
  clear hcode hcur hgr
  go_enter Tryz.func63, Tryz.ntmps63
  go_wp2_with fail
  refine HO.out.mono ?_
  rintro e w1 ⟨x, rfl, hc1, ho1⟩
  have hz1e := ho1.1
  have hf1 := only_from ho1
  have HGR1 : Hid (w1.heap[w.heap.size]? = some (.cells #[.int .i64 0, .slice none 0 0] 30 (0, 0))) := Lib.hid ((ho1.2 w.heap.size (by omega)).trans HGR.out)
  have HF1 := Lib.hid (HF0.out.trans hf1)
  have HC1 := Lib.hid hc1
  rw [hs1] at hz1e
  have hz1 : w.heap.size + 1 ≤ w1.heap.size := by omega
  clear hc1 ho1 hf1 HO HGR HF0 hs1 hz1e
  cases x with
  | true =>
    have HT1 : Hid (Calls Tryz.prog 64 #[.pointer (some ⟨g, 0, none⟩), .slice (some ⟨w1.heap.size, 0, none⟩) 11 11] (w1.alloc (.cells #[.string ⟨#[50, 32, 98, 98]⟩, .string ⟨#[50, 32, 97, 97, 32, 98, 98]⟩, .string ⟨#[50, 32, 97, 97, 98]⟩, .string ⟨#[51, 32, 97, 98, 32, 98, 99, 32, 99, 97]⟩, .string ⟨#[50]⟩, .string ⟨#[49]⟩, .string ⟨#[51, 32, 97, 97, 32, 98, 98, 32, 99, 99]⟩, .string ⟨#[50, 32, 97, 98, 97, 32, 98, 97, 98]⟩, .string ⟨#[50, 32, 97, 98]⟩, .string ⟨#[50, 32, 97, 97, 97, 32, 98, 98]⟩, .string ⟨#[51, 32, 97, 99, 32, 98, 98]⟩] 9)) (StrNew 100 B a n c g W0 (w1.alloc (.cells #[.string ⟨#[50, 32, 98, 98]⟩, .string ⟨#[50, 32, 97, 97, 32, 98, 98]⟩, .string ⟨#[50, 32, 97, 97, 98]⟩, .string ⟨#[51, 32, 97, 98, 32, 98, 99, 32, 99, 97]⟩, .string ⟨#[50]⟩, .string ⟨#[49]⟩, .string ⟨#[51, 32, 97, 97, 32, 98, 98, 32, 99, 99]⟩, .string ⟨#[50, 32, 97, 98, 97, 32, 98, 97, 98]⟩, .string ⟨#[50, 32, 97, 98]⟩, .string ⟨#[50, 32, 97, 97, 97, 32, 98, 98]⟩, .string ⟨#[51, 32, 97, 99, 32, 98, 98]⟩] 9)))) := Lib.hid (HT.out _ w1.heap.size (HC1.out.alloc _) (strsAt_new w1 shiftTexts 9) (by have := cur_lt HC1.out; omega))
    go_wp2_with fail
    refine HT1.out.mono ?_
    rintro e w2 ⟨s, hs, rfl, hc2, hf2⟩
    have hz2 := hf2.size
    have HP2 := Lib.hid (spec_parseO s hs w2)
    have HGR2 : Hid (w2.heap[w.heap.size]? = some (.cells #[.int .i64 0, .slice none 0 0] 30 (0, 0))) := Lib.hid ((((from_new _).trans hf2).block w.heap.size (by omega) (by omega)).trans HGR1.out)
    have HF2 := Lib.hid ((HF1.out.trans (from_new _)).trans hf2)
    have HC2 := Lib.hid hc2
    rw [World.size_alloc] at hz2
    clear hc2 hf2 HT1
    go_wp2_with fail
    refine HP2.out.mono ?_
    rintro e w3 ⟨v, L, ps, b, rfl, ho3, b3⟩
    obtain ⟨⟨A, cA, rfl, hr3⟩, hsm⟩ := ho3
    have hz3 := b3.size
    have hg3 := (b3.block w.heap.size (by omega)).trans HGR2.out
    have hc3 := HC2.out.step b3
    have hf3 := HF2.out.trans (From.of_below b3)
    have hgx := (heap_alloc_old w3 (.cells #[.int .i64 L, .slice A ps.length cA] 30) (by omega)).trans hg3
    obtain ⟨d0, d1, d2⟩ := sh_cells hgx
    have HH := Lib.hid hgx
    have HCX := Lib.hid (cur_put (o := 1) (v := .slice A ps.length cA) (cur_put (o := 0) (v := .int .i64 L) (hc3.alloc (.cells #[.int .i64 L, .slice A ps.length cA] 30)) (show w.heap.size ≠ g by omega) (by omega)) (show w.heap.size ≠ g by omega) (by omega))
    have HFX := Lib.hid (from_put (from_put (hf3.trans (from_new (.cells #[.int .i64 L, .slice A ps.length cA] 30))) (Nat.le_refl _) 0 (.int .i64 L)) (Nat.le_refl _) 1 (.slice A ps.length cA))
    have HOX := Lib.hid (shOwn_stores (h := w.heap.size) (x := .int .i64 L) (y := .slice A ps.length cA) ((show ShOwn w3 w2.heap.size (.agg #[.int .i64 L, .slice A ps.length cA]) L ps from ⟨⟨A, cA, rfl, hr3⟩, hsm⟩).below ((Below.refl _ _).alloc (Nat.le_refl _) (.cells #[.int .i64 L, .slice A ps.length cA] 30))) (by omega))
    clear hg3 hc3 hf3 hgx b3 hr3
    go_wp2
    refine bodyPost_ret (results_cell_row rfl _ _ w.heap.size 30 #[.int .i64 L, .slice A ps.length cA] (0, 0) _ rfl (sh_stores HH.out) Tryz.underlying30 rfl (by kernel_rfl)) rfl ?_
    exact ⟨_, L, ps, rfl, HOX.out.mono (by omega), HCX.out, HFX.out⟩
  | false =>
    have HI1 := Lib.hid (HI.out _ w1.heap.size (HC1.out.alloc _) (intsAt_new w1 letterNums 3) (by have := cur_lt HC1.out; omega))
    go_wp2_with fail
    refine HI1.out.mono ?_
    rintro e w2 ⟨kk, hkk, rfl, hc2, ho2⟩
    obtain ⟨k, k1, k3, hke⟩ := letter_nums hkk
    have hz2e := ho2.1
    rw [World.size_alloc] at hz2e
    have hz2 : w1.heap.size + 1 ≤ w2.heap.size := by omega
    have hf2 := (from_new (B := g + 1) (w := w1) (.cells (letterNums.map (Value.int .i64)).toArray 3)).trans (only_from ho2)
    have HGR2 : Hid (w2.heap[w.heap.size]? = some (.cells #[.int .i64 0, .slice none 0 0] 30 (0, 0))) := Lib.hid ((hf2.block w.heap.size (by omega) (by omega)).trans HGR1.out)
    have HF2 := Lib.hid (HF1.out.trans hf2)
    have HC2 := Lib.hid hc2
    generalize letterNums.getD kk 0 = x at *
    have hw1 : RowKit.wrap64 (1 + x) = (k : Int) := by unfold RowKit.wrap64; omega
    clear hc2 ho2 hf2 HI1 hkk hz2e
    have hz3 : (w2.alloc (.cells #[.int .i64 (k : Int), .slice none 0 0] 30)).heap.size = w2.heap.size + 1 := World.size_alloc _ _
    have H51 := Lib.hid (H5.out _ (HC2.out.alloc (.cells #[.int .i64 (k : Int), .slice none 0 0] 30)))
    have HF3 := Lib.hid (HF2.out.trans (from_new (.cells #[.int .i64 (k : Int), .slice none 0 0] 30)))
    have HGS3 := Lib.hid (heap_alloc_new w2 (.cells #[.int .i64 (k : Int), .slice none 0 0] 30))
    have HGR3 := Lib.hid ((heap_alloc_old w2 (.cells #[.int .i64 (k : Int), .slice none 0 0] 30) (by omega)).trans HGR2.out)
    go_wp2_with fail
    refine H51.out.mono ?_
    rintro e w4 ⟨t0, t1, t2, rfl, hc4, ho4⟩
    obtain ⟨t, rfl⟩ := Int.eq_ofNat_of_zero_le t1
    have ht : t ≤ 4 := by omega
    have hz4e := ho4.1
    rw [hz3] at hz4e
    have hz4 : w2.heap.size + 1 ≤ w4.heap.size := by omega
    have HC4 := Lib.hid hc4
    have HF4 := Lib.hid (HF3.out.trans (only_from ho4))
    have HGS4 : Hid (w4.heap[w2.heap.size]? = some (.cells #[.int .i64 (k : Int), .slice none 0 0] 30 (0, 0))) := Lib.hid ((ho4.2 w2.heap.size (by omega)).trans HGS3.out)
    have HGR4 : Hid (w4.heap[w.heap.size]? = some (.cells #[.int .i64 0, .slice none 0 0] 30 (0, 0))) := Lib.hid ((ho4.2 w.heap.size (by omega)).trans HGR3.out)
    have HO4 : Hid (w4.ownsRow w4.heap.size 9 1 (.slice none 0 0) ([] : List ByteArray).length (([] : List ByteArray).map Value.string)) := Lib.hid (World.ownsRow_nil w4 w4.heap.size 9 1)
    clear hc4 ho4 t1 t2 hz4e hz3 H51 HF3 HGS3 HGR3 HC2 HF2 HGR2 hw1 hke
    go_wp2
    go_loopw [6] (fun nv wr => ∃ (d : Nat) (A : Option Addr) (cA : Nat) (ps : List ByteArray), d ≤ 4 ∧ nv = .int .i64 (d : Int) ∧ ps.length + d ≤ 4 ∧ w4.heap.size ≤ wr.heap.size ∧ Hid (∀ y ∈ ps, y.size ≤ 3) ∧ Hid (wr.heap[w2.heap.size]? = some (.cells #[.int .i64 (k : Int), .slice A ps.length cA] 30 (0, 0))) ∧ Hid (wr.heap[w.heap.size]? = some (.cells #[.int .i64 0, .slice none 0 0] 30 (0, 0))) ∧ Hid (wr.ownsRow w4.heap.size 9 1 (.slice A ps.length cA) ps.length (ps.map Value.string)) ∧ Hid (Cur B a n c g W0 wr) ∧ Hid (From (g + 1) w wr)) (fun nv _ => (intOf nv).toNat)
    case atStart => exact ⟨t, none, 0, [], ht, rfl, by simpa using ht, Nat.le_refl _, Lib.hid (fun y hy => by cases hy), HGS4, HGR4, HO4, HC4, HF4⟩
    case round =>
      clear HGS4 HGR4 HO4 HC4 HF4
      obtain ⟨d, A, cA, ps, hd, rfl, hpd, hsz, HPS, HGS, HGR, HO, HC, HF⟩ := hrel
      obtain ⟨x0, x1, x2⟩ := sh_cells HGS.out
      by_cases hd0 : 0 < d
      · have hdI : (0 : Int) < (d : Int) := by omega
        have hcA : ∀ o, Cur B a n c g W0 (wr.alloc o).drew := fun o => (HC.out.alloc o).drewN 1
        have hst : ∀ t, StrsAt (wr.alloc (.cells #[.string ⟨#[97]⟩, .string ⟨#[98]⟩, .string ⟨#[99]⟩] t)).drew wr.heap.size 0 abcL := fun t => strsAt_new wr abcL t
        have hto := fun b w => strs_to ⟨b, 0, none⟩ 3 3 k k3 w
        have k0 : (0 : Int) ≤ (k : Int) := by omega
        have k3I : (k : Int) ≤ 3 := by omega
        have hgw : g < wr.heap.size := cur_lt HC.out
        have HCD : Hid (Cur B a n c g W0 wr.drew) := Lib.hid (HC.out.drewN 1)
        have HDk := Lib.hid (fun W hc => HD.out k W k1 k3 hc)
        have HPk := Lib.hid (fun W b hc hst hne => HP.out k W b k1 k3 hc hst hne)
        have HSA : Hid (∀ o, (wr.alloc o).drew.cell? ⟨w2.heap.size, 0, none⟩ = some (.int .i64 (k : Int))) := Lib.hid fun o => (World.cell?_of_block (w := wr) (w' := (wr.alloc o).drew) (a := ⟨w2.heap.size, 0, none⟩) (heap_alloc_old wr o (by show w2.heap.size < wr.heap.size; omega))).trans x0
        go_wp2
        go_region_held3 (fun w' => w'.cell? ⟨w2.heap.size, 0, none⟩ = some (.int .i64 (k : Int))) (first | assumption | exact HSA.out _ | exact HSB.out _ | go_keep) (first
          | (go_at_call 89; refine (HDk.out _ HCD.out).mono ?_; rintro e u1 ⟨y1, hy1, rfl, hc1, hf1⟩; have hq1 : wr.heap.size ≤ u1.heap.size := hf1.size; have hS1 : u1.cell? ⟨w2.heap.size, 0, none⟩ = some (.int .i64 (k : Int)) := (from_cell hf1 (p := ⟨w2.heap.size, 0, none⟩) (by show g + 1 ≤ w2.heap.size; omega) (by show w2.heap.size < wr.heap.size; omega)).trans x0; have HSB : Hid (∀ o, (u1.alloc o).cell? ⟨w2.heap.size, 0, none⟩ = some (.int .i64 (k : Int))) := Lib.hid fun o => (World.cell?_of_block (w := u1) (w' := u1.alloc o) (a := ⟨w2.heap.size, 0, none⟩) (heap_alloc_old u1 o (by show w2.heap.size < u1.heap.size; omega))).trans hS1; have hst1 : ∀ t, StrsAt (u1.alloc (.cells #[.string ⟨#[97]⟩, .string ⟨#[98]⟩, .string ⟨#[99]⟩] t)) u1.heap.size 0 abcL := fun t => strsAt_new u1 abcL t; have HC1 := Lib.hid (fun o => hc1.alloc (o := o)); have HF1 := Lib.hid hf1)
          | (go_at_call 89; refine (HDk.out _ (hcA _)).mono ?_; rintro e u1 ⟨y1, hy1, rfl, hc1, hf1⟩; have hq1 := hf1.size; have hS1 : u1.cell? ⟨w2.heap.size, 0, none⟩ = some (.int .i64 (k : Int)) := (from_cell hf1 (p := ⟨w2.heap.size, 0, none⟩) (by show g + 1 ≤ w2.heap.size; omega) (by show w2.heap.size < (wr.alloc _).heap.size; rw [World.size_alloc]; omega)).trans (HSA.out _); have hst1 := strs_from (hst _) hf1 (by omega) (by show wr.heap.size < (wr.alloc _).heap.size; rw [World.size_alloc]; omega); have HC1 := Lib.hid hc1; have HF1 := Lib.hid hf1)
          | (go_at_call 64; refine (HPk.out _ _ (HC1.out _) (hst1 _) (by omega)).mono ?_; rintro e u2 ⟨y2, hy2, rfl, hc2, hf2⟩; have hS2 : u2.cell? ⟨w2.heap.size, 0, none⟩ = some (.int .i64 (k : Int)) := (from_cell hf2 (p := ⟨w2.heap.size, 0, none⟩) (by show g + 1 ≤ w2.heap.size; omega) (by show w2.heap.size < (u1.alloc _).heap.size; rw [World.size_alloc]; omega)).trans (HSB.out _); have hq2 := hf2.size; have x9 : ∀ w, (Op.stringOp .add y1 y2).run Tryz.prog w = .ok (.string (y1 ++ y2)) w := fun w => run_string_add_sum w _ _ (by omega); have HCU := Lib.hid hc2; have HFU : Hid (From (g + 1) wr u2) := Lib.hid (((from_drew.trans HF1.out).trans (from_new _)).trans hf2); have hy12 : (y1 ++ y2).size ≤ 3 := (by rw [ByteArray.size_append]; omega); have hzU : wr.heap.size ≤ u2.heap.size := HFU.out.size; clear HC1 HF1 hc1 hf1 hc2 hf2 hst1 HSB hS1 hq1 hq2)
          | (go_at_call 64; refine (HPk.out _ _ HC1.out hst1 (by omega)).mono ?_; rintro e u2 ⟨y2, hy2, rfl, hc2, hf2⟩; have hS2 : u2.cell? ⟨w2.heap.size, 0, none⟩ = some (.int .i64 (k : Int)) := (from_cell hf2 (p := ⟨w2.heap.size, 0, none⟩) (by show g + 1 ≤ w2.heap.size; omega) (by show w2.heap.size < u1.heap.size; have hq : (wr.alloc _).heap.size ≤ u1.heap.size := hq1; rw [World.size_alloc] at hq; omega)).trans hS1; have hq2 := hf2.size; have x9 : ∀ w, (Op.stringOp .add y1 y2).run Tryz.prog w = .ok (.string (y1 ++ y2)) w := fun w => run_string_add_sum w _ _ (by omega); have HCU := Lib.hid hc2; have HFU : Hid (From (g + 1) wr u2) := Lib.hid ((((from_new _).trans from_drew).trans HF1.out).trans hf2); have hy12 : (y1 ++ y2).size ≤ 3 := (by rw [ByteArray.size_append]; omega); have hzU : wr.heap.size ≤ u2.heap.size := HFU.out.size; clear HC1 HF1 hc1 hf1 hc2 hf2 hst1 hS1 hq1 hq2))
        all_goals (
          have HGSU := Lib.hid ((HFU.out.block w2.heap.size (by omega) (by omega)).trans HGS.out)
          have HGRU := Lib.hid ((HFU.out.block w.heap.size (by omega) (by omega)).trans HGR.out)
          have HFW := Lib.hid (HF.out.trans HFU.out)
          have HPT := Lib.hid (put_any w4.heap.size A cA ps (y1 ++ y2) (by omega) u2 (by omega) (owns_from HO.out HFU.out (by omega)))
          obtain ⟨z0, z1, z2⟩ := sh_cells HGSU.out
          clear HDk HPk HSA hcA hst hto HCD x0 x1 x2 x9 hS2 HFU HF HC HO HGS HGR
          generalize y1 ++ y2 = yy at *
          go_wp2_with fail
          refine HPT.out.mono ?_
          rintro e w6 ⟨g2, c2, rfl, ho6, hb6, hz6, -, -⟩
          have hg6 := (hb6.block w2.heap.size (by omega)).trans HGSU.out
          have hgr6 := (hb6.block w.heap.size (by omega)).trans HGRU.out
          obtain ⟨v0, v1, v2⟩ := sh_cells hg6
          have hl6 := putW_length yy ps
          have HL6 := Lib.hid (putW_small hy12 HPS.out)
          have HGS7 : Hid ((w6.setCell ⟨w2.heap.size, 1, none⟩ (.slice (some ⟨g2, 0, none⟩) (putW yy ps).length c2)).heap[w2.heap.size]? = some (.cells #[.int .i64 (k : Int), .slice (some ⟨g2, 0, none⟩) (putW yy ps).length c2] 30 (0, 0))) := Lib.hid ((heap_setCell_same w6 w2.heap.size 1 _ _ _ hg6).trans rfl)
          have HGR7 : Hid ((w6.setCell ⟨w2.heap.size, 1, none⟩ (.slice (some ⟨g2, 0, none⟩) (putW yy ps).length c2)).heap[w.heap.size]? = some (.cells #[.int .i64 0, .slice none 0 0] 30 (0, 0))) := Lib.hid ((Below.heap_setCell w6 ⟨w2.heap.size, 1, none⟩ _ w.heap.size (by show w.heap.size ≠ w2.heap.size; omega)).trans hgr6)
          have HO7 := Lib.hid (ownsRow_setCell_below ho6 (a := ⟨w2.heap.size, 1, none⟩) (by show w2.heap.size < w4.heap.size; omega) (.slice (some ⟨g2, 0, none⟩) (putW yy ps).length c2))
          have HC7 := Lib.hid (cur_put (o := 1) (v := .slice (some ⟨g2, 0, none⟩) (putW yy ps).length c2) (cur_low HCU.out hb6 (by omega) (by omega) hz6) (show w2.heap.size ≠ g by omega) (by omega))
          have HF7 := Lib.hid (from_put (from_low HFW.out hb6 (by omega) hz6) (show w.heap.size ≤ w2.heap.size by omega) 1 (.slice (some ⟨g2, 0, none⟩) (putW yy ps).length c2))
          have hz7 : ((w6.setCell ⟨w2.heap.size, 1, none⟩ (.slice (some ⟨g2, 0, none⟩) (putW yy ps).length c2)).heap.size) = w6.heap.size := by simp
          clear hg6 hgr6 ho6 hb6 HPT HCU HFW HGSU HGRU
          generalize putW yy ps = qs at *
          go_wp2
          refine ⟨⟨d - 1, some ⟨g2, 0, none⟩, c2, qs, by omega, by congr 1; omega, by omega, by omega, HL6, HGS7, HGR7, HO7, HC7, HF7⟩, ?_⟩
          show ((d : Int) - 1).toNat < (d : Int).toNat
          omega)
      · obtain rfl : d = 0 := by omega
        obtain ⟨d0, d1, d2⟩ := sh_cells HGR.out
        have HCX := Lib.hid (cur_put (o := 1) (v := .slice A ps.length cA) (cur_put (o := 0) (v := .int .i64 (k : Int)) HC.out (show w.heap.size ≠ g by omega) (by omega)) (show w.heap.size ≠ g by omega) (by omega))
        have HFX := Lib.hid (from_put (from_put HF.out (Nat.le_refl _) 0 (.int .i64 (k : Int))) (Nat.le_refl _) 1 (.slice A ps.length cA))
        have hsm : SmallL ps := small_few hpd HPS.out
        have HOX := Lib.hid (shOwn_stores (h := w.heap.size) (x := .int .i64 (k : Int)) (y := .slice A ps.length cA) (show ShOwn wr w4.heap.size (.agg #[.int .i64 (k : Int), .slice A ps.length cA]) (k : Int) ps from ⟨⟨A, cA, rfl, HO.out⟩, hsm⟩) (by omega))
        clear HC HF HO
        go_wp2
        refine bodyPost_ret (results_cell_row rfl _ _ w.heap.size 30 #[.int .i64 (k : Int), .slice A ps.length cA] (0, 0) _ rfl (sh_stores HGR.out) Tryz.underlying30 rfl (by kernel_rfl)) rfl ?_
        exact ⟨_, (k : Int), ps, rfl, HOX.out.mono (by omega), HCX.out, HFX.out⟩
end Go.Proofs.YtalclebehbdliaaGreatDoor
namespace Go.Proofs.YtalclebehbdliaaGreatDoor
open Go Go.RowKit

def SmallM (ps : List ByteArray) : Prop := ps.length ≤ 300 ∧ ∀ x ∈ ps, x.size ≤ 1000
theorem SmallL.m {ps : List ByteArray} (h : SmallL ps) : SmallM ps := ⟨by have := h.1; omega, h.2⟩
theorem SmallL.more {ps : List ByteArray} (h : SmallL ps) {y : ByteArray} (hy : y.size ≤ 4) : SmallM (ps ++ [y]) := by
  refine ⟨by have := h.1; rw [List.length_append]; simp; omega, fun x hx => ?_⟩
  rcases List.mem_append.1 hx with h1 | h1
  · exact h.2 x h1
  · obtain rfl := List.mem_singleton.1 h1
    omega
/-- A drawn shift, bent or not. -/
def ShBent (B : Nat) (a : Option Addr) (n c g : Nat) (W0 w : World) (e : Ending) (w' : World) : Prop := ∃ L A cA ps, e = .returned (.agg #[.int .i64 L, .slice A ps.length cA]) ∧ w'.ownsRow w.heap.size 9 1 (.slice A ps.length cA) ps.length (ps.map Value.string) ∧ SmallM ps ∧ Cur B a n c g W0 w' ∧ From (g + 1) w w'
def bentNums : List Int := [0, 4, 1]
def bentWords : List ByteArray := [⟨#[97]⟩, ⟨#[]⟩, ⟨#[100]⟩, ⟨#[97, 97, 97, 97]⟩]
theorem bentWords_short : ∀ s ∈ bentWords, s.size ≤ 4 := by decide
theorem cell_alloc {w : World} {p : Addr} {v : Value} (h : w.cell? p = some v) (hp : p.block < w.heap.size) (o : Obj) : (w.alloc o).cell? p = some v := (World.cell?_of_block (w := w) (w' := w.alloc o) (a := p) (heap_alloc_old w o hp)).trans h

theorem from_grown {b : Nat} {W w w' : World} (h : From b W w) {r : Option Nat} (hg : w.grownBy w' r) (hr : ∀ k, r = some k → W.heap.size ≤ k) : From b W w' :=
  ⟨Nat.le_trans h.size hg.size, fun k h1 h2 => by rw [hg.block k (Nat.lt_of_lt_of_le h2 h.size) fun e => by have := hr k e.symm; omega]; exact h.block k h1 h2⟩
theorem cur_grown {B : Nat} {a : Option Addr} {n c g : Nat} {W0 w w' : World} (h : Cur B a n c g W0 w) {r : Option Nat} (hg : w.grownBy w' r) (hr : ∀ k, r = some k → g + 1 ≤ k) : Cur B a n c g W0 w' := by
  have hl := cur_lt h
  obtain ⟨h1, h2, h3, i, x, h4, h5⟩ := h
  refine ⟨h1.grown hg h2 fun k hk => by have := hr k hk; omega, Nat.le_trans h2 hg.size, h3, i, x, h4, ?_⟩
  rw [hg.block g hl fun e => by have := hr g e.symm; omega]; exact h5
theorem bent_end {B : Nat} {a : Option Addr} {n c g : Nat} {W0 w u : World} {L : Int} {A : Option Addr} {cA : Nat} {qs : List ByteArray} (hg : g < w.heap.size) (hB : B ≤ g)
    (ho : u.ownsRow (w.heap.size + 1) 9 1 (.slice A qs.length cA) qs.length (qs.map Value.string)) (hm : SmallM qs) (hc : Cur B a n c g W0 u) (hf : From (g + 1) w u) :
    ShBent B a n c g W0 w (.returned (.agg #[.int .i64 L, .slice A qs.length cA])) ((u.setCell ⟨w.heap.size, 0, none⟩ (.int .i64 L)).setCell ⟨w.heap.size, 1, none⟩ (.slice A qs.length cA)) :=
  ⟨L, A, cA, qs, rfl, World.ownsRow.mono (owns_stores ho (show w.heap.size < w.heap.size + 1 by omega)) (by omega), hm,
    cur_put (o := 1) (v := .slice A qs.length cA) (cur_put (o := 0) (v := .int .i64 L) hc (show w.heap.size ≠ g by omega) (by omega)) (show w.heap.size ≠ g by omega) (by omega),
    from_put (from_put hf (Nat.le_refl _) 0 (.int .i64 L)) (Nat.le_refl _) 1 (.slice A qs.length cA)⟩

set_option maxRecDepth 100000 in
set_option maxHeartbeats 1600000 in
theorem bent_shift (B : Nat) (a : Option Addr) (n c g : Nat) (W0 w : World) (hcode : CodeAt W0 B a n) (hn : n ≤ 1048576) (hcur : Cur B a n c g W0 w) :
    Calls Tryz.prog 36 #[.pointer (some ⟨g, 0, none⟩)] w (ShBent B a n c g W0 w) := by
  obtain ⟨i0, hi, hz0, hz1, hz2⟩ := info_parts infoStr
  have hgl := cur_lt hcur
  have hBg := cur_from hcur
  have hgr := heap_alloc_new w (.cells #[.int .i64 0, .slice none 0 0] 30)
  have HS := Lib.hid (draw_shift B a n c g W0 _ hcode hn (hcur.alloc (.cells #[.int .i64 0, .slice none 0 0] 30)))
  have HI : Hid (∀ W b, Cur B a n c g W0 W → NumsAt W b bentNums → b ≠ g → Calls Tryz.prog 59 #[.pointer (some ⟨g, 0, none⟩), .slice (some ⟨b, 0, none⟩) 3 3] W (PickIntPost bentNums B a n c g W0 W)) := Lib.hid fun W b hc hst hne => l1PickInt b 3 bentNums (by decide) (by decide) B a n c g W0 W hcode hn hc hst hne
  have H16 := Lib.hid (fun W (hc : Cur B a n c g W0 W) => l1Below 16 (by decide) B a n c g W0 W hcode hn hc)
  have HP : Hid (∀ W b, Cur B a n c g W0 W → StrsAt W b 0 bentWords → b ≠ g → Calls Tryz.prog 64 #[.pointer (some ⟨g, 0, none⟩), .slice (some ⟨b, 0, none⟩) 4 4] W (StrNew 4 B a n c g W0 W)) := Lib.hid fun W b hc hst hne => pick_of bentWords 4 4 b (by decide) (by decide) bentWords_short B a n c g W0 W hcode hn hc hst hne
  have HF0 : Hid (From (g + 1) w (w.alloc (.cells #[.int .i64 0, .slice none 0 0] 30))) := Lib.hid (from_new _)
  have HGR := Lib.hid hgr
  have hs1 : (w.alloc (.cells #[.int .i64 0, .slice none 0 0] 30)).heap.size = w.heap.size + 1 := World.size_alloc _ _
  clear hcode hcur hgr
  go_enter Tryz.func36, Tryz.ntmps36
  go_wp2_with fail
  refine HS.out.mono ?_
  rintro e w1 ⟨v, L, ps, rfl, ho1, hc1, hf1⟩
  obtain ⟨⟨A, cA, rfl, hr1⟩, hsm⟩ := ho1
  rw [hs1] at hr1
  have hq1e := hf1.size
  rw [hs1] at hq1e
  have hq1 : w.heap.size + 1 ≤ w1.heap.size := hq1e
  have HGR1 : Hid (w1.heap[w.heap.size]? = some (.cells #[.int .i64 0, .slice none 0 0] 30 (0, 0))) := Lib.hid ((hf1.block w.heap.size (by omega) (by omega)).trans HGR.out)
  have HF1 := Lib.hid ((HF0.out.trans hf1).trans (from_new (.cells #[.int .i64 L, .slice A ps.length cA] 30)))
  have HGR2 := Lib.hid ((heap_alloc_old w1 (.cells #[.int .i64 L, .slice A ps.length cA] 30) (by omega)).trans HGR1.out)
  have HGS2 := Lib.hid (heap_alloc_new w1 (.cells #[.int .i64 L, .slice A ps.length cA] 30))
  have HO2 := Lib.hid (hr1.alloc (.cells #[.int .i64 L, .slice A ps.length cA] 30))
  have hlt := fun q hq => (hr1.lt q hq)
  have H1 := Lib.hid (H16.out _ (hc1.alloc (.cells #[.int .i64 L, .slice A ps.length cA] 30)))
  have hs2 : (w1.alloc (.cells #[.int .i64 L, .slice A ps.length cA] 30)).heap.size = w1.heap.size + 1 := World.size_alloc _ _
  have HSM := Lib.hid hsm
  clear hr1 hf1 hc1 hq1e HS HGR HF0 HGR1 hs1 H16
  go_wp2_with fail
  refine H1.out.mono ?_
  rintro e w4 ⟨x, x0, x1, rfl, hc4, ho4⟩
  have hz4e := ho4.1
  rw [hs2] at hz4e
  have hz4 : w1.heap.size + 1 ≤ w4.heap.size := by omega
  have HC := Lib.hid hc4
  have HF := Lib.hid (HF1.out.trans (only_from ho4))
  have HGS : Hid (w4.heap[w1.heap.size]? = some (.cells #[.int .i64 L, .slice A ps.length cA] 30 (0, 0))) := Lib.hid ((ho4.2 w1.heap.size (by omega)).trans HGS2.out)
  have HGR : Hid (w4.heap[w.heap.size]? = some (.cells #[.int .i64 0, .slice none 0 0] 30 (0, 0))) := Lib.hid ((ho4.2 w.heap.size (by omega)).trans HGR2.out)
  have HO := Lib.hid (owns_from HO2.out (only_from ho4) (by omega))
  have hlt' : ∀ q, (Value.slice A ps.length cA).ownBlock = some q → w.heap.size + 1 ≤ q ∧ q < w1.heap.size := fun q hq => ⟨(hlt q hq).1, (hlt q hq).2⟩
  have HLT := Lib.hid hlt'
  clear hc4 ho4 HF1 HGS2 HGR2 HO2 hs2 hz4e H1 hlt hlt' hsm
  by_cases hx0 : x = 0
  · subst hx0
    have HI1 := Lib.hid (HI.out _ w4.heap.size (HC.out.alloc _) (intsAt_new w4 bentNums 3) (by have := cur_lt HC.out; omega))
    go_wp2_with fail
    refine HI1.out.mono ?_
    rintro e u ⟨kk, hkk, rfl, hcu, hou⟩
    have hfu := (from_new (B := g + 1) (w := w4) (.cells (bentNums.map (Value.int .i64)).toArray 3)).trans (only_from hou)
    have hgs := (hfu.block w1.heap.size (by omega) (by omega)).trans HGS.out
    have hgr := (hfu.block w.heap.size (by omega) (by omega)).trans HGR.out
    obtain ⟨y0, y1, y2⟩ := sh_cells hgs
    generalize bentNums.getD kk 0 = z at *
    have hgs2 := (heap_setCell_same u w1.heap.size 0 _ _ (.int .i64 z) hgs).trans rfl
    have hgr2 := (Below.heap_setCell u ⟨w1.heap.size, 0, none⟩ (.int .i64 z) w.heap.size (by show w.heap.size ≠ w1.heap.size; omega)).trans hgr
    have HO3 := Lib.hid (ownsRow_setCell_other (owns_from HO.out hfu (by omega)) (a := ⟨w1.heap.size, 0, none⟩) (by intro h; have := HLT.out w1.heap.size h; omega) (.int .i64 z))
    have HC3 := Lib.hid (cur_put (o := 0) (v := .int .i64 z) hcu (show w1.heap.size ≠ g by omega) (by omega))
    have HF3 := Lib.hid (from_put (HF.out.trans hfu) (show w.heap.size ≤ w1.heap.size by omega) 0 (.int .i64 z))
    have HGR3 := Lib.hid hgr2
    obtain ⟨v0, v1, v2⟩ := sh_cells hgs2
    obtain ⟨d0, d1, d2⟩ := sh_cells hgr2
    clear HI1 hcu hou hfu hgs hgr hgs2 hgr2
    go_wp2
    refine bodyPost_ret (results_cell_row rfl _ _ w.heap.size 30 #[.int .i64 z, .slice A ps.length cA] (0, 0) _ rfl (sh_stores HGR3.out) Tryz.underlying30 rfl (by kernel_rfl)) rfl ?_
    exact bent_end hgl hBg HO3.out HSM.out.m HC3.out HF3.out
  · have hb0 : ((x : Int) == 0) = false := by simp; omega
    by_cases hx1 : x = 1
    · subst hx1
      obtain ⟨y0, y1, y2⟩ := sh_cells HGS.out
      have hgw : g < w4.heap.size := cur_lt HC.out
      have hlen := HSM.out.1
      have hcA : ∀ o, Cur B a n c g W0 (w4.alloc o).drew := fun o => (HC.out.alloc o).drewN 1
      have hst : ∀ t, StrsAt (w4.alloc (.cells #[.string ⟨#[97]⟩, .string ⟨#[]⟩, .string ⟨#[100]⟩, .string ⟨#[97, 97, 97, 97]⟩] t)).drew w4.heap.size 0 bentWords := fun t => strsAt_new w4 bentWords t
      have y3 : ∀ o, (w4.alloc o).cell? ⟨w1.heap.size, 1, none⟩ = some (.slice A ps.length cA) := fun o => cell_alloc y1 (by show w1.heap.size < w4.heap.size; omega) o
      have y4 : ∀ o, (w4.alloc o).drew.cell? ⟨w1.heap.size, 1, none⟩ = some (.slice A ps.length cA) := fun o => y3 o
      have y5 : w4.drew.cell? ⟨w1.heap.size, 1, none⟩ = some (.slice A ps.length cA) := y1
      go_wp2
      go_region_law (first
        | (go_simp; go_at_call 64; refine (HP.out _ _ (hcA _) (hst _) (by omega)).mono ?_; rintro e u ⟨s, hs, rfl, hcu, hfu⟩; have hfw : From (g + 1) w4 u := ((from_new _).trans from_drew).trans hfu; have hgs := (hfw.block w1.heap.size (by omega) (by omega)).trans HGS.out; have hgr := (hfw.block w.heap.size (by omega) (by omega)).trans HGR.out; have hzu := hfw.size; obtain ⟨z0, z1, z2⟩ := sh_cells hgs; have z3 : ∀ o, (u.alloc o).cell? ⟨w1.heap.size, 1, none⟩ = some (.slice A ps.length cA) := fun o => cell_alloc z1 (by show w1.heap.size < u.heap.size; omega) o; have HOU := Lib.hid (owns_from HO.out hfw (by omega)); have HCU := Lib.hid hcu; have HFU := Lib.hid (HF.out.trans hfw); clear hfu hcu hfw)
        | (refine step_append_lies _ (by rfl) _ _ _ (by rfl) (w.heap.size + 1) 9 i0 _ 1 16 Tryz.underlying28 hi hz0 hz1 hz2 rfl (by decide) (.slice A ps.length cA) ps.length (ps.map Value.string) (by rfl) (HOU.out.alloc _) ⟨u.heap.size, 0, none⟩ 1 1 [.string s] (by rfl) (by rfl) (World.news_of_block (cs := #[.string s]) (t := 9) (fr := (0, 0)) (heap_alloc_new u _)) (by simp [Value.oneCell']) (by decide) (by unfold maxLen; omega) (by omega) (by simp; omega) (u.heap.size + 1) (by simp) ?_; intro gg cap w6 ho6 hg6 hat6 hlt6; have hgs6 := (hg6.block w1.heap.size (by simp; omega) (fun e => by have := HLT.out w1.heap.size e.symm; omega)).trans ((heap_alloc_old u _ (by omega)).trans hgs); have hgr6 := (hg6.block w.heap.size (by simp; omega) (fun e => by have := HLT.out w.heap.size e.symm; omega)).trans ((heap_alloc_old u _ (by omega)).trans hgr); obtain ⟨q0, q1, q2⟩ := sh_cells hgs6))
      all_goals (
        have hgs2 := (heap_setCell_same w6 w1.heap.size 1 _ _ (.slice (some ⟨gg, 0, none⟩) (ps.length + 1) cap) hgs6).trans rfl
        have hgr2 := (Below.heap_setCell w6 ⟨w1.heap.size, 1, none⟩ (.slice (some ⟨gg, 0, none⟩) (ps.length + 1) cap) w.heap.size (by show w.heap.size ≠ w1.heap.size; omega)).trans hgr6
        have hl1 : (ps ++ [s]).length = ps.length + 1 := by simp
        have ho7 : w6.ownsRow (w.heap.size + 1) 9 1 (.slice (some ⟨gg, 0, none⟩) (ps ++ [s]).length cap) (ps ++ [s]).length ((ps ++ [s]).map Value.string) := by rw [hl1, List.map_append]; exact ho6
        rw [← hl1] at hgs2 hgr2
        have hgg : gg ≠ w1.heap.size := by
          rcases hat6 with h | h
          · have := HLT.out gg h; omega
          · omega
        have HO3 := Lib.hid (ownsRow_setCell_other ho7 (a := ⟨w1.heap.size, 1, none⟩) (by intro h; exact hgg (Option.some.inj h)) (.slice (some ⟨gg, 0, none⟩) (ps ++ [s]).length cap))
        have HC3 := Lib.hid (cur_put (o := 1) (v := .slice (some ⟨gg, 0, none⟩) (ps ++ [s]).length cap) (cur_grown (HCU.out.alloc (.cells #[.string s] 9)) hg6 fun k hk => by have := HLT.out k hk; omega) (show w1.heap.size ≠ g by omega) (by omega))
        have HF3 := Lib.hid (from_put (from_grown (HFU.out.trans (from_new (.cells #[.string s] 9))) hg6 fun k hk => by have := HLT.out k hk; omega) (show w.heap.size ≤ w1.heap.size by omega) 1 (.slice (some ⟨gg, 0, none⟩) (ps ++ [s]).length cap))
        have HGR3 := Lib.hid hgr2
        have HSN := Lib.hid (HSM.out.more hs)
        rw [← hl1]
        obtain ⟨v0, v1, v2⟩ := sh_cells hgs2
        obtain ⟨d0, d1, d2⟩ := sh_cells hgr2
        clear hl1 ho7 hgs2 hgr2 hgs6 hgr6 ho6 hg6 hat6 hlt6 q0 q1 q2 z0 z1 z2 z3 HOU HCU HFU hgs hgr y0 y1 y2 y3 y4 y5 hcA hst
        generalize ps ++ [s] = qs at *
        go_wp2
        refine bodyPost_ret (results_cell_row rfl _ _ w.heap.size 30 #[.int .i64 L, .slice (some ⟨gg, 0, none⟩) qs.length cap] (0, 0) _ rfl (sh_stores HGR3.out) Tryz.underlying30 rfl (by kernel_rfl)) rfl ?_
        exact bent_end hgl hBg HO3.out HSN.out HC3.out HF3.out)
    · have hb1 : ((x : Int) == 1) = false := by simp; omega
      obtain ⟨v0, v1, v2⟩ := sh_cells HGS.out
      obtain ⟨d0, d1, d2⟩ := sh_cells HGR.out
      go_wp2
      refine bodyPost_ret (results_cell_row rfl _ _ w.heap.size 30 #[.int .i64 L, .slice A ps.length cA] (0, 0) _ rfl (sh_stores HGR.out) Tryz.underlying30 rfl (by kernel_rfl)) rfl ?_
      exact bent_end hgl hBg HO.out HSM.out.m HC.out HF.out
end Go.Proofs.YtalclebehbdliaaGreatDoor
namespace Go.Proofs.YtalclebehbdliaaGreatDoor
open Go Go.RowKit

theorem codeAt_after {w w' : World} {a : Option Addr} {n : Nat} (h : CodeAt w w.heap.size a n) (hb : Below w.heap.size w w') : CodeAt w' w'.heap.size a n := by
  intro k hk
  obtain ⟨b, off, z, rfl, hlt, z0, z1, hc⟩ := h k hk
  exact ⟨b, off, z, rfl, Nat.lt_of_lt_of_le hlt hb.size, z0, z1, (hb.cell (p := ⟨b, off + k, none⟩) hlt).trans hc⟩
theorem SmallM.sizes {ps : List ByteArray} (h : SmallM ps) : ps.length ≤ 1048576 ∧ ∀ k, k < ps.length → (ps.getD k ByteArray.empty).size ≤ 2147483648 :=
  ⟨by have := h.1; omega, fun k hk => by have := h.2 _ (getD_memS hk); omega⟩
def countNums : List Int := [0, 0, 0, 0, 12, -9]
theorem count_nums {k : Nat} (hk : k < countNums.length) : countNums.getD k 0 = 0 ∨ countNums.getD k 0 = 12 ∨ countNums.getD k 0 = -9 := by
  have h : k = 0 ∨ k = 1 ∨ k = 2 ∨ k = 3 ∨ k = 4 ∨ k = 5 := by
    have : countNums.length = 6 := rfl
    omega
  rcases h with rfl | rfl | rfl | rfl | rfl | rfl <;> simp [countNums]
def CountDrawn (w : World) (e : Ending) (w' : World) : Prop := ∃ L G c ps n, e = .returned (.tuple #[.agg #[.int .i64 L, .slice G ps.length c], .int .i64 n]) ∧ StrsG w' G ps ∧ SmallM ps ∧ (-9 ≤ n ∧ n ≤ 20) ∧ Below w.heap.size w w'

end Go.Proofs.YtalclebehbdliaaGreatDoor
namespace Go.Proofs.YtalclebehbdliaaGreatDoor
open Go Go.RowKit

def BlockDrawn (w : World) (e : Ending) (w' : World) : Prop := ∃ L G c ps n, e = .returned (.tuple #[.agg #[.int .i64 L, .slice G ps.length c], .int .i64 n]) ∧ StrsG w' G ps ∧ SmallM ps ∧ (0 ≤ n ∧ n ≤ 3) ∧ Below w.heap.size w w'

set_option maxRecDepth 100000 in
set_option maxHeartbeats 1600000 in
theorem draw_blockWords (a : Option Addr) (n c : Nat) (w : World) (hcode : CodeAt w w.heap.size a n) (hn : n ≤ 1048576) :
    Calls Tryz.prog 8 #[.slice a n c] w (BlockDrawn w) := by
  have hbw := (Below.refl w.heap.size w).alloc (Nat.le_refl _) (.cells #[.int .i64 0, .slice none 0 0] 30)
  have hgr := heap_alloc_new w (.cells #[.int .i64 0, .slice none 0 0] 30)
  have hc1 := codeAt_after hcode hbw
  obtain ⟨W, hW⟩ : ∃ W, w.alloc (.cells #[.int .i64 0, .slice none 0 0] 30) = W := ⟨_, rfl⟩
  have hsW : W.heap.size = w.heap.size + 1 := by rw [← hW]; exact World.size_alloc _ _
  rw [hW] at hbw hgr hc1
  have HN := Lib.hid (l1New W.heap.size a n c W W hc1 hn (Below.refl _ _) (Nat.le_refl _))
  have HB := Lib.hid (fun g w' => bent_shift W.heap.size a n c g W w' hc1 hn)
  have H9 := Lib.hid (fun g w' => l1Below 3 (by decide) W.heap.size a n c g W w' hc1 hn)
  have HON := Lib.hid (fun g w' (hc : Cur W.heap.size a n c g W w') => l1Once 12 (by decide) W.heap.size a n c g W w' hc1 hn hc)
  have HGR := Lib.hid hgr
  have HBW := Lib.hid hbw
  clear hcode hbw hgr hc1
  have hq0 : w.heap.size + 1 ≤ W.heap.size := by omega
  have hq00 : W.heap.size ≤ w.heap.size + 1 := by omega
  clear hsW
  go_enter Tryz.func8, Tryz.ntmps8
  go_wp2_with fail
  try simp only [hW]
  refine HN.out.mono ?_
  rintro e w1 ⟨g, rfl, hc1, hgl⟩
  have hBg := cur_from hc1
  have HB1 := Lib.hid (HB.out g w1 hc1)
  clear HN HB
  go_wp2_with fail
  refine HB1.out.mono ?_
  rintro e w2 ⟨L, A, cA, ps, rfl, ho2, hsm, hc2, hf2⟩
  have H91 := Lib.hid (H9.out g w2 hc2)
  have hq2 := hf2.size
  have HO2 := Lib.hid ho2
  have HSM := Lib.hid hsm
  clear ho2 hsm hc2 hf2 HB1 H9
  go_wp2_with fail
  refine H91.out.mono ?_
  rintro e w3 ⟨x, x0, x1, rfl, hc3, ho3⟩
  have hgl3 := cur_lt hc3
  have HI1 := Lib.hid (HON.out g w3 hc3)
  have HO3 := Lib.hid (owns_from HO2.out (only_from ho3) (by omega))
  have hq3 : w3.heap.size = w2.heap.size := ho3.1
  have hq3' : w2.heap.size ≤ w3.heap.size := by omega
  clear hc3 ho3 HO2 hq3 H91
  go_wp2_with fail
  refine HI1.out.mono ?_
  rintro e w4 ⟨bb, rfl, hc4, ho4⟩
  have HO4 := Lib.hid (owns_from HO3.out (only_from ho4) (by omega))
  have hg4 := (hc4.1.block w.heap.size (by omega)).trans HGR.out
  have HBE := Lib.hid (HBW.out.trans (hc4.1.mono (show w.heap.size ≤ W.heap.size by omega)))
  have HBI := Lib.hid (bit10 bb w4)
  obtain ⟨y, hy⟩ : ∃ y : Int, (if bb = true then (1 : Int) else 0) = y := ⟨_, rfl⟩
  have hy1 : 0 ≤ y ∧ y ≤ 1 := by rw [← hy]; split <;> omega
  rw [hy] at HBI
  clear hy
  go_wp2_with fail
  refine HBI.out.mono ?_
  rintro e wi ⟨rfl, hwi⟩
  obtain rfl : w4 = wi := hwi.symm
  have hxw : RowKit.wrap64 (1 + x) = 1 + x := by unfold RowKit.wrap64; omega
  have hxw2 : IntKind.i64.wrap (1 + x) = 1 + x := by rw [IntKind.wrap_i64]; omega
  have hyw : RowKit.wrap64 (1 + x - y) = 1 + x - y := by unfold RowKit.wrap64; omega
  have hyw2 : IntKind.i64.wrap (1 + x - y) = 1 + x - y := by rw [IntKind.wrap_i64]; omega
  obtain ⟨d0, d1, d2⟩ := sh_cells hg4
  have HH := Lib.hid hg4
  have hxy : 0 ≤ 1 + x - y ∧ 1 + x - y ≤ 3 := by omega
  clear hg4 hc4 ho4 HI1 HO3
  go_wp2
  refine bodyPost_ret (results_sh rfl _ _ w.heap.size 30 #[.int .i64 L, .slice A ps.length cA] (0, 0) _ rfl (sh_stores HH.out) Tryz.underlying30 rfl (by kernel_rfl)) rfl ?_
  exact ⟨L, A, cA, ps, _, rfl, strsG_of_owns (owns_stores (World.ownsRow.mono HO4.out (base' := W.heap.size) (by omega)) (show w.heap.size < W.heap.size by omega)), HSM.out, hxy, below_stores HBE.out (Nat.le_refl _) _ _⟩
end Go.Proofs.YtalclebehbdliaaGreatDoor
