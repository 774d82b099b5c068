/-
  PLAIN FACTS ON WORDS (no program in this text): what a word is, its turns and the least one, its root, its mirror, all words of a length, and where a string occurs in another.
-/
import Derived.WalkKit
import Derived.WalkSpells
import Derived.Lib.Hide
import Derived.Lib.Repeat
import Derived.Lib.IndexMore
import Derived.Sort.Walk0
namespace Go.Proofs.Ytcoiodfggaanbaa
open Go Go.RowKit

theorem ba_ext {a b : ByteArray} (h : a.data.toList = b.data.toList) : a = b := by
  cases a; cases b
  simpa using h
theorem ba_len (s : ByteArray) : s.data.toList.length = s.size := rfl
theorem ba_append (a b : ByteArray) : (a ++ b).data.toList = a.data.toList ++ b.data.toList := by simp
theorem ba_extract (s : ByteArray) (i j : Nat) : (s.extract i j).data.toList = (s.data.toList.drop i).take (j - i) := Lib.extract_data s i j
theorem ba_get (s : ByteArray) (k : Nat) (h : k < s.size) : s[k] = s.data.toList[k]'h := rfl
theorem ba_same (a b : ByteArray) : (a.toList == b.toList) = decide (a = b) := by
  rw [ByteArray.toList_eq, ByteArray.toList_eq]
  by_cases h : a = b
  · subst h; simp
  · have : a.data.toList ≠ b.data.toList := fun e => h (ba_ext e)
    rw [beq_eq_false_iff_ne.2 this, decide_eq_false h]
theorem ba_less (a b : ByteArray) : Op.bytesLess a.toList b.toList = decide (a.data.toList < b.data.toList) := by
  rw [bytesLess_eq, ByteArray.toList_eq, ByteArray.toList_eq]

/-! ### Words -/
/-- A letter, where there are k. -/
def isL (k : Int) (b : UInt8) : Bool := decide (97 ≤ b.toNat) && decide ((b.toNat : Int) - 97 < k)
/-- w is a word with k letters. -/
def isW (k : Int) (w : ByteArray) : Bool := (decide (1 ≤ k) && decide (k ≤ 3) && decide (w.size ≤ 16)) && w.data.toList.all (isL k)
theorem all_of {k : Int} {w : ByteArray} (h : ∀ j (hj : j < w.size), isL k w[j] = true) : w.data.toList.all (isL k) = true := by
  rw [List.all_eq_true]
  intro b hb
  obtain ⟨j, hj, rfl⟩ := List.getElem_of_mem hb
  exact h j hj
theorem all_not {k : Int} {w : ByteArray} {j : Nat} (hj : j < w.size) (h : isL k w[j] = false) : w.data.toList.all (isL k) = false := by
  rw [← Bool.not_eq_true, List.all_eq_true]
  intro hall
  have := hall w[j] (List.getElem_mem (l := w.data.toList) hj)
  rw [h] at this; cases this
theorem isW_len {k : Int} {w : ByteArray} (h : isW k w = true) : w.size ≤ 16 := by
  unfold isW at h
  simp only [Bool.and_eq_true, decide_eq_true_eq] at h
  exact h.1.2
/-- A word that is not empty. -/
def wordy (w : ByteArray) : Bool := decide (w.size ≠ 0) && isW 3 w
theorem wordy_pos {w : ByteArray} (h : wordy w = true) : 0 < w.size := by
  unfold wordy at h
  simp only [Bool.and_eq_true, decide_eq_true_eq] at h
  omega
theorem wordy_len {w : ByteArray} (h : wordy w = true) : w.size ≤ 16 := by
  unfold wordy at h
  simp only [Bool.and_eq_true] at h
  exact isW_len h.2

/-! ### Turns -/
/-- w with its first m letters moved to its end. -/
def turnAt (w : ByteArray) (m : Nat) : ByteArray := w.extract m w.size ++ w.extract 0 m
theorem turnAt_data (w : ByteArray) (m : Nat) : (turnAt w m).data.toList = w.data.toList.drop m ++ w.data.toList.take m := by
  unfold turnAt
  rw [ba_append, ba_extract, ba_extract, List.drop_zero, Nat.sub_zero, List.take_of_length_le (by rw [List.length_drop, ba_len]; exact Nat.le_refl _)]
theorem turnAt_size (w : ByteArray) (m : Nat) (h : m ≤ w.size) : (turnAt w m).size = w.size := by
  rw [← ba_len, turnAt_data, List.length_append, List.length_drop, List.length_take, ba_len]; omega
theorem turnAt_zero (w : ByteArray) : turnAt w 0 = w := ba_ext (by rw [turnAt_data]; simp)
theorem turnAt_all (w : ByteArray) (k : Int) (m : Nat) : (turnAt w m).data.toList.all (isL k) = w.data.toList.all (isL k) := by
  rw [turnAt_data, List.all_append, Bool.and_comm, ← List.all_append, List.take_append_drop]
theorem turnAt_isW (w : ByteArray) (k : Int) (m : Nat) (h : m ≤ w.size) : isW k (turnAt w m) = isW k w := by
  unfold isW; rw [turnAt_all, turnAt_size w m h]
theorem turnAt_wordy (w : ByteArray) (m : Nat) (h : m ≤ w.size) : wordy (turnAt w m) = wordy w := by
  unfold wordy; rw [turnAt_isW w 3 m h, turnAt_size w m h]
/-- A turn of a turn is a turn. -/
theorem turnAt_turn (w : ByteArray) (a b : Nat) (ha : a ≤ w.size) (hb : b ≤ w.size) : turnAt (turnAt w a) b = turnAt w (if a + b ≤ w.size then a + b else a + b - w.size) := by
  apply ba_ext
  rw [turnAt_data, turnAt_data, turnAt_data]
  have hl : (w.data.toList.drop a).length = w.size - a := by rw [List.length_drop, ba_len]
  generalize w.data.toList = l at *
  by_cases h : a + b ≤ w.size
  · rw [if_pos h, List.drop_append_of_le_length (by omega), List.take_append_of_le_length (by omega), List.drop_drop, List.append_assoc]
    congr 1
    rw [List.take_add]
  · rw [if_neg h]
    obtain ⟨c, hc⟩ : ∃ c, a + b - w.size = c := ⟨_, rfl⟩
    have hb' : b = (l.drop a).length + c := by omega
    rw [hc, hb', List.drop_append, List.take_append, List.drop_of_length_le (by omega), List.nil_append, List.take_of_length_le (by omega : (l.drop a).length ≤ _)]
    rw [Nat.add_sub_cancel_left, List.take_take, Nat.min_eq_left (by omega), ← List.append_assoc]
    congr 1
    rw [List.drop_take]
    have e : l.drop a = (l.drop c).drop (a - c) := by rw [List.drop_drop, show c + (a - c) = a by omega]
    rw [e, List.take_append_drop]
theorem turnAt_full (w : ByteArray) : turnAt w w.size = w := ba_ext (by
  rw [turnAt_data, ← ba_len, List.drop_length, List.take_length, List.nil_append])
/-- How far a word is turned: n, reduced. -/
def turnNo (w : ByteArray) (n : Int) : Nat := (n % (w.size : Int)).toNat
theorem turnNo_lt (w : ByteArray) (n : Int) (h : 0 < w.size) : turnNo w n < w.size := by
  have h1 := Int.emod_nonneg n (show (w.size : Int) ≠ 0 by omega)
  have h2 := Int.emod_lt_of_pos n (show (0 : Int) < (w.size : Int) by omega)
  unfold turnNo; omega
theorem turnNo_of_lt (w : ByteArray) (n : Nat) (h : n < w.size) : turnNo w (n : Int) = n := by
  unfold turnNo
  rw [Int.emod_eq_of_lt (by omega) (by omega)]; rfl
def turned (w : ByteArray) (n : Int) : ByteArray := if wordy w = true then turnAt w (turnNo w n) else ByteArray.empty

/-- The least of w and its first k turns. -/
def leastTo (w : ByteArray) : Nat → ByteArray
  | 0 => w
  | k + 1 => if (turnAt w k).data.toList < (leastTo w k).data.toList then turnAt w k else leastTo w k
theorem leastTo_one (w : ByteArray) : leastTo w 1 = w := by
  unfold leastTo
  rw [turnAt_zero]
  simp [leastTo]
theorem leastTo_is (w : ByteArray) (h : 0 < w.size) : ∀ k, k ≤ w.size → ∃ m, m < w.size ∧ leastTo w k = turnAt w m
  | 0, _ => ⟨0, h, (turnAt_zero w).symm⟩
  | k + 1, hk => by
    unfold leastTo
    split
    · exact ⟨k, by omega, rfl⟩
    · exact leastTo_is w h k (by omega)
theorem le_of_nlt {a b : List UInt8} (h : ¬ a < b) : b ≤ a := List.not_lt.1 h
theorem leastTo_le (w : ByteArray) : ∀ k j, j < k → (leastTo w k).data.toList ≤ (turnAt w j).data.toList
  | 0, j, h => by omega
  | k + 1, j, h => by
    unfold leastTo
    by_cases hj : j = k
    · subst hj
      split
      · exact List.le_refl _
      · next hn => exact le_of_nlt hn
    · have ih := leastTo_le w k j (by omega)
      split
      · next hl => exact List.le_trans (List.le_of_lt hl) ih
      · exact ih
theorem leastTo_size (w : ByteArray) (h : 0 < w.size) (k : Nat) (hk : k ≤ w.size) : (leastTo w k).size = w.size := by
  obtain ⟨m, hm, e⟩ := leastTo_is w h k hk
  rw [e, turnAt_size w m (by omega)]
def least (w : ByteArray) : ByteArray := if wordy w = true then leastTo w w.size else ByteArray.empty
/-- Turns of a word have the same least turn. -/
theorem least_turn (w : ByteArray) (m : Nat) (hw : wordy w = true) (hm : m < w.size) : least (turnAt w m) = least w := by
  have hs := turnAt_size w m (by omega)
  have hp := wordy_pos hw
  unfold least
  rw [turnAt_wordy w m (by omega), if_pos hw, if_pos hw, hs]
  obtain ⟨a, ha, ea⟩ := leastTo_is (turnAt w m) (by omega) w.size (by omega)
  obtain ⟨b, hb, eb⟩ := leastTo_is w hp w.size (by omega)
  apply ba_ext
  apply List.le_antisymm
  · rw [eb]
    -- turn b of w is a turn of turn m
    by_cases h : m ≤ b
    · have e : turnAt w b = turnAt (turnAt w m) (b - m) := by
        rw [turnAt_turn w m (b - m) (by omega) (by omega), if_pos (by omega), show m + (b - m) = b by omega]
      rw [e]
      exact leastTo_le _ _ _ (by omega)
    · have e : turnAt w b = turnAt (turnAt w m) (b + w.size - m) := by
        rw [turnAt_turn w m (b + w.size - m) (by omega) (by omega)]
        by_cases hb0 : m + (b + w.size - m) ≤ w.size
        · rw [if_pos hb0]
          obtain rfl : b = 0 := by omega
          rw [show m + (0 + w.size - m) = w.size by omega]
          rw [turnAt_full, turnAt_zero]
        · rw [if_neg hb0, show m + (b + w.size - m) - w.size = b by omega]
      rw [e]
      exact leastTo_le _ _ _ (by omega)
  · rw [ea, turnAt_turn w m a (by omega) (by rw [hs] at ha; omega)]
    rw [hs] at ha
    split
    · next h =>
      by_cases h2 : m + a = w.size
      · have e : turnAt w (m + a) = turnAt w 0 := by
          rw [h2, turnAt_full, turnAt_zero]
        rw [e]
        exact leastTo_le _ _ _ hp
      · exact leastTo_le _ _ _ (by omega)
    · exact leastTo_le _ _ _ (by omega)

/-! ### Roots -/
/-- w is its first n letters repeated. -/
def rootAt (w : ByteArray) (n : Nat) : Bool := decide (Lib.repeatL (w.extract 0 n).data.toList (w.size / n) = w.data.toList)
def RootOk (w : ByteArray) (n : Nat) : Prop := 1 ≤ n ∧ n ≤ w.size ∧ rootAt w n = true ∧ ∀ m, 1 ≤ m → m < n → rootAt w m = false
theorem RootOk.unique {w : ByteArray} {a b : Nat} (ha : RootOk w a) (hb : RootOk w b) : a = b := by
  obtain ⟨a1, a2, a3, a4⟩ := ha
  obtain ⟨b1, b2, b3, b4⟩ := hb
  rcases Nat.lt_trichotomy a b with h | h | h
  · rw [b4 a a1 h] at a3; cases a3
  · exact h
  · rw [a4 b b1 h] at b3; cases b3
theorem rootAt_all (w : ByteArray) (h : 0 < w.size) : rootAt w w.size = true := by
  unfold rootAt
  rw [decide_eq_true_eq, Nat.div_self h, Lib.repeatL_one, ba_extract, List.drop_zero, Nat.sub_zero, ← ba_len, List.take_length]
theorem head_size (w : ByteArray) (n : Nat) (h : n ≤ w.size) : (w.extract 0 n).size = n := by rw [ByteArray.size_extract]; omega
theorem rootAt_div {w : ByteArray} {n : Nat} (hn : n ≤ w.size) (h : rootAt w n = true) : w.size % n = 0 := by
  unfold rootAt at h
  rw [decide_eq_true_eq] at h
  have hl := congrArg List.length h
  rw [Lib.repeatL_length, ba_len, ba_len, head_size w n hn] at hl
  have := Nat.div_add_mod w.size n
  rw [Nat.mul_comm] at this
  omega
theorem root_exists (w : ByteArray) (h : 0 < w.size) : ∃ n, RootOk w n := by
  have key : ∀ d n, w.size - n = d → 1 ≤ n → n ≤ w.size → (∀ m, 1 ≤ m → m < n → rootAt w m = false) → ∃ n, RootOk w n := by
    intro d
    induction d with
    | zero =>
      intro n hd h1 h2 h3
      obtain rfl : n = w.size := by omega
      exact ⟨_, h1, h2, rootAt_all w h, h3⟩
    | succ d ih =>
      intro n hd h1 h2 h3
      cases hr : rootAt w n with
      | true => exact ⟨n, h1, h2, hr, h3⟩
      | false =>
        refine ih (n + 1) (by omega) (by omega) (by omega) (fun m m1 m2 => ?_)
        by_cases hm : m = n
        · subst hm; exact hr
        · exact h3 m m1 (by omega)
  exact key _ 1 rfl (Nat.le_refl _) h (fun m _ _ => by omega)
/-- c copies of a string. -/
def timesB (p : ByteArray) (c : Nat) : ByteArray := ⟨(Lib.repeatL p.data.toList c).toArray⟩
theorem timesB_data (p : ByteArray) (c : Nat) : (timesB p c).data.toList = Lib.repeatL p.data.toList c := by simp [timesB]
theorem timesB_zero (p : ByteArray) : timesB p 0 = ByteArray.empty := rfl
theorem timesB_next (p : ByteArray) (c : Nat) : timesB p c ++ p = timesB p (c + 1) := ba_ext (by
  rw [ba_append, timesB_data, timesB_data, Lib.repeatL_add, Lib.repeatL_one])
theorem timesB_size (p : ByteArray) (c : Nat) : (timesB p c).size = c * p.size := by rw [← ba_len, timesB_data, Lib.repeatL_length, ba_len]
theorem timesB_root (w : ByteArray) (n : Nat) : decide (timesB (w.extract 0 n) (w.size / n) = w) = rootAt w n := by
  unfold rootAt
  apply decide_eq_decide.2
  constructor
  · intro h; rw [← timesB_data, h]
  · intro h; exact ba_ext (by rw [timesB_data, h])

/-! ### Mirrors -/
def mirror (w : ByteArray) : ByteArray := ⟨w.data.toList.reverse.toArray⟩
theorem mirror_data (w : ByteArray) : (mirror w).data.toList = w.data.toList.reverse := by simp [mirror]
theorem mirror_size (w : ByteArray) : (mirror w).size = w.size := by rw [← ba_len, mirror_data, List.length_reverse, ba_len]
theorem mirror_twice (w : ByteArray) : mirror (mirror w) = w := ba_ext (by rw [mirror_data, mirror_data, List.reverse_reverse])

/-! ### Where a string occurs -/
theorem occ_lt {s sub : List UInt8} {i : Nat} (h : s.length < i + sub.length) (hi : i ≤ s.length) : Lib.occAt s sub i = false := by
  rw [← Bool.not_eq_true]
  intro ho
  unfold Lib.occAt at ho
  have hp := (List.isPrefixOf_iff_prefix.1 ho).length_le
  rw [List.length_drop] at hp
  omega
theorem contains_yes {s sub : List UInt8} : ∀ {i : Nat}, i ≤ s.length → Lib.occAt s sub i = true → Lib.contains s sub = true := by
  intro i hi ho
  unfold Lib.contains
  rw [decide_eq_true_eq]
  induction s generalizing i with
  | nil =>
    obtain rfl : i = 0 := by simpa using hi
    cases sub with
    | nil => decide
    | cons a t => simp [Lib.occAt] at ho
  | cons b l ih =>
    unfold Lib.index
    cases hp : sub.isPrefixOf (b :: l) with
    | true => simp
    | false =>
      match i, hi, ho with
      | 0, _, ho => simp [Lib.occAt, hp] at ho
      | i + 1, hi, ho =>
        have := ih (i := i) (by simpa using hi) (by simpa [Lib.occAt] using ho)
        have h2 : (Lib.index l sub == -1) = false := by rw [beq_eq_false_iff_ne]; omega
        simp [h2]; omega
theorem contains_no {s sub : List UInt8} (h : ∀ i, i + sub.length ≤ s.length → Lib.occAt s sub i = false) : Lib.contains s sub = false := by
  have e : Lib.index s sub = -1 := Lib.index_none (fun j hj => by
    by_cases hl : j + sub.length ≤ s.length
    · exact h j hl
    · exact occ_lt (by omega) hj)
  unfold Lib.contains
  rw [e]; rfl
theorem occ_eq (s sub : ByteArray) (i : Nat) : decide (s.extract i (i + sub.size) = sub) = Lib.occAt s.data.toList sub.data.toList i := by
  unfold Lib.occAt
  have hd : (s.extract i (i + sub.size)).data.toList = (s.data.toList.drop i).take sub.data.toList.length := by
    rw [ba_extract, Nat.add_sub_cancel_left, ba_len]
  by_cases hp : sub.data.toList <+: s.data.toList.drop i
  · rw [List.isPrefixOf_iff_prefix.2 hp, decide_eq_true_eq]
    exact ba_ext (by rw [hd]; exact (List.prefix_iff_eq_take.1 hp).symm)
  · have h1 : sub.data.toList.isPrefixOf (s.data.toList.drop i) = false := by
      rw [← Bool.not_eq_true]; exact fun e => hp (List.isPrefixOf_iff_prefix.1 e)
    rw [h1, decide_eq_false_iff_not]
    intro e
    apply hp
    rw [List.prefix_iff_eq_take, ← hd, e]

/-! ### All words of a length -/
def letterB (j : Nat) : ByteArray := ⟨#[UInt8.ofNat (97 + j)]⟩
/-- Each of the words with each letter behind it. -/
def longer (ws : List ByteArray) (k : Nat) : List ByteArray := ws.flatMap fun w => (List.range k).map fun j => w ++ letterB j
def allW (k : Nat) : Nat → List ByteArray
  | 0 => [ByteArray.empty]
  | n + 1 => longer (allW k n) k
theorem longer_length (ws : List ByteArray) (k : Nat) : (longer ws k).length = ws.length * k := by
  unfold longer
  induction ws with
  | nil => simp
  | cons a l ih => rw [List.flatMap_cons, List.length_append, ih, List.length_map, List.length_range, List.length_cons, Nat.succ_mul, Nat.add_comm]
theorem allW_length (k : Nat) : ∀ n, (allW k n).length = k ^ n
  | 0 => rfl
  | n + 1 => by rw [allW, longer_length, allW_length k n, Nat.pow_succ]
theorem letterB_size (j : Nat) : (letterB j).size = 1 := rfl
theorem longer_size {ws : List ByteArray} {k m : Nat} (h : ∀ x ∈ ws, x.size = m) : ∀ x ∈ longer ws k, x.size = m + 1 := by
  intro x hx
  unfold longer at hx
  rw [List.mem_flatMap] at hx
  obtain ⟨w, hw, hx⟩ := hx
  rw [List.mem_map] at hx
  obtain ⟨j, _, rfl⟩ := hx
  rw [ByteArray.size_append, h w hw, letterB_size]
theorem allW_size (k : Nat) : ∀ n, ∀ x ∈ allW k n, x.size = n
  | 0 => fun x hx => by
    rw [allW, List.mem_singleton] at hx
    subst hx; rfl
  | n + 1 => longer_size (allW_size k n)
theorem longer_next (ws : List ByteArray) (k i : Nat) (h : i < ws.length) : longer (ws.take (i + 1)) k = longer (ws.take i) k ++ (List.range k).map fun j => ws[i] ++ letterB j := by
  unfold longer
  rw [List.take_succ_eq_append_getElem h, List.flatMap_append]
  simp
theorem range_next (w : ByteArray) (j : Nat) : (List.range (j + 1)).map (fun j => w ++ letterB j) = (List.range j).map (fun j => w ++ letterB j) ++ [w ++ letterB j] := by
  rw [List.range_succ, List.map_append]; rfl
/-- The list that WordsOf gives: none where the numbers are out of bounds or the words more than 729. -/
def wordsOf (k n : Int) : List ByteArray :=
  if (1 ≤ k ∧ k ≤ 3) ∧ 0 ≤ n ∧ n ≤ 16 ∧ k.toNat ^ n.toNat ≤ 729 then allW k.toNat n.toNat else []
end Go.Proofs.Ytcoiodfggaanbaa
