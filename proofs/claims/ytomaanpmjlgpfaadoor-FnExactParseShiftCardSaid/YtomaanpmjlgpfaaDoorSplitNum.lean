/-
  PLAIN FACTS ON SPLITTING AT A BYTE (no program in this text): a string is cut at the first byte c; where there is none it stays whole; the pieces are one more than c occurs, none longer than the string, none contains c; joined at c they give the string.
-/
import Derived.Test.YtomaanpmjlgpfaaDoorJoinNum
import Derived.Lib.SplitLaws
import Derived.Lib.IndexBytes
namespace Go.Proofs.YtomaanpmjlgpfaaDoor
open Go Go.RowKit

theorem index1_none (c : UInt8) : ∀ l : List UInt8, (∀ j : Nat, l[j]? ≠ some c) → Lib.index l [c] = -1
  | [], _ => by simp [Lib.index]
  | b :: l, h => by
    have hb : b ≠ c := fun e => h 0 (by simp [e])
    have hp : ([c] : List UInt8).isPrefixOf (b :: l) = false := by simp [List.isPrefixOf, Ne.symm hb]
    have ih := index1_none c l (fun j => by have := h (j + 1); simpa using this)
    rw [Lib.index, hp, ih]; simp
theorem index1_at (c : UInt8) : ∀ (l : List UInt8) (i : Nat), l[i]? = some c → (∀ j : Nat, j < i → l[j]? ≠ some c) → Lib.index l [c] = (i : Int)
  | [], i, h, _ => by simp at h
  | b :: l, 0, h, _ => by
    have hb : b = c := by simpa using h
    subst hb
    rw [Lib.index]; simp [List.isPrefixOf]
  | b :: l, i + 1, h, hn => by
    have hb : b ≠ c := fun e => hn 0 (by omega) (by simp [e])
    have hp : ([c] : List UInt8).isPrefixOf (b :: l) = false := by simp [List.isPrefixOf, Ne.symm hb]
    have ih := index1_at c l i (by simpa using h) (fun j hj => by have := hn (j + 1) (by omega); simpa using this)
    rw [Lib.index, hp, ih]
    simp

/-- The pieces of s, cut at each byte c. -/
def parts (c : UInt8) (s : ByteArray) : List ByteArray := Lib.splitB ⟨#[c]⟩ 0 (Lib.countB s ⟨#[c]⟩) s
theorem parts_length (c : UInt8) (s : ByteArray) : (parts c s).length = Lib.countB s ⟨#[c]⟩ + 1 := Lib.splitB_all ⟨#[c]⟩ (Nat.le_refl 1) 0 _ s rfl
theorem tail_data (s : ByteArray) (f : Nat) : (s.extract f s.size).data.toList = s.data.toList.drop f := Lib.extract_to_end s f
theorem tail_get (s : ByteArray) (f j : Nat) : (s.extract f s.size).data.toList[j]? = s.data.toList[f + j]? := by rw [tail_data, List.getElem?_drop]
theorem tail_size (s : ByteArray) (f : Nat) : (s.extract f s.size).size = s.size - f := by rw [ByteArray.size_extract]; omega
theorem parts_none {c : UInt8} {s : ByteArray} (h : ∀ j : Nat, s.data.toList[j]? ≠ some c) : parts c s = [s] := by
  unfold parts
  exact Lib.splitB_miss _ 0 _ s (index1_none c _ h)
theorem parts_at {c : UInt8} {s : ByteArray} {i : Nat} (h : s.data.toList[i]? = some c) (hn : ∀ j : Nat, j < i → s.data.toList[j]? ≠ some c) : parts c s = s.extract 0 i :: parts c (s.extract (i + 1) s.size) := by
  have hix : Lib.indexB s ⟨#[c]⟩ = (i : Int) := index1_at c _ i h hn
  have hc := Lib.countB_hit s ⟨#[c]⟩ i (Nat.le_refl 1) hix
  have e1 : (⟨#[c]⟩ : ByteArray).size = 1 := rfl
  rw [e1] at hc
  unfold parts
  rw [hc, Nat.add_comm 1, Lib.splitB_hit _ 0 _ s i hix, e1, Nat.add_zero]
theorem bytes_eq {a b : ByteArray} (h : a.data.toList = b.data.toList) : a = b := by
  cases a; cases b
  simpa using h
theorem ext_ext (s : ByteArray) (f k : Nat) (hf : f ≤ k) : (s.extract f s.size).extract 0 (k - f) = s.extract f k := by
  apply bytes_eq
  rw [Lib.extract_data, Lib.extract_data, Lib.extract_data, List.drop_zero, Nat.sub_zero]
  rw [List.take_take]
  by_cases h : k ≤ s.size
  · rw [Nat.min_eq_left (by omega)]
  · have hl : (s.data.toList.drop f).length ≤ s.size - f := by rw [List.length_drop]; exact Nat.le_refl _
    rw [List.take_of_length_le (by rw [Nat.min_def]; split <;> omega), List.take_of_length_le (by omega)]
theorem ext_tail (s : ByteArray) (f d : Nat) : (s.extract f s.size).extract d (s.extract f s.size).size = s.extract (f + d) s.size := by
  apply bytes_eq
  rw [Lib.extract_to_end, Lib.extract_to_end, Lib.extract_to_end, List.drop_drop]
/-- The loop's two steps. -/
theorem parts_tail_none {c : UInt8} {s : ByteArray} {f : Nat} (h : ∀ j : Nat, f ≤ j → s.data.toList[j]? ≠ some c) : parts c (s.extract f s.size) = [s.extract f s.size] :=
  parts_none fun j => by rw [tail_get]; exact h _ (by omega)
theorem parts_tail_at {c : UInt8} {s : ByteArray} {f k : Nat} (hf : f ≤ k) (h : s.data.toList[k]? = some c) (hn : ∀ j : Nat, f ≤ j → j < k → s.data.toList[j]? ≠ some c) : parts c (s.extract f s.size) = s.extract f k :: parts c (s.extract (k + 1) s.size) := by
  rw [parts_at (i := k - f) (by rw [tail_get, show f + (k - f) = k by omega]; exact h) (fun j hj => by rw [tail_get]; exact hn _ (by omega) (by omega))]
  rw [ext_ext s f k hf, ext_tail, show f + (k - f + 1) = k + 1 by omega]
theorem ext_all (s : ByteArray) : s.extract 0 s.size = s := by
  apply bytes_eq
  rw [Lib.extract_to_end, List.drop_zero]

/-! ### What the pieces are -/
/-- Either there is no byte c from f on, or a first one. -/
theorem first_at (c : UInt8) (l : List UInt8) : (∀ j : Nat, l[j]? ≠ some c) ∨ ∃ i, l[i]? = some c ∧ ∀ j : Nat, j < i → l[j]? ≠ some c := by
  induction l with
  | nil => exact Or.inl fun j => by simp
  | cons b r ih =>
    by_cases hb : b = c
    · subst hb; exact Or.inr ⟨0, by simp, fun j hj => by omega⟩
    · rcases ih with h | ⟨i, h, hn⟩
      · left
        intro j
        cases j with
        | zero => simpa using hb
        | succ j => simpa using h j
      · right
        refine ⟨i + 1, by simpa using h, fun j hj => ?_⟩
        cases j with
        | zero => simpa using hb
        | succ j => have := hn j (by omega); simpa using this
theorem at_lt {c : UInt8} {s : ByteArray} {i : Nat} (h : s.data.toList[i]? = some c) : i < s.size := (List.getElem?_eq_some_iff.1 h).1
theorem parts_facts (c : UInt8) : ∀ (n : Nat) (s : ByteArray), s.size ≤ n → (parts c s).length ≤ s.size + 1 ∧ total (parts c s) ≤ s.size ∧ (∀ p ∈ parts c s, ∀ j : Nat, p.data.toList[j]? ≠ some c) ∧ joinOf (parts c s) ⟨#[c]⟩ = s.data.toList := by
  intro n
  induction n with
  | zero =>
    intro s hs
    have h0 : s.data.toList = [] := List.eq_nil_of_length_eq_zero (by show s.size = 0; omega)
    have hno : ∀ j : Nat, s.data.toList[j]? ≠ some c := fun j => by rw [h0]; simp
    rw [parts_none hno]
    exact ⟨by simp, by simp [total], fun p hp => by rw [List.mem_singleton] at hp; subst hp; exact hno, by simp [joinOf, Lib.join_one]⟩
  | succ n ih =>
    intro s hs
    rcases first_at c s.data.toList with hno | ⟨i, hi, hn⟩
    · rw [parts_none hno]
      exact ⟨by simp, by simp [total], fun p hp => by rw [List.mem_singleton] at hp; subst hp; exact hno, by simp [joinOf, Lib.join_one]⟩
    · have hlt := at_lt hi
      have hts := tail_size s (i + 1)
      obtain ⟨h1, h2, h3, h4⟩ := ih (s.extract (i + 1) s.size) (by omega)
      have e0 : (s.extract 0 i).size = i := by rw [ByteArray.size_extract]; omega
      have e1 : (s.extract 0 i).data.toList = s.data.toList.take i := by rw [Lib.extract_data]; simp
      rw [parts_at hi hn]
      refine ⟨by rw [List.length_cons]; omega, by simp only [total, List.map_cons, List.sum_cons] at *; rw [e0]; omega, ?_, ?_⟩
      · intro p hp j
        rcases List.mem_cons.1 hp with rfl | hp
        · rw [e1]
          intro hc
          by_cases hj : j < i
          · rw [List.getElem?_take, if_pos hj] at hc; exact hn j hj hc
          · rw [List.getElem?_take, if_neg hj] at hc; cases hc
        · exact h3 p hp j
      · have hne : ∃ y r, parts c (s.extract (i + 1) s.size) = y :: r := by
          cases hq : parts c (s.extract (i + 1) s.size) with
          | nil => have := parts_length c (s.extract (i + 1) s.size); rw [hq] at this; simp at this
          | cons y r => exact ⟨y, r, rfl⟩
        obtain ⟨y, r, hq⟩ := hne
        rw [hq] at h4 ⊢
        unfold joinOf at h4 ⊢
        simp only [List.map_cons] at h4 ⊢
        rw [Lib.join_cons] at h4 ⊢
        rw [tail_data] at h4
        have e2 : Lib.joinTail (⟨#[c]⟩ : ByteArray).data.toList (y.data.toList :: r.map (·.data.toList)) = [c] ++ (y.data.toList ++ Lib.joinTail (⟨#[c]⟩ : ByteArray).data.toList (r.map (·.data.toList))) := by simp [Lib.joinTail]
        rw [e2, h4, e1]
        have hlen : i < s.data.toList.length := hlt
        have e3 : s.data.toList[i] = c := by rw [List.getElem?_eq_getElem hlen] at hi; exact Option.some.inj hi
        have e4 : s.data.toList.drop i = c :: s.data.toList.drop (i + 1) := by rw [List.drop_eq_getElem_cons hlen, e3]
        rw [List.singleton_append, ← e4, List.take_append_drop]
end Go.Proofs.YtomaanpmjlgpfaaDoor
