/-
  PLAIN FACTS ON CODES THAT ARE PERMUTIVE (no program in this text): the letters that a code gives to a word with each letter beside it; whether a word has a letter twice.
-/
import Derived.Test.YtcoiodfggaanbaaWordAt
import Derived.Test.YtcoiodfggaanbaaOccursSpec
namespace Go.Proofs.Ytcoiodfggaanbaa
open Go Go.RowKit

/-- A word with a letter beside it. -/
def besideB (l : Bool) (w : ByteArray) (x : Nat) : ByteArray := if l = true then letterB x ++ w else w ++ letterB x
def givenTo (k : Nat) (o : ByteArray) (l : Bool) (w : ByteArray) (i : Nat) : ByteArray := ⟨((List.range i).map fun x => letterC k o (besideB l w x)).toArray⟩
theorem givenTo_data (k : Nat) (o : ByteArray) (l : Bool) (w : ByteArray) (i : Nat) : (givenTo k o l w i).data.toList = (List.range i).map fun x => letterC k o (besideB l w x) := by simp [givenTo]
theorem givenTo_zero (k : Nat) (o : ByteArray) (l : Bool) (w : ByteArray) : givenTo k o l w 0 = ⟨#[]⟩ := rfl
theorem givenTo_next (k : Nat) (o : ByteArray) (l : Bool) (w : ByteArray) (i : Nat) : givenTo k o l w (i + 1) = givenTo k o l w i ++ oneB (letterC k o (besideB l w i)) := by
  apply ba_ext
  rw [ba_append, givenTo_data, givenTo_data, List.range_succ, List.map_append]; rfl
theorem givenTo_size (k : Nat) (o : ByteArray) (l : Bool) (w : ByteArray) (i : Nat) : (givenTo k o l w i).size = i := by rw [← ba_len, givenTo_data]; simp
theorem givenTo_at {k : Nat} {o : ByteArray} {l : Bool} {w : ByteArray} {i j : Nat} (h : j < i) : byteAt (givenTo k o l w i) j = letterC k o (besideB l w j) := by
  unfold byteAt
  rw [givenTo_data, List.getD_eq_getElem?_getD, List.getElem?_map, List.getElem?_range h]; rfl
theorem beside_size {l : Bool} {w : ByteArray} {x n : Nat} (h : w.size = n) : (besideB l w x).size = n + 1 := by
  unfold besideB
  cases l <;> simp [letterB_size, h]; omega
theorem beside_all {k : Nat} (k3 : k ≤ 3) {l : Bool} {w : ByteArray} {x : Nat} (hx : x < k) (h : w.data.toList.all (isL (k : Int)) = true) : (besideB l w x).data.toList.all (isL (k : Int)) = true := by
  have hl : (letterB x).data.toList.all (isL (k : Int)) = true := by
    show [UInt8.ofNat (97 + x)].all _ = true
    simp only [List.all_cons, List.all_nil, Bool.and_true]
    exact letterB_all k3 hx
  unfold besideB
  cases l
  · rw [if_neg (by decide), ba_append, List.all_append, hl, h]; rfl
  · rw [if_pos rfl, ba_append, List.all_append, hl, h]; rfl
/-- No letter is twice among the first i. -/
def NoTw (s : ByteArray) (i : Nat) : Prop := ∀ a b, a < b → b < i → byteAt s a ≠ byteAt s b
def twiceB (s : ByteArray) : Bool := (List.range s.size).any fun b => (List.range b).any fun a => byteAt s a == byteAt s b
theorem twice_no {s : ByteArray} (h : NoTw s s.size) : twiceB s = false := by
  rw [← Bool.not_eq_true]
  intro e
  unfold twiceB at e
  rw [List.any_eq_true] at e
  obtain ⟨b, hb, e⟩ := e
  rw [List.any_eq_true] at e
  obtain ⟨a, ha, e⟩ := e
  exact h a b (List.mem_range.1 ha) (List.mem_range.1 hb) (by simpa using e)
theorem twice_yes {s : ByteArray} {a b : Nat} (hab : a < b) (hb : b < s.size) (h : byteAt s a = byteAt s b) : twiceB s = true := by
  unfold twiceB
  rw [List.any_eq_true]
  refine ⟨b, List.mem_range.2 hb, ?_⟩
  rw [List.any_eq_true]
  exact ⟨a, List.mem_range.2 hab, by simpa using h⟩
theorem twice_of {s : ByteArray} (h : twiceB s = false) : NoTw s s.size := fun a b hab hb e => by
  rw [twice_yes hab hb e] at h; cases h
theorem ext_one {s : ByteArray} {i : Nat} (h : i < s.size) : s.extract i (i + 1) = oneB (byteAt s i) := extract_one h
theorem oneB_inj {a b : UInt8} (h : oneB a = oneB b) : a = b := by
  have := congrArg (fun x : ByteArray => x.data.toList) h
  simpa [oneB] using this
/-- A string has a letter. -/
theorem occ_one (s : ByteArray) (b : UInt8) : occ s (oneB b) = true ↔ ∃ j, j < s.size ∧ byteAt s j = b := by
  constructor
  · intro h
    by_cases hx : ∃ j, j < s.size ∧ byteAt s j = b
    · exact hx
    · have h2 : occ s (oneB b) = false := by
        refine contains_no fun i hi => ?_
        have hi2 : i < s.size := by
          rw [ba_len, ba_len, oneB_size] at hi
          omega
        rw [← occ_eq, show (oneB b).size = 1 from rfl, ext_one hi2, decide_eq_false_iff_not]
        exact fun e => hx ⟨i, hi2, oneB_inj e⟩
      rw [h2] at h; cases h
  · rintro ⟨j, hj, e⟩
    refine contains_yes (i := j) (by rw [ba_len]; omega) ?_
    rw [← occ_eq, show (oneB b).size = 1 from rfl, ext_one hj, e]
    exact decide_eq_true rfl
theorem occ_one_no {s : ByteArray} {b : UInt8} (h : occ s (oneB b) = false) {j : Nat} (hj : j < s.size) : byteAt s j ≠ b := fun e => by
  have := (occ_one s b).2 ⟨j, hj, e⟩
  rw [this] at h; cases h
def permW (k : Nat) (o : ByteArray) (l : Bool) (w : ByteArray) : Bool := !twiceB (givenTo k o l w k)
def permB (K N : Int) (o : ByteArray) (l : Bool) : Bool := isCodeB K N o && (allW K.toNat (N.toNat - 1)).all (permW K.toNat o l)
theorem perm_no {K N : Int} {o : ByteArray} {l : Bool} (h : isCodeB K N o = false) : permB K N o l = false := by unfold permB; rw [h]; rfl
theorem perm_yes {k n : Nat} {o : ByteArray} {l : Bool} (ok : CodeOk k n o) : permB (k : Int) (n : Int) o l = (allW k (n - 1)).all (permW k o l) := by
  unfold permB
  rw [code_is ok, Bool.true_and, Int.toNat_natCast, Int.toNat_natCast]
theorem permW_no {k i : Nat} {o : ByteArray} {l : Bool} {w : ByteArray} (hi : i < k) (h : occ (givenTo k o l w i) (oneB (letterC k o (besideB l w i))) = true) : permW k o l w = false := by
  obtain ⟨j, hj, e⟩ := (occ_one _ _).1 h
  rw [givenTo_size] at hj
  unfold permW
  rw [twice_yes hj (by rw [givenTo_size]; exact hi) (by rw [givenTo_at (by omega), givenTo_at hi]; rw [givenTo_at hj] at e; exact e)]
  rfl
theorem noTw_next {k i : Nat} {o : ByteArray} {l : Bool} {w : ByteArray} (hi : i < k) (h : NoTw (givenTo k o l w k) i) (ho : occ (givenTo k o l w i) (oneB (letterC k o (besideB l w i))) = false) : NoTw (givenTo k o l w k) (i + 1) := fun a b hab hb => by
  by_cases e : b = i
  · subst e
    have := occ_one_no ho (j := a) (by rw [givenTo_size]; exact hab)
    rw [givenTo_at hab] at this
    rw [givenTo_at (by omega), givenTo_at hi]
    exact this
  · exact h a b hab (by omega)
theorem permW_yes {k : Nat} {o : ByteArray} {l : Bool} {w : ByteArray} (h : NoTw (givenTo k o l w k) k) : permW k o l w = true := by
  unfold permW
  rw [twice_no (by rw [givenTo_size]; exact h)]; rfl
end Go.Proofs.Ytcoiodfggaanbaa
