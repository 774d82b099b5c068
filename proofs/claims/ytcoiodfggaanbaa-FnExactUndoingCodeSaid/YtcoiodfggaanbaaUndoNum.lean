/-
  PLAIN FACTS ON CODES THAT ARE UNDONE (no program in this text): the letter that stands at a place in the words that a code takes to the same word; the code that is written out from these.
-/
import Derived.Test.YtcoiodfggaanbaaWordAt
import Derived.Test.YtcoiodfggaanbaaLangNum
namespace Go.Proofs.Ytcoiodfggaanbaa
open Go Go.RowKit

/-- The letter at the place of the first of the first j words that are taken to the word. -/
def letTo (F : ByteArray → ByteArray) (A : ByteArray → UInt8) (ws : List ByteArray) (j : Nat) (part : ByteArray) : Option UInt8 := ((ws.take j).find? fun x => decide (F x = part)).map A
/-- Among the first j words, those that are taken to the same have the same letter. -/
def Fits (F : ByteArray → ByteArray) (A : ByteArray → UInt8) (ws : List ByteArray) (j : Nat) : Prop := ∀ x ∈ ws.take j, ∀ y ∈ ws.take j, F x = F y → A x = A y
def clashB (F : ByteArray → ByteArray) (A : ByteArray → UInt8) (ws : List ByteArray) : Bool := ws.any fun x => ws.any fun y => decide (F x = F y) && !decide (A x = A y)
section
variable {F : ByteArray → ByteArray} {A : ByteArray → UInt8} {ws : List ByteArray}
theorem letTo_zero (part : ByteArray) : letTo F A ws 0 part = none := rfl
theorem letTo_next {j : Nat} (hj : j < ws.length) (part : ByteArray) : letTo F A ws (j + 1) part = (letTo F A ws j part).or (if F (ws.getD j ByteArray.empty) = part then some (A (ws.getD j ByteArray.empty)) else none) := by
  unfold letTo
  rw [List.take_succ_eq_append_getElem hj, List.find?_append, List.getD_eq_getElem?_getD, List.getElem?_eq_getElem hj, Option.getD_some]
  cases (ws.take j).find? fun x => decide (F x = part) with
  | some x => rfl
  | none =>
    by_cases e : F ws[j] = part
    · rw [if_pos e, List.find?_cons_of_pos (by simpa using e)]; rfl
    · rw [if_neg e, List.find?_cons_of_neg (by simpa using e)]; rfl
theorem letTo_some {j : Nat} {part : ByteArray} {b : UInt8} (h : letTo F A ws j part = some b) : ∃ x ∈ ws.take j, F x = part ∧ A x = b := by
  unfold letTo at h
  rw [Option.map_eq_some_iff] at h
  obtain ⟨x, hx, rfl⟩ := h
  exact ⟨x, List.mem_of_find?_eq_some hx, by simpa using List.find?_some hx, rfl⟩
theorem letTo_none {j : Nat} {part : ByteArray} (h : letTo F A ws j part = none) : ∀ x ∈ ws.take j, F x ≠ part := by
  unfold letTo at h
  rw [Option.map_eq_none_iff, List.find?_eq_none] at h
  intro x hx
  simpa using h x hx
theorem Fits.zero : Fits F A ws 0 := fun x hx => by simp at hx
theorem Fits.let_mem {j : Nat} (h : Fits F A ws j) {x : ByteArray} (hx : x ∈ ws.take j) : letTo F A ws j (F x) = some (A x) := by
  cases e : letTo F A ws j (F x) with
  | none => exact absurd rfl (letTo_none e x hx)
  | some b =>
    obtain ⟨y, hy, h1, h2⟩ := letTo_some e
    rw [← h2, h y hy x hx h1]
theorem mem_take {j : Nat} (hj : j < ws.length) {x : ByteArray} : x ∈ ws.take (j + 1) ↔ x ∈ ws.take j ∨ x = ws.getD j ByteArray.empty := by
  rw [List.take_succ_eq_append_getElem hj, List.mem_append, List.mem_singleton, List.getD_eq_getElem?_getD, List.getElem?_eq_getElem hj, Option.getD_some]
theorem Fits.next {j : Nat} (hj : j < ws.length) (h : Fits F A ws j) (ha : ∀ b, letTo F A ws j (F (ws.getD j ByteArray.empty)) = some b → b = A (ws.getD j ByteArray.empty)) : Fits F A ws (j + 1) := by
  have key : ∀ x ∈ ws.take j, F x = F (ws.getD j ByteArray.empty) → A x = A (ws.getD j ByteArray.empty) := fun x hx e => by
    have h1 := h.let_mem hx
    rw [e] at h1
    exact ha _ h1
  intro x hx y hy e
  rw [mem_take hj] at hx hy
  rcases hx with hx | rfl
  · rcases hy with hy | rfl
    · exact h x hx y hy e
    · exact key x hx e
  · rcases hy with hy | rfl
    · exact (key y hy e.symm).symm
    · rfl
/-- What is known of a word that the next word is taken to. -/
theorem let_at {j : Nat} (hj : j < ws.length) (ha : ∀ b, letTo F A ws j (F (ws.getD j ByteArray.empty)) = some b → b = A (ws.getD j ByteArray.empty)) : letTo F A ws (j + 1) (F (ws.getD j ByteArray.empty)) = some (A (ws.getD j ByteArray.empty)) := by
  rw [letTo_next hj, if_pos rfl]
  cases e : letTo F A ws j (F (ws.getD j ByteArray.empty)) with
  | none => rfl
  | some b => rw [ha b e]; rfl
theorem let_else {j : Nat} (hj : j < ws.length) {part : ByteArray} (hp : part ≠ F (ws.getD j ByteArray.empty)) : letTo F A ws (j + 1) part = letTo F A ws j part := by
  rw [letTo_next hj, if_neg (fun e => hp e.symm), Option.or_none]
theorem clash_yes {j : Nat} (hj : j < ws.length) {b : UInt8} (h : letTo F A ws j (F (ws.getD j ByteArray.empty)) = some b) (hb : b ≠ A (ws.getD j ByteArray.empty)) : clashB F A ws = true := by
  obtain ⟨x, hx, h1, h2⟩ := letTo_some h
  unfold clashB
  rw [List.any_eq_true]
  refine ⟨x, List.mem_of_mem_take hx, ?_⟩
  rw [List.any_eq_true]
  have hm : ws.getD j ByteArray.empty ∈ ws := by rw [List.getD_eq_getElem?_getD, List.getElem?_eq_getElem hj]; exact List.getElem_mem hj
  refine ⟨_, hm, ?_⟩
  rw [decide_eq_true h1, decide_eq_false (by rw [h2]; exact hb)]; rfl
theorem clash_no (h : Fits F A ws ws.length) : clashB F A ws = false := by
  rw [← Bool.not_eq_true]
  intro e
  unfold clashB at e
  rw [List.any_eq_true] at e
  obtain ⟨x, hx, e⟩ := e
  rw [List.any_eq_true] at e
  obtain ⟨y, hy, e⟩ := e
  simp only [Bool.and_eq_true, decide_eq_true_eq, Bool.not_eq_true', decide_eq_false_iff_not] at e
  rw [← List.take_length (l := ws)] at hx hy
  exact e.2 (h x hx y hy e.1)
theorem clash_fits (h : clashB F A ws = false) : ∀ x ∈ ws, ∀ y ∈ ws, F x = F y → A x = A y := fun x hx y hy e => by
  by_cases e2 : A x = A y
  · exact e2
  · exfalso
    have : clashB F A ws = true := by
      unfold clashB
      rw [List.any_eq_true]
      refine ⟨x, hx, ?_⟩
      rw [List.any_eq_true]
      exact ⟨y, hy, by rw [decide_eq_true e, decide_eq_false e2]; rfl⟩
    rw [h] at this; cases this
end
/-! ### The code that undoes -/
/-- The letter for a word: a, if it does not occur. -/
def undoF (F : ByteArray → ByteArray) (A : ByteArray → UInt8) (ws : List ByteArray) (part : ByteArray) : ByteArray := oneB ((letTo F A ws ws.length part).getD 97)
def undoFA (k n : Nat) (o : ByteArray) (x : ByteArray) : ByteArray := applied k n o x
def undoAA (a : Nat) (x : ByteArray) : UInt8 := byteAt x a
def undoO (k n : Nat) (o : ByteArray) (m a : Nat) : ByteArray := catW (undoF (undoFA k n o) (undoAA a) (allW k (n + m - 1))) (allW k m)
def undoAt (k n : Nat) (o : ByteArray) (m a : Nat) : Option ByteArray := if clashB (undoFA k n o) (undoAA a) (allW k (n + m - 1)) = true then none else some (undoO k n o m a)
def undoS (K N : Int) (o : ByteArray) (M : Int) : Option (ByteArray × Nat) := if isCodeB K N o = true ∧ codeForm K M = true then (List.range (N.toNat + M.toNat - 1)).findSome? fun a => (undoAt K.toNat N.toNat o M.toNat a).map fun d => (d, a) else none
theorem undo_no {K N M : Int} {o : ByteArray} (h : ¬ (isCodeB K N o = true ∧ codeForm K M = true)) : undoS K N o M = none := by unfold undoS; rw [if_neg h]
theorem undo_yes {k n m : Nat} {o : ByteArray} (ok : CodeOk k n o) (okm : FormOk k m) : undoS (k : Int) (n : Int) o (m : Int) = (List.range (n + m - 1)).findSome? fun a => (undoAt k n o m a).map fun d => (d, a) := by
  unfold undoS
  rw [if_pos ⟨code_is ok, form_is okm⟩, Int.toNat_natCast, Int.toNat_natCast, Int.toNat_natCast]
/-- None of the first i places serves. -/
def NoAt (k n : Nat) (o : ByteArray) (m i : Nat) : Prop := ∀ a, a < i → undoAt k n o m a = none
theorem NoAt.next {k n m i : Nat} {o : ByteArray} (h : NoAt k n o m i) (hi : undoAt k n o m i = none) : NoAt k n o m (i + 1) := fun a ha => by
  by_cases e : a = i
  · rw [e]; exact hi
  · exact h a (by omega)
theorem find_first {α : Type} {f : Nat → Option α} {v : α} : ∀ {L i : Nat}, i < L → (∀ a, a < i → f a = none) → f i = some v → (List.range L).findSome? f = some v := by
  intro L i hi h0 hv
  obtain ⟨r, rfl⟩ := Nat.exists_eq_add_of_lt hi
  rw [show i + r + 1 = i + (r + 1) by omega, List.range_add, List.findSome?_append]
  have h1 : (List.range i).findSome? f = none := by
    rw [List.findSome?_eq_none_iff]
    exact fun a ha => h0 a (List.mem_range.1 ha)
  rw [h1, Option.none_or, List.range_succ_eq_map, List.map_cons, List.findSome?_cons, Nat.add_zero, hv]
theorem undo_found {k n m i : Nat} {o d : ByteArray} (ok : CodeOk k n o) (okm : FormOk k m) (hi : i < n + m - 1) (h : NoAt k n o m i) (hd : undoAt k n o m i = some d) : undoS (k : Int) (n : Int) o (m : Int) = some (d, i) := by
  rw [undo_yes ok okm]
  exact find_first hi (fun a ha => by rw [h a ha]; rfl) (by rw [hd]; rfl)
theorem undo_none {k n m : Nat} {o : ByteArray} (ok : CodeOk k n o) (okm : FormOk k m) (h : NoAt k n o m (n + m - 1)) : undoS (k : Int) (n : Int) o (m : Int) = none := by
  rw [undo_yes ok okm, List.findSome?_eq_none_iff]
  exact fun a ha => by rw [h a (List.mem_range.1 ha)]; rfl
def zeroCU (r : Option (ByteArray × Nat)) (K : Int) : Int := if r.isSome = true then K else 0
/-- What UndoingCode answers. -/
def undoD (r : Option (ByteArray × Nat)) : ByteArray := match r with
  | none => ByteArray.empty
  | some p => p.1
def undoI (r : Option (ByteArray × Nat)) : Int := match r with
  | none => 0
  | some p => (p.2 : Int)
def UndoRes (r : Option (ByteArray × Nat)) (K M : Int) : Value := .tuple #[.agg #[.int .i64 (zeroCU r K), .int .i64 (zeroCU r M), .string (undoD r)], .int .i64 (undoI r), .bool r.isSome]
end Go.Proofs.Ytcoiodfggaanbaa
