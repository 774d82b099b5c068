/-
  PLAIN FACTS ON READING A SHIFT (no program in this text): what a text says, by either of the two readers of numbers.
-/
import Derived.Test.YtomaanpmjlgpfaaDoorSpecRead
import Derived.Test.YtomaanpmjlgpfaaDoorSplitNum
import Derived.Test.YtomaanpmjlgpfaaDoorShiftNum
import Derived.WalkKit
namespace Go.Proofs.YtomaanpmjlgpfaaDoor
open Go Go.RowKit

theorem parts_cons (c : UInt8) (s : ByteArray) : ∃ p xs, parts c s = p :: xs := by
  have h := parts_length c s
  cases e : parts c s with
  | nil => rw [e] at h; cases h
  | cons p xs => exact ⟨p, xs, rfl⟩
/-- Whether a number that was read, and the words behind it, are a shift. -/
def goodR (r : Option Int) (xs : List ByteArray) : Bool := numB r && isShift (numV r) xs
def outL (r : Option Int) (xs : List ByteArray) : Int := if goodR r xs = true then numV r else 0
def outX (r : Option Int) (xs : List ByteArray) : List ByteArray := if goodR r xs = true then xs else []
theorem read_same (s : ByteArray) (xs : List ByteArray) : goodR (numOfS s) xs = goodR (intOfS s) xs ∧ (goodR (intOfS s) xs = true → numV (numOfS s) = numV (intOfS s)) := by
  cases hn : numOfS s with
  | some n =>
    obtain ⟨h1, h2, h3⟩ := numOf_some.1 hn
    have hi : intOfS s = some n := numOf_some.2 ⟨by omega, by omega, h3⟩
    rw [hi]
    exact ⟨rfl, fun _ => rfl⟩
  | none =>
    cases hi : intOfS s with
    | none => exact ⟨rfl, fun _ => rfl⟩
    | some n =>
      have hf : isShift n xs = false := by
        cases hsh : isShift n xs with
        | false => rfl
        | true =>
          obtain ⟨l1, l3, _⟩ := isShift_letters hsh
          obtain ⟨_, _, h3⟩ := numOf_some.1 hi
          have : numOfS s = some n := numOf_some.2 ⟨by omega, by omega, h3⟩
          rw [hn] at this; cases this
      have g1 : goodR (some n) xs = false := by show (true && isShift n xs) = false; rw [hf]; rfl
      rw [g1]
      exact ⟨rfl, fun h => by cases h⟩
theorem outL_same (s : ByteArray) (xs : List ByteArray) : outL (numOfS s) xs = outL (intOfS s) xs := by
  obtain ⟨h1, h2⟩ := read_same s xs
  unfold outL
  rw [h1]
  split
  · next h => exact h2 h
  · rfl
theorem outX_same (s : ByteArray) (xs : List ByteArray) : outX (numOfS s) xs = outX (intOfS s) xs := by
  unfold outX
  rw [(read_same s xs).1]

section
variable {P : Program}
/-- A struct's cell and a slot as two results. -/
theorem results_row_tmp {fn : Func} {p u : Tmp} {ty : TypeId} (h : fn.results = #[.cell p ty, .tmp u]) (tmps : Array Value) (w : World) (g : Nat) (t : TypeId) (cs : Array Value) (fr : Nat × Nat) (d : TypeDesc)
    (hp : tmps.getD p undef = .pointer (some ⟨g, 0, none⟩)) (hg : w.heap[g]? = some (.cells cs t fr))
    (hu : P.underlying ty = some d) (hd : (match d with | .struct _ | .array _ _ => true | _ => false) = true) (hi : (P.info? ty).map (·.size) = some cs.size) :
    (results fn tmps).run P w = .ok (.tuple #[.agg cs, tmps.getD u undef]) w := by
  have hp' : tmps[p]?.getD undef = .pointer (some ⟨g, 0, none⟩) := by simpa using hp
  simp [results, h, hp', asAddr, run_loadVar_row w g t ty cs fr d hg hu hd hi]
end
end Go.Proofs.YtomaanpmjlgpfaaDoor
