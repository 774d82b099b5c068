/-
  Whether a string has a part: the model's OccursIn, at every two strings of at most 2^31 bytes; nothing is changed.
-/
import Derived.Test.YtlncehnbdhkaoaaWordNum
import Derived.Test.YtlncehnbdhkaoaaChecked
namespace Go.Proofs.Ytlncehnbdhkaoaa
open Go Go.RowKit

def occ (s sub : ByteArray) : Bool := Lib.contains s.data.toList sub.data.toList
/-- The part doesn't begin before place k. -/
def NoOcc (s sub : ByteArray) (k : Nat) : Prop := ∀ j, j < k → j + sub.size ≤ s.size → Lib.occAt s.data.toList sub.data.toList j = false
theorem NoOcc.next {s sub : ByteArray} {k : Nat} (h : NoOcc s sub k) (ho : Lib.occAt s.data.toList sub.data.toList k = false) : NoOcc s sub (k + 1) := by
  intro j h1 h2
  by_cases e : j = k
  · subst e; exact ho
  · exact h j (by omega) h2
theorem NoOcc.no {s sub : ByteArray} {k : Nat} (h : NoOcc s sub k) (hk : s.size < k + sub.size) : occ s sub = false :=
  contains_no (fun i hi => by
    rw [ba_len, ba_len] at hi
    exact h i (by omega) hi)

end Go.Proofs.Ytlncehnbdhkaoaa
