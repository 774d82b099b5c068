/-
  The seven laws of chapter 9, over what the program's functions answer wherever the shifts lie.
-/
import Derived.Test.YtalclebehbdliaaGreatPresAt
import Derived.Test.YtalclebehbdliaaGreatPresLawD
import Derived.Test.YtalclebehbdliaaGreatPresLawE
import Derived.Test.YtalclebehbdliaaGreatPresLawF
namespace Go.Proofs.YtalclebehbdliaaGreat
open Go Go.RowKit

def Any1N (W : World) (f : Nat) (L : Int) (xs : List ByteArray) (n : Int) (Q : World → Ending → World → Prop) : Prop :=
  ∀ (G : Option Addr) (c : Nat) (w' : World), Below W.heap.size W w' → xs.length ≤ 1048576 → (∀ k, k < xs.length → (xs.getD k ByteArray.empty).size ≤ 2147483648) → StrsG w' G xs → Calls Tryz.prog f #[.agg #[.int .i64 L, .slice G xs.length c], .int .i64 n] w' (Q w')
def Fine (W : World) (e : Ending) (w' : World) : Prop := e = .returned (.bool true) ∧ Below W.heap.size W w'
variable {W : World} {L L' n : Int} {V V' : Value} {xs xs' : List ByteArray}
theorem lawA_isConnected (ha : SliceArgQ W V xs) (hI : Any1S W 20 L xs (BoolPost (connS L xs))) : Calls Tryz.prog 4 #[.agg #[.int .i64 L, V]] W (Fine W) :=
  law_isConnected L V xs _ W ha.arg (any_isConnected W L xs).at1 hI.at1
end Go.Proofs.YtalclebehbdliaaGreat
