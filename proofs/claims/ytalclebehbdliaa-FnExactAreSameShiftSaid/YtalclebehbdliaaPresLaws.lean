/-
  The seven laws of chapter 9, over what the program's functions answer wherever the shifts lie.
-/
import Derived.Test.YtalclebehbdliaaPresAt
import Derived.Test.YtalclebehbdliaaPresLawD
import Derived.Test.YtalclebehbdliaaPresLawE
import Derived.Test.YtalclebehbdliaaPresLawF
namespace Go.Proofs.Ytalclebehbdliaa
open Go Go.RowKit

def Any1N (W : World) (f : Nat) (L : Int) (xs : List ByteArray) (n : Int) (Q : World → Ending → World → Prop) : Prop :=
  ∀ (G : Option Addr) (c : Nat) (w' : World), Below W.heap.size W w' → xs.length ≤ 1048576 → (∀ k, k < xs.length → (xs.getD k ByteArray.empty).size ≤ 2147483648) → StrsG w' G xs → Calls Try.prog f #[.agg #[.int .i64 L, .slice G xs.length c], .int .i64 n] w' (Q w')
def Fine (W : World) (e : Ending) (w' : World) : Prop := e = .returned (.bool true) ∧ Below W.heap.size W w'
variable {W : World} {L L' n : Int} {V V' : Value} {xs xs' : List ByteArray}
theorem lawA_statesOf (ha : SliceArgQ W V xs) (hI : Any1S W 12 L xs (ListPost (langOfS L xs 2))) : Calls Try.prog 3 #[.agg #[.int .i64 L, V]] W (Fine W) :=
  law_statesOf L V xs _ (states_short L xs) W ha.arg (any_statesOf W L xs).at1 hI.at1
theorem lawA_graphOf (ha : SliceArgQ W V xs) (hI : Any1S W 19 L xs (NewGB (graphS L xs))) : Calls Try.prog 4 #[.agg #[.int .i64 L, V]] W (Fine W) :=
  law_graphOf L V xs _ _ (graph_sizeB L xs) W ha (fun g c w' h1 h2 h3 h4 h5 => ((any_graphOf W L xs).at1 g c w' h1 h2 h3 h4 h5).mono fun _ _ h => newGB_specP h) (fun g c w' h1 h2 h3 h4 h5 => (hI.at1 g c w' h1 h2 h3 h4 h5).mono fun _ _ h => newGB_implP (graph_sizeB L xs) h)
theorem lawA_countWords (ha : SliceArgQ W V xs) (hI : Any1N W 24 L xs n (Scalar (.int .i64 (countS L n xs)))) : Calls Try.prog 5 #[.agg #[.int .i64 L, V], .int .i64 n] W (Fine W) :=
  law_countWords L V xs n _ W ha.arg (at_countWords W L n xs) (fun g c w' hb hl ht hs hg => hI (some ⟨g, 0, none⟩) c w' hb hl (size_two ht) (.of hs hg))
theorem lawA_forbiddenOf (ha : SliceArgQ W V xs) (hI : Any1S W 26 L xs (NewShB (forbS L xs))) : Calls Try.prog 6 #[.agg #[.int .i64 L, V]] W (Fine W) :=
  law_forbiddenOf L V xs _ _ _ (forb_short L xs) W ha (fun g c w' h1 h2 h3 h4 h5 => ((any_forbiddenOf W L xs).at1 g c w' h1 h2 h3 h4 h5).mono fun _ _ h => h.sb) (fun g c w' h1 h2 h3 h4 h5 => (hI.at1 g c w' h1 h2 h3 h4 h5).mono fun _ _ h => h.sb)
theorem lawA_areSame (ha : SliceArgQ W V xs) (ha' : SliceArgQ W V' xs') (hI : Any2S W 29 L xs L' xs' (BoolPost (areS L xs L' xs'))) : Calls Try.prog 7 #[.agg #[.int .i64 L, V], .agg #[.int .i64 L', V']] W (Fine W) :=
  law_areSameShift L L' V V' xs xs' _ W ha ha' (any_areSame W L L' xs xs').at2 hI.at2
theorem lawA_meetShifts (ha : SliceArgQ W V xs) (ha' : SliceArgQ W V' xs') (hI : Any2S W 31 L xs L' xs' (NewShB (meetS L xs L' xs'))) : Calls Try.prog 8 #[.agg #[.int .i64 L, V], .agg #[.int .i64 L', V']] W (Fine W) :=
  law_meetShifts L L' V V' xs xs' _ _ _ (meet_short L L' xs xs') W ha ha' (fun g c g' c' w' h1 h2 h3 h4 h5 h6 h7 h8 h9 => ((any_meetShifts W L L' xs xs').at2 g c g' c' w' h1 h2 h3 h4 h5 h6 h7 h8 h9).mono fun _ _ h => h.sb) (fun g c g' c' w' h1 h2 h3 h4 h5 h6 h7 h8 h9 => (hI.at2 g c g' c' w' h1 h2 h3 h4 h5 h6 h7 h8 h9).mono fun _ _ h => h.sb)
end Go.Proofs.Ytalclebehbdliaa
