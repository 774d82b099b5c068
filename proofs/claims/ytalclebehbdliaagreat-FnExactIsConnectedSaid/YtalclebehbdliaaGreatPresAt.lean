/-
  What the model's functions of chapter 9 answer at the copies that the laws make.
-/
import Derived.Test.YtalclebehbdliaaGreatMidTexts
import Derived.Test.YtalclebehbdliaaGreatPresCount
import Derived.Test.YtalclebehbdliaaGreatPresLeast
import Derived.Test.YtalclebehbdliaaGreatPresMeet
import Derived.Test.YtalclebehbdliaaGreatPresSb
import Derived.Test.YtalclebehbdliaaGreatPresLawA
import Derived.Test.YtalclebehbdliaaGreatPresLawB
import Derived.Test.YtalclebehbdliaaGreatPresLawC
import Derived.Test.YtalclebehbdliaaGreatBaseTexts
namespace Go.Proofs.YtalclebehbdliaaGreat
open Go Go.RowKit

theorem size_two {xs : List ByteArray} (ht : total xs ≤ 1048576) : ∀ k, k < xs.length → (xs.getD k ByteArray.empty).size ≤ 2147483648 := fun k hk => by
  have := size_le_total hk
  omega
/-- What a function of one shift answers at copies. -/
def At1S (W : World) (f : Nat) (L : Int) (xs : List ByteArray) (Q : World → Ending → World → Prop) : Prop :=
  ∀ g c w', Below W.heap.size W w' → xs.length ≤ 1048576 → total xs ≤ 1048576 → StrsAt w' g 0 xs → g < w'.heap.size → Calls Tryz.prog f #[.agg #[.int .i64 L, .slice (some ⟨g, 0, none⟩) xs.length c]] w' (Q w')
/-- .. wherever the shift lies. -/
def Any1S (W : World) (f : Nat) (L : Int) (xs : List ByteArray) (Q : World → Ending → World → Prop) : Prop :=
  ∀ (G : Option Addr) (c : Nat) (w' : World), Below W.heap.size W w' → xs.length ≤ 1048576 → (∀ k, k < xs.length → (xs.getD k ByteArray.empty).size ≤ 2147483648) → StrsG w' G xs → Calls Tryz.prog f #[.agg #[.int .i64 L, .slice G xs.length c]] w' (Q w')
theorem Any1S.at1 {W : World} {f : Nat} {L : Int} {xs : List ByteArray} {Q : World → Ending → World → Prop} (h : Any1S W f L xs Q) : At1S W f L xs Q :=
  fun g c w' hb hl ht hs hg => h (some ⟨g, 0, none⟩) c w' hb hl (size_two ht) (.of hs hg)
def Any2S (W : World) (f : Nat) (L : Int) (xs : List ByteArray) (L' : Int) (xs' : List ByteArray) (Q : World → Ending → World → Prop) : Prop :=
  ∀ (G G' : Option Addr) (c c' : Nat) (w' : World), Below W.heap.size W w' → xs.length ≤ 1048576 → (∀ k, k < xs.length → (xs.getD k ByteArray.empty).size ≤ 2147483648) → xs'.length ≤ 1048576 → (∀ k, k < xs'.length → (xs'.getD k ByteArray.empty).size ≤ 2147483648) → StrsG w' G xs → StrsG w' G' xs' →
    Calls Tryz.prog f #[.agg #[.int .i64 L, .slice G xs.length c], .agg #[.int .i64 L', .slice G' xs'.length c']] w' (Q w')
theorem Any2S.at2 {W : World} {f : Nat} {L L' : Int} {xs xs' : List ByteArray} {Q : World → Ending → World → Prop} (h : Any2S W f L xs L' xs' Q) : AtCopies2 W f L xs L' xs' Q :=
  fun g c g' c' w' hb hl ht hl' ht' hs hg hs' hg' => h (some ⟨g, 0, none⟩) (some ⟨g', 0, none⟩) c c' w' hb hl (size_two ht) hl' (size_two ht') (.of hs hg) (.of hs' hg')

theorem any_statesOf (W : World) (L : Int) (xs : List ByteArray) : Any1S W 24 L xs (ListPost (langOfS L xs 2)) := fun G c w' _ hl hz hs => spec_statesOf L G c xs hl hz w' hs
theorem any_graphOf (W : World) (L : Int) (xs : List ByteArray) : Any1S W 9 L xs (NewGB (graphS L xs)) := fun G c w' _ hl hz hs => spec_graphOf L G c xs hl hz w' hs
theorem any_isConnected (W : World) (L : Int) (xs : List ByteArray) : Any1S W 21 L xs (BoolPost (connS L xs)) := fun G c w' _ hl hz hs => spec_isConnected L G c xs hl hz w' hs
theorem any_forbiddenOf (W : World) (L : Int) (xs : List ByteArray) : Any1S W 11 L xs (NewShB (forbS L xs)) := fun G c w' _ hl hz hs => spec_forbiddenOf L G c xs hl hz w' hs
theorem any_areSame (W : World) (L L' : Int) (xs xs' : List ByteArray) : Any2S W 19 L xs L' xs' (BoolPost (areS L xs L' xs')) := fun G G' c c' w' _ hl hz hl' hz' hs hs' => spec_areSame L L' G G' c c' xs xs' hl hl' hz hz' w' hs hs'
theorem any_meetShifts (W : World) (L L' : Int) (xs xs' : List ByteArray) : Any2S W 14 L xs L' xs' (NewShB (meetS L xs L' xs')) := fun G G' c c' w' _ hl hz hl' hz' hs hs' => spec_meetShifts L L' G G' c c' xs xs' hl hl' hz hz' w' hs hs'
theorem at_countWords (W : World) (L n : Int) (xs : List ByteArray) : AtCopiesN W 15 L xs n (countS L n xs) := fun g c w' _ hl ht hs hg => spec_countWords L n (some ⟨g, 0, none⟩) c xs hl (size_two ht) w' (.of hs hg)

theorem newGB_specP {o : Option (List (List Int))} {w : World} {e : Ending} {w' : World} (h : NewGB o w e w') : SpecGB (o.getD []) o.isSome w e w' := by
  obtain ⟨v, rfl, ho, hb⟩ := h
  exact ⟨v, rfl, ho.gridV, hb⟩
theorem graph_sizeB (L : Int) (ps : List ByteArray) : SizeB ((graphS L ps).getD []) := by
  unfold SizeB
  rcases h : graphS L ps with _ | m
  · simp [tot]
  · obtain ⟨h9, _, hr, _⟩ := graphS_size h
    have := tot_le_of (m := m) (n := 9) fun r hr2 => by
      obtain ⟨i, hi, rfl⟩ := List.getElem_of_mem hr2
      have e2 : m.getD i [] = m[i] := by simp [List.getD, hi]
      have := hr i hi
      rw [e2] at this
      omega
    simp only [Option.getD_some]
    omega
theorem forb_short (L : Int) (ps : List ByteArray) : ((forbS L ps).getD (0, [])).2.length ≤ 1048576 := by
  unfold forbS
  split
  · next h =>
    simp only [Bool.and_eq_true, decide_eq_true_eq] at h
    simp only [Option.getD_some]; omega
  · simp
theorem meet_short (L L' : Int) (ps qs : List ByteArray) : ((meetS L ps L' qs).getD (0, [])).2.length ≤ 1048576 := by
  unfold meetS
  split
  · next h =>
    simp only [Bool.and_eq_true, decide_eq_true_eq] at h
    simp only [Option.getD_some]; omega
  · simp
/-- The laws, over the program's functions wherever the shifts lie. -/
theorem states_short (L : Int) (ps : List ByteArray) : (langOfS L ps 2).length ≤ 1000000 := by have := (langOfS_two L ps).1; omega
end Go.Proofs.YtalclebehbdliaaGreat
