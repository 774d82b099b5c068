/-
  The model's StatesOf, GraphOf, IsConnected and AreSameShift: at every shift in memory what the plain words say; nothing that was there before is changed.
-/
import Derived.Test.YtalclebehbdliaaBaseTexts
import Derived.Test.YtalclebehbdliaaLangTexts
namespace Go.Proofs.Ytalclebehbdliaa
open Go Go.RowKit

theorem langOfS_two (L : Int) (ps : List ByteArray) : (langOfS L ps 2).length ≤ 9 ∧ ∀ k, k < (langOfS L ps 2).length → ((langOfS L ps 2).getD k ByteArray.empty).size = 2 := by
  unfold langOfS
  split
  · next h =>
    obtain ⟨l1, l3, _⟩ := isShift_letters h.1
    refine ⟨Nat.le_trans (List.length_filter_le _ _) (by rw [allW_length]; exact two_le (by omega)), fun k hk => ?_⟩
    exact allW_size L.toNat 2 _ (List.mem_filter.1 (getD_mem hk)).1
  · exact ⟨by simp, fun k hk => by simp at hk⟩
/-- The graph of a shift, where it has states. -/
def graphS (L : Int) (ps : List ByteArray) : Option (List (List Int)) := if (langOfS L ps 2).length = 0 then none else some (tabQ ps (langOfS L ps 2))
def connS (L : Int) (ps : List ByteArray) : Bool := match graphS L ps with | none => false | some m => irrM m
def areS (L : Int) (ps : List ByteArray) (L' : Int) (qs : List ByteArray) : Bool := sameS L ps L' qs (langOfS L ps 3) (langOfS L' qs 3)

set_option maxRecDepth 100000 in
theorem spec_statesOf (L : Int) (G : Option Addr) (c : Nat) (ps : List ByteArray) (hl : ps.length ≤ 1048576) (hz : ∀ k, k < ps.length → (ps.getD k ByteArray.empty).size ≤ 2147483648) (w : World) (hs : StrsG w G ps) :
    Calls Try.prog 10 #[.agg #[.int .i64 L, .slice G ps.length c]] w (ListPost (langOfS L ps 2) w) := by
  have hb := (Below.refl w.heap.size w).alloc (Nat.le_refl _) (.cells #[.int .i64 L, .slice G ps.length c] 27)
  have C := Lib.hid (spec_languageOf L 2 G c ps hl hz _ (hs.below hb))
  have HB := Lib.hid hb
  clear hs hz hb
  generalize langOfS L ps 2 = M at *
  go_enter Try.func10, Try.ntmps10
  go_wp2_with fail
  refine C.out.mono ?_
  rintro e w1 ⟨v, rfl, ho, b1⟩
  have HO := Lib.hid ho
  have B1 := Lib.hid (HB.out.trans (b1.mono HB.out.size))
  have s1 := HB.out.size
  clear ho b1
  go_wp2
  go_ret
  exact ⟨v, rfl, HO.out.mono s1, B1.out⟩

theorem spec_graphOf (L : Int) (G : Option Addr) (c : Nat) (ps : List ByteArray) (hl : ps.length ≤ 1048576) (hz : ∀ k, k < ps.length → (ps.getD k ByteArray.empty).size ≤ 2147483648) (w : World) (hs : StrsG w G ps) :
    Calls Try.prog 18 #[.agg #[.int .i64 L, .slice G ps.length c]] w (NewGB (graphS L ps) w) := by
  obtain ⟨h9, h2⟩ := langOfS_two L ps
  exact spec_graphOf_of L G c ps hl hz (langOfS L ps 2) h2 (by omega) w hs fun w' hb => spec_statesOf L G c ps hl hz w' (hs.below hb)

theorem graphS_size {L : Int} {ps : List ByteArray} {m : List (List Int)} (h : graphS L ps = some m) : m.length ≤ 9 ∧ tot m ≤ 1048576 ∧ (∀ k, k < m.length → (m.getD k []).length ≤ 9) ∧ m.length = (langOfS L ps 2).length := by
  unfold graphS at h
  split at h
  · cases h
  · have e := Option.some.inj h
    obtain ⟨h9, _⟩ := langOfS_two L ps
    have hl : m.length = (langOfS L ps 2).length := by rw [← e]; exact tabOf_length _ _ _
    have hr : ∀ k, k < m.length → (m.getD k []).length = (langOfS L ps 2).length := fun k hk => by
      rw [← e] at hk ⊢
      unfold tabQ at hk ⊢
      rw [tabOf_length] at hk
      rw [tabOf_row hk]; simp
    refine ⟨by omega, ?_, fun k hk => by rw [hr k hk]; exact h9, hl⟩
    have := tot_le_of (m := m) (n := 9) fun r hr2 => by
      obtain ⟨i, hi, rfl⟩ := List.getElem_of_mem hr2
      have e2 : m.getD i [] = m[i] := by simp [List.getD, hi]
      have := hr i hi
      rw [e2] at this
      omega
    omega

theorem spec_areSame (L L' : Int) (G G' : Option Addr) (c c' : Nat) (ps qs : List ByteArray) (hl : ps.length ≤ 1048576) (hl' : qs.length ≤ 1048576) (hz : ∀ k, k < ps.length → (ps.getD k ByteArray.empty).size ≤ 2147483648) (hz' : ∀ k, k < qs.length → (qs.getD k ByteArray.empty).size ≤ 2147483648) (w : World) (hs : StrsG w G ps) (hs' : StrsG w G' qs) :
    Calls Try.prog 28 #[.agg #[.int .i64 L, .slice G ps.length c], .agg #[.int .i64 L', .slice G' qs.length c']] w (BoolPost (areS L ps L' qs) w) := by
  have h27 : ∀ (L : Int) (ps : List ByteArray), (langOfS L ps 3).length ≤ 1000 := fun L ps => by
    unfold langOfS
    split
    · next h =>
      obtain ⟨l1, l3, _⟩ := isShift_letters h.1
      refine Nat.le_trans (List.length_filter_le _ _) ?_
      rw [allW_length]
      exact Nat.le_trans (pow_six (k := L.toNat) (n := 3) (by omega) (by omega) 3 (Nat.le_refl _)) (by omega)
    · simp
  exact spec_areSame_of L L' G G' c c' ps qs hl hl' hz hz' _ _ (h27 L ps) (h27 L' qs) w hs hs' (fun _ _ w' hb => spec_languageOf L 3 G c ps hl hz w' (hs.below hb)) (fun _ _ w' hb => spec_languageOf L' 3 G' c' qs hl' hz' w' (hs'.below hb))
end Go.Proofs.Ytalclebehbdliaa
