/-
  The laws' helpers at slices of strings of whatever length, none too: compared, marked, looked at.
-/
import Derived.Test.YtalclebehbdliaaDoorTexts
import Derived.Test.YtalclebehbdliaaDoorListLaw
namespace Go.Proofs.YtalclebehbdliaaDoor
open Go Go.RowKit

theorem same_rows (A1 A2 : Option Addr) (c1 c2 : Nat) (ps : List ByteArray) (hn : ps.length ≤ 1048576) (w : World) (h1 : RowAt w A1 ps) (h2 : RowAt w A2 ps) :
    Calls Tryd.prog 8 #[.slice A1 ps.length c1, .slice A2 ps.length c2] w (TrueBelow w) := by
  by_cases hp : 0 < ps.length
  · obtain ⟨g1, rfl, s1, _⟩ := h1 hp
    obtain ⟨g2, rfl, s2, _⟩ := h2 hp
    exact same_some g1 0 c1 g2 0 c2 ps (by omega) w s1 s2
  · have h0 : ps.length = 0 := by omega
    rw [h0]
    exact (same_none A1 A2 c1 c2 w).mono fun e w' ⟨he, hw⟩ => ⟨he, hw ▸ Below.refl _ _⟩
/-- The slice A holds the strings ps in memory from block B on. -/
def OwnAt (w : World) (B : Nat) (A : Option Addr) (c : Nat) (ps : List ByteArray) : Prop :=
  0 < ps.length → ∃ g, A = some ⟨g, 0, none⟩ ∧ w.ownsRow B 9 1 (.slice (some ⟨g, 0, none⟩) ps.length c) ps.length (ps.map Value.string)
theorem OwnAt.row {w : World} {B : Nat} {A : Option Addr} {c : Nat} {ps : List ByteArray} (h : OwnAt w B A c ps) : RowAt w A ps := by
  intro hp
  obtain ⟨g, hA, ho⟩ := h hp
  exact ⟨g, hA, StrsAt.of_owns ho rfl, (ho.lt g rfl).2⟩
theorem OwnAt.below {w w' : World} {B : Nat} {A : Option Addr} {c : Nat} {ps : List ByteArray} (h : OwnAt w B A c ps) (hb : Below w.heap.size w w') : OwnAt w' B A c ps := by
  intro hp
  obtain ⟨g, hA, ho⟩ := h hp
  exact ⟨g, hA, owns_below ho hb⟩
theorem ListPost.ownAt {ps : List ByteArray} {w w' : World} {e : Ending} (h : ListPost ps w e w') : ∃ A cap, e = .returned (.slice A ps.length cap) ∧ OwnAt w' w.heap.size A cap ps ∧ Below w.heap.size w w' := by
  obtain ⟨v, rfl, ho, hb⟩ := h
  rcases ho.2 with ⟨rfl, h0⟩ | ⟨g, cap, cur, rfl, _, _, _⟩
  · exact ⟨none, 0, by rw [h0], fun hp => by omega, hb⟩
  · exact ⟨some ⟨g, 0, none⟩, cap, rfl, fun _ => ⟨g, rfl, ho⟩, hb⟩
/-- Only the slice's own block has been written. -/
def OnlyAt (B : Nat) (A : Option Addr) (w w' : World) : Prop := ∃ r, w.grownBy w' r ∧ (r = none ∨ ∃ g, A = some ⟨g, 0, none⟩ ∧ B ≤ g ∧ r = some g)
theorem OnlyAt.below {B : Nat} {A : Option Addr} {w w' : World} (h : OnlyAt B A w w') (hB : B ≤ w.heap.size) : Below B w w' := by
  obtain ⟨r, hg, hr⟩ := h
  refine ⟨hg.os, hg.tape, hg.output, hg.size, fun k hk => hg.block k (by omega) ?_⟩
  rcases hr with rfl | ⟨g, _, hBg, rfl⟩
  · intro e; cases e
  · intro e
    have := Option.some.inj e
    omega
theorem mark_rows (B : Nat) (A : Option Addr) (c : Nat) (ps : List ByteArray) (hn : ps.length ≤ 1048576) (w : World) (h : OwnAt w B A c ps) :
    Calls Tryd.prog 11 #[.slice A ps.length c, .int .i64 1] w fun e w' => e = .returned (.int .i64 ((1 + ps.length : Nat) : Int)) ∧ RowAt w' A (marks 1 ps.length) ∧ OnlyAt B A w w' := by
  by_cases hp : 0 < ps.length
  · obtain ⟨g, rfl, ho⟩ := h hp
    refine (mark_row B 1 g c ps (by decide) (by decide) (by omega) w ho).mono ?_
    rintro e w' ⟨he, ho', hg⟩
    exact ⟨he, fun _ => ⟨g, rfl, StrsAt.of_owns ho' (by rw [marks_length]), (ho'.lt g rfl).2⟩, some g, hg, Or.inr ⟨g, rfl, (ho.lt g rfl).1, rfl⟩⟩
  · have h0 : ps.length = 0 := by omega
    rw [h0]
    refine (mark_none A c 1 w).mono ?_
    rintro e w' ⟨he, rfl⟩
    exact ⟨he, fun hq => by rw [marks_length] at hq; omega, none, World.grownBy.refl _ _, Or.inl rfl⟩
theorem held_rows (A : Option Addr) (c n : Nat) (hn : n ≤ 1048576) (w : World) (h : RowAt w A (marks 1 n)) :
    Calls Tryd.prog 12 #[.slice A n c, .int .i64 1] w (HeldPost 1 n w) := by
  by_cases hp : 0 < n
  · obtain ⟨g, rfl, hs, hg⟩ := h (by rw [marks_length]; exact hp)
    exact held_row 1 g c n (by decide) (by decide) (by omega) w hs hg
  · obtain rfl : n = 0 := by omega
    exact (held_none A c 1 w).mono fun e w' ⟨he, hw⟩ => ⟨he, hw ▸ Below.refl _ _⟩
end Go.Proofs.YtalclebehbdliaaDoor
