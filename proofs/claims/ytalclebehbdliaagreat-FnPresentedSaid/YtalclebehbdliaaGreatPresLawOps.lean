/-
  The law's comparison of shifts: two that have the same letters and words are found equal.
-/
import Derived.Test.YtalclebehbdliaaGreatLangTexts
import Derived.Test.YtalclebehbdliaaGreatBaseTexts
namespace Go.Proofs.YtalclebehbdliaaGreat
open Go Go.RowKit

theorem rowAt_of_owns {w : World} {B c : Nat} {G : Option Addr} {ps : List ByteArray} (h : w.ownsRow B 9 1 (.slice G ps.length c) ps.length (ps.map Value.string)) : RowAt w G ps := by
  intro hp
  obtain ⟨g, c2, hv, _, _⟩ := World.ownsRow.form h hp
  simp only [Value.slice.injEq, true_and] at hv
  obtain ⟨rfl, rfl⟩ := hv
  exact ⟨g, rfl, StrsAt.of_owns h rfl, (h.lt g rfl).2⟩

set_option maxRecDepth 100000 in
theorem same_shiftL (L : Int) (A1 A2 : Option Addr) (c1 c2 : Nat) (xs : List ByteArray) (hl : xs.length ≤ 1000000) (w : World) (h1 : RowAt w A1 xs) (h2 : RowAt w A2 xs) :
    Calls Tryz.prog 17 #[.agg #[.int .i64 L, .slice A1 xs.length c1], .agg #[.int .i64 L, .slice A2 xs.length c2]] w (TrueBelow w) := by
  have hb : Below w.heap.size w ((w.alloc (.cells #[.int .i64 L, .slice A1 xs.length c1] 26)).alloc (.cells #[.int .i64 L, .slice A2 xs.length c2] 26)) := ((Below.refl _ _).alloc (Nat.le_refl _) _).alloc (by simp) _
  have HE := Lib.hid (texts_rows A1 A2 c1 c2 xs hl _ (h1.below hb) (h2.below hb))
  have HB := Lib.hid hb
  clear h1 h2 hb
  go_enter Tryz.func17, Tryz.ntmps17
  go_wp2_with fail
  refine HE.out.mono ?_
  rintro e w1 ⟨rfl, hb1⟩
  go_wp2
  go_ret
  exact ⟨rfl, HB.out.trans (hb1.mono HB.out.size)⟩
end Go.Proofs.YtalclebehbdliaaGreat
