/-
  Shifts that a function gives back, in memory of their own: found equal, marked, looked at again; what keeps when others are marked.
-/
import Derived.Test.YtalclebehbdliaaGreatLangTexts
import Derived.Test.YtalclebehbdliaaGreatBaseTexts
namespace Go.Proofs.YtalclebehbdliaaGreat
open Go Go.RowKit

/-- A row of strings in memory of its own, from block B on and below S. -/
def OwnR (w : World) (B S : Nat) (v : Value) (ps : List ByteArray) : Prop := w.ownsRow B 9 1 v ps.length (ps.map Value.string) ∧ ∀ g, v.ownBlock = some g → g < S
namespace OwnR
variable {w w' : World} {B S : Nat} {v : Value} {ps : List ByteArray}
theorem new (h : w.ownsRow B 9 1 v ps.length (ps.map Value.string)) : OwnR w B w.heap.size v ps := ⟨h, fun g hg => (h.lt g hg).2⟩
theorem below (h : OwnR w B S v ps) (hb : Below w.heap.size w w') : OwnR w' B S v ps := ⟨owns_below h.1 hb, h.2⟩
theorem within {B' S' : Nat} (h : OwnR w B S v ps) (hw : Within B' S' w w') (hs : S ≤ B' ∨ S' ≤ B) : OwnR w' B S v ps := by
  refine ⟨⟨h.1.1, ?_⟩, h.2⟩
  rcases h.1.2 with hn | ⟨g, cap, cur, rfl, hb, hgg, rest⟩
  · exact .inl hn
  · refine .inr ⟨g, cap, cur, rfl, hb, ?_, rest⟩
    have hlt : g < S := h.2 g rfl
    rw [hw.block g (Array.getElem?_eq_some_iff.1 hgg).1 (by omega)]
    exact hgg
theorem row {A : Option Addr} {c : Nat} (h : OwnR w B S (.slice A ps.length c) ps) : RowAt w A ps := by
  intro hp
  obtain ⟨g, c2, hv, _, _⟩ := World.ownsRow.form h.1 hp
  simp only [Value.slice.injEq, true_and] at hv
  obtain ⟨rfl, rfl⟩ := hv
  exact ⟨g, rfl, StrsAt.of_owns h.1 rfl, (h.1.lt g rfl).2⟩
theorem strs {g c : Nat} (h : OwnR w B S (.slice (some ⟨g, 0, none⟩) ps.length c) ps) : StrsAt w g 0 ps ∧ g < w.heap.size := ⟨StrsAt.of_owns h.1 rfl, (h.1.lt g rfl).2⟩
end OwnR
theorem BoxAt.within {w w' : World} {g B S : Nat} {L : Int} {V : Value} (h : BoxAt w g L V) (hw : Within B S w w') (hg : g < B ∨ S ≤ g) (hl : g < w.heap.size) : BoxAt w' g L V := by
  have hk := hw.block g hl (by omega)
  refine ⟨Eq.trans ?_ h.1, Eq.trans ?_ h.2⟩ <;> simp [World.cell?, hk]
/-- A shift is stored in a box that was there before its list. -/
theorem sb_stored {W0 W : World} {B B' gb c : Nat} {M : Int} {A : Option Addr} {ps : List ByteArray} {x y : Value} {t : TypeId} (hk : W.heap[gb]? = some (.cells #[x, y] t (0, 0)))
    (ho : W.ownsRow B' 9 1 (.slice A ps.length c) ps.length (ps.map Value.string)) (hlt : gb < B') (hB : B ≤ gb) (hb : Below B W0 W) :
    gb < ((W.setCell ⟨gb, 0, none⟩ (.int .i64 M)).setCell ⟨gb, 1, none⟩ (.slice A ps.length c)).heap.size ∧
    BoxAt ((W.setCell ⟨gb, 0, none⟩ (.int .i64 M)).setCell ⟨gb, 1, none⟩ (.slice A ps.length c)) gb M (.slice A ps.length c) ∧
    OwnR ((W.setCell ⟨gb, 0, none⟩ (.int .i64 M)).setCell ⟨gb, 1, none⟩ (.slice A ps.length c)) B ((W.setCell ⟨gb, 0, none⟩ (.int .i64 M)).setCell ⟨gb, 1, none⟩ (.slice A ps.length c)).heap.size (.slice A ps.length c) ps ∧
    Below B W0 ((W.setCell ⟨gb, 0, none⟩ (.int .i64 M)).setCell ⟨gb, 1, none⟩ (.slice A ps.length c)) := by
  have hs := sh_stores (x' := .int .i64 M) (y' := .slice A ps.length c) hk
  have hc := sh_cells hs
  have hne : ∀ (w' : World), w'.ownsRow B' 9 1 (.slice A ps.length c) ps.length (ps.map Value.string) → ¬ (Value.slice A ps.length c).ownBlock = some gb := fun w' h e => by have := (h.lt gb e).1; omega
  have o1 := ownsRow_setCell_other ho (a := ⟨gb, 0, none⟩) (hne _ ho) (.int .i64 M)
  have o2 := ownsRow_setCell_other o1 (a := ⟨gb, 1, none⟩) (hne _ o1) (.slice A ps.length c)
  exact ⟨(Array.getElem?_eq_some_iff.1 hs).1, ⟨hc.1, hc.2.1⟩, OwnR.new (World.ownsRow.mono o2 (by omega)), below_stores hb hB _ _⟩

set_option maxRecDepth 100000 in
theorem same_shiftR (L : Int) (A1 A2 : Option Addr) (c1 c2 : Nat) (xs : List ByteArray) (hl : xs.length ≤ 1048576) (w : World) (h1 : RowAt w A1 xs) (h2 : RowAt w A2 xs) :
    Calls Tryz.prog 31 #[.agg #[.int .i64 L, .slice A1 xs.length c1], .agg #[.int .i64 L, .slice A2 xs.length c2]] w (TrueBelow w) := by
  have hb : Below w.heap.size w ((w.alloc (.cells #[.int .i64 L, .slice A1 xs.length c1] 26)).alloc (.cells #[.int .i64 L, .slice A2 xs.length c2] 26)) := ((Below.refl _ _).alloc (Nat.le_refl _) _).alloc (by simp) _
  have HE := Lib.hid (same_rows A1 A2 c1 c2 xs hl _ (h1.below hb) (h2.below hb))
  have HB := Lib.hid hb
  clear h1 h2 hb
  go_enter Tryz.func31, Tryz.ntmps31
  go_wp2_with fail
  refine HE.out.mono ?_
  rintro e w1 ⟨rfl, hb1⟩
  go_wp2
  go_ret
  exact ⟨rfl, HB.out.trans (hb1.mono HB.out.size)⟩

end Go.Proofs.YtalclebehbdliaaGreat
