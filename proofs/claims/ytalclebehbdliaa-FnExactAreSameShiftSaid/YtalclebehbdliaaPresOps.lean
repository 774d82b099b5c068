/-
  Shifts that a function gives back, in memory of their own: found equal, marked, looked at again; what keeps when others are marked.
-/
import Derived.Test.YtalclebehbdliaaBaseTexts
namespace Go.Proofs.Ytalclebehbdliaa
open Go Go.RowKit

/-- A row of strings in memory of its own, from block B on and below S. -/
def OwnR (w : World) (B S : Nat) (v : Value) (ps : List ByteArray) : Prop := w.ownsRow B 9 1 v ps.length (ps.map Value.string) ∧ ∀ g, v.ownBlock = some g → g < S
namespace OwnR
variable {w w' : World} {B S : Nat} {v : Value} {ps : List ByteArray}
theorem new (h : w.ownsRow B 9 1 v ps.length (ps.map Value.string)) : OwnR w B w.heap.size v ps := ⟨h, fun g hg => (h.lt g hg).2⟩
theorem below (h : OwnR w B S v ps) (hb : Below w.heap.size w w') : OwnR w' B S v ps := ⟨owns_below h.1 hb, h.2⟩
theorem within {B' S' : Nat} (h : OwnR w B S v ps) (hw : Within B' S' w w') (hs : S ≤ B' ∨ S' ≤ B) : OwnR w' B S v ps := by
  refine ⟨⟨h.1.1, ?_⟩, h.2⟩
  rcases h.1.2 with hn | ⟨g, cap, cur, rfl, hb, hgg, rest⟩
  · exact .inl hn
  · refine .inr ⟨g, cap, cur, rfl, hb, ?_, rest⟩
    have hlt : g < S := h.2 g rfl
    rw [hw.block g (Array.getElem?_eq_some_iff.1 hgg).1 (by omega)]
    exact hgg
theorem row {A : Option Addr} {c : Nat} (h : OwnR w B S (.slice A ps.length c) ps) : RowAt w A ps := by
  intro hp
  obtain ⟨g, c2, hv, _, _⟩ := World.ownsRow.form h.1 hp
  simp only [Value.slice.injEq, true_and] at hv
  obtain ⟨rfl, rfl⟩ := hv
  exact ⟨g, rfl, StrsAt.of_owns h.1 rfl, (h.1.lt g rfl).2⟩
theorem strs {g c : Nat} (h : OwnR w B S (.slice (some ⟨g, 0, none⟩) ps.length c) ps) : StrsAt w g 0 ps ∧ g < w.heap.size := ⟨StrsAt.of_owns h.1 rfl, (h.1.lt g rfl).2⟩
end OwnR
theorem BoxAt.within {w w' : World} {g B S : Nat} {L : Int} {V : Value} (h : BoxAt w g L V) (hw : Within B S w w') (hg : g < B ∨ S ≤ g) (hl : g < w.heap.size) : BoxAt w' g L V := by
  have hk := hw.block g hl (by omega)
  refine ⟨Eq.trans ?_ h.1, Eq.trans ?_ h.2⟩ <;> simp [World.cell?, hk]
/-- A shift is stored in a box that was there before its list. -/
theorem sb_stored {W0 W : World} {B B' gb c : Nat} {M : Int} {A : Option Addr} {ps : List ByteArray} {x y : Value} {t : TypeId} (hk : W.heap[gb]? = some (.cells #[x, y] t (0, 0)))
    (ho : W.ownsRow B' 9 1 (.slice A ps.length c) ps.length (ps.map Value.string)) (hlt : gb < B') (hB : B ≤ gb) (hb : Below B W0 W) :
    gb < ((W.setCell ⟨gb, 0, none⟩ (.int .i64 M)).setCell ⟨gb, 1, none⟩ (.slice A ps.length c)).heap.size ∧
    BoxAt ((W.setCell ⟨gb, 0, none⟩ (.int .i64 M)).setCell ⟨gb, 1, none⟩ (.slice A ps.length c)) gb M (.slice A ps.length c) ∧
    OwnR ((W.setCell ⟨gb, 0, none⟩ (.int .i64 M)).setCell ⟨gb, 1, none⟩ (.slice A ps.length c)) B ((W.setCell ⟨gb, 0, none⟩ (.int .i64 M)).setCell ⟨gb, 1, none⟩ (.slice A ps.length c)).heap.size (.slice A ps.length c) ps ∧
    Below B W0 ((W.setCell ⟨gb, 0, none⟩ (.int .i64 M)).setCell ⟨gb, 1, none⟩ (.slice A ps.length c)) := by
  have hs := sh_stores (x' := .int .i64 M) (y' := .slice A ps.length c) hk
  have hc := sh_cells hs
  have hne : ∀ (w' : World), w'.ownsRow B' 9 1 (.slice A ps.length c) ps.length (ps.map Value.string) → ¬ (Value.slice A ps.length c).ownBlock = some gb := fun w' h e => by have := (h.lt gb e).1; omega
  have o1 := ownsRow_setCell_other ho (a := ⟨gb, 0, none⟩) (hne _ ho) (.int .i64 M)
  have o2 := ownsRow_setCell_other o1 (a := ⟨gb, 1, none⟩) (hne _ o1) (.slice A ps.length c)
  exact ⟨(Array.getElem?_eq_some_iff.1 hs).1, ⟨hc.1, hc.2.1⟩, OwnR.new (World.ownsRow.mono o2 (by omega)), below_stores hb hB _ _⟩

set_option maxRecDepth 100000 in
theorem same_shiftR (L : Int) (A1 A2 : Option Addr) (c1 c2 : Nat) (xs : List ByteArray) (hl : xs.length ≤ 1048576) (w : World) (h1 : RowAt w A1 xs) (h2 : RowAt w A2 xs) :
    Calls Try.prog 14 #[.agg #[.int .i64 L, .slice A1 xs.length c1], .agg #[.int .i64 L, .slice A2 xs.length c2]] w (TrueBelow w) := by
  have hb : Below w.heap.size w ((w.alloc (.cells #[.int .i64 L, .slice A1 xs.length c1] 27)).alloc (.cells #[.int .i64 L, .slice A2 xs.length c2] 27)) := ((Below.refl _ _).alloc (Nat.le_refl _) _).alloc (by simp) _
  have HE := Lib.hid (same_rows A1 A2 c1 c2 xs hl _ (h1.below hb) (h2.below hb))
  have HB := Lib.hid hb
  clear h1 h2 hb
  go_enter Try.func14, Try.ntmps14
  go_wp2_with fail
  refine HE.out.mono ?_
  rintro e w1 ⟨rfl, hb1⟩
  go_wp2
  go_ret
  exact ⟨rfl, HB.out.trans (hb1.mono HB.out.size)⟩

theorem mark_rowsQ (B S q : Nat) (A : Option Addr) (c : Nat) (ps : List ByteArray) (hq0 : 0 < q) (hq : q ≤ 1000000000000) (hn : ps.length ≤ 1048576) (w : World) (h : OwnR w B S (.slice A ps.length c) ps) :
    Calls Try.prog 16 #[.slice A ps.length c, .int .i64 (q : Int)] w fun e w' => e = .returned (.int .i64 ((q + ps.length : Nat) : Int)) ∧ RowAt w' A (marks q ps.length) ∧ Within B S w w' := by
  by_cases hp : 0 < ps.length
  · obtain ⟨g, c2, hv, _, _⟩ := World.ownsRow.form h.1 hp
    simp only [Value.slice.injEq, true_and] at hv
    obtain ⟨rfl, rfl⟩ := hv
    have hlt := h.2 g rfl
    have hB := h.1.lt g rfl
    refine (mark_row B q g c ps hq0 hq (by omega) w h.1).mono ?_
    rintro e w' ⟨he, ho', hg⟩
    exact ⟨he, fun _ => ⟨g, rfl, StrsAt.of_owns ho' (by rw [marks_length]), (ho'.lt g rfl).2⟩, hg.os, hg.tape, hg.output, hg.size, fun k hk hw => hg.block k hk (fun e => by have := Option.some.inj e; omega)⟩
  · have h0 : ps.length = 0 := by omega
    rw [h0]
    refine (mark_none A c q w).mono ?_
    rintro e w' ⟨he, rfl⟩
    exact ⟨he, fun hq => by rw [marks_length] at hq; omega, Within.refl _ _ _⟩

set_option maxRecDepth 100000 in
/-- A shift of one's own is marked. -/
theorem mark_shiftR (L : Int) (B S q : Nat) (A : Option Addr) (c : Nat) (xs : List ByteArray) (hq0 : 0 < q) (hq : q ≤ 1000000000000) (hn : xs.length ≤ 1048576) (w : World) (ho : OwnR w B S (.slice A xs.length c) xs) :
    Calls Try.prog 15 #[.agg #[.int .i64 L, .slice A xs.length c], .int .i64 (q : Int)] w fun e w' => e = .returned (.int .i64 ((q + xs.length : Nat) : Int)) ∧ RowAt w' A (marks q xs.length) ∧ Within B S w w' := by
  have hb : Below w.heap.size w (w.alloc (.cells #[.int .i64 L, .slice A xs.length c] 27)) := (Below.refl _ _).alloc (Nat.le_refl _) _
  have HM := Lib.hid (mark_rowsQ B S q A c xs hq0 hq hn (w.alloc (.cells #[.int .i64 L, .slice A xs.length c] 27)) (ho.below hb))
  have HB := Lib.hid hb
  clear ho hb
  go_enter Try.func15, Try.ntmps15
  go_wp2_with fail
  refine HM.out.mono ?_
  rintro e w1 ⟨rfl, hr, hw⟩
  have HR := Lib.hid hr
  have HW : Hid (Within B S w w1) := Lib.hid ⟨hw.os.trans HB.out.os, hw.tape.trans HB.out.tape, hw.output.trans HB.out.output, Nat.le_trans HB.out.size hw.size, fun k hk hne => (hw.block k (Nat.lt_of_lt_of_le hk HB.out.size) hne).trans (HB.out.block k hk)⟩
  clear hr hw
  go_wp2
  go_ret
  exact ⟨rfl, HR.out, HW.out⟩

set_option maxRecDepth 100000 in
theorem held_shiftR (L : Int) (A : Option Addr) (c n : Nat) (hn : n ≤ 1048576) (w : World) (h : RowAt w A (marks 1 n)) :
    Calls Try.prog 27 #[.agg #[.int .i64 L, .slice A n c], .int .i64 1] w (HeldPost 1 n w) := by
  have hb : Below w.heap.size w (w.alloc (.cells #[.int .i64 L, .slice A n c] 27)) := (Below.refl _ _).alloc (Nat.le_refl _) _
  have HM := Lib.hid (held_rows A c n hn _ (h.below hb))
  have HB := Lib.hid hb
  have hn0 : ¬ ((1 + n : Nat) : Int) < 0 := by omega
  clear h hb
  go_enter Try.func27, Try.ntmps27
  go_wp2_with fail
  refine HM.out.mono ?_
  rintro e w1 ⟨rfl, hw⟩
  go_wp2
  go_ret
  exact ⟨rfl, HB.out.trans (hw.mono HB.out.size)⟩
end Go.Proofs.Ytalclebehbdliaa
