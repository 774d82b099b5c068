/-
  What the laws on shifts share: how long a shift is, its copy, and that two equal shifts are found equal. A shift is a number and a slice of strings.
-/
import Derived.Test.YtalclebehbdliaaDoorStrOps
import Derived.Deep.RegionHeld3
import Derived.Deep.Onto
namespace Go.Proofs.YtalclebehbdliaaDoor
open Go Go.RowKit

/-- V holds the strings xs, now and in every later world in which nothing that is there has turned. -/
def SliceArg (W : World) (V : Value) (xs : List ByteArray) : Prop :=
  (∀ w', Below W.heap.size W w' → Calls Tryd.prog 13 #[V, .int .i64 1048576] w' (SzPost 1048576 xs w')) ∧
  (xs.length ≤ 1048576 → ∀ w', Below W.heap.size W w' → Calls Tryd.prog 19 #[V] w' (CopyPost xs w'))
theorem SliceArg.later {W W' : World} {V : Value} {xs : List ByteArray} (h : SliceArg W V xs) (hb : Below W.heap.size W W') : SliceArg W' V xs :=
  ⟨fun w' hw => h.1 w' (hb.trans (hw.mono hb.size)), fun hl w' hw => h.2 hl w' (hb.trans (hw.mono hb.size))⟩

def SzShiftPost (xs : List ByteArray) (w : World) (e : Ending) (w' : World) : Prop := ∃ r : Int, e = .returned (.int .i64 r) ∧ (r = -1 ∨ (0 ≤ r ∧ (xs.length : Int) + total xs ≤ 1048576)) ∧ Below w.heap.size w w'

set_option maxRecDepth 100000 in
theorem sz_shift (L : Int) (V : Value) (xs : List ByteArray) (w : World) (h : SliceArg w V xs) :
    Calls Tryd.prog 4 #[.agg #[.int .i64 L, V], .int .i64 1048576] w (SzShiftPost xs w) := by
  have HS := Lib.hid (h.1 (w.alloc (.cells #[.int .i64 L, V] 24)) ((Below.refl _ _).alloc (Nat.le_refl _) _))
  clear h
  go_enter Tryd.func4, Tryd.ntmps4
  go_wp2_with fail
  refine HS.out.mono ?_
  rintro e w1 ⟨r, rfl, hr, rfl⟩
  rcases hr with rfl | ⟨hr0, hr1⟩
  · go_wp2
    go_ret
    exact ⟨-1, rfl, Or.inl rfl, (Below.refl _ _).alloc (Nat.le_refl _) _⟩
  · go_wp2
    go_ret
    exact ⟨r, rfl, Or.inr ⟨hr0, by omega⟩, (Below.refl _ _).alloc (Nat.le_refl _) _⟩

/-- A copy: its own slice, in new memory. -/
def ToShiftPost (L : Int) (xs : List ByteArray) (w : World) (e : Ending) (w' : World) : Prop :=
  ∃ g, e = .returned (.agg #[.int .i64 L, .slice (some ⟨g, 0, none⟩) xs.length xs.length]) ∧ w'.ownsRow w.heap.size 9 1 (.slice (some ⟨g, 0, none⟩) xs.length xs.length) xs.length (xs.map Value.string) ∧ Below w.heap.size w w'

set_option maxRecDepth 100000 in
set_option maxHeartbeats 800000 in
theorem to_shift (L : Int) (V : Value) (xs : List ByteArray) (hl : xs.length ≤ 1048576) (w : World) (h : SliceArg w V xs) :
    Calls Tryd.prog 6 #[.agg #[.int .i64 L, V]] w (ToShiftPost L xs w) := by
  have HC := Lib.hid (h.2 hl)
  clear h
  go_enter Tryd.func6, Tryd.ntmps6
  go_wp2_with fail
  obtain ⟨W3, hW3⟩ : ∃ W3, (((w.alloc (.cells #[.int .i64 L, V] 24)).alloc (.cells #[.int .i64 0, .slice none 0 0] 27)).alloc (.cells #[.int .i64 L, .slice none 0 0] 27)) = W3 := ⟨_, rfl⟩
  have hbW : Below w.heap.size w W3 := by rw [← hW3]; exact (((Below.refl _ _).alloc (Nat.le_refl _) _).alloc (by simp) _).alloc (by simp; omega) _
  have hsz : W3.heap.size = w.heap.size + 1 + 1 + 1 := by rw [← hW3]; simp
  have h1 : W3.heap[w.heap.size + 1]? = some (.cells #[.int .i64 0, .slice none 0 0] 27) := by
    rw [← hW3]
    have e := heap_alloc_new (w.alloc (.cells #[.int .i64 L, V] 24)) (.cells #[.int .i64 0, .slice none 0 0] 27)
    rw [World.size_alloc] at e
    rw [← e]
    exact ((Below.refl _ ((w.alloc (.cells #[.int .i64 L, V] 24)).alloc (.cells #[.int .i64 0, .slice none 0 0] 27))).alloc (Nat.le_refl _) _).block _ (by simp)
  have h2 : W3.heap[w.heap.size + 1 + 1]? = some (.cells #[.int .i64 L, .slice none 0 0] 27) := by
    rw [← hW3]
    have e := heap_alloc_new ((w.alloc (.cells #[.int .i64 L, V] 24)).alloc (.cells #[.int .i64 0, .slice none 0 0] 27)) (.cells #[.int .i64 L, .slice none 0 0] 27)
    rw [World.size_alloc, World.size_alloc] at e
    exact e
  rw [hW3]
  clear hW3
  refine (HC.out W3 hbW).mono ?_
  rintro e w3 ⟨rfl, ho3, hb3, hlt3⟩
  have k1 := (hb3.block (w.heap.size + 1) (by omega)).trans h1
  have k2 := (hb3.block (w.heap.size + 1 + 1) (by omega)).trans h2
  have HO3 := Lib.hid ho3
  have HB3 := Lib.hid (hbW.trans (hb3.mono hbW.size))
  clear ho3 hb3 hbW h1 h2 hlt3
  have c10 : w3.cell? ⟨w.heap.size + 1, 0, none⟩ = some (.int .i64 0) := by simp [World.cell?, k1]
  have c11 : w3.cell? ⟨w.heap.size + 1, 1, none⟩ = some (.slice none 0 0) := by simp [World.cell?, k1]
  have c20 : w3.cell? ⟨w.heap.size + 1 + 1, 0, none⟩ = some (.int .i64 L) := by simp [World.cell?, k2]
  have c21 : w3.cell? ⟨w.heap.size + 1 + 1, 1, none⟩ = some (.slice none 0 0) := by simp [World.cell?, k2]
  have f1 : ∀ j, w3.frozen? ⟨w.heap.size + 1, j, none⟩ = false := fun j => by simp [World.frozen?, k1]
  have f2 : ∀ j, w3.frozen? ⟨w.heap.size + 1 + 1, j, none⟩ = false := fun j => by simp [World.frozen?, k2]
  go_wp2
  generalize hv : Value.slice (some ⟨w.heap.size + 1 + 1 + 1, 0, none⟩) xs.length xs.length = v at *
  have m1 : (w3.setCell ⟨w.heap.size + 1 + 1, 1, none⟩ v).heap[w.heap.size + 1]? = some (.cells #[.int .i64 0, .slice none 0 0] 27) := by
    rw [heap_setCell_other _ _ _ _ (by simp)]; exact k1
  have m2 := heap_setCell_same (w3.setCell ⟨w.heap.size + 1 + 1, 1, none⟩ v) (w.heap.size + 1) 0 _ _ (.int .i64 L) m1
  have m3 := heap_setCell_same _ (w.heap.size + 1) 1 _ _ v m2
  refine bodyPost_ret (results_cell_row rfl _ _ (w.heap.size + 1) 27 #[.int .i64 L, v] (0, 0) _ rfl ?_ Tryd.underlying27 rfl (by kernel_rfl)) rfl ?_
  · rw [m3]; rfl
  · subst hv
    have ho := HO3.out
    rw [hsz] at ho
    have o1 := ownsRow_setCell_below ho (a := ⟨w.heap.size + 1 + 1, 1, none⟩) (by show w.heap.size + 1 + 1 < _; omega) (Value.slice (some ⟨w.heap.size + 1 + 1 + 1, 0, none⟩) xs.length xs.length)
    have o2 := ownsRow_setCell_below o1 (a := ⟨w.heap.size + 1, 0, none⟩) (by show w.heap.size + 1 < _; omega) (.int .i64 L)
    have o3 := ownsRow_setCell_below o2 (a := ⟨w.heap.size + 1, 1, none⟩) (by show w.heap.size + 1 < _; omega) (Value.slice (some ⟨w.heap.size + 1 + 1 + 1, 0, none⟩) xs.length xs.length)
    have b1 := HB3.out.setCell (p := ⟨w.heap.size + 1 + 1, 1, none⟩) (by show _ ≤ w.heap.size + 1 + 1; omega) (Value.slice (some ⟨w.heap.size + 1 + 1 + 1, 0, none⟩) xs.length xs.length)
    have b2 := b1.setCell (p := ⟨w.heap.size + 1, 0, none⟩) (by show _ ≤ w.heap.size + 1; omega) (.int .i64 L)
    have b3 := b2.setCell (p := ⟨w.heap.size + 1, 1, none⟩) (by show _ ≤ w.heap.size + 1; omega) (Value.slice (some ⟨w.heap.size + 1 + 1 + 1, 0, none⟩) xs.length xs.length)
    exact ⟨_, rfl, World.ownsRow.mono o3 (by omega), b3⟩

/-- Two equal shifts are found equal. -/
theorem same_shift (L : Int) (g1 c1 g2 c2 : Nat) (xs : List ByteArray) (hl : xs.length ≤ 1048576) (w : World) (h1 : StrsAt w g1 0 xs) (k1 : g1 < w.heap.size) (h2 : StrsAt w g2 0 xs) (k2 : g2 < w.heap.size) :
    Calls Tryd.prog 9 #[.agg #[.int .i64 L, .slice (some ⟨g1, 0, none⟩) xs.length c1], .agg #[.int .i64 L, .slice (some ⟨g2, 0, none⟩) xs.length c2]] w (TrueBelow w) := by
  have hb : Below w.heap.size w ((w.alloc (.cells #[.int .i64 L, .slice (some ⟨g1, 0, none⟩) xs.length c1] 27)).alloc (.cells #[.int .i64 L, .slice (some ⟨g2, 0, none⟩) xs.length c2] 27)) := ((Below.refl _ _).alloc (Nat.le_refl _) _).alloc (by simp) _
  have HE := Lib.hid (same_some g1 0 c1 g2 0 c2 xs (by omega) _ (h1.below hb k1) (h2.below hb k2))
  have HB := Lib.hid hb
  clear h1 h2 hb
  go_enter Tryd.func9, Tryd.ntmps9
  go_wp2_with fail
  refine HE.out.mono ?_
  rintro e w1 ⟨rfl, hb1⟩
  go_wp2
  go_ret
  exact ⟨rfl, HB.out.trans (hb1.mono HB.out.size)⟩
end Go.Proofs.YtalclebehbdliaaDoor
