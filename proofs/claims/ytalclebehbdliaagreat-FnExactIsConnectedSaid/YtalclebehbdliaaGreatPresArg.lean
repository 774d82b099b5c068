/-
  A slice of strings that came in as a shift's words, whatever room the law has left; szShift of it.
-/
import Derived.Test.YtalclebehbdliaaGreatLangTexts
namespace Go.Proofs.YtalclebehbdliaaGreat
open Go Go.RowKit

def SliceArgQ (W : World) (V : Value) (xs : List ByteArray) : Prop :=
  (∀ q : Int, 0 ≤ q → q ≤ 1048576 → ∀ w', Below W.heap.size W w' → Calls Tryz.prog 72 #[V, .int .i64 q] w' (SzPost q xs w')) ∧
  (xs.length ≤ 1048576 → ∀ w', Below W.heap.size W w' → Calls Tryz.prog 73 #[V] w' (CopyPost xs w'))
theorem SliceArgQ.arg {W : World} {V : Value} {xs : List ByteArray} (h : SliceArgQ W V xs) : SliceArg W V xs := ⟨h.1 1048576 (by decide) (by decide), h.2⟩
theorem SliceArgQ.later {W W' : World} {V : Value} {xs : List ByteArray} (h : SliceArgQ W V xs) (hb : Below W.heap.size W W') : SliceArgQ W' V xs :=
  ⟨fun q h0 h1 w' hw => h.1 q h0 h1 w' (hb.trans (hw.mono hb.size)), fun hl w' hw => h.2 hl w' (hb.trans (hw.mono hb.size))⟩
theorem sliceArgQ_none (a : Option Addr) (c : Nat) (W : World) : SliceArgQ W (.slice a 0 c) [] :=
  ⟨fun q h0 h1 w' _ => sz_none a c q h0 (by omega) w', fun _ w' _ => copy_none a c w'⟩
theorem sliceArgQ_some (b off c : Nat) (xs : List ByteArray) (hn : xs.length ≤ 9223372036854775807) (hz : ∀ k, k < xs.length → (xs.getD k ByteArray.empty).size ≤ 9223372036854775807) (W : World) (hs : StrsAt W b off xs) (hb : b < W.heap.size) :
    SliceArgQ W (.slice (some ⟨b, off, none⟩) xs.length c) xs :=
  ⟨fun q h0 h1 w' h => sz_some b off c xs q h0 (by omega) hn hz w' (hs.below h hb),
   fun hl w' h => copy_some b off c xs (by omega) w' (hs.below h hb) (Nat.lt_of_lt_of_le hb h.size)⟩
def SzShiftPostQ (q : Int) (xs : List ByteArray) (w : World) (e : Ending) (w' : World) : Prop := ∃ r : Int, e = .returned (.int .i64 r) ∧ (r = -1 ∨ (0 ≤ r ∧ r ≤ q ∧ (xs.length : Int) + total xs ≤ q)) ∧ Below w.heap.size w w'

set_option maxRecDepth 100000 in
theorem sz_shiftQ (L : Int) (V : Value) (xs : List ByteArray) (q : Int) (q0 : 0 ≤ q) (q1 : q ≤ 1048576) (w : World) (h : SliceArgQ w V xs) :
    Calls Tryz.prog 29 #[.agg #[.int .i64 L, V], .int .i64 q] w (SzShiftPostQ q xs w) := by
  have HS := Lib.hid (h.1 q q0 q1 (w.alloc (.cells #[.int .i64 L, V] 47)) ((Below.refl _ _).alloc (Nat.le_refl _) _))
  clear h
  go_enter Tryz.func29, Tryz.ntmps29
  go_wp2_with fail
  refine HS.out.mono ?_
  rintro e w1 ⟨r, rfl, hr, rfl⟩
  rcases hr with rfl | ⟨hr0, hr1⟩
  · go_wp2
    go_ret
    exact ⟨-1, rfl, Or.inl rfl, (Below.refl _ _).alloc (Nat.le_refl _) _⟩
  · go_wp2
    go_ret
    exact ⟨r, rfl, Or.inr ⟨hr0, by omega, by omega⟩, (Below.refl _ _).alloc (Nat.le_refl _) _⟩
end Go.Proofs.YtalclebehbdliaaGreat
