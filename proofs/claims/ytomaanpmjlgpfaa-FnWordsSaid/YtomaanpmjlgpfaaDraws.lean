/-
  The draws of the law on words: whatever the bytes, short strings and ints; nothing that was there before is changed.
-/
import Derived.Test.YtomaanpmjlgpfaaDrawWord
namespace Go.Proofs.Ytomaanpmjlgpfaa
open Go Go.RowKit

/-- What a draw hands on: values that meet Q; nothing that was there has turned. -/
def StrDrawn (W : World) (e : Ending) (w' : World) : Prop := ∃ s : ByteArray, s.size ≤ 100 ∧ e = .returned (.string s) ∧ Below W.heap.size W w'
def StrIntDrawn (W : World) (e : Ending) (w' : World) : Prop := ∃ (s : ByteArray) (x : Int), s.size ≤ 100 ∧ e = .returned (.tuple #[.string s, .int .i64 x]) ∧ Below W.heap.size W w'
def IntIntDrawn (W : World) (e : Ending) (w' : World) : Prop := ∃ x y : Int, e = .returned (.tuple #[.int .i64 x, .int .i64 y]) ∧ Below W.heap.size W w'
def StrStrDrawn (W : World) (e : Ending) (w' : World) : Prop := ∃ s p : ByteArray, s.size ≤ 100 ∧ p.size ≤ 100 ∧ e = .returned (.tuple #[.string s, .string p]) ∧ Below W.heap.size W w'
def IntStrDrawn (W : World) (e : Ending) (w' : World) : Prop := ∃ (x : Int) (s : ByteArray), s.size ≤ 100 ∧ e = .returned (.tuple #[.int .i64 x, .string s]) ∧ Below W.heap.size W w'

theorem draw_root (a : Option Addr) (n c : Nat) (w : World) (hcode : CodeAt w w.heap.size a n) (hn : n ≤ 1048576) :
    Calls Try.prog 16 #[.slice a n c] w (StrDrawn w) := by
  have HN := Lib.hid (l1New w.heap.size a n c w w hcode hn (Below.refl _ _) (Nat.le_refl _))
  have HB := Lib.hid (fun g w' => draw_bent w.heap.size a n c g w w' hcode hn)
  clear hcode
  go_enter Try.func16, Try.ntmps16
  go_wp2_with fail
  refine HN.out.mono ?_
  rintro e w1 ⟨g, rfl, hc1, _⟩
  go_wp2_with fail
  refine (HB.out g w1 hc1).mono ?_
  rintro e w2 ⟨s, hs, rfl, hc2⟩
  go_wp2
  go_ret
  exact ⟨s, hs, rfl, hc2.below⟩

theorem turn_ints (B : Nat) (a : Option Addr) (n c g : Nat) (W0 w : World) (hcode : CodeAt W0 B a n) (hn : n ≤ 1048576) (hcur : Cur B a n c g W0 w) :
    Calls Try.prog 63 #[.pointer (some ⟨g, 0, none⟩), .slice (some ⟨w.heap.size, 0, none⟩) 9 9] (w.alloc (.cells #[.int .i64 0, .int .i64 1, .int .i64 2, .int .i64 5, .int .i64 (-1), .int .i64 (-3), .int .i64 17, .int .i64 9223372036854775807, .int .i64 (-9223372036854775808)] 3)) (fun e w' => ∃ x : Int, e = .returned (.int .i64 x) ∧ Cur B a n c g W0 w') := by
  have h := l1PickInt w.heap.size 9 [0, 1, 2, 5, -1, -3, 17, 9223372036854775807, -9223372036854775808] (by decide) (by decide) B a n c g W0 _ hcode hn (hcur.alloc _) (intsAt_new w [0, 1, 2, 5, -1, -3, 17, 9223372036854775807, -9223372036854775808] 3) (by have := hcur.lt'; omega)
  refine h.mono ?_
  rintro e w1 ⟨k, _, rfl, hc, _⟩
  exact ⟨_, rfl, hc⟩

set_option maxRecDepth 100000 in
theorem draw_turn (a : Option Addr) (n c : Nat) (w : World) (hcode : CodeAt w w.heap.size a n) (hn : n ≤ 1048576) :
    Calls Try.prog 19 #[.slice a n c] w (StrIntDrawn w) := by
  have HN := Lib.hid (l1New w.heap.size a n c w w hcode hn (Below.refl _ _) (Nat.le_refl _))
  have HB := Lib.hid (fun g w' => draw_bent w.heap.size a n c g w w' hcode hn)
  have HI := Lib.hid (fun g w' => turn_ints w.heap.size a n c g w w' hcode hn)
  clear hcode
  go_enter Try.func19, Try.ntmps19
  go_wp2_with fail
  refine HN.out.mono ?_
  rintro e w1 ⟨g, rfl, hc1, _⟩
  go_wp2_with fail
  refine (HB.out g w1 hc1).mono ?_
  rintro e w2 ⟨s, hs, rfl, hc2⟩
  go_wp2_with fail
  refine (HI.out g w2 hc2).mono ?_
  rintro e w3 ⟨x, rfl, hc3⟩
  go_wp2
  go_ret2
  exact ⟨s, x, hs, rfl, hc3.below⟩

set_option maxRecDepth 100000 in
theorem draw_factors (a : Option Addr) (n c : Nat) (w : World) (hcode : CodeAt w w.heap.size a n) (hn : n ≤ 1048576) :
    Calls Try.prog 21 #[.slice a n c] w (StrIntDrawn w) := by
  have HN := Lib.hid (l1New w.heap.size a n c w w hcode hn (Below.refl _ _) (Nat.le_refl _))
  have HB := Lib.hid (fun g w' => draw_bent w.heap.size a n c g w w' hcode hn)
  have HD := Lib.hid (fun g w' => draw_draw 2 3 (by decide) (by decide) (by decide) w.heap.size a n c g w w' hcode hn)
  have H5 := Lib.hid (fun g w' => l1Below 5 (by decide) w.heap.size a n c g w w' hcode hn)
  have H6 := Lib.hid (fun g w' => l1Below 6 (by decide) w.heap.size a n c g w w' hcode hn)
  have HO := Lib.hid (fun g w' => l1Once 12 (by decide) w.heap.size a n c g w w' hcode hn)
  have HT := Lib.hid draw_bit
  clear hcode HD H5
  go_enter Try.func21, Try.ntmps21
  go_wp2_with fail
  refine HN.out.mono ?_
  rintro e w1 ⟨g, rfl, hc1, _⟩
  go_wp2_with fail
  refine (HB.out g _ hc1).mono ?_
  rintro e w2 ⟨s, hs, rfl, hc2⟩
  go_wp2_with fail
  refine (H6.out g _ hc2).mono ?_
  rintro e w3 ⟨x, x0, x1, rfl, hc3, _⟩
  go_wp2_with fail
  refine (HO.out g _ hc3).mono ?_
  rintro e w4 ⟨b, rfl, hc4, _⟩
  go_wp2_with fail
  refine (HT.out _ _).mono ?_
  rintro e w5 ⟨y, y0, y1, rfl, rfl⟩
  go_wp2
  go_ret2
  exact ⟨s, _, hs, rfl, hc4.below⟩

set_option maxRecDepth 100000 in
theorem draw_words (a : Option Addr) (n c : Nat) (w : World) (hcode : CodeAt w w.heap.size a n) (hn : n ≤ 1048576) :
    Calls Try.prog 23 #[.slice a n c] w (IntIntDrawn w) := by
  have HN := Lib.hid (l1New w.heap.size a n c w w hcode hn (Below.refl _ _) (Nat.le_refl _))
  have HB := Lib.hid (fun g w' => draw_bent w.heap.size a n c g w w' hcode hn)
  have HD := Lib.hid (fun g w' => draw_draw 2 3 (by decide) (by decide) (by decide) w.heap.size a n c g w w' hcode hn)
  have H5 := Lib.hid (fun g w' => l1Below 5 (by decide) w.heap.size a n c g w w' hcode hn)
  have H6 := Lib.hid (fun g w' => l1Below 6 (by decide) w.heap.size a n c g w w' hcode hn)
  have HO := Lib.hid (fun g w' => l1Once 12 (by decide) w.heap.size a n c g w w' hcode hn)
  have HT := Lib.hid draw_bit
  clear hcode HD HB
  go_enter Try.func23, Try.ntmps23
  go_wp2_with fail
  refine HN.out.mono ?_
  rintro e w1 ⟨g, rfl, hc1, _⟩
  go_wp2_with fail
  refine (H5.out g _ hc1).mono ?_
  rintro e w2 ⟨z, z0, z1, rfl, hc2, _⟩
  go_wp2_with fail
  refine (H6.out g _ hc2).mono ?_
  rintro e w3 ⟨x, x0, x1, rfl, hc3, _⟩
  go_wp2_with fail
  refine (HO.out g _ hc3).mono ?_
  rintro e w4 ⟨b, rfl, hc4, _⟩
  go_wp2_with fail
  refine (HT.out _ _).mono ?_
  rintro e w5 ⟨y, y0, y1, rfl, rfl⟩
  go_wp2
  go_ret2
  exact ⟨z, _, rfl, hc4.below⟩

set_option maxRecDepth 100000 in
theorem draw_occurs (a : Option Addr) (n c : Nat) (w : World) (hcode : CodeAt w w.heap.size a n) (hn : n ≤ 1048576) :
    Calls Try.prog 25 #[.slice a n c] w (StrStrDrawn w) := by
  have HN := Lib.hid (l1New w.heap.size a n c w w hcode hn (Below.refl _ _) (Nat.le_refl _))
  have HB := Lib.hid (fun g w' => draw_bent w.heap.size a n c g w w' hcode hn)
  have HD := Lib.hid (fun g w' => draw_draw 2 3 (by decide) (by decide) (by decide) w.heap.size a n c g w w' hcode hn)
  have H5 := Lib.hid (fun g w' => l1Below 5 (by decide) w.heap.size a n c g w w' hcode hn)
  have H6 := Lib.hid (fun g w' => l1Below 6 (by decide) w.heap.size a n c g w w' hcode hn)
  have HO := Lib.hid (fun g w' => l1Once 12 (by decide) w.heap.size a n c g w w' hcode hn)
  have HT := Lib.hid draw_bit
  clear hcode H5 H6 HO HT
  go_enter Try.func25, Try.ntmps25
  go_wp2_with fail
  refine HN.out.mono ?_
  rintro e w1 ⟨g, rfl, hc1, _⟩
  go_wp2_with fail
  refine (HB.out g _ hc1).mono ?_
  rintro e w2 ⟨s, hs, rfl, hc2⟩
  go_wp2_with fail
  refine (HD.out g _ hc2).mono ?_
  rintro e w3 ⟨p, hp, rfl, hc3⟩
  go_wp2
  go_ret2
  exact ⟨s, p, hs, by omega, rfl, hc3.below⟩

set_option maxRecDepth 100000 in
theorem draw_isWord (a : Option Addr) (n c : Nat) (w : World) (hcode : CodeAt w w.heap.size a n) (hn : n ≤ 1048576) :
    Calls Try.prog 26 #[.slice a n c] w (IntStrDrawn w) := by
  have HN := Lib.hid (l1New w.heap.size a n c w w hcode hn (Below.refl _ _) (Nat.le_refl _))
  have HB := Lib.hid (fun g w' => draw_bent w.heap.size a n c g w w' hcode hn)
  have HD := Lib.hid (fun g w' => draw_draw 2 3 (by decide) (by decide) (by decide) w.heap.size a n c g w w' hcode hn)
  have H5 := Lib.hid (fun g w' => l1Below 5 (by decide) w.heap.size a n c g w w' hcode hn)
  have H6 := Lib.hid (fun g w' => l1Below 6 (by decide) w.heap.size a n c g w w' hcode hn)
  have HO := Lib.hid (fun g w' => l1Once 12 (by decide) w.heap.size a n c g w w' hcode hn)
  have HT := Lib.hid draw_bit
  clear hcode HD H6 HO HT
  go_enter Try.func26, Try.ntmps26
  go_wp2_with fail
  refine HN.out.mono ?_
  rintro e w1 ⟨g, rfl, hc1, _⟩
  go_wp2_with fail
  refine (H5.out g _ hc1).mono ?_
  rintro e w2 ⟨z, z0, z1, rfl, hc2, _⟩
  go_wp2_with fail
  refine (HB.out g _ hc2).mono ?_
  rintro e w3 ⟨s, hs, rfl, hc3⟩
  go_wp2
  go_ret2
  exact ⟨z, s, hs, rfl, hc3.below⟩
end Go.Proofs.Ytomaanpmjlgpfaa
