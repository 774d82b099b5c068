/-
  The model's draws of chapter 1: whatever the bytes, a drawn integer is an int, a drawn text is short, and a text to be split comes with a byte; nothing that was there before is changed.
-/
import Derived.Test.YtjblpjdfnicjeaaDoorDrawPick
import Derived.Test.YtjblpjdfnicjeaaDoorFmt
namespace Go.Proofs.YtjblpjdfnicjeaaDoor
open Go Go.RowKit

theorem Cur.lt {B : Nat} {a : Option Addr} {n c g : Nat} {W0 w : World} (h : Cur B a n c g W0 w) : g < w.heap.size := by
  obtain ⟨_, _, _, i, x, _, h5⟩ := h
  exact lt_of_block h5
theorem getD_mem {α : Type} {l : List α} {k : Nat} {d : α} (h : k < l.length) : l.getD k d ∈ l := by
  simp only [List.getD, List.getElem?_eq_getElem h, Option.getD_some]
  exact List.getElem_mem h

def wholeList : List Int := [0, 1, -1, 9, 10, 999999, 1000000, 999999999999, 1000000000000, -999999999999, 9223372036854775807, -9223372036854775808]
theorem wholeList_bounds : ∀ z ∈ wholeList, -9223372036854775808 ≤ z ∧ z ≤ 9223372036854775807 := by decide

def WholePost (B : Nat) (a : Option Addr) (n c g : Nat) (W0 : World) (e : Ending) (w' : World) : Prop := ∃ z : Int, -9223372036854775808 ≤ z ∧ z ≤ 9223372036854775807 ∧ e = .returned (.int .i64 z) ∧ Cur B a n c g W0 w'

theorem pick_whole (B : Nat) (a : Option Addr) (n c g : Nat) (W0 w : World) (hcode : CodeAt W0 B a n) (hn : n ≤ 1048576) (hcur : Cur B a n c g W0 w) :
    Calls Tryd.prog 34 #[.pointer (some ⟨g, 0, none⟩), .slice (some ⟨w.heap.size, 0, none⟩) 12 12] (w.alloc (.cells #[.int .i64 0, .int .i64 1, .int .i64 (-1), .int .i64 9, .int .i64 10, .int .i64 999999, .int .i64 1000000, .int .i64 999999999999, .int .i64 1000000000000, .int .i64 (-999999999999), .int .i64 9223372036854775807, .int .i64 (-9223372036854775808)] 3)) (WholePost B a n c g W0) := by
  have h := l1PickInt w.heap.size 12 wholeList (by decide) (by decide) B a n c g W0 _ hcode hn (hcur.alloc _) (intsAt_new w wholeList 3) (by have := hcur.lt; omega)
  refine h.mono ?_
  rintro e w1 ⟨k, hk, rfl, hc, _⟩
  obtain ⟨z0, z1⟩ := wholeList_bounds _ (getD_mem (d := 0) hk)
  exact ⟨_, z0, z1, rfl, hc⟩

set_option maxRecDepth 100000 in
set_option maxHeartbeats 1600000 in
theorem l1Whole (B : Nat) (a : Option Addr) (n c g : Nat) (W0 w : World) (hcode : CodeAt W0 B a n) (hn : n ≤ 1048576) (hcur : Cur B a n c g W0 w) :
    Calls Tryd.prog 25 #[.pointer (some ⟨g, 0, none⟩)] w (WholePost B a n c g W0) := by
  have HP := Lib.hid (fun w => pick_whole B a n c g W0 w hcode hn)
  have H3 := Lib.hid (l1Below 3 (by decide) B a n c g W0 w hcode hn hcur)
  have HM := Lib.hid (fun w => l1Below 1000000 (by decide) B a n c g W0 w hcode hn)
  have H20 := Lib.hid (fun w => l1Below 20 (by decide) B a n c g W0 w hcode hn)
  clear hcode hcur
  go_enter Tryd.func25, Tryd.ntmps25
  go_wp2_with fail
  refine H3.out.mono ?_
  rintro e w1 ⟨x, x0, x1, rfl, hc1, _⟩
  have HC := Lib.hid hc1
  clear hc1
  by_cases h0 : x = 0
  · subst h0
    go_wp2_with fail
    refine (HP.out _ HC.out).mono ?_
    rintro e w2 ⟨z, z0, z1, rfl, hc2⟩
    go_wp2
    go_ret
    exact ⟨_, z0, z1, rfl, hc2⟩
  by_cases h1 : x = 1
  · subst h1
    go_wp2_with fail
    refine (HM.out _ HC.out).mono ?_
    rintro e w2 ⟨y, y0, y1, rfl, hc2, _⟩
    go_wp2
    go_ret
    exact ⟨_, by omega, by omega, rfl, hc2⟩
  · have g0 : (x == 0) = false := by simpa using h0
    have g1 : (x == 1) = false := by simpa using h1
    go_wp2_with fail
    refine (H20.out _ HC.out).mono ?_
    rintro e w2 ⟨y, y0, y1, rfl, hc2, _⟩
    go_wp2
    go_ret
    exact ⟨_, by omega, by omega, rfl, hc2⟩

def IntPost (W : World) (e : Ending) (w' : World) : Prop := ∃ z : Int, -9223372036854775808 ≤ z ∧ z ≤ 9223372036854775807 ∧ e = .returned (.int .i64 z) ∧ Below W.heap.size W w'

set_option maxRecDepth 100000 in
set_option maxHeartbeats 400000 in
theorem draw_int (a : Option Addr) (n c : Nat) (w : World) (hcode : CodeAt w w.heap.size a n) (hn : n ≤ 1048576) :
    Calls Tryd.prog 10 #[.slice a n c] w (IntPost w) := by
  have HN := Lib.hid (l1New w.heap.size a n c w w hcode hn (Below.refl _ _) (Nat.le_refl _))
  have HW := Lib.hid (fun g w' => l1Whole w.heap.size a n c g w w' hcode hn)
  clear hcode
  go_enter Tryd.func10, Tryd.ntmps10
  go_wp2_with fail
  refine HN.out.mono ?_
  rintro e w1 ⟨g, rfl, hc1, _⟩
  go_wp2_with fail
  refine (HW.out g _ hc1).mono ?_
  rintro e w2 ⟨z, z0, z1, rfl, hc2⟩
  go_wp2
  go_ret
  exact ⟨_, z0, z1, rfl, hc2.below⟩

def textList : List ByteArray := [⟨#[]⟩, ⟨#[48, 48]⟩, ⟨#[48, 49]⟩, ⟨#[45, 49]⟩, ⟨#[43, 49]⟩, ⟨#[120]⟩, ⟨#[57, 57, 57, 57, 57, 57]⟩, ⟨#[49, 48, 48, 48, 48, 48, 48]⟩, ⟨#[45, 48]⟩, ⟨#[45]⟩, ⟨#[32, 49]⟩, ⟨#[49, 32]⟩]
theorem textList_short : ∀ s ∈ textList, s.size ≤ 1000 := by decide

def TextPost (B : Nat) (W0 : World) (e : Ending) (w' : World) : Prop := ∃ s : ByteArray, s.size ≤ 1000 ∧ e = .returned (.string s) ∧ Below B W0 w'

theorem pick_text (B : Nat) (a : Option Addr) (n c g : Nat) (W0 w : World) (hcode : CodeAt W0 B a n) (hn : n ≤ 1048576) (hcur : Cur B a n c g W0 w) :
    Calls Tryd.prog 31 #[.pointer (some ⟨g, 0, none⟩), .slice (some ⟨w.heap.size, 0, none⟩) 12 12] (w.alloc (.cells #[.string ⟨#[]⟩, .string ⟨#[48, 48]⟩, .string ⟨#[48, 49]⟩, .string ⟨#[45, 49]⟩, .string ⟨#[43, 49]⟩, .string ⟨#[120]⟩, .string ⟨#[57, 57, 57, 57, 57, 57]⟩, .string ⟨#[49, 48, 48, 48, 48, 48, 48]⟩, .string ⟨#[45, 48]⟩, .string ⟨#[45]⟩, .string ⟨#[32, 49]⟩, .string ⟨#[49, 32]⟩] 9)) (TextPost B W0) := by
  have h := l1Pick w.heap.size 12 textList (by decide) (by decide) B a n c g W0 _ hcode hn (hcur.alloc _) (strsAt_new w textList 9) (by have := hcur.lt; omega)
  refine h.mono ?_
  rintro e w1 ⟨k, hk, rfl, hc, _⟩
  exact ⟨_, textList_short _ (getD_mem (d := ByteArray.empty) hk), rfl, hc.below⟩

theorem itoa_short (z : Int) (h0 : -9223372036854775808 ≤ z) (h1 : z ≤ 9223372036854775807) : (⟨(Lib.itoa z).toArray⟩ : ByteArray).size ≤ 1000 := by
  have := itoa_length_le (k := 19) (n := z) (by decide) (by omega)
  have e : (⟨(Lib.itoa z).toArray⟩ : ByteArray).size = (Lib.itoa z).length := rfl
  omega

set_option maxRecDepth 100000 in
set_option maxHeartbeats 400000 in
theorem draw_text (a : Option Addr) (n c : Nat) (W0 w : World) (hcode : CodeAt W0 W0.heap.size a n) (hn : n ≤ 1048576) (hb : Below W0.heap.size W0 w) :
    Calls Tryd.prog 14 #[.slice a n c] w (TextPost W0.heap.size W0) := by
  have HN := Lib.hid (l1New W0.heap.size a n c W0 w hcode hn hb hb.size)
  have HW := Lib.hid (fun g w' => l1Whole W0.heap.size a n c g W0 w' hcode hn)
  have HO := Lib.hid (fun g w' => l1Once 2 (by decide) W0.heap.size a n c g W0 w' hcode hn)
  have HP := Lib.hid (fun g w' => pick_text W0.heap.size a n c g W0 w' hcode hn)
  clear hcode
  go_enter Tryd.func14, Tryd.ntmps14
  go_wp2_with fail
  refine HN.out.mono ?_
  rintro e w1 ⟨g, rfl, hc1, _⟩
  go_wp2_with fail
  refine (HO.out g _ hc1).mono ?_
  rintro e w2 ⟨x, rfl, hc2, _⟩
  cases x
  · go_wp2_with fail
    refine (HP.out g _ hc2).mono ?_
    rintro e w3 ⟨s, hs, rfl, hb3⟩
    go_wp2
    go_ret
    exact ⟨_, hs, rfl, hb3⟩
  · go_wp2_with fail
    refine (HW.out g _ hc2).mono ?_
    rintro e w3 ⟨z, z0, z1, rfl, hc3⟩
    have HF := Lib.hid (spec_fmt z z0 z1 w3)
    go_wp2_with fail
    refine HF.out.mono ?_
    rintro e w4 ⟨rfl, hb4⟩
    go_wp2
    go_ret
    exact ⟨_, itoa_short z z0 z1, rfl, hc3.below.trans (hb4.mono hc3.2.1)⟩
end Go.Proofs.YtjblpjdfnicjeaaDoor
