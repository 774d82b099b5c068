/-
  The model's draw of a text to be split: whatever the bytes, a short text and a byte; nothing that was there before is changed.
-/
import Derived.Test.YtjblpjdfnicjeaaDoorDrawPick
namespace Go.Proofs.YtjblpjdfnicjeaaDoor
open Go Go.RowKit

theorem Cur.lt' {B : Nat} {a : Option Addr} {n c g : Nat} {W0 w : World} (h : Cur B a n c g W0 w) : g < w.heap.size := by
  obtain ⟨_, _, _, i, x, _, h5⟩ := h
  exact lt_of_block h5
theorem getD_mem' {α : Type} {l : List α} {k : Nat} {d : α} (h : k < l.length) : l.getD k d ∈ l := by
  simp only [List.getD, List.getElem?_eq_getElem h, Option.getD_some]
  exact List.getElem_mem h

def splitTexts : List ByteArray := [⟨#[]⟩, ⟨#[97]⟩, ⟨#[97, 44, 98]⟩, ⟨#[44]⟩, ⟨#[97, 44, 44, 98, 44]⟩, ⟨#[97, 10, 98, 10]⟩]
theorem splitTexts_short : ∀ s ∈ splitTexts, s.size ≤ 1000 := by decide
def splitBytes : List Int := [44, 10]
theorem splitBytes_in : ∀ z ∈ splitBytes, 0 ≤ z ∧ z ≤ 255 := by decide

def ShortPost (B : Nat) (a : Option Addr) (n c g : Nat) (W0 : World) (e : Ending) (w' : World) : Prop := ∃ s : ByteArray, s.size ≤ 1000 ∧ e = .returned (.string s) ∧ Cur B a n c g W0 w'
def BytesPost (B : Nat) (a : Option Addr) (n c g : Nat) (W0 : World) (e : Ending) (w' : World) : Prop := ∃ z : Int, 0 ≤ z ∧ z ≤ 255 ∧ e = .returned (.int .i64 z) ∧ Cur B a n c g W0 w'

theorem pick_split (B : Nat) (a : Option Addr) (n c g : Nat) (W0 w : World) (hcode : CodeAt W0 B a n) (hn : n ≤ 1048576) (hcur : Cur B a n c g W0 w) :
    Calls Tryd.prog 31 #[.pointer (some ⟨g, 0, none⟩), .slice (some ⟨w.heap.size, 0, none⟩) 6 6] (w.alloc (.cells #[.string ⟨#[]⟩, .string ⟨#[97]⟩, .string ⟨#[97, 44, 98]⟩, .string ⟨#[44]⟩, .string ⟨#[97, 44, 44, 98, 44]⟩, .string ⟨#[97, 10, 98, 10]⟩] 9)) (ShortPost B a n c g W0) := by
  have h := l1Pick w.heap.size 6 splitTexts (by decide) (by decide) B a n c g W0 _ hcode hn (hcur.alloc _) (strsAt_new w splitTexts 9) (by have := hcur.lt'; omega)
  refine h.mono ?_
  rintro e w1 ⟨k, hk, rfl, hc, _⟩
  exact ⟨_, splitTexts_short _ (getD_mem' (d := ByteArray.empty) hk), rfl, hc⟩
theorem pick_by (B : Nat) (a : Option Addr) (n c g : Nat) (W0 w : World) (hcode : CodeAt W0 B a n) (hn : n ≤ 1048576) (hcur : Cur B a n c g W0 w) :
    Calls Tryd.prog 34 #[.pointer (some ⟨g, 0, none⟩), .slice (some ⟨w.heap.size, 0, none⟩) 2 2] (w.alloc (.cells #[.int .i64 44, .int .i64 10] 3)) (BytesPost B a n c g W0) := by
  have h := l1PickInt w.heap.size 2 splitBytes (by decide) (by decide) B a n c g W0 _ hcode hn (hcur.alloc _) (intsAt_new w splitBytes 3) (by have := hcur.lt'; omega)
  refine h.mono ?_
  rintro e w1 ⟨k, hk, rfl, hc, _⟩
  obtain ⟨z0, z1⟩ := splitBytes_in _ (getD_mem' (d := 0) hk)
  exact ⟨_, z0, z1, rfl, hc⟩

def SplitDrawn (W : World) (e : Ending) (w' : World) : Prop := ∃ (s : ByteArray) (c : UInt8), s.size ≤ 1000 ∧ e = .returned (.tuple #[.string s, .int .u8 (c.toNat : Int)]) ∧ Below W.heap.size W w'

set_option maxRecDepth 100000 in
set_option maxHeartbeats 800000 in
theorem draw_split (a : Option Addr) (n c : Nat) (w : World) (hcode : CodeAt w w.heap.size a n) (hn : n ≤ 1048576) :
    Calls Tryd.prog 17 #[.slice a n c] w (SplitDrawn w) := by
  have HN := Lib.hid (l1New w.heap.size a n c w w hcode hn (Below.refl _ _) (Nat.le_refl _))
  have HP := Lib.hid (fun g w' => pick_split w.heap.size a n c g w w' hcode hn)
  have HB := Lib.hid (fun g w' => pick_by w.heap.size a n c g w w' hcode hn)
  clear hcode
  go_enter Tryd.func17, Tryd.ntmps17
  go_wp2_with fail
  refine HN.out.mono ?_
  rintro e w1 ⟨g, rfl, hc1, _⟩
  go_wp2_with fail
  refine (HP.out g _ hc1).mono ?_
  rintro e w2 ⟨s, hs, rfl, hc2⟩
  go_wp2_with fail
  refine (HB.out g _ hc2).mono ?_
  rintro e w3 ⟨z, z0, z1, rfl, hc3⟩
  go_wp2
  go_ret2
  refine ⟨s, UInt8.ofNat z.toNat, hs, ?_, hc3.below⟩
  have e : ((UInt8.ofNat z.toNat).toNat : Int) = z := by rw [UInt8.toNat_ofNat', Nat.mod_eq_of_lt (by omega)]; omega
  rw [e]
  rfl
end Go.Proofs.YtjblpjdfnicjeaaDoor
