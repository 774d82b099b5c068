/-
  A pick out of a list of strings, or of ints, that lies in a block of its own, gives one of its elements.
-/
import Derived.Test.YtomaanpmjlgpfaaDrawNew
namespace Go.Proofs.Ytomaanpmjlgpfaa
open Go Go.RowKit

/-- A list of strings in a new block. -/
theorem strsAt_new (w : World) (xs : List ByteArray) (t : TypeId) : StrsAt (w.alloc (.cells (xs.map Value.string).toArray t)) w.heap.size 0 xs := by
  intro k hk
  rw [Nat.zero_add, World.cell?_alloc_mark]
  simp [List.getD, List.getElem?_eq_getElem hk]
/-- From ⟨b, 0⟩ on the cells hold the ints zs. -/
def NumsAt (w : World) (b : Nat) (zs : List Int) : Prop := ∀ k, k < zs.length → w.cell? ⟨b, k, none⟩ = some (.int .i64 (zs.getD k 0))
theorem intsAt_new (w : World) (zs : List Int) (t : TypeId) : NumsAt (w.alloc (.cells (zs.map (Value.int .i64)).toArray t)) w.heap.size zs := by
  intro k hk
  rw [World.cell?_alloc_mark]
  simp [List.getD, List.getElem?_eq_getElem hk]

def PickPost (xs : List ByteArray) (B : Nat) (a : Option Addr) (n c g : Nat) (W0 w : World) (e : Ending) (w' : World) : Prop := ∃ k, k < xs.length ∧ e = .returned (.string (xs.getD k ByteArray.empty)) ∧ Cur B a n c g W0 w' ∧ Only g w w'

set_option maxRecDepth 100000 in
set_option maxHeartbeats 400000 in
theorem l1Pick (b d : Nat) (xs : List ByteArray) (hx0 : 0 < xs.length) (hx : xs.length ≤ 1000000) (B : Nat) (a : Option Addr) (n c g : Nat) (W0 w : World) (hcode : CodeAt W0 B a n) (hn : n ≤ 1048576) (hcur : Cur B a n c g W0 w) (hst : StrsAt w b 0 xs) (hbg : b ≠ g) :
    Calls Try.prog 101 #[.pointer (some ⟨g, 0, none⟩), .slice (some ⟨b, 0, none⟩) xs.length d] w (PickPost xs B a n c g W0 w) := by
  have HB := Lib.hid (l1Below xs.length (by omega) B a n c g W0 w hcode hn hcur)
  have HS := Lib.hid hst
  clear hcode hcur hst
  go_enter Try.func101, Try.ntmps101
  go_wp2_with fail
  refine HB.out.mono ?_
  rintro e w1 ⟨x, x0, x1, rfl, hc1, ho1⟩
  obtain ⟨k, rfl⟩ := Int.eq_ofNat_of_zero_le x0
  have hk : k < xs.length := by omega
  have hcell : w1.cell? ⟨b, k, none⟩ = some (.string (xs.getD k ByteArray.empty)) := by
    rw [ho1.cell (p := ⟨b, k, none⟩) hbg, ← HS.out k hk, Nat.zero_add]
  have HX : Hid (∃ x, xs.getD k ByteArray.empty = x) := ⟨_, rfl⟩
  obtain ⟨s, hs⟩ := HX.out
  rw [hs] at hcell
  have HE := Lib.hid hs
  clear hs
  go_wp2
  go_ret
  exact ⟨k, hk, by rw [HE.out]; rfl, hc1, ho1⟩

def PickIntPost (zs : List Int) (B : Nat) (a : Option Addr) (n c g : Nat) (W0 w : World) (e : Ending) (w' : World) : Prop := ∃ k, k < zs.length ∧ e = .returned (.int .i64 (zs.getD k 0)) ∧ Cur B a n c g W0 w' ∧ Only g w w'

set_option maxRecDepth 100000 in
set_option maxHeartbeats 400000 in
theorem l1PickInt (b d : Nat) (zs : List Int) (hx0 : 0 < zs.length) (hx : zs.length ≤ 1000000) (B : Nat) (a : Option Addr) (n c g : Nat) (W0 w : World) (hcode : CodeAt W0 B a n) (hn : n ≤ 1048576) (hcur : Cur B a n c g W0 w) (hst : NumsAt w b zs) (hbg : b ≠ g) :
    Calls Try.prog 63 #[.pointer (some ⟨g, 0, none⟩), .slice (some ⟨b, 0, none⟩) zs.length d] w (PickIntPost zs B a n c g W0 w) := by
  have HB := Lib.hid (l1Below zs.length (by omega) B a n c g W0 w hcode hn hcur)
  have HS := Lib.hid hst
  clear hcode hcur hst
  go_enter Try.func63, Try.ntmps63
  go_wp2_with fail
  refine HB.out.mono ?_
  rintro e w1 ⟨x, x0, x1, rfl, hc1, ho1⟩
  obtain ⟨k, rfl⟩ := Int.eq_ofNat_of_zero_le x0
  have hk : k < zs.length := by omega
  have hcell : w1.cell? ⟨b, k, none⟩ = some (.int .i64 (zs.getD k 0)) := by
    rw [ho1.cell (p := ⟨b, k, none⟩) hbg, ← HS.out k hk]
  have HX : Hid (∃ x, zs.getD k 0 = x) := ⟨_, rfl⟩
  obtain ⟨s, hs⟩ := HX.out
  rw [hs] at hcell
  have HE := Lib.hid hs
  clear hs
  go_wp2
  go_ret
  exact ⟨k, hk, by rw [HE.out]; rfl, hc1, ho1⟩
end Go.Proofs.Ytomaanpmjlgpfaa
