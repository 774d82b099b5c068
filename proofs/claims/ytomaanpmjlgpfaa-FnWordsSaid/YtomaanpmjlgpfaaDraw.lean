/-
  The model's cursor over the bytes of a draw: whatever the bytes, it gives numbers from 0 to 255, and numbers below a given one; it changes its own block alone.
-/
import Derived.Test.YtomaanpmjlgpfaaRows
import Derived.WalkKit
import Derived.WalkSpells
import Derived.WalkLawsBesides
import Derived.Deep.QuietTactic
import Derived.BigQuiet
import Derived.Lib.Hide
namespace Go.Proofs.Ytomaanpmjlgpfaa
open Go Go.RowKit

theorem and255 (x : Int) : 0 ≤ bits .and .i64 x 255 ∧ bits .and .i64 x 255 ≤ 255 := by
  have h : (BitVec.ofInt IntKind.i64.bits x &&& BitVec.ofInt IntKind.i64.bits 255).toNat ≤ 255 := by
    rw [BitVec.toNat_and]
    exact Nat.le_trans Nat.and_le_right (by decide)
  simp only [bits]
  rw [IntKind.wrap_i64]
  omega

/-- The cursor in block g: its bytes, how many of them are read, a number. Below block B nothing has turned since W0. -/
def Cur (B : Nat) (a : Option Addr) (n c g : Nat) (W0 w : World) : Prop :=
  Below B W0 w ∧ B ≤ w.heap.size ∧ B ≤ g ∧ ∃ (i : Nat) (h : Int), i ≤ n ∧ w.heap[g]? = some (.cells #[.slice a n c, .int .i64 i, .int .i64 h] 88 (0, 0))
/-- The bytes, in W0, below block B. -/
def CodeAt (W0 : World) (B : Nat) (a : Option Addr) (n : Nat) : Prop := ∀ k, k < n → ∃ b off z, a = some ⟨b, off, none⟩ ∧ b < B ∧ 0 ≤ z ∧ z ≤ 255 ∧ W0.cell? ⟨b, off + k, none⟩ = some (.int .u8 z)

theorem Cur.alloc {B : Nat} {a : Option Addr} {n c g : Nat} {W0 w : World} (h : Cur B a n c g W0 w) (o : Obj) : Cur B a n c g W0 (w.alloc o) := by
  obtain ⟨h1, h2, h3, i, x, h4, h5⟩ := h
  refine ⟨h1.alloc h2 o, by simp; omega, h3, i, x, h4, ?_⟩
  rw [Below.heap_alloc w o g (lt_of_block h5)]; exact h5
theorem Cur.drewN {B : Nat} {a : Option Addr} {n c g : Nat} {W0 w : World} (h : Cur B a n c g W0 w) (q : Nat) : Cur B a n c g W0 (w.drewN q) := by
  obtain ⟨h1, h2, h3, i, x, h4, h5⟩ := h
  exact ⟨below_drewN h1 q, h2, h3, i, x, h4, h5⟩
theorem Cur.below {B : Nat} {a : Option Addr} {n c g : Nat} {W0 w : World} (h : Cur B a n c g W0 w) : Below B W0 w := h.1
/-- .. and other blocks of the call's own that lie behind. -/
theorem Cur.step {B : Nat} {a : Option Addr} {n c g : Nat} {W0 w w' : World} (h : Cur B a n c g W0 w) (hb : Below w.heap.size w w') : Cur B a n c g W0 w' := by
  obtain ⟨h1, h2, h3, i, x, h4, h5⟩ := h
  refine ⟨h1.trans (hb.mono h2), Nat.le_trans h2 hb.size, h3, i, x, h4, ?_⟩
  rw [hb.block g (lt_of_block h5)]; exact h5

/-- No block but g has turned; none is new. -/
def Only (g : Nat) (w w' : World) : Prop := w'.heap.size = w.heap.size ∧ ∀ k, k ≠ g → w'.heap[k]? = w.heap[k]?
theorem Only.refl (g : Nat) (w : World) : Only g w w := ⟨rfl, fun _ _ => rfl⟩
theorem Only.trans {g : Nat} {w w1 w2 : World} (h : Only g w w1) (k : Only g w1 w2) : Only g w w2 := ⟨k.1.trans h.1, fun b hb => (k.2 b hb).trans (h.2 b hb)⟩
theorem Only.setCell {g : Nat} {w w1 : World} (h : Only g w w1) (o : Nat) (v : Value) : Only g w (w1.setCell ⟨g, o, none⟩ v) :=
  ⟨by rw [World.size_setCell]; exact h.1, fun b hb => (heap_setCell_other w1 ⟨g, o, none⟩ b v hb).trans (h.2 b hb)⟩
theorem Only.drewN {g : Nat} {w w1 : World} (h : Only g w w1) (q : Nat) : Only g w (w1.drewN q) := h
theorem Only.cell {g : Nat} {w w1 : World} (h : Only g w w1) {p : Addr} (hp : p.block ≠ g) : w1.cell? p = w.cell? p := World.cell?_of_block (h.2 p.block hp)

def BytePost (m : Int) (B : Nat) (a : Option Addr) (n c g : Nat) (W0 w : World) (e : Ending) (w' : World) : Prop := ∃ x : Int, 0 ≤ x ∧ x ≤ m ∧ e = .returned (.int .i64 x) ∧ Cur B a n c g W0 w' ∧ Only g w w'

set_option maxRecDepth 100000 in
set_option maxHeartbeats 1600000 in
theorem l1Byte (B : Nat) (a : Option Addr) (n c g : Nat) (W0 w : World) (hcode : CodeAt W0 B a n) (hn : n ≤ 1048576) (hcur : Cur B a n c g W0 w) :
    Calls Try.prog 97 #[.pointer (some ⟨g, 0, none⟩)] w (BytePost 255 B a n c g W0 w) := by
  obtain ⟨h1, h2, h3, i, h, h4, h5⟩ := hcur
  have hc0 : w.cell? ⟨g, 0, none⟩ = some (.slice a n c) := by rw [cell_of_row w g 0 _ _ _ h5]; rfl
  have hc1 : w.cell? ⟨g, 1, none⟩ = some (.int .i64 i) := by rw [cell_of_row w g 1 _ _ _ h5]; rfl
  have hc2 : w.cell? ⟨g, 2, none⟩ = some (.int .i64 h) := by rw [cell_of_row w g 2 _ _ _ h5]; rfl
  have hf2 : w.frozen? ⟨g, 2, none⟩ = false := frozen_of_row w g 2 _ _ h5
  have hf1 : w.frozen? ⟨g, 1, none⟩ = false := frozen_of_row w g 1 _ _ h5
  have hs : ∀ v, (w.setCell ⟨g, 2, none⟩ v).heap[g]? = some (.cells #[.slice a n c, .int .i64 i, v] 88 (0, 0)) := fun v => heap_setCell_same w g 2 _ _ v h5
  have d0 : ∀ v, (w.setCell ⟨g, 2, none⟩ v).cell? ⟨g, 0, none⟩ = some (.slice a n c) := fun v => by rw [cell_of_row _ g 0 _ _ _ (hs v)]; rfl
  have d1 : ∀ v, (w.setCell ⟨g, 2, none⟩ v).cell? ⟨g, 1, none⟩ = some (.int .i64 i) := fun v => by rw [cell_of_row _ g 1 _ _ _ (hs v)]; rfl
  have d2 : ∀ v, (w.setCell ⟨g, 2, none⟩ v).cell? ⟨g, 2, none⟩ = some v := fun v => by rw [cell_of_row _ g 2 _ _ _ (hs v)]; rfl
  have HS := Lib.hid hs
  have H1 := Lib.hid h1
  clear hs h1 h5
  by_cases hlt : i < n
  · obtain ⟨b, off, z, rfl, hb, z0, z1, hz⟩ := hcode i hlt
    have hz' : ∀ v, (w.setCell ⟨g, 2, none⟩ v).cell? ⟨b, off + i, none⟩ = some (.int .u8 z) := by
      intro v
      rw [← hz]
      exact (H1.out.setCell (p := ⟨g, 2, none⟩) h3 v).cell (p := ⟨b, off + i, none⟩) hb
    clear hz hcode
    go_enter Try.func97, Try.ntmps97
    go_wp2
    go_quiet (fail)
    go_wp2
    go_quiet (fail)
    go_wp2
    go_quiet (fail)
    go_wp2
    go_ret
    refine ⟨_, (and255 _).1, (and255 _).2, rfl, ?_⟩
    have hx : ∀ v q, ((w.setCell ⟨g, 2, none⟩ v).drewN q).heap[g]? = some (.cells #[.slice (some ⟨b, off, none⟩) n c, .int .i64 i, v] 88 (0, 0)) := fun v q => HS.out v
    exact ⟨⟨(below_drewN (H1.out.setCell h3 _) _).setCell h3 _, by simpa using h2, h3, i + 1, _, by omega, (heap_setCell_same _ g 1 _ _ _ (hx _ _)).trans rfl⟩, (((Only.refl g w).setCell 2 _).drewN _).setCell 1 _⟩
  · have hle : (n : Int) ≤ (i : Int) := by omega
    clear hcode
    go_enter Try.func97, Try.ntmps97
    go_wp2
    go_quiet (fail)
    go_wp2
    go_quiet (fail)
    go_wp2
    go_ret
    exact ⟨_, (and255 _).1, (and255 _).2, rfl, ⟨below_drewN (below_drewN (H1.out.setCell (p := ⟨g, 2, none⟩) h3 _) _) _, by simpa using h2, h3, i, _, h4, HS.out _⟩, (((Only.refl g w).setCell 2 _).drewN _).drewN _⟩

/-- A number from 0 to n - 1; 0 where n is not above 0. -/
def BelowPost (m : Int) (B : Nat) (a : Option Addr) (n c g : Nat) (W0 w : World) (e : Ending) (w' : World) : Prop := ∃ x : Int, 0 ≤ x ∧ (x < m ∨ x = 0) ∧ e = .returned (.int .i64 x) ∧ Cur B a n c g W0 w' ∧ Only g w w'

set_option maxRecDepth 100000 in
set_option maxHeartbeats 1600000 in
theorem l1Below (m : Int) (hm : m ≤ 1000000000) (B : Nat) (a : Option Addr) (n c g : Nat) (W0 w : World) (hcode : CodeAt W0 B a n) (hn : n ≤ 1048576) (hcur : Cur B a n c g W0 w) :
    Calls Try.prog 64 #[.pointer (some ⟨g, 0, none⟩), .int .i64 m] w (BelowPost m B a n c g W0 w) := by
  have HB := Lib.hid (fun w => l1Byte B a n c g W0 w hcode hn)
  have HC := Lib.hid hcur
  clear hcode hcur
  by_cases h0 : m ≤ 0
  · go_enter Try.func64, Try.ntmps64
    go_wp2
    go_ret
    exact ⟨0, Int.le_refl _, Or.inr rfl, rfl, HC.out, Only.refl _ _⟩
  by_cases h1 : m ≤ 256
  · go_enter Try.func64, Try.ntmps64
    go_wp2_with fail
    refine (HB.out _ HC.out).mono ?_
    rintro e w1 ⟨x, x0, x1, rfl, hc1, ho1⟩
    go_wp2
    go_ret
    exact ⟨_, Int.emod_nonneg _ (by omega), Or.inl (Int.emod_lt_of_pos _ (by omega)), rfl, hc1, ho1⟩
  · go_enter Try.func64, Try.ntmps64
    go_wp2_with fail
    refine (HB.out _ HC.out).mono ?_
    rintro e w1 ⟨x, x0, x1, rfl, hc1, ho1⟩
    go_wp2_with fail
    refine (HB.out _ hc1).mono ?_
    rintro e w2 ⟨y, y0, y1, rfl, hc2, ho2⟩
    clear hc1
    go_wp2_with fail
    refine (HB.out _ hc2).mono ?_
    rintro e w3 ⟨z, z0, z1, rfl, hc3, ho3⟩
    clear hc2
    go_wp2_with fail
    refine (HB.out _ hc3).mono ?_
    rintro e w4 ⟨u, u0, u1, rfl, hc4, ho4⟩
    clear hc3
    go_wp2
    go_ret
    exact ⟨_, Int.emod_nonneg _ (by omega), Or.inl (Int.emod_lt_of_pos _ (by omega)), rfl, hc4, ((ho1.trans ho2).trans ho3).trans ho4⟩

def OncePost (B : Nat) (a : Option Addr) (n c g : Nat) (W0 w : World) (e : Ending) (w' : World) : Prop := ∃ x : Bool, e = .returned (.bool x) ∧ Cur B a n c g W0 w' ∧ Only g w w'

set_option maxRecDepth 100000 in
set_option maxHeartbeats 400000 in
theorem l1Once (m : Int) (hm : m ≤ 1000000000) (B : Nat) (a : Option Addr) (n c g : Nat) (W0 w : World) (hcode : CodeAt W0 B a n) (hn : n ≤ 1048576) (hcur : Cur B a n c g W0 w) :
    Calls Try.prog 66 #[.pointer (some ⟨g, 0, none⟩), .int .i64 m] w (OncePost B a n c g W0 w) := by
  have HB := Lib.hid (l1Below m hm B a n c g W0 w hcode hn hcur)
  clear hcode hcur
  go_enter Try.func66, Try.ntmps66
  go_wp2_with fail
  refine HB.out.mono ?_
  rintro e w1 ⟨x, x0, x1, rfl, hc1, ho1⟩
  go_wp2
  go_ret
  exact ⟨_, rfl, hc1, ho1⟩
end Go.Proofs.Ytomaanpmjlgpfaa
