/-
  Merged: The laws' own comparisons: of two lists of ints that are alike, of two tables that are alike.
  The laws' test of a draw's size: it tells whether there are more than 2^20 bytes; nothing is changed.
  The model's cursor over the bytes of a draw: whatever the bytes, it gives numbers from 0 to 255, and numbers below a given one; it changes its own block alone.
  The model's cursor is made in a new block, whatever the bytes; a pick out of a list of strings or ints that lies in a block of its own gives one of its elements.
  A pick out of a list of strings, or of ints, that lies in a block of its own, gives one of its elements.
  PLAIN FACTS ON READING A NUMERAL (no program in this text): a sign, then digits; what is read is the integer whose numeral the bytes are, or nothing.
  The model's reading of a numeral (l1Read, ParseInt, ParseNumber): at every string it returns the integer between the limits whose numeral the string is, and true; else 0 and false; nothing that was there before is changed.
  PLAIN FACTS ON SPLITTING AT A BYTE (no program in this text): a string is cut at the first byte c; where there is none it stays whole; the pieces are one more than c occurs, none longer than the string, none contains c; joined at c they give the string.
  The model's SplitByte: at every string of at most 2^20 bytes and every byte it returns the pieces in new memory; nothing that was there before is changed.
-/
import Derived.Test.YtanelokploifhaaDoorBaseTexts
import Derived.Test.YtanelokploifhaaDoorRows
import Derived.WalkKit
import Derived.WalkSpells
import Derived.WalkLawsBesides
import Derived.Deep.QuietTactic
import Derived.BigQuiet
import Derived.Lib.Hide
import Derived.Test.YtanelokploifhaaDoorWordTexts
import Derived.Lib.IndexBytes
import Derived.Lib.SplitLaws
namespace Go.Proofs.YtanelokploifhaaDoor
open Go Go.RowKit

end Go.Proofs.YtanelokploifhaaDoor
namespace Go.Proofs.YtanelokploifhaaDoor
open Go Go.RowKit

theorem big_is (a : Option Addr) (n c : Nat) (b : Bool) (hb : b = decide (1048576 < n)) (w : World) :
    Calls Tryd.prog 5 #[.slice a n c] w fun e w' => e = .returned (.bool b) ∧ w = w' := by
  have hd : b = decide ((1048576 : Int) < (n : Int)) := by rw [hb]; exact decide_eq_decide.2 (by omega)
  clear hb
  have H : RowKit.Hid (b = decide ((1048576 : Int) < (n : Int))) := hd
  clear hd
  go_enter Tryd.func5, Tryd.ntmps5
  go_wp2
  go_ret
  exact ⟨by rw [H.out]; rfl, rfl⟩
end Go.Proofs.YtanelokploifhaaDoor
namespace Go.Proofs.YtanelokploifhaaDoor
open Go Go.RowKit

theorem and255 (x : Int) : 0 ≤ bits .and .i64 x 255 ∧ bits .and .i64 x 255 ≤ 255 := by
  have h : (BitVec.ofInt IntKind.i64.bits x &&& BitVec.ofInt IntKind.i64.bits 255).toNat ≤ 255 := by
    rw [BitVec.toNat_and]
    exact Nat.le_trans Nat.and_le_right (by decide)
  simp only [bits]
  rw [IntKind.wrap_i64]
  omega

/-- The cursor in block g: its bytes, how many of them are read, a number. Below block B nothing has turned since W0. -/
def Cur (B : Nat) (a : Option Addr) (n c g : Nat) (W0 w : World) : Prop :=
  Below B W0 w ∧ B ≤ w.heap.size ∧ B ≤ g ∧ ∃ (i : Nat) (h : Int), i ≤ n ∧ w.heap[g]? = some (.cells #[.slice a n c, .int .i64 i, .int .i64 h] 69 (0, 0))
/-- The bytes, in W0, below block B. -/
def CodeAt (W0 : World) (B : Nat) (a : Option Addr) (n : Nat) : Prop := ∀ k, k < n → ∃ b off z, a = some ⟨b, off, none⟩ ∧ b < B ∧ 0 ≤ z ∧ z ≤ 255 ∧ W0.cell? ⟨b, off + k, none⟩ = some (.int .u8 z)

theorem Cur.alloc {B : Nat} {a : Option Addr} {n c g : Nat} {W0 w : World} (h : Cur B a n c g W0 w) (o : Obj) : Cur B a n c g W0 (w.alloc o) := by
  obtain ⟨h1, h2, h3, i, x, h4, h5⟩ := h
  refine ⟨h1.alloc h2 o, by simp; omega, h3, i, x, h4, ?_⟩
  rw [Below.heap_alloc w o g (lt_of_block h5)]; exact h5
theorem Cur.drewN {B : Nat} {a : Option Addr} {n c g : Nat} {W0 w : World} (h : Cur B a n c g W0 w) (q : Nat) : Cur B a n c g W0 (w.drewN q) := by
  obtain ⟨h1, h2, h3, i, x, h4, h5⟩ := h
  exact ⟨below_drewN h1 q, h2, h3, i, x, h4, h5⟩
theorem Cur.below {B : Nat} {a : Option Addr} {n c g : Nat} {W0 w : World} (h : Cur B a n c g W0 w) : Below B W0 w := h.1
/-- .. and other blocks of the call's own that lie behind. -/
theorem Cur.step {B : Nat} {a : Option Addr} {n c g : Nat} {W0 w w' : World} (h : Cur B a n c g W0 w) (hb : Below w.heap.size w w') : Cur B a n c g W0 w' := by
  obtain ⟨h1, h2, h3, i, x, h4, h5⟩ := h
  refine ⟨h1.trans (hb.mono h2), Nat.le_trans h2 hb.size, h3, i, x, h4, ?_⟩
  rw [hb.block g (lt_of_block h5)]; exact h5

/-- No block but g has turned; none is new. -/
def Only (g : Nat) (w w' : World) : Prop := w'.heap.size = w.heap.size ∧ ∀ k, k ≠ g → w'.heap[k]? = w.heap[k]?
theorem Only.refl (g : Nat) (w : World) : Only g w w := ⟨rfl, fun _ _ => rfl⟩
theorem Only.trans {g : Nat} {w w1 w2 : World} (h : Only g w w1) (k : Only g w1 w2) : Only g w w2 := ⟨k.1.trans h.1, fun b hb => (k.2 b hb).trans (h.2 b hb)⟩
theorem Only.setCell {g : Nat} {w w1 : World} (h : Only g w w1) (o : Nat) (v : Value) : Only g w (w1.setCell ⟨g, o, none⟩ v) :=
  ⟨by rw [World.size_setCell]; exact h.1, fun b hb => (heap_setCell_other w1 ⟨g, o, none⟩ b v hb).trans (h.2 b hb)⟩
theorem Only.drewN {g : Nat} {w w1 : World} (h : Only g w w1) (q : Nat) : Only g w (w1.drewN q) := h
theorem Only.cell {g : Nat} {w w1 : World} (h : Only g w w1) {p : Addr} (hp : p.block ≠ g) : w1.cell? p = w.cell? p := World.cell?_of_block (h.2 p.block hp)

def BytePost (m : Int) (B : Nat) (a : Option Addr) (n c g : Nat) (W0 w : World) (e : Ending) (w' : World) : Prop := ∃ x : Int, 0 ≤ x ∧ x ≤ m ∧ e = .returned (.int .i64 x) ∧ Cur B a n c g W0 w' ∧ Only g w w'

set_option maxRecDepth 100000 in
set_option maxHeartbeats 1600000 in
theorem l1Byte (B : Nat) (a : Option Addr) (n c g : Nat) (W0 w : World) (hcode : CodeAt W0 B a n) (hn : n ≤ 1048576) (hcur : Cur B a n c g W0 w) :
    Calls Tryd.prog 63 #[.pointer (some ⟨g, 0, none⟩)] w (BytePost 255 B a n c g W0 w) := by
  obtain ⟨h1, h2, h3, i, h, h4, h5⟩ := hcur
  have hc0 : w.cell? ⟨g, 0, none⟩ = some (.slice a n c) := by rw [cell_of_row w g 0 _ _ _ h5]; rfl
  have hc1 : w.cell? ⟨g, 1, none⟩ = some (.int .i64 i) := by rw [cell_of_row w g 1 _ _ _ h5]; rfl
  have hc2 : w.cell? ⟨g, 2, none⟩ = some (.int .i64 h) := by rw [cell_of_row w g 2 _ _ _ h5]; rfl
  have hf2 : w.frozen? ⟨g, 2, none⟩ = false := frozen_of_row w g 2 _ _ h5
  have hf1 : w.frozen? ⟨g, 1, none⟩ = false := frozen_of_row w g 1 _ _ h5
  have hs : ∀ v, (w.setCell ⟨g, 2, none⟩ v).heap[g]? = some (.cells #[.slice a n c, .int .i64 i, v] 69 (0, 0)) := fun v => heap_setCell_same w g 2 _ _ v h5
  have d0 : ∀ v, (w.setCell ⟨g, 2, none⟩ v).cell? ⟨g, 0, none⟩ = some (.slice a n c) := fun v => by rw [cell_of_row _ g 0 _ _ _ (hs v)]; rfl
  have d1 : ∀ v, (w.setCell ⟨g, 2, none⟩ v).cell? ⟨g, 1, none⟩ = some (.int .i64 i) := fun v => by rw [cell_of_row _ g 1 _ _ _ (hs v)]; rfl
  have d2 : ∀ v, (w.setCell ⟨g, 2, none⟩ v).cell? ⟨g, 2, none⟩ = some v := fun v => by rw [cell_of_row _ g 2 _ _ _ (hs v)]; rfl
  have HS := Lib.hid hs
  have H1 := Lib.hid h1
  clear hs h1 h5
  by_cases hlt : i < n
  · obtain ⟨b, off, z, rfl, hb, z0, z1, hz⟩ := hcode i hlt
    have hz' : ∀ v, (w.setCell ⟨g, 2, none⟩ v).cell? ⟨b, off + i, none⟩ = some (.int .u8 z) := by
      intro v
      rw [← hz]
      exact (H1.out.setCell (p := ⟨g, 2, none⟩) h3 v).cell (p := ⟨b, off + i, none⟩) hb
    clear hz hcode
    go_enter Tryd.func63, Tryd.ntmps63
    go_wp2
    go_quiet (fail)
    go_wp2
    go_quiet (fail)
    go_wp2
    go_quiet (fail)
    go_wp2
    go_ret
    refine ⟨_, (and255 _).1, (and255 _).2, rfl, ?_⟩
    have hx : ∀ v q, ((w.setCell ⟨g, 2, none⟩ v).drewN q).heap[g]? = some (.cells #[.slice (some ⟨b, off, none⟩) n c, .int .i64 i, v] 69 (0, 0)) := fun v q => HS.out v
    exact ⟨⟨(below_drewN (H1.out.setCell h3 _) _).setCell h3 _, by simpa using h2, h3, i + 1, _, by omega, (heap_setCell_same _ g 1 _ _ _ (hx _ _)).trans rfl⟩, (((Only.refl g w).setCell 2 _).drewN _).setCell 1 _⟩
  · have hle : (n : Int) ≤ (i : Int) := by omega
    clear hcode
    go_enter Tryd.func63, Tryd.ntmps63
    go_wp2
    go_quiet (fail)
    go_wp2
    go_quiet (fail)
    go_wp2
    go_ret
    exact ⟨_, (and255 _).1, (and255 _).2, rfl, ⟨below_drewN (below_drewN (H1.out.setCell (p := ⟨g, 2, none⟩) h3 _) _) _, by simpa using h2, h3, i, _, h4, HS.out _⟩, (((Only.refl g w).setCell 2 _).drewN _).drewN _⟩

/-- A number from 0 to n - 1; 0 where n is not above 0. -/
def BelowPost (m : Int) (B : Nat) (a : Option Addr) (n c g : Nat) (W0 w : World) (e : Ending) (w' : World) : Prop := ∃ x : Int, 0 ≤ x ∧ (x < m ∨ x = 0) ∧ e = .returned (.int .i64 x) ∧ Cur B a n c g W0 w' ∧ Only g w w'

set_option maxRecDepth 100000 in
set_option maxHeartbeats 1600000 in
theorem l1Below (m : Int) (hm : m ≤ 1000000000) (B : Nat) (a : Option Addr) (n c g : Nat) (W0 w : World) (hcode : CodeAt W0 B a n) (hn : n ≤ 1048576) (hcur : Cur B a n c g W0 w) :
    Calls Tryd.prog 34 #[.pointer (some ⟨g, 0, none⟩), .int .i64 m] w (BelowPost m B a n c g W0 w) := by
  have HB := Lib.hid (fun w => l1Byte B a n c g W0 w hcode hn)
  have HC := Lib.hid hcur
  clear hcode hcur
  by_cases h0 : m ≤ 0
  · go_enter Tryd.func34, Tryd.ntmps34
    go_wp2
    go_ret
    exact ⟨0, Int.le_refl _, Or.inr rfl, rfl, HC.out, Only.refl _ _⟩
  by_cases h1 : m ≤ 256
  · go_enter Tryd.func34, Tryd.ntmps34
    go_wp2_with fail
    refine (HB.out _ HC.out).mono ?_
    rintro e w1 ⟨x, x0, x1, rfl, hc1, ho1⟩
    go_wp2
    go_ret
    exact ⟨_, Int.emod_nonneg _ (by omega), Or.inl (Int.emod_lt_of_pos _ (by omega)), rfl, hc1, ho1⟩
  · go_enter Tryd.func34, Tryd.ntmps34
    go_wp2_with fail
    refine (HB.out _ HC.out).mono ?_
    rintro e w1 ⟨x, x0, x1, rfl, hc1, ho1⟩
    go_wp2_with fail
    refine (HB.out _ hc1).mono ?_
    rintro e w2 ⟨y, y0, y1, rfl, hc2, ho2⟩
    clear hc1
    go_wp2_with fail
    refine (HB.out _ hc2).mono ?_
    rintro e w3 ⟨z, z0, z1, rfl, hc3, ho3⟩
    clear hc2
    go_wp2_with fail
    refine (HB.out _ hc3).mono ?_
    rintro e w4 ⟨u, u0, u1, rfl, hc4, ho4⟩
    clear hc3
    go_wp2
    go_ret
    exact ⟨_, Int.emod_nonneg _ (by omega), Or.inl (Int.emod_lt_of_pos _ (by omega)), rfl, hc4, ((ho1.trans ho2).trans ho3).trans ho4⟩

def OncePost (B : Nat) (a : Option Addr) (n c g : Nat) (W0 w : World) (e : Ending) (w' : World) : Prop := ∃ x : Bool, e = .returned (.bool x) ∧ Cur B a n c g W0 w' ∧ Only g w w'

set_option maxRecDepth 100000 in
set_option maxHeartbeats 400000 in
theorem l1Once (m : Int) (hm : m ≤ 1000000000) (B : Nat) (a : Option Addr) (n c g : Nat) (W0 w : World) (hcode : CodeAt W0 B a n) (hn : n ≤ 1048576) (hcur : Cur B a n c g W0 w) :
    Calls Tryd.prog 33 #[.pointer (some ⟨g, 0, none⟩), .int .i64 m] w (OncePost B a n c g W0 w) := by
  have HB := Lib.hid (l1Below m hm B a n c g W0 w hcode hn hcur)
  clear hcode hcur
  go_enter Tryd.func33, Tryd.ntmps33
  go_wp2_with fail
  refine HB.out.mono ?_
  rintro e w1 ⟨x, x0, x1, rfl, hc1, ho1⟩
  go_wp2
  go_ret
  exact ⟨_, rfl, hc1, ho1⟩
end Go.Proofs.YtanelokploifhaaDoor
namespace Go.Proofs.YtanelokploifhaaDoor
open Go Go.RowKit

def NewPost (B : Nat) (a : Option Addr) (n c : Nat) (W0 : World) (e : Ending) (w' : World) : Prop := ∃ g, e = .returned (.pointer (some ⟨g, 0, none⟩)) ∧ Cur B a n c g W0 w' ∧ g < w'.heap.size

theorem codeAt_pos {W0 : World} {B : Nat} {a : Option Addr} {n : Nat} (h : CodeAt W0 B a n) (hn : 0 < n) : ∃ b off, a = some ⟨b, off, none⟩ ∧ b < B ∧ ∀ k, k < n → ∃ z, 0 ≤ z ∧ z ≤ 255 ∧ W0.cell? ⟨b, off + k, none⟩ = some (.int .u8 z) := by
  obtain ⟨b, off, _, ha, hb, _⟩ := h 0 hn
  refine ⟨b, off, ha, hb, fun k hk => ?_⟩
  obtain ⟨b', off', z, ha', _, z0, z1, hz⟩ := h k hk
  rw [ha] at ha'
  injection ha' with h1
  injection h1 with h2 h3
  subst h2; subst h3
  exact ⟨z, z0, z1, hz⟩

set_option maxRecDepth 100000 in
set_option maxHeartbeats 1600000 in
theorem l1New (B : Nat) (a : Option Addr) (n c : Nat) (W0 w : World) (hcode : CodeAt W0 B a n) (hn : n ≤ 1048576) (hb : Below B W0 w) (hB : B ≤ w.heap.size) :
    Calls Tryd.prog 30 #[.slice a n c] w (NewPost B a n c W0) := by
  rcases Nat.eq_zero_or_pos n with h0 | h0
  · subst h0
    clear hcode
    go_enter Tryd.func30, Tryd.ntmps30
    go_wp2
    refine wp_loop_rounds 1 ?_
    rw [rounds_succ]
    go_wp2
    go_ret
    exact ⟨w.heap.size, rfl, ⟨hb.alloc hB _, by simp; omega, hB, 0, _, Nat.le_refl _, heap_alloc_new w _⟩, by simp⟩
  · obtain ⟨b, off, rfl, hbB, hz⟩ := codeAt_pos hcode h0
    have HZ := Lib.hid hz
    clear hz hcode
    go_enter Tryd.func30, Tryd.ntmps30
    go_wp2
    go_loop [3, 4] (fun h i => ∃ (x : Int) (k : Nat), k ≤ n ∧ h = .int .i64 x ∧ i = .int .i64 k) (fun _ i => n - (intOf i).toNat)
    case atStart => exact ⟨_, 0, Nat.zero_le _, rfl, rfl⟩
    case round =>
      obtain ⟨x, k, hk, rfl, rfl⟩ := hrel
      by_cases hlt : k < n
      · by_cases h4 : k < 4000
        · obtain ⟨z, z0, z1, hz⟩ := HZ.out k hlt
          have hzw : w.cell? ⟨b, off + k, none⟩ = some (.int .u8 z) := (hb.cell (p := ⟨b, off + k, none⟩) hbB).trans hz
          clear hz
          have g1 : decide ((k : Int) < 4000) = true := by simp; omega
          have g2 : decide (k < n) = true := by simpa using hlt
          go_wp2
          go_round
          case rel => exact ⟨_, k + 1, by omega, rfl, by go_num⟩
          case measure => simp [intOf]; omega
        · have g1 : decide ((k : Int) < 4000) = false := by simp; omega
          have g2 : decide (k < n) = true := by simpa using hlt
          go_wp2
          go_ret
          exact ⟨w.heap.size, rfl, ⟨hb.alloc hB _, by simp; omega, hB, 0, _, Nat.zero_le _, heap_alloc_new w _⟩, by simp⟩
      · have g2 : decide (k < n) = false := by simpa using hlt
        go_wp2
        go_ret
        exact ⟨w.heap.size, rfl, ⟨hb.alloc hB _, by simp; omega, hB, 0, _, Nat.zero_le _, heap_alloc_new w _⟩, by simp⟩
end Go.Proofs.YtanelokploifhaaDoor
namespace Go.Proofs.YtanelokploifhaaDoor
open Go Go.RowKit

/-- A list of strings in a new block. -/
theorem strsAt_new (w : World) (xs : List ByteArray) (t : TypeId) : StrsAt (w.alloc (.cells (xs.map Value.string).toArray t)) w.heap.size 0 xs := by
  intro k hk
  rw [Nat.zero_add, World.cell?_alloc_mark]
  simp [List.getD, List.getElem?_eq_getElem hk]
/-- From ⟨b, 0⟩ on the cells hold the ints zs. -/
def NumsAt (w : World) (b : Nat) (zs : List Int) : Prop := ∀ k, k < zs.length → w.cell? ⟨b, k, none⟩ = some (.int .i64 (zs.getD k 0))
theorem intsAt_new (w : World) (zs : List Int) (t : TypeId) : NumsAt (w.alloc (.cells (zs.map (Value.int .i64)).toArray t)) w.heap.size zs := by
  intro k hk
  rw [World.cell?_alloc_mark]
  simp [List.getD, List.getElem?_eq_getElem hk]

def PickPost (xs : List ByteArray) (B : Nat) (a : Option Addr) (n c g : Nat) (W0 w : World) (e : Ending) (w' : World) : Prop := ∃ k, k < xs.length ∧ e = .returned (.string (xs.getD k ByteArray.empty)) ∧ Cur B a n c g W0 w' ∧ Only g w w'

set_option maxRecDepth 100000 in
set_option maxHeartbeats 400000 in
theorem l1Pick (b d : Nat) (xs : List ByteArray) (hx0 : 0 < xs.length) (hx : xs.length ≤ 1000000) (B : Nat) (a : Option Addr) (n c g : Nat) (W0 w : World) (hcode : CodeAt W0 B a n) (hn : n ≤ 1048576) (hcur : Cur B a n c g W0 w) (hst : StrsAt w b 0 xs) (hbg : b ≠ g) :
    Calls Tryd.prog 79 #[.pointer (some ⟨g, 0, none⟩), .slice (some ⟨b, 0, none⟩) xs.length d] w (PickPost xs B a n c g W0 w) := by
  have HB := Lib.hid (l1Below xs.length (by omega) B a n c g W0 w hcode hn hcur)
  have HS := Lib.hid hst
  clear hcode hcur hst
  go_enter Tryd.func79, Tryd.ntmps79
  go_wp2_with fail
  refine HB.out.mono ?_
  rintro e w1 ⟨x, x0, x1, rfl, hc1, ho1⟩
  obtain ⟨k, rfl⟩ := Int.eq_ofNat_of_zero_le x0
  have hk : k < xs.length := by omega
  have hcell : w1.cell? ⟨b, k, none⟩ = some (.string (xs.getD k ByteArray.empty)) := by
    rw [ho1.cell (p := ⟨b, k, none⟩) hbg, ← HS.out k hk, Nat.zero_add]
  have HX : Hid (∃ x, xs.getD k ByteArray.empty = x) := ⟨_, rfl⟩
  obtain ⟨s, hs⟩ := HX.out
  rw [hs] at hcell
  have HE := Lib.hid hs
  clear hs
  go_wp2
  go_ret
  exact ⟨k, hk, by rw [HE.out]; rfl, hc1, ho1⟩

def PickIntPost (zs : List Int) (B : Nat) (a : Option Addr) (n c g : Nat) (W0 w : World) (e : Ending) (w' : World) : Prop := ∃ k, k < zs.length ∧ e = .returned (.int .i64 (zs.getD k 0)) ∧ Cur B a n c g W0 w' ∧ Only g w w'

set_option maxRecDepth 100000 in
set_option maxHeartbeats 400000 in
theorem l1PickInt (b d : Nat) (zs : List Int) (hx0 : 0 < zs.length) (hx : zs.length ≤ 1000000) (B : Nat) (a : Option Addr) (n c g : Nat) (W0 w : World) (hcode : CodeAt W0 B a n) (hn : n ≤ 1048576) (hcur : Cur B a n c g W0 w) (hst : NumsAt w b zs) (hbg : b ≠ g) :
    Calls Tryd.prog 32 #[.pointer (some ⟨g, 0, none⟩), .slice (some ⟨b, 0, none⟩) zs.length d] w (PickIntPost zs B a n c g W0 w) := by
  have HB := Lib.hid (l1Below zs.length (by omega) B a n c g W0 w hcode hn hcur)
  have HS := Lib.hid hst
  clear hcode hcur hst
  go_enter Tryd.func32, Tryd.ntmps32
  go_wp2_with fail
  refine HB.out.mono ?_
  rintro e w1 ⟨x, x0, x1, rfl, hc1, ho1⟩
  obtain ⟨k, rfl⟩ := Int.eq_ofNat_of_zero_le x0
  have hk : k < zs.length := by omega
  have hcell : w1.cell? ⟨b, k, none⟩ = some (.int .i64 (zs.getD k 0)) := by
    rw [ho1.cell (p := ⟨b, k, none⟩) hbg, ← HS.out k hk]
  have HX : Hid (∃ x, zs.getD k 0 = x) := ⟨_, rfl⟩
  obtain ⟨s, hs⟩ := HX.out
  rw [hs] at hcell
  have HE := Lib.hid hs
  clear hs
  go_wp2
  go_ret
  exact ⟨k, hk, by rw [HE.out]; rfl, hc1, ho1⟩
end Go.Proofs.YtanelokploifhaaDoor
namespace Go.Proofs.YtanelokploifhaaDoor
open Go

/-! ### The sign and what stands behind it -/
def negOf (l : List UInt8) : Bool := l.head? == some 45
def magOf (l : List UInt8) : List UInt8 := if negOf l then l.tail else l
def sg (neg : Bool) (m : Nat) : Int := if neg then -(m : Int) else m
theorem itoa_parts (n : Int) : negOf (Lib.itoa n) = decide (n < 0) ∧ magOf (Lib.itoa n) = Lib.decDigits n.natAbs := by
  by_cases h : n < 0
  · have e : Lib.itoa n = 45 :: Lib.decDigits n.natAbs := by unfold Lib.itoa; rw [if_pos h]
    rw [e]
    have hn : negOf (45 :: Lib.decDigits n.natAbs) = true := rfl
    refine ⟨by rw [hn]; simp [h], ?_⟩
    unfold magOf; rw [hn]; rfl
  · have e : Lib.itoa n = Lib.decDigits n.toNat := by unfold Lib.itoa; rw [if_neg h]
    have e2 : n.natAbs = n.toNat := by omega
    rw [e, e2]
    have hn : negOf (Lib.decDigits n.toNat) = false := by
      cases hl : Lib.decDigits n.toNat with
      | nil => rfl
      | cons b r =>
        have hb := decDigits_head hl
        unfold negOf
        simp only [List.head?_cons]
        rw [beq_eq_false_iff_ne]
        intro hc
        cases hc
        simp at hb
    refine ⟨by rw [hn]; simp [h], ?_⟩
    unfold magOf; rw [hn]; rfl
theorem sg_natAbs (n : Int) : sg (decide (n < 0)) n.natAbs = n := by
  unfold sg
  by_cases h : n < 0
  · simp [h]; omega
  · simp [h]; omega
theorem digitVal_lt {b : UInt8} {d : Nat} (h : Lib.digitVal b = some d) : d < 10 := by
  unfold Lib.digitVal at h
  split at h
  · cases h; omega
  · cases h
theorem decFrom_lt : ∀ (l : List UInt8) (acc k m : Nat), acc < 10 ^ k → Lib.decFrom acc l = some m → m < 10 ^ (k + l.length)
  | [], acc, k, m, ha, h => by
    simp only [Lib.decFrom, Option.some.injEq] at h
    subst h; simpa using ha
  | b :: r, acc, k, m, ha, h => by
    simp only [Lib.decFrom] at h
    cases hd : Lib.digitVal b with
    | none => rw [hd] at h; cases h
    | some d =>
      rw [hd] at h
      have h10 := digitVal_lt hd
      have := decFrom_lt r (acc * 10 + d) (k + 1) m (by rw [Nat.pow_succ]; omega) h
      rw [List.length_cons]
      rw [show k + (r.length + 1) = k + 1 + r.length by omega]
      exact this
theorem decFrom_take_lt {l : List UInt8} {k m : Nat} (hk : k ≤ l.length) (h : Lib.decFrom 0 (l.take k) = some m) : m < 10 ^ k := by
  have := decFrom_lt (l.take k) 0 0 m (by decide) h
  rwa [List.length_take, Nat.zero_add, Nat.min_eq_left hk] at this

/-- The reading between -lim and lim, at its four ends. -/
def readOf (lim : Nat) (l : List UInt8) : Option Int := numOf (-(lim : Int)) lim l
theorem readOf_parts {lim : Nat} {l : List UInt8} {n : Int} (h : readOf lim l = some n) : n.natAbs ≤ lim ∧ negOf l = decide (n < 0) ∧ magOf l = Lib.decDigits n.natAbs ∧ Lib.itoa n = l := by
  obtain ⟨h1, h2, rfl⟩ := numOf_some.1 h
  exact ⟨by omega, (itoa_parts n).1, (itoa_parts n).2, rfl⟩
theorem readOf_length {most lim : Nat} {l : List UInt8} (hm : 1 ≤ most) (hl : lim < 10 ^ most) (h : (magOf l).length < 1 ∨ most < (magOf l).length) : readOf lim l = none := by
  cases e : readOf lim l with
  | none => rfl
  | some n =>
    obtain ⟨h1, _, h3, _⟩ := readOf_parts e
    rw [h3] at h
    have h4 := decDigits_length_le (u := n.natAbs) hm (by omega)
    have h5 : 1 ≤ (Lib.decDigits n.natAbs).length := by rw [Lib.decDigits_length]; exact Lib.nDigits_pos _
    omega
theorem readOf_nodigit {lim : Nat} {l : List UInt8} {k : Nat} {b : UInt8} (hb : (magOf l)[k]? = some b) (h : b.toNat < 48 ∨ 57 < b.toNat) : readOf lim l = none := by
  cases e : readOf lim l with
  | none => rfl
  | some n =>
    obtain ⟨_, _, h3, _⟩ := readOf_parts e
    rw [h3] at hb
    obtain ⟨d, hd⟩ := Lib.digit_of_decFrom _ _ _ (decFrom_decDigits n.natAbs) k b hb
    unfold Lib.digitVal at hd
    rw [if_neg (by omega)] at hd
    cases hd
theorem readOf_other {lim m : Nat} {l : List UInt8} (h : Lib.decFrom 0 (magOf l) = some m) (hne : Lib.itoa (sg (negOf l) m) ≠ l) : readOf lim l = none := by
  cases e : readOf lim l with
  | none => rfl
  | some n =>
    obtain ⟨_, h2, h3, h4⟩ := readOf_parts e
    rw [h3, decFrom_decDigits] at h
    obtain rfl := Option.some.inj h
    rw [h2, sg_natAbs] at hne
    exact absurd h4 hne
theorem readOf_same {lim m : Nat} {l : List UInt8} (hm : m ≤ lim) (he : Lib.itoa (sg (negOf l) m) = l) : readOf lim l = some (sg (negOf l) m) := by
  refine numOf_some.2 ⟨?_, ?_, he⟩
  · unfold sg; split <;> omega
  · unfold sg; split <;> omega
theorem decFrom_next {l : List UInt8} {k m : Nat} {b : UInt8} (h : Lib.decFrom 0 (l.take k) = some m) (hb : l[k]? = some b) (h1 : 48 ≤ b.toNat) (h2 : b.toNat ≤ 57) : Lib.decFrom 0 (l.take (k + 1)) = some (m * 10 + (b.toNat - 48)) :=
  Lib.decFrom_take l k 0 m b _ h hb (by unfold Lib.digitVal; rw [if_pos ⟨h1, h2⟩])
/-- The results. -/
def numV (r : Option Int) : Int := r.getD 0
def numB (r : Option Int) : Bool := r.isSome
end Go.Proofs.YtanelokploifhaaDoor
namespace Go.Proofs.YtanelokploifhaaDoor
open Go Go.RowKit

theorem getElem_q (t : ByteArray) (k : Nat) (h : k < t.size) : t.data.toList[k]? = some t[k] := by
  have h' : k < t.data.toList.length := h
  rw [List.getElem?_eq_getElem h']; rfl
theorem ret_num {a b : Int} {x y : Bool} (h : a = b) (h2 : x = y) : Ending.returned (.tuple #[.int .i64 a, .bool x]) = .returned (.tuple #[.int .i64 b, .bool y]) := by rw [h, h2]
theorem len_data (t : ByteArray) : t.data.toList.length = t.size := rfl
theorem pow_le_12 {k : Nat} (h : k ≤ 12) : 10 ^ k ≤ 1000000000000 := by
  have := Nat.pow_le_pow_right (show 0 < 10 by decide) h
  simpa using this
theorem spec_fmt_as (n : Int) (h0 : -9223372036854775808 ≤ n) (h1 : n ≤ 9223372036854775807) (x : ByteArray) (hx : Lib.itoa n = x.data.toList) (w : World) :
    Calls Tryd.prog 50 #[.int .i64 n] w fun e w' => e = .returned (.string x) ∧ Below w.heap.size w w' := by
  have h := spec_fmt n h0 h1 w
  rw [hx] at h
  exact h
theorem str_eq_iff {l : List UInt8} {s : ByteArray} : ((⟨l.toArray⟩ : ByteArray) = s) ↔ l = s.data.toList := by
  constructor
  · rintro rfl; rfl
  · rintro rfl; rfl

set_option maxRecDepth 100000 in
set_option maxHeartbeats 1600000 in
theorem spec_read_pos (s : ByteArray) (most lim : Nat) (hm1 : 1 ≤ most) (hm2 : most ≤ 12) (hl : Hid (lim + 1 = 10 ^ most)) (w : World) (h0 : 0 < s.size)
    (hb : ((s[0].toNat : Int) == 45) = false) (ht : Hid (magOf s.data.toList = s.data.toList)) (hn : Hid (negOf s.data.toList = false)) (hts : s.size ≤ 9223372036854775807) :
    Calls Tryd.prog 95 #[.string s, .int .i64 most] w fun e w' => e = .returned (.tuple #[.int .i64 (numV (readOf lim s.data.toList)), .bool (numB (readOf lim s.data.toList))]) ∧ Below w.heap.size w w' := by
  have hz : ¬ s.size < 1 := by omega
  by_cases hy : most < s.size
  · have hR : readOf lim s.data.toList = none := readOf_length hm1 (by have := hl.out; omega) (by rw [ht.out, len_data]; omega)
    have HR := Lib.hid hR
    clear hR
    go_enter Tryd.func95, Tryd.ntmps95
    go_wp2
    go_ret2
    exact ⟨ret_num (by rw [HR.out]; rfl) (by rw [HR.out]; rfl), Below.refl _ _⟩
  have hz1 : decide ((s.size : Int) < 1) = false := by simp; omega
  have hy1 : decide (most < s.size) = false := by simp; omega
  go_enter Tryd.func95, Tryd.ntmps95
  go_wp2
  go_loop [8, 9] (fun n i => ∃ k m : Nat, k ≤ s.size ∧ m < 1000000000000 ∧ Hid (Lib.decFrom 0 (s.data.toList.take k) = some m) ∧ n = .int .i64 m ∧ i = .int .i64 k) (fun _ i => s.size - (intOf i).toNat)
  case atStart => exact ⟨0, 0, Nat.zero_le _, by decide, Lib.hid (by simp [Lib.decFrom]), rfl, rfl⟩
  case round =>
    obtain ⟨k, m, hk, hmb, hd, rfl, rfl⟩ := hrel
    by_cases hlt : k < s.size
    · have hq := getElem_q s k hlt
      by_cases hdig : 48 ≤ s[k].toNat ∧ s[k].toNat ≤ 57
      · obtain ⟨hd1, hd2⟩ := hdig
        have hnext := decFrom_next hd.out hq hd1 hd2
        have hbound := decFrom_take_lt (l := s.data.toList) (k := k + 1) (by rw [len_data]; omega) hnext
        have hp := pow_le_12 (k := k + 1) (by omega)
        have HN := Lib.hid hnext
        have hm' : m * 10 + (s[k].toNat - 48) < 1000000000000 := by omega
        clear hnext hq hbound hp
        have c1 : decide ((s[k].toNat : Int) < 48) = false := by simp; omega
        have c2 : decide ((57 : Int) < (s[k].toNat : Int)) = false := by simp; omega
        go_wp2
        go_round
        case rel => exact ⟨k + 1, m * 10 + (s[k].toNat - 48), by omega, hm', HN, by go_num, by go_num⟩
        case measure => simp [intOf]; omega
      · have hR : readOf lim s.data.toList = none := readOf_nodigit (k := k) (b := s[k]) (by rw [ht.out]; exact hq) (by omega)
        have HR := Lib.hid hR
        clear hR hq
        go_wp2
        all_goals (go_ret2; exact ⟨ret_num (by rw [HR.out]; rfl) (by rw [HR.out]; rfl), Below.refl _ _⟩)
    · obtain rfl : k = s.size := by omega
      have hall : Lib.decFrom 0 (magOf s.data.toList) = some m := by
        have := hd.out
        rw [List.take_of_length_le (by rw [len_data]; omega)] at this
        rw [ht.out]; exact this
      have hmm : m ≤ lim := by
        have h1 := decFrom_lt _ 0 0 m (by decide) hall
        have h2 := hl.out
        rw [ht.out, len_data, Nat.zero_add] at h1
        have h3 := Nat.pow_le_pow_right (show 0 < 10 by decide) (show s.size ≤ most by omega)
        omega
      have HA := Lib.hid hall
      clear hall
      by_cases he : Lib.itoa (sg false m) = s.data.toList
      · have hR : readOf lim s.data.toList = some (sg false m) := by
          have := readOf_same hmm (l := s.data.toList) (by rw [hn.out]; exact he)
          rw [hn.out] at this; exact this
        have HR := Lib.hid hR
        have HF := Lib.hid (spec_fmt_as ((m : Nat) : Int) (by omega) (by omega) s he)
        clear hR he
        go_wp2_with fail
        refine (HF.out _).mono ?_
        rintro e w1 ⟨rfl, hb1⟩
        go_wp2
        go_ret2
        exact ⟨ret_num (by rw [HR.out]; rfl) (by rw [HR.out]; rfl), hb1⟩
      · have hR : readOf lim s.data.toList = none := readOf_other HA.out (by rw [hn.out]; exact he)
        have HR := Lib.hid hR
        obtain ⟨x, hx⟩ : ∃ x : ByteArray, Lib.itoa (sg false m) = x.data.toList := ⟨⟨_⟩, rfl⟩
        have hne : (x.toList == s.toList) = false := by
          rw [beq_eq_false_iff_ne]
          intro h
          rw [ByteArray.toList_eq, ByteArray.toList_eq] at h
          exact he (by rw [hx, h])
        have HF := Lib.hid (spec_fmt_as ((m : Nat) : Int) (by omega) (by omega) x hx)
        clear hR he hx
        go_wp2_with fail
        refine (HF.out _).mono ?_
        rintro e w1 ⟨rfl, hb1⟩
        go_wp2
        go_ret2
        exact ⟨ret_num (by rw [HR.out]; rfl) (by rw [HR.out]; rfl), hb1⟩

set_option maxRecDepth 100000 in
set_option maxHeartbeats 1600000 in
theorem spec_read_neg (s t : ByteArray) (most lim : Nat) (hm1 : 1 ≤ most) (hm2 : most ≤ 12) (hl : Hid (lim + 1 = 10 ^ most)) (w : World) (h0 : 0 < s.size)
    (hb : ((s[0].toNat : Int) == 45) = true) (hsl : ∀ w, (Instr.slice 9 (.string s) (some (.int .i64 1)) none none).run Tryd.prog w = .ok (.string t) w) (ht : Hid (magOf s.data.toList = t.data.toList)) (hn : Hid (negOf s.data.toList = true)) (hts : t.size ≤ 9223372036854775807) :
    Calls Tryd.prog 95 #[.string s, .int .i64 most] w fun e w' => e = .returned (.tuple #[.int .i64 (numV (readOf lim s.data.toList)), .bool (numB (readOf lim s.data.toList))]) ∧ Below w.heap.size w w' := by
  by_cases hz : t.size < 1
  · have hR : readOf lim s.data.toList = none := readOf_length hm1 (by have := hl.out; omega) (by rw [ht.out, len_data]; omega)
    have HR := Lib.hid hR
    clear hR
    go_enter Tryd.func95, Tryd.ntmps95
    go_wp2
    go_ret2
    exact ⟨ret_num (by rw [HR.out]; rfl) (by rw [HR.out]; rfl), Below.refl _ _⟩
  by_cases hy : most < t.size
  · have hR : readOf lim s.data.toList = none := readOf_length hm1 (by have := hl.out; omega) (by rw [ht.out, len_data]; omega)
    have HR := Lib.hid hR
    clear hR
    go_enter Tryd.func95, Tryd.ntmps95
    go_wp2
    go_ret2
    exact ⟨ret_num (by rw [HR.out]; rfl) (by rw [HR.out]; rfl), Below.refl _ _⟩
  have hz1 : decide ((t.size : Int) < 1) = false := by simp; omega
  have hy1 : decide (most < t.size) = false := by simp; omega
  go_enter Tryd.func95, Tryd.ntmps95
  go_wp2
  go_loop [8, 9] (fun n i => ∃ k m : Nat, k ≤ t.size ∧ m < 1000000000000 ∧ Hid (Lib.decFrom 0 (t.data.toList.take k) = some m) ∧ n = .int .i64 m ∧ i = .int .i64 k) (fun _ i => t.size - (intOf i).toNat)
  case atStart => exact ⟨0, 0, Nat.zero_le _, by decide, Lib.hid (by simp [Lib.decFrom]), rfl, rfl⟩
  case round =>
    obtain ⟨k, m, hk, hmb, hd, rfl, rfl⟩ := hrel
    by_cases hlt : k < t.size
    · have hq := getElem_q t k hlt
      by_cases hdig : 48 ≤ t[k].toNat ∧ t[k].toNat ≤ 57
      · obtain ⟨hd1, hd2⟩ := hdig
        have hnext := decFrom_next hd.out hq hd1 hd2
        have hbound := decFrom_take_lt (l := t.data.toList) (k := k + 1) (by rw [len_data]; omega) hnext
        have hp := pow_le_12 (k := k + 1) (by omega)
        have HN := Lib.hid hnext
        have hm' : m * 10 + (t[k].toNat - 48) < 1000000000000 := by omega
        clear hnext hq hbound hp
        have c1 : decide ((t[k].toNat : Int) < 48) = false := by simp; omega
        have c2 : decide ((57 : Int) < (t[k].toNat : Int)) = false := by simp; omega
        go_wp2
        go_round
        case rel => exact ⟨k + 1, m * 10 + (t[k].toNat - 48), by omega, hm', HN, by go_num, by go_num⟩
        case measure => simp [intOf]; omega
      · have hR : readOf lim s.data.toList = none := readOf_nodigit (k := k) (b := t[k]) (by rw [ht.out]; exact hq) (by omega)
        have HR := Lib.hid hR
        clear hR hq
        go_wp2
        all_goals (go_ret2; exact ⟨ret_num (by rw [HR.out]; rfl) (by rw [HR.out]; rfl), Below.refl _ _⟩)
    · obtain rfl : k = t.size := by omega
      have hall : Lib.decFrom 0 (magOf s.data.toList) = some m := by
        have := hd.out
        rw [List.take_of_length_le (by rw [len_data]; omega)] at this
        rw [ht.out]; exact this
      have hmm : m ≤ lim := by
        have h1 := decFrom_lt _ 0 0 m (by decide) hall
        have h2 := hl.out
        rw [ht.out, len_data, Nat.zero_add] at h1
        have h3 := Nat.pow_le_pow_right (show 0 < 10 by decide) (show t.size ≤ most by omega)
        omega
      have HA := Lib.hid hall
      clear hall
      by_cases he : Lib.itoa (sg true m) = s.data.toList
      · have hR : readOf lim s.data.toList = some (sg true m) := by
          have := readOf_same hmm (l := s.data.toList) (by rw [hn.out]; exact he)
          rw [hn.out] at this; exact this
        have HR := Lib.hid hR
        have HF := Lib.hid (spec_fmt_as (-(m : Int)) (by omega) (by omega) s he)
        clear hR he
        go_wp2_with fail
        refine (HF.out _).mono ?_
        rintro e w1 ⟨rfl, hb1⟩
        go_wp2
        go_ret2
        exact ⟨ret_num (by rw [HR.out]; rfl) (by rw [HR.out]; rfl), hb1⟩
      · have hR : readOf lim s.data.toList = none := readOf_other HA.out (by rw [hn.out]; exact he)
        have HR := Lib.hid hR
        obtain ⟨x, hx⟩ : ∃ x : ByteArray, Lib.itoa (sg true m) = x.data.toList := ⟨⟨_⟩, rfl⟩
        have hne : (x.toList == s.toList) = false := by
          rw [beq_eq_false_iff_ne]
          intro h
          rw [ByteArray.toList_eq, ByteArray.toList_eq] at h
          exact he (by rw [hx, h])
        have HF := Lib.hid (spec_fmt_as (-(m : Int)) (by omega) (by omega) x hx)
        clear hR he hx
        go_wp2_with fail
        refine (HF.out _).mono ?_
        rintro e w1 ⟨rfl, hb1⟩
        go_wp2
        go_ret2
        exact ⟨ret_num (by rw [HR.out]; rfl) (by rw [HR.out]; rfl), hb1⟩

set_option maxRecDepth 100000 in
set_option maxHeartbeats 400000 in
theorem spec_read_empty (s : ByteArray) (h0 : s.size = 0) (most lim : Nat) (hm1 : 1 ≤ most) (hl : Hid (lim + 1 = 10 ^ most)) (w : World) :
    Calls Tryd.prog 95 #[.string s, .int .i64 most] w fun e w' => e = .returned (.tuple #[.int .i64 (numV (readOf lim s.data.toList)), .bool (numB (readOf lim s.data.toList))]) ∧ Below w.heap.size w w' := by
  have hR : readOf lim s.data.toList = none := readOf_length hm1 (by have := hl.out; omega) (Or.inl (by
    have h1 : s.data.toList = [] := List.eq_nil_of_length_eq_zero h0
    rw [h1]; decide))
  have HR := Lib.hid hR
  clear hR
  have hd1 : decide (0 < s.size) = false := by simp [h0]
  have hd2 : ¬ 0 < s.size := by omega
  clear h0
  go_enter Tryd.func95, Tryd.ntmps95
  go_wp2
  go_ret2
  exact ⟨ret_num (by rw [HR.out]; rfl) (by rw [HR.out]; rfl), Below.refl _ _⟩

/-- The model's l1Read. -/
theorem spec_read (s : ByteArray) (most lim : Nat) (hm1 : 1 ≤ most) (hm2 : most ≤ 12) (hl : Hid (lim + 1 = 10 ^ most)) (hs : s.size ≤ 9223372036854775807) (w : World) :
    Calls Tryd.prog 95 #[.string s, .int .i64 most] w fun e w' => e = .returned (.tuple #[.int .i64 (numV (readOf lim s.data.toList)), .bool (numB (readOf lim s.data.toList))]) ∧ Below w.heap.size w w' := by
  by_cases h0 : 0 < s.size
  · have hq := getElem_q s 0 h0
    have hh : s.data.toList.head? = some s[0] := by rw [List.head?_eq_getElem?]; exact hq
    by_cases h45 : s[0] = 45
    · have hn : negOf s.data.toList = true := by unfold negOf; rw [hh, h45]; rfl
      refine spec_read_neg s (s.extract 1 s.size) most lim hm1 hm2 hl w h0 (by rw [h45]; rfl) (fun w => ?_) (Lib.hid ?_) (Lib.hid hn) (by simp; omega)
      · exact run_slice_string_l w 9 s Tryd.underlying9 .i64 1 (by decide) (by omega)
      · unfold magOf
        rw [hn, if_pos rfl, Lib.extract_to_end, List.drop_one]
    · have hn : negOf s.data.toList = false := by
        unfold negOf; rw [hh, beq_eq_false_iff_ne]
        intro h; exact h45 (Option.some.inj h)
      have hb : ((s[0].toNat : Int) == 45) = false := by
        rw [beq_eq_false_iff_ne]
        intro h
        exact h45 (UInt8.toNat_inj.1 (by have : s[0].toNat = 45 := by omega
                                         rw [this]; rfl))
      refine spec_read_pos s most lim hm1 hm2 hl w h0 hb (Lib.hid ?_) (Lib.hid hn) hs
      unfold magOf
      rw [hn]; rfl
  · exact spec_read_empty s (by omega) most lim hm1 hl w

/-- ParseInt's and ParseNumber's answers, said of the string's bytes. -/
def intOfS (s : ByteArray) : Option Int := numOf (-999999999999) 999999999999 s.data.toList
def numOfS (s : ByteArray) : Option Int := numOf 0 999999 s.data.toList

set_option maxRecDepth 100000 in
set_option maxHeartbeats 400000 in
theorem spec_parseInt (s : ByteArray) (hs : s.size ≤ 9223372036854775807) (w : World) :
    Calls Tryd.prog 88 #[.string s] w fun e w' => e = .returned (.tuple #[.int .i64 (numV (intOfS s)), .bool (numB (intOfS s))]) ∧ Below w.heap.size w w' := by
  have h := Lib.hid (fun w => spec_read s 12 999999999999 (by decide) (by decide) (Lib.hid (by decide)) hs w)
  go_enter Tryd.func88, Tryd.ntmps88
  go_wp2_with fail
  refine (h.out _).mono ?_
  rintro e w1 ⟨rfl, hb1⟩
  go_wp2
  go_ret2
  exact ⟨rfl, hb1⟩

theorem numOfS_of_read {s : ByteArray} : numOfS s = match readOf 999999 s.data.toList with | some n => if n < 0 then none else some n | none => none := by
  cases e : numOfS s with
  | some n =>
    obtain ⟨h1, h2, h3⟩ := numOf_some.1 e
    have : readOf 999999 s.data.toList = some n := numOf_some.2 ⟨by omega, h2, h3⟩
    rw [this]
    simp only
    rw [if_neg (by omega)]
  | none =>
    cases e2 : readOf 999999 s.data.toList with
    | none => rfl
    | some n =>
      simp only
      by_cases h : n < 0
      · rw [if_pos h]
      · obtain ⟨h1, h2, h3⟩ := numOf_some.1 e2
        have : numOfS s = some n := numOf_some.2 ⟨by omega, h2, h3⟩
        rw [e] at this; cases this

end Go.Proofs.YtanelokploifhaaDoor
namespace Go.Proofs.YtanelokploifhaaDoor
open Go Go.RowKit

theorem index1_none (c : UInt8) : ∀ l : List UInt8, (∀ j : Nat, l[j]? ≠ some c) → Lib.index l [c] = -1
  | [], _ => by simp [Lib.index]
  | b :: l, h => by
    have hb : b ≠ c := fun e => h 0 (by simp [e])
    have hp : ([c] : List UInt8).isPrefixOf (b :: l) = false := by simp [List.isPrefixOf, Ne.symm hb]
    have ih := index1_none c l (fun j => by have := h (j + 1); simpa using this)
    rw [Lib.index, hp, ih]; simp
theorem index1_at (c : UInt8) : ∀ (l : List UInt8) (i : Nat), l[i]? = some c → (∀ j : Nat, j < i → l[j]? ≠ some c) → Lib.index l [c] = (i : Int)
  | [], i, h, _ => by simp at h
  | b :: l, 0, h, _ => by
    have hb : b = c := by simpa using h
    subst hb
    rw [Lib.index]; simp [List.isPrefixOf]
  | b :: l, i + 1, h, hn => by
    have hb : b ≠ c := fun e => hn 0 (by omega) (by simp [e])
    have hp : ([c] : List UInt8).isPrefixOf (b :: l) = false := by simp [List.isPrefixOf, Ne.symm hb]
    have ih := index1_at c l i (by simpa using h) (fun j hj => by have := hn (j + 1) (by omega); simpa using this)
    rw [Lib.index, hp, ih]
    simp

/-- The pieces of s, cut at each byte c. -/
def parts (c : UInt8) (s : ByteArray) : List ByteArray := Lib.splitB ⟨#[c]⟩ 0 (Lib.countB s ⟨#[c]⟩) s
theorem parts_length (c : UInt8) (s : ByteArray) : (parts c s).length = Lib.countB s ⟨#[c]⟩ + 1 := Lib.splitB_all ⟨#[c]⟩ (Nat.le_refl 1) 0 _ s rfl
theorem tail_data (s : ByteArray) (f : Nat) : (s.extract f s.size).data.toList = s.data.toList.drop f := Lib.extract_to_end s f
theorem tail_get (s : ByteArray) (f j : Nat) : (s.extract f s.size).data.toList[j]? = s.data.toList[f + j]? := by rw [tail_data, List.getElem?_drop]
theorem tail_size (s : ByteArray) (f : Nat) : (s.extract f s.size).size = s.size - f := by rw [ByteArray.size_extract]; omega
theorem parts_none {c : UInt8} {s : ByteArray} (h : ∀ j : Nat, s.data.toList[j]? ≠ some c) : parts c s = [s] := by
  unfold parts
  exact Lib.splitB_miss _ 0 _ s (index1_none c _ h)
theorem parts_at {c : UInt8} {s : ByteArray} {i : Nat} (h : s.data.toList[i]? = some c) (hn : ∀ j : Nat, j < i → s.data.toList[j]? ≠ some c) : parts c s = s.extract 0 i :: parts c (s.extract (i + 1) s.size) := by
  have hix : Lib.indexB s ⟨#[c]⟩ = (i : Int) := index1_at c _ i h hn
  have hc := Lib.countB_hit s ⟨#[c]⟩ i (Nat.le_refl 1) hix
  have e1 : (⟨#[c]⟩ : ByteArray).size = 1 := rfl
  rw [e1] at hc
  unfold parts
  rw [hc, Nat.add_comm 1, Lib.splitB_hit _ 0 _ s i hix, e1, Nat.add_zero]
theorem bytes_eq {a b : ByteArray} (h : a.data.toList = b.data.toList) : a = b := by
  cases a; cases b
  simpa using h
theorem ext_ext (s : ByteArray) (f k : Nat) (hf : f ≤ k) : (s.extract f s.size).extract 0 (k - f) = s.extract f k := by
  apply bytes_eq
  rw [Lib.extract_data, Lib.extract_data, Lib.extract_data, List.drop_zero, Nat.sub_zero]
  rw [List.take_take]
  by_cases h : k ≤ s.size
  · rw [Nat.min_eq_left (by omega)]
  · have hl : (s.data.toList.drop f).length ≤ s.size - f := by rw [List.length_drop]; exact Nat.le_refl _
    rw [List.take_of_length_le (by rw [Nat.min_def]; split <;> omega), List.take_of_length_le (by omega)]
theorem ext_tail (s : ByteArray) (f d : Nat) : (s.extract f s.size).extract d (s.extract f s.size).size = s.extract (f + d) s.size := by
  apply bytes_eq
  rw [Lib.extract_to_end, Lib.extract_to_end, Lib.extract_to_end, List.drop_drop]
/-- The loop's two steps. -/
theorem parts_tail_none {c : UInt8} {s : ByteArray} {f : Nat} (h : ∀ j : Nat, f ≤ j → s.data.toList[j]? ≠ some c) : parts c (s.extract f s.size) = [s.extract f s.size] :=
  parts_none fun j => by rw [tail_get]; exact h _ (by omega)
theorem parts_tail_at {c : UInt8} {s : ByteArray} {f k : Nat} (hf : f ≤ k) (h : s.data.toList[k]? = some c) (hn : ∀ j : Nat, f ≤ j → j < k → s.data.toList[j]? ≠ some c) : parts c (s.extract f s.size) = s.extract f k :: parts c (s.extract (k + 1) s.size) := by
  rw [parts_at (i := k - f) (by rw [tail_get, show f + (k - f) = k by omega]; exact h) (fun j hj => by rw [tail_get]; exact hn _ (by omega) (by omega))]
  rw [ext_ext s f k hf, ext_tail, show f + (k - f + 1) = k + 1 by omega]
theorem ext_all (s : ByteArray) : s.extract 0 s.size = s := by
  apply bytes_eq
  rw [Lib.extract_to_end, List.drop_zero]

/-! ### What the pieces are -/
/-- Either there is no byte c from f on, or a first one. -/
theorem first_at (c : UInt8) (l : List UInt8) : (∀ j : Nat, l[j]? ≠ some c) ∨ ∃ i, l[i]? = some c ∧ ∀ j : Nat, j < i → l[j]? ≠ some c := by
  induction l with
  | nil => exact Or.inl fun j => by simp
  | cons b r ih =>
    by_cases hb : b = c
    · subst hb; exact Or.inr ⟨0, by simp, fun j hj => by omega⟩
    · rcases ih with h | ⟨i, h, hn⟩
      · left
        intro j
        cases j with
        | zero => simpa using hb
        | succ j => simpa using h j
      · right
        refine ⟨i + 1, by simpa using h, fun j hj => ?_⟩
        cases j with
        | zero => simpa using hb
        | succ j => have := hn j (by omega); simpa using this
theorem at_lt {c : UInt8} {s : ByteArray} {i : Nat} (h : s.data.toList[i]? = some c) : i < s.size := (List.getElem?_eq_some_iff.1 h).1
theorem parts_facts (c : UInt8) : ∀ (n : Nat) (s : ByteArray), s.size ≤ n → (parts c s).length ≤ s.size + 1 ∧ total (parts c s) ≤ s.size ∧ (∀ p ∈ parts c s, ∀ j : Nat, p.data.toList[j]? ≠ some c) ∧ joinOf (parts c s) ⟨#[c]⟩ = s.data.toList := by
  intro n
  induction n with
  | zero =>
    intro s hs
    have h0 : s.data.toList = [] := List.eq_nil_of_length_eq_zero (by show s.size = 0; omega)
    have hno : ∀ j : Nat, s.data.toList[j]? ≠ some c := fun j => by rw [h0]; simp
    rw [parts_none hno]
    exact ⟨by simp, by simp [total], fun p hp => by rw [List.mem_singleton] at hp; subst hp; exact hno, by simp [joinOf, Lib.join_one]⟩
  | succ n ih =>
    intro s hs
    rcases first_at c s.data.toList with hno | ⟨i, hi, hn⟩
    · rw [parts_none hno]
      exact ⟨by simp, by simp [total], fun p hp => by rw [List.mem_singleton] at hp; subst hp; exact hno, by simp [joinOf, Lib.join_one]⟩
    · have hlt := at_lt hi
      have hts := tail_size s (i + 1)
      obtain ⟨h1, h2, h3, h4⟩ := ih (s.extract (i + 1) s.size) (by omega)
      have e0 : (s.extract 0 i).size = i := by rw [ByteArray.size_extract]; omega
      have e1 : (s.extract 0 i).data.toList = s.data.toList.take i := by rw [Lib.extract_data]; simp
      rw [parts_at hi hn]
      refine ⟨by rw [List.length_cons]; omega, by simp only [total, List.map_cons, List.sum_cons] at *; rw [e0]; omega, ?_, ?_⟩
      · intro p hp j
        rcases List.mem_cons.1 hp with rfl | hp
        · rw [e1]
          intro hc
          by_cases hj : j < i
          · rw [List.getElem?_take, if_pos hj] at hc; exact hn j hj hc
          · rw [List.getElem?_take, if_neg hj] at hc; cases hc
        · exact h3 p hp j
      · have hne : ∃ y r, parts c (s.extract (i + 1) s.size) = y :: r := by
          cases hq : parts c (s.extract (i + 1) s.size) with
          | nil => have := parts_length c (s.extract (i + 1) s.size); rw [hq] at this; simp at this
          | cons y r => exact ⟨y, r, rfl⟩
        obtain ⟨y, r, hq⟩ := hne
        rw [hq] at h4 ⊢
        unfold joinOf at h4 ⊢
        simp only [List.map_cons] at h4 ⊢
        rw [Lib.join_cons] at h4 ⊢
        rw [tail_data] at h4
        have e2 : Lib.joinTail (⟨#[c]⟩ : ByteArray).data.toList (y.data.toList :: r.map (·.data.toList)) = [c] ++ (y.data.toList ++ Lib.joinTail (⟨#[c]⟩ : ByteArray).data.toList (r.map (·.data.toList))) := by simp [Lib.joinTail]
        rw [e2, h4, e1]
        have hlen : i < s.data.toList.length := hlt
        have e3 : s.data.toList[i] = c := by rw [List.getElem?_eq_getElem hlen] at hi; exact Option.some.inj hi
        have e4 : s.data.toList.drop i = c :: s.data.toList.drop (i + 1) := by rw [List.drop_eq_getElem_cons hlen, e3]
        rw [List.singleton_append, ← e4, List.take_append_drop]
end Go.Proofs.YtanelokploifhaaDoor
namespace Go.Proofs.YtanelokploifhaaDoor
open Go Go.RowKit

/-- The pieces, in new memory. -/
def PartsPost (c : UInt8) (s : ByteArray) (w : World) (e : Ending) (w' : World) : Prop :=
  ∃ g cap, e = .returned (.slice (some ⟨g, 0, none⟩) (parts c s).length cap) ∧ w'.ownsRow w.heap.size 9 1 (.slice (some ⟨g, 0, none⟩) (parts c s).length cap) (parts c s).length ((parts c s).map Value.string) ∧ Below w.heap.size w w'
def SplitInv (c : UInt8) (s : ByteArray) (k f : Nat) (done : List ByteArray) : Prop :=
  done.length ≤ k ∧ ((k ≤ s.size ∧ f ≤ k ∧ done ++ parts c (s.extract f s.size) = parts c s ∧ ∀ j : Nat, f ≤ j → j < k → s.data.toList[j]? ≠ some c) ∨ (k = s.size + 1 ∧ done = parts c s))
theorem SplitInv.start (c : UInt8) (s : ByteArray) : SplitInv c s 0 0 [] := ⟨Nat.le_refl _, Or.inl ⟨Nat.zero_le _, Nat.le_refl _, by rw [ext_all]; rfl, fun j _ h => by omega⟩⟩
theorem SplitInv.part {c : UInt8} {s : ByteArray} {k f : Nat} {done : List ByteArray} (h : SplitInv c s k f done) (hk : k < s.size) : f ≤ k := by
  rcases h.2 with h | h
  · exact h.2.1
  · omega
theorem SplitInv.skip {c : UInt8} {s : ByteArray} {k f : Nat} {done : List ByteArray} (h : SplitInv c s k f done) (hk : k < s.size) (hne : s.data.toList[k]? ≠ some c) : SplitInv c s (k + 1) f done := by
  obtain ⟨h0, h | h⟩ := h
  · refine ⟨by omega, Or.inl ⟨by omega, by omega, h.2.2.1, fun j hf hj => ?_⟩⟩
    rcases Nat.lt_or_ge j k with h1 | h1
    · exact h.2.2.2 j hf h1
    · obtain rfl : j = k := by omega
      exact hne
  · omega
theorem SplitInv.cut {c : UInt8} {s : ByteArray} {k f : Nat} {done : List ByteArray} (h : SplitInv c s k f done) (hk : k < s.size) (he : s.data.toList[k]? = some c) : SplitInv c s (k + 1) (k + 1) (done ++ [s.extract f k]) := by
  obtain ⟨h0, h | h⟩ := h
  · refine ⟨by simp; omega, Or.inl ⟨by omega, Nat.le_refl _, ?_, fun j hf hj => by omega⟩⟩
    rw [← h.2.2.1, parts_tail_at h.2.1 he h.2.2.2]
    simp
  · omega
theorem SplitInv.last {c : UInt8} {s : ByteArray} {f : Nat} {done : List ByteArray} (h : SplitInv c s s.size f done) : SplitInv c s (s.size + 1) (s.size + 1) (done ++ [s.extract f s.size]) := by
  obtain ⟨h0, h | h⟩ := h
  · refine ⟨by simp; omega, Or.inr ⟨rfl, ?_⟩⟩
    rw [← h.2.2.1, parts_tail_none (fun j hf hc => ?_)]
    have hlt := at_lt hc
    exact h.2.2.2 j hf hlt hc
  · omega
theorem SplitInv.endf {c : UInt8} {s : ByteArray} {f : Nat} {done : List ByteArray} (h : SplitInv c s s.size f done) : f ≤ s.size := by
  rcases h.2 with h | h
  · exact h.2.1
  · omega
theorem SplitInv.done {c : UInt8} {s : ByteArray} {f : Nat} {done : List ByteArray} (h : SplitInv c s (s.size + 1) f done) : done = parts c s := by
  rcases h.2 with h | h
  · omega
  · exact h.2

set_option maxRecDepth 100000 in
set_option maxHeartbeats 1600000 in
theorem spec_split (c : UInt8) (s : ByteArray) (hs : s.size ≤ 1048576) (w : World) :
    Calls Tryd.prog 87 #[.string s, .int .u8 (c.toNat : Int)] w (PartsPost c s w) := by
  obtain ⟨i0, hi, hz0, hz1, hz2⟩ := info_parts infoStr
  go_enter Tryd.func87, Tryd.ntmps87
  go_wp2
  go_loopw [5, 6, 7] (fun v fr i wr => ∃ (k f : Nat) (done : List ByteArray), k ≤ s.size + 1 ∧ done.length ≤ k ∧ fr = .int .i64 f ∧ i = .int .i64 k ∧ wr.ownsRow w.heap.size 9 1 v done.length (done.map Value.string) ∧ Below w.heap.size w wr ∧ Hid (SplitInv c s k f done)) (fun _ _ i _ => s.size + 1 - (intOf i).toNat)
  case atStart => exact ⟨0, 0, [], by omega, Nat.le_refl _, rfl, rfl, World.ownsRow_made _ _ 0 (Nat.le_refl _) (by decide) rfl, (Below.refl _ _).alloc (Nat.le_refl _) _, Lib.hid (SplitInv.start c s)⟩
  case round =>
    obtain ⟨k, f, done, hk, hdl, rfl, rfl, ho, hbl, hinv⟩ := hrel
    have HO := Lib.hid ho
    have HB := Lib.hid hbl
    clear ho hbl
    by_cases hlt : k < s.size
    · have hfk := hinv.out.part hlt
      have hq : s.data.toList[k]? = some s[k] := by
        have h' : k < s.data.toList.length := hlt
        rw [List.getElem?_eq_getElem h']; rfl
      have g0 : ((k : Int) == (s.size : Int)) = false := by simp; omega
      by_cases he : s[k] = c
      · have hn := Lib.hid (hinv.out.cut hlt (by rw [hq, he]))
        have g1 : ((s[k].toNat : Int) == (c.toNat : Int)) = true := by simp [he]
        clear hq he
        go_wp2_with (at_builtin; refine wpList_append_own _ rfl (.tmp 26) (.tmp 31) 79 rfl w.heap.size 9 i0 (.string ByteArray.empty) 1 16 Tryd.underlying79 hi hz0 hz1 hz2 rfl (by decide) _ _ _ rfl (HO.out.alloc _) ⟨wr.heap.size, 0, none⟩ 1 1 [.string (s.extract f k)] rfl rfl (cell_one_new _ _ _) (by intro u hu; rw [List.mem_singleton] at hu; subst hu; rfl) (by unfold maxLen; omega) (by omega) (by have := HB.out.size; simp; omega) ?_; intro v1 w1 ho1 hg1 _; have hb1 : Below w.heap.size w w1 := (HB.out.alloc HB.out.size _).grown hg1 (by have := HB.out.size; simp; omega) (fun k hk => (HO.out.lt k hk).1); have HO1 := Lib.hid ho1; have HB1 := Lib.hid hb1; clear ho1 hb1 hg1)
        go_roundw
        case rel => exact ⟨k + 1, k + 1, done ++ [s.extract f k], by omega, by simp; omega, by go_num, by go_num, by have h := HO1.out; rw [List.length_append, List.map_append]; exact h, HB1.out, hn⟩
        case measure => simp [intOf]; omega
      · have hn := Lib.hid (hinv.out.skip hlt (by rw [hq]; intro h; exact he (Option.some.inj h)))
        have g1 : ((s[k].toNat : Int) == (c.toNat : Int)) = false := by
          rw [beq_eq_false_iff_ne]
          intro h
          exact he (UInt8.toNat_inj.1 (by omega))
        clear hq he
        go_wp2
        go_roundw
        case rel => exact ⟨k + 1, f, done, by omega, by omega, rfl, by go_num, HO.out, HB.out, hn⟩
        case measure => simp [intOf]; omega
    · by_cases heq : k = s.size
      · subst heq
        have hfk := hinv.out.endf
        have hn := Lib.hid hinv.out.last
        go_wp2_with (at_builtin; refine wpList_append_own _ rfl (.tmp 26) (.tmp 31) 79 rfl w.heap.size 9 i0 (.string ByteArray.empty) 1 16 Tryd.underlying79 hi hz0 hz1 hz2 rfl (by decide) _ _ _ rfl (HO.out.alloc _) ⟨wr.heap.size, 0, none⟩ 1 1 [.string (s.extract f s.size)] rfl rfl (cell_one_new _ _ _) (by intro u hu; rw [List.mem_singleton] at hu; subst hu; rfl) (by unfold maxLen; omega) (by omega) (by have := HB.out.size; simp; omega) ?_; intro v1 w1 ho1 hg1 _; have hb1 : Below w.heap.size w w1 := (HB.out.alloc HB.out.size _).grown hg1 (by have := HB.out.size; simp; omega) (fun k hk => (HO.out.lt k hk).1); have HO1 := Lib.hid ho1; have HB1 := Lib.hid hb1; clear ho1 hb1 hg1)
        go_roundw
        case rel => exact ⟨s.size + 1, s.size + 1, done ++ [s.extract f s.size], by omega, by simp; omega, by go_num, by go_num, by have h := HO1.out; rw [List.length_append, List.map_append]; exact h, HB1.out, hn⟩
        case measure => simp [intOf]
      · obtain rfl : k = s.size + 1 := by omega
        have hd := hinv.out.done
        subst hd
        have ho := HO.out
        rcases ho.2 with ⟨rfl, h0⟩ | ⟨g, cap, cur, rfl, _, _, _⟩
        · exact absurd h0 (by rw [parts_length]; omega)
        · clear HO
          have HO := Lib.hid ho
          clear ho
          go_wp2
          go_ret
          exact ⟨g, cap, rfl, HO.out, HB.out⟩
end Go.Proofs.YtanelokploifhaaDoor
