/-
  Merged: The model's cursor over the bytes of a draw: whatever the bytes, it gives numbers from 0 to 255, and numbers below a given one; it changes its own block alone.
  PLAIN FACTS ON SLICES OF STRINGS IN MEMORY (no program in this text): what it means that a row of cells holds a list of strings; how long the strings are together.
  The model's cursor is made in a new block, whatever the bytes; a pick out of a list of strings or ints that lies in a block of its own gives one of its elements.
  A pick out of a list of strings, or of ints, that lies in a block of its own, gives one of its elements.
  PLAIN FACTS ON TABLES OF NUMBERS (no program in this text): when a table is a matrix; products, powers, sums, the matrix that is turned around; slices of slices of numbers in memory.
  PLAIN FACTS ON SLICES OF SLICES OF NUMBERS IN MEMORY (no program in this text): what it means that a slice holds a table; how many numbers there are; memory in which only some blocks have turned.
  The laws' helpers on slices of slices of numbers: how many numbers there are, counted down from a limit; a copy in new memory; two that hold the same are found equal.
  The model's IsMatrix, EqualMatrix, TraceOf and SumOf: at every table they answer what the plain words say, and change nothing.
  PLAIN FACTS ON TABLES IN MEMORY OF THE CALL'S OWN (no program's function in this text): each row in a block of its own; a row is put behind the others, a number or a row is put in another's place.
  Tables that the call makes: a row is put behind the others, a number is put in another's place; the model's table of zeros.
  The laws' helpers on slices of slices of numbers: a whole copy in new memory; two tables that hold the same are found equal; a table that the call owns is marked, and a marked one is found marked.
  What the laws on tables share: the helpers' contracts at whatever slice holds a table; a result that is marked, and what stays as it was.
  PLAIN FACTS ON DECIMAL NUMERALS (no program in this text): the digits one after the other; a list of bytes is the numeral of at most one integer between two limits ('numOf'), and strconv.Atoi's reading finds it.
  The model's FormatInt at every int: its digit loop gives the numeral; nothing that was there before is changed.
  PLAIN FACTS ON READING A NUMERAL (no program in this text): a sign, then digits; what is read is the integer whose numeral the bytes are, or nothing.
  The model's reading of a numeral (l1Read, ParseInt, ParseNumber): at every string it returns the integer between the limits whose numeral the string is, and true; else 0 and false; nothing that was there before is changed.
  The laws' helper that compares two slices of strings: two rows that hold the same strings are found equal.
  PLAIN FACTS ON JOINED STRINGS (no program in this text): the joined bytes of the first k + 1 strings out of those of the first k; how many they are; a row of bytes that the call owns, turned into a string.
  PLAIN FACTS ON SPLITTING AT A BYTE (no program in this text): a string is cut at the first byte c; where there is none it stays whole; the pieces are one more than c occurs, none longer than the string, none contains c; joined at c they give the string.
  The model's SplitByte: at every string of at most 2^20 bytes and every byte it returns the pieces in new memory; nothing that was there before is changed.
  The model's ParseMatrix: at every text the table that the plain words say, in new memory; nothing that was there before is changed.
  The model's products: what the plain words say, in new memory; nothing that was there before is changed.
  A matrix is not too large; what a function answers at the laws' copies of tables.
  The model's PowerMatrix and TurnMatrix: what the plain words say, in new memory; nothing that was there before is changed.
-/
import Derived.Test.YtalclebehbdliaaGreatDoorRows
import Derived.WalkKit
import Derived.WalkSpells
import Derived.WalkLawsBesides
import Derived.Deep.QuietTactic
import Derived.BigQuiet
import Derived.Lib.Hide
import Derived.Laws.OwnMore
import Derived.Deep.RegionHeld3
import Derived.Deep.Onto
import Derived.Deep.AppendLies
import Derived.Lib.ItoaMem
import Derived.Lib.AtoiAll
import Derived.Lib.AtoiTie
import Derived.Laws.BytesArg
import Derived.Lib.AppendIntMem
import Derived.Lib.IndexBytes
import Derived.Lib.Join
import Derived.Lib.AppendStr
import Derived.Laws.IdiomStrings
import Derived.Lib.SplitLaws
namespace Go.Proofs.YtalclebehbdliaaGreatDoor
open Go Go.RowKit

theorem and255 (x : Int) : 0 ≤ bits .and .i64 x 255 ∧ bits .and .i64 x 255 ≤ 255 := by
  have h : (BitVec.ofInt IntKind.i64.bits x &&& BitVec.ofInt IntKind.i64.bits 255).toNat ≤ 255 := by
    rw [BitVec.toNat_and]
    exact Nat.le_trans Nat.and_le_right (by decide)
  simp only [bits]
  rw [IntKind.wrap_i64]
  omega

/-- The cursor in block g: its bytes, how many of them are read, a number. Below block B nothing has turned since W0. -/
def Cur (B : Nat) (a : Option Addr) (n c g : Nat) (W0 w : World) : Prop :=
  Below B W0 w ∧ B ≤ w.heap.size ∧ B ≤ g ∧ ∃ (i : Nat) (h : Int), i ≤ n ∧ w.heap[g]? = some (.cells #[.slice a n c, .int .i64 i, .int .i64 h] 70 (0, 0))
/-- The bytes, in W0, below block B. -/
def CodeAt (W0 : World) (B : Nat) (a : Option Addr) (n : Nat) : Prop := ∀ k, k < n → ∃ b off z, a = some ⟨b, off, none⟩ ∧ b < B ∧ 0 ≤ z ∧ z ≤ 255 ∧ W0.cell? ⟨b, off + k, none⟩ = some (.int .u8 z)

theorem Cur.alloc {B : Nat} {a : Option Addr} {n c g : Nat} {W0 w : World} (h : Cur B a n c g W0 w) (o : Obj) : Cur B a n c g W0 (w.alloc o) := by
  obtain ⟨h1, h2, h3, i, x, h4, h5⟩ := h
  refine ⟨h1.alloc h2 o, by simp; omega, h3, i, x, h4, ?_⟩
  rw [Below.heap_alloc w o g (lt_of_block h5)]; exact h5
theorem Cur.drewN {B : Nat} {a : Option Addr} {n c g : Nat} {W0 w : World} (h : Cur B a n c g W0 w) (q : Nat) : Cur B a n c g W0 (w.drewN q) := by
  obtain ⟨h1, h2, h3, i, x, h4, h5⟩ := h
  exact ⟨below_drewN h1 q, h2, h3, i, x, h4, h5⟩
theorem Cur.below {B : Nat} {a : Option Addr} {n c g : Nat} {W0 w : World} (h : Cur B a n c g W0 w) : Below B W0 w := h.1
/-- .. and other blocks of the call's own that lie behind. -/
theorem Cur.step {B : Nat} {a : Option Addr} {n c g : Nat} {W0 w w' : World} (h : Cur B a n c g W0 w) (hb : Below w.heap.size w w') : Cur B a n c g W0 w' := by
  obtain ⟨h1, h2, h3, i, x, h4, h5⟩ := h
  refine ⟨h1.trans (hb.mono h2), Nat.le_trans h2 hb.size, h3, i, x, h4, ?_⟩
  rw [hb.block g (lt_of_block h5)]; exact h5

/-- No block but g has turned; none is new. -/
def Only (g : Nat) (w w' : World) : Prop := w'.heap.size = w.heap.size ∧ ∀ k, k ≠ g → w'.heap[k]? = w.heap[k]?
theorem Only.refl (g : Nat) (w : World) : Only g w w := ⟨rfl, fun _ _ => rfl⟩
theorem Only.trans {g : Nat} {w w1 w2 : World} (h : Only g w w1) (k : Only g w1 w2) : Only g w w2 := ⟨k.1.trans h.1, fun b hb => (k.2 b hb).trans (h.2 b hb)⟩
theorem Only.setCell {g : Nat} {w w1 : World} (h : Only g w w1) (o : Nat) (v : Value) : Only g w (w1.setCell ⟨g, o, none⟩ v) :=
  ⟨by rw [World.size_setCell]; exact h.1, fun b hb => (heap_setCell_other w1 ⟨g, o, none⟩ b v hb).trans (h.2 b hb)⟩
theorem Only.drewN {g : Nat} {w w1 : World} (h : Only g w w1) (q : Nat) : Only g w (w1.drewN q) := h
theorem Only.cell {g : Nat} {w w1 : World} (h : Only g w w1) {p : Addr} (hp : p.block ≠ g) : w1.cell? p = w.cell? p := World.cell?_of_block (h.2 p.block hp)

def BytePost (m : Int) (B : Nat) (a : Option Addr) (n c g : Nat) (W0 w : World) (e : Ending) (w' : World) : Prop := ∃ x : Int, 0 ≤ x ∧ x ≤ m ∧ e = .returned (.int .i64 x) ∧ Cur B a n c g W0 w' ∧ Only g w w'

set_option maxRecDepth 100000 in
set_option maxHeartbeats 1600000 in
theorem l1Byte (B : Nat) (a : Option Addr) (n c g : Nat) (W0 w : World) (hcode : CodeAt W0 B a n) (hn : n ≤ 1048576) (hcur : Cur B a n c g W0 w) :
    Calls Tryz.prog 65 #[.pointer (some ⟨g, 0, none⟩)] w (BytePost 255 B a n c g W0 w) := by
  obtain ⟨h1, h2, h3, i, h, h4, h5⟩ := hcur
  have hc0 : w.cell? ⟨g, 0, none⟩ = some (.slice a n c) := by rw [cell_of_row w g 0 _ _ _ h5]; rfl
  have hc1 : w.cell? ⟨g, 1, none⟩ = some (.int .i64 i) := by rw [cell_of_row w g 1 _ _ _ h5]; rfl
  have hc2 : w.cell? ⟨g, 2, none⟩ = some (.int .i64 h) := by rw [cell_of_row w g 2 _ _ _ h5]; rfl
  have hf2 : w.frozen? ⟨g, 2, none⟩ = false := frozen_of_row w g 2 _ _ h5
  have hf1 : w.frozen? ⟨g, 1, none⟩ = false := frozen_of_row w g 1 _ _ h5
  have hs : ∀ v, (w.setCell ⟨g, 2, none⟩ v).heap[g]? = some (.cells #[.slice a n c, .int .i64 i, v] 70 (0, 0)) := fun v => heap_setCell_same w g 2 _ _ v h5
  have d0 : ∀ v, (w.setCell ⟨g, 2, none⟩ v).cell? ⟨g, 0, none⟩ = some (.slice a n c) := fun v => by rw [cell_of_row _ g 0 _ _ _ (hs v)]; rfl
  have d1 : ∀ v, (w.setCell ⟨g, 2, none⟩ v).cell? ⟨g, 1, none⟩ = some (.int .i64 i) := fun v => by rw [cell_of_row _ g 1 _ _ _ (hs v)]; rfl
  have d2 : ∀ v, (w.setCell ⟨g, 2, none⟩ v).cell? ⟨g, 2, none⟩ = some v := fun v => by rw [cell_of_row _ g 2 _ _ _ (hs v)]; rfl
  have HS := Lib.hid hs
  have H1 := Lib.hid h1
  clear hs h1 h5
  by_cases hlt : i < n
  · obtain ⟨b, off, z, rfl, hb, z0, z1, hz⟩ := hcode i hlt
    have hz' : ∀ v, (w.setCell ⟨g, 2, none⟩ v).cell? ⟨b, off + i, none⟩ = some (.int .u8 z) := by
      intro v
      rw [← hz]
      exact (H1.out.setCell (p := ⟨g, 2, none⟩) h3 v).cell (p := ⟨b, off + i, none⟩) hb
    clear hz hcode
    go_enter Tryz.func65, Tryz.ntmps65
    go_wp2
    go_quiet (fail)
    go_wp2
    go_quiet (fail)
    go_wp2
    go_quiet (fail)
    go_wp2
    go_ret
    refine ⟨_, (and255 _).1, (and255 _).2, rfl, ?_⟩
    have hx : ∀ v q, ((w.setCell ⟨g, 2, none⟩ v).drewN q).heap[g]? = some (.cells #[.slice (some ⟨b, off, none⟩) n c, .int .i64 i, v] 70 (0, 0)) := fun v q => HS.out v
    exact ⟨⟨(below_drewN (H1.out.setCell h3 _) _).setCell h3 _, by simpa using h2, h3, i + 1, _, by omega, (heap_setCell_same _ g 1 _ _ _ (hx _ _)).trans rfl⟩, (((Only.refl g w).setCell 2 _).drewN _).setCell 1 _⟩
  · have hle : (n : Int) ≤ (i : Int) := by omega
    clear hcode
    go_enter Tryz.func65, Tryz.ntmps65
    go_wp2
    go_quiet (fail)
    go_wp2
    go_quiet (fail)
    go_wp2
    go_ret
    exact ⟨_, (and255 _).1, (and255 _).2, rfl, ⟨below_drewN (below_drewN (H1.out.setCell (p := ⟨g, 2, none⟩) h3 _) _) _, by simpa using h2, h3, i, _, h4, HS.out _⟩, (((Only.refl g w).setCell 2 _).drewN _).drewN _⟩

/-- A number from 0 to n - 1; 0 where n is not above 0. -/
def BelowPost (m : Int) (B : Nat) (a : Option Addr) (n c g : Nat) (W0 w : World) (e : Ending) (w' : World) : Prop := ∃ x : Int, 0 ≤ x ∧ (x < m ∨ x = 0) ∧ e = .returned (.int .i64 x) ∧ Cur B a n c g W0 w' ∧ Only g w w'

set_option maxRecDepth 100000 in
set_option maxHeartbeats 1600000 in
theorem l1Below (m : Int) (hm : m ≤ 1000000000) (B : Nat) (a : Option Addr) (n c g : Nat) (W0 w : World) (hcode : CodeAt W0 B a n) (hn : n ≤ 1048576) (hcur : Cur B a n c g W0 w) :
    Calls Tryz.prog 37 #[.pointer (some ⟨g, 0, none⟩), .int .i64 m] w (BelowPost m B a n c g W0 w) := by
  have HB := Lib.hid (fun w => l1Byte B a n c g W0 w hcode hn)
  have HC := Lib.hid hcur
  clear hcode hcur
  by_cases h0 : m ≤ 0
  · go_enter Tryz.func37, Tryz.ntmps37
    go_wp2
    go_ret
    exact ⟨0, Int.le_refl _, Or.inr rfl, rfl, HC.out, Only.refl _ _⟩
  by_cases h1 : m ≤ 256
  · go_enter Tryz.func37, Tryz.ntmps37
    go_wp2_with fail
    refine (HB.out _ HC.out).mono ?_
    rintro e w1 ⟨x, x0, x1, rfl, hc1, ho1⟩
    go_wp2
    go_ret
    exact ⟨_, Int.emod_nonneg _ (by omega), Or.inl (Int.emod_lt_of_pos _ (by omega)), rfl, hc1, ho1⟩
  · go_enter Tryz.func37, Tryz.ntmps37
    go_wp2_with fail
    refine (HB.out _ HC.out).mono ?_
    rintro e w1 ⟨x, x0, x1, rfl, hc1, ho1⟩
    go_wp2_with fail
    refine (HB.out _ hc1).mono ?_
    rintro e w2 ⟨y, y0, y1, rfl, hc2, ho2⟩
    clear hc1
    go_wp2_with fail
    refine (HB.out _ hc2).mono ?_
    rintro e w3 ⟨z, z0, z1, rfl, hc3, ho3⟩
    clear hc2
    go_wp2_with fail
    refine (HB.out _ hc3).mono ?_
    rintro e w4 ⟨u, u0, u1, rfl, hc4, ho4⟩
    clear hc3
    go_wp2
    go_ret
    exact ⟨_, Int.emod_nonneg _ (by omega), Or.inl (Int.emod_lt_of_pos _ (by omega)), rfl, hc4, ((ho1.trans ho2).trans ho3).trans ho4⟩

def OncePost (B : Nat) (a : Option Addr) (n c g : Nat) (W0 w : World) (e : Ending) (w' : World) : Prop := ∃ x : Bool, e = .returned (.bool x) ∧ Cur B a n c g W0 w' ∧ Only g w w'

set_option maxRecDepth 100000 in
set_option maxHeartbeats 400000 in
theorem l1Once (m : Int) (hm : m ≤ 1000000000) (B : Nat) (a : Option Addr) (n c g : Nat) (W0 w : World) (hcode : CodeAt W0 B a n) (hn : n ≤ 1048576) (hcur : Cur B a n c g W0 w) :
    Calls Tryz.prog 38 #[.pointer (some ⟨g, 0, none⟩), .int .i64 m] w (OncePost B a n c g W0 w) := by
  have HB := Lib.hid (l1Below m hm B a n c g W0 w hcode hn hcur)
  clear hcode hcur
  go_enter Tryz.func38, Tryz.ntmps38
  go_wp2_with fail
  refine HB.out.mono ?_
  rintro e w1 ⟨x, x0, x1, rfl, hc1, ho1⟩
  go_wp2
  go_ret
  exact ⟨_, rfl, hc1, ho1⟩
end Go.Proofs.YtalclebehbdliaaGreatDoor
namespace Go.Proofs.YtalclebehbdliaaGreatDoor
open Go Go.RowKit

/-- From ⟨b, off⟩ on the cells hold the strings xs. -/
def StrsAt (w : World) (b off : Nat) (xs : List ByteArray) : Prop := ∀ k, k < xs.length → w.cell? ⟨b, off + k, none⟩ = some (.string (xs.getD k ByteArray.empty))
theorem StrsAt.below {B b off : Nat} {w w' : World} {xs : List ByteArray} (h : StrsAt w b off xs) (hb : Below B w w') (hlt : b < B) : StrsAt w' b off xs :=
  fun k hk => (hb.cell (p := ⟨b, off + k, none⟩) hlt).trans (h k hk)
theorem StrsAt.of_owns {w : World} {base e g n cap : Nat} {xs : List ByteArray} (h : w.ownsRow base e 1 (.slice (some ⟨g, 0, none⟩) n cap) n (xs.map Value.string)) (hn : n = xs.length) : StrsAt w g 0 xs := by
  intro k hk
  rw [Nat.zero_add, h.cellAt k (by omega)]
  simp [List.getD, List.getElem?_eq_getElem hk]
/-- How long the strings are together. -/
def total (xs : List ByteArray) : Nat := (xs.map (·.size)).sum
theorem take_next (xs : List ByteArray) (k : Nat) (h : k < xs.length) : xs.take (k + 1) = xs.take k ++ [xs.getD k ByteArray.empty] := by
  rw [List.take_succ_eq_append_getElem h]
  simp [List.getD, List.getElem?_eq_getElem h]
theorem total_next (xs : List ByteArray) (k : Nat) (h : k < xs.length) : total (xs.take (k + 1)) = total (xs.take k) + (xs.getD k ByteArray.empty).size := by
  rw [take_next xs k h]; simp [total]
theorem total_le_take (xs : List ByteArray) (k : Nat) : total (xs.take k) ≤ total xs := by
  have h2 : total (xs.take k ++ xs.drop k) = total (xs.take k) + total (xs.drop k) := by simp only [total, List.map_append, List.sum_append]
  rw [List.take_append_drop] at h2
  omega
theorem size_le_total {xs : List ByteArray} {k : Nat} (h : k < xs.length) : (xs.getD k ByteArray.empty).size ≤ total xs := by
  have := total_next xs k h
  have := total_le_take xs (k + 1)
  omega
theorem total_all {xs : List ByteArray} {k : Nat} (h : xs.length ≤ k) : total (xs.take k) = total xs := by rw [List.take_of_length_le h]
/-- A row that is being filled from the front. -/
def filled (xs : List ByteArray) (k n : Nat) : List Value := (xs.take k).map Value.string ++ List.replicate (n - k) (.string ByteArray.empty)
theorem filled_none (xs : List ByteArray) (n : Nat) : filled xs 0 n = List.replicate n (.string ByteArray.empty) := by simp [filled]
theorem filled_all (xs : List ByteArray) : filled xs xs.length xs.length = xs.map Value.string := by simp [filled]
theorem filled_set (xs : List ByteArray) (k : Nat) (h : k < xs.length) : (filled xs k xs.length).set k (.string (xs.getD k ByteArray.empty)) = filled xs (k + 1) xs.length := by
  have hl : ((xs.take k).map Value.string).length = k := by simp; omega
  have hr : List.replicate (xs.length - k) (Value.string ByteArray.empty) = .string ByteArray.empty :: List.replicate (xs.length - (k + 1)) (.string ByteArray.empty) := by
    rw [show xs.length - k = (xs.length - (k + 1)) + 1 by omega, List.replicate_succ]
  unfold filled
  rw [take_next xs k h, List.map_append, hr]
  rw [List.set_append_right _ _ (by omega), hl, Nat.sub_self]
  simp
theorem filled_at (xs : List ByteArray) (k : Nat) (h : k < xs.length) : (filled xs k xs.length)[k]? = some (.string ByteArray.empty) := by
  have hl : ((xs.take k).map Value.string).length = k := by simp; omega
  unfold filled
  rw [List.getElem?_append_right (by omega), hl, Nat.sub_self]
  rw [List.getElem?_replicate, if_pos (by omega)]
end Go.Proofs.YtalclebehbdliaaGreatDoor
namespace Go.Proofs.YtalclebehbdliaaGreatDoor
open Go Go.RowKit

def NewPost (B : Nat) (a : Option Addr) (n c : Nat) (W0 : World) (e : Ending) (w' : World) : Prop := ∃ g, e = .returned (.pointer (some ⟨g, 0, none⟩)) ∧ Cur B a n c g W0 w' ∧ g < w'.heap.size

theorem codeAt_pos {W0 : World} {B : Nat} {a : Option Addr} {n : Nat} (h : CodeAt W0 B a n) (hn : 0 < n) : ∃ b off, a = some ⟨b, off, none⟩ ∧ b < B ∧ ∀ k, k < n → ∃ z, 0 ≤ z ∧ z ≤ 255 ∧ W0.cell? ⟨b, off + k, none⟩ = some (.int .u8 z) := by
  obtain ⟨b, off, _, ha, hb, _⟩ := h 0 hn
  refine ⟨b, off, ha, hb, fun k hk => ?_⟩
  obtain ⟨b', off', z, ha', _, z0, z1, hz⟩ := h k hk
  rw [ha] at ha'
  injection ha' with h1
  injection h1 with h2 h3
  subst h2; subst h3
  exact ⟨z, z0, z1, hz⟩

set_option maxRecDepth 100000 in
set_option maxHeartbeats 1600000 in
theorem l1New (B : Nat) (a : Option Addr) (n c : Nat) (W0 w : World) (hcode : CodeAt W0 B a n) (hn : n ≤ 1048576) (hb : Below B W0 w) (hB : B ≤ w.heap.size) :
    Calls Tryz.prog 29 #[.slice a n c] w (NewPost B a n c W0) := by
  rcases Nat.eq_zero_or_pos n with h0 | h0
  · subst h0
    clear hcode
    go_enter Tryz.func29, Tryz.ntmps29
    go_wp2
    refine wp_loop_rounds 1 ?_
    rw [rounds_succ]
    go_wp2
    go_ret
    exact ⟨w.heap.size, rfl, ⟨hb.alloc hB _, by simp; omega, hB, 0, _, Nat.le_refl _, heap_alloc_new w _⟩, by simp⟩
  · obtain ⟨b, off, rfl, hbB, hz⟩ := codeAt_pos hcode h0
    have HZ := Lib.hid hz
    clear hz hcode
    go_enter Tryz.func29, Tryz.ntmps29
    go_wp2
    go_loop [3, 4] (fun h i => ∃ (x : Int) (k : Nat), k ≤ n ∧ h = .int .i64 x ∧ i = .int .i64 k) (fun _ i => n - (intOf i).toNat)
    case atStart => exact ⟨_, 0, Nat.zero_le _, rfl, rfl⟩
    case round =>
      obtain ⟨x, k, hk, rfl, rfl⟩ := hrel
      by_cases hlt : k < n
      · by_cases h4 : k < 4000
        · obtain ⟨z, z0, z1, hz⟩ := HZ.out k hlt
          have hzw : w.cell? ⟨b, off + k, none⟩ = some (.int .u8 z) := (hb.cell (p := ⟨b, off + k, none⟩) hbB).trans hz
          clear hz
          have g1 : decide ((k : Int) < 4000) = true := by simp; omega
          have g2 : decide (k < n) = true := by simpa using hlt
          go_wp2
          go_round
          case rel => exact ⟨_, k + 1, by omega, rfl, by go_num⟩
          case measure => simp [intOf]; omega
        · have g1 : decide ((k : Int) < 4000) = false := by simp; omega
          have g2 : decide (k < n) = true := by simpa using hlt
          go_wp2
          go_ret
          exact ⟨w.heap.size, rfl, ⟨hb.alloc hB _, by simp; omega, hB, 0, _, Nat.zero_le _, heap_alloc_new w _⟩, by simp⟩
      · have g2 : decide (k < n) = false := by simpa using hlt
        go_wp2
        go_ret
        exact ⟨w.heap.size, rfl, ⟨hb.alloc hB _, by simp; omega, hB, 0, _, Nat.zero_le _, heap_alloc_new w _⟩, by simp⟩
end Go.Proofs.YtalclebehbdliaaGreatDoor
namespace Go.Proofs.YtalclebehbdliaaGreatDoor
open Go Go.RowKit

/-- A list of strings in a new block. -/
theorem strsAt_new (w : World) (xs : List ByteArray) (t : TypeId) : StrsAt (w.alloc (.cells (xs.map Value.string).toArray t)) w.heap.size 0 xs := by
  intro k hk
  rw [Nat.zero_add, World.cell?_alloc_mark]
  simp [List.getD, List.getElem?_eq_getElem hk]
/-- From ⟨b, 0⟩ on the cells hold the ints zs. -/
def NumsAt (w : World) (b : Nat) (zs : List Int) : Prop := ∀ k, k < zs.length → w.cell? ⟨b, k, none⟩ = some (.int .i64 (zs.getD k 0))
theorem intsAt_new (w : World) (zs : List Int) (t : TypeId) : NumsAt (w.alloc (.cells (zs.map (Value.int .i64)).toArray t)) w.heap.size zs := by
  intro k hk
  rw [World.cell?_alloc_mark]
  simp [List.getD, List.getElem?_eq_getElem hk]

def PickPost (xs : List ByteArray) (B : Nat) (a : Option Addr) (n c g : Nat) (W0 w : World) (e : Ending) (w' : World) : Prop := ∃ k, k < xs.length ∧ e = .returned (.string (xs.getD k ByteArray.empty)) ∧ Cur B a n c g W0 w' ∧ Only g w w'

set_option maxRecDepth 100000 in
set_option maxHeartbeats 400000 in
theorem l1Pick (b d : Nat) (xs : List ByteArray) (hx0 : 0 < xs.length) (hx : xs.length ≤ 1000000) (B : Nat) (a : Option Addr) (n c g : Nat) (W0 w : World) (hcode : CodeAt W0 B a n) (hn : n ≤ 1048576) (hcur : Cur B a n c g W0 w) (hst : StrsAt w b 0 xs) (hbg : b ≠ g) :
    Calls Tryz.prog 64 #[.pointer (some ⟨g, 0, none⟩), .slice (some ⟨b, 0, none⟩) xs.length d] w (PickPost xs B a n c g W0 w) := by
  have HB := Lib.hid (l1Below xs.length (by omega) B a n c g W0 w hcode hn hcur)
  have HS := Lib.hid hst
  clear hcode hcur hst
  go_enter Tryz.func64, Tryz.ntmps64
  go_wp2_with fail
  refine HB.out.mono ?_
  rintro e w1 ⟨x, x0, x1, rfl, hc1, ho1⟩
  obtain ⟨k, rfl⟩ := Int.eq_ofNat_of_zero_le x0
  have hk : k < xs.length := by omega
  have hcell : w1.cell? ⟨b, k, none⟩ = some (.string (xs.getD k ByteArray.empty)) := by
    rw [ho1.cell (p := ⟨b, k, none⟩) hbg, ← HS.out k hk, Nat.zero_add]
  have HX : Hid (∃ x, xs.getD k ByteArray.empty = x) := ⟨_, rfl⟩
  obtain ⟨s, hs⟩ := HX.out
  rw [hs] at hcell
  have HE := Lib.hid hs
  clear hs
  go_wp2
  go_ret
  exact ⟨k, hk, by rw [HE.out]; rfl, hc1, ho1⟩

def PickIntPost (zs : List Int) (B : Nat) (a : Option Addr) (n c g : Nat) (W0 w : World) (e : Ending) (w' : World) : Prop := ∃ k, k < zs.length ∧ e = .returned (.int .i64 (zs.getD k 0)) ∧ Cur B a n c g W0 w' ∧ Only g w w'

set_option maxRecDepth 100000 in
set_option maxHeartbeats 400000 in
theorem l1PickInt (b d : Nat) (zs : List Int) (hx0 : 0 < zs.length) (hx : zs.length ≤ 1000000) (B : Nat) (a : Option Addr) (n c g : Nat) (W0 w : World) (hcode : CodeAt W0 B a n) (hn : n ≤ 1048576) (hcur : Cur B a n c g W0 w) (hst : NumsAt w b zs) (hbg : b ≠ g) :
    Calls Tryz.prog 59 #[.pointer (some ⟨g, 0, none⟩), .slice (some ⟨b, 0, none⟩) zs.length d] w (PickIntPost zs B a n c g W0 w) := by
  have HB := Lib.hid (l1Below zs.length (by omega) B a n c g W0 w hcode hn hcur)
  have HS := Lib.hid hst
  clear hcode hcur hst
  go_enter Tryz.func59, Tryz.ntmps59
  go_wp2_with fail
  refine HB.out.mono ?_
  rintro e w1 ⟨x, x0, x1, rfl, hc1, ho1⟩
  obtain ⟨k, rfl⟩ := Int.eq_ofNat_of_zero_le x0
  have hk : k < zs.length := by omega
  have hcell : w1.cell? ⟨b, k, none⟩ = some (.int .i64 (zs.getD k 0)) := by
    rw [ho1.cell (p := ⟨b, k, none⟩) hbg, ← HS.out k hk]
  have HX : Hid (∃ x, zs.getD k 0 = x) := ⟨_, rfl⟩
  obtain ⟨s, hs⟩ := HX.out
  rw [hs] at hcell
  have HE := Lib.hid hs
  clear hs
  go_wp2
  go_ret
  exact ⟨k, hk, by rw [HE.out]; rfl, hc1, ho1⟩
end Go.Proofs.YtalclebehbdliaaGreatDoor
namespace Go.Proofs.YtalclebehbdliaaGreatDoor
open Go Go.RowKit

/-! ### Tables -/

def rowOk (n : Nat) (r : List Int) : Bool := decide (r.length = n) && r.all fun x => decide (0 ≤ x ∧ x ≤ 1000000)
def isMat (m : List (List Int)) : Bool := (m.all (rowOk m.length)) && decide (1 ≤ m.length ∧ m.length ≤ 9)
def cellOf (m : List (List Int)) (i j : Nat) : Int := (m.getD i []).getD j 0
theorem rowOk_iff {n : Nat} {r : List Int} : rowOk n r = true ↔ r.length = n ∧ ∀ k, k < r.length → 0 ≤ r.getD k 0 ∧ r.getD k 0 ≤ 1000000 := by
  unfold rowOk
  rw [Bool.and_eq_true, decide_eq_true_iff, List.all_eq_true]
  constructor
  · rintro ⟨h1, h2⟩
    refine ⟨h1, fun k hk => ?_⟩
    have := h2 r[k] (List.getElem_mem hk)
    simp only [decide_eq_true_eq] at this
    simpa [List.getD, hk] using this
  · rintro ⟨h1, h2⟩
    refine ⟨h1, fun x hx => ?_⟩
    obtain ⟨k, hk, rfl⟩ := List.getElem_of_mem hx
    have := h2 k hk
    simp only [decide_eq_true_eq]
    simpa [List.getD, hk] using this
theorem isMat_iff {m : List (List Int)} : isMat m = true ↔ (1 ≤ m.length ∧ m.length ≤ 9) ∧ ∀ i, i < m.length → (m.getD i []).length = m.length ∧ ∀ j, j < m.length → 0 ≤ cellOf m i j ∧ cellOf m i j ≤ 1000000 := by
  unfold isMat
  rw [Bool.and_eq_true, decide_eq_true_iff, List.all_eq_true, and_comm]
  refine and_congr_right fun _ => ⟨fun h i hi => ?_, fun h r hr => ?_⟩
  · have := rowOk_iff.1 (h m[i] (List.getElem_mem hi))
    have e : m.getD i [] = m[i] := by simp [List.getD, hi]
    unfold cellOf
    rw [e]
    exact ⟨this.1, fun j hj => this.2 j (by rw [this.1]; exact hj)⟩
  · obtain ⟨i, hi, rfl⟩ := List.getElem_of_mem hr
    have e : m.getD i [] = m[i] := by simp [List.getD, hi]
    have := h i hi
    unfold cellOf at this
    rw [e] at this
    exact rowOk_iff.2 ⟨this.1, fun k hk => this.2 k (by rw [← this.1]; exact hk)⟩

/-- f 0 + .. + f (n - 1). -/
def sumTo : Nat → (Nat → Int) → Int
  | 0, _ => 0
  | n + 1, f => sumTo n f + f n
theorem sumTo_congr {f g : Nat → Int} : ∀ (n : Nat), (∀ k, k < n → f k = g k) → sumTo n f = sumTo n g
  | 0, _ => rfl
  | n + 1, h => by rw [sumTo, sumTo, sumTo_congr n (fun k hk => h k (by omega)), h n (by omega)]
theorem sumTo_le {f : Nat → Int} {B : Int} : ∀ (n : Nat), (∀ k, k < n → 0 ≤ f k ∧ f k ≤ B) → 0 ≤ sumTo n f ∧ sumTo n f ≤ n * B
  | 0, _ => ⟨Int.le_refl _, by simp [sumTo]⟩
  | n + 1, h => by
    obtain ⟨h1, h2⟩ := sumTo_le n (fun k hk => h k (by omega))
    obtain ⟨h3, h4⟩ := h n (by omega)
    rw [sumTo]
    refine ⟨by omega, ?_⟩
    have : ((n + 1 : Nat) : Int) * B = n * B + B := by rw [Int.natCast_succ, Int.add_mul, Int.one_mul]
    omega
/-- A table by its numbers. -/
def tabOf (n m : Nat) (f : Nat → Nat → Int) : List (List Int) := (List.range n).map fun i => (List.range m).map (f i)
theorem tabOf_length (n m : Nat) (f : Nat → Nat → Int) : (tabOf n m f).length = n := by simp [tabOf]
theorem tabOf_row {n m : Nat} {f : Nat → Nat → Int} {i : Nat} (hi : i < n) : (tabOf n m f).getD i [] = (List.range m).map (f i) := by simp [tabOf, List.getD, hi]
theorem tabOf_cell {n m : Nat} {f : Nat → Nat → Int} {i j : Nat} (hi : i < n) (hj : j < m) : cellOf (tabOf n m f) i j = f i j := by
  unfold cellOf
  rw [tabOf_row hi]
  simp [List.getD, hj]
theorem tabOf_congr {n m : Nat} {f g : Nat → Nat → Int} (h : ∀ i j, i < n → j < m → f i j = g i j) : tabOf n m f = tabOf n m g := by
  unfold tabOf
  refine List.map_congr_left fun i hi => List.map_congr_left fun j hj => ?_
  exact h i j (List.mem_range.1 hi) (List.mem_range.1 hj)
theorem tabOf_self {m : List (List Int)} {n : Nat} (h : ∀ i, i < m.length → (m.getD i []).length = n) : tabOf m.length n (cellOf m) = m := by
  refine List.ext_getElem (tabOf_length _ _ _) fun i h1 h2 => ?_
  have hr := h i h2
  have e : m.getD i [] = m[i] := by simp [List.getD, h2]
  have e1 : (tabOf m.length n (cellOf m))[i] = (List.range n).map (cellOf m i) := by simp [tabOf]
  rw [e1]
  rw [e] at hr
  refine List.ext_getElem (by simp [hr]) fun j k1 k2 => ?_
  simp [cellOf, List.getD, h2, k2]
def mulM (a b : List (List Int)) : List (List Int) := tabOf a.length b.length fun i j => sumTo b.length fun k => cellOf a i k * cellOf b k j
def oneM (n : Nat) : List (List Int) := tabOf n n fun i j => if i = j then 1 else 0
def turnM (m : List (List Int)) : List (List Int) := tabOf m.length m.length fun i j => cellOf m j i
/-- The product of two matrices, where there is one. -/
def prodM (a b : List (List Int)) : Option (List (List Int)) := if isMat a && isMat b && decide (a.length = b.length) && isMat (mulM a b) then some (mulM a b) else none
/-- The products of k times m, made one after the other. -/
def powM (m : List (List Int)) : Nat → Option (List (List Int))
  | 0 => some (oneM m.length)
  | k + 1 => (powM m k).bind fun p => prodM p m
def traceM (m : List (List Int)) : Int := if isMat m then sumTo m.length fun k => cellOf m k k else -1
def sumM (m : List (List Int)) : Int := if isMat m then sumTo m.length fun i => sumTo m.length fun j => cellOf m i j else -1

theorem prodM_some {a b c : List (List Int)} (h : prodM a b = some c) : isMat a = true ∧ isMat b = true ∧ a.length = b.length ∧ isMat c = true ∧ c = mulM a b := by
  unfold prodM at h
  split at h
  · next hc =>
    rw [Bool.and_eq_true, Bool.and_eq_true, Bool.and_eq_true, decide_eq_true_iff] at hc
    obtain ⟨⟨⟨h1, h2⟩, h3⟩, h4⟩ := hc
    obtain rfl := Option.some.inj h
    exact ⟨h1, h2, h3, h4, rfl⟩
  · cases h
theorem oneM_isMat {n : Nat} (h1 : 1 ≤ n) (h2 : n ≤ 9) : isMat (oneM n) = true := by
  have hl : (oneM n).length = n := tabOf_length _ _ _
  refine isMat_iff.2 ⟨by omega, fun i hi => ⟨?_, fun j hj => ?_⟩⟩
  · rw [hl] at hi
    unfold oneM; rw [tabOf_row hi, List.length_map, List.length_range, tabOf_length]
  · rw [hl] at hi hj
    unfold oneM
    rw [tabOf_cell hi hj]
    split <;> omega
theorem powM_length {m : List (List Int)} : ∀ (k : Nat) {p : List (List Int)}, powM m k = some p → p.length = m.length
  | 0, p, h => by
    obtain rfl := Option.some.inj h
    exact tabOf_length _ _ _
  | k + 1, p, h => by
    rw [powM] at h
    obtain ⟨q, hq, hp⟩ := Option.bind_eq_some_iff.1 h
    obtain ⟨_, _, h3, _, rfl⟩ := prodM_some hp
    unfold mulM
    rw [tabOf_length, powM_length k hq]
theorem powM_isMat {m : List (List Int)} (hm : isMat m = true) : ∀ (k : Nat) {p : List (List Int)}, powM m k = some p → isMat p = true
  | 0, p, h => by
    obtain rfl := Option.some.inj h
    obtain ⟨⟨h1, h2⟩, _⟩ := isMat_iff.1 hm
    exact oneM_isMat h1 h2
  | k + 1, p, h => by
    rw [powM] at h
    obtain ⟨q, hq, hp⟩ := Option.bind_eq_some_iff.1 h
    exact (prodM_some hp).2.2.2.1
theorem powM_stuck {m : List (List Int)} {k : Nat} (h : powM m k = none) : ∀ (n : Nat), k ≤ n → powM m n = none := by
  intro n hn
  induction n with
  | zero => obtain rfl : k = 0 := by omega
            exact h
  | succ n ih =>
    by_cases hk : k = n + 1
    · subst hk; exact h
    · rw [powM, ih (by omega)]; rfl
end Go.Proofs.YtalclebehbdliaaGreatDoor
namespace Go.Proofs.YtalclebehbdliaaGreatDoor
open Go Go.RowKit

/-- From ⟨b, off⟩ on the cells hold the numbers xs. -/
def IntsAt (w : World) (b off : Nat) (xs : List Int) : Prop := ∀ k, k < xs.length → w.cell? ⟨b, off + k, none⟩ = some (.int .i64 (xs.getD k 0))
theorem IntsAt.below {B b off : Nat} {w w' : World} {xs : List Int} (h : IntsAt w b off xs) (hb : Below B w w') (hlt : b < B) : IntsAt w' b off xs :=
  fun k hk => (hb.cell (p := ⟨b, off + k, none⟩) hlt).trans (h k hk)
theorem IntsAt.of_owns {w : World} {base e g n cap : Nat} {xs : List Int} (h : w.ownsRow base e 1 (.slice (some ⟨g, 0, none⟩) n cap) n (xs.map (Value.int .i64))) (hn : n = xs.length) : IntsAt w g 0 xs := by
  intro k hk
  rw [Nat.zero_add, h.cellAt k (by omega)]
  simp [List.getD, List.getElem?_eq_getElem hk]
/-- The slice A holds the numbers xs. -/
def RowS (w : World) (A : Option Addr) (xs : List Int) : Prop := 0 < xs.length → ∃ b off, A = some ⟨b, off, none⟩ ∧ IntsAt w b off xs ∧ b < w.heap.size
theorem RowS.below {w w' : World} {A : Option Addr} {xs : List Int} (h : RowS w A xs) (hb : Below w.heap.size w w') : RowS w' A xs := by
  intro hp
  obtain ⟨b, off, hA, hs, hg⟩ := h hp
  exact ⟨b, off, hA, hs.below hb hg, Nat.lt_of_lt_of_le hg hb.size⟩
/-- From ⟨b, off⟩ on the cells hold slices, each of a row of m. -/
def GridAt (w : World) (b off : Nat) (m : List (List Int)) : Prop := ∀ k, k < m.length → ∃ A c, w.cell? ⟨b, off + k, none⟩ = some (.slice A (m.getD k []).length c) ∧ RowS w A (m.getD k [])
theorem GridAt.below {b off : Nat} {w w' : World} {m : List (List Int)} (h : GridAt w b off m) (hb : Below w.heap.size w w') (hlt : b < w.heap.size) : GridAt w' b off m := by
  intro k hk
  obtain ⟨A, c, hc, hr⟩ := h k hk
  exact ⟨A, c, (hb.cell (p := ⟨b, off + k, none⟩) hlt).trans hc, hr.below hb⟩
/-- The slice A holds the table m. -/
def GridS (w : World) (A : Option Addr) (m : List (List Int)) : Prop := 0 < m.length → ∃ b off, A = some ⟨b, off, none⟩ ∧ GridAt w b off m ∧ b < w.heap.size
theorem GridS.below {w w' : World} {A : Option Addr} {m : List (List Int)} (h : GridS w A m) (hb : Below w.heap.size w w') : GridS w' A m := by
  intro hp
  obtain ⟨b, off, hA, hs, hg⟩ := h hp
  exact ⟨b, off, hA, hs.below hb hg, Nat.lt_of_lt_of_le hg hb.size⟩
theorem GridS.nil (w : World) (A : Option Addr) : GridS w A [] := fun h => by simp at h
/-- Row k of a table in memory. -/
theorem GridS.row {w : World} {A : Option Addr} {m : List (List Int)} (h : GridS w A m) {k : Nat} (hk : k < m.length) :
    ∃ b off A' c, A = some ⟨b, off, none⟩ ∧ w.cell? ⟨b, off + k, none⟩ = some (.slice A' (m.getD k []).length c) ∧ RowS w A' (m.getD k []) ∧ b < w.heap.size := by
  obtain ⟨b, off, hA, hs, hg⟩ := h (by omega)
  obtain ⟨A', c, hc, hr⟩ := hs k hk
  exact ⟨b, off, A', c, hA, hc, hr, hg⟩

/-- How many numbers a table has. -/
def tot (m : List (List Int)) : Nat := (m.map List.length).sum
theorem rows_take_next (m : List (List Int)) (k : Nat) (h : k < m.length) : m.take (k + 1) = m.take k ++ [m.getD k []] := by
  rw [List.take_succ_eq_append_getElem h]
  simp [List.getD, List.getElem?_eq_getElem h]
theorem tot_next (m : List (List Int)) (k : Nat) (h : k < m.length) : tot (m.take (k + 1)) = tot (m.take k) + (m.getD k []).length := by
  rw [rows_take_next m k h]; simp [tot]
theorem tot_take_le (m : List (List Int)) (k : Nat) : tot (m.take k) ≤ tot m := by
  have h2 : tot (m.take k ++ m.drop k) = tot (m.take k) + tot (m.drop k) := by simp only [tot, List.map_append, List.sum_append]
  rw [List.take_append_drop] at h2
  omega
theorem row_le_tot {m : List (List Int)} {k : Nat} (h : k < m.length) : (m.getD k []).length ≤ tot m := by
  have := tot_next m k h
  have := tot_take_le m (k + 1)
  omega
theorem tot_all {m : List (List Int)} {k : Nat} (h : m.length ≤ k) : tot (m.take k) = tot m := by rw [List.take_of_length_le h]

/-- Of what was there only blocks from B on and below S have turned. -/
structure Within (B S : Nat) (w w' : World) : Prop where
  os : w'.os = w.os
  tape : w'.tape = w.tape
  output : w'.output = w.output
  size : w.heap.size ≤ w'.heap.size
  block : ∀ k, k < w.heap.size → k < B ∨ S ≤ k → w'.heap[k]? = w.heap[k]?
namespace Within
variable {B S : Nat} {w w' w'' : World}
theorem refl (B S : Nat) (w : World) : Within B S w w := ⟨rfl, rfl, rfl, Nat.le_refl _, fun _ _ _ => rfl⟩
theorem trans (h : Within B S w w') (k : Within B S w' w'') : Within B S w w'' :=
  ⟨k.os.trans h.os, k.tape.trans h.tape, k.output.trans h.output, Nat.le_trans h.size k.size, fun j hj hn => (k.block j (Nat.lt_of_lt_of_le hj h.size) hn).trans (h.block j hj hn)⟩
theorem mono {B' S' : Nat} (h : Within B S w w') (hB : B' ≤ B) (hS : S ≤ S') : Within B' S' w w' :=
  ⟨h.os, h.tape, h.output, h.size, fun k hk hn => h.block k hk (by omega)⟩
theorem of_grown {r : Option Nat} (h : w.grownBy w' r) (hr : ∀ g, r = some g → B ≤ g ∧ g < S) : Within B S w w' :=
  ⟨h.os, h.tape, h.output, h.size, fun k hk hn => h.block k hk (by
    intro e
    have := hr k e.symm
    omega)⟩
theorem of_below (h : Below w.heap.size w w') : Within B S w w' := ⟨h.os, h.tape, h.output, h.size, fun k hk _ => h.block k hk⟩
theorem below (h : Within B S w w') (hB : B ≤ w.heap.size) : Below B w w' := ⟨h.os, h.tape, h.output, h.size, fun k hk => h.block k (by omega) (Or.inl hk)⟩
theorem cell (h : Within B S w w') {p : Addr} (hp : p.block < B ∨ S ≤ p.block) (hl : p.block < w.heap.size) : w'.cell? p = w.cell? p := by
  have hb := h.block p.block hl hp
  unfold World.cell?
  rw [hb]
theorem ints (h : Within B S w w') {b off : Nat} {xs : List Int} (hi : IntsAt w b off xs) (hb : b < w.heap.size) (hn : b < B ∨ S ≤ b) : IntsAt w' b off xs :=
  fun k hk => (h.cell (p := ⟨b, off + k, none⟩) hn hb).trans (hi k hk)
end Within
end Go.Proofs.YtalclebehbdliaaGreatDoor
namespace Go.Proofs.YtalclebehbdliaaGreatDoor
open Go Go.RowKit

theorem infoInt : (Tryz.prog.info? 3).map (fun i => (i.zero, i.size, i.bytes)) = some (some (.int .i64 0), 1, 8) := by kernel_rfl
theorem infoSl : (Tryz.prog.info? 48).map (fun i => (i.zero, i.size, i.bytes)) = some (some (.slice none 0 0), 1, 24) := by kernel_rfl

def TrueBelowG (w : World) (e : Ending) (w' : World) : Prop := e = .returned (.bool true) ∧ Below w.heap.size w w'
/-- What is left of the limit, or -1. -/
def LeftPost (L : Int) (n : Nat) (w : World) (e : Ending) (w' : World) : Prop := ∃ r : Int, e = .returned (.int .i64 r) ∧ (r = -1 ∨ (0 ≤ r ∧ r + n = L)) ∧ w' = w

/-- What is left of the limit behind a table, or -1. -/
def SzGPost (L : Int) (m : List (List Int)) (w : World) (e : Ending) (w' : World) : Prop := ∃ r : Int, e = .returned (.int .i64 r) ∧ (r = -1 ∨ (0 ≤ r ∧ r + m.length + tot m = L)) ∧ w' = w

/-- A row that is being filled from the front. -/
def filledI (xs : List Int) (k n : Nat) : List Value := (xs.take k).map (Value.int .i64) ++ List.replicate (n - k) (.int .i64 0)
theorem filledI_none (xs : List Int) (n : Nat) : filledI xs 0 n = List.replicate n (.int .i64 0) := by simp [filledI]
theorem filledI_all (xs : List Int) : filledI xs xs.length xs.length = xs.map (Value.int .i64) := by simp [filledI]
theorem ints_take_next (xs : List Int) (k : Nat) (h : k < xs.length) : xs.take (k + 1) = xs.take k ++ [xs.getD k 0] := by
  rw [List.take_succ_eq_append_getElem h]
  simp [List.getD, List.getElem?_eq_getElem h]
theorem filledI_set (xs : List Int) (k : Nat) (h : k < xs.length) : (filledI xs k xs.length).set k (.int .i64 (xs.getD k 0)) = filledI xs (k + 1) xs.length := by
  have hl : ((xs.take k).map (Value.int .i64)).length = k := by simp; omega
  have hr : List.replicate (xs.length - k) (Value.int .i64 0) = .int .i64 0 :: List.replicate (xs.length - (k + 1)) (.int .i64 0) := by
    rw [show xs.length - k = (xs.length - (k + 1)) + 1 by omega, List.replicate_succ]
  unfold filledI
  rw [ints_take_next xs k h, List.map_append, hr]
  rw [List.set_append_right _ _ (by omega), hl, Nat.sub_self]
  simp
theorem filledI_at (xs : List Int) (k : Nat) (h : k < xs.length) : (filledI xs k xs.length)[k]? = some (.int .i64 0) := by
  have hl : ((xs.take k).map (Value.int .i64)).length = k := by simp; omega
  unfold filledI
  rw [List.getElem?_append_right (by omega), hl, Nat.sub_self]
  rw [List.getElem?_replicate, if_pos (by omega)]

/-- A copy in new memory, at the heap's end. -/
def CopyIPost (xs : List Int) (w : World) (e : Ending) (w' : World) : Prop :=
  e = .returned (.slice (some ⟨w.heap.size, 0, none⟩) xs.length xs.length) ∧ w'.ownsRow w.heap.size 3 1 (.slice (some ⟨w.heap.size, 0, none⟩) xs.length xs.length) xs.length (xs.map (Value.int .i64)) ∧ Below w.heap.size w w' ∧ w.heap.size < w'.heap.size

end Go.Proofs.YtalclebehbdliaaGreatDoor
namespace Go.Proofs.YtalclebehbdliaaGreatDoor
open Go Go.RowKit

theorem m_in (x lo hi : Int) (w : World) :
    Calls Tryz.prog 33 #[.int .i64 x, .int .i64 lo, .int .i64 hi] w fun e w' => e = .returned (.bool (decide (lo ≤ x) && decide (x ≤ hi))) ∧ w' = w := by
  go_enter Tryz.func33, Tryz.ntmps33
  cases h1 : decide (lo ≤ x) with
  | false => go_wp2; go_ret; exact ⟨rfl, rfl⟩
  | true => go_wp2; go_ret; exact ⟨rfl, rfl⟩

theorem isMat_not {m : List (List Int)} {k : Nat} (hk : k < m.length) (h : rowOk m.length (m.getD k []) = false) : isMat m = false := by
  unfold isMat
  have : m.all (rowOk m.length) = false := by
    rw [List.all_eq_false]
    refine ⟨m[k], List.getElem_mem hk, ?_⟩
    rw [show m[k] = m.getD k [] by simp [List.getD, hk], h]; simp
  rw [this]; rfl
theorem isMat_rows {m : List (List Int)} (h : ∀ j, j < m.length → rowOk m.length (m.getD j []) = true) : isMat m = (decide (1 ≤ (m.length : Int)) && decide ((m.length : Int) ≤ 9)) := by
  unfold isMat
  have : m.all (rowOk m.length) = true := by
    rw [List.all_eq_true]
    intro r hr
    obtain ⟨i, hi, rfl⟩ := List.getElem_of_mem hr
    have := h i hi
    simpa [List.getD, hi] using this
  rw [this, Bool.true_and]
  by_cases h1 : 1 ≤ m.length <;> by_cases h2 : m.length ≤ 9 <;> simp [h1, h2] <;> omega
theorem rowOk_short {n : Nat} {r : List Int} (h : ¬ r.length = n) : rowOk n r = false := by unfold rowOk; simp [h]
theorem rowOk_bad {n k : Nat} {r : List Int} (hk : k < r.length) (h : (decide ((0 : Int) ≤ r.getD k 0) && decide (r.getD k 0 ≤ 1000000)) = false) : rowOk n r = false := by
  cases e : rowOk n r with
  | false => rfl
  | true =>
    have := (rowOk_iff.1 e).2 k hk
    rw [decide_eq_true this.1, decide_eq_true this.2] at h
    cases h

set_option maxRecDepth 100000 in
set_option maxHeartbeats 1600000 in
theorem spec_isMatrix (A : Option Addr) (c : Nat) (m : List (List Int)) (hn : m.length ≤ 1099511627776) (ht : ∀ k, k < m.length → (m.getD k []).length ≤ 1099511627776) (w : World) (hg : GridS w A m) :
    Calls Tryz.prog 42 #[.slice A m.length c] w fun e w' => e = .returned (.bool (isMat m)) ∧ w' = w := by
  have HG := Lib.hid hg
  have HT := Lib.hid ht
  have HI := Lib.hid m_in
  clear hg ht
  go_enter Tryz.func42, Tryz.ntmps42
  go_wp2
  go_loop [3] (fun i => ∃ k : Nat, k ≤ m.length ∧ i = .int .i64 k ∧ Hid (∀ j, j < k → rowOk m.length (m.getD j []) = true)) (fun i => m.length - (intOf i).toNat)
  case atStart => exact ⟨0, Nat.zero_le _, rfl, Lib.hid (fun j h => by omega)⟩
  case round =>
    obtain ⟨k, hk, rfl, hto⟩ := hrel
    by_cases hlt : k < m.length
    · obtain ⟨b, off, A', c', rfl, hc, hrow, hb⟩ := HG.out.row hlt
      have hxl := HT.out k hlt
      by_cases hlen : (m.getD k []).length = m.length
      · have HNX : Hid (rowOk m.length (m.getD k []) = true → ∀ j, j < k + 1 → rowOk m.length (m.getD j []) = true) := Lib.hid (fun h j hj => by
          by_cases e : j = k
          · subst e; exact h
          · exact hto.out j (by omega))
        have HNO : Hid (rowOk m.length (m.getD k []) = false → isMat m = false) := Lib.hid (isMat_not hlt)
        have HR := Lib.hid hrow
        have HLN := Lib.hid hlen
        rw [hlen] at hc
        clear hrow hxl hlen hto
        generalize m.getD k [] = x at *
        go_wp2
        go_loop [4] (fun j => ∃ t : Nat, t ≤ m.length ∧ j = .int .i64 t ∧ Hid (∀ u, u < t → 0 ≤ x.getD u 0 ∧ x.getD u 0 ≤ 1000000)) (fun j => m.length - (intOf j).toNat)
        case atStart => exact ⟨0, Nat.zero_le _, rfl, Lib.hid (fun j h => by omega)⟩
        case round =>
          obtain ⟨t, htl, rfl, hok⟩ := hrel
          by_cases htt : t < m.length
          · obtain ⟨b2, off2, rfl, hat, hb2⟩ := HR.out (by rw [HLN.out]; omega)
            have hcx := hat t (by rw [HLN.out]; exact htt)
            have HBAD := Lib.hid (rowOk_bad (n := m.length) (k := t) (r := x) (by rw [HLN.out]; exact htt))
            clear hat
            generalize hy : x.getD t 0 = y at *
            go_wp2_with fail
            refine (HI.out _ _ _ _).mono ?_
            rintro e w1 ⟨rfl, rfl⟩
            cases hx : (decide (0 ≤ y) && decide (y ≤ 1000000)) with
            | false =>
              go_wp2
              go_ret
              exact ⟨by rw [HNO.out (HBAD.out hx)]; rfl, rfl⟩
            | true =>
              have hy2 : 0 ≤ y ∧ y ≤ 1000000 := by simpa using hx
              have HOK : Hid (∀ u, u < t + 1 → 0 ≤ x.getD u 0 ∧ x.getD u 0 ≤ 1000000) := Lib.hid (fun u hu => by
                by_cases e : u = t
                · subst e; rw [hy]; exact hy2
                · exact hok.out u (by omega))
              clear hy hx hy2 hok
              go_wp2
              go_round
              case rel => exact ⟨t + 1, by omega, by go_num, HOK⟩
              case measure => simp [intOf]; omega
          · obtain rfl : t = m.length := by omega
            have HROW : Hid (rowOk m.length x = true) := Lib.hid (rowOk_iff.2 ⟨HLN.out, fun u hu => hok.out u (by rw [HLN.out] at hu; exact hu)⟩)
            clear hok
            go_wp2
            go_round
            case rel => exact ⟨k + 1, by omega, by go_num, Lib.hid (HNX.out HROW.out)⟩
            case measure => simp [intOf]; omega
      · have HNO := Lib.hid (isMat_not hlt (rowOk_short hlen))
        have hne : ¬ ((m.getD k []).length : Int) = (m.length : Int) := by omega
        clear hrow
        generalize m.getD k [] = x at *
        go_wp2
        go_ret
        exact ⟨by rw [HNO.out]; rfl, rfl⟩
    · obtain rfl : k = m.length := by omega
      have HE := Lib.hid (isMat_rows hto.out)
      go_wp2_with fail
      refine (HI.out _ _ _ _).mono ?_
      rintro e w1 ⟨rfl, rfl⟩
      go_wp2
      go_ret
      exact ⟨by rw [HE.out]; rfl, rfl⟩

/-! ### Two tables -/

theorem take_same_next {xs ys : List Int} {k : Nat} (h : xs.take k = ys.take k) (h1 : k < xs.length) (h2 : k < ys.length) (he : xs.getD k 0 = ys.getD k 0) : xs.take (k + 1) = ys.take (k + 1) := by
  rw [ints_take_next xs k h1, ints_take_next ys k h2, h, he]
theorem rows_same_next {a b : List (List Int)} {k : Nat} (h : a.take k = b.take k) (h1 : k < a.length) (h2 : k < b.length) (he : a.getD k [] = b.getD k []) : a.take (k + 1) = b.take (k + 1) := by
  rw [rows_take_next a k h1, rows_take_next b k h2, h, he]
theorem lists_same {α : Type} {xs ys : List α} {n : Nat} (h : xs.take n = ys.take n) (h1 : xs.length = n) (h2 : ys.length = n) : xs = ys := by
  rwa [List.take_of_length_le (by omega), List.take_of_length_le (by omega)] at h

def BelowBool (b : Bool) (w : World) (e : Ending) (w' : World) : Prop := e = .returned (.bool b) ∧ Below w.heap.size w w'

set_option maxRecDepth 100000 in
set_option maxHeartbeats 800000 in
theorem spec_sameRow (A1 A2 : Option Addr) (c1 c2 : Nat) (xs ys : List Int) (hx : xs.length ≤ 1099511627776) (w : World) (h1 : RowS w A1 xs) (h2 : RowS w A2 ys) :
    Calls Tryz.prog 86 #[.slice A1 xs.length c1, .slice A2 ys.length c2] w (BelowBool (decide (xs = ys)) w) := by
  have H1 := Lib.hid h1
  have H2 := Lib.hid h2
  clear h1 h2
  by_cases hl : xs.length = ys.length
  · have HF : Hid (∀ k, k < xs.length → ¬ xs.getD k 0 = ys.getD k 0 → decide (xs = ys) = false) := Lib.hid (fun k _ h => decide_eq_false (fun e => h (by rw [e])))
    have HT : Hid (xs.take xs.length = ys.take xs.length → decide (xs = ys) = true) := Lib.hid (fun h => decide_eq_true (lists_same h rfl hl.symm))
    have HN : Hid (∀ k, k < xs.length → xs.take k = ys.take k → xs.getD k 0 = ys.getD k 0 → xs.take (k + 1) = ys.take (k + 1)) := Lib.hid (fun k hk h e => take_same_next h hk (by omega) e)
    generalize decide (xs = ys) = r at *
    rw [← hl]
    have HL := Lib.hid hl
    clear hl
    go_enter Tryz.func86, Tryz.ntmps86
    go_wp2
    go_loopw [5] (fun i wr => ∃ k q : Nat, k ≤ xs.length ∧ i = .int .i64 k ∧ wr = w.drewN q ∧ Hid (xs.take k = ys.take k)) (fun i _ => xs.length - (intOf i).toNat)
    case atStart => exact ⟨0, 0, Nat.zero_le _, rfl, rfl, Lib.hid rfl⟩
    case round =>
      obtain ⟨k, q, hk, rfl, rfl, hs⟩ := hrel
      by_cases hlt : k < xs.length
      · obtain ⟨b1, o1, rfl, s1, _⟩ := H1.out (by omega)
        obtain ⟨b2, o2, rfl, s2, _⟩ := H2.out (by have := HL.out; omega)
        have ha := s1 k hlt
        have hb := s2 k (by have := HL.out; omega)
        have HF1 := Lib.hid (HF.out k hlt)
        have HN1 := Lib.hid (HN.out k hlt hs.out)
        clear s1 s2
        generalize xs.getD k 0 = x at ha HF1 HN1
        generalize ys.getD k 0 = y at hb HF1 HN1
        by_cases hxy : x = y
        · subst hxy
          have HN2 := Lib.hid (HN1.out rfl)
          clear HN1 HF1
          go_wp2
          go_quiet (fail)
          go_wp2
          go_roundw
          case rel => exact ⟨k + 1, q + nq, by omega, by go_num, rfl, HN2⟩
          case measure => simp [intOf]; omega
        · have hr := HF1.out hxy
          subst hr
          clear HN1 HF1
          go_wp2
          go_quiet (fail)
          go_wp2
          go_ret
          exact ⟨rfl, below_drewN (below_drewN (Below.refl _ _) _) _⟩
      · obtain rfl : k = xs.length := by omega
        have hr := HT.out hs.out
        subst hr
        go_wp2
        go_ret
        exact ⟨rfl, below_drewN (Below.refl _ _) _⟩
  · have hr : decide (xs = ys) = false := decide_eq_false (fun e => hl (by rw [e]))
    rw [hr]
    have hne : ¬ (xs.length : Int) = (ys.length : Int) := by omega
    go_enter Tryz.func86, Tryz.ntmps86
    go_wp2
    go_ret
    exact ⟨rfl, Below.refl _ _⟩

set_option maxRecDepth 100000 in
set_option maxHeartbeats 1600000 in
theorem spec_equalMatrix (A1 A2 : Option Addr) (c1 c2 : Nat) (a b : List (List Int)) (ha : a.length ≤ 1048576) (ta : tot a ≤ 1048576) (tb : tot b ≤ 1048576) (w : World) (h1 : GridS w A1 a) (h2 : GridS w A2 b) :
    Calls Tryz.prog 57 #[.slice A1 a.length c1, .slice A2 b.length c2] w (BelowBool (decide (a = b)) w) := by
  have H1 := Lib.hid h1
  have H2 := Lib.hid h2
  clear h1 h2
  by_cases hl : a.length = b.length
  · have HF : Hid (∀ k, k < a.length → decide (a.getD k [] = b.getD k []) = false → decide (a = b) = false) := Lib.hid (fun k _ h => decide_eq_false (fun e => (of_decide_eq_false h) (by rw [e])))
    have HT : Hid (a.take a.length = b.take a.length → decide (a = b) = true) := Lib.hid (fun h => decide_eq_true (lists_same h rfl hl.symm))
    have HN : Hid (∀ k, k < a.length → a.take k = b.take k → decide (a.getD k [] = b.getD k []) = true → a.take (k + 1) = b.take (k + 1)) := Lib.hid (fun k hk h e => rows_same_next h hk (by omega) (of_decide_eq_true e))
    generalize decide (a = b) = r at *
    rw [← hl]
    have HL := Lib.hid hl
    clear hl
    go_enter Tryz.func57, Tryz.ntmps57
    go_wp2
    go_loopw [5] (fun i wr => ∃ k : Nat, k ≤ a.length ∧ i = .int .i64 k ∧ Below w.heap.size w wr ∧ Hid (a.take k = b.take k)) (fun i _ => a.length - (intOf i).toNat)
    case atStart => exact ⟨0, Nat.zero_le _, rfl, Below.refl _ _, Lib.hid rfl⟩
    case round =>
      obtain ⟨k, hk, rfl, hbl, hs⟩ := hrel
      by_cases hlt : k < a.length
      · obtain ⟨b1, o1, R1, d1, rfl, k1, hr1, hb1⟩ := (H1.out.below hbl).row hlt
        obtain ⟨b2, o2, R2, d2, rfl, k2, hr2, hb2⟩ := (H2.out.below hbl).row (k := k) (by have := HL.out; omega)
        have hx : (a.getD k []).length ≤ 1048576 := Nat.le_trans (row_le_tot hlt) ta
        have hy : (b.getD k []).length ≤ 1048576 := Nat.le_trans (row_le_tot (by have := HL.out; omega)) tb
        have HF1 := Lib.hid (HF.out k hlt)
        have HN1 := Lib.hid (HN.out k hlt hs.out)
        generalize a.getD k [] = x at k1 hr1 hx HF1 HN1
        generalize b.getD k [] = y at k2 hr2 hy HF1 HN1
        have HE : Hid (∀ w', Below wr.heap.size wr w' → Calls Tryz.prog 86 #[.slice R1 x.length d1, .slice R2 y.length d2] w' (BelowBool (decide (x = y)) w')) := Lib.hid fun w' hb => spec_sameRow R1 R2 d1 d2 x y (by omega) w' (hr1.below hb) (hr2.below hb)
        have HB := Lib.hid hbl
        clear hbl hr1 hr2
        have g0 : (0 : Int) ≤ (k : Int) := by omega
        have g1 : (k : Int) < (a.length : Int) := by omega
        cases hd : decide (x = y) with
        | true =>
          have HN2 := Lib.hid (HN1.out hd)
          rw [hd] at HE
          clear hd HN1 HF1
          go_wp2
          go_region_held3 (fun w' => w'.cell? ⟨b1, o1 + k, none⟩ = some (.slice R1 x.length d1) ∧ w'.cell? ⟨b2, o2 + k, none⟩ = some (.slice R2 y.length d2)) (first | exact ⟨y0, y1⟩ | go_keep) (first | (go_at_call 86; refine (HE.out _ (by first | exact Below.refl _ _ | exact (Below.refl _ _).drew)).mono ?_; rintro e w2 ⟨rfl, hb3⟩; have y0 := (hb3.cell (p := ⟨b1, o1 + k, none⟩) hb1).trans k1; have y1 := (hb3.cell (p := ⟨b2, o2 + k, none⟩) hb2).trans k2))
          go_wp2
          go_roundw
          case rel => exact ⟨k + 1, by omega, by go_num, HB.out.drew.trans (hb3.mono HB.out.size), HN2⟩
          case measure => simp [intOf]; omega
        | false =>
          have hr := HF1.out hd
          subst hr
          rw [hd] at HE
          clear hd HN1 HF1
          go_wp2
          go_region_held3 (fun w' => w'.cell? ⟨b1, o1 + k, none⟩ = some (.slice R1 x.length d1) ∧ w'.cell? ⟨b2, o2 + k, none⟩ = some (.slice R2 y.length d2)) (first | exact ⟨y0, y1⟩ | go_keep) (first | (go_at_call 86; refine (HE.out _ (by first | exact Below.refl _ _ | exact (Below.refl _ _).drew)).mono ?_; rintro e w2 ⟨rfl, hb3⟩; have y0 := (hb3.cell (p := ⟨b1, o1 + k, none⟩) hb1).trans k1; have y1 := (hb3.cell (p := ⟨b2, o2 + k, none⟩) hb2).trans k2))
          go_wp2
          go_ret
          exact ⟨rfl, HB.out.drew.trans (hb3.mono HB.out.size)⟩
      · obtain rfl : k = a.length := by omega
        have hr := HT.out hs.out
        subst hr
        go_wp2
        go_ret
        exact ⟨rfl, hbl⟩
  · have hr : decide (a = b) = false := decide_eq_false (fun e => hl (by rw [e]))
    rw [hr]
    have hne : ¬ (a.length : Int) = (b.length : Int) := by omega
    go_enter Tryz.func57, Tryz.ntmps57
    go_wp2
    go_ret
    exact ⟨rfl, Below.refl _ _⟩

/-! ### Sums -/

/-- A matrix: at most nine rows, each as long, its numbers from 0 to a million. -/
structure MatFacts (m : List (List Int)) : Prop where
  pos : 1 ≤ m.length
  le : m.length ≤ 9
  row : ∀ i, i < m.length → (m.getD i []).length = m.length
  cell : ∀ i j, i < m.length → j < m.length → 0 ≤ cellOf m i j ∧ cellOf m i j ≤ 1000000
theorem isMat_facts {m : List (List Int)} (h : isMat m = true) : MatFacts m := by
  obtain ⟨⟨h1, h2⟩, h3⟩ := isMat_iff.1 h
  exact ⟨h1, h2, fun i hi => (h3 i hi).1, fun i j hi hj => (h3 i hi).2 j hj⟩
/-- A number of a matrix in memory. -/
theorem GridS.num {w : World} {A : Option Addr} {m : List (List Int)} (h : GridS w A m) {i j : Nat} (hi : i < m.length) (hj : j < (m.getD i []).length) :
    ∃ b off b2 off2 c', A = some ⟨b, off, none⟩ ∧ w.cell? ⟨b, off + i, none⟩ = some (.slice (some ⟨b2, off2, none⟩) (m.getD i []).length c') ∧ w.cell? ⟨b2, off2 + j, none⟩ = some (.int .i64 (cellOf m i j)) ∧ b < w.heap.size ∧ b2 < w.heap.size := by
  obtain ⟨b, off, A', c', hA, hc, hr, hb⟩ := h.row hi
  obtain ⟨b2, off2, rfl, hat, hb2⟩ := hr (by omega)
  exact ⟨b, off, b2, off2, c', hA, hc, hat j hj, hb, hb2⟩

set_option maxRecDepth 100000 in
set_option maxHeartbeats 800000 in
theorem spec_traceOf (A : Option Addr) (c : Nat) (m : List (List Int)) (hn : m.length ≤ 1099511627776) (ht : ∀ k, k < m.length → (m.getD k []).length ≤ 1099511627776) (w : World) (hg : GridS w A m) :
    Calls Tryz.prog 58 #[.slice A m.length c] w fun e w' => e = .returned (.int .i64 (traceM m)) ∧ w' = w := by
  have HG := Lib.hid hg
  have HI := Lib.hid (spec_isMatrix A c m hn ht w hg)
  clear hg ht
  unfold traceM
  cases hm : isMat m with
  | false =>
    rw [hm] at HI
    go_enter Tryz.func58, Tryz.ntmps58
    go_wp2_with fail
    refine HI.out.mono ?_
    rintro e w1 ⟨rfl, rfl⟩
    go_wp2
    go_ret
    exact ⟨rfl, rfl⟩
  | true =>
    rw [hm] at HI
    have hf := isMat_facts hm
    have hle := hf.le
    have HF := Lib.hid hf
    rw [if_pos rfl]
    clear hm hf
    go_enter Tryz.func58, Tryz.ntmps58
    go_wp2_with fail
    refine HI.out.mono ?_
    rintro e w1 ⟨rfl, rfl⟩
    go_wp2
    go_loop [3, 4] (fun s i => ∃ k : Nat, k ≤ m.length ∧ s = .int .i64 (sumTo k fun t => cellOf m t t) ∧ i = .int .i64 k) (fun _ i => m.length - (intOf i).toNat)
    case atStart => exact ⟨0, Nat.zero_le _, rfl, rfl⟩
    case round =>
      obtain ⟨k, hk, rfl, rfl⟩ := hrel
      by_cases hlt : k < m.length
      · obtain ⟨b, off, b2, off2, c', rfl, k1, k2, _, _⟩ := HG.out.num hlt (j := k) (by rw [HF.out.row k hlt]; exact hlt)
        rw [HF.out.row k hlt] at k1
        have hb1 := sumTo_le (f := fun t => cellOf m t t) (B := 1000000) k (fun t ht => HF.out.cell t t (by omega) (by omega))
        have hb2 := HF.out.cell k k hlt hlt
        have HN : Hid ((sumTo k fun t => cellOf m t t) + cellOf m k k = sumTo (k + 1) fun t => cellOf m t t) := Lib.hid rfl
        generalize (sumTo k fun t => cellOf m t t) = s at *
        generalize cellOf m k k = y at *
        have hb3 : s ≤ 9000000 := by omega
        go_wp2
        go_round
        case rel => exact ⟨k + 1, by omega, by rw [← HN.out], by go_num⟩
        case measure => simp [intOf]; omega
      · obtain rfl : k = m.length := by omega
        go_wp2
        go_ret
        exact ⟨rfl, rfl⟩

set_option maxRecDepth 100000 in
set_option maxHeartbeats 1600000 in
theorem spec_sumOf (A : Option Addr) (c : Nat) (m : List (List Int)) (hn : m.length ≤ 1099511627776) (ht : ∀ k, k < m.length → (m.getD k []).length ≤ 1099511627776) (w : World) (hg : GridS w A m) :
    Calls Tryz.prog 26 #[.slice A m.length c] w fun e w' => e = .returned (.int .i64 (sumM m)) ∧ w' = w := by
  have HG := Lib.hid hg
  have HI := Lib.hid (spec_isMatrix A c m hn ht w hg)
  clear hg ht
  unfold sumM
  cases hm : isMat m with
  | false =>
    rw [hm] at HI
    go_enter Tryz.func26, Tryz.ntmps26
    go_wp2_with fail
    refine HI.out.mono ?_
    rintro e w1 ⟨rfl, rfl⟩
    go_wp2
    go_ret
    exact ⟨rfl, rfl⟩
  | true =>
    rw [hm] at HI
    have hf := isMat_facts hm
    have hle := hf.le
    have HF := Lib.hid hf
    rw [if_pos rfl]
    clear hm hf
    go_enter Tryz.func26, Tryz.ntmps26
    go_wp2_with fail
    refine HI.out.mono ?_
    rintro e w1 ⟨rfl, rfl⟩
    go_wp2
    go_loop [3, 4] (fun s i => ∃ k : Nat, k ≤ m.length ∧ s = .int .i64 (sumTo k fun i => sumTo m.length fun j => cellOf m i j) ∧ i = .int .i64 k) (fun _ i => m.length - (intOf i).toNat)
    case atStart => exact ⟨0, Nat.zero_le _, rfl, rfl⟩
    case round =>
      obtain ⟨k, hk, rfl, rfl⟩ := hrel
      by_cases hlt : k < m.length
      · have hb1 := sumTo_le (f := fun i => sumTo m.length fun j => cellOf m i j) (B := 9000000) k (fun t ht => by
          have h := sumTo_le (f := fun j => cellOf m t j) (B := 1000000) m.length (fun u hu => HF.out.cell t u (by omega) hu)
          exact ⟨h.1, by omega⟩)
        have HN : Hid ((sumTo k fun i => sumTo m.length fun j => cellOf m i j) + (sumTo m.length fun j => cellOf m k j) = sumTo (k + 1) fun i => sumTo m.length fun j => cellOf m i j) := Lib.hid rfl
        generalize (sumTo k fun i => sumTo m.length fun j => cellOf m i j) = s at *
        have hb3 : s ≤ 81000000 := by omega
        go_wp2
        go_loop [3, 5] (fun s' j => ∃ t : Nat, t ≤ m.length ∧ s' = .int .i64 (s + sumTo t fun j => cellOf m k j) ∧ j = .int .i64 t) (fun _ j => m.length - (intOf j).toNat)
        case atStart => exact ⟨0, Nat.zero_le _, by simp [sumTo], rfl⟩
        case round =>
          obtain ⟨t, htl, rfl, rfl⟩ := hrel
          by_cases htt : t < m.length
          · obtain ⟨b, off, b2, off2, c', rfl, k1, k2, _, _⟩ := HG.out.num hlt (j := t) (by rw [HF.out.row k hlt]; exact htt)
            rw [HF.out.row k hlt] at k1
            have hb4 := sumTo_le (f := fun j => cellOf m k j) (B := 1000000) t (fun u hu => HF.out.cell k u hlt (by omega))
            have hb2 := HF.out.cell k t hlt htt
            have HN2 : Hid ((sumTo t fun j => cellOf m k j) + cellOf m k t = sumTo (t + 1) fun j => cellOf m k j) := Lib.hid rfl
            generalize (sumTo t fun j => cellOf m k j) = s2 at *
            generalize cellOf m k t = y at *
            have hb5 : s2 ≤ 9000000 := by omega
            go_wp2
            go_round
            case rel => exact ⟨t + 1, by omega, by rw [← HN2.out]; go_num, by go_num⟩
            case measure => simp [intOf]; omega
          · obtain rfl : t = m.length := by omega
            go_wp2
            go_round
            case rel => exact ⟨k + 1, by omega, by rw [← HN.out], by go_num⟩
            case measure => simp [intOf]; omega
      · obtain rfl : k = m.length := by omega
        go_wp2
        go_ret
        exact ⟨rfl, rfl⟩
end Go.Proofs.YtalclebehbdliaaGreatDoor
namespace Go.Proofs.YtalclebehbdliaaGreatDoor
open Go Go.RowKit

/-- The values vs are slices of the rows of m, each in a block of its own from B on, none in the block ob. -/
structure RowsOwn (w : World) (B : Nat) (ob : Option Nat) (vs : List Value) (m : List (List Int)) : Prop where
  len : vs.length = m.length
  row : ∀ (k : Nat) (r : Value), vs[k]? = some r → w.ownsRow B 3 1 r (m.getD k []).length ((m.getD k []).map (Value.int .i64)) ∧ (r.ownBlock = none ∨ r.ownBlock ≠ ob)
  two : ∀ (j k : Nat) (r s : Value), j < k → vs[j]? = some r → vs[k]? = some s → r.ownBlock = none ∨ r.ownBlock ≠ s.ownBlock
namespace RowsOwn
variable {w w' : World} {B : Nat} {ob : Option Nat} {vs : List Value} {m : List (List Int)}
theorem nil (w : World) (B : Nat) (ob : Option Nat) : RowsOwn w B ob [] [] := ⟨rfl, fun k r h => by simp at h, fun j k r s _ h => by simp at h⟩
theorem kept (h : RowsOwn w B ob vs m) {o : Option Nat} (hg : w.grownBy w' o) (hne : ∀ (k : Nat) (r : Value), vs[k]? = some r → r.ownBlock = none ∨ r.ownBlock ≠ o) : RowsOwn w' B ob vs m :=
  ⟨h.len, fun k r hk => ⟨(h.row k r hk).1.kept hg (hne k r hk), (h.row k r hk).2⟩, h.two⟩
theorem keptOuter (h : RowsOwn w B ob vs m) (hg : w.grownBy w' ob) : RowsOwn w' B ob vs m := h.kept hg fun k r hk => (h.row k r hk).2
theorem lt (h : RowsOwn w B ob vs m) {k : Nat} {r : Value} (hk : vs[k]? = some r) : ∀ g, r.ownBlock = some g → B ≤ g ∧ g < w.heap.size := (h.row k r hk).1.lt
theorem below (h : RowsOwn w B ob vs m) (hb : Below w.heap.size w w') : RowsOwn w' B ob vs m :=
  h.kept (o := none) ⟨hb.os, hb.tape, hb.output, hb.size, fun j hj _ => hb.block j hj⟩ fun k r _ => by
    cases e : r.ownBlock with
    | none => exact Or.inl rfl
    | some g => exact Or.inr (by intro h; cases h)
/-- The outer block has moved to new memory. -/
theorem moved (h : RowsOwn w B ob vs m) {ob' : Option Nat} (hn : ob' = ob ∨ ∀ g, ob' = some g → w.heap.size ≤ g) : RowsOwn w B ob' vs m := by
  refine ⟨h.len, fun k r hk => ⟨(h.row k r hk).1, ?_⟩, h.two⟩
  rcases hn with rfl | hn
  · exact (h.row k r hk).2
  · cases e : r.ownBlock with
    | none => exact Or.inl rfl
    | some g =>
      refine Or.inr fun e2 => ?_
      have := hn g e2.symm
      have := (h.lt hk g e).2
      omega
theorem push (h : RowsOwn w B ob vs m) {r : Value} {xs : List Int} (hr : w.ownsRow B 3 1 r xs.length (xs.map (Value.int .i64))) (h1 : r.ownBlock = none ∨ r.ownBlock ≠ ob)
    (h2 : ∀ (k : Nat) (s : Value), vs[k]? = some s → s.ownBlock = none ∨ s.ownBlock ≠ r.ownBlock) : RowsOwn w B ob (vs ++ [r]) (m ++ [xs]) := by
  have hl := h.len
  refine ⟨by simp [hl], fun k s hk => ?_, fun j k s t hjk hj hk => ?_⟩
  · by_cases hlt : k < vs.length
    · rw [List.getElem?_append_left hlt] at hk
      have e : (m ++ [xs]).getD k [] = m.getD k [] := by simp [List.getD, List.getElem?_append_left (show k < m.length by omega)]
      rw [e]
      exact h.row k s hk
    · have hk2 : k = vs.length := by
        have := (List.getElem?_eq_some_iff.1 hk).1
        simp at this; omega
      subst hk2
      rw [List.getElem?_append_right (Nat.le_refl _), Nat.sub_self] at hk
      obtain rfl : r = s := by simpa using hk
      have e : (m ++ [xs]).getD vs.length [] = xs := by simp [List.getD, hl]
      rw [e]
      exact ⟨hr, h1⟩
  · by_cases hlt : k < vs.length
    · rw [List.getElem?_append_left hlt] at hk
      rw [List.getElem?_append_left (by omega)] at hj
      exact h.two j k s t hjk hj hk
    · have hk2 : k = vs.length := by
        have := (List.getElem?_eq_some_iff.1 hk).1
        simp at this; omega
      subst hk2
      rw [List.getElem?_append_right (Nat.le_refl _), Nat.sub_self] at hk
      obtain rfl : r = t := by simpa using hk
      rw [List.getElem?_append_left hjk] at hj
      exact h2 j s hj
/-- One row has turned. -/
theorem setRow (h : RowsOwn w B ob vs m) {k : Nat} {r : Value} (hk : vs[k]? = some r) {xs : List Int} (hx : xs.length = (m.getD k []).length) (hr : w'.ownsRow B 3 1 r xs.length (xs.map (Value.int .i64))) (hg : w.grownBy w' r.ownBlock) : RowsOwn w' B ob vs (m.set k xs) := by
  have hl := h.len
  have hkl := (List.getElem?_eq_some_iff.1 hk).1
  refine ⟨by simp [hl], fun j s hj => ?_, h.two⟩
  have hjl := (List.getElem?_eq_some_iff.1 hj).1
  by_cases hjk : j = k
  · subst hjk
    obtain rfl : r = s := by rw [hk] at hj; exact Option.some.inj hj
    have e : (m.set j xs).getD j [] = xs := by simp [List.getD, show j < m.length by omega]
    rw [e]
    exact ⟨hr, (h.row j r hk).2⟩
  · have e : (m.set k xs).getD j [] = m.getD j [] := by simp [List.getD, List.getElem?_set_ne (Ne.symm hjk)]
    rw [e]
    refine ⟨(h.row j s hj).1.kept hg ?_, (h.row j s hj).2⟩
    by_cases hlt : j < k
    · exact h.two j k s r hlt hj hk
    · rcases h.two k j r s (by omega) hk hj with e1 | e1
      · cases e2 : s.ownBlock with
        | none => exact Or.inl rfl
        | some g => exact Or.inr (by rw [e1]; intro h; cases h)
      · exact Or.inr (Ne.symm e1)
end RowsOwn

/-- A table in memory of the call's own, each row in a block of its own. -/
def OwnG (w : World) (B : Nat) (v : Value) (m : List (List Int)) : Prop := ∃ vs, w.ownsRow B 48 1 v m.length vs ∧ RowsOwn w B v.ownBlock vs m
theorem OwnG.below {w w' : World} {B : Nat} {v : Value} {m : List (List Int)} (h : OwnG w B v m) (hb : Below w.heap.size w w') : OwnG w' B v m := by
  obtain ⟨vs, ho, hr⟩ := h
  refine ⟨vs, ho.kept (row := none) ⟨hb.os, hb.tape, hb.output, hb.size, fun j hj _ => hb.block j hj⟩ ?_, hr.below hb⟩
  cases e : v.ownBlock with
  | none => exact Or.inl rfl
  | some g => exact Or.inr (by intro h; cases h)
theorem OwnG.mono {w : World} {B B' : Nat} {v : Value} {m : List (List Int)} (h : OwnG w B v m) (hB : B' ≤ B) : OwnG w B' v m := by
  obtain ⟨vs, ho, hr⟩ := h
  exact ⟨vs, World.ownsRow.mono ho hB, ⟨hr.len, fun k r hk => ⟨World.ownsRow.mono (hr.row k r hk).1 hB, (hr.row k r hk).2⟩, hr.two⟩⟩
/-- What an owned row of numbers reads as. -/
theorem rowS_of_owns {w : World} {B : Nat} {r : Value} {xs : List Int} (h : w.ownsRow B 3 1 r xs.length (xs.map (Value.int .i64))) : ∃ A c, r = .slice A xs.length c ∧ RowS w A xs := by
  rcases h.2 with ⟨rfl, h0⟩ | ⟨g, cap, cur, rfl, _, _, _⟩
  · exact ⟨none, 0, by rw [h0], fun hp => by omega⟩
  · exact ⟨some ⟨g, 0, none⟩, cap, rfl, fun _ => ⟨g, 0, rfl, IntsAt.of_owns h rfl, (h.lt g rfl).2⟩⟩
theorem OwnG.gridS {w : World} {B : Nat} {v : Value} {m : List (List Int)} (h : OwnG w B v m) : ∃ A c, v = .slice A m.length c ∧ GridS w A m := by
  obtain ⟨vs, ho, hr⟩ := h
  rcases ho.2 with ⟨rfl, h0⟩ | ⟨g, cap, cur, rfl, _, _, _⟩
  · exact ⟨none, 0, by rw [h0], fun hp => by omega⟩
  · refine ⟨some ⟨g, 0, none⟩, cap, rfl, fun _ => ⟨g, 0, rfl, fun k hk => ?_, (ho.lt g rfl).2⟩⟩
    have hl := hr.len
    have hk' : vs[k]? = some vs[k] := List.getElem?_eq_getElem (by omega)
    obtain ⟨A, c, e, hs⟩ := rowS_of_owns (hr.row k _ hk').1
    refine ⟨A, c, ?_, hs⟩
    rw [Nat.zero_add, ho.cellAt k (by omega), hk', e]
theorem OwnG.drew {w : World} {B : Nat} {v : Value} {m : List (List Int)} (h : OwnG w B v m) : OwnG w.drew B v m := by
  obtain ⟨vs, ho, hr⟩ := h
  exact ⟨vs, ho, ⟨hr.len, hr.row, hr.two⟩⟩
/-- The same, the rows in blocks below S. -/
def OwnIn (w : World) (B S : Nat) (v : Value) (m : List (List Int)) : Prop := ∃ vs, w.ownsRow B 48 1 v m.length vs ∧ RowsOwn w B v.ownBlock vs m ∧ ∀ (k : Nat) (r : Value) (g : Nat), vs[k]? = some r → r.ownBlock = some g → g < S
theorem OwnG.ownIn {w : World} {B : Nat} {v : Value} {m : List (List Int)} (h : OwnG w B v m) : OwnIn w B w.heap.size v m := by
  obtain ⟨vs, ho, hr⟩ := h
  exact ⟨vs, ho, hr, fun k r g hk hg => (hr.lt hk g hg).2⟩
theorem OwnIn.ownG {w : World} {B S : Nat} {v : Value} {m : List (List Int)} (h : OwnIn w B S v m) : OwnG w B v m := by
  obtain ⟨vs, ho, hr, _⟩ := h
  exact ⟨vs, ho, hr⟩
theorem OwnIn.below {w w' : World} {B S : Nat} {v : Value} {m : List (List Int)} (h : OwnIn w B S v m) (hb : Below w.heap.size w w') : OwnIn w' B S v m := by
  obtain ⟨vs, ho, hr, hs⟩ := h
  refine ⟨vs, ho.kept (row := none) ⟨hb.os, hb.tape, hb.output, hb.size, fun j hj _ => hb.block j hj⟩ ?_, hr.below hb, hs⟩
  cases e : v.ownBlock with
  | none => exact Or.inl rfl
  | some g => exact Or.inr (by intro h; cases h)
theorem slice_of_owns {w : World} {B e n : Nat} {r : Value} {xs : List Value} (h : w.ownsRow B e 1 r n xs) : ∃ A c, r = .slice A n c := by
  rcases h.2 with ⟨rfl, h0⟩ | ⟨g, cap, cur, rfl, _⟩
  · exact ⟨none, 0, by rw [h0]⟩
  · exact ⟨_, cap, rfl⟩
/-- A table of which one row has turned. -/
theorem OwnG.setRow {w w' : World} {B g cap N : Nat} {m : List (List Int)} {vs : List Value} (ho : w.ownsRow B 48 1 (.slice (some ⟨g, 0, none⟩) N cap) N vs) (hr : RowsOwn w B (some g) vs m) {k : Nat} {r : Value} (hk : vs[k]? = some r)
    {xs : List Int} (hx : xs.length = (m.getD k []).length) (hr' : w'.ownsRow B 3 1 r xs.length (xs.map (Value.int .i64))) (hg : w.grownBy w' r.ownBlock) :
    w'.ownsRow B 48 1 (.slice (some ⟨g, 0, none⟩) N cap) N vs ∧ RowsOwn w' B (some g) vs (m.set k xs) := by
  refine ⟨ho.kept hg ?_, hr.setRow hk hx hr' hg⟩
  rcases (hr.row k r hk).2 with e | e
  · rw [e]; exact Or.inr (by intro h; cases h)
  · exact Or.inr (Ne.symm e)
end Go.Proofs.YtalclebehbdliaaGreatDoor
namespace Go.Proofs.YtalclebehbdliaaGreatDoor
open Go Go.RowKit

/-- A row that is new has been put behind the others. -/
theorem own_append {w0 w w3 : World} {B gg cap : Nat} {v r : Value} {vs : List Value} {m : List (List Int)} {xs : List Int} (hO : w0.ownsRow B 48 1 v m.length vs) (hR : RowsOwn w0 B v.ownBlock vs m) (hb : Below w0.heap.size w0 w)
    (hr : w.ownsRow B 3 1 r xs.length (xs.map (Value.int .i64))) (hf : ∀ g, r.ownBlock = some g → w0.heap.size ≤ g)
    (ho3 : w3.ownsRow B 48 1 (.slice (some ⟨gg, 0, none⟩) (m.length + 1) cap) (m.length + 1) (vs ++ [r])) (hg3 : w.grownBy w3 v.ownBlock) (hat : v.ownBlock = some gg ∨ gg = w.heap.size) :
    RowsOwn w3 B (some gg) (vs ++ [r]) (m ++ [xs]) := by
  have hv := hO.lt
  have hrl := hr.lt
  have hbs := hb.size
  have hR1 := hR.below hb
  have hgg : ∀ g, r.ownBlock = some g → g ≠ gg := by
    intro g hg e
    rcases hat with h | h
    · have := (hv gg h).2
      have := hf g hg
      omega
    · have := (hrl g hg).2
      omega
  have hne : r.ownBlock = none ∨ r.ownBlock ≠ v.ownBlock := by
    cases e : r.ownBlock with
    | none => exact Or.inl rfl
    | some g =>
      refine Or.inr fun h => ?_
      have := (hv g h.symm).2
      have := hf g e
      omega
  have hR2 : RowsOwn w3 B (some gg) vs m := by
    have h1 : RowsOwn w B (some gg) vs m := by
      refine ⟨hR1.len, fun k s hk => ⟨(hR1.row k s hk).1, ?_⟩, hR1.two⟩
      cases e : s.ownBlock with
      | none => exact Or.inl rfl
      | some g =>
        refine Or.inr fun h => ?_
        obtain rfl := Option.some.inj h
        rcases hat with h2 | h2
        · rcases (hR.row k s hk).2 with h3 | h3
          · rw [e] at h3; cases h3
          · exact h3 (e.trans h2.symm)
        · have := (hR1.lt hk _ e).2
          omega
    exact h1.kept hg3 fun k s hk => (hR1.row k s hk).2
  refine hR2.push (hr.kept hg3 hne) ?_ fun k s hk => ?_
  · cases e : r.ownBlock with
    | none => exact Or.inl rfl
    | some g => exact Or.inr fun h => hgg g e (Option.some.inj h)
  · cases e : s.ownBlock with
    | none => exact Or.inl rfl
    | some g =>
      refine Or.inr fun h => ?_
      have := (hR.lt hk g e).2
      have := hf g h.symm
      omega
/-- Number j of row i: where it lies, and what the table is once another number has been put there. -/
theorem OwnG.at {w : World} {B : Nat} {v : Value} {m : List (List Int)} (h : OwnG w B v m) {i j : Nat} (hi : i < m.length) (hj : j < (m.getD i []).length) :
    ∃ g cap gi ci, v = .slice (some ⟨g, 0, none⟩) m.length cap ∧ w.cell? ⟨g, i, none⟩ = some (.slice (some ⟨gi, 0, none⟩) (m.getD i []).length ci) ∧ w.cell? ⟨gi, j, none⟩ = some (.int .i64 (cellOf m i j)) ∧ w.frozen? ⟨gi, j, none⟩ = false ∧ B ≤ gi ∧ gi < w.heap.size ∧
      ∀ x : Int, OwnG (w.setCell ⟨gi, j, none⟩ (.int .i64 x)) B v (m.set i ((m.getD i []).set j x)) := by
  obtain ⟨vs, ho, hr⟩ := h
  rcases ho.2 with ⟨_, h0⟩ | ⟨g, cap, cur, rfl, _⟩
  · omega
  have hl := hr.len
  have hv : vs[i]? = some vs[i] := List.getElem?_eq_getElem (by omega)
  obtain ⟨h1, h2⟩ := hr.row i _ hv
  rcases h1.2 with ⟨_, h0⟩ | ⟨gi, ci, cur2, he, _⟩
  · omega
  rw [he] at hv h1 h2
  have hc : w.cell? ⟨gi, j, none⟩ = some (.int .i64 (cellOf m i j)) := by
    rw [h1.cellAt j (by omega), List.getElem?_map, List.getElem?_eq_getElem hj]
    simp [cellOf, List.getD, hi]
    have e : m[i]? = some m[i] := List.getElem?_eq_getElem hi
    simp [List.getD, e] at hj
    rw [List.getElem?_eq_getElem hj]; rfl
  refine ⟨g, cap, gi, ci, rfl, ?_, hc, h1.frozenAt j, (h1.lt gi rfl).1, (h1.lt gi rfl).2, fun x => ?_⟩
  · rw [ho.cellAt i (by omega), hv]
  · have hst := h1.stored j (.int .i64 x)
    have e1 : ((m.getD i []).map (Value.int .i64)).set j (.int .i64 x) = ((m.getD i []).set j x).map (Value.int .i64) := by rw [List.map_set]
    rw [e1] at hst
    have hs2 := OwnG.setRow ho hr hv (xs := (m.getD i []).set j x) (by simp) (by rw [List.length_set]; exact hst.1) hst.2
    exact ⟨vs, by rw [List.length_set]; exact hs2.1, hs2.2⟩

theorem tabOf_next (n m : Nat) (f : Nat → Nat → Int) : tabOf (n + 1) m f = tabOf n m f ++ [(List.range m).map (f n)] := by
  unfold tabOf
  rw [List.range_succ, List.map_append]; rfl
theorem tabOf_set {n m i j : Nat} (f : Nat → Nat → Int) (x : Int) (hi : i < n) : (tabOf n m f).set i (((tabOf n m f).getD i []).set j x) = tabOf n m fun a b => if a = i ∧ b = j then x else f a b := by
  rw [tabOf_row hi]
  refine List.ext_getElem (by simp [tabOf]) fun a h1 h2 => ?_
  have ha : a < n := by simpa [tabOf] using h2
  rw [List.getElem_set]
  by_cases e : i = a
  · subst e
    rw [if_pos rfl]
    refine List.ext_getElem (by simp [tabOf]) fun b k1 k2 => ?_
    simp [tabOf, List.getElem_set]
    by_cases e2 : j = b
    · subst e2; simp
    · rw [if_neg e2, if_neg (Ne.symm e2)]
  · rw [if_neg e]
    simp [tabOf, Ne.symm e]
theorem replicate_zero (n : Nat) : List.replicate n (Value.int .i64 0) = ((List.range n).map fun _ => (0 : Int)).map (Value.int .i64) := by
  induction n with
  | zero => rfl
  | succ n ih => rw [List.range_succ, List.map_append, List.map_append, ← ih, List.replicate_succ']; rfl

theorem made_ints {w : World} {B g m : Nat} (h : w.ownsRow B 3 1 (.slice (some ⟨g, 0, none⟩) m m) m (madeCells (Value.int .i64 0).cells (m * 1)).toList) :
    w.ownsRow B 3 1 (.slice (some ⟨g, 0, none⟩) m m) m (((List.range m).map fun _ => (0 : Int)).map (Value.int .i64)) := by
  have e : (madeCells (Value.int .i64 0).cells (m * 1)).toList = List.replicate m (.int .i64 0) := by rw [Nat.mul_one]; exact toList_madeCells_one _ _
  rw [e, replicate_zero] at h
  exact h
theorem kept_alloc {w w1 : World} {B n e : Nat} {v : Value} {vs : List Value} (h : w.ownsRow B e 1 v n vs) (hg : w.grownBy w1 none) (o : Obj) : (w1.alloc o).ownsRow B e 1 v n vs := by
  refine World.ownsRow.alloc (h.kept hg ?_) o
  cases e : v.ownBlock with
  | none => exact Or.inl rfl
  | some g => exact Or.inr (by intro h; cases h)
theorem kept_below {w w1 : World} {B n e : Nat} {v : Value} {vs : List Value} (h : w.ownsRow B e 1 v n vs) (hb : Below w.heap.size w w1) : w1.ownsRow B e 1 v n vs := by
  refine h.kept (row := none) ⟨hb.os, hb.tape, hb.output, hb.size, fun j hj _ => hb.block j hj⟩ ?_
  cases e : v.ownBlock with
  | none => exact Or.inl rfl
  | some g => exact Or.inr (by intro h; cases h)
theorem grown_below {w w' : World} (h : w.grownBy w' none) : Below w.heap.size w w' := ⟨h.os, h.tape, h.output, h.size, fun k hk => h.block k hk (by intro h; cases h)⟩
theorem zero_next {w wr w1 w3 : World} {k m gg cap : Nat} {v : Value} {vs : List Value} {o : Obj} (hB : Below w.heap.size w wr) (hO : wr.ownsRow w.heap.size 48 1 v (tabOf k m fun _ _ => 0).length vs) (hR : RowsOwn wr w.heap.size v.ownBlock vs (tabOf k m fun _ _ => 0))
    (hg1 : wr.grownBy w1 none) (hW : w1.ownsRow w.heap.size 3 1 (.slice (some ⟨wr.heap.size, 0, none⟩) m m) m (((List.range m).map fun _ => (0 : Int)).map (Value.int .i64))) (hs1 : wr.heap.size < w1.heap.size)
    (ho3 : w3.ownsRow w.heap.size 48 1 (.slice (some ⟨gg, 0, none⟩) ((tabOf k m fun _ _ => 0).length + 1) cap) ((tabOf k m fun _ _ => 0).length + 1) (vs ++ [.slice (some ⟨wr.heap.size, 0, none⟩) m m])) (hg3 : (w1.alloc o).grownBy w3 v.ownBlock) (hat : v.ownBlock = some gg ∨ gg = w1.heap.size + 1) :
    w3.ownsRow w.heap.size 48 1 (.slice (some ⟨gg, 0, none⟩) ((tabOf k m fun _ _ => 0).length + 1) cap) (tabOf (k + 1) m fun _ _ => 0).length (vs ++ [.slice (some ⟨wr.heap.size, 0, none⟩) m m]) ∧
    RowsOwn w3 w.heap.size (Value.slice (some ⟨gg, 0, none⟩) ((tabOf k m fun _ _ => 0).length + 1) cap).ownBlock (vs ++ [.slice (some ⟨wr.heap.size, 0, none⟩) m m]) (tabOf (k + 1) m fun _ _ => 0) ∧ Below w.heap.size w w3 := by
  have hb1 : Below wr.heap.size wr (w1.alloc o) := (grown_below hg1).alloc (by omega) o
  have hl : ((List.range m).map fun _ => (0 : Int)).length = m := by simp
  refine ⟨by rw [tabOf_next, List.length_append]; exact ho3, ?_, ?_⟩
  · rw [tabOf_next]
    refine own_append (w := w1.alloc o) (cap := cap) hO hR hb1 ?_ (fun g hg => ?_) ho3 hg3 ?_
    · rw [hl]; exact World.ownsRow.alloc hW o
    · have : wr.heap.size = g := Option.some.inj hg
      omega
    · rw [World.size_alloc]; exact hat
  · have hb2 := hB.trans (hb1.mono hB.size)
    refine hb2.grown hg3 (by have := hb2.size; omega) (fun q hq => ?_)
    exact (hO.lt q hq).1
/-- A new table. -/
def NewG (m : List (List Int)) (w : World) (e : Ending) (w' : World) : Prop := ∃ v, e = .returned v ∧ OwnG w' w.heap.size v m ∧ Below w.heap.size w w'

set_option maxRecDepth 100000 in
set_option maxHeartbeats 1600000 in
theorem spec_zero (n m : Nat) (hn : n ≤ 1048576) (hm : m ≤ 1048576) (w : World) :
    Calls Tryz.prog 34 #[.int .i64 n, .int .i64 m] w (NewG (tabOf n m fun _ _ => 0) w) := by
  obtain ⟨i0, hi, hz0, hz1, hz2⟩ := info_parts infoSl
  obtain ⟨j0, hj, hy0, hy1, hy2⟩ := info_parts infoInt
  go_enter Tryz.func34, Tryz.ntmps34
  have hmade := World.ownsRow_made (base := w.heap.size) (e := 48) (size := 1) w #[] 0 (Nat.le_refl _) (by unfold maxLen; omega) rfl
  have HM0 := Lib.hid hmade
  clear hmade
  go_wp2
  go_loopw [5, 6] (fun v i wr => ∃ (k : Nat) (vs : List Value), k ≤ n ∧ i = .int .i64 k ∧ wr.ownsRow w.heap.size 48 1 v (tabOf k m fun _ _ => 0).length vs ∧ RowsOwn wr w.heap.size v.ownBlock vs (tabOf k m fun _ _ => 0) ∧ Below w.heap.size w wr) (fun _ i _ => n - (intOf i).toNat)
  case atStart => exact ⟨0, [], Nat.zero_le _, rfl, HM0.out, RowsOwn.nil _ _ _, (Below.refl _ _).alloc (Nat.le_refl _) _⟩
  case round =>
    obtain ⟨k, vs, hk, rfl, hO, hR, hbl⟩ := hrel
    by_cases hlt : k < n
    · have HO := Lib.hid hO
      have HR := Lib.hid hR
      have HB := Lib.hid hbl
      have hsz := hbl.size
      clear hO hR hbl
      go_wp2_with (first | (at_make; refine wpList_make_full _ rfl _ _ 48 rfl w.heap.size 3 j0 (.int .i64 0) 1 Tryz.underlying48 hj hy0 hy1 .i64 .i64 _ _ m rfl rfl rfl rfl (by rw [hy2]; omega) (by unfold maxLen; omega) hsz ?_; intro w1 hown hgrow; have HW1 := Lib.hid (made_ints hown); have HG1 := Lib.hid hgrow; have hs1 : wr.heap.size < w1.heap.size := (hown.lt _ rfl).2; clear hown hgrow) | (at_builtin; refine wpList_append_lies _ rfl (.tmp 13) (.tmp 16) 24 rfl w.heap.size 48 i0 (.slice none 0 0) 1 24 Tryz.underlying24 hi hz0 hz1 hz2 rfl (by decide) _ _ _ rfl (kept_alloc HO.out HG1.out _) ⟨w1.heap.size, 0, none⟩ 1 1 [.slice (some ⟨wr.heap.size, 0, none⟩) m m] rfl rfl (World.news_of_block (cs := #[.slice (some ⟨wr.heap.size, 0, none⟩) m m]) (t := 48) (fr := (0, 0)) (heap_alloc_new w1 _)) (by simp [Value.oneCell']) (by decide) (by rw [tabOf_length]; unfold maxLen; omega) (by rw [tabOf_length]; omega) (by simp; omega) (w1.heap.size + 1) (by simp) ?_; intro gg cap w3 ho3 hg3 hat hlt3; have HN := Lib.hid (zero_next HB.out HO.out HR.out HG1.out HW1.out hs1 ho3 hg3 hat); clear ho3 hg3 hat))
      go_roundw
      case rel => exact ⟨k + 1, _, by omega, by go_num, HN.out.1, HN.out.2.1, HN.out.2.2⟩
      case measure => simp [intOf]; omega
    · obtain rfl : k = n := by omega
      have HO := Lib.hid hO
      have HR := Lib.hid hR
      clear hO hR
      go_wp2
      go_ret
      exact ⟨_, rfl, ⟨vs, HO.out, HR.out⟩, hbl⟩
end Go.Proofs.YtalclebehbdliaaGreatDoor
namespace Go.Proofs.YtalclebehbdliaaGreatDoor
open Go Go.RowKit

/-- A copy of a table in new memory, at the heap's end. -/
def CopyGPost (m : List (List Int)) (w : World) (e : Ending) (w' : World) : Prop :=
  e = .returned (.slice (some ⟨w.heap.size, 0, none⟩) m.length m.length) ∧ OwnG w' w.heap.size (.slice (some ⟨w.heap.size, 0, none⟩) m.length m.length) m ∧ Below w.heap.size w w'

/-- The numbers from q on. -/
def marksI (q : Nat) : Nat → List Int
  | 0 => []
  | n + 1 => (q : Int) :: marksI (q + 1) n
theorem marksI_length : ∀ (n q : Nat), (marksI q n).length = n
  | 0, _ => rfl
  | n + 1, q => by rw [marksI, List.length_cons, marksI_length n]
theorem marksI_get : ∀ (n q j : Nat), j < n → (marksI q n).getD j 0 = ((q + j : Nat) : Int)
  | 0, _, j, h => by omega
  | n + 1, q, 0, _ => by simp [marksI]
  | n + 1, q, j + 1, h => by
    rw [marksI, List.getD_cons_succ, marksI_get n (q + 1) j (by omega)]
    congr 1; omega
theorem marksI_next : ∀ (n q : Nat), marksI q (n + 1) = marksI q n ++ [((q + n : Nat) : Int)]
  | 0, q => rfl
  | n + 1, q => by
    rw [marksI, marksI_next n (q + 1), marksI, List.cons_append]
    congr 4; omega
/-- A row that is being marked from the front. -/
def markedI (xs : List Int) (q k : Nat) : List Value := ((marksI q k) ++ xs.drop k).map (Value.int .i64)
theorem markedI_set (xs : List Int) (q k : Nat) (h : k < xs.length) : (markedI xs q k).set k (.int .i64 ((q + k : Nat) : Int)) = markedI xs q (k + 1) := by
  have hl : ((marksI q k).map (Value.int .i64)).length = k := by rw [List.length_map, marksI_length]
  have hd : xs.drop k = xs[k] :: xs.drop (k + 1) := List.drop_eq_getElem_cons h
  unfold markedI
  rw [marksI_next, List.map_append, List.map_append, List.map_append, hd, List.map_cons]
  rw [List.set_append_right _ _ (by omega), hl, Nat.sub_self]
  simp
theorem markedI_at (xs : List Int) (q k : Nat) (h : k < xs.length) : ∃ y, (markedI xs q k)[k]? = some (.int .i64 y) := by
  have hl : (marksI q k).length = k := marksI_length k q
  refine ⟨xs[k], ?_⟩
  unfold markedI
  rw [List.getElem?_map, List.getElem?_append_right (by omega), hl, Nat.sub_self, List.getElem?_drop, Nat.add_zero, List.getElem?_eq_getElem h]
  rfl
theorem markedI_none (xs : List Int) (q : Nat) : markedI xs q 0 = xs.map (Value.int .i64) := by simp [markedI, marksI]
theorem markedI_all (xs : List Int) (q : Nat) : markedI xs q xs.length = (marksI q xs.length).map (Value.int .i64) := by simp [markedI]

/-- The row holds the marks from q on; of what was there no other block has turned. -/
def MarkIPost (B q : Nat) (r : Value) (n : Nat) (w : World) (e : Ending) (w' : World) : Prop :=
  e = .returned (.int .i64 ((q + n : Nat) : Int)) ∧ w'.ownsRow B 3 1 r n ((marksI q n).map (Value.int .i64)) ∧ w.grownBy w' r.ownBlock

/-- The tables of marks: each row goes on where the one before it ended. -/
def marksG : Nat → List (List Int) → List (List Int)
  | _, [] => []
  | q, r :: m => marksI q r.length :: marksG (q + r.length) m
theorem marksG_length : ∀ (m : List (List Int)) (q : Nat), (marksG q m).length = m.length
  | [], _ => rfl
  | r :: m, q => by rw [marksG, List.length_cons, marksG_length m, List.length_cons]
theorem tot_cons (r : List Int) (m : List (List Int)) : tot (r :: m) = r.length + tot m := by simp [tot]
theorem marksG_get : ∀ (m : List (List Int)) (q k : Nat), k < m.length → (marksG q m).getD k [] = marksI (q + tot (m.take k)) (m.getD k []).length
  | [], _, k, h => by simp at h
  | r :: m, q, 0, _ => by simp [marksG, tot]
  | r :: m, q, k + 1, h => by
    rw [marksG, List.getD_cons_succ, marksG_get m (q + r.length) k (by simpa using h), List.getD_cons_succ, List.take_succ_cons, tot_cons]
    congr 1; omega
theorem tot_marksG : ∀ (m : List (List Int)) (q : Nat), tot (marksG q m) = tot m
  | [], _ => rfl
  | r :: m, q => by rw [marksG, tot_cons, tot_cons, marksI_length, tot_marksG m]
/-- A table that is being marked from the front. -/
def markedG (m : List (List Int)) (q k : Nat) : List (List Int) := (marksG q m).take k ++ m.drop k
theorem markedG_length (m : List (List Int)) (q k : Nat) (hk : k ≤ m.length) : (markedG m q k).length = m.length := by
  unfold markedG; simp [marksG_length]; omega
theorem markedG_none (m : List (List Int)) (q : Nat) : markedG m q 0 = m := by simp [markedG]
theorem markedG_all (m : List (List Int)) (q : Nat) : markedG m q m.length = marksG q m := by
  unfold markedG
  rw [List.drop_length, List.append_nil, List.take_of_length_le (by rw [marksG_length]; exact Nat.le_refl _)]
theorem markedG_get (m : List (List Int)) (q k : Nat) (hk : k < m.length) : (markedG m q k).getD k [] = m.getD k [] := by
  unfold markedG
  have hl : ((marksG q m).take k).length = k := by rw [List.length_take, marksG_length]; omega
  simp only [List.getD]
  rw [List.getElem?_append_right (by omega), hl, Nat.sub_self, List.getElem?_drop, Nat.add_zero]
theorem markedG_set (m : List (List Int)) (q k : Nat) (hk : k < m.length) : (markedG m q k).set k (marksI (q + tot (m.take k)) (m.getD k []).length) = markedG m q (k + 1) := by
  unfold markedG
  have hl : ((marksG q m).take k).length = k := by rw [List.length_take, marksG_length]; omega
  have hm : k < (marksG q m).length := by rw [marksG_length]; exact hk
  have hd : m.drop k = m[k] :: m.drop (k + 1) := List.drop_eq_getElem_cons hk
  have hg := marksG_get m q k hk
  rw [List.set_append_right _ _ (by omega), hl, Nat.sub_self, hd, List.set_cons_zero, List.take_succ_eq_append_getElem hm, List.append_assoc, List.singleton_append]
  congr 2
  rw [← hg]
  simp [List.getD, hm]

/-- The table holds the marks; of what was there only blocks from B on and below S have turned. -/
def MarkGPost (B S q : Nat) (v : Value) (m : List (List Int)) (w : World) (e : Ending) (w' : World) : Prop :=
  e = .returned (.int .i64 ((q + tot m : Nat) : Int)) ∧ OwnIn w' B S v (marksG q m) ∧ Within B S w w'

end Go.Proofs.YtalclebehbdliaaGreatDoor
namespace Go.Proofs.YtalclebehbdliaaGreatDoor
open Go Go.RowKit

/-- The value is a slice that holds the table m. -/
def GridV (w : World) (v : Value) (m : List (List Int)) : Prop := ∃ A c, v = .slice A m.length c ∧ GridS w A m
theorem GridV.below {w w' : World} {v : Value} {m : List (List Int)} (h : GridV w v m) (hb : Below w.heap.size w w') : GridV w' v m := by
  obtain ⟨A, c, hv, hg⟩ := h
  exact ⟨A, c, hv, hg.below hb⟩
theorem OwnG.gridV {w : World} {B : Nat} {v : Value} {m : List (List Int)} (h : OwnG w B v m) : GridV w v m := h.gridS
/-- The table is not too large. -/
def SizeB (m : List (List Int)) : Prop := m.length + tot m ≤ 1048576
/-- No slice is longer than a slice can be. -/
def SizeA (m : List (List Int)) : Prop := m.length ≤ 9223372036854775807 ∧ ∀ k, k < m.length → (m.getD k []).length ≤ 9223372036854775807

/-- All blocks that were there from B on are as they were. -/
structure From (B : Nat) (w w' : World) : Prop where
  size : w.heap.size ≤ w'.heap.size
  block : ∀ k, B ≤ k → k < w.heap.size → w'.heap[k]? = w.heap[k]?
namespace From
variable {B : Nat} {w w' w'' : World}
theorem refl (B : Nat) (w : World) : From B w w := ⟨Nat.le_refl _, fun _ _ _ => rfl⟩
theorem trans (h : From B w w') (k : From B w' w'') : From B w w'' := ⟨Nat.le_trans h.size k.size, fun j h1 h2 => (k.block j h1 (Nat.lt_of_lt_of_le h2 h.size)).trans (h.block j h1 h2)⟩
theorem of_below (h : Below w.heap.size w w') : From B w w' := ⟨h.size, fun k _ hk => h.block k hk⟩
theorem of_within {B' S' : Nat} (h : Within B' S' w w') (hS : S' ≤ B) : From B w w' := ⟨h.size, fun k h1 h2 => h.block k h2 (Or.inr (by omega))⟩
theorem owns {e n : Nat} {v : Value} {xs : List Value} (h : w.ownsRow B e 1 v n xs) (hf : From B w w') : w'.ownsRow B e 1 v n xs := by
  refine ⟨h.1, ?_⟩
  rcases h.2 with hn | ⟨g, cap, cur, rfl, hb, hgg, rest⟩
  · exact .inl hn
  · refine .inr ⟨g, cap, cur, rfl, hb, ?_, rest⟩
    rw [hf.block g hb (Array.getElem?_eq_some_iff.1 hgg).1]
    exact hgg
theorem ownIn {S : Nat} {v : Value} {m : List (List Int)} (h : OwnIn w B S v m) (hf : From B w w') : OwnIn w' B S v m := by
  obtain ⟨vs, ho, hr, hs⟩ := h
  exact ⟨vs, owns ho hf, ⟨hr.len, fun k r hk => ⟨owns (hr.row k r hk).1 hf, (hr.row k r hk).2⟩, hr.two⟩, hs⟩
end From

/-- A table has been marked: only blocks from B on and below S have turned. -/
def MarkedG (B S : Nat) (v : Value) (m : List (List Int)) (w : World) (e : Ending) (w' : World) : Prop := e = .returned (.int .i64 ((1 + tot m : Nat) : Int)) ∧ GridV w' v (marksG 1 m) ∧ Within B S w w'
/-- The same from a number on; how far it came does not matter. -/
def MarkedX (B S q : Nat) (w : World) (e : Ending) (w' : World) : Prop := ∃ K : Nat, e = .returned (.int .i64 (K : Int)) ∧ K ≤ q + 1048576 ∧ Within B S w w'
def HeldG (n : Nat) (w : World) (e : Ending) (w' : World) : Prop := e = .returned (.int .i64 (n : Int)) ∧ Below w.heap.size w w'
theorem below_behind {w w1 w2 : World} (h : Below w.heap.size w w1) (k : Below w1.heap.size w1 w2) : Below w.heap.size w w2 := h.trans (k.mono h.size)

/-- What a function answers: a value that is no slice. -/
def Scalar (x : Value) (w : World) (e : Ending) (w' : World) : Prop := e = .returned x ∧ Below w.heap.size w w'
/-- The model's table, the program's table; each with a bool, too. -/
def SpecG (m : List (List Int)) (w : World) (e : Ending) (w' : World) : Prop := ∃ v, e = .returned v ∧ GridV w' v m ∧ Below w.heap.size w w'
def SpecGB (m : List (List Int)) (b : Bool) (w : World) (e : Ending) (w' : World) : Prop := ∃ v, e = .returned (.tuple #[v, .bool b]) ∧ GridV w' v m ∧ Below w.heap.size w w'
end Go.Proofs.YtalclebehbdliaaGreatDoor
namespace Go.Proofs.YtalclebehbdliaaGreatDoor
open Go

/-- The digits of u, none for 0. -/
def dd (u : Nat) : List UInt8 := if u = 0 then [] else Lib.decDigits u
theorem dd_zero : dd 0 = [] := rfl
theorem dd_pos {u : Nat} (h : u ≠ 0) : dd u = Lib.decDigits u := by unfold dd; rw [if_neg h]
theorem dd_step {u : Nat} (h : u ≠ 0) : dd u = dd (u / 10) ++ [UInt8.ofNat (48 + u % 10)] := by
  rw [dd_pos h]
  by_cases h10 : u < 10
  · have e0 : u / 10 = 0 := by omega
    rw [e0, dd_zero, Lib.decDigits_one h10, Nat.mod_eq_of_lt h10]; rfl
  · rw [Lib.decDigits, dif_neg h10, dd_pos (by omega)]
theorem dd_length : ∀ (k u : Nat), u < 10 ^ k → (dd u).length ≤ k
  | 0, u, h => by
    have : u = 0 := by simpa using h
    subst this; simp [dd_zero]
  | k + 1, u, h => by
    by_cases h0 : u = 0
    · subst h0; simp [dd_zero]
    · rw [dd_step h0, List.length_append]
      rw [Nat.pow_succ] at h
      have := dd_length k (u / 10) (by omega)
      simp; omega
theorem itoa_pos {u : Nat} (h : u ≠ 0) : Lib.itoa (u : Int) = dd u := by rw [Lib.itoa_nonneg, dd_pos h]
theorem itoa_negd {u : Nat} (h : u ≠ 0) : Lib.itoa (-(u : Int)) = 45 :: dd u := by rw [Lib.itoa_neg u (by omega), dd_pos h]
theorem itoa_zero : Lib.itoa 0 = [48] := by rw [show (0 : Int) = ((0 : Nat) : Int) from rfl, Lib.itoa_nonneg, Lib.decDigits_one (by decide)]; rfl

/-! ### Reading digits -/
theorem decFrom_append : ∀ (l r : List UInt8) (acc : Nat), Lib.decFrom acc (l ++ r) = (Lib.decFrom acc l).bind fun n => Lib.decFrom n r
  | [], r, acc => by simp [Lib.decFrom]
  | a :: t, r, acc => by
    simp only [List.cons_append, Lib.decFrom]
    cases Lib.digitVal a with
    | none => rfl
    | some d => exact decFrom_append t r _
theorem digitVal_of {d : Nat} (h : d < 10) : Lib.digitVal (UInt8.ofNat (48 + d)) = some d := by
  have e : (UInt8.ofNat (48 + d)).toNat = 48 + d := by simp [UInt8.toNat_ofNat']; omega
  unfold Lib.digitVal; rw [e, if_pos (by omega)]; congr 1; omega
theorem decFrom_dd : ∀ (k u : Nat), u < 10 ^ k → Lib.decFrom 0 (dd u) = some u
  | 0, u, h => by
    have : u = 0 := by simpa using h
    subst this; rfl
  | k + 1, u, h => by
    by_cases h0 : u = 0
    · subst h0; rfl
    · rw [Nat.pow_succ] at h
      rw [dd_step h0, decFrom_append, decFrom_dd k (u / 10) (by omega)]
      simp only [Option.bind_some, Lib.decFrom, digitVal_of (show u % 10 < 10 by omega)]
      congr 1; omega
theorem lt_pow_self (u : Nat) : u < 10 ^ u := Nat.lt_pow_self (by decide)
theorem decFrom_decDigits (u : Nat) : Lib.decFrom 0 (Lib.decDigits u) = some u := by
  by_cases h0 : u = 0
  · subst h0; rw [Lib.decDigits_one (by decide)]; rfl
  · rw [← dd_pos h0]; exact decFrom_dd u u (lt_pow_self u)
theorem decDigits_ne (u : Nat) : Lib.decDigits u ≠ [] := by
  intro h
  have := Lib.decDigits_length u
  rw [h] at this
  have := Lib.nDigits_pos u
  simp at *; omega
theorem decNat_decDigits (u : Nat) : Lib.decNat (Lib.decDigits u) = some u := by
  unfold Lib.decNat
  rw [if_neg (by simpa using decDigits_ne u), decFrom_decDigits]
/-- The first byte of a numeral without a sign is a digit. -/
theorem decDigits_head {u : Nat} {b : UInt8} {r : List UInt8} (h : Lib.decDigits u = b :: r) : 48 ≤ b.toNat ∧ b.toNat ≤ 57 := by
  have hd := decFrom_decDigits u
  rw [h] at hd
  obtain ⟨d, e⟩ := Lib.digit_of_decFrom _ _ _ hd 0 b rfl
  unfold Lib.digitVal at e
  split at e
  · assumption
  · cases e

theorem atoi_itoa (n : Int) : Lib.atoi (Lib.itoa n) = some n := by
  by_cases h : n < 0
  · have e : Lib.itoa n = 45 :: Lib.decDigits n.natAbs := by unfold Lib.itoa; rw [if_pos h]
    rw [e]
    simp only [Lib.atoi, decNat_decDigits]
    simp; omega
  · have e : Lib.itoa n = Lib.decDigits n.toNat := by unfold Lib.itoa; rw [if_neg h]
    rw [e]
    cases hl : Lib.decDigits n.toNat with
    | nil => exact absurd hl (decDigits_ne _)
    | cons b r =>
      have hb := decDigits_head hl
      have h45 : (b == 45) = false := by
        rw [beq_eq_false_iff_ne]; rintro rfl; simp at hb
      have h43 : (b == 43) = false := by
        rw [beq_eq_false_iff_ne]; rintro rfl; simp at hb
      simp only [Lib.atoi, h45, h43, ← hl, decNat_decDigits]
      simp; omega
theorem itoa_inj {a b : Int} (h : Lib.itoa a = Lib.itoa b) : a = b := by
  have := atoi_itoa a; rw [h, atoi_itoa] at this; exact (Option.some.inj this).symm

/-! ### The integer between two limits that a list of bytes is the numeral of -/
def numOf (lo hi : Int) (l : List UInt8) : Option Int :=
  match Lib.atoi l with
  | some v => if lo ≤ v ∧ v ≤ hi ∧ Lib.itoa v = l then some v else none
  | none => none
theorem numOf_some {lo hi : Int} {l : List UInt8} {n : Int} : numOf lo hi l = some n ↔ lo ≤ n ∧ n ≤ hi ∧ Lib.itoa n = l := by
  constructor
  · intro h
    unfold numOf at h
    split at h
    · split at h
      · cases h; assumption
      · cases h
    · cases h
  · rintro ⟨h1, h2, rfl⟩
    unfold numOf
    simp only [atoi_itoa]
    rw [if_pos ⟨h1, h2, trivial⟩]
theorem numOf_none {lo hi : Int} {l : List UInt8} (h : ∀ n, lo ≤ n → n ≤ hi → Lib.itoa n ≠ l) : numOf lo hi l = none := by
  cases e : numOf lo hi l with
  | none => rfl
  | some n => obtain ⟨a, b, c⟩ := numOf_some.1 e; exact absurd c (h n a b)

/-! ### How long the numerals are -/
theorem decDigits_length_le {k u : Nat} (hk : 1 ≤ k) (h : u < 10 ^ k) : (Lib.decDigits u).length ≤ k := by
  by_cases h0 : u = 0
  · subst h0; rw [Lib.decDigits_one (by decide)]; simpa using hk
  · rw [← dd_pos h0]; exact dd_length k u h
theorem itoa_length_le {k : Nat} {n : Int} (hk : 1 ≤ k) (h : n.natAbs < 10 ^ k) : (Lib.itoa n).length ≤ k + 1 := by
  unfold Lib.itoa
  split
  · have := decDigits_length_le hk h; simp; omega
  · have := decDigits_length_le hk (u := n.toNat) (by omega); omega
/-- strconv.Atoi reads every numeral between the limits. -/
theorem atoiAll_of_numOf {lo hi : Int} {l : List UInt8} {n : Int} (hlo : -999999999999 ≤ lo) (hhi : hi ≤ 999999999999) (h : numOf lo hi l = some n) : Lib.atoiAll l = .ok n := by
  obtain ⟨h1, h2, rfl⟩ := numOf_some.1 h
  have hlen := itoa_length_le (k := 12) (n := n) (by decide) (by omega)
  rw [Lib.atoiAll_short _ (by omega), atoi_itoa]
  rfl
/-- What strconv.Atoi reads, and is no numeral of that form between the limits, is none. -/
theorem numOf_of_atoiAll {lo hi v : Int} {l : List UInt8} (hlo : -999999999999 ≤ lo) (hhi : hi ≤ 999999999999) (h : Lib.atoiAll l = .ok v) (hn : ¬ (lo ≤ v ∧ v ≤ hi ∧ Lib.itoa v = l)) : numOf lo hi l = none := by
  cases e : numOf lo hi l with
  | none => rfl
  | some n =>
    have := atoiAll_of_numOf hlo hhi e
    rw [h] at this
    cases this
    exact absurd (numOf_some.1 e) hn
theorem numOf_of_atoiAll_not {lo hi : Int} {l : List UInt8} (hlo : -999999999999 ≤ lo) (hhi : hi ≤ 999999999999) (h : ∀ v, Lib.atoiAll l ≠ .ok v) : numOf lo hi l = none := by
  cases e : numOf lo hi l with
  | none => rfl
  | some n => exact absurd (atoiAll_of_numOf hlo hhi e) (h n)
end Go.Proofs.YtalclebehbdliaaGreatDoor
namespace Go.Proofs.YtalclebehbdliaaGreatDoor
open Go Go.RowKit

theorem ret_str {a b : ByteArray} (h : a = b) : Ending.returned (.string a) = .returned (.string b) := by rw [h]
theorem bytes_ext {a : ByteArray} {l : List UInt8} (h : a.data.toList = l) : a = ⟨l.toArray⟩ := by subst h; rfl

/-- 'string([]byte{x})' -/
theorem conv_one (b : UInt8) (y : Int) (hy : y = (b.toNat : Int)) (w : World) : (convert 22 9 (.slice (some ⟨w.heap.size, 0, none⟩) 1 1)).run Tryz.prog (w.alloc (.cells #[.int .u8 y] 5)) = .ok (.string ⟨#[b]⟩) (w.alloc (.cells #[.int .u8 y] 5)) := by
  subst hy
  have h := run_convert_bytes_arg (P := Tryz.prog) (w.alloc (.cells #[.int .u8 (b.toNat : Int)] 5)) 22 5 Tryz.underlying22 Tryz.underlying5 w.heap.size 0 1 1 [(b.toNat : Int)] rfl (fun i hi => by
    obtain rfl : i = 0 := by omega
    simp [go_sem]) 9 Tryz.underlying9
  rw [h]
  simp [strOfNums]

theorem dd_rest {u c : Nat} {s : ByteArray} {b : UInt8} (h : dd c ++ s.data.toList = dd u) (h0 : 0 < c) (hb : b = UInt8.ofNat (48 + c % 10)) : dd (c / 10) ++ ((⟨#[b]⟩ : ByteArray) ++ s).data.toList = dd u := by
  rw [← h, dd_step (show c ≠ 0 by omega), hb]; simp [ByteArray.data_append]
theorem dd_len {u c : Nat} {s : ByteArray} (h : dd c ++ s.data.toList = dd u) (hu : u ≤ 9223372036854775808) : s.size ≤ 1000 := by
  have h1 := dd_length 20 u (by omega)
  rw [← h, List.length_append] at h1
  have h2 : s.size = s.data.toList.length := rfl
  omega
theorem digit_byte (c : Nat) : ∃ b : UInt8, b = UInt8.ofNat (48 + c % 10) ∧ (48 : Int) + (c : Int) % 10 = (b.toNat : Int) :=
  ⟨_, rfl, by
    have e : (UInt8.ofNat (48 + c % 10)).toNat = 48 + c % 10 := by rw [UInt8.toNat_ofNat']; exact Nat.mod_eq_of_lt (by omega)
    rw [e]; omega⟩

set_option maxRecDepth 100000 in
set_option maxHeartbeats 400000 in
theorem spec_fmt_pos (u : Nat) (hu0 : 0 < u) (hu : u ≤ 9223372036854775807) (w : World) :
    Calls Tryz.prog 54 #[.int .i64 u] w fun e w' => e = .returned (.string ⟨(Lib.itoa u).toArray⟩) ∧ Below w.heap.size w w' := by
  have hz : ((u : Int) == 0) = false := by simp; omega
  have hn : decide ((u : Int) < 0) = false := by simp
  go_enter Tryz.func54, Tryz.ntmps54
  go_wp2
  go_loopw [0, 4] (fun n o wr => ∃ (c : Nat) (s : ByteArray), c ≤ u ∧ Hid (dd c ++ s.data.toList = dd u) ∧ n = .int .i64 c ∧ o = .string s ∧ Below w.heap.size w wr) (fun n _ _ => (intOf n).toNat)
  case atStart => exact ⟨u, _, Nat.le_refl _, Lib.hid (by simp), rfl, rfl, Below.refl _ _⟩
  case round =>
    obtain ⟨c, s, hc, hl, rfl, rfl, hb⟩ := hrel
    by_cases h0 : 0 < c
    · obtain ⟨b, hb1, hb2⟩ := digit_byte c
      have hcv := conv_one b (48 + (c : Int) % 10) hb2
      have hs := dd_len hl.out (by omega)
      have HB := Lib.hid hb1
      clear hb1 hb2
      go_wp2
      go_roundw
      case rel => exact ⟨c / 10, _, by omega, Lib.hid (dd_rest hl.out h0 HB.out), by go_num, rfl, hb.alloc (by have := hb.size; omega) _⟩
      case measure => simp [intOf]; omega
    · obtain rfl : c = 0 := by omega
      go_wp2
      go_ret
      exact ⟨ret_str (bytes_ext (by have := hl.out; rw [dd_zero] at this; rw [itoa_pos (by omega), ← this]; rfl)), hb⟩

theorem tmod_neg (c : Nat) : Int.tmod (-(c : Int)) 10 = -((c : Int) % 10) := by
  rw [Int.neg_tmod, Int.tmod_eq_emod_of_nonneg (by omega)]
theorem tdiv_neg (c : Nat) : Int.tdiv (-(c : Int)) 10 = -((c : Int) / 10) := by
  rw [Int.neg_tdiv, Int.tdiv_eq_ediv_of_nonneg (by omega)]

set_option maxRecDepth 100000 in
set_option maxHeartbeats 400000 in
theorem spec_fmt_neg (u : Nat) (hu0 : 0 < u) (hu : u ≤ 9223372036854775808) (w : World) :
    Calls Tryz.prog 54 #[.int .i64 (-(u : Int))] w fun e w' => e = .returned (.string ⟨(Lib.itoa (-(u : Int))).toArray⟩) ∧ Below w.heap.size w w' := by
  have hz : ((-(u : Int)) == 0) = false := by simp; omega
  have hn : decide ((-(u : Int)) < 0) = true := by simp; omega
  go_enter Tryz.func54, Tryz.ntmps54
  go_wp2
  go_loopw [0, 4] (fun n o wr => ∃ (c : Nat) (s : ByteArray), c ≤ u ∧ Hid (dd c ++ s.data.toList = dd u) ∧ n = .int .i64 (-(c : Int)) ∧ o = .string s ∧ Below w.heap.size w wr) (fun n _ _ => (intOf n).natAbs)
  case atStart => exact ⟨u, _, Nat.le_refl _, Lib.hid (by simp), rfl, rfl, Below.refl _ _⟩
  case round =>
    obtain ⟨c, s, hc, hl, rfl, rfl, hb⟩ := hrel
    by_cases h0 : 0 < c
    · obtain ⟨b, hb1, hb2⟩ := digit_byte c
      have hcv := conv_one b (48 + (c : Int) % 10) hb2
      have hs := dd_len hl.out (by omega)
      have HB := Lib.hid hb1
      have ht := tmod_neg c
      have hd := tdiv_neg c
      have hb3 := Lib.hid hb2
      clear hb1 hb2
      by_cases h1 : 0 < (c : Int) % 10
      · go_wp2
        go_roundw
        case rel => exact ⟨c / 10, _, by omega, Lib.hid (dd_rest hl.out h0 HB.out), by go_num, rfl, hb.alloc (by have := hb.size; omega) _⟩
        case measure => simp [intOf]; omega
      · have hcv2 := conv_one b (48 + -((c : Int) % 10)) (by have := HB.out; subst this; rw [← hb3.out]; omega)
        clear hcv
        go_wp2
        go_roundw
        case rel => exact ⟨c / 10, _, by omega, Lib.hid (dd_rest hl.out h0 HB.out), by go_num, rfl, hb.alloc (by have := hb.size; omega) _⟩
        case measure => simp [intOf]; omega
    · obtain rfl : c = 0 := by omega
      have hs := dd_len hl.out (by omega)
      go_wp2
      go_ret
      exact ⟨ret_str (bytes_ext (by have := hl.out; rw [dd_zero] at this; rw [itoa_negd (by omega), ← this]; simp [ByteArray.data_append])), hb⟩

set_option maxRecDepth 100000 in
set_option maxHeartbeats 400000 in
theorem spec_fmt_zero (w : World) :
    Calls Tryz.prog 54 #[.int .i64 0] w fun e w' => e = .returned (.string ⟨(Lib.itoa 0).toArray⟩) ∧ Below w.heap.size w w' := by
  rw [itoa_zero]
  go_enter Tryz.func54, Tryz.ntmps54
  go_wp2
  go_ret
  exact ⟨rfl, Below.refl _ _⟩

/-- The model's FormatInt, at every int. -/
theorem spec_fmt (n : Int) (h0 : -9223372036854775808 ≤ n) (h1 : n ≤ 9223372036854775807) (w : World) :
    Calls Tryz.prog 54 #[.int .i64 n] w fun e w' => e = .returned (.string ⟨(Lib.itoa n).toArray⟩) ∧ Below w.heap.size w w' := by
  rcases Int.lt_trichotomy n 0 with h | h | h
  · obtain ⟨u, rfl⟩ : ∃ u : Nat, n = -(u : Int) := ⟨n.natAbs, by omega⟩
    exact spec_fmt_neg u (by omega) (by omega) w
  · subst h; exact spec_fmt_zero w
  · obtain ⟨u, rfl⟩ : ∃ u : Nat, n = (u : Int) := ⟨n.toNat, by omega⟩
    exact spec_fmt_pos u (by omega) (by omega) w
end Go.Proofs.YtalclebehbdliaaGreatDoor
namespace Go.Proofs.YtalclebehbdliaaGreatDoor
open Go

/-! ### The sign and what stands behind it -/
def negOf (l : List UInt8) : Bool := l.head? == some 45
def magOf (l : List UInt8) : List UInt8 := if negOf l then l.tail else l
def sg (neg : Bool) (m : Nat) : Int := if neg then -(m : Int) else m
theorem itoa_parts (n : Int) : negOf (Lib.itoa n) = decide (n < 0) ∧ magOf (Lib.itoa n) = Lib.decDigits n.natAbs := by
  by_cases h : n < 0
  · have e : Lib.itoa n = 45 :: Lib.decDigits n.natAbs := by unfold Lib.itoa; rw [if_pos h]
    rw [e]
    have hn : negOf (45 :: Lib.decDigits n.natAbs) = true := rfl
    refine ⟨by rw [hn]; simp [h], ?_⟩
    unfold magOf; rw [hn]; rfl
  · have e : Lib.itoa n = Lib.decDigits n.toNat := by unfold Lib.itoa; rw [if_neg h]
    have e2 : n.natAbs = n.toNat := by omega
    rw [e, e2]
    have hn : negOf (Lib.decDigits n.toNat) = false := by
      cases hl : Lib.decDigits n.toNat with
      | nil => rfl
      | cons b r =>
        have hb := decDigits_head hl
        unfold negOf
        simp only [List.head?_cons]
        rw [beq_eq_false_iff_ne]
        intro hc
        cases hc
        simp at hb
    refine ⟨by rw [hn]; simp [h], ?_⟩
    unfold magOf; rw [hn]; rfl
theorem sg_natAbs (n : Int) : sg (decide (n < 0)) n.natAbs = n := by
  unfold sg
  by_cases h : n < 0
  · simp [h]; omega
  · simp [h]; omega
theorem digitVal_lt {b : UInt8} {d : Nat} (h : Lib.digitVal b = some d) : d < 10 := by
  unfold Lib.digitVal at h
  split at h
  · cases h; omega
  · cases h
theorem decFrom_lt : ∀ (l : List UInt8) (acc k m : Nat), acc < 10 ^ k → Lib.decFrom acc l = some m → m < 10 ^ (k + l.length)
  | [], acc, k, m, ha, h => by
    simp only [Lib.decFrom, Option.some.injEq] at h
    subst h; simpa using ha
  | b :: r, acc, k, m, ha, h => by
    simp only [Lib.decFrom] at h
    cases hd : Lib.digitVal b with
    | none => rw [hd] at h; cases h
    | some d =>
      rw [hd] at h
      have h10 := digitVal_lt hd
      have := decFrom_lt r (acc * 10 + d) (k + 1) m (by rw [Nat.pow_succ]; omega) h
      rw [List.length_cons]
      rw [show k + (r.length + 1) = k + 1 + r.length by omega]
      exact this
theorem decFrom_take_lt {l : List UInt8} {k m : Nat} (hk : k ≤ l.length) (h : Lib.decFrom 0 (l.take k) = some m) : m < 10 ^ k := by
  have := decFrom_lt (l.take k) 0 0 m (by decide) h
  rwa [List.length_take, Nat.zero_add, Nat.min_eq_left hk] at this

/-- The reading between -lim and lim, at its four ends. -/
def readOf (lim : Nat) (l : List UInt8) : Option Int := numOf (-(lim : Int)) lim l
theorem readOf_parts {lim : Nat} {l : List UInt8} {n : Int} (h : readOf lim l = some n) : n.natAbs ≤ lim ∧ negOf l = decide (n < 0) ∧ magOf l = Lib.decDigits n.natAbs ∧ Lib.itoa n = l := by
  obtain ⟨h1, h2, rfl⟩ := numOf_some.1 h
  exact ⟨by omega, (itoa_parts n).1, (itoa_parts n).2, rfl⟩
theorem readOf_length {most lim : Nat} {l : List UInt8} (hm : 1 ≤ most) (hl : lim < 10 ^ most) (h : (magOf l).length < 1 ∨ most < (magOf l).length) : readOf lim l = none := by
  cases e : readOf lim l with
  | none => rfl
  | some n =>
    obtain ⟨h1, _, h3, _⟩ := readOf_parts e
    rw [h3] at h
    have h4 := decDigits_length_le (u := n.natAbs) hm (by omega)
    have h5 : 1 ≤ (Lib.decDigits n.natAbs).length := by rw [Lib.decDigits_length]; exact Lib.nDigits_pos _
    omega
theorem readOf_nodigit {lim : Nat} {l : List UInt8} {k : Nat} {b : UInt8} (hb : (magOf l)[k]? = some b) (h : b.toNat < 48 ∨ 57 < b.toNat) : readOf lim l = none := by
  cases e : readOf lim l with
  | none => rfl
  | some n =>
    obtain ⟨_, _, h3, _⟩ := readOf_parts e
    rw [h3] at hb
    obtain ⟨d, hd⟩ := Lib.digit_of_decFrom _ _ _ (decFrom_decDigits n.natAbs) k b hb
    unfold Lib.digitVal at hd
    rw [if_neg (by omega)] at hd
    cases hd
theorem readOf_other {lim m : Nat} {l : List UInt8} (h : Lib.decFrom 0 (magOf l) = some m) (hne : Lib.itoa (sg (negOf l) m) ≠ l) : readOf lim l = none := by
  cases e : readOf lim l with
  | none => rfl
  | some n =>
    obtain ⟨_, h2, h3, h4⟩ := readOf_parts e
    rw [h3, decFrom_decDigits] at h
    obtain rfl := Option.some.inj h
    rw [h2, sg_natAbs] at hne
    exact absurd h4 hne
theorem readOf_same {lim m : Nat} {l : List UInt8} (hm : m ≤ lim) (he : Lib.itoa (sg (negOf l) m) = l) : readOf lim l = some (sg (negOf l) m) := by
  refine numOf_some.2 ⟨?_, ?_, he⟩
  · unfold sg; split <;> omega
  · unfold sg; split <;> omega
theorem decFrom_next {l : List UInt8} {k m : Nat} {b : UInt8} (h : Lib.decFrom 0 (l.take k) = some m) (hb : l[k]? = some b) (h1 : 48 ≤ b.toNat) (h2 : b.toNat ≤ 57) : Lib.decFrom 0 (l.take (k + 1)) = some (m * 10 + (b.toNat - 48)) :=
  Lib.decFrom_take l k 0 m b _ h hb (by unfold Lib.digitVal; rw [if_pos ⟨h1, h2⟩])
/-- The results. -/
def numV (r : Option Int) : Int := r.getD 0
def numB (r : Option Int) : Bool := r.isSome
end Go.Proofs.YtalclebehbdliaaGreatDoor
namespace Go.Proofs.YtalclebehbdliaaGreatDoor
open Go Go.RowKit

theorem getElem_q (t : ByteArray) (k : Nat) (h : k < t.size) : t.data.toList[k]? = some t[k] := by
  have h' : k < t.data.toList.length := h
  rw [List.getElem?_eq_getElem h']; rfl
theorem ret_num {a b : Int} {x y : Bool} (h : a = b) (h2 : x = y) : Ending.returned (.tuple #[.int .i64 a, .bool x]) = .returned (.tuple #[.int .i64 b, .bool y]) := by rw [h, h2]
theorem len_data (t : ByteArray) : t.data.toList.length = t.size := rfl
theorem pow_le_12 {k : Nat} (h : k ≤ 12) : 10 ^ k ≤ 1000000000000 := by
  have := Nat.pow_le_pow_right (show 0 < 10 by decide) h
  simpa using this
theorem spec_fmt_as (n : Int) (h0 : -9223372036854775808 ≤ n) (h1 : n ≤ 9223372036854775807) (x : ByteArray) (hx : Lib.itoa n = x.data.toList) (w : World) :
    Calls Tryz.prog 54 #[.int .i64 n] w fun e w' => e = .returned (.string x) ∧ Below w.heap.size w w' := by
  have h := spec_fmt n h0 h1 w
  rw [hx] at h
  exact h
theorem str_eq_iff {l : List UInt8} {s : ByteArray} : ((⟨l.toArray⟩ : ByteArray) = s) ↔ l = s.data.toList := by
  constructor
  · rintro rfl; rfl
  · rintro rfl; rfl

set_option maxRecDepth 100000 in
set_option maxHeartbeats 1600000 in
theorem spec_read_pos (s : ByteArray) (most lim : Nat) (hm1 : 1 ≤ most) (hm2 : most ≤ 12) (hl : Hid (lim + 1 = 10 ^ most)) (w : World) (h0 : 0 < s.size)
    (hb : ((s[0].toNat : Int) == 45) = false) (ht : Hid (magOf s.data.toList = s.data.toList)) (hn : Hid (negOf s.data.toList = false)) (hts : s.size ≤ 9223372036854775807) :
    Calls Tryz.prog 109 #[.string s, .int .i64 most] w fun e w' => e = .returned (.tuple #[.int .i64 (numV (readOf lim s.data.toList)), .bool (numB (readOf lim s.data.toList))]) ∧ Below w.heap.size w w' := by
  have hz : ¬ s.size < 1 := by omega
  by_cases hy : most < s.size
  · have hR : readOf lim s.data.toList = none := readOf_length hm1 (by have := hl.out; omega) (by rw [ht.out, len_data]; omega)
    have HR := Lib.hid hR
    clear hR
    go_enter Tryz.func109, Tryz.ntmps109
    go_wp2
    go_ret2
    exact ⟨ret_num (by rw [HR.out]; rfl) (by rw [HR.out]; rfl), Below.refl _ _⟩
  have hz1 : decide ((s.size : Int) < 1) = false := by simp; omega
  have hy1 : decide (most < s.size) = false := by simp; omega
  go_enter Tryz.func109, Tryz.ntmps109
  go_wp2
  go_loop [8, 9] (fun n i => ∃ k m : Nat, k ≤ s.size ∧ m < 1000000000000 ∧ Hid (Lib.decFrom 0 (s.data.toList.take k) = some m) ∧ n = .int .i64 m ∧ i = .int .i64 k) (fun _ i => s.size - (intOf i).toNat)
  case atStart => exact ⟨0, 0, Nat.zero_le _, by decide, Lib.hid (by simp [Lib.decFrom]), rfl, rfl⟩
  case round =>
    obtain ⟨k, m, hk, hmb, hd, rfl, rfl⟩ := hrel
    by_cases hlt : k < s.size
    · have hq := getElem_q s k hlt
      by_cases hdig : 48 ≤ s[k].toNat ∧ s[k].toNat ≤ 57
      · obtain ⟨hd1, hd2⟩ := hdig
        have hnext := decFrom_next hd.out hq hd1 hd2
        have hbound := decFrom_take_lt (l := s.data.toList) (k := k + 1) (by rw [len_data]; omega) hnext
        have hp := pow_le_12 (k := k + 1) (by omega)
        have HN := Lib.hid hnext
        have hm' : m * 10 + (s[k].toNat - 48) < 1000000000000 := by omega
        clear hnext hq hbound hp
        have c1 : decide ((s[k].toNat : Int) < 48) = false := by simp; omega
        have c2 : decide ((57 : Int) < (s[k].toNat : Int)) = false := by simp; omega
        go_wp2
        go_round
        case rel => exact ⟨k + 1, m * 10 + (s[k].toNat - 48), by omega, hm', HN, by go_num, by go_num⟩
        case measure => simp [intOf]; omega
      · have hR : readOf lim s.data.toList = none := readOf_nodigit (k := k) (b := s[k]) (by rw [ht.out]; exact hq) (by omega)
        have HR := Lib.hid hR
        clear hR hq
        go_wp2
        all_goals (go_ret2; exact ⟨ret_num (by rw [HR.out]; rfl) (by rw [HR.out]; rfl), Below.refl _ _⟩)
    · obtain rfl : k = s.size := by omega
      have hall : Lib.decFrom 0 (magOf s.data.toList) = some m := by
        have := hd.out
        rw [List.take_of_length_le (by rw [len_data]; omega)] at this
        rw [ht.out]; exact this
      have hmm : m ≤ lim := by
        have h1 := decFrom_lt _ 0 0 m (by decide) hall
        have h2 := hl.out
        rw [ht.out, len_data, Nat.zero_add] at h1
        have h3 := Nat.pow_le_pow_right (show 0 < 10 by decide) (show s.size ≤ most by omega)
        omega
      have HA := Lib.hid hall
      clear hall
      by_cases he : Lib.itoa (sg false m) = s.data.toList
      · have hR : readOf lim s.data.toList = some (sg false m) := by
          have := readOf_same hmm (l := s.data.toList) (by rw [hn.out]; exact he)
          rw [hn.out] at this; exact this
        have HR := Lib.hid hR
        have HF := Lib.hid (spec_fmt_as ((m : Nat) : Int) (by omega) (by omega) s he)
        clear hR he
        go_wp2_with fail
        refine (HF.out _).mono ?_
        rintro e w1 ⟨rfl, hb1⟩
        go_wp2
        go_ret2
        exact ⟨ret_num (by rw [HR.out]; rfl) (by rw [HR.out]; rfl), hb1⟩
      · have hR : readOf lim s.data.toList = none := readOf_other HA.out (by rw [hn.out]; exact he)
        have HR := Lib.hid hR
        obtain ⟨x, hx⟩ : ∃ x : ByteArray, Lib.itoa (sg false m) = x.data.toList := ⟨⟨_⟩, rfl⟩
        have hne : (x.toList == s.toList) = false := by
          rw [beq_eq_false_iff_ne]
          intro h
          rw [ByteArray.toList_eq, ByteArray.toList_eq] at h
          exact he (by rw [hx, h])
        have HF := Lib.hid (spec_fmt_as ((m : Nat) : Int) (by omega) (by omega) x hx)
        clear hR he hx
        go_wp2_with fail
        refine (HF.out _).mono ?_
        rintro e w1 ⟨rfl, hb1⟩
        go_wp2
        go_ret2
        exact ⟨ret_num (by rw [HR.out]; rfl) (by rw [HR.out]; rfl), hb1⟩

set_option maxRecDepth 100000 in
set_option maxHeartbeats 1600000 in
theorem spec_read_neg (s t : ByteArray) (most lim : Nat) (hm1 : 1 ≤ most) (hm2 : most ≤ 12) (hl : Hid (lim + 1 = 10 ^ most)) (w : World) (h0 : 0 < s.size)
    (hb : ((s[0].toNat : Int) == 45) = true) (hsl : ∀ w, (Instr.slice 9 (.string s) (some (.int .i64 1)) none none).run Tryz.prog w = .ok (.string t) w) (ht : Hid (magOf s.data.toList = t.data.toList)) (hn : Hid (negOf s.data.toList = true)) (hts : t.size ≤ 9223372036854775807) :
    Calls Tryz.prog 109 #[.string s, .int .i64 most] w fun e w' => e = .returned (.tuple #[.int .i64 (numV (readOf lim s.data.toList)), .bool (numB (readOf lim s.data.toList))]) ∧ Below w.heap.size w w' := by
  by_cases hz : t.size < 1
  · have hR : readOf lim s.data.toList = none := readOf_length hm1 (by have := hl.out; omega) (by rw [ht.out, len_data]; omega)
    have HR := Lib.hid hR
    clear hR
    go_enter Tryz.func109, Tryz.ntmps109
    go_wp2
    go_ret2
    exact ⟨ret_num (by rw [HR.out]; rfl) (by rw [HR.out]; rfl), Below.refl _ _⟩
  by_cases hy : most < t.size
  · have hR : readOf lim s.data.toList = none := readOf_length hm1 (by have := hl.out; omega) (by rw [ht.out, len_data]; omega)
    have HR := Lib.hid hR
    clear hR
    go_enter Tryz.func109, Tryz.ntmps109
    go_wp2
    go_ret2
    exact ⟨ret_num (by rw [HR.out]; rfl) (by rw [HR.out]; rfl), Below.refl _ _⟩
  have hz1 : decide ((t.size : Int) < 1) = false := by simp; omega
  have hy1 : decide (most < t.size) = false := by simp; omega
  go_enter Tryz.func109, Tryz.ntmps109
  go_wp2
  go_loop [8, 9] (fun n i => ∃ k m : Nat, k ≤ t.size ∧ m < 1000000000000 ∧ Hid (Lib.decFrom 0 (t.data.toList.take k) = some m) ∧ n = .int .i64 m ∧ i = .int .i64 k) (fun _ i => t.size - (intOf i).toNat)
  case atStart => exact ⟨0, 0, Nat.zero_le _, by decide, Lib.hid (by simp [Lib.decFrom]), rfl, rfl⟩
  case round =>
    obtain ⟨k, m, hk, hmb, hd, rfl, rfl⟩ := hrel
    by_cases hlt : k < t.size
    · have hq := getElem_q t k hlt
      by_cases hdig : 48 ≤ t[k].toNat ∧ t[k].toNat ≤ 57
      · obtain ⟨hd1, hd2⟩ := hdig
        have hnext := decFrom_next hd.out hq hd1 hd2
        have hbound := decFrom_take_lt (l := t.data.toList) (k := k + 1) (by rw [len_data]; omega) hnext
        have hp := pow_le_12 (k := k + 1) (by omega)
        have HN := Lib.hid hnext
        have hm' : m * 10 + (t[k].toNat - 48) < 1000000000000 := by omega
        clear hnext hq hbound hp
        have c1 : decide ((t[k].toNat : Int) < 48) = false := by simp; omega
        have c2 : decide ((57 : Int) < (t[k].toNat : Int)) = false := by simp; omega
        go_wp2
        go_round
        case rel => exact ⟨k + 1, m * 10 + (t[k].toNat - 48), by omega, hm', HN, by go_num, by go_num⟩
        case measure => simp [intOf]; omega
      · have hR : readOf lim s.data.toList = none := readOf_nodigit (k := k) (b := t[k]) (by rw [ht.out]; exact hq) (by omega)
        have HR := Lib.hid hR
        clear hR hq
        go_wp2
        all_goals (go_ret2; exact ⟨ret_num (by rw [HR.out]; rfl) (by rw [HR.out]; rfl), Below.refl _ _⟩)
    · obtain rfl : k = t.size := by omega
      have hall : Lib.decFrom 0 (magOf s.data.toList) = some m := by
        have := hd.out
        rw [List.take_of_length_le (by rw [len_data]; omega)] at this
        rw [ht.out]; exact this
      have hmm : m ≤ lim := by
        have h1 := decFrom_lt _ 0 0 m (by decide) hall
        have h2 := hl.out
        rw [ht.out, len_data, Nat.zero_add] at h1
        have h3 := Nat.pow_le_pow_right (show 0 < 10 by decide) (show t.size ≤ most by omega)
        omega
      have HA := Lib.hid hall
      clear hall
      by_cases he : Lib.itoa (sg true m) = s.data.toList
      · have hR : readOf lim s.data.toList = some (sg true m) := by
          have := readOf_same hmm (l := s.data.toList) (by rw [hn.out]; exact he)
          rw [hn.out] at this; exact this
        have HR := Lib.hid hR
        have HF := Lib.hid (spec_fmt_as (-(m : Int)) (by omega) (by omega) s he)
        clear hR he
        go_wp2_with fail
        refine (HF.out _).mono ?_
        rintro e w1 ⟨rfl, hb1⟩
        go_wp2
        go_ret2
        exact ⟨ret_num (by rw [HR.out]; rfl) (by rw [HR.out]; rfl), hb1⟩
      · have hR : readOf lim s.data.toList = none := readOf_other HA.out (by rw [hn.out]; exact he)
        have HR := Lib.hid hR
        obtain ⟨x, hx⟩ : ∃ x : ByteArray, Lib.itoa (sg true m) = x.data.toList := ⟨⟨_⟩, rfl⟩
        have hne : (x.toList == s.toList) = false := by
          rw [beq_eq_false_iff_ne]
          intro h
          rw [ByteArray.toList_eq, ByteArray.toList_eq] at h
          exact he (by rw [hx, h])
        have HF := Lib.hid (spec_fmt_as (-(m : Int)) (by omega) (by omega) x hx)
        clear hR he hx
        go_wp2_with fail
        refine (HF.out _).mono ?_
        rintro e w1 ⟨rfl, hb1⟩
        go_wp2
        go_ret2
        exact ⟨ret_num (by rw [HR.out]; rfl) (by rw [HR.out]; rfl), hb1⟩

set_option maxRecDepth 100000 in
set_option maxHeartbeats 400000 in
theorem spec_read_empty (s : ByteArray) (h0 : s.size = 0) (most lim : Nat) (hm1 : 1 ≤ most) (hl : Hid (lim + 1 = 10 ^ most)) (w : World) :
    Calls Tryz.prog 109 #[.string s, .int .i64 most] w fun e w' => e = .returned (.tuple #[.int .i64 (numV (readOf lim s.data.toList)), .bool (numB (readOf lim s.data.toList))]) ∧ Below w.heap.size w w' := by
  have hR : readOf lim s.data.toList = none := readOf_length hm1 (by have := hl.out; omega) (Or.inl (by
    have h1 : s.data.toList = [] := List.eq_nil_of_length_eq_zero h0
    rw [h1]; decide))
  have HR := Lib.hid hR
  clear hR
  have hd1 : decide (0 < s.size) = false := by simp [h0]
  have hd2 : ¬ 0 < s.size := by omega
  clear h0
  go_enter Tryz.func109, Tryz.ntmps109
  go_wp2
  go_ret2
  exact ⟨ret_num (by rw [HR.out]; rfl) (by rw [HR.out]; rfl), Below.refl _ _⟩

/-- The model's l1Read. -/
theorem spec_read (s : ByteArray) (most lim : Nat) (hm1 : 1 ≤ most) (hm2 : most ≤ 12) (hl : Hid (lim + 1 = 10 ^ most)) (hs : s.size ≤ 9223372036854775807) (w : World) :
    Calls Tryz.prog 109 #[.string s, .int .i64 most] w fun e w' => e = .returned (.tuple #[.int .i64 (numV (readOf lim s.data.toList)), .bool (numB (readOf lim s.data.toList))]) ∧ Below w.heap.size w w' := by
  by_cases h0 : 0 < s.size
  · have hq := getElem_q s 0 h0
    have hh : s.data.toList.head? = some s[0] := by rw [List.head?_eq_getElem?]; exact hq
    by_cases h45 : s[0] = 45
    · have hn : negOf s.data.toList = true := by unfold negOf; rw [hh, h45]; rfl
      refine spec_read_neg s (s.extract 1 s.size) most lim hm1 hm2 hl w h0 (by rw [h45]; rfl) (fun w => ?_) (Lib.hid ?_) (Lib.hid hn) (by simp; omega)
      · exact run_slice_string_l w 9 s Tryz.underlying9 .i64 1 (by decide) (by omega)
      · unfold magOf
        rw [hn, if_pos rfl, Lib.extract_to_end, List.drop_one]
    · have hn : negOf s.data.toList = false := by
        unfold negOf; rw [hh, beq_eq_false_iff_ne]
        intro h; exact h45 (Option.some.inj h)
      have hb : ((s[0].toNat : Int) == 45) = false := by
        rw [beq_eq_false_iff_ne]
        intro h
        exact h45 (UInt8.toNat_inj.1 (by have : s[0].toNat = 45 := by omega
                                         rw [this]; rfl))
      refine spec_read_pos s most lim hm1 hm2 hl w h0 hb (Lib.hid ?_) (Lib.hid hn) hs
      unfold magOf
      rw [hn]; rfl
  · exact spec_read_empty s (by omega) most lim hm1 hl w

/-- ParseInt's and ParseNumber's answers, said of the string's bytes. -/
def intOfS (s : ByteArray) : Option Int := numOf (-999999999999) 999999999999 s.data.toList
def numOfS (s : ByteArray) : Option Int := numOf 0 999999 s.data.toList

set_option maxRecDepth 100000 in
set_option maxHeartbeats 400000 in
theorem spec_parseInt (s : ByteArray) (hs : s.size ≤ 9223372036854775807) (w : World) :
    Calls Tryz.prog 92 #[.string s] w fun e w' => e = .returned (.tuple #[.int .i64 (numV (intOfS s)), .bool (numB (intOfS s))]) ∧ Below w.heap.size w w' := by
  have h := Lib.hid (fun w => spec_read s 12 999999999999 (by decide) (by decide) (Lib.hid (by decide)) hs w)
  go_enter Tryz.func92, Tryz.ntmps92
  go_wp2_with fail
  refine (h.out _).mono ?_
  rintro e w1 ⟨rfl, hb1⟩
  go_wp2
  go_ret2
  exact ⟨rfl, hb1⟩

theorem numOfS_of_read {s : ByteArray} : numOfS s = match readOf 999999 s.data.toList with | some n => if n < 0 then none else some n | none => none := by
  cases e : numOfS s with
  | some n =>
    obtain ⟨h1, h2, h3⟩ := numOf_some.1 e
    have : readOf 999999 s.data.toList = some n := numOf_some.2 ⟨by omega, h2, h3⟩
    rw [this]
    simp only
    rw [if_neg (by omega)]
  | none =>
    cases e2 : readOf 999999 s.data.toList with
    | none => rfl
    | some n =>
      simp only
      by_cases h : n < 0
      · rw [if_pos h]
      · obtain ⟨h1, h2, h3⟩ := numOf_some.1 e2
        have : numOfS s = some n := numOf_some.2 ⟨by omega, h2, h3⟩
        rw [e] at this; cases this

end Go.Proofs.YtalclebehbdliaaGreatDoor
namespace Go.Proofs.YtalclebehbdliaaGreatDoor
open Go Go.RowKit

theorem infoStr : (Tryz.prog.info? 9).map (fun i => (i.zero, i.size, i.bytes)) = some (some (.string ByteArray.empty), 1, 16) := by kernel_rfl

/-- Two rows that hold the same strings are found equal. -/
def TrueBelow (w : World) (e : Ending) (w' : World) : Prop := e = .returned (.bool true) ∧ Below w.heap.size w w'

end Go.Proofs.YtalclebehbdliaaGreatDoor
namespace Go.Proofs.YtalclebehbdliaaGreatDoor
open Go Go.RowKit

def joinOf (xs : List ByteArray) (sep : ByteArray) : List UInt8 := Lib.join (xs.map (·.data.toList)) sep.data.toList
theorem joinOf_nil (sep : ByteArray) : joinOf [] sep = [] := rfl
theorem joinOf_first (xs : List ByteArray) (sep : ByteArray) (h : 0 < xs.length) : joinOf (xs.take (0 + 1)) sep = (xs.getD 0 ByteArray.empty).data.toList := by
  cases xs with
  | nil => simp at h
  | cons x r => simp [joinOf, Lib.join_one]
theorem joinOf_next (xs : List ByteArray) (sep : ByteArray) (k : Nat) (h : k < xs.length) (h0 : 0 < k) : joinOf (xs.take (k + 1)) sep = joinOf (xs.take k) sep ++ sep.data.toList ++ (xs.getD k ByteArray.empty).data.toList := by
  cases xs with
  | nil => simp at h
  | cons x r =>
    obtain ⟨j, rfl⟩ : ∃ j, k = j + 1 := ⟨k - 1, by omega⟩
    have hj : j < r.length := by simpa using h
    have e1 : (r.map (·.data.toList))[j]? = some (r.getD j ByteArray.empty).data.toList := by
      rw [List.getElem?_map, List.getElem?_eq_getElem hj]
      simp [List.getD, List.getElem?_eq_getElem hj]
    have e2 := Lib.joinTail_take_succ sep.data.toList (r.map (·.data.toList)) j _ e1
    unfold joinOf
    simp only [List.take_succ_cons, List.map_cons, Lib.join_cons, List.map_take, List.getD_cons_succ]
    rw [e2]
    simp [List.append_assoc]
theorem lens_eq_total (xs : List ByteArray) : Lib.lens (xs.map (·.data.toList)) = total xs := by
  induction xs with
  | nil => rfl
  | cons x r ih =>
    have : Lib.lens ((x :: r).map (·.data.toList)) = x.data.toList.length + Lib.lens (r.map (·.data.toList)) := by simp [Lib.lens]
    rw [this, ih]
    simp only [total, List.map_cons, List.sum_cons]
    rfl
theorem joinOf_length (xs : List ByteArray) (sep : ByteArray) : (joinOf xs sep).length ≤ sep.size * xs.length + total xs := by
  cases xs with
  | nil => simp [joinOf_nil]
  | cons x r =>
    have h := Lib.join_length x.data.toList (r.map (·.data.toList)) sep.data.toList
    have h2 := lens_eq_total (x :: r)
    simp only [List.map_cons] at h2
    unfold joinOf
    rw [List.map_cons, h, h2, List.length_map]
    have h3 : sep.data.toList.length = sep.size := rfl
    rw [h3, List.length_cons, Nat.mul_add]
    omega
theorem joinOf_take_length (xs : List ByteArray) (sep : ByteArray) (k : Nat) : (joinOf (xs.take k) sep).length ≤ sep.size * xs.length + total xs := by
  have h1 := joinOf_length (xs.take k) sep
  have h2 := total_le_take xs k
  have h3 : sep.size * (xs.take k).length ≤ sep.size * xs.length := Nat.mul_le_mul_left _ (by rw [List.length_take]; omega)
  omega

/-- Bytes as cells. -/
def cellsB (l : List UInt8) : List Value := l.map fun b => .int .u8 b.toNat
theorem cellsB_length (l : List UInt8) : (cellsB l).length = l.length := by simp [cellsB]
theorem cellsB_append (l m : List UInt8) : cellsB l ++ cellsB m = cellsB (l ++ m) := by simp [cellsB]
theorem strCells_cellsB (s : ByteArray) : Lib.strCells s = cellsB s.data.toList := rfl

/-- 'string(b)' of a row that the call owns. -/
theorem conv_owned {P : Program} {w : World} {base src dst e : Nat} {v : Value} {l : List UInt8} (hs : P.underlying src = some (.slice e)) (he : P.underlying e = some (.int .u8)) (hd : P.underlying dst = some .string)
    (h : w.ownsRow base e 1 v l.length (cellsB l)) : (convert src dst v).run P w = .ok (.string ⟨l.toArray⟩) w := by
  rcases h.2 with ⟨rfl, h0⟩ | ⟨g, cap, cur, rfl, _, _, _⟩
  · have : l = [] := List.eq_nil_of_length_eq_zero h0
    subst this
    rw [run_convert_bytes_string w src dst e _ _ _ hs he hd]
    simp [Conv.bytesToString]
    rfl
  · refine run_convert_bytes_back w src dst e ⟨g, 0, none⟩ cap l hs he hd fun j hj => ?_
    have := h.cellAt j (by omega)
    have e : (⟨g, 0, none⟩ : Addr).add j = ⟨g, j, none⟩ := by simp [Addr.add]; exact fun h => h.symm
    rw [e, this]
    simp [cellsB, List.getElem?_eq_getElem hj]
end Go.Proofs.YtalclebehbdliaaGreatDoor
namespace Go.Proofs.YtalclebehbdliaaGreatDoor
open Go Go.RowKit

theorem index1_none (c : UInt8) : ∀ l : List UInt8, (∀ j : Nat, l[j]? ≠ some c) → Lib.index l [c] = -1
  | [], _ => by simp [Lib.index]
  | b :: l, h => by
    have hb : b ≠ c := fun e => h 0 (by simp [e])
    have hp : ([c] : List UInt8).isPrefixOf (b :: l) = false := by simp [List.isPrefixOf, Ne.symm hb]
    have ih := index1_none c l (fun j => by have := h (j + 1); simpa using this)
    rw [Lib.index, hp, ih]; simp
theorem index1_at (c : UInt8) : ∀ (l : List UInt8) (i : Nat), l[i]? = some c → (∀ j : Nat, j < i → l[j]? ≠ some c) → Lib.index l [c] = (i : Int)
  | [], i, h, _ => by simp at h
  | b :: l, 0, h, _ => by
    have hb : b = c := by simpa using h
    subst hb
    rw [Lib.index]; simp [List.isPrefixOf]
  | b :: l, i + 1, h, hn => by
    have hb : b ≠ c := fun e => hn 0 (by omega) (by simp [e])
    have hp : ([c] : List UInt8).isPrefixOf (b :: l) = false := by simp [List.isPrefixOf, Ne.symm hb]
    have ih := index1_at c l i (by simpa using h) (fun j hj => by have := hn (j + 1) (by omega); simpa using this)
    rw [Lib.index, hp, ih]
    simp

/-- The pieces of s, cut at each byte c. -/
def parts (c : UInt8) (s : ByteArray) : List ByteArray := Lib.splitB ⟨#[c]⟩ 0 (Lib.countB s ⟨#[c]⟩) s
theorem parts_length (c : UInt8) (s : ByteArray) : (parts c s).length = Lib.countB s ⟨#[c]⟩ + 1 := Lib.splitB_all ⟨#[c]⟩ (Nat.le_refl 1) 0 _ s rfl
theorem tail_data (s : ByteArray) (f : Nat) : (s.extract f s.size).data.toList = s.data.toList.drop f := Lib.extract_to_end s f
theorem tail_get (s : ByteArray) (f j : Nat) : (s.extract f s.size).data.toList[j]? = s.data.toList[f + j]? := by rw [tail_data, List.getElem?_drop]
theorem tail_size (s : ByteArray) (f : Nat) : (s.extract f s.size).size = s.size - f := by rw [ByteArray.size_extract]; omega
theorem parts_none {c : UInt8} {s : ByteArray} (h : ∀ j : Nat, s.data.toList[j]? ≠ some c) : parts c s = [s] := by
  unfold parts
  exact Lib.splitB_miss _ 0 _ s (index1_none c _ h)
theorem parts_at {c : UInt8} {s : ByteArray} {i : Nat} (h : s.data.toList[i]? = some c) (hn : ∀ j : Nat, j < i → s.data.toList[j]? ≠ some c) : parts c s = s.extract 0 i :: parts c (s.extract (i + 1) s.size) := by
  have hix : Lib.indexB s ⟨#[c]⟩ = (i : Int) := index1_at c _ i h hn
  have hc := Lib.countB_hit s ⟨#[c]⟩ i (Nat.le_refl 1) hix
  have e1 : (⟨#[c]⟩ : ByteArray).size = 1 := rfl
  rw [e1] at hc
  unfold parts
  rw [hc, Nat.add_comm 1, Lib.splitB_hit _ 0 _ s i hix, e1, Nat.add_zero]
theorem bytes_eq {a b : ByteArray} (h : a.data.toList = b.data.toList) : a = b := by
  cases a; cases b
  simpa using h
theorem ext_ext (s : ByteArray) (f k : Nat) (hf : f ≤ k) : (s.extract f s.size).extract 0 (k - f) = s.extract f k := by
  apply bytes_eq
  rw [Lib.extract_data, Lib.extract_data, Lib.extract_data, List.drop_zero, Nat.sub_zero]
  rw [List.take_take]
  by_cases h : k ≤ s.size
  · rw [Nat.min_eq_left (by omega)]
  · have hl : (s.data.toList.drop f).length ≤ s.size - f := by rw [List.length_drop]; exact Nat.le_refl _
    rw [List.take_of_length_le (by rw [Nat.min_def]; split <;> omega), List.take_of_length_le (by omega)]
theorem ext_tail (s : ByteArray) (f d : Nat) : (s.extract f s.size).extract d (s.extract f s.size).size = s.extract (f + d) s.size := by
  apply bytes_eq
  rw [Lib.extract_to_end, Lib.extract_to_end, Lib.extract_to_end, List.drop_drop]
/-- The loop's two steps. -/
theorem parts_tail_none {c : UInt8} {s : ByteArray} {f : Nat} (h : ∀ j : Nat, f ≤ j → s.data.toList[j]? ≠ some c) : parts c (s.extract f s.size) = [s.extract f s.size] :=
  parts_none fun j => by rw [tail_get]; exact h _ (by omega)
theorem parts_tail_at {c : UInt8} {s : ByteArray} {f k : Nat} (hf : f ≤ k) (h : s.data.toList[k]? = some c) (hn : ∀ j : Nat, f ≤ j → j < k → s.data.toList[j]? ≠ some c) : parts c (s.extract f s.size) = s.extract f k :: parts c (s.extract (k + 1) s.size) := by
  rw [parts_at (i := k - f) (by rw [tail_get, show f + (k - f) = k by omega]; exact h) (fun j hj => by rw [tail_get]; exact hn _ (by omega) (by omega))]
  rw [ext_ext s f k hf, ext_tail, show f + (k - f + 1) = k + 1 by omega]
theorem ext_all (s : ByteArray) : s.extract 0 s.size = s := by
  apply bytes_eq
  rw [Lib.extract_to_end, List.drop_zero]

/-! ### What the pieces are -/
/-- Either there is no byte c from f on, or a first one. -/
theorem first_at (c : UInt8) (l : List UInt8) : (∀ j : Nat, l[j]? ≠ some c) ∨ ∃ i, l[i]? = some c ∧ ∀ j : Nat, j < i → l[j]? ≠ some c := by
  induction l with
  | nil => exact Or.inl fun j => by simp
  | cons b r ih =>
    by_cases hb : b = c
    · subst hb; exact Or.inr ⟨0, by simp, fun j hj => by omega⟩
    · rcases ih with h | ⟨i, h, hn⟩
      · left
        intro j
        cases j with
        | zero => simpa using hb
        | succ j => simpa using h j
      · right
        refine ⟨i + 1, by simpa using h, fun j hj => ?_⟩
        cases j with
        | zero => simpa using hb
        | succ j => have := hn j (by omega); simpa using this
theorem at_lt {c : UInt8} {s : ByteArray} {i : Nat} (h : s.data.toList[i]? = some c) : i < s.size := (List.getElem?_eq_some_iff.1 h).1
theorem parts_facts (c : UInt8) : ∀ (n : Nat) (s : ByteArray), s.size ≤ n → (parts c s).length ≤ s.size + 1 ∧ total (parts c s) ≤ s.size ∧ (∀ p ∈ parts c s, ∀ j : Nat, p.data.toList[j]? ≠ some c) ∧ joinOf (parts c s) ⟨#[c]⟩ = s.data.toList := by
  intro n
  induction n with
  | zero =>
    intro s hs
    have h0 : s.data.toList = [] := List.eq_nil_of_length_eq_zero (by show s.size = 0; omega)
    have hno : ∀ j : Nat, s.data.toList[j]? ≠ some c := fun j => by rw [h0]; simp
    rw [parts_none hno]
    exact ⟨by simp, by simp [total], fun p hp => by rw [List.mem_singleton] at hp; subst hp; exact hno, by simp [joinOf, Lib.join_one]⟩
  | succ n ih =>
    intro s hs
    rcases first_at c s.data.toList with hno | ⟨i, hi, hn⟩
    · rw [parts_none hno]
      exact ⟨by simp, by simp [total], fun p hp => by rw [List.mem_singleton] at hp; subst hp; exact hno, by simp [joinOf, Lib.join_one]⟩
    · have hlt := at_lt hi
      have hts := tail_size s (i + 1)
      obtain ⟨h1, h2, h3, h4⟩ := ih (s.extract (i + 1) s.size) (by omega)
      have e0 : (s.extract 0 i).size = i := by rw [ByteArray.size_extract]; omega
      have e1 : (s.extract 0 i).data.toList = s.data.toList.take i := by rw [Lib.extract_data]; simp
      rw [parts_at hi hn]
      refine ⟨by rw [List.length_cons]; omega, by simp only [total, List.map_cons, List.sum_cons] at *; rw [e0]; omega, ?_, ?_⟩
      · intro p hp j
        rcases List.mem_cons.1 hp with rfl | hp
        · rw [e1]
          intro hc
          by_cases hj : j < i
          · rw [List.getElem?_take, if_pos hj] at hc; exact hn j hj hc
          · rw [List.getElem?_take, if_neg hj] at hc; cases hc
        · exact h3 p hp j
      · have hne : ∃ y r, parts c (s.extract (i + 1) s.size) = y :: r := by
          cases hq : parts c (s.extract (i + 1) s.size) with
          | nil => have := parts_length c (s.extract (i + 1) s.size); rw [hq] at this; simp at this
          | cons y r => exact ⟨y, r, rfl⟩
        obtain ⟨y, r, hq⟩ := hne
        rw [hq] at h4 ⊢
        unfold joinOf at h4 ⊢
        simp only [List.map_cons] at h4 ⊢
        rw [Lib.join_cons] at h4 ⊢
        rw [tail_data] at h4
        have e2 : Lib.joinTail (⟨#[c]⟩ : ByteArray).data.toList (y.data.toList :: r.map (·.data.toList)) = [c] ++ (y.data.toList ++ Lib.joinTail (⟨#[c]⟩ : ByteArray).data.toList (r.map (·.data.toList))) := by simp [Lib.joinTail]
        rw [e2, h4, e1]
        have hlen : i < s.data.toList.length := hlt
        have e3 : s.data.toList[i] = c := by rw [List.getElem?_eq_getElem hlen] at hi; exact Option.some.inj hi
        have e4 : s.data.toList.drop i = c :: s.data.toList.drop (i + 1) := by rw [List.drop_eq_getElem_cons hlen, e3]
        rw [List.singleton_append, ← e4, List.take_append_drop]
end Go.Proofs.YtalclebehbdliaaGreatDoor
namespace Go.Proofs.YtalclebehbdliaaGreatDoor
open Go Go.RowKit

/-- The pieces, in new memory. -/
def PartsPost (c : UInt8) (s : ByteArray) (w : World) (e : Ending) (w' : World) : Prop :=
  ∃ g cap, e = .returned (.slice (some ⟨g, 0, none⟩) (parts c s).length cap) ∧ w'.ownsRow w.heap.size 9 1 (.slice (some ⟨g, 0, none⟩) (parts c s).length cap) (parts c s).length ((parts c s).map Value.string) ∧ Below w.heap.size w w'
def SplitInv (c : UInt8) (s : ByteArray) (k f : Nat) (done : List ByteArray) : Prop :=
  done.length ≤ k ∧ ((k ≤ s.size ∧ f ≤ k ∧ done ++ parts c (s.extract f s.size) = parts c s ∧ ∀ j : Nat, f ≤ j → j < k → s.data.toList[j]? ≠ some c) ∨ (k = s.size + 1 ∧ done = parts c s))
theorem SplitInv.start (c : UInt8) (s : ByteArray) : SplitInv c s 0 0 [] := ⟨Nat.le_refl _, Or.inl ⟨Nat.zero_le _, Nat.le_refl _, by rw [ext_all]; rfl, fun j _ h => by omega⟩⟩
theorem SplitInv.part {c : UInt8} {s : ByteArray} {k f : Nat} {done : List ByteArray} (h : SplitInv c s k f done) (hk : k < s.size) : f ≤ k := by
  rcases h.2 with h | h
  · exact h.2.1
  · omega
theorem SplitInv.skip {c : UInt8} {s : ByteArray} {k f : Nat} {done : List ByteArray} (h : SplitInv c s k f done) (hk : k < s.size) (hne : s.data.toList[k]? ≠ some c) : SplitInv c s (k + 1) f done := by
  obtain ⟨h0, h | h⟩ := h
  · refine ⟨by omega, Or.inl ⟨by omega, by omega, h.2.2.1, fun j hf hj => ?_⟩⟩
    rcases Nat.lt_or_ge j k with h1 | h1
    · exact h.2.2.2 j hf h1
    · obtain rfl : j = k := by omega
      exact hne
  · omega
theorem SplitInv.cut {c : UInt8} {s : ByteArray} {k f : Nat} {done : List ByteArray} (h : SplitInv c s k f done) (hk : k < s.size) (he : s.data.toList[k]? = some c) : SplitInv c s (k + 1) (k + 1) (done ++ [s.extract f k]) := by
  obtain ⟨h0, h | h⟩ := h
  · refine ⟨by simp; omega, Or.inl ⟨by omega, Nat.le_refl _, ?_, fun j hf hj => by omega⟩⟩
    rw [← h.2.2.1, parts_tail_at h.2.1 he h.2.2.2]
    simp
  · omega
theorem SplitInv.last {c : UInt8} {s : ByteArray} {f : Nat} {done : List ByteArray} (h : SplitInv c s s.size f done) : SplitInv c s (s.size + 1) (s.size + 1) (done ++ [s.extract f s.size]) := by
  obtain ⟨h0, h | h⟩ := h
  · refine ⟨by simp; omega, Or.inr ⟨rfl, ?_⟩⟩
    rw [← h.2.2.1, parts_tail_none (fun j hf hc => ?_)]
    have hlt := at_lt hc
    exact h.2.2.2 j hf hlt hc
  · omega
theorem SplitInv.endf {c : UInt8} {s : ByteArray} {f : Nat} {done : List ByteArray} (h : SplitInv c s s.size f done) : f ≤ s.size := by
  rcases h.2 with h | h
  · exact h.2.1
  · omega
theorem SplitInv.done {c : UInt8} {s : ByteArray} {f : Nat} {done : List ByteArray} (h : SplitInv c s (s.size + 1) f done) : done = parts c s := by
  rcases h.2 with h | h
  · omega
  · exact h.2

set_option maxRecDepth 100000 in
set_option maxHeartbeats 1600000 in
theorem spec_split (c : UInt8) (s : ByteArray) (hs : s.size ≤ 1048576) (w : World) :
    Calls Tryz.prog 91 #[.string s, .int .u8 (c.toNat : Int)] w (PartsPost c s w) := by
  obtain ⟨i0, hi, hz0, hz1, hz2⟩ := info_parts infoStr
  go_enter Tryz.func91, Tryz.ntmps91
  go_wp2
  go_loopw [5, 6, 7] (fun v fr i wr => ∃ (k f : Nat) (done : List ByteArray), k ≤ s.size + 1 ∧ done.length ≤ k ∧ fr = .int .i64 f ∧ i = .int .i64 k ∧ wr.ownsRow w.heap.size 9 1 v done.length (done.map Value.string) ∧ Below w.heap.size w wr ∧ Hid (SplitInv c s k f done)) (fun _ _ i _ => s.size + 1 - (intOf i).toNat)
  case atStart => exact ⟨0, 0, [], by omega, Nat.le_refl _, rfl, rfl, World.ownsRow_made _ _ 0 (Nat.le_refl _) (by decide) rfl, (Below.refl _ _).alloc (Nat.le_refl _) _, Lib.hid (SplitInv.start c s)⟩
  case round =>
    obtain ⟨k, f, done, hk, hdl, rfl, rfl, ho, hbl, hinv⟩ := hrel
    have HO := Lib.hid ho
    have HB := Lib.hid hbl
    clear ho hbl
    by_cases hlt : k < s.size
    · have hfk := hinv.out.part hlt
      have hq : s.data.toList[k]? = some s[k] := by
        have h' : k < s.data.toList.length := hlt
        rw [List.getElem?_eq_getElem h']; rfl
      have g0 : ((k : Int) == (s.size : Int)) = false := by simp; omega
      by_cases he : s[k] = c
      · have hn := Lib.hid (hinv.out.cut hlt (by rw [hq, he]))
        have g1 : ((s[k].toNat : Int) == (c.toNat : Int)) = true := by simp [he]
        clear hq he
        go_wp2_with (at_builtin; refine wpList_append_own _ rfl (.tmp 26) (.tmp 31) 28 rfl w.heap.size 9 i0 (.string ByteArray.empty) 1 16 Tryz.underlying28 hi hz0 hz1 hz2 rfl (by decide) _ _ _ rfl (HO.out.alloc _) ⟨wr.heap.size, 0, none⟩ 1 1 [.string (s.extract f k)] rfl rfl (cell_one_new _ _ _) (by intro u hu; rw [List.mem_singleton] at hu; subst hu; rfl) (by unfold maxLen; omega) (by omega) (by have := HB.out.size; simp; omega) ?_; intro v1 w1 ho1 hg1 _; have hb1 : Below w.heap.size w w1 := (HB.out.alloc HB.out.size _).grown hg1 (by have := HB.out.size; simp; omega) (fun k hk => (HO.out.lt k hk).1); have HO1 := Lib.hid ho1; have HB1 := Lib.hid hb1; clear ho1 hb1 hg1)
        go_roundw
        case rel => exact ⟨k + 1, k + 1, done ++ [s.extract f k], by omega, by simp; omega, by go_num, by go_num, by have h := HO1.out; rw [List.length_append, List.map_append]; exact h, HB1.out, hn⟩
        case measure => simp [intOf]; omega
      · have hn := Lib.hid (hinv.out.skip hlt (by rw [hq]; intro h; exact he (Option.some.inj h)))
        have g1 : ((s[k].toNat : Int) == (c.toNat : Int)) = false := by
          rw [beq_eq_false_iff_ne]
          intro h
          exact he (UInt8.toNat_inj.1 (by omega))
        clear hq he
        go_wp2
        go_roundw
        case rel => exact ⟨k + 1, f, done, by omega, by omega, rfl, by go_num, HO.out, HB.out, hn⟩
        case measure => simp [intOf]; omega
    · by_cases heq : k = s.size
      · subst heq
        have hfk := hinv.out.endf
        have hn := Lib.hid hinv.out.last
        go_wp2_with (at_builtin; refine wpList_append_own _ rfl (.tmp 26) (.tmp 31) 28 rfl w.heap.size 9 i0 (.string ByteArray.empty) 1 16 Tryz.underlying28 hi hz0 hz1 hz2 rfl (by decide) _ _ _ rfl (HO.out.alloc _) ⟨wr.heap.size, 0, none⟩ 1 1 [.string (s.extract f s.size)] rfl rfl (cell_one_new _ _ _) (by intro u hu; rw [List.mem_singleton] at hu; subst hu; rfl) (by unfold maxLen; omega) (by omega) (by have := HB.out.size; simp; omega) ?_; intro v1 w1 ho1 hg1 _; have hb1 : Below w.heap.size w w1 := (HB.out.alloc HB.out.size _).grown hg1 (by have := HB.out.size; simp; omega) (fun k hk => (HO.out.lt k hk).1); have HO1 := Lib.hid ho1; have HB1 := Lib.hid hb1; clear ho1 hb1 hg1)
        go_roundw
        case rel => exact ⟨s.size + 1, s.size + 1, done ++ [s.extract f s.size], by omega, by simp; omega, by go_num, by go_num, by have h := HO1.out; rw [List.length_append, List.map_append]; exact h, HB1.out, hn⟩
        case measure => simp [intOf]
      · obtain rfl : k = s.size + 1 := by omega
        have hd := hinv.out.done
        subst hd
        have ho := HO.out
        rcases ho.2 with ⟨rfl, h0⟩ | ⟨g, cap, cur, rfl, _, _, _⟩
        · exact absurd h0 (by rw [parts_length]; omega)
        · clear HO
          have HO := Lib.hid ho
          clear ho
          go_wp2
          go_ret
          exact ⟨g, cap, rfl, HO.out, HB.out⟩
end Go.Proofs.YtalclebehbdliaaGreatDoor
namespace Go.Proofs.YtalclebehbdliaaGreatDoor
open Go Go.RowKit

/-- A row and a table that are read from a text by a reader of integers; whether each integer is one; and the matrix that a text is of. -/
def rowOfT (f : ByteArray → Option Int) (r : ByteArray) : List Int := (parts 44 r).map fun p => numV (f p)
def okRow (f : ByteArray → Option Int) (r : ByteArray) : Bool := (parts 44 r).all fun p => numB (f p)
def gridOfT (f : ByteArray → Option Int) (s : ByteArray) : List (List Int) := (parts 47 s).map (rowOfT f)
def parseM (f : ByteArray → Option Int) (s : ByteArray) : Option (List (List Int)) := if (parts 47 s).all (okRow f) = true ∧ isMat (gridOfT f s) = true then some (gridOfT f s) else none
theorem parseM_bad {f : ByteArray → Option Int} {s : ByteArray} {k : Nat} (hk : k < (parts 47 s).length) (h : okRow f ((parts 47 s).getD k ByteArray.empty) = false) : parseM f s = none := by
  unfold parseM
  rw [if_neg]
  rintro ⟨h1, _⟩
  have e : (parts 47 s).getD k ByteArray.empty = (parts 47 s)[k] := by simp [List.getD, hk]
  rw [e] at h
  have := List.all_eq_true.1 h1 _ (List.getElem_mem hk)
  rw [h] at this; cases this
theorem okRow_bad {f : ByteArray → Option Int} {r : ByteArray} {j : Nat} (hj : j < (parts 44 r).length) (h : numB (f ((parts 44 r).getD j ByteArray.empty)) = false) : okRow f r = false := by
  unfold okRow
  rw [List.all_eq_false]
  have e : (parts 44 r).getD j ByteArray.empty = (parts 44 r)[j] := by simp [List.getD, hj]
  rw [e] at h
  exact ⟨_, List.getElem_mem hj, by rw [h]; simp⟩
theorem okRow_all {f : ByteArray → Option Int} {r : ByteArray} (h : ∀ j, j < (parts 44 r).length → numB (f ((parts 44 r).getD j ByteArray.empty)) = true) : okRow f r = true := by
  unfold okRow
  rw [List.all_eq_true]
  intro p hp
  obtain ⟨j, hj, rfl⟩ := List.getElem_of_mem hp
  have := h j hj
  simpa [List.getD, hj] using this
theorem rows_all {f : ByteArray → Option Int} {s : ByteArray} (h : ∀ k, k < (parts 47 s).length → okRow f ((parts 47 s).getD k ByteArray.empty) = true) : (parts 47 s).all (okRow f) = true := by
  rw [List.all_eq_true]
  intro p hp
  obtain ⟨j, hj, rfl⟩ := List.getElem_of_mem hp
  have := h j hj
  simpa [List.getD, hj] using this
theorem parseM_end {f : ByteArray → Option Int} {s : ByteArray} (h : ∀ k, k < (parts 47 s).length → okRow f ((parts 47 s).getD k ByteArray.empty) = true) : parseM f s = if isMat (gridOfT f s) = true then some (gridOfT f s) else none := by
  unfold parseM
  have h1 := rows_all h
  by_cases h2 : isMat (gridOfT f s) = true
  · rw [if_pos ⟨h1, h2⟩, if_pos h2]
  · rw [if_neg (fun e => h2 e.2), if_neg h2]
theorem row_next {f : ByteArray → Option Int} {r : ByteArray} {j : Nat} (hj : j < (parts 44 r).length) : (rowOfT f r).take j ++ [numV (f ((parts 44 r).getD j ByteArray.empty))] = (rowOfT f r).take (j + 1) := by
  have hl : j < (rowOfT f r).length := by unfold rowOfT; rw [List.length_map]; exact hj
  rw [List.take_succ_eq_append_getElem hl]
  simp [rowOfT, List.getD, hj]
theorem row_all {f : ByteArray → Option Int} {r : ByteArray} : (rowOfT f r).take (parts 44 r).length = rowOfT f r := List.take_of_length_le (by unfold rowOfT; rw [List.length_map]; exact Nat.le_refl _)
theorem grid_next {f : ByteArray → Option Int} {s : ByteArray} {k : Nat} (hk : k < (parts 47 s).length) : (gridOfT f s).take k ++ [rowOfT f ((parts 47 s).getD k ByteArray.empty)] = (gridOfT f s).take (k + 1) := by
  have hl : k < (gridOfT f s).length := by unfold gridOfT; rw [List.length_map]; exact hk
  rw [List.take_succ_eq_append_getElem hl]
  simp [gridOfT, List.getD, hk]
theorem grid_all {f : ByteArray → Option Int} {s : ByteArray} : (gridOfT f s).take (parts 47 s).length = gridOfT f s := List.take_of_length_le (by unfold gridOfT; rw [List.length_map]; exact Nat.le_refl _)
theorem gridOfT_length (f : ByteArray → Option Int) (s : ByteArray) : (gridOfT f s).length = (parts 47 s).length := by unfold gridOfT; rw [List.length_map]
theorem take_len {α : Type} {xs : List α} {k n : Nat} (h : xs.length = n) (hk : k ≤ n) : (xs.take k).length = k := by rw [List.length_take]; omega
theorem tot_gridOfT (f : ByteArray → Option Int) (s : ByteArray) : tot (gridOfT f s) ≤ s.size + (parts 47 s).length := by
  have h2 := (parts_facts 47 s.size s (Nat.le_refl _)).2.1
  unfold gridOfT
  generalize parts 47 s = ps at *
  have h : tot (ps.map (rowOfT f)) ≤ total ps + ps.length := by
    clear h2
    induction ps with
    | nil => simp [tot]
    | cons p ps ih =>
      obtain ⟨h1, _, _, _⟩ := parts_facts 44 p.size p (Nat.le_refl _)
      have e1 : tot ((p :: ps).map (rowOfT f)) = (rowOfT f p).length + tot (ps.map (rowOfT f)) := by simp [tot]
      have e2 : total (p :: ps) = p.size + total ps := by simp [total]
      have e3 : (rowOfT f p).length = (parts 44 p).length := by unfold rowOfT; rw [List.length_map]
      rw [e1, e2, e3, List.length_cons]; omega
  omega
theorem ints_made (w : World) : (w.alloc (.cells #[] 3)).ownsRow w.heap.size 3 1 (.slice (some ⟨w.heap.size, 0, none⟩) 0 0) 0 [] :=
  World.ownsRow_made (base := w.heap.size) (e := 3) (size := 1) w #[] 0 (Nat.le_refl _) (by unfold maxLen; omega) rfl
theorem rows_made (w : World) : (w.alloc (.cells #[] 48)).ownsRow w.heap.size 48 1 (.slice (some ⟨w.heap.size, 0, none⟩) 0 0) 0 [] :=
  World.ownsRow_made (base := w.heap.size) (e := 48) (size := 1) w #[] 0 (Nat.le_refl _) (by unfold maxLen; omega) rfl
/-- Strings in another block stay when a row grows. -/
theorem strs_far {w w' : World} {g : Nat} {ps : List ByteArray} {r : Option Nat} (h : StrsAt w g 0 ps) (hl : g < w.heap.size) (hg : w.grownBy w' r) (hne : r ≠ some g) : StrsAt w' g 0 ps ∧ g < w'.heap.size := by
  refine ⟨fun k hk => ?_, Nat.lt_of_lt_of_le hl hg.size⟩
  have hb := hg.block g hl (Ne.symm hne)
  have := h k hk
  unfold World.cell? at this ⊢
  rw [hb]; exact this
theorem strs_alloc {w : World} {g : Nat} {ps : List ByteArray} (h : StrsAt w g 0 ps) (hl : g < w.heap.size) (o : Obj) : StrsAt (w.alloc o) g 0 ps ∧ g < (w.alloc o).heap.size :=
  ⟨h.below ((Below.refl _ _).alloc (Nat.le_refl _) o) hl, by simp; omega⟩
theorem ints_more {b0 : Nat} {w1 w2 : World} {g cap n k gp : Nat} {v : Value} {xs : List Int} {x : Int} {wr : World} {qs : List ByteArray} (hB : Below b0 wr w1) (h0 : b0 ≤ w1.heap.size) (hO : w1.ownsRow b0 3 1 v k ((xs.take k).map (Value.int .i64))) (hS : StrsAt w1 gp 0 qs) (hgp : gp < w1.heap.size) (hne : v.ownBlock ≠ some gp) (o : Obj)
    (hx : xs.take k ++ [x] = xs.take (k + 1)) (ho2 : w2.ownsRow b0 3 1 (.slice (some ⟨g, 0, none⟩) n cap) n ((xs.take k).map (Value.int .i64) ++ [.int .i64 x])) (hg : (w1.alloc o).grownBy w2 v.ownBlock) (hat : v.ownBlock = some g ∨ g = w1.heap.size + 1) :
    w2.ownsRow b0 3 1 (.slice (some ⟨g, 0, none⟩) n cap) n ((xs.take (k + 1)).map (Value.int .i64)) ∧ Below b0 wr w2 ∧ StrsAt w2 gp 0 qs ∧ gp < w2.heap.size ∧ (Value.slice (some ⟨g, 0, none⟩) n cap).ownBlock ≠ some gp := by
  have e : (xs.take k).map (Value.int .i64) ++ [.int .i64 x] = (xs.take (k + 1)).map (Value.int .i64) := by rw [← hx, List.map_append]; rfl
  rw [e] at ho2
  obtain ⟨s1, s2⟩ := strs_alloc hS hgp o
  obtain ⟨t1, t2⟩ := strs_far s1 s2 hg hne
  refine ⟨ho2, (hB.alloc h0 o).grown hg (by simp; omega) fun q hq => (hO.lt q hq).1, t1, t2, fun hh => ?_⟩
  have hh' : g = gp := Option.some.inj hh
  subst hh'
  rcases hat with h | h
  · exact hne h
  · omega
theorem grid_more {B : Nat} {wr w4 w5 : World} {gg cap k gr : Nat} {v u : Value} {vs : List Value} {G : List (List Int)} {xs : List Int} {ps : List ByteArray} (hO : wr.ownsRow B 48 1 v (G.take k).length vs) (hR : RowsOwn wr B v.ownBlock vs (G.take k)) (hb : Below wr.heap.size wr w4) (hB : B ≤ wr.heap.size)
    (hu : w4.ownsRow wr.heap.size 3 1 u xs.length (xs.map (Value.int .i64))) (hS : StrsAt wr gr 0 ps) (hgr : gr < wr.heap.size) (hne : v.ownBlock ≠ some gr) (o : Obj) (hx : G.take k ++ [xs] = G.take (k + 1))
    (ho3 : w5.ownsRow B 48 1 (.slice (some ⟨gg, 0, none⟩) ((G.take k).length + 1) cap) ((G.take k).length + 1) (vs ++ [u])) (hg3 : (w4.alloc o).grownBy w5 v.ownBlock) (hat : v.ownBlock = some gg ∨ gg = w4.heap.size + 1) :
    w5.ownsRow B 48 1 (.slice (some ⟨gg, 0, none⟩) ((G.take k).length + 1) cap) (G.take (k + 1)).length (vs ++ [u]) ∧ RowsOwn w5 B (Value.slice (some ⟨gg, 0, none⟩) ((G.take k).length + 1) cap).ownBlock (vs ++ [u]) (G.take (k + 1)) ∧
      StrsAt w5 gr 0 ps ∧ gr < w5.heap.size ∧ (Value.slice (some ⟨gg, 0, none⟩) ((G.take k).length + 1) cap).ownBlock ≠ some gr ∧ (∀ W : World, B = W.heap.size → Below B W wr → Below B W w5) := by
  have hb1 : Below wr.heap.size wr (w4.alloc o) := hb.alloc hb.size o
  have hh := own_append (w := w4.alloc o) (cap := cap) hO hR hb1 (World.ownsRow.alloc (World.ownsRow.mono hu hB) o) (fun g hg => (hu.lt g hg).1) ho3 hg3 (by rw [World.size_alloc]; exact hat)
  have hs4 := hb.size
  obtain ⟨t1, t2⟩ := strs_far (hS.below hb1 hgr) (Nat.lt_of_lt_of_le hgr hb1.size) hg3 hne
  refine ⟨by rw [← hx, List.length_append]; exact ho3, by rw [← hx]; exact hh, t1, t2, fun e => ?_, fun W hW hbW => ?_⟩
  · have e' : gg = gr := Option.some.inj e
    subst e'
    rcases hat with h | h
    · exact hne h
    · omega
  · exact (hbW.trans (hb1.mono hB)).grown hg3 (by simp; omega) fun q hq => (hO.lt q hq).1
theorem empty_new {w w' : World} (hb : Below w.heap.size w w') : OwnG (w'.alloc (.cells #[] 48)) w.heap.size (.slice (some ⟨w'.heap.size, 0, none⟩) 0 0) [] ∧ Below w.heap.size w (w'.alloc (.cells #[] 48)) :=
  ⟨OwnG.mono ⟨[], rows_made w', RowsOwn.nil _ _ _⟩ hb.size, hb.alloc hb.size _⟩

set_option maxRecDepth 100000 in
set_option maxHeartbeats 3200000 in
theorem spec_parseMatrix (s : ByteArray) (hs : s.size ≤ 1048576) (w : World) :
    Calls Tryz.prog 69 #[.string s] w fun e w' => ∃ v, e = .returned (.tuple #[v, .bool (parseM intOfS s).isSome]) ∧ OwnG w' w.heap.size v ((parseM intOfS s).getD []) ∧ Below w.heap.size w w' := by
  obtain ⟨i0, hi, hz0, hz1, hz2⟩ := info_parts infoSl
  obtain ⟨j0, hj, hy0, hy1, hy2⟩ := info_parts infoInt
  have hlen := (parts_facts 47 s.size s (Nat.le_refl _)).1
  have htot := (parts_facts 47 s.size s (Nat.le_refl _)).2.1
  have HSP := Lib.hid (fun w' => spec_split 47 s hs w')
  have HM0 := Lib.hid (rows_made w)
  have HROWZ : Hid (∀ k, k < (parts 47 s).length → ((parts 47 s).getD k ByteArray.empty).size ≤ 1048576) := Lib.hid fun k hk => by have := size_le_total hk; omega
  have HBADR : Hid (∀ k, k < (parts 47 s).length → okRow intOfS ((parts 47 s).getD k ByteArray.empty) = false → parseM intOfS s = none) := Lib.hid fun k hk => parseM_bad hk
  have HEND : Hid ((∀ k, k < (parts 47 s).length → okRow intOfS ((parts 47 s).getD k ByteArray.empty) = true) → parseM intOfS s = if isMat (gridOfT intOfS s) = true then some (gridOfT intOfS s) else none) := Lib.hid parseM_end
  have HGN : Hid (∀ k, k < (parts 47 s).length → (gridOfT intOfS s).take k ++ [rowOfT intOfS ((parts 47 s).getD k ByteArray.empty)] = (gridOfT intOfS s).take (k + 1)) := Lib.hid fun k hk => grid_next hk
  have HGA : Hid ((gridOfT intOfS s).take (parts 47 s).length = gridOfT intOfS s) := Lib.hid grid_all
  have hgl := gridOfT_length intOfS s
  have HGL := Lib.hid hgl
  have htg := tot_gridOfT intOfS s
  have HISM : Hid (∀ A c w', GridS w' A (gridOfT intOfS s) → Calls Tryz.prog 42 #[.slice A (gridOfT intOfS s).length c] w' fun e w2 => e = .returned (.bool (isMat (gridOfT intOfS s))) ∧ w2 = w') := Lib.hid fun A c w' hg => spec_isMatrix A c (gridOfT intOfS s) (by omega) (fun k hk => by have := row_le_tot hk; omega) w' hg
  generalize parseM intOfS s = R at *
  generalize gridOfT intOfS s = G at *
  clear htot hgl htg
  go_enter Tryz.func69, Tryz.ntmps69
  go_wp2_with fail
  refine (HSP.out _).mono ?_
  rintro e w2 ⟨gr, cr, rfl, ho, hb⟩
  rw [World.size_alloc] at ho hb
  generalize hps : parts 47 s = ps at *
  have hgr := (ho.lt gr rfl).2
  have hst := StrsAt.of_owns ho rfl
  have hgw : w.heap.size + 1 ≤ gr := (ho.lt gr rfl).1
  have HST := Lib.hid hst
  have hb0 : Below w.heap.size w w2 := ((Below.refl _ _).alloc (Nat.le_refl _) _).trans (hb.mono (by omega))
  have HO0 : Hid (w2.ownsRow w.heap.size 48 1 (.slice (some ⟨w.heap.size, 0, none⟩) 0 0) 0 []) := Lib.hid (kept_below HM0.out (by rw [World.size_alloc]; exact hb))
  have HB0 := Lib.hid hb0
  clear ho hb hst hb0 HSP
  go_wp2
  go_loopw [4, 6] (fun v i wr => ∃ (k : Nat) (vs : List Value), k ≤ ps.length ∧ i = .int .i64 k ∧ wr.ownsRow w.heap.size 48 1 v (G.take k).length vs ∧ RowsOwn wr w.heap.size v.ownBlock vs (G.take k) ∧ StrsAt wr gr 0 ps ∧ gr < wr.heap.size ∧ v.ownBlock ≠ some gr ∧ Hid (∀ j, j < k → okRow intOfS (ps.getD j ByteArray.empty) = true) ∧ Below w.heap.size w wr) (fun _ i _ => ps.length - (intOf i).toNat)
  case atStart => exact ⟨0, [], Nat.zero_le _, rfl, by rw [List.take_zero]; exact HO0.out, by rw [List.take_zero]; exact RowsOwn.nil _ _ _, HST.out, hgr, fun h => by have h2 : w.heap.size = gr := Option.some.inj h; omega, Lib.hid (fun j h => by omega), HB0.out⟩
  case round =>
    obtain ⟨k, vs, hk, rfl, hO, hR, hS, hgl, hne, hok, hbl⟩ := hrel
    obtain ⟨W0, rfl⟩ : ∃ W0 : World, W0 = wr := ⟨_, rfl⟩
    by_cases hlt : k < ps.length
    · have hc := hS k hlt
      rw [Nat.zero_add] at hc
      have hpz := HROWZ.out k hlt
      have HBADK := Lib.hid (HBADR.out k hlt)
      have HGNK := Lib.hid (HGN.out k hlt)
      have HOKN : Hid (okRow intOfS (ps.getD k ByteArray.empty) = true → ∀ j, j < k + 1 → okRow intOfS (ps.getD j ByteArray.empty) = true) := Lib.hid fun h j hj => by
        by_cases e : j = k
        · subst e; exact h
        · exact hok.out j (by omega)
      have HO := Lib.hid hO
      have HR := Lib.hid hR
      have HS := Lib.hid hS
      have HNE := Lib.hid hne
      have HB := Lib.hid hbl
      have hwr := hbl.size
      clear hO hR hS hok hbl hne
      generalize ps.getD k ByteArray.empty = p at *
      have HI0 := Lib.hid (ints_made W0)
      have HSP2 := Lib.hid (spec_split 44 p hpz (W0.alloc (.cells #[] 3)))
      have hcp := ((Below.refl W0.heap.size W0).alloc (Nat.le_refl _) (.cells #[] 3)).cell (p := ⟨gr, k, none⟩) hgl
      rw [hc] at hcp
      have hqz := (parts_facts 44 p.size p (Nat.le_refl _)).2.1
      have hqb : (parts 44 p).length ≤ 1048577 := by have := (parts_facts 44 p.size p (Nat.le_refl _)).1; omega
      have HQZ : Hid (∀ t, t < (parts 44 p).length → ((parts 44 p).getD t ByteArray.empty).size ≤ 9223372036854775807) := Lib.hid fun t ht => by have := size_le_total ht; omega
      have HXN : Hid (∀ t, t < (parts 44 p).length → (rowOfT intOfS p).take t ++ [numV (intOfS ((parts 44 p).getD t ByteArray.empty))] = (rowOfT intOfS p).take (t + 1)) := Lib.hid fun t ht => row_next ht
      have HXA : Hid ((rowOfT intOfS p).take (parts 44 p).length = rowOfT intOfS p) := Lib.hid row_all
      have HXL : Hid ((rowOfT intOfS p).length = (parts 44 p).length) := Lib.hid (List.length_map _)
      have HBAD2 : Hid (∀ t, t < (parts 44 p).length → numB (intOfS ((parts 44 p).getD t ByteArray.empty)) = false → R = none) := Lib.hid fun t ht h => HBADK.out (okRow_bad ht h)
      have HALL2 : Hid ((∀ t, t < (parts 44 p).length → numB (intOfS ((parts 44 p).getD t ByteArray.empty)) = true) → ∀ j, j < k + 1 → okRow intOfS (ps.getD j ByteArray.empty) = true) := Lib.hid fun h => HOKN.out (okRow_all h)
      clear hqz HBADK HOKN
      generalize rowOfT intOfS p = X at *
      go_wp2_with fail
      refine HSP2.out.mono ?_
      rintro e w3 ⟨gp, cp, rfl, ho3, b3⟩
      rw [World.size_alloc] at ho3 b3
      generalize parts 44 p = qs at *
      have hgp := ho3.lt gp rfl
      have HQ3 := Lib.hid (StrsAt.of_owns ho3 rfl)
      have HI3 := Lib.hid (kept_below HI0.out (by rw [World.size_alloc]; exact b3))
      have HB3 : Hid (Below W0.heap.size W0 w3) := Lib.hid (((Below.refl _ _).alloc (Nat.le_refl _) _).trans (b3.mono (by omega)))
      clear ho3 b3 HI0 HSP2
      go_wp2
      go_loopw [7, 9] (fun u j w4 => ∃ t : Nat, t ≤ qs.length ∧ j = .int .i64 t ∧ w4.ownsRow W0.heap.size 3 1 u t ((X.take t).map (Value.int .i64)) ∧ StrsAt w4 gp 0 qs ∧ gp < w4.heap.size ∧ u.ownBlock ≠ some gp ∧ Hid (∀ j, j < t → numB (intOfS (qs.getD j ByteArray.empty)) = true) ∧ Below W0.heap.size W0 w4) (fun _ j _ => qs.length - (intOf j).toNat)
      case atStart => exact ⟨0, Nat.zero_le _, rfl, HI3.out, HQ3.out, hgp.2, fun h => by have h2 : W0.heap.size = gp := Option.some.inj h; omega, Lib.hid (fun j h => by omega), HB3.out⟩
      case round =>
        obtain ⟨t, ht, rfl, hU, hSq, hgq, hneq, hnum, hb4⟩ := hrel
        by_cases htl : t < qs.length
        · have hcq := hSq t htl
          rw [Nat.zero_add] at hcq
          have hz := HQZ.out t htl
          have HX := Lib.hid (HXN.out t htl)
          have HBT := Lib.hid (HBAD2.out t htl)
          have HNN : Hid (numB (intOfS (qs.getD t ByteArray.empty)) = true → ∀ j, j < t + 1 → numB (intOfS (qs.getD j ByteArray.empty)) = true) := Lib.hid fun h j hj => by
            by_cases e : j = t
            · subst e; exact h
            · exact hnum.out j (by omega)
          have HU := Lib.hid hU
          have HSQ := Lib.hid hSq
          have HNQ := Lib.hid hneq
          have HB4 := Lib.hid hb4
          have hs4 := hb4.size
          clear hU hSq hneq hnum hb4
          generalize qs.getD t ByteArray.empty = q at *
          have HPI := Lib.hid (fun w' => spec_parseInt q hz w')
          go_wp2_with fail
          refine (HPI.out _).mono ?_
          rintro e w5 ⟨rfl, b5⟩
          have HB5 := Lib.hid (HB4.out.trans (b5.mono hs4))
          have hs5 := HB5.out.size
          have HU5 := Lib.hid (kept_below HU.out b5)
          have HSQ5 := Lib.hid (HSQ.out.below b5 hgq)
          have hgq5 : gp < _ := Nat.lt_of_lt_of_le hgq b5.size
          clear b5
          obtain ⟨x, HV⟩ : ∃ x, Hid (numV (intOfS q) = x) := ⟨_, Lib.hid rfl⟩
          rw [HV.out]
          rw [HV.out] at HX
          cases hnb : numB (intOfS q) with
          | false =>
            have hr := HBT.out hnb
            subst hr
            have HE := Lib.hid (empty_new (HB.out.trans (HB5.out.mono hwr)))
            clear hnb
            go_wp2
            go_ret2
            exact ⟨_, rfl, HE.out.1, HE.out.2⟩
          | true =>
            have HN1 := Lib.hid (HNN.out hnb)
            clear hnb
            go_wp2_with (at_builtin; refine wpList_append_lies _ rfl (.tmp 44) (.tmp 46) 48 rfl W0.heap.size 3 j0 (.int .i64 0) 1 8 Tryz.underlying48 hj hy0 hy1 hy2 rfl (by decide) _ _ _ rfl (HU5.out.alloc _) ⟨w5.heap.size, 0, none⟩ 1 1 [.int .i64 x] rfl rfl (World.news_of_block (cs := #[.int .i64 x]) (t := 3) (fr := (0, 0)) (heap_alloc_new w5 _)) (by simp [Value.oneCell']) (by decide) (by unfold maxLen; omega) (by omega) (by simp; omega) (w5.heap.size + 1) (by simp) ?_; intro gg cap w6 ho6 hg6 hat6 hlt6; have HM := Lib.hid (ints_more HB5.out hs5 HU5.out HSQ5.out hgq5 HNQ.out _ HX.out ho6 hg6 hat6); clear ho6 hg6 hat6)
            go_roundw
            case rel => exact ⟨t + 1, by omega, by go_num, HM.out.1, HM.out.2.2.1, HM.out.2.2.2.1, HM.out.2.2.2.2, HN1, HM.out.2.1⟩
            case measure => simp [intOf]; omega
        · obtain rfl : t = qs.length := by omega
          have HNX := Lib.hid (HALL2.out hnum.out)
          rw [HXA.out, ← HXL.out] at hU
          have HU := Lib.hid hU
          have HB4 := Lib.hid hb4
          have hs4 := hb4.size
          have HOK := Lib.hid (kept_below HO.out hb4)
          have hGk : (G.take k).length = k := take_len HGL.out (by omega)
          obtain ⟨A7, c7, rfl⟩ := slice_of_owns hU
          clear hU hnum hb4 hSq
          go_wp2_with (at_builtin; refine wpList_append_lies _ rfl (.tmp 48) (.tmp 50) 24 rfl w.heap.size 48 i0 (.slice none 0 0) 1 24 Tryz.underlying24 hi hz0 hz1 hz2 rfl (by decide) _ _ _ rfl (HOK.out.alloc _) ⟨wr.heap.size, 0, none⟩ 1 1 [.slice A7 X.length c7] rfl rfl (World.news_of_block (cs := #[.slice A7 X.length c7]) (t := 48) (fr := (0, 0)) (heap_alloc_new wr _)) (by simp [Value.oneCell']) (by decide) (by rw [hGk]; unfold maxLen; omega) (by rw [hGk]; omega) (by simp; omega) (wr.heap.size + 1) (by simp) ?_; intro gg cap w6 ho6 hg6 hat6 hlt6; have hm6 := grid_more HO.out HR.out HB4.out hwr HU.out HS.out hgl HNE.out _ HGNK.out ho6 hg6 hat6; rw [hGk] at hm6; have HM := Lib.hid hm6; clear ho6 hg6 hat6 hm6)
          go_roundw
          case rel => exact ⟨k + 1, _, by omega, by go_num, HM.out.1, HM.out.2.1, HM.out.2.2.1, HM.out.2.2.2.1, HM.out.2.2.2.2.1, HNX, HM.out.2.2.2.2.2 _ rfl HB.out⟩
          case measure => simp [intOf]; omega
    · obtain rfl : k = ps.length := by omega
      have hR2 := HEND.out hok.out
      rw [HGA.out] at hO hR
      have HOG : Hid (OwnG W0 w.heap.size _ G) := Lib.hid ⟨vs, hO, hR⟩
      obtain ⟨A, c, rfl, hg⟩ := HOG.out.gridS
      have HC := Lib.hid (HISM.out A c W0 hg)
      have HE := Lib.hid (empty_new hbl)
      have HB := Lib.hid hbl
      clear hO hR hS hok hbl hne hg
      go_wp2_with fail
      refine HC.out.mono ?_
      rintro e w3 ⟨rfl, hw⟩
      obtain rfl : W0 = w3 := hw.symm
      cases hm : isMat G with
      | true =>
        rw [hm, if_pos rfl] at hR2
        have HR2 := Lib.hid hR2
        clear hR2 hm
        go_wp2
        go_ret2
        rw [HR2.out]
        exact ⟨_, rfl, HOG.out, HB.out⟩
      | false =>
        rw [hm, if_neg (by decide)] at hR2
        have HR2 := Lib.hid hR2
        clear hR2 hm
        go_wp2
        go_ret2
        rw [HR2.out]
        exact ⟨_, rfl, HE.out.1, HE.out.2⟩
end Go.Proofs.YtalclebehbdliaaGreatDoor
namespace Go.Proofs.YtalclebehbdliaaGreatDoor
open Go Go.RowKit

/-- The product's number at i and j, of its first t terms. -/
def termsM (a b : List (List Int)) (i j t : Nat) : Int := sumTo t fun k => cellOf a i k * cellOf b k j
/-- A product that is being made: all numbers ahead of i and j, and t terms there. -/
def timesF (a b : List (List Int)) (i j t : Nat) : Nat → Nat → Int := fun i' j' => if i' < i ∨ (i' = i ∧ j' < j) then termsM a b i' j' b.length else if i' = i ∧ j' = j then termsM a b i j t else 0
theorem timesF_zero (a b : List (List Int)) (n m : Nat) : tabOf n m (timesF a b 0 0 0) = tabOf n m fun _ _ => 0 := tabOf_congr fun i j _ _ => by
  unfold timesF termsM
  rw [if_neg (by omega)]
  split <;> rfl
theorem timesF_cell (a b : List (List Int)) (n m i j t : Nat) (hi : i < n) (hj : j < m) : cellOf (tabOf n m (timesF a b i j t)) i j = termsM a b i j t := by
  rw [tabOf_cell hi hj]
  unfold timesF
  rw [if_neg (by omega), if_pos ⟨rfl, rfl⟩]
theorem timesF_term (a b : List (List Int)) (n m i j t : Nat) (hi : i < n) : (tabOf n m (timesF a b i j t)).set i (((tabOf n m (timesF a b i j t)).getD i []).set j (termsM a b i j t + cellOf a i t * cellOf b t j)) = tabOf n m (timesF a b i j (t + 1)) := by
  rw [tabOf_set _ _ hi]
  refine tabOf_congr fun i' j' _ _ => ?_
  by_cases e : i' = i ∧ j' = j
  · obtain ⟨rfl, rfl⟩ := e
    rw [if_pos ⟨rfl, rfl⟩]
    unfold timesF
    rw [if_neg (by omega), if_pos ⟨rfl, rfl⟩]; rfl
  · rw [if_neg e]
    unfold timesF
    rw [if_neg e, if_neg e]
theorem timesF_next (a b : List (List Int)) (n m i j : Nat) : tabOf n m (timesF a b i j b.length) = tabOf n m (timesF a b i (j + 1) 0) := tabOf_congr fun i' j' _ _ => by
  unfold timesF
  by_cases h1 : i' < i ∨ (i' = i ∧ j' < j)
  · rw [if_pos h1, if_pos (by omega)]
  · rw [if_neg h1]
    by_cases h2 : i' = i ∧ j' = j
    · obtain ⟨rfl, rfl⟩ := h2
      rw [if_pos ⟨rfl, rfl⟩, if_pos (by omega)]
    · rw [if_neg h2, if_neg (by omega)]
      split <;> rfl
theorem timesF_row (a b : List (List Int)) (n m i : Nat) : tabOf n m (timesF a b i m 0) = tabOf n m (timesF a b (i + 1) 0 0) := tabOf_congr fun i' j' _ hj => by
  unfold timesF
  by_cases h1 : i' < i ∨ (i' = i ∧ j' < m)
  · rw [if_pos h1, if_pos (by omega)]
  · rw [if_neg h1, if_neg (by omega), if_neg (by omega)]
    split <;> rfl
theorem timesF_all (a b : List (List Int)) : tabOf a.length b.length (timesF a b a.length 0 0) = mulM a b := tabOf_congr fun i' j' hi _ => by
  unfold timesF termsM
  rw [if_pos (Or.inl hi)]
theorem termsM_le {a b : List (List Int)} (ha : MatFacts a) (hb : MatFacts b) (hab : a.length = b.length) {i j t : Nat} (hi : i < a.length) (hj : j < b.length) (ht : t ≤ b.length) : 0 ≤ termsM a b i j t ∧ termsM a b i j t ≤ t * 1000000000000 :=
  sumTo_le t fun k hk => by
    obtain ⟨x1, x2⟩ := ha.cell i k hi (by omega)
    obtain ⟨y1, y2⟩ := hb.cell k j (by omega) hj
    refine ⟨Int.mul_nonneg x1 y1, ?_⟩
    calc cellOf a i k * cellOf b k j ≤ 1000000 * cellOf b k j := Int.mul_le_mul_of_nonneg_right x2 y1
      _ ≤ 1000000 * 1000000 := Int.mul_le_mul_of_nonneg_left y2 (by decide)
theorem prod_le {x y : Int} (hx : 0 ≤ x ∧ x ≤ 1000000) (hy : 0 ≤ y ∧ y ≤ 1000000) : 0 ≤ x * y ∧ x * y ≤ 1000000000000 := by
  refine ⟨Int.mul_nonneg hx.1 hy.1, ?_⟩
  calc x * y ≤ 1000000 * y := Int.mul_le_mul_of_nonneg_right hx.2 hy.1
    _ ≤ 1000000 * 1000000 := Int.mul_le_mul_of_nonneg_left hy.2 (by decide)

set_option maxRecDepth 100000 in
set_option maxHeartbeats 3200000 in
theorem spec_times (A1 A2 : Option Addr) (c1 c2 : Nat) (a b : List (List Int)) (ha : MatFacts a) (hb : MatFacts b) (hab : a.length = b.length) (w : World) (h1 : GridS w A1 a) (h2 : GridS w A2 b) :
    Calls Tryz.prog 94 #[.slice A1 a.length c1, .slice A2 b.length c2, .int .i64 (b.length : Int)] w (NewG (mulM a b) w) := by
  have H1 := Lib.hid h1
  have H2 := Lib.hid h2
  have HA := Lib.hid ha
  have HBF := Lib.hid hb
  have HZ := Lib.hid (spec_zero a.length b.length (by have := ha.le; omega) (by have := hb.le; omega) w)
  have HL := Lib.hid hab
  have l1 := ha.le
  have l2 := hb.le
  clear h1 h2 ha hb hab
  go_enter Tryz.func94, Tryz.ntmps94
  go_wp2_with fail
  refine HZ.out.mono ?_
  rintro e w1 ⟨v, rfl, hown, b1⟩
  obtain ⟨A, c, rfl, -⟩ := hown.gridS
  rw [← timesF_zero a b] at hown
  rw [tabOf_length] at hown ⊢
  have HO := Lib.hid hown
  have HB1 := Lib.hid b1
  clear hown b1
  go_wp2
  go_loopw [8] (fun i wr => ∃ k : Nat, k ≤ a.length ∧ i = .int .i64 k ∧ OwnG wr w.heap.size (.slice A a.length c) (tabOf a.length b.length (timesF a b k 0 0)) ∧ Below w.heap.size w wr) (fun i _ => a.length - (intOf i).toNat)
  case atStart => exact ⟨0, Nat.zero_le _, rfl, HO.out, HB1.out⟩
  case round =>
    obtain ⟨i, hi, rfl, hown, hbl⟩ := hrel
    by_cases hil : i < a.length
    · have HO1 := Lib.hid hown
      have HB2 := Lib.hid hbl
      clear hown hbl
      go_wp2
      go_loopw [9] (fun jv w2 => ∃ j : Nat, j ≤ b.length ∧ jv = .int .i64 j ∧ OwnG w2 w.heap.size (.slice A a.length c) (tabOf a.length b.length (timesF a b i j 0)) ∧ Below w.heap.size w w2) (fun j _ => b.length - (intOf j).toNat)
      case atStart => exact ⟨0, Nat.zero_le _, rfl, HO1.out, HB2.out⟩
      case round =>
        obtain ⟨j, hj, rfl, hown, hbl⟩ := hrel
        by_cases hjl : j < b.length
        · have HO2 := Lib.hid hown
          have HB3 := Lib.hid hbl
          clear hown hbl
          go_wp2
          go_loopw [10] (fun tv w3 => ∃ t : Nat, t ≤ b.length ∧ tv = .int .i64 t ∧ OwnG w3 w.heap.size (.slice A a.length c) (tabOf a.length b.length (timesF a b i j t)) ∧ Below w.heap.size w w3) (fun t _ => b.length - (intOf t).toNat)
          case atStart => exact ⟨0, Nat.zero_le _, rfl, HO2.out, HB3.out⟩
          case round =>
            obtain ⟨t, ht, rfl, hown, hbl⟩ := hrel
            by_cases htl : t < b.length
            · have hrl : ((tabOf a.length b.length (timesF a b i j t)).getD i []).length = b.length := by rw [tabOf_row hil]; simp
              obtain ⟨g, cap, gi, ci, hv, k1, k2, kf, kb, kl, hset⟩ := hown.at (i := i) (j := j) (by rw [tabOf_length]; exact hil) (by rw [hrl]; exact hjl)
              rw [tabOf_length] at hv
              simp only [Value.slice.injEq, true_and] at hv
              obtain ⟨rfl, rfl⟩ := hv
              rw [hrl] at k1
              rw [timesF_cell a b _ _ i j t hil hjl] at k2
              obtain ⟨p1, p2, p3, p4, p5, rfl, ka1, ka2, _, _⟩ := (H1.out.below hbl).num hil (j := t) (by rw [HA.out.row i hil]; have := HL.out; omega)
              obtain ⟨q1, q2, q3, q4, q5, rfl, kb1, kb2, _, _⟩ := (H2.out.below hbl).num htl (j := j) (by rw [HBF.out.row t htl]; exact hjl)
              rw [HA.out.row i hil] at ka1
              rw [HBF.out.row t htl] at kb1
              have hs1 := hset (termsM a b i j t + cellOf a i t * cellOf b t j)
              rw [timesF_term a b _ _ i j t hil] at hs1
              have HS := Lib.hid hs1
              have hT := termsM_le HA.out HBF.out HL.out hil hjl (Nat.le_of_lt htl)
              have hxy := prod_le (HA.out.cell i t hil (by have := HL.out; omega)) (HBF.out.cell t j htl hjl)
              have HB4 := Lib.hid hbl
              have hta : t < a.length := by have := HL.out; omega
              clear hset hs1 hown hbl
              generalize termsM a b i j t = T at *
              generalize cellOf a i t = x at *
              generalize cellOf b t j = y at *
              have hT2 : T ≤ 9000000000000 := by omega
              go_wp2
              go_region
              go_wp2
              go_roundw
              case rel => exact ⟨t + 1, by omega, by go_num, HS.out.drew, (HB4.out.setCell kb _).drew⟩
              case measure => simp [intOf]; omega
            · obtain rfl : t = b.length := by omega
              rw [timesF_next] at hown
              have HO3 := Lib.hid hown
              clear hown
              go_wp2
              go_roundw
              case rel => exact ⟨j + 1, by omega, by go_num, HO3.out, hbl⟩
              case measure => simp [intOf]; omega
        · obtain rfl : j = b.length := by omega
          rw [timesF_row] at hown
          have HO3 := Lib.hid hown
          clear hown
          go_wp2
          go_roundw
          case rel => exact ⟨i + 1, by omega, by go_num, HO3.out, hbl⟩
          case measure => simp [intOf]; omega
    · obtain rfl : i = a.length := by omega
      rw [timesF_all] at hown
      have HO3 := Lib.hid hown
      clear hown
      go_wp2
      go_ret
      exact ⟨_, rfl, HO3.out, hbl⟩

/-- A table and whether there is one. -/
def NewGB (o : Option (List (List Int))) (w : World) (e : Ending) (w' : World) : Prop := ∃ v, e = .returned (.tuple #[v, .bool o.isSome]) ∧ OwnG w' w.heap.size v (o.getD []) ∧ Below w.heap.size w w'
theorem ownG_empty (w : World) : OwnG (w.alloc (.cells #[] 48)) w.heap.size (.slice (some ⟨w.heap.size, 0, none⟩) 0 0) [] := by
  have h := World.ownsRow_made (base := w.heap.size) (e := 48) (size := 1) w #[] 0 (Nat.le_refl _) (by unfold maxLen; omega) rfl
  exact ⟨[], h, RowsOwn.nil _ _ _⟩
theorem below_new {w : World} {o : Obj} : Below w.heap.size w (w.alloc o) := (Below.refl _ _).alloc (Nat.le_refl _) _
theorem prodM_none {a b : List (List Int)} (h : isMat a = false ∨ isMat b = false ∨ ¬ a.length = b.length) : prodM a b = none := by
  unfold prodM
  rw [if_neg]
  intro hc
  rw [Bool.and_eq_true, Bool.and_eq_true, Bool.and_eq_true, decide_eq_true_iff] at hc
  obtain ⟨⟨⟨h1, h2⟩, h3⟩, _⟩ := hc
  rcases h with h | h | h
  · rw [h] at h1; cases h1
  · rw [h] at h2; cases h2
  · exact h h3
theorem prodM_if {a b : List (List Int)} (h1 : isMat a = true) (h2 : isMat b = true) (h3 : a.length = b.length) : prodM a b = if isMat (mulM a b) = true then some (mulM a b) else none := by
  unfold prodM
  rw [h1, h2, decide_eq_true h3, Bool.true_and, Bool.true_and, Bool.true_and]
theorem mulM_length (a b : List (List Int)) : (mulM a b).length = a.length := tabOf_length _ _ _
theorem mulM_row {a b : List (List Int)} {k : Nat} (hk : k < (mulM a b).length) : ((mulM a b).getD k []).length = b.length := by
  rw [mulM_length] at hk
  unfold mulM
  rw [tabOf_row hk]; simp

set_option maxRecDepth 100000 in
set_option maxHeartbeats 1600000 in
theorem spec_multiply (A1 A2 : Option Addr) (c1 c2 : Nat) (a b : List (List Int)) (ha : a.length ≤ 1048576) (hb : b.length ≤ 1048576) (ta : tot a ≤ 1048576) (tb : tot b ≤ 1048576) (w : World) (h1 : GridS w A1 a) (h2 : GridS w A2 b) :
    Calls Tryz.prog 73 #[.slice A1 a.length c1, .slice A2 b.length c2] w (NewGB (prodM a b) w) := by
  have I1 := Lib.hid (fun w' (hb : Below w.heap.size w w') => spec_isMatrix A1 c1 a (by omega) (fun k hk => by have := row_le_tot hk; omega) w' (h1.below hb))
  have I2 := Lib.hid (fun w' (hb : Below w.heap.size w w') => spec_isMatrix A2 c2 b (by omega) (fun k hk => by have := row_le_tot hk; omega) w' (h2.below hb))
  have HE := Lib.hid (ownG_empty w)
  cases ma : isMat a with
  | false =>
    rw [ma] at I1
    rw [prodM_none (Or.inl ma)]
    clear h1 h2 I2
    go_enter Tryz.func73, Tryz.ntmps73
    go_wp2_with fail
    refine (I1.out w (Below.refl _ _)).mono ?_
    rintro e w1 ⟨rfl, rfl⟩
    go_wp2
    go_ret2
    exact ⟨_, rfl, HE.out, below_new⟩
  | true =>
    rw [ma] at I1
    cases mb : isMat b with
    | false =>
      rw [mb] at I2
      rw [prodM_none (Or.inr (Or.inl mb))]
      clear h1 h2
      go_enter Tryz.func73, Tryz.ntmps73
      go_wp2_with fail
      refine (I1.out w (Below.refl _ _)).mono ?_
      rintro e w1 ⟨rfl, rfl⟩
      go_wp2_with fail
      refine (I2.out w1 (Below.refl _ _)).mono ?_
      rintro e w2 ⟨rfl, rfl⟩
      go_wp2
      go_ret2
      exact ⟨_, rfl, HE.out, below_new⟩
    | true =>
      rw [mb] at I2
      by_cases hab : a.length = b.length
      · rw [prodM_if ma mb hab]
        have fa := isMat_facts ma
        have fb := isMat_facts mb
        have HT := Lib.hid (spec_times A1 A2 c1 c2 a b fa fb hab w h1 h2)
        have l1 := fa.le
        have HI3 : Hid (∀ A c w', GridS w' A (mulM a b) → Calls Tryz.prog 42 #[.slice A (mulM a b).length c] w' fun e w2 => e = .returned (.bool (isMat (mulM a b))) ∧ w2 = w') := Lib.hid fun A c w' hg => spec_isMatrix A c (mulM a b) (by rw [mulM_length]; omega) (fun k hk => by rw [mulM_row hk]; omega) w' hg
        have HR1 : Hid (isMat (mulM a b) = true → (if isMat (mulM a b) = true then some (mulM a b) else none) = some (mulM a b)) := Lib.hid fun h => if_pos h
        have HR2 : Hid (isMat (mulM a b) = false → (if isMat (mulM a b) = true then some (mulM a b) else none) = none) := Lib.hid fun h => if_neg (by rw [h]; decide)
        generalize (if isMat (mulM a b) = true then some (mulM a b) else none) = r at *
        rw [← hab] at I2 HT ⊢
        clear h1 h2 fa fb ma mb hab
        generalize mulM a b = p at *
        go_enter Tryz.func73, Tryz.ntmps73
        go_wp2_with fail
        refine (I1.out w (Below.refl _ _)).mono ?_
        rintro e w1 ⟨rfl, rfl⟩
        go_wp2_with fail
        refine (I2.out w1 (Below.refl _ _)).mono ?_
        rintro e w2 ⟨rfl, rfl⟩
        go_wp2_with fail
        refine HT.out.mono ?_
        rintro e w3 ⟨v, rfl, ho3, b3⟩
        obtain ⟨A, c, rfl, hg3⟩ := ho3.gridS
        have HO3 := Lib.hid ho3
        have HC := Lib.hid (HI3.out A c w3 hg3)
        have HE3 := Lib.hid (ownG_empty w3)
        have hs3 := b3.size
        clear ho3 hg3
        go_wp2_with fail
        refine HC.out.mono ?_
        rintro e w4 ⟨rfl, rfl⟩
        cases hp : isMat p with
        | true =>
          have hr := HR1.out hp
          subst hr
          clear HR1 HR2
          go_wp2
          go_ret2
          exact ⟨_, rfl, HO3.out, b3⟩
        | false =>
          have hr := HR2.out hp
          subst hr
          clear HR1 HR2
          go_wp2
          go_ret2
          exact ⟨_, rfl, HE3.out.mono hs3, b3.alloc hs3 _⟩
      · rw [prodM_none (Or.inr (Or.inr hab))]
        have hne : ¬ (a.length : Int) = (b.length : Int) := by omega
        clear h1 h2
        go_enter Tryz.func73, Tryz.ntmps73
        go_wp2_with fail
        refine (I1.out w (Below.refl _ _)).mono ?_
        rintro e w1 ⟨rfl, rfl⟩
        go_wp2_with fail
        refine (I2.out w1 (Below.refl _ _)).mono ?_
        rintro e w2 ⟨rfl, rfl⟩
        go_wp2
        go_ret2
        exact ⟨_, rfl, HE.out, below_new⟩
end Go.Proofs.YtalclebehbdliaaGreatDoor
namespace Go.Proofs.YtalclebehbdliaaGreatDoor
open Go Go.RowKit

theorem tot_le_of {m : List (List Int)} {n : Nat} (h : ∀ r, r ∈ m → r.length ≤ n) : tot m ≤ m.length * n := by
  induction m with
  | nil => simp [tot]
  | cons r m ih =>
    have h1 := h r (by simp)
    have h2 := ih fun s hs => h s (by simp [hs])
    have e : tot (r :: m) = r.length + tot m := by simp [tot]
    rw [e, List.length_cons, Nat.add_mul, Nat.one_mul]; omega
theorem tot_isMat {m : List (List Int)} (h : MatFacts m) : tot m ≤ 81 := by
  have h1 := tot_le_of (m := m) (n := 9) fun r hr => by
    obtain ⟨i, hi, rfl⟩ := List.getElem_of_mem hr
    have := h.row i hi
    have e : m.getD i [] = m[i] := by simp [List.getD, hi]
    rw [e] at this
    have := h.le
    omega
  have := h.le
  omega

theorem sizeB_facts {m : List (List Int)} (h : MatFacts m) : SizeB m := by
  have := h.le
  have := tot_isMat h
  unfold SizeB; omega
theorem sizeB_nil : SizeB [] := by unfold SizeB; decide
/-- What a function of one table, of two answers at the laws' copies. -/
def At1 (W : World) (f : Nat) (m : List (List Int)) (P : World → Ending → World → Prop) : Prop := ∀ v w', Below W.heap.size W w' → SizeB m → OwnG w' W.heap.size v m → Calls Tryz.prog f #[v] w' (P w')
def At1I (W : World) (f : Nat) (m : List (List Int)) (n : Int) (P : World → Ending → World → Prop) : Prop := ∀ v w', Below W.heap.size W w' → SizeB m → OwnG w' W.heap.size v m → Calls Tryz.prog f #[v, .int .i64 n] w' (P w')
def At2 (W : World) (f : Nat) (a b : List (List Int)) (P : World → Ending → World → Prop) : Prop := ∀ v v' w', Below W.heap.size W w' → SizeB a → SizeB b → OwnG w' W.heap.size v a → OwnG w' W.heap.size v' b → Calls Tryz.prog f #[v, v'] w' (P w')

theorem rows_le {m : List (List Int)} (h : SizeB m) : m.length ≤ 1048576 ∧ tot m ≤ 1048576 ∧ ∀ k, k < m.length → (m.getD k []).length ≤ 1099511627776 := by
  unfold SizeB at h
  exact ⟨by omega, by omega, fun k hk => by have := row_le_tot hk; omega⟩
end Go.Proofs.YtalclebehbdliaaGreatDoor
namespace Go.Proofs.YtalclebehbdliaaGreatDoor
open Go Go.RowKit

/-- The diagonal's first k ones. -/
def oneF (k : Nat) : Nat → Nat → Int := fun i j => if i = j ∧ i < k then 1 else 0
theorem oneF_zero (n : Nat) : tabOf n n (oneF 0) = tabOf n n fun _ _ => 0 := tabOf_congr fun i j _ _ => by unfold oneF; rw [if_neg (by omega)]
theorem oneF_next (n k : Nat) (hk : k < n) : (tabOf n n (oneF k)).set k (((tabOf n n (oneF k)).getD k []).set k 1) = tabOf n n (oneF (k + 1)) := by
  rw [tabOf_set _ _ hk]
  refine tabOf_congr fun i j _ _ => ?_
  unfold oneF
  by_cases e : i = k ∧ j = k
  · obtain ⟨rfl, rfl⟩ := e
    rw [if_pos ⟨rfl, rfl⟩, if_pos ⟨rfl, by omega⟩]
  · rw [if_neg e]
    by_cases h : i = j ∧ i < k
    · rw [if_pos h, if_pos (by omega)]
    · rw [if_neg h, if_neg (by omega)]
theorem oneF_all (n : Nat) : tabOf n n (oneF n) = oneM n := tabOf_congr fun i j hi _ => by
  unfold oneF
  by_cases h : i = j
  · rw [if_pos ⟨h, hi⟩, if_pos h]
  · rw [if_neg (fun e => h e.1), if_neg h]

set_option maxRecDepth 100000 in
set_option maxHeartbeats 1600000 in
theorem spec_one (n : Nat) (hn : n ≤ 1048576) (w : World) :
    Calls Tryz.prog 72 #[.int .i64 n] w (NewG (oneM n) w) := by
  have HZ := Lib.hid (spec_zero n n hn hn w)
  go_enter Tryz.func72, Tryz.ntmps72
  go_wp2_with fail
  refine HZ.out.mono ?_
  rintro e w1 ⟨v, rfl, hown, b1⟩
  obtain ⟨A, c, rfl, -⟩ := hown.gridS
  rw [← oneF_zero] at hown
  rw [tabOf_length] at hown ⊢
  have HO := Lib.hid hown
  have HB1 := Lib.hid b1
  clear hown b1
  go_wp2
  go_loopw [4] (fun i wr => ∃ k : Nat, k ≤ n ∧ i = .int .i64 k ∧ OwnG wr w.heap.size (.slice A n c) (tabOf n n (oneF k)) ∧ Below w.heap.size w wr) (fun i _ => n - (intOf i).toNat)
  case atStart => exact ⟨0, Nat.zero_le _, rfl, HO.out, HB1.out⟩
  case round =>
    obtain ⟨k, hk, rfl, hown, hbl⟩ := hrel
    by_cases hlt : k < n
    · have hrl : ((tabOf n n (oneF k)).getD k []).length = n := by rw [tabOf_row hlt]; simp
      obtain ⟨g, cap, gi, ci, hv, k1, k2, kf, kb, kl, hset⟩ := hown.at (i := k) (j := k) (by rw [tabOf_length]; exact hlt) (by rw [hrl]; exact hlt)
      rw [tabOf_length] at hv
      simp only [Value.slice.injEq, true_and] at hv
      obtain ⟨rfl, rfl⟩ := hv
      rw [hrl] at k1
      have hs1 := hset 1
      rw [oneF_next n k hlt] at hs1
      have HS := Lib.hid hs1
      have HB4 := Lib.hid hbl
      clear hset hs1 hown hbl
      generalize cellOf (tabOf n n (oneF k)) k k = T at *
      go_wp2
      go_roundw
      case rel => exact ⟨k + 1, by omega, by go_num, HS.out, HB4.out.setCell kb _⟩
      case measure => simp [intOf]; omega
    · obtain rfl : k = n := by omega
      rw [oneF_all] at hown
      have HO3 := Lib.hid hown
      clear hown
      go_wp2
      go_ret
      exact ⟨_, rfl, HO3.out, hbl⟩

/-- PowerMatrix. -/
def powS (m : List (List Int)) (n : Int) : Option (List (List Int)) := if isMat m = true ∧ 0 ≤ n ∧ n ≤ 30 then powM m n.toNat else none

set_option maxRecDepth 100000 in
set_option maxHeartbeats 1600000 in
theorem spec_power_ok (A1 : Option Addr) (c1 : Nat) (m : List (List Int)) (hm : isMat m = true) (n : Nat) (hn : n ≤ 30) (w : World) (h1 : GridS w A1 m) :
    Calls Tryz.prog 47 #[.slice A1 m.length c1, .int .i64 (n : Int)] w (NewGB (powM m n) w) := by
  have fm := isMat_facts hm
  have lm := fm.le
  have tm := tot_isMat fm
  have I1 := Lib.hid (spec_isMatrix A1 c1 m (by omega) (fun k hk => by have := row_le_tot hk; omega) w h1)
  rw [hm] at I1
  have IN := Lib.hid (m_in n 0 30)
  have e0 : decide ((0 : Int) ≤ (n : Int)) = true := decide_eq_true (by omega)
  have e1 : decide ((n : Int) ≤ 30) = true := decide_eq_true (by omega)
  rw [e0, e1] at IN
  have HO1 := Lib.hid (spec_one m.length (by omega) w)
  have H1 := Lib.hid h1
  have HM := Lib.hid hm
  have HMUL : Hid (∀ A c p w', isMat p = true → GridS w' A p → Below w.heap.size w w' → Calls Tryz.prog 73 #[.slice A p.length c, .slice A1 m.length c1] w' (NewGB (prodM p m) w')) := Lib.hid fun A c p w' hp hg hb => by
    have fp := isMat_facts hp
    have := tot_isMat fp
    have := fp.le
    exact spec_multiply A A1 c c1 p m (by omega) (by omega) (by omega) (by omega) w' hg (h1.below hb)
  clear h1 fm hm e0 e1
  go_enter Tryz.func47, Tryz.ntmps47
  go_wp2_with fail
  refine I1.out.mono ?_
  rintro e w1 ⟨rfl, rfl⟩
  go_wp2_with fail
  refine (IN.out _).mono ?_
  rintro e w2 ⟨rfl, rfl⟩
  go_wp2_with fail
  refine HO1.out.mono ?_
  rintro e w3 ⟨v, rfl, hown, b3⟩
  have HO := Lib.hid hown
  have HB := Lib.hid b3
  clear hown b3
  go_wp2
  go_loopw [6, 7] (fun v i wr => ∃ (k : Nat) (p : List (List Int)), k ≤ n ∧ i = .int .i64 k ∧ Hid (powM m k = some p) ∧ OwnG wr w2.heap.size v p ∧ Below w2.heap.size w2 wr) (fun _ i _ => n - (intOf i).toNat)
  case atStart => exact ⟨0, _, Nat.zero_le _, rfl, Lib.hid rfl, HO.out, HB.out⟩
  case round =>
    obtain ⟨k, p, hk, rfl, hp, hown, hbl⟩ := hrel
    obtain ⟨A, c, rfl, hg⟩ := hown.gridS
    by_cases hlt : k < n
    · have HC := Lib.hid (HMUL.out A c p wr (powM_isMat HM.out k hp.out) hg hbl)
      have HP1 : Hid (powM m (k + 1) = prodM p m) := Lib.hid (by rw [powM, hp.out]; rfl)
      have HST : Hid (powM m (k + 1) = none → powM m n = none) := Lib.hid fun h => powM_stuck h n hlt
      have HB2 := Lib.hid hbl
      have hs2 := hbl.size
      clear hown hbl hg hp
      generalize prodM p m = r at *
      go_wp2_with fail
      refine HC.out.mono ?_
      rintro e w4 ⟨v4, rfl, ho4, b4⟩
      have HB4 := Lib.hid (HB2.out.trans (b4.mono HB2.out.size))
      have hs4 := HB4.out.size
      have HE := Lib.hid ((ownG_empty w4).mono hs4)
      have HO4 := Lib.hid (ho4.mono hs2)
      clear ho4 b4
      cases r with
      | none =>
        have hn2 := HST.out HP1.out
        have HN2 := Lib.hid hn2
        clear hn2
        go_wp2
        go_ret2
        rw [HN2.out]
        exact ⟨_, rfl, HE.out, HB4.out.alloc hs4 _⟩
      | some q =>
        go_wp2
        go_roundw
        case rel => exact ⟨k + 1, q, by omega, by go_num, Lib.hid HP1.out, HO4.out, HB4.out⟩
        case measure => simp [intOf]; omega
    · obtain rfl : k = n := by omega
      have HO2 := Lib.hid hown
      clear hown hg
      go_wp2
      go_ret2
      rw [hp.out]
      exact ⟨_, rfl, HO2.out, hbl⟩

set_option maxRecDepth 100000 in
set_option maxHeartbeats 800000 in
theorem spec_power (A1 : Option Addr) (c1 : Nat) (m : List (List Int)) (hl : m.length ≤ 1048576) (ht : tot m ≤ 1048576) (n : Int) (w : World) (h1 : GridS w A1 m) :
    Calls Tryz.prog 47 #[.slice A1 m.length c1, .int .i64 n] w (NewGB (powS m n) w) := by
  by_cases hok : isMat m = true ∧ 0 ≤ n ∧ n ≤ 30
  · unfold powS
    rw [if_pos hok]
    obtain ⟨hm, h0, h30⟩ := hok
    obtain ⟨k, rfl⟩ : ∃ k : Nat, n = (k : Int) := ⟨n.toNat, by omega⟩
    rw [Int.toNat_natCast]
    exact spec_power_ok A1 c1 m hm k (by omega) w h1
  · have e : powS m n = none := if_neg hok
    rw [e]
    have I1 := Lib.hid (spec_isMatrix A1 c1 m (by omega) (fun k hk => by have := row_le_tot hk; omega) w h1)
    have IN := Lib.hid (m_in n 0 30)
    have HE := Lib.hid (ownG_empty w)
    clear h1 e
    cases hm : isMat m with
    | false =>
      rw [hm] at I1
      go_enter Tryz.func47, Tryz.ntmps47
      go_wp2_with fail
      refine I1.out.mono ?_
      rintro e w1 ⟨rfl, rfl⟩
      go_wp2
      go_ret2
      exact ⟨_, rfl, HE.out, below_new⟩
    | true =>
      rw [hm] at I1
      have hx : (decide ((0 : Int) ≤ n) && decide (n ≤ 30)) = false := by
        cases hx : (decide ((0 : Int) ≤ n) && decide (n ≤ 30)) with
        | false => rfl
        | true =>
          rw [Bool.and_eq_true, decide_eq_true_iff, decide_eq_true_iff] at hx
          exact absurd ⟨hm, hx⟩ hok
      rw [hx] at IN
      clear hx hok
      go_enter Tryz.func47, Tryz.ntmps47
      go_wp2_with fail
      refine I1.out.mono ?_
      rintro e w1 ⟨rfl, rfl⟩
      go_wp2_with fail
      refine (IN.out _).mono ?_
      rintro e w2 ⟨rfl, rfl⟩
      go_wp2
      go_ret2
      exact ⟨_, rfl, HE.out, below_new⟩

/-! ### Turning around -/

/-- A table that is being filled: all columns ahead of i, and j numbers of column i. -/
def turnF (m : List (List Int)) (i j : Nat) : Nat → Nat → Int := fun i' j' => if j' < i ∨ (j' = i ∧ i' < j) then cellOf m j' i' else 0
theorem turnF_zero (m : List (List Int)) (n : Nat) : tabOf n n (turnF m 0 0) = tabOf n n fun _ _ => 0 := tabOf_congr fun i j _ _ => by unfold turnF; rw [if_neg (by omega)]
theorem turnF_next (m : List (List Int)) (n i j : Nat) (hj : j < n) : (tabOf n n (turnF m i j)).set j (((tabOf n n (turnF m i j)).getD j []).set i (cellOf m i j)) = tabOf n n (turnF m i (j + 1)) := by
  rw [tabOf_set _ _ hj]
  refine tabOf_congr fun i' j' _ _ => ?_
  unfold turnF
  by_cases e : i' = j ∧ j' = i
  · obtain ⟨rfl, rfl⟩ := e
    rw [if_pos ⟨rfl, rfl⟩, if_pos (by omega)]
  · rw [if_neg e]
    by_cases h : j' < i ∨ (j' = i ∧ i' < j)
    · rw [if_pos h, if_pos (by omega)]
    · rw [if_neg h, if_neg (by omega)]
theorem turnF_row (m : List (List Int)) (n i : Nat) : tabOf n n (turnF m i n) = tabOf n n (turnF m (i + 1) 0) := tabOf_congr fun i' j' hi _ => by
  unfold turnF
  by_cases h : j' < i ∨ (j' = i ∧ i' < n)
  · rw [if_pos h, if_pos (by omega)]
  · rw [if_neg h, if_neg (by omega)]
theorem turnF_all (m : List (List Int)) : tabOf m.length m.length (turnF m m.length 0) = turnM m := tabOf_congr fun i' j' _ hj => by
  unfold turnF; rw [if_pos (Or.inl hj)]

/-- TurnMatrix. -/
def turnS (m : List (List Int)) : List (List Int) := if isMat m = true then turnM m else []
end Go.Proofs.YtalclebehbdliaaGreatDoor
