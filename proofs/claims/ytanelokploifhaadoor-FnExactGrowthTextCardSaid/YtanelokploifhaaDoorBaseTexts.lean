/-
  Merged: PLAIN FACTS ON TABLES OF NUMBERS (no program in this text): when a table is a matrix; products, powers, sums, the matrix that is turned around; slices of slices of numbers in memory.
  PLAIN FACTS ON SLICES OF SLICES OF NUMBERS IN MEMORY (no program in this text): what it means that a slice holds a table; how many numbers there are; memory in which only some blocks have turned.
  The laws' helpers on slices of slices of numbers: how many numbers there are, counted down from a limit; a copy in new memory; two that hold the same are found equal.
  PLAIN FACTS ON TABLES IN MEMORY OF THE CALL'S OWN (no program's function in this text): each row in a block of its own; a row is put behind the others, a number or a row is put in another's place.
  The laws' helpers on slices of slices of numbers: a whole copy in new memory; two tables that hold the same are found equal; a table that the call owns is marked, and a marked one is found marked.
  Tables that the call makes: a row is put behind the others, a number is put in another's place; the model's table of zeros.
  What the laws on tables share: the helpers' contracts at whatever slice holds a table; a result that is marked, and what stays as it was.
  The model's IsMatrix, EqualMatrix, TraceOf and SumOf: at every table they answer what the plain words say, and change nothing.
  PLAIN FACTS ON POLYNOMIALS AND DETERMINANTS (no program in this text): determinants by their first row, and of the table that is turned around; a list without zeros at the end; products, values.
  The model's products: what the plain words say, in new memory; nothing that was there before is changed.
  A matrix is not too large; what a function answers at the laws' copies of tables.
  The model's PowerMatrix and TurnMatrix: what the plain words say, in new memory; nothing that was there before is changed.
  PLAIN FACTS on polynomials, as the law asks them (no program in this text): the ends of a matrix's polynomial, the polynomial of the matrix that is turned around, the value of a product.
-/
import Derived.WalkKit
import Derived.WalkSpells
import Derived.Lib.Hide
import Derived.Laws.OwnMore
import Derived.Test.YtanelokploifhaaDoorRows
import Derived.WalkLawsBesides
import Derived.Deep.QuietTactic
import Derived.BigQuiet
import Derived.Deep.Onto
import Derived.Deep.RegionHeld3
import Derived.Deep.AppendLies
namespace Go.Proofs.YtanelokploifhaaDoor
open Go Go.RowKit

/-! ### Tables -/

def rowOk (n : Nat) (r : List Int) : Bool := decide (r.length = n) && r.all fun x => decide (0 ≤ x ∧ x ≤ 1000000)
def isMat (m : List (List Int)) : Bool := (m.all (rowOk m.length)) && decide (1 ≤ m.length ∧ m.length ≤ 9)
def cellOf (m : List (List Int)) (i j : Nat) : Int := (m.getD i []).getD j 0
theorem rowOk_iff {n : Nat} {r : List Int} : rowOk n r = true ↔ r.length = n ∧ ∀ k, k < r.length → 0 ≤ r.getD k 0 ∧ r.getD k 0 ≤ 1000000 := by
  unfold rowOk
  rw [Bool.and_eq_true, decide_eq_true_iff, List.all_eq_true]
  constructor
  · rintro ⟨h1, h2⟩
    refine ⟨h1, fun k hk => ?_⟩
    have := h2 r[k] (List.getElem_mem hk)
    simp only [decide_eq_true_eq] at this
    simpa [List.getD, hk] using this
  · rintro ⟨h1, h2⟩
    refine ⟨h1, fun x hx => ?_⟩
    obtain ⟨k, hk, rfl⟩ := List.getElem_of_mem hx
    have := h2 k hk
    simp only [decide_eq_true_eq]
    simpa [List.getD, hk] using this
theorem isMat_iff {m : List (List Int)} : isMat m = true ↔ (1 ≤ m.length ∧ m.length ≤ 9) ∧ ∀ i, i < m.length → (m.getD i []).length = m.length ∧ ∀ j, j < m.length → 0 ≤ cellOf m i j ∧ cellOf m i j ≤ 1000000 := by
  unfold isMat
  rw [Bool.and_eq_true, decide_eq_true_iff, List.all_eq_true, and_comm]
  refine and_congr_right fun _ => ⟨fun h i hi => ?_, fun h r hr => ?_⟩
  · have := rowOk_iff.1 (h m[i] (List.getElem_mem hi))
    have e : m.getD i [] = m[i] := by simp [List.getD, hi]
    unfold cellOf
    rw [e]
    exact ⟨this.1, fun j hj => this.2 j (by rw [this.1]; exact hj)⟩
  · obtain ⟨i, hi, rfl⟩ := List.getElem_of_mem hr
    have e : m.getD i [] = m[i] := by simp [List.getD, hi]
    have := h i hi
    unfold cellOf at this
    rw [e] at this
    exact rowOk_iff.2 ⟨this.1, fun k hk => this.2 k (by rw [← this.1]; exact hk)⟩

/-- f 0 + .. + f (n - 1). -/
def sumTo : Nat → (Nat → Int) → Int
  | 0, _ => 0
  | n + 1, f => sumTo n f + f n
theorem sumTo_congr {f g : Nat → Int} : ∀ (n : Nat), (∀ k, k < n → f k = g k) → sumTo n f = sumTo n g
  | 0, _ => rfl
  | n + 1, h => by rw [sumTo, sumTo, sumTo_congr n (fun k hk => h k (by omega)), h n (by omega)]
theorem sumTo_le {f : Nat → Int} {B : Int} : ∀ (n : Nat), (∀ k, k < n → 0 ≤ f k ∧ f k ≤ B) → 0 ≤ sumTo n f ∧ sumTo n f ≤ n * B
  | 0, _ => ⟨Int.le_refl _, by simp [sumTo]⟩
  | n + 1, h => by
    obtain ⟨h1, h2⟩ := sumTo_le n (fun k hk => h k (by omega))
    obtain ⟨h3, h4⟩ := h n (by omega)
    rw [sumTo]
    refine ⟨by omega, ?_⟩
    have : ((n + 1 : Nat) : Int) * B = n * B + B := by rw [Int.natCast_succ, Int.add_mul, Int.one_mul]
    omega
/-- A table by its numbers. -/
def tabOf (n m : Nat) (f : Nat → Nat → Int) : List (List Int) := (List.range n).map fun i => (List.range m).map (f i)
theorem tabOf_length (n m : Nat) (f : Nat → Nat → Int) : (tabOf n m f).length = n := by simp [tabOf]
theorem tabOf_row {n m : Nat} {f : Nat → Nat → Int} {i : Nat} (hi : i < n) : (tabOf n m f).getD i [] = (List.range m).map (f i) := by simp [tabOf, List.getD, hi]
theorem tabOf_cell {n m : Nat} {f : Nat → Nat → Int} {i j : Nat} (hi : i < n) (hj : j < m) : cellOf (tabOf n m f) i j = f i j := by
  unfold cellOf
  rw [tabOf_row hi]
  simp [List.getD, hj]
theorem tabOf_congr {n m : Nat} {f g : Nat → Nat → Int} (h : ∀ i j, i < n → j < m → f i j = g i j) : tabOf n m f = tabOf n m g := by
  unfold tabOf
  refine List.map_congr_left fun i hi => List.map_congr_left fun j hj => ?_
  exact h i j (List.mem_range.1 hi) (List.mem_range.1 hj)
theorem tabOf_self {m : List (List Int)} {n : Nat} (h : ∀ i, i < m.length → (m.getD i []).length = n) : tabOf m.length n (cellOf m) = m := by
  refine List.ext_getElem (tabOf_length _ _ _) fun i h1 h2 => ?_
  have hr := h i h2
  have e : m.getD i [] = m[i] := by simp [List.getD, h2]
  have e1 : (tabOf m.length n (cellOf m))[i] = (List.range n).map (cellOf m i) := by simp [tabOf]
  rw [e1]
  rw [e] at hr
  refine List.ext_getElem (by simp [hr]) fun j k1 k2 => ?_
  simp [cellOf, List.getD, h2, k2]
def mulM (a b : List (List Int)) : List (List Int) := tabOf a.length b.length fun i j => sumTo b.length fun k => cellOf a i k * cellOf b k j
def oneM (n : Nat) : List (List Int) := tabOf n n fun i j => if i = j then 1 else 0
def turnM (m : List (List Int)) : List (List Int) := tabOf m.length m.length fun i j => cellOf m j i
/-- The product of two matrices, where there is one. -/
def prodM (a b : List (List Int)) : Option (List (List Int)) := if isMat a && isMat b && decide (a.length = b.length) && isMat (mulM a b) then some (mulM a b) else none
/-- The products of k times m, made one after the other. -/
def powM (m : List (List Int)) : Nat → Option (List (List Int))
  | 0 => some (oneM m.length)
  | k + 1 => (powM m k).bind fun p => prodM p m
def traceM (m : List (List Int)) : Int := if isMat m then sumTo m.length fun k => cellOf m k k else -1
def sumM (m : List (List Int)) : Int := if isMat m then sumTo m.length fun i => sumTo m.length fun j => cellOf m i j else -1

theorem prodM_some {a b c : List (List Int)} (h : prodM a b = some c) : isMat a = true ∧ isMat b = true ∧ a.length = b.length ∧ isMat c = true ∧ c = mulM a b := by
  unfold prodM at h
  split at h
  · next hc =>
    rw [Bool.and_eq_true, Bool.and_eq_true, Bool.and_eq_true, decide_eq_true_iff] at hc
    obtain ⟨⟨⟨h1, h2⟩, h3⟩, h4⟩ := hc
    obtain rfl := Option.some.inj h
    exact ⟨h1, h2, h3, h4, rfl⟩
  · cases h
theorem oneM_isMat {n : Nat} (h1 : 1 ≤ n) (h2 : n ≤ 9) : isMat (oneM n) = true := by
  have hl : (oneM n).length = n := tabOf_length _ _ _
  refine isMat_iff.2 ⟨by omega, fun i hi => ⟨?_, fun j hj => ?_⟩⟩
  · rw [hl] at hi
    unfold oneM; rw [tabOf_row hi, List.length_map, List.length_range, tabOf_length]
  · rw [hl] at hi hj
    unfold oneM
    rw [tabOf_cell hi hj]
    split <;> omega
theorem powM_length {m : List (List Int)} : ∀ (k : Nat) {p : List (List Int)}, powM m k = some p → p.length = m.length
  | 0, p, h => by
    obtain rfl := Option.some.inj h
    exact tabOf_length _ _ _
  | k + 1, p, h => by
    rw [powM] at h
    obtain ⟨q, hq, hp⟩ := Option.bind_eq_some_iff.1 h
    obtain ⟨_, _, h3, _, rfl⟩ := prodM_some hp
    unfold mulM
    rw [tabOf_length, powM_length k hq]
theorem powM_isMat {m : List (List Int)} (hm : isMat m = true) : ∀ (k : Nat) {p : List (List Int)}, powM m k = some p → isMat p = true
  | 0, p, h => by
    obtain rfl := Option.some.inj h
    obtain ⟨⟨h1, h2⟩, _⟩ := isMat_iff.1 hm
    exact oneM_isMat h1 h2
  | k + 1, p, h => by
    rw [powM] at h
    obtain ⟨q, hq, hp⟩ := Option.bind_eq_some_iff.1 h
    exact (prodM_some hp).2.2.2.1
theorem powM_stuck {m : List (List Int)} {k : Nat} (h : powM m k = none) : ∀ (n : Nat), k ≤ n → powM m n = none := by
  intro n hn
  induction n with
  | zero => obtain rfl : k = 0 := by omega
            exact h
  | succ n ih =>
    by_cases hk : k = n + 1
    · subst hk; exact h
    · rw [powM, ih (by omega)]; rfl
end Go.Proofs.YtanelokploifhaaDoor
namespace Go.Proofs.YtanelokploifhaaDoor
open Go Go.RowKit

/-- From ⟨b, off⟩ on the cells hold the numbers xs. -/
def IntsAt (w : World) (b off : Nat) (xs : List Int) : Prop := ∀ k, k < xs.length → w.cell? ⟨b, off + k, none⟩ = some (.int .i64 (xs.getD k 0))
theorem IntsAt.below {B b off : Nat} {w w' : World} {xs : List Int} (h : IntsAt w b off xs) (hb : Below B w w') (hlt : b < B) : IntsAt w' b off xs :=
  fun k hk => (hb.cell (p := ⟨b, off + k, none⟩) hlt).trans (h k hk)
theorem IntsAt.of_owns {w : World} {base e g n cap : Nat} {xs : List Int} (h : w.ownsRow base e 1 (.slice (some ⟨g, 0, none⟩) n cap) n (xs.map (Value.int .i64))) (hn : n = xs.length) : IntsAt w g 0 xs := by
  intro k hk
  rw [Nat.zero_add, h.cellAt k (by omega)]
  simp [List.getD, List.getElem?_eq_getElem hk]
/-- The slice A holds the numbers xs. -/
def RowS (w : World) (A : Option Addr) (xs : List Int) : Prop := 0 < xs.length → ∃ b off, A = some ⟨b, off, none⟩ ∧ IntsAt w b off xs ∧ b < w.heap.size
theorem RowS.below {w w' : World} {A : Option Addr} {xs : List Int} (h : RowS w A xs) (hb : Below w.heap.size w w') : RowS w' A xs := by
  intro hp
  obtain ⟨b, off, hA, hs, hg⟩ := h hp
  exact ⟨b, off, hA, hs.below hb hg, Nat.lt_of_lt_of_le hg hb.size⟩
/-- From ⟨b, off⟩ on the cells hold slices, each of a row of m. -/
def GridAt (w : World) (b off : Nat) (m : List (List Int)) : Prop := ∀ k, k < m.length → ∃ A c, w.cell? ⟨b, off + k, none⟩ = some (.slice A (m.getD k []).length c) ∧ RowS w A (m.getD k [])
theorem GridAt.below {b off : Nat} {w w' : World} {m : List (List Int)} (h : GridAt w b off m) (hb : Below w.heap.size w w') (hlt : b < w.heap.size) : GridAt w' b off m := by
  intro k hk
  obtain ⟨A, c, hc, hr⟩ := h k hk
  exact ⟨A, c, (hb.cell (p := ⟨b, off + k, none⟩) hlt).trans hc, hr.below hb⟩
/-- The slice A holds the table m. -/
def GridS (w : World) (A : Option Addr) (m : List (List Int)) : Prop := 0 < m.length → ∃ b off, A = some ⟨b, off, none⟩ ∧ GridAt w b off m ∧ b < w.heap.size
theorem GridS.below {w w' : World} {A : Option Addr} {m : List (List Int)} (h : GridS w A m) (hb : Below w.heap.size w w') : GridS w' A m := by
  intro hp
  obtain ⟨b, off, hA, hs, hg⟩ := h hp
  exact ⟨b, off, hA, hs.below hb hg, Nat.lt_of_lt_of_le hg hb.size⟩
theorem GridS.nil (w : World) (A : Option Addr) : GridS w A [] := fun h => by simp at h
/-- Row k of a table in memory. -/
theorem GridS.row {w : World} {A : Option Addr} {m : List (List Int)} (h : GridS w A m) {k : Nat} (hk : k < m.length) :
    ∃ b off A' c, A = some ⟨b, off, none⟩ ∧ w.cell? ⟨b, off + k, none⟩ = some (.slice A' (m.getD k []).length c) ∧ RowS w A' (m.getD k []) ∧ b < w.heap.size := by
  obtain ⟨b, off, hA, hs, hg⟩ := h (by omega)
  obtain ⟨A', c, hc, hr⟩ := hs k hk
  exact ⟨b, off, A', c, hA, hc, hr, hg⟩

/-- How many numbers a table has. -/
def tot (m : List (List Int)) : Nat := (m.map List.length).sum
theorem rows_take_next (m : List (List Int)) (k : Nat) (h : k < m.length) : m.take (k + 1) = m.take k ++ [m.getD k []] := by
  rw [List.take_succ_eq_append_getElem h]
  simp [List.getD, List.getElem?_eq_getElem h]
theorem tot_next (m : List (List Int)) (k : Nat) (h : k < m.length) : tot (m.take (k + 1)) = tot (m.take k) + (m.getD k []).length := by
  rw [rows_take_next m k h]; simp [tot]
theorem tot_take_le (m : List (List Int)) (k : Nat) : tot (m.take k) ≤ tot m := by
  have h2 : tot (m.take k ++ m.drop k) = tot (m.take k) + tot (m.drop k) := by simp only [tot, List.map_append, List.sum_append]
  rw [List.take_append_drop] at h2
  omega
theorem row_le_tot {m : List (List Int)} {k : Nat} (h : k < m.length) : (m.getD k []).length ≤ tot m := by
  have := tot_next m k h
  have := tot_take_le m (k + 1)
  omega
theorem tot_all {m : List (List Int)} {k : Nat} (h : m.length ≤ k) : tot (m.take k) = tot m := by rw [List.take_of_length_le h]

/-- Of what was there only blocks from B on and below S have turned. -/
structure Within (B S : Nat) (w w' : World) : Prop where
  os : w'.os = w.os
  tape : w'.tape = w.tape
  output : w'.output = w.output
  size : w.heap.size ≤ w'.heap.size
  block : ∀ k, k < w.heap.size → k < B ∨ S ≤ k → w'.heap[k]? = w.heap[k]?
namespace Within
variable {B S : Nat} {w w' w'' : World}
theorem refl (B S : Nat) (w : World) : Within B S w w := ⟨rfl, rfl, rfl, Nat.le_refl _, fun _ _ _ => rfl⟩
theorem trans (h : Within B S w w') (k : Within B S w' w'') : Within B S w w'' :=
  ⟨k.os.trans h.os, k.tape.trans h.tape, k.output.trans h.output, Nat.le_trans h.size k.size, fun j hj hn => (k.block j (Nat.lt_of_lt_of_le hj h.size) hn).trans (h.block j hj hn)⟩
theorem mono {B' S' : Nat} (h : Within B S w w') (hB : B' ≤ B) (hS : S ≤ S') : Within B' S' w w' :=
  ⟨h.os, h.tape, h.output, h.size, fun k hk hn => h.block k hk (by omega)⟩
theorem of_grown {r : Option Nat} (h : w.grownBy w' r) (hr : ∀ g, r = some g → B ≤ g ∧ g < S) : Within B S w w' :=
  ⟨h.os, h.tape, h.output, h.size, fun k hk hn => h.block k hk (by
    intro e
    have := hr k e.symm
    omega)⟩
theorem of_below (h : Below w.heap.size w w') : Within B S w w' := ⟨h.os, h.tape, h.output, h.size, fun k hk _ => h.block k hk⟩
theorem below (h : Within B S w w') (hB : B ≤ w.heap.size) : Below B w w' := ⟨h.os, h.tape, h.output, h.size, fun k hk => h.block k (by omega) (Or.inl hk)⟩
theorem cell (h : Within B S w w') {p : Addr} (hp : p.block < B ∨ S ≤ p.block) (hl : p.block < w.heap.size) : w'.cell? p = w.cell? p := by
  have hb := h.block p.block hl hp
  unfold World.cell?
  rw [hb]
theorem ints (h : Within B S w w') {b off : Nat} {xs : List Int} (hi : IntsAt w b off xs) (hb : b < w.heap.size) (hn : b < B ∨ S ≤ b) : IntsAt w' b off xs :=
  fun k hk => (h.cell (p := ⟨b, off + k, none⟩) hn hb).trans (hi k hk)
end Within
end Go.Proofs.YtanelokploifhaaDoor
namespace Go.Proofs.YtanelokploifhaaDoor
open Go Go.RowKit

theorem infoInt : (Tryd.prog.info? 3).map (fun i => (i.zero, i.size, i.bytes)) = some (some (.int .i64 0), 1, 8) := by kernel_rfl
theorem infoSl : (Tryd.prog.info? 48).map (fun i => (i.zero, i.size, i.bytes)) = some (some (.slice none 0 0), 1, 24) := by kernel_rfl

def TrueBelowG (w : World) (e : Ending) (w' : World) : Prop := e = .returned (.bool true) ∧ Below w.heap.size w w'
/-- What is left of the limit, or -1. -/
def LeftPost (L : Int) (n : Nat) (w : World) (e : Ending) (w' : World) : Prop := ∃ r : Int, e = .returned (.int .i64 r) ∧ (r = -1 ∨ (0 ≤ r ∧ r + n = L)) ∧ w' = w

set_option maxRecDepth 100000 in
theorem sz_ints (A : Option Addr) (n c : Nat) (L : Int) (hL0 : 0 ≤ L) (hL : L ≤ 1099511627776) (hn : n ≤ 9223372036854775807) (w : World) :
    Calls Tryd.prog 59 #[.slice A n c, .int .i64 L] w (LeftPost L n w) := by
  by_cases h0 : L - (n : Int) < 0
  · go_enter Tryd.func59, Tryd.ntmps59
    go_wp2
    go_ret
    exact ⟨-1, rfl, Or.inl rfl, rfl⟩
  · go_enter Tryd.func59, Tryd.ntmps59
    go_wp2
    go_ret
    exact ⟨L - n, rfl, Or.inr ⟨by omega, by omega⟩, rfl⟩

/-- What is left of the limit behind a table, or -1. -/
def SzGPost (L : Int) (m : List (List Int)) (w : World) (e : Ending) (w' : World) : Prop := ∃ r : Int, e = .returned (.int .i64 r) ∧ (r = -1 ∨ (0 ≤ r ∧ r + m.length + tot m = L)) ∧ w' = w

set_option maxRecDepth 100000 in
set_option maxHeartbeats 800000 in
theorem sz_grid (A : Option Addr) (c : Nat) (m : List (List Int)) (L : Int) (hL0 : 0 ≤ L) (hL : L ≤ 1099511627776) (hn : m.length ≤ 9223372036854775807) (hsz : ∀ k, k < m.length → (m.getD k []).length ≤ 9223372036854775807) (w : World) (hc : GridS w A m) :
    Calls Tryd.prog 24 #[.slice A m.length c, .int .i64 L] w (SzGPost L m w) := by
  by_cases h0 : L - (m.length : Int) < 0
  · go_enter Tryd.func24, Tryd.ntmps24
    go_wp2
    go_ret
    exact ⟨-1, rfl, Or.inl rfl, rfl⟩
  have HC := Lib.hid hc
  have HS := Lib.hid hsz
  clear hc hsz
  go_enter Tryd.func24, Tryd.ntmps24
  go_wp2
  go_loop [1, 5] (fun l i => ∃ (k : Nat) (r : Int), k ≤ m.length ∧ 0 ≤ r ∧ r ≤ L ∧ Hid (r + m.length + tot (m.take k) = L) ∧ l = .int .i64 r ∧ i = .int .i64 k) (fun _ i => m.length - (intOf i).toNat)
  case atStart => exact ⟨0, _, Nat.zero_le _, by omega, by omega, Lib.hid (by simp [tot]), rfl, rfl⟩
  case round =>
    obtain ⟨k, r, hk, hr0, hr1, hr, rfl, rfl⟩ := hrel
    by_cases hlt : k < m.length
    · have hnx := Lib.hid (tot_next m k hlt)
      have hs1 := HS.out k hlt
      obtain ⟨b, off, A', c', rfl, hc1, _, _⟩ := HC.out.row hlt
      generalize m.getD k [] = x at hc1 hs1 hnx
      have HZ := Lib.hid (sz_ints A' x.length c' r hr0 (by omega) hs1)
      go_wp2_with fail
      refine (HZ.out _).mono ?_
      rintro e w1 ⟨r1, rfl, hr2, rfl⟩
      rcases hr2 with rfl | ⟨hr2, hr3⟩
      · go_wp2
        go_ret
        exact ⟨-1, rfl, Or.inl rfl, rfl⟩
      · go_wp2
        go_round
        case rel => exact ⟨k + 1, r1, by omega, hr2, by omega, Lib.hid (by have := hnx.out; have := hr.out; omega), rfl, by go_num⟩
        case measure => simp [intOf]; omega
    · obtain rfl : k = m.length := by omega
      go_wp2
      go_ret
      exact ⟨r, rfl, Or.inr ⟨hr0, by have := hr.out; rw [tot_all (Nat.le_refl _)] at this; exact this⟩, rfl⟩

/-! ### Copies -/

/-- A row that is being filled from the front. -/
def filledI (xs : List Int) (k n : Nat) : List Value := (xs.take k).map (Value.int .i64) ++ List.replicate (n - k) (.int .i64 0)
theorem filledI_none (xs : List Int) (n : Nat) : filledI xs 0 n = List.replicate n (.int .i64 0) := by simp [filledI]
theorem filledI_all (xs : List Int) : filledI xs xs.length xs.length = xs.map (Value.int .i64) := by simp [filledI]
theorem ints_take_next (xs : List Int) (k : Nat) (h : k < xs.length) : xs.take (k + 1) = xs.take k ++ [xs.getD k 0] := by
  rw [List.take_succ_eq_append_getElem h]
  simp [List.getD, List.getElem?_eq_getElem h]
theorem filledI_set (xs : List Int) (k : Nat) (h : k < xs.length) : (filledI xs k xs.length).set k (.int .i64 (xs.getD k 0)) = filledI xs (k + 1) xs.length := by
  have hl : ((xs.take k).map (Value.int .i64)).length = k := by simp; omega
  have hr : List.replicate (xs.length - k) (Value.int .i64 0) = .int .i64 0 :: List.replicate (xs.length - (k + 1)) (.int .i64 0) := by
    rw [show xs.length - k = (xs.length - (k + 1)) + 1 by omega, List.replicate_succ]
  unfold filledI
  rw [ints_take_next xs k h, List.map_append, hr]
  rw [List.set_append_right _ _ (by omega), hl, Nat.sub_self]
  simp
theorem filledI_at (xs : List Int) (k : Nat) (h : k < xs.length) : (filledI xs k xs.length)[k]? = some (.int .i64 0) := by
  have hl : ((xs.take k).map (Value.int .i64)).length = k := by simp; omega
  unfold filledI
  rw [List.getElem?_append_right (by omega), hl, Nat.sub_self]
  rw [List.getElem?_replicate, if_pos (by omega)]

/-- A copy in new memory, at the heap's end. -/
def CopyIPost (xs : List Int) (w : World) (e : Ending) (w' : World) : Prop :=
  e = .returned (.slice (some ⟨w.heap.size, 0, none⟩) xs.length xs.length) ∧ w'.ownsRow w.heap.size 3 1 (.slice (some ⟨w.heap.size, 0, none⟩) xs.length xs.length) xs.length (xs.map (Value.int .i64)) ∧ Below w.heap.size w w' ∧ w.heap.size < w'.heap.size

set_option maxRecDepth 100000 in
set_option maxHeartbeats 800000 in
theorem copy_ints (A : Option Addr) (c : Nat) (xs : List Int) (hn : xs.length ≤ 1099511627776) (w : World) (hc : RowS w A xs) :
    Calls Tryd.prog 60 #[.slice A xs.length c] w (CopyIPost xs w) := by
  obtain ⟨i0, hi, hz0, hz1, hz2⟩ := info_parts infoInt
  have HC := Lib.hid hc
  clear hc
  go_enter Tryd.func60, Tryd.ntmps60
  go_wp2_with (at_make; refine wpList_make_full _ rfl _ _ 48 rfl w.heap.size 3 i0 (.int .i64 0) 1 Tryd.underlying48 hi hz0 hz1 .i64 .i64 _ _ xs.length rfl rfl rfl rfl (by rw [hz2]; omega) (by unfold maxLen; omega) (Nat.le_refl _) ?_; intro w1 hown hgrow)
  have hown0 : w1.ownsRow w.heap.size 3 1 (.slice (some ⟨w.heap.size, 0, none⟩) xs.length xs.length) xs.length (filledI xs 0 xs.length) := by
    have e : (madeCells (Value.int .i64 0).cells (xs.length * 1)).toList = List.replicate xs.length (.int .i64 0) := by rw [Nat.mul_one]; exact toList_madeCells_one _ _
    rw [filledI_none, ← e]; exact hown
  have hbel : Below w.heap.size w w1 := (Below.refl _ _).grown hgrow (Nat.le_refl _) (fun k hk => by cases hk)
  have hsz1 : w.heap.size < w1.heap.size := (hown0.lt _ rfl).2
  clear hown hgrow
  go_loopw [4] (fun i wr => ∃ k : Nat, k ≤ xs.length ∧ i = .int .i64 k ∧ wr.ownsRow w.heap.size 3 1 (.slice (some ⟨w.heap.size, 0, none⟩) xs.length xs.length) xs.length (filledI xs k xs.length) ∧ Below w.heap.size w wr ∧ w.heap.size < wr.heap.size) (fun i _ => xs.length - (intOf i).toNat)
  case atStart => exact ⟨0, Nat.zero_le _, rfl, hown0, hbel, hsz1⟩
  case round =>
    obtain ⟨k, hk, rfl, ho, hbl, hs2⟩ := hrel
    by_cases hlt : k < xs.length
    · obtain ⟨b, off, rfl, hat, hb⟩ := HC.out (by omega)
      have hc1 := hat.below hbl hb k hlt
      have hc2 : wr.cell? ⟨w.heap.size, k, none⟩ = some (.int .i64 0) := (ho.cellAt k (by omega)).trans (filledI_at xs k hlt)
      have hf2 : wr.frozen? ⟨w.heap.size, k, none⟩ = false := ho.frozenAt k
      have hst := (ho.stored k (.int .i64 (xs.getD k 0))).1
      rw [filledI_set xs k hlt] at hst
      have HO := Lib.hid hst
      have HB := Lib.hid hbl
      clear hst ho hbl hat
      generalize xs.getD k 0 = x at hc1 HO
      go_wp2
      go_roundw
      case rel => exact ⟨k + 1, by omega, by go_num, HO.out, HB.out.setCell (Nat.le_refl _) _, by simpa using hs2⟩
      case measure => simp [intOf]; omega
    · obtain rfl : k = xs.length := by omega
      rw [filledI_all] at ho
      have HO := Lib.hid ho
      clear ho
      go_wp2
      go_ret
      exact ⟨rfl, HO.out, hbl, hs2⟩

set_option maxRecDepth 100000 in
set_option maxHeartbeats 800000 in
theorem same_ints (A1 A2 : Option Addr) (c1 c2 : Nat) (xs : List Int) (hn : xs.length ≤ 1099511627776) (w : World) (h1 : RowS w A1 xs) (h2 : RowS w A2 xs) :
    Calls Tryd.prog 61 #[.slice A1 xs.length c1, .slice A2 xs.length c2] w (TrueBelowG w) := by
  have H1 := Lib.hid h1
  have H2 := Lib.hid h2
  clear h1 h2
  go_enter Tryd.func61, Tryd.ntmps61
  go_wp2
  go_loopw [5] (fun i wr => ∃ k q : Nat, k ≤ xs.length ∧ i = .int .i64 k ∧ wr = w.drewN q) (fun i _ => xs.length - (intOf i).toNat)
  case atStart => exact ⟨0, 0, Nat.zero_le _, rfl, rfl⟩
  case round =>
    obtain ⟨k, q, hk, rfl, rfl⟩ := hrel
    by_cases hlt : k < xs.length
    · obtain ⟨b1, o1, rfl, s1, _⟩ := H1.out (by omega)
      obtain ⟨b2, o2, rfl, s2, _⟩ := H2.out (by omega)
      have ha := s1 k hlt
      have hb := s2 k hlt
      clear s1 s2
      generalize xs.getD k 0 = x at ha hb
      go_wp2
      go_quiet (fail)
      go_wp2
      go_roundw
      case rel => exact ⟨k + 1, q + nq, by omega, by go_num, rfl⟩
      case measure => simp [intOf]; omega
    · obtain rfl : k = xs.length := by omega
      go_wp2
      go_ret
      exact ⟨rfl, below_drewN (Below.refl _ _) _⟩
end Go.Proofs.YtanelokploifhaaDoor
namespace Go.Proofs.YtanelokploifhaaDoor
open Go Go.RowKit

/-- The values vs are slices of the rows of m, each in a block of its own from B on, none in the block ob. -/
structure RowsOwn (w : World) (B : Nat) (ob : Option Nat) (vs : List Value) (m : List (List Int)) : Prop where
  len : vs.length = m.length
  row : ∀ (k : Nat) (r : Value), vs[k]? = some r → w.ownsRow B 3 1 r (m.getD k []).length ((m.getD k []).map (Value.int .i64)) ∧ (r.ownBlock = none ∨ r.ownBlock ≠ ob)
  two : ∀ (j k : Nat) (r s : Value), j < k → vs[j]? = some r → vs[k]? = some s → r.ownBlock = none ∨ r.ownBlock ≠ s.ownBlock
namespace RowsOwn
variable {w w' : World} {B : Nat} {ob : Option Nat} {vs : List Value} {m : List (List Int)}
theorem nil (w : World) (B : Nat) (ob : Option Nat) : RowsOwn w B ob [] [] := ⟨rfl, fun k r h => by simp at h, fun j k r s _ h => by simp at h⟩
theorem kept (h : RowsOwn w B ob vs m) {o : Option Nat} (hg : w.grownBy w' o) (hne : ∀ (k : Nat) (r : Value), vs[k]? = some r → r.ownBlock = none ∨ r.ownBlock ≠ o) : RowsOwn w' B ob vs m :=
  ⟨h.len, fun k r hk => ⟨(h.row k r hk).1.kept hg (hne k r hk), (h.row k r hk).2⟩, h.two⟩
theorem keptOuter (h : RowsOwn w B ob vs m) (hg : w.grownBy w' ob) : RowsOwn w' B ob vs m := h.kept hg fun k r hk => (h.row k r hk).2
theorem lt (h : RowsOwn w B ob vs m) {k : Nat} {r : Value} (hk : vs[k]? = some r) : ∀ g, r.ownBlock = some g → B ≤ g ∧ g < w.heap.size := (h.row k r hk).1.lt
theorem below (h : RowsOwn w B ob vs m) (hb : Below w.heap.size w w') : RowsOwn w' B ob vs m :=
  h.kept (o := none) ⟨hb.os, hb.tape, hb.output, hb.size, fun j hj _ => hb.block j hj⟩ fun k r _ => by
    cases e : r.ownBlock with
    | none => exact Or.inl rfl
    | some g => exact Or.inr (by intro h; cases h)
/-- The outer block has moved to new memory. -/
theorem moved (h : RowsOwn w B ob vs m) {ob' : Option Nat} (hn : ob' = ob ∨ ∀ g, ob' = some g → w.heap.size ≤ g) : RowsOwn w B ob' vs m := by
  refine ⟨h.len, fun k r hk => ⟨(h.row k r hk).1, ?_⟩, h.two⟩
  rcases hn with rfl | hn
  · exact (h.row k r hk).2
  · cases e : r.ownBlock with
    | none => exact Or.inl rfl
    | some g =>
      refine Or.inr fun e2 => ?_
      have := hn g e2.symm
      have := (h.lt hk g e).2
      omega
theorem push (h : RowsOwn w B ob vs m) {r : Value} {xs : List Int} (hr : w.ownsRow B 3 1 r xs.length (xs.map (Value.int .i64))) (h1 : r.ownBlock = none ∨ r.ownBlock ≠ ob)
    (h2 : ∀ (k : Nat) (s : Value), vs[k]? = some s → s.ownBlock = none ∨ s.ownBlock ≠ r.ownBlock) : RowsOwn w B ob (vs ++ [r]) (m ++ [xs]) := by
  have hl := h.len
  refine ⟨by simp [hl], fun k s hk => ?_, fun j k s t hjk hj hk => ?_⟩
  · by_cases hlt : k < vs.length
    · rw [List.getElem?_append_left hlt] at hk
      have e : (m ++ [xs]).getD k [] = m.getD k [] := by simp [List.getD, List.getElem?_append_left (show k < m.length by omega)]
      rw [e]
      exact h.row k s hk
    · have hk2 : k = vs.length := by
        have := (List.getElem?_eq_some_iff.1 hk).1
        simp at this; omega
      subst hk2
      rw [List.getElem?_append_right (Nat.le_refl _), Nat.sub_self] at hk
      obtain rfl : r = s := by simpa using hk
      have e : (m ++ [xs]).getD vs.length [] = xs := by simp [List.getD, hl]
      rw [e]
      exact ⟨hr, h1⟩
  · by_cases hlt : k < vs.length
    · rw [List.getElem?_append_left hlt] at hk
      rw [List.getElem?_append_left (by omega)] at hj
      exact h.two j k s t hjk hj hk
    · have hk2 : k = vs.length := by
        have := (List.getElem?_eq_some_iff.1 hk).1
        simp at this; omega
      subst hk2
      rw [List.getElem?_append_right (Nat.le_refl _), Nat.sub_self] at hk
      obtain rfl : r = t := by simpa using hk
      rw [List.getElem?_append_left hjk] at hj
      exact h2 j s hj
/-- One row has turned. -/
theorem setRow (h : RowsOwn w B ob vs m) {k : Nat} {r : Value} (hk : vs[k]? = some r) {xs : List Int} (hx : xs.length = (m.getD k []).length) (hr : w'.ownsRow B 3 1 r xs.length (xs.map (Value.int .i64))) (hg : w.grownBy w' r.ownBlock) : RowsOwn w' B ob vs (m.set k xs) := by
  have hl := h.len
  have hkl := (List.getElem?_eq_some_iff.1 hk).1
  refine ⟨by simp [hl], fun j s hj => ?_, h.two⟩
  have hjl := (List.getElem?_eq_some_iff.1 hj).1
  by_cases hjk : j = k
  · subst hjk
    obtain rfl : r = s := by rw [hk] at hj; exact Option.some.inj hj
    have e : (m.set j xs).getD j [] = xs := by simp [List.getD, show j < m.length by omega]
    rw [e]
    exact ⟨hr, (h.row j r hk).2⟩
  · have e : (m.set k xs).getD j [] = m.getD j [] := by simp [List.getD, List.getElem?_set_ne (Ne.symm hjk)]
    rw [e]
    refine ⟨(h.row j s hj).1.kept hg ?_, (h.row j s hj).2⟩
    by_cases hlt : j < k
    · exact h.two j k s r hlt hj hk
    · rcases h.two k j r s (by omega) hk hj with e1 | e1
      · cases e2 : s.ownBlock with
        | none => exact Or.inl rfl
        | some g => exact Or.inr (by rw [e1]; intro h; cases h)
      · exact Or.inr (Ne.symm e1)
end RowsOwn

/-- A table in memory of the call's own, each row in a block of its own. -/
def OwnG (w : World) (B : Nat) (v : Value) (m : List (List Int)) : Prop := ∃ vs, w.ownsRow B 48 1 v m.length vs ∧ RowsOwn w B v.ownBlock vs m
theorem OwnG.below {w w' : World} {B : Nat} {v : Value} {m : List (List Int)} (h : OwnG w B v m) (hb : Below w.heap.size w w') : OwnG w' B v m := by
  obtain ⟨vs, ho, hr⟩ := h
  refine ⟨vs, ho.kept (row := none) ⟨hb.os, hb.tape, hb.output, hb.size, fun j hj _ => hb.block j hj⟩ ?_, hr.below hb⟩
  cases e : v.ownBlock with
  | none => exact Or.inl rfl
  | some g => exact Or.inr (by intro h; cases h)
theorem OwnG.mono {w : World} {B B' : Nat} {v : Value} {m : List (List Int)} (h : OwnG w B v m) (hB : B' ≤ B) : OwnG w B' v m := by
  obtain ⟨vs, ho, hr⟩ := h
  exact ⟨vs, World.ownsRow.mono ho hB, ⟨hr.len, fun k r hk => ⟨World.ownsRow.mono (hr.row k r hk).1 hB, (hr.row k r hk).2⟩, hr.two⟩⟩
/-- What an owned row of numbers reads as. -/
theorem rowS_of_owns {w : World} {B : Nat} {r : Value} {xs : List Int} (h : w.ownsRow B 3 1 r xs.length (xs.map (Value.int .i64))) : ∃ A c, r = .slice A xs.length c ∧ RowS w A xs := by
  rcases h.2 with ⟨rfl, h0⟩ | ⟨g, cap, cur, rfl, _, _, _⟩
  · exact ⟨none, 0, by rw [h0], fun hp => by omega⟩
  · exact ⟨some ⟨g, 0, none⟩, cap, rfl, fun _ => ⟨g, 0, rfl, IntsAt.of_owns h rfl, (h.lt g rfl).2⟩⟩
theorem OwnG.gridS {w : World} {B : Nat} {v : Value} {m : List (List Int)} (h : OwnG w B v m) : ∃ A c, v = .slice A m.length c ∧ GridS w A m := by
  obtain ⟨vs, ho, hr⟩ := h
  rcases ho.2 with ⟨rfl, h0⟩ | ⟨g, cap, cur, rfl, _, _, _⟩
  · exact ⟨none, 0, by rw [h0], fun hp => by omega⟩
  · refine ⟨some ⟨g, 0, none⟩, cap, rfl, fun _ => ⟨g, 0, rfl, fun k hk => ?_, (ho.lt g rfl).2⟩⟩
    have hl := hr.len
    have hk' : vs[k]? = some vs[k] := List.getElem?_eq_getElem (by omega)
    obtain ⟨A, c, e, hs⟩ := rowS_of_owns (hr.row k _ hk').1
    refine ⟨A, c, ?_, hs⟩
    rw [Nat.zero_add, ho.cellAt k (by omega), hk', e]
theorem OwnG.drew {w : World} {B : Nat} {v : Value} {m : List (List Int)} (h : OwnG w B v m) : OwnG w.drew B v m := by
  obtain ⟨vs, ho, hr⟩ := h
  exact ⟨vs, ho, ⟨hr.len, hr.row, hr.two⟩⟩
/-- The same, the rows in blocks below S. -/
def OwnIn (w : World) (B S : Nat) (v : Value) (m : List (List Int)) : Prop := ∃ vs, w.ownsRow B 48 1 v m.length vs ∧ RowsOwn w B v.ownBlock vs m ∧ ∀ (k : Nat) (r : Value) (g : Nat), vs[k]? = some r → r.ownBlock = some g → g < S
theorem OwnG.ownIn {w : World} {B : Nat} {v : Value} {m : List (List Int)} (h : OwnG w B v m) : OwnIn w B w.heap.size v m := by
  obtain ⟨vs, ho, hr⟩ := h
  exact ⟨vs, ho, hr, fun k r g hk hg => (hr.lt hk g hg).2⟩
theorem OwnIn.ownG {w : World} {B S : Nat} {v : Value} {m : List (List Int)} (h : OwnIn w B S v m) : OwnG w B v m := by
  obtain ⟨vs, ho, hr, _⟩ := h
  exact ⟨vs, ho, hr⟩
theorem OwnIn.below {w w' : World} {B S : Nat} {v : Value} {m : List (List Int)} (h : OwnIn w B S v m) (hb : Below w.heap.size w w') : OwnIn w' B S v m := by
  obtain ⟨vs, ho, hr, hs⟩ := h
  refine ⟨vs, ho.kept (row := none) ⟨hb.os, hb.tape, hb.output, hb.size, fun j hj _ => hb.block j hj⟩ ?_, hr.below hb, hs⟩
  cases e : v.ownBlock with
  | none => exact Or.inl rfl
  | some g => exact Or.inr (by intro h; cases h)
theorem slice_of_owns {w : World} {B e n : Nat} {r : Value} {xs : List Value} (h : w.ownsRow B e 1 r n xs) : ∃ A c, r = .slice A n c := by
  rcases h.2 with ⟨rfl, h0⟩ | ⟨g, cap, cur, rfl, _⟩
  · exact ⟨none, 0, by rw [h0]⟩
  · exact ⟨_, cap, rfl⟩
/-- A table of which one row has turned. -/
theorem OwnG.setRow {w w' : World} {B g cap N : Nat} {m : List (List Int)} {vs : List Value} (ho : w.ownsRow B 48 1 (.slice (some ⟨g, 0, none⟩) N cap) N vs) (hr : RowsOwn w B (some g) vs m) {k : Nat} {r : Value} (hk : vs[k]? = some r)
    {xs : List Int} (hx : xs.length = (m.getD k []).length) (hr' : w'.ownsRow B 3 1 r xs.length (xs.map (Value.int .i64))) (hg : w.grownBy w' r.ownBlock) :
    w'.ownsRow B 48 1 (.slice (some ⟨g, 0, none⟩) N cap) N vs ∧ RowsOwn w' B (some g) vs (m.set k xs) := by
  refine ⟨ho.kept hg ?_, hr.setRow hk hx hr' hg⟩
  rcases (hr.row k r hk).2 with e | e
  · rw [e]; exact Or.inr (by intro h; cases h)
  · exact Or.inr (Ne.symm e)
end Go.Proofs.YtanelokploifhaaDoor
namespace Go.Proofs.YtanelokploifhaaDoor
open Go Go.RowKit

/-- A copy of a table in new memory, at the heap's end. -/
def CopyGPost (m : List (List Int)) (w : World) (e : Ending) (w' : World) : Prop :=
  e = .returned (.slice (some ⟨w.heap.size, 0, none⟩) m.length m.length) ∧ OwnG w' w.heap.size (.slice (some ⟨w.heap.size, 0, none⟩) m.length m.length) m ∧ Below w.heap.size w w'

set_option maxRecDepth 100000 in
set_option maxHeartbeats 800000 in
theorem copy_grid (A : Option Addr) (c : Nat) (m : List (List Int)) (hn : m.length ≤ 1048576) (ht : tot m ≤ 1048576) (w : World) (hc : GridS w A m) :
    Calls Tryd.prog 25 #[.slice A m.length c] w (CopyGPost m w) := by
  obtain ⟨i0, hi, hz0, hz1, hz2⟩ := info_parts infoSl
  have HC := Lib.hid hc
  clear hc
  go_enter Tryd.func25, Tryd.ntmps25
  go_wp2_with (at_make; refine wpList_make_full _ rfl _ _ 24 rfl w.heap.size 48 i0 (.slice none 0 0) 1 Tryd.underlying24 hi hz0 hz1 .i64 .i64 _ _ m.length rfl rfl rfl rfl (by rw [hz2]; omega) (by unfold maxLen; omega) (Nat.le_refl _) ?_; intro w1 hown hgrow)
  have hown0 : w1.ownsRow w.heap.size 48 1 (.slice (some ⟨w.heap.size, 0, none⟩) m.length m.length) m.length ([] ++ List.replicate (m.length - 0) (.slice none 0 0)) := by
    have e : (madeCells (Value.slice none 0 0).cells (m.length * 1)).toList = List.replicate m.length (.slice none 0 0) := by rw [Nat.mul_one]; exact toList_madeCells_one _ _
    rw [List.nil_append, Nat.sub_zero, ← e]; exact hown
  have hbel : Below w.heap.size w w1 := (Below.refl _ _).grown hgrow (Nat.le_refl _) (fun k hk => by cases hk)
  clear hown hgrow
  go_loopw [4] (fun i wr => ∃ (k : Nat) (vs : List Value), k ≤ m.length ∧ i = .int .i64 k ∧ vs.length = k ∧ wr.ownsRow w.heap.size 48 1 (.slice (some ⟨w.heap.size, 0, none⟩) m.length m.length) m.length (vs ++ List.replicate (m.length - k) (.slice none 0 0)) ∧ RowsOwn wr w.heap.size (some w.heap.size) vs (m.take k) ∧ Below w.heap.size w wr) (fun i _ => m.length - (intOf i).toNat)
  case atStart => exact ⟨0, [], Nat.zero_le _, rfl, rfl, hown0, RowsOwn.nil _ _ _, hbel⟩
  case round =>
    obtain ⟨k, vs, hk, rfl, hvs, ho, hr, hbl⟩ := hrel
    by_cases hlt : k < m.length
    · obtain ⟨b, off, A', c', rfl, hc1, hrow, hb⟩ := (HC.out.below hbl).row hlt
      have hx : (m.getD k []).length ≤ 1048576 := Nat.le_trans (row_le_tot hlt) ht
      have HT := Lib.hid (rows_take_next m k hlt)
      generalize m.getD k [] = x at hc1 hrow hx HT
      have HCP := Lib.hid (copy_ints A' c' x (by omega) wr hrow)
      have hgs := (ho.lt w.heap.size rfl).2
      have HO := Lib.hid ho
      have HR := Lib.hid hr
      have HB := Lib.hid hbl
      clear ho hr hbl hrow
      go_wp2_with fail
      refine HCP.out.mono ?_
      rintro e w2 ⟨rfl, hr2, b2, hlt2⟩
      have hold : (vs ++ List.replicate (m.length - k) (Value.slice none 0 0))[k]? = some (.slice none 0 0) := by
        rw [List.getElem?_append_right (by omega), hvs, Nat.sub_self, List.getElem?_replicate, if_pos (by omega)]
      have ho2 := HO.out.kept (row := none) (w' := w2) ⟨b2.os, b2.tape, b2.output, b2.size, fun j hj _ => b2.block j hj⟩ (Or.inr (by intro h; cases h))
      have hc2 := (ho2.cellAt k (by omega)).trans hold
      have hf2 := ho2.frozenAt k
      have hst := ho2.stored k (.slice (some ⟨wr.heap.size, 0, none⟩) x.length x.length)
      have hset : (vs ++ List.replicate (m.length - k) (Value.slice none 0 0)).set k (.slice (some ⟨wr.heap.size, 0, none⟩) x.length x.length) = (vs ++ [.slice (some ⟨wr.heap.size, 0, none⟩) x.length x.length]) ++ List.replicate (m.length - (k + 1)) (.slice none 0 0) := by
        rw [List.set_append_right _ _ (by omega), hvs, Nat.sub_self, show m.length - k = (m.length - (k + 1)) + 1 by omega, List.replicate_succ]
        simp
      rw [hset] at hst
      have HS := Lib.hid hst.1
      have HP : Hid (RowsOwn (w2.setCell ⟨w.heap.size, k, none⟩ (.slice (some ⟨wr.heap.size, 0, none⟩) x.length x.length)) w.heap.size (some w.heap.size) (vs ++ [.slice (some ⟨wr.heap.size, 0, none⟩) x.length x.length]) (m.take k ++ [x])) := Lib.hid (by
        refine ((HR.out.below b2).push (World.ownsRow.mono hr2 (by omega)) (Or.inr (by show some wr.heap.size ≠ some w.heap.size; intro h; have := Option.some.inj h; omega)) (fun j s hj => ?_)).keptOuter hst.2
        cases e : s.ownBlock with
        | none => exact Or.inl rfl
        | some g => exact Or.inr (by show some g ≠ some wr.heap.size; intro h; have := Option.some.inj h; have := (HR.out.lt hj g e).2; omega))
      clear hst hr2 ho2
      go_wp2
      go_roundw
      case rel => exact ⟨k + 1, _, by omega, by go_num, by simp [hvs], HS.out, by rw [HT.out]; exact HP.out, (HB.out.trans (b2.mono HB.out.size)).setCell (Nat.le_refl _) _⟩
      case measure => simp [intOf]; omega
    · obtain rfl : k = m.length := by omega
      rw [Nat.sub_self, List.replicate_zero, List.append_nil] at ho
      rw [List.take_length] at hr
      have HO := Lib.hid ho
      have HR := Lib.hid hr
      clear ho hr
      go_wp2
      go_ret
      exact ⟨rfl, ⟨vs, HO.out, HR.out⟩, hbl⟩

set_option maxRecDepth 100000 in
set_option maxHeartbeats 1600000 in
theorem same_grids (A1 A2 : Option Addr) (c1 c2 : Nat) (m : List (List Int)) (hn : m.length ≤ 1048576) (ht : tot m ≤ 1048576) (w : World) (h1 : GridS w A1 m) (h2 : GridS w A2 m) :
    Calls Tryd.prog 26 #[.slice A1 m.length c1, .slice A2 m.length c2] w (TrueBelowG w) := by
  have H1 := Lib.hid h1
  have H2 := Lib.hid h2
  clear h1 h2
  go_enter Tryd.func26, Tryd.ntmps26
  go_wp2
  go_loopw [5] (fun i wr => ∃ k : Nat, k ≤ m.length ∧ i = .int .i64 k ∧ Below w.heap.size w wr) (fun i _ => m.length - (intOf i).toNat)
  case atStart => exact ⟨0, Nat.zero_le _, rfl, Below.refl _ _⟩
  case round =>
    obtain ⟨k, hk, rfl, hbl⟩ := hrel
    by_cases hlt : k < m.length
    · obtain ⟨b1, o1, R1, d1, rfl, k1, hr1, hb1⟩ := (H1.out.below hbl).row hlt
      obtain ⟨b2, o2, R2, d2, rfl, k2, hr2, hb2⟩ := (H2.out.below hbl).row hlt
      have hx : (m.getD k []).length ≤ 1048576 := Nat.le_trans (row_le_tot hlt) ht
      generalize m.getD k [] = x at k1 k2 hr1 hr2 hx
      have HE : Hid (∀ w', Below wr.heap.size wr w' → Calls Tryd.prog 61 #[.slice R1 x.length d1, .slice R2 x.length d2] w' (TrueBelowG w')) := Lib.hid fun w' hb => same_ints R1 R2 d1 d2 x (by omega) w' (hr1.below hb) (hr2.below hb)
      have HB := Lib.hid hbl
      clear hbl hr1 hr2
      have g0 : (0 : Int) ≤ (k : Int) := by omega
      have g1 : (k : Int) < (m.length : Int) := by omega
      go_wp2
      go_region_held3 (fun w' => w'.cell? ⟨b1, o1 + k, none⟩ = some (.slice R1 x.length d1) ∧ w'.cell? ⟨b2, o2 + k, none⟩ = some (.slice R2 x.length d2)) (first | exact ⟨y0, y1⟩ | go_keep) (first | (go_at_call 61; refine (HE.out _ (by first | exact Below.refl _ _ | exact (Below.refl _ _).drew)).mono ?_; rintro e w2 ⟨rfl, hb3⟩; have y0 := (hb3.cell (p := ⟨b1, o1 + k, none⟩) hb1).trans k1; have y1 := (hb3.cell (p := ⟨b2, o2 + k, none⟩) hb2).trans k2))
      go_wp2
      go_roundw
      case rel => exact ⟨k + 1, by omega, by go_num, HB.out.drew.trans (hb3.mono HB.out.size)⟩
      case measure => simp [intOf]; omega
    · obtain rfl : k = m.length := by omega
      go_wp2
      go_ret
      exact ⟨rfl, hbl⟩

/-! ### Marks -/

/-- The numbers from q on. -/
def marksI (q : Nat) : Nat → List Int
  | 0 => []
  | n + 1 => (q : Int) :: marksI (q + 1) n
theorem marksI_length : ∀ (n q : Nat), (marksI q n).length = n
  | 0, _ => rfl
  | n + 1, q => by rw [marksI, List.length_cons, marksI_length n]
theorem marksI_get : ∀ (n q j : Nat), j < n → (marksI q n).getD j 0 = ((q + j : Nat) : Int)
  | 0, _, j, h => by omega
  | n + 1, q, 0, _ => by simp [marksI]
  | n + 1, q, j + 1, h => by
    rw [marksI, List.getD_cons_succ, marksI_get n (q + 1) j (by omega)]
    congr 1; omega
theorem marksI_next : ∀ (n q : Nat), marksI q (n + 1) = marksI q n ++ [((q + n : Nat) : Int)]
  | 0, q => rfl
  | n + 1, q => by
    rw [marksI, marksI_next n (q + 1), marksI, List.cons_append]
    congr 4; omega
/-- A row that is being marked from the front. -/
def markedI (xs : List Int) (q k : Nat) : List Value := ((marksI q k) ++ xs.drop k).map (Value.int .i64)
theorem markedI_set (xs : List Int) (q k : Nat) (h : k < xs.length) : (markedI xs q k).set k (.int .i64 ((q + k : Nat) : Int)) = markedI xs q (k + 1) := by
  have hl : ((marksI q k).map (Value.int .i64)).length = k := by rw [List.length_map, marksI_length]
  have hd : xs.drop k = xs[k] :: xs.drop (k + 1) := List.drop_eq_getElem_cons h
  unfold markedI
  rw [marksI_next, List.map_append, List.map_append, List.map_append, hd, List.map_cons]
  rw [List.set_append_right _ _ (by omega), hl, Nat.sub_self]
  simp
theorem markedI_at (xs : List Int) (q k : Nat) (h : k < xs.length) : ∃ y, (markedI xs q k)[k]? = some (.int .i64 y) := by
  have hl : (marksI q k).length = k := marksI_length k q
  refine ⟨xs[k], ?_⟩
  unfold markedI
  rw [List.getElem?_map, List.getElem?_append_right (by omega), hl, Nat.sub_self, List.getElem?_drop, Nat.add_zero, List.getElem?_eq_getElem h]
  rfl
theorem markedI_none (xs : List Int) (q : Nat) : markedI xs q 0 = xs.map (Value.int .i64) := by simp [markedI, marksI]
theorem markedI_all (xs : List Int) (q : Nat) : markedI xs q xs.length = (marksI q xs.length).map (Value.int .i64) := by simp [markedI]

/-- The row holds the marks from q on; of what was there no other block has turned. -/
def MarkIPost (B q : Nat) (r : Value) (n : Nat) (w : World) (e : Ending) (w' : World) : Prop :=
  e = .returned (.int .i64 ((q + n : Nat) : Int)) ∧ w'.ownsRow B 3 1 r n ((marksI q n).map (Value.int .i64)) ∧ w.grownBy w' r.ownBlock

/-- The tables of marks: each row goes on where the one before it ended. -/
def marksG : Nat → List (List Int) → List (List Int)
  | _, [] => []
  | q, r :: m => marksI q r.length :: marksG (q + r.length) m
theorem marksG_length : ∀ (m : List (List Int)) (q : Nat), (marksG q m).length = m.length
  | [], _ => rfl
  | r :: m, q => by rw [marksG, List.length_cons, marksG_length m, List.length_cons]
theorem tot_cons (r : List Int) (m : List (List Int)) : tot (r :: m) = r.length + tot m := by simp [tot]
theorem marksG_get : ∀ (m : List (List Int)) (q k : Nat), k < m.length → (marksG q m).getD k [] = marksI (q + tot (m.take k)) (m.getD k []).length
  | [], _, k, h => by simp at h
  | r :: m, q, 0, _ => by simp [marksG, tot]
  | r :: m, q, k + 1, h => by
    rw [marksG, List.getD_cons_succ, marksG_get m (q + r.length) k (by simpa using h), List.getD_cons_succ, List.take_succ_cons, tot_cons]
    congr 1; omega
theorem tot_marksG : ∀ (m : List (List Int)) (q : Nat), tot (marksG q m) = tot m
  | [], _ => rfl
  | r :: m, q => by rw [marksG, tot_cons, tot_cons, marksI_length, tot_marksG m]
/-- A table that is being marked from the front. -/
def markedG (m : List (List Int)) (q k : Nat) : List (List Int) := (marksG q m).take k ++ m.drop k
theorem markedG_length (m : List (List Int)) (q k : Nat) (hk : k ≤ m.length) : (markedG m q k).length = m.length := by
  unfold markedG; simp [marksG_length]; omega
theorem markedG_none (m : List (List Int)) (q : Nat) : markedG m q 0 = m := by simp [markedG]
theorem markedG_all (m : List (List Int)) (q : Nat) : markedG m q m.length = marksG q m := by
  unfold markedG
  rw [List.drop_length, List.append_nil, List.take_of_length_le (by rw [marksG_length]; exact Nat.le_refl _)]
theorem markedG_get (m : List (List Int)) (q k : Nat) (hk : k < m.length) : (markedG m q k).getD k [] = m.getD k [] := by
  unfold markedG
  have hl : ((marksG q m).take k).length = k := by rw [List.length_take, marksG_length]; omega
  simp only [List.getD]
  rw [List.getElem?_append_right (by omega), hl, Nat.sub_self, List.getElem?_drop, Nat.add_zero]
theorem markedG_set (m : List (List Int)) (q k : Nat) (hk : k < m.length) : (markedG m q k).set k (marksI (q + tot (m.take k)) (m.getD k []).length) = markedG m q (k + 1) := by
  unfold markedG
  have hl : ((marksG q m).take k).length = k := by rw [List.length_take, marksG_length]; omega
  have hm : k < (marksG q m).length := by rw [marksG_length]; exact hk
  have hd : m.drop k = m[k] :: m.drop (k + 1) := List.drop_eq_getElem_cons hk
  have hg := marksG_get m q k hk
  rw [List.set_append_right _ _ (by omega), hl, Nat.sub_self, hd, List.set_cons_zero, List.take_succ_eq_append_getElem hm, List.append_assoc, List.singleton_append]
  congr 2
  rw [← hg]
  simp [List.getD, hm]

/-- The table holds the marks; of what was there only blocks from B on and below S have turned. -/
def MarkGPost (B S q : Nat) (v : Value) (m : List (List Int)) (w : World) (e : Ending) (w' : World) : Prop :=
  e = .returned (.int .i64 ((q + tot m : Nat) : Int)) ∧ OwnIn w' B S v (marksG q m) ∧ Within B S w w'

end Go.Proofs.YtanelokploifhaaDoor
namespace Go.Proofs.YtanelokploifhaaDoor
open Go Go.RowKit

/-- A row that is new has been put behind the others. -/
theorem own_append {w0 w w3 : World} {B gg cap : Nat} {v r : Value} {vs : List Value} {m : List (List Int)} {xs : List Int} (hO : w0.ownsRow B 48 1 v m.length vs) (hR : RowsOwn w0 B v.ownBlock vs m) (hb : Below w0.heap.size w0 w)
    (hr : w.ownsRow B 3 1 r xs.length (xs.map (Value.int .i64))) (hf : ∀ g, r.ownBlock = some g → w0.heap.size ≤ g)
    (ho3 : w3.ownsRow B 48 1 (.slice (some ⟨gg, 0, none⟩) (m.length + 1) cap) (m.length + 1) (vs ++ [r])) (hg3 : w.grownBy w3 v.ownBlock) (hat : v.ownBlock = some gg ∨ gg = w.heap.size) :
    RowsOwn w3 B (some gg) (vs ++ [r]) (m ++ [xs]) := by
  have hv := hO.lt
  have hrl := hr.lt
  have hbs := hb.size
  have hR1 := hR.below hb
  have hgg : ∀ g, r.ownBlock = some g → g ≠ gg := by
    intro g hg e
    rcases hat with h | h
    · have := (hv gg h).2
      have := hf g hg
      omega
    · have := (hrl g hg).2
      omega
  have hne : r.ownBlock = none ∨ r.ownBlock ≠ v.ownBlock := by
    cases e : r.ownBlock with
    | none => exact Or.inl rfl
    | some g =>
      refine Or.inr fun h => ?_
      have := (hv g h.symm).2
      have := hf g e
      omega
  have hR2 : RowsOwn w3 B (some gg) vs m := by
    have h1 : RowsOwn w B (some gg) vs m := by
      refine ⟨hR1.len, fun k s hk => ⟨(hR1.row k s hk).1, ?_⟩, hR1.two⟩
      cases e : s.ownBlock with
      | none => exact Or.inl rfl
      | some g =>
        refine Or.inr fun h => ?_
        obtain rfl := Option.some.inj h
        rcases hat with h2 | h2
        · rcases (hR.row k s hk).2 with h3 | h3
          · rw [e] at h3; cases h3
          · exact h3 (e.trans h2.symm)
        · have := (hR1.lt hk _ e).2
          omega
    exact h1.kept hg3 fun k s hk => (hR1.row k s hk).2
  refine hR2.push (hr.kept hg3 hne) ?_ fun k s hk => ?_
  · cases e : r.ownBlock with
    | none => exact Or.inl rfl
    | some g => exact Or.inr fun h => hgg g e (Option.some.inj h)
  · cases e : s.ownBlock with
    | none => exact Or.inl rfl
    | some g =>
      refine Or.inr fun h => ?_
      have := (hR.lt hk g e).2
      have := hf g h.symm
      omega
/-- Number j of row i: where it lies, and what the table is once another number has been put there. -/
theorem OwnG.at {w : World} {B : Nat} {v : Value} {m : List (List Int)} (h : OwnG w B v m) {i j : Nat} (hi : i < m.length) (hj : j < (m.getD i []).length) :
    ∃ g cap gi ci, v = .slice (some ⟨g, 0, none⟩) m.length cap ∧ w.cell? ⟨g, i, none⟩ = some (.slice (some ⟨gi, 0, none⟩) (m.getD i []).length ci) ∧ w.cell? ⟨gi, j, none⟩ = some (.int .i64 (cellOf m i j)) ∧ w.frozen? ⟨gi, j, none⟩ = false ∧ B ≤ gi ∧ gi < w.heap.size ∧
      ∀ x : Int, OwnG (w.setCell ⟨gi, j, none⟩ (.int .i64 x)) B v (m.set i ((m.getD i []).set j x)) := by
  obtain ⟨vs, ho, hr⟩ := h
  rcases ho.2 with ⟨_, h0⟩ | ⟨g, cap, cur, rfl, _⟩
  · omega
  have hl := hr.len
  have hv : vs[i]? = some vs[i] := List.getElem?_eq_getElem (by omega)
  obtain ⟨h1, h2⟩ := hr.row i _ hv
  rcases h1.2 with ⟨_, h0⟩ | ⟨gi, ci, cur2, he, _⟩
  · omega
  rw [he] at hv h1 h2
  have hc : w.cell? ⟨gi, j, none⟩ = some (.int .i64 (cellOf m i j)) := by
    rw [h1.cellAt j (by omega), List.getElem?_map, List.getElem?_eq_getElem hj]
    simp [cellOf, List.getD, hi]
    have e : m[i]? = some m[i] := List.getElem?_eq_getElem hi
    simp [List.getD, e] at hj
    rw [List.getElem?_eq_getElem hj]; rfl
  refine ⟨g, cap, gi, ci, rfl, ?_, hc, h1.frozenAt j, (h1.lt gi rfl).1, (h1.lt gi rfl).2, fun x => ?_⟩
  · rw [ho.cellAt i (by omega), hv]
  · have hst := h1.stored j (.int .i64 x)
    have e1 : ((m.getD i []).map (Value.int .i64)).set j (.int .i64 x) = ((m.getD i []).set j x).map (Value.int .i64) := by rw [List.map_set]
    rw [e1] at hst
    have hs2 := OwnG.setRow ho hr hv (xs := (m.getD i []).set j x) (by simp) (by rw [List.length_set]; exact hst.1) hst.2
    exact ⟨vs, by rw [List.length_set]; exact hs2.1, hs2.2⟩

theorem tabOf_next (n m : Nat) (f : Nat → Nat → Int) : tabOf (n + 1) m f = tabOf n m f ++ [(List.range m).map (f n)] := by
  unfold tabOf
  rw [List.range_succ, List.map_append]; rfl
theorem tabOf_set {n m i j : Nat} (f : Nat → Nat → Int) (x : Int) (hi : i < n) : (tabOf n m f).set i (((tabOf n m f).getD i []).set j x) = tabOf n m fun a b => if a = i ∧ b = j then x else f a b := by
  rw [tabOf_row hi]
  refine List.ext_getElem (by simp [tabOf]) fun a h1 h2 => ?_
  have ha : a < n := by simpa [tabOf] using h2
  rw [List.getElem_set]
  by_cases e : i = a
  · subst e
    rw [if_pos rfl]
    refine List.ext_getElem (by simp [tabOf]) fun b k1 k2 => ?_
    simp [tabOf, List.getElem_set]
    by_cases e2 : j = b
    · subst e2; simp
    · rw [if_neg e2, if_neg (Ne.symm e2)]
  · rw [if_neg e]
    simp [tabOf, Ne.symm e]
theorem replicate_zero (n : Nat) : List.replicate n (Value.int .i64 0) = ((List.range n).map fun _ => (0 : Int)).map (Value.int .i64) := by
  induction n with
  | zero => rfl
  | succ n ih => rw [List.range_succ, List.map_append, List.map_append, ← ih, List.replicate_succ']; rfl

theorem made_ints {w : World} {B g m : Nat} (h : w.ownsRow B 3 1 (.slice (some ⟨g, 0, none⟩) m m) m (madeCells (Value.int .i64 0).cells (m * 1)).toList) :
    w.ownsRow B 3 1 (.slice (some ⟨g, 0, none⟩) m m) m (((List.range m).map fun _ => (0 : Int)).map (Value.int .i64)) := by
  have e : (madeCells (Value.int .i64 0).cells (m * 1)).toList = List.replicate m (.int .i64 0) := by rw [Nat.mul_one]; exact toList_madeCells_one _ _
  rw [e, replicate_zero] at h
  exact h
theorem kept_alloc {w w1 : World} {B n e : Nat} {v : Value} {vs : List Value} (h : w.ownsRow B e 1 v n vs) (hg : w.grownBy w1 none) (o : Obj) : (w1.alloc o).ownsRow B e 1 v n vs := by
  refine World.ownsRow.alloc (h.kept hg ?_) o
  cases e : v.ownBlock with
  | none => exact Or.inl rfl
  | some g => exact Or.inr (by intro h; cases h)
theorem kept_below {w w1 : World} {B n e : Nat} {v : Value} {vs : List Value} (h : w.ownsRow B e 1 v n vs) (hb : Below w.heap.size w w1) : w1.ownsRow B e 1 v n vs := by
  refine h.kept (row := none) ⟨hb.os, hb.tape, hb.output, hb.size, fun j hj _ => hb.block j hj⟩ ?_
  cases e : v.ownBlock with
  | none => exact Or.inl rfl
  | some g => exact Or.inr (by intro h; cases h)
theorem grown_below {w w' : World} (h : w.grownBy w' none) : Below w.heap.size w w' := ⟨h.os, h.tape, h.output, h.size, fun k hk => h.block k hk (by intro h; cases h)⟩
theorem zero_next {w wr w1 w3 : World} {k m gg cap : Nat} {v : Value} {vs : List Value} {o : Obj} (hB : Below w.heap.size w wr) (hO : wr.ownsRow w.heap.size 48 1 v (tabOf k m fun _ _ => 0).length vs) (hR : RowsOwn wr w.heap.size v.ownBlock vs (tabOf k m fun _ _ => 0))
    (hg1 : wr.grownBy w1 none) (hW : w1.ownsRow w.heap.size 3 1 (.slice (some ⟨wr.heap.size, 0, none⟩) m m) m (((List.range m).map fun _ => (0 : Int)).map (Value.int .i64))) (hs1 : wr.heap.size < w1.heap.size)
    (ho3 : w3.ownsRow w.heap.size 48 1 (.slice (some ⟨gg, 0, none⟩) ((tabOf k m fun _ _ => 0).length + 1) cap) ((tabOf k m fun _ _ => 0).length + 1) (vs ++ [.slice (some ⟨wr.heap.size, 0, none⟩) m m])) (hg3 : (w1.alloc o).grownBy w3 v.ownBlock) (hat : v.ownBlock = some gg ∨ gg = w1.heap.size + 1) :
    w3.ownsRow w.heap.size 48 1 (.slice (some ⟨gg, 0, none⟩) ((tabOf k m fun _ _ => 0).length + 1) cap) (tabOf (k + 1) m fun _ _ => 0).length (vs ++ [.slice (some ⟨wr.heap.size, 0, none⟩) m m]) ∧
    RowsOwn w3 w.heap.size (Value.slice (some ⟨gg, 0, none⟩) ((tabOf k m fun _ _ => 0).length + 1) cap).ownBlock (vs ++ [.slice (some ⟨wr.heap.size, 0, none⟩) m m]) (tabOf (k + 1) m fun _ _ => 0) ∧ Below w.heap.size w w3 := by
  have hb1 : Below wr.heap.size wr (w1.alloc o) := (grown_below hg1).alloc (by omega) o
  have hl : ((List.range m).map fun _ => (0 : Int)).length = m := by simp
  refine ⟨by rw [tabOf_next, List.length_append]; exact ho3, ?_, ?_⟩
  · rw [tabOf_next]
    refine own_append (w := w1.alloc o) (cap := cap) hO hR hb1 ?_ (fun g hg => ?_) ho3 hg3 ?_
    · rw [hl]; exact World.ownsRow.alloc hW o
    · have : wr.heap.size = g := Option.some.inj hg
      omega
    · rw [World.size_alloc]; exact hat
  · have hb2 := hB.trans (hb1.mono hB.size)
    refine hb2.grown hg3 (by have := hb2.size; omega) (fun q hq => ?_)
    exact (hO.lt q hq).1
/-- A new table. -/
def NewG (m : List (List Int)) (w : World) (e : Ending) (w' : World) : Prop := ∃ v, e = .returned v ∧ OwnG w' w.heap.size v m ∧ Below w.heap.size w w'

set_option maxRecDepth 100000 in
set_option maxHeartbeats 1600000 in
theorem spec_zero (n m : Nat) (hn : n ≤ 1048576) (hm : m ≤ 1048576) (w : World) :
    Calls Tryd.prog 64 #[.int .i64 n, .int .i64 m] w (NewG (tabOf n m fun _ _ => 0) w) := by
  obtain ⟨i0, hi, hz0, hz1, hz2⟩ := info_parts infoSl
  obtain ⟨j0, hj, hy0, hy1, hy2⟩ := info_parts infoInt
  go_enter Tryd.func64, Tryd.ntmps64
  have hmade := World.ownsRow_made (base := w.heap.size) (e := 48) (size := 1) w #[] 0 (Nat.le_refl _) (by unfold maxLen; omega) rfl
  have HM0 := Lib.hid hmade
  clear hmade
  go_wp2
  go_loopw [5, 6] (fun v i wr => ∃ (k : Nat) (vs : List Value), k ≤ n ∧ i = .int .i64 k ∧ wr.ownsRow w.heap.size 48 1 v (tabOf k m fun _ _ => 0).length vs ∧ RowsOwn wr w.heap.size v.ownBlock vs (tabOf k m fun _ _ => 0) ∧ Below w.heap.size w wr) (fun _ i _ => n - (intOf i).toNat)
  case atStart => exact ⟨0, [], Nat.zero_le _, rfl, HM0.out, RowsOwn.nil _ _ _, (Below.refl _ _).alloc (Nat.le_refl _) _⟩
  case round =>
    obtain ⟨k, vs, hk, rfl, hO, hR, hbl⟩ := hrel
    by_cases hlt : k < n
    · have HO := Lib.hid hO
      have HR := Lib.hid hR
      have HB := Lib.hid hbl
      have hsz := hbl.size
      clear hO hR hbl
      go_wp2_with (first | (at_make; refine wpList_make_full _ rfl _ _ 48 rfl w.heap.size 3 j0 (.int .i64 0) 1 Tryd.underlying48 hj hy0 hy1 .i64 .i64 _ _ m rfl rfl rfl rfl (by rw [hy2]; omega) (by unfold maxLen; omega) hsz ?_; intro w1 hown hgrow; have HW1 := Lib.hid (made_ints hown); have HG1 := Lib.hid hgrow; have hs1 : wr.heap.size < w1.heap.size := (hown.lt _ rfl).2; clear hown hgrow) | (at_builtin; refine wpList_append_lies _ rfl (.tmp 13) (.tmp 16) 24 rfl w.heap.size 48 i0 (.slice none 0 0) 1 24 Tryd.underlying24 hi hz0 hz1 hz2 rfl (by decide) _ _ _ rfl (kept_alloc HO.out HG1.out _) ⟨w1.heap.size, 0, none⟩ 1 1 [.slice (some ⟨wr.heap.size, 0, none⟩) m m] rfl rfl (World.news_of_block (cs := #[.slice (some ⟨wr.heap.size, 0, none⟩) m m]) (t := 48) (fr := (0, 0)) (heap_alloc_new w1 _)) (by simp [Value.oneCell']) (by decide) (by rw [tabOf_length]; unfold maxLen; omega) (by rw [tabOf_length]; omega) (by simp; omega) (w1.heap.size + 1) (by simp) ?_; intro gg cap w3 ho3 hg3 hat hlt3; have HN := Lib.hid (zero_next HB.out HO.out HR.out HG1.out HW1.out hs1 ho3 hg3 hat); clear ho3 hg3 hat))
      go_roundw
      case rel => exact ⟨k + 1, _, by omega, by go_num, HN.out.1, HN.out.2.1, HN.out.2.2⟩
      case measure => simp [intOf]; omega
    · obtain rfl : k = n := by omega
      have HO := Lib.hid hO
      have HR := Lib.hid hR
      clear hO hR
      go_wp2
      go_ret
      exact ⟨_, rfl, ⟨vs, HO.out, HR.out⟩, hbl⟩
end Go.Proofs.YtanelokploifhaaDoor
namespace Go.Proofs.YtanelokploifhaaDoor
open Go Go.RowKit

/-- The value is a slice that holds the table m. -/
def GridV (w : World) (v : Value) (m : List (List Int)) : Prop := ∃ A c, v = .slice A m.length c ∧ GridS w A m
theorem GridV.below {w w' : World} {v : Value} {m : List (List Int)} (h : GridV w v m) (hb : Below w.heap.size w w') : GridV w' v m := by
  obtain ⟨A, c, hv, hg⟩ := h
  exact ⟨A, c, hv, hg.below hb⟩
theorem OwnG.gridV {w : World} {B : Nat} {v : Value} {m : List (List Int)} (h : OwnG w B v m) : GridV w v m := h.gridS
/-- The table is not too large. -/
def SizeB (m : List (List Int)) : Prop := m.length + tot m ≤ 1048576
/-- No slice is longer than a slice can be. -/
def SizeA (m : List (List Int)) : Prop := m.length ≤ 9223372036854775807 ∧ ∀ k, k < m.length → (m.getD k []).length ≤ 9223372036854775807

/-- All blocks that were there from B on are as they were. -/
structure From (B : Nat) (w w' : World) : Prop where
  size : w.heap.size ≤ w'.heap.size
  block : ∀ k, B ≤ k → k < w.heap.size → w'.heap[k]? = w.heap[k]?
namespace From
variable {B : Nat} {w w' w'' : World}
theorem refl (B : Nat) (w : World) : From B w w := ⟨Nat.le_refl _, fun _ _ _ => rfl⟩
theorem trans (h : From B w w') (k : From B w' w'') : From B w w'' := ⟨Nat.le_trans h.size k.size, fun j h1 h2 => (k.block j h1 (Nat.lt_of_lt_of_le h2 h.size)).trans (h.block j h1 h2)⟩
theorem of_below (h : Below w.heap.size w w') : From B w w' := ⟨h.size, fun k _ hk => h.block k hk⟩
theorem of_within {B' S' : Nat} (h : Within B' S' w w') (hS : S' ≤ B) : From B w w' := ⟨h.size, fun k h1 h2 => h.block k h2 (Or.inr (by omega))⟩
theorem owns {e n : Nat} {v : Value} {xs : List Value} (h : w.ownsRow B e 1 v n xs) (hf : From B w w') : w'.ownsRow B e 1 v n xs := by
  refine ⟨h.1, ?_⟩
  rcases h.2 with hn | ⟨g, cap, cur, rfl, hb, hgg, rest⟩
  · exact .inl hn
  · refine .inr ⟨g, cap, cur, rfl, hb, ?_, rest⟩
    rw [hf.block g hb (Array.getElem?_eq_some_iff.1 hgg).1]
    exact hgg
theorem ownIn {S : Nat} {v : Value} {m : List (List Int)} (h : OwnIn w B S v m) (hf : From B w w') : OwnIn w' B S v m := by
  obtain ⟨vs, ho, hr, hs⟩ := h
  exact ⟨vs, owns ho hf, ⟨hr.len, fun k r hk => ⟨owns (hr.row k r hk).1 hf, (hr.row k r hk).2⟩, hr.two⟩, hs⟩
end From

/-- A table has been marked: only blocks from B on and below S have turned. -/
def MarkedG (B S : Nat) (v : Value) (m : List (List Int)) (w : World) (e : Ending) (w' : World) : Prop := e = .returned (.int .i64 ((1 + tot m : Nat) : Int)) ∧ GridV w' v (marksG 1 m) ∧ Within B S w w'
/-- The same from a number on; how far it came does not matter. -/
def MarkedX (B S q : Nat) (w : World) (e : Ending) (w' : World) : Prop := ∃ K : Nat, e = .returned (.int .i64 (K : Int)) ∧ K ≤ q + 1048576 ∧ Within B S w w'
theorem szV (V : Value) (m : List (List Int)) (L : Int) (hL0 : 0 ≤ L) (hL : L ≤ 1048576) (hz : SizeA m) (w : World) (h : GridV w V m) : Calls Tryd.prog 24 #[V, .int .i64 L] w (SzGPost L m w) := by
  obtain ⟨A, c, rfl, hg⟩ := h
  exact sz_grid A c m L hL0 (by omega) hz.1 hz.2 w hg
theorem toV (V : Value) (m : List (List Int)) (hm : SizeB m) (w : World) (h : GridV w V m) : Calls Tryd.prog 25 #[V] w (NewG m w) := by
  obtain ⟨A, c, rfl, hg⟩ := h
  unfold SizeB at hm
  refine (copy_grid A c m (by omega) (by omega) w hg).mono ?_
  rintro e w' ⟨he, ho, hb⟩
  exact ⟨_, he, ho, hb⟩
theorem eqV (m : List (List Int)) (hm : SizeB m) (v v' : Value) (w : World) (h : GridV w v m) (h' : GridV w v' m) : Calls Tryd.prog 26 #[v, v'] w (TrueBelowG w) := by
  obtain ⟨A, c, rfl, hg⟩ := h
  obtain ⟨A', c', rfl, hg'⟩ := h'
  unfold SizeB at hm
  exact same_grids A A' c c' m (by omega) (by omega) w hg hg'
def HeldG (n : Nat) (w : World) (e : Ending) (w' : World) : Prop := e = .returned (.int .i64 (n : Int)) ∧ Below w.heap.size w w'
theorem below_behind {w w1 w2 : World} (h : Below w.heap.size w w1) (k : Below w1.heap.size w1 w2) : Below w.heap.size w w2 := h.trans (k.mono h.size)

/-- What a function answers: a value that is no slice. -/
def Scalar (x : Value) (w : World) (e : Ending) (w' : World) : Prop := e = .returned x ∧ Below w.heap.size w w'
/-- The model's table, the program's table; each with a bool, too. -/
def SpecG (m : List (List Int)) (w : World) (e : Ending) (w' : World) : Prop := ∃ v, e = .returned v ∧ GridV w' v m ∧ Below w.heap.size w w'
def SpecGB (m : List (List Int)) (b : Bool) (w : World) (e : Ending) (w' : World) : Prop := ∃ v, e = .returned (.tuple #[v, .bool b]) ∧ GridV w' v m ∧ Below w.heap.size w w'
end Go.Proofs.YtanelokploifhaaDoor
namespace Go.Proofs.YtanelokploifhaaDoor
open Go Go.RowKit

theorem m_in (x lo hi : Int) (w : World) :
    Calls Tryd.prog 42 #[.int .i64 x, .int .i64 lo, .int .i64 hi] w fun e w' => e = .returned (.bool (decide (lo ≤ x) && decide (x ≤ hi))) ∧ w' = w := by
  go_enter Tryd.func42, Tryd.ntmps42
  cases h1 : decide (lo ≤ x) with
  | false => go_wp2; go_ret; exact ⟨rfl, rfl⟩
  | true => go_wp2; go_ret; exact ⟨rfl, rfl⟩

theorem isMat_not {m : List (List Int)} {k : Nat} (hk : k < m.length) (h : rowOk m.length (m.getD k []) = false) : isMat m = false := by
  unfold isMat
  have : m.all (rowOk m.length) = false := by
    rw [List.all_eq_false]
    refine ⟨m[k], List.getElem_mem hk, ?_⟩
    rw [show m[k] = m.getD k [] by simp [List.getD, hk], h]; simp
  rw [this]; rfl
theorem isMat_rows {m : List (List Int)} (h : ∀ j, j < m.length → rowOk m.length (m.getD j []) = true) : isMat m = (decide (1 ≤ (m.length : Int)) && decide ((m.length : Int) ≤ 9)) := by
  unfold isMat
  have : m.all (rowOk m.length) = true := by
    rw [List.all_eq_true]
    intro r hr
    obtain ⟨i, hi, rfl⟩ := List.getElem_of_mem hr
    have := h i hi
    simpa [List.getD, hi] using this
  rw [this, Bool.true_and]
  by_cases h1 : 1 ≤ m.length <;> by_cases h2 : m.length ≤ 9 <;> simp [h1, h2] <;> omega
theorem rowOk_short {n : Nat} {r : List Int} (h : ¬ r.length = n) : rowOk n r = false := by unfold rowOk; simp [h]
theorem rowOk_bad {n k : Nat} {r : List Int} (hk : k < r.length) (h : (decide ((0 : Int) ≤ r.getD k 0) && decide (r.getD k 0 ≤ 1000000)) = false) : rowOk n r = false := by
  cases e : rowOk n r with
  | false => rfl
  | true =>
    have := (rowOk_iff.1 e).2 k hk
    rw [decide_eq_true this.1, decide_eq_true this.2] at h
    cases h

set_option maxRecDepth 100000 in
set_option maxHeartbeats 1600000 in
theorem spec_isMatrix (A : Option Addr) (c : Nat) (m : List (List Int)) (hn : m.length ≤ 1099511627776) (ht : ∀ k, k < m.length → (m.getD k []).length ≤ 1099511627776) (w : World) (hg : GridS w A m) :
    Calls Tryd.prog 40 #[.slice A m.length c] w fun e w' => e = .returned (.bool (isMat m)) ∧ w' = w := by
  have HG := Lib.hid hg
  have HT := Lib.hid ht
  have HI := Lib.hid m_in
  clear hg ht
  go_enter Tryd.func40, Tryd.ntmps40
  go_wp2
  go_loop [3] (fun i => ∃ k : Nat, k ≤ m.length ∧ i = .int .i64 k ∧ Hid (∀ j, j < k → rowOk m.length (m.getD j []) = true)) (fun i => m.length - (intOf i).toNat)
  case atStart => exact ⟨0, Nat.zero_le _, rfl, Lib.hid (fun j h => by omega)⟩
  case round =>
    obtain ⟨k, hk, rfl, hto⟩ := hrel
    by_cases hlt : k < m.length
    · obtain ⟨b, off, A', c', rfl, hc, hrow, hb⟩ := HG.out.row hlt
      have hxl := HT.out k hlt
      by_cases hlen : (m.getD k []).length = m.length
      · have HNX : Hid (rowOk m.length (m.getD k []) = true → ∀ j, j < k + 1 → rowOk m.length (m.getD j []) = true) := Lib.hid (fun h j hj => by
          by_cases e : j = k
          · subst e; exact h
          · exact hto.out j (by omega))
        have HNO : Hid (rowOk m.length (m.getD k []) = false → isMat m = false) := Lib.hid (isMat_not hlt)
        have HR := Lib.hid hrow
        have HLN := Lib.hid hlen
        rw [hlen] at hc
        clear hrow hxl hlen hto
        generalize m.getD k [] = x at *
        go_wp2
        go_loop [4] (fun j => ∃ t : Nat, t ≤ m.length ∧ j = .int .i64 t ∧ Hid (∀ u, u < t → 0 ≤ x.getD u 0 ∧ x.getD u 0 ≤ 1000000)) (fun j => m.length - (intOf j).toNat)
        case atStart => exact ⟨0, Nat.zero_le _, rfl, Lib.hid (fun j h => by omega)⟩
        case round =>
          obtain ⟨t, htl, rfl, hok⟩ := hrel
          by_cases htt : t < m.length
          · obtain ⟨b2, off2, rfl, hat, hb2⟩ := HR.out (by rw [HLN.out]; omega)
            have hcx := hat t (by rw [HLN.out]; exact htt)
            have HBAD := Lib.hid (rowOk_bad (n := m.length) (k := t) (r := x) (by rw [HLN.out]; exact htt))
            clear hat
            generalize hy : x.getD t 0 = y at *
            go_wp2_with fail
            refine (HI.out _ _ _ _).mono ?_
            rintro e w1 ⟨rfl, rfl⟩
            cases hx : (decide (0 ≤ y) && decide (y ≤ 1000000)) with
            | false =>
              go_wp2
              go_ret
              exact ⟨by rw [HNO.out (HBAD.out hx)]; rfl, rfl⟩
            | true =>
              have hy2 : 0 ≤ y ∧ y ≤ 1000000 := by simpa using hx
              have HOK : Hid (∀ u, u < t + 1 → 0 ≤ x.getD u 0 ∧ x.getD u 0 ≤ 1000000) := Lib.hid (fun u hu => by
                by_cases e : u = t
                · subst e; rw [hy]; exact hy2
                · exact hok.out u (by omega))
              clear hy hx hy2 hok
              go_wp2
              go_round
              case rel => exact ⟨t + 1, by omega, by go_num, HOK⟩
              case measure => simp [intOf]; omega
          · obtain rfl : t = m.length := by omega
            have HROW : Hid (rowOk m.length x = true) := Lib.hid (rowOk_iff.2 ⟨HLN.out, fun u hu => hok.out u (by rw [HLN.out] at hu; exact hu)⟩)
            clear hok
            go_wp2
            go_round
            case rel => exact ⟨k + 1, by omega, by go_num, Lib.hid (HNX.out HROW.out)⟩
            case measure => simp [intOf]; omega
      · have HNO := Lib.hid (isMat_not hlt (rowOk_short hlen))
        have hne : ¬ ((m.getD k []).length : Int) = (m.length : Int) := by omega
        clear hrow
        generalize m.getD k [] = x at *
        go_wp2
        go_ret
        exact ⟨by rw [HNO.out]; rfl, rfl⟩
    · obtain rfl : k = m.length := by omega
      have HE := Lib.hid (isMat_rows hto.out)
      go_wp2_with fail
      refine (HI.out _ _ _ _).mono ?_
      rintro e w1 ⟨rfl, rfl⟩
      go_wp2
      go_ret
      exact ⟨by rw [HE.out]; rfl, rfl⟩

/-! ### Two tables -/

theorem take_same_next {xs ys : List Int} {k : Nat} (h : xs.take k = ys.take k) (h1 : k < xs.length) (h2 : k < ys.length) (he : xs.getD k 0 = ys.getD k 0) : xs.take (k + 1) = ys.take (k + 1) := by
  rw [ints_take_next xs k h1, ints_take_next ys k h2, h, he]
theorem rows_same_next {a b : List (List Int)} {k : Nat} (h : a.take k = b.take k) (h1 : k < a.length) (h2 : k < b.length) (he : a.getD k [] = b.getD k []) : a.take (k + 1) = b.take (k + 1) := by
  rw [rows_take_next a k h1, rows_take_next b k h2, h, he]
theorem lists_same {α : Type} {xs ys : List α} {n : Nat} (h : xs.take n = ys.take n) (h1 : xs.length = n) (h2 : ys.length = n) : xs = ys := by
  rwa [List.take_of_length_le (by omega), List.take_of_length_le (by omega)] at h

def BelowBool (b : Bool) (w : World) (e : Ending) (w' : World) : Prop := e = .returned (.bool b) ∧ Below w.heap.size w w'

/-- A matrix: at most nine rows, each as long, its numbers from 0 to a million. -/
structure MatFacts (m : List (List Int)) : Prop where
  pos : 1 ≤ m.length
  le : m.length ≤ 9
  row : ∀ i, i < m.length → (m.getD i []).length = m.length
  cell : ∀ i j, i < m.length → j < m.length → 0 ≤ cellOf m i j ∧ cellOf m i j ≤ 1000000
theorem isMat_facts {m : List (List Int)} (h : isMat m = true) : MatFacts m := by
  obtain ⟨⟨h1, h2⟩, h3⟩ := isMat_iff.1 h
  exact ⟨h1, h2, fun i hi => (h3 i hi).1, fun i j hi hj => (h3 i hi).2 j hj⟩
/-- A number of a matrix in memory. -/
theorem GridS.num {w : World} {A : Option Addr} {m : List (List Int)} (h : GridS w A m) {i j : Nat} (hi : i < m.length) (hj : j < (m.getD i []).length) :
    ∃ b off b2 off2 c', A = some ⟨b, off, none⟩ ∧ w.cell? ⟨b, off + i, none⟩ = some (.slice (some ⟨b2, off2, none⟩) (m.getD i []).length c') ∧ w.cell? ⟨b2, off2 + j, none⟩ = some (.int .i64 (cellOf m i j)) ∧ b < w.heap.size ∧ b2 < w.heap.size := by
  obtain ⟨b, off, A', c', hA, hc, hr, hb⟩ := h.row hi
  obtain ⟨b2, off2, rfl, hat, hb2⟩ := hr (by omega)
  exact ⟨b, off, b2, off2, c', hA, hc, hat j hj, hb, hb2⟩

set_option maxRecDepth 100000 in
set_option maxHeartbeats 1600000 in
theorem spec_sumOf (A : Option Addr) (c : Nat) (m : List (List Int)) (hn : m.length ≤ 1099511627776) (ht : ∀ k, k < m.length → (m.getD k []).length ≤ 1099511627776) (w : World) (hg : GridS w A m) :
    Calls Tryd.prog 76 #[.slice A m.length c] w fun e w' => e = .returned (.int .i64 (sumM m)) ∧ w' = w := by
  have HG := Lib.hid hg
  have HI := Lib.hid (spec_isMatrix A c m hn ht w hg)
  clear hg ht
  unfold sumM
  cases hm : isMat m with
  | false =>
    rw [hm] at HI
    go_enter Tryd.func76, Tryd.ntmps76
    go_wp2_with fail
    refine HI.out.mono ?_
    rintro e w1 ⟨rfl, rfl⟩
    go_wp2
    go_ret
    exact ⟨rfl, rfl⟩
  | true =>
    rw [hm] at HI
    have hf := isMat_facts hm
    have hle := hf.le
    have HF := Lib.hid hf
    rw [if_pos rfl]
    clear hm hf
    go_enter Tryd.func76, Tryd.ntmps76
    go_wp2_with fail
    refine HI.out.mono ?_
    rintro e w1 ⟨rfl, rfl⟩
    go_wp2
    go_loop [3, 4] (fun s i => ∃ k : Nat, k ≤ m.length ∧ s = .int .i64 (sumTo k fun i => sumTo m.length fun j => cellOf m i j) ∧ i = .int .i64 k) (fun _ i => m.length - (intOf i).toNat)
    case atStart => exact ⟨0, Nat.zero_le _, rfl, rfl⟩
    case round =>
      obtain ⟨k, hk, rfl, rfl⟩ := hrel
      by_cases hlt : k < m.length
      · have hb1 := sumTo_le (f := fun i => sumTo m.length fun j => cellOf m i j) (B := 9000000) k (fun t ht => by
          have h := sumTo_le (f := fun j => cellOf m t j) (B := 1000000) m.length (fun u hu => HF.out.cell t u (by omega) hu)
          exact ⟨h.1, by omega⟩)
        have HN : Hid ((sumTo k fun i => sumTo m.length fun j => cellOf m i j) + (sumTo m.length fun j => cellOf m k j) = sumTo (k + 1) fun i => sumTo m.length fun j => cellOf m i j) := Lib.hid rfl
        generalize (sumTo k fun i => sumTo m.length fun j => cellOf m i j) = s at *
        have hb3 : s ≤ 81000000 := by omega
        go_wp2
        go_loop [3, 5] (fun s' j => ∃ t : Nat, t ≤ m.length ∧ s' = .int .i64 (s + sumTo t fun j => cellOf m k j) ∧ j = .int .i64 t) (fun _ j => m.length - (intOf j).toNat)
        case atStart => exact ⟨0, Nat.zero_le _, by simp [sumTo], rfl⟩
        case round =>
          obtain ⟨t, htl, rfl, rfl⟩ := hrel
          by_cases htt : t < m.length
          · obtain ⟨b, off, b2, off2, c', rfl, k1, k2, _, _⟩ := HG.out.num hlt (j := t) (by rw [HF.out.row k hlt]; exact htt)
            rw [HF.out.row k hlt] at k1
            have hb4 := sumTo_le (f := fun j => cellOf m k j) (B := 1000000) t (fun u hu => HF.out.cell k u hlt (by omega))
            have hb2 := HF.out.cell k t hlt htt
            have HN2 : Hid ((sumTo t fun j => cellOf m k j) + cellOf m k t = sumTo (t + 1) fun j => cellOf m k j) := Lib.hid rfl
            generalize (sumTo t fun j => cellOf m k j) = s2 at *
            generalize cellOf m k t = y at *
            have hb5 : s2 ≤ 9000000 := by omega
            go_wp2
            go_round
            case rel => exact ⟨t + 1, by omega, by rw [← HN2.out]; go_num, by go_num⟩
            case measure => simp [intOf]; omega
          · obtain rfl : t = m.length := by omega
            go_wp2
            go_round
            case rel => exact ⟨k + 1, by omega, by rw [← HN.out], by go_num⟩
            case measure => simp [intOf]; omega
      · obtain rfl : k = m.length := by omega
        go_wp2
        go_ret
        exact ⟨rfl, rfl⟩
end Go.Proofs.YtanelokploifhaaDoor
namespace Go.Proofs.YtanelokploifhaaDoor
open Go Go.RowKit

def sgn (j : Nat) : Int := if j % 2 = 0 then 1 else -1
theorem sgn_next (j : Nat) : sgn (j + 1) = -sgn j := by
  unfold sgn
  by_cases h : j % 2 = 0
  · rw [if_pos h, if_neg (by omega)]
  · rw [if_neg h, if_pos (by omega)]; rfl
theorem sgn_two (j : Nat) : sgn j = 1 ∨ sgn j = -1 := by
  unfold sgn
  split
  · exact Or.inl rfl
  · exact Or.inr rfl
/-- A table without its first row and column j. -/
def lessF (f : Nat → Nat → Int) (j : Nat) : Nat → Nat → Int := fun a b => f (a + 1) (if b < j then b else b + 1)
def detF : Nat → (Nat → Nat → Int) → Int
  | 0, _ => 1
  | n + 1, f => sumTo (n + 1) fun j => sgn j * f 0 j * detF n (lessF f j)
theorem detF_congr : ∀ {n : Nat} {f g : Nat → Nat → Int}, (∀ i j, i < n → j < n → f i j = g i j) → detF n f = detF n g
  | 0, _, _, _ => rfl
  | n + 1, f, g, h => by
    rw [detF, detF]
    refine sumTo_congr _ fun j hj => ?_
    rw [h 0 j (by omega) hj, detF_congr (n := n) (f := lessF f j) (g := lessF g j) fun a b ha hb => ?_]
    unfold lessF
    exact h _ _ (by omega) (by split <;> omega)
theorem detF_turn {n : Nat} (hn : n ≤ 4) (f : Nat → Nat → Int) : detF n (fun i j => f j i) = detF n f := by
  have h : n = 0 ∨ n = 1 ∨ n = 2 ∨ n = 3 ∨ n = 4 := by omega
  rcases h with rfl | rfl | rfl | rfl | rfl
  · rfl
  · rfl
  · simp [detF, sumTo, sgn, lessF]
    grind
  · simp [detF, sumTo, sgn, lessF]
    grind
  · simp [detF, sumTo, sgn, lessF]
    grind
/-- n! times B to the n. -/
def detB (B : Nat) : Nat → Nat
  | 0 => 1
  | n + 1 => (n + 1) * (B * detB B n)
theorem sumTo_abs {f : Nat → Int} {B : Nat} : ∀ {n : Nat}, (∀ k, k < n → (f k).natAbs ≤ B) → (sumTo n f).natAbs ≤ n * B
  | 0, _ => by simp [sumTo]
  | n + 1, h => by
    have h1 := sumTo_abs (n := n) fun k hk => h k (by omega)
    have h2 := h n (by omega)
    rw [sumTo, Nat.add_mul, Nat.one_mul]
    omega
theorem term_abs {s x d : Int} {B D : Nat} (hs : s = 1 ∨ s = -1) (hx : x.natAbs ≤ B) (hd : d.natAbs ≤ D) : (s * x * d).natAbs ≤ B * D := by
  rw [Int.natAbs_mul, Int.natAbs_mul]
  have e : s.natAbs = 1 := by rcases hs with rfl | rfl <;> rfl
  rw [e, Nat.one_mul]
  exact Nat.mul_le_mul hx hd
theorem detF_abs {B : Nat} : ∀ {n : Nat} {f : Nat → Nat → Int}, (∀ i j, i < n → j < n → (f i j).natAbs ≤ B) → (detF n f).natAbs ≤ detB B n
  | 0, _, _ => Nat.le_refl _
  | n + 1, f, h => by
    rw [detF, detB]
    refine sumTo_abs fun j hj => term_abs (sgn_two j) (h 0 j (by omega) hj) (detF_abs fun a b ha hb => ?_)
    exact h _ _ (by omega) (by split <;> omega)

/-! ### Lists of numbers -/

/-- How many numbers are left of the first n without zeros at the end. -/
def cutLen (p : List Int) : Nat → Nat
  | 0 => 0
  | n + 1 => if p.getD n 0 = 0 then cutLen p n else n + 1
theorem cutLen_le (p : List Int) : ∀ n, cutLen p n ≤ n
  | 0 => Nat.le_refl _
  | n + 1 => by
    rw [cutLen]
    split
    · exact Nat.le_trans (cutLen_le p n) (by omega)
    · exact Nat.le_refl _
def cutL (p : List Int) : List Int := p.take (cutLen p p.length)
def fitsB (p : List Int) (most : Nat) : Bool := (p.all fun x => decide (-1000000 ≤ x ∧ x ≤ 1000000)) && decide (p.length ≤ most)
theorem fits_at {p : List Int} {most : Nat} (h : fitsB p most = true) : p.length ≤ most ∧ ∀ k, (p.getD k 0).natAbs ≤ 1000000 := by
  unfold fitsB at h
  rw [Bool.and_eq_true, decide_eq_true_iff, List.all_eq_true] at h
  refine ⟨h.2, fun k => ?_⟩
  by_cases hk : k < p.length
  · have := h.1 p[k] (List.getElem_mem hk)
    rw [decide_eq_true_iff] at this
    rw [List.getD_eq_getElem?_getD, List.getElem?_eq_getElem hk, Option.getD_some]
    omega
  · rw [List.getD_eq_getElem?_getD, List.getElem?_eq_none (by omega)]
    decide
/-- The product's numbers. -/
def termC (a b : List Int) (t i : Nat) : Int := if i ≤ t ∧ t - i < b.length then a.getD i 0 * b.getD (t - i) 0 else 0
def convL (a b : List Int) : List Int := (List.range (a.length + b.length - 1)).map fun t => sumTo a.length (termC a b t)
def mulP (a b : List Int) : List Int := if fitsB a 30 && fitsB b 30 && decide (a ≠ [] ∧ b ≠ []) then cutL (convL a b) else []
/-- The value of the last n numbers. -/
def hor (p : List Int) (x : Int) : Nat → Int
  | 0 => 0
  | n + 1 => hor p x n * x + p.getD (p.length - 1 - n) 0
def atP (p : List Int) (x : Int) : Option Int := if fitsB p 5 && decide (-1000 ≤ x ∧ x ≤ 1000) then some (hor p x p.length) else none

/-! ### Small matrices -/

def smallM (m : List (List Int)) : Bool := isMat m && decide (m.length ≤ 4) && m.all fun r => r.all fun x => decide (x ≤ 9)
def detOk (t : List (List Int)) : Bool := decide (t.length ≤ 4) && t.all fun r => decide (r.length = t.length) && r.all fun x => decide (-10000 ≤ x ∧ x ≤ 10000)
def detT (t : List (List Int)) : Int := detF t.length (cellOf t)
def detS (t : List (List Int)) : Option Int := if detOk t then some (detT t) else none
def rootM (m : List (List Int)) : Bool := smallM m && decide (detT m ≠ 0)
/-- The vertices of which the bits are set. -/
def bitsL (n s : Nat) : List Nat := (List.range n).filter fun i => s.testBit i
def minorF (m : List (List Int)) (l : List Nat) : Int := detF l.length fun a b => cellOf m (l.getD a 0) (l.getD b 0)
def minorsN (m : List (List Int)) (size : Nat) : Int := sumTo (2 ^ m.length) fun s => if (bitsL m.length s).length = size then minorF m (bitsL m.length s) else 0
def turnedL (m : List (List Int)) : List Int := (List.range (m.length + 1)).map fun k => sgn k * minorsN m k
def charL (m : List (List Int)) : List Int := (List.range (m.length + 1)).map fun k => sgn (m.length - k) * minorsN m (m.length - k)
def turnedM (m : List (List Int)) : List Int := if smallM m then cutL (turnedL m) else []
def charM (m : List (List Int)) : List Int := if smallM m then charL m else []
end Go.Proofs.YtanelokploifhaaDoor
namespace Go.Proofs.YtanelokploifhaaDoor
open Go Go.RowKit

/-- The product's number at i and j, of its first t terms. -/
def termsM (a b : List (List Int)) (i j t : Nat) : Int := sumTo t fun k => cellOf a i k * cellOf b k j
/-- A product that is being made: all numbers ahead of i and j, and t terms there. -/
def timesF (a b : List (List Int)) (i j t : Nat) : Nat → Nat → Int := fun i' j' => if i' < i ∨ (i' = i ∧ j' < j) then termsM a b i' j' b.length else if i' = i ∧ j' = j then termsM a b i j t else 0
theorem timesF_zero (a b : List (List Int)) (n m : Nat) : tabOf n m (timesF a b 0 0 0) = tabOf n m fun _ _ => 0 := tabOf_congr fun i j _ _ => by
  unfold timesF termsM
  rw [if_neg (by omega)]
  split <;> rfl
theorem timesF_cell (a b : List (List Int)) (n m i j t : Nat) (hi : i < n) (hj : j < m) : cellOf (tabOf n m (timesF a b i j t)) i j = termsM a b i j t := by
  rw [tabOf_cell hi hj]
  unfold timesF
  rw [if_neg (by omega), if_pos ⟨rfl, rfl⟩]
theorem timesF_term (a b : List (List Int)) (n m i j t : Nat) (hi : i < n) : (tabOf n m (timesF a b i j t)).set i (((tabOf n m (timesF a b i j t)).getD i []).set j (termsM a b i j t + cellOf a i t * cellOf b t j)) = tabOf n m (timesF a b i j (t + 1)) := by
  rw [tabOf_set _ _ hi]
  refine tabOf_congr fun i' j' _ _ => ?_
  by_cases e : i' = i ∧ j' = j
  · obtain ⟨rfl, rfl⟩ := e
    rw [if_pos ⟨rfl, rfl⟩]
    unfold timesF
    rw [if_neg (by omega), if_pos ⟨rfl, rfl⟩]; rfl
  · rw [if_neg e]
    unfold timesF
    rw [if_neg e, if_neg e]
theorem timesF_next (a b : List (List Int)) (n m i j : Nat) : tabOf n m (timesF a b i j b.length) = tabOf n m (timesF a b i (j + 1) 0) := tabOf_congr fun i' j' _ _ => by
  unfold timesF
  by_cases h1 : i' < i ∨ (i' = i ∧ j' < j)
  · rw [if_pos h1, if_pos (by omega)]
  · rw [if_neg h1]
    by_cases h2 : i' = i ∧ j' = j
    · obtain ⟨rfl, rfl⟩ := h2
      rw [if_pos ⟨rfl, rfl⟩, if_pos (by omega)]
    · rw [if_neg h2, if_neg (by omega)]
      split <;> rfl
theorem timesF_row (a b : List (List Int)) (n m i : Nat) : tabOf n m (timesF a b i m 0) = tabOf n m (timesF a b (i + 1) 0 0) := tabOf_congr fun i' j' _ hj => by
  unfold timesF
  by_cases h1 : i' < i ∨ (i' = i ∧ j' < m)
  · rw [if_pos h1, if_pos (by omega)]
  · rw [if_neg h1, if_neg (by omega), if_neg (by omega)]
    split <;> rfl
theorem timesF_all (a b : List (List Int)) : tabOf a.length b.length (timesF a b a.length 0 0) = mulM a b := tabOf_congr fun i' j' hi _ => by
  unfold timesF termsM
  rw [if_pos (Or.inl hi)]
theorem termsM_le {a b : List (List Int)} (ha : MatFacts a) (hb : MatFacts b) (hab : a.length = b.length) {i j t : Nat} (hi : i < a.length) (hj : j < b.length) (ht : t ≤ b.length) : 0 ≤ termsM a b i j t ∧ termsM a b i j t ≤ t * 1000000000000 :=
  sumTo_le t fun k hk => by
    obtain ⟨x1, x2⟩ := ha.cell i k hi (by omega)
    obtain ⟨y1, y2⟩ := hb.cell k j (by omega) hj
    refine ⟨Int.mul_nonneg x1 y1, ?_⟩
    calc cellOf a i k * cellOf b k j ≤ 1000000 * cellOf b k j := Int.mul_le_mul_of_nonneg_right x2 y1
      _ ≤ 1000000 * 1000000 := Int.mul_le_mul_of_nonneg_left y2 (by decide)
theorem prod_le {x y : Int} (hx : 0 ≤ x ∧ x ≤ 1000000) (hy : 0 ≤ y ∧ y ≤ 1000000) : 0 ≤ x * y ∧ x * y ≤ 1000000000000 := by
  refine ⟨Int.mul_nonneg hx.1 hy.1, ?_⟩
  calc x * y ≤ 1000000 * y := Int.mul_le_mul_of_nonneg_right hx.2 hy.1
    _ ≤ 1000000 * 1000000 := Int.mul_le_mul_of_nonneg_left hy.2 (by decide)

set_option maxRecDepth 100000 in
set_option maxHeartbeats 3200000 in
theorem spec_times (A1 A2 : Option Addr) (c1 c2 : Nat) (a b : List (List Int)) (ha : MatFacts a) (hb : MatFacts b) (hab : a.length = b.length) (w : World) (h1 : GridS w A1 a) (h2 : GridS w A2 b) :
    Calls Tryd.prog 77 #[.slice A1 a.length c1, .slice A2 b.length c2, .int .i64 (b.length : Int)] w (NewG (mulM a b) w) := by
  have H1 := Lib.hid h1
  have H2 := Lib.hid h2
  have HA := Lib.hid ha
  have HBF := Lib.hid hb
  have HZ := Lib.hid (spec_zero a.length b.length (by have := ha.le; omega) (by have := hb.le; omega) w)
  have HL := Lib.hid hab
  have l1 := ha.le
  have l2 := hb.le
  clear h1 h2 ha hb hab
  go_enter Tryd.func77, Tryd.ntmps77
  go_wp2_with fail
  refine HZ.out.mono ?_
  rintro e w1 ⟨v, rfl, hown, b1⟩
  obtain ⟨A, c, rfl, -⟩ := hown.gridS
  rw [← timesF_zero a b] at hown
  rw [tabOf_length] at hown ⊢
  have HO := Lib.hid hown
  have HB1 := Lib.hid b1
  clear hown b1
  go_wp2
  go_loopw [8] (fun i wr => ∃ k : Nat, k ≤ a.length ∧ i = .int .i64 k ∧ OwnG wr w.heap.size (.slice A a.length c) (tabOf a.length b.length (timesF a b k 0 0)) ∧ Below w.heap.size w wr) (fun i _ => a.length - (intOf i).toNat)
  case atStart => exact ⟨0, Nat.zero_le _, rfl, HO.out, HB1.out⟩
  case round =>
    obtain ⟨i, hi, rfl, hown, hbl⟩ := hrel
    by_cases hil : i < a.length
    · have HO1 := Lib.hid hown
      have HB2 := Lib.hid hbl
      clear hown hbl
      go_wp2
      go_loopw [9] (fun jv w2 => ∃ j : Nat, j ≤ b.length ∧ jv = .int .i64 j ∧ OwnG w2 w.heap.size (.slice A a.length c) (tabOf a.length b.length (timesF a b i j 0)) ∧ Below w.heap.size w w2) (fun j _ => b.length - (intOf j).toNat)
      case atStart => exact ⟨0, Nat.zero_le _, rfl, HO1.out, HB2.out⟩
      case round =>
        obtain ⟨j, hj, rfl, hown, hbl⟩ := hrel
        by_cases hjl : j < b.length
        · have HO2 := Lib.hid hown
          have HB3 := Lib.hid hbl
          clear hown hbl
          go_wp2
          go_loopw [10] (fun tv w3 => ∃ t : Nat, t ≤ b.length ∧ tv = .int .i64 t ∧ OwnG w3 w.heap.size (.slice A a.length c) (tabOf a.length b.length (timesF a b i j t)) ∧ Below w.heap.size w w3) (fun t _ => b.length - (intOf t).toNat)
          case atStart => exact ⟨0, Nat.zero_le _, rfl, HO2.out, HB3.out⟩
          case round =>
            obtain ⟨t, ht, rfl, hown, hbl⟩ := hrel
            by_cases htl : t < b.length
            · have hrl : ((tabOf a.length b.length (timesF a b i j t)).getD i []).length = b.length := by rw [tabOf_row hil]; simp
              obtain ⟨g, cap, gi, ci, hv, k1, k2, kf, kb, kl, hset⟩ := hown.at (i := i) (j := j) (by rw [tabOf_length]; exact hil) (by rw [hrl]; exact hjl)
              rw [tabOf_length] at hv
              simp only [Value.slice.injEq, true_and] at hv
              obtain ⟨rfl, rfl⟩ := hv
              rw [hrl] at k1
              rw [timesF_cell a b _ _ i j t hil hjl] at k2
              obtain ⟨p1, p2, p3, p4, p5, rfl, ka1, ka2, _, _⟩ := (H1.out.below hbl).num hil (j := t) (by rw [HA.out.row i hil]; have := HL.out; omega)
              obtain ⟨q1, q2, q3, q4, q5, rfl, kb1, kb2, _, _⟩ := (H2.out.below hbl).num htl (j := j) (by rw [HBF.out.row t htl]; exact hjl)
              rw [HA.out.row i hil] at ka1
              rw [HBF.out.row t htl] at kb1
              have hs1 := hset (termsM a b i j t + cellOf a i t * cellOf b t j)
              rw [timesF_term a b _ _ i j t hil] at hs1
              have HS := Lib.hid hs1
              have hT := termsM_le HA.out HBF.out HL.out hil hjl (Nat.le_of_lt htl)
              have hxy := prod_le (HA.out.cell i t hil (by have := HL.out; omega)) (HBF.out.cell t j htl hjl)
              have HB4 := Lib.hid hbl
              have hta : t < a.length := by have := HL.out; omega
              clear hset hs1 hown hbl
              generalize termsM a b i j t = T at *
              generalize cellOf a i t = x at *
              generalize cellOf b t j = y at *
              have hT2 : T ≤ 9000000000000 := by omega
              go_wp2
              go_region
              go_wp2
              go_roundw
              case rel => exact ⟨t + 1, by omega, by go_num, HS.out.drew, (HB4.out.setCell kb _).drew⟩
              case measure => simp [intOf]; omega
            · obtain rfl : t = b.length := by omega
              rw [timesF_next] at hown
              have HO3 := Lib.hid hown
              clear hown
              go_wp2
              go_roundw
              case rel => exact ⟨j + 1, by omega, by go_num, HO3.out, hbl⟩
              case measure => simp [intOf]; omega
        · obtain rfl : j = b.length := by omega
          rw [timesF_row] at hown
          have HO3 := Lib.hid hown
          clear hown
          go_wp2
          go_roundw
          case rel => exact ⟨i + 1, by omega, by go_num, HO3.out, hbl⟩
          case measure => simp [intOf]; omega
    · obtain rfl : i = a.length := by omega
      rw [timesF_all] at hown
      have HO3 := Lib.hid hown
      clear hown
      go_wp2
      go_ret
      exact ⟨_, rfl, HO3.out, hbl⟩

/-- A table and whether there is one. -/
def NewGB (o : Option (List (List Int))) (w : World) (e : Ending) (w' : World) : Prop := ∃ v, e = .returned (.tuple #[v, .bool o.isSome]) ∧ OwnG w' w.heap.size v (o.getD []) ∧ Below w.heap.size w w'
theorem ownG_empty (w : World) : OwnG (w.alloc (.cells #[] 48)) w.heap.size (.slice (some ⟨w.heap.size, 0, none⟩) 0 0) [] := by
  have h := World.ownsRow_made (base := w.heap.size) (e := 48) (size := 1) w #[] 0 (Nat.le_refl _) (by unfold maxLen; omega) rfl
  exact ⟨[], h, RowsOwn.nil _ _ _⟩
theorem below_new {w : World} {o : Obj} : Below w.heap.size w (w.alloc o) := (Below.refl _ _).alloc (Nat.le_refl _) _
theorem prodM_none {a b : List (List Int)} (h : isMat a = false ∨ isMat b = false ∨ ¬ a.length = b.length) : prodM a b = none := by
  unfold prodM
  rw [if_neg]
  intro hc
  rw [Bool.and_eq_true, Bool.and_eq_true, Bool.and_eq_true, decide_eq_true_iff] at hc
  obtain ⟨⟨⟨h1, h2⟩, h3⟩, _⟩ := hc
  rcases h with h | h | h
  · rw [h] at h1; cases h1
  · rw [h] at h2; cases h2
  · exact h h3
theorem prodM_if {a b : List (List Int)} (h1 : isMat a = true) (h2 : isMat b = true) (h3 : a.length = b.length) : prodM a b = if isMat (mulM a b) = true then some (mulM a b) else none := by
  unfold prodM
  rw [h1, h2, decide_eq_true h3, Bool.true_and, Bool.true_and, Bool.true_and]
theorem mulM_length (a b : List (List Int)) : (mulM a b).length = a.length := tabOf_length _ _ _
theorem mulM_row {a b : List (List Int)} {k : Nat} (hk : k < (mulM a b).length) : ((mulM a b).getD k []).length = b.length := by
  rw [mulM_length] at hk
  unfold mulM
  rw [tabOf_row hk]; simp

set_option maxRecDepth 100000 in
set_option maxHeartbeats 1600000 in
theorem spec_multiply (A1 A2 : Option Addr) (c1 c2 : Nat) (a b : List (List Int)) (ha : a.length ≤ 1048576) (hb : b.length ≤ 1048576) (ta : tot a ≤ 1048576) (tb : tot b ≤ 1048576) (w : World) (h1 : GridS w A1 a) (h2 : GridS w A2 b) :
    Calls Tryd.prog 58 #[.slice A1 a.length c1, .slice A2 b.length c2] w (NewGB (prodM a b) w) := by
  have I1 := Lib.hid (fun w' (hb : Below w.heap.size w w') => spec_isMatrix A1 c1 a (by omega) (fun k hk => by have := row_le_tot hk; omega) w' (h1.below hb))
  have I2 := Lib.hid (fun w' (hb : Below w.heap.size w w') => spec_isMatrix A2 c2 b (by omega) (fun k hk => by have := row_le_tot hk; omega) w' (h2.below hb))
  have HE := Lib.hid (ownG_empty w)
  cases ma : isMat a with
  | false =>
    rw [ma] at I1
    rw [prodM_none (Or.inl ma)]
    clear h1 h2 I2
    go_enter Tryd.func58, Tryd.ntmps58
    go_wp2_with fail
    refine (I1.out w (Below.refl _ _)).mono ?_
    rintro e w1 ⟨rfl, rfl⟩
    go_wp2
    go_ret2
    exact ⟨_, rfl, HE.out, below_new⟩
  | true =>
    rw [ma] at I1
    cases mb : isMat b with
    | false =>
      rw [mb] at I2
      rw [prodM_none (Or.inr (Or.inl mb))]
      clear h1 h2
      go_enter Tryd.func58, Tryd.ntmps58
      go_wp2_with fail
      refine (I1.out w (Below.refl _ _)).mono ?_
      rintro e w1 ⟨rfl, rfl⟩
      go_wp2_with fail
      refine (I2.out w1 (Below.refl _ _)).mono ?_
      rintro e w2 ⟨rfl, rfl⟩
      go_wp2
      go_ret2
      exact ⟨_, rfl, HE.out, below_new⟩
    | true =>
      rw [mb] at I2
      by_cases hab : a.length = b.length
      · rw [prodM_if ma mb hab]
        have fa := isMat_facts ma
        have fb := isMat_facts mb
        have HT := Lib.hid (spec_times A1 A2 c1 c2 a b fa fb hab w h1 h2)
        have l1 := fa.le
        have HI3 : Hid (∀ A c w', GridS w' A (mulM a b) → Calls Tryd.prog 40 #[.slice A (mulM a b).length c] w' fun e w2 => e = .returned (.bool (isMat (mulM a b))) ∧ w2 = w') := Lib.hid fun A c w' hg => spec_isMatrix A c (mulM a b) (by rw [mulM_length]; omega) (fun k hk => by rw [mulM_row hk]; omega) w' hg
        have HR1 : Hid (isMat (mulM a b) = true → (if isMat (mulM a b) = true then some (mulM a b) else none) = some (mulM a b)) := Lib.hid fun h => if_pos h
        have HR2 : Hid (isMat (mulM a b) = false → (if isMat (mulM a b) = true then some (mulM a b) else none) = none) := Lib.hid fun h => if_neg (by rw [h]; decide)
        generalize (if isMat (mulM a b) = true then some (mulM a b) else none) = r at *
        rw [← hab] at I2 HT ⊢
        clear h1 h2 fa fb ma mb hab
        generalize mulM a b = p at *
        go_enter Tryd.func58, Tryd.ntmps58
        go_wp2_with fail
        refine (I1.out w (Below.refl _ _)).mono ?_
        rintro e w1 ⟨rfl, rfl⟩
        go_wp2_with fail
        refine (I2.out w1 (Below.refl _ _)).mono ?_
        rintro e w2 ⟨rfl, rfl⟩
        go_wp2_with fail
        refine HT.out.mono ?_
        rintro e w3 ⟨v, rfl, ho3, b3⟩
        obtain ⟨A, c, rfl, hg3⟩ := ho3.gridS
        have HO3 := Lib.hid ho3
        have HC := Lib.hid (HI3.out A c w3 hg3)
        have HE3 := Lib.hid (ownG_empty w3)
        have hs3 := b3.size
        clear ho3 hg3
        go_wp2_with fail
        refine HC.out.mono ?_
        rintro e w4 ⟨rfl, rfl⟩
        cases hp : isMat p with
        | true =>
          have hr := HR1.out hp
          subst hr
          clear HR1 HR2
          go_wp2
          go_ret2
          exact ⟨_, rfl, HO3.out, b3⟩
        | false =>
          have hr := HR2.out hp
          subst hr
          clear HR1 HR2
          go_wp2
          go_ret2
          exact ⟨_, rfl, HE3.out.mono hs3, b3.alloc hs3 _⟩
      · rw [prodM_none (Or.inr (Or.inr hab))]
        have hne : ¬ (a.length : Int) = (b.length : Int) := by omega
        clear h1 h2
        go_enter Tryd.func58, Tryd.ntmps58
        go_wp2_with fail
        refine (I1.out w (Below.refl _ _)).mono ?_
        rintro e w1 ⟨rfl, rfl⟩
        go_wp2_with fail
        refine (I2.out w1 (Below.refl _ _)).mono ?_
        rintro e w2 ⟨rfl, rfl⟩
        go_wp2
        go_ret2
        exact ⟨_, rfl, HE.out, below_new⟩
end Go.Proofs.YtanelokploifhaaDoor
namespace Go.Proofs.YtanelokploifhaaDoor
open Go Go.RowKit

theorem tot_le_of {m : List (List Int)} {n : Nat} (h : ∀ r, r ∈ m → r.length ≤ n) : tot m ≤ m.length * n := by
  induction m with
  | nil => simp [tot]
  | cons r m ih =>
    have h1 := h r (by simp)
    have h2 := ih fun s hs => h s (by simp [hs])
    have e : tot (r :: m) = r.length + tot m := by simp [tot]
    rw [e, List.length_cons, Nat.add_mul, Nat.one_mul]; omega
theorem tot_isMat {m : List (List Int)} (h : MatFacts m) : tot m ≤ 81 := by
  have h1 := tot_le_of (m := m) (n := 9) fun r hr => by
    obtain ⟨i, hi, rfl⟩ := List.getElem_of_mem hr
    have := h.row i hi
    have e : m.getD i [] = m[i] := by simp [List.getD, hi]
    rw [e] at this
    have := h.le
    omega
  have := h.le
  omega

theorem sizeB_facts {m : List (List Int)} (h : MatFacts m) : SizeB m := by
  have := h.le
  have := tot_isMat h
  unfold SizeB; omega
theorem sizeB_nil : SizeB [] := by unfold SizeB; decide
/-- What a function of one table, of two answers at the laws' copies. -/
def At1 (W : World) (f : Nat) (m : List (List Int)) (P : World → Ending → World → Prop) : Prop := ∀ v w', Below W.heap.size W w' → SizeB m → OwnG w' W.heap.size v m → Calls Tryd.prog f #[v] w' (P w')
def At1I (W : World) (f : Nat) (m : List (List Int)) (n : Int) (P : World → Ending → World → Prop) : Prop := ∀ v w', Below W.heap.size W w' → SizeB m → OwnG w' W.heap.size v m → Calls Tryd.prog f #[v, .int .i64 n] w' (P w')
def At2 (W : World) (f : Nat) (a b : List (List Int)) (P : World → Ending → World → Prop) : Prop := ∀ v v' w', Below W.heap.size W w' → SizeB a → SizeB b → OwnG w' W.heap.size v a → OwnG w' W.heap.size v' b → Calls Tryd.prog f #[v, v'] w' (P w')

theorem rows_le {m : List (List Int)} (h : SizeB m) : m.length ≤ 1048576 ∧ tot m ≤ 1048576 ∧ ∀ k, k < m.length → (m.getD k []).length ≤ 1099511627776 := by
  unfold SizeB at h
  exact ⟨by omega, by omega, fun k hk => by have := row_le_tot hk; omega⟩
end Go.Proofs.YtanelokploifhaaDoor
namespace Go.Proofs.YtanelokploifhaaDoor
open Go Go.RowKit

/-- The diagonal's first k ones. -/
def oneF (k : Nat) : Nat → Nat → Int := fun i j => if i = j ∧ i < k then 1 else 0
theorem oneF_zero (n : Nat) : tabOf n n (oneF 0) = tabOf n n fun _ _ => 0 := tabOf_congr fun i j _ _ => by unfold oneF; rw [if_neg (by omega)]
theorem oneF_next (n k : Nat) (hk : k < n) : (tabOf n n (oneF k)).set k (((tabOf n n (oneF k)).getD k []).set k 1) = tabOf n n (oneF (k + 1)) := by
  rw [tabOf_set _ _ hk]
  refine tabOf_congr fun i j _ _ => ?_
  unfold oneF
  by_cases e : i = k ∧ j = k
  · obtain ⟨rfl, rfl⟩ := e
    rw [if_pos ⟨rfl, rfl⟩, if_pos ⟨rfl, by omega⟩]
  · rw [if_neg e]
    by_cases h : i = j ∧ i < k
    · rw [if_pos h, if_pos (by omega)]
    · rw [if_neg h, if_neg (by omega)]
theorem oneF_all (n : Nat) : tabOf n n (oneF n) = oneM n := tabOf_congr fun i j hi _ => by
  unfold oneF
  by_cases h : i = j
  · rw [if_pos ⟨h, hi⟩, if_pos h]
  · rw [if_neg (fun e => h e.1), if_neg h]

set_option maxRecDepth 100000 in
set_option maxHeartbeats 1600000 in
theorem spec_one (n : Nat) (hn : n ≤ 1048576) (w : World) :
    Calls Tryd.prog 57 #[.int .i64 n] w (NewG (oneM n) w) := by
  have HZ := Lib.hid (spec_zero n n hn hn w)
  go_enter Tryd.func57, Tryd.ntmps57
  go_wp2_with fail
  refine HZ.out.mono ?_
  rintro e w1 ⟨v, rfl, hown, b1⟩
  obtain ⟨A, c, rfl, -⟩ := hown.gridS
  rw [← oneF_zero] at hown
  rw [tabOf_length] at hown ⊢
  have HO := Lib.hid hown
  have HB1 := Lib.hid b1
  clear hown b1
  go_wp2
  go_loopw [4] (fun i wr => ∃ k : Nat, k ≤ n ∧ i = .int .i64 k ∧ OwnG wr w.heap.size (.slice A n c) (tabOf n n (oneF k)) ∧ Below w.heap.size w wr) (fun i _ => n - (intOf i).toNat)
  case atStart => exact ⟨0, Nat.zero_le _, rfl, HO.out, HB1.out⟩
  case round =>
    obtain ⟨k, hk, rfl, hown, hbl⟩ := hrel
    by_cases hlt : k < n
    · have hrl : ((tabOf n n (oneF k)).getD k []).length = n := by rw [tabOf_row hlt]; simp
      obtain ⟨g, cap, gi, ci, hv, k1, k2, kf, kb, kl, hset⟩ := hown.at (i := k) (j := k) (by rw [tabOf_length]; exact hlt) (by rw [hrl]; exact hlt)
      rw [tabOf_length] at hv
      simp only [Value.slice.injEq, true_and] at hv
      obtain ⟨rfl, rfl⟩ := hv
      rw [hrl] at k1
      have hs1 := hset 1
      rw [oneF_next n k hlt] at hs1
      have HS := Lib.hid hs1
      have HB4 := Lib.hid hbl
      clear hset hs1 hown hbl
      generalize cellOf (tabOf n n (oneF k)) k k = T at *
      go_wp2
      go_roundw
      case rel => exact ⟨k + 1, by omega, by go_num, HS.out, HB4.out.setCell kb _⟩
      case measure => simp [intOf]; omega
    · obtain rfl : k = n := by omega
      rw [oneF_all] at hown
      have HO3 := Lib.hid hown
      clear hown
      go_wp2
      go_ret
      exact ⟨_, rfl, HO3.out, hbl⟩

/-- PowerMatrix. -/
def powS (m : List (List Int)) (n : Int) : Option (List (List Int)) := if isMat m = true ∧ 0 ≤ n ∧ n ≤ 30 then powM m n.toNat else none

set_option maxRecDepth 100000 in
set_option maxHeartbeats 1600000 in
theorem spec_power_ok (A1 : Option Addr) (c1 : Nat) (m : List (List Int)) (hm : isMat m = true) (n : Nat) (hn : n ≤ 30) (w : World) (h1 : GridS w A1 m) :
    Calls Tryd.prog 22 #[.slice A1 m.length c1, .int .i64 (n : Int)] w (NewGB (powM m n) w) := by
  have fm := isMat_facts hm
  have lm := fm.le
  have tm := tot_isMat fm
  have I1 := Lib.hid (spec_isMatrix A1 c1 m (by omega) (fun k hk => by have := row_le_tot hk; omega) w h1)
  rw [hm] at I1
  have IN := Lib.hid (m_in n 0 30)
  have e0 : decide ((0 : Int) ≤ (n : Int)) = true := decide_eq_true (by omega)
  have e1 : decide ((n : Int) ≤ 30) = true := decide_eq_true (by omega)
  rw [e0, e1] at IN
  have HO1 := Lib.hid (spec_one m.length (by omega) w)
  have H1 := Lib.hid h1
  have HM := Lib.hid hm
  have HMUL : Hid (∀ A c p w', isMat p = true → GridS w' A p → Below w.heap.size w w' → Calls Tryd.prog 58 #[.slice A p.length c, .slice A1 m.length c1] w' (NewGB (prodM p m) w')) := Lib.hid fun A c p w' hp hg hb => by
    have fp := isMat_facts hp
    have := tot_isMat fp
    have := fp.le
    exact spec_multiply A A1 c c1 p m (by omega) (by omega) (by omega) (by omega) w' hg (h1.below hb)
  clear h1 fm hm e0 e1
  go_enter Tryd.func22, Tryd.ntmps22
  go_wp2_with fail
  refine I1.out.mono ?_
  rintro e w1 ⟨rfl, rfl⟩
  go_wp2_with fail
  refine (IN.out _).mono ?_
  rintro e w2 ⟨rfl, rfl⟩
  go_wp2_with fail
  refine HO1.out.mono ?_
  rintro e w3 ⟨v, rfl, hown, b3⟩
  have HO := Lib.hid hown
  have HB := Lib.hid b3
  clear hown b3
  go_wp2
  go_loopw [6, 7] (fun v i wr => ∃ (k : Nat) (p : List (List Int)), k ≤ n ∧ i = .int .i64 k ∧ Hid (powM m k = some p) ∧ OwnG wr w2.heap.size v p ∧ Below w2.heap.size w2 wr) (fun _ i _ => n - (intOf i).toNat)
  case atStart => exact ⟨0, _, Nat.zero_le _, rfl, Lib.hid rfl, HO.out, HB.out⟩
  case round =>
    obtain ⟨k, p, hk, rfl, hp, hown, hbl⟩ := hrel
    obtain ⟨A, c, rfl, hg⟩ := hown.gridS
    by_cases hlt : k < n
    · have HC := Lib.hid (HMUL.out A c p wr (powM_isMat HM.out k hp.out) hg hbl)
      have HP1 : Hid (powM m (k + 1) = prodM p m) := Lib.hid (by rw [powM, hp.out]; rfl)
      have HST : Hid (powM m (k + 1) = none → powM m n = none) := Lib.hid fun h => powM_stuck h n hlt
      have HB2 := Lib.hid hbl
      have hs2 := hbl.size
      clear hown hbl hg hp
      generalize prodM p m = r at *
      go_wp2_with fail
      refine HC.out.mono ?_
      rintro e w4 ⟨v4, rfl, ho4, b4⟩
      have HB4 := Lib.hid (HB2.out.trans (b4.mono HB2.out.size))
      have hs4 := HB4.out.size
      have HE := Lib.hid ((ownG_empty w4).mono hs4)
      have HO4 := Lib.hid (ho4.mono hs2)
      clear ho4 b4
      cases r with
      | none =>
        have hn2 := HST.out HP1.out
        have HN2 := Lib.hid hn2
        clear hn2
        go_wp2
        go_ret2
        rw [HN2.out]
        exact ⟨_, rfl, HE.out, HB4.out.alloc hs4 _⟩
      | some q =>
        go_wp2
        go_roundw
        case rel => exact ⟨k + 1, q, by omega, by go_num, Lib.hid HP1.out, HO4.out, HB4.out⟩
        case measure => simp [intOf]; omega
    · obtain rfl : k = n := by omega
      have HO2 := Lib.hid hown
      clear hown hg
      go_wp2
      go_ret2
      rw [hp.out]
      exact ⟨_, rfl, HO2.out, hbl⟩

set_option maxRecDepth 100000 in
set_option maxHeartbeats 800000 in
theorem spec_power (A1 : Option Addr) (c1 : Nat) (m : List (List Int)) (hl : m.length ≤ 1048576) (ht : tot m ≤ 1048576) (n : Int) (w : World) (h1 : GridS w A1 m) :
    Calls Tryd.prog 22 #[.slice A1 m.length c1, .int .i64 n] w (NewGB (powS m n) w) := by
  by_cases hok : isMat m = true ∧ 0 ≤ n ∧ n ≤ 30
  · unfold powS
    rw [if_pos hok]
    obtain ⟨hm, h0, h30⟩ := hok
    obtain ⟨k, rfl⟩ : ∃ k : Nat, n = (k : Int) := ⟨n.toNat, by omega⟩
    rw [Int.toNat_natCast]
    exact spec_power_ok A1 c1 m hm k (by omega) w h1
  · have e : powS m n = none := if_neg hok
    rw [e]
    have I1 := Lib.hid (spec_isMatrix A1 c1 m (by omega) (fun k hk => by have := row_le_tot hk; omega) w h1)
    have IN := Lib.hid (m_in n 0 30)
    have HE := Lib.hid (ownG_empty w)
    clear h1 e
    cases hm : isMat m with
    | false =>
      rw [hm] at I1
      go_enter Tryd.func22, Tryd.ntmps22
      go_wp2_with fail
      refine I1.out.mono ?_
      rintro e w1 ⟨rfl, rfl⟩
      go_wp2
      go_ret2
      exact ⟨_, rfl, HE.out, below_new⟩
    | true =>
      rw [hm] at I1
      have hx : (decide ((0 : Int) ≤ n) && decide (n ≤ 30)) = false := by
        cases hx : (decide ((0 : Int) ≤ n) && decide (n ≤ 30)) with
        | false => rfl
        | true =>
          rw [Bool.and_eq_true, decide_eq_true_iff, decide_eq_true_iff] at hx
          exact absurd ⟨hm, hx⟩ hok
      rw [hx] at IN
      clear hx hok
      go_enter Tryd.func22, Tryd.ntmps22
      go_wp2_with fail
      refine I1.out.mono ?_
      rintro e w1 ⟨rfl, rfl⟩
      go_wp2_with fail
      refine (IN.out _).mono ?_
      rintro e w2 ⟨rfl, rfl⟩
      go_wp2
      go_ret2
      exact ⟨_, rfl, HE.out, below_new⟩

/-! ### Turning around -/

/-- A table that is being filled: all columns ahead of i, and j numbers of column i. -/
def turnF (m : List (List Int)) (i j : Nat) : Nat → Nat → Int := fun i' j' => if j' < i ∨ (j' = i ∧ i' < j) then cellOf m j' i' else 0
theorem turnF_zero (m : List (List Int)) (n : Nat) : tabOf n n (turnF m 0 0) = tabOf n n fun _ _ => 0 := tabOf_congr fun i j _ _ => by unfold turnF; rw [if_neg (by omega)]
theorem turnF_next (m : List (List Int)) (n i j : Nat) (hj : j < n) : (tabOf n n (turnF m i j)).set j (((tabOf n n (turnF m i j)).getD j []).set i (cellOf m i j)) = tabOf n n (turnF m i (j + 1)) := by
  rw [tabOf_set _ _ hj]
  refine tabOf_congr fun i' j' _ _ => ?_
  unfold turnF
  by_cases e : i' = j ∧ j' = i
  · obtain ⟨rfl, rfl⟩ := e
    rw [if_pos ⟨rfl, rfl⟩, if_pos (by omega)]
  · rw [if_neg e]
    by_cases h : j' < i ∨ (j' = i ∧ i' < j)
    · rw [if_pos h, if_pos (by omega)]
    · rw [if_neg h, if_neg (by omega)]
theorem turnF_row (m : List (List Int)) (n i : Nat) : tabOf n n (turnF m i n) = tabOf n n (turnF m (i + 1) 0) := tabOf_congr fun i' j' hi _ => by
  unfold turnF
  by_cases h : j' < i ∨ (j' = i ∧ i' < n)
  · rw [if_pos h, if_pos (by omega)]
  · rw [if_neg h, if_neg (by omega)]
theorem turnF_all (m : List (List Int)) : tabOf m.length m.length (turnF m m.length 0) = turnM m := tabOf_congr fun i' j' _ hj => by
  unfold turnF; rw [if_pos (Or.inl hj)]

set_option maxRecDepth 100000 in
set_option maxHeartbeats 3200000 in
theorem spec_turn (A1 : Option Addr) (c1 : Nat) (m : List (List Int)) (hm : MatFacts m) (w : World) (h1 : GridS w A1 m) :
    Calls Tryd.prog 56 #[.slice A1 m.length c1] w (NewG (turnM m) w) := by
  have H1 := Lib.hid h1
  have HA := Lib.hid hm
  have HZ := Lib.hid (spec_zero m.length m.length (by have := hm.le; omega) (by have := hm.le; omega) w)
  have l1 := hm.le
  clear h1 hm
  go_enter Tryd.func56, Tryd.ntmps56
  go_wp2_with fail
  refine HZ.out.mono ?_
  rintro e w1 ⟨v, rfl, hown, b1⟩
  obtain ⟨A, c, rfl, -⟩ := hown.gridS
  rw [← turnF_zero m] at hown
  rw [tabOf_length] at hown ⊢
  have HO := Lib.hid hown
  have HB1 := Lib.hid b1
  clear hown b1
  go_wp2
  go_loopw [4] (fun i wr => ∃ k : Nat, k ≤ m.length ∧ i = .int .i64 k ∧ OwnG wr w.heap.size (.slice A m.length c) (tabOf m.length m.length (turnF m k 0)) ∧ Below w.heap.size w wr) (fun i _ => m.length - (intOf i).toNat)
  case atStart => exact ⟨0, Nat.zero_le _, rfl, HO.out, HB1.out⟩
  case round =>
    obtain ⟨i, hi, rfl, hown, hbl⟩ := hrel
    by_cases hil : i < m.length
    · have HO1 := Lib.hid hown
      have HB2 := Lib.hid hbl
      clear hown hbl
      go_wp2
      go_loopw [5] (fun jv w2 => ∃ j : Nat, j ≤ m.length ∧ jv = .int .i64 j ∧ OwnG w2 w.heap.size (.slice A m.length c) (tabOf m.length m.length (turnF m i j)) ∧ Below w.heap.size w w2) (fun j _ => m.length - (intOf j).toNat)
      case atStart => exact ⟨0, Nat.zero_le _, rfl, HO1.out, HB2.out⟩
      case round =>
        obtain ⟨j, hj, rfl, hown, hbl⟩ := hrel
        by_cases hjl : j < m.length
        · have hrl : ((tabOf m.length m.length (turnF m i j)).getD j []).length = m.length := by rw [tabOf_row hjl]; simp
          obtain ⟨g, cap, gi, ci, hv, k1, k2, kf, kb, kl, hset⟩ := hown.at (i := j) (j := i) (by rw [tabOf_length]; exact hjl) (by rw [hrl]; exact hil)
          rw [tabOf_length] at hv
          simp only [Value.slice.injEq, true_and] at hv
          obtain ⟨rfl, rfl⟩ := hv
          rw [hrl] at k1
          obtain ⟨p1, p2, p3, p4, p5, rfl, ka1, ka2, _, _⟩ := (H1.out.below hbl).num hil (j := j) (by rw [HA.out.row i hil]; exact hjl)
          rw [HA.out.row i hil] at ka1
          have hs1 := hset (cellOf m i j)
          rw [turnF_next m _ i j hjl] at hs1
          have HS := Lib.hid hs1
          have HB4 := Lib.hid hbl
          clear hset hs1 hown hbl
          generalize cellOf m i j = x at *
          generalize cellOf (tabOf m.length m.length (turnF m i j)) j i = T at *
          go_wp2
          go_region
          go_wp2
          go_roundw
          case rel => exact ⟨j + 1, by omega, by go_num, HS.out.drew, (HB4.out.setCell kb _).drew⟩
          case measure => simp [intOf]; omega
        · obtain rfl : j = m.length := by omega
          rw [turnF_row] at hown
          have HO3 := Lib.hid hown
          clear hown
          go_wp2
          go_roundw
          case rel => exact ⟨i + 1, by omega, by go_num, HO3.out, hbl⟩
          case measure => simp [intOf]; omega
    · obtain rfl : i = m.length := by omega
      rw [turnF_all] at hown
      have HO3 := Lib.hid hown
      clear hown
      go_wp2
      go_ret
      exact ⟨_, rfl, HO3.out, hbl⟩

/-- TurnMatrix. -/
def turnS (m : List (List Int)) : List (List Int) := if isMat m = true then turnM m else []
set_option maxRecDepth 100000 in
set_option maxHeartbeats 800000 in
theorem spec_turnMatrix (A1 : Option Addr) (c1 : Nat) (m : List (List Int)) (hl : m.length ≤ 1048576) (ht : tot m ≤ 1048576) (w : World) (h1 : GridS w A1 m) :
    Calls Tryd.prog 21 #[.slice A1 m.length c1] w (NewG (turnS m) w) := by
  have I1 := Lib.hid (spec_isMatrix A1 c1 m (by omega) (fun k hk => by have := row_le_tot hk; omega) w h1)
  unfold turnS
  cases hm : isMat m with
  | false =>
    have HE := Lib.hid (ownG_empty w)
    rw [if_neg (by decide)]
    rw [hm] at I1
    clear h1
    go_enter Tryd.func21, Tryd.ntmps21
    go_wp2_with fail
    refine I1.out.mono ?_
    rintro e w1 ⟨rfl, rfl⟩
    go_wp2
    go_ret
    exact ⟨_, rfl, HE.out, below_new⟩
  | true =>
    have HT := Lib.hid (spec_turn A1 c1 m (isMat_facts hm) w h1)
    rw [if_pos rfl]
    rw [hm] at I1
    clear h1 hm
    go_enter Tryd.func21, Tryd.ntmps21
    go_wp2_with fail
    refine I1.out.mono ?_
    rintro e w1 ⟨rfl, rfl⟩
    go_wp2_with fail
    refine HT.out.mono ?_
    rintro e w2 ⟨v, rfl, ho, hb⟩
    have HO := Lib.hid ho
    clear ho
    go_wp2
    go_ret
    exact ⟨_, rfl, HO.out, hb⟩
end Go.Proofs.YtanelokploifhaaDoor
namespace Go.Proofs.YtanelokploifhaaDoor
open Go Go.RowKit

theorem small_facts {m : List (List Int)} (h : smallM m = true) : isMat m = true ∧ m.length ≤ 4 ∧ ∀ i j, i < m.length → j < m.length → 0 ≤ cellOf m i j ∧ cellOf m i j ≤ 9 := by
  unfold smallM at h
  rw [Bool.and_eq_true, Bool.and_eq_true, decide_eq_true_iff, List.all_eq_true] at h
  obtain ⟨⟨h1, h2⟩, h3⟩ := h
  have hf := isMat_facts h1
  refine ⟨h1, h2, fun i j hi hj => ⟨(hf.cell i j hi hj).1, ?_⟩⟩
  have h4 := h3 m[i] (List.getElem_mem hi)
  rw [List.all_eq_true] at h4
  have hr := hf.row i hi
  have e : m.getD i [] = m[i] := by simp [List.getD, hi]
  rw [e] at hr
  have h5 := h4 (m[i])[j] (List.getElem_mem (by omega))
  rw [decide_eq_true_iff] at h5
  unfold cellOf
  rw [e, List.getD_eq_getElem?_getD, List.getElem?_eq_getElem (by omega)]
  exact h5
/-- The sums of minors, for each number of rows: none, one, all. -/
theorem minors_zero {m : List (List Int)} (h : m.length ≤ 4) : minorsN m 0 = 1 := by
  unfold minorsN
  have hn : m.length = 0 ∨ m.length = 1 ∨ m.length = 2 ∨ m.length = 3 ∨ m.length = 4 := by omega
  rcases hn with e | e | e | e | e <;> rw [e] <;> simp [sumTo, bitsL, List.range, List.range.loop, List.filter, Nat.testBit, minorF, detF]
theorem minors_one {m : List (List Int)} (h : m.length ≤ 4) : minorsN m 1 = sumTo m.length fun k => cellOf m k k := by
  unfold minorsN
  have hn : m.length = 0 ∨ m.length = 1 ∨ m.length = 2 ∨ m.length = 3 ∨ m.length = 4 := by omega
  rcases hn with e | e | e | e | e <;> rw [e] <;> simp [sumTo, bitsL, List.range, List.range.loop, List.filter, Nat.testBit, minorF, detF, sgn]
theorem minors_all {m : List (List Int)} (h : m.length ≤ 4) : minorsN m m.length = detT m := by
  unfold minorsN detT
  have hn : m.length = 0 ∨ m.length = 1 ∨ m.length = 2 ∨ m.length = 3 ∨ m.length = 4 := by omega
  rcases hn with e | e | e | e | e <;> rw [e] <;> simp [sumTo, bitsL, List.range, List.range.loop, List.filter, Nat.testBit, minorF, detF, sgn, lessF]
theorem bitsL_mem {n s i : Nat} (h : i ∈ bitsL n s) : i < n := by
  unfold bitsL at h
  exact List.mem_range.1 (List.mem_filter.1 h).1
theorem bitsL_len (n s : Nat) : (bitsL n s).length ≤ n := by
  unfold bitsL
  exact Nat.le_trans (List.length_filter_le _ _) (by simp)
theorem bitsL_at {n s a : Nat} (h : a < (bitsL n s).length) : (bitsL n s).getD a 0 < n := by
  rw [List.getD_eq_getElem?_getD, List.getElem?_eq_getElem h]
  exact bitsL_mem (List.getElem_mem h)
theorem minors_turn {m : List (List Int)} (h : m.length ≤ 4) (k : Nat) : minorsN (turnM m) k = minorsN m k := by
  have hl : (turnM m).length = m.length := tabOf_length _ _ _
  unfold minorsN
  rw [hl]
  refine sumTo_congr _ fun s _ => ?_
  split
  · unfold minorF
    have hb := bitsL_len m.length s
    rw [← detF_turn (n := (bitsL m.length s).length) (by omega)]
    refine detF_congr fun a b ha hb => ?_
    unfold turnM
    rw [tabOf_cell (bitsL_at hb) (bitsL_at ha)]
  · rfl
theorem turn_small {m : List (List Int)} (h : smallM m = true) : smallM (turnM m) = true := by
  obtain ⟨h1, h2, h3⟩ := small_facts h
  have hf := isMat_facts h1
  have hl : (turnM m).length = m.length := tabOf_length _ _ _
  have hm : isMat (turnM m) = true := isMat_iff.2 ⟨by rw [hl]; exact ⟨hf.pos, hf.le⟩, fun i hi => by
    rw [hl] at hi
    refine ⟨?_, fun j hj => ?_⟩
    · unfold turnM; rw [tabOf_row hi, tabOf_length]; simp
    · rw [hl] at hj
      unfold turnM
      rw [tabOf_cell hi hj]
      exact hf.cell j i hj hi⟩
  unfold smallM
  rw [hm, hl, decide_eq_true h2, Bool.true_and, Bool.true_and, List.all_eq_true]
  intro r hr
  unfold turnM tabOf at hr
  obtain ⟨i, hi, rfl⟩ := List.mem_map.1 hr
  rw [List.all_eq_true]
  intro x hx
  obtain ⟨j, hj, rfl⟩ := List.mem_map.1 hx
  rw [decide_eq_true_iff]
  exact (h3 j i (List.mem_range.1 hj) (List.mem_range.1 hi)).2
theorem char_turn {m : List (List Int)} (h : smallM m = true) : charM (turnM m) = charM m := by
  obtain ⟨_, h2, _⟩ := small_facts h
  have hl : (turnM m).length = m.length := tabOf_length _ _ _
  unfold charM
  rw [if_pos h, if_pos (turn_small h)]
  unfold charL
  rw [hl]
  refine List.map_congr_left fun k _ => ?_
  rw [minors_turn h2]
theorem charL_len (m : List (List Int)) : (charL m).length = m.length + 1 := by simp [charL]
theorem charL_at (m : List (List Int)) {k : Nat} (hk : k ≤ m.length) : (charL m).getD k 0 = sgn (m.length - k) * minorsN m (m.length - k) := by
  unfold charL
  rw [List.getD_eq_getElem?_getD, List.getElem?_map, List.getElem?_range (by omega)]
  rfl
theorem minors_abs {m : List (List Int)} (h : smallM m = true) (k : Nat) : (minorsN m k).natAbs ≤ 1000000 := by
  obtain ⟨h1, h2, h3⟩ := small_facts h
  have hab : ∀ i j, i < m.length → j < m.length → (cellOf m i j).natAbs ≤ 9 := fun i j hi hj => by have := h3 i j hi hj; omega
  by_cases hk : k = m.length
  · subst hk
    rw [minors_all h2]
    have hd := detF_abs (B := 9) (n := m.length) (f := cellOf m) hab
    have hn : m.length = 0 ∨ m.length = 1 ∨ m.length = 2 ∨ m.length = 3 ∨ m.length = 4 := by omega
    unfold detT
    rcases hn with e | e | e | e | e <;> rw [e] at hd ⊢ <;> simp [detB] at hd <;> omega
  · have hs : (minorsN m k).natAbs ≤ 2 ^ m.length * 4374 := by
      unfold minorsN
      refine sumTo_abs fun s _ => ?_
      split
      · next he =>
        have hb := bitsL_len m.length s
        have hd := detF_abs (B := 9) (n := (bitsL m.length s).length) (f := fun a b => cellOf m ((bitsL m.length s).getD a 0) ((bitsL m.length s).getD b 0)) fun a b ha hb => hab _ _ (bitsL_at ha) (bitsL_at hb)
        unfold minorF
        rw [he] at hd ⊢
        have hk3 : k = 0 ∨ k = 1 ∨ k = 2 ∨ k = 3 := by omega
        rcases hk3 with e | e | e | e <;> rw [e] at hd ⊢ <;> simp only [detB] at hd <;> omega
      · decide
    have hn : m.length = 0 ∨ m.length = 1 ∨ m.length = 2 ∨ m.length = 3 ∨ m.length = 4 := by omega
    rcases hn with e | e | e | e | e <;> rw [e] at hs <;> omega
theorem char_fits {m : List (List Int)} (h : smallM m = true) : fitsB (charL m) 5 = true := by
  obtain ⟨_, h2, _⟩ := small_facts h
  unfold fitsB
  rw [charL_len, decide_eq_true (by omega), Bool.and_true, List.all_eq_true]
  intro x hx
  unfold charL at hx
  obtain ⟨k, _, rfl⟩ := List.mem_map.1 hx
  have := minors_abs h (m.length - k)
  rw [decide_eq_true_iff]
  rcases sgn_two (m.length - k) with e | e <;> rw [e] <;> omega
theorem hor_zero (p : List Int) : ∀ n, 0 < n → hor p 0 n = p.getD (p.length - n) 0
  | n + 1, _ => by rw [hor, Int.mul_zero, Int.zero_add, show p.length - 1 - n = p.length - (n + 1) by omega]
/-- The value at 0. -/
theorem char_at_zero {m : List (List Int)} (h : smallM m = true) : atP (charL m) 0 = some (sgn m.length * detT m) := by
  obtain ⟨_, h2, _⟩ := small_facts h
  unfold atP
  rw [char_fits h, Bool.true_and, if_pos (by decide), hor_zero _ _ (by rw [charL_len]; omega), Nat.sub_self, charL_at m (Nat.zero_le _), Nat.sub_zero, minors_all h2]

/-! ### The value of a product -/
theorem hor_two (p : List Int) (x : Int) : ∀ n, n ≤ p.length → hor p x p.length = hor p x n * x ^ (p.length - n) + sumTo (p.length - n) fun k => p.getD k 0 * x ^ k := by
  intro n hn
  obtain ⟨d, hd⟩ : ∃ d, p.length = n + d := ⟨p.length - n, by omega⟩
  rw [show p.length - n = d by omega]
  clear hn
  induction d generalizing n with
  | zero => rw [hd]; simp [sumTo]
  | succ d ih =>
    have h1 := ih (n + 1) (by omega)
    rw [h1, hor, sumTo, show p.length - 1 - n = d by omega, Int.pow_succ]
    grind
theorem hor_sum (p : List Int) (x : Int) : hor p x p.length = sumTo p.length fun k => p.getD k 0 * x ^ k := by
  have h := hor_two p x 0 (Nat.zero_le _)
  rw [hor, Int.zero_mul, Int.zero_add, Nat.sub_zero] at h
  exact h
theorem cutLen_zero (p : List Int) : ∀ {n k : Nat}, cutLen p n ≤ k → k < n → p.getD k 0 = 0
  | n + 1, k, h, hk => by
    rw [cutLen] at h
    split at h
    · next hz =>
      by_cases e : k = n
      · subst e; exact hz
      · exact cutLen_zero p h (by omega)
    · omega
theorem sumTo_drop {f : Nat → Int} {n : Nat} : ∀ {d : Nat}, (∀ k, n ≤ k → k < n + d → f k = 0) → sumTo (n + d) f = sumTo n f
  | 0, _ => rfl
  | d + 1, h => by
    rw [← Nat.add_assoc, sumTo, h (n + d) (by omega) (by omega), sumTo_drop (d := d) fun k h1 h2 => h k h1 (by omega)]
    omega
theorem cut_value (p : List Int) (x : Int) : (sumTo (cutL p).length fun k => (cutL p).getD k 0 * x ^ k) = sumTo p.length fun k => p.getD k 0 * x ^ k := by
  have hle := cutLen_le p p.length
  have hl : (cutL p).length = cutLen p p.length := by unfold cutL; rw [List.length_take]; omega
  rw [hl]
  obtain ⟨d, hd⟩ : ∃ d, p.length = cutLen p p.length + d := ⟨p.length - cutLen p p.length, by omega⟩
  have h1 : sumTo (cutLen p p.length) (fun k => (cutL p).getD k 0 * x ^ k) = sumTo (cutLen p p.length) fun k => p.getD k 0 * x ^ k := sumTo_congr _ fun k hk => by
    have : (cutL p).getD k 0 = p.getD k 0 := by
      unfold cutL
      simp [List.getD_eq_getElem?_getD, hk]
    rw [this]
  rw [h1]
  have h2 := sumTo_drop (f := fun k => p.getD k 0 * x ^ k) (n := cutLen p p.length) (d := d) fun k h3 h4 => by
    rw [cutLen_zero p h3 (by omega), Int.zero_mul]
  rw [← h2, ← hd]
theorem conv_value (a b : List Int) (ha : a.length ≤ 4) (hb : b.length ≤ 2) (ha0 : a ≠ []) (hb0 : b ≠ []) (x : Int) : (sumTo (convL a b).length fun k => (convL a b).getD k 0 * x ^ k) = (sumTo a.length fun k => a.getD k 0 * x ^ k) * sumTo b.length fun k => b.getD k 0 * x ^ k := by
  match b, hb0, hb with
  | [b0], _, _ =>
    match a, ha0, ha with
    | [a0], _, _ => simp [convL, termC, sumTo, List.range, List.range.loop]
    | [a0, a1], _, _ => simp [convL, termC, sumTo, List.range, List.range.loop]; grind
    | [a0, a1, a2], _, _ => simp [convL, termC, sumTo, List.range, List.range.loop]; grind
    | [a0, a1, a2, a3], _, _ => simp [convL, termC, sumTo, List.range, List.range.loop]; grind
  | [b0, b1], _, _ =>
    match a, ha0, ha with
    | [a0], _, _ => simp [convL, termC, sumTo, List.range, List.range.loop]; grind
    | [a0, a1], _, _ => simp [convL, termC, sumTo, List.range, List.range.loop]; grind
    | [a0, a1, a2], _, _ => simp [convL, termC, sumTo, List.range, List.range.loop]; grind
    | [a0, a1, a2, a3], _, _ => simp [convL, termC, sumTo, List.range, List.range.loop]; grind
theorem prod_value {a b : List Int} {x : Int} (ha : a.length ≤ 4) (hb : b.length ≤ 2) (hp : mulP a b ≠ []) : hor a x a.length * hor b x b.length = hor (mulP a b) x (mulP a b).length := by
  unfold mulP at hp ⊢
  split at hp
  · next h =>
    rw [if_pos h]
    rw [Bool.and_eq_true, decide_eq_true_iff] at h
    rw [hor_sum, hor_sum, hor_sum, cut_value, conv_value a b ha hb h.2.1 h.2.2]
  · exact absurd rfl hp
end Go.Proofs.YtanelokploifhaaDoor
