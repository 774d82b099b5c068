/-
  PLAIN FACTS ON SLICES OF SLICES OF NUMBERS IN MEMORY (no program in this text): what it means that a slice holds a table; how many numbers there are; memory in which only some blocks have turned.
-/
import Derived.Test.YtcoiodfggaanbaaGridNum
namespace Go.Proofs.Ytcoiodfggaanbaa
open Go Go.RowKit

/-- From ⟨b, off⟩ on the cells hold the numbers xs. -/
def IntsAt (w : World) (b off : Nat) (xs : List Int) : Prop := ∀ k, k < xs.length → w.cell? ⟨b, off + k, none⟩ = some (.int .i64 (xs.getD k 0))
theorem IntsAt.below {B b off : Nat} {w w' : World} {xs : List Int} (h : IntsAt w b off xs) (hb : Below B w w') (hlt : b < B) : IntsAt w' b off xs :=
  fun k hk => (hb.cell (p := ⟨b, off + k, none⟩) hlt).trans (h k hk)
theorem IntsAt.of_owns {w : World} {base e g n cap : Nat} {xs : List Int} (h : w.ownsRow base e 1 (.slice (some ⟨g, 0, none⟩) n cap) n (xs.map (Value.int .i64))) (hn : n = xs.length) : IntsAt w g 0 xs := by
  intro k hk
  rw [Nat.zero_add, h.cellAt k (by omega)]
  simp [List.getD, List.getElem?_eq_getElem hk]
/-- The slice A holds the numbers xs. -/
def RowS (w : World) (A : Option Addr) (xs : List Int) : Prop := 0 < xs.length → ∃ b off, A = some ⟨b, off, none⟩ ∧ IntsAt w b off xs ∧ b < w.heap.size
theorem RowS.below {w w' : World} {A : Option Addr} {xs : List Int} (h : RowS w A xs) (hb : Below w.heap.size w w') : RowS w' A xs := by
  intro hp
  obtain ⟨b, off, hA, hs, hg⟩ := h hp
  exact ⟨b, off, hA, hs.below hb hg, Nat.lt_of_lt_of_le hg hb.size⟩
/-- From ⟨b, off⟩ on the cells hold slices, each of a row of m. -/
def GridAt (w : World) (b off : Nat) (m : List (List Int)) : Prop := ∀ k, k < m.length → ∃ A c, w.cell? ⟨b, off + k, none⟩ = some (.slice A (m.getD k []).length c) ∧ RowS w A (m.getD k [])
theorem GridAt.below {b off : Nat} {w w' : World} {m : List (List Int)} (h : GridAt w b off m) (hb : Below w.heap.size w w') (hlt : b < w.heap.size) : GridAt w' b off m := by
  intro k hk
  obtain ⟨A, c, hc, hr⟩ := h k hk
  exact ⟨A, c, (hb.cell (p := ⟨b, off + k, none⟩) hlt).trans hc, hr.below hb⟩
/-- The slice A holds the table m. -/
def GridS (w : World) (A : Option Addr) (m : List (List Int)) : Prop := 0 < m.length → ∃ b off, A = some ⟨b, off, none⟩ ∧ GridAt w b off m ∧ b < w.heap.size
theorem GridS.below {w w' : World} {A : Option Addr} {m : List (List Int)} (h : GridS w A m) (hb : Below w.heap.size w w') : GridS w' A m := by
  intro hp
  obtain ⟨b, off, hA, hs, hg⟩ := h hp
  exact ⟨b, off, hA, hs.below hb hg, Nat.lt_of_lt_of_le hg hb.size⟩
theorem GridS.nil (w : World) (A : Option Addr) : GridS w A [] := fun h => by simp at h
/-- Row k of a table in memory. -/
theorem GridS.row {w : World} {A : Option Addr} {m : List (List Int)} (h : GridS w A m) {k : Nat} (hk : k < m.length) :
    ∃ b off A' c, A = some ⟨b, off, none⟩ ∧ w.cell? ⟨b, off + k, none⟩ = some (.slice A' (m.getD k []).length c) ∧ RowS w A' (m.getD k []) ∧ b < w.heap.size := by
  obtain ⟨b, off, hA, hs, hg⟩ := h (by omega)
  obtain ⟨A', c, hc, hr⟩ := hs k hk
  exact ⟨b, off, A', c, hA, hc, hr, hg⟩

/-- How many numbers a table has. -/
def tot (m : List (List Int)) : Nat := (m.map List.length).sum
theorem rows_take_next (m : List (List Int)) (k : Nat) (h : k < m.length) : m.take (k + 1) = m.take k ++ [m.getD k []] := by
  rw [List.take_succ_eq_append_getElem h]
  simp [List.getD, List.getElem?_eq_getElem h]
theorem tot_next (m : List (List Int)) (k : Nat) (h : k < m.length) : tot (m.take (k + 1)) = tot (m.take k) + (m.getD k []).length := by
  rw [rows_take_next m k h]; simp [tot]
theorem tot_take_le (m : List (List Int)) (k : Nat) : tot (m.take k) ≤ tot m := by
  have h2 : tot (m.take k ++ m.drop k) = tot (m.take k) + tot (m.drop k) := by simp only [tot, List.map_append, List.sum_append]
  rw [List.take_append_drop] at h2
  omega
theorem row_le_tot {m : List (List Int)} {k : Nat} (h : k < m.length) : (m.getD k []).length ≤ tot m := by
  have := tot_next m k h
  have := tot_take_le m (k + 1)
  omega
theorem tot_all {m : List (List Int)} {k : Nat} (h : m.length ≤ k) : tot (m.take k) = tot m := by rw [List.take_of_length_le h]

/-- Of what was there only blocks from B on and below S have turned. -/
structure Within (B S : Nat) (w w' : World) : Prop where
  os : w'.os = w.os
  tape : w'.tape = w.tape
  output : w'.output = w.output
  size : w.heap.size ≤ w'.heap.size
  block : ∀ k, k < w.heap.size → k < B ∨ S ≤ k → w'.heap[k]? = w.heap[k]?
namespace Within
variable {B S : Nat} {w w' w'' : World}
theorem refl (B S : Nat) (w : World) : Within B S w w := ⟨rfl, rfl, rfl, Nat.le_refl _, fun _ _ _ => rfl⟩
theorem trans (h : Within B S w w') (k : Within B S w' w'') : Within B S w w'' :=
  ⟨k.os.trans h.os, k.tape.trans h.tape, k.output.trans h.output, Nat.le_trans h.size k.size, fun j hj hn => (k.block j (Nat.lt_of_lt_of_le hj h.size) hn).trans (h.block j hj hn)⟩
theorem mono {B' S' : Nat} (h : Within B S w w') (hB : B' ≤ B) (hS : S ≤ S') : Within B' S' w w' :=
  ⟨h.os, h.tape, h.output, h.size, fun k hk hn => h.block k hk (by omega)⟩
theorem of_grown {r : Option Nat} (h : w.grownBy w' r) (hr : ∀ g, r = some g → B ≤ g ∧ g < S) : Within B S w w' :=
  ⟨h.os, h.tape, h.output, h.size, fun k hk hn => h.block k hk (by
    intro e
    have := hr k e.symm
    omega)⟩
theorem of_below (h : Below w.heap.size w w') : Within B S w w' := ⟨h.os, h.tape, h.output, h.size, fun k hk _ => h.block k hk⟩
theorem below (h : Within B S w w') (hB : B ≤ w.heap.size) : Below B w w' := ⟨h.os, h.tape, h.output, h.size, fun k hk => h.block k (by omega) (Or.inl hk)⟩
theorem cell (h : Within B S w w') {p : Addr} (hp : p.block < B ∨ S ≤ p.block) (hl : p.block < w.heap.size) : w'.cell? p = w.cell? p := by
  have hb := h.block p.block hl hp
  unfold World.cell?
  rw [hb]
theorem ints (h : Within B S w w') {b off : Nat} {xs : List Int} (hi : IntsAt w b off xs) (hb : b < w.heap.size) (hn : b < B ∨ S ≤ b) : IntsAt w' b off xs :=
  fun k hk => (h.cell (p := ⟨b, off + k, none⟩) hn hb).trans (hi k hk)
end Within
end Go.Proofs.Ytcoiodfggaanbaa
