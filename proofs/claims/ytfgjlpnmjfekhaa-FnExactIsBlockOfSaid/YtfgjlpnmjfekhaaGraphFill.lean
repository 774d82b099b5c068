/-
  The model's PathsOf: the paths that the plain words say, in new memory; nothing that was there before is changed.
-/
import Derived.Test.YtfgjlpnmjfekhaaGraphSpec
import Derived.Test.YtfgjlpnmjfekhaaAppendZero
namespace Go.Proofs.Ytfgjlpnmjfekhaa
open Go Go.RowKit

theorem fillTo_mono (arcs : List (List Int)) (d : Nat) (head : List Int) {k : Nat} : ∀ (n : Nat), k ≤ n → (fillTo arcs d head k).length ≤ (fillTo arcs d head n).length
  | 0, h => by obtain rfl : k = 0 := by omega
               exact Nat.le_refl _
  | n + 1, h => by
    by_cases e : k = n + 1
    · subst e; exact Nat.le_refl _
    · have := fillTo_mono arcs d head n (k := k) (by omega)
      rw [fillTo_next, List.length_append]; omega
theorem ints_one (xs : List Int) : ∀ u ∈ xs.map (Value.int .i64), u.oneCell' = true := by
  intro u hu
  obtain ⟨x, _, rfl⟩ := List.mem_map.1 hu
  rfl
theorem ints_cells {w : World} {g : Nat} {xs : List Int} (h : IntsAt w g 0 xs) : ∀ j u, (xs.map (Value.int .i64))[j]? = some u → w.cell? ((⟨g, 0, none⟩ : Addr).add j) = some u := by
  intro j u hu
  rw [List.getElem?_map] at hu
  obtain ⟨x, hx, rfl⟩ := Option.map_eq_some_iff.1 hu
  have hj := (List.getElem?_eq_some_iff.1 hx).1
  have := h j hj
  rw [Nat.zero_add] at this
  rw [show (⟨g, 0, none⟩ : Addr).add j = ⟨g, j, none⟩ by unfold Addr.add; split <;> simp_all, this, List.getD_eq_getElem?_getD, hx]; rfl
theorem ints_far {w w' : World} {g : Nat} {xs : List Int} {r : Option Nat} (h : IntsAt w g 0 xs) (hl : g < w.heap.size) (hg : w.grownBy w' r) (hne : r ≠ some g) : IntsAt w' g 0 xs ∧ g < w'.heap.size := by
  refine ⟨fun k hk => ?_, Nat.lt_of_lt_of_le hl hg.size⟩
  have hb := hg.block g hl (Ne.symm hne)
  have := h k hk
  unfold World.cell? at this ⊢
  rw [hb]; exact this

/-- Paths are put behind others, in the same block or in a new one. -/
def FillPost (B : Nat) (v : Value) (m : List (List Int)) (w : World) (e : Ending) (w' : World) : Prop :=
  ∃ v' vs, e = .returned v' ∧ w'.ownsRow B 33 1 v' m.length vs ∧ RowsOwn w' B v'.ownBlock vs m ∧ w.grownBy w' v.ownBlock ∧ (v'.ownBlock = v.ownBlock ∨ ∃ g, v'.ownBlock = some g ∧ w.heap.size ≤ g)
theorem grown_trans {w w1 w2 : World} {r r1 : Option Nat} (h : w.grownBy w1 r) (k : w1.grownBy w2 r1) (hr : r1 = r ∨ ∃ g, r1 = some g ∧ w.heap.size ≤ g) : w.grownBy w2 r := by
  refine ⟨k.os.trans h.os, k.tape.trans h.tape, k.output.trans h.output, Nat.le_trans h.size k.size, fun j hj hne => ?_⟩
  refine (k.block j (Nat.lt_of_lt_of_le hj h.size) ?_).trans (h.block j hj hne)
  rcases hr with rfl | ⟨g, rfl, hg⟩
  · exact hne
  · intro e
    have := Option.some.inj e
    omega
theorem below_grown {w w' : World} (h : Below w.heap.size w w') (r : Option Nat) : w.grownBy w' r := ⟨h.os, h.tape, h.output, h.size, fun k hk _ => h.block k hk⟩

theorem fill_next {B : Nat} {w0 w w3 : World} {gg cap : Nat} {v u : Value} {vs : List Value} {out : List (List Int)} {head : List Int} (hO : w0.ownsRow B 33 1 v out.length vs) (hR : RowsOwn w0 B v.ownBlock vs out) (h0 : Below w0.heap.size w0 w) (hB : B ≤ w0.heap.size)
    (hu : w.ownsRow w0.heap.size 3 1 u head.length (head.map (Value.int .i64))) (o : Obj)
    (ho3 : w3.ownsRow B 33 1 (.slice (some ⟨gg, 0, none⟩) (out.length + 1) cap) (out.length + 1) (vs ++ [u])) (hg3 : (w.alloc o).grownBy w3 v.ownBlock) (hat : v.ownBlock = some gg ∨ gg = w.heap.size + 1) :
    w3.ownsRow B 33 1 (.slice (some ⟨gg, 0, none⟩) (out.length + 1) cap) (out ++ [head]).length (vs ++ [u]) ∧ RowsOwn w3 B (Value.slice (some ⟨gg, 0, none⟩) (out.length + 1) cap).ownBlock (vs ++ [u]) (out ++ [head]) ∧ w.grownBy w3 v.ownBlock ∧
      ((Value.slice (some ⟨gg, 0, none⟩) (out.length + 1) cap).ownBlock = v.ownBlock ∨ ∃ g, (Value.slice (some ⟨gg, 0, none⟩) (out.length + 1) cap).ownBlock = some g ∧ w.heap.size ≤ g) := by
  have hb1 : Below w0.heap.size w0 (w.alloc o) := h0.alloc h0.size o
  refine ⟨by rw [List.length_append]; exact ho3, own_append (w := w.alloc o) (cap := cap) hO hR hb1 (World.ownsRow.alloc (World.ownsRow.mono hu hB) o) (fun g hg => (hu.lt g hg).1) ho3 hg3 (by rw [World.size_alloc]; exact hat), grown_trans (World.grownBy_alloc w o none |> fun h => ⟨h.os, h.tape, h.output, h.size, fun k hk _ => h.block k hk (by intro e; cases e)⟩) hg3 (Or.inl rfl), ?_⟩
  rcases hat with h | h
  · exact Or.inl h.symm
  · exact Or.inr ⟨gg, rfl, by omega⟩

theorem head_next {W1 w1 w3 : World} {gg cap n : Nat} {u : Value} {head : List Int} {x : Int} (hb : Below W1.heap.size W1 w1) (hU : w1.ownsRow W1.heap.size 3 1 u head.length (head.map (Value.int .i64))) (o : Obj) (hn : n = head.length + 1)
    (ho3 : w3.ownsRow W1.heap.size 3 1 (.slice (some ⟨gg, 0, none⟩) n cap) n (head.map (Value.int .i64) ++ [.int .i64 x])) (hg3 : (w1.alloc o).grownBy w3 u.ownBlock) :
    w3.ownsRow W1.heap.size 3 1 (.slice (some ⟨gg, 0, none⟩) (head ++ [x]).length cap) (head ++ [x]).length ((head ++ [x]).map (Value.int .i64)) ∧ Below W1.heap.size W1 w3 := by
  subst hn
  refine ⟨?_, (hb.alloc hb.size o).grown hg3 (by have := hb.size; simp; omega) fun q hq => (hU.lt q hq).1⟩
  rw [List.length_append, List.map_append]; exact ho3

/-- The head's copy. -/
theorem first_part {W1 w1 w2 : World} {gg cap : Nat} {u : Value} {head : List Int} (hb : Below W1.heap.size W1 w1) (hU : w1.ownsRow W1.heap.size 3 1 u 0 [])
    (ho2 : w2.ownsRow W1.heap.size 3 1 (.slice (some ⟨gg, 0, none⟩) (0 + head.length) cap) (0 + head.length) ([] ++ head.map (Value.int .i64))) (hg2 : w1.grownBy w2 u.ownBlock) :
    w2.ownsRow W1.heap.size 3 1 (.slice (some ⟨gg, 0, none⟩) head.length cap) head.length (head.map (Value.int .i64)) ∧ Below W1.heap.size W1 w2 := by
  rw [Nat.zero_add, List.nil_append] at ho2
  exact ⟨ho2, hb.grown hg2 hb.size fun q hq => (hU.lt q hq).1⟩

/-- PathsOf. -/
def pathsOkM (m : List (List Int)) (n : Int) : Bool := isGraphM m && ((decide (1 ≤ n) && decide (n ≤ 6)) && (decide (0 ≤ countM m n) && decide (countM m n ≤ 500)))
def pathsM (m : List (List Int)) (n : Int) : List (List Int) := if pathsOkM m n = true then fillM (arcsM m) n.toNat [] else []
theorem pow_le_six {a n : Nat} (ha : a ≤ 60) (hn : n ≤ 6) : a ^ n ≤ 46656000000 :=
  Nat.le_trans (Nat.pow_le_pow_left ha n) (Nat.le_trans (Nat.pow_le_pow_right (by decide) hn) (by decide))

end Go.Proofs.Ytfgjlpnmjfekhaa
