/-
  The model's LivelyOf, TrimGraph and IsLively: what the plain words say, in new memory; nothing that was there before is changed.
-/
import Derived.Test.YtalclebehbdliaaGreatDoorGraphLive
import Derived.StillTailTactics
namespace Go.Proofs.YtalclebehbdliaaGreatDoor
open Go Go.RowKit

theorem bools_far {w w' : World} {g n : Nat} {S : Nat → Bool} {r : Option Nat} (h : ∀ u, u < n → w.cell? ⟨g, u, none⟩ = some (.bool (S u))) (hl : g < w.heap.size) (hg : w.grownBy w' r) (hne : r ≠ some g) : (∀ u, u < n → w'.cell? ⟨g, u, none⟩ = some (.bool (S u))) ∧ g < w'.heap.size := by
  refine ⟨fun u hu => ?_, Nat.lt_of_lt_of_le hl hg.size⟩
  have hb := hg.block g hl (Ne.symm hne)
  have := h u hu
  unfold World.cell? at this ⊢
  rw [hb]; exact this
theorem list_more {w w1 w2 : World} {g gL cap k : Nat} {v : Value} {xs : List Int} {x : Int} {n : Nat} {S : Nat → Bool} (hB : Below w.heap.size w w1) (hO : w1.ownsRow w.heap.size 3 1 v xs.length (xs.map (Value.int .i64))) (hS : ∀ u, u < n → w1.cell? ⟨gL, u, none⟩ = some (.bool (S u))) (hgL : gL < w1.heap.size) (hne : v.ownBlock ≠ some gL) (o : Obj) (hk : k = xs.length + 1)
    (ho2 : w2.ownsRow w.heap.size 3 1 (.slice (some ⟨g, 0, none⟩) k cap) k (xs.map (Value.int .i64) ++ [.int .i64 x])) (hg : (w1.alloc o).grownBy w2 v.ownBlock) (hat : v.ownBlock = some g ∨ g = w1.heap.size + 1) :
    w2.ownsRow w.heap.size 3 1 (.slice (some ⟨g, 0, none⟩) k cap) (xs ++ [x]).length ((xs ++ [x]).map (Value.int .i64)) ∧ Below w.heap.size w w2 ∧ (∀ u, u < n → w2.cell? ⟨gL, u, none⟩ = some (.bool (S u))) ∧ gL < w2.heap.size ∧ (Value.slice (some ⟨g, 0, none⟩) k cap).ownBlock ≠ some gL := by
  subst hk
  have hs := hB.size
  obtain ⟨t1, t2⟩ := bools_far (w := w1.alloc o) (fun u hu => (((Below.refl w1.heap.size w1).alloc (Nat.le_refl _) o).cell (p := ⟨gL, u, none⟩) hgL).trans (hS u hu)) (by simp; omega) hg hne
  refine ⟨by rw [List.length_append, List.map_append]; exact ho2, (hB.alloc hs o).grown hg (by simp; omega) fun q hq => (hO.lt q hq).1, t1, t2, fun e => ?_⟩
  have e' : g = gL := Option.some.inj e
  subst e'
  rcases hat with h | h
  · exact hne h
  · omega

def partF (m : List (List Int)) (l : List Int) : Nat → Nat → Int := fun i j => cellOf m (l.getD i 0).toNat (l.getD j 0).toNat
theorem partM_as (m : List (List Int)) (l : List Int) : partM m l = tabOf l.length l.length (partF m l) := rfl
def partRow (m : List (List Int)) (l : List Int) (i t : Nat) : List Int := (List.range t).map (partF m l i)
theorem partRow_next (m : List (List Int)) (l : List Int) (i t : Nat) : partRow m l i (t + 1) = partRow m l i t ++ [partF m l i t] := by
  unfold partRow; rw [List.range_succ, List.map_append]; rfl
theorem partRow_length (m : List (List Int)) (l : List Int) (i t : Nat) : (partRow m l i t).length = t := by unfold partRow; simp
theorem cell_more {w1 w2 : World} {B g cap k : Nat} {v : Value} {xs : List Int} {x : Int} {W0 : World} (hb : Below B W0 w1) (h0 : B ≤ w1.heap.size) (hO : w1.ownsRow B 3 1 v xs.length (xs.map (Value.int .i64))) (o : Obj) (hk : k = xs.length + 1)
    (ho2 : w2.ownsRow B 3 1 (.slice (some ⟨g, 0, none⟩) k cap) k (xs.map (Value.int .i64) ++ [.int .i64 x])) (hg : (w1.alloc o).grownBy w2 v.ownBlock) :
    w2.ownsRow B 3 1 (.slice (some ⟨g, 0, none⟩) k cap) (xs ++ [x]).length ((xs ++ [x]).map (Value.int .i64)) ∧ Below B W0 w2 := by
  subst hk
  exact ⟨by rw [List.length_append, List.map_append]; exact ho2, (hb.alloc h0 o).grown hg (by simp; omega) fun q hq => (hO.lt q hq).1⟩
theorem part_more {B : Nat} {wr w4 w5 : World} {gg cap : Nat} {v u : Value} {vs : List Value} {G : List (List Int)} {xs : List Int} (hO : wr.ownsRow B 48 1 v G.length vs) (hR : RowsOwn wr B v.ownBlock vs G) (hb : Below wr.heap.size wr w4) (hB : B ≤ wr.heap.size)
    (hu : w4.ownsRow wr.heap.size 3 1 u xs.length (xs.map (Value.int .i64))) (o : Obj)
    (ho3 : w5.ownsRow B 48 1 (.slice (some ⟨gg, 0, none⟩) (G.length + 1) cap) (G.length + 1) (vs ++ [u])) (hg3 : (w4.alloc o).grownBy w5 v.ownBlock) (hat : v.ownBlock = some gg ∨ gg = w4.heap.size + 1) :
    w5.ownsRow B 48 1 (.slice (some ⟨gg, 0, none⟩) (G.length + 1) cap) (G ++ [xs]).length (vs ++ [u]) ∧ RowsOwn w5 B (Value.slice (some ⟨gg, 0, none⟩) (G.length + 1) cap).ownBlock (vs ++ [u]) (G ++ [xs]) ∧ (∀ W : World, B = W.heap.size → Below B W wr → Below B W w5) := by
  have hb1 : Below wr.heap.size wr (w4.alloc o) := hb.alloc hb.size o
  have hs4 := hb.size
  refine ⟨by rw [List.length_append]; exact ho3, own_append (w := w4.alloc o) (cap := cap) hO hR hb1 (World.ownsRow.alloc (World.ownsRow.mono hu hB) o) (fun g hg => (hu.lt g hg).1) ho3 hg3 (by rw [World.size_alloc]; exact hat), fun W hW hbW => ?_⟩
  exact (hbW.trans (hb1.mono hB)).grown hg3 (by simp; omega) fun q hq => (hO.lt q hq).1

theorem livelyM_in {m : List (List Int)} {k : Nat} (hk : k < (livelyM m).length) : 0 ≤ (livelyM m).getD k 0 ∧ (livelyM m).getD k 0 < (m.length : Int) := by
  unfold livelyM at hk ⊢
  by_cases hm : isMat m = true
  · rw [if_pos hm] at hk ⊢
    have e : (liveList m m.length).getD k 0 = (liveList m m.length)[k] := by simp [List.getD, hk]
    rw [e]
    obtain ⟨i, hi, h1, _⟩ := liveList_mem (List.getElem_mem hk)
    rw [hi]
    omega
  · rw [if_neg hm] at hk
    simp at hk
theorem livelyM_le (m : List (List Int)) : (livelyM m).length ≤ 9 := by
  unfold livelyM
  split
  · next h =>
    have := liveList_le m m.length
    have := (isMat_facts h).le
    omega
  · simp

end Go.Proofs.YtalclebehbdliaaGreatDoor
