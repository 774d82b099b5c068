/-
  The model's IsGraph, ArcsOf and CountPaths: what the plain words say, tables in new memory; nothing that was there before is changed.
-/
import Derived.Test.YtfbdmheaalmboaaGraphNum
import Derived.Test.YtfbdmheaalmboaaMatPower
namespace Go.Proofs.Ytfbdmheaalmboaa
open Go Go.RowKit

theorem isGraphM_facts {m : List (List Int)} (h : isGraphM m = true) : isMat m = true ∧ sumM m ≤ 60 := by
  unfold isGraphM at h
  rw [Bool.and_eq_true] at h
  exact ⟨h.1, of_decide_eq_true h.2⟩

/-- A row that is new in memory of the call's own. -/
theorem row_two {w : World} (x y : Int) : (w.alloc (.cells #[.int .i64 x, .int .i64 y] 3)).ownsRow w.heap.size 3 1 (.slice (some ⟨w.heap.size, 0, none⟩) 2 2) 2 ([x, y].map (Value.int .i64)) :=
  World.ownsRow_lit (base := w.heap.size) (e := 3) (size := 1) w #[.int .i64 x, .int .i64 y] 2 (Nat.le_refl _) (by decide) rfl
theorem arcs_next {w wr w3 : World} {gg cap i j k : Nat} {m : List (List Int)} {v : Value} {vs : List Value} {o : Obj} (hB : Below w.heap.size w wr) (hO : wr.ownsRow w.heap.size 29 1 v (arcsTo m i j k).length vs) (hR : RowsOwn wr w.heap.size v.ownBlock vs (arcsTo m i j k))
    (ho3 : w3.ownsRow w.heap.size 29 1 (.slice (some ⟨gg, 0, none⟩) ((arcsTo m i j k).length + 1) cap) ((arcsTo m i j k).length + 1) (vs ++ [.slice (some ⟨wr.heap.size, 0, none⟩) 2 2])) (hg3 : ((wr.alloc (.cells #[.int .i64 (i : Int), .int .i64 (j : Int)] 3)).alloc o).grownBy w3 v.ownBlock) (hat : v.ownBlock = some gg ∨ gg = wr.heap.size + 1 + 1) :
    w3.ownsRow w.heap.size 29 1 (.slice (some ⟨gg, 0, none⟩) ((arcsTo m i j k).length + 1) cap) (arcsTo m i j (k + 1)).length (vs ++ [.slice (some ⟨wr.heap.size, 0, none⟩) 2 2]) ∧
    RowsOwn w3 w.heap.size (Value.slice (some ⟨gg, 0, none⟩) ((arcsTo m i j k).length + 1) cap).ownBlock (vs ++ [.slice (some ⟨wr.heap.size, 0, none⟩) 2 2]) (arcsTo m i j (k + 1)) ∧ Below w.heap.size w w3 := by
  have hb1 : Below wr.heap.size wr ((wr.alloc (.cells #[.int .i64 (i : Int), .int .i64 (j : Int)] 3)).alloc o) := ((Below.refl _ _).alloc (Nat.le_refl _) _).alloc (by simp) _
  refine ⟨by rw [arcsTo_next, List.length_append]; exact ho3, ?_, ?_⟩
  · rw [arcsTo_next]
    refine own_append (cap := cap) (xs := [(i : Int), (j : Int)]) hO hR hb1 (World.ownsRow.mono (World.ownsRow.alloc (row_two (i : Int) (j : Int)) o) hB.size) (fun g hg => ?_) ho3 hg3 ?_
    · have : wr.heap.size = g := Option.some.inj hg
      omega
    · rw [World.size_alloc, World.size_alloc]; exact hat
  · have hb2 := hB.trans (hb1.mono hB.size)
    exact hb2.grown hg3 (by have := hb2.size; omega) (fun q hq => (hO.lt q hq).1)

/-- ArcsOf, CountPaths. -/
def arcsOfM (m : List (List Int)) : List (List Int) := if isGraphM m = true then arcsM m else []
def countM (m : List (List Int)) (n : Int) : Int := match powS m n with | some p => sumM p | none => -1

theorem pathOk_out {arcs : List (List Int)} {p : List Int} {k : Nat} (h : (decide ((0 : Int) ≤ p.getD k 0) && decide (p.getD k 0 ≤ (arcs.length : Int) - 1)) = false) : pathOk arcs p k = false := by
  unfold pathOk; rw [h]; rfl
/-- The two ends of an arc in memory. -/
theorem arc_at {w : World} {A : Option Addr} {arcs : List (List Int)} (h : GridS w A arcs) (h2 : ∀ r ∈ arcs, r.length = 2) {k : Nat} (hk : k < arcs.length) :
    ∃ b off b2 off2 c', A = some ⟨b, off, none⟩ ∧ w.cell? ⟨b, off + k, none⟩ = some (.slice (some ⟨b2, off2, none⟩) 2 c') ∧ w.cell? ⟨b2, off2, none⟩ = some (.int .i64 (cellOf arcs k 0)) ∧ w.cell? ⟨b2, off2 + 1, none⟩ = some (.int .i64 (cellOf arcs k 1)) := by
  have hl : (arcs.getD k []).length = 2 := by
    have e : arcs.getD k [] = arcs[k] := by simp [List.getD, hk]
    rw [e]; exact h2 _ (List.getElem_mem hk)
  obtain ⟨b, off, A', c', hA, hc, hr, _⟩ := h.row hk
  obtain ⟨b2, off2, rfl, hat, _⟩ := hr (by omega)
  rw [hl] at hc
  exact ⟨b, off, b2, off2, c', hA, hc, hat 0 (by omega), hat 1 (by omega)⟩

end Go.Proofs.Ytfbdmheaalmboaa
