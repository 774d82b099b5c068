/-
  The program's LivelyOf and IsLively: what the plain words say, a list in new memory; nothing that was there before is changed.
-/
import Derived.Test.YtanelokploifhaaDoorLiveNum
import Derived.Test.YtanelokploifhaaDoorIntsFind
import Derived.Test.YtanelokploifhaaDoorRowEnds
import Derived.Test.YtanelokploifhaaDoorMidTexts
import Derived.Shelf.Abstract
namespace Go.Proofs.YtanelokploifhaaDoor
open Go Go.RowKit Go.Shelf

theorem box_new (w : World) (v : Value) (t : TypeId) : (w.alloc (.cells #[v] t)).cell? ⟨w.heap.size, 0, none⟩ = some v := by
  unfold World.cell?; rw [heap_alloc_new w _]; rfl

theorem list_next {w0 w3 w4 : World} {g cap k : Nat} {v : Value} {xs : List Int} {x : Int} (hB : Below w0.heap.size w0 w3) (hO : w3.ownsRow w0.heap.size 3 1 v xs.length (xs.map (Value.int .i64))) (o : Obj) (hk : k = xs.length + 1)
    (ho : w4.ownsRow w0.heap.size 3 1 (.slice (some ⟨g, 0, none⟩) k cap) k (xs.map (Value.int .i64) ++ [.int .i64 x])) (hg : (w3.alloc o).grownBy w4 v.ownBlock) :
    w4.ownsRow w0.heap.size 3 1 (.slice (some ⟨g, 0, none⟩) k cap) (xs ++ [x]).length ((xs ++ [x]).map (Value.int .i64)) ∧ Below w0.heap.size w0 w4 := by
  subst hk
  have hs := hB.size
  exact ⟨by rw [List.length_append, List.map_append]; exact ho, (hB.alloc hs o).grown hg (by simp; omega) fun q hq => (hO.lt q hq).1⟩
theorem contM_front (m : List (List Int)) (xs : List Int) (k : Nat) (hk : k < xs.length) : ((xs.take (k + 1)).filter (keepM m xs)) = ((xs.take k).filter (keepM m xs)) ++ (if keepM m xs (xs.getD k 0) = true then [xs.getD k 0] else []) := by
  have e : xs.getD k 0 = xs[k] := by simp [List.getD, hk]
  rw [List.take_add_one, List.filter_append, e, List.getElem?_eq_getElem hk]
  congr 1
  simp only [Option.toList_some]
  cases h : keepM m xs xs[k] <;> simp [h]
theorem front_le (m : List (List Int)) (xs : List Int) (k : Nat) : ((xs.take k).filter (keepM m xs)).length ≤ xs.length := by
  have h1 := List.length_filter_le (keepM m xs) (xs.take k)
  rw [List.length_take] at h1
  omega

def lenOf : Value → Nat
  | .slice _ n _ => n
  | _ => 0
def rangeI (k : Nat) : List Int := (List.range k).map fun (i : Nat) => (i : Int)
theorem rangeI_next (k : Nat) : rangeI (k + 1) = rangeI k ++ [(k : Int)] := by unfold rangeI; rw [List.range_succ, List.map_append]; rfl
theorem rangeI_length (k : Nat) : (rangeI k).length = k := by unfold rangeI; simp

end Go.Proofs.YtanelokploifhaaDoor
