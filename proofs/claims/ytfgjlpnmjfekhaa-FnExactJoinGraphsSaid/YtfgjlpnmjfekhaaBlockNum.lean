/-
  PLAIN WORDS ON LONGER BLOCKS (no program in this text): the graph of the arcs of a graph, two graphs side by side, the pairs of two graphs.
-/
import Derived.Test.YtfgjlpnmjfekhaaMatPower
import Derived.Test.YtfgjlpnmjfekhaaMatSize
import Derived.Test.YtfgjlpnmjfekhaaGraphSpec
namespace Go.Proofs.Ytfgjlpnmjfekhaa
open Go Go.RowKit

/-! ### The graph of the arcs -/

def blockT (arcs : List (List Int)) : List (List Int) := tabOf arcs.length arcs.length fun i j => if cellOf arcs i 1 = cellOf arcs j 0 then 1 else 0
def blockG (m : List (List Int)) : Option (List (List Int)) := if 1 ≤ (arcsOfM m).length ∧ (arcsOfM m).length ≤ 9 then some (blockT (arcsOfM m)) else none
def isBlockM (m n : List (List Int)) : Bool := (blockG m).isSome && decide ((blockG m).getD [] = n)
def powG (m : List (List Int)) (n : Int) : Option (List (List Int)) := if 1 ≤ n ∧ n ≤ 30 then powS m n else none
def joinT (a b : List (List Int)) : List (List Int) :=
  tabOf (a.length + b.length) (a.length + b.length) fun i j => if i < a.length then (if j < a.length then cellOf a i j else 0) else if j < a.length then 0 else cellOf b (i - a.length) (j - a.length)
def joinG (a b : List (List Int)) : Option (List (List Int)) := if isMat a = true ∧ isMat b = true ∧ a.length + b.length ≤ 9 then some (joinT a b) else none
def pairT (a b : List (List Int)) : List (List Int) :=
  tabOf (a.length * b.length) (a.length * b.length) fun x y => cellOf a (x / b.length) (y / b.length) * cellOf b (x % b.length) (y % b.length)
def pairG (a b : List (List Int)) : Option (List (List Int)) := if isMat a = true ∧ isMat b = true ∧ a.length * b.length ≤ 9 ∧ isMat (pairT a b) = true then some (pairT a b) else none

theorem tab_facts {n : Nat} (h1 : 1 ≤ n) (h9 : n ≤ 9) {f : Nat → Nat → Int} (h : ∀ i j, i < n → j < n → 0 ≤ f i j ∧ f i j ≤ 1000000) : isMat (tabOf n n f) = true := by
  rw [isMat_iff, tabOf_length]
  refine ⟨⟨h1, h9⟩, fun i hi => ⟨by rw [tabOf_row hi]; simp, fun j hj => ?_⟩⟩
  rw [tabOf_cell hi hj]
  exact h i j hi hj
theorem blockT_isMat {arcs : List (List Int)} (h : 1 ≤ arcs.length) (h9 : arcs.length ≤ 9) : isMat (blockT arcs) = true :=
  tab_facts h h9 fun i j _ _ => by split <;> omega
theorem joinT_isMat {a b : List (List Int)} (ha : isMat a = true) (hb : isMat b = true) (hl : a.length + b.length ≤ 9) : isMat (joinT a b) = true := by
  obtain ⟨⟨a1, _⟩, ac⟩ := isMat_iff.1 ha
  obtain ⟨⟨b1, _⟩, bc⟩ := isMat_iff.1 hb
  refine tab_facts (by omega) hl fun i j hi hj => ?_
  by_cases c1 : i < a.length
  · rw [if_pos c1]
    by_cases c2 : j < a.length
    · rw [if_pos c2]; exact (ac i c1).2 j c2
    · rw [if_neg c2]; omega
  · rw [if_neg c1]
    by_cases c2 : j < a.length
    · rw [if_pos c2]; omega
    · rw [if_neg c2]; exact (bc _ (by omega)).2 _ (by omega)
theorem blockG_isMat {m x : List (List Int)} (h : blockG m = some x) : isMat x = true := by
  unfold blockG at h
  split at h
  · next hc => obtain rfl := Option.some.inj h; exact blockT_isMat hc.1 hc.2
  · cases h
theorem joinG_isMat {a b x : List (List Int)} (h : joinG a b = some x) : isMat x = true := by
  unfold joinG at h
  split at h
  · next hc => obtain rfl := Option.some.inj h; exact joinT_isMat hc.1 hc.2.1 hc.2.2
  · cases h
theorem pairG_isMat {a b x : List (List Int)} (h : pairG a b = some x) : isMat x = true := by
  unfold pairG at h
  split at h
  · next hc => obtain rfl := Option.some.inj h; exact hc.2.2.2
  · cases h
theorem powG_isMat {m x : List (List Int)} {n : Int} (h : powG m n = some x) : isMat x = true := by
  unfold powG at h
  split at h
  · unfold powS at h
    split at h
    · next hc => exact powM_isMat hc.1 _ h
    · cases h
  · cases h
theorem sizeB_mat {o : Option (List (List Int))} (h : ∀ x, o = some x → isMat x = true) : SizeB (o.getD []) := by
  cases ho : o with
  | none => exact sizeB_nil
  | some x => exact sizeB_facts (isMat_facts (h x ho))
theorem sizeB_block (m : List (List Int)) : SizeB ((blockG m).getD []) := sizeB_mat fun _ h => blockG_isMat h
theorem sizeB_joinG (a b : List (List Int)) : SizeB ((joinG a b).getD []) := sizeB_mat fun _ h => joinG_isMat h
theorem sizeB_pairG (a b : List (List Int)) : SizeB ((pairG a b).getD []) := sizeB_mat fun _ h => pairG_isMat h
theorem sizeB_powG (m : List (List Int)) (n : Int) : SizeB ((powG m n).getD []) := sizeB_mat fun _ h => powG_isMat h
end Go.Proofs.Ytfgjlpnmjfekhaa
