/-
  PLAIN FACTS ON THE OUTPUT OF A CODE THAT UNDOES, LETTER BY LETTER (no program in this text): zeros, then the letters of the first words, then a where no word leads.
-/
import Derived.Test.YtcoiodfggaanbaaUndoNum
import Derived.Test.YtcoiodfggaanbaaJoinNum
namespace Go.Proofs.Ytcoiodfggaanbaa
open Go Go.RowKit

section
variable (F : ByteArray → ByteArray) (A : ByteArray → UInt8) (ws : List ByteArray) (k m : Nat)
def outU (j : Nat) : List UInt8 := (List.range (k ^ m)).map fun p => (letTo F A ws j (wdA k m p)).getD 0
def fillU (i : Nat) : List UInt8 := (List.range (k ^ m)).map fun p => if p < i then (letTo F A ws ws.length (wdA k m p)).getD 97 else (letTo F A ws ws.length (wdA k m p)).getD 0
theorem outU_len (j : Nat) : (outU F A ws k m j).length = k ^ m := by simp [outU]
theorem fillU_len (i : Nat) : (fillU F A ws k m i).length = k ^ m := by simp [fillU]
theorem outU_zero : outU F A ws k m 0 = List.replicate (k ^ m) 0 := by
  unfold outU
  refine List.ext_getElem (by simp) fun i h1 h2 => ?_
  simp [letTo_zero]
theorem fillU_zero : fillU F A ws k m 0 = outU F A ws k m ws.length := by
  unfold fillU outU
  refine List.map_congr_left fun p _ => ?_
  rw [if_neg (Nat.not_lt_zero _)]
variable {F A ws k m}
theorem outU_at {j p : Nat} (hp : p < k ^ m) : (outU F A ws k m j)[p]? = some ((letTo F A ws j (wdA k m p)).getD 0) := by
  unfold outU
  rw [List.getElem?_map, List.getElem?_range hp]; rfl
theorem outU_set {j p : Nat} (hj : j < ws.length) (hk : 0 < k) (k3 : k ≤ 3) (hp : p < k ^ m) (he : F (ws.getD j ByteArray.empty) = wdA k m p) (ha : ∀ b, letTo F A ws j (F (ws.getD j ByteArray.empty)) = some b → b = A (ws.getD j ByteArray.empty)) :
    (outU F A ws k m j).set p (A (ws.getD j ByteArray.empty)) = outU F A ws k m (j + 1) := by
  refine List.ext_getElem (by simp [outU]) fun i h1 h2 => ?_
  rw [outU_len] at h2
  rw [List.getElem_set]
  by_cases e : p = i
  · subst e
    rw [if_pos rfl]
    have h3 := let_at hj ha
    simp only [outU, List.getElem_map, List.getElem_range]
    rw [← he, h3]; rfl
  · rw [if_neg e]
    simp only [outU, List.getElem_map, List.getElem_range]
    rw [let_else hj (fun e2 => e (wd_inj hk k3 hp h2 (by rw [e2, he])))]
theorem fillU_at {i p : Nat} (hp : p < k ^ m) : (fillU F A ws k m i)[p]? = some (if p < i then (letTo F A ws ws.length (wdA k m p)).getD 97 else (letTo F A ws ws.length (wdA k m p)).getD 0) := by
  unfold fillU
  rw [List.getElem?_map, List.getElem?_range hp]; rfl
theorem fillU_put {i : Nat} (h : letTo F A ws ws.length (wdA k m i) = none) : (fillU F A ws k m i).set i 97 = fillU F A ws k m (i + 1) := by
  refine List.ext_getElem (by simp [fillU]) fun p h1 h2 => ?_
  rw [List.getElem_set]
  simp only [fillU, List.getElem_map, List.getElem_range]
  by_cases e : i = p
  · subst e
    rw [if_pos rfl, if_pos (Nat.lt_succ_self _), h]; rfl
  · rw [if_neg e]
    by_cases e2 : p < i
    · rw [if_pos e2, if_pos (by omega)]
    · rw [if_neg e2, if_neg (by omega)]
theorem fillU_keep {i : Nat} {b : UInt8} (h : letTo F A ws ws.length (wdA k m i) = some b) : fillU F A ws k m i = fillU F A ws k m (i + 1) := by
  unfold fillU
  refine List.map_congr_left fun p _ => ?_
  by_cases e2 : p < i
  · rw [if_pos e2, if_pos (by omega)]
  · by_cases e : p = i
    · subst e
      rw [if_neg (Nat.lt_irrefl _), if_pos (Nat.lt_succ_self _), h]; rfl
    · rw [if_neg e2, if_neg (by omega)]
theorem fillU_all : (⟨(fillU F A ws k m (k ^ m)).toArray⟩ : ByteArray) = catW (undoF F A ws) (allW k m) := by
  apply ba_ext
  unfold catW
  rw [catTo_data, List.take_length]
  have e : (allW k m) = (List.range (k ^ m)).map (wdA k m) := by
    refine List.ext_getElem (by rw [allW_length]; simp) fun i h1 h2 => ?_
    rw [List.getElem_map, List.getElem_range]
    unfold wdA
    rw [List.getD_eq_getElem?_getD, List.getElem?_eq_getElem h1]; rfl
  show fillU F A ws k m (k ^ m) = _
  rw [e, List.flatMap_map]
  unfold fillU
  have hs : ∀ L : List Nat, (∀ p ∈ L, p < k ^ m) → (L.map fun p => if p < k ^ m then (letTo F A ws ws.length (wdA k m p)).getD 97 else (letTo F A ws ws.length (wdA k m p)).getD 0) = L.flatMap fun p => (undoF F A ws (wdA k m p)).data.toList := by
    intro L
    induction L with
    | nil => intro _; rfl
    | cons a L ih =>
      intro h
      rw [List.map_cons, List.flatMap_cons, ih (fun p hp => h p (List.mem_cons_of_mem _ hp)), if_pos (h a (List.mem_cons_self ..))]
      rfl
  exact hs _ fun p hp => List.mem_range.1 hp
end
theorem cellsB_set (l : List UInt8) (p : Nat) (b : UInt8) : (cellsB l).set p (.int .u8 b.toNat) = cellsB (l.set p b) := by
  unfold cellsB
  rw [List.map_set]
theorem cellsB_at {l : List UInt8} {p : Nat} {b : UInt8} (h : l[p]? = some b) : (cellsB l)[p]? = some (.int .u8 b.toNat) := by
  unfold cellsB
  rw [List.getElem?_map, h]; rfl
end Go.Proofs.Ytcoiodfggaanbaa
