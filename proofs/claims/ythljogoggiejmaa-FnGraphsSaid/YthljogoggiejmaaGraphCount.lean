/-
  PLAIN FACTS ON GRAPHS (no program in this text): there are as many paths of n arcs as the numbers of the matrix's n-th power are together.
-/
import Derived.Test.YthljogoggiejmaaGraphNum
namespace Go.Proofs.Ythljogoggiejmaa
open Go Go.RowKit

/-! ### Sums -/

theorem sumTo_zero (n : Nat) : sumTo n (fun _ => 0) = 0 := by
  induction n with
  | zero => rfl
  | succ n ih => rw [sumTo, ih]; rfl
theorem sumTo_add (f g : Nat → Int) (n : Nat) : sumTo n (fun k => f k + g k) = sumTo n f + sumTo n g := by
  induction n with
  | zero => rfl
  | succ n ih => rw [sumTo, sumTo, sumTo, ih]; omega
theorem sumTo_mul (c : Int) (f : Nat → Int) (n : Nat) : sumTo n (fun k => c * f k) = c * sumTo n f := by
  induction n with
  | zero => simp [sumTo]
  | succ n ih => rw [sumTo, sumTo, ih, Int.mul_add]
theorem sumTo_mul' (c : Int) (f : Nat → Int) (n : Nat) : sumTo n (fun k => f k * c) = sumTo n f * c := by
  induction n with
  | zero => simp [sumTo]
  | succ n ih => rw [sumTo, sumTo, ih, Int.add_mul]
theorem sumTo_swap (f : Nat → Nat → Int) (n m : Nat) : sumTo n (fun i => sumTo m fun j => f i j) = sumTo m fun j => sumTo n fun i => f i j := by
  induction n with
  | zero => exact (sumTo_zero m).symm
  | succ n ih => rw [sumTo, ih, ← sumTo_add]; rfl
theorem sumTo_single (f : Nat → Int) {k : Nat} : ∀ (n : Nat), k < n → sumTo n (fun i => if k = i then f i else 0) = f k
  | 0, h => by omega
  | n + 1, h => by
    rw [sumTo]
    by_cases e : k = n
    · subst e
      rw [if_pos rfl, sumTo_congr (g := fun _ => 0) k fun i hi => if_neg (by omega), sumTo_zero]; omega
    · rw [if_neg e, sumTo_single f n (by omega)]; omega
def sumI : List Int → Int
  | [] => 0
  | x :: xs => x + sumI xs
theorem sumI_append (xs ys : List Int) : sumI (xs ++ ys) = sumI xs + sumI ys := by
  induction xs with
  | nil => simp [sumI]
  | cons x xs ih => rw [List.cons_append, sumI, sumI, ih]; omega
theorem sumI_replicate (c : Nat) (x : Int) : sumI (List.replicate c x) = c * x := by
  induction c with
  | zero => simp [sumI]
  | succ c ih => rw [List.replicate_succ, sumI, ih, Int.natCast_succ, Int.add_mul, Int.one_mul]; omega
theorem sumI_ones {α : Type} (l : List α) : sumI (l.map fun _ => 1) = (l.length : Int) := by
  induction l with
  | nil => rfl
  | cons x l ih => rw [List.map_cons, sumI, ih, List.length_cons]; omega
theorem sumI_flatMap {α β : Type} (l : List α) (F : α → List β) (f : β → Int) : sumI ((l.flatMap F).map f) = sumI (l.map fun a => sumI ((F a).map f)) := by
  induction l with
  | nil => rfl
  | cons x l ih => rw [List.flatMap_cons, List.map_append, sumI_append, ih, List.map_cons, sumI]
theorem sumI_index {F : List Int → Int} (arcs : List (List Int)) : sumI ((List.range arcs.length).map fun k => F (arcs.getD k [])) = sumI (arcs.map F) := by
  congr 1
  refine List.ext_getElem (by simp) fun i h1 h2 => ?_
  have hi : i < arcs.length := by simpa using h1
  simp [List.getD, hi]

/-! ### Sums over arcs -/

theorem arcsRow_sum {m : List (List Int)} {i : Nat} (g : Int → Int → Int) : ∀ (j : Nat), (∀ j', j' < j → 0 ≤ cellOf m i j') → sumI ((arcsRow m i j).map fun r => g (r.getD 0 0) (r.getD 1 0)) = sumTo j fun j' => cellOf m i j' * g i j'
  | 0, _ => rfl
  | j + 1, h => by
    have h2 := h j (by omega)
    rw [arcsRow_next, List.map_append, sumI_append, arcsRow_sum g j fun j' hj => h j' (by omega), List.map_replicate, sumI_replicate, sumTo, Int.toNat_of_nonneg h2]
    rfl
theorem arcsRows_sum {m : List (List Int)} (g : Int → Int → Int) : ∀ (i : Nat), (∀ i' j', i' < i → j' < m.length → 0 ≤ cellOf m i' j') → sumI ((arcsRows m i).map fun r => g (r.getD 0 0) (r.getD 1 0)) = sumTo i fun i' => sumTo m.length fun j' => cellOf m i' j' * g i' j'
  | 0, _ => rfl
  | i + 1, h => by
    rw [arcsRows_next, List.map_append, sumI_append, arcsRows_sum g i fun i' j' hi hj => h i' j' (by omega) hj, arcsRow_sum g m.length fun j' hj => h i j' (by omega) hj, sumTo]
theorem arcsM_sum {m : List (List Int)} (h : isMat m = true) (g : Int → Int → Int) : sumI ((arcsM m).map fun r => g (r.getD 0 0) (r.getD 1 0)) = sumTo m.length fun i => sumTo m.length fun j => cellOf m i j * g i j :=
  arcsRows_sum g m.length fun i' j' hi hj => (((isMat_iff.1 h).2 i' hi).2 j' hj).1

/-! ### Paths by their ends -/

def lastEnd (arcs : List (List Int)) (p : List Int) : Int := endOf arcs (p.getD (p.length - 1) 0)
def extM (arcs : List (List Int)) (p : List Int) : List (List Int) := (List.range arcs.length).flatMap fun k => if goesOnM arcs p k = true then [p ++ [(k : Int)]] else []
theorem flatMap_if {α β : Type} (c : Bool) (l : List α) (F : α → List β) : (if c = true then l else []).flatMap F = if c = true then l.flatMap F else [] := by cases c <;> rfl
theorem fillM_end (arcs : List (List Int)) : ∀ (d : Nat) (head : List Int), fillM arcs (d + 1) head = (fillM arcs d head).flatMap (extM arcs)
  | 0, head => by
    show _ = [head].flatMap (extM arcs)
    rw [List.flatMap_cons, List.flatMap_nil, List.append_nil]; rfl
  | d + 1, head => by
    have e1 : fillM arcs (d + 1 + 1) head = (List.range arcs.length).flatMap fun k => if goesOnM arcs head k = true then fillM arcs (d + 1) (head ++ [(k : Int)]) else [] := rfl
    have e2 : fillM arcs (d + 1) head = (List.range arcs.length).flatMap fun k => if goesOnM arcs head k = true then fillM arcs d (head ++ [(k : Int)]) else [] := rfl
    rw [e1, e2, List.flatMap_assoc]
    congr 1
    funext k
    rw [fillM_end arcs d (head ++ [(k : Int)]), flatMap_if]
theorem fillM_length (arcs : List (List Int)) : ∀ (d : Nat) (head : List Int) (p : List Int), p ∈ fillM arcs d head → p.length = head.length + d
  | 0, head, p, h => by
    have : p = head := by simpa [fillM] using h
    rw [this]; rfl
  | d + 1, head, p, h => by
    have e2 : fillM arcs (d + 1) head = (List.range arcs.length).flatMap fun k => if goesOnM arcs head k = true then fillM arcs d (head ++ [(k : Int)]) else [] := rfl
    rw [e2, List.mem_flatMap] at h
    obtain ⟨k, _, hk⟩ := h
    split at hk
    · have := fillM_length arcs d _ p hk
      rw [List.length_append] at this
      simp at this; omega
    · cases hk
/-- One step of the matrix on a weight of the vertices. -/
def opM (m : List (List Int)) (f : Int → Int) (v : Int) : Int := sumTo m.length fun i => sumTo m.length fun j => cellOf m i j * (if v = (i : Int) then f j else 0)
theorem ext_sum {m : List (List Int)} (h : isMat m = true) (f : Int → Int) {p : List Int} (hp : 0 < p.length) : sumI ((extM (arcsM m) p).map fun q => f (lastEnd (arcsM m) q)) = opM m f (lastEnd (arcsM m) p) := by
  unfold extM
  rw [sumI_flatMap]
  have e : ∀ k : Nat, sumI ((if goesOnM (arcsM m) p k = true then [p ++ [(k : Int)]] else []).map fun q => f (lastEnd (arcsM m) q)) = (fun r : List Int => if lastEnd (arcsM m) p = r.getD 0 0 then f (r.getD 1 0) else 0) ((arcsM m).getD k []) := by
    intro k
    have hg : goesOnM (arcsM m) p k = decide (lastEnd (arcsM m) p = ((arcsM m).getD k []).getD 0 0) := by
      unfold goesOnM
      rw [decide_eq_false (by omega), Bool.false_or]; rfl
    have hl : lastEnd (arcsM m) (p ++ [(k : Int)]) = ((arcsM m).getD k []).getD 1 0 := by
      unfold lastEnd endOf cellOf
      have : (p ++ [(k : Int)]).getD ((p ++ [(k : Int)]).length - 1) 0 = (k : Int) := by simp [List.getD]
      rw [this, Int.toNat_natCast]
    rw [hg]
    by_cases e : lastEnd (arcsM m) p = ((arcsM m).getD k []).getD 0 0
    · rw [decide_eq_true e, if_pos rfl, List.map_cons, List.map_nil, sumI, sumI, hl]
      show _ = if _ then _ else _
      rw [if_pos e]; omega
    · rw [decide_eq_false e, if_neg (by decide)]
      show _ = if _ then _ else _
      rw [if_neg e]; rfl
  rw [List.map_congr_left fun k _ => e k, sumI_index (F := fun r => if lastEnd (arcsM m) p = r.getD 0 0 then f (r.getD 1 0) else 0)]
  exact arcsM_sum h fun x y => if lastEnd (arcsM m) p = x then f y else 0
theorem first_sum {m : List (List Int)} (h : isMat m = true) (f : Int → Int) : sumI ((fillM (arcsM m) 1 []).map fun q => f (lastEnd (arcsM m) q)) = sumTo m.length fun i => sumTo m.length fun j => cellOf m i j * f j := by
  have e2 : fillM (arcsM m) 1 [] = (List.range (arcsM m).length).flatMap fun k => if goesOnM (arcsM m) [] k = true then [([] : List Int) ++ [(k : Int)]] else [] := rfl
  rw [e2, sumI_flatMap]
  have e : ∀ k : Nat, sumI ((if goesOnM (arcsM m) [] k = true then [([] : List Int) ++ [(k : Int)]] else []).map fun q => f (lastEnd (arcsM m) q)) = (fun r : List Int => f (r.getD 1 0)) ((arcsM m).getD k []) := by
    intro k
    rw [if_pos (by rfl), List.map_cons, List.map_nil, sumI, sumI]
    have : lastEnd (arcsM m) ([] ++ [(k : Int)]) = ((arcsM m).getD k []).getD 1 0 := by
      show endOf (arcsM m) (k : Int) = _
      unfold endOf cellOf
      rw [Int.toNat_natCast]
    rw [this]
    show _ = f _
    omega
  rw [List.map_congr_left fun k _ => e k, sumI_index (F := fun r => f (r.getD 1 0))]
  exact arcsM_sum h fun _ y => f y
theorem weight_next {m : List (List Int)} (h : isMat m = true) (d : Nat) (f : Int → Int) : sumI ((fillM (arcsM m) (d + 2) []).map fun q => f (lastEnd (arcsM m) q)) = sumI ((fillM (arcsM m) (d + 1) []).map fun q => opM m f (lastEnd (arcsM m) q)) := by
  rw [fillM_end, sumI_flatMap]
  congr 1
  refine List.map_congr_left fun p hp => ext_sum h f ?_
  have := fillM_length (arcsM m) (d + 1) [] p hp
  simp at this; omega

/-! ### Powers on weights -/

def onW (P : List (List Int)) (n : Nat) (f : Int → Int) : Int := sumTo n fun i => sumTo n fun j => cellOf P i j * f j
theorem opM_row {m : List (List Int)} (f : Int → Int) {k : Nat} (hk : k < m.length) : opM m f (k : Int) = sumTo m.length fun j => cellOf m k j * f j := by
  unfold opM
  have e : ∀ i, i < m.length → (sumTo m.length fun j => cellOf m i j * (if (k : Int) = (i : Int) then f j else 0)) = if k = i then (sumTo m.length fun j => cellOf m i j * f j) else 0 := by
    intro i _
    by_cases e : k = i
    · subst e
      rw [if_pos rfl]
      exact sumTo_congr _ fun j _ => by rw [if_pos rfl]
    · rw [if_neg e]
      rw [sumTo_congr (g := fun _ => 0) _ fun j _ => by rw [if_neg (by omega), Int.mul_zero], sumTo_zero]
  rw [sumTo_congr _ e]
  exact sumTo_single (fun i => sumTo m.length fun j => cellOf m i j * f j) m.length hk
theorem onW_one (m : List (List Int)) (f : Int → Int) : onW (oneM m.length) m.length f = sumTo m.length fun i => f i := by
  unfold onW
  refine sumTo_congr _ fun i hi => ?_
  have e : ∀ j, j < m.length → cellOf (oneM m.length) i j * f j = if i = j then f j else 0 := by
    intro j hj
    unfold oneM
    rw [tabOf_cell hi hj]
    by_cases e : i = j
    · rw [if_pos e, if_pos e, Int.one_mul]
    · rw [if_neg e, if_neg e, Int.zero_mul]
  rw [sumTo_congr _ e]
  exact sumTo_single (fun j => f j) m.length hi
theorem onW_mul {p m : List (List Int)} (hl : p.length = m.length) (f : Int → Int) : onW (mulM p m) m.length f = onW p m.length (opM m f) := by
  unfold onW
  refine sumTo_congr _ fun i hi => ?_
  have e1 : ∀ j, j < m.length → cellOf (mulM p m) i j * f j = sumTo m.length fun k => cellOf p i k * cellOf m k j * f j := by
    intro j hj
    unfold mulM
    rw [tabOf_cell (by omega) hj, sumTo_mul']
  rw [sumTo_congr _ e1, sumTo_swap]
  refine sumTo_congr _ fun k hk => ?_
  rw [opM_row f hk, ← sumTo_mul]
  exact sumTo_congr _ fun j _ => Int.mul_assoc _ _ _
theorem weights_power {m : List (List Int)} (h : isMat m = true) : ∀ (d : Nat) (P : List (List Int)) (f : Int → Int), powM m (d + 1) = some P → sumI ((fillM (arcsM m) (d + 1) []).map fun q => f (lastEnd (arcsM m) q)) = onW P m.length f
  | 0, P, f, hP => by
    rw [first_sum h f]
    have hp : prodM (oneM m.length) m = some P := hP
    obtain ⟨_, _, hl, _, rfl⟩ := prodM_some hp
    rw [onW_mul hl, onW_one]
    exact sumTo_congr _ fun i hi => (opM_row f hi).symm
  | d + 1, P, f, hP => by
    rw [powM] at hP
    obtain ⟨q, hq, hp⟩ := Option.bind_eq_some_iff.1 hP
    obtain ⟨_, _, hl, _, rfl⟩ := prodM_some hp
    rw [weight_next h d f, weights_power h d q (opM m f) hq, onW_mul hl]
/-- The number of paths. -/
theorem paths_count {m : List (List Int)} (h : isMat m = true) (d : Nat) {P : List (List Int)} (hP : powM m (d + 1) = some P) : ((fillM (arcsM m) (d + 1) []).length : Int) = sumM P := by
  have h1 := weights_power h d P (fun _ => 1) hP
  rw [sumI_ones] at h1
  rw [h1]
  have hl := powM_length (d + 1) hP
  unfold onW sumM
  rw [if_pos (powM_isMat h (d + 1) hP), hl]
  exact sumTo_congr _ fun i _ => sumTo_congr _ fun j _ => Int.mul_one _
end Go.Proofs.Ythljogoggiejmaa
