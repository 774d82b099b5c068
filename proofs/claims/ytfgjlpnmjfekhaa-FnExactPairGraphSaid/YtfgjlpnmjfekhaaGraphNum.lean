/-
  PLAIN FACTS ON GRAPHS (no program in this text): the arcs of a matrix, paths of arcs, the vertices through which endless paths go, and the matrix of some vertices only.
-/
import Derived.Test.YtfgjlpnmjfekhaaGridNum
namespace Go.Proofs.Ytfgjlpnmjfekhaa
open Go Go.RowKit

def isGraphM (m : List (List Int)) : Bool := isMat m && decide (sumM m ≤ 60)

/-! ### Arcs -/

def arcsRow (m : List (List Int)) (i j : Nat) : List (List Int) := (List.range j).flatMap fun j' => List.replicate (cellOf m i j').toNat [(i : Int), (j' : Int)]
def arcsRows (m : List (List Int)) (i : Nat) : List (List Int) := (List.range i).flatMap fun i' => arcsRow m i' m.length
/-- The arcs ahead of i and j, and k arcs there. -/
def arcsTo (m : List (List Int)) (i j k : Nat) : List (List Int) := arcsRows m i ++ arcsRow m i j ++ List.replicate k [(i : Int), (j : Int)]
def arcsM (m : List (List Int)) : List (List Int) := arcsRows m m.length
theorem arcsRow_next (m : List (List Int)) (i j : Nat) : arcsRow m i (j + 1) = arcsRow m i j ++ List.replicate (cellOf m i j).toNat [(i : Int), (j : Int)] := by
  unfold arcsRow; rw [List.range_succ, List.flatMap_append]; simp
theorem arcsRows_next (m : List (List Int)) (i : Nat) : arcsRows m (i + 1) = arcsRows m i ++ arcsRow m i m.length := by
  unfold arcsRows; rw [List.range_succ, List.flatMap_append]; simp
theorem arcsTo_zero (m : List (List Int)) : arcsTo m 0 0 0 = [] := rfl
theorem arcsTo_next (m : List (List Int)) (i j k : Nat) : arcsTo m i j (k + 1) = arcsTo m i j k ++ [[(i : Int), (j : Int)]] := by
  unfold arcsTo; rw [List.replicate_succ', ← List.append_assoc]
theorem arcsTo_col (m : List (List Int)) (i j : Nat) : arcsTo m i j (cellOf m i j).toNat = arcsTo m i (j + 1) 0 := by
  unfold arcsTo; rw [arcsRow_next, List.replicate_zero, List.append_nil, List.append_assoc]
theorem arcsTo_row (m : List (List Int)) (i : Nat) : arcsTo m i m.length 0 = arcsTo m (i + 1) 0 0 := by
  unfold arcsTo; rw [arcsRows_next]; simp [arcsRow]
theorem arcsTo_all (m : List (List Int)) : arcsTo m m.length 0 0 = arcsM m := by
  unfold arcsTo arcsM; simp [arcsRow]
theorem arcsRow_length {m : List (List Int)} {i : Nat} : ∀ (j : Nat), (∀ j', j' < j → 0 ≤ cellOf m i j') → ((arcsRow m i j).length : Int) = sumTo j fun j' => cellOf m i j'
  | 0, _ => rfl
  | j + 1, h => by
    have h1 := arcsRow_length j fun j' hj => h j' (by omega)
    have h2 := h j (by omega)
    rw [arcsRow_next, List.length_append, List.length_replicate, sumTo, ← h1]
    omega
theorem arcsRows_length {m : List (List Int)} : ∀ (i : Nat), (∀ i' j', i' < i → j' < m.length → 0 ≤ cellOf m i' j') → ((arcsRows m i).length : Int) = sumTo i fun i' => sumTo m.length fun j' => cellOf m i' j'
  | 0, _ => rfl
  | i + 1, h => by
    have h1 := arcsRows_length i fun i' j' hi hj => h i' j' (by omega) hj
    have h2 := arcsRow_length (i := i) m.length fun j' hj => h i j' (by omega) hj
    rw [arcsRows_next, List.length_append, sumTo, ← h1, ← h2]
    omega
/-- As many arcs as the sum of all numbers. -/
theorem arcsM_length {m : List (List Int)} (h : isMat m = true) : ((arcsM m).length : Int) = sumM m := by
  unfold arcsM sumM
  rw [if_pos h]
  exact arcsRows_length m.length fun i' j' hi hj => (((isMat_iff.1 h).2 i' hi).2 j' hj).1
theorem arcsTo_le {m : List (List Int)} (h : isMat m = true) {i j k : Nat} (hi : i ≤ m.length) (hj : j ≤ m.length) (hij : i < m.length ∨ j = 0) (hk : k ≤ 1000000) : (arcsTo m i j k).length ≤ 100000000 := by
  obtain ⟨⟨_, h9⟩, hc⟩ := isMat_iff.1 h
  have h1 := arcsRows_length (m := m) i fun i' j' hi' hj' => ((hc i' (by omega)).2 j' hj').1
  have h2 := sumTo_le (f := fun i' => sumTo m.length fun j' => cellOf m i' j') (B := 9000000) i fun i' hi' => by
    have := sumTo_le (f := fun j' => cellOf m i' j') (B := 1000000) m.length fun j' hj' => (hc i' (by omega)).2 j' hj'
    exact ⟨this.1, by omega⟩
  have h3 : (arcsRow m i j).length ≤ 9000000 := by
    rcases hij with hij | rfl
    · have h4 := arcsRow_length (m := m) (i := i) j fun j' hj' => ((hc i hij).2 j' (by omega)).1
      have h5 := sumTo_le (f := fun j' => cellOf m i j') (B := 1000000) j fun j' hj' => (hc i hij).2 j' (by omega)
      omega
    · simp [arcsRow]
  unfold arcsTo
  rw [List.length_append, List.length_append, List.length_replicate]
  omega
/-- Each arc has two ends. -/
theorem arcsM_two (m : List (List Int)) : ∀ r ∈ arcsM m, r.length = 2 := by
  intro r hr
  unfold arcsM arcsRows arcsRow at hr
  simp only [List.mem_flatMap, List.mem_range, List.mem_replicate] at hr
  obtain ⟨i, _, j, _, _, rfl⟩ := hr
  rfl

/-! ### Paths -/

def endOf (arcs : List (List Int)) (k : Int) : Int := cellOf arcs k.toNat 1
def startOf (arcs : List (List Int)) (k : Int) : Int := cellOf arcs k.toNat 0
def pathOk (arcs : List (List Int)) (p : List Int) (k : Nat) : Bool :=
  (decide (0 ≤ p.getD k 0) && decide (p.getD k 0 ≤ (arcs.length : Int) - 1)) && (decide (k = 0) || decide (endOf arcs (p.getD (k - 1) 0) = startOf arcs (p.getD k 0)))
def isPathM (arcs : List (List Int)) (p : List Int) : Bool := (List.range p.length).all (pathOk arcs p)
theorem isPathM_bad {arcs : List (List Int)} {p : List Int} {k : Nat} (hk : k < p.length) (h : pathOk arcs p k = false) : isPathM arcs p = false := by
  unfold isPathM
  rw [List.all_eq_false]
  exact ⟨k, List.mem_range.2 hk, by rw [h]; simp⟩
theorem isPathM_all {arcs : List (List Int)} {p : List Int} (h : ∀ k, k < p.length → pathOk arcs p k = true) : isPathM arcs p = true := by
  unfold isPathM
  rw [List.all_eq_true]
  exact fun k hk => h k (List.mem_range.1 hk)

/-- Whether arc k goes on where the path's last arc ends. -/
def goesOnM (arcs : List (List Int)) (head : List Int) (k : Nat) : Bool := decide (head.length = 0) || decide (endOf arcs (head.getD (head.length - 1) 0) = cellOf arcs k 0)
/-- The paths that begin with head and have d arcs more. -/
def fillM (arcs : List (List Int)) : Nat → List Int → List (List Int)
  | 0, head => [head]
  | d + 1, head => (List.range arcs.length).flatMap fun k => if goesOnM arcs head k = true then fillM arcs d (head ++ [(k : Int)]) else []
/-- Those whose next arc is ahead of k. -/
def fillTo (arcs : List (List Int)) (d : Nat) (head : List Int) (k : Nat) : List (List Int) := (List.range k).flatMap fun k => if goesOnM arcs head k = true then fillM arcs d (head ++ [(k : Int)]) else []
theorem fillTo_zero (arcs : List (List Int)) (d : Nat) (head : List Int) : fillTo arcs d head 0 = [] := rfl
theorem fillTo_next (arcs : List (List Int)) (d : Nat) (head : List Int) (k : Nat) : fillTo arcs d head (k + 1) = fillTo arcs d head k ++ (if goesOnM arcs head k = true then fillM arcs d (head ++ [(k : Int)]) else []) := by
  unfold fillTo; rw [List.range_succ, List.flatMap_append]; simp
theorem fillTo_all (arcs : List (List Int)) (d : Nat) (head : List Int) : fillTo arcs d head arcs.length = fillM arcs (d + 1) head := rfl
theorem fillM_le (arcs : List (List Int)) : ∀ (d : Nat) (head : List Int), (fillM arcs d head).length ≤ arcs.length ^ d
  | 0, head => by simp [fillM]
  | d + 1, head => by
    have h : ∀ k, (fillTo arcs d head k).length ≤ k * arcs.length ^ d := by
      intro k
      induction k with
      | zero => simp [fillTo]
      | succ k ih =>
        rw [fillTo_next, List.length_append, Nat.add_mul, Nat.one_mul]
        split
        · have := fillM_le arcs d (head ++ [(k : Int)])
          omega
        · simp; omega
    have := h arcs.length
    rw [fillTo_all] at this
    rw [Nat.pow_succ, Nat.mul_comm]; exact this

/-! ### What goes on for ever -/

/-- Each vertex of T has arcs to and from vertices of T. -/
def Good (m : List (List Int)) (T : Nat → Bool) : Prop := ∀ i, T i = true → i < m.length ∧ (∃ j, T j = true ∧ 0 < cellOf m i j) ∧ ∃ j, T j = true ∧ 0 < cellOf m j i
def liveStep (m : List (List Int)) (S : Nat → Bool) : Nat → Bool := fun i => S i && ((List.range m.length).any fun j => S j && decide (0 < cellOf m i j)) && ((List.range m.length).any fun j => S j && decide (0 < cellOf m j i))
def liveK (m : List (List Int)) : Nat → Nat → Bool
  | 0 => fun i => decide (i < m.length)
  | k + 1 => liveStep m (liveK m k)
def liveM (m : List (List Int)) : Nat → Bool := liveK m m.length
theorem liveK_lt {m : List (List Int)} : ∀ (k : Nat) {i : Nat}, liveK m k i = true → i < m.length
  | 0, i, h => of_decide_eq_true h
  | k + 1, i, h => by
    unfold liveK liveStep at h
    rw [Bool.and_eq_true, Bool.and_eq_true] at h
    exact liveK_lt k h.1.1
theorem liveK_less {m : List (List Int)} (k i : Nat) (h : liveK m (k + 1) i = true) : liveK m k i = true := by
  unfold liveK liveStep at h
  rw [Bool.and_eq_true, Bool.and_eq_true] at h
  exact h.1.1
theorem good_in_step {m : List (List Int)} {T S : Nat → Bool} (hT : Good m T) (hS : ∀ i, T i = true → S i = true) : ∀ i, T i = true → liveStep m S i = true := by
  intro i hi
  obtain ⟨_, ⟨j, hj, hj2⟩, k, hk, hk2⟩ := hT i hi
  unfold liveStep
  rw [Bool.and_eq_true, Bool.and_eq_true, List.any_eq_true, List.any_eq_true]
  refine ⟨⟨hS i hi, j, List.mem_range.2 (hT j hj).1, ?_⟩, k, List.mem_range.2 (hT k hk).1, ?_⟩
  · rw [hS j hj, decide_eq_true hj2]; rfl
  · rw [hS k hk, decide_eq_true hk2]; rfl
theorem good_in_liveK {m : List (List Int)} {T : Nat → Bool} (hT : Good m T) : ∀ (k i : Nat), T i = true → liveK m k i = true
  | 0, i, h => decide_eq_true (hT i h).1
  | k + 1, i, h => good_in_step hT (good_in_liveK hT k) i h
theorem good_of_step {m : List (List Int)} {S : Nat → Bool} (hl : ∀ i, S i = true → i < m.length) (h : ∀ i, S i = true → liveStep m S i = true) : Good m S := by
  intro i hi
  have h1 := h i hi
  unfold liveStep at h1
  rw [Bool.and_eq_true, Bool.and_eq_true, List.any_eq_true, List.any_eq_true] at h1
  obtain ⟨⟨_, j, _, hj⟩, k, _, hk⟩ := h1
  rw [Bool.and_eq_true] at hj hk
  exact ⟨hl i hi, ⟨j, hj.1, of_decide_eq_true hj.2⟩, k, hk.1, of_decide_eq_true hk.2⟩
theorem filter_lt {α : Type} {p q : α → Bool} (hpq : ∀ x, p x = true → q x = true) : ∀ (l : List α), (∃ x ∈ l, q x = true ∧ p x = false) → (l.filter p).length < (l.filter q).length
  | [], h => by obtain ⟨x, hx, _⟩ := h; cases hx
  | y :: l, h => by
    have hle : (l.filter p).length ≤ (l.filter q).length := by
      clear h
      induction l with
      | nil => exact Nat.le_refl _
      | cons z l ih =>
        cases hp : p z with
        | true => rw [List.filter_cons_of_pos hp, List.filter_cons_of_pos (hpq z hp)]; simp; exact ih
        | false =>
          rw [List.filter_cons_of_neg (by rw [hp]; simp)]
          cases hq : q z with
          | true => rw [List.filter_cons_of_pos hq]; simp; omega
          | false => rw [List.filter_cons_of_neg (by rw [hq]; simp)]; exact ih
    obtain ⟨x, hx, hq, hp⟩ := h
    rcases List.mem_cons.1 hx with rfl | hx
    · rw [List.filter_cons_of_neg (by rw [hp]; simp), List.filter_cons_of_pos hq]; simp; omega
    · have ih := filter_lt hpq l ⟨x, hx, hq, hp⟩
      cases hp2 : p y with
      | true => rw [List.filter_cons_of_pos hp2, List.filter_cons_of_pos (hpq y hp2)]; simp; exact ih
      | false =>
        rw [List.filter_cons_of_neg (by rw [hp2]; simp)]
        cases hq2 : q y with
        | true => rw [List.filter_cons_of_pos hq2]; simp; omega
        | false => rw [List.filter_cons_of_neg (by rw [hq2]; simp)]; exact ih
def liveCount (m : List (List Int)) (k : Nat) : Nat := ((List.range m.length).filter (liveK m k)).length
/-- Either a step changes nothing, or there are fewer vertices. -/
theorem live_step_or (m : List (List Int)) (k : Nat) : (∀ i, liveK m k i = true → liveK m (k + 1) i = true) ∨ liveCount m (k + 1) < liveCount m k := by
  by_cases h : ∀ i, liveK m k i = true → liveK m (k + 1) i = true
  · exact Or.inl h
  · right
    have hx : ∃ i, liveK m k i = true ∧ liveK m (k + 1) i = false := by
      refine Classical.byContradiction fun hn => h fun i hi => ?_
      cases e : liveK m (k + 1) i with
      | true => rfl
      | false => exact absurd ⟨i, hi, e⟩ hn
    obtain ⟨i, h1, h2⟩ := hx
    exact filter_lt (liveK_less k) _ ⟨i, List.mem_range.2 (liveK_lt k h1), h1, h2⟩
theorem live_still {m : List (List Int)} {k : Nat} (h : ∀ i, liveK m k i = true → liveK m (k + 1) i = true) : ∀ (d : Nat), liveK m (k + d) = liveK m k
  | 0 => rfl
  | d + 1 => by
    have ih := live_still h d
    show liveStep m (liveK m (k + d)) = _
    rw [ih]
    funext i
    cases e : liveK m k i with
    | true => exact h i e
    | false =>
      cases e2 : liveStep m (liveK m k) i with
      | false => rfl
      | true => rw [liveK_less k i e2] at e; cases e
theorem live_count_le (m : List (List Int)) : ∀ (k : Nat), (∃ j, j < k ∧ ∀ i, liveK m j i = true → liveK m (j + 1) i = true) ∨ liveCount m k + k ≤ m.length
  | 0 => by
    right
    unfold liveCount
    have := List.length_filter_le (liveK m 0) (List.range m.length)
    rw [List.length_range] at this
    omega
  | k + 1 => by
    rcases live_count_le m k with ⟨j, hj, h⟩ | h
    · exact Or.inl ⟨j, by omega, h⟩
    · rcases live_step_or m k with h2 | h2
      · exact Or.inl ⟨k, by omega, h2⟩
      · exact Or.inr (by omega)
theorem liveM_good (m : List (List Int)) : Good m (liveM m) := by
  refine good_of_step (fun i h => liveK_lt m.length h) fun i h => ?_
  rcases live_count_le m m.length with ⟨j, hj, hs⟩ | hc
  · have e := live_still hs (m.length - j)
    rw [show j + (m.length - j) = m.length by omega] at e
    unfold liveM at h ⊢
    rw [e] at h ⊢
    exact hs i h
  · exfalso
    have h0 : liveCount m m.length = 0 := by omega
    unfold liveCount at h0
    have := List.eq_nil_of_length_eq_zero h0
    have hm : i ∈ (List.range m.length).filter (liveK m m.length) := List.mem_filter.2 ⟨List.mem_range.2 (liveK_lt m.length h), h⟩
    rw [this] at hm
    cases hm
/-- The greatest set of this kind is the only one that has every other. -/
theorem live_only {m : List (List Int)} {S : Nat → Bool} (h1 : Good m S) (h2 : ∀ T, Good m T → ∀ i, T i = true → S i = true) : S = liveM m := by
  funext i
  cases e : S i with
  | true => exact (good_in_liveK h1 m.length i e).symm
  | false =>
    cases e2 : liveM m i with
    | false => rfl
    | true => rw [h2 _ (liveM_good m) i e2] at e; cases e
/-- The vertices, in order. -/
def liveList (m : List (List Int)) (k : Nat) : List Int := ((List.range k).filter (liveM m)).map fun (i : Nat) => (i : Int)
def livelyM (m : List (List Int)) : List Int := if isMat m = true then liveList m m.length else []
theorem liveList_next (m : List (List Int)) (k : Nat) : liveList m (k + 1) = liveList m k ++ (if liveM m k = true then [(k : Int)] else []) := by
  unfold liveList
  rw [List.range_succ, List.filter_append, List.map_append]
  cases h : liveM m k <;> simp [h]
theorem liveList_le (m : List (List Int)) (k : Nat) : (liveList m k).length ≤ k := by
  unfold liveList
  rw [List.length_map]
  have := List.length_filter_le (liveM m) (List.range k)
  rwa [List.length_range] at this
theorem liveList_mem {m : List (List Int)} {k : Nat} {x : Int} (h : x ∈ liveList m k) : ∃ i : Nat, x = (i : Int) ∧ i < k ∧ liveM m i = true := by
  unfold liveList at h
  obtain ⟨i, hi, rfl⟩ := List.mem_map.1 h
  obtain ⟨h1, h2⟩ := List.mem_filter.1 hi
  exact ⟨i, rfl, List.mem_range.1 h1, h2⟩
/-- The matrix of some rows and columns. -/
def partM (m : List (List Int)) (l : List Int) : List (List Int) := tabOf l.length l.length fun i j => cellOf m (l.getD i 0).toNat (l.getD j 0).toNat
def trimM (m : List (List Int)) : Option (List (List Int)) := if (livelyM m).length = 0 then none else some (partM m (livelyM m))
def isLivelyM (m : List (List Int)) : Bool := isMat m && decide ((livelyM m).length = m.length)
end Go.Proofs.Ytfgjlpnmjfekhaa
