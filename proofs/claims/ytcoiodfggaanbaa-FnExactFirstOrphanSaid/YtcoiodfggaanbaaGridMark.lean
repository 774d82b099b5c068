/-
  The laws' helpers on slices of slices of numbers: a whole copy in new memory; two tables that hold the same are found equal; a table that the call owns is marked, and a marked one is found marked.
-/
import Derived.Test.YtcoiodfggaanbaaGridOps
import Derived.Test.YtcoiodfggaanbaaGridOwn
import Derived.Deep.RegionHeld3
namespace Go.Proofs.Ytcoiodfggaanbaa
open Go Go.RowKit

/-- A copy of a table in new memory, at the heap's end. -/
def CopyGPost (m : List (List Int)) (w : World) (e : Ending) (w' : World) : Prop :=
  e = .returned (.slice (some ⟨w.heap.size, 0, none⟩) m.length m.length) ∧ OwnG w' w.heap.size (.slice (some ⟨w.heap.size, 0, none⟩) m.length m.length) m ∧ Below w.heap.size w w'

/-- The numbers from q on. -/
def marksI (q : Nat) : Nat → List Int
  | 0 => []
  | n + 1 => (q : Int) :: marksI (q + 1) n
theorem marksI_length : ∀ (n q : Nat), (marksI q n).length = n
  | 0, _ => rfl
  | n + 1, q => by rw [marksI, List.length_cons, marksI_length n]
theorem marksI_get : ∀ (n q j : Nat), j < n → (marksI q n).getD j 0 = ((q + j : Nat) : Int)
  | 0, _, j, h => by omega
  | n + 1, q, 0, _ => by simp [marksI]
  | n + 1, q, j + 1, h => by
    rw [marksI, List.getD_cons_succ, marksI_get n (q + 1) j (by omega)]
    congr 1; omega
theorem marksI_next : ∀ (n q : Nat), marksI q (n + 1) = marksI q n ++ [((q + n : Nat) : Int)]
  | 0, q => rfl
  | n + 1, q => by
    rw [marksI, marksI_next n (q + 1), marksI, List.cons_append]
    congr 4; omega
/-- A row that is being marked from the front. -/
def markedI (xs : List Int) (q k : Nat) : List Value := ((marksI q k) ++ xs.drop k).map (Value.int .i64)
theorem markedI_set (xs : List Int) (q k : Nat) (h : k < xs.length) : (markedI xs q k).set k (.int .i64 ((q + k : Nat) : Int)) = markedI xs q (k + 1) := by
  have hl : ((marksI q k).map (Value.int .i64)).length = k := by rw [List.length_map, marksI_length]
  have hd : xs.drop k = xs[k] :: xs.drop (k + 1) := List.drop_eq_getElem_cons h
  unfold markedI
  rw [marksI_next, List.map_append, List.map_append, List.map_append, hd, List.map_cons]
  rw [List.set_append_right _ _ (by omega), hl, Nat.sub_self]
  simp
theorem markedI_at (xs : List Int) (q k : Nat) (h : k < xs.length) : ∃ y, (markedI xs q k)[k]? = some (.int .i64 y) := by
  have hl : (marksI q k).length = k := marksI_length k q
  refine ⟨xs[k], ?_⟩
  unfold markedI
  rw [List.getElem?_map, List.getElem?_append_right (by omega), hl, Nat.sub_self, List.getElem?_drop, Nat.add_zero, List.getElem?_eq_getElem h]
  rfl
theorem markedI_none (xs : List Int) (q : Nat) : markedI xs q 0 = xs.map (Value.int .i64) := by simp [markedI, marksI]
theorem markedI_all (xs : List Int) (q : Nat) : markedI xs q xs.length = (marksI q xs.length).map (Value.int .i64) := by simp [markedI]

/-- The row holds the marks from q on; of what was there no other block has turned. -/
def MarkIPost (B q : Nat) (r : Value) (n : Nat) (w : World) (e : Ending) (w' : World) : Prop :=
  e = .returned (.int .i64 ((q + n : Nat) : Int)) ∧ w'.ownsRow B 3 1 r n ((marksI q n).map (Value.int .i64)) ∧ w.grownBy w' r.ownBlock

/-- The tables of marks: each row goes on where the one before it ended. -/
def marksG : Nat → List (List Int) → List (List Int)
  | _, [] => []
  | q, r :: m => marksI q r.length :: marksG (q + r.length) m
theorem marksG_length : ∀ (m : List (List Int)) (q : Nat), (marksG q m).length = m.length
  | [], _ => rfl
  | r :: m, q => by rw [marksG, List.length_cons, marksG_length m, List.length_cons]
theorem tot_cons (r : List Int) (m : List (List Int)) : tot (r :: m) = r.length + tot m := by simp [tot]
theorem marksG_get : ∀ (m : List (List Int)) (q k : Nat), k < m.length → (marksG q m).getD k [] = marksI (q + tot (m.take k)) (m.getD k []).length
  | [], _, k, h => by simp at h
  | r :: m, q, 0, _ => by simp [marksG, tot]
  | r :: m, q, k + 1, h => by
    rw [marksG, List.getD_cons_succ, marksG_get m (q + r.length) k (by simpa using h), List.getD_cons_succ, List.take_succ_cons, tot_cons]
    congr 1; omega
theorem tot_marksG : ∀ (m : List (List Int)) (q : Nat), tot (marksG q m) = tot m
  | [], _ => rfl
  | r :: m, q => by rw [marksG, tot_cons, tot_cons, marksI_length, tot_marksG m]
/-- A table that is being marked from the front. -/
def markedG (m : List (List Int)) (q k : Nat) : List (List Int) := (marksG q m).take k ++ m.drop k
theorem markedG_length (m : List (List Int)) (q k : Nat) (hk : k ≤ m.length) : (markedG m q k).length = m.length := by
  unfold markedG; simp [marksG_length]; omega
theorem markedG_none (m : List (List Int)) (q : Nat) : markedG m q 0 = m := by simp [markedG]
theorem markedG_all (m : List (List Int)) (q : Nat) : markedG m q m.length = marksG q m := by
  unfold markedG
  rw [List.drop_length, List.append_nil, List.take_of_length_le (by rw [marksG_length]; exact Nat.le_refl _)]
theorem markedG_get (m : List (List Int)) (q k : Nat) (hk : k < m.length) : (markedG m q k).getD k [] = m.getD k [] := by
  unfold markedG
  have hl : ((marksG q m).take k).length = k := by rw [List.length_take, marksG_length]; omega
  simp only [List.getD]
  rw [List.getElem?_append_right (by omega), hl, Nat.sub_self, List.getElem?_drop, Nat.add_zero]
theorem markedG_set (m : List (List Int)) (q k : Nat) (hk : k < m.length) : (markedG m q k).set k (marksI (q + tot (m.take k)) (m.getD k []).length) = markedG m q (k + 1) := by
  unfold markedG
  have hl : ((marksG q m).take k).length = k := by rw [List.length_take, marksG_length]; omega
  have hm : k < (marksG q m).length := by rw [marksG_length]; exact hk
  have hd : m.drop k = m[k] :: m.drop (k + 1) := List.drop_eq_getElem_cons hk
  have hg := marksG_get m q k hk
  rw [List.set_append_right _ _ (by omega), hl, Nat.sub_self, hd, List.set_cons_zero, List.take_succ_eq_append_getElem hm, List.append_assoc, List.singleton_append]
  congr 2
  rw [← hg]
  simp [List.getD, hm]

/-- The table holds the marks; of what was there only blocks from B on and below S have turned. -/
def MarkGPost (B S q : Nat) (v : Value) (m : List (List Int)) (w : World) (e : Ending) (w' : World) : Prop :=
  e = .returned (.int .i64 ((q + tot m : Nat) : Int)) ∧ OwnIn w' B S v (marksG q m) ∧ Within B S w w'

end Go.Proofs.Ytcoiodfggaanbaa
