/-
  PLAIN FACTS ON COUNTING SOURCES FROM THE FRONT (no program in this text): the row of counts while it is filled, and its bounds.
-/
import Derived.Test.YtcoiodfggaanbaaOntoFwd
import Derived.Test.YtcoiodfggaanbaaOntoLink
namespace Go.Proofs.Ytcoiodfggaanbaa
open Go

/-- The row of q numbers. -/
def rowN (q : Nat) (f : Nat → Nat) : List Value := (List.range q).map fun t => .int .i64 ((f t : Nat) : Int)
theorem rowN_len (q : Nat) (f : Nat → Nat) : (rowN q f).length = q := by simp [rowN]
theorem rowN_at {q t : Nat} (f : Nat → Nat) (h : t < q) : (rowN q f)[t]? = some (.int .i64 ((f t : Nat) : Int)) := by
  unfold rowN
  rw [List.getElem?_map, List.getElem?_eq_getElem (by simpa using h), List.getElem_range]; rfl
theorem rowN_congr {q : Nat} {f g : Nat → Nat} (h : ∀ t, t < q → f t = g t) : rowN q f = rowN q g := by
  unfold rowN
  exact List.map_congr_left fun t ht => by rw [h t (List.mem_range.1 ht)]
theorem rowN_set {q a : Nat} {f g : Nat → Nat} (h : ∀ t, t < q → t ≠ a → f t = g t) : (rowN q f).set a (.int .i64 ((g a : Nat) : Int)) = rowN q g := by
  refine List.ext_getElem (by rw [List.length_set, rowN_len, rowN_len]) fun i h1 h2 => ?_
  rw [rowN_len] at h2
  rw [List.getElem_set]
  by_cases e : a = i
  · subst e
    rw [if_pos rfl]; simp [rowN]
  · rw [if_neg e]
    simp [rowN, h i h2 (fun h => e h.symm)]
theorem rowN_ones (k : Nat) : rowN k (fun _ => 1) ++ [.int .i64 1] = rowN (k + 1) fun _ => 1 := by
  unfold rowN
  rw [List.range_succ, List.map_append]; rfl
theorem rowN_zero (k : Nat) : List.replicate k (Value.int .i64 0) = rowN k fun _ => 0 := by
  induction k with
  | zero => rfl
  | succ n ih => rw [List.replicate_succ', ih]; unfold rowN; rw [List.range_succ, List.map_append]; rfl
section
variable {k q : Nat} {out : Nat → Nat}
theorem fwdTo_not {c K X : Nat} (now : Nat → Nat) (h : out (K * k + X) ≠ c) (t : Nat) : fwdTo k q out c now K (X + 1) t = fwdTo k q out c now K X t := by
  rw [fwdTo_next]; unfold atP; rw [if_neg (fun e => h e.1), Nat.add_zero]
theorem fwdTo_put {c K X : Nat} (now : Nat → Nat) (h : out (K * k + X) = c) : fwdTo k q out c now K (X + 1) ((K * k + X) % q) = fwdTo k q out c now K X ((K * k + X) % q) + now K := by
  rw [fwdTo_next]; unfold atP; rw [if_pos ⟨h, rfl⟩]
theorem fwdTo_else {c K X t : Nat} (now : Nat → Nat) (h : t ≠ (K * k + X) % q) : fwdTo k q out c now K X t = fwdTo k q out c now K (X + 1) t := by
  rw [fwdTo_next]; unfold atP; rw [if_neg (fun e => h e.2.symm), Nat.add_zero]
theorem fwdTo_le {B : Nat} (c : Nat) (now : Nat → Nat) (hnow : ∀ s, now s ≤ B) (K X t : Nat) : fwdTo k q out c now K X t ≤ (K * k + X) * B := by
  have hp : ∀ p a, a ≤ B → atP q out c t p a ≤ B := fun p a h => by unfold atP; split <;> omega
  have h1 : sumN K (fun s => sumN k fun x => atP q out c t (s * k + x) (now s)) ≤ K * (k * B) := by
    rw [← sumN_const (k * B) K]
    exact sumN_le K fun s _ => by
      rw [← sumN_const B k]
      exact sumN_le k fun x _ => hp _ _ (hnow s)
  have h2 : sumN X (fun x => atP q out c t (K * k + x) (now K)) ≤ X * B := by
    rw [← sumN_const B X]
    exact sumN_le X fun x _ => hp _ _ (hnow K)
  unfold fwdTo
  rw [Nat.add_mul, Nat.mul_assoc]
  omega
theorem fwdW_le (hle : q * k ≤ 27) (w : List Nat) : ∀ (n : Nat) (now : Nat → Nat) (B : Nat), w.length = n → (∀ s, now s ≤ B) → ∀ s, fwdW k q out w now s ≤ 27 ^ n * B := by
  induction w with
  | nil =>
    intro n now B hn h s
    rw [← hn]
    show now s ≤ 1 * B
    rw [Nat.one_mul]; exact h s
  | cons c w ih =>
    intro n now B hn h s
    have h1 : ∀ s, fwdL k q out c now s ≤ 27 * B := fun s => by
      rw [← fwdTo_all]
      refine Nat.le_trans (fwdTo_le c now h q 0 s) ?_
      rw [Nat.add_zero]
      exact Nat.mul_le_mul_right _ hle
    have h2 := ih w.length (fwdL k q out c now) (27 * B) rfl h1 s
    rw [← hn, List.length_cons, Nat.pow_succ, Nat.mul_assoc]
    exact h2
theorem fwdW_take (w : List Nat) {i : Nat} (hi : i < w.length) (now : Nat → Nat) : fwdW k q out (w.take (i + 1)) now = fwdL k q out (w.getD i 0) (fwdW k q out (w.take i) now) := by
  rw [List.take_succ_eq_append_getElem hi, fwdW_snoc, List.getD_eq_getElem?_getD, List.getElem?_eq_getElem hi]; rfl
end
/-- The byte at a place of the code is the letter, if their numbers are the same. -/
theorem same_letter {k : Nat} {a b : UInt8} (ha : isL (k : Int) a = true) (hb : isL (k : Int) b = true) : (((a.toNat : Int)) == ((b.toNat : Int))) = decide (a.toNat - 97 = b.toNat - 97) := by
  have h1 := digit_lt ha
  have h2 := digit_lt hb
  by_cases h : a.toNat = b.toNat
  · rw [h]; simp
  · rw [decide_eq_false (by omega), beq_eq_false_iff_ne]; omega
theorem pow_split {k n : Nat} (n1 : 1 ≤ n) : k ^ n = k ^ (n - 1) * k := by
  have : n = n - 1 + 1 := by omega
  rw [this, Nat.pow_succ, Nat.add_sub_cancel]
theorem place_lt {k q K X : Nat} (hK : K < q) (hX : X < k) : K * k + X < q * k := by
  have h1 : (K + 1) * k ≤ q * k := Nat.mul_le_mul_right _ hK
  rw [Nat.succ_mul] at h1
  omega
end Go.Proofs.Ytcoiodfggaanbaa
