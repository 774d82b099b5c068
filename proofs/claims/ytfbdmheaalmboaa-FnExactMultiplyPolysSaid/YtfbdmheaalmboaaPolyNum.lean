/-
  PLAIN FACTS ON POLYNOMIALS AND DETERMINANTS (no program in this text): determinants by their first row, and of the table that is turned around; a list without zeros at the end; products, values.
-/
import Derived.Test.YtfbdmheaalmboaaMatSpec
namespace Go.Proofs.Ytfbdmheaalmboaa
open Go Go.RowKit

def sgn (j : Nat) : Int := if j % 2 = 0 then 1 else -1
theorem sgn_next (j : Nat) : sgn (j + 1) = -sgn j := by
  unfold sgn
  by_cases h : j % 2 = 0
  · rw [if_pos h, if_neg (by omega)]
  · rw [if_neg h, if_pos (by omega)]; rfl
theorem sgn_two (j : Nat) : sgn j = 1 ∨ sgn j = -1 := by
  unfold sgn
  split
  · exact Or.inl rfl
  · exact Or.inr rfl
/-- A table without its first row and column j. -/
def lessF (f : Nat → Nat → Int) (j : Nat) : Nat → Nat → Int := fun a b => f (a + 1) (if b < j then b else b + 1)
def detF : Nat → (Nat → Nat → Int) → Int
  | 0, _ => 1
  | n + 1, f => sumTo (n + 1) fun j => sgn j * f 0 j * detF n (lessF f j)
theorem detF_congr : ∀ {n : Nat} {f g : Nat → Nat → Int}, (∀ i j, i < n → j < n → f i j = g i j) → detF n f = detF n g
  | 0, _, _, _ => rfl
  | n + 1, f, g, h => by
    rw [detF, detF]
    refine sumTo_congr _ fun j hj => ?_
    rw [h 0 j (by omega) hj, detF_congr (n := n) (f := lessF f j) (g := lessF g j) fun a b ha hb => ?_]
    unfold lessF
    exact h _ _ (by omega) (by split <;> omega)
theorem detF_turn {n : Nat} (hn : n ≤ 4) (f : Nat → Nat → Int) : detF n (fun i j => f j i) = detF n f := by
  have h : n = 0 ∨ n = 1 ∨ n = 2 ∨ n = 3 ∨ n = 4 := by omega
  rcases h with rfl | rfl | rfl | rfl | rfl
  · rfl
  · rfl
  · simp [detF, sumTo, sgn, lessF]
    grind
  · simp [detF, sumTo, sgn, lessF]
    grind
  · simp [detF, sumTo, sgn, lessF]
    grind
/-- n! times B to the n. -/
def detB (B : Nat) : Nat → Nat
  | 0 => 1
  | n + 1 => (n + 1) * (B * detB B n)
theorem sumTo_abs {f : Nat → Int} {B : Nat} : ∀ {n : Nat}, (∀ k, k < n → (f k).natAbs ≤ B) → (sumTo n f).natAbs ≤ n * B
  | 0, _ => by simp [sumTo]
  | n + 1, h => by
    have h1 := sumTo_abs (n := n) fun k hk => h k (by omega)
    have h2 := h n (by omega)
    rw [sumTo, Nat.add_mul, Nat.one_mul]
    omega
theorem term_abs {s x d : Int} {B D : Nat} (hs : s = 1 ∨ s = -1) (hx : x.natAbs ≤ B) (hd : d.natAbs ≤ D) : (s * x * d).natAbs ≤ B * D := by
  rw [Int.natAbs_mul, Int.natAbs_mul]
  have e : s.natAbs = 1 := by rcases hs with rfl | rfl <;> rfl
  rw [e, Nat.one_mul]
  exact Nat.mul_le_mul hx hd
theorem detF_abs {B : Nat} : ∀ {n : Nat} {f : Nat → Nat → Int}, (∀ i j, i < n → j < n → (f i j).natAbs ≤ B) → (detF n f).natAbs ≤ detB B n
  | 0, _, _ => Nat.le_refl _
  | n + 1, f, h => by
    rw [detF, detB]
    refine sumTo_abs fun j hj => term_abs (sgn_two j) (h 0 j (by omega) hj) (detF_abs fun a b ha hb => ?_)
    exact h _ _ (by omega) (by split <;> omega)

/-! ### Lists of numbers -/

/-- How many numbers are left of the first n without zeros at the end. -/
def cutLen (p : List Int) : Nat → Nat
  | 0 => 0
  | n + 1 => if p.getD n 0 = 0 then cutLen p n else n + 1
theorem cutLen_le (p : List Int) : ∀ n, cutLen p n ≤ n
  | 0 => Nat.le_refl _
  | n + 1 => by
    rw [cutLen]
    split
    · exact Nat.le_trans (cutLen_le p n) (by omega)
    · exact Nat.le_refl _
def cutL (p : List Int) : List Int := p.take (cutLen p p.length)
def fitsB (p : List Int) (most : Nat) : Bool := (p.all fun x => decide (-1000000 ≤ x ∧ x ≤ 1000000)) && decide (p.length ≤ most)
theorem fits_at {p : List Int} {most : Nat} (h : fitsB p most = true) : p.length ≤ most ∧ ∀ k, (p.getD k 0).natAbs ≤ 1000000 := by
  unfold fitsB at h
  rw [Bool.and_eq_true, decide_eq_true_iff, List.all_eq_true] at h
  refine ⟨h.2, fun k => ?_⟩
  by_cases hk : k < p.length
  · have := h.1 p[k] (List.getElem_mem hk)
    rw [decide_eq_true_iff] at this
    rw [List.getD_eq_getElem?_getD, List.getElem?_eq_getElem hk, Option.getD_some]
    omega
  · rw [List.getD_eq_getElem?_getD, List.getElem?_eq_none (by omega)]
    decide
/-- The product's numbers. -/
def termC (a b : List Int) (t i : Nat) : Int := if i ≤ t ∧ t - i < b.length then a.getD i 0 * b.getD (t - i) 0 else 0
def convL (a b : List Int) : List Int := (List.range (a.length + b.length - 1)).map fun t => sumTo a.length (termC a b t)
def mulP (a b : List Int) : List Int := if fitsB a 30 && fitsB b 30 && decide (a ≠ [] ∧ b ≠ []) then cutL (convL a b) else []
/-- The value of the last n numbers. -/
def hor (p : List Int) (x : Int) : Nat → Int
  | 0 => 0
  | n + 1 => hor p x n * x + p.getD (p.length - 1 - n) 0
def atP (p : List Int) (x : Int) : Option Int := if fitsB p 5 && decide (-1000 ≤ x ∧ x ≤ 1000) then some (hor p x p.length) else none

/-! ### Small matrices -/

def smallM (m : List (List Int)) : Bool := isMat m && decide (m.length ≤ 4) && m.all fun r => r.all fun x => decide (x ≤ 9)
def detOk (t : List (List Int)) : Bool := decide (t.length ≤ 4) && t.all fun r => decide (r.length = t.length) && r.all fun x => decide (-10000 ≤ x ∧ x ≤ 10000)
def detT (t : List (List Int)) : Int := detF t.length (cellOf t)
def detS (t : List (List Int)) : Option Int := if detOk t then some (detT t) else none
def rootM (m : List (List Int)) : Bool := smallM m && decide (detT m ≠ 0)
/-- The vertices of which the bits are set. -/
def bitsL (n s : Nat) : List Nat := (List.range n).filter fun i => s.testBit i
def minorF (m : List (List Int)) (l : List Nat) : Int := detF l.length fun a b => cellOf m (l.getD a 0) (l.getD b 0)
def minorsN (m : List (List Int)) (size : Nat) : Int := sumTo (2 ^ m.length) fun s => if (bitsL m.length s).length = size then minorF m (bitsL m.length s) else 0
def turnedL (m : List (List Int)) : List Int := (List.range (m.length + 1)).map fun k => sgn k * minorsN m k
def charL (m : List (List Int)) : List Int := (List.range (m.length + 1)).map fun k => sgn (m.length - k) * minorsN m (m.length - k)
def turnedM (m : List (List Int)) : List Int := if smallM m then cutL (turnedL m) else []
def charM (m : List (List Int)) : List Int := if smallM m then charL m else []
end Go.Proofs.Ytfbdmheaalmboaa
