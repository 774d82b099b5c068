/-
  PLAIN FACTS ON CODES THAT ARE ONTO, COUNTED FROM THE FRONT (no program in this text): how many sources of a word end in each state; together they are all its sources.
-/
import Derived.Test.YtcoiodfggaanbaaOntoNum
namespace Go.Proofs.Ytcoiodfggaanbaa
open Go

section
variable {k q : Nat} {out : Nat → Nat}
/-- One place p: it counts for t where the code gives c there and leads to t. -/
def atP (q : Nat) (out : Nat → Nat) (c t p a : Nat) : Nat := if out p = c ∧ p % q = t then a else 0
/-- K states and X letters behind the next of them are done. -/
def fwdTo (k q : Nat) (out : Nat → Nat) (c : Nat) (now : Nat → Nat) (K X t : Nat) : Nat := sumN K (fun s => sumN k fun x => atP q out c t (s * k + x) (now s)) + sumN X fun x => atP q out c t (K * k + x) (now K)
def fwdL (k q : Nat) (out : Nat → Nat) (c : Nat) (now : Nat → Nat) (t : Nat) : Nat := sumN q fun s => sumN k fun x => atP q out c t (s * k + x) (now s)
theorem fwdTo_zero (c : Nat) (now : Nat → Nat) (t : Nat) : fwdTo k q out c now 0 0 t = 0 := rfl
theorem fwdTo_next (c : Nat) (now : Nat → Nat) (K X t : Nat) : fwdTo k q out c now K (X + 1) t = fwdTo k q out c now K X t + atP q out c t (K * k + X) (now K) := by
  unfold fwdTo
  rw [sumN, Nat.add_assoc]
theorem fwdTo_row (c : Nat) (now : Nat → Nat) (K t : Nat) : fwdTo k q out c now K k t = fwdTo k q out c now (K + 1) 0 t := by
  unfold fwdTo
  rw [sumN]; rfl
theorem fwdTo_all (c : Nat) (now : Nat → Nat) (t : Nat) : fwdTo k q out c now q 0 t = fwdL k q out c now t := rfl
/-- A word from the front. -/
def fwdW (k q : Nat) (out : Nat → Nat) : List Nat → (Nat → Nat) → Nat → Nat
  | [], now => now
  | c :: w, now => fwdW k q out w (fwdL k q out c now)
theorem fwdW_snoc (c : Nat) : ∀ (w : List Nat) (now : Nat → Nat), fwdW k q out (w ++ [c]) now = fwdL k q out c (fwdW k q out w now)
  | [], _ => rfl
  | d :: w, now => fwdW_snoc c w (fwdL k q out d now)
theorem sumN_mulr (a : Nat) (f : Nat → Nat) (n : Nat) : sumN n (fun i => f i * a) = sumN n f * a := by
  rw [Nat.mul_comm, ← sumN_mul]
  exact sumN_congr n fun i _ => Nat.mul_comm _ _
/-- What is counted from the front and from behind goes together. -/
theorem fwd_step (hq : 0 < q) (c : Nat) (now v : Nat → Nat) : sumN q (fun t => fwdL k q out c now t * v t) = sumN q fun s => now s * stepL k q out c v s := by
  have e1 : ∀ t, fwdL k q out c now t * v t = sumN q fun s => sumN k fun x => atP q out c t (s * k + x) (now s) * v t := by
    intro t
    unfold fwdL
    rw [← sumN_mulr]
    exact sumN_congr q fun s _ => (sumN_mulr _ _ _).symm
  rw [sumN_congr q (fun t _ => e1 t), sumN_comm]
  refine sumN_congr q fun s _ => ?_
  rw [sumN_comm]
  unfold stepL
  rw [← sumN_mul]
  refine sumN_congr k fun x _ => ?_
  by_cases h : out (s * k + x) = c
  · rw [if_pos h]
    have e2 : ∀ t, atP q out c t (s * k + x) (now s) * v t = if (s * k + x) % q = t then now s * v ((s * k + x) % q) else 0 := by
      intro t
      unfold atP
      by_cases h2 : (s * k + x) % q = t
      · rw [if_pos ⟨h, h2⟩, if_pos h2, h2]
      · rw [if_neg (fun e => h2 e.2), if_neg h2, Nat.zero_mul]
    rw [sumN_congr q (fun t _ => e2 t)]
    exact sumN_pick _ _ (Nat.mod_lt _ hq)
  · rw [if_neg h, Nat.mul_zero]
    have e2 : ∀ t, atP q out c t (s * k + x) (now s) * v t = 0 := fun t => by
      unfold atP
      rw [if_neg (fun e => h e.1), Nat.zero_mul]
    rw [sumN_congr q (fun t _ => e2 t), sumN_zero]
theorem fwd_word (hq : 0 < q) (v : Nat → Nat) : ∀ (w : List Nat) (now : Nat → Nat), sumN q (fun t => fwdW k q out w now t * v t) = sumN q fun s => now s * wordL k q out w v s
  | [], now => rfl
  | c :: w, now => by
    show sumN q (fun t => fwdW k q out w (fwdL k q out c now) t * v t) = sumN q fun s => now s * stepL k q out c (wordL k q out w v) s
    rw [fwd_word hq v w, fwd_step hq]
/-- All sources of a word, by the states in which they end. -/
theorem fwd_all (hq : 0 < q) (w : List Nat) : sumN q (fwdW k q out w fun _ => 1) = srcN k q out w := by
  have h := fwd_word (k := k) (out := out) hq (fun _ => 1) w (fun _ => 1)
  unfold srcN
  rw [sumN_congr q (fun t _ => (Nat.mul_one _).symm), h]
  exact sumN_congr q fun s _ => Nat.one_mul _
/-- A state that ends a source of a word, and that no source ends. -/
theorem fwd_bound (now : Nat → Nat) (B : Nat) (hnow : ∀ s, s < q → now s ≤ B) (c t : Nat) : fwdL k q out c now t ≤ q * (k * B) := by
  unfold fwdL
  have h : sumN q (fun s => sumN k fun x => atP q out c t (s * k + x) (now s)) ≤ sumN q fun _ => k * B := sumN_le q fun s hs => by
    rw [← sumN_const B k]
    exact sumN_le k fun x _ => by
      unfold atP
      split
      · exact hnow s hs
      · exact Nat.zero_le _
  rw [sumN_const] at h
  exact h
end
end Go.Proofs.Ytcoiodfggaanbaa
