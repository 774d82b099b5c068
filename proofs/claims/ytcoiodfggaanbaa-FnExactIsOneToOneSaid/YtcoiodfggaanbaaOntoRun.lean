/-
  PLAIN FACTS ON CODES THAT ARE ONTO, WITH WORDS (no program in this text): what a word gives letter by letter through the states, and that the ways through the states count the words that give it; twins that are words refute that every word has a source.
-/
import Derived.Test.YtcoiodfggaanbaaOntoNum
import Derived.Test.YtcoiodfggaanbaaCodeNum
namespace Go.Proofs.Ytcoiodfggaanbaa
open Go

section
variable {k q : Nat} {out : Nat → Nat}
/-- What the letters ys behind the state s give. -/
def runL (k q : Nat) (out : Nat → Nat) : Nat → List Nat → List Nat
  | _, [] => []
  | s, x :: ys => out (s * k + x) :: runL k q out ((s * k + x) % q) ys
/-- The state behind them. -/
def endL (k q : Nat) : Nat → List Nat → Nat
  | s, [] => s
  | s, x :: ys => endL k q ((s * k + x) % q) ys
theorem run_length : ∀ (ys : List Nat) (s : Nat), (runL k q out s ys).length = ys.length
  | [], _ => rfl
  | x :: ys, s => by rw [runL, List.length_cons, List.length_cons, run_length ys]
theorem run_append : ∀ (ys zs : List Nat) (s : Nat), runL k q out s (ys ++ zs) = runL k q out s ys ++ runL k q out (endL k q s ys) zs
  | [], zs, s => rfl
  | x :: ys, zs, s => by
    show _ :: runL k q out _ (ys ++ zs) = _ :: (runL k q out _ ys ++ runL k q out _ zs)
    rw [run_append ys zs]; rfl
theorem end_append : ∀ (ys zs : List Nat) (s : Nat), endL k q s (ys ++ zs) = endL k q (endL k q s ys) zs
  | [], _zs, _s => rfl
  | _x :: ys, zs, _s => end_append ys zs _
theorem end_lt (hq : 0 < q) : ∀ (ys : List Nat) (s : Nat), s < q → endL k q s ys < q
  | [], _s, h => h
  | _x :: ys, _s, _ => end_lt hq ys _ (Nat.mod_lt _ hq)
/-- The ways through the states, one for each word that gives w. -/
theorem run_sum (v : Nat → Nat) : ∀ (w : List Nat) (s : Nat), overW k w.length (fun ys => if runL k q out s ys = w then v (endL k q s ys) else 0) = wordL k q out w v s
  | [], s => rfl
  | c :: w, s => by
    show sumN k (fun x => overW k w.length fun ys => if out (s * k + x) :: runL k q out ((s * k + x) % q) ys = c :: w then v (endL k q ((s * k + x) % q) ys) else 0) = sumN k fun x => if out (s * k + x) = c then wordL k q out w v ((s * k + x) % q) else 0
    refine sumN_congr k fun x _ => ?_
    by_cases h : out (s * k + x) = c
    · rw [if_pos h, ← run_sum v w]
      refine overW_congr _ fun ys _ _ => ?_
      by_cases h2 : runL k q out ((s * k + x) % q) ys = w
      · rw [if_pos h2, if_pos (by rw [h, h2])]
      · rw [if_neg h2, if_neg (fun e => h2 (List.cons.inj e).2)]
    · rw [if_neg h]
      have e : overW k w.length (fun ys => if out (s * k + x) :: runL k q out ((s * k + x) % q) ys = c :: w then v (endL k q ((s * k + x) % q) ys) else 0) = overW k w.length (fun _ => 0) :=
        overW_congr _ fun ys _ _ => if_neg (fun e => h (List.cons.inj e).1)
      rw [e, overW_const, Nat.mul_zero]
theorem overW_one {f : List Nat → Nat} : ∀ {n : Nat} {w : List Nat}, w.length = n → LetW k w → f w ≤ overW k n f := by
  intro n
  induction n generalizing f with
  | zero =>
    intro w hw _
    rw [List.eq_nil_of_length_eq_zero hw]; exact Nat.le_refl _
  | succ n ih =>
    intro w hw hl
    match w, hw with
    | c :: w, hw =>
      have h1 := ih (f := fun w => f (c :: w)) (w := w) (by simpa using hw) (fun x hx => hl x (List.mem_cons_of_mem _ hx))
      exact Nat.le_trans h1 (sumN_one (fun c => overW k n fun w => f (c :: w)) (hl c (List.mem_cons_self ..)))
theorem sumN_two (f : Nat → Nat) : ∀ {n i j : Nat}, i < n → j < n → i ≠ j → f i + f j ≤ sumN n f
  | 0, i, j, h, _, _ => by omega
  | n + 1, i, j, hi, hj, hne => by
    rw [sumN]
    by_cases e1 : i = n
    · subst e1
      have := sumN_one f (n := i) (i := j) (by omega)
      omega
    · by_cases e2 : j = n
      · subst e2
        have := sumN_one f (n := j) (i := i) (by omega)
        omega
      · have := sumN_two f (n := n) (i := i) (j := j) (by omega) (by omega) hne
        omega
/-- Two different words of the sum. -/
theorem overW_two {f : List Nat → Nat} : ∀ {n : Nat} {u w : List Nat}, u.length = n → w.length = n → LetW k u → LetW k w → u ≠ w → f u + f w ≤ overW k n f := by
  intro n
  induction n generalizing f with
  | zero =>
    intro u w hu hw _ _ hne
    exact absurd ((List.eq_nil_of_length_eq_zero hu).trans (List.eq_nil_of_length_eq_zero hw).symm) hne
  | succ n ih =>
    intro u w hu hw lu lw hne
    match u, w, hu, hw with
    | c :: u, d :: w, hu, hw =>
      by_cases e : c = d
      · subst e
        have h1 := ih (f := fun w => f (c :: w)) (u := u) (w := w) (by simpa using hu) (by simpa using hw) (fun x hx => lu x (List.mem_cons_of_mem _ hx)) (fun x hx => lw x (List.mem_cons_of_mem _ hx)) (fun e => hne (by rw [e]))
        exact Nat.le_trans h1 (sumN_one (fun c => overW k n fun w => f (c :: w)) (lu c (List.mem_cons_self ..)))
      · have h1 := overW_one (k := k) (f := fun w => f (c :: w)) (n := n) (w := u) (by simpa using hu) (fun x hx => lu x (List.mem_cons_of_mem _ hx))
        have h2 := overW_one (k := k) (f := fun u => f (d :: u)) (n := n) (w := w) (by simpa using hw) (fun x hx => lw x (List.mem_cons_of_mem _ hx))
        have h3 := sumN_two (fun c => overW k n fun w => f (c :: w)) (lu c (List.mem_cons_self ..)) (lw d (List.mem_cons_self ..)) e
        exact Nat.le_trans (Nat.add_le_add h1 h2) h3
/-- A word that gives w from the state s: at least one way. -/
theorem run_one (v : Nat → Nat) {s : Nat} {w ys : List Nat} (hl : LetW k ys) (hr : runL k q out s ys = w) : v (endL k q s ys) ≤ wordL k q out w v s := by
  have hn : ys.length = w.length := by rw [← hr, run_length]
  rw [← run_sum]
  have h := overW_one (k := k) (f := fun ys => if runL k q out s ys = w then v (endL k q s ys) else 0) hn hl
  rw [if_pos hr] at h
  exact h
/-- Two that end alike: two ways. -/
theorem run_two (v : Nat → Nat) {s b : Nat} {w ys zs : List Nat} (hy : LetW k ys) (hz : LetW k zs) (hne : ys ≠ zs) (h1 : runL k q out s ys = w) (h2 : runL k q out s zs = w) (e1 : endL k q s ys = b) (e2 : endL k q s zs = b) : 2 * v b ≤ wordL k q out w v s := by
  have hn1 : ys.length = w.length := by rw [← h1, run_length]
  have hn2 : zs.length = w.length := by rw [← h2, run_length]
  rw [← run_sum]
  have h := overW_two (k := k) (f := fun ys => if runL k q out s ys = w then v (endL k q s ys) else 0) hn1 hn2 hy hz hne
  simp only [if_pos h1, if_pos h2, e1, e2] at h
  omega
theorem run_let (hout : ∀ p, out p < k) : ∀ (ys : List Nat) (s : Nat), LetW k (runL k q out s ys)
  | [], _ => fun c hc => by cases hc
  | x :: ys, s => fun c hc => by
    rcases List.mem_cons.1 hc with rfl | h
    · exact hout _
    · exact run_let hout ys _ c h
end
end Go.Proofs.Ytcoiodfggaanbaa
