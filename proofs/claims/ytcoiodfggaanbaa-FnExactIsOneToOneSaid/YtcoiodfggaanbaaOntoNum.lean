/-
  PLAIN FACTS ON CODES THAT ARE ONTO (no program in this text): ways through the states (the words of Width - 1 letters) that give a word; if every word has a source, all words of a length have the same number of sources; twins refute it.
-/
import Derived.WalkKit
namespace Go.Proofs.Ytcoiodfggaanbaa
open Go

/-! ### Sums -/
def sumN : Nat → (Nat → Nat) → Nat
  | 0, _ => 0
  | n + 1, f => sumN n f + f n
theorem sumN_congr {f g : Nat → Nat} : ∀ n, (∀ i, i < n → f i = g i) → sumN n f = sumN n g
  | 0, _ => rfl
  | n + 1, h => by rw [sumN, sumN, sumN_congr n (fun i hi => h i (by omega)), h n (by omega)]
theorem sumN_add (f g : Nat → Nat) : ∀ n, sumN n (fun i => f i + g i) = sumN n f + sumN n g
  | 0 => rfl
  | n + 1 => by rw [sumN, sumN, sumN, sumN_add f g n]; omega
theorem sumN_mul (a : Nat) (f : Nat → Nat) : ∀ n, sumN n (fun i => a * f i) = a * sumN n f
  | 0 => by simp [sumN]
  | n + 1 => by rw [sumN, sumN, sumN_mul a f n, Nat.mul_add]
theorem sumN_zero : ∀ n, sumN n (fun _ => 0) = 0
  | 0 => rfl
  | n + 1 => by rw [sumN, sumN_zero n]
theorem sumN_const (a : Nat) : ∀ n, sumN n (fun _ => a) = n * a
  | 0 => by simp [sumN]
  | n + 1 => by rw [sumN, sumN_const a n, Nat.succ_mul]
theorem sumN_comm (f : Nat → Nat → Nat) (m : Nat) : ∀ n, sumN n (fun i => sumN m (f i)) = sumN m (fun j => sumN n (fun i => f i j))
  | 0 => by simp [sumN, sumN_zero]
  | n + 1 => by
    rw [sumN, sumN_comm f m n, ← sumN_add]
    exact sumN_congr m fun j _ => rfl
theorem sumN_split (f : Nat → Nat) (a : Nat) : ∀ b, sumN (a + b) f = sumN a f + sumN b (fun i => f (a + i))
  | 0 => by simp [sumN]
  | b + 1 => by rw [← Nat.add_assoc, sumN, sumN_split f a b, sumN, Nat.add_assoc]
/-- A sum over a product, row by row. -/
theorem sumN_prod (f : Nat → Nat) (b : Nat) : ∀ a, sumN (a * b) f = sumN a (fun x => sumN b (fun t => f (x * b + t)))
  | 0 => by simp [sumN]
  | a + 1 => by rw [Nat.succ_mul, sumN_split, sumN_prod f b a, sumN]
theorem sumN_le {f g : Nat → Nat} : ∀ n, (∀ i, i < n → f i ≤ g i) → sumN n f ≤ sumN n g
  | 0, _ => Nat.le_refl _
  | n + 1, h => Nat.add_le_add (sumN_le n fun i hi => h i (by omega)) (h n (by omega))
theorem sumN_one (f : Nat → Nat) : ∀ {n i : Nat}, i < n → f i ≤ sumN n f
  | 0, i, h => by omega
  | n + 1, i, h => by
    rw [sumN]
    by_cases e : i = n
    · subst e; omega
    · have := sumN_one f (n := n) (i := i) (by omega); omega
/-- One of the k letters is it. -/
theorem sumN_pick (a v : Nat) : ∀ {k : Nat}, a < k → sumN k (fun c => if a = c then v else 0) = v
  | 0, h => by omega
  | k + 1, h => by
    rw [sumN]
    by_cases e : a = k
    · subst e
      rw [if_pos rfl]
      have : sumN a (fun c => if a = c then v else 0) = 0 := (sumN_congr a fun i hi => if_neg (by omega)).trans (sumN_zero a)
      omega
    · rw [if_neg e, sumN_pick a v (k := k) (by omega), Nat.add_zero]

/-! ### Ways through the states -/
/-- One letter c: over all letters x behind the state s for which the code gives c. -/
def stepL (k q : Nat) (out : Nat → Nat) (c : Nat) (v : Nat → Nat) (s : Nat) : Nat := sumN k fun x => if out (s * k + x) = c then v ((s * k + x) % q) else 0
/-- A word. -/
def wordL (k q : Nat) (out : Nat → Nat) : List Nat → (Nat → Nat) → Nat → Nat
  | [], v => v
  | c :: w, v => stepL k q out c (wordL k q out w v)
/-- How many sources a word has. -/
def srcN (k q : Nat) (out : Nat → Nat) (w : List Nat) : Nat := sumN q (wordL k q out w fun _ => 1)
section
variable {k q : Nat} {out : Nat → Nat}
theorem stepL_congr {v v' : Nat → Nat} (hq : 0 < q) (h : ∀ s, s < q → v s = v' s) (c s : Nat) : stepL k q out c v s = stepL k q out c v' s :=
  sumN_congr k fun x _ => by rw [h _ (Nat.mod_lt _ hq)]
theorem wordL_congr {v v' : Nat → Nat} (hq : 0 < q) (h : ∀ s, s < q → v s = v' s) : ∀ (w : List Nat) (s : Nat), s < q → wordL k q out w v s = wordL k q out w v' s
  | [], s, hs => h s hs
  | c :: w, s, _ => stepL_congr hq (fun t ht => wordL_congr hq h w t ht) c s
theorem wordL_append (u w : List Nat) (v : Nat → Nat) : wordL k q out (u ++ w) v = wordL k q out u (wordL k q out w v) := by
  induction u with
  | nil => rfl
  | cons c u ih => rw [List.cons_append, wordL, wordL, ih]
theorem stepL_add (c : Nat) (v v' : Nat → Nat) (s : Nat) : stepL k q out c (fun t => v t + v' t) s = stepL k q out c v s + stepL k q out c v' s := by
  unfold stepL
  rw [← sumN_add]
  exact sumN_congr k fun x _ => by split <;> rfl
theorem stepL_mul (c a : Nat) (v : Nat → Nat) (s : Nat) : stepL k q out c (fun t => a * v t) s = a * stepL k q out c v s := by
  unfold stepL
  rw [← sumN_mul]
  exact sumN_congr k fun x _ => by split <;> simp
theorem wordL_add (w : List Nat) (v v' : Nat → Nat) : ∀ s, wordL k q out w (fun t => v t + v' t) s = wordL k q out w v s + wordL k q out w v' s := by
  induction w with
  | nil => exact fun _ => rfl
  | cons c w ih =>
    intro s
    rw [wordL, wordL, wordL, ← stepL_add]
    exact sumN_congr k fun x _ => by rw [ih]
theorem wordL_mul (w : List Nat) (a : Nat) (v : Nat → Nat) : ∀ s, wordL k q out w (fun t => a * v t) s = a * wordL k q out w v s := by
  induction w with
  | nil => exact fun _ => rfl
  | cons c w ih =>
    intro s
    rw [wordL, wordL, ← stepL_mul]
    exact sumN_congr k fun x _ => by rw [ih]
theorem wordL_le {v v' : Nat → Nat} (h : ∀ s, v s ≤ v' s) (w : List Nat) : ∀ s, wordL k q out w v s ≤ wordL k q out w v' s := by
  induction w with
  | nil => exact h
  | cons c w ih =>
    intro s
    exact sumN_le k fun x _ => by split <;> simp [ih]

/-! ### All words of a length -/
/-- The sum over all words of n letters. -/
def overW (k : Nat) : Nat → (List Nat → Nat) → Nat
  | 0, f => f []
  | n + 1, f => sumN k fun c => overW k n fun w => f (c :: w)
theorem overW_congr {f g : List Nat → Nat} : ∀ n, (∀ w, w.length = n → (∀ c ∈ w, c < k) → f w = g w) → overW k n f = overW k n g
  | 0, h => h [] rfl (fun _ hc => by cases hc)
  | n + 1, h => sumN_congr k fun c hc => overW_congr n fun w hw hl => h (c :: w) (by simp [hw]) (fun x hx => by
      rcases List.mem_cons.1 hx with rfl | hx
      · exact hc
      · exact hl x hx)
theorem overW_le {f g : List Nat → Nat} : ∀ n, (∀ w, w.length = n → (∀ c ∈ w, c < k) → f w ≤ g w) → overW k n f ≤ overW k n g
  | 0, h => h [] rfl (fun _ hc => by cases hc)
  | n + 1, h => sumN_le k fun c hc => overW_le n fun w hw hl => h (c :: w) (by simp [hw]) (fun x hx => by
      rcases List.mem_cons.1 hx with rfl | hx
      · exact hc
      · exact hl x hx)
theorem overW_const (a : Nat) : ∀ n, overW k n (fun _ => a) = k ^ n * a
  | 0 => by simp [overW]
  | n + 1 => by
    rw [overW, sumN_congr k (fun c _ => overW_const a n), sumN_const, Nat.pow_succ, ← Nat.mul_assoc, Nat.mul_comm k]
theorem overW_mul (a : Nat) (f : List Nat → Nat) : ∀ n, overW k n (fun w => a * f w) = a * overW k n f := by
  intro n
  induction n generalizing f with
  | zero => rfl
  | succ n ih =>
    rw [overW, overW, ← sumN_mul]
    exact sumN_congr k fun c _ => ih _
theorem overW_add (f g : List Nat → Nat) : ∀ n, overW k n (fun w => f w + g w) = overW k n f + overW k n g := by
  intro n
  induction n generalizing f g with
  | zero => rfl
  | succ n ih =>
    rw [overW, overW, overW, ← sumN_add]
    exact sumN_congr k fun c _ => ih _ _
theorem overW_sum (m : Nat) (f : Nat → List Nat → Nat) : ∀ n, overW k n (fun w => sumN m fun s => f s w) = sumN m fun s => overW k n (f s) := by
  intro n
  induction m with
  | zero =>
    show overW k n (fun _ => 0) = 0
    rw [overW_const]; simp
  | succ m ih =>
    show overW k n (fun w => sumN m (fun s => f s w) + f m w) = _
    rw [overW_add, ih]; rfl
/-- Each is at least a, and together they are as if each were a: each is a. -/
theorem overW_all {f : List Nat → Nat} {a : Nat} : ∀ n, (∀ w, w.length = n → (∀ c ∈ w, c < k) → a ≤ f w) → overW k n f = k ^ n * a → ∀ w, w.length = n → (∀ c ∈ w, c < k) → f w = a := by
  intro n hge hsum w hw hl
  have hsub : ∀ n (g : List Nat → Nat) (w : List Nat), w.length = n → (∀ c ∈ w, c < k) → g w ≤ overW k n g := by
    intro n
    induction n with
    | zero =>
      intro g w hw _
      rw [List.eq_nil_of_length_eq_zero hw]; exact Nat.le_refl _
    | succ n ih =>
      intro g w hw hl
      match w, hw with
      | c :: w, hw =>
        have h1 := ih (fun w => g (c :: w)) w (by simpa using hw) (fun x hx => hl x (List.mem_cons_of_mem _ hx))
        exact Nat.le_trans h1 (sumN_one (fun c => overW k n fun w => g (c :: w)) (hl c (List.mem_cons_self ..)))
  have h1 : overW k n (fun w => (f w - a) + a) = overW k n f := overW_congr n fun w hw hl => by have := hge w hw hl; omega
  rw [overW_add, overW_const, hsum] at h1
  have h2 := hsub n (fun w => f w - a) w hw hl
  have h3 := hge w hw hl
  omega
/-- One letter more, whatever the code gives for it. -/
def freeL (k q : Nat) (v : Nat → Nat) (s : Nat) : Nat := sumN k fun x => v ((s * k + x) % q)
def freeN (k q : Nat) : Nat → (Nat → Nat) → Nat → Nat
  | 0, v => v
  | n + 1, v => freeL k q (freeN k q n v)
theorem step_all (hout : ∀ p, out p < k) (v : Nat → Nat) (s : Nat) : sumN k (fun c => stepL k q out c v s) = freeL k q v s := by
  unfold stepL freeL
  rw [sumN_comm]
  exact sumN_congr k fun x _ => sumN_pick _ _ (hout _)
theorem word_all (hout : ∀ p, out p < k) (v : Nat → Nat) : ∀ n s, overW k n (fun w => wordL k q out w v s) = freeN k q n v s := by
  intro n
  induction n with
  | zero => exact fun _ => rfl
  | succ n ih =>
    intro s
    show sumN k (fun c => overW k n fun w => stepL k q out c (wordL k q out w v) s) = freeL k q (freeN k q n v) s
    have e : ∀ c, overW k n (fun w => stepL k q out c (wordL k q out w v) s) = stepL k q out c (freeN k q n v) s := by
      intro c
      unfold stepL
      rw [overW_sum]
      refine sumN_congr k fun x _ => ?_
      by_cases h : out (s * k + x) = c
      · simp only [if_pos h]; exact ih _
      · simp only [if_neg h]; rw [overW_const]; simp
    rw [sumN_congr k (fun c _ => e c), step_all hout]
theorem mod_step (a b t : Nat) : (a % q * b + t) % q = (a * b + t) % q := by
  rw [Nat.add_mod, Nat.mul_mod, Nat.mod_mod, ← Nat.mul_mod, ← Nat.add_mod]
/-- j letters behind s lead to each of the next k^j states, counted round. -/
theorem freeN_is (hq : 0 < q) (v : Nat → Nat) : ∀ j s, s < q → freeN k q j v s = sumN (k ^ j) fun t => v ((s * k ^ j + t) % q)
  | 0, s, hs => by
    show v s = 0 + v ((s * 1 + 0) % q)
    rw [Nat.mul_one, Nat.add_zero, Nat.mod_eq_of_lt hs, Nat.zero_add]
  | j + 1, s, hs => by
    show sumN k (fun x => freeN k q j v ((s * k + x) % q)) = _
    rw [Nat.pow_succ, Nat.mul_comm (k ^ j) k, sumN_prod]
    refine sumN_congr k fun x _ => ?_
    rw [freeN_is hq v j _ (Nat.mod_lt _ hq)]
    refine sumN_congr _ fun t _ => ?_
    rw [mod_step, Nat.add_mul, Nat.mul_assoc, Nat.add_assoc]
/-- So many letters that every state is reached once. -/
theorem free_all {p : Nat} (hq : q = k ^ p) (h0 : 0 < q) (v : Nat → Nat) (s : Nat) (hs : s < q) : freeN k q p v s = sumN q v := by
  rw [freeN_is h0 v p s hs, ← hq]
  refine sumN_congr q fun t ht => ?_
  rw [Nat.add_comm, Nat.add_mul_mod_self_right, Nat.mod_eq_of_lt ht]
theorem free_one (hq : 0 < q) (n s : Nat) (hs : s < q) : freeN k q n (fun _ => 1) s = k ^ n := by
  rw [freeN_is hq _ n s hs, sumN_const, Nat.mul_one]
/-- A sum over words goes past the letters ahead of them. -/
theorem wordL_over (n : Nat) (F : List Nat → Nat → Nat) (w : List Nat) : ∀ s, overW k n (fun x => wordL k q out w (F x) s) = wordL k q out w (fun t => overW k n fun x => F x t) s := by
  induction w with
  | nil => exact fun _ => rfl
  | cons c w ih =>
    intro s
    show overW k n (fun x => stepL k q out c (wordL k q out w (F x)) s) = stepL k q out c (wordL k q out w fun t => overW k n fun x => F x t) s
    unfold stepL
    rw [overW_sum]
    refine sumN_congr k fun x _ => ?_
    by_cases h : out (s * k + x) = c
    · simp only [if_pos h]; exact ih _
    · simp only [if_neg h]; rw [overW_const]; simp
/-- Sources of two words with all words between: chosen apart. -/
theorem src_join (hout : ∀ p, out p < k) {p : Nat} (hq : q = k ^ p) (h0 : 0 < q) (u w : List Nat) : overW k p (fun x => srcN k q out (u ++ (x ++ w))) = srcN k q out u * srcN k q out w := by
  unfold srcN
  rw [overW_sum]
  have e : ∀ s, s < q → overW k p (fun x => wordL k q out (u ++ (x ++ w)) (fun _ => 1) s) = sumN q (wordL k q out w fun _ => 1) * wordL k q out u (fun _ => 1) s := by
    intro s hs
    rw [← wordL_mul]
    have e1 : ∀ x, wordL k q out (u ++ (x ++ w)) (fun _ => 1) = wordL k q out u (wordL k q out x (wordL k q out w fun _ => 1)) := fun x => by rw [wordL_append, wordL_append]
    simp only [e1]
    rw [wordL_over p (fun x => wordL k q out x (wordL k q out w fun _ => 1)) u s]
    refine wordL_congr h0 (fun t ht => ?_) u s hs
    rw [word_all hout, free_all hq h0 _ t ht, Nat.mul_one]
  rw [sumN_congr q e, sumN_mul, Nat.mul_comm]
/-- Words of the code's letters. -/
def LetW (k : Nat) (w : List Nat) : Prop := ∀ c ∈ w, c < k
theorem LetW.append {u w : List Nat} (hu : LetW k u) (hw : LetW k w) : LetW k (u ++ w) := fun c hc => by
  rcases List.mem_append.1 hc with h | h
  · exact hu c h
  · exact hw c h
/-- If every word has a source, each has at least as many as there are states. -/
theorem onto_ge (hout : ∀ p, out p < k) {p : Nat} (hq : q = k ^ p) (h0 : 0 < q) (hall : ∀ w, LetW k w → 0 < srcN k q out w) : ∀ a w, LetW k w → srcN k q out w = a → q ≤ a := by
  intro a
  induction a using Nat.strongRecOn with
  | _ a ih =>
    intro w hw ha
    by_cases h : q ≤ a
    · exact h
    exfalso
    have hge : ∀ w', LetW k w' → a ≤ srcN k q out w' := by
      intro w' hw'
      by_cases h2 : srcN k q out w' < a
      · have := ih _ h2 w' hw' rfl; omega
      · omega
    have hj := src_join hout hq h0 w w
    have hle : overW k p (fun _ => a) ≤ overW k p (fun x => srcN k q out (w ++ (x ++ w))) := overW_le p fun x _ hx => hge _ (hw.append (LetW.append hx hw))
    rw [hj, overW_const, ← hq, ha] at hle
    have hpos := hall w hw
    rw [ha] at hpos
    have := Nat.le_of_mul_le_mul_right hle hpos
    omega
/-- If every word has a source, all have as many as there are states. -/
theorem onto_eq (hout : ∀ p, out p < k) {p : Nat} (hq : q = k ^ p) (h0 : 0 < q) (hall : ∀ w, LetW k w → 0 < srcN k q out w) (w : List Nat) (hw : LetW k w) : srcN k q out w = q := by
  refine overW_all (k := k) (f := srcN k q out) (a := q) w.length (fun w' _ hl => onto_ge hout hq h0 hall _ w' hl rfl) ?_ w rfl hw
  unfold srcN
  rw [overW_sum, sumN_congr q (fun s hs => by rw [word_all hout, free_one h0 _ s hs]), sumN_const, Nat.mul_comm]
/-- A word, again and again. -/
def againW (w : List Nat) : Nat → List Nat
  | 0 => []
  | j + 1 => w ++ againW w j
theorem againW_let {w : List Nat} (hw : LetW k w) : ∀ j, LetW k (againW w j)
  | 0 => fun c hc => by cases hc
  | j + 1 => hw.append (againW_let hw j)
/-- Two ways from a to b that give the same word, and a way back: not every word has a source. -/
theorem twins_no (hout : ∀ p, out p < k) {p : Nat} (hq : q = k ^ p) (h0 : 0 < q) (hall : ∀ w, LetW k w → 0 < srcN k q out w) {y x : List Nat} (hy : LetW k y) (hx : LetW k x) {a b : Nat} (ha : a < q)
    (h2 : ∀ v : Nat → Nat, 2 * v b ≤ wordL k q out y v a) (h1 : ∀ v : Nat → Nat, v a ≤ wordL k q out x v b) : False := by
  have hj : ∀ j, 2 ^ j ≤ wordL k q out (againW (y ++ x) j) (fun _ => 1) a := by
    intro j
    induction j with
    | zero => exact Nat.le_refl _
    | succ j ih =>
      show 2 ^ (j + 1) ≤ wordL k q out ((y ++ x) ++ againW (y ++ x) j) (fun _ => 1) a
      rw [wordL_append, wordL_append]
      refine Nat.le_trans ?_ (h2 _)
      rw [Nat.pow_succ, Nat.mul_comm]
      exact Nat.mul_le_mul_left 2 (Nat.le_trans ih (h1 _))
  have hs := onto_eq hout hq h0 hall _ (againW_let (hy.append hx) q)
  have hl : wordL k q out (againW (y ++ x) q) (fun _ => 1) a ≤ srcN k q out (againW (y ++ x) q) := sumN_one _ ha
  have := hj q
  have := Nat.lt_two_pow_self (n := q)
  omega
end
end Go.Proofs.Ytcoiodfggaanbaa
