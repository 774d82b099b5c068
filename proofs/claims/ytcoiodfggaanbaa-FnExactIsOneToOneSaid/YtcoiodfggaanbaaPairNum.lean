/-
  PLAIN FACTS ON CODES THAT ARE ONE-TO-ONE (no program in this text): pairs of places to which a code gives the same letter, taken as arcs; those through which a path goes that is infinite in both directions; said over pairs of places and over pairs of states.
-/
import Derived.Test.YtcoiodfggaanbaaOntoLink
namespace Go.Proofs.Ytcoiodfggaanbaa
open Go

section
variable {k q : Nat} {out : Nat → Nat}
/-- A set of arcs, each with one ahead of it and one behind it. -/
def ArcC (k q : Nat) (out : Nat → Nat) (S : Nat → Nat → Prop) : Prop := ∀ i j, S i j → i < q * k ∧ j < q * k ∧ out i = out j ∧ (∃ i' j', S i' j' ∧ i' % q = i / k ∧ j' % q = j / k) ∧ (∃ i' j', S i' j' ∧ i' / k = i % q ∧ j' / k = j % q)
def ArcL (k q : Nat) (out : Nat → Nat) (i j : Nat) : Prop := ∃ S, ArcC k q out S ∧ S i j
/-- The code is one-to-one, or not. -/
def OneIs (k q : Nat) (out : Nat → Nat) (b : Bool) : Prop := b = true ↔ ∀ i j, ArcL k q out i j → i = j
theorem one_exists (k q : Nat) (out : Nat → Nat) : ∃ b, OneIs k q out b := by
  by_cases h : ∀ i j, ArcL k q out i j → i = j
  · exact ⟨true, ⟨fun _ => h, fun _ => rfl⟩⟩
  · exact ⟨false, (fun e => by cases e), fun e => absurd e h⟩
theorem one_same {b b' : Bool} (h : OneIs k q out b) (h' : OneIs k q out b') : b = b' := by
  rw [Bool.eq_iff_iff]; exact h.trans h'.symm
/-- An arc of pairs of states, as numbers. -/
def VArc (k q : Nat) (out : Nat → Nat) (c e : Nat) : Prop := ∃ x y, x < k ∧ y < k ∧ out (c / q * k + x) = out (c % q * k + y) ∧ e = (c / q * k + x) % q * q + (c % q * k + y) % q
def VertC (k q : Nat) (out : Nat → Nat) (L : Nat → Prop) : Prop := ∀ c, L c → c < q * q ∧ (∃ e, L e ∧ VArc k q out c e) ∧ (∃ e, L e ∧ VArc k q out e c)
theorem pair_div {a b : Nat} (hb : b < q) : (a * q + b) / q = a := by
  rw [Nat.mul_comm, Nat.mul_add_div (by omega), Nat.div_eq_of_lt hb, Nat.add_zero]
theorem pair_mod {a b : Nat} (hb : b < q) : (a * q + b) % q = b := by
  rw [Nat.mul_comm, Nat.mul_add_mod, Nat.mod_eq_of_lt hb]
theorem pair_lt {a b : Nat} (ha : a < q) (hb : b < q) : a * q + b < q * q := by
  have h : (a + 1) * q ≤ q * q := Nat.mul_le_mul_right _ ha
  rw [Nat.add_mul, Nat.one_mul] at h
  omega
theorem place_div {i : Nat} (hi : i < q * k) : i / k < q := Nat.div_lt_of_lt_mul (by rw [Nat.mul_comm]; exact hi)
theorem place_is (i : Nat) : i / k * k + i % k = i := by rw [Nat.mul_comm]; exact Nat.div_add_mod i k
theorem arc_vert (hk : 0 < k) {S : Nat → Nat → Prop} (h : ArcC k q out S) : VertC k q out fun c => ∃ i j, S i j ∧ c = i / k * q + j / k := by
  rintro c ⟨i, j, hs, rfl⟩
  obtain ⟨h1, h2, h3, ⟨i1, j1, hs1, h4, h5⟩, ⟨i2, j2, hs2, h6, h7⟩⟩ := h i j hs
  have d1 := place_div h1
  have d2 := place_div h2
  refine ⟨pair_lt d1 d2, ⟨i % q * q + j % q, ⟨i2, j2, hs2, by rw [h6, h7]⟩, i % k, j % k, Nat.mod_lt _ hk, Nat.mod_lt _ hk, ?_, ?_⟩, ⟨i1 / k * q + j1 / k, ⟨i1, j1, hs1, rfl⟩, i1 % k, j1 % k, Nat.mod_lt _ hk, Nat.mod_lt _ hk, ?_, ?_⟩⟩
  · rw [pair_div d2, pair_mod d2, place_is, place_is]; exact h3
  · rw [pair_div d2, pair_mod d2, place_is, place_is]
  · obtain ⟨g1, g2, g3, -⟩ := h i1 j1 hs1
    rw [pair_div (place_div g2), pair_mod (place_div g2), place_is, place_is]; exact g3
  · obtain ⟨g1, g2, g3, -⟩ := h i1 j1 hs1
    rw [pair_div (place_div g2), pair_mod (place_div g2), place_is, place_is, h4, h5]
theorem lt_place {a x : Nat} (ha : a < q) (hx : x < k) : a * k + x < q * k := by
  have h : (a + 1) * k ≤ q * k := Nat.mul_le_mul_right _ ha
  rw [Nat.add_mul, Nat.one_mul] at h
  omega
theorem vert_arc (hq : 0 < q) {L : Nat → Prop} (h : VertC k q out L) : ArcC k q out fun i j => i < q * k ∧ j < q * k ∧ out i = out j ∧ L (i / k * q + j / k) ∧ L (i % q * q + j % q) := by
  rintro i j ⟨h1, h2, h3, h4, h5⟩
  have d1 := place_div h1
  have d2 := place_div h2
  refine ⟨h1, h2, h3, ?_, ?_⟩
  · obtain ⟨_, _, e, he, x, y, hx, hy, g1, g2⟩ := h _ h4
    have hc := (h e he).1
    have e1 : e / q < q := Nat.div_lt_of_lt_mul hc
    have e2 := Nat.mod_lt e hq
    have m1 := Nat.mod_lt (e / q * k + x) hq
    have m2 := Nat.mod_lt (e % q * k + y) hq
    refine ⟨e / q * k + x, e % q * k + y, ⟨lt_place e1 hx, lt_place e2 hy, g1, ?_, ?_⟩, ?_, ?_⟩
    · have a1 : (e / q * k + x) / k = e / q := by rw [Nat.mul_comm, Nat.mul_add_div (by omega), Nat.div_eq_of_lt hx, Nat.add_zero]
      have a2 : (e % q * k + y) / k = e % q := by rw [Nat.mul_comm, Nat.mul_add_div (by omega), Nat.div_eq_of_lt hy, Nat.add_zero]
      rw [a1, a2, place_is]; exact he
    · rw [← g2]; exact h4
    · have := congrArg (· / q) g2
      simp only [pair_div d2, pair_div m2] at this
      exact this.symm
    · have := congrArg (· % q) g2
      simp only [pair_mod d2, pair_mod m2] at this
      exact this.symm
  · obtain ⟨_, ⟨e, he, x, y, hx, hy, g1, g2⟩, _⟩ := h _ h5
    have m1 := Nat.mod_lt i hq
    have m2 := Nat.mod_lt j hq
    rw [pair_div m2, pair_mod m2] at g1 g2
    refine ⟨i % q * k + x, j % q * k + y, ⟨lt_place m1 hx, lt_place m2 hy, g1, ?_, ?_⟩, ?_, ?_⟩
    · have a1 : (i % q * k + x) / k = i % q := by rw [Nat.mul_comm, Nat.mul_add_div (by omega), Nat.div_eq_of_lt hx, Nat.add_zero]
      have a2 : (j % q * k + y) / k = j % q := by rw [Nat.mul_comm, Nat.mul_add_div (by omega), Nat.div_eq_of_lt hy, Nat.add_zero]
      rw [a1, a2]; exact h5
    · rw [← g2]; exact he
    · rw [Nat.mul_comm, Nat.mul_add_div (by omega), Nat.div_eq_of_lt hx, Nat.add_zero]
    · rw [Nat.mul_comm, Nat.mul_add_div (by omega), Nat.div_eq_of_lt hy, Nat.add_zero]
/-- Over the pairs of states, if the states are words of at least one letter. -/
theorem one_of_live (hk : 0 < k) (hq : 0 < q) (hd : k ∣ q) {L : Nat → Prop} (hc : VertC k q out L) (hall : ∀ M, VertC k q out M → ∀ c, M c → L c) {b : Bool} (hb : b = true ↔ ∀ c, L c → c / q = c % q) : OneIs k q out b := by
  unfold OneIs
  rw [hb]
  constructor
  · rintro h i j ⟨S, hS, hs⟩
    obtain ⟨h1, h2, h3, _, ⟨i2, j2, hs2, h6, h7⟩⟩ := hS i j hs
    have d1 := place_div h1
    have d2 := place_div h2
    have l1 := h _ (hall _ (arc_vert hk hS) _ ⟨i, j, hs, rfl⟩)
    have l2 := h _ (hall _ (arc_vert hk hS) _ ⟨i2, j2, hs2, rfl⟩)
    rw [pair_div d2, pair_mod d2] at l1
    rw [h6, h7, pair_div (Nat.mod_lt _ hq), pair_mod (Nat.mod_lt _ hq)] at l2
    have l3 : i % k = j % k := by rw [← Nat.mod_mod_of_dvd i hd, ← Nat.mod_mod_of_dvd j hd, l2]
    rw [← place_is (k := k) i, ← place_is (k := k) j, l1, l3]
  · intro h c hL
    obtain ⟨h1, ⟨e, he, x, y, hx, hy, g1, g2⟩, _⟩ := hc c hL
    have e1 : c / q < q := Nat.div_lt_of_lt_mul h1
    have e2 := Nat.mod_lt c hq
    have a1 : (c / q * k + x) / k = c / q := by rw [Nat.mul_comm, Nat.mul_add_div (by omega), Nat.div_eq_of_lt hx, Nat.add_zero]
    have a2 : (c % q * k + y) / k = c % q := by rw [Nat.mul_comm, Nat.mul_add_div (by omega), Nat.div_eq_of_lt hy, Nat.add_zero]
    have := h _ _ ⟨_, vert_arc hq hc, lt_place e1 hx, lt_place e2 hy, g1, by rw [a1, a2, place_is]; exact hL, by rw [← g2]; exact he⟩
    have h3 := congrArg (· / k) this
    simp only [a1, a2] at h3
    exact h3
/-- Words of one letter. -/
theorem one_single {b : Bool} (hb : b = true ↔ ∀ i j, i < k → j < k → out i = out j → i = j) : OneIs k 1 out b := by
  unfold OneIs
  rw [hb]
  constructor
  · rintro h i j ⟨S, hS, hs⟩
    obtain ⟨h1, h2, h3, _⟩ := hS i j hs
    exact h i j (by omega) (by omega) h3
  · intro h i j hi hj he
    refine h i j ⟨fun i j => i < k ∧ j < k ∧ out i = out j, ?_, hi, hj, he⟩
    rintro i j ⟨h1, h2, h3⟩
    exact ⟨by omega, by omega, h3, ⟨i, j, ⟨h1, h2, h3⟩, by rw [Nat.mod_one, Nat.div_eq_of_lt h1], by rw [Nat.mod_one, Nat.div_eq_of_lt h2]⟩, ⟨i, j, ⟨h1, h2, h3⟩, by rw [Nat.mod_one, Nat.div_eq_of_lt h1], by rw [Nat.mod_one, Nat.div_eq_of_lt h2]⟩⟩
end
end Go.Proofs.Ytcoiodfggaanbaa
