/-
  PLAIN FACTS (no program in this text): the period vertex by vertex; the first number of arcs by which a vertex leads to all; what a row of turns holds so far; a table of ones by its sum.
-/
import Derived.Test.YtanelokploifhaaDoorBitsU
import Derived.Test.YtanelokploifhaaDoorTurnsSpec
namespace Go.Proofs.YtanelokploifhaaDoor
open Go Go.RowKit

/-- The greatest common divisor of p and the lengths up to k of closed walks at v. -/
def perCol (m : List (List Int)) (v : Nat) : Nat → Nat → Nat
  | 0, p => p
  | k + 1, p => if wkB m (k + 1) v v then Nat.gcd (perCol m v k p) (k + 1) else perCol m v k p
def perVs (m : List (List Int)) : Nat → Nat
  | 0 => 0
  | v + 1 => perCol m v (2 * m.length) (perVs m v)
theorem perCol_dvd {m : List (List Int)} {v g : Nat} : ∀ {k p : Nat}, g ∣ perCol m v k p ↔ g ∣ p ∧ ∀ n, 0 < n → n ≤ k → wkB m n v v = true → g ∣ n
  | 0, p => ⟨fun h => ⟨h, fun n h1 h2 => by omega⟩, fun h => h.1⟩
  | k + 1, p => by
    rw [perCol]
    have ih := @perCol_dvd m v g k p
    constructor
    · intro h
      split at h
      · next hw =>
        obtain ⟨h1, h2⟩ := ih.1 (Nat.dvd_trans h (Nat.gcd_dvd_left _ _))
        refine ⟨h1, fun n hn0 hn hwn => ?_⟩
        by_cases e : n = k + 1
        · subst e; exact Nat.dvd_trans h (Nat.gcd_dvd_right _ _)
        · exact h2 n hn0 (by omega) hwn
      · next hw =>
        obtain ⟨h1, h2⟩ := ih.1 h
        refine ⟨h1, fun n hn0 hn hwn => ?_⟩
        by_cases e : n = k + 1
        · subst e; exact absurd hwn hw
        · exact h2 n hn0 (by omega) hwn
    · rintro ⟨h1, h2⟩
      have h3 := ih.2 ⟨h1, fun n hn0 hn => h2 n hn0 (by omega)⟩
      split
      · next hw => exact Nat.dvd_gcd h3 (h2 (k + 1) (by omega) (Nat.le_refl _) hw)
      · exact h3
theorem perVs_dvd {m : List (List Int)} {g : Nat} : ∀ {i : Nat}, g ∣ perVs m i ↔ ∀ v n, v < i → 0 < n → n ≤ 2 * m.length → wkB m n v v = true → g ∣ n
  | 0 => ⟨fun _ v n h => absurd h (Nat.not_lt_zero _), fun _ => Nat.dvd_zero _⟩
  | i + 1 => by
    rw [perVs, perCol_dvd, @perVs_dvd m g i]
    constructor
    · rintro ⟨h1, h2⟩ v n hv hn0 hn hw
      by_cases e : v = i
      · subst e; exact h2 n hn0 hn hw
      · exact h1 v n (by omega) hn0 hn hw
    · intro h
      exact ⟨fun v n hv => h v n (by omega), fun n => h i n (by omega)⟩
theorem perVs_all (m : List (List Int)) : perVs m m.length = perM m := by
  unfold perM
  refine Nat.dvd_antisymm (perAcc_dvd.2 fun k i hk0 hk hi hw => ?_) (perVs_dvd.2 fun v n hv hn0 hn hw => ?_)
  · exact perVs_dvd.1 (Nat.dvd_refl _) i k hi hk0 hk hw
  · exact perAcc_dvd.1 (Nat.dvd_refl _) n v hn0 hn hv hw
theorem perCol_le {m : List (List Int)} {v B : Nat} : ∀ {k p : Nat}, p ≤ B → k ≤ B → perCol m v k p ≤ B
  | 0, p, hp, _ => hp
  | k + 1, p, hp, hk => by
    rw [perCol]
    split
    · exact Nat.le_trans (Nat.gcd_le_right _ (by omega)) hk
    · exact perCol_le hp (by omega)
theorem perVs_le {m : List (List Int)} : ∀ (i : Nat), perVs m i ≤ 2 * m.length
  | 0 => Nat.zero_le _
  | i + 1 => perCol_le (perVs_le i) (Nat.le_refl _)

/-! ### Vertices that lead to all -/

/-- Walks of n arcs lead from v to all vertices. -/
def fullRow (m : List (List Int)) (v n : Nat) : Bool := (List.range m.length).all fun j => wkB m n v j
theorem fullRow_iff {m : List (List Int)} {v n : Nat} (hv : v < m.length) : fullRow m v n = true ↔ ∀ j, j < m.length → Wk (arcP m) n v j := by
  unfold fullRow
  rw [List.all_eq_true]
  exact ⟨fun h j hj => (wkB_iff hv hj).1 (h j (List.mem_range.2 hj)), fun h j hj => (wkB_iff hv (List.mem_range.1 hj)).2 (h j (List.mem_range.1 hj))⟩
theorem wkS_full {m : List (List Int)} {v n : Nat} : wkS m n v = 2 ^ m.length - 1 ↔ fullRow m v n = true := by
  unfold fullRow
  rw [List.all_eq_true]
  constructor
  · intro h j hj
    have hj' := List.mem_range.1 hj
    rw [← wkS_bit m n v hj', h, Nat.testBit_two_pow_sub_one, decide_eq_true hj']
  · intro h
    rw [setN_all]
    exact setN_congr fun j hj => h j (List.mem_range.2 hj)
theorem full_more {m : List (List Int)} (hJ : Joined m.length (arcP m)) {v n : Nat} (hv : v < m.length) (h : fullRow m v n = true) : ∀ d, fullRow m v (n + d) = true
  | 0 => h
  | d + 1 => by
    have ih := (fullRow_iff hv).1 (full_more hJ hv h d)
    refine (fullRow_iff hv).2 fun j hj => ?_
    obtain ⟨t, ht, hw⟩ := hJ j j hj hj
    obtain ⟨t, rfl⟩ : ∃ s, t = s + 1 := ⟨t - 1, by omega⟩
    obtain ⟨k, _, h2⟩ := hw
    exact ⟨k, ih k h2.1, h2⟩
/-- The first number of arcs by which v leads to all vertices. -/
structure FirstN (m : List (List Int)) (v n : Nat) : Prop where
  pos : 0 < n
  full : fullRow m v n = true
  first : ∀ t, 0 < t → t < n → fullRow m v t = false
theorem full_exists {m : List (List Int)} (h : primM m = true) : ∃ bd, 0 < bd ∧ bd ≤ 128 ∧ ∀ v, v < m.length → fullRow m v bd = true := by
  obtain ⟨b, hb0, hb, hf⟩ := primM_full h
  have hi : irrM m = true := by
    unfold primM at h
    rw [Bool.and_eq_true] at h
    exact h.1
  have hl := (isMat_facts (irrM_iff.1 hi).1).le
  have hsq : m.length * m.length ≤ 81 := Nat.mul_le_mul hl hl
  exact ⟨b, hb0, by omega, fun v hv => (fullRow_iff hv).2 fun j hj => hf v j hv hj⟩
/-- The most of the first numbers of the vertices below v. -/
structure MostN (m : List (List Int)) (v L : Nat) : Prop where
  all : ∀ u, u < v → ∃ n, n ≤ L ∧ FirstN m u n
  one : 0 < v → ∃ u, u < v ∧ FirstN m u L
  zero : v = 0 → L = 0
theorem MostN.start (m : List (List Int)) : MostN m 0 0 := ⟨fun u h => by omega, fun h => by omega, fun _ => rfl⟩
theorem MostN.next {m : List (List Int)} {v L n : Nat} (h : MostN m v L) (hn : FirstN m v n) : MostN m (v + 1) (max L n) := by
  refine ⟨fun u hu => ?_, fun _ => ?_, fun h => by omega⟩
  · by_cases e : u = v
    · subst e; exact ⟨n, by omega, hn⟩
    · obtain ⟨k, hk, hf⟩ := h.all u (by omega)
      exact ⟨k, by omega, hf⟩
  · by_cases hle : L ≤ n
    · exact ⟨v, by omega, by rw [Nat.max_eq_right hle]; exact hn⟩
    · by_cases h0 : v = 0
      · have := h.zero h0; omega
      · obtain ⟨u, hu, hf⟩ := h.one (by omega)
        exact ⟨u, by omega, by rw [Nat.max_eq_left (by omega)]; exact hf⟩
theorem MostN.is {m : List (List Int)} (hp : primM m = true) {L : Nat} (h : MostN m m.length L) : stepN m = L := by
  have hi : irrM m = true := by
    unfold primM at hp
    rw [Bool.and_eq_true] at hp
    exact hp.1
  obtain ⟨hm, hJ⟩ := irrM_iff.1 hi
  obtain ⟨u, hu, hf⟩ := h.one (isMat_facts hm).pos
  refine stepN_is hp hf.pos (fullB_iff.2 fun i j hi hj => ?_) fun k hk0 hk => ?_
  · obtain ⟨n, hn, hfn⟩ := h.all i hi
    have := full_more hJ hi hfn.full (L - n)
    rw [show n + (L - n) = L by omega] at this
    exact (fullRow_iff hi).1 this j hj
  · cases e : fullB m k with
    | false => rfl
    | true =>
      have h1 := (fullRow_iff hu).2 fun j hj => fullB_iff.1 e u j hu hj
      rw [hf.first k hk0 hk] at h1
      cases h1

/-! ### Turns -/

/-- What is reached from vertex 0 by less than n arcs, or by n arcs and lies ahead of j, has its turn. -/
def TurnsTo (m : List (List Int)) (n j : Nat) (ys : List Int) : Prop := ys.length = m.length ∧ ∀ b, b < m.length → ∀ l, (l < n ∨ (l = n ∧ b < j)) → wkB m l 0 b = true → ys.getD b 0 = ((turnN m b : Nat) : Int)
theorem TurnsTo.start (m : List (List Int)) {ys : List Int} (h : ys.length = m.length) : TurnsTo m 0 0 ys := ⟨h, fun b _ l hl => by omega⟩
theorem TurnsTo.row {m : List (List Int)} {n : Nat} {ys : List Int} (h : TurnsTo m n m.length ys) : TurnsTo m (n + 1) 0 ys := ⟨h.1, fun b hb l hl => h.2 b hb l (by omega)⟩
theorem TurnsTo.skip {m : List (List Int)} {n j : Nat} {ys : List Int} (h : TurnsTo m n j ys) (hw : wkB m n 0 j = false) : TurnsTo m n (j + 1) ys := by
  refine ⟨h.1, fun b hb l hl hwb => ?_⟩
  by_cases e : l = n ∧ b = j
  · obtain ⟨rfl, rfl⟩ := e
    rw [hw] at hwb; cases hwb
  · exact h.2 b hb l (by omega) hwb
theorem TurnsTo.put {m : List (List Int)} {n j : Nat} {ys : List Int} (h : TurnsTo m n j ys) (hj : j < m.length) : TurnsTo m n (j + 1) (ys.set j ((turnN m j : Nat) : Int)) := by
  refine ⟨by rw [List.length_set]; exact h.1, fun b hb l hl hwb => ?_⟩
  by_cases e : b = j
  · subst e
    have := h.1
    simp [List.getD_eq_getElem?_getD, show b < ys.length by omega]
  · have h1 := h.2 b hb l (by omega) hwb
    simpa [List.getD_eq_getElem?_getD, List.getElem?_set, Ne.symm e] using h1
theorem turn_walk {m : List (List Int)} (h0 : 0 < m.length) (hJ : Joined m.length (arcP m)) {n j : Nat} (hj : j < m.length) (h : wkB m n 0 j = true) : n % perM m = turnN m j := by
  unfold turnN
  exact same_mod hJ h0 hj ((wkB_iff h0 hj).1 h) (distN_is h0 hJ hj).1
theorem TurnsTo.done {m : List (List Int)} (hi : irrM m = true) {ys : List Int} (h : TurnsTo m m.length 0 ys) : ys = turnsM m := by
  obtain ⟨hm, hJ⟩ := irrM_iff.1 hi
  have h0 := (isMat_facts hm).pos
  unfold turnsM
  rw [if_pos hi]
  refine List.ext_getElem (by simp [h.1]) fun j h1 h2 => ?_
  have hj : j < m.length := by rw [← h.1]; exact h1
  have hd := distN_is h0 hJ hj
  have hp := h.2 j hj _ (Or.inl hd.2.1) ((wkB_iff h0 hj).2 hd.1)
  rw [List.getD_eq_getElem?_getD, List.getElem?_eq_getElem h1, Option.getD_some] at hp
  rw [List.getElem_map, List.getElem_range]
  exact hp

/-! ### The table of what is reached -/

theorem sum_full {f : Nat → Int} {B : Int} : ∀ n : Nat, (∀ i, i < n → f i ≤ B) → sumTo n f ≤ (n : Int) * B ∧ (sumTo n f = (n : Int) * B → ∀ i, i < n → f i = B)
  | 0, _ => ⟨by simp [sumTo], fun _ i h => by omega⟩
  | n + 1, h => by
    obtain ⟨h1, h2⟩ := sum_full n fun i hi => h i (by omega)
    have h3 := h n (by omega)
    have e : ((n + 1 : Nat) : Int) * B = (n : Int) * B + B := by rw [Int.natCast_add, Int.add_mul]; simp
    have e2 : sumTo (n + 1) f = sumTo n f + f n := rfl
    rw [e, e2]
    refine ⟨by omega, fun hs i hi => ?_⟩
    by_cases hin : i = n
    · subst hin; omega
    · exact h2 (by omega) i (by omega)
theorem sum_const (B : Int) : ∀ n : Nat, sumTo n (fun _ => B) = (n : Int) * B
  | 0 => by simp [sumTo]
  | n + 1 => by
    have e : ((n + 1 : Nat) : Int) * B = (n : Int) * B + B := by rw [Int.natCast_add, Int.add_mul]; simp
    rw [e, ← sum_const B n]; rfl
theorem reachM_isMat {m : List (List Int)} (hm : isMat m = true) : isMat (reachM m) = true := by
  obtain ⟨f1, f2, f3⟩ := reachM_facts m
  have hf := isMat_facts hm
  refine isMat_iff.2 ⟨by rw [f1]; exact ⟨hf.pos, hf.le⟩, fun i hi => ?_⟩
  rw [f1] at hi ⊢
  refine ⟨f2 i hi, fun j hj => ?_⟩
  rw [f3 i j hi hj]
  have := bI_range (reachB m i j)
  omega
theorem reach_sum {m : List (List Int)} (hm : isMat m = true) : sumM (reachM m) ≤ (m.length : Int) * (m.length : Int) ∧ 0 ≤ sumM (reachM m) ∧ (sumM (reachM m) == (m.length : Int) * (m.length : Int)) = irrM m := by
  obtain ⟨f1, _, f3⟩ := reachM_facts m
  have e : sumM (reachM m) = sumTo m.length fun i => sumTo m.length fun j => bI (reachB m i j) := by
    unfold sumM
    rw [if_pos (reachM_isMat hm), f1]
    exact sumTo_congr _ fun i hi => sumTo_congr _ fun j hj => f3 i j hi hj
  have hrow : ∀ i, i < m.length → sumTo m.length (fun j => bI (reachB m i j)) ≤ (m.length : Int) := fun i _ => by
    have h := (sum_full (f := fun j => bI (reachB m i j)) (B := 1) m.length fun j _ => (bI_range _).2).1
    omega
  obtain ⟨h1, h2⟩ := sum_full (f := fun i => sumTo m.length fun j => bI (reachB m i j)) (B := (m.length : Int)) m.length hrow
  rw [e]
  refine ⟨h1, ?_, ?_⟩
  · refine (sumTo_le (f := fun i => sumTo m.length fun j => bI (reachB m i j)) (B := (m.length : Int)) m.length fun i hi => ⟨?_, hrow i hi⟩).1
    exact (sumTo_le (f := fun j => bI (reachB m i j)) (B := 1) m.length fun j _ => bI_range _).1
  · rw [Bool.eq_iff_iff, beq_iff_eq]
    constructor
    · intro hs
      refine irr_all hm fun i j hi hj => ?_
      have h3 := h2 hs i hi
      have h4 := (sum_full (f := fun j => bI (reachB m i j)) (B := 1) m.length fun j _ => (bI_range _).2).2 (by rw [Int.mul_one]; exact h3) j hj
      exact bI_eq_one.1 h4
    · intro hi
      have hall : ∀ i j, i < m.length → j < m.length → reachB m i j = true := fun i j h3 h4 => (reachB_iff h3 h4).2 ((irrM_iff.1 hi).2 i j h3 h4)
      have e3 : (sumTo m.length fun i => sumTo m.length fun j => bI (reachB m i j)) = sumTo m.length fun _ => (m.length : Int) := sumTo_congr _ fun i hi => by
        have e4 : (sumTo m.length fun j => bI (reachB m i j)) = sumTo m.length fun _ => 1 := sumTo_congr _ fun j hj => by rw [hall i j hi hj]; rfl
        rw [e4, sum_const, Int.mul_one]
      rw [e3, sum_const]
end Go.Proofs.YtanelokploifhaaDoor
