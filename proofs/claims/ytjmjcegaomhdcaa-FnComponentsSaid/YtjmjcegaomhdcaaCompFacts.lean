/-
  PLAIN FACTS on components and periods, as the law asks them (no program in this text): powers and closed walks, turns and arcs, one component, the bound on the primitive step.
-/
import Derived.Test.YtjmjcegaomhdcaaTurnsSpec
import Derived.Test.YtjmjcegaomhdcaaCompList
namespace Go.Proofs.Ytjmjcegaomhdcaa
open Go Go.RowKit

theorem prim_is (m : List (List Int)) : primM m = (irrM m && (perS m == 1)) := by
  unfold primM
  cases hi : irrM m with
  | false => rfl
  | true =>
    rw [perS_irr hi, Bool.true_and, Bool.true_and]
    by_cases h : perM m = 1
    · rw [h]; rfl
    · rw [decide_eq_false h, eq_comm, beq_eq_false_iff_ne]
      omega
theorem not_mat {m : List (List Int)} (h : isMat m = false) : perS m = 0 ∧ compS m = [] ∧ irrM m = false := by
  refine ⟨?_, ?_, ?_⟩
  · unfold perS; rw [if_neg (by rw [h]; decide)]
  · unfold compS; rw [if_neg (by rw [h]; decide)]
  · unfold irrM; rw [h]; rfl
theorem sumTo_nonneg {f : Nat → Int} : ∀ {n : Nat}, (∀ k, k < n → 0 ≤ f k) → 0 ≤ sumTo n f
  | 0, _ => Int.le_refl 0
  | n + 1, h => by
    have h1 := sumTo_nonneg (n := n) fun k hk => h k (by omega)
    have h2 := h n (by omega)
    rw [sumTo]; omega
theorem sumTo_pos {f : Nat → Int} : ∀ {n : Nat}, (∀ k, k < n → 0 ≤ f k) → (0 < sumTo n f ↔ ∃ k, k < n ∧ 0 < f k)
  | 0, _ => ⟨fun h => absurd h (Int.lt_irrefl 0), fun ⟨k, hk, _⟩ => absurd hk (Nat.not_lt_zero _)⟩
  | n + 1, h => by
    have ih := sumTo_pos (n := n) fun k hk => h k (by omega)
    have h0 := sumTo_nonneg (n := n) fun k hk => h k (by omega)
    have hn := h n (by omega)
    rw [sumTo]
    constructor
    · intro hp
      by_cases e : 0 < f n
      · exact ⟨n, by omega, e⟩
      · obtain ⟨k, hk, hf⟩ := ih.1 (by omega)
        exact ⟨k, by omega, hf⟩
    · rintro ⟨k, hk, hf⟩
      by_cases e : k = n
      · subst e; omega
      · have := ih.2 ⟨k, by omega, hf⟩
        omega
theorem pow_walk {m : List (List Int)} (hm : isMat m = true) : ∀ {n : Nat} {P : List (List Int)}, powM m n = some P → ∀ i j, i < m.length → j < m.length → (0 < cellOf P i j ↔ Wk (arcP m) n i j)
  | 0, P, h, i, j, hi, hj => by
    obtain rfl := Option.some.inj h
    unfold oneM
    rw [tabOf_cell hi hj]
    show _ ↔ i = j
    by_cases e : i = j
    · rw [if_pos e]; exact ⟨fun _ => e, fun _ => by decide⟩
    · rw [if_neg e]; exact ⟨fun h => absurd h (by decide), fun h => absurd h e⟩
  | n + 1, P, h, i, j, hi, hj => by
    rw [powM] at h
    obtain ⟨Q, hQ, hP⟩ := Option.bind_eq_some_iff.1 h
    obtain ⟨q1, _, _, _, rfl⟩ := prodM_some hP
    have fq := isMat_facts q1
    have fm := isMat_facts hm
    have lq := powM_length n hQ
    have ih := pow_walk hm hQ
    unfold mulM
    rw [tabOf_cell (by omega) hj, sumTo_pos (fun k hk => Int.mul_nonneg (fq.cell i k (by omega) (by omega)).1 (fm.cell k j hk hj).1)]
    constructor
    · rintro ⟨k, hk, hp⟩
      have c1 := (fq.cell i k (by omega) (by omega)).1
      have c2 := (fm.cell k j hk hj).1
      have p1 : 0 < cellOf Q i k := by
        by_cases e : cellOf Q i k = 0
        · rw [e, Int.zero_mul] at hp; omega
        · omega
      have p2 : 0 < cellOf m k j := by
        by_cases e : cellOf m k j = 0
        · rw [e, Int.mul_zero] at hp; omega
        · omega
      exact ⟨k, (ih i k hi hk).1 p1, hk, hj, decide_eq_true p2⟩
    · rintro ⟨k, h1, h2⟩
      exact ⟨k, h2.1, Int.mul_pos ((ih i k hi h2.1).2 h1) (of_decide_eq_true h2.2.2)⟩
/-- Closed walks of k arcs: the period divides k. -/
theorem trace_period {m P : List (List Int)} {k : Nat} (hm : isMat m = true) (hk : 0 < k) (hP : powM m k = some P) (ht : 0 < traceM P) : 0 < perM m ∧ perM m ∣ k := by
  have hPm := powM_isMat hm k hP
  have fP := isMat_facts hPm
  have lP := powM_length k hP
  unfold traceM at ht
  rw [if_pos hPm, sumTo_pos (fun t htl => (fP.cell t t htl htl).1)] at ht
  obtain ⟨t, htl, hp⟩ := ht
  have hw := (pow_walk hm hP t t (by omega) (by omega)).1 hp
  have hd := perM_closed hw
  refine ⟨?_, hd⟩
  by_cases e : perM m = 0
  · rw [e, Nat.zero_dvd] at hd; omega
  · omega
/-- Turns along an arc. -/
theorem turn_diff {m : List (List Int)} (hi : irrM m = true) {i j : Nat} (hil : i < m.length) (hjl : j < m.length) (h : 0 < cellOf m i j) : Int.tmod (((turnN m i : Nat) : Int) + 1 - ((turnN m j : Nat) : Int)) ((perM m : Nat) : Int) = 0 := by
  obtain ⟨hm, hJ⟩ := irrM_iff.1 hi
  have h0 := (isMat_facts hm).pos
  have ha := turn_arc h0 hJ hil hjl (decide_eq_true h)
  have e := Nat.div_add_mod (turnN m i + 1) (perM m)
  rw [ha] at e
  have e2 : ((turnN m i : Nat) : Int) + 1 - ((turnN m j : Nat) : Int) = ((perM m * ((turnN m i + 1) / perM m) : Nat) : Int) := by omega
  rw [e2, Int.natCast_mul]
  exact Int.mul_tmod_right _ _
theorem turnsM_len (m : List (List Int)) : (turnsM m).length = if irrM m then m.length else 0 := by
  unfold turnsM
  cases irrM m <;> simp
theorem turnsM_get {m : List (List Int)} (hi : irrM m = true) {j : Nat} (hj : j < m.length) : (turnsM m).getD j 0 = ((turnN m j : Nat) : Int) := by
  unfold turnsM
  rw [if_pos hi]
  simp [List.getD_eq_getElem?_getD, hj]
/-- One component, of all vertices. -/
theorem comp_one {m : List (List Int)} (hi : irrM m = true) : ∃ r, compS m = [r] ∧ r.length = m.length := by
  obtain ⟨hm, hJ⟩ := irrM_iff.1 hi
  have h0 := (isMat_facts hm).pos
  have hall : ∀ i, i < m.length → compTo m i m.length = (List.range m.length).map fun (b : Nat) => (b : Int) := fun i hil => by
    unfold compTo
    rw [List.filter_eq_self.2]
    intro b hb
    have hbl := List.mem_range.1 hb
    rw [Bool.and_eq_true]
    exact ⟨(reachB_iff hil hbl).2 (hJ i b hil hbl), (reachB_iff hbl hil).2 (hJ b i hbl hil)⟩
  have hz : ((List.range m.length).map fun (b : Nat) => (b : Int)).getD 0 0 = 0 := by
    rw [List.getD_eq_getElem?_getD, List.getElem?_map, List.getElem?_range (show 0 < m.length from h0)]; rfl
  have hone : ∀ n, n + 1 ≤ m.length → compM m (n + 1) = [(List.range m.length).map fun (b : Nat) => (b : Int)] := fun n => by
    induction n with
    | zero =>
      intro h
      rw [compM_next, compList_is, hall 0 h0, if_pos ⟨by simp; omega, hz⟩]
      rfl
    | succ n ih =>
      intro h
      rw [compM_next, ih (by omega), compList_is, hall (n + 1) (by omega), if_neg (fun hh => ?_)]
      · rfl
      · have := hh.2
        rw [hz] at this
        omega
  refine ⟨(List.range m.length).map fun (b : Nat) => (b : Int), ?_, by simp⟩
  unfold compS
  rw [if_pos hm]
  have := hone (m.length - 1) (by omega)
  rw [show m.length - 1 + 1 = m.length by omega] at this
  exact this
/-- The primitive step is bounded. -/
theorem stepN_bound {m : List (List Int)} (h : primM m = true) : 0 < stepN m ∧ stepN m + 2 * m.length ≤ m.length * m.length + 2 := by
  obtain ⟨b, hb0, hb, hf⟩ := primM_full h
  obtain ⟨n, ⟨hn0, hn⟩, hmin⟩ := least_nat (P := fun n => 0 < n ∧ fullB m n = true) ⟨b, hb0, fullB_iff.2 hf⟩
  have hle : n ≤ b := by
    by_cases hlt : b < n
    · exact absurd ⟨hb0, fullB_iff.2 hf⟩ (hmin b hlt)
    · omega
  have e := stepN_is h hn0 hn fun k hk hkn => by
    cases hc : fullB m k with
    | false => rfl
    | true => exact absurd ⟨hk, hc⟩ (hmin k hkn)
  rw [e]
  exact ⟨hn0, by omega⟩
theorem stepN_none {m : List (List Int)} (h : primM m = false) : stepN m = 0 := by unfold stepN; rw [if_neg (by rw [h]; decide)]
end Go.Proofs.Ytjmjcegaomhdcaa
