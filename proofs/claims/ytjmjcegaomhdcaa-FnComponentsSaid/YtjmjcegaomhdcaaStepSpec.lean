/-
  The model's step by one arc, and its greatest common divisor; nothing that was there before is changed.
-/
import Derived.Test.YtjmjcegaomhdcaaReachSpec
namespace Go.Proofs.Ytjmjcegaomhdcaa
open Go Go.RowKit

/-- A table of marks. -/
def markM (A : Nat → Nat → Bool) (n : Nat) : List (List Int) := tabOf n n fun i j => bI (A i j)
theorem markM_length (A : Nat → Nat → Bool) (n : Nat) : (markM A n).length = n := tabOf_length _ _ _
theorem markM_row (A : Nat → Nat → Bool) {n i : Nat} (hi : i < n) : ((markM A n).getD i []).length = n := by
  unfold markM
  rw [tabOf_row hi]; simp
theorem markM_cell (A : Nat → Nat → Bool) {n i j : Nat} (hi : i < n) (hj : j < n) : cellOf (markM A n) i j = bI (A i j) := tabOf_cell hi hj
/-- The step so far: all marks ahead of i and j, and t vertices there. -/
def stepF (A : Nat → Nat → Bool) (m : List (List Int)) (i j t : Nat) : Nat → Nat → Int := fun a b => if a < i ∨ (a = i ∧ b < j) then bI (stepB A m m.length a b) else if a = i ∧ b = j then bI (stepB A m t i j) else 0
theorem stepF_zero (A : Nat → Nat → Bool) (m : List (List Int)) (n : Nat) : tabOf n n (stepF A m 0 0 0) = tabOf n n fun _ _ => 0 := tabOf_congr fun i j _ _ => by
  unfold stepF
  rw [if_neg (by omega)]
  split <;> rfl
theorem stepF_at (A : Nat → Nat → Bool) (m : List (List Int)) (i j t : Nat) : stepF A m i j t i j = bI (stepB A m t i j) := by
  unfold stepF
  rw [if_neg (by omega), if_pos ⟨rfl, rfl⟩]
theorem stepF_term (A : Nat → Nat → Bool) (m : List (List Int)) (n i j t : Nat) (hi : i < n) : (tabOf n n (stepF A m i j t)).set i (((tabOf n n (stepF A m i j t)).getD i []).set j (bI (stepB A m t i j || (A i t && arcB m t j)))) = tabOf n n (stepF A m i j (t + 1)) := by
  rw [tabOf_set _ _ hi]
  refine tabOf_congr fun a b _ _ => ?_
  by_cases e : a = i ∧ b = j
  · obtain ⟨rfl, rfl⟩ := e
    rw [if_pos ⟨rfl, rfl⟩, stepF_at, stepB_next]
  · rw [if_neg e]
    unfold stepF
    rw [if_neg e, if_neg e]
theorem stepF_next (A : Nat → Nat → Bool) (m : List (List Int)) (n i j : Nat) : tabOf n n (stepF A m i j m.length) = tabOf n n (stepF A m i (j + 1) 0) := tabOf_congr fun a b _ _ => by
  unfold stepF
  by_cases h1 : a < i ∨ (a = i ∧ b < j)
  · rw [if_pos h1, if_pos (by omega)]
  · rw [if_neg h1]
    by_cases h2 : a = i ∧ b = j
    · obtain ⟨rfl, rfl⟩ := h2
      rw [if_pos ⟨rfl, rfl⟩, if_pos (by omega)]
    · rw [if_neg h2, if_neg (by omega)]
      split <;> rfl
theorem stepF_row (A : Nat → Nat → Bool) (m : List (List Int)) (n i : Nat) : tabOf n n (stepF A m i n 0) = tabOf n n (stepF A m (i + 1) 0 0) := tabOf_congr fun a b _ hb => by
  unfold stepF
  by_cases h1 : a < i ∨ (a = i ∧ b < n)
  · rw [if_pos h1, if_pos (by omega)]
  · rw [if_neg h1, if_neg (by omega), if_neg (by omega)]
    split <;> rfl
theorem stepF_all (A : Nat → Nat → Bool) (m : List (List Int)) : tabOf m.length m.length (stepF A m m.length 0 0) = markM (stepB A m m.length) m.length := tabOf_congr fun a b ha _ => by
  unfold stepF
  rw [if_pos (Or.inl ha)]

set_option linter.unusedSimpArgs false in
set_option maxRecDepth 100000 in
set_option maxHeartbeats 6400000 in
theorem spec_step6 (A1 A2 : Option Addr) (c1 c2 : Nat) (m : List (List Int)) (hm : MatFacts m) (B : Nat → Nat → Bool) (w : World) (h1 : GridS w A1 (markM B m.length)) (h2 : GridS w A2 m) :
    Calls Try.prog 52 #[.slice A1 m.length c1, .slice A2 m.length c2] w (NewG (markM (stepB B m m.length) m.length) w) := by
  have H1 := Lib.hid h1
  have H2 := Lib.hid h2
  have HA := Lib.hid hm
  have HZ := Lib.hid (spec_zero m.length m.length (by have := hm.le; omega) (by have := hm.le; omega) w)
  have HBIT := Lib.hid m_bit
  have hand := bI_and
  have hor := bI_or
  have l1 := hm.le
  clear h1 h2 hm
  go_enter Try.func52, Try.ntmps52
  go_wp2_with fail
  refine HZ.out.mono ?_
  rintro e w1 ⟨v, rfl, hown, b1⟩
  obtain ⟨A, c, rfl, -⟩ := hown.gridS
  rw [← stepF_zero B m] at hown
  rw [tabOf_length] at hown ⊢
  have HO := Lib.hid hown
  have HB1 := Lib.hid b1
  clear hown b1
  go_wp2
  go_loopw [6] (fun iv wr => ∃ i : Nat, i ≤ m.length ∧ iv = .int .i64 i ∧ OwnG wr w.heap.size (.slice A m.length c) (tabOf m.length m.length (stepF B m i 0 0)) ∧ Below w.heap.size w wr) (fun i _ => m.length - (intOf i).toNat)
  case atStart => exact ⟨0, Nat.zero_le _, rfl, HO.out, HB1.out⟩
  case round =>
    obtain ⟨i, hi, rfl, hown, hbl⟩ := hrel
    by_cases hil : i < m.length
    · have HO1 := Lib.hid hown
      have HB2 := Lib.hid hbl
      clear hown hbl
      obtain ⟨W1, rfl⟩ : ∃ W1 : World, W1 = wr := ⟨_, rfl⟩
      go_wp2
      go_loopw [7] (fun jv wr => ∃ j : Nat, j ≤ m.length ∧ jv = .int .i64 j ∧ OwnG wr w.heap.size (.slice A m.length c) (tabOf m.length m.length (stepF B m i j 0)) ∧ Below w.heap.size w wr) (fun j _ => m.length - (intOf j).toNat)
      case atStart => exact ⟨0, Nat.zero_le _, rfl, HO1.out, HB2.out⟩
      case round =>
        obtain ⟨j, hj, rfl, hown, hbl⟩ := hrel
        by_cases hjl : j < m.length
        · have HO2 := Lib.hid hown
          have HB3 := Lib.hid hbl
          clear hown hbl
          obtain ⟨W2, rfl⟩ : ∃ W2 : World, W2 = wr := ⟨_, rfl⟩
          go_wp2
          go_loopw [8] (fun tv wr => ∃ t : Nat, t ≤ m.length ∧ tv = .int .i64 t ∧ OwnG wr w.heap.size (.slice A m.length c) (tabOf m.length m.length (stepF B m i j t)) ∧ Below w.heap.size w wr) (fun t _ => m.length - (intOf t).toNat)
          case atStart => exact ⟨0, Nat.zero_le _, rfl, HO2.out, HB3.out⟩
          case round =>
            obtain ⟨t, ht, rfl, hown, hbl⟩ := hrel
            by_cases htl : t < m.length
            · have hrl : ((tabOf m.length m.length (stepF B m i j t)).getD i []).length = m.length := by rw [tabOf_row hil]; simp
              obtain ⟨g, cap, gi, ci, hv, k1, k2, kf, kb, kl, kne, kg, hset⟩ := hown.at2 (i := i) (j := j) (by rw [tabOf_length]; exact hil) (by rw [hrl]; exact hjl)
              rw [tabOf_length] at hv
              simp only [Value.slice.injEq, true_and] at hv
              obtain ⟨rfl, rfl⟩ := hv
              rw [hrl] at k1
              rw [tabOf_cell hil hjl, stepF_at] at k2
              obtain ⟨p1, p2, p3, p4, p5, rfl, ka1, ka2, pb1, pb2⟩ := H2.out.num htl (j := j) (by rw [HA.out.row t htl]; exact hjl)
              have ka1' := (hbl.cell (p := ⟨p1, p2 + t, none⟩) pb1).trans ka1
              have ka2' := (hbl.cell (p := ⟨p3, p4 + j, none⟩) pb2).trans ka2
              rw [HA.out.row t htl] at ka1'
              obtain ⟨q1, q2, q3, q4, q5, rfl, kq1, kq2, qb1, qb2⟩ := H1.out.num (i := i) (by rw [markM_length]; exact hil) (j := t) (by rw [markM_row B hil]; exact htl)
              have kq1' := (hbl.cell (p := ⟨q1, q2 + i, none⟩) qb1).trans kq1
              have kq2' := (hbl.cell (p := ⟨q3, q4 + t, none⟩) qb2).trans kq2
              rw [markM_row B hil] at kq1'
              rw [markM_cell B hil htl] at kq2'
              have hs1 := hset (bI (stepB B m t i j || (B i t && arcB m t j)))
              rw [stepF_term B m _ i j t hil] at hs1
              have HS := Lib.hid hs1
              have HB4 := Lib.hid hbl
              have n1 : p1 ≠ gi := by omega
              have n2 : p3 ≠ gi := by omega
              have n3 : q1 ≠ gi := by omega
              have n4 : q3 ≠ gi := by omega
              have HARC : Hid (arcB m t j = decide (0 < cellOf m t j)) := Lib.hid rfl
              clear hset hs1 hown hbl ka1 ka2 kq1 kq2
              generalize stepB B m t i j = T at *
              generalize cellOf m t j = x at *
              generalize arcB m t j = y at *
              generalize B i t = z at *
              have hy := HARC.out
              subst hy
              go_wp2
              refine wp_region_held_drew (S := (fun w' => w'.cell? ⟨g, i, none⟩ = some (.slice (some ⟨gi, 0, none⟩) m.length ci) ∧ w'.cell? ⟨p1, p2 + t, none⟩ = some (.slice (some ⟨p3, p4, none⟩) m.length p5) ∧ w'.cell? ⟨p3, p4 + j, none⟩ = some (.int .i64 x) ∧ w'.cell? ⟨q1, q2 + i, none⟩ = some (.slice (some ⟨q3, q4, none⟩) m.length q5) ∧ w'.cell? ⟨q3, q4 + t, none⟩ = some (.int .i64 (bI z)))) (by kernel_rfl) ?hS0a (fun hHeld => ?_)
              case hS0a => exact ⟨k1, ka1', ka2', kq1', kq2'⟩
              refine wpAnyH_take (i := 0) (v := ?v0a) rfl (by kernel_rfl) (by kernel_rfl) (by kernel_rfl) (fun _ _ _ h => h) (Or.inl ⟨by rfl, ?hy0a⟩) (by assumption) ?_
              case hy0a => (intro w hSw; (try dsimp only at hSw); go_simp; try with_reducible rfl)
              try simp only [Act.put, List.setIfInBounds_toArray, List.set_cons_zero, List.set_cons_succ]
              refine wpAnyH_take (i := 1) (v := ?v1a) rfl (by kernel_rfl) (by kernel_rfl) (by kernel_rfl) (fun _ _ _ h => h) (Or.inl ⟨by rfl, ?hy1a⟩) (by assumption) ?_
              case hy1a => (intro w hSw; (try dsimp only at hSw); go_simp; try with_reducible rfl)
              try simp only [Act.put, List.setIfInBounds_toArray, List.set_cons_zero, List.set_cons_succ]
              refine wpAnyH_take (i := 2) (v := ?v2a) rfl (by kernel_rfl) (by kernel_rfl) (by kernel_rfl) (fun _ _ _ h => h) (Or.inl ⟨by rfl, ?hy2a⟩) (by assumption) ?_
              case hy2a => (intro w hSw; (try dsimp only at hSw); go_simp; try with_reducible rfl)
              try simp only [Act.put, List.setIfInBounds_toArray, List.set_cons_zero, List.set_cons_succ]
              refine wpAnyH_take (i := 3) (v := ?v3a) rfl (by kernel_rfl) (by kernel_rfl) (by kernel_rfl) (fun _ _ _ h => h) (Or.inl ⟨by rfl, ?hy3a⟩) (by assumption) ?_
              case hy3a => (intro w hSw; (try dsimp only at hSw); go_simp; try with_reducible rfl)
              try simp only [Act.put, List.setIfInBounds_toArray, List.set_cons_zero, List.set_cons_succ]
              refine wpAnyH_take (i := 4) (v := ?v4a) rfl (by kernel_rfl) (by kernel_rfl) (by kernel_rfl) (fun _ _ _ h => h) (Or.inl ⟨by rfl, ?hy4a⟩) (by assumption) ?_
              case hy4a => (intro w hSw; (try dsimp only at hSw); go_simp; try with_reducible rfl)
              try simp only [Act.put, List.setIfInBounds_toArray, List.set_cons_zero, List.set_cons_succ]
              refine wpAnyH_take (i := 5) (v := ?v5a) rfl (by kernel_rfl) (by kernel_rfl) (by kernel_rfl) (fun _ _ _ h => h) (Or.inl ⟨by rfl, ?hy5a⟩) (by assumption) ?_
              case hy5a => (intro w hSw; (try dsimp only at hSw); go_simp; try with_reducible rfl)
              try simp only [Act.put, List.setIfInBounds_toArray, List.set_cons_zero, List.set_cons_succ]
              refine wpAnyH_take (i := 6) (v := ?v6a) rfl (by kernel_rfl) (by kernel_rfl) (by kernel_rfl) (fun _ _ _ h => h) (Or.inl ⟨by rfl, ?hy6a⟩) (by assumption) ?_
              case hy6a => (intro w hSw; (try dsimp only at hSw); go_simp; try with_reducible rfl)
              try simp only [Act.put, List.setIfInBounds_toArray, List.set_cons_zero, List.set_cons_succ]
              refine wpAnyH_take (i := 7) (v := ?v7a) rfl (by kernel_rfl) (by kernel_rfl) (by kernel_rfl) (fun _ _ _ h => h) (Or.inl ⟨by rfl, ?hy7a⟩) (by assumption) ?_
              case hy7a => (intro w hSw; (try dsimp only at hSw); go_simp; try with_reducible rfl)
              try simp only [Act.put, List.setIfInBounds_toArray, List.set_cons_zero, List.set_cons_succ]
              refine wpAnyH_take (i := 8) (v := ?v8a) rfl (by kernel_rfl) (by kernel_rfl) (by kernel_rfl) (fun _ _ _ h => h) (Or.inl ⟨by rfl, ?hy8a⟩) (by assumption) ?_
              case hy8a => (intro w hSw; (try dsimp only at hSw); go_simp; try with_reducible rfl)
              try simp only [Act.put, List.setIfInBounds_toArray, List.set_cons_zero, List.set_cons_succ]
              refine wpAnyH_take (i := 9) (v := ?v9a) rfl (by kernel_rfl) (by kernel_rfl) (by kernel_rfl) (fun _ _ _ h => h) (Or.inl ⟨by rfl, ?hy9a⟩) (by assumption) ?_
              case hy9a => (intro w hSw; (try dsimp only at hSw); go_simp; try with_reducible rfl)
              try simp only [Act.put, List.setIfInBounds_toArray, List.set_cons_zero, List.set_cons_succ]
              refine wpAnyH_take (i := 10) (v := ?v10a) rfl (by kernel_rfl) (by kernel_rfl) (by kernel_rfl) (fun _ _ _ h => h) (Or.inl ⟨by rfl, ?hy10a⟩) (by assumption) ?_
              case hy10a => (intro w hSw; (try dsimp only at hSw); go_simp; try with_reducible rfl)
              try simp only [Act.put, List.setIfInBounds_toArray, List.set_cons_zero, List.set_cons_succ]
              refine wpAnyH_take (i := 12) (v := ?v12a) rfl (by kernel_rfl) (by kernel_rfl) (by kernel_rfl) (fun _ _ _ h => h) (Or.inl ⟨by rfl, ?hy12a⟩) (by assumption) ?_
              case hy12a => (intro w hSw; (try dsimp only at hSw); go_simp; try with_reducible rfl)
              try simp only [Act.put, List.setIfInBounds_toArray, List.set_cons_zero, List.set_cons_succ]
              refine wpAnyH_take (i := 13) (v := ?v13a) rfl (by kernel_rfl) (by kernel_rfl) (by kernel_rfl) (fun _ _ _ h => h) (Or.inl ⟨by rfl, ?hy13a⟩) (by assumption) ?_
              case hy13a => (intro w hSw; (try dsimp only at hSw); go_simp; try with_reducible rfl)
              try simp only [Act.put, List.setIfInBounds_toArray, List.set_cons_zero, List.set_cons_succ]
              refine wpAnyH_take (i := 14) (v := ?v14a) rfl (by kernel_rfl) (by kernel_rfl) (by kernel_rfl) (fun _ _ _ h => h) (Or.inl ⟨by rfl, ?hy14a⟩) (by assumption) ?_
              case hy14a => (intro w hSw; (try dsimp only at hSw); go_simp; try with_reducible rfl)
              try simp only [Act.put, List.setIfInBounds_toArray, List.set_cons_zero, List.set_cons_succ]
              refine wpAnyH_take (i := 15) (v := ?v15a) rfl (by kernel_rfl) (by kernel_rfl) (by kernel_rfl) (fun _ _ _ h => h) (Or.inl ⟨by rfl, ?hy15a⟩) (by assumption) ?_
              case hy15a => (intro w hSw; (try dsimp only at hSw); go_simp; try with_reducible rfl)
              try simp only [Act.put, List.setIfInBounds_toArray, List.set_cons_zero, List.set_cons_succ]
              refine wpAnyH_take (i := 16) (v := ?v16a) rfl (by kernel_rfl) (by kernel_rfl) (by kernel_rfl) (fun _ _ _ h => h) (Or.inl ⟨by rfl, ?hy16a⟩) (by assumption) ?_
              case hy16a => (intro w hSw; (try dsimp only at hSw); go_simp; try with_reducible rfl)
              try simp only [Act.put, List.setIfInBounds_toArray, List.set_cons_zero, List.set_cons_succ]
              refine wpAnyH_take (i := 17) (v := ?v17a) rfl (by kernel_rfl) (by kernel_rfl) (by kernel_rfl) (fun _ _ _ h => h) (Or.inl ⟨by rfl, ?hy17a⟩) (by assumption) ?_
              case hy17a => (intro w hSw; (try dsimp only at hSw); go_simp; try with_reducible rfl)
              try simp only [Act.put, List.setIfInBounds_toArray, List.set_cons_zero, List.set_cons_succ]
              refine wpAnyH_take (i := 18) (v := ?v18a) rfl (by kernel_rfl) (by kernel_rfl) (by kernel_rfl) (fun _ _ _ h => h) (Or.inl ⟨by rfl, ?hy18a⟩) (by assumption) ?_
              case hy18a => (intro w hSw; (try dsimp only at hSw); go_simp; try with_reducible rfl)
              try simp only [Act.put, List.setIfInBounds_toArray, List.set_cons_zero, List.set_cons_succ]
              refine wpAnyH_take (i := 19) (v := ?v19a) rfl (by kernel_rfl) (by kernel_rfl) (by kernel_rfl) (fun _ _ _ h => h) (Or.inl ⟨by rfl, ?hy19a⟩) (by assumption) ?_
              case hy19a => (intro w hSw; (try dsimp only at hSw); go_simp; try with_reducible rfl)
              try simp only [Act.put, List.setIfInBounds_toArray, List.set_cons_zero, List.set_cons_succ]
              refine wpAnyH_take (i := 20) (v := ?v20a) rfl (by kernel_rfl) (by kernel_rfl) (by kernel_rfl) (fun _ _ _ h => h) (Or.inl ⟨by rfl, ?hy20a⟩) (by assumption) ?_
              case hy20a => (intro w hSw; (try dsimp only at hSw); go_simp; try with_reducible rfl)
              try simp only [Act.put, List.setIfInBounds_toArray, List.set_cons_zero, List.set_cons_succ]
              refine wpAnyH_take (i := 21) (v := ?v21a) rfl (by kernel_rfl) (by kernel_rfl) (by kernel_rfl) (fun _ _ _ h => h) (Or.inl ⟨by rfl, ?hy21a⟩) (by assumption) ?_
              case hy21a => (intro w hSw; (try dsimp only at hSw); go_simp; try with_reducible rfl)
              try simp only [Act.put, List.setIfInBounds_toArray, List.set_cons_zero, List.set_cons_succ]
              refine wpAnyH_take (i := 22) (v := ?v22a) rfl (by kernel_rfl) (by kernel_rfl) (by kernel_rfl) (fun _ _ _ h => h) (Or.inl ⟨by rfl, ?hy22a⟩) (by assumption) ?_
              case hy22a => (intro w hSw; (try dsimp only at hSw); go_simp; try with_reducible rfl)
              try simp only [Act.put, List.setIfInBounds_toArray, List.set_cons_zero, List.set_cons_succ]
              refine wpAnyH_take (i := 23) (v := ?v23a) rfl (by kernel_rfl) (by kernel_rfl) (by kernel_rfl) (fun _ _ _ h => h) (Or.inl ⟨by rfl, ?hy23a⟩) (by assumption) ?_
              case hy23a => (intro w hSw; (try dsimp only at hSw); go_simp; try with_reducible rfl)
              try simp only [Act.put, List.setIfInBounds_toArray, List.set_cons_zero, List.set_cons_succ]
              refine wpAnyH_take (i := 24) (v := ?v24a) rfl (by kernel_rfl) (by kernel_rfl) (by kernel_rfl) (fun _ _ _ h => h) (Or.inl ⟨by rfl, ?hy24a⟩) (by assumption) ?_
              case hy24a => (intro w hSw; (try dsimp only at hSw); go_simp; try with_reducible rfl)
              try simp only [Act.put, List.setIfInBounds_toArray, List.set_cons_zero, List.set_cons_succ]
              refine wpAnyH_take (i := 25) (v := ?v25a) rfl (by kernel_rfl) (by kernel_rfl) (by kernel_rfl) (fun _ _ _ h => h) (Or.inl ⟨by rfl, ?hy25a⟩) (by assumption) ?_
              case hy25a => (intro w hSw; (try dsimp only at hSw); go_simp; try with_reducible rfl)
              try simp only [Act.put, List.setIfInBounds_toArray, List.set_cons_zero, List.set_cons_succ]
              refine wpAnyH_take (i := 26) (v := ?v26a) rfl (by kernel_rfl) (by kernel_rfl) (by kernel_rfl) (fun _ _ _ h => h) (Or.inl ⟨by rfl, ?hy26a⟩) (by assumption) ?_
              case hy26a => (intro w hSw; (try dsimp only at hSw); go_simp; try with_reducible rfl)
              try simp only [Act.put, List.setIfInBounds_toArray, List.set_cons_zero, List.set_cons_succ]
              refine wpAnyH_ready (rs := [11, 27]) (by kernel_rfl) (by simp) ?_
              refine AllReadyH.cons rfl (fun K hK => ?_) (AllReadyH.cons rfl (fun K hK => ?_) AllReadyH.nil)
              · go_simp
                refine hK.out _ _ ?hS11ap (fun hHeld => ?_)
                case hS11ap => (try dsimp only); exact ⟨k1, ka1', ka2', kq1', kq2'⟩
                clear hK K
                try simp only [Act.put, List.setIfInBounds_toArray, List.set_cons_zero, List.set_cons_succ]
                refine wpAnyH_ready (rs := [27]) (by kernel_rfl) (by simp) ?_
                refine AllReadyH.cons rfl (fun K hK => ?_) AllReadyH.nil
                go_simp
                go_at_call 68
                refine (HBIT.out _ _).mono ?_
                rintro e w2 ⟨rfl, rfl⟩
                go_wp2_with fail
                refine hK.out _ _ ?hS27ap (fun hHeld => ?_)
                case hS27ap => (try dsimp only); exact ⟨k1, ka1', ka2', kq1', kq2'⟩
                clear hK K
                try simp only [Act.put, List.setIfInBounds_toArray, List.set_cons_zero, List.set_cons_succ]
                refine wpAnyH_take (i := 28) (v := ?v28ap) rfl (by kernel_rfl) (by kernel_rfl) (by kernel_rfl) (fun _ _ _ h => h) (Or.inl ⟨by rfl, ?hy28ap⟩) (by assumption) ?_
                case hy28ap => (intro w hSw; (try dsimp only at hSw); go_simp; try with_reducible rfl)
                try simp only [Act.put, List.setIfInBounds_toArray, List.set_cons_zero, List.set_cons_succ]
                refine wpAnyH_take (i := 29) (v := ?v29ap) rfl (by kernel_rfl) (by kernel_rfl) (by kernel_rfl) (fun _ _ _ h => h) (Or.inl ⟨by rfl, ?hy29ap⟩) (by assumption) ?_
                case hy29ap => (intro w hSw; (try dsimp only at hSw); go_simp; try with_reducible rfl)
                try simp only [Act.put, List.setIfInBounds_toArray, List.set_cons_zero, List.set_cons_succ]
                refine wpAnyH_take (i := 30) (v := ?v30ap) rfl (by kernel_rfl) (by kernel_rfl) (by kernel_rfl) (fun _ _ _ h => h) (Or.inl ⟨by rfl, ?hy30ap⟩) (by assumption) ?_
                case hy30ap => (intro w hSw; (try dsimp only at hSw); go_simp; try with_reducible rfl)
                try simp only [Act.put, List.setIfInBounds_toArray, List.set_cons_zero, List.set_cons_succ]
                refine wpAnyH_ready (rs := [31]) (by kernel_rfl) (by simp) ?_
                refine AllReadyH.cons rfl (fun K hK => ?_) AllReadyH.nil
                go_simp
                refine hK.out _ _ ?hS31ap (fun hHeld => ?_)
                case hS31ap => (try dsimp only); exact ⟨cell_far kne k1, cell_far n1 ka1', cell_far n2 ka2', cell_far n3 kq1', cell_far n4 kq2'⟩
                clear hK K
                try simp only [Act.put, List.setIfInBounds_toArray, List.set_cons_zero, List.set_cons_succ]
                refine wpAnyH_done (by kernel_rfl) ?_ _
                go_wp2
                go_roundw
                case rel => exact ⟨t + 1, by omega, by go_num, HS.out.drew, (HB4.out.setCell kb _).drew⟩
                case measure => simp [intOf]; omega
              · go_simp
                go_at_call 68
                refine (HBIT.out _ _).mono ?_
                rintro e w2 ⟨rfl, rfl⟩
                go_wp2_with fail
                refine hK.out _ _ ?hS27aq (fun hHeld => ?_)
                case hS27aq => (try dsimp only); exact ⟨k1, ka1', ka2', kq1', kq2'⟩
                clear hK K
                try simp only [Act.put, List.setIfInBounds_toArray, List.set_cons_zero, List.set_cons_succ]
                refine wpAnyH_take (i := 28) (v := ?v28aq) rfl (by kernel_rfl) (by kernel_rfl) (by kernel_rfl) (fun _ _ _ h => h) (Or.inl ⟨by rfl, ?hy28aq⟩) (by assumption) ?_
                case hy28aq => (intro w hSw; (try dsimp only at hSw); go_simp; try with_reducible rfl)
                try simp only [Act.put, List.setIfInBounds_toArray, List.set_cons_zero, List.set_cons_succ]
                refine wpAnyH_ready (rs := [11]) (by kernel_rfl) (by simp) ?_
                refine AllReadyH.cons rfl (fun K hK => ?_) AllReadyH.nil
                go_simp
                refine hK.out _ _ ?hS11aq (fun hHeld => ?_)
                case hS11aq => (try dsimp only); exact ⟨k1, ka1', ka2', kq1', kq2'⟩
                clear hK K
                try simp only [Act.put, List.setIfInBounds_toArray, List.set_cons_zero, List.set_cons_succ]
                refine wpAnyH_take (i := 29) (v := ?v29aq) rfl (by kernel_rfl) (by kernel_rfl) (by kernel_rfl) (fun _ _ _ h => h) (Or.inl ⟨by rfl, ?hy29aq⟩) (by assumption) ?_
                case hy29aq => (intro w hSw; (try dsimp only at hSw); go_simp; try with_reducible rfl)
                try simp only [Act.put, List.setIfInBounds_toArray, List.set_cons_zero, List.set_cons_succ]
                refine wpAnyH_take (i := 30) (v := ?v30aq) rfl (by kernel_rfl) (by kernel_rfl) (by kernel_rfl) (fun _ _ _ h => h) (Or.inl ⟨by rfl, ?hy30aq⟩) (by assumption) ?_
                case hy30aq => (intro w hSw; (try dsimp only at hSw); go_simp; try with_reducible rfl)
                try simp only [Act.put, List.setIfInBounds_toArray, List.set_cons_zero, List.set_cons_succ]
                refine wpAnyH_ready (rs := [31]) (by kernel_rfl) (by simp) ?_
                refine AllReadyH.cons rfl (fun K hK => ?_) AllReadyH.nil
                go_simp
                refine hK.out _ _ ?hS31aq (fun hHeld => ?_)
                case hS31aq => (try dsimp only); exact ⟨cell_far kne k1, cell_far n1 ka1', cell_far n2 ka2', cell_far n3 kq1', cell_far n4 kq2'⟩
                clear hK K
                try simp only [Act.put, List.setIfInBounds_toArray, List.set_cons_zero, List.set_cons_succ]
                refine wpAnyH_done (by kernel_rfl) ?_ _
                go_wp2
                go_roundw
                case rel => exact ⟨t + 1, by omega, by go_num, HS.out.drew, (HB4.out.setCell kb _).drew⟩
                case measure => simp [intOf]; omega
            · obtain rfl : t = m.length := by omega
              rw [stepF_next] at hown
              have HO3 := Lib.hid hown
              clear hown
              go_wp2
              go_roundw
              case rel => exact ⟨j + 1, by omega, by go_num, HO3.out, hbl⟩
              case measure => simp [intOf]; omega
        · obtain rfl : j = m.length := by omega
          rw [stepF_row] at hown
          have HO3 := Lib.hid hown
          clear hown
          go_wp2
          go_roundw
          case rel => exact ⟨i + 1, by omega, by go_num, HO3.out, hbl⟩
          case measure => simp [intOf]; omega
    · obtain rfl : i = m.length := by omega
      rw [stepF_all] at hown
      have HO3 := Lib.hid hown
      clear hown
      go_wp2
      go_ret
      exact ⟨_, rfl, HO3.out, hbl⟩

theorem wk_step (m : List (List Int)) (n : Nat) : markM (stepB (wkB m n) m m.length) m.length = markM (wkB m (n + 1)) m.length := rfl
theorem wk_one (m : List (List Int)) : oneM m.length = markM (wkB m 0) m.length := (wkM_zero m).symm

set_option maxRecDepth 100000 in
set_option maxHeartbeats 800000 in
theorem m_max (a b : Int) (w : World) : Calls Try.prog 69 #[.int .i64 a, .int .i64 b] w fun e w' => e = .returned (.int .i64 (max a b)) ∧ w' = w := by
  go_enter Try.func69, Try.ntmps69
  by_cases h : b < a
  · rw [show max a b = a by omega]
    go_wp2; go_ret; exact ⟨rfl, rfl⟩
  · rw [show max a b = b by omega]
    go_wp2; go_ret; exact ⟨rfl, rfl⟩

set_option maxRecDepth 100000 in
set_option maxHeartbeats 800000 in
theorem m_gcd (a b : Nat) (ha : a ≤ 1000000) (hb : b ≤ 1000000) (w : World) : Calls Try.prog 53 #[.int .i64 (a : Int), .int .i64 (b : Int)] w fun e w' => e = .returned (.int .i64 ((Nat.gcd a b : Nat) : Int)) ∧ w' = w := by
  have HMX : Hid (∀ (x : Nat) (w : World), Calls Try.prog 69 #[.int .i64 (x : Int), .int .i64 (-(x : Int))] w fun e w' => e = .returned (.int .i64 (x : Int)) ∧ w' = w) := Lib.hid fun x w => by
    have h := m_max (x : Int) (-(x : Int)) w
    rw [show max (x : Int) (-(x : Int)) = x by omega] at h
    exact h
  go_enter Try.func53, Try.ntmps53
  go_wp2
  go_loopw [0, 1] (fun av bv wr => ∃ x y : Nat, x ≤ 1000000 ∧ y ≤ 1000000 ∧ av = .int .i64 x ∧ bv = .int .i64 y ∧ Hid (Nat.gcd x y = Nat.gcd a b) ∧ wr = w) (fun _ bv _ => (intOf bv).toNat)
  case atStart => exact ⟨a, b, ha, hb, rfl, rfl, Lib.hid rfl, rfl⟩
  case round =>
    obtain ⟨x, y, hx, hy, rfl, rfl, hg, rfl⟩ := hrel
    by_cases h0 : y = 0
    · subst h0
      have e0 : (((0 : Nat) : Int) != 0) = false := rfl
      have hr := hg.out
      rw [Nat.gcd_zero_right] at hr
      have HR := Lib.hid hr
      clear hr hg
      go_wp2_with fail
      refine (HMX.out _ _).mono ?_
      rintro e w1 ⟨rfl, rfl⟩
      go_wp2
      go_ret
      exact ⟨by rw [← HR.out]; rfl, rfl⟩
    · have e0 : ((y : Int) != 0) = true := by
        rw [bne, beq_eq_false_iff_ne.2 (by omega)]; rfl
      have HN : Hid (Nat.gcd y (x % y) = Nat.gcd a b) := Lib.hid (by rw [← hg.out, Nat.gcd_comm x y, Nat.gcd_rec y x, Nat.gcd_comm (x % y) y])
      have hlt := Nat.mod_lt x (show y > 0 by omega)
      have hmod : (x : Int) % (y : Int) = ((x % y : Nat) : Int) := rfl
      have HM := Lib.hid hmod
      clear hg hmod
      go_wp2
      go_roundw
      case rel => exact ⟨y, x % y, by omega, by omega, rfl, by rw [HM.out], HN, trivial⟩
      case measure =>
        show ((x : Int) % (y : Int)).toNat < ((y : Int)).toNat
        rw [HM.out]; omega
end Go.Proofs.Ytjmjcegaomhdcaa
