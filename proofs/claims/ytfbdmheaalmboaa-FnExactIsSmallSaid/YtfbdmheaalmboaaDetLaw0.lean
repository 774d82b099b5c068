/-
  The model's DeterminantOf and IsRootless: what the plain words say; nothing that was there before is changed.
-/
import Derived.Test.YtfbdmheaalmboaaDetOf
namespace Go.Proofs.Ytfbdmheaalmboaa
open Go Go.RowKit

theorem detOk_at {t : List (List Int)} (h : detOk t = true) : t.length ≤ 4 ∧ (∀ i, i < t.length → (t.getD i []).length = t.length) ∧ ∀ i j, i < t.length → j < t.length → (cellOf t i j).natAbs ≤ 10000 := by
  unfold detOk at h
  rw [Bool.and_eq_true, decide_eq_true_iff, List.all_eq_true] at h
  have hr : ∀ i, i < t.length → (t.getD i []).length = t.length ∧ ∀ j, j < t.length → (cellOf t i j).natAbs ≤ 10000 := fun i hi => by
    have h1 := h.2 t[i] (List.getElem_mem hi)
    rw [Bool.and_eq_true, decide_eq_true_iff, List.all_eq_true] at h1
    have e : t.getD i [] = t[i] := by simp [List.getD, hi]
    refine ⟨by rw [e]; exact h1.1, fun j hj => ?_⟩
    have h2 := h1.2 (t[i])[j] (List.getElem_mem (by omega))
    rw [decide_eq_true_iff] at h2
    unfold cellOf
    rw [e, List.getD_eq_getElem?_getD, List.getElem?_eq_getElem (by omega), Option.getD_some]
    omega
  exact ⟨h.1, fun i hi => (hr i hi).1, fun i j hi hj => (hr i hi).2 j hj⟩
/-- Row k is not right. -/
theorem det_long {t : List (List Int)} {k : Nat} (hk : k < t.length) (h : ¬ (t.getD k []).length = t.length) : detS t = none := by
  unfold detS
  cases e : detOk t with
  | false => rfl
  | true => exact absurd ((detOk_at e).2.1 k hk) h
theorem det_far {t : List (List Int)} {k j : Nat} (hk : k < t.length) (hj : j < t.length) (h : (decide (-10000 ≤ (t.getD k []).getD j 0) && decide ((t.getD k []).getD j 0 ≤ 10000)) = false) : detS t = none := by
  unfold detS
  cases e : detOk t with
  | false => rfl
  | true =>
    have := (detOk_at e).2.2 k j hk hj
    unfold cellOf at this
    rw [decide_eq_true (by omega), decide_eq_true (by omega)] at h
    cases h
theorem det_end {t : List (List Int)} (h : ∀ i, i < t.length → (t.getD i []).length = t.length ∧ ∀ j, j < t.length → -10000 ≤ (t.getD i []).getD j 0 ∧ (t.getD i []).getD j 0 ≤ 10000) : detS t = if t.length ≤ 4 then some (detT t) else none := by
  have e : detOk t = decide (t.length ≤ 4) := by
    unfold detOk
    have : (t.all fun r => decide (r.length = t.length) && r.all fun x => decide (-10000 ≤ x ∧ x ≤ 10000)) = true := by
      rw [List.all_eq_true]
      intro r hr
      obtain ⟨i, hi, rfl⟩ := List.getElem_of_mem hr
      have h1 := h i hi
      have e : t.getD i [] = t[i] := by simp [List.getD, hi]
      rw [e] at h1
      rw [Bool.and_eq_true, decide_eq_true_iff, List.all_eq_true]
      refine ⟨h1.1, fun x hx => ?_⟩
      obtain ⟨j, hj, rfl⟩ := List.getElem_of_mem hx
      have h2 := h1.2 j (by omega)
      rw [List.getD_eq_getElem?_getD, List.getElem?_eq_getElem hj, Option.getD_some] at h2
      rw [decide_eq_true_iff]; exact h2
    rw [this, Bool.and_true]
  unfold detS
  rw [e]
  by_cases h4 : t.length ≤ 4
  · rw [if_pos (decide_eq_true h4), if_pos h4]
  · rw [decide_eq_false h4, if_neg h4]; rfl
theorem small_det {m : List (List Int)} (h : smallM m = true) : m.length ≤ 4 ∧ (∀ i, i < m.length → (m.getD i []).length = m.length) ∧ ∀ i j, i < m.length → j < m.length → (cellOf m i j).natAbs ≤ 10000 := by
  obtain ⟨h1, h2, h3⟩ := small_facts h
  exact ⟨h2, (isMat_facts h1).row, fun i j hi hj => by have := h3 i j hi hj; omega⟩

def DetPost (t : List (List Int)) (w : World) (e : Ending) (w' : World) : Prop := e = .returned (.tuple #[.int .i64 ((detS t).getD 0), .bool (detS t).isSome]) ∧ Below w.heap.size w w'

set_option maxRecDepth 100000 in
set_option maxHeartbeats 1600000 in
theorem spec_determinantOf (A : Option Addr) (c : Nat) (t : List (List Int)) (hn : t.length ≤ 1048576) (ht : tot t ≤ 1048576) (w : World) (hg : GridC w A t) :
    Calls Try.prog 15 #[.slice A t.length c] w (DetPost t w) := by
  have HG := Lib.hid hg.gridS
  have HC := Lib.hid hg
  have HI := Lib.hid m_in
  have HT : Hid (∀ k, k < t.length → (t.getD k []).length ≤ 1048576) := Lib.hid fun k hk => by have := row_le_tot hk; omega
  unfold DetPost
  clear hg ht
  go_enter Try.func15, Try.ntmps15
  go_wp2
  go_loop [4] (fun i => ∃ k : Nat, k ≤ t.length ∧ i = .int .i64 k ∧ Hid (∀ i, i < k → (t.getD i []).length = t.length ∧ ∀ j, j < t.length → -10000 ≤ (t.getD i []).getD j 0 ∧ (t.getD i []).getD j 0 ≤ 10000)) (fun i => t.length - (intOf i).toNat)
  case atStart => exact ⟨0, Nat.zero_le _, rfl, Lib.hid (fun j h => by omega)⟩
  case round =>
    obtain ⟨k, hk, rfl, hto⟩ := hrel
    by_cases hlt : k < t.length
    · obtain ⟨b, off, A', c', rfl, hc, hrow, hb⟩ := HG.out.row hlt
      have hxl := HT.out k hlt
      by_cases hlen : (t.getD k []).length = t.length
      · have HNX : Hid ((∀ j, j < t.length → -10000 ≤ (t.getD k []).getD j 0 ∧ (t.getD k []).getD j 0 ≤ 10000) → ∀ i, i < k + 1 → (t.getD i []).length = t.length ∧ ∀ j, j < t.length → -10000 ≤ (t.getD i []).getD j 0 ∧ (t.getD i []).getD j 0 ≤ 10000) := Lib.hid fun h i hi => by
          by_cases e : i = k
          · subst e; exact ⟨hlen, h⟩
          · exact hto.out i (by omega)
        have HNO := Lib.hid fun j hj => det_far (t := t) (k := k) (j := j) hlt hj
        have HR := Lib.hid hrow
        have HLN := Lib.hid hlen
        rw [hlen] at hc
        clear hrow hxl hlen hto
        generalize t.getD k [] = x at *
        go_wp2
        go_loop [5] (fun j => ∃ s : Nat, s ≤ t.length ∧ j = .int .i64 s ∧ Hid (∀ u, u < s → -10000 ≤ x.getD u 0 ∧ x.getD u 0 ≤ 10000)) (fun j => t.length - (intOf j).toNat)
        case atStart => exact ⟨0, Nat.zero_le _, rfl, Lib.hid (fun j h => by omega)⟩
        case round =>
          obtain ⟨s, hsl, rfl, hok⟩ := hrel
          by_cases hst : s < t.length
          · obtain ⟨b2, off2, rfl, hcx, hb2⟩ := HR.out.numR (k := s) (by rw [HLN.out]; exact hst)
            have HBAD := Lib.hid (HNO.out s hst)
            have HOK : Hid (-10000 ≤ x.getD s 0 ∧ x.getD s 0 ≤ 10000 → ∀ u, u < s + 1 → -10000 ≤ x.getD u 0 ∧ x.getD u 0 ≤ 10000) := Lib.hid (fun h u hu => by
              by_cases e : u = s
              · subst e; exact h
              · exact hok.out u (by omega))
            clear hok
            generalize x.getD s 0 = y at *
            go_wp2_with fail
            refine (HI.out _ _ _ _).mono ?_
            rintro e w1 ⟨rfl, rfl⟩
            cases hx : (decide (-10000 ≤ y) && decide (y ≤ 10000)) with
            | false =>
              have HE := Lib.hid (HBAD.out hx)
              go_wp2
              go_ret2
              exact ⟨by rw [HE.out]; rfl, Below.refl _ _⟩
            | true =>
              have hy2 : -10000 ≤ y ∧ y ≤ 10000 := by simpa using hx
              have HOK2 := Lib.hid (HOK.out hy2)
              clear hx hy2
              go_wp2
              go_round
              case rel => exact ⟨s + 1, by omega, by go_num, HOK2⟩
              case measure => simp [intOf]; omega
          · obtain rfl : s = t.length := by omega
            have HNX2 := Lib.hid (HNX.out hok.out)
            clear hok
            go_wp2
            go_round
            case rel => exact ⟨k + 1, by omega, by go_num, HNX2⟩
            case measure => simp [intOf]; omega
      · have HE := Lib.hid (det_long hlt hlen)
        have hne : ¬ ((t.getD k []).length : Int) = (t.length : Int) := by omega
        have hne2 : (((t.getD k []).length : Int) == (t.length : Int)) = false := by rw [beq_eq_false_iff_ne]; exact hne
        clear hrow hlen
        generalize t.getD k [] = x at *
        go_wp2
        go_ret2
        exact ⟨by rw [HE.out]; rfl, Below.refl _ _⟩
    · obtain rfl : k = t.length := by omega
      have HE := Lib.hid (det_end hto.out)
      by_cases h4 : t.length ≤ 4
      · have HD := Lib.hid (spec_det t.length h4 A c t rfl (fun i hi => (hto.out i hi).1) (fun i j hi hj => by have := (hto.out i hi).2 j hj; unfold cellOf; omega) w HC.out)
        have HE2 : Hid (detS t = some (detF t.length (cellOf t))) := Lib.hid (by rw [HE.out, if_pos h4]; rfl)
        clear hto
        go_wp2_with fail
        refine HD.out.mono ?_
        rintro e w1 ⟨rfl, hb⟩
        go_wp2
        go_ret2
        exact ⟨by rw [HE2.out]; rfl, hb⟩
      · have HE2 : Hid (detS t = none) := Lib.hid (by rw [HE.out, if_neg h4])
        clear hto
        go_wp2
        go_ret2
        exact ⟨by rw [HE2.out]; rfl, Below.refl _ _⟩

set_option maxRecDepth 100000 in
set_option maxHeartbeats 800000 in
theorem spec_isRootless (A : Option Addr) (c : Nat) (m : List (List Int)) (hn : m.length ≤ 1048576) (ht : tot m ≤ 1048576) (w : World) (hg : GridC w A m) :
    Calls Try.prog 30 #[.slice A m.length c] w (Scalar (.bool (rootM m)) w) := by
  have HS := Lib.hid (spec_isSmall A c m (by omega) (fun k hk => by have := row_le_tot hk; omega) w hg.gridS)
  have HC := Lib.hid hg
  clear hg
  unfold rootM
  cases hm : smallM m with
  | false =>
    rw [hm] at HS
    go_enter Try.func30, Try.ntmps30
    go_wp2_with fail
    refine HS.out.mono ?_
    rintro e w1 ⟨rfl, rfl⟩
    go_wp2
    go_ret
    exact ⟨rfl, Below.refl _ _⟩
  | true =>
    rw [hm] at HS
    obtain ⟨h4, h5, h6⟩ := small_det hm
    have HD := Lib.hid (spec_det m.length h4 A c m rfl h5 h6 w HC.out)
    have HE : Hid (detT m = detF m.length (cellOf m)) := Lib.hid rfl
    rw [HE.out]
    clear hm h5 h6
    generalize detF m.length (cellOf m) = d at *
    go_enter Try.func30, Try.ntmps30
    go_wp2_with fail
    refine HS.out.mono ?_
    rintro e w1 ⟨rfl, rfl⟩
    go_wp2_with fail
    refine HD.out.mono ?_
    rintro e w2 ⟨rfl, hb⟩
    have e2 : (true && decide (d ≠ 0)) = (d != 0) := by by_cases h : d = 0 <;> simp [h]
    go_wp2
    go_ret
    exact ⟨by rw [e2]; rfl, hb⟩
end Go.Proofs.Ytfbdmheaalmboaa
