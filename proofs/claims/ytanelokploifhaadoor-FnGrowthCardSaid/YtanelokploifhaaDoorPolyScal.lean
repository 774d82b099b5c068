/-
  The program's IsSmall, DeterminantOf and IsRootless, and its test that numbers lie within bounds: what the plain words say; nothing that was there before is changed.
-/
import Derived.Test.YtanelokploifhaaDoorPolyDet
import Derived.Test.YtanelokploifhaaDoorRowEnds
namespace Go.Proofs.YtanelokploifhaaDoor
open Go Go.RowKit Go.Shelf

/-- A number lies beyond the bounds. -/
def beyond (g : Int) (x : Int) : Bool := decide (x < -g) || decide (g < x)
def withinL (g : Int) (xs : List Int) : Bool := xs.all fun x => decide (-g ≤ x ∧ x ≤ g)
theorem within_any (g : Int) (xs : List Int) : (!xs.any (beyond g)) = withinL g xs := by
  unfold withinL
  rw [Bool.eq_iff_iff, Bool.not_eq_true', List.any_eq_false, List.all_eq_true]
  refine ⟨fun h x hx => ?_, fun h x hx => ?_⟩
  · have := h x hx
    unfold beyond at this
    simp only [Bool.or_eq_true, decide_eq_true_eq, not_or] at this
    rw [decide_eq_true_iff]
    omega
  · have := h x hx
    rw [decide_eq_true_iff] at this
    unfold beyond
    simp only [Bool.or_eq_true, decide_eq_true_eq, not_or]
    omega

theorem most_le9 {xs : List Int} {v : Int} (h : MostI xs xs.length v) : (∀ x ∈ xs, x ≤ 9) ↔ ¬ 9 < v := by
  constructor
  · intro hx h9
    obtain ⟨j, hj, e⟩ := h.2
    rw [List.getD_eq_getElem?_getD, List.getElem?_eq_getElem hj] at e
    have h2 : xs[j] = v := e
    have := hx _ (List.getElem_mem hj)
    omega
  · intro h9 x hx
    obtain ⟨j, hj, rfl⟩ := List.getElem_of_mem hx
    have := h.1 j hj
    rw [List.getD_eq_getElem?_getD, List.getElem?_eq_getElem hj] at this
    have h2 : xs[j] ≤ v := this
    omega
theorem small_by {m : List (List Int)} (hm : isMat m = true) (h4 : m.length ≤ 4) : smallM m = true ↔ ∀ i, i < m.length → ∀ x ∈ m.getD i [], x ≤ 9 := by
  unfold smallM
  rw [hm, decide_eq_true h4, Bool.true_and, Bool.true_and, List.all_eq_true]
  constructor
  · intro h i hi x hx
    rw [List.getD_eq_getElem?_getD, List.getElem?_eq_getElem hi] at hx
    have := List.all_eq_true.1 (h _ (List.getElem_mem hi)) x hx
    exact of_decide_eq_true this
  · intro h r hr
    obtain ⟨i, hi, rfl⟩ := List.getElem_of_mem hr
    rw [List.all_eq_true]
    intro x hx
    exact decide_eq_true (h i hi x (by rw [List.getD_eq_getElem?_getD, List.getElem?_eq_getElem hi]; exact hx))

set_option maxRecDepth 100000 in
set_option maxHeartbeats 1600000 in
theorem impl_isSmall (A : Option Addr) (c : Nat) (m : List (List Int)) (hn : m.length ≤ 1099511627776) (ht : ∀ k, k < m.length → (m.getD k []).length ≤ 1099511627776) (w : World) (hg : GridS w A m) :
    Calls Tryd.prog 51 #[.slice A m.length c] w fun e w' => e = .returned (.bool (smallM m)) ∧ w' = w := by
  have HI := Lib.hid (impl_isMatrix A c m (by omega) ht w hg)
  cases hm : isMat m with
  | false =>
    have hs : smallM m = false := by unfold smallM; rw [hm]; rfl
    rw [hm] at HI
    rw [hs]
    clear hg ht hm hs
    go_enter Tryd.func51, Tryd.ntmps51
    go_wp2_with fail
    refine HI.out.mono ?_
    rintro e w1 ⟨rfl, rfl⟩
    go_wp2
    go_ret
    exact ⟨rfl, rfl⟩
  | true =>
    rw [hm] at HI
    by_cases h4 : m.length ≤ 4
    · have HS := Lib.hid (small_by hm h4)
      have hf := isMat_facts hm
      have HG := Lib.hid hg
      have HR : Hid (∀ k, k < m.length → (m.getD k []).length = m.length) := Lib.hid hf.row
      have hpos := hf.pos
      have k4 : ¬ (4 : Int) < (m.length : Int) := by omega
      clear hg ht hm hf
      go_enter Tryd.func51, Tryd.ntmps51
      go_wp2_with fail
      refine HI.out.mono ?_
      rintro e w1 ⟨rfl, hw⟩
      obtain rfl : w = w1 := hw.symm
      clear HI hw
      go_wp2
      go_loopw [15] (fun i wr => ∃ k : Nat, k ≤ m.length ∧ i = .int .i64 (k : Int) ∧ Hid (∀ i, i < k → ∀ x ∈ m.getD i [], x ≤ 9) ∧ wr = w) (fun i _ => m.length - (intOf i).toNat)
      case atStart => exact ⟨0, Nat.zero_le _, rfl, Lib.hid (fun i hi => by omega), rfl⟩
      case round =>
        obtain ⟨k, hk, rfl, hno, rfl⟩ := hrel
        by_cases hlt : k < m.length
        · obtain ⟨b, off, A', c', rfl, hc1, hrow, _⟩ := HG.out.row hlt
          have hrl := HR.out k hlt
          have HM := Lib.hid (max_row A' c' (m.getD k []) (by omega) (by omega) wr hrow)
          have HL := Lib.hid (fun v (h : MostI (m.getD k []) (m.getD k []).length v) => most_le9 h)
          have HNX : Hid ((∀ x ∈ m.getD k [], x ≤ 9) → ∀ i, i < k + 1 → ∀ x ∈ m.getD i [], x ≤ 9) := Lib.hid fun h i hi => by
            by_cases e : i = k
            · subst e; exact h
            · exact hno.out i (by omega)
          have HBAD : Hid (¬ (∀ x ∈ m.getD k [], x ≤ 9) → smallM m = false) := Lib.hid fun h => by
            rw [Bool.eq_false_iff]
            intro hs
            exact h (HS.out.1 hs k hlt)
          have g : (k : Int) < (m.length : Int) := by omega
          clear hrow hno hrl
          generalize m.getD k [] = x at *
          go_wp2_with fail
          refine HM.out.mono ?_
          rintro e w2 ⟨v, rfl, hv, hw⟩
          obtain rfl : wr = w2 := hw.symm
          clear hw
          by_cases h9 : 9 < v
          · have HB : Hid (smallM m = false) := Lib.hid (HBAD.out fun h => by have := (HL.out v hv).1 h; omega)
            clear hv
            go_wp2
            go_ret
            exact ⟨by rw [HB.out]; rfl, rfl⟩
          · have HN := Lib.hid (HNX.out ((HL.out v hv).2 (by omega)))
            clear hv
            go_wp2
            go_roundw
            case rel => exact ⟨k + 1, by omega, by go_num, HN, trivial⟩
            case measure => simp [intOf]; omega
        · obtain rfl : k = m.length := by omega
          have HB : Hid (smallM m = true) := Lib.hid (HS.out.2 hno.out)
          clear hno
          go_wp2
          go_ret
          exact ⟨by rw [HB.out]; rfl, rfl⟩
    · have hs : smallM m = false := by unfold smallM; rw [decide_eq_false h4, Bool.and_false, Bool.false_and]
      have k4 : (4 : Int) < (m.length : Int) := by omega
      rw [hs]
      clear hg ht hm hs h4
      go_enter Tryd.func51, Tryd.ntmps51
      go_wp2_with fail
      refine HI.out.mono ?_
      rintro e w1 ⟨rfl, rfl⟩
      go_wp2
      go_ret
      exact ⟨rfl, rfl⟩
end Go.Proofs.YtanelokploifhaaDoor
