/-
  The program's DeterminantOf and IsRootless: what the plain words say; nothing that was there before is changed.
-/
import Derived.Test.YtfbdmheaalmboaaPolyScal
import Derived.Test.YtfbdmheaalmboaaPolyMinorsI
namespace Go.Proofs.Ytfbdmheaalmboaa
open Go Go.RowKit Go.Shelf

theorem detOk_by {t : List (List Int)} (h4 : t.length ≤ 4) : detOk t = true ↔ ∀ i, i < t.length → (t.getD i []).length = t.length ∧ withinL 10000 (t.getD i []) = true := by
  unfold detOk
  rw [decide_eq_true h4, Bool.true_and, List.all_eq_true]
  constructor
  · intro h i hi
    rw [List.getD_eq_getElem?_getD, List.getElem?_eq_getElem hi]
    have := h _ (List.getElem_mem hi)
    rw [Bool.and_eq_true, decide_eq_true_iff] at this
    exact this
  · intro h r hr
    obtain ⟨i, hi, rfl⟩ := List.getElem_of_mem hr
    have := h i hi
    rw [List.getD_eq_getElem?_getD, List.getElem?_eq_getElem hi] at this
    rw [Bool.and_eq_true, decide_eq_true_iff]
    exact this
theorem detOk_sq {t : List (List Int)} (h4 : t.length ≤ 4) (h : detOk t = true) : Sq 10000 t.length t := by
  have h1 := (detOk_by h4).1 h
  refine ⟨rfl, fun i hi => (h1 i hi).1, fun i j hi hj => ?_⟩
  obtain ⟨e1, e2⟩ := h1 i hi
  unfold withinL at e2
  unfold cellOf
  have hj2 : j < (t.getD i []).length := by omega
  have := List.all_eq_true.1 e2 _ (List.getElem_mem hj2)
  rw [decide_eq_true_iff] at this
  have e : (t.getD i []).getD j 0 = (t.getD i [])[j] := by rw [List.getD_eq_getElem?_getD, List.getElem?_eq_getElem hj2]; rfl
  rw [e]
  omega

set_option maxRecDepth 100000 in
set_option maxHeartbeats 1600000 in
theorem impl_determinantOf (A : Option Addr) (c : Nat) (t : List (List Int)) (hn : t.length ≤ 1099511627776) (ht : ∀ k, k < t.length → (t.getD k []).length ≤ 1099511627776) (w : World) (hg : GridR w A c t) :
    Calls Try.prog 16 #[.slice A t.length c] w (Scalar (.tuple #[.int .i64 ((detS t).getD 0), .bool (detS t).isSome]) w) := by
  by_cases h4 : t.length ≤ 4
  · have HOK := Lib.hid (detOk_by h4)
    have HSQ := Lib.hid (fun h => impl_det t.length h4 A c t (detOk_sq h4 h))
    have HG := Lib.hid hg
    have HT := Lib.hid ht
    have k4 : ¬ (4 : Int) < (t.length : Int) := by omega
    clear hg ht
    go_enter Try.func16, Try.ntmps16
    go_wp2
    go_loopw [11] (fun i wr => ∃ k : Nat, k ≤ t.length ∧ i = .int .i64 (k : Int) ∧ Hid (∀ i, i < k → (t.getD i []).length = t.length ∧ withinL 10000 (t.getD i []) = true) ∧ Hid (Below w.heap.size w wr)) (fun i _ => t.length - (intOf i).toNat)
    case atStart => exact ⟨0, Nat.zero_le _, rfl, Lib.hid (fun i hi => by omega), Lib.hid (Below.refl _ _)⟩
    case round =>
      obtain ⟨k, hk, rfl, hno, hbl⟩ := hrel
      by_cases hlt : k < t.length
      · obtain ⟨b, off, A', c', rfl, hc1, hrow, hcc, hb⟩ := (HG.out.1.below hbl.out).rowAt hlt
        have hrl := HT.out k hlt
        have HNX : Hid ((t.getD k []).length = t.length → withinL 10000 (t.getD k []) = true → ∀ i, i < k + 1 → (t.getD i []).length = t.length ∧ withinL 10000 (t.getD i []) = true) := Lib.hid fun h1 h2 i hi => by
          by_cases e : i = k
          · subst e; exact ⟨h1, h2⟩
          · exact hno.out i (by omega)
        have HBAD : Hid (¬ ((t.getD k []).length = t.length ∧ withinL 10000 (t.getD k []) = true) → detS t = none) := Lib.hid fun h => by
          unfold detS
          rw [if_neg]
          intro hs
          exact h (HOK.out.1 hs k hlt)
        have g : (k : Int) < (t.length : Int) := by omega
        clear hno hcc hb
        generalize t.getD k [] = x at *
        by_cases hl : x.length = t.length
        · have HW := Lib.hid (impl_within A' c' x (by omega) 10000 (by decide) (by decide) wr hrow)
          have hne : ((x.length : Int) != (t.length : Int)) = false := by rw [hl]; simp
          have hne2 : ((t.length : Int) != (t.length : Int)) = false := by simp
          have HL := Lib.hid hl
          rw [hl] at hc1 HW
          clear hrow hl hrl hne
          cases hq : withinL 10000 x with
          | false =>
            rw [hq] at HW
            have HB : Hid (detS t = none) := Lib.hid (HBAD.out fun h => by rw [hq] at h; exact absurd h.2 (by decide))
            clear hq
            go_wp2_with fail
            refine HW.out.mono ?_
            rintro e w2 ⟨rfl, hb2⟩
            have HB2 := Lib.hid (below_behind hbl.out hb2)
            clear hb2
            go_wp2
            go_ret2
            exact ⟨by rw [HB.out]; rfl, HB2.out⟩
          | true =>
            rw [hq] at HW
            have HN := Lib.hid (HNX.out HL.out hq)
            clear hq
            go_wp2_with fail
            refine HW.out.mono ?_
            rintro e w2 ⟨rfl, hb2⟩
            have HB2 := Lib.hid (below_behind hbl.out hb2)
            clear hb2
            go_wp2
            go_roundw
            case rel => exact ⟨k + 1, by omega, by go_num, HN, HB2⟩
            case measure => simp [intOf]; omega
        · have HB : Hid (detS t = none) := Lib.hid (HBAD.out fun h => hl h.1)
          have hne : ((x.length : Int) != (t.length : Int)) = true := by
            rw [bne_iff_ne]; omega
          clear hrow hl
          go_wp2
          go_ret2
          exact ⟨by rw [HB.out]; rfl, hbl.out⟩
      · obtain rfl : k = t.length := by omega
        have hok := HOK.out.2 hno.out
        have HB : Hid (detS t = some (detT t)) := Lib.hid (by unfold detS; rw [if_pos hok])
        have HD := Lib.hid (HSQ.out hok wr (HG.out.below hbl.out))
        clear hno hok
        go_wp2_with fail
        refine HD.out.mono ?_
        rintro e w2 ⟨rfl, hb2⟩
        have HB2 := Lib.hid (below_behind hbl.out hb2)
        clear hb2
        go_wp2
        go_ret2
        exact ⟨by rw [HB.out]; rfl, HB2.out⟩
  · have hs : detS t = none := by unfold detS detOk; rw [decide_eq_false h4, Bool.false_and]; rfl
    have k4 : (4 : Int) < (t.length : Int) := by omega
    rw [hs]
    clear hg ht hs h4
    go_enter Try.func16, Try.ntmps16
    go_wp2
    go_ret2
    exact ⟨rfl, Below.refl _ _⟩

set_option maxRecDepth 100000 in
set_option maxHeartbeats 1600000 in
theorem impl_isRootless (A : Option Addr) (c : Nat) (m : List (List Int)) (hn : m.length ≤ 1099511627776) (ht : ∀ k, k < m.length → (m.getD k []).length ≤ 1099511627776) (w : World) (hg : GridR w A c m) :
    Calls Try.prog 31 #[.slice A m.length c] w (Scalar (.bool (rootM m)) w) := by
  have HI := Lib.hid (impl_isSmall A c m hn ht w hg.1.gridS)
  cases hm : smallM m with
  | false =>
    have hs : rootM m = false := by unfold rootM; rw [hm]; rfl
    rw [hm] at HI
    rw [hs]
    clear hg ht hm hs
    go_enter Try.func31, Try.ntmps31
    go_wp2_with fail
    refine HI.out.mono ?_
    rintro e w1 ⟨rfl, rfl⟩
    go_wp2
    go_ret
    exact ⟨rfl, Below.refl _ _⟩
  | true =>
    have hs : rootM m = decide (detT m ≠ 0) := by unfold rootM; rw [hm]; rfl
    have HD := Lib.hid (impl_det m.length (small_facts hm).2.1 A c m ((small_sq hm).wide (by decide)) w hg)
    rw [hm] at HI
    rw [hs]
    clear hg ht hm hs
    generalize detT m = d at *
    go_enter Try.func31, Try.ntmps31
    go_wp2_with fail
    refine HI.out.mono ?_
    rintro e w1 ⟨rfl, hw⟩
    obtain rfl : w = w1 := hw.symm
    clear HI hw
    go_wp2_with fail
    refine HD.out.mono ?_
    rintro e w2 ⟨rfl, hb2⟩
    by_cases h0 : d = 0
    · subst h0
      go_wp2
      go_ret
      exact ⟨rfl, hb2⟩
    · have hne : (d != 0) = true := by rw [bne_iff_ne]; exact h0
      go_wp2
      go_ret
      exact ⟨by simp [h0], hb2⟩
end Go.Proofs.Ytfbdmheaalmboaa
