/-
  PLAIN FACTS FOR THE LAW ON GRAPHS OF SHIFTS (no program's function in this text).
-/
import Derived.Test.YtalclebehbdliaaGreatFactTexts
import Derived.Test.YtalclebehbdliaaGreatPresINum
import Derived.Test.YtalclebehbdliaaGreatPresLeast
import Derived.Test.YtalclebehbdliaaGreatPresMeet
namespace Go.Proofs.YtalclebehbdliaaGreat
open Go Go.RowKit

theorem count_lang {L n : Int} {ps : List ByteArray} (h : 0 ≤ countS L n ps) (h6 : n ≤ 6) : countS L n ps = ((langOfS L ps n).length : Int) := by
  unfold countS at h ⊢
  split at h
  · next hc => rw [if_pos hc, langOfS_is hc.1 hc.2.1 h6]
  · omega
theorem graphS_was {L : Int} {ps : List ByteArray} {m : List (List Int)} (h : graphS L ps = some m) : isShift L ps = true ∧ m = graphW L.toNat ps ∧ langOfS L ps 2 = statesW L.toNat ps ∧ 0 < (statesW L.toNat ps).length := by
  unfold graphS at h
  split at h
  · cases h
  · next hl =>
    have e := Option.some.inj h
    have hs : isShift L ps = true := by
      cases hx : isShift L ps with
      | true => rfl
      | false => exact absurd (by unfold langOfS; rw [hx]; simp) hl
    have h2 := langOfS_is hs (n := 2) (by omega) (by omega)
    obtain ⟨-, k3, -, -⟩ := shift_sizes hs
    have h3 : langOfS L ps 2 = statesW L.toNat ps := h2
    refine ⟨hs, ?_, h3, by rw [h3] at hl; omega⟩
    rw [← e, h3]
    exact graph_same k3 ps
theorem count_graph {L n : Int} {ps : List ByteArray} {m : List (List Int)} (hg : graphS L ps = some m) (h2 : 2 ≤ n) (h8 : n ≤ 8) : countS L n ps = countM m (n - 2) := by
  obtain ⟨hs, rfl, -, hp⟩ := graphS_was hg
  obtain ⟨-, k3, -, h3⟩ := shift_sizes hs
  have h := graph_count k3 h3 hp (t := n.toNat - 2) (by omega)
  unfold countS
  rw [if_pos ⟨hs, by omega, by omega⟩, show n - 2 = ((n.toNat - 2 : Nat) : Int) by omega, h, show 2 + (n.toNat - 2) = n.toNat by omega]
theorem graph_live {L : Int} {ps : List ByteArray} {m : List (List Int)} (hg : graphS L ps = some m) : isLivelyM m = true ∧ m.length = (langOfS L ps 2).length := by
  obtain ⟨hs, rfl, h2, hp⟩ := graphS_was hg
  obtain ⟨-, k3, -, -⟩ := shift_sizes hs
  exact ⟨graph_lively k3 hp, by rw [h2, graph_length]⟩
theorem forb_same {L L' : Int} {ps qs : List ByteArray} (h : forbS L ps = some (L', qs)) : areS L' qs L ps = true := by
  unfold forbS at h
  split at h
  · next hc =>
    rw [Option.some.injEq, Prod.mk.injEq] at h
    obtain ⟨rfl, rfl⟩ := h
    simp only [Bool.and_eq_true, decide_eq_true_eq, Bool.not_eq_true'] at hc
    obtain ⟨⟨hs, he⟩, h8⟩ := hc
    obtain ⟨k1, k3, kL, -⟩ := shift_sizes hs
    have hq : isShift L (leastW L.toNat ps) = true := by
      have := leastW_shift k1 k3 ps
      rw [kL] at this
      rw [this]; exact decide_eq_true h8
    have hex : ∃ a b, Lively ((L.toNat : Nat) : Int) ps a b := by
      unfold emptyT at he
      rw [hs, Bool.true_and, decide_eq_false_iff_not] at he
      obtain ⟨w, hw⟩ := List.exists_mem_of_length_pos (Nat.pos_of_ne_zero he)
      obtain ⟨a, b, rfl, -⟩ := mem_pairsW' k3 hw
      exact ⟨a, b, (mem_pairsW k3 a b).1 hw⟩
    unfold areS sameS
    rw [hs, hq, langOfS_is hs (n := 3) (by omega) (by omega), langOfS_is hq (n := 3) (by omega) (by omega), show (3 : Int).toNat = 3 from rfl, lang_least k3 (leastW_out k3 ps) hex (Nat.le_refl 3), same_asc (langW_asc k3 ps 3) (langW_asc k3 ps 3)]
    simp
  · cases h
theorem in_less {L : Int} {ps zs : List ByteArray} (hp : isShift L ps = true) (hz : isShift L zs = true) (hsub : ∀ f ∈ ps, f ∈ zs) {y : ByteArray} (hy : y ∈ langOfS L zs 3) : inLangS L ps y = true := by
  obtain ⟨k1, k3, kL, -⟩ := shift_sizes hp
  rw [langOfS_is hz (n := 3) (by omega) (by omega)] at hy
  obtain ⟨⟨hs, hl⟩, hi⟩ := (mem_langW k3).1 hy
  have h1 := InL.more hsub ((inM_iff k3 hl).1 hi)
  unfold inLangS
  rw [hp, (inM_iff k3 hl).2 h1]
  have hw : isW L y = true := by
    unfold isW
    rw [kL] at hl
    have h3 : y.size = 3 := hs
    simp only [Bool.and_eq_true, decide_eq_true_eq]
    exact ⟨⟨⟨by omega, by omega⟩, by omega⟩, hl⟩
  rw [hw]; rfl
theorem meet_in {L L' M : Int} {ps qs zs : List ByteArray} (h : meetS L ps L' qs = some (M, zs)) : ∀ y ∈ langOfS M zs 3, inLangS L ps y = true ∧ inLangS L' qs y = true := by
  unfold meetS at h
  split at h
  · next hc =>
    rw [Option.some.injEq, Prod.mk.injEq] at h
    obtain ⟨rfl, rfl⟩ := h
    simp only [Bool.and_eq_true, decide_eq_true_eq] at hc
    obtain ⟨⟨⟨hp, hq⟩, rfl⟩, h8⟩ := hc
    have hz := meet_shift hp hq
    rw [decide_eq_true h8] at hz
    exact fun y hy => ⟨in_less hp hz (fun f hf => (mem_putAll f qs ps).2 (.inr hf)) hy, in_less hq hz (fun f hf => (mem_putAll f qs ps).2 (.inl hf)) hy⟩
  · cases h
/-- What the law wants of sizes. -/
theorem forb_len {L L' : Int} {ps qs : List ByteArray} (h : forbS L ps = some (L', qs)) : qs.length ≤ 8 ∧ ∀ x ∈ qs, x.size ≤ 3 := by
  unfold forbS at h
  split at h
  · next hc =>
    rw [Option.some.injEq, Prod.mk.injEq] at h
    obtain ⟨rfl, rfl⟩ := h
    simp only [Bool.and_eq_true, decide_eq_true_eq] at hc
    obtain ⟨⟨h1, -⟩, h8⟩ := hc
    obtain ⟨-, k3, -, -⟩ := shift_sizes h1
    exact ⟨h8, fun x hx => ((leastW_out k3 ps x).1 hx).1.2⟩
  · cases h
theorem meet_len {L L' M : Int} {ps qs zs : List ByteArray} (h : meetS L ps L' qs = some (M, zs)) : zs.length ≤ 8 ∧ ∀ x ∈ zs, x.size ≤ 3 := by
  unfold meetS at h
  split at h
  · next hc =>
    rw [Option.some.injEq, Prod.mk.injEq] at h
    obtain ⟨rfl, rfl⟩ := h
    simp only [Bool.and_eq_true, decide_eq_true_eq] at hc
    obtain ⟨⟨⟨hp, hq⟩, rfl⟩, h8⟩ := hc
    obtain ⟨-, -, -, hp3⟩ := shift_sizes hp
    obtain ⟨-, -, -, hq3⟩ := shift_sizes hq
    exact ⟨h8, fun x hx => by
      rcases (mem_putAll x qs ps).1 hx with e | e
      · exact hq3 x e
      · exact hp3 x e⟩
  · cases h
theorem lang_three (L : Int) (ps : List ByteArray) : (langOfS L ps 3).length ≤ 1000 ∧ ∀ y ∈ langOfS L ps 3, y.size = 3 := by
  unfold langOfS
  split
  · next h =>
    obtain ⟨l1, l3, _⟩ := isShift_letters h.1
    refine ⟨Nat.le_trans (List.length_filter_le _ _) ?_, fun y hy => ?_⟩
    · rw [allW_length]
      exact Nat.le_trans (Nat.pow_le_pow_left (show L.toNat ≤ 3 by omega) _) (by decide)
    · exact ((mem_allW L.toNat (by omega) _ y).1 (List.mem_filter.1 hy).1).1
  · exact ⟨by simp, fun y hy => by cases hy⟩
end Go.Proofs.YtalclebehbdliaaGreat
