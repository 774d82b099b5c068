/-
  All words of a length: the model's WordsOf and the program's, at every two ints, return the same list in new memory; nothing that was there before is changed.
-/
import Derived.Test.YtcoiodfggaanbaaLonger
import Derived.Test.YtcoiodfggaanbaaIsW
namespace Go.Proofs.Ytcoiodfggaanbaa
open Go Go.RowKit

theorem wordsOf_yes {k n : Nat} (h1 : 1 ≤ k) (h3 : k ≤ 3) (hn : n ≤ 16) (hp : k ^ n ≤ 729) : wordsOf (k : Int) (n : Int) = allW k n := by
  unfold wordsOf
  rw [if_pos ⟨⟨by omega, by omega⟩, by omega, by omega, by simpa using hp⟩]
  simp
theorem wordsOf_no {k n : Int} (h : ¬ ((1 ≤ k ∧ k ≤ 3) ∧ 0 ≤ n ∧ n ≤ 16 ∧ k.toNat ^ n.toNat ≤ 729)) : wordsOf k n = [] := by
  unfold wordsOf
  rw [if_neg h]
theorem wordsOf_big {k n m : Nat} (h1 : 1 ≤ k) (hm : m ≤ n) (hp : 729 < k ^ m) : wordsOf (k : Int) (n : Int) = [] := by
  refine wordsOf_no ?_
  rintro ⟨_, _, _, h⟩
  have h2 : k ^ m ≤ k ^ n := Nat.pow_le_pow_right h1 hm
  simp at h
  omega
theorem wordsOf_length (k n : Int) : (wordsOf k n).length ≤ 1000000 := by
  unfold wordsOf
  split
  · next h => rw [allW_length]; omega
  · simp
theorem post_made (w : World) (e : Array Value) (t : TypeId) (he : e = #[]) (ht : t = 9) : ListPost [] w (.returned (.slice (some ⟨w.heap.size, 0, none⟩) 0 0)) (w.alloc (.cells e t)) := by
  subst he ht
  exact ⟨_, rfl, World.ownsRow_made _ _ 0 (Nat.le_refl _) (by decide) rfl, (Below.refl _ _).alloc (Nat.le_refl _) _⟩
theorem post_nil (w w' : World) (hb : Below w.heap.size w w') : ListPost [] w (.returned (.slice none 0 0)) w' := ⟨_, rfl, World.ownsRow_nil _ _ _ _, hb⟩

theorem ListPost.some {ps : List ByteArray} {w w' : World} {e : Ending} (h : ListPost ps w e w') (hp : 0 < ps.length) :
    ∃ g cap, e = .returned (.slice (some ⟨g, 0, none⟩) ps.length cap) ∧ w'.ownsRow w.heap.size 9 1 (.slice (some ⟨g, 0, none⟩) ps.length cap) ps.length (ps.map Value.string) ∧ Below w.heap.size w w' := by
  obtain ⟨v, rfl, ho, hb⟩ := h
  rcases ho.2 with ⟨rfl, h0⟩ | ⟨g, cap, cur, rfl, _, _, _⟩
  · omega
  · exact ⟨g, cap, rfl, ho, hb⟩

set_option maxRecDepth 100000 in
set_option maxHeartbeats 800000 in
theorem impl_wordsOf (k n : Int) (w : World) :
    Calls Try.prog 57 #[.int .i64 k, .int .i64 n] w (ListPost (wordsOf k n) w) := by
  have HI := Lib.hid (impl_isLetterCount k)
  go_enter Try.func57, Try.ntmps57
  cases hx : (decide (1 ≤ k) && decide (k ≤ 3)) with
  | false =>
    rw [hx] at HI
    have HN := Lib.hid (show wordsOf k n = [] from wordsOf_no (fun h => by rw [decide_eq_true h.1.1, decide_eq_true h.1.2] at hx; cases hx))
    clear hx
    go_wp2_with fail
    refine (HI.out _).mono ?_
    rintro e w1 ⟨rfl, rfl⟩
    go_wp2
    go_ret
    rw [HN.out]
    exact post_nil _ _ (Below.refl _ _)
  | true =>
    rw [hx] at HI
    have hk : 1 ≤ k ∧ k ≤ 3 := by simpa using hx
    clear hx
    by_cases hn : 0 ≤ n ∧ n ≤ 16
    · obtain ⟨kk, rfl⟩ := Int.eq_ofNat_of_zero_le (show 0 ≤ k by omega)
      obtain ⟨nn, rfl⟩ := Int.eq_ofNat_of_zero_le hn.1
      have k1 : 1 ≤ kk := by omega
      have k3 : kk ≤ 3 := by omega
      have n16 : nn ≤ 16 := by omega
      have g0 : decide ((nn : Int) < 0) = false := by simp
      have g1 : decide ((16 : Int) < (nn : Int)) = false := by simp; omega
      clear hk hn
      go_wp2_with fail
      refine (HI.out _).mono ?_
      rintro e w1 ⟨rfl, rfl⟩
      go_wp2
      go_loopw [5, 19] (fun v i wr => ∃ m : Nat, m ≤ nn ∧ i = .int .i64 m ∧ wr.ownsRow w1.heap.size 9 1 v (allW kk m).length ((allW kk m).map Value.string) ∧ Below w1.heap.size w1 wr ∧ Hid (kk ^ m ≤ 729)) (fun _ i _ => nn - (intOf i).toNat)
      case atStart => exact ⟨0, Nat.zero_le _, rfl, World.ownsRow_lit w1 #[.string ByteArray.empty] 1 (Nat.le_refl _) (by decide) rfl, (Below.refl _ _).alloc (Nat.le_refl _) _, Lib.hid (by rw [Nat.pow_zero]; decide)⟩
      case round =>
        obtain ⟨m, hm, rfl, ho, hbl, hpw⟩ := hrel
        have HB := Lib.hid hbl
        clear hbl
        by_cases hlt : m < nn
        · have hlen := allW_length kk m
          have hle := hpw.out
          have hpos : 0 < (allW kk m).length := by rw [hlen]; exact Nat.pow_pos k1
          have hlen2 := allW_length kk (m + 1)
          rw [← hlen] at hle
          rcases ho.2 with ⟨rfl, h0⟩ | ⟨g, cap, cur, rfl, _, _, _⟩
          · omega
          have HL := Lib.hid (impl_longer g cap m kk (allW kk m) k3 (by omega) hle (allW_size kk m) wr (StrsAt.of_owns ho rfl) (ho.lt g rfl).2)
          have HN := Lib.hid (show allW kk (m + 1) = longer (allW kk m) kk from rfl)
          generalize allW kk m = ws at *
          clear ho
          rw [HN.out] at hlen2
          have hpos2 : 0 < (longer ws kk).length := by rw [hlen2]; exact Nat.pow_pos k1
          have HLEN := Lib.hid hlen2
          clear hlen hlen2
          go_wp2_with fail
          refine HL.out.mono ?_
          rintro e w2 h2
          obtain ⟨g2, cap2, rfl, ho2, hb2⟩ := h2.some hpos2
          have HO2 := Lib.hid ho2
          have HB2 := Lib.hid hb2
          clear ho2 hb2 h2
          by_cases hbig : kk ^ (m + 1) ≤ 729
          · have g2 : decide ((729 : Int) < ((longer ws kk).length : Int)) = false := by
              have hq : (longer ws kk).length ≤ 729 := by rw [HLEN.out]; exact hbig
              rw [decide_eq_false_iff_not]; omega
            have HP := Lib.hid hbig
            clear hbig
            go_wp2
            go_roundw
            case rel => exact ⟨m + 1, by omega, by go_num, by rw [HN.out]; exact HO2.out.mono HB.out.size, HB.out.trans (HB2.out.mono HB.out.size), HP⟩
            case measure => simp [intOf]; omega
          · have g2 : decide ((729 : Int) < ((longer ws kk).length : Int)) = true := by
              have hq : ¬ (longer ws kk).length ≤ 729 := by rw [HLEN.out]; exact hbig
              rw [decide_eq_true_eq]; omega
            have HP := Lib.hid (wordsOf_big (n := nn) k1 (show m + 1 ≤ nn by omega) (show 729 < kk ^ (m + 1) by omega))
            clear hbig
            go_wp2
            go_ret
            rw [HP.out]
            exact post_nil _ _ (HB.out.trans (HB2.out.mono HB.out.size))
        · obtain rfl : m = nn := by omega
          have HO := Lib.hid ho
          clear ho
          have HN := Lib.hid (wordsOf_yes k1 k3 n16 hpw.out)
          go_wp2
          go_ret
          rw [HN.out]
          exact ⟨_, rfl, HO.out, HB.out⟩
    · have HN := Lib.hid (show wordsOf k n = [] from wordsOf_no (fun h => hn ⟨h.2.1, h.2.2.1⟩))
      by_cases h0 : n < 0
      · have g0 : decide (n < 0) = true := by simp; omega
        go_wp2_with fail
        refine (HI.out _).mono ?_
        rintro e w1 ⟨rfl, rfl⟩
        go_wp2
        go_ret
        rw [HN.out]
        exact post_nil _ _ (Below.refl _ _)
      · have g0 : decide (n < 0) = false := by simp; omega
        have g1 : decide (16 < n) = true := by simp; omega
        go_wp2_with fail
        refine (HI.out _).mono ?_
        rintro e w1 ⟨rfl, rfl⟩
        go_wp2
        go_ret
        rw [HN.out]
        exact post_nil _ _ (Below.refl _ _)

theorem pow1 (m : Nat) : 1 ^ m ≤ 729 := by rw [Nat.one_pow]; decide
theorem pow2 {m : Nat} (h : m ≤ 9) : 2 ^ m ≤ 729 := Nat.le_trans (Nat.pow_le_pow_right (by decide) h) (by decide)
theorem pow3 {m : Nat} (h : m ≤ 6) : 3 ^ m ≤ 729 := Nat.le_trans (Nat.pow_le_pow_right (by decide) h) (by decide)
theorem pow2big {m : Nat} (h : 10 ≤ m) : 729 < 2 ^ m := Nat.lt_of_lt_of_le (by decide) (Nat.pow_le_pow_right (by decide) h)
theorem pow3big {m : Nat} (h : 7 ≤ m) : 729 < 3 ^ m := Nat.lt_of_lt_of_le (by decide) (Nat.pow_le_pow_right (by decide) h)
/-- The longest words that are listed. -/
def topN (k : Nat) : Nat := if k = 1 then 16 else if k = 2 then 9 else 6
theorem wordsOf_over {k n : Nat} (h1 : 1 ≤ k) (h3 : k ≤ 3) (hn : topN k < n) : wordsOf (k : Int) (n : Int) = [] := by
  unfold topN at hn
  by_cases e1 : k = 1
  · subst e1
    exact wordsOf_no (fun h => by simp at hn; omega)
  · by_cases e2 : k = 2
    · subst e2
      simp at hn
      exact wordsOf_big (m := n) (by decide) (Nat.le_refl _) (pow2big (by omega))
    · obtain rfl : k = 3 := by omega
      simp at hn
      exact wordsOf_big (m := n) (by decide) (Nat.le_refl _) (pow3big (by omega))
theorem pow_top {k n : Nat} (h1 : 1 ≤ k) (h3 : k ≤ 3) (hn : n ≤ topN k) : ∀ i, i ≤ n → k ^ i ≤ 729 := by
  intro i hi
  unfold topN at hn
  by_cases e1 : k = 1
  · subst e1; exact pow1 i
  · by_cases e2 : k = 2
    · subst e2; simp at hn; exact pow2 (by omega)
    · obtain rfl : k = 3 := by omega
      simp at hn; exact pow3 (by omega)

end Go.Proofs.Ytcoiodfggaanbaa
