/-
  The program's choices: all ascending lists of k of the numbers below n, each in new memory; nothing that was there before is changed.
-/
import Derived.Test.YtfbdmheaalmboaaChoice
import Derived.Deep.AppendLies
namespace Go.Proofs.Ytfbdmheaalmboaa
open Go Go.RowKit

set_option maxRecDepth 100000 in
set_option maxHeartbeats 3200000 in
theorem impl_choices : ∀ (n : Nat), n ≤ 9 → ∀ (k : Nat), k ≤ 1000 → ∀ (w : World), Calls Try.prog 59 #[.int .i64 (n : Int), .int .i64 (k : Int)] w (NewG (choicesL n k) w) := by
  intro n
  induction n with
  | zero =>
    intro _ k hk w
    cases k with
    | zero =>
      have HO : Hid (OwnG (w.alloc (.cells #[.slice none 0 0] 29)) w.heap.size (.slice (some ⟨w.heap.size, 0, none⟩) 1 1) [[]]) := Lib.hid (one_empty w)
      have HB : Hid (Below w.heap.size w (w.alloc (.cells #[.slice none 0 0] 29))) := Lib.hid below_new
      go_enter Try.func59, Try.ntmps59
      go_wp2
      go_ret
      exact ⟨_, rfl, HO.out, HB.out⟩
    | succ k =>
      have h1 : ((k : Int) + 1 == 0) = false := by rw [beq_eq_false_iff_ne]; omega
      have h2 : (0 : Int) < (k : Int) + 1 := by omega
      go_enter Try.func59, Try.ntmps59
      go_wp2
      go_ret
      exact ⟨_, rfl, ⟨[], World.ownsRow_nil _ _ _ _, RowsOwn.nil _ _ _⟩, Below.refl _ _⟩
  | succ n ih =>
    intro hn k hk w
    cases k with
    | zero =>
      have HO : Hid (OwnG (w.alloc (.cells #[.slice none 0 0] 29)) w.heap.size (.slice (some ⟨w.heap.size, 0, none⟩) 1 1) [[]]) := Lib.hid (one_empty w)
      have HB : Hid (Below w.heap.size w (w.alloc (.cells #[.slice none 0 0] 29))) := Lib.hid below_new
      clear ih
      go_enter Try.func59, Try.ntmps59
      go_wp2
      go_ret
      exact ⟨_, rfl, HO.out, HB.out⟩
    | succ k =>
      have h1 : ((k : Int) + 1 == 0) = false := by rw [beq_eq_false_iff_ne]; omega
      by_cases hnk : n < k
      · have h2 : (n : Int) + 1 < (k : Int) + 1 := by omega
        have h3 : (n : Int) < (k : Int) := by omega
        rw [choicesL, if_pos hnk]
        clear ih
        go_enter Try.func59, Try.ntmps59
        go_wp2
        go_ret
        exact ⟨_, rfl, ⟨[], World.ownsRow_nil _ _ _ _, RowsOwn.nil _ _ _⟩, Below.refl _ _⟩
      · obtain ⟨i0, hi, hz0, hz1, hz2⟩ := info_parts infoSl
        obtain ⟨j0, hj, hy0, hy1, hy2⟩ := info_parts infoInt
        have h2 : ¬ ((n : Int) + 1 < (k : Int) + 1) := by omega
        have h3 : ¬ ((n : Int) < (k : Int)) := by omega
        have C1 := ih (by omega) (k + 1) (by omega) w
        rw [show ((k + 1 : Nat) : Int) = (k : Int) + 1 by omega] at C1
        have HC1 := Lib.hid C1
        have HC2 := Lib.hid (fun w' => ih (by omega) k (by omega) w')
        rw [choicesL, if_neg hnk]
        have hl1 := choicesL_len (n := n) (k := k + 1)
        have hl2 := choicesL_len (n := n) (k := k)
        have hrows : ∀ i, i < (choicesL n k).length → ((choicesL n k).getD i []).length = k := fun i hi => by
          rw [List.getD_eq_getElem?_getD, List.getElem?_eq_getElem hi]
          exact (choicesL_in (List.getElem_mem hi)).1
        have h29 : 2 ^ n ≤ 2 ^ 9 := Nat.pow_le_pow_right (by decide) (by omega)
        have HL1 : Hid ((choicesL n (k + 1)).length ≤ 512) := Lib.hid (Nat.le_trans hl1 h29)
        have HL2 : Hid ((choicesL n k).length ≤ 512) := Lib.hid (Nat.le_trans hl2 h29)
        have HROWS := Lib.hid hrows
        clear C1 ih hl1 hl2 h29 hrows
        generalize choicesL n (k + 1) = m1 at *
        generalize choicesL n k = m2 at *
        go_enter Try.func59, Try.ntmps59
        go_wp2_with fail
        refine HC1.out.mono ?_
        rintro e w1 ⟨v1, rfl, ho1, hb1⟩
        have HO1 := Lib.hid ho1
        have HB1 := Lib.hid hb1
        clear ho1 hb1 HC1
        go_wp2_with fail
        refine (HC2.out w1).mono ?_
        rintro e w2 ⟨v2, rfl, ho2, hb2⟩
        obtain ⟨vs2, ho2, hr2⟩ := ho2
        obtain ⟨A2, c2, rfl⟩ := slice_of_owns ho2
        have HST := Lib.hid (MidState.start (n : Int) HO1.out HB1.out hb2 ho2 hr2)
        have HB2 := Lib.hid (below_behind HB1.out hb2)
        have HV2 : Hid (vs2.length = m2.length) := Lib.hid hr2.len
        have HNE : Hid (∀ (k : Nat) (r : Value), vs2[k]? = some r → r.ownBlock = none ∨ r.ownBlock ≠ (Value.slice A2 m2.length c2).ownBlock) := Lib.hid fun k r hk => (hr2.row k r hk).2
        clear ho2 hr2 hb2 HO1 HB1 HC2
        go_wp2
        go_loopw [5, 24] (fun v iv wr => ∃ i : Nat, i ≤ m2.length ∧ iv = .int .i64 (i : Int) ∧ Hid (MidState w1 wr w.heap.size (.slice A2 m2.length c2) vs2 m1 m2 (n : Int) i v) ∧ Hid (Below w.heap.size w wr)) (fun _ iv _ => m2.length - (intOf iv).toNat)
        case atStart => exact ⟨0, Nat.zero_le _, rfl, HST, HB2⟩
        case round =>
          obtain ⟨i, him, rfl, hS, hbl⟩ := hrel
          obtain ⟨W0, rfl⟩ : ∃ W0 : World, W0 = wr := ⟨_, rfl⟩
          by_cases hlt : i < m2.length
          · obtain ⟨⟨fs, a1, a2, a3, a4⟩, ho, hap⟩ := hS.out
            obtain ⟨r, hr, hrow⟩ := hS.out.row hlt HV2.out
            obtain ⟨g2, cap2, he, -, -⟩ := World.ownsRow.form ho (by omega)
            simp only [Value.slice.injEq, true_and] at he
            obtain ⟨rfl, rfl⟩ := he
            have k1 : W0.cell? ⟨g2, i, none⟩ = some r := (ho.cellAt i (by omega)).trans hr
            obtain ⟨A7, c7, rfl⟩ := slice_of_owns hrow
            have HLR := Lib.hid (HROWS.out i hlt)
            have hs0 := hbl.out.size
            have HA := Lib.hid (And.intro a1 (And.intro a2 (And.intro a3 (And.intro a4 (And.intro ho (And.intro hap hr))))))
            have HROW := Lib.hid hrow
            have HML : Hid (m1.length ≤ 512 ∧ i < 512) := Lib.hid ⟨HL1.out, by have := HL2.out; omega⟩
            have hi5 : i < 512 := HML.out.2
            clear a1 a2 a3 a4 ho hap hr hrow hS
            obtain ⟨l, hl⟩ : ∃ l, m2.getD i [] = l := ⟨_, rfl⟩
            rw [hl] at k1 HLR HROW HA
            have HLL := Lib.hid hl
            clear hl
            go_wp2_with (first | (at_builtin; refine wpList_append_lies _ rfl (.tmp 29) (.tmp 32) 29 rfl w.heap.size 3 j0 (.int .i64 0) 1 8 Try.underlying29 hj hy0 hy1 hy2 rfl (by decide) _ _ _ rfl (HROW.out.alloc _) ⟨W0.heap.size, 0, none⟩ 1 1 [.int .i64 (n : Int)] rfl rfl (World.news_of_block (cs := #[.int .i64 (n : Int)]) (t := 3) (fr := (0, 0)) (heap_alloc_new W0 _)) (by simp [Value.oneCell']) (by decide) (by rw [HLR.out]; unfold maxLen; omega) (by rw [HLR.out]; omega) (by simp; omega) (W0.heap.size + 1) (by simp) ?_; intro gg cap w3 ho3 hg3 hat3 hlt3; have HM1 := Lib.hid (mid_row hlt HA.out.1 HA.out.2.1 HA.out.2.2.1 HA.out.2.2.2.2.1 HNE.out HA.out.2.2.2.2.2.2 _ (by rw [HLL.out]; exact ho3) hg3 hat3); have HB3 := Lib.hid ((hbl.out.alloc hs0 _).grown hg3 (by simp; omega) (fun q hq => (HROW.out.lt q hq).1)); have hs3 := HB3.out.size; rw [HLL.out] at HM1; clear ho3 hg3 hat3) | (at_builtin; refine wpList_append_lies _ rfl (.tmp 28) (.tmp 34) 22 rfl w.heap.size 29 i0 (.slice none 0 0) 1 24 Try.underlying22 hi hz0 hz1 hz2 rfl (by decide) _ _ _ rfl (HM1.out.1.alloc _) ⟨w3.heap.size, 0, none⟩ 1 1 [.slice (some ⟨gg, 0, none⟩) (l.length + 1) cap] rfl rfl (World.news_of_block (cs := #[.slice (some ⟨gg, 0, none⟩) (l.length + 1) cap]) (t := 29) (fr := (0, 0)) (heap_alloc_new w3 _)) (by simp [Value.oneCell']) (by decide) (by have := HML.out; unfold maxLen; omega) (by have := HML.out; omega) (by simp; omega) (w3.heap.size + 1) (by simp) ?_; intro gg5 cap5 w5 ho5 hg5 hat5 hlt5; have HM2 := Lib.hid (mid_next hlt HM1.out.2.1 HA.out.2.2.1 HA.out.2.2.2.1 HM1.out.2.2 HA.out.2.2.2.2.2.1 _ ho5 hg5 hat5); have HB5 := Lib.hid ((HB3.out.alloc hs3 _).grown hg5 (by simp; omega) (fun q hq => (HM1.out.1.lt q hq).1)); clear ho5 hg5 hat5))
            go_roundw
            case rel => exact ⟨i + 1, by omega, by go_num, HM2, HB5⟩
            case measure => simp [intOf]; omega
          · obtain rfl : i = m2.length := by omega
            have HOG : Hid (OwnG W0 w.heap.size _ (m1 ++ m2.map fun l => l ++ [(n : Int)])) := Lib.hid hS.out.all
            clear hS
            go_wp2
            go_ret
            exact ⟨_, rfl, HOG.out, hbl.out⟩
end Go.Proofs.Ytfbdmheaalmboaa
