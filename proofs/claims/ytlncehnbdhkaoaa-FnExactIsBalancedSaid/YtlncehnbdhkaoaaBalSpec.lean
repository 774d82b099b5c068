/-
  The model's IsBalanced: as the plain words say; nothing that was there before is changed.
-/
import Derived.Test.YtlncehnbdhkaoaaBalNum
import Derived.Test.YtlncehnbdhkaoaaCountS
import Derived.Test.YtlncehnbdhkaoaaWordsOf
import Derived.Test.YtlncehnbdhkaoaaLangNum
namespace Go.Proofs.Ytlncehnbdhkaoaa
open Go Go.RowKit

/-- All words ahead of place j have as many sources. -/
def BalTo (K N : Int) (o : ByteArray) (a : Int) (ps : List ByteArray) (j : Nat) : Prop := ∀ i, i < j → countS K N o (ps.getD i ByteArray.empty) = a
theorem balTo_all {K N : Int} {o : ByteArray} {a : Int} {ps : List ByteArray} (h : BalTo K N o a ps ps.length) : (ps.all fun x => countS K N o x == a) = true := by
  rw [List.all_eq_true]
  intro x hx
  obtain ⟨j, hj, rfl⟩ := List.getElem_of_mem hx
  have := h j hj
  rw [List.getD_eq_getElem?_getD, List.getElem?_eq_getElem hj, Option.getD_some] at this
  rw [this, beq_iff_eq]
theorem balTo_not {K N : Int} {o : ByteArray} {a : Int} {ps : List ByteArray} {j : Nat} (hj : j < ps.length) (h : countS K N o (ps.getD j ByteArray.empty) ≠ a) : (ps.all fun x => countS K N o x == a) = false := by
  rw [← Bool.not_eq_true, List.all_eq_true]
  intro e
  have := e _ (List.getElem_mem hj)
  rw [beq_iff_eq] at this
  rw [List.getD_eq_getElem?_getD, List.getElem?_eq_getElem hj, Option.getD_some] at h
  exact h this

set_option maxRecDepth 100000 in
set_option maxHeartbeats 1600000 in
theorem spec_isBalanced (K N : Int) (o : ByteArray) (m : Int) (ho : o.size ≤ 1099511627776) (w : World) :
    Calls Try.prog 27 #[.agg #[.int .i64 K, .int .i64 N, .string o], .int .i64 m] w (Says (.bool (balB K N o m)) w) := by
  have hk := codeIn_new w K N o
  have HK := Lib.hid hk
  have c0 := hk.c0
  have c1 := hk.c1
  have c2 := hk.c2
  have HB0 := Lib.hid ((Below.refl w.heap.size w).alloc (Nat.le_refl _) (.cells #[.int .i64 K, .int .i64 N, .string o] 25))
  have HI := Lib.hid (spec_isCode K N o ho)
  have HIN := Lib.hid (fun w' => spec_in m 0 5 w')
  clear hk
  cases hc : isCodeB K N o with
  | false =>
    rw [hc] at HI
    have HR := Lib.hid (bal_no (m := m) hc)
    clear hc
    go_enter Try.func27, Try.ntmps27
    go_wp2_with fail
    refine (HI.out _).mono ?_
    rintro e w1 ⟨rfl, hb1⟩
    have HB1 := Lib.hid (HB0.out.trans (hb1.mono HB0.out.size))
    clear hb1
    go_wp2
    go_ret
    exact ⟨by rw [HR.out]; rfl, HB1.out⟩
  | true =>
    rw [hc] at HI
    cases hmm : (decide (0 ≤ m) && decide (m ≤ 5)) with
    | false =>
      rw [hmm] at HIN
      have HR := Lib.hid (bal_out (K := K) (N := N) (o := o) (m := m) (by
        rintro ⟨h1, h2⟩
        rw [decide_eq_true h1, decide_eq_true h2] at hmm; cases hmm))
      clear hc hmm
      go_enter Try.func27, Try.ntmps27
      go_wp2_with fail
      refine (HI.out _).mono ?_
      rintro e w1 ⟨rfl, hb1⟩
      have HB1 := Lib.hid (HB0.out.trans (hb1.mono HB0.out.size))
      clear hb1
      go_wp2_with fail
      refine (HIN.out _).mono ?_
      rintro e w2 ⟨rfl, rfl⟩
      go_wp2
      go_ret
      exact ⟨by rw [HR.out]; rfl, HB1.out⟩
    | true =>
      rw [hmm] at HIN
      have hm2 : 0 ≤ m ∧ m ≤ 5 := by simpa [Bool.and_eq_true, decide_eq_true_eq] using hmm
      obtain ⟨mm, rfl⟩ := Int.eq_ofNat_of_zero_le hm2.1
      have hm5 : mm ≤ 5 := by omega
      obtain ⟨k, n, rfl, rfl, ok⟩ := codeOk_of hc
      have k2 := ok.k2
      have k3 := ok.k3
      have n1 := ok.n1
      have n4 := ok.n4
      have HR := Lib.hid (bal_yes ok hm5)
      have h729 : ∀ i, i ≤ mm → k ^ i ≤ 729 := fun i hi => Nat.le_trans (Nat.pow_le_pow_left k3 i) (Nat.le_trans (Nat.pow_le_pow_right (by decide) (Nat.le_trans hi hm5)) (by decide : 3 ^ 5 ≤ 729))
      have HW := Lib.hid (fun w' => spec_all k mm (by omega) k3 (by omega) h729 w')
      have HLEN : Hid (0 < (allW k mm).length ∧ (allW k mm).length ≤ 729) := Lib.hid (by
        rw [allW_length]
        exact ⟨Nat.pow_pos (by omega), h729 mm (Nat.le_refl _)⟩)
      have HSZ : Hid (∀ x ∈ allW k mm, x.size ≤ 16) := Lib.hid fun x hx => by rw [allW_size k mm x hx]; omega
      have HCS := Lib.hid (fun x (hx : x.size ≤ 16) w' => spec_countSources (k : Int) (n : Int) o x ho (by omega) w')
      have HP := Lib.hid (fun w' => spec_codePow k (n - 1) k3 (by omega) w')
      have e1 : wrap64 ((n : Int) - 1) = ((n - 1 : Nat) : Int) := by rw [small_wrap (by omega)]; omega
      have e2 : IntKind.i64.wrap ((n : Int) - 1) = ((n - 1 : Nat) : Int) := by rw [IntKind.wrap_i64]; omega
      clear hc ok hmm h729
      generalize n - 1 = n' at *
      generalize k ^ n' = q at *
      generalize allW k mm = ps at *
      go_enter Try.func27, Try.ntmps27
      go_wp2_with fail
      refine (HI.out _).mono ?_
      rintro e w1 ⟨rfl, hb1⟩
      have HB1 := Lib.hid (HB0.out.trans (hb1.mono HB0.out.size))
      have HK1 := Lib.hid (HK.out.below hb1)
      clear c0 c1 c2 hb1
      have c0 := HK1.out.c0
      have c1 := HK1.out.c1
      have c2 := HK1.out.c2
      go_wp2_with fail
      refine (HIN.out _).mono ?_
      rintro e w1' ⟨rfl, hw⟩
      obtain rfl : w1 = w1' := hw.symm
      clear hw
      go_wp2_with fail
      refine (HW.out _).mono ?_
      rintro e w2 hp2
      obtain ⟨g, cap, rfl, ho2, hb2⟩ := hp2.some HLEN.out.1
      have HB2 := Lib.hid (HB1.out.trans (hb2.mono HB1.out.size))
      have HK2 := Lib.hid (HK1.out.below hb2)
      have HST := Lib.hid (StrsAt.of_owns ho2 rfl)
      have hgl := (ho2.lt g rfl).2
      have hl729 := HLEN.out.2
      clear c0 c1 c2 hb2 ho2 hp2
      go_wp2
      go_loopw [6] (fun iv wr => ∃ j : Nat, j ≤ ps.length ∧ iv = .int .i64 (j : Int) ∧ Hid (BalTo (k : Int) (n : Int) o (q : Int) ps j) ∧ Hid (Below w2.heap.size w2 wr)) (fun iv _ => ps.length - (intOf iv).toNat)
      case atStart => exact ⟨0, Nat.zero_le _, rfl, Lib.hid (fun i h => by omega), Lib.hid (Below.refl _ _)⟩
      case round =>
        obtain ⟨j, hj, rfl, HT, HB⟩ := hrel
        by_cases hlt : j < ps.length
        · have HK3 := Lib.hid (HK2.out.below HB.out)
          have c0 := HK3.out.c0
          have c1 := HK3.out.c1
          have c2 := HK3.out.c2
          have kx := (HST.out.below HB.out hgl) j hlt
          rw [Nat.zero_add] at kx
          have HC0 := Lib.hid (HCS.out _ (HSZ.out _ (getD_mem hlt)))
          have HNOT := Lib.hid (fun h => balTo_not (K := (k : Int)) (N := (n : Int)) (o := o) (a := (q : Int)) hlt h)
          have HNEXT : Hid (countS (k : Int) (n : Int) o (ps.getD j ByteArray.empty) = (q : Int) → BalTo (k : Int) (n : Int) o (q : Int) ps (j + 1)) := Lib.hid fun e i hi => by
            by_cases e2 : i = j
            · subst e2; exact e
            · exact HT.out i (by omega)
          have hgw : g < wr.heap.size := Nat.lt_of_lt_of_le hgl HB.out.size
          generalize ps.getD j ByteArray.empty = x at *
          generalize countS (k : Int) (n : Int) o x = z at *
          obtain ⟨W0, rfl⟩ : ∃ W0 : World, W0 = wr := ⟨_, rfl⟩
          go_wp2
          go_region_held3 (fun w' => w'.cell? ⟨w.heap.size, 0, none⟩ = some (.int .i64 (k : Int)) ∧ w'.cell? ⟨w.heap.size, 1, none⟩ = some (.int .i64 (n : Int)) ∧ w'.cell? ⟨w.heap.size, 2, none⟩ = some (.string o) ∧ w'.cell? ⟨g, j, none⟩ = some (.string x)) (first | exact ⟨c0, c1, c2, kx⟩ | exact ⟨d0, d1, d2, dx⟩ | go_keep) (first | (go_at_call 54; refine (HP.out _).mono ?_; rintro e w8 ⟨rfl, rfl⟩) | (go_at_call 25; refine (HC0.out _).mono ?_; rintro e w9 ⟨rfl, hb9⟩; have HB9 : Hid (Below W0.heap.size W0 w9) := Lib.hid ((drewN_below (Below.refl _ _) 1).trans hb9); have d0 := (HK3.out.below HB9.out).c0; have d1 := (HK3.out.below HB9.out).c1; have d2 := (HK3.out.below HB9.out).c2; have dx := (HB9.out.cell (p := ⟨g, j, none⟩) hgw).trans kx; clear hb9))
          by_cases hz : z = (q : Int)
          · have hz1 : (z == (q : Int)) = true := beq_iff_eq.2 hz
            have HN := Lib.hid (HNEXT.out hz)
            have HB4 := Lib.hid (HB.out.trans (HB9.out.mono HB.out.size))
            clear hz
            go_wp2
            go_roundw
            case rel => exact ⟨j + 1, by omega, by go_num, HN, HB4⟩
            case measure => simp [intOf]; omega
          · have hz1 : (z == (q : Int)) = false := beq_eq_false_iff_ne.2 hz
            have HA := Lib.hid (HNOT.out hz)
            clear hz
            go_wp2
            go_ret
            exact ⟨by rw [HR.out, HA.out]; rfl, (HB2.out.trans (HB.out.mono HB2.out.size)).trans (HB9.out.mono (Nat.le_trans HB2.out.size HB.out.size))⟩
        · obtain rfl : j = ps.length := by omega
          have HA := Lib.hid (balTo_all HT.out)
          go_wp2
          go_ret
          exact ⟨by rw [HR.out, HA.out]; rfl, HB2.out.trans (HB.out.mono HB2.out.size)⟩
end Go.Proofs.Ytlncehnbdhkaoaa
