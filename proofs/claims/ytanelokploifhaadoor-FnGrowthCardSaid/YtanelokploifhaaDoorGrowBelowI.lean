/-
  The program's IsBelow: what the plain words say; nothing that was there before is changed.
-/
import Derived.Test.YtanelokploifhaaDoorGrowDiff
import Derived.Test.YtanelokploifhaaDoorSquareRows
import Derived.Test.YtanelokploifhaaDoorPolyDet
namespace Go.Proofs.YtanelokploifhaaDoor
open Go Go.RowKit

theorem bel_end {m : List (List Int)} {q d : Int} {k : Nat} (hk : k = m.length + 1) (h : belTo m q d (k - 1)) : belB m q d = true := belB_to.2 (by rwa [show k - 1 = m.length by omega] at h)
theorem bel_bad {m : List (List Int)} {q d : Int} {k : Nat} (h0 : 0 < k) (hk : k ≤ m.length) (h : ¬ 0 < detF k (negE (cellOf m) q d)) : belB m q d = false := by
  rw [Bool.eq_false_iff]
  intro hb
  have := belB_to.1 hb (k - 1) (by omega)
  rw [show k - 1 + 1 = k by omega] at this
  exact h this
theorem bel_step {m : List (List Int)} {q d : Int} {k : Nat} (h0 : 0 < k) (hb : belTo m q d (k - 1)) (h : 0 < detF k (negE (cellOf m) q d)) : belTo m q d (k + 1 - 1) := fun i hi => by
  by_cases e : i + 1 = k
  · rw [e]; exact h
  · exact hb i (by omega)

set_option maxRecDepth 100000 in
set_option maxHeartbeats 3200000 in
theorem impl_isBelow (A : Option Addr) (c : Nat) (m : List (List Int)) (hn : m.length ≤ 1099511627776) (ht : ∀ k, k < m.length → (m.getD k []).length ≤ 1099511627776) (q d : Int) (w : World) (hg : GridS w A m) :
    Calls Tryd.prog 13 #[.slice A m.length c, .int .i64 q, .int .i64 d] w (Scalar (.bool (belowS m q d)) w) := by
  have HI := Lib.hid (impl_hasGrowth A c m hn ht d w hg)
  have hbs : belowS m q d = ((smallM m && decide (1 ≤ d ∧ d ≤ 100)) && (decide (0 ≤ q ∧ q ≤ 3600) && belB m q d)) := by
    unfold belowS
    cases smallM m <;> cases decide (0 ≤ q ∧ q ≤ 3600) <;> cases decide (1 ≤ d ∧ d ≤ 100) <;> cases belB m q d <;> rfl
  rw [hbs]
  clear hbs
  by_cases hs : (smallM m && decide (1 ≤ d ∧ d ≤ 100)) = true
  · rw [hs] at HI ⊢
    by_cases hq : 0 ≤ q ∧ q ≤ 3600
    · rw [decide_eq_true hq, Bool.true_and, Bool.true_and]
      rw [Bool.and_eq_true, decide_eq_true_iff] at hs
      obtain ⟨hm, hd⟩ := hs
      have h4 := (small_facts hm).2.1
      obtain ⟨Z, hz, HZ⟩ := sq_zero
      have HD := Lib.hid (impl_difference A c m hm q d hq hd w hg)
      have HR := Lib.hid (fun (k : Nat) (hk : k ≤ m.length) w' => impl_rows (difF (cellOf m) m.length q d m.length 0) k (by omega) w')
      have HRW : Hid (∀ k, k ≤ m.length → tabOf k k (difF (cellOf m) m.length q d m.length 0) = tabOf k k (negE (cellOf m) q d)) := Lib.hid fun k hk => dif_rows (cellOf m) m.length q d hk
      have HDT : Hid (∀ (k : Nat) (A' : Option Addr) (c' : Nat) (w' : World), k ≤ m.length → GridR w' A' c' (tabOf k k (negE (cellOf m) q d)) → Calls Tryd.prog 45 #[.slice A' k c'] w' (Scalar (.int .i64 (detF k (negE (cellOf m) q d))) w')) := Lib.hid fun k A' c' w' hk hg' => by
        obtain ⟨s1, s2⟩ := neg_sq hm (q := q) (d := d) (by omega) (by omega) hk
        have h := impl_det k (by omega) A' c' _ s1 w' hg'
        rwa [s2] at h
      have HTL : Hid (∀ k, (tabOf k k (negE (cellOf m) q d)).length = k) := Lib.hid fun k => tabOf_length _ _ _
      have HNX := Lib.hid (fun k (h0 : 0 < k) => bel_step (m := m) (q := q) (d := d) (k := k) h0)
      have HBAD := Lib.hid (fun k (h0 : 0 < k) (hk : k ≤ m.length) => bel_bad (m := m) (q := q) (d := d) (k := k) h0 hk)
      have HEND := Lib.hid (fun k (hk : k = m.length + 1) => bel_end (m := m) (q := q) (d := d) (k := k) hk)
      have HB0 : Hid (belTo m q d (1 - 1)) := Lib.hid fun i hi => by omega
      obtain ⟨q0, q1⟩ := hq
      clear hg hn ht hm hd
      generalize belTo m q d = T at *
      generalize belB m q d = b at *
      generalize negE (cellOf m) q d = f at *
      generalize difF (cellOf m) m.length q d m.length 0 = F at *
      go_enter Tryd.func13, Tryd.ntmps13
      go_wp2_with fail
      refine HI.out.mono ?_
      rintro e w1 ⟨rfl, hw⟩
      obtain rfl : w = w1 := hw.symm
      clear HI hw
      go_wp2_with fail
      refine HD.out.mono ?_
      rintro e w1 ⟨rfl, hb1⟩
      have HB1 := Lib.hid hb1
      have hs1 := hb1.size
      have hsq := SqAt.new w1 (fun _ _ => 0)
      rw [← HZ.out] at hsq
      have hst := (SqAt.new w1 (fun _ _ => 0)).store (f' := F)
      have hsd := (SqAt.new w1 (fun _ _ => 0)).stored (f' := F)
      rw [← HZ.out] at hst hsd
      have HSD := Lib.hid hsd
      have HB2 : Hid (Below w1.heap.size w1 ((w1.alloc (.cells Z 57)).setRow w1.heap.size (sqA F))) := Lib.hid (below_row below_new (Nat.le_refl _) _)
      clear hb1 HD hsq hsd
      go_wp2
      go_loopw [8] (fun nv wr => ∃ k : Nat, 0 < k ∧ k ≤ m.length + 1 ∧ nv = .int .i64 (k : Int) ∧ SqAt wr w1.heap.size F ∧ Below w1.heap.size w1 wr ∧ Hid (T (k - 1))) (fun nv _ => m.length + 1 - (intOf nv).toNat)
      case atStart => exact ⟨1, by omega, by omega, rfl, HSD.out, HB2.out, HB0⟩
      case round =>
        obtain ⟨k, hk0, hk, rfl, hsq, hb, hT⟩ := hrel
        by_cases hkl : k ≤ m.length
        · have HRK := Lib.hid (HR.out k hkl wr)
          rw [HRW.out k hkl] at HRK
          have HDK := Lib.hid (fun A' c' w' => HDT.out k A' c' w' hkl)
          have HTK := Lib.hid (HTL.out k)
          have HN := Lib.hid (HNX.out k hk0 hT.out)
          have HBD := Lib.hid (HBAD.out k hk0 hkl)
          have HSQ := Lib.hid hsq
          have HB := Lib.hid hb
          have hsb := hb.size
          clear hsq hb
          generalize detF k f = x at *
          generalize tabOf k k f = t at *
          have hkk : (k : Int) ≤ (m.length : Int) := by omega
          go_wp2
          refine sq_load HSQ.out _ rfl rfl ?_
          go_wp2_with fail
          refine HRK.out.mono ?_
          rintro e w3 ⟨v3, rfl, ho3, hb3⟩
          obtain ⟨A3, c3, rfl, hg3⟩ := ho3.gridR
          rw [HTK.out]
          have HD3 := Lib.hid (HDK.out A3 c3 w3 hg3)
          have HB3 := Lib.hid (HB.out.trans (hb3.mono hsb))
          have HSQ3 := Lib.hid (HSQ.out.below hb3)
          clear hg3 ho3 hb3
          go_wp2_with fail
          refine HD3.out.mono ?_
          rintro e w4 ⟨rfl, hb4⟩
          have HB4 := Lib.hid (HB3.out.trans (hb4.mono HB3.out.size))
          have HSQ4 := Lib.hid (HSQ3.out.below hb4)
          clear hb4
          by_cases hx : 0 < x
          · have hnx : ¬ x ≤ 0 := by omega
            have HT := Lib.hid (HN.out hx)
            go_wp2
            go_roundw
            case rel => exact ⟨k + 1, by omega, by omega, by go_num, HSQ4.out, HB4.out, HT⟩
            case measure => simp [intOf]; omega
          · have hnx : x ≤ 0 := by omega
            have HBF := Lib.hid (HBD.out (by omega))
            have HBW := Lib.hid (below_behind HB1.out HB4.out)
            go_wp2
            go_ret
            exact ⟨by rw [HBF.out]; rfl, HBW.out⟩
        · obtain rfl : k = m.length + 1 := by omega
          have HE := Lib.hid (HEND.out _ rfl hT.out)
          have HBW := Lib.hid (below_behind HB1.out hb)
          have hkk : ¬ ((m.length + 1 : Nat) : Int) ≤ (m.length : Int) := by omega
          clear hsq hb hT
          go_wp2
          go_ret
          exact ⟨by rw [HE.out]; rfl, HBW.out⟩
    · rw [decide_eq_false hq, Bool.false_and, Bool.and_false]
      clear hg hn ht hs
      by_cases h0 : q < 0
      · go_enter Tryd.func13, Tryd.ntmps13
        go_wp2_with fail
        refine HI.out.mono ?_
        rintro e w1 ⟨rfl, rfl⟩
        go_wp2
        go_ret
        exact ⟨rfl, Below.refl _ _⟩
      · have h1 : q > 3600 := by omega
        go_enter Tryd.func13, Tryd.ntmps13
        go_wp2_with fail
        refine HI.out.mono ?_
        rintro e w1 ⟨rfl, rfl⟩
        go_wp2
        go_ret
        exact ⟨rfl, Below.refl _ _⟩
  · have hs := Bool.eq_false_iff.2 hs
    rw [hs] at HI ⊢
    rw [Bool.false_and]
    clear hg hn ht hs
    go_enter Tryd.func13, Tryd.ntmps13
    go_wp2_with fail
    refine HI.out.mono ?_
    rintro e w1 ⟨rfl, rfl⟩
    go_wp2
    go_ret
    exact ⟨rfl, Below.refl _ _⟩
end Go.Proofs.YtanelokploifhaaDoor
