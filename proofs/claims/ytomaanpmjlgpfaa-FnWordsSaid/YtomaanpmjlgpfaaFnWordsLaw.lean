/-
  The law on words: whatever the bytes it returns true; nothing that was there before is changed. In a world of the usual shape.
-/
import Derived.Test.YtomaanpmjlgpfaaDraws
import Derived.Test.YtomaanpmjlgpfaaTexts
import Derived.Test.YtomaanpmjlgpfaaBig
import Derived.Test.YtomaanpmjlgpfaaFactors
import Derived.Test.YtomaanpmjlgpfaaLeast
import Derived.Test.YtomaanpmjlgpfaaMirror
import Derived.Test.YtomaanpmjlgpfaaOccurs
namespace Go.Proofs.Ytomaanpmjlgpfaa
open Go Go.RowKit

theorem codeAt_next {w w' : World} {a : Option Addr} {n : Nat} (h : CodeAt w w.heap.size a n) (hb : Below w.heap.size w w') : CodeAt w' w'.heap.size a n := by
  intro k hk
  obtain ⟨b, off, z, rfl, hlt, z0, z1, hc⟩ := h k hk
  exact ⟨b, off, z, rfl, Nat.lt_of_lt_of_le hlt hb.size, z0, z1, (hb.cell (p := ⟨b, off + k, none⟩) hlt).trans hc⟩
theorem shaped_next {P : Program} {w w' : World} (h : w.ShapedOpen P) (hb : Below w.heap.size w w') : w'.ShapedOpen P := h.keptBut (hb.frame (fun _ => False)) (fun _ h => h.elim)
theorem bl {w w1 w2 : World} (h : Below w.heap.size w w1) (k : Below w1.heap.size w1 w2) : Below w.heap.size w w2 := h.trans (k.mono h.size)

theorem occ_factor {f y : ByteArray} {l : Int} (h : y ∈ factorsOf f l) : occ f y = true := by
  unfold factorsOf at h
  split at h
  · next hc =>
    obtain ⟨j, hj, rfl⟩ := facsTo_mem _ _ _ _ h
    have hs : (f.extract j (j + l.toNat)).size = l.toNat := by rw [ByteArray.size_extract]; omega
    refine contains_yes (i := j) (by rw [ba_len]; omega) ?_
    rw [← occ_eq, hs]
    simp
  · cases h
theorem factorsOf_asc (f : ByteArray) (l : Int) : Asc (factorsOf f l) := by
  unfold factorsOf
  split
  · exact facsTo_asc _ _ _
  · exact List.Pairwise.nil
theorem asc_at {ps : List ByteArray} (h : Asc ps) {i j : Nat} (hij : i < j) (hj : j < ps.length) : (ps.getD i ByteArray.empty).data.toList < (ps.getD j ByteArray.empty).data.toList := by
  have := List.pairwise_iff_getElem.1 h i j (by omega) hj hij
  simp only [List.getD_eq_getElem?_getD, List.getElem?_eq_getElem hj, List.getElem?_eq_getElem (show i < ps.length by omega), Option.getD_some]
  exact this
theorem root_again {s : ByteArray} (hw : wordy s = true) : timesB (rootW s) (rootC s) = s ∧ 0 < rootC s := by
  obtain ⟨k, hk⟩ := root_exists s (wordy_pos hw)
  have e := rootNo_eq hk
  unfold rootW rootC
  rw [if_pos hw, if_pos hw, e]
  refine ⟨?_, Nat.div_pos hk.2.1 hk.1⟩
  have h := timesB_root s k
  rw [hk.2.2.1] at h
  exact of_decide_eq_true h
theorem rootC_le (s : ByteArray) : rootC s ≤ s.size := by
  unfold rootC
  split
  · exact Nat.div_le_self _ _
  · omega
theorem root_total (s : ByteArray) (k : Nat) (hk : k < rootC s) : (timesB (rootW s) k).size + (rootW s).size ≤ s.size := by
  cases hw : wordy s with
  | false => unfold rootC at hk; rw [hw, if_neg (by decide)] at hk; omega
  | true =>
    have h := congrArg ByteArray.size (root_again hw).1
    rw [timesB_size] at h
    rw [timesB_size, ← h, ← Nat.succ_mul]
    exact Nat.mul_le_mul_right _ hk

set_option maxRecDepth 100000 in
set_option maxHeartbeats 6400000 in
theorem law_words (a : Option Addr) (n cp : Nat) (w : World) (hcode : n ≤ 1048576 → CodeAt w w.heap.size a n) (hsh : w.ShapedOpen Try.prog) :
    Calls Try.prog 3 #[.slice a n cp] w fun e w' => e = .returned (.bool true) ∧ Below w.heap.size w w' := by
  by_cases hle : n ≤ 1048576
  · have HG := Lib.hid (big_is a n cp false (by simp; omega) w)
    have HC := Lib.hid (fun w' (hb : Below w.heap.size w w') => codeAt_next (hcode hle) hb)
    have HSH := Lib.hid (fun w' (hb : Below w.heap.size w w') => shaped_next hsh hb)
    have D1 := Lib.hid (fun w' hb => draw_root a n cp w' (HC.out w' hb) hle)
    have D2 := Lib.hid (fun w' hb => draw_turn a n cp w' (HC.out w' hb) hle)
    have D3 := Lib.hid (fun w' hb => draw_factors a n cp w' (HC.out w' hb) hle)
    have D4 := Lib.hid (fun w' hb => draw_words a n cp w' (HC.out w' hb) hle)
    have D5 := Lib.hid (fun w' hb => draw_occurs a n cp w' (HC.out w' hb) hle)
    have D6 := Lib.hid (fun w' hb => draw_isWord a n cp w' (HC.out w' hb) hle)
    clear hcode hsh
    go_enter Try.func3, Try.ntmps3
    go_wp2_with fail
    refine HG.out.mono ?_
    rintro e w0 ⟨rfl, rfl⟩
    go_wp2_with fail
    refine (D1.out _ (Below.refl _ _)).mono ?_
    rintro e w1 ⟨s, hs, rfl, b1⟩
    have HS := Lib.hid hs
    have I2 := Lib.hid (fun w' => impl_root s (by omega) w')
    have S2 := Lib.hid (fun w' => spec_root s (by omega) w')
    clear hs
    go_wp2_with fail
    refine (I2.out w1).mono ?_
    rintro e w2 ⟨rfl, b2⟩
    have B2 := Lib.hid (bl b1 b2)
    clear b1 b2
    go_wp2_with fail
    refine (S2.out w2).mono ?_
    rintro e w3 ⟨rfl, b3⟩
    have B3 := Lib.hid (bl B2.out b3)
    clear b3
    obtain ⟨r0, hr0⟩ : ∃ r, rootW s = r := ⟨_, rfl⟩
    obtain ⟨c0, hc0⟩ : ∃ r, rootC s = r := ⟨_, rfl⟩
    rw [hr0, hc0]
    have HR0 := Lib.hid hr0
    have HC0 := Lib.hid hc0
    clear hr0 hc0
    go_wp2_with fail
    refine (D2.out w3 B3.out).mono ?_
    rintro e w4 ⟨v, t, hv, rfl, b4⟩
    have B4 := Lib.hid (bl B3.out b4)
    clear b4
    have I5 := Lib.hid (fun w' => impl_turn v t (by omega) w')
    have S5 := Lib.hid (fun w' => spec_turn v t (by omega) w')
    go_wp2_with fail
    refine (I5.out w4).mono ?_
    rintro e w5 ⟨rfl, b5⟩
    have B5 := Lib.hid (bl B4.out b5)
    clear b5
    obtain ⟨u, hu⟩ : ∃ u, turned v t = u := ⟨_, rfl⟩
    rw [hu] at S5
    rw [hu]
    have HU := Lib.hid hu
    clear hu
    -- the parts of a word, the words of a length
    go_wp2_with fail
    refine (D3.out w5 B5.out).mono ?_
    rintro e w6 ⟨f, l, hf, rfl, b6⟩
    have B6 := Lib.hid (bl B5.out b6)
    have I7 := Lib.hid (fun w' => impl_factors f l (by omega) w')
    have S7 := Lib.hid (fun w' => spec_factors f l (by omega) w')
    have hpl := factorsOf_length f l
    have HPM := Lib.hid (fun y (hy : y ∈ factorsOf f l) => occ_factor hy)
    have HPA := Lib.hid (factorsOf_asc f l)
    generalize factorsOf f l = ps at *
    have HF := Lib.hid hf
    clear b6 hf
    go_wp2_with fail
    refine (I7.out w6).mono fun e w7 h7 => ?_
    obtain ⟨A7, c7, rfl, r7, b7⟩ := h7.rowAt
    have B7 := Lib.hid (bl B6.out b7)
    have R7 := Lib.hid r7
    clear h7 b7 r7
    go_wp2_with fail
    refine (D4.out w7 B7.out).mono ?_
    rintro e w8 ⟨x8, y8, rfl, b8⟩
    have B8 := Lib.hid (bl B7.out b8)
    have R8 := Lib.hid (R7.out.below b8)
    have I9 := Lib.hid (fun w' => impl_wordsOf x8 y8 w')
    have S9 := Lib.hid (fun w' => spec_wordsOf x8 y8 w')
    have hql := wordsOf_length x8 y8
    generalize wordsOf x8 y8 = qs at *
    clear b8 R7
    go_wp2_with fail
    refine (I9.out w8).mono fun e w9 h9 => ?_
    obtain ⟨A9, c9, rfl, r9, b9⟩ := h9.rowAt
    have B9 := Lib.hid (bl B8.out b9)
    have R9 := Lib.hid (R8.out.below b9)
    have Q9 := Lib.hid r9
    clear h9 b9 r9 R8
    go_wp2_with fail
    refine (D5.out w9 B9.out).mono ?_
    rintro e w10 ⟨o, pp, ho, hpp, rfl, b10⟩
    have B10 := Lib.hid (bl B9.out b10)
    have R10 := Lib.hid (R9.out.below b10)
    have Q10 := Lib.hid (Q9.out.below b10)
    clear b10 R9 Q9
    go_wp2_with fail
    refine (D6.out w10 B10.out).mono ?_
    rintro e w11 ⟨q, mm, hmm, rfl, b11⟩
    have B11 := Lib.hid (bl B10.out b11)
    have R11 := Lib.hid (R10.out.below b11)
    have Q11 := Lib.hid (Q10.out.below b11)
    have IOC := Lib.hid (fun w' (hb : Below w.heap.size w w') => impl_occurs o pp (by omega) w' (HSH.out w' hb))
    have SOC := Lib.hid (fun w' => spec_occurs o pp (by omega) (by omega) w')
    have IIW := Lib.hid (fun w' => impl_isWord q mm (by omega) w')
    have SIW := Lib.hid (fun w' => spec_isWord q mm (by omega) w')
    have ILT := Lib.hid (fun w' => impl_least s (by have := HS.out; omega) w')
    have SLT := Lib.hid (fun w' => spec_least s (by have := HS.out; omega) w')
    have IMI := Lib.hid (fun w' => impl_mirror s (by have := HS.out; omega) w')
    have SMI := Lib.hid (fun w' => spec_mirror s (by have := HS.out; omega) w')
    clear b11 R10 Q10 ho hpp hmm
    -- the comparison with the model
    go_wp2_with fail
    refine (S5.out w11).mono ?_
    rintro e w12 ⟨rfl, b12⟩
    have B12 := Lib.hid (bl B11.out b12)
    have R12 := Lib.hid (R11.out.below b12)
    have Q12 := Lib.hid (Q11.out.below b12)
    clear b12 R11 Q11
    go_wp2_with fail
    refine (S7.out w12).mono fun e w13 h13 => ?_
    obtain ⟨A13, c13, rfl, r13, b13⟩ := h13.rowAt
    have B13 := Lib.hid (bl B12.out b13)
    have R13 := Lib.hid (R12.out.below b13)
    have Q13 := Lib.hid (Q12.out.below b13)
    have T13 := Lib.hid (texts_rows A7 A13 c7 c13 ps (by omega) w13 R13.out r13)
    clear h13 b13 r13 R12 Q12
    go_wp2_with fail
    refine T13.out.mono ?_
    rintro e w14 ⟨rfl, b14⟩
    have B14 := Lib.hid (bl B13.out b14)
    have R14 := Lib.hid (R13.out.below b14)
    have Q14 := Lib.hid (Q13.out.below b14)
    clear b14 R13 Q13
    go_wp2_with fail
    refine (S9.out w14).mono fun e w15 h15 => ?_
    obtain ⟨A15, c15, rfl, r15, b15⟩ := h15.rowAt
    have B15 := Lib.hid (bl B14.out b15)
    have R15 := Lib.hid (R14.out.below b15)
    have T15 := Lib.hid (texts_rows A9 A15 c9 c15 qs (by omega) w15 (Q14.out.below b15) r15)
    clear h15 b15 r15 R14 Q14
    go_wp2_with fail
    refine T15.out.mono ?_
    rintro e w16 ⟨rfl, b16⟩
    have B16 := Lib.hid (bl B15.out b16)
    have R16 := Lib.hid (R15.out.below b16)
    clear b16 R15
    go_wp2_with fail
    refine (IOC.out w16 B16.out).mono ?_
    rintro e w17 ⟨rfl, rfl⟩
    go_wp2_with fail
    refine (SOC.out _).mono ?_
    rintro e w18 ⟨rfl, rfl⟩
    go_wp2_with fail
    refine (IIW.out _).mono ?_
    rintro e w19 ⟨rfl, rfl⟩
    go_wp2_with fail
    refine (SIW.out _).mono ?_
    rintro e w20 ⟨rfl, rfl⟩
    go_wp2_with fail
    refine (ILT.out _).mono ?_
    rintro e w21 ⟨rfl, b21⟩
    have B21 := Lib.hid (bl B16.out b21)
    have R21 := Lib.hid (R16.out.below b21)
    clear b21 R16
    go_wp2_with fail
    refine (SLT.out _).mono ?_
    rintro e w22 ⟨rfl, b22⟩
    have B22 := Lib.hid (bl B21.out b22)
    have R22 := Lib.hid (R21.out.below b22)
    clear b22 R21
    go_wp2_with fail
    refine (IMI.out _).mono ?_
    rintro e w23 ⟨rfl, b23⟩
    have B23 := Lib.hid (bl B22.out b23)
    have R23 := Lib.hid (R22.out.below b23)
    clear b23 R22
    go_wp2_with fail
    refine (SMI.out _).mono ?_
    rintro e w24 ⟨rfl, b24⟩
    have B24 := Lib.hid (bl B23.out b24)
    have R24 := Lib.hid (R23.out.below b24)
    clear b24 R23
    go_wp2_with fail
    -- each part occurs in the word, and they ascend
    go_loopw [21] (fun i wr => ∃ k : Nat, k ≤ ps.length ∧ i = .int .i64 k ∧ Hid (Below w.heap.size w wr) ∧ Hid (RowAt wr A7 ps)) (fun i _ => ps.length - (intOf i).toNat)
    case atStart => exact ⟨0, Nat.zero_le _, rfl, B24, R24⟩
    case round =>
      obtain ⟨k, hk, rfl, HB, HR⟩ := hrel
      by_cases hlt : k < ps.length
      · obtain ⟨g, rfl, hst, hg⟩ := HR.out (by omega)
        have hc1 := hst k hlt
        rw [Nat.zero_add] at hc1
        have hoc := HPM.out (ps.getD k ByteArray.empty) (by
          simp only [List.getD_eq_getElem?_getD, List.getElem?_eq_getElem hlt, Option.getD_some]
          exact List.getElem_mem hlt)
        have HOC : Hid (∀ w', Below w.heap.size w w' → Calls Try.prog 31 #[.string f, .string (ps.getD k ByteArray.empty)] w' fun e w'' => e = .returned (.bool true) ∧ w'' = w') := Lib.hid (fun w' hb => by
          have h := impl_occurs f (ps.getD k ByteArray.empty) (by have := HF.out; omega) w' (HSH.out _ hb)
          rw [hoc] at h
          exact h)
        by_cases h0 : 0 < k
        · obtain ⟨j, rfl⟩ : ∃ j, k = j + 1 := ⟨k - 1, by omega⟩
          have hc0 := hst j (by omega)
          rw [Nat.zero_add] at hc0
          have hless := asc_at HPA.out (show j < j + 1 by omega) hlt
          have hl2 : Op.bytesLess (ps.getD j ByteArray.empty).toList (ps.getD (j + 1) ByteArray.empty).toList = true := by rw [ba_less]; exact decide_eq_true hless
          have i3 : (0 : Int) ≤ (j : Int) + 1 := by omega
          have i0 : (0 : Int) ≤ (j : Int) := by omega
          have i1 : (j : Int) < (ps.length : Int) := by omega
          have i2 : (j : Int) + 1 < (ps.length : Int) := by omega
          generalize ps.getD j ByteArray.empty = z at *
          generalize ps.getD (j + 1) ByteArray.empty = y at *
          clear hless hoc hst
          go_wp2_with fail
          go_quiet (first | (go_at_call 31; refine Calls.quiet_of_same (HOC.out _ (below_drewN HB.out _))))
          go_wp2
          go_roundw
          case rel => exact ⟨j + 2, by omega, by go_num, below_drewN HB.out _, HR.out.below (below_drewN (Below.refl _ _) _)⟩
          case measure => simp [intOf]; omega
        · obtain rfl : k = 0 := by omega
          generalize ps.getD 0 ByteArray.empty = y at *
          have i1 : (0 : Int) < (ps.length : Int) := by omega
          clear hoc hst
          go_wp2_with fail
          go_quiet (first | (go_at_call 31; refine Calls.quiet_of_same (HOC.out _ (below_drewN HB.out _))))
          go_wp2
          go_roundw
          case rel => exact ⟨1, by omega, by go_num, below_drewN HB.out _, HR.out.below (below_drewN (Below.refl _ _) _)⟩
          case measure => simp [intOf]; omega
      · obtain rfl : k = ps.length := by omega
        have HTOT := Lib.hid (show ∀ q, q < c0 → (timesB r0 q).size + r0.size ≤ s.size from fun q hq => by rw [← HC0.out] at hq; rw [← HR0.out]; exact root_total s q hq)
        have hc100 : c0 ≤ 100 := by have h1 := HC0.out; have h2 := rootC_le s; have h3 := HS.out; omega
        have hs100 : s.size ≤ 100 := HS.out
        clear R24 HR HPM HPA
        cases hwv : wordy v with
        | true =>
          have hm := turnNo_lt v t (wordy_pos hwv)
          have hu : u = turnAt v (turnNo v t) := by rw [← HU.out]; unfold turned; rw [if_pos hwv]
          have hus : u.size = v.size := by rw [hu, turnAt_size _ _ (by omega)]
          have hup : u.size ≠ 0 := by have := wordy_pos hwv; omega
          have he := list_some hup
          have he2 : u.toList.isEmpty = false := by simpa using he
          have hlu : least u = least v := by rw [hu]; exact least_turn v _ hwv hm
          have IL1 := Lib.hid (fun w' => impl_least u (by omega) w')
          have IL2 := Lib.hid (fun w' => impl_least v (by omega) w')
          rw [hlu] at IL1
          clear hu hm hlu hup
          go_wp2_with fail
          refine (IL1.out _).mono ?_
          rintro e w26 ⟨rfl, b26⟩
          have B26 := Lib.hid (bl HB.out b26)
          clear b26
          go_wp2_with fail
          refine (IL2.out _).mono ?_
          rintro e w27 ⟨rfl, b27⟩
          have HBX := Lib.hid (bl B26.out b27)
          clear b27
          go_wp2
          go_loopw [22, 23] (fun v i wr => ∃ k : Nat, k ≤ c0 ∧ v = .string (timesB r0 k) ∧ i = .int .i64 k ∧ Hid (Below w.heap.size w wr)) (fun _ i _ => c0 - (intOf i).toNat)
          case atStart => exact ⟨0, Nat.zero_le _, rfl, rfl, HBX⟩
          case round =>
            obtain ⟨k, hk, rfl, rfl, HB⟩ := hrel
            by_cases hlt : k < c0
            · have hsz := HTOT.out k hlt
              have HN := Lib.hid (timesB_next r0 k)
              go_wp2
              go_roundw
              case rel => exact ⟨k + 1, by omega, by rw [← HN.out], by go_num, HB⟩
              case measure => simp [intOf]; omega
            · obtain rfl : k = c0 := by omega
              cases hws : wordy s with
              | true =>
                obtain ⟨hag, hpos⟩ := root_again hws
                rw [HR0.out, HC0.out] at hag
                rw [HC0.out] at hpos
                have g0 : ((k : Int) == 0) = false := by rw [beq_eq_false_iff_ne]; omega
                have hq1 : ((timesB r0 k).toList == s.toList) = true := by rw [hag]; simp
                have hq2 : ((mirror (mirror s)).toList == s.toList) = true := by rw [mirror_twice]; simp
                have hms := mirror_size s
                have IM2 := Lib.hid (fun w' => impl_mirror (mirror s) (by have := HS.out; omega) w')
                have MM := Lib.hid hq2
                generalize timesB r0 k = lg at *
                clear hag hq2 hms
                go_wp2_with fail
                refine (IMI.out _).mono ?_
                rintro e w31 ⟨rfl, b31⟩
                have B31 := Lib.hid (bl HB.out b31)
                clear b31
                go_wp2_with fail
                refine (IM2.out _).mono ?_
                rintro e w32 ⟨rfl, b32⟩
                have B32 := Lib.hid (bl B31.out b32)
                clear b32
                have hmm2 := MM.out
                go_wp2
                go_ret
                exact ⟨rfl, B32.out⟩
              | false =>
                have hr1 : rootW s = ByteArray.empty := by unfold rootW; rw [hws, if_neg (by decide)]
                have hc1 : rootC s = 0 := by unfold rootC; rw [hws, if_neg (by decide)]
                rw [HR0.out] at hr1
                rw [HC0.out] at hc1
                have he : r0.toList = [] := list_empty (by rw [hr1]; rfl)
                have he2 : r0.toList.isEmpty = true := by simpa using he
                clear hr1
                subst hc1
                go_wp2
                go_ret
                exact ⟨rfl, HB.out⟩
        | false =>
          have hu : u = ByteArray.empty := by rw [← HU.out]; unfold turned; rw [hwv, if_neg (by decide)]
          have he : u.toList = [] := list_empty (by rw [hu]; rfl)
          have he2 : u.toList.isEmpty = true := by simpa using he
          have HBX := HB
          clear hu
          go_wp2
          go_loopw [22, 23] (fun v i wr => ∃ k : Nat, k ≤ c0 ∧ v = .string (timesB r0 k) ∧ i = .int .i64 k ∧ Hid (Below w.heap.size w wr)) (fun _ i _ => c0 - (intOf i).toNat)
          case atStart => exact ⟨0, Nat.zero_le _, rfl, rfl, HBX⟩
          case round =>
            obtain ⟨k, hk, rfl, rfl, HB⟩ := hrel
            by_cases hlt : k < c0
            · have hsz := HTOT.out k hlt
              have HN := Lib.hid (timesB_next r0 k)
              go_wp2
              go_roundw
              case rel => exact ⟨k + 1, by omega, by rw [← HN.out], by go_num, HB⟩
              case measure => simp [intOf]; omega
            · obtain rfl : k = c0 := by omega
              cases hws : wordy s with
              | true =>
                obtain ⟨hag, hpos⟩ := root_again hws
                rw [HR0.out, HC0.out] at hag
                rw [HC0.out] at hpos
                have g0 : ((k : Int) == 0) = false := by rw [beq_eq_false_iff_ne]; omega
                have hq1 : ((timesB r0 k).toList == s.toList) = true := by rw [hag]; simp
                have hq2 : ((mirror (mirror s)).toList == s.toList) = true := by rw [mirror_twice]; simp
                have hms := mirror_size s
                have IM2 := Lib.hid (fun w' => impl_mirror (mirror s) (by have := HS.out; omega) w')
                have MM := Lib.hid hq2
                generalize timesB r0 k = lg at *
                clear hag hq2 hms
                go_wp2_with fail
                refine (IMI.out _).mono ?_
                rintro e w31 ⟨rfl, b31⟩
                have B31 := Lib.hid (bl HB.out b31)
                clear b31
                go_wp2_with fail
                refine (IM2.out _).mono ?_
                rintro e w32 ⟨rfl, b32⟩
                have B32 := Lib.hid (bl B31.out b32)
                clear b32
                have hmm2 := MM.out
                go_wp2
                go_ret
                exact ⟨rfl, B32.out⟩
              | false =>
                have hr1 : rootW s = ByteArray.empty := by unfold rootW; rw [hws, if_neg (by decide)]
                have hc1 : rootC s = 0 := by unfold rootC; rw [hws, if_neg (by decide)]
                rw [HR0.out] at hr1
                rw [HC0.out] at hc1
                have he : r0.toList = [] := list_empty (by rw [hr1]; rfl)
                have he2 : r0.toList.isEmpty = true := by simpa using he
                clear hr1
                subst hc1
                go_wp2
                go_ret
                exact ⟨rfl, HB.out⟩
  · have HG := Lib.hid (big_is a n cp true (by simp; omega) w)
    clear hcode hsh
    go_enter Try.func3, Try.ntmps3
    go_wp2_with fail
    refine HG.out.mono ?_
    rintro e w0 ⟨rfl, rfl⟩
    go_wp2
    go_ret
    exact ⟨rfl, Below.refl _ _⟩
end Go.Proofs.Ytomaanpmjlgpfaa
