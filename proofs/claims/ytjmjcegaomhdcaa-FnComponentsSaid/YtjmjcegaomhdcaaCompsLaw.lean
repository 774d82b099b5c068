/-
  The law on components: whatever the bytes it returns true; nothing that was there before is changed. Over the program's contracts.
-/
import Derived.Test.YtjmjcegaomhdcaaLawKit
import Derived.Test.YtjmjcegaomhdcaaDrawCyc
import Derived.Test.YtjmjcegaomhdcaaCompFacts
import Derived.Test.YtjmjcegaomhdcaaCompCopies
import Derived.Test.YtjmjcegaomhdcaaMatPower
import Derived.BigRegion
namespace Go.Proofs.Ytjmjcegaomhdcaa
open Go Go.RowKit

/-- The program's functions of the chapter, in every later world. -/
structure CompsAt (W : World) : Prop where
  periodOf : ∀ m, At1V W 13 m (Scalar (.int .i64 (perS m)))
  componentsOf : ∀ m, At1V W 14 m (SpecG (compS m))
  reachOf : ∀ m, At1V W 15 m (SpecG (reachS m))
  turnsOf : ∀ m, At1V W 16 m (SpecA (turnsM m))
  primitiveStep : ∀ m, At1V W 17 m (Scalar (.int .i64 ((stepN m : Nat) : Int)))
  isIrreducible : ∀ m, At1V W 25 m (Scalar (.bool (irrM m)))
  isPrimitive : ∀ m, At1V W 27 m (Scalar (.bool (primM m)))
theorem specV_power {m : List (List Int)} (hz : SizeB m) (n : Int) {v : Value} {w : World} (h : GridV w v m) : Calls Try.prog 29 #[v, .int .i64 n] w (NewGB (powS m n) w) := by
  obtain ⟨A, c, rfl, hg⟩ := h
  obtain ⟨h1, h2, _⟩ := rows_le hz
  exact spec_power A c m h1 h2 n w hg
theorem specV_trace {m : List (List Int)} (hz : SizeB m) {v : Value} {w : World} (h : GridV w v m) : Calls Try.prog 30 #[v] w fun e w' => e = .returned (.int .i64 (traceM m)) ∧ w' = w := by
  obtain ⟨A, c, rfl, hg⟩ := h
  obtain ⟨h1, h2, h3⟩ := rows_le hz
  exact spec_traceOf A c m (by omega) h3 w hg
theorem specV_isMatrix {m : List (List Int)} (hz : SizeB m) {v : Value} {w : World} (h : GridV w v m) : Calls Try.prog 28 #[v] w fun e w' => e = .returned (.bool (isMat m)) ∧ w' = w := by
  obtain ⟨A, c, rfl, hg⟩ := h
  obtain ⟨h1, h2, h3⟩ := rows_le hz
  exact spec_isMatrix A c m (by omega) h3 w hg
theorem sizeB_powS (m : List (List Int)) (n : Int) {P : List (List Int)} (h : powS m n = some P) : SizeB P := by
  unfold powS at h
  split at h
  · next hc => exact sizeB_facts (isMat_facts (powM_isMat hc.1 _ h))
  · cases h

set_option maxRecDepth 100000 in
set_option maxHeartbeats 6400000 in
theorem law_components (a : Option Addr) (n cp : Nat) (w : World) (hcode : n ≤ 1048576 → CodeAt w w.heap.size a n) (hI : CompsAt w) :
    Calls Try.prog 3 #[.slice a n cp] w fun e w' => e = .returned (.bool true) ∧ Below w.heap.size w w' := by
  by_cases hle : n ≤ 1048576
  · have HG := Lib.hid (big_is a n cp false (by simp; omega) w)
    have D1 := Lib.hid (draw_period a n cp w (hcode hle) hle)
    have HI := Lib.hid hI
    clear hcode hI
    go_enter Try.func3, Try.ntmps3
    go_wp2_with fail
    refine HG.out.mono ?_
    rintro e w0 ⟨rfl, rfl⟩
    go_wp2_with fail
    refine D1.out.mono ?_
    rintro e w1 ⟨vm, M, rfl, g1, d1, b1⟩
    have ZM := Lib.hid d1.size
    have B1 := Lib.hid b1
    have M1 := Lib.hid g1
    clear d1 b1 g1
    have C2 := Lib.hid (HI.out.periodOf M vm w1 B1.out ZM.out M1.out)
    go_wp2_with fail
    refine C2.out.mono ?_
    rintro e w2 ⟨rfl, b⟩
    have B2 := Lib.hid (bl B1.out b)
    have M2 := Lib.hid (M1.out.below b)
    clear b C2
    have C3 := Lib.hid (HI.out.componentsOf M vm w2 B2.out ZM.out M2.out)
    go_wp2_with fail
    refine C3.out.mono ?_
    rintro e w3 ⟨vL, rfl, gL, b⟩
    have B3 := Lib.hid (bl B2.out b)
    have M3 := Lib.hid (M2.out.below b)
    have L3 := Lib.hid gL
    clear b gL C3
    have C4 := Lib.hid (HI.out.reachOf M vm w3 B3.out ZM.out M3.out)
    go_wp2_with fail
    refine C4.out.mono ?_
    rintro e w4 ⟨vR, rfl, gR, b⟩
    have B4 := Lib.hid (bl B3.out b)
    have M4 := Lib.hid (M3.out.below b)
    have L4 := Lib.hid (L3.out.below b)
    have R4 := Lib.hid gR
    clear b gR C4
    have C5 := Lib.hid (HI.out.turnsOf M vm w4 B4.out ZM.out M4.out)
    go_wp2_with fail
    refine C5.out.mono ?_
    rintro e w5 ⟨vT, rfl, gT, b⟩
    have B5 := Lib.hid (bl B4.out b)
    have M5 := Lib.hid (M4.out.below b)
    have L5 := Lib.hid (L4.out.below b)
    have R5 := Lib.hid (R4.out.below b)
    have T5 := Lib.hid gT
    clear b gT C5
    have C6 := Lib.hid (HI.out.primitiveStep M vm w5 B5.out ZM.out M5.out)
    go_wp2_with fail
    refine C6.out.mono ?_
    rintro e w6 ⟨rfl, b⟩
    have B6 := Lib.hid (bl B5.out b)
    have M6 := Lib.hid (M5.out.below b)
    have L6 := Lib.hid (L5.out.below b)
    have R6 := Lib.hid (R5.out.below b)
    have T6 := Lib.hid (T5.out.below b)
    clear b C6
    have SP := Lib.hid (fun w' (hb : Below w6.heap.size w6 w') => specV_periodOf ZM.out (M6.out.below hb))
    have SC := Lib.hid (fun w' (hb : Below w6.heap.size w6 w') => specV_componentsOf ZM.out (M6.out.below hb))
    have EC := Lib.hid (fun w' v' (hb : Below w6.heap.size w6 w') (h : GridV w' v' (compS M)) => likeV (sizeB_comp M) (L6.out.below hb) h)
    have SR := Lib.hid (fun w' (hb : Below w6.heap.size w6 w') => specV_reachOf ZM.out (M6.out.below hb))
    have ER := Lib.hid (fun w' v' (hb : Below w6.heap.size w6 w') (h : GridV w' v' (reachS M)) => likeV (sizeB_reach M) (R6.out.below hb) h)
    have ST := Lib.hid (fun w' (hb : Below w6.heap.size w6 w') => specV_turnsOf ZM.out (M6.out.below hb))
    have ET := Lib.hid (fun w' v' (hb : Below w6.heap.size w6 w') (h : RowV w' v' (turnsM M)) => likeR (sizeL_turns M) (T6.out.below hb) h)
    have SS := Lib.hid (fun w' (hb : Below w6.heap.size w6 w') => specV_primitiveStep ZM.out (M6.out.below hb))
    have II := Lib.hid (fun w' (hb : Below w6.heap.size w6 w') => HI.out.isIrreducible M vm w' (bl B6.out hb) ZM.out (M6.out.below hb))
    have SI := Lib.hid (fun w' (hb : Below w6.heap.size w6 w') => specV_isIrreducible ZM.out (M6.out.below hb))
    have IP := Lib.hid (fun w' (hb : Below w6.heap.size w6 w') => HI.out.isPrimitive M vm w' (bl B6.out hb) ZM.out (M6.out.below hb))
    have SM := Lib.hid (fun w' (hb : Below w6.heap.size w6 w') => specV_isMatrix ZM.out (M6.out.below hb))
    have SPW := Lib.hid (fun k w' (hb : Below w6.heap.size w6 w') => specV_power ZM.out k (M6.out.below hb))
    have STR := Lib.hid (fun P v w' (hz : SizeB P) (h : GridV w' v P) => specV_trace hz h)
    have HPRIM := Lib.hid (prim_is M)
    have HNOT := Lib.hid (@not_mat M)
    have HTP : Hid (∀ k P, isMat M = true → 1 ≤ k → k ≤ 8 → powS M ((k : Nat) : Int) = some P → 0 < traceM P → 0 < perM M ∧ perM M ∣ k) := Lib.hid fun k P hm h1 h8 hP ht => by
      unfold powS at hP
      rw [if_pos ⟨hm, by omega, by omega⟩, Int.toNat_natCast] at hP
      exact trace_period hm h1 hP ht
    have HZP : Hid (∀ k P, powS M k = some P → SizeB P) := Lib.hid fun k P h => sizeB_powS M k h
    have HPM : Hid (isMat M = true → perS M = ((perM M : Nat) : Int)) := Lib.hid fun h => by unfold perS; rw [if_pos h]
    have HTL := Lib.hid (turnsM_len M)
    have HTG : Hid (irrM M = true → ∀ j, j < M.length → (turnsM M).getD j 0 = ((turnN M j : Nat) : Int)) := Lib.hid fun h j hj => turnsM_get h hj
    have HTD : Hid (irrM M = true → ∀ i j, i < M.length → j < M.length → 0 < cellOf M i j → Int.tmod (((turnN M i : Nat) : Int) + 1 - ((turnN M j : Nat) : Int)) ((perM M : Nat) : Int) = 0) := Lib.hid fun h i j hi hj hx => turn_diff h hi hj hx
    have HONE : Hid (irrM M = true → ∃ r, compS M = [r] ∧ r.length = M.length) := Lib.hid comp_one
    have HNP : Hid (primM M = false → stepN M = 0) := Lib.hid stepN_none
    have HIM : Hid (irrM M = true → isMat M = true) := Lib.hid fun h => (irrM_iff.1 h).1
    have HMF : Hid (isMat M = true → MatFacts M) := Lib.hid isMat_facts
    have HPP : Hid (irrM M = true → 0 < perM M) := Lib.hid fun h => perM_pos (isMat_facts (irrM_iff.1 h).1).pos (irrM_iff.1 h).2
    have HTN : Hid (∀ j, turnN M j ≤ 1048576) := Lib.hid fun j => by
      have h2 : M.length ≤ 1048576 := by have := ZM.out; unfold SizeB at this; omega
      unfold turnN distN
      cases h : (List.range M.length).find? fun n => wkB M n 0 j with
      | none => simp
      | some t =>
        have ht := List.mem_range.1 (List.mem_of_find?_eq_some h)
        have h3 := Nat.mod_le t (perM M)
        show t % perM M ≤ 1048576
        omega
    have HSQ : Hid (isMat M = true → 0 ≤ (M.length : Int) * (M.length : Int) ∧ (M.length : Int) * (M.length : Int) ≤ 81) := Lib.hid fun h => by
      have hl := (isMat_facts h).le
      have h1 : M.length * M.length ≤ 9 * 9 := Nat.mul_le_mul hl hl
      have h2 : (M.length : Int) * (M.length : Int) = ((M.length * M.length : Nat) : Int) := (Int.natCast_mul _ _).symm
      rw [h2]; omega
    have HBI : Hid (primM M = true → (0 : Int) < (stepN M : Int) ∧ (stepN M : Int) ≤ (M.length : Int) * (M.length : Int) - 2 * (M.length : Int) + 2) := Lib.hid fun h => by
      obtain ⟨h1, h2⟩ := stepN_bound h
      have h3 : (M.length : Int) * (M.length : Int) = ((M.length * M.length : Nat) : Int) := (Int.natCast_mul _ _).symm
      rw [h3]; omega
    have HB0 : Hid (isMat M = true → (0 : Int) ≤ (M.length : Int) * (M.length : Int) - 2 * (M.length : Int) + 2) := Lib.hid fun h => by
      have hl := (isMat_facts h).pos
      obtain ⟨d, hd⟩ : ∃ d, M.length = d + 1 := ⟨M.length - 1, by omega⟩
      have h3 : (M.length : Int) * (M.length : Int) = ((M.length * M.length : Nat) : Int) := (Int.natCast_mul _ _).symm
      have h4 : M.length * M.length = d * d + 2 * d + 1 := by rw [hd, Nat.mul_add, Nat.add_mul]; omega
      rw [h3, h4]; omega
    obtain ⟨Am, cm, rfl, gm⟩ := M6.out
    obtain ⟨Al, cl, rfl, gl⟩ := L6.out
    obtain ⟨At, ct, rfl, gt⟩ := T6.out
    have HGM := Lib.hid gm
    have HGL := Lib.hid gl
    have HGT := Lib.hid gt
    clear gm gl gt M1 M2 M3 M4 M5 M6 L3 L4 L5 L6 R4 R5 R6 T5 T6 HI
    generalize perS M = p at *
    generalize stepN M = st at *
    generalize irrM M = irr at *
    generalize primM M = prim at *
    go_wp2_with fail
    refine (SP.out w6 (Below.refl _ _)).mono ?_
    rintro e w7 ⟨rfl, b⟩
    have H7 := Lib.hid (b)
    clear b
    go_wp2_with fail
    refine (SC.out w7 H7.out).mono ?_
    rintro e w8 ⟨u8, rfl, o, b⟩
    have G8 := Lib.hid o.gridV
    have H8 := Lib.hid (bl H7.out b)
    clear b o
    go_wp2_with fail
    refine (EC.out w8 u8 H8.out G8.out).mono ?_
    rintro e w9 ⟨rfl, b⟩
    have H9 := Lib.hid (bl H8.out b)
    clear b
    go_wp2_with fail
    refine (SR.out w9 H9.out).mono ?_
    rintro e w10 ⟨u10, rfl, o, b⟩
    have G10 := Lib.hid o.gridV
    have H10 := Lib.hid (bl H9.out b)
    clear b o
    go_wp2_with fail
    refine (ER.out w10 u10 H10.out G10.out).mono ?_
    rintro e w11 ⟨rfl, b⟩
    have H11 := Lib.hid (bl H10.out b)
    clear b
    go_wp2_with fail
    refine (ST.out w11 H11.out).mono ?_
    rintro e w12 ⟨u12, rfl, o, b⟩
    have G12 := Lib.hid o.rowV
    have H12 := Lib.hid (bl H11.out b)
    clear b o
    go_wp2_with fail
    refine (ET.out w12 u12 H12.out G12.out).mono ?_
    rintro e w13 ⟨rfl, b⟩
    have H13 := Lib.hid (bl H12.out b)
    clear b
    go_wp2_with fail
    refine (SS.out w13 H13.out).mono ?_
    rintro e w14 ⟨rfl, b⟩
    have H14 := Lib.hid (bl H13.out b)
    clear b
    go_wp2_with fail
    refine (II.out w14 H14.out).mono ?_
    rintro e w15 ⟨rfl, b⟩
    have H15 := Lib.hid (bl H14.out b)
    clear b
    go_wp2_with fail
    refine (SI.out w15 H15.out).mono ?_
    rintro e w16 ⟨rfl, b⟩
    have H16 := Lib.hid (bl H15.out b)
    clear b
    go_wp2_with fail
    refine (IP.out w16 H16.out).mono ?_
    rintro e w17 ⟨rfl, b⟩
    have H17 := Lib.hid (bl H16.out b)
    clear b
    go_wp2_with fail
    refine (II.out w17 H17.out).mono ?_
    rintro e w18 ⟨rfl, b⟩
    have H18 := Lib.hid (bl H17.out b)
    clear b
    cases irr with
    | false =>
      have hpr : prim = false := HPRIM.out
      subst hpr
      go_wp2_with fail
      refine (SM.out w18 H18.out).mono ?_
      rintro e w19 ⟨rfl, hw⟩
      obtain rfl : w18 = w19 := hw.symm
      cases hm : isMat M with
      | false =>
        obtain ⟨e1, e2, _⟩ := HNOT.out hm
        subst e1
        rw [e2]
        go_wp2
        go_ret
        exact ⟨rfl, bl B6.out H18.out⟩
      | true =>
        have hpm := HPM.out hm
        subst hpm
        generalize perM M = pm at *
        go_wp2
        go_loopw [9] (fun kv wr => ∃ k : Nat, 1 ≤ k ∧ k ≤ 9 ∧ kv = .int .i64 (k : Int) ∧ Hid (Below w6.heap.size w6 wr)) (fun kv _ => 9 - (intOf kv).toNat)
        case atStart => exact ⟨1, by omega, by omega, rfl, H18⟩
        case round =>
          obtain ⟨k, hk1, hk9, rfl, hbl⟩ := hrel
          by_cases hk8 : k ≤ 8
          · have HPW := Lib.hid (SPW.out (k : Int) wr hbl.out)
            have HTK := Lib.hid (fun P => HTP.out k P hm hk1 hk8)
            have hk8' : (k : Int) ≤ 8 := by omega
            go_wp2_with fail
            refine HPW.out.mono ?_
            rintro e wa ⟨v, rfl, ho, hb⟩
            have HBA := Lib.hid (bl hbl.out hb)
            have HOA := Lib.hid ho.gridV
            clear ho hb
            cases hP : powS M (k : Int) with
            | none =>
              rw [hP] at HOA
              clear hP
              go_wp2
              go_roundw
              case rel => exact ⟨k + 1, by omega, by omega, by go_num, HBA⟩
              case measure => simp [intOf]; omega
            | some P =>
              rw [hP] at HOA
              have HTRP := Lib.hid (STR.out P v wa (HZP.out _ P hP) HOA.out)
              have HTK2 := Lib.hid (HTK.out P hP)
              clear hP
              go_wp2_with fail
              refine HTRP.out.mono ?_
              rintro e wb ⟨rfl, hw⟩
              obtain rfl : wa = wb := hw.symm
              generalize traceM P = tr at *
              by_cases ht : 0 < tr
              · obtain ⟨hp0, hpd⟩ := HTK2.out ht
                have e1 : ((pm : Int) == 0) = false := by rw [beq_eq_false_iff_ne]; omega
                have e2 : (k : Int) % (pm : Int) = 0 := by
                  obtain ⟨q, rfl⟩ := hpd
                  rw [Int.natCast_mul]; exact Int.mul_emod_right _ _
                have hpn : ¬ (pm : Int) = 0 := by omega
                clear hpd HTK HTK2
                go_wp2
                go_roundw
                case rel => exact ⟨k + 1, by omega, by omega, by go_num, HBA⟩
                case measure => simp [intOf]; omega
              · have hd0 : decide (0 < tr) = false := decide_eq_false ht
                clear HTK HTK2
                go_wp2
                go_roundw
                case rel => exact ⟨k + 1, by omega, by omega, by go_num, HBA⟩
                case measure => simp [intOf]; omega
          · obtain rfl : k = 9 := by omega
            have htl := HTL.out
            rw [if_neg (by decide)] at htl
            obtain ⟨hs1, hs2⟩ := HSQ.out hm
            have hs3 := HB0.out hm
            have hst : st = 0 := by first | exact HNP.out rfl | exact HNP.out trivial
            subst hst
            have hml := (HMF.out hm).le
            rw [htl]
            go_wp2
            go_loopw [12] (fun iv w' => iv = .int .i64 0 ∧ w' = wr) (fun _ _ => 0)
            case atStart => exact ⟨rfl, rfl⟩
            case round =>
              obtain ⟨rfl, rfl⟩ := hrel
              go_wp2_with fail
              refine (II.out _ hbl.out).mono ?_
              rintro e wa ⟨rfl, b⟩
              have HA := Lib.hid (bl hbl.out b)
              clear b
              go_wp2_with fail
              refine (II.out _ HA.out).mono ?_
              rintro e wb ⟨rfl, b⟩
              have HB := Lib.hid (bl HA.out b)
              clear b
              go_wp2_with fail
              refine (IP.out _ HB.out).mono ?_
              rintro e wc ⟨rfl, b⟩
              have HC := Lib.hid (bl HB.out b)
              clear b
              go_wp2
              go_ret
              exact ⟨rfl, bl B6.out HC.out⟩
    | true =>
      have hm := HIM.out rfl
      have hpm := HPM.out hm
      subst hpm
      have hpr : prim = (((perM M : Nat) : Int) == 1) := HPRIM.out
      subst hpr
      generalize perM M = pm at *
      go_wp2_with fail
      refine (SM.out w18 H18.out).mono ?_
      rintro e w19 ⟨rfl, hw⟩
      obtain rfl : w18 = w19 := hw.symm
      rw [hm]
      go_wp2
      go_loopw [9] (fun kv wr => ∃ k : Nat, 1 ≤ k ∧ k ≤ 9 ∧ kv = .int .i64 (k : Int) ∧ Hid (Below w6.heap.size w6 wr)) (fun kv _ => 9 - (intOf kv).toNat)
      case atStart => exact ⟨1, by omega, by omega, rfl, H18⟩
      case round =>
        obtain ⟨k, hk1, hk9, rfl, hbl⟩ := hrel
        by_cases hk8 : k ≤ 8
        · have HPW := Lib.hid (SPW.out (k : Int) wr hbl.out)
          have HTK := Lib.hid (fun P => HTP.out k P hm hk1 hk8)
          have hk8' : (k : Int) ≤ 8 := by omega
          go_wp2_with fail
          refine HPW.out.mono ?_
          rintro e wa ⟨v, rfl, ho, hb⟩
          have HBA := Lib.hid (bl hbl.out hb)
          have HOA := Lib.hid ho.gridV
          clear ho hb
          cases hP : powS M (k : Int) with
          | none =>
            rw [hP] at HOA
            clear hP
            go_wp2
            go_roundw
            case rel => exact ⟨k + 1, by omega, by omega, by go_num, HBA⟩
            case measure => simp [intOf]; omega
          | some P =>
            rw [hP] at HOA
            have HTRP := Lib.hid (STR.out P v wa (HZP.out _ P hP) HOA.out)
            have HTK2 := Lib.hid (HTK.out P hP)
            clear hP
            go_wp2_with fail
            refine HTRP.out.mono ?_
            rintro e wb ⟨rfl, hw⟩
            obtain rfl : wa = wb := hw.symm
            generalize traceM P = tr at *
            by_cases ht : 0 < tr
            · obtain ⟨hp0, hpd⟩ := HTK2.out ht
              have e1 : ((pm : Int) == 0) = false := by rw [beq_eq_false_iff_ne]; omega
              have e2 : (k : Int) % (pm : Int) = 0 := by
                obtain ⟨q, rfl⟩ := hpd
                rw [Int.natCast_mul]; exact Int.mul_emod_right _ _
              have hpn : ¬ (pm : Int) = 0 := by omega
              clear hpd HTK HTK2
              go_wp2
              go_roundw
              case rel => exact ⟨k + 1, by omega, by omega, by go_num, HBA⟩
              case measure => simp [intOf]; omega
            · have hd0 : decide (0 < tr) = false := decide_eq_false ht
              clear HTK HTK2
              go_wp2
              go_roundw
              case rel => exact ⟨k + 1, by omega, by omega, by go_num, HBA⟩
              case measure => simp [intOf]; omega
        · obtain rfl : k = 9 := by omega
          have htl := HTL.out
          rw [if_pos trivial] at htl
          obtain ⟨hs1, hs2⟩ := HSQ.out hm
          have hs3 := HB0.out hm
          have hmf := HMF.out hm
          have hml := hmf.le
          have hpos := hmf.pos
          have HMR := Lib.hid hmf.row
          obtain ⟨r, hr1, hr2⟩ := HONE.out (by first | rfl | trivial)
          rw [hr1] at HGL
          obtain ⟨bl1, ol1, Ar, cr, rfl, kl1, _, hbl1⟩ := HGL.out.row (k := 0) (by simp)
          rw [show [r].getD 0 [] = r from rfl, hr2, Nat.add_zero] at kl1
          obtain ⟨bt, ot, rfl, hat, hbt⟩ := HGT.out (by rw [htl]; omega)
          have HAT : Hid (∀ j, j < M.length → w6.cell? ⟨bt, ot + j, none⟩ = some (.int .i64 ((turnN M j : Nat) : Int))) := Lib.hid fun j hj => by
            have h := hat j (by omega)
            rw [HTG.out (by first | rfl | trivial) j hj] at h
            exact h
          have HTD2 := Lib.hid (HTD.out (by first | rfl | trivial))
          have hpp := HPP.out (by first | rfl | trivial)
          have hpn : ¬ ((pm : Nat) : Int) = 0 := by omega
          have HKL := Lib.hid kl1
          rw [htl, hr1, show [r].length = 1 from rfl, show ((9 : Nat) : Int) = 9 from rfl]
          clear hat kl1 hmf
          go_wp2
          go_loopw [12] (fun iv w' => ∃ i : Nat, i ≤ M.length ∧ iv = .int .i64 (i : Int) ∧ Hid (Below w6.heap.size w6 w')) (fun iv _ => M.length - (intOf iv).toNat)
          case atStart => exact ⟨0, Nat.zero_le _, rfl, hbl⟩
          case round =>
            obtain ⟨i, hi, rfl, hbl⟩ := hrel
            by_cases hil : i < M.length
            · obtain ⟨W1, rfl⟩ : ∃ W1 : World, W1 = wr := ⟨_, rfl⟩
              go_wp2
              go_loopw [13] (fun jv w' => ∃ j : Nat, j ≤ M.length ∧ jv = .int .i64 (j : Int) ∧ Hid (Below w6.heap.size w6 w')) (fun jv _ => M.length - (intOf jv).toNat)
              case atStart => exact ⟨0, Nat.zero_le _, rfl, hbl⟩
              case round =>
                obtain ⟨j, hj, rfl, hbl⟩ := hrel
                by_cases hjl : j < M.length
                · obtain ⟨p1, p2, p3, p4, p5, rfl, k1, k2, _, _⟩ := (HGM.out.below hbl.out).num hil (j := j) (by rw [HMR.out i hil]; exact hjl)
                  rw [HMR.out i hil] at k1
                  have t1 := (hbl.out.cell (p := ⟨bt, ot + i, none⟩) hbt).trans (HAT.out i hil)
                  have t2 := (hbl.out.cell (p := ⟨bt, ot + j, none⟩) hbt).trans (HAT.out j hjl)
                  have b1 := HTN.out i
                  have b2 := HTN.out j
                  have HBN := Lib.hid hbl.out.drew
                  have HTDI := Lib.hid (HTD2.out i j hil hjl)
                  generalize cellOf M i j = x at *
                  generalize turnN M i = ti at *
                  generalize turnN M j = tj at *
                  by_cases hx : 0 < x
                  · have hmod := HTDI.out hx
                    go_wp2
                    go_region
                    go_wp2
                    go_roundw
                    case rel => exact ⟨j + 1, by omega, by go_num, HBN⟩
                    case measure => simp [intOf]; omega
                  · have hd0 : decide (0 < x) = false := decide_eq_false hx
                    go_wp2
                    go_region
                    go_wp2
                    go_roundw
                    case rel => exact ⟨j + 1, by omega, by go_num, HBN⟩
                    case measure => simp [intOf]; omega
                · obtain rfl : j = M.length := by omega
                  go_wp2
                  go_roundw
                  case rel => exact ⟨i + 1, by omega, by go_num, hbl⟩
                  case measure => simp [intOf]; omega
            · obtain rfl : i = M.length := by omega
              have hposI : (0 : Int) < (M.length : Int) := by omega
              go_wp2_with fail
              refine (II.out _ hbl.out).mono ?_
              rintro e wa ⟨rfl, b⟩
              have HA := Lib.hid (bl hbl.out b)
              clear b
              go_wp2_with fail
              refine (II.out _ HA.out).mono ?_
              rintro e wb ⟨rfl, b⟩
              have HB := Lib.hid (bl HA.out b)
              clear b
              have kl2 := (HB.out.cell (p := ⟨bl1, ol1, none⟩) hbl1).trans HKL.out
              go_wp2_with fail
              refine (IP.out _ HB.out).mono ?_
              rintro e wc ⟨rfl, b⟩
              have HC := Lib.hid (bl HB.out b)
              clear b kl2
              cases hq : (((pm : Nat) : Int) == 1) with
              | true =>
                obtain ⟨h1, h2⟩ := HBI.out hq
                go_wp2
                go_ret
                exact ⟨rfl, bl B6.out HC.out⟩
              | false =>
                have hst : st = 0 := HNP.out hq
                subst hst
                go_wp2
                go_ret
                exact ⟨rfl, bl B6.out HC.out⟩
  · have HG := Lib.hid (big_is a n cp true (by simp; omega) w)
    clear hcode hI
    go_enter Try.func3, Try.ntmps3
    go_wp2_with fail
    refine HG.out.mono ?_
    rintro e w0 ⟨rfl, rfl⟩
    go_wp2
    go_ret
    exact ⟨rfl, Below.refl _ _⟩
end Go.Proofs.Ytjmjcegaomhdcaa
