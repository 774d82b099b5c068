/-
  The model's sums of principal minors of a small matrix: what the plain words say; nothing that was there before is changed.
-/
import Derived.Test.YtfbdmheaalmboaaDetLaw0
import Derived.Test.YtfbdmheaalmboaaGraphTrim
namespace Go.Proofs.Ytfbdmheaalmboaa
open Go Go.RowKit

/-- The vertices below i of which the bits are set. -/
def bitsTo (s i : Nat) : List Int := ((List.range i).filter fun j => s.testBit j).map fun (j : Nat) => (j : Int)
theorem bitsTo_next (s i : Nat) : bitsTo s (i + 1) = if s.testBit i = true then bitsTo s i ++ [(i : Int)] else bitsTo s i := by
  unfold bitsTo
  rw [List.range_succ, List.filter_append, List.map_append]
  by_cases h : s.testBit i = true
  · rw [if_pos h]
    simp only [List.filter_cons, List.filter_nil, h, if_true]; rfl
  · rw [if_neg h]
    simp only [List.filter_cons, List.filter_nil, if_neg h, List.map_nil, List.append_nil]
theorem bitsTo_all (s n : Nat) : bitsTo s n = (bitsL n s).map fun (j : Nat) => (j : Int) := rfl
theorem bitsTo_len (s i : Nat) : (bitsTo s i).length ≤ i := by
  unfold bitsTo
  rw [List.length_map]
  exact Nat.le_trans (List.length_filter_le _ _) (by simp)
theorem and_i64 (a b : Nat) (ha : a < 65536) (hb : b < 65536) : bits .and .i64 (a : Int) (b : Int) = ((a &&& b : Nat) : Int) := by
  have h2 : a &&& b < 65536 := Nat.lt_of_le_of_lt Nat.and_le_left ha
  have h : (BitVec.ofInt IntKind.i64.bits (a : Int) &&& BitVec.ofInt IntKind.i64.bits (b : Int)).toNat = a &&& b := by
    rw [BitVec.toNat_and, BitVec.toNat_ofInt, BitVec.toNat_ofInt]
    have e1 : ((a : Int) % ((2 ^ IntKind.i64.bits : Nat) : Int)).toNat = a := by
      show ((a : Int) % (18446744073709551616 : Int)).toNat = a
      omega
    have e2 : ((b : Int) % ((2 ^ IntKind.i64.bits : Nat) : Int)).toNat = b := by
      show ((b : Int) % (18446744073709551616 : Int)).toNat = b
      omega
    rw [e1, e2]
  simp only [bits]
  rw [h, IntKind.wrap_i64]
  omega
theorem has_bit64 (p n : Nat) (hp : p < 65536) : (bits .and .i64 ((p : Int) / 2 ^ n) 1 == 1) = p.testBit n := by
  have hs : (p : Int) / 2 ^ n = ((p >>> n : Nat) : Int) := by rw [Nat.shiftRight_eq_div_pow]; simp
  have h1 : p >>> n < 65536 := by rw [Nat.shiftRight_eq_div_pow]; exact Nat.lt_of_le_of_lt (Nat.div_le_self _ _) hp
  rw [hs, show (1 : Int) = ((1 : Nat) : Int) from rfl, and_i64 _ _ h1 (by decide), Nat.testBit, Nat.and_comm]
  have h2 : 1 &&& p >>> n = (p >>> n) % 2 := by rw [Nat.and_comm]; exact Nat.and_one_is_mod _
  rw [h2]
  rcases Nat.mod_two_eq_zero_or_one (p >>> n) with e | e <;> rw [e] <;> rfl
theorem detB_le9 {n : Nat} (h : n ≤ 4) : detB 9 n ≤ 200000 := by
  have hn : n = 0 ∨ n = 1 ∨ n = 2 ∨ n = 3 ∨ n = 4 := by omega
  rcases hn with rfl | rfl | rfl | rfl | rfl <;> decide
/-- The part's determinant is the minor. -/
theorem minor_is (m : List (List Int)) (n s : Nat) : detF (bitsTo s n).length (cellOf (partM m (bitsTo s n))) = minorF m (bitsL n s) := by
  have hl : (bitsTo s n).length = (bitsL n s).length := by rw [bitsTo_all, List.length_map]
  unfold minorF
  rw [hl]
  refine detF_congr fun a b ha hb => ?_
  rw [partM_as, tabOf_cell (by omega) (by omega)]
  have e : ∀ c, c < (bitsL n s).length → ((bitsTo s n).getD c 0).toNat = (bitsL n s).getD c 0 := fun c hc => by
    rw [bitsTo_all, List.getD_eq_getElem?_getD, List.getElem?_map, List.getD_eq_getElem?_getD, List.getElem?_eq_getElem hc]; rfl
  unfold partF
  rw [e a ha, e b hb]
theorem bitsTo_in (s n : Nat) : ∀ k, k < (bitsTo s n).length → 0 ≤ (bitsTo s n).getD k 0 ∧ (bitsTo s n).getD k 0 < (n : Int) := fun k hk => by
  have hk' : k < (bitsL n s).length := by rw [bitsTo_all, List.length_map] at hk; exact hk
  rw [bitsTo_all, List.getD_eq_getElem?_getD, List.getElem?_map, List.getElem?_eq_getElem hk']
  have := bitsL_mem (List.getElem_mem hk')
  simp only [Option.map_some, Option.getD_some]
  omega
/-- The sum so far. -/
def minTo (m : List (List Int)) (size k : Nat) : Int := sumTo k fun s => if (bitsL m.length s).length = size then minorF m (bitsL m.length s) else 0

set_option maxRecDepth 100000 in
set_option maxHeartbeats 1000000 in
theorem spec_minors (A : Option Addr) (c : Nat) (m : List (List Int)) (hm : smallM m = true) (size : Nat) (hs : size ≤ 4) (w : World) (hg : GridC w A m) :
    Calls Try.prog 40 #[.slice A m.length c, .int .i64 (size : Int)] w (Scalar (.int .i64 (minorsN m size)) w) := by
  obtain ⟨j0, hj0, hy0, hy1, hy2⟩ := info_parts infoInt
  obtain ⟨h1, h2, h3⟩ := small_facts hm
  have hend : minorsN m size = minTo m size (2 ^ m.length) := rfl
  rw [hend]
  have HF := Lib.hid (isMat_facts h1)
  have HC := Lib.hid hg
  obtain ⟨N, hNe⟩ : ∃ N, 2 ^ m.length = N := ⟨_, rfl⟩
  have hN16 : N ≤ 16 := by rw [← hNe]; exact Nat.pow_le_pow_right (n := 2) (by decide) h2
  have hN : wrap64 ((2 : Int) ^ m.length) = (N : Int) := by
    rw [show (2 : Int) ^ m.length = ((2 ^ m.length : Nat) : Int) by simp, hNe]
    unfold wrap64; omega
  have HN0 : Hid (minTo m size (2 ^ m.length) = minTo m size N) := Lib.hid (by rw [hNe])
  rw [HN0.out]
  have HCELL : Hid (∀ i j, i < m.length → j < m.length → (cellOf m i j).natAbs ≤ 10000) := Lib.hid fun i j hi hj => by have := h3 i j hi hj; omega
  have HMB : Hid (∀ k, (minorF m (bitsL m.length k)).natAbs ≤ 200000) := Lib.hid fun k => by
    have hb := bitsL_len m.length k
    have hd := detF_abs (B := 9) (n := (bitsL m.length k).length) (f := fun a b => cellOf m ((bitsL m.length k).getD a 0) ((bitsL m.length k).getD b 0)) fun a b ha hb => by have := h3 _ _ (bitsL_at ha) (bitsL_at hb); omega
    exact Nat.le_trans hd (detB_le9 (by omega))
  have HSB : Hid (∀ k, (minTo m size k).natAbs ≤ k * 200000) := Lib.hid fun k => sumTo_abs fun s _ => by
    split
    · exact HMB.out s
    · decide
  have HPL : Hid (∀ l, (partM m l).length = l.length) := Lib.hid fun l => by rw [partM_as, tabOf_length]
  clear hg hm h3 h1 hend
  go_enter Try.func40, Try.ntmps40
  go_wp2
  go_loopw [5, 6] (fun sv kv wr => ∃ k : Nat, k ≤ N ∧ kv = .int .i64 (k : Int) ∧ sv = .int .i64 (minTo m size k) ∧ Below w.heap.size w wr) (fun _ kv _ => N - (intOf kv).toNat)
  case atStart => exact ⟨0, Nat.zero_le _, rfl, rfl, Below.refl _ _⟩
  case round =>
    obtain ⟨k, hk, rfl, rfl, hbl⟩ := hrel
    obtain ⟨S, HS0⟩ : ∃ S, Hid (minTo m size k = S) := ⟨_, Lib.hid rfl⟩
    rw [HS0.out]
    by_cases hlt : k < N
    · obtain ⟨W0, rfl⟩ : ∃ W0 : World, W0 = wr := ⟨_, rfl⟩
      have HB1 : Hid (Below W0.heap.size W0 (W0.alloc (.cells #[] 3))) := Lib.hid below_new
      have HE := Lib.hid (emptyA (B := W0.heap.size) (w := W0) (Nat.le_refl _))
      have HBL := Lib.hid hbl
      clear hbl
      go_wp2
      rw [hN]
      go_loopw [7, 8] (fun u iv w4 => ∃ i : Nat, i ≤ m.length ∧ iv = .int .i64 (i : Int) ∧ w4.ownsRow W0.heap.size 3 1 u (bitsTo k i).length ((bitsTo k i).map (Value.int .i64)) ∧ Hid (Below W0.heap.size W0 w4)) (fun _ iv _ => m.length - (intOf iv).toNat)
      case atStart => exact ⟨0, Nat.zero_le _, rfl, HE.out, HB1⟩
      case round =>
        obtain ⟨i, hi, rfl, hU, hb4⟩ := hrel
        by_cases hil : i < m.length
        · have HU := Lib.hid hU
          have hs4 := hb4.out.size
          have hcl := bitsTo_len k i
          have HNX := Lib.hid (bitsTo_next k i)
          clear hU
          cases hbt : k.testBit i with
          | false =>
            have hbit : (bits .and .i64 ((k : Int) / 2 ^ i) 1 == 1) = false := by rw [has_bit64 k i (by omega)]; exact hbt
            have HNX2 : Hid (bitsTo k (i + 1) = bitsTo k i) := Lib.hid (by rw [HNX.out, hbt]; rfl)
            clear hbt
            go_wp2
            go_roundw
            case rel => exact ⟨i + 1, by omega, by go_num, by rw [HNX2.out]; exact HU.out, hb4⟩
            case measure => simp [intOf]; omega
          | true =>
            have hbit : (bits .and .i64 ((k : Int) / 2 ^ i) 1 == 1) = true := by rw [has_bit64 k i (by omega)]; exact hbt
            have HNX2 : Hid (bitsTo k (i + 1) = bitsTo k i ++ [(i : Int)]) := Lib.hid (by rw [HNX.out, hbt]; rfl)
            clear hbt HNX
            obtain ⟨Y, HY⟩ : ∃ Y, Hid (bitsTo k (i + 1) = Y) := ⟨_, Lib.hid rfl⟩
            rw [HY.out] at HNX2
            generalize bitsTo k i = X at *
            have HMAP : Hid (X.map (Value.int .i64) ++ [.int .i64 (i : Int)] = Y.map (Value.int .i64)) := Lib.hid (by rw [HNX2.out, List.map_append]; rfl)
            have HLEN : Hid (X.length + 1 = Y.length) := Lib.hid (by rw [HNX2.out, List.length_append]; rfl)
            go_wp2_with (at_builtin; refine wpList_append_lies _ rfl (.tmp 30) (.tmp 32) 29 rfl W0.heap.size 3 j0 (.int .i64 0) 1 8 Try.underlying29 hj0 hy0 hy1 hy2 rfl (by decide) _ _ _ rfl (HU.out.alloc _) ⟨wr.heap.size, 0, none⟩ 1 1 [.int .i64 (i : Int)] rfl rfl (World.news_of_block (cs := #[.int .i64 (i : Int)]) (t := 3) (fr := (0, 0)) (heap_alloc_new wr _)) (by simp [Value.oneCell']) (by decide) (by unfold maxLen; omega) (by omega) (by simp; omega) (wr.heap.size + 1) (by simp) ?_; intro gg cap w6 ho6 hg6 hat6 hlt6; rw [HMAP.out] at ho6; have HM := Lib.hid ho6; have HB6 := Lib.hid ((hb4.out.alloc hs4 _).grown hg6 (by simp; omega) fun q hq => (HU.out.lt q hq).1); clear ho6 hg6 hat6)
            go_roundw
            case rel => exact ⟨i + 1, by omega, by go_num, by rw [HY.out, ← HLEN.out]; exact HM.out, HB6⟩
            case measure => simp [intOf]; omega
        · obtain rfl : i = m.length := by omega
          have hs4 := hb4.out.size
          have hw0 := HBL.out.size
          have hll := bitsTo_len k m.length
          have hlb : (bitsTo k m.length).length = (bitsL m.length k).length := by rw [bitsTo_all, List.length_map]
          have HB4 := Lib.hid (HBL.out.trans (hb4.out.mono hw0))
          obtain ⟨Al, cl, hu, hrs⟩ := rowS_of_owns hU
          subst hu
          have HIN := Lib.hid (bitsTo_in k m.length)
          have HRS := Lib.hid hrs
          have HPA := Lib.hid (spec_part A c m HF.out Al cl (bitsTo k m.length) (by omega) HIN.out wr (HC.out.gridS.below HB4.out) hrs)
          have hpl : (partM m (bitsTo k m.length)).length = (bitsTo k m.length).length := by rw [partM_as, tabOf_length]
          have HDE : Hid (∀ (A' : Option Addr) (c' : Nat) (w' : World), GridC w' A' (partM m (bitsTo k m.length)) → Calls Try.prog 37 #[.slice A' (bitsTo k m.length).length c'] w' (Scalar (.int .i64 (minorF m (bitsL m.length k))) w')) := Lib.hid fun A' c' w' hg' => by
            have h := spec_det (bitsTo k m.length).length (by omega) A' c' (partM m (bitsTo k m.length)) hpl (fun i hi => by rw [partM_as, tabOf_row hi]; simp) (fun a b ha hb => by
              rw [partM_as, tabOf_cell ha hb]
              have hv1 := HIN.out a ha
              have hv2 := HIN.out b hb
              have := HCELL.out ((bitsTo k m.length).getD a 0).toNat ((bitsTo k m.length).getD b 0).toNat (by omega) (by omega)
              unfold partF
              omega) w' hg'
            rwa [minor_is] at h
          have HNX : Hid (minTo m size (k + 1) = S + if (bitsTo k m.length).length = size then minorF m (bitsL m.length k) else 0) := Lib.hid (by rw [hlb, ← HS0.out]; rfl)
          have hmb := HMB.out k
          have hms := HSB.out k
          rw [HS0.out] at hms
          generalize hXl : (bitsTo k m.length).length = L at *
          clear hU hrs hlb hpl
          by_cases hL : L = size
          · have HNX2 : Hid (minTo m size (k + 1) = S + minorF m (bitsL m.length k)) := Lib.hid (by rw [HNX.out, if_pos hL])
            generalize minorF m (bitsL m.length k) = d at *
            have hbe : ((L : Int) == (size : Int)) = true := by rw [beq_iff_eq]; omega
            have hda : -200000 ≤ d := by omega
            have hdb : d ≤ 200000 := by omega
            have hSa : -4000000 ≤ S := by omega
            have hSb : S ≤ 4000000 := by omega
            clear hmb hms
            subst hL
            go_wp2_with fail
            refine HPA.out.mono ?_
            rintro e w5 ⟨v5, rfl, ho5, hb5⟩
            obtain ⟨A5, c5, rfl, hg5⟩ := ho5.gridC
            have HD5 := Lib.hid (HDE.out A5 c5 w5 hg5)
            have HB5 := Lib.hid hb5
            rw [HPL.out, hXl]
            clear ho5 hg5 hb5
            go_wp2_with fail
            refine HD5.out.mono ?_
            rintro e w6 ⟨rfl, hb6⟩
            go_wp2
            go_roundw
            case rel => exact ⟨k + 1, by omega, by go_num, by rw [HNX2.out], HB4.out.trans ((HB5.out.trans (hb6.mono HB5.out.size)).mono HB4.out.size)⟩
            case measure => simp [intOf]; omega
          · have HNX2 : Hid (minTo m size (k + 1) = S) := Lib.hid (by rw [HNX.out, if_neg hL, Int.add_zero])
            have hbe : ((L : Int) == (size : Int)) = false := by rw [beq_eq_false_iff_ne]; omega
            go_wp2
            go_roundw
            case rel => exact ⟨k + 1, by omega, by go_num, by rw [HNX2.out], HB4.out⟩
            case measure => simp [intOf]; omega
    · obtain rfl : k = N := by omega
      go_wp2
      go_ret
      exact ⟨by rw [HS0.out]; rfl, hbl⟩
end Go.Proofs.Ytfbdmheaalmboaa
