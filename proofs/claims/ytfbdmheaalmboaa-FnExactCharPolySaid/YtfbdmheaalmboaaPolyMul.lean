/-
  The model's product of polynomials: what the plain words say, in new memory; nothing that was there before is changed.
-/
import Derived.Test.YtfbdmheaalmboaaPolySpec
namespace Go.Proofs.Ytfbdmheaalmboaa
open Go Go.RowKit

/-- A product's numbers so far: all terms of a's numbers below i, and of b's below k there. -/
def partC (a b : List Int) (i k t : Nat) : Int := sumTo i (termC a b t) + (if i ≤ t ∧ t - i < k then a.getD i 0 * b.getD (t - i) 0 else 0)
def partL (a b : List Int) (i k : Nat) : List Int := (List.range (a.length + b.length - 1)).map (partC a b i k)
theorem partL_length (a b : List Int) (i k : Nat) : (partL a b i k).length = a.length + b.length - 1 := by simp [partL]
theorem partL_at (a b : List Int) {i k t : Nat} (ht : t < a.length + b.length - 1) : (partL a b i k).getD t 0 = partC a b i k t := by simp [partL, List.getD, ht]
theorem partL_zero (a b : List Int) : partL a b 0 0 = (List.range (a.length + b.length - 1)).map fun _ => (0 : Int) := by
  unfold partL
  refine List.map_congr_left fun t _ => ?_
  unfold partC
  rw [if_neg (by omega)]; rfl
theorem partL_next (a b : List Int) {i k : Nat} : (partL a b i k).set (i + k) (partC a b i k (i + k) + a.getD i 0 * b.getD k 0) = partL a b i (k + 1) := by
  refine List.ext_getElem (by simp [partL]) fun t h1 h2 => ?_
  rw [List.getElem_set]
  simp only [partL, List.getElem_map, List.getElem_range]
  unfold partC
  by_cases e : i + k = t
  · subst e
    rw [if_pos rfl, if_neg (by omega), if_pos (by omega), Nat.add_sub_cancel_left]
    omega
  · rw [if_neg e]
    by_cases h : i ≤ t ∧ t - i < k
    · rw [if_pos h, if_pos (by omega)]
    · rw [if_neg h, if_neg (by omega)]
theorem partL_row (a b : List Int) (i : Nat) : partL a b i b.length = partL a b (i + 1) 0 := by
  unfold partL
  refine List.map_congr_left fun t _ => ?_
  unfold partC
  rw [if_neg (c := i + 1 ≤ t ∧ t - (i + 1) < 0) (by omega), sumTo, Int.add_zero]
  rfl
theorem partL_all (a b : List Int) : partL a b a.length 0 = convL a b := by
  unfold partL convL
  refine List.map_congr_left fun t _ => ?_
  unfold partC
  rw [if_neg (by omega), Int.add_zero]
theorem mul_abs {x y : Int} {B : Nat} (hx : x.natAbs ≤ B) (hy : y.natAbs ≤ B) : (x * y).natAbs ≤ B * B := by
  rw [Int.natAbs_mul]
  exact Nat.mul_le_mul hx hy
theorem partC_abs {a b : List Int} (ha : ∀ k, (a.getD k 0).natAbs ≤ 1000000) (hb : ∀ k, (b.getD k 0).natAbs ≤ 1000000) {i : Nat} (hi : i ≤ 30) (k t : Nat) : (partC a b i k t).natAbs ≤ 31000000000000 := by
  have h1 : (sumTo i (termC a b t)).natAbs ≤ i * 1000000000000 := sumTo_abs fun j _ => by
    unfold termC
    split
    · exact mul_abs (ha j) (hb (t - j))
    · decide
  have h2 : (if i ≤ t ∧ t - i < k then a.getD i 0 * b.getD (t - i) 0 else 0).natAbs ≤ 1000000000000 := by
    split
    · exact mul_abs (ha i) (hb (t - i))
    · decide
  unfold partC
  omega
/-- When there is no product. -/
theorem mulP_none {a b : List Int} (h : fitsB a 30 = false ∨ fitsB b 30 = false ∨ a = [] ∨ b = []) : mulP a b = [] := by
  unfold mulP
  rw [if_neg]
  rw [Bool.and_eq_true, Bool.and_eq_true, decide_eq_true_iff]
  rintro ⟨⟨h1, h2⟩, h3, h4⟩
  rcases h with h | h | h | h
  · rw [h] at h1; cases h1
  · rw [h] at h2; cases h2
  · exact h3 h
  · exact h4 h

set_option maxRecDepth 100000 in
set_option maxHeartbeats 3200000 in
theorem spec_mulPolys (A1 A2 : Option Addr) (c1 c2 : Nat) (a b : List Int) (hla : a.length ≤ 1048576) (hlb : b.length ≤ 1048576) (w : World) (h1 : RowS w A1 a) (h2 : RowS w A2 b) :
    Calls Try.prog 25 #[.slice A1 a.length c1, .slice A2 b.length c2] w (NewA (mulP a b) w) := by
  obtain ⟨i0, hi0, hz0, hz1, hz2⟩ := info_parts infoInt
  have H1 := Lib.hid h1
  have H2 := Lib.hid h2
  have HF1 := Lib.hid (spec_fits A1 c1 a 30 (by omega) w h1)
  have HF2 := Lib.hid (spec_fits A2 c2 b 30 (by omega) w h2)
  have HN := Lib.hid (emptyA (B := w.heap.size) (w := w) (Nat.le_refl _))
  clear h1 h2
  cases hf1 : fitsB a 30 with
  | false =>
    have HE := Lib.hid (mulP_none (b := b) (Or.inl hf1))
    rw [hf1] at HF1
    clear hf1
    go_enter Try.func25, Try.ntmps25
    go_wp2_with fail
    refine HF1.out.mono ?_
    rintro e w1 ⟨rfl, rfl⟩
    go_wp2
    go_ret
    exact ⟨_, rfl, by rw [HE.out]; exact HN.out, below_new⟩
  | true =>
    cases hf2 : fitsB b 30 with
    | false =>
      have HE := Lib.hid (mulP_none (a := a) (Or.inr (Or.inl hf2)))
      rw [hf1] at HF1
      rw [hf2] at HF2
      clear hf1 hf2
      go_enter Try.func25, Try.ntmps25
      go_wp2_with fail
      refine HF1.out.mono ?_
      rintro e w1 ⟨rfl, rfl⟩
      go_wp2_with fail
      refine HF2.out.mono ?_
      rintro e w2 ⟨rfl, rfl⟩
      go_wp2
      go_ret
      exact ⟨_, rfl, by rw [HE.out]; exact HN.out, below_new⟩
    | true =>
      obtain ⟨hla30, haa⟩ := fits_at hf1
      obtain ⟨hlb30, hab⟩ := fits_at hf2
      by_cases ha0 : a.length = 0
      · have HE := Lib.hid (mulP_none (b := b) (Or.inr (Or.inr (Or.inl (List.eq_nil_of_length_eq_zero ha0)))))
        rw [hf1] at HF1
        rw [hf2] at HF2
        rw [ha0] at HF1 ⊢
        clear hf1 hf2
        go_enter Try.func25, Try.ntmps25
        go_wp2_with fail
        refine HF1.out.mono ?_
        rintro e w1 ⟨rfl, rfl⟩
        go_wp2_with fail
        refine HF2.out.mono ?_
        rintro e w2 ⟨rfl, rfl⟩
        go_wp2
        go_ret
        exact ⟨_, rfl, by rw [HE.out]; exact HN.out, below_new⟩
      · by_cases hb0 : b.length = 0
        · have HE := Lib.hid (mulP_none (a := a) (Or.inr (Or.inr (Or.inr (List.eq_nil_of_length_eq_zero hb0)))))
          rw [hf1] at HF1
          rw [hf2] at HF2
          rw [hb0] at HF2 ⊢
          have hne : ((a.length : Int) == 0) = false := by rw [beq_eq_false_iff_ne]; omega
          clear hf1 hf2
          go_enter Try.func25, Try.ntmps25
          go_wp2_with fail
          refine HF1.out.mono ?_
          rintro e w1 ⟨rfl, rfl⟩
          go_wp2_with fail
          refine HF2.out.mono ?_
          rintro e w2 ⟨rfl, rfl⟩
          go_wp2
          go_ret
          exact ⟨_, rfl, by rw [HE.out]; exact HN.out, below_new⟩
        · have HE : Hid (mulP a b = cutL (convL a b)) := Lib.hid (by
            unfold mulP
            rw [hf1, hf2, if_pos]
            rw [Bool.and_eq_true, decide_eq_true_iff]
            exact ⟨rfl, fun h => ha0 (by rw [h]; rfl), fun h => hb0 (by rw [h]; rfl)⟩)
          rw [hf1] at HF1
          rw [hf2] at HF2
          have hne1 : ((a.length : Int) == 0) = false := by rw [beq_eq_false_iff_ne]; omega
          have hne2 : ((b.length : Int) == 0) = false := by rw [beq_eq_false_iff_ne]; omega
          have HAA := Lib.hid haa
          have HAB := Lib.hid hab
          clear hf1 hf2 haa hab HN
          obtain ⟨N, hN⟩ : ∃ N, a.length + b.length - 1 = N := ⟨_, rfl⟩
          have hNi : (a.length : Int) + (b.length : Int) - 1 = (N : Int) := by omega
          go_enter Try.func25, Try.ntmps25
          go_wp2_with fail
          refine HF1.out.mono ?_
          rintro e w1 ⟨rfl, rfl⟩
          go_wp2_with fail
          refine HF2.out.mono ?_
          rintro e w2 ⟨rfl, rfl⟩
          go_wp2_with (at_make; refine wpList_make_full _ rfl _ _ 29 rfl w2.heap.size 3 i0 (.int .i64 0) 1 Try.underlying29 hi0 hz0 hz1 .i64 .i64 _ _ N rfl rfl rfl rfl (by rw [hz2]; omega) (by unfold maxLen; omega) (Nat.le_refl _) ?_; intro w1 hown hgrow)
          have ho0 := made_ints hown
          have hbel : Below w2.heap.size w2 w1 := (Below.refl _ _).grown hgrow (Nat.le_refl _) (fun k hk => by cases hk)
          have hpz : (List.range N).map (fun _ => (0 : Int)) = partL a b 0 0 := by rw [partL_zero, hN]
          rw [hpz] at ho0
          have HO := Lib.hid ho0
          have HB := Lib.hid hbel
          have HLEN : Hid (∀ i k, (partL a b i k).length = N) := Lib.hid fun i k => by rw [partL_length, hN]
          clear hown hgrow hbel ho0 hpz
          go_loopw [6] (fun iv wr => ∃ i : Nat, i ≤ a.length ∧ iv = .int .i64 (i : Int) ∧ wr.ownsRow w2.heap.size 3 1 (.slice (some ⟨w2.heap.size, 0, none⟩) N N) N ((partL a b i 0).map (Value.int .i64)) ∧ Below w2.heap.size w2 wr) (fun iv _ => a.length - (intOf iv).toNat)
          case atStart => exact ⟨0, Nat.zero_le _, rfl, HO.out, HB.out⟩
          case round =>
            obtain ⟨i, hi, rfl, hO, hbl⟩ := hrel
            by_cases hil : i < a.length
            · have HO1 := Lib.hid hO
              have HB1 := Lib.hid hbl
              clear hO hbl
              obtain ⟨W1, rfl⟩ : ∃ W1 : World, W1 = wr := ⟨_, rfl⟩
              go_wp2
              go_loopw [7] (fun kv wr => ∃ k : Nat, k ≤ b.length ∧ kv = .int .i64 (k : Int) ∧ wr.ownsRow w2.heap.size 3 1 (.slice (some ⟨w2.heap.size, 0, none⟩) N N) N ((partL a b i k).map (Value.int .i64)) ∧ Below w2.heap.size w2 wr) (fun kv _ => b.length - (intOf kv).toNat)
              case atStart => exact ⟨0, Nat.zero_le _, rfl, HO1.out, HB1.out⟩
              case round =>
                obtain ⟨k, hk, rfl, hO, hbl⟩ := hrel
                by_cases hkl : k < b.length
                · have hik : i + k < N := by omega
                  have hll := HLEN.out i k
                  have kc := (hO.cellAt (i + k) (by omega)).trans (show ((partL a b i k).map (Value.int .i64))[i + k]? = some (Value.int .i64 ((partL a b i k).getD (i + k) 0)) by rw [List.getElem?_map, List.getElem?_eq_getElem (by omega), List.getD_eq_getElem?_getD, List.getElem?_eq_getElem (by omega)]; rfl)
                  rw [partL_at a b (by omega)] at kc
                  have kf := hO.frozenAt (i + k)
                  have hst := (hO.stored (i + k) (.int .i64 (partC a b i k (i + k) + a.getD i 0 * b.getD k 0))).1
                  rw [← List.map_set, partL_next] at hst
                  obtain ⟨p1, o1, rfl, ka, pb1⟩ := H1.out.numR hil
                  obtain ⟨p2, o2, rfl, kb, pb2⟩ := H2.out.numR hkl
                  have ka1 := (hbl.cell (p := ⟨p1, o1 + i, none⟩) pb1).trans ka
                  have kb1 := (hbl.cell (p := ⟨p2, o2 + k, none⟩) pb2).trans kb
                  have hT := partC_abs HAA.out HAB.out (i := i) (by omega) k (i + k)
                  have hxy := mul_abs (HAA.out i) (HAB.out k)
                  have HS := Lib.hid hst
                  have HBN : Hid (Below w2.heap.size w2 (wr.setCell ⟨w2.heap.size, i + k, none⟩ (.int .i64 (partC a b i k (i + k) + a.getD i 0 * b.getD k 0)))) := Lib.hid (hbl.setCell (Nat.le_refl _) _)
                  clear hO hbl hst ka kb hll
                  generalize partC a b i k (i + k) = T at *
                  generalize a.getD i 0 = x at *
                  generalize b.getD k 0 = y at *
                  have hT1 : -31000000000000 ≤ T ∧ T ≤ 31000000000000 := by omega
                  have hxy1 : -1000000000000 ≤ x * y ∧ x * y ≤ 1000000000000 := by omega
                  obtain ⟨hTa, hTb⟩ := hT1
                  obtain ⟨hxa, hxb⟩ := hxy1
                  clear hT hxy
                  go_wp2
                  go_region
                  go_wp2
                  go_roundw
                  case rel => exact ⟨k + 1, by omega, by go_num, HS.out.drew, (HBN.out).drew⟩
                  case measure => simp [intOf]; omega
                · obtain rfl : k = b.length := by omega
                  rw [partL_row] at hO
                  have HO3 := Lib.hid hO
                  clear hO
                  go_wp2
                  go_roundw
                  case rel => exact ⟨i + 1, by omega, by go_num, HO3.out, hbl⟩
                  case measure => simp [intOf]; omega
            · obtain rfl : i = a.length := by omega
              rw [partL_all] at hO
              have hcl : (convL a b).length = N := by rw [← partL_all, HLEN.out]
              have hOA : OwnA wr w2.heap.size (.slice (some ⟨w2.heap.size, 0, none⟩) (convL a b).length N) (convL a b) := by unfold OwnA; rw [hcl]; exact hO
              have HC := Lib.hid (spec_cut w2.heap.size w2.heap.size N (convL a b) (by omega) (by omega) wr hOA)
              rw [hcl] at HC
              have HBL := Lib.hid hbl
              clear hO hOA hbl
              go_wp2_with fail
              refine HC.out.mono ?_
              rintro e w5 ⟨v, rfl, hv, b5⟩
              have HV := Lib.hid hv
              have HB5 := Lib.hid b5
              clear hv b5
              go_wp2
              go_ret
              exact ⟨v, rfl, by rw [HE.out]; exact HV.out.mono HBL.out.size, HBL.out.trans (HB5.out.mono HBL.out.size)⟩
end Go.Proofs.Ytfbdmheaalmboaa
