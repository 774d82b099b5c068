/-
  The model's determinants: a table without its first row and a column; a determinant, by its first row; nothing that was there before is changed.
-/
import Derived.Test.YtanelokploifhaaPolySpec
import Derived.Test.YtanelokploifhaaGridRoom
namespace Go.Proofs.Ytanelokploifhaa
open Go Go.RowKit

/-! ### Without the first row and a column -/
def lessRow (r : List Int) (j : Nat) : List Int := r.take j ++ r.drop (j + 1)
theorem lessRow_is {r : List Int} {n j : Nat} (hr : r.length = n + 1) (hj : j ≤ n) : lessRow r j = (List.range n).map fun b => r.getD (if b < j then b else b + 1) 0 := by
  refine List.ext_getElem (by simp [lessRow]; omega) fun t h1 h2 => ?_
  simp only [lessRow, List.getElem_map, List.getElem_range, List.getD_eq_getElem?_getD]
  have hl : (r.take j).length = j := by rw [List.length_take]; omega
  have ht : t < n := by simpa using h2
  by_cases h : t < j
  · rw [if_pos h, List.getElem_append_left (by omega), List.getElem_take, List.getElem?_eq_getElem (by omega)]; rfl
  · rw [if_neg h, List.getElem_append_right (by omega), List.getElem_drop, List.getElem?_eq_getElem (by omega), Option.getD_some]
    congr 1
    omega
def lessM (t : List (List Int)) (n j k : Nat) : List (List Int) := tabOf (k - 1) n (lessF (cellOf t) j)
theorem lessM_next {t : List (List Int)} {n j k : Nat} (hr : (t.getD (k + 1) []).length = n + 1) (hj : j ≤ n) : lessM t n j (k + 2) = lessM t n j (k + 1) ++ [lessRow (t.getD (k + 1) []) j] := by
  unfold lessM
  rw [show k + 2 - 1 = (k + 1 - 1) + 1 by omega, tabOf_next, lessRow_is hr hj]
  rfl
theorem ints_part {w : World} {b off : Nat} {r : List Int} (h : IntsAt w b off r) (lo k : Nat) : ∀ j u, (((r.drop lo).take k).map (Value.int .i64))[j]? = some u → w.cell? ((⟨b, off + lo, none⟩ : Addr).add j) = some u := by
  intro j u hu
  rw [List.getElem?_map] at hu
  obtain ⟨x, hx, rfl⟩ := Option.map_eq_some_iff.1 hu
  rw [List.getElem?_take] at hx
  split at hx
  · rw [List.getElem?_drop] at hx
    have hj := (List.getElem?_eq_some_iff.1 hx).1
    have hc := h (lo + j) hj
    rw [List.getD_eq_getElem?_getD, hx] at hc
    rw [show (⟨b, off + lo, none⟩ : Addr).add j = ⟨b, off + (lo + j), none⟩ by unfold Addr.add; split <;> simp_all <;> omega, hc]; rfl
  · cases hx

theorem own_less {w : World} {B j : Nat} {v : Value} {r : List Int} {m : Nat} (h : w.ownsRow B 3 1 v (j + m) ((r.take j).map (Value.int .i64) ++ (r.drop (j + 1)).map (Value.int .i64))) : w.ownsRow B 3 1 v (lessRow r j).length ((lessRow r j).map (Value.int .i64)) := by
  have hl := h.1
  rw [List.length_append, List.length_map, List.length_map, List.length_take, List.length_drop] at hl
  have e : (lessRow r j).length = j + m := by
    unfold lessRow
    rw [List.length_append, List.length_take, List.length_drop]
    omega
  rw [e]
  unfold lessRow
  rw [List.map_append]
  exact h

set_option maxRecDepth 100000 in
set_option maxHeartbeats 3200000 in
theorem spec_minor (A : Option Addr) (c : Nat) (t : List (List Int)) (n : Nat) (hn : n ≤ 3) (hl : t.length = n + 1) (hr : ∀ i, i < n + 1 → (t.getD i []).length = n + 1) (j : Nat) (hj : j ≤ n) (w : World) (hg : GridC w A t) :
    Calls Try.prog 58 #[.slice A (n + 1) c, .int .i64 0, .int .i64 (j : Int)] w (NewG (tabOf n n (lessF (cellOf t) j)) w) := by
  obtain ⟨i0, hi, hz0, hz1, hz2⟩ := info_parts infoSl
  obtain ⟨j0, hj0, hy0, hy1, hy2⟩ := info_parts infoInt
  have HG := Lib.hid hg
  have HR := Lib.hid hr
  have HL := Lib.hid hl
  have HB0 : Hid (Below w.heap.size w (w.alloc (.cells #[] 34))) := Lib.hid below_new
  have HE : Hid ((w.alloc (.cells #[] 34)).ownsRow w.heap.size 34 1 (.slice (some ⟨w.heap.size, 0, none⟩) 0 0) 0 []) := Lib.hid (World.ownsRow_made (base := w.heap.size) (e := 34) (size := 1) w #[] 0 (Nat.le_refl _) (by unfold maxLen; omega) rfl)
  have hend : tabOf n n (lessF (cellOf t) j) = lessM t n j (n + 1) := rfl
  rw [hend]
  clear hg hr hl hend
  go_enter Try.func58, Try.ntmps58
  go_wp2
  go_loopw [7, 8] (fun v iv wr => ∃ (k : Nat) (vs : List Value), k ≤ n + 1 ∧ iv = .int .i64 (k : Int) ∧ wr.ownsRow w.heap.size 34 1 v (lessM t n j k).length vs ∧ RowsOwn wr w.heap.size v.ownBlock vs (lessM t n j k) ∧ Hid (Below w.heap.size w wr)) (fun _ iv _ => n + 1 - (intOf iv).toNat)
  case atStart => exact ⟨0, [], Nat.zero_le _, rfl, HE.out, RowsOwn.nil _ _ _, HB0⟩
  case round =>
    obtain ⟨k, vs, hk, rfl, hO, hR, hbl⟩ := hrel
    obtain ⟨W0, rfl⟩ : ∃ W0 : World, W0 = wr := ⟨_, rfl⟩
    by_cases hlt : k < n + 1
    · cases k with
      | zero =>
        have HO := Lib.hid hO
        have HRW := Lib.hid hR
        clear hO hR
        go_wp2
        go_roundw
        case rel => exact ⟨1, vs, by omega, by go_num, HO.out, HRW.out, hbl⟩
        case measure => simp [intOf]
      | succ k =>
        have hrk := HR.out (k + 1) hlt
        have HNX := Lib.hid (lessM_next (t := t) (n := n) (j := j) (k := k) hrk hj)
        have hml : (lessM t n j (k + 1)).length = k := by unfold lessM; rw [tabOf_length]; omega
        obtain ⟨b, off, b2, off2, c2, rfl, k1, hat, hc2, hb1, hb2⟩ := HG.out.row (k := k + 1) (by rw [HL.out]; exact hlt) (by omega)
        rw [hrk] at k1 hc2
        have HAT := Lib.hid hat
        have HO := Lib.hid hO
        have HRW := Lib.hid hR
        have hw := hbl.out.size
        have k2 := (hbl.out.cell (p := ⟨b, off + (k + 1), none⟩) hb1).trans k1
        have HB1 : Hid (Below W0.heap.size W0 (W0.alloc (.cells #[] 3))) := Lib.hid below_new
        have HN := Lib.hid (emptyA (B := W0.heap.size) (w := W0) (Nat.le_refl _))
        have hb1' : b < W0.heap.size := by omega
        have hb2' : b2 < W0.heap.size := by omega
        clear hO hR hat k1
        have HML2 : Hid ((lessM t n j (k + 2)).length = k + 1) := Lib.hid (by unfold lessM; rw [tabOf_length]; omega)
        have hne : ((k : Int) + 1 == 0) = false := by rw [beq_eq_false_iff_ne]; omega
        obtain ⟨r, hrr⟩ : ∃ r, t.getD (k + 1) [] = r := ⟨_, rfl⟩
        rw [hrr] at HNX HAT hrk
        clear hrr
        have HC1 : Hid (∀ w', Below W0.heap.size W0 w' → ∀ i u, ((r.take j).map (Value.int .i64))[i]? = some u → w'.cell? ((⟨b2, off2, none⟩ : Addr).add i) = some u) := Lib.hid fun w' hb => ints_part ((HAT.out.below hbl.out hb2).below hb hb2') 0 j
        have HLX : Hid (r.length = n + 1) := Lib.hid hrk
        have HC2 : Hid (∀ w', Below W0.heap.size W0 w' → ∀ i u, ((r.drop (j + 1)).map (Value.int .i64))[i]? = some u → w'.cell? ((⟨b2, off2 + (j + 1), none⟩ : Addr).add i) = some u) := Lib.hid fun w' hb => by
          have h := ints_part ((HAT.out.below hbl.out hb2).below hb hb2') (j + 1) (n - j)
          rwa [List.take_of_length_le (by rw [List.length_drop]; omega)] at h
        have HL1 : Hid ((r.take j).length = j) := Lib.hid (by rw [List.length_take]; omega)
        have HL2 : Hid ((r.drop (j + 1)).length = n - j) := Lib.hid (by rw [List.length_drop]; omega)
        by_cases hcap : c2 = j + 1
        · subst hcap
          obtain rfl : n = j := by omega
          go_wp2_with (first | (at_builtin; refine wpList_append_own _ rfl (.tmp 20) (.tmp 26) 34 rfl W0.heap.size 3 j0 (.int .i64 0) 1 8 Try.underlying34 hj0 hy0 hy1 hy2 rfl (by decide) _ _ _ rfl HN.out ⟨b2, off2, none⟩ _ _ ((r.take n).map (.int .i64)) rfl (by rw [List.length_map, HL1.out]; omega) (HC1.out _ HB1.out) (nums_one _) (by unfold maxLen; omega) (by omega) (by simp) ?_; intro v1 w1 ho1 hg1 _; have hbA : Below W0.heap.size W0 w1 := HB1.out.grown hg1 (by simp) (fun q hq => by have h2 : W0.heap.size = q := Option.some.inj hq; omega); have k3 := (hbA.cell (p := ⟨b, off + (k + 1), none⟩) hb1').trans k2; rw [Nat.zero_add, List.nil_append] at ho1; have HO1 := Lib.hid ho1; have HBA := Lib.hid hbA; have hs1 := hbA.size; clear ho1 hg1 hbA) | (at_builtin; refine wpList_append_own _ rfl (.tmp 29) (.tmp 36) 34 rfl W0.heap.size 3 j0 (.int .i64 0) 1 8 Try.underlying34 hj0 hy0 hy1 hy2 rfl (by decide) _ _ _ rfl HO1.out ⟨b2, off2, none⟩ _ _ ((r.drop (n + 1)).map (.int .i64)) rfl (by rw [List.length_map, HL2.out]; omega) (fun i u hu => by rw [List.drop_of_length_le (by omega)] at hu; simp at hu) (nums_one _) (by unfold maxLen; omega) (by omega) hs1 ?_; intro v2 w2 ho2 hg2 _; have hbB : Below W0.heap.size W0 w2 := HBA.out.grown hg2 hs1 (fun q hq => (HO1.out.lt q hq).1); have hu : w2.ownsRow W0.heap.size 3 1 v2 (lessRow r n).length ((lessRow r n).map (Value.int .i64)) := own_less ho2; obtain ⟨A2, cc2, rfl⟩ := slice_of_owns hu; have HU := Lib.hid hu; have HBB := Lib.hid hbB; have HOK := Lib.hid (kept_below HO.out hbB); have hs2 := hbB.size; clear ho2 hg2 hbB hu) | (at_builtin; refine wpList_append_lies _ rfl (.tmp 28) (.tmp 38) 22 rfl w.heap.size 34 i0 (.slice none 0 0) 1 24 Try.underlying22 hi hz0 hz1 hz2 rfl (by decide) _ _ _ rfl (HOK.out.alloc _) ⟨w2.heap.size, 0, none⟩ 1 1 [.slice A2 (lessRow r n).length cc2] rfl rfl (World.news_of_block (cs := #[.slice A2 (lessRow r n).length cc2]) (t := 34) (fr := (0, 0)) (heap_alloc_new w2 _)) (by simp [Value.oneCell']) (by decide) (by unfold maxLen; omega) (by omega) (by simp; omega) (w2.heap.size + 1) (by simp) ?_; intro gg cap w6 ho6 hg6 hat6 hlt6; have HRN := Lib.hid (own_append (w := w2.alloc (.cells #[.slice A2 (lessRow r n).length cc2] 34)) HO.out HRW.out (HBB.out.alloc hs2 _) (World.ownsRow.alloc (World.ownsRow.mono HU.out hw) _) (fun g hg => (HU.out.lt g hg).1) ho6 hg6 (by rw [World.size_alloc]; exact hat6)); have HM := Lib.hid ho6; have HB6 : Hid (Below w.heap.size w w6) := Lib.hid (((hbl.out.trans (HBB.out.mono hw)).alloc (by omega) _).grown hg6 (by simp; omega) fun q hq => (HO.out.lt q hq).1); clear ho6 hg6 hat6))
          go_roundw
          case rel => exact ⟨k + 2, _, by omega, by go_num, by rw [HML2.out]; have h := HM.out; rw [hml] at h; exact h, by rw [HNX.out]; exact HRN.out, HB6⟩
          case measure => simp [intOf]; omega
        · go_wp2_with (first | (at_builtin; refine wpList_append_own _ rfl (.tmp 20) (.tmp 26) 34 rfl W0.heap.size 3 j0 (.int .i64 0) 1 8 Try.underlying34 hj0 hy0 hy1 hy2 rfl (by decide) _ _ _ rfl HN.out ⟨b2, off2, none⟩ _ _ ((r.take j).map (.int .i64)) rfl (by rw [List.length_map, HL1.out]; omega) (HC1.out _ HB1.out) (nums_one _) (by unfold maxLen; omega) (by omega) (by simp) ?_; intro v1 w1 ho1 hg1 _; have hbA : Below W0.heap.size W0 w1 := HB1.out.grown hg1 (by simp) (fun q hq => by have h2 : W0.heap.size = q := Option.some.inj hq; omega); have k3 := (hbA.cell (p := ⟨b, off + (k + 1), none⟩) hb1').trans k2; rw [Nat.zero_add, List.nil_append] at ho1; have HO1 := Lib.hid ho1; have HBA := Lib.hid hbA; have hs1 := hbA.size; clear ho1 hg1 hbA) | (at_builtin; refine wpList_append_own _ rfl (.tmp 29) (.tmp 36) 34 rfl W0.heap.size 3 j0 (.int .i64 0) 1 8 Try.underlying34 hj0 hy0 hy1 hy2 rfl (by decide) _ _ _ rfl HO1.out ⟨b2, off2 + (j + 1), none⟩ _ _ ((r.drop (j + 1)).map (.int .i64)) rfl (by rw [List.length_map, HL2.out]; omega) (HC2.out _ HBA.out) (nums_one _) (by unfold maxLen; omega) (by omega) hs1 ?_; intro v2 w2 ho2 hg2 _; have hbB : Below W0.heap.size W0 w2 := HBA.out.grown hg2 hs1 (fun q hq => (HO1.out.lt q hq).1); have hu : w2.ownsRow W0.heap.size 3 1 v2 (lessRow r j).length ((lessRow r j).map (Value.int .i64)) := own_less ho2; obtain ⟨A2, cc2, rfl⟩ := slice_of_owns hu; have HU := Lib.hid hu; have HBB := Lib.hid hbB; have HOK := Lib.hid (kept_below HO.out hbB); have hs2 := hbB.size; clear ho2 hg2 hbB hu) | (at_builtin; refine wpList_append_lies _ rfl (.tmp 28) (.tmp 38) 22 rfl w.heap.size 34 i0 (.slice none 0 0) 1 24 Try.underlying22 hi hz0 hz1 hz2 rfl (by decide) _ _ _ rfl (HOK.out.alloc _) ⟨w2.heap.size, 0, none⟩ 1 1 [.slice A2 (lessRow r j).length cc2] rfl rfl (World.news_of_block (cs := #[.slice A2 (lessRow r j).length cc2]) (t := 34) (fr := (0, 0)) (heap_alloc_new w2 _)) (by simp [Value.oneCell']) (by decide) (by unfold maxLen; omega) (by omega) (by simp; omega) (w2.heap.size + 1) (by simp) ?_; intro gg cap w6 ho6 hg6 hat6 hlt6; have HRN := Lib.hid (own_append (w := w2.alloc (.cells #[.slice A2 (lessRow r j).length cc2] 34)) HO.out HRW.out (HBB.out.alloc hs2 _) (World.ownsRow.alloc (World.ownsRow.mono HU.out hw) _) (fun g hg => (HU.out.lt g hg).1) ho6 hg6 (by rw [World.size_alloc]; exact hat6)); have HM := Lib.hid ho6; have HB6 : Hid (Below w.heap.size w w6) := Lib.hid (((hbl.out.trans (HBB.out.mono hw)).alloc (by omega) _).grown hg6 (by simp; omega) fun q hq => (HO.out.lt q hq).1); clear ho6 hg6 hat6))
          go_roundw
          case rel => exact ⟨k + 2, _, by omega, by go_num, by rw [HML2.out]; have h := HM.out; rw [hml] at h; exact h, by rw [HNX.out]; exact HRN.out, HB6⟩
          case measure => simp [intOf]; omega
    · obtain rfl : k = n + 1 := by omega
      have HOG : Hid (OwnG W0 w.heap.size _ (lessM t n j (n + 1))) := Lib.hid ⟨vs, hO, hR⟩
      clear hO hR
      go_wp2
      go_ret
      exact ⟨_, rfl, HOG.out, hbl.out⟩
end Go.Proofs.Ytanelokploifhaa
