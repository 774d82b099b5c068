/-
  The model's test of the leading minors: what the plain words say; nothing that was there before is changed.
-/
import Derived.Test.YtanelokploifhaaMidTexts
import Derived.Test.YtanelokploifhaaReachSpec
import Derived.Test.YtanelokploifhaaDetOf
namespace Go.Proofs.Ytanelokploifhaa
open Go Go.RowKit

theorem bit_true (w : World) : Calls Try.prog 39 #[.bool true] w fun e w' => e = .returned (.int .i64 1) ∧ w' = w := m_bit true w
theorem bit_false (w : World) : Calls Try.prog 39 #[.bool false] w fun e w' => e = .returned (.int .i64 0) ∧ w' = w := m_bit false w
theorem upTo_more {W1 w3 w6 : World} {gg cap k : Nat} {v : Value} (hB : Below W1.heap.size W1 w3) (hO : w3.ownsRow W1.heap.size 3 1 v k ((upTo k).map (Value.int .i64))) (o : Obj)
    (ho : w6.ownsRow W1.heap.size 3 1 (.slice (some ⟨gg, 0, none⟩) (k + 1) cap) (k + 1) ((upTo k).map (Value.int .i64) ++ [.int .i64 (k : Int)])) (hg : (w3.alloc o).grownBy w6 v.ownBlock) :
    w6.ownsRow W1.heap.size 3 1 (.slice (some ⟨gg, 0, none⟩) (k + 1) cap) (k + 1) ((upTo (k + 1)).map (Value.int .i64)) ∧ Below W1.heap.size W1 w6 ∧ RowS w6 (some ⟨gg, 0, none⟩) (upTo (k + 1)) := by
  have hs := hB.size
  have h1 : w6.ownsRow W1.heap.size 3 1 (.slice (some ⟨gg, 0, none⟩) (k + 1) cap) (k + 1) ((upTo (k + 1)).map (Value.int .i64)) := by
    rw [upTo_next, List.map_append]; exact ho
  exact ⟨h1, (hB.alloc hs o).grown hg (by simp; omega) fun q hq => (hO.lt q hq).1, fun _ => ⟨gg, 0, rfl, IntsAt.of_owns h1 (by rw [upTo_len]), (h1.lt gg rfl).2⟩⟩

set_option maxRecDepth 100000 in
set_option maxHeartbeats 6400000 in
theorem spec_below8 (A1 : Option Addr) (c1 : Nat) (m : List (List Int)) (hm : smallM m = true) (q d : Int) (hq : 0 ≤ q ∧ q ≤ 3601) (hd : 1 ≤ d ∧ d ≤ 100) (w : World) (h1 : GridS w A1 m) :
    Calls Try.prog 24 #[.slice A1 m.length c1, .int .i64 q, .int .i64 d] w (Scalar (.bool (belB m q d)) w) := by
  have hmf := isMat_facts (small_facts hm).1
  have hc9 := (small_facts hm).2.2
  have l4 := (small_facts hm).2.1
  have H1 := Lib.hid h1
  have HR := Lib.hid hmf.row
  have HZ := Lib.hid (spec_zero m.length m.length (by omega) (by omega) w)
  have HBT := Lib.hid bit_true
  have HBF := Lib.hid bit_false
  have HC9 := Lib.hid hc9
  obtain ⟨f, hf⟩ : ∃ f, negE (cellOf m) q d = f := ⟨_, rfl⟩
  have HFC : Hid (∀ i j, f i j = (if i = j then q else 0) - d * cellOf m i j) := Lib.hid fun i j => by rw [← hf]; rfl
  have HSQ : Hid (∀ k, k ≤ m.length → Sq 10000 k (partM (tabOf m.length m.length f) (upTo k))) := Lib.hid fun k hk => by rw [← hf]; exact lead_sq hm hq ⟨by omega, hd.2⟩ hk
  have HBE : Hid (belB m q d = true ↔ ∀ i, i < m.length → 0 < detF (i + 1) f) := Lib.hid (by rw [← hf]; exact belB_to)
  obtain ⟨q0, q1⟩ := hq
  obtain ⟨d0, d1⟩ := hd
  clear h1 hm hmf hc9 hf
  go_enter Try.func24, Try.ntmps24
  go_wp2_with fail
  refine HZ.out.mono ?_
  rintro e w1 ⟨v, rfl, hown, b1⟩
  obtain ⟨A, c, rfl, -⟩ := hown.gridS
  rw [← fillF_zero f] at hown
  rw [tabOf_length] at hown ⊢
  have HO := Lib.hid hown
  have HB1 := Lib.hid b1
  clear hown b1
  go_wp2
  go_loopw [8] (fun iv wr => ∃ i : Nat, i ≤ m.length ∧ iv = .int .i64 i ∧ OwnG wr w.heap.size (.slice A m.length c) (tabOf m.length m.length (fillF f i 0)) ∧ Below w.heap.size w wr) (fun i _ => m.length - (intOf i).toNat)
  case atStart => exact ⟨0, Nat.zero_le _, rfl, HO.out, HB1.out⟩
  case round =>
    obtain ⟨i, hi, rfl, hown, hbl⟩ := hrel
    by_cases hil : i < m.length
    · have HO1 := Lib.hid hown
      have HB2 := Lib.hid hbl
      clear hown hbl
      obtain ⟨W1, rfl⟩ : ∃ W1 : World, W1 = wr := ⟨_, rfl⟩
      go_wp2
      go_loopw [9] (fun jv wr => ∃ j : Nat, j ≤ m.length ∧ jv = .int .i64 j ∧ OwnG wr w.heap.size (.slice A m.length c) (tabOf m.length m.length (fillF f i j)) ∧ Below w.heap.size w wr) (fun j _ => m.length - (intOf j).toNat)
      case atStart => exact ⟨0, Nat.zero_le _, rfl, HO1.out, HB2.out⟩
      case round =>
        obtain ⟨j, hj, rfl, hown, hbl⟩ := hrel
        by_cases hjl : j < m.length
        · have hrl : ((tabOf m.length m.length (fillF f i j)).getD i []).length = m.length := by rw [tabOf_row hil]; simp
          obtain ⟨g, cap, gi, ci, hv, k1, k2, kf, kb, kl, kne, kg, hset⟩ := hown.at2 (i := i) (j := j) (by rw [tabOf_length]; exact hil) (by rw [hrl]; exact hjl)
          rw [tabOf_length] at hv
          simp only [Value.slice.injEq, true_and] at hv
          obtain ⟨rfl, rfl⟩ := hv
          rw [hrl] at k1
          obtain ⟨p1, p2, p3, p4, p5, rfl, ka1, ka2, pb1, pb2⟩ := H1.out.num hil (j := j) (by rw [HR.out i hil]; exact hjl)
          have ka1' := (hbl.cell (p := ⟨p1, p2 + i, none⟩) pb1).trans ka1
          have ka2' := (hbl.cell (p := ⟨p3, p4 + j, none⟩) pb2).trans ka2
          rw [HR.out i hil] at ka1'
          have hs1 := hset (f i j)
          rw [fillF_next f _ i j hil] at hs1
          have hfc := HFC.out i j
          obtain ⟨x0, x9⟩ := HC9.out i j hil hjl
          have HB4 := Lib.hid hbl
          have n1 : p1 ≠ gi := by omega
          have n2 : p3 ≠ gi := by omega
          clear hset hown hbl ka1 ka2
          generalize cellOf (tabOf m.length m.length (fillF f i j)) i j = T at *
          generalize cellOf m i j = x at *
          have p0 : 0 ≤ d * x := Int.mul_nonneg (by omega) x0
          have p9 : d * x ≤ 100 * 9 := Int.le_trans (Int.mul_le_mul_of_nonneg_right d1 x0) (Int.mul_le_mul_of_nonneg_left x9 (by decide))
          have w1 : IntKind.i64.wrap q = q := by rw [IntKind.wrap_i64]; omega
          have w2 : IntKind.i64.wrap (d * x) = d * x := by rw [IntKind.wrap_i64]; omega
          by_cases e : i = j
          · subst e
            rw [if_pos rfl] at hfc
            rw [hfc] at hs1
            have HS := Lib.hid hs1
            have w3 : IntKind.i64.wrap (q - d * x) = q - d * x := by rw [IntKind.wrap_i64]; omega
            clear hs1 hfc p0 p9
            go_wp2
            go_region_held3 (fun w' => w'.cell? ⟨g, i, none⟩ = some (.slice (some ⟨gi, 0, none⟩) m.length ci) ∧ w'.cell? ⟨p1, p2 + i, none⟩ = some (.slice (some ⟨p3, p4, none⟩) m.length p5) ∧ w'.cell? ⟨p3, p4 + i, none⟩ = some (.int .i64 x)) (first | exact ⟨k1, ka1', ka2'⟩ | exact ⟨cell_far kne k1, cell_far n1 ka1', cell_far n2 ka2'⟩ | go_keep) (first | (go_at_call 39; refine (HBT.out _).mono ?_; rintro e w2 ⟨rfl, rfl⟩))
            go_wp2
            go_roundw
            case rel => exact ⟨i + 1, by omega, by go_num, HS.out.drew, (HB4.out.setCell kb _).drew⟩
            case measure => simp [intOf]; omega
          · rw [if_neg e] at hfc
            have hfc' : f i j = -(d * x) := by rw [hfc]; omega
            rw [hfc'] at hs1
            have HS := Lib.hid hs1
            have w3 : IntKind.i64.wrap (-(d * x)) = -(d * x) := by rw [IntKind.wrap_i64]; omega
            have w4 : IntKind.i64.wrap 0 = 0 := by rw [IntKind.wrap_i64]; omega
            have hij : ((i : Int) == (j : Int)) = false := by rw [beq_eq_false_iff_ne]; omega
            clear hs1 hfc hfc' p0 p9
            go_wp2
            go_region_held3 (fun w' => w'.cell? ⟨g, i, none⟩ = some (.slice (some ⟨gi, 0, none⟩) m.length ci) ∧ w'.cell? ⟨p1, p2 + i, none⟩ = some (.slice (some ⟨p3, p4, none⟩) m.length p5) ∧ w'.cell? ⟨p3, p4 + j, none⟩ = some (.int .i64 x)) (first | exact ⟨k1, ka1', ka2'⟩ | exact ⟨cell_far kne k1, cell_far n1 ka1', cell_far n2 ka2'⟩ | go_keep) (first | (go_at_call 39; refine (HBF.out _).mono ?_; rintro e w2 ⟨rfl, rfl⟩))
            go_wp2
            go_roundw
            case rel => exact ⟨j + 1, by omega, by go_num, HS.out.drew, (HB4.out.setCell kb _).drew⟩
            case measure => simp [intOf]; omega
        · obtain rfl : j = m.length := by omega
          rw [fillF_row] at hown
          have HO3 := Lib.hid hown
          clear hown
          go_wp2
          go_roundw
          case rel => exact ⟨i + 1, by omega, by go_num, HO3.out, hbl⟩
          case measure => simp [intOf]; omega
    · obtain rfl : i = m.length := by omega
      rw [fillF_all] at hown
      obtain ⟨A', c', hvv, hg⟩ := hown.gridC
      rw [tabOf_length] at hvv
      simp only [Value.slice.injEq, true_and] at hvv
      obtain ⟨rfl, rfl⟩ := hvv
      have HG := Lib.hid hg
      have HB2 := Lib.hid hbl
      clear hown hbl hg
      obtain ⟨W1, rfl⟩ : ∃ W1 : World, W1 = wr := ⟨_, rfl⟩
      have HI0 := Lib.hid (World.ownsRow_made (base := W1.heap.size) (e := 3) (size := 1) W1 #[] 0 (Nat.le_refl _) (by unfold maxLen; omega) rfl)
      obtain ⟨j0, hj, hy0, hy1, hy2⟩ := info_parts infoInt
      have HPA : Hid (∀ (k : Nat) (Al : Option Addr) (cl : Nat) (w' : World), k ≤ m.length → Below W1.heap.size W1 w' → RowS w' Al (upTo k) → Calls Try.prog 48 #[.slice A m.length c, .slice Al k cl] w' (NewG (partM (tabOf m.length m.length f) (upTo k)) w')) := Lib.hid fun k Al cl w' hk hb hr => by
        have h := spec_partR A c (tabOf m.length m.length f) (fun i hi => by rw [tabOf_length] at hi ⊢; rw [tabOf_row hi]; simp) Al cl (upTo k) (by rw [upTo_len]; omega) (fun a ha => by rw [upTo_len] at ha; rw [upTo_at ha, tabOf_length]; omega) w' ((HG.out.below hb).gridS) hr
        rw [tabOf_length, upTo_len] at h
        exact h
      have HDE : Hid (∀ (k : Nat) (A' : Option Addr) (c' : Nat) (w' : World), k ≤ m.length → GridC w' A' (partM (tabOf m.length m.length f) (upTo k)) → Calls Try.prog 47 #[.slice A' k c'] w' (Scalar (.int .i64 (detF k f)) w')) := Lib.hid fun k A' c' w' hk hg => by
        have hs := HSQ.out k hk
        have h := spec_det k (by omega) A' c' _ hs.len hs.row hs.cell w' hg
        rwa [detF_congr (g := f) (lead_part f hk).2.2] at h
      have HPL : Hid (∀ k, k ≤ m.length → (partM (tabOf m.length m.length f) (upTo k)).length = k) := Lib.hid fun k hk => (lead_part f hk).1
      clear H1 HR HZ HBT HBF HC9 HFC HSQ HO HB1
      go_wp2
      go_loopw [10, 11] (fun u iv wr => ∃ k : Nat, k ≤ m.length ∧ iv = .int .i64 (k : Int) ∧ wr.ownsRow W1.heap.size 3 1 u k ((upTo k).map (Value.int .i64)) ∧ Below W1.heap.size W1 wr ∧ Hid (∀ i, i < k → 0 < detF (i + 1) f)) (fun _ iv _ => m.length - (intOf iv).toNat)
      case atStart => exact ⟨0, Nat.zero_le _, rfl, HI0.out, (Below.refl _ _).alloc (Nat.le_refl _) _, Lib.hid (fun i hi => by omega)⟩
      case round =>
        obtain ⟨k, hk, rfl, hU, hb4, hpos⟩ := hrel
        by_cases hkl : k < m.length
        · have HU := Lib.hid hU
          have HB4 := Lib.hid hb4
          have hs4 := hb4.size
          have C1 := Lib.hid (fun Al cl w' => HPA.out (k + 1) Al cl w' (by omega))
          have C2 := Lib.hid (fun A' c' w' => HDE.out (k + 1) A' c' w' (by omega))
          have HPL1 := Lib.hid (HPL.out (k + 1) (by omega))
          have HNX : Hid (0 < detF (k + 1) f → ∀ i, i < k + 1 → 0 < detF (i + 1) f) := Lib.hid fun h i hi => by
            by_cases e : i = k
            · subst e; exact h
            · exact hpos.out i (by omega)
          have HBAD : Hid (¬ 0 < detF (k + 1) f → belB m q d = false) := Lib.hid fun h => by
            rw [Bool.eq_false_iff]
            exact fun hb => h (HBE.out.1 hb k hkl)
          clear hU hb4 hpos
          generalize detF (k + 1) f = dt at *
          generalize partM (tabOf m.length m.length f) (upTo (k + 1)) = pt at *
          go_wp2_with (at_builtin; refine wpList_append_lies _ rfl (.tmp 58) (.tmp 60) 34 rfl W1.heap.size 3 j0 (.int .i64 0) 1 8 Try.underlying34 hj hy0 hy1 hy2 rfl (by decide) _ _ _ rfl (HU.out.alloc _) ⟨wr.heap.size, 0, none⟩ 1 1 [.int .i64 (k : Int)] rfl rfl (World.news_of_block (cs := #[.int .i64 (k : Int)]) (t := 3) (fr := (0, 0)) (heap_alloc_new wr _)) (by simp [Value.oneCell']) (by decide) (by unfold maxLen; omega) (by omega) (by simp; omega) (wr.heap.size + 1) (by simp) ?_; intro gg cap w6 ho6 hg6 hat6 hlt6; have HT := Lib.hid (upTo_more HB4.out HU.out _ ho6 hg6); clear ho6 hg6 hat6)
          have D1 := Lib.hid (C1.out (some ⟨gg, 0, none⟩) cap w6 HT.out.2.1 HT.out.2.2)
          go_wp2_with fail
          refine D1.out.mono ?_
          rintro e w7 ⟨v7, rfl, ho7, hb7⟩
          obtain ⟨A7, c7, rfl, hg7⟩ := ho7.gridC
          rw [HPL1.out]
          have D2 := Lib.hid (C2.out A7 c7 w7 hg7)
          have HB7 := Lib.hid (HT.out.2.1.trans (hb7.mono HT.out.2.1.size))
          have HU7 := Lib.hid (kept_below HT.out.1 hb7)
          clear ho7 hg7 hb7 C1 C2 D1
          go_wp2_with fail
          refine D2.out.mono ?_
          rintro e w8 ⟨rfl, hb8⟩
          have HB8 := Lib.hid (HB7.out.trans (hb8.mono HB7.out.size))
          have HU8 := Lib.hid (kept_below HU7.out hb8)
          clear hb8 D2
          by_cases hpd : 0 < dt
          · have hle : ¬ dt ≤ 0 := by omega
            have HN := Lib.hid (HNX.out hpd)
            go_wp2
            go_roundw
            case rel => exact ⟨k + 1, by omega, by go_num, HU8.out, HB8.out, HN⟩
            case measure => simp [intOf]; omega
          · have hle : dt ≤ 0 := by omega
            have HB : Hid (belB m q d = false) := Lib.hid (HBAD.out (by omega))
            have HBL := Lib.hid (below_behind HB2.out HB8.out)
            go_wp2
            go_ret
            exact ⟨by rw [HB.out]; rfl, HBL.out⟩
        · obtain rfl : k = m.length := by omega
          have HB : Hid (belB m q d = true) := Lib.hid (HBE.out.2 hpos.out)
          have HBL := Lib.hid (below_behind HB2.out hb4)
          clear hU hpos
          go_wp2
          go_ret
          exact ⟨by rw [HB.out]; rfl, HBL.out⟩
end Go.Proofs.Ytanelokploifhaa
