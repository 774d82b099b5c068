/-
  The model's ComponentsOf: what the plain words say, in new memory; nothing that was there before is changed.
-/
import Derived.Test.YtanelokploifhaaCompSpec
namespace Go.Proofs.Ytanelokploifhaa
open Go Go.RowKit

theorem From.grown {B : Nat} {w1 w w' : World} {r : Option Nat} (h : From B w1 w) (hg : w.grownBy w' r) (hr : ∀ g, r = some g → g < B ∨ w1.heap.size ≤ g) : From B w1 w' :=
  ⟨Nat.le_trans h.size hg.size, fun k h1 h2 => (hg.block k (Nat.lt_of_lt_of_le h2 h.size) (fun e => by
    have := hr k e.symm
    omega)).trans (h.block k h1 h2)⟩
theorem From.below {B : Nat} {w1 w w' : World} (h : From B w1 w) (hb : Below w.heap.size w w') : From B w1 w' :=
  ⟨Nat.le_trans h.size hb.size, fun k h1 h2 => (hb.block k (Nat.lt_of_lt_of_le h2 h.size)).trans (h.block k h1 h2)⟩
theorem OwnG.fromB {B : Nat} {w1 w : World} {v : Value} {m : List (List Int)} (h : OwnG w1 B v m) (hf : From B w1 w) : OwnG w B v m := (From.ownIn h.ownIn hf).ownG
theorem compM_next (m : List (List Int)) (n : Nat) : compM m (n + 1) = compM m n ++ compList m n := by
  unfold compM
  rw [List.range_succ, List.map_append, List.flatten_append]
  simp
/-- The vertices below j that vertex i reaches in both directions. -/
def compTo (m : List (List Int)) (i j : Nat) : List Int := ((List.range j).filter fun b => reachB m i b && reachB m b i).map fun (b : Nat) => (b : Int)
theorem compTo_next (m : List (List Int)) (i j : Nat) : compTo m i (j + 1) = if reachB m i j && reachB m j i then compTo m i j ++ [(j : Int)] else compTo m i j := by
  unfold compTo
  rw [List.range_succ, List.filter_append, List.map_append]
  by_cases h : (reachB m i j && reachB m j i) = true
  · rw [if_pos h]
    simp only [List.filter_cons, List.filter_nil, h, if_true]; rfl
  · rw [if_neg h]
    simp only [List.filter_cons, List.filter_nil, if_neg h, List.map_nil, List.append_nil]
theorem compTo_len (m : List (List Int)) (i j : Nat) : (compTo m i j).length ≤ j := by
  unfold compTo
  rw [List.length_map]
  exact Nat.le_trans (List.length_filter_le _ _) (by simp)
theorem compList_is (m : List (List Int)) (i : Nat) : compList m i = if 0 < (compTo m i m.length).length ∧ (compTo m i m.length).getD 0 0 = (i : Int) then [compTo m i m.length] else [] := by
  unfold compList compTo compRow
  cases (List.range m.length).filter fun b => reachB m i b && reachB m b i with
  | nil => simp
  | cons x xs =>
    by_cases h : x = i
    · subst h; simp
    · simp [h]
      omega
theorem compM_len (m : List (List Int)) : ∀ n, (compM m n).length ≤ n
  | 0 => by simp [compM]
  | n + 1 => by
    have h := compM_len m n
    rw [compM_next, List.length_append]
    have : (compList m n).length ≤ 1 := by
      unfold compList
      split <;> simp
    omega

set_option maxRecDepth 100000 in
set_option maxHeartbeats 6400000 in
theorem spec_components (A1 : Option Addr) (c1 : Nat) (m : List (List Int)) (hl : m.length ≤ 1048576) (ht : tot m ≤ 1048576) (w : World) (h1 : GridS w A1 m) :
    Calls Try.prog 54 #[.slice A1 m.length c1] w (NewG (compS m) w) := by
  obtain ⟨i0, hi, hz0, hz1, hz2⟩ := info_parts infoSl
  obtain ⟨j0, hj0, hy0, hy1, hy2⟩ := info_parts infoInt
  have hb0 : Below w.heap.size w (w.alloc (.cells #[] 34)) := below_new
  have HR := Lib.hid (spec_reachOf A1 c1 m hl ht _ (h1.below hb0))
  have HB0 := Lib.hid hb0
  have HE : Hid ((w.alloc (.cells #[] 34)).ownsRow w.heap.size 34 1 (.slice (some ⟨w.heap.size, 0, none⟩) 0 0) 0 []) := Lib.hid (World.ownsRow_made (base := w.heap.size) (e := 34) (size := 1) w #[] 0 (Nat.le_refl _) (by unfold maxLen; omega) rfl)
  have hrl : ∃ n, (reachS m).length = n ∧ n ≤ 9 ∧ (n = 0 ∨ n = m.length) ∧ compS m = compM m n ∧ (∀ i, i < n → ((reachS m).getD i []).length = n) ∧ ∀ i j, i < n → j < n → cellOf (reachS m) i j = bI (reachB m i j) := by
    unfold reachS compS
    cases hm : isMat m with
    | false =>
      rw [if_neg (by decide), if_neg (by decide)]
      exact ⟨0, rfl, by omega, Or.inl rfl, rfl, fun i h => by omega, fun i j h => by omega⟩
    | true =>
      rw [if_pos rfl, if_pos rfl]
      obtain ⟨f1, f2, f3⟩ := reachM_facts m
      exact ⟨m.length, f1, (isMat_facts hm).le, Or.inr rfl, rfl, f2, f3⟩
  obtain ⟨n, hn, hn9, hnm, hcs, hrow, hcell⟩ := hrl
  have HNM := Lib.hid hnm
  have HROW := Lib.hid hrow
  have HCELL := Lib.hid hcell
  have HN := Lib.hid hn
  rw [hcs]
  clear h1 hb0 hnm hcs hrow hcell
  go_enter Try.func54, Try.ntmps54
  go_wp2_with fail
  refine HR.out.mono ?_
  rintro e w1 ⟨vR, rfl, hoR, b1⟩
  obtain ⟨AR, cR, rfl, -⟩ := hoR.gridS
  rw [World.size_alloc] at hoR b1
  rw [hn]
  have HOR := Lib.hid hoR
  have HB1 : Hid (Below w.heap.size w w1) := Lib.hid (HB0.out.trans (b1.mono (by omega)))
  have hs1 : w.heap.size + 1 ≤ w1.heap.size := by have := b1.size; rw [World.size_alloc] at this; exact this
  have HK1 := Lib.hid (kept_below HE.out (by rw [World.size_alloc]; exact b1))
  clear hoR b1 hn
  go_wp2
  go_loopw [3, 5] (fun v iv wr => ∃ (k : Nat) (vs : List Value), k ≤ n ∧ iv = .int .i64 (k : Int) ∧ wr.ownsRow w.heap.size 34 1 v (compM m k).length vs ∧ RowsOwn wr w.heap.size v.ownBlock vs (compM m k) ∧ Hid (∀ g, v.ownBlock = some g → g < w.heap.size + 1 ∨ w1.heap.size ≤ g) ∧ Hid (From (w.heap.size + 1) w1 wr) ∧ Hid (Below w.heap.size w wr)) (fun _ iv _ => n - (intOf iv).toNat)
  case atStart => exact ⟨0, [], Nat.zero_le _, rfl, HK1.out, RowsOwn.nil _ _ _, Lib.hid (fun g h => by have h2 : w.heap.size = g := Option.some.inj h; omega), Lib.hid (From.refl _ _), HB1⟩
  case round =>
    obtain ⟨k, vs, hk, rfl, hO, hR, hblk, hfr, hbl⟩ := hrel
    obtain ⟨W0, rfl⟩ : ∃ W0 : World, W0 = wr := ⟨_, rfl⟩
    by_cases hlt : k < n
    · have HO := Lib.hid hO
      have HRW := Lib.hid hR
      have hwr := hbl.out.size
      have hw1 := hfr.out.size
      have HI0 : Hid ((W0.alloc (.cells #[] 3)).ownsRow W0.heap.size 3 1 (.slice (some ⟨W0.heap.size, 0, none⟩) 0 0) 0 []) := Lib.hid (World.ownsRow_made (base := W0.heap.size) (e := 3) (size := 1) W0 #[] 0 (Nat.le_refl _) (by unfold maxLen; omega) rfl)
      have HBI : Hid (Below W0.heap.size W0 (W0.alloc (.cells #[] 3))) := Lib.hid below_new
      clear hO hR
      go_wp2
      go_loopw [6, 7] (fun u jv w4 => ∃ j : Nat, j ≤ n ∧ jv = .int .i64 (j : Int) ∧ w4.ownsRow W0.heap.size 3 1 u (compTo m k j).length ((compTo m k j).map (Value.int .i64)) ∧ Hid (Below W0.heap.size W0 w4)) (fun _ jv _ => n - (intOf jv).toNat)
      case atStart => exact ⟨0, Nat.zero_le _, rfl, HI0.out, HBI⟩
      case round =>
        obtain ⟨j, hj, rfl, hU, hb4⟩ := hrel
        by_cases hjl : j < n
        · have hG := (HOR.out.fromB (hfr.out.below hb4.out)).gridS
          obtain ⟨A', c', e', hG⟩ := hG
          rw [HN.out] at e'
          simp only [Value.slice.injEq, true_and] at e'
          obtain ⟨rfl, rfl⟩ := e'
          obtain ⟨p1, p2, p3, p4, p5, rfl, k1, k2, _, _⟩ := hG.num (i := k) (by rw [HN.out]; exact hlt) (j := j) (by rw [HROW.out k hlt]; exact hjl)
          obtain ⟨q1, q2, q3, q4, q5, hq, k3, k4, _, _⟩ := hG.num (i := j) (by rw [HN.out]; exact hjl) (j := k) (by rw [HROW.out j hjl]; exact hlt)
          simp only [Option.some.injEq, Addr.mk.injEq, and_true] at hq
          obtain ⟨rfl, rfl⟩ := hq
          rw [HROW.out k hlt] at k1
          rw [HROW.out j hjl] at k3
          rw [HCELL.out k j hlt hjl] at k2
          rw [HCELL.out j k hjl hlt] at k4
          have HNX := Lib.hid (compTo_next m k j)
          have hcl := compTo_len m k j
          have HU := Lib.hid hU
          have hs4 := hb4.out.size
          clear hU hG
          cases hx : reachB m k j with
          | false =>
            rw [hx, show bI false = 0 from rfl] at k2
            rw [hx] at HNX
            have HNX2 : Hid (compTo m k (j + 1) = compTo m k j) := Lib.hid (by rw [HNX.out]; rfl)
            clear hx
            go_wp2
            go_roundw
            case rel => exact ⟨j + 1, by omega, by go_num, by rw [HNX2.out]; exact HU.out, hb4⟩
            case measure => simp [intOf]; omega
          | true =>
            cases hy : reachB m j k with
            | false =>
              rw [hx, show bI true = 1 from rfl] at k2
              rw [hy, show bI false = 0 from rfl] at k4
              rw [hx, hy] at HNX
              have HNX2 : Hid (compTo m k (j + 1) = compTo m k j) := Lib.hid (by rw [HNX.out]; rfl)
              clear hx hy
              go_wp2
              go_roundw
              case rel => exact ⟨j + 1, by omega, by go_num, by rw [HNX2.out]; exact HU.out, hb4⟩
              case measure => simp [intOf]; omega
            | true =>
              rw [hx, show bI true = 1 from rfl] at k2
              rw [hy, show bI true = 1 from rfl] at k4
              rw [hx, hy] at HNX
              have HNX2 : Hid (compTo m k (j + 1) = compTo m k j ++ [(j : Int)]) := Lib.hid (by rw [HNX.out]; rfl)
              clear hx hy HNX
              obtain ⟨Y, HY⟩ : ∃ Y, Hid (compTo m k (j + 1) = Y) := ⟨_, Lib.hid rfl⟩
              rw [HY.out] at HNX2
              generalize compTo m k j = X at *
              have HMAP : Hid (X.map (Value.int .i64) ++ [.int .i64 (j : Int)] = Y.map (Value.int .i64)) := Lib.hid (by rw [HNX2.out, List.map_append]; rfl)
              have HLEN : Hid (X.length + 1 = Y.length) := Lib.hid (by rw [HNX2.out, List.length_append]; rfl)
              go_wp2_with (at_builtin; refine wpList_append_lies _ rfl (.tmp 42) (.tmp 44) 34 rfl W0.heap.size 3 j0 (.int .i64 0) 1 8 Try.underlying34 hj0 hy0 hy1 hy2 rfl (by decide) _ _ _ rfl (HU.out.alloc _) ⟨wr.heap.size, 0, none⟩ 1 1 [.int .i64 (j : Int)] rfl rfl (World.news_of_block (cs := #[.int .i64 (j : Int)]) (t := 3) (fr := (0, 0)) (heap_alloc_new wr _)) (by simp [Value.oneCell']) (by decide) (by unfold maxLen; omega) (by omega) (by simp; omega) (wr.heap.size + 1) (by simp) ?_; intro gg cap w6 ho6 hg6 hat6 hlt6; rw [HMAP.out] at ho6; have HM := Lib.hid ho6; have HB6 := Lib.hid ((hb4.out.alloc hs4 _).grown hg6 (by simp; omega) fun q hq => (HU.out.lt q hq).1); clear ho6 hg6 hat6)
              go_roundw
              case rel => exact ⟨j + 1, by omega, by go_num, by rw [HY.out, ← HLEN.out]; exact HM.out, HB6⟩
              case measure => simp [intOf]; omega
        · obtain rfl : j = n := by omega
          have hnm : j = m.length := by
            rcases HNM.out with h | h
            · omega
            · exact h
          have HCL := Lib.hid (compList_is m k)
          rw [← hnm] at HCL
          have HCN := Lib.hid (compM_next m k)
          have hcml := compM_len m k
          have hxl := compTo_len m k j
          have HOK := Lib.hid (kept_below HO.out hb4.out)
          have HRK := Lib.hid (HRW.out.below hb4.out)
          have HFR := Lib.hid (hfr.out.below hb4.out)
          have HBL := Lib.hid (hbl.out.trans (hb4.out.mono hwr))
          have hs4 := hb4.out.size
          have HU := Lib.hid hU
          clear hU hnm
          generalize compTo m k j = X at *
          by_cases hx0 : X.length = 0
          · have HNX : Hid (compM m (k + 1) = compM m k) := Lib.hid (by rw [HCN.out, HCL.out, if_neg (by omega), List.append_nil])
            obtain ⟨Au, cu, rfl⟩ := slice_of_owns HU.out
            rw [hx0]
            go_wp2
            go_roundw
            case rel => exact ⟨k + 1, vs, by omega, by go_num, by rw [HNX.out]; exact HOK.out, by rw [HNX.out]; exact HRK.out, hblk, HFR, HBL⟩
            case measure => simp [intOf]; omega
          · obtain ⟨gu, cu, rfl, _, _⟩ := HU.out.form (by omega)
            have kx := (HU.out.cellAt 0 (by omega)).trans (show (X.map (Value.int .i64))[0]? = some (Value.int .i64 (X.getD 0 0)) by rw [List.getElem?_map, List.getElem?_eq_getElem (by omega), List.getD_eq_getElem?_getD, List.getElem?_eq_getElem (by omega)]; rfl)
            have hpos : (0 : Int) < (X.length : Int) := by omega
            by_cases hx : X.getD 0 0 = (k : Int)
            · have HNX : Hid (compM m (k + 1) = compM m k ++ [X]) := Lib.hid (by rw [HCN.out, HCL.out, if_pos ⟨by omega, hx⟩])
              rw [hx] at kx
              have hbe : ((k : Int) == (k : Int)) = true := beq_self_eq_true _
              have HLEN : Hid ((compM m k).length + 1 = (compM m (k + 1)).length) := Lib.hid (by rw [HNX.out, List.length_append]; rfl)
              clear hx HCL
              go_wp2_with (at_builtin; refine wpList_append_lies _ rfl (.tmp 56) (.tmp 58) 22 rfl w.heap.size 34 i0 (.slice none 0 0) 1 24 Try.underlying22 hi hz0 hz1 hz2 rfl (by decide) _ _ _ rfl (HOK.out.alloc _) ⟨wr.heap.size, 0, none⟩ 1 1 [.slice (some ⟨gu, 0, none⟩) X.length cu] rfl rfl (World.news_of_block (cs := #[.slice (some ⟨gu, 0, none⟩) X.length cu]) (t := 34) (fr := (0, 0)) (heap_alloc_new wr _)) (by simp [Value.oneCell']) (by decide) (by unfold maxLen; omega) (by omega) (by simp; omega) (wr.heap.size + 1) (by simp) ?_; intro gg cap w6 ho6 hg6 hat6 hlt6; have HRN := Lib.hid (own_append (w := wr.alloc (.cells #[.slice (some ⟨gu, 0, none⟩) X.length cu] 34)) HO.out HRW.out (hb4.out.alloc hs4 _) (World.ownsRow.alloc (World.ownsRow.mono HU.out hwr) _) (fun g hg => (HU.out.lt g hg).1) ho6 hg6 (by rw [World.size_alloc]; exact hat6)); have HM := Lib.hid ho6; have HB6 : Hid (Below w.heap.size w w6) := Lib.hid ((HBL.out.alloc HBL.out.size _).grown hg6 (by have := HBL.out.size; simp; omega) fun q hq => (HO.out.lt q hq).1); have HF6 : Hid (From (w.heap.size + 1) w1 w6) := Lib.hid ((HFR.out.below below_new).grown hg6 hblk.out); have HBK : Hid (∀ q, (Value.slice (some ⟨gg, 0, none⟩) ((compM m k).length + 1) cap).ownBlock = some q → q < w.heap.size + 1 ∨ w1.heap.size ≤ q) := Lib.hid (fun q hq => by have h2 : gg = q := Option.some.inj hq; subst h2; rcases hat6 with h | h; exact hblk.out _ h; right; omega); clear ho6 hg6 hat6)
              go_roundw
              case rel => exact ⟨k + 1, _, by omega, by go_num, by rw [← HLEN.out]; exact HM.out, by rw [HNX.out]; exact HRN.out, HBK, HF6, HB6⟩
              case measure => simp [intOf]; omega
            · have HNX : Hid (compM m (k + 1) = compM m k) := Lib.hid (by rw [HCN.out, HCL.out, if_neg (fun h => hx h.2), List.append_nil])
              have hbe : (X.getD 0 0 == (k : Int)) = false := by rw [beq_eq_false_iff_ne]; exact hx
              clear HCL
              generalize X.getD 0 0 = x at *
              go_wp2
              go_roundw
              case rel => exact ⟨k + 1, vs, by omega, by go_num, by rw [HNX.out]; exact HOK.out, by rw [HNX.out]; exact HRK.out, hblk, HFR, HBL⟩
              case measure => simp [intOf]; omega
    · obtain rfl : k = n := by omega
      have HOG : Hid (OwnG W0 w.heap.size _ (compM m k)) := Lib.hid ⟨vs, hO, hR⟩
      clear hO hR
      go_wp2
      go_ret
      exact ⟨_, rfl, HOG.out, hbl.out⟩
end Go.Proofs.Ytanelokploifhaa
