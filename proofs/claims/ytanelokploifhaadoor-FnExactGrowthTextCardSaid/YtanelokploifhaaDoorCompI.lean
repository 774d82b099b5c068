/-
  The program's ComponentsOf and IsIrreducible: what the plain words say, a table in new memory; nothing that was there before is changed.
-/
import Derived.Test.YtanelokploifhaaDoorReachI
namespace Go.Proofs.YtanelokploifhaaDoor
open Go Go.RowKit

set_option maxRecDepth 100000 in
set_option maxHeartbeats 3200000 in
theorem impl_bothWays (A : Option Addr) (c : Nat) (m R : List (List Int)) (n : Nat) (hR : R.length = n) (hn9 : n ≤ 9) (hrow : ∀ i, i < n → (R.getD i []).length = n) (hcell : ∀ i j, i < n → j < n → cellOf R i j = bI (reachB m i j)) (v : Nat) (hv : v < n) (w : World) (hg : GridS w A R) :
    Calls Tryd.prog 74 #[.slice A n c, .int .i64 (v : Int)] w (NewA (compTo m v n) w) := by
  obtain ⟨j0, hj0, hy0, hy1, hy2⟩ := info_parts infoInt
  have HNIL : Hid (w.ownsRow w.heap.size 3 1 (.slice none 0 0) (compTo m v 0).length ((compTo m v 0).map (Value.int .i64))) := Lib.hid (World.ownsRow_nil w w.heap.size 3 1)
  have HG := Lib.hid hg
  have HROW := Lib.hid hrow
  have HCELL := Lib.hid hcell
  have HN := Lib.hid hR
  clear hg hrow hcell hR
  go_enter Tryd.func74, Tryd.ntmps74
  go_wp2
  go_loopw [5, 9] (fun u jv wr => ∃ j : Nat, j ≤ n ∧ jv = .int .i64 (j : Int) ∧ wr.ownsRow w.heap.size 3 1 u (compTo m v j).length ((compTo m v j).map (Value.int .i64)) ∧ Hid (Below w.heap.size w wr)) (fun _ jv _ => n - (intOf jv).toNat)
  case atStart => exact ⟨0, Nat.zero_le _, rfl, HNIL.out, Lib.hid (Below.refl _ _)⟩
  case round =>
    clear HNIL
    obtain ⟨j, hj, rfl, hU, hb4⟩ := hrel
    by_cases hjl : j < n
    · have hG := HG.out.below hb4.out
      obtain ⟨p1, p2, p3, p4, p5, rfl, k1, k2, _, _⟩ := hG.num (i := j) (by rw [HN.out]; exact hjl) (j := v) (by rw [HROW.out j hjl]; exact hv)
      obtain ⟨q1, q2, q3, q4, q5, hq, k3, k4, _, _⟩ := hG.num (i := v) (by rw [HN.out]; exact hv) (j := j) (by rw [HROW.out v hv]; exact hjl)
      simp only [Option.some.injEq, Addr.mk.injEq, and_true] at hq
      obtain ⟨rfl, rfl⟩ := hq
      rw [HROW.out j hjl] at k1
      rw [HROW.out v hv] at k3
      rw [HCELL.out j v hjl hv] at k2
      rw [HCELL.out v j hv hjl] at k4
      have HNX := Lib.hid (compTo_next m v j)
      have hcl := compTo_len m v j
      have HU := Lib.hid hU
      have hs4 := hb4.out.size
      clear hU hG
      cases hx : reachB m j v with
      | false =>
        rw [hx, show bI false = 0 from rfl] at k2
        rw [hx, Bool.and_false] at HNX
        have HNX2 : Hid (compTo m v (j + 1) = compTo m v j) := Lib.hid (by rw [HNX.out]; rfl)
        clear hx
        go_wp2
        go_roundw
        case rel => exact ⟨j + 1, by omega, by go_num, by rw [HNX2.out]; exact HU.out, hb4⟩
        case measure => simp [intOf]; omega
      | true =>
        cases hy : reachB m v j with
        | false =>
          rw [hx, show bI true = 1 from rfl] at k2
          rw [hy, show bI false = 0 from rfl] at k4
          rw [hx, hy] at HNX
          have HNX2 : Hid (compTo m v (j + 1) = compTo m v j) := Lib.hid (by rw [HNX.out]; rfl)
          clear hx hy
          go_wp2
          go_roundw
          case rel => exact ⟨j + 1, by omega, by go_num, by rw [HNX2.out]; exact HU.out, hb4⟩
          case measure => simp [intOf]; omega
        | true =>
          rw [hx, show bI true = 1 from rfl] at k2
          rw [hy, show bI true = 1 from rfl] at k4
          rw [hx, hy] at HNX
          have HNX2 : Hid (compTo m v (j + 1) = compTo m v j ++ [(j : Int)]) := Lib.hid (by rw [HNX.out]; rfl)
          clear hx hy HNX
          obtain ⟨Y, HY⟩ : ∃ Y, Hid (compTo m v (j + 1) = Y) := ⟨_, Lib.hid rfl⟩
          rw [HY.out] at HNX2
          generalize compTo m v j = X at *
          have HMAP : Hid (X.map (Value.int .i64) ++ [.int .i64 (j : Int)] = Y.map (Value.int .i64)) := Lib.hid (by rw [HNX2.out, List.map_append]; rfl)
          have HLEN : Hid (X.length + 1 = Y.length) := Lib.hid (by rw [HNX2.out, List.length_append]; rfl)
          go_wp2_with (at_builtin; refine wpList_append_lies _ rfl (.tmp 30) (.tmp 32) 48 rfl w.heap.size 3 j0 (.int .i64 0) 1 8 Tryd.underlying48 hj0 hy0 hy1 hy2 rfl (by decide) _ _ _ rfl (HU.out.alloc _) ⟨wr.heap.size, 0, none⟩ 1 1 [.int .i64 (j : Int)] rfl rfl (World.news_of_block (cs := #[.int .i64 (j : Int)]) (t := 3) (fr := (0, 0)) (heap_alloc_new wr _)) (by simp [Value.oneCell']) (by decide) (by unfold maxLen; omega) (by omega) (by simp; omega) (wr.heap.size + 1) (by simp) ?_; intro gg cap w6 ho6 hg6 hat6 hlt6; rw [HMAP.out] at ho6; have HM := Lib.hid ho6; have HB6 := Lib.hid ((hb4.out.alloc hs4 _).grown hg6 (by simp; omega) fun q hq => (HU.out.lt q hq).1); clear ho6 hg6 hat6)
          go_roundw
          case rel => exact ⟨j + 1, by omega, by go_num, by rw [HY.out, ← HLEN.out]; exact HM.out, HB6⟩
          case measure => simp [intOf]; omega
    · obtain rfl : j = n := by omega
      have HO : Hid (OwnA wr w.heap.size _ (compTo m v j)) := Lib.hid hU
      clear hU
      go_wp2
      go_ret
      exact ⟨_, rfl, HO.out, hb4.out⟩

set_option maxRecDepth 100000 in
set_option maxHeartbeats 3200000 in
theorem impl_componentsOf (A : Option Addr) (c : Nat) (m : List (List Int)) (hn : m.length ≤ 1099511627776) (ht : ∀ k, k < m.length → (m.getD k []).length ≤ 1099511627776) (w : World) (hg : GridS w A m) :
    Calls Tryd.prog 52 #[.slice A m.length c] w (NewG (compS m) w) := by
  obtain ⟨i0, hi, hz0, hz1, hz2⟩ := info_parts infoSl
  have HR := Lib.hid (impl_reachOf A c m hn ht w hg)
  have hrl : ∃ n, (reachS m).length = n ∧ n ≤ 9 ∧ (n = 0 ∨ n = m.length) ∧ compS m = compM m n ∧ (∀ i, i < n → ((reachS m).getD i []).length = n) ∧ ∀ i j, i < n → j < n → cellOf (reachS m) i j = bI (reachB m i j) := by
    unfold reachS compS
    cases hm : isMat m with
    | false =>
      rw [if_neg (by decide), if_neg (by decide)]
      exact ⟨0, rfl, by omega, Or.inl rfl, rfl, fun i h => by omega, fun i j h => by omega⟩
    | true =>
      rw [if_pos rfl, if_pos rfl]
      obtain ⟨f1, f2, f3⟩ := reachM_facts m
      exact ⟨m.length, f1, (isMat_facts hm).le, Or.inr rfl, rfl, f2, f3⟩
  obtain ⟨n, hrn, hn9, hnm, hcs, hrow, hcell⟩ := hrl
  have HNM := Lib.hid hnm
  have HBW := Lib.hid (fun A c v (hv : v < n) w' (h : GridS w' A (reachS m)) => impl_bothWays A c m (reachS m) n hrn hn9 hrow hcell v hv w' h)
  rw [hcs]
  have HRN := Lib.hid hrn
  clear hg hn ht hnm hcs hrow hcell hrn
  go_enter Tryd.func52, Tryd.ntmps52
  go_wp2_with fail
  refine HR.out.mono ?_
  rintro e w1 ⟨vR, rfl, hoR, b1⟩
  obtain ⟨AR, cR, rfl, hgR⟩ := hoR.gridS
  rw [HRN.out]
  have HGR := Lib.hid hgR
  have HB1 := Lib.hid b1
  have HNIL := Lib.hid (World.ownsRow_nil w1 w1.heap.size 48 1)
  clear hoR hgR b1 HR
  go_wp2
  go_loopw [4, 11] (fun v iv wr => ∃ (k : Nat) (vs : List Value), k ≤ n ∧ iv = .int .i64 (k : Int) ∧ wr.ownsRow w1.heap.size 48 1 v (compM m k).length vs ∧ RowsOwn wr w1.heap.size v.ownBlock vs (compM m k) ∧ Hid (Below w1.heap.size w1 wr)) (fun _ iv _ => n - (intOf iv).toNat)
  case atStart => exact ⟨0, [], Nat.zero_le _, rfl, HNIL.out, RowsOwn.nil _ _ _, Lib.hid (Below.refl _ _)⟩
  case round =>
    clear HNIL
    obtain ⟨k, vs, hk, rfl, hO, hRW, hbl⟩ := hrel
    by_cases hlt : k < n
    · have HO := Lib.hid hO
      have HRW := Lib.hid hRW
      have hwr := hbl.out.size
      have HC := Lib.hid (HBW.out AR cR k hlt wr (HGR.out.below hbl.out))
      have hcln := compTo_len m k n
      have HCL : Hid (compList m k = if 0 < (compTo m k n).length ∧ (compTo m k n).getD 0 0 = (k : Int) then [compTo m k n] else []) := Lib.hid (by
        have hnm : n = m.length := by
          rcases HNM.out with h | h
          · omega
          · exact h
        rw [hnm]; exact compList_is m k)
      have HCN := Lib.hid (compM_next m k)
      have hcml := compM_len m k
      clear hO hRW
      generalize compTo m k n = X at *
      go_wp2_with fail
      refine HC.out.mono ?_
      rintro e w4 ⟨v2, rfl, hU, hb4⟩
      have HU := Lib.hid hU
      obtain ⟨Au, cu, rfl⟩ := slice_of_owns hU
      have HOK := Lib.hid (kept_below HO.out hb4)
      have HRK := Lib.hid (HRW.out.below hb4)
      have HBL := Lib.hid (hbl.out.trans (hb4.mono hwr))
      have hs4 := hb4.size
      have HB4 := Lib.hid hb4
      clear hU hb4
      by_cases hx0 : X.length = 0
      · have HNX : Hid (compM m (k + 1) = compM m k) := Lib.hid (by rw [HCN.out, HCL.out, if_neg (by omega), List.append_nil])
        rw [hx0]
        go_wp2
        go_roundw
        case rel => exact ⟨k + 1, vs, by omega, by go_num, by rw [HNX.out]; exact HOK.out, by rw [HNX.out]; exact HRK.out, HBL⟩
        case measure => simp [intOf]; omega
      · obtain ⟨gu, cu2, hvu, _, _⟩ := World.ownsRow.form HU.out (by omega)
        simp only [Value.slice.injEq, true_and] at hvu
        obtain ⟨rfl, rfl⟩ := hvu
        have kx := (World.ownsRow.cellAt HU.out 0 (by omega)).trans (show (X.map (Value.int .i64))[0]? = some (Value.int .i64 (X.getD 0 0)) by rw [List.getElem?_map, List.getElem?_eq_getElem (by omega), List.getD_eq_getElem?_getD, List.getElem?_eq_getElem (by omega)]; rfl)
        have hpos : (0 : Int) < (X.length : Int) := by omega
        by_cases hx : X.getD 0 0 = (k : Int)
        · have HNX : Hid (compM m (k + 1) = compM m k ++ [X]) := Lib.hid (by rw [HCN.out, HCL.out, if_pos ⟨by omega, hx⟩])
          rw [hx] at kx
          have hbe : ((k : Int) == (k : Int)) = true := beq_self_eq_true _
          have HLEN : Hid ((compM m k).length + 1 = (compM m (k + 1)).length) := Lib.hid (by rw [HNX.out, List.length_append]; rfl)
          clear hx HCL
          go_wp2_with (at_builtin; refine wpList_append_lies _ rfl (.tmp 27) (.tmp 29) 24 rfl w1.heap.size 48 i0 (.slice none 0 0) 1 24 Tryd.underlying24 hi hz0 hz1 hz2 rfl (by decide) _ _ _ rfl (HOK.out.alloc _) ⟨w4.heap.size, 0, none⟩ 1 1 [.slice (some ⟨gu, 0, none⟩) X.length cu] rfl rfl (World.news_of_block (cs := #[.slice (some ⟨gu, 0, none⟩) X.length cu]) (t := 48) (fr := (0, 0)) (heap_alloc_new w4 _)) (by simp [Value.oneCell']) (by decide) (by unfold maxLen; omega) (by omega) (by simp; omega) (w4.heap.size + 1) (by simp) ?_; intro gg cap w6 ho6 hg6 hat6 hlt6; have HRN2 := Lib.hid (own_append (w := w4.alloc (.cells #[.slice (some ⟨gu, 0, none⟩) X.length cu] 48)) HO.out HRW.out (HB4.out.alloc hs4 _) (World.ownsRow.alloc (World.ownsRow.mono HU.out hwr) _) (fun g hg => (World.ownsRow.lt HU.out g hg).1) ho6 hg6 (by rw [World.size_alloc]; exact hat6)); have HM := Lib.hid ho6; have HB6 : Hid (Below w1.heap.size w1 w6) := Lib.hid ((HBL.out.alloc HBL.out.size _).grown hg6 (by have := HBL.out.size; simp; omega) fun q hq => (HO.out.lt q hq).1); clear ho6 hg6 hat6)
          go_roundw
          case rel => exact ⟨k + 1, _, by omega, by go_num, by rw [← HLEN.out]; exact HM.out, by rw [HNX.out]; exact HRN2.out, HB6⟩
          case measure => simp [intOf]; omega
        · have HNX : Hid (compM m (k + 1) = compM m k) := Lib.hid (by rw [HCN.out, HCL.out, if_neg (fun h => hx h.2), List.append_nil])
          have hbe : (X.getD 0 0 == (k : Int)) = false := by rw [beq_eq_false_iff_ne]; exact hx
          clear HCL
          generalize X.getD 0 0 = x at *
          go_wp2
          go_roundw
          case rel => exact ⟨k + 1, vs, by omega, by go_num, by rw [HNX.out]; exact HOK.out, by rw [HNX.out]; exact HRK.out, HBL⟩
          case measure => simp [intOf]; omega
    · obtain rfl : k = n := by omega
      have HOG : Hid (OwnG wr w1.heap.size _ (compM m k)) := Lib.hid ⟨vs, hO, hRW⟩
      have hs1 := HB1.out.size
      clear hO hRW
      go_wp2
      go_ret
      exact ⟨_, rfl, OwnG.mono HOG.out hs1, below_behind HB1.out hbl.out⟩

end Go.Proofs.YtanelokploifhaaDoor
