/-
  Merged: The model's ReachOf: what the plain words say, in new memory; nothing that was there before is changed.
  An append of nothing, from a slice that is not nil: the slice stays as it is.
  The model's polynomials: which are in bounds, one without zeros at the end, products, values; nothing that was there before is changed.
  Tables and lists in memory whose rows have room for themselves (no slice is longer than its capacity).
  The model's determinants: a table without its first row and a column; a determinant, by its first row; nothing that was there before is changed.
  The model's determinant of a table that is right, by its first row; nothing that was there before is changed.
  The model's test of the leading minors: what the plain words say; nothing that was there before is changed.
  The model's IsBelow, FloorOfGrowth and CompareGrowth: what the plain words say; nothing that was there before is changed.
  The model's RowBounds: what the plain words say; nothing is changed.
  The model's IsIrreducible and ComponentsOf: what the plain words say; nothing that was there before is changed.
  The model's ComponentsOf: what the plain words say, in new memory; nothing that was there before is changed.
  The model's IsGrowthless, by components: what the plain words say; nothing that was there before is changed.
  The model's functions on growth at the laws' copies.
-/
import Derived.Test.YtanelokploifhaaDoorMidTexts
import Derived.Test.YtanelokploifhaaDoorBaseTexts
import Derived.BigRegion
import Derived.WalkKit
import Derived.RegionTactic
import Derived.Deep.AppendLies
namespace Go.Proofs.YtanelokploifhaaDoor
open Go Go.RowKit

theorem m_bit (b : Bool) (w : World) : Calls Tryd.prog 48 #[.bool b] w fun e w' => e = .returned (.int .i64 (bI b)) ∧ w' = w := by
  go_enter Tryd.func48, Tryd.ntmps48
  cases b with
  | false => go_wp2; go_ret; exact ⟨rfl, rfl⟩
  | true => go_wp2; go_ret; exact ⟨rfl, rfl⟩
theorem cell_far {w : World} {a p : Addr} {v u : Value} (hne : p.block ≠ a.block) (h : w.cell? p = some u) : (w.setCell a v).cell? p = some u := by
  have hb := heap_setCell_other w a p.block v hne
  unfold World.cell? at h ⊢
  rw [hb]; exact h
/-- Number j of row i, as OwnG.at, and the row's block is not the table's. -/
theorem OwnG.at2 {w : World} {B : Nat} {v : Value} {m : List (List Int)} (h : OwnG w B v m) {i j : Nat} (hi : i < m.length) (hj : j < (m.getD i []).length) :
    ∃ g cap gi ci, v = .slice (some ⟨g, 0, none⟩) m.length cap ∧ w.cell? ⟨g, i, none⟩ = some (.slice (some ⟨gi, 0, none⟩) (m.getD i []).length ci) ∧ w.cell? ⟨gi, j, none⟩ = some (.int .i64 (cellOf m i j)) ∧ w.frozen? ⟨gi, j, none⟩ = false ∧ B ≤ gi ∧ gi < w.heap.size ∧ g ≠ gi ∧ B ≤ g ∧
      ∀ x : Int, OwnG (w.setCell ⟨gi, j, none⟩ (.int .i64 x)) B v (m.set i ((m.getD i []).set j x)) := by
  obtain ⟨g, cap, gi, ci, rfl, h1, h2, h3, h4, h5, h6⟩ := h.at hi hj
  obtain ⟨vs, ho, hr⟩ := h
  have hv : vs[i]? = some vs[i]! := by
    have := hr.len
    rw [getElem!_pos vs i (by omega)]
    exact List.getElem?_eq_getElem (by omega)
  have hc := (ho.cellAt i (by omega)).trans hv
  rw [h1] at hc
  have hrow := hr.row i _ hv
  rw [← Option.some.inj hc] at hrow
  refine ⟨g, cap, gi, ci, rfl, h1, h2, h3, h4, h5, ?_, (ho.lt g rfl).1, h6⟩
  rcases hrow.2 with e | e
  · cases e
  · intro e2
    exact e (by rw [e2]; rfl)

/-- The arcs so far. -/
def arcF (m : List (List Int)) (i j : Nat) : Nat → Nat → Int := fun a b => if a < i ∨ (a = i ∧ b < j) then bI (arcB m a b) else 0
theorem arcF_zero (m : List (List Int)) (n : Nat) : tabOf n n (arcF m 0 0) = tabOf n n fun _ _ => 0 := tabOf_congr fun i j _ _ => by unfold arcF; rw [if_neg (by omega)]
theorem arcF_next (m : List (List Int)) (n i j : Nat) (hi : i < n) : (tabOf n n (arcF m i j)).set i (((tabOf n n (arcF m i j)).getD i []).set j (bI (arcB m i j))) = tabOf n n (arcF m i (j + 1)) := by
  rw [tabOf_set _ _ hi]
  refine tabOf_congr fun a b _ _ => ?_
  unfold arcF
  by_cases e : a = i ∧ b = j
  · obtain ⟨rfl, rfl⟩ := e
    rw [if_pos ⟨rfl, rfl⟩, if_pos (by omega)]
  · rw [if_neg e]
    by_cases h : a < i ∨ (a = i ∧ b < j)
    · rw [if_pos h, if_pos (by omega)]
    · rw [if_neg h, if_neg (by omega)]
theorem arcF_row (m : List (List Int)) (n i : Nat) : tabOf n n (arcF m i n) = tabOf n n (arcF m (i + 1) 0) := tabOf_congr fun a b _ hb => by
  unfold arcF
  by_cases h : a < i ∨ (a = i ∧ b < n)
  · rw [if_pos h, if_pos (by omega)]
  · rw [if_neg h, if_neg (by omega)]
/-- The pairs that are joined by way of vertices below k, and below k + 1 ahead of i and j. -/
def viaF (m : List (List Int)) (k i j : Nat) : Nat → Nat → Int := fun a b => bI (if a < i ∨ (a = i ∧ b < j) then viaB m (k + 1) a b else viaB m k a b)
theorem viaF_zero (m : List (List Int)) (n : Nat) : tabOf n n (arcF m n 0) = tabOf n n (viaF m 0 0 0) := tabOf_congr fun a b ha _ => by
  unfold arcF viaF
  rw [if_pos (Or.inl ha), if_neg (by omega)]; rfl
theorem viaF_col (m : List (List Int)) (k i j a : Nat) : viaF m k i j a k = bI (viaB m k a k) := by
  unfold viaF
  split
  · rw [viaB_col]
  · rfl
theorem viaF_rowk (m : List (List Int)) (k i j b : Nat) : viaF m k i j k b = bI (viaB m k k b) := by
  unfold viaF
  split
  · rw [viaB_row]
  · rfl
theorem viaF_at (m : List (List Int)) (k i j : Nat) : viaF m k i j i j = bI (viaB m k i j) := by
  unfold viaF
  rw [if_neg (by omega)]
theorem viaF_next (m : List (List Int)) (n k i j : Nat) (hi : i < n) : (tabOf n n (viaF m k i j)).set i (((tabOf n n (viaF m k i j)).getD i []).set j (bI (viaB m k i j || (viaB m k i k && viaB m k k j)))) = tabOf n n (viaF m k i (j + 1)) := by
  rw [tabOf_set _ _ hi]
  refine tabOf_congr fun a b _ _ => ?_
  by_cases e : a = i ∧ b = j
  · obtain ⟨rfl, rfl⟩ := e
    rw [if_pos ⟨rfl, rfl⟩]
    unfold viaF
    rw [if_pos (by omega)]; rfl
  · rw [if_neg e]
    unfold viaF
    by_cases h : a < i ∨ (a = i ∧ b < j)
    · rw [if_pos h, if_pos (by omega)]
    · rw [if_neg h, if_neg (by omega)]
theorem viaF_row (m : List (List Int)) (n k i : Nat) : tabOf n n (viaF m k i n) = tabOf n n (viaF m k (i + 1) 0) := tabOf_congr fun a b _ hb => by
  unfold viaF
  by_cases h : a < i ∨ (a = i ∧ b < n)
  · rw [if_pos h, if_pos (by omega)]
  · rw [if_neg h, if_neg (by omega)]
theorem viaF_all (m : List (List Int)) (n k : Nat) : tabOf n n (viaF m k n 0) = tabOf n n (viaF m (k + 1) 0 0) := tabOf_congr fun a b ha _ => by
  unfold viaF
  rw [if_pos (Or.inl ha), if_neg (by omega)]
theorem viaF_end (m : List (List Int)) : tabOf m.length m.length (viaF m m.length 0 0) = reachM m := tabOf_congr fun a b _ _ => by
  unfold viaF reachB
  rw [if_neg (by omega)]

set_option maxRecDepth 100000 in
set_option maxHeartbeats 6400000 in
theorem spec_reach6 (A1 : Option Addr) (c1 : Nat) (m : List (List Int)) (hm : MatFacts m) (w : World) (h1 : GridS w A1 m) :
    Calls Tryd.prog 94 #[.slice A1 m.length c1] w (NewG (reachM m) w) := by
  have H1 := Lib.hid h1
  have HA := Lib.hid hm
  have HZ := Lib.hid (spec_zero m.length m.length (by have := hm.le; omega) (by have := hm.le; omega) w)
  have HBIT := Lib.hid m_bit
  have hand := bI_and
  have hor := bI_or
  have l1 := hm.le
  clear h1 hm
  go_enter Tryd.func94, Tryd.ntmps94
  go_wp2_with fail
  refine HZ.out.mono ?_
  rintro e w1 ⟨v, rfl, hown, b1⟩
  obtain ⟨A, c, rfl, -⟩ := hown.gridS
  rw [← arcF_zero m] at hown
  rw [tabOf_length] at hown ⊢
  have HO := Lib.hid hown
  have HB1 := Lib.hid b1
  clear hown b1
  go_wp2
  go_loopw [4] (fun iv wr => ∃ i : Nat, i ≤ m.length ∧ iv = .int .i64 i ∧ OwnG wr w.heap.size (.slice A m.length c) (tabOf m.length m.length (arcF m i 0)) ∧ Below w.heap.size w wr) (fun i _ => m.length - (intOf i).toNat)
  case atStart => exact ⟨0, Nat.zero_le _, rfl, HO.out, HB1.out⟩
  case round =>
    obtain ⟨i, hi, rfl, hown, hbl⟩ := hrel
    by_cases hil : i < m.length
    · have HO1 := Lib.hid hown
      have HB2 := Lib.hid hbl
      clear hown hbl
      obtain ⟨W1, rfl⟩ : ∃ W1 : World, W1 = wr := ⟨_, rfl⟩
      go_wp2
      go_loopw [5] (fun jv wr => ∃ j : Nat, j ≤ m.length ∧ jv = .int .i64 j ∧ OwnG wr w.heap.size (.slice A m.length c) (tabOf m.length m.length (arcF m i j)) ∧ Below w.heap.size w wr) (fun j _ => m.length - (intOf j).toNat)
      case atStart => exact ⟨0, Nat.zero_le _, rfl, HO1.out, HB2.out⟩
      case round =>
        obtain ⟨j, hj, rfl, hown, hbl⟩ := hrel
        by_cases hjl : j < m.length
        · have hrl : ((tabOf m.length m.length (arcF m i j)).getD i []).length = m.length := by rw [tabOf_row hil]; simp
          obtain ⟨g, cap, gi, ci, hv, k1, k2, kf, kb, kl, kne, kg, hset⟩ := hown.at2 (i := i) (j := j) (by rw [tabOf_length]; exact hil) (by rw [hrl]; exact hjl)
          rw [tabOf_length] at hv
          simp only [Value.slice.injEq, true_and] at hv
          obtain ⟨rfl, rfl⟩ := hv
          rw [hrl] at k1
          obtain ⟨p1, p2, p3, p4, p5, rfl, ka1, ka2, pb1, pb2⟩ := H1.out.num hil (j := j) (by rw [HA.out.row i hil]; exact hjl)
          have ka1' := (hbl.cell (p := ⟨p1, p2 + i, none⟩) pb1).trans ka1
          have ka2' := (hbl.cell (p := ⟨p3, p4 + j, none⟩) pb2).trans ka2
          rw [HA.out.row i hil] at ka1'
          have hs1 := hset (bI (arcB m i j))
          rw [arcF_next m _ i j hil] at hs1
          have HS := Lib.hid hs1
          have HB4 := Lib.hid hbl
          have n1 : p1 ≠ gi := by omega
          have n2 : p3 ≠ gi := by omega
          have HARC : Hid (arcB m i j = decide (0 < cellOf m i j)) := Lib.hid rfl
          clear hset hs1 hown hbl ka1 ka2
          generalize cellOf (tabOf m.length m.length (arcF m i j)) i j = T at *
          generalize cellOf m i j = x at *
          generalize arcB m i j = y at *
          have hy := HARC.out
          subst hy
          go_wp2
          go_region_held3 (fun w' => w'.cell? ⟨g, i, none⟩ = some (.slice (some ⟨gi, 0, none⟩) m.length ci) ∧ w'.cell? ⟨p1, p2 + i, none⟩ = some (.slice (some ⟨p3, p4, none⟩) m.length p5) ∧ w'.cell? ⟨p3, p4 + j, none⟩ = some (.int .i64 x)) (first | exact ⟨k1, ka1', ka2'⟩ | exact ⟨cell_far kne k1, cell_far n1 ka1', cell_far n2 ka2'⟩ | go_keep) (first | (go_at_call 48; refine (HBIT.out _ _).mono ?_; rintro e w2 ⟨rfl, rfl⟩))
          go_wp2
          go_roundw
          case rel => exact ⟨j + 1, by omega, by go_num, HS.out.drew, (HB4.out.setCell kb _).drew⟩
          case measure => simp [intOf]; omega
        · obtain rfl : j = m.length := by omega
          rw [arcF_row] at hown
          have HO3 := Lib.hid hown
          clear hown
          go_wp2
          go_roundw
          case rel => exact ⟨i + 1, by omega, by go_num, HO3.out, hbl⟩
          case measure => simp [intOf]; omega
    · obtain rfl : i = m.length := by omega
      rw [viaF_zero] at hown
      have HO2 := Lib.hid hown
      have HB2 := Lib.hid hbl
      clear hown hbl
      obtain ⟨W1, rfl⟩ : ∃ W1 : World, W1 = wr := ⟨_, rfl⟩
      go_wp2
      go_loopw [6] (fun kv wr => ∃ k : Nat, k ≤ m.length ∧ kv = .int .i64 k ∧ OwnG wr w.heap.size (.slice A m.length c) (tabOf m.length m.length (viaF m k 0 0)) ∧ Below w.heap.size w wr) (fun k _ => m.length - (intOf k).toNat)
      case atStart => exact ⟨0, Nat.zero_le _, rfl, HO2.out, HB2.out⟩
      case round =>
        obtain ⟨k, hk, rfl, hown, hbl⟩ := hrel
        by_cases hkl : k < m.length
        · have HO3 := Lib.hid hown
          have HB3 := Lib.hid hbl
          clear hown hbl
          obtain ⟨W2, rfl⟩ : ∃ W2 : World, W2 = wr := ⟨_, rfl⟩
          go_wp2
          go_loopw [7] (fun iv wr => ∃ i : Nat, i ≤ m.length ∧ iv = .int .i64 i ∧ OwnG wr w.heap.size (.slice A m.length c) (tabOf m.length m.length (viaF m k i 0)) ∧ Below w.heap.size w wr) (fun i _ => m.length - (intOf i).toNat)
          case atStart => exact ⟨0, Nat.zero_le _, rfl, HO3.out, HB3.out⟩
          case round =>
            obtain ⟨i, hi, rfl, hown, hbl⟩ := hrel
            by_cases hil : i < m.length
            · have HO4 := Lib.hid hown
              have HB4 := Lib.hid hbl
              clear hown hbl
              obtain ⟨W3, rfl⟩ : ∃ W3 : World, W3 = wr := ⟨_, rfl⟩
              go_wp2
              go_loopw [8] (fun jv wr => ∃ j : Nat, j ≤ m.length ∧ jv = .int .i64 j ∧ OwnG wr w.heap.size (.slice A m.length c) (tabOf m.length m.length (viaF m k i j)) ∧ Below w.heap.size w wr) (fun j _ => m.length - (intOf j).toNat)
              case atStart => exact ⟨0, Nat.zero_le _, rfl, HO4.out, HB4.out⟩
              case round =>
                obtain ⟨j, hj, rfl, hown, hbl⟩ := hrel
                by_cases hjl : j < m.length
                · have hrl : ∀ t, t < m.length → ((tabOf m.length m.length (viaF m k i j)).getD t []).length = m.length := fun t ht => by rw [tabOf_row ht]; simp
                  obtain ⟨g, cap, gi, ci, hv, k1, k2, kf, kb, kl, kne, kg, hset⟩ := hown.at2 (i := i) (j := j) (by rw [tabOf_length]; exact hil) (by rw [hrl i hil]; exact hjl)
                  obtain ⟨g2, cap2, gi2, ci2, hv2, k12, k22, _⟩ := hown.at2 (i := i) (j := k) (by rw [tabOf_length]; exact hil) (by rw [hrl i hil]; exact hkl)
                  obtain ⟨g3, cap3, gk, ck, hv3, k13, k23, _⟩ := hown.at2 (i := k) (j := j) (by rw [tabOf_length]; exact hkl) (by rw [hrl k hkl]; exact hjl)
                  rw [tabOf_length] at hv hv2 hv3
                  simp only [Value.slice.injEq, true_and] at hv hv2 hv3
                  obtain ⟨rfl, rfl⟩ := hv
                  obtain ⟨e2, rfl⟩ := hv2
                  obtain ⟨e3, rfl⟩ := hv3
                  simp only [Option.some.injEq, Addr.mk.injEq, and_true] at e2 e3
                  subst e2
                  subst e3
                  rw [k1] at k12
                  simp only [Option.some.injEq, Value.slice.injEq, Addr.mk.injEq, and_true, true_and] at k12
                  obtain ⟨rfl, rfl⟩ := k12
                  rw [hrl i hil] at k1
                  rw [hrl k hkl] at k13
                  rw [tabOf_cell hil hjl, viaF_at] at k2
                  rw [tabOf_cell hil hkl, viaF_col] at k22
                  rw [tabOf_cell hkl hjl, viaF_rowk] at k23
                  have hs1 := hset (bI (viaB m k i j || (viaB m k i k && viaB m k k j)))
                  rw [viaF_next m _ k i j hil] at hs1
                  have HS := Lib.hid hs1
                  have HB5 := Lib.hid hbl
                  clear hset hs1 hown hbl hrl
                  generalize viaB m k i j = x at *
                  generalize viaB m k i k = y at *
                  generalize viaB m k k j = z at *
                  go_wp2
                  go_region
                  go_wp2
                  go_roundw
                  case rel => exact ⟨j + 1, by omega, by go_num, HS.out.drew, (HB5.out.setCell kb _).drew⟩
                  case measure => simp [intOf]; omega
                · obtain rfl : j = m.length := by omega
                  rw [viaF_row] at hown
                  have HO5 := Lib.hid hown
                  clear hown
                  go_wp2
                  go_roundw
                  case rel => exact ⟨i + 1, by omega, by go_num, HO5.out, hbl⟩
                  case measure => simp [intOf]; omega
            · obtain rfl : i = m.length := by omega
              rw [viaF_all] at hown
              have HO5 := Lib.hid hown
              clear hown
              go_wp2
              go_roundw
              case rel => exact ⟨k + 1, by omega, by go_num, HO5.out, hbl⟩
              case measure => simp [intOf]; omega
        · obtain rfl : k = m.length := by omega
          rw [viaF_end] at hown
          have HO5 := Lib.hid hown
          clear hown
          go_wp2
          go_ret
          exact ⟨_, rfl, HO5.out, hbl⟩

set_option maxRecDepth 100000 in
set_option maxHeartbeats 800000 in
theorem spec_reachOf (A1 : Option Addr) (c1 : Nat) (m : List (List Int)) (hl : m.length ≤ 1048576) (ht : tot m ≤ 1048576) (w : World) (h1 : GridS w A1 m) :
    Calls Tryd.prog 86 #[.slice A1 m.length c1] w (NewG (reachS m) w) := by
  have I1 := Lib.hid (spec_isMatrix A1 c1 m (by omega) (fun k hk => by have := row_le_tot hk; omega) w h1)
  unfold reachS
  cases hm : isMat m with
  | false =>
    rw [hm] at I1
    rw [if_neg (by decide)]
    have HE := Lib.hid (ownG_empty w)
    clear h1 hm
    go_enter Tryd.func86, Tryd.ntmps86
    go_wp2_with fail
    refine I1.out.mono ?_
    rintro e w1 ⟨rfl, rfl⟩
    go_wp2
    go_ret
    exact ⟨_, rfl, HE.out, below_new⟩
  | true =>
    rw [hm] at I1
    rw [if_pos rfl]
    have HR := Lib.hid (spec_reach6 A1 c1 m (isMat_facts hm) w h1)
    clear h1 hm
    go_enter Tryd.func86, Tryd.ntmps86
    go_wp2_with fail
    refine I1.out.mono ?_
    rintro e w1 ⟨rfl, rfl⟩
    go_wp2_with fail
    refine HR.out.mono ?_
    rintro e w2 ⟨v, rfl, ho, hb⟩
    have HO := Lib.hid ho
    clear ho
    go_wp2
    go_ret
    exact ⟨_, rfl, HO.out, hb⟩
end Go.Proofs.YtanelokploifhaaDoor
namespace Go.Proofs.YtanelokploifhaaDoor
open Go Go.RowKit

section
variable {P : Program} {w : World}
theorem run_append_zero (t ty e : TypeId) (i : TypeInfo) (ht : P.underlying t = some (.slice e)) (hi : P.info? e = some i) (g n cap : Nat) (hn : n ≤ cap) (ad : Addr) (c : Nat) :
    (Builtin.append_ #[t, t] ty #[.slice (some ⟨g, 0, none⟩) n cap, .slice (some ad) 0 c]).run P w = .ok (.slice (some ⟨g, 0, none⟩) n cap) w := by
  simp [Builtin.append_, run_underlying ht, sizeOf, typeInfo, hi, Builtin.lenOf, Builtin.firstCells, hn, loadCells, loadCellsFrom, storeCells]
theorem wp_append_zero {o : Oper} {a : Act} {K : Act → World → Prop} {Q : Exit → Act → World → Prop} (s x : Operand) (t : TypeId)
    (ho : o.op = .call { callee := .builtin .append, args := #[s, x], argTypes := #[t, t] })
    (e : TypeId) (i : TypeInfo) (ht : P.underlying t = some (.slice e)) (hi : P.info? e = some i)
    (g n cap : Nat) (hn : n ≤ cap) (ad : Addr) (c : Nat) (hs : a.eval s = .slice (some ⟨g, 0, none⟩) n cap) (hx : a.eval x = .slice (some ad) 0 c)
    (h : K (a.put o.dst (.slice (some ⟨g, 0, none⟩) n cap)) w) : Oper.wp P o a w K Q := by
  have hrun := run_append_zero (P := P) (w := w) t o.type e i ht hi g n cap hn ad c
  unfold Oper.wp
  simp [execOp, ho, resolve, invoke, builtin, hs, hx, hrun, Result.andThen]
  exact h
theorem step_append_zero {ops : Array Oper} {o : Oper} {a : Act} {K : Act → World → Prop} {Q : Exit → Act → World → Prop} {E : Prop} (hgd : o.guard = none) (s x : Operand) (t : TypeId)
    (ho : o.op = .call { callee := .builtin .append, args := #[s, x], argTypes := #[t, t] })
    (e : TypeId) (i : TypeInfo) (ht : P.underlying t = some (.slice e)) (hi : P.info? e = some i)
    (g n cap : Nat) (hn : n ≤ cap) (ad : Addr) (c : Nat) (hs : a.eval s = .slice (some ⟨g, 0, none⟩) n cap) (hx : a.eval x = .slice (some ad) 0 c)
    (h : K (a.put o.dst (.slice (some ⟨g, 0, none⟩) n cap)) w) : if Region.wanted o (yielded ops a.tmps) = true then Oper.wp P o a w K Q else E := by
  have hw : Region.wanted o (yielded ops a.tmps) = true := by simp [Region.wanted, hgd]
  rw [if_pos hw]
  exact wp_append_zero s x t ho e i ht hi g n cap hn ad c hs hx h
theorem wpList_append_zero {ops : Array Oper} {rest : List Oper} {o : Oper} {a : Act} {Q : Exit → Act → World → Prop} (hgd : o.guard = none) (s x : Operand) (t : TypeId)
    (ho : o.op = .call { callee := .builtin .append, args := #[s, x], argTypes := #[t, t] })
    (e : TypeId) (i : TypeInfo) (ht : P.underlying t = some (.slice e)) (hi : P.info? e = some i)
    (g n cap : Nat) (hn : n ≤ cap) (ad : Addr) (c : Nat) (hs : a.eval s = .slice (some ⟨g, 0, none⟩) n cap) (hx : a.eval x = .slice (some ad) 0 c)
    (h : wpList P ops Q rest (a.put o.dst (.slice (some ⟨g, 0, none⟩) n cap)) w) : wpList P ops Q (o :: rest) a w :=
  wpList_plain hgd fun _ hK => wp_append_zero s x t ho e i ht hi g n cap hn ad c hs hx (hK _ _ h)
end
end Go.Proofs.YtanelokploifhaaDoor
namespace Go.Proofs.YtanelokploifhaaDoor
open Go Go.RowKit

theorem RowS.numR {w : World} {A : Option Addr} {xs : List Int} (h : RowS w A xs) {k : Nat} (hk : k < xs.length) : ∃ b off, A = some ⟨b, off, none⟩ ∧ w.cell? ⟨b, off + k, none⟩ = some (.int .i64 (xs.getD k 0)) ∧ b < w.heap.size := by
  obtain ⟨b, off, hA, hat, hb⟩ := h (by omega)
  exact ⟨b, off, hA, hat k hk, hb⟩
theorem fits_not {p : List Int} {most k : Nat} (h : (decide (-1000000 ≤ p.getD k 0) && decide (p.getD k 0 ≤ 1000000)) = false) : fitsB p most = false := by
  cases e : fitsB p most with
  | false => rfl
  | true =>
    have := (fits_at e).2 k
    rw [decide_eq_true (by omega : -1000000 ≤ p.getD k 0), decide_eq_true (by omega : p.getD k 0 ≤ 1000000)] at h
    cases h
theorem fits_end {p : List Int} {most : Nat} (h : ∀ j, j < p.length → -1000000 ≤ p.getD j 0 ∧ p.getD j 0 ≤ 1000000) : fitsB p most = decide (p.length ≤ most) := by
  unfold fitsB
  have : (p.all fun x => decide (-1000000 ≤ x ∧ x ≤ 1000000)) = true := by
    rw [List.all_eq_true]
    intro x hx
    obtain ⟨k, hk, rfl⟩ := List.getElem_of_mem hx
    have := h k hk
    rw [List.getD_eq_getElem?_getD, List.getElem?_eq_getElem hk, Option.getD_some] at this
    rw [decide_eq_true_iff]; exact this
  rw [this, Bool.true_and]

theorem nums_one (xs : List Int) : ∀ u ∈ xs.map (Value.int .i64), u.oneCell' = true := by
  intro u hu
  obtain ⟨x, _, rfl⟩ := List.mem_map.1 hu
  rfl
theorem OwnA.cells {w : World} {B g cap : Nat} {p : List Int} (h : OwnA w B (.slice (some ⟨g, 0, none⟩) p.length cap) p) (lo k : Nat) : ∀ j u, (((p.drop lo).take k).map (Value.int .i64))[j]? = some u → w.cell? ((⟨g, lo, none⟩ : Addr).add j) = some u := by
  intro j u hu
  rw [List.getElem?_map] at hu
  obtain ⟨x, hx, rfl⟩ := Option.map_eq_some_iff.1 hu
  rw [List.getElem?_take] at hx
  split at hx
  · rw [List.getElem?_drop] at hx
    have hj := (List.getElem?_eq_some_iff.1 hx).1
    rw [show (⟨g, lo, none⟩ : Addr).add j = ⟨g, lo + j, none⟩ by unfold Addr.add; split <;> simp_all, World.ownsRow.cellAt h (lo + j) (by omega), List.getElem?_map, hx]; rfl
  · cases hx
theorem OwnA.num {w : World} {B g cap : Nat} {p : List Int} (h : OwnA w B (.slice (some ⟨g, 0, none⟩) p.length cap) p) {k : Nat} (hk : k < p.length) : w.cell? ⟨g, k, none⟩ = some (.int .i64 (p.getD k 0)) := by
  rw [World.ownsRow.cellAt h k (by omega), List.getElem?_map, List.getElem?_eq_getElem hk, List.getD_eq_getElem?_getD, List.getElem?_eq_getElem hk]; rfl
theorem OwnA.room {w : World} {B g cap : Nat} {p : List Int} (h : OwnA w B (.slice (some ⟨g, 0, none⟩) p.length cap) p) : p.length ≤ cap ∧ cap ≤ maxLen := by
  rcases h.2 with ⟨h, _⟩ | ⟨g', cap', cur, hv, _, _, h1, h2, _⟩
  · cases h
  · simp only [Value.slice.injEq] at hv
    obtain ⟨_, _, rfl⟩ := hv
    exact ⟨h1, h2⟩
/-- A new slice that holds nothing. -/
theorem emptyA {B : Nat} {w : World} (hB : B ≤ w.heap.size) : (w.alloc (.cells #[] 3)).ownsRow B 3 1 (.slice (some ⟨w.heap.size, 0, none⟩) 0 0) 0 [] := World.ownsRow_made (base := B) (e := 3) (size := 1) w #[] 0 hB (by unfold maxLen; omega) rfl
theorem cut_stop {p : List Int} {k : Nat} (hk : k ≤ p.length) (h : cutLen p p.length = cutLen p k) (hs : k = 0 ∨ p.getD (k - 1) 0 ≠ 0) : cutL p = p.take k := by
  unfold cutL
  rw [h]
  cases k with
  | zero => rfl
  | succ k =>
    rw [cutLen, if_neg]
    rcases hs with h | h
    · omega
    · exact h

def geo : Nat → Nat
  | 0 => 0
  | n + 1 => geo n * 1000 + 1000000
theorem hor_abs {p : List Int} {x : Int} (hp : ∀ k, (p.getD k 0).natAbs ≤ 1000000) (hx : x.natAbs ≤ 1000) : ∀ n, (hor p x n).natAbs ≤ geo n
  | 0 => Nat.le_refl _
  | n + 1 => by
    have h1 := hor_abs hp hx n
    have h2 := hp (p.length - 1 - n)
    have h3 : (hor p x n * x).natAbs ≤ geo n * 1000 := by rw [Int.natAbs_mul]; exact Nat.mul_le_mul h1 hx
    rw [hor, geo]
    omega
theorem geo_le {n : Nat} (h : n ≤ 5) : geo n ≤ 1001001001001000000 := by
  have : n = 0 ∨ n = 1 ∨ n = 2 ∨ n = 3 ∨ n = 4 ∨ n = 5 := by omega
  rcases this with rfl | rfl | rfl | rfl | rfl | rfl <;> decide
theorem hor_step {p : List Int} (x : Int) {j : Nat} (hj : j < p.length) : hor p x (p.length - (j + 1)) * x + p.getD j 0 = hor p x (p.length - j) := by
  rw [show p.length - j = (p.length - (j + 1)) + 1 by omega, hor, show p.length - 1 - (p.length - (j + 1)) = j by omega]

theorem small_not {m : List (List Int)} {k t : Nat} (hk : k < m.length) (ht : t < (m.getD k []).length) (h : 9 < cellOf m k t) : smallM m = false := by
  cases e : smallM m with
  | false => rfl
  | true =>
    unfold smallM at e
    rw [Bool.and_eq_true, List.all_eq_true] at e
    have h1 := e.2 m[k] (List.getElem_mem hk)
    have e2 : m.getD k [] = m[k] := by simp [List.getD, hk]
    rw [e2] at ht
    rw [List.all_eq_true] at h1
    have h2 := h1 (m[k])[t] (List.getElem_mem ht)
    rw [decide_eq_true_iff] at h2
    unfold cellOf at h
    rw [e2, List.getD_eq_getElem?_getD, List.getElem?_eq_getElem ht, Option.getD_some] at h
    omega
theorem small_end {m : List (List Int)} (h : ∀ i, i < m.length → ∀ j, j < (m.getD i []).length → cellOf m i j ≤ 9) : smallM m = (isMat m && decide (m.length ≤ 4)) := by
  unfold smallM
  have : (m.all fun r => r.all fun x => decide (x ≤ 9)) = true := by
    rw [List.all_eq_true]
    intro r hr
    obtain ⟨i, hi, rfl⟩ := List.getElem_of_mem hr
    rw [List.all_eq_true]
    intro x hx
    obtain ⟨j, hj, rfl⟩ := List.getElem_of_mem hx
    have e2 : m.getD i [] = m[i] := by simp [List.getD, hi]
    have h1 := h i hi j (by rw [e2]; exact hj)
    unfold cellOf at h1
    rw [e2, List.getD_eq_getElem?_getD, List.getElem?_eq_getElem hj, Option.getD_some] at h1
    rw [decide_eq_true_iff]; exact h1
  rw [this, Bool.and_true]

set_option maxRecDepth 100000 in
set_option maxHeartbeats 1600000 in
theorem spec_isSmall (A : Option Addr) (c : Nat) (m : List (List Int)) (hn : m.length ≤ 1099511627776) (ht : ∀ k, k < m.length → (m.getD k []).length ≤ 1099511627776) (w : World) (hg : GridS w A m) :
    Calls Tryd.prog 23 #[.slice A m.length c] w fun e w' => e = .returned (.bool (smallM m)) ∧ w' = w := by
  have HG := Lib.hid hg
  have HT := Lib.hid ht
  have HI := Lib.hid (spec_isMatrix A c m hn ht w hg)
  clear hg ht
  go_enter Tryd.func23, Tryd.ntmps23
  go_wp2
  go_loop [3] (fun i => ∃ k : Nat, k ≤ m.length ∧ i = .int .i64 k ∧ Hid (∀ i, i < k → ∀ j, j < (m.getD i []).length → cellOf m i j ≤ 9)) (fun i => m.length - (intOf i).toNat)
  case atStart => exact ⟨0, Nat.zero_le _, rfl, Lib.hid (fun j h => by omega)⟩
  case round =>
    obtain ⟨k, hk, rfl, hto⟩ := hrel
    by_cases hlt : k < m.length
    · obtain ⟨b, off, A', c', rfl, hc, hrow, hb⟩ := HG.out.row hlt
      have hxl := HT.out k hlt
      have HNO : Hid (∀ t, t < (m.getD k []).length → 9 < (m.getD k []).getD t 0 → smallM m = false) := Lib.hid fun t h1 h2 => small_not hlt h1 h2
      have HNX : Hid ((∀ j, j < (m.getD k []).length → (m.getD k []).getD j 0 ≤ 9) → ∀ i, i < k + 1 → ∀ j, j < (m.getD i []).length → cellOf m i j ≤ 9) := Lib.hid fun h i hi j hj => by
        by_cases e : i = k
        · subst e; exact h j hj
        · exact hto.out i (by omega) j hj
      have HR := Lib.hid hrow
      clear hrow hto
      generalize m.getD k [] = x at *
      go_wp2
      go_loop [4] (fun j => ∃ t : Nat, t ≤ x.length ∧ j = .int .i64 t ∧ Hid (∀ u, u < t → x.getD u 0 ≤ 9)) (fun j => x.length - (intOf j).toNat)
      case atStart => exact ⟨0, Nat.zero_le _, rfl, Lib.hid (fun j h => by omega)⟩
      case round =>
        obtain ⟨t, htl, rfl, hok⟩ := hrel
        by_cases htt : t < x.length
        · obtain ⟨b2, off2, rfl, hcx, hb2⟩ := HR.out.numR htt
          have HNO2 := Lib.hid (HNO.out t htt)
          have HOK : Hid (x.getD t 0 ≤ 9 → ∀ u, u < t + 1 → x.getD u 0 ≤ 9) := Lib.hid (fun h u hu => by
            by_cases e : u = t
            · subst e; exact h
            · exact hok.out u (by omega))
          clear hok
          generalize x.getD t 0 = y at *
          by_cases hy : 9 < y
          · have HE := Lib.hid (HNO2.out hy)
            go_wp2
            go_ret
            exact ⟨by rw [HE.out]; rfl, rfl⟩
          · have HOK2 := Lib.hid (HOK.out (by omega))
            go_wp2
            go_round
            case rel => exact ⟨t + 1, by omega, by go_num, HOK2⟩
            case measure => simp [intOf]; omega
        · obtain rfl : t = x.length := by omega
          have HNX2 := Lib.hid (HNX.out hok.out)
          clear hok
          go_wp2
          go_round
          case rel => exact ⟨k + 1, by omega, by go_num, HNX2⟩
          case measure => simp [intOf]; omega
    · obtain rfl : k = m.length := by omega
      have HE := Lib.hid (small_end hto.out)
      clear hto
      cases hm : isMat m with
      | false =>
        rw [hm] at HI HE
        go_wp2_with fail
        refine HI.out.mono ?_
        rintro e w1 ⟨rfl, rfl⟩
        go_wp2
        go_ret
        exact ⟨by rw [HE.out]; rfl, rfl⟩
      | true =>
        rw [hm] at HI HE
        have HE2 : Hid (smallM m = decide ((m.length : Int) ≤ 4)) := Lib.hid (by rw [HE.out, Bool.true_and]; exact decide_eq_decide.2 (by omega))
        go_wp2_with fail
        refine HI.out.mono ?_
        rintro e w1 ⟨rfl, rfl⟩
        go_wp2
        go_ret
        exact ⟨by rw [HE2.out]; rfl, rfl⟩
end Go.Proofs.YtanelokploifhaaDoor
namespace Go.Proofs.YtanelokploifhaaDoor
open Go Go.RowKit

/-- The slice A holds the table m, and each row has room for itself. -/
def GridC (w : World) (A : Option Addr) (m : List (List Int)) : Prop := 0 < m.length → ∃ b off, A = some ⟨b, off, none⟩ ∧ (∀ k, k < m.length → ∃ A' c, w.cell? ⟨b, off + k, none⟩ = some (.slice A' (m.getD k []).length c) ∧ RowS w A' (m.getD k []) ∧ (m.getD k []).length ≤ c) ∧ b < w.heap.size
theorem GridC.below {w w' : World} {A : Option Addr} {m : List (List Int)} (h : GridC w A m) (hb : Below w.heap.size w w') : GridC w' A m := by
  intro hp
  obtain ⟨b, off, hA, hs, hg⟩ := h hp
  exact ⟨b, off, hA, fun k hk => by
    obtain ⟨A', c, h1, h2, h3⟩ := hs k hk
    exact ⟨A', c, (hb.cell (p := ⟨b, off + k, none⟩) hg).trans h1, h2.below hb, h3⟩, Nat.lt_of_lt_of_le hg hb.size⟩
theorem GridC.gridS {w : World} {A : Option Addr} {m : List (List Int)} (h : GridC w A m) : GridS w A m := by
  intro hp
  obtain ⟨b, off, hA, hs, hg⟩ := h hp
  exact ⟨b, off, hA, fun k hk => by
    obtain ⟨A', c, h1, h2, _⟩ := hs k hk
    exact ⟨A', c, h1, h2⟩, hg⟩
/-- Row k, which is not empty. -/
theorem GridC.row {w : World} {A : Option Addr} {m : List (List Int)} (h : GridC w A m) {k : Nat} (hk : k < m.length) (hp : 0 < (m.getD k []).length) :
    ∃ b off b2 off2 c, A = some ⟨b, off, none⟩ ∧ w.cell? ⟨b, off + k, none⟩ = some (.slice (some ⟨b2, off2, none⟩) (m.getD k []).length c) ∧ IntsAt w b2 off2 (m.getD k []) ∧ (m.getD k []).length ≤ c ∧ b < w.heap.size ∧ b2 < w.heap.size := by
  obtain ⟨b, off, hA, hs, hg⟩ := h (by omega)
  obtain ⟨A', c, h1, h2, h3⟩ := hs k hk
  obtain ⟨b2, off2, rfl, h4, h5⟩ := h2 hp
  exact ⟨b, off, b2, off2, c, hA, h1, h4, h3, hg, h5⟩
theorem row_room {w : World} {B e n : Nat} {v : Value} {xs : List Value} (h : w.ownsRow B e 1 v n xs) : ∃ A c, v = .slice A n c ∧ n ≤ c := by
  rcases h.2 with ⟨rfl, h0⟩ | ⟨g, cap, cur, rfl, _, _, h1, _⟩
  · exact ⟨none, 0, by rw [h0], by omega⟩
  · exact ⟨_, cap, rfl, h1⟩
theorem OwnG.gridC {w : World} {B : Nat} {v : Value} {m : List (List Int)} (h : OwnG w B v m) : ∃ A c, v = .slice A m.length c ∧ GridC w A m := by
  obtain ⟨vs, ho, hr⟩ := h
  rcases ho.2 with ⟨rfl, h0⟩ | ⟨g, cap, cur, rfl, _, _, _⟩
  · exact ⟨none, 0, by rw [h0], fun hp => by omega⟩
  · refine ⟨some ⟨g, 0, none⟩, cap, rfl, fun _ => ⟨g, 0, rfl, fun k hk => ?_, (ho.lt g rfl).2⟩⟩
    have hl := hr.len
    have hk' : vs[k]? = some vs[k] := List.getElem?_eq_getElem (by omega)
    have h1 := (hr.row k _ hk').1
    obtain ⟨A, c, e, hs⟩ := rowS_of_owns h1
    obtain ⟨A2, c2, e2, hc⟩ := row_room h1
    rw [e] at e2
    simp only [Value.slice.injEq, true_and] at e2
    obtain ⟨_, rfl⟩ := e2
    refine ⟨A, c, ?_, hs, hc⟩
    rw [Nat.zero_add, ho.cellAt k (by omega), hk', e]
/-- The value is a slice that holds the table, and each row has room for itself. -/
def GridVC (w : World) (v : Value) (m : List (List Int)) : Prop := ∃ A c, v = .slice A m.length c ∧ GridC w A m
theorem GridVC.gridV {w : World} {v : Value} {m : List (List Int)} (h : GridVC w v m) : GridV w v m := by
  obtain ⟨A, c, hv, hg⟩ := h
  exact ⟨A, c, hv, hg.gridS⟩
theorem GridVC.below {w w' : World} {v : Value} {m : List (List Int)} (h : GridVC w v m) (hb : Below w.heap.size w w') : GridVC w' v m := by
  obtain ⟨A, c, hv, hg⟩ := h
  exact ⟨A, c, hv, hg.below hb⟩
theorem OwnG.gridVC {w : World} {B : Nat} {v : Value} {m : List (List Int)} (h : OwnG w B v m) : GridVC w v m := h.gridC
/-- Row k, empty or not. -/
theorem GridC.rowAt {w : World} {A : Option Addr} {m : List (List Int)} (h : GridC w A m) {k : Nat} (hk : k < m.length) :
    ∃ b off A' c, A = some ⟨b, off, none⟩ ∧ w.cell? ⟨b, off + k, none⟩ = some (.slice A' (m.getD k []).length c) ∧ RowS w A' (m.getD k []) ∧ (m.getD k []).length ≤ c ∧ b < w.heap.size := by
  obtain ⟨b, off, hA, hs, hg⟩ := h (by omega)
  obtain ⟨A', c, h1, h2, h3⟩ := hs k hk
  exact ⟨b, off, A', c, hA, h1, h2, h3, hg⟩
/-- The value is a slice that holds the list, and it has room for itself. -/
def RowVC (w : World) (v : Value) (xs : List Int) : Prop := ∃ A c, v = .slice A xs.length c ∧ RowS w A xs ∧ xs.length ≤ c
theorem RowVC.rowV {w : World} {v : Value} {xs : List Int} (h : RowVC w v xs) : RowV w v xs := by
  obtain ⟨A, c, hv, hr, _⟩ := h
  exact ⟨A, c, hv, hr⟩
theorem RowVC.below {w w' : World} {v : Value} {xs : List Int} (h : RowVC w v xs) (hb : Below w.heap.size w w') : RowVC w' v xs := by
  obtain ⟨A, c, hv, hr, hc⟩ := h
  exact ⟨A, c, hv, hr.below hb, hc⟩
theorem OwnA.rowVC {w : World} {B : Nat} {v : Value} {xs : List Int} (h : OwnA w B v xs) : RowVC w v xs := by
  obtain ⟨A, c, rfl, hr⟩ := h.rowV
  obtain ⟨A2, c2, e, hc⟩ := row_room h
  simp only [Value.slice.injEq, true_and] at e
  obtain ⟨_, rfl⟩ := e
  exact ⟨A, c, rfl, hr, hc⟩
end Go.Proofs.YtanelokploifhaaDoor
namespace Go.Proofs.YtanelokploifhaaDoor
open Go Go.RowKit

/-! ### Without the first row and a column -/
def lessRow (r : List Int) (j : Nat) : List Int := r.take j ++ r.drop (j + 1)
theorem lessRow_is {r : List Int} {n j : Nat} (hr : r.length = n + 1) (hj : j ≤ n) : lessRow r j = (List.range n).map fun b => r.getD (if b < j then b else b + 1) 0 := by
  refine List.ext_getElem (by simp [lessRow]; omega) fun t h1 h2 => ?_
  simp only [lessRow, List.getElem_map, List.getElem_range, List.getD_eq_getElem?_getD]
  have hl : (r.take j).length = j := by rw [List.length_take]; omega
  have ht : t < n := by simpa using h2
  by_cases h : t < j
  · rw [if_pos h, List.getElem_append_left (by omega), List.getElem_take, List.getElem?_eq_getElem (by omega)]; rfl
  · rw [if_neg h, List.getElem_append_right (by omega), List.getElem_drop, List.getElem?_eq_getElem (by omega), Option.getD_some]
    congr 1
    omega
def lessM (t : List (List Int)) (n j k : Nat) : List (List Int) := tabOf (k - 1) n (lessF (cellOf t) j)
theorem lessM_next {t : List (List Int)} {n j k : Nat} (hr : (t.getD (k + 1) []).length = n + 1) (hj : j ≤ n) : lessM t n j (k + 2) = lessM t n j (k + 1) ++ [lessRow (t.getD (k + 1) []) j] := by
  unfold lessM
  rw [show k + 2 - 1 = (k + 1 - 1) + 1 by omega, tabOf_next, lessRow_is hr hj]
  rfl
theorem ints_part {w : World} {b off : Nat} {r : List Int} (h : IntsAt w b off r) (lo k : Nat) : ∀ j u, (((r.drop lo).take k).map (Value.int .i64))[j]? = some u → w.cell? ((⟨b, off + lo, none⟩ : Addr).add j) = some u := by
  intro j u hu
  rw [List.getElem?_map] at hu
  obtain ⟨x, hx, rfl⟩ := Option.map_eq_some_iff.1 hu
  rw [List.getElem?_take] at hx
  split at hx
  · rw [List.getElem?_drop] at hx
    have hj := (List.getElem?_eq_some_iff.1 hx).1
    have hc := h (lo + j) hj
    rw [List.getD_eq_getElem?_getD, hx] at hc
    rw [show (⟨b, off + lo, none⟩ : Addr).add j = ⟨b, off + (lo + j), none⟩ by unfold Addr.add; split <;> simp_all <;> omega, hc]; rfl
  · cases hx

theorem own_less {w : World} {B j : Nat} {v : Value} {r : List Int} {m : Nat} (h : w.ownsRow B 3 1 v (j + m) ((r.take j).map (Value.int .i64) ++ (r.drop (j + 1)).map (Value.int .i64))) : w.ownsRow B 3 1 v (lessRow r j).length ((lessRow r j).map (Value.int .i64)) := by
  have hl := h.1
  rw [List.length_append, List.length_map, List.length_map, List.length_take, List.length_drop] at hl
  have e : (lessRow r j).length = j + m := by
    unfold lessRow
    rw [List.length_append, List.length_take, List.length_drop]
    omega
  rw [e]
  unfold lessRow
  rw [List.map_append]
  exact h

set_option maxRecDepth 100000 in
set_option maxHeartbeats 3200000 in
theorem spec_minor (A : Option Addr) (c : Nat) (t : List (List Int)) (n : Nat) (hn : n ≤ 3) (hl : t.length = n + 1) (hr : ∀ i, i < n + 1 → (t.getD i []).length = n + 1) (j : Nat) (hj : j ≤ n) (w : World) (hg : GridC w A t) :
    Calls Tryd.prog 80 #[.slice A (n + 1) c, .int .i64 0, .int .i64 (j : Int)] w (NewG (tabOf n n (lessF (cellOf t) j)) w) := by
  obtain ⟨i0, hi, hz0, hz1, hz2⟩ := info_parts infoSl
  obtain ⟨j0, hj0, hy0, hy1, hy2⟩ := info_parts infoInt
  have HG := Lib.hid hg
  have HR := Lib.hid hr
  have HL := Lib.hid hl
  have HB0 : Hid (Below w.heap.size w (w.alloc (.cells #[] 48))) := Lib.hid below_new
  have HE : Hid ((w.alloc (.cells #[] 48)).ownsRow w.heap.size 48 1 (.slice (some ⟨w.heap.size, 0, none⟩) 0 0) 0 []) := Lib.hid (World.ownsRow_made (base := w.heap.size) (e := 48) (size := 1) w #[] 0 (Nat.le_refl _) (by unfold maxLen; omega) rfl)
  have hend : tabOf n n (lessF (cellOf t) j) = lessM t n j (n + 1) := rfl
  rw [hend]
  clear hg hr hl hend
  go_enter Tryd.func80, Tryd.ntmps80
  go_wp2
  go_loopw [7, 8] (fun v iv wr => ∃ (k : Nat) (vs : List Value), k ≤ n + 1 ∧ iv = .int .i64 (k : Int) ∧ wr.ownsRow w.heap.size 48 1 v (lessM t n j k).length vs ∧ RowsOwn wr w.heap.size v.ownBlock vs (lessM t n j k) ∧ Hid (Below w.heap.size w wr)) (fun _ iv _ => n + 1 - (intOf iv).toNat)
  case atStart => exact ⟨0, [], Nat.zero_le _, rfl, HE.out, RowsOwn.nil _ _ _, HB0⟩
  case round =>
    obtain ⟨k, vs, hk, rfl, hO, hR, hbl⟩ := hrel
    obtain ⟨W0, rfl⟩ : ∃ W0 : World, W0 = wr := ⟨_, rfl⟩
    by_cases hlt : k < n + 1
    · cases k with
      | zero =>
        have HO := Lib.hid hO
        have HRW := Lib.hid hR
        clear hO hR
        go_wp2
        go_roundw
        case rel => exact ⟨1, vs, by omega, by go_num, HO.out, HRW.out, hbl⟩
        case measure => simp [intOf]
      | succ k =>
        have hrk := HR.out (k + 1) hlt
        have HNX := Lib.hid (lessM_next (t := t) (n := n) (j := j) (k := k) hrk hj)
        have hml : (lessM t n j (k + 1)).length = k := by unfold lessM; rw [tabOf_length]; omega
        obtain ⟨b, off, b2, off2, c2, rfl, k1, hat, hc2, hb1, hb2⟩ := HG.out.row (k := k + 1) (by rw [HL.out]; exact hlt) (by omega)
        rw [hrk] at k1 hc2
        have HAT := Lib.hid hat
        have HO := Lib.hid hO
        have HRW := Lib.hid hR
        have hw := hbl.out.size
        have k2 := (hbl.out.cell (p := ⟨b, off + (k + 1), none⟩) hb1).trans k1
        have HB1 : Hid (Below W0.heap.size W0 (W0.alloc (.cells #[] 3))) := Lib.hid below_new
        have HN := Lib.hid (emptyA (B := W0.heap.size) (w := W0) (Nat.le_refl _))
        have hb1' : b < W0.heap.size := by omega
        have hb2' : b2 < W0.heap.size := by omega
        clear hO hR hat k1
        have HML2 : Hid ((lessM t n j (k + 2)).length = k + 1) := Lib.hid (by unfold lessM; rw [tabOf_length]; omega)
        have hne : ((k : Int) + 1 == 0) = false := by rw [beq_eq_false_iff_ne]; omega
        obtain ⟨r, hrr⟩ : ∃ r, t.getD (k + 1) [] = r := ⟨_, rfl⟩
        rw [hrr] at HNX HAT hrk
        clear hrr
        have HC1 : Hid (∀ w', Below W0.heap.size W0 w' → ∀ i u, ((r.take j).map (Value.int .i64))[i]? = some u → w'.cell? ((⟨b2, off2, none⟩ : Addr).add i) = some u) := Lib.hid fun w' hb => ints_part ((HAT.out.below hbl.out hb2).below hb hb2') 0 j
        have HLX : Hid (r.length = n + 1) := Lib.hid hrk
        have HC2 : Hid (∀ w', Below W0.heap.size W0 w' → ∀ i u, ((r.drop (j + 1)).map (Value.int .i64))[i]? = some u → w'.cell? ((⟨b2, off2 + (j + 1), none⟩ : Addr).add i) = some u) := Lib.hid fun w' hb => by
          have h := ints_part ((HAT.out.below hbl.out hb2).below hb hb2') (j + 1) (n - j)
          rwa [List.take_of_length_le (by rw [List.length_drop]; omega)] at h
        have HL1 : Hid ((r.take j).length = j) := Lib.hid (by rw [List.length_take]; omega)
        have HL2 : Hid ((r.drop (j + 1)).length = n - j) := Lib.hid (by rw [List.length_drop]; omega)
        by_cases hcap : c2 = j + 1
        · subst hcap
          obtain rfl : n = j := by omega
          go_wp2_with (first | (at_builtin; refine wpList_append_own _ rfl (.tmp 20) (.tmp 26) 48 rfl W0.heap.size 3 j0 (.int .i64 0) 1 8 Tryd.underlying48 hj0 hy0 hy1 hy2 rfl (by decide) _ _ _ rfl HN.out ⟨b2, off2, none⟩ _ _ ((r.take n).map (.int .i64)) rfl (by rw [List.length_map, HL1.out]; omega) (HC1.out _ HB1.out) (nums_one _) (by unfold maxLen; omega) (by omega) (by simp) ?_; intro v1 w1 ho1 hg1 _; have hbA : Below W0.heap.size W0 w1 := HB1.out.grown hg1 (by simp) (fun q hq => by have h2 : W0.heap.size = q := Option.some.inj hq; omega); have k3 := (hbA.cell (p := ⟨b, off + (k + 1), none⟩) hb1').trans k2; rw [Nat.zero_add, List.nil_append] at ho1; have HO1 := Lib.hid ho1; have HBA := Lib.hid hbA; have hs1 := hbA.size; clear ho1 hg1 hbA) | (at_builtin; refine wpList_append_own _ rfl (.tmp 29) (.tmp 36) 48 rfl W0.heap.size 3 j0 (.int .i64 0) 1 8 Tryd.underlying48 hj0 hy0 hy1 hy2 rfl (by decide) _ _ _ rfl HO1.out ⟨b2, off2, none⟩ _ _ ((r.drop (n + 1)).map (.int .i64)) rfl (by rw [List.length_map, HL2.out]; omega) (fun i u hu => by rw [List.drop_of_length_le (by omega)] at hu; simp at hu) (nums_one _) (by unfold maxLen; omega) (by omega) hs1 ?_; intro v2 w2 ho2 hg2 _; have hbB : Below W0.heap.size W0 w2 := HBA.out.grown hg2 hs1 (fun q hq => (HO1.out.lt q hq).1); have hu : w2.ownsRow W0.heap.size 3 1 v2 (lessRow r n).length ((lessRow r n).map (Value.int .i64)) := own_less ho2; obtain ⟨A2, cc2, rfl⟩ := slice_of_owns hu; have HU := Lib.hid hu; have HBB := Lib.hid hbB; have HOK := Lib.hid (kept_below HO.out hbB); have hs2 := hbB.size; clear ho2 hg2 hbB hu) | (at_builtin; refine wpList_append_lies _ rfl (.tmp 28) (.tmp 38) 24 rfl w.heap.size 48 i0 (.slice none 0 0) 1 24 Tryd.underlying24 hi hz0 hz1 hz2 rfl (by decide) _ _ _ rfl (HOK.out.alloc _) ⟨w2.heap.size, 0, none⟩ 1 1 [.slice A2 (lessRow r n).length cc2] rfl rfl (World.news_of_block (cs := #[.slice A2 (lessRow r n).length cc2]) (t := 48) (fr := (0, 0)) (heap_alloc_new w2 _)) (by simp [Value.oneCell']) (by decide) (by unfold maxLen; omega) (by omega) (by simp; omega) (w2.heap.size + 1) (by simp) ?_; intro gg cap w6 ho6 hg6 hat6 hlt6; have HRN := Lib.hid (own_append (w := w2.alloc (.cells #[.slice A2 (lessRow r n).length cc2] 48)) HO.out HRW.out (HBB.out.alloc hs2 _) (World.ownsRow.alloc (World.ownsRow.mono HU.out hw) _) (fun g hg => (HU.out.lt g hg).1) ho6 hg6 (by rw [World.size_alloc]; exact hat6)); have HM := Lib.hid ho6; have HB6 : Hid (Below w.heap.size w w6) := Lib.hid (((hbl.out.trans (HBB.out.mono hw)).alloc (by omega) _).grown hg6 (by simp; omega) fun q hq => (HO.out.lt q hq).1); clear ho6 hg6 hat6))
          go_roundw
          case rel => exact ⟨k + 2, _, by omega, by go_num, by rw [HML2.out]; have h := HM.out; rw [hml] at h; exact h, by rw [HNX.out]; exact HRN.out, HB6⟩
          case measure => simp [intOf]; omega
        · go_wp2_with (first | (at_builtin; refine wpList_append_own _ rfl (.tmp 20) (.tmp 26) 48 rfl W0.heap.size 3 j0 (.int .i64 0) 1 8 Tryd.underlying48 hj0 hy0 hy1 hy2 rfl (by decide) _ _ _ rfl HN.out ⟨b2, off2, none⟩ _ _ ((r.take j).map (.int .i64)) rfl (by rw [List.length_map, HL1.out]; omega) (HC1.out _ HB1.out) (nums_one _) (by unfold maxLen; omega) (by omega) (by simp) ?_; intro v1 w1 ho1 hg1 _; have hbA : Below W0.heap.size W0 w1 := HB1.out.grown hg1 (by simp) (fun q hq => by have h2 : W0.heap.size = q := Option.some.inj hq; omega); have k3 := (hbA.cell (p := ⟨b, off + (k + 1), none⟩) hb1').trans k2; rw [Nat.zero_add, List.nil_append] at ho1; have HO1 := Lib.hid ho1; have HBA := Lib.hid hbA; have hs1 := hbA.size; clear ho1 hg1 hbA) | (at_builtin; refine wpList_append_own _ rfl (.tmp 29) (.tmp 36) 48 rfl W0.heap.size 3 j0 (.int .i64 0) 1 8 Tryd.underlying48 hj0 hy0 hy1 hy2 rfl (by decide) _ _ _ rfl HO1.out ⟨b2, off2 + (j + 1), none⟩ _ _ ((r.drop (j + 1)).map (.int .i64)) rfl (by rw [List.length_map, HL2.out]; omega) (HC2.out _ HBA.out) (nums_one _) (by unfold maxLen; omega) (by omega) hs1 ?_; intro v2 w2 ho2 hg2 _; have hbB : Below W0.heap.size W0 w2 := HBA.out.grown hg2 hs1 (fun q hq => (HO1.out.lt q hq).1); have hu : w2.ownsRow W0.heap.size 3 1 v2 (lessRow r j).length ((lessRow r j).map (Value.int .i64)) := own_less ho2; obtain ⟨A2, cc2, rfl⟩ := slice_of_owns hu; have HU := Lib.hid hu; have HBB := Lib.hid hbB; have HOK := Lib.hid (kept_below HO.out hbB); have hs2 := hbB.size; clear ho2 hg2 hbB hu) | (at_builtin; refine wpList_append_lies _ rfl (.tmp 28) (.tmp 38) 24 rfl w.heap.size 48 i0 (.slice none 0 0) 1 24 Tryd.underlying24 hi hz0 hz1 hz2 rfl (by decide) _ _ _ rfl (HOK.out.alloc _) ⟨w2.heap.size, 0, none⟩ 1 1 [.slice A2 (lessRow r j).length cc2] rfl rfl (World.news_of_block (cs := #[.slice A2 (lessRow r j).length cc2]) (t := 48) (fr := (0, 0)) (heap_alloc_new w2 _)) (by simp [Value.oneCell']) (by decide) (by unfold maxLen; omega) (by omega) (by simp; omega) (w2.heap.size + 1) (by simp) ?_; intro gg cap w6 ho6 hg6 hat6 hlt6; have HRN := Lib.hid (own_append (w := w2.alloc (.cells #[.slice A2 (lessRow r j).length cc2] 48)) HO.out HRW.out (HBB.out.alloc hs2 _) (World.ownsRow.alloc (World.ownsRow.mono HU.out hw) _) (fun g hg => (HU.out.lt g hg).1) ho6 hg6 (by rw [World.size_alloc]; exact hat6)); have HM := Lib.hid ho6; have HB6 : Hid (Below w.heap.size w w6) := Lib.hid (((hbl.out.trans (HBB.out.mono hw)).alloc (by omega) _).grown hg6 (by simp; omega) fun q hq => (HO.out.lt q hq).1); clear ho6 hg6 hat6))
          go_roundw
          case rel => exact ⟨k + 2, _, by omega, by go_num, by rw [HML2.out]; have h := HM.out; rw [hml] at h; exact h, by rw [HNX.out]; exact HRN.out, HB6⟩
          case measure => simp [intOf]; omega
    · obtain rfl : k = n + 1 := by omega
      have HOG : Hid (OwnG W0 w.heap.size _ (lessM t n j (n + 1))) := Lib.hid ⟨vs, hO, hR⟩
      clear hO hR
      go_wp2
      go_ret
      exact ⟨_, rfl, HOG.out, hbl.out⟩
end Go.Proofs.YtanelokploifhaaDoor
namespace Go.Proofs.YtanelokploifhaaDoor
open Go Go.RowKit

theorem w64 (n : Int) (h : -9223372036854775808 ≤ n ∧ n ≤ 9223372036854775807) : IntKind.i64.wrap n = n := by rw [IntKind.wrap_i64]; omega
theorem det_step {n : Nat} (t : List (List Int)) (j : Nat) : detF n (cellOf (tabOf n n (lessF (cellOf t) j))) = detF n (lessF (cellOf t) j) := detF_congr fun _ _ ha hb => tabOf_cell ha hb
theorem detB_le {n : Nat} (h : n ≤ 4) : detB 10000 n ≤ 240000000000000000 := by
  have hn : n = 0 ∨ n = 1 ∨ n = 2 ∨ n = 3 ∨ n = 4 := by omega
  rcases hn with rfl | rfl | rfl | rfl | rfl <;> decide
theorem detB_le3 {n : Nat} (h : n ≤ 3) : detB 10000 n ≤ 6000000000000 := by
  have hn : n = 0 ∨ n = 1 ∨ n = 2 ∨ n = 3 := by omega
  rcases hn with rfl | rfl | rfl | rfl <;> decide
/-- The sum by the first row, so far. -/
def detTo (t : List (List Int)) (n k : Nat) : Int := sumTo k fun j => sgn j * cellOf t 0 j * detF n (lessF (cellOf t) j)
theorem detTo_next (t : List (List Int)) (n k : Nat) : detTo t n (k + 1) = detTo t n k + sgn k * cellOf t 0 k * detF n (lessF (cellOf t) k) := rfl
theorem less_abs {t : List (List Int)} {n B : Nat} (hab : ∀ i j, i < n + 1 → j < n + 1 → (cellOf t i j).natAbs ≤ B) (j : Nat) : ∀ a b, a < n → b < n → (lessF (cellOf t) j a b).natAbs ≤ B := fun a b ha hb => by
  unfold lessF
  exact hab _ _ (by omega) (by split <;> omega)

set_option maxRecDepth 100000 in
set_option maxHeartbeats 3200000 in
theorem spec_det : ∀ (n : Nat), n ≤ 4 → ∀ (A : Option Addr) (c : Nat) (t : List (List Int)), t.length = n → (∀ i, i < n → (t.getD i []).length = n) → (∀ i j, i < n → j < n → (cellOf t i j).natAbs ≤ 10000) → ∀ (w : World), GridC w A t →
    Calls Tryd.prog 65 #[.slice A n c] w (Scalar (.int .i64 (detF n (cellOf t))) w) := by
  intro n
  induction n with
  | zero =>
    intro _ A c t _ _ _ w _
    go_enter Tryd.func65, Tryd.ntmps65
    go_wp2
    go_ret
    exact ⟨rfl, Below.refl _ _⟩
  | succ n ih =>
    intro hn A c t hl hr hab w hg
    have HIH : Hid (∀ (A : Option Addr) (c : Nat) (j : Nat) (w' : World), GridC w' A (tabOf n n (lessF (cellOf t) j)) → Calls Tryd.prog 65 #[.slice A n c] w' (Scalar (.int .i64 (detF n (lessF (cellOf t) j))) w')) := Lib.hid fun A c j w' hg' => by
      have h := ih (by omega) A c (tabOf n n (lessF (cellOf t) j)) (tabOf_length _ _ _) (fun i hi => by rw [tabOf_row hi]; simp) (fun a b ha hb => by rw [tabOf_cell ha hb]; exact less_abs hab j a b ha hb) w' hg'
      rwa [det_step] at h
    have HMI : Hid (∀ (j : Nat) (w' : World), j ≤ n → GridC w' A t → Calls Tryd.prog 80 #[.slice A (n + 1) c, .int .i64 0, .int .i64 (j : Int)] w' (NewG (tabOf n n (lessF (cellOf t) j)) w')) := Lib.hid fun j w' hj hg' => spec_minor A c t n (by omega) hl hr j hj w' hg'
    have HG := Lib.hid hg
    have HL := Lib.hid hl
    have HR := Lib.hid hr
    have HAB := Lib.hid hab
    have HDB : Hid (∀ j, (detF n (lessF (cellOf t) j)).natAbs ≤ 6000000000000) := Lib.hid fun j => Nat.le_trans (detF_abs (less_abs hab j)) (detB_le3 (by omega))
    have hend : detF (n + 1) (cellOf t) = detTo t n (n + 1) := rfl
    rw [hend]
    have hnz : ((n : Int) + 1 == 0) = false := by rw [beq_eq_false_iff_ne]; omega
    clear hg hl hr hab ih hend
    go_enter Tryd.func65, Tryd.ntmps65
    go_wp2
    go_loopw [3, 4, 5] (fun sv gv jv wr => ∃ j : Nat, j ≤ n + 1 ∧ jv = .int .i64 (j : Int) ∧ sv = .int .i64 (detTo t n j) ∧ gv = .int .i64 (sgn j) ∧ Below w.heap.size w wr) (fun _ _ jv _ => n + 1 - (intOf jv).toNat)
    case atStart => exact ⟨0, Nat.zero_le _, rfl, rfl, rfl, Below.refl _ _⟩
    case round =>
      obtain ⟨j, hj, rfl, rfl, rfl, hbl⟩ := hrel
      by_cases hlt : j < n + 1
      · obtain ⟨b, off, b2, off2, c2, rfl, k1, hat, hc2, hb1, hb2⟩ := HG.out.row (k := 0) (by rw [HL.out]; omega) (by rw [HR.out 0 (by omega)]; omega)
        have k2 := hat j (by rw [HR.out 0 (by omega)]; exact hlt)
        rw [HR.out 0 (by omega)] at k1
        have hS : (detTo t n j).natAbs ≤ j * 60000000000000000 := sumTo_abs fun k hk => term_abs (B := 10000) (D := 6000000000000) (sgn_two k) (HAB.out 0 k (by omega) (by omega)) (HDB.out k)
        have hD := HDB.out j
        have hX := HAB.out 0 j (by omega) hlt
        have hTT := term_abs (B := 10000) (D := 6000000000000) (sgn_two j) hX hD
        have hSX : (sgn j * cellOf t 0 j).natAbs ≤ 10000 := by
          rcases sgn_two j with e | e <;> rw [e] <;> omega
        have hs2 := sgn_two j
        have HSN := Lib.hid (sgn_next j)
        have HNX := Lib.hid (detTo_next t n j)
        have HGR : Hid (∀ w', Below wr.heap.size wr w' → GridC w' (some ⟨b, off, none⟩) t) := Lib.hid fun w' hb => HG.out.below (hbl.trans (hb.mono hbl.size))
        have hw := hbl.size
        have k1' := (hbl.cell (p := ⟨b, off + 0, none⟩) hb1).trans k1
        have k2' := (hbl.cell (p := ⟨b2, off2 + j, none⟩) hb2).trans k2
        have hb1' : b < wr.heap.size := by omega
        have hb2' : b2 < wr.heap.size := by omega
        have HBL := Lib.hid hbl
        have HIHj := Lib.hid fun A c w' => HIH.out A c j w'
        clear k1 k2 hat hbl HIH
        rw [show (t.getD 0 []).getD j 0 = cellOf t 0 j from rfl] at k2'
        rw [Nat.add_zero] at k1'
        generalize cellOf t 0 j = x at *
        generalize detF n (lessF (cellOf t) j) = d at *
        generalize detTo t n j = S at *
        generalize sgn j = s at *
        have hS1 : -240000000000000000 ≤ S ∧ S ≤ 240000000000000000 := by omega
        have hT1 : -60000000000000000 ≤ s * x * d ∧ s * x * d ≤ 60000000000000000 := by omega
        have hX1 : -10000 ≤ s * x ∧ s * x ≤ 10000 := by omega
        have hs1 : -1 ≤ s ∧ s ≤ 1 := by omega
        obtain ⟨hSa, hSb⟩ := hS1
        obtain ⟨hTa, hTb⟩ := hT1
        obtain ⟨hXa, hXb⟩ := hX1
        obtain ⟨hsa, hsb⟩ := hs1
        clear hS hD hX hTT hSX hs2
        have HWR : Hid (IntKind.i64.wrap (S + IntKind.i64.wrap (IntKind.i64.wrap (s * x) * d)) = S + s * x * d) := Lib.hid (by rw [w64 (s * x) (by omega), w64 (s * x * d) (by omega), w64 _ (by omega)])
        by_cases hx : x = 0
        · subst hx
          have HNX2 : Hid (detTo t n (j + 1) = S) := Lib.hid (by rw [HNX.out]; simp)
          go_wp2
          go_roundw
          case rel => exact ⟨j + 1, by omega, by go_num, by rw [HNX2.out], by rw [HSN.out], HBL.out⟩
          case measure => simp [intOf]; omega
        · have y0 := k1'
          have y1 := k2'
          go_wp2
          go_region_held3 (fun w' => w'.cell? ⟨b, off, none⟩ = some (.slice (some ⟨b2, off2, none⟩) (n + 1) c2) ∧ w'.cell? ⟨b2, off2 + j, none⟩ = some (.int .i64 x)) (first | exact ⟨y0, y1⟩ | exact ⟨z0, z1⟩ | go_keep) (first | (go_at_call 80; refine (HMI.out j _ (by omega) (HGR.out _ (by first | exact Below.refl _ _ | exact (Below.refl _ _).drew))).mono ?_; rintro e w6 ⟨v6, rfl, ho6, hb6⟩; obtain ⟨A6, c6, rfl, hg6⟩ := ho6.gridC; rw [tabOf_length]; have hq6 : Below wr.heap.size wr w6 := (Below.refl wr.heap.size wr).drew.trans hb6; have hs6 := hq6.size; have z0 := (hq6.cell (p := ⟨b, off, none⟩) hb1').trans k1'; have z1 := (hq6.cell (p := ⟨b2, off2 + j, none⟩) hb2').trans k2') | (go_at_call 65; refine (HIHj.out A6 c6 w6 hg6).mono ?_; rintro e w7 ⟨rfl, hb7⟩; have hq7 : Below wr.heap.size wr w7 := hq6.trans (hb7.mono hs6); have y0 := (hq7.cell (p := ⟨b, off, none⟩) hb1').trans k1'; have y1 := (hq7.cell (p := ⟨b2, off2 + j, none⟩) hb2').trans k2'))
          go_wp2
          go_roundw
          case rel => exact ⟨j + 1, by omega, by go_num, by rw [HNX.out]; first | rfl | rw [HWR.out], by rw [HSN.out], HBL.out.trans (hq7.mono hw)⟩
          case measure => simp [intOf]; omega
      · obtain rfl : j = n + 1 := by omega
        generalize detTo t n (n + 1) = S at *
        go_wp2
        go_ret
        exact ⟨rfl, hbl⟩
end Go.Proofs.YtanelokploifhaaDoor
namespace Go.Proofs.YtanelokploifhaaDoor
open Go Go.RowKit

theorem bit_true (w : World) : Calls Tryd.prog 48 #[.bool true] w fun e w' => e = .returned (.int .i64 1) ∧ w' = w := m_bit true w
theorem bit_false (w : World) : Calls Tryd.prog 48 #[.bool false] w fun e w' => e = .returned (.int .i64 0) ∧ w' = w := m_bit false w
theorem upTo_more {W1 w3 w6 : World} {gg cap k : Nat} {v : Value} (hB : Below W1.heap.size W1 w3) (hO : w3.ownsRow W1.heap.size 3 1 v k ((upTo k).map (Value.int .i64))) (o : Obj)
    (ho : w6.ownsRow W1.heap.size 3 1 (.slice (some ⟨gg, 0, none⟩) (k + 1) cap) (k + 1) ((upTo k).map (Value.int .i64) ++ [.int .i64 (k : Int)])) (hg : (w3.alloc o).grownBy w6 v.ownBlock) :
    w6.ownsRow W1.heap.size 3 1 (.slice (some ⟨gg, 0, none⟩) (k + 1) cap) (k + 1) ((upTo (k + 1)).map (Value.int .i64)) ∧ Below W1.heap.size W1 w6 ∧ RowS w6 (some ⟨gg, 0, none⟩) (upTo (k + 1)) := by
  have hs := hB.size
  have h1 : w6.ownsRow W1.heap.size 3 1 (.slice (some ⟨gg, 0, none⟩) (k + 1) cap) (k + 1) ((upTo (k + 1)).map (Value.int .i64)) := by
    rw [upTo_next, List.map_append]; exact ho
  exact ⟨h1, (hB.alloc hs o).grown hg (by simp; omega) fun q hq => (hO.lt q hq).1, fun _ => ⟨gg, 0, rfl, IntsAt.of_owns h1 (by rw [upTo_len]), (h1.lt gg rfl).2⟩⟩

set_option maxRecDepth 100000 in
set_option maxHeartbeats 6400000 in
theorem spec_below8 (A1 : Option Addr) (c1 : Nat) (m : List (List Int)) (hm : smallM m = true) (q d : Int) (hq : 0 ≤ q ∧ q ≤ 3601) (hd : 1 ≤ d ∧ d ≤ 100) (w : World) (h1 : GridS w A1 m) :
    Calls Tryd.prog 43 #[.slice A1 m.length c1, .int .i64 q, .int .i64 d] w (Scalar (.bool (belB m q d)) w) := by
  have hmf := isMat_facts (small_facts hm).1
  have hc9 := (small_facts hm).2.2
  have l4 := (small_facts hm).2.1
  have H1 := Lib.hid h1
  have HR := Lib.hid hmf.row
  have HZ := Lib.hid (spec_zero m.length m.length (by omega) (by omega) w)
  have HBT := Lib.hid bit_true
  have HBF := Lib.hid bit_false
  have HC9 := Lib.hid hc9
  obtain ⟨f, hf⟩ : ∃ f, negE (cellOf m) q d = f := ⟨_, rfl⟩
  have HFC : Hid (∀ i j, f i j = (if i = j then q else 0) - d * cellOf m i j) := Lib.hid fun i j => by rw [← hf]; rfl
  have HSQ : Hid (∀ k, k ≤ m.length → Sq 10000 k (partM (tabOf m.length m.length f) (upTo k))) := Lib.hid fun k hk => by rw [← hf]; exact lead_sq hm hq ⟨by omega, hd.2⟩ hk
  have HBE : Hid (belB m q d = true ↔ ∀ i, i < m.length → 0 < detF (i + 1) f) := Lib.hid (by rw [← hf]; exact belB_to)
  obtain ⟨q0, q1⟩ := hq
  obtain ⟨d0, d1⟩ := hd
  clear h1 hm hmf hc9 hf
  go_enter Tryd.func43, Tryd.ntmps43
  go_wp2_with fail
  refine HZ.out.mono ?_
  rintro e w1 ⟨v, rfl, hown, b1⟩
  obtain ⟨A, c, rfl, -⟩ := hown.gridS
  rw [← fillF_zero f] at hown
  rw [tabOf_length] at hown ⊢
  have HO := Lib.hid hown
  have HB1 := Lib.hid b1
  clear hown b1
  go_wp2
  go_loopw [8] (fun iv wr => ∃ i : Nat, i ≤ m.length ∧ iv = .int .i64 i ∧ OwnG wr w.heap.size (.slice A m.length c) (tabOf m.length m.length (fillF f i 0)) ∧ Below w.heap.size w wr) (fun i _ => m.length - (intOf i).toNat)
  case atStart => exact ⟨0, Nat.zero_le _, rfl, HO.out, HB1.out⟩
  case round =>
    obtain ⟨i, hi, rfl, hown, hbl⟩ := hrel
    by_cases hil : i < m.length
    · have HO1 := Lib.hid hown
      have HB2 := Lib.hid hbl
      clear hown hbl
      obtain ⟨W1, rfl⟩ : ∃ W1 : World, W1 = wr := ⟨_, rfl⟩
      go_wp2
      go_loopw [9] (fun jv wr => ∃ j : Nat, j ≤ m.length ∧ jv = .int .i64 j ∧ OwnG wr w.heap.size (.slice A m.length c) (tabOf m.length m.length (fillF f i j)) ∧ Below w.heap.size w wr) (fun j _ => m.length - (intOf j).toNat)
      case atStart => exact ⟨0, Nat.zero_le _, rfl, HO1.out, HB2.out⟩
      case round =>
        obtain ⟨j, hj, rfl, hown, hbl⟩ := hrel
        by_cases hjl : j < m.length
        · have hrl : ((tabOf m.length m.length (fillF f i j)).getD i []).length = m.length := by rw [tabOf_row hil]; simp
          obtain ⟨g, cap, gi, ci, hv, k1, k2, kf, kb, kl, kne, kg, hset⟩ := hown.at2 (i := i) (j := j) (by rw [tabOf_length]; exact hil) (by rw [hrl]; exact hjl)
          rw [tabOf_length] at hv
          simp only [Value.slice.injEq, true_and] at hv
          obtain ⟨rfl, rfl⟩ := hv
          rw [hrl] at k1
          obtain ⟨p1, p2, p3, p4, p5, rfl, ka1, ka2, pb1, pb2⟩ := H1.out.num hil (j := j) (by rw [HR.out i hil]; exact hjl)
          have ka1' := (hbl.cell (p := ⟨p1, p2 + i, none⟩) pb1).trans ka1
          have ka2' := (hbl.cell (p := ⟨p3, p4 + j, none⟩) pb2).trans ka2
          rw [HR.out i hil] at ka1'
          have hs1 := hset (f i j)
          rw [fillF_next f _ i j hil] at hs1
          have hfc := HFC.out i j
          obtain ⟨x0, x9⟩ := HC9.out i j hil hjl
          have HB4 := Lib.hid hbl
          have n1 : p1 ≠ gi := by omega
          have n2 : p3 ≠ gi := by omega
          clear hset hown hbl ka1 ka2
          generalize cellOf (tabOf m.length m.length (fillF f i j)) i j = T at *
          generalize cellOf m i j = x at *
          have p0 : 0 ≤ d * x := Int.mul_nonneg (by omega) x0
          have p9 : d * x ≤ 100 * 9 := Int.le_trans (Int.mul_le_mul_of_nonneg_right d1 x0) (Int.mul_le_mul_of_nonneg_left x9 (by decide))
          have w1 : IntKind.i64.wrap q = q := by rw [IntKind.wrap_i64]; omega
          have w2 : IntKind.i64.wrap (d * x) = d * x := by rw [IntKind.wrap_i64]; omega
          by_cases e : i = j
          · subst e
            rw [if_pos rfl] at hfc
            rw [hfc] at hs1
            have HS := Lib.hid hs1
            have w3 : IntKind.i64.wrap (q - d * x) = q - d * x := by rw [IntKind.wrap_i64]; omega
            clear hs1 hfc p0 p9
            go_wp2
            go_region_held3 (fun w' => w'.cell? ⟨g, i, none⟩ = some (.slice (some ⟨gi, 0, none⟩) m.length ci) ∧ w'.cell? ⟨p1, p2 + i, none⟩ = some (.slice (some ⟨p3, p4, none⟩) m.length p5) ∧ w'.cell? ⟨p3, p4 + i, none⟩ = some (.int .i64 x)) (first | exact ⟨k1, ka1', ka2'⟩ | exact ⟨cell_far kne k1, cell_far n1 ka1', cell_far n2 ka2'⟩ | go_keep) (first | (go_at_call 48; refine (HBT.out _).mono ?_; rintro e w2 ⟨rfl, rfl⟩))
            go_wp2
            go_roundw
            case rel => exact ⟨i + 1, by omega, by go_num, HS.out.drew, (HB4.out.setCell kb _).drew⟩
            case measure => simp [intOf]; omega
          · rw [if_neg e] at hfc
            have hfc' : f i j = -(d * x) := by rw [hfc]; omega
            rw [hfc'] at hs1
            have HS := Lib.hid hs1
            have w3 : IntKind.i64.wrap (-(d * x)) = -(d * x) := by rw [IntKind.wrap_i64]; omega
            have w4 : IntKind.i64.wrap 0 = 0 := by rw [IntKind.wrap_i64]; omega
            have hij : ((i : Int) == (j : Int)) = false := by rw [beq_eq_false_iff_ne]; omega
            clear hs1 hfc hfc' p0 p9
            go_wp2
            go_region_held3 (fun w' => w'.cell? ⟨g, i, none⟩ = some (.slice (some ⟨gi, 0, none⟩) m.length ci) ∧ w'.cell? ⟨p1, p2 + i, none⟩ = some (.slice (some ⟨p3, p4, none⟩) m.length p5) ∧ w'.cell? ⟨p3, p4 + j, none⟩ = some (.int .i64 x)) (first | exact ⟨k1, ka1', ka2'⟩ | exact ⟨cell_far kne k1, cell_far n1 ka1', cell_far n2 ka2'⟩ | go_keep) (first | (go_at_call 48; refine (HBF.out _).mono ?_; rintro e w2 ⟨rfl, rfl⟩))
            go_wp2
            go_roundw
            case rel => exact ⟨j + 1, by omega, by go_num, HS.out.drew, (HB4.out.setCell kb _).drew⟩
            case measure => simp [intOf]; omega
        · obtain rfl : j = m.length := by omega
          rw [fillF_row] at hown
          have HO3 := Lib.hid hown
          clear hown
          go_wp2
          go_roundw
          case rel => exact ⟨i + 1, by omega, by go_num, HO3.out, hbl⟩
          case measure => simp [intOf]; omega
    · obtain rfl : i = m.length := by omega
      rw [fillF_all] at hown
      obtain ⟨A', c', hvv, hg⟩ := hown.gridC
      rw [tabOf_length] at hvv
      simp only [Value.slice.injEq, true_and] at hvv
      obtain ⟨rfl, rfl⟩ := hvv
      have HG := Lib.hid hg
      have HB2 := Lib.hid hbl
      clear hown hbl hg
      obtain ⟨W1, rfl⟩ : ∃ W1 : World, W1 = wr := ⟨_, rfl⟩
      have HI0 := Lib.hid (World.ownsRow_made (base := W1.heap.size) (e := 3) (size := 1) W1 #[] 0 (Nat.le_refl _) (by unfold maxLen; omega) rfl)
      obtain ⟨j0, hj, hy0, hy1, hy2⟩ := info_parts infoInt
      have HPA : Hid (∀ (k : Nat) (Al : Option Addr) (cl : Nat) (w' : World), k ≤ m.length → Below W1.heap.size W1 w' → RowS w' Al (upTo k) → Calls Tryd.prog 66 #[.slice A m.length c, .slice Al k cl] w' (NewG (partM (tabOf m.length m.length f) (upTo k)) w')) := Lib.hid fun k Al cl w' hk hb hr => by
        have h := spec_partR A c (tabOf m.length m.length f) (fun i hi => by rw [tabOf_length] at hi ⊢; rw [tabOf_row hi]; simp) Al cl (upTo k) (by rw [upTo_len]; omega) (fun a ha => by rw [upTo_len] at ha; rw [upTo_at ha, tabOf_length]; omega) w' ((HG.out.below hb).gridS) hr
        rw [tabOf_length, upTo_len] at h
        exact h
      have HDE : Hid (∀ (k : Nat) (A' : Option Addr) (c' : Nat) (w' : World), k ≤ m.length → GridC w' A' (partM (tabOf m.length m.length f) (upTo k)) → Calls Tryd.prog 65 #[.slice A' k c'] w' (Scalar (.int .i64 (detF k f)) w')) := Lib.hid fun k A' c' w' hk hg => by
        have hs := HSQ.out k hk
        have h := spec_det k (by omega) A' c' _ hs.len hs.row hs.cell w' hg
        rwa [detF_congr (g := f) (lead_part f hk).2.2] at h
      have HPL : Hid (∀ k, k ≤ m.length → (partM (tabOf m.length m.length f) (upTo k)).length = k) := Lib.hid fun k hk => (lead_part f hk).1
      clear H1 HR HZ HBT HBF HC9 HFC HSQ HO HB1
      go_wp2
      go_loopw [10, 11] (fun u iv wr => ∃ k : Nat, k ≤ m.length ∧ iv = .int .i64 (k : Int) ∧ wr.ownsRow W1.heap.size 3 1 u k ((upTo k).map (Value.int .i64)) ∧ Below W1.heap.size W1 wr ∧ Hid (∀ i, i < k → 0 < detF (i + 1) f)) (fun _ iv _ => m.length - (intOf iv).toNat)
      case atStart => exact ⟨0, Nat.zero_le _, rfl, HI0.out, (Below.refl _ _).alloc (Nat.le_refl _) _, Lib.hid (fun i hi => by omega)⟩
      case round =>
        obtain ⟨k, hk, rfl, hU, hb4, hpos⟩ := hrel
        by_cases hkl : k < m.length
        · have HU := Lib.hid hU
          have HB4 := Lib.hid hb4
          have hs4 := hb4.size
          have C1 := Lib.hid (fun Al cl w' => HPA.out (k + 1) Al cl w' (by omega))
          have C2 := Lib.hid (fun A' c' w' => HDE.out (k + 1) A' c' w' (by omega))
          have HPL1 := Lib.hid (HPL.out (k + 1) (by omega))
          have HNX : Hid (0 < detF (k + 1) f → ∀ i, i < k + 1 → 0 < detF (i + 1) f) := Lib.hid fun h i hi => by
            by_cases e : i = k
            · subst e; exact h
            · exact hpos.out i (by omega)
          have HBAD : Hid (¬ 0 < detF (k + 1) f → belB m q d = false) := Lib.hid fun h => by
            rw [Bool.eq_false_iff]
            exact fun hb => h (HBE.out.1 hb k hkl)
          clear hU hb4 hpos
          generalize detF (k + 1) f = dt at *
          generalize partM (tabOf m.length m.length f) (upTo (k + 1)) = pt at *
          go_wp2_with (at_builtin; refine wpList_append_lies _ rfl (.tmp 58) (.tmp 60) 48 rfl W1.heap.size 3 j0 (.int .i64 0) 1 8 Tryd.underlying48 hj hy0 hy1 hy2 rfl (by decide) _ _ _ rfl (HU.out.alloc _) ⟨wr.heap.size, 0, none⟩ 1 1 [.int .i64 (k : Int)] rfl rfl (World.news_of_block (cs := #[.int .i64 (k : Int)]) (t := 3) (fr := (0, 0)) (heap_alloc_new wr _)) (by simp [Value.oneCell']) (by decide) (by unfold maxLen; omega) (by omega) (by simp; omega) (wr.heap.size + 1) (by simp) ?_; intro gg cap w6 ho6 hg6 hat6 hlt6; have HT := Lib.hid (upTo_more HB4.out HU.out _ ho6 hg6); clear ho6 hg6 hat6)
          have D1 := Lib.hid (C1.out (some ⟨gg, 0, none⟩) cap w6 HT.out.2.1 HT.out.2.2)
          go_wp2_with fail
          refine D1.out.mono ?_
          rintro e w7 ⟨v7, rfl, ho7, hb7⟩
          obtain ⟨A7, c7, rfl, hg7⟩ := ho7.gridC
          rw [HPL1.out]
          have D2 := Lib.hid (C2.out A7 c7 w7 hg7)
          have HB7 := Lib.hid (HT.out.2.1.trans (hb7.mono HT.out.2.1.size))
          have HU7 := Lib.hid (kept_below HT.out.1 hb7)
          clear ho7 hg7 hb7 C1 C2 D1
          go_wp2_with fail
          refine D2.out.mono ?_
          rintro e w8 ⟨rfl, hb8⟩
          have HB8 := Lib.hid (HB7.out.trans (hb8.mono HB7.out.size))
          have HU8 := Lib.hid (kept_below HU7.out hb8)
          clear hb8 D2
          by_cases hpd : 0 < dt
          · have hle : ¬ dt ≤ 0 := by omega
            have HN := Lib.hid (HNX.out hpd)
            go_wp2
            go_roundw
            case rel => exact ⟨k + 1, by omega, by go_num, HU8.out, HB8.out, HN⟩
            case measure => simp [intOf]; omega
          · have hle : dt ≤ 0 := by omega
            have HB : Hid (belB m q d = false) := Lib.hid (HBAD.out (by omega))
            have HBL := Lib.hid (below_behind HB2.out HB8.out)
            go_wp2
            go_ret
            exact ⟨by rw [HB.out]; rfl, HBL.out⟩
        · obtain rfl : k = m.length := by omega
          have HB : Hid (belB m q d = true) := Lib.hid (HBE.out.2 hpos.out)
          have HBL := Lib.hid (below_behind HB2.out hb4)
          clear hU hpos
          go_wp2
          go_ret
          exact ⟨by rw [HB.out]; rfl, HBL.out⟩
end Go.Proofs.YtanelokploifhaaDoor
namespace Go.Proofs.YtanelokploifhaaDoor
open Go Go.RowKit

theorem spec_inI (x lo hi : Int) (w : World) :
    Calls Tryd.prog 42 #[.int .i64 x, .int .i64 lo, .int .i64 hi] w fun e w' => e = .returned (.bool (decide (lo ≤ x ∧ x ≤ hi))) ∧ w' = w := by
  have hd : decide (lo ≤ x ∧ x ≤ hi) = (decide (lo ≤ x) && decide (x ≤ hi)) := by
    rw [Bool.eq_iff_iff, Bool.and_eq_true, decide_eq_true_iff, decide_eq_true_iff, decide_eq_true_iff]
  rw [hd]
  go_enter Tryd.func42, Tryd.ntmps42
  cases h1 : decide (lo ≤ x) with
  | false => go_wp2; go_ret; exact ⟨rfl, rfl⟩
  | true => go_wp2; go_ret; exact ⟨rfl, rfl⟩
/-- The comparison of two numbers, -2 where one of them is below 0. -/
def cmpI (x y : Int) : Int := if x < 0 ∨ y < 0 then -2 else if y < x then 1 else if x < y then -1 else 0
def cmpS (a b : List (List Int)) (d : Int) : Int := cmpI (floorS a d) (floorS b d)
theorem floorS_range (m : List (List Int)) (d : Int) : -1 ≤ floorS m d ∧ floorS m d ≤ 3600 := by
  unfold floorS
  split
  · next h =>
    rw [Bool.and_eq_true, decide_eq_true_iff] at h
    have := (floor_is h.1 h.2.1).2.2
    omega
  · omega

set_option maxRecDepth 100000 in
set_option maxHeartbeats 1600000 in
theorem spec_isBelow (A : Option Addr) (c : Nat) (m : List (List Int)) (hn : m.length ≤ 1048576) (ht : ∀ k, k < m.length → (m.getD k []).length ≤ 1099511627776) (q d : Int) (w : World) (hg : GridS w A m) :
    Calls Tryd.prog 14 #[.slice A m.length c, .int .i64 q, .int .i64 d] w (Scalar (.bool (belowS m q d)) w) := by
  have HI := Lib.hid (spec_isSmall A c m (by omega) ht w hg)
  have HQ := Lib.hid (fun w => spec_inI q 0 3600 w)
  have HD := Lib.hid (fun w => spec_inI d 1 100 w)
  unfold belowS
  cases hm : smallM m with
  | false =>
    rw [hm] at HI
    clear hg ht hm
    go_enter Tryd.func14, Tryd.ntmps14
    go_wp2_with fail
    refine HI.out.mono ?_
    rintro e w1 ⟨rfl, rfl⟩
    go_wp2
    go_ret
    exact ⟨rfl, Below.refl _ _⟩
  | true =>
    rw [hm] at HI
    by_cases hq : 0 ≤ q ∧ q ≤ 3600
    · rw [decide_eq_true hq] at HQ ⊢
      by_cases hd : 1 ≤ d ∧ d ≤ 100
      · rw [decide_eq_true hd] at HD ⊢
        have HB := Lib.hid (spec_below8 A c m hm q d ⟨hq.1, by omega⟩ hd w hg)
        rw [show (true && true && true && belB m q d) = belB m q d from rfl]
        clear hg ht hm hq hd
        generalize belB m q d = b at *
        go_enter Tryd.func14, Tryd.ntmps14
        go_wp2_with fail
        refine HI.out.mono ?_
        rintro e w1 ⟨rfl, hw⟩
        obtain rfl : w = w1 := hw.symm
        clear HI hw
        go_wp2_with fail
        refine (HQ.out _).mono ?_
        rintro e w1 ⟨rfl, hw⟩
        obtain rfl : w = w1 := hw.symm
        clear hw
        go_wp2_with fail
        refine (HD.out _).mono ?_
        rintro e w1 ⟨rfl, hw⟩
        obtain rfl : w = w1 := hw.symm
        clear hw
        go_wp2_with fail
        refine HB.out.mono ?_
        rintro e w2 ⟨rfl, hb⟩
        go_wp2
        go_ret
        exact ⟨rfl, hb⟩
      · rw [decide_eq_false hd] at HD ⊢
        clear hg ht hm hq hd
        go_enter Tryd.func14, Tryd.ntmps14
        go_wp2_with fail
        refine HI.out.mono ?_
        rintro e w1 ⟨rfl, rfl⟩
        go_wp2_with fail
        refine (HQ.out _).mono ?_
        rintro e w1 ⟨rfl, rfl⟩
        go_wp2_with fail
        refine (HD.out _).mono ?_
        rintro e w1 ⟨rfl, rfl⟩
        go_wp2
        go_ret
        exact ⟨rfl, Below.refl _ _⟩
    · rw [decide_eq_false hq] at HQ ⊢
      clear hg ht hm hq
      go_enter Tryd.func14, Tryd.ntmps14
      go_wp2_with fail
      refine HI.out.mono ?_
      rintro e w1 ⟨rfl, rfl⟩
      go_wp2_with fail
      refine (HQ.out _).mono ?_
      rintro e w1 ⟨rfl, rfl⟩
      go_wp2
      go_ret
      exact ⟨rfl, Below.refl _ _⟩

set_option maxRecDepth 100000 in
set_option maxHeartbeats 1600000 in
theorem spec_floor (A : Option Addr) (c : Nat) (m : List (List Int)) (hn : m.length ≤ 1048576) (ht : ∀ k, k < m.length → (m.getD k []).length ≤ 1099511627776) (d : Int) (w : World) (hg : GridS w A m) :
    Calls Tryd.prog 12 #[.slice A m.length c, .int .i64 d] w (Scalar (.int .i64 (floorS m d)) w) := by
  have HI := Lib.hid (spec_isSmall A c m (by omega) ht w hg)
  have HD := Lib.hid (fun w => spec_inI d 1 100 w)
  unfold floorS
  cases hm : smallM m with
  | false =>
    rw [hm] at HI
    clear hg ht hm
    rw [Bool.false_and, if_neg (by decide)]
    go_enter Tryd.func12, Tryd.ntmps12
    go_wp2_with fail
    refine HI.out.mono ?_
    rintro e w1 ⟨rfl, rfl⟩
    go_wp2
    go_ret
    exact ⟨rfl, Below.refl _ _⟩
  | true =>
    rw [hm] at HI
    by_cases hd : 1 ≤ d ∧ d ≤ 100
    · rw [decide_eq_true hd] at HD ⊢
      rw [Bool.true_and, if_pos rfl]
      have HB : Hid (∀ (q : Int) (w' : World), 0 ≤ q → q ≤ 3601 → Below w.heap.size w w' → Calls Tryd.prog 43 #[.slice A m.length c, .int .i64 q, .int .i64 d] w' (Scalar (.bool (belB m q d)) w')) := Lib.hid fun q w' q0 q1 hb => spec_below8 A c m hm q d ⟨q0, q1⟩ hd w' (hg.below hb)
      have HF := Lib.hid (fun q => bel_floor hm (q := q) hd.1)
      have HBI := Lib.hid (fun q => belB_iff hm (q := q) (show 0 ≤ d by omega))
      have hle := (floor_is hm hd.1).2.2
      obtain ⟨d0, d1⟩ := hd
      clear hg ht hm
      generalize floorN m d = F at *
      go_enter Tryd.func12, Tryd.ntmps12
      go_wp2_with fail
      refine HI.out.mono ?_
      rintro e w1 ⟨rfl, hw⟩
      obtain rfl : w = w1 := hw.symm
      clear HI hw
      go_wp2_with fail
      refine (HD.out _).mono ?_
      rintro e w1 ⟨rfl, hw⟩
      obtain rfl : w = w1 := hw.symm
      clear HD hw
      go_wp2
      go_loopw [5, 6, 7] (fun lv hv qv wr => ∃ lo hi : Int, lv = .int .i64 lo ∧ hv = .int .i64 hi ∧ 0 ≤ lo ∧ lo ≤ (F : Int) ∧ (F : Int) < hi ∧ hi ≤ 3601 ∧ Hid (Below w.heap.size w wr)) (fun lv hv _ _ => (intOf hv - intOf lv).toNat)
      case atStart => exact ⟨0, 36 * d + 1, rfl, rfl, by omega, by omega, by omega, by omega, Lib.hid (Below.refl _ _)⟩
      case round =>
        obtain ⟨lo, hi, rfl, rfl, l0, l1, h0, h1, hbl⟩ := hrel
        by_cases hgt : 1 < hi - lo
        · obtain ⟨z, hz⟩ : ∃ z, (lo + hi).tdiv 2 = z := ⟨_, rfl⟩
          have hz1 : lo < z ∧ z < hi := by
            rw [← hz, Int.tdiv_eq_ediv_of_nonneg (by omega)]
            omega
          have HC := Lib.hid (HB.out z wr (by omega) (by omega) hbl.out)
          have HFZ := Lib.hid (HF.out z)
          have HBZ := Lib.hid (HBI.out z)
          obtain ⟨z0, z1⟩ := hz1
          cases hb : belB m z d with
          | true =>
            have hFz := HFZ.out.1 (HBZ.out.1 hb)
            rw [hb] at HC
            clear hb HFZ HBZ
            go_wp2_with fail
            refine HC.out.mono ?_
            rintro e w2 ⟨rfl, hb2⟩
            have HB2 := Lib.hid (below_behind hbl.out hb2)
            clear hb2
            go_wp2
            go_roundw
            case rel => exact ⟨lo, z, rfl, rfl, by omega, by omega, by omega, by omega, HB2⟩
            case measure => simp [intOf]; omega
          | false =>
            have hFz : ¬ (F : Int) < z := fun h => by
              have := HBZ.out.2 (HFZ.out.2 h)
              rw [hb] at this; cases this
            rw [hb] at HC
            clear hb HFZ HBZ
            go_wp2_with fail
            refine HC.out.mono ?_
            rintro e w2 ⟨rfl, hb2⟩
            have HB2 := Lib.hid (below_behind hbl.out hb2)
            clear hb2
            go_wp2
            go_roundw
            case rel => exact ⟨z, hi, rfl, rfl, by omega, by omega, by omega, by omega, HB2⟩
            case measure => simp [intOf]; omega
        · obtain rfl : lo = (F : Int) := by omega
          go_wp2
          go_ret
          exact ⟨rfl, hbl.out⟩
    · rw [decide_eq_false hd] at HD ⊢
      rw [Bool.and_false, if_neg (by decide)]
      clear hg ht hm hd
      go_enter Tryd.func12, Tryd.ntmps12
      go_wp2_with fail
      refine HI.out.mono ?_
      rintro e w1 ⟨rfl, rfl⟩
      go_wp2_with fail
      refine (HD.out _).mono ?_
      rintro e w1 ⟨rfl, rfl⟩
      go_wp2
      go_ret
      exact ⟨rfl, Below.refl _ _⟩

set_option maxRecDepth 100000 in
set_option maxHeartbeats 1600000 in
theorem spec_compare (A B : Option Addr) (c c' : Nat) (a b : List (List Int)) (hna : a.length ≤ 1048576) (hta : ∀ k, k < a.length → (a.getD k []).length ≤ 1099511627776) (hnb : b.length ≤ 1048576) (htb : ∀ k, k < b.length → (b.getD k []).length ≤ 1099511627776) (d : Int) (w : World) (hg : GridS w A a) (hg' : GridS w B b) :
    Calls Tryd.prog 16 #[.slice A a.length c, .slice B b.length c', .int .i64 d] w (Scalar (.int .i64 (cmpS a b d)) w) := by
  have HA := Lib.hid (spec_floor A c a hna hta d w hg)
  have HB := Lib.hid (fun w' (hb : Below w.heap.size w w') => spec_floor B c' b hnb htb d w' (hg'.below hb))
  have HBT := Lib.hid bit_true
  have HBF := Lib.hid bit_false
  obtain ⟨x0, x1⟩ := floorS_range a d
  obtain ⟨y0, y1⟩ := floorS_range b d
  unfold cmpS
  clear hg hg' hta htb
  generalize floorS a d = x at *
  generalize floorS b d = y at *
  obtain ⟨r, hr⟩ : ∃ r, cmpI x y = r := ⟨_, rfl⟩
  rw [hr]
  have HR := Lib.hid hr
  clear hr
  go_enter Tryd.func16, Tryd.ntmps16
  go_wp2_with fail
  refine HA.out.mono ?_
  rintro e w1 ⟨rfl, hb1⟩
  have HB1 := Lib.hid (HB.out w1 hb1)
  have H1 := Lib.hid hb1
  clear hb1 HA HB
  go_wp2_with fail
  refine HB1.out.mono ?_
  rintro e w2 ⟨rfl, hb2⟩
  have H2 := Lib.hid (below_behind H1.out hb2)
  clear hb2
  by_cases h1 : x < 0
  · have HV : Hid (r = -2) := Lib.hid (by rw [← HR.out]; unfold cmpI; rw [if_pos (Or.inl h1)])
    go_wp2
    go_ret
    exact ⟨by rw [HV.out]; rfl, H2.out⟩
  · by_cases h2 : y < 0
    · have HV : Hid (r = -2) := Lib.hid (by rw [← HR.out]; unfold cmpI; rw [if_pos (Or.inr h2)])
      go_wp2
      go_ret
      exact ⟨by rw [HV.out]; rfl, H2.out⟩
    · by_cases h3 : y < x
      · have h4 : ¬ x < y := by omega
        have HV : Hid (r = 1) := Lib.hid (by rw [← HR.out]; unfold cmpI; rw [if_neg (by omega), if_pos h3])
        have t3 : decide (y < x) = true := decide_eq_true h3
        have t4 : decide (x < y) = false := decide_eq_false h4
        go_wp2_with (first | (go_at_call 48; first | (refine (HBT.out _).mono ?_; rintro e w3 ⟨rfl, rfl⟩) | (refine (HBF.out _).mono ?_; rintro e w3 ⟨rfl, rfl⟩)))
        go_ret
        exact ⟨by rw [HV.out]; rfl, H2.out⟩
      · by_cases h4 : x < y
        · have HV : Hid (r = -1) := Lib.hid (by rw [← HR.out]; unfold cmpI; rw [if_neg (by omega), if_neg h3, if_pos h4])
          have t3 : decide (y < x) = false := decide_eq_false h3
          have t4 : decide (x < y) = true := decide_eq_true h4
          go_wp2_with (first | (go_at_call 48; first | (refine (HBT.out _).mono ?_; rintro e w3 ⟨rfl, rfl⟩) | (refine (HBF.out _).mono ?_; rintro e w3 ⟨rfl, rfl⟩)))
          go_ret
          exact ⟨by rw [HV.out]; rfl, H2.out⟩
        · have HV : Hid (r = 0) := Lib.hid (by rw [← HR.out]; unfold cmpI; rw [if_neg (by omega), if_neg h3, if_neg h4])
          have t3 : decide (y < x) = false := decide_eq_false h3
          have t4 : decide (x < y) = false := decide_eq_false h4
          go_wp2_with (first | (go_at_call 48; first | (refine (HBT.out _).mono ?_; rintro e w3 ⟨rfl, rfl⟩) | (refine (HBF.out _).mono ?_; rintro e w3 ⟨rfl, rfl⟩)))
          go_ret
          exact ⟨by rw [HV.out]; rfl, H2.out⟩
end Go.Proofs.YtanelokploifhaaDoor
namespace Go.Proofs.YtanelokploifhaaDoor
open Go Go.RowKit

theorem rowSum_range {m : List (List Int)} (hm : isMat m = true) {i : Nat} (hi : i < m.length) : 0 ≤ rowSum m i ∧ rowSum m i ≤ 9000000 := by
  have hf := isMat_facts hm
  have h1 := sumTo_le (f := cellOf m i) (B := 1000000) m.length fun j hj => hf.cell i j hi hj
  have := hf.le
  unfold rowSum
  omega
theorem leastTo_range {m : List (List Int)} (hm : isMat m = true) : ∀ {k : Nat}, k ≤ m.length → 0 ≤ leastTo m k ∧ leastTo m k ≤ 9000000
  | 0, _ => by rw [leastTo]; omega
  | k + 1, h => by
    have h1 := rowSum_range hm (i := k) (by omega)
    have h2 := leastTo_range hm (k := k) (by omega)
    rw [leastTo]
    split <;> omega
theorem mostTo_range {m : List (List Int)} (hm : isMat m = true) : ∀ {k : Nat}, k ≤ m.length → 0 ≤ mostTo m k ∧ mostTo m k ≤ 9000000
  | 0, _ => by rw [mostTo]; omega
  | k + 1, h => by
    have h1 := rowSum_range hm (i := k) (by omega)
    have h2 := mostTo_range hm (k := k) (by omega)
    rw [mostTo]
    split <;> omega
theorem spec_maxI (x y : Int) (w : World) : Calls Tryd.prog 41 #[.int .i64 x, .int .i64 y] w fun e w' => e = .returned (.int .i64 (if x < y then y else x)) ∧ w' = w := by
  go_enter Tryd.func41, Tryd.ntmps41
  by_cases h : x < y
  · rw [if_pos h]
    have h2 : ¬ y < x := by omega
    have h3 : ¬ y ≤ x := by omega
    go_wp2
    all_goals first | (go_ret; exact ⟨rfl, rfl⟩) | skip
  · rw [if_neg h]
    by_cases e : x = y
    · subst e
      have h2 : ¬ x < x := by omega
      go_wp2
      all_goals first | (go_ret; exact ⟨rfl, rfl⟩) | skip
    · have h2 : y < x := by omega
      go_wp2
      all_goals first | (go_ret; exact ⟨rfl, rfl⟩) | skip

set_option maxRecDepth 100000 in
set_option maxHeartbeats 1600000 in
theorem spec_rowBounds (A : Option Addr) (c : Nat) (m : List (List Int)) (hn : m.length ≤ 1048576) (ht : ∀ k, k < m.length → (m.getD k []).length ≤ 1099511627776) (w : World) (hg : GridS w A m) :
    Calls Tryd.prog 11 #[.slice A m.length c] w fun e w' => e = .returned (.tuple #[.int .i64 (lowS m), .int .i64 (highS m)]) ∧ w' = w := by
  have HI := Lib.hid (spec_isMatrix A c m (by omega) ht w hg)
  unfold lowS highS
  cases hm : isMat m with
  | false =>
    rw [hm] at HI
    clear hg ht hm
    go_enter Tryd.func11, Tryd.ntmps11
    go_wp2_with fail
    refine HI.out.mono ?_
    rintro e w1 ⟨rfl, rfl⟩
    go_wp2
    go_ret2
    exact ⟨rfl, rfl⟩
  | true =>
    rw [hm] at HI
    rw [if_pos rfl, if_pos rfl]
    have hf := isMat_facts hm
    have HG := Lib.hid hg
    have HR := Lib.hid hf.row
    have HL := Lib.hid (fun k hk => leastTo_range hm (k := k) hk)
    have HM := Lib.hid (fun k hk => mostTo_range hm (k := k) hk)
    have HS := Lib.hid (fun i hi => rowSum_range hm (i := i) hi)
    have HC := Lib.hid hf.cell
    have HP : Hid (∀ i k, i < m.length → k ≤ m.length → 0 ≤ sumTo k (cellOf m i) ∧ sumTo k (cellOf m i) ≤ 9000000) := Lib.hid fun i k hi hk => by
      have h1 := sumTo_le (f := cellOf m i) (B := 1000000) k fun j hj => hf.cell i j hi (by omega)
      have := hf.le
      omega
    have HLN : Hid (∀ k, leastTo m (k + 1) = if k = 0 ∨ rowSum m k < leastTo m k then rowSum m k else leastTo m k) := Lib.hid fun _ => rfl
    have HMN : Hid (∀ k, mostTo m (k + 1) = if mostTo m k < rowSum m k then rowSum m k else mostTo m k) := Lib.hid fun _ => rfl
    have HSN : Hid (∀ i k, sumTo (k + 1) (cellOf m i) = sumTo k (cellOf m i) + cellOf m i k) := Lib.hid fun _ _ => rfl
    have HSS : Hid (∀ i, sumTo m.length (cellOf m i) = rowSum m i) := Lib.hid fun _ => rfl
    have HMX := Lib.hid spec_maxI
    have hl9 := hf.le
    clear hg ht hm hf
    go_enter Tryd.func11, Tryd.ntmps11
    go_wp2_with fail
    refine HI.out.mono ?_
    rintro e w1 ⟨rfl, hw⟩
    obtain rfl : w = w1 := hw.symm
    clear HI hw
    go_wp2
    go_loopw [4, 5, 6] (fun lv mv iv wr => ∃ (i : Nat) (l h : Int), i ≤ m.length ∧ iv = .int .i64 (i : Int) ∧ lv = .int .i64 l ∧ mv = .int .i64 h ∧ Hid (l = leastTo m i) ∧ Hid (h = mostTo m i) ∧ wr = w) (fun _ _ iv _ => m.length - (intOf iv).toNat)
    case atStart => exact ⟨0, 0, 0, Nat.zero_le _, rfl, rfl, rfl, Lib.hid rfl, Lib.hid rfl, rfl⟩
    case round =>
      obtain ⟨i, l, h, hi, rfl, rfl, rfl, hl, hh, rfl⟩ := hrel
      obtain ⟨W0, rfl⟩ : ∃ W0 : World, W0 = wr := ⟨_, rfl⟩
      by_cases hil : i < m.length
      · have hlr := HL.out i hi
        have hhr := HM.out i hi
        rw [← hl.out] at hlr
        rw [← hh.out] at hhr
        go_wp2
        go_loopw [7, 8] (fun sv jv wr => ∃ (j : Nat) (s : Int), j ≤ m.length ∧ jv = .int .i64 (j : Int) ∧ sv = .int .i64 s ∧ Hid (s = sumTo j (cellOf m i)) ∧ wr = W0) (fun _ jv _ => m.length - (intOf jv).toNat)
        case atStart => exact ⟨0, 0, Nat.zero_le _, rfl, rfl, Lib.hid rfl, rfl⟩
        case round =>
          obtain ⟨j, s, hj, rfl, rfl, hs, rfl⟩ := hrel
          by_cases hjl : j < m.length
          · obtain ⟨p1, p2, p3, p4, p5, rfl, ka1, ka2, pb1, pb2⟩ := HG.out.num hil (j := j) (by rw [HR.out i hil]; exact hjl)
            rw [HR.out i hil] at ka1
            have hb := HP.out i (j + 1) hil (by omega)
            have hsn := HSN.out i j
            rw [← hs.out] at hsn
            obtain ⟨q, hq⟩ : ∃ q, sumTo (j + 1) (cellOf m i) = q := ⟨_, rfl⟩
            rw [hq] at hb hsn
            have HQ := Lib.hid hq
            clear hq
            generalize cellOf m i j = x at *
            have hw : RowKit.wrap64 (s + x) = q := by rw [← hsn]; unfold RowKit.wrap64; omega
            clear hsn hb
            go_wp2
            go_roundw
            case rel => exact ⟨j + 1, _, by omega, by go_num, rfl, Lib.hid (hw.trans HQ.out.symm), trivial⟩
            case measure => simp [intOf]; omega
          · obtain rfl : j = m.length := by omega
            have hsr := HS.out i hil
            have hse := HSS.out i
            rw [← hs.out] at hse
            rw [← hse] at hsr
            have HSE := Lib.hid hse
            have HLN1 := Lib.hid (HLN.out i)
            have HMN1 := Lib.hid (HMN.out i)
            rw [← hse, ← hl.out] at HLN1
            rw [← hse, ← hh.out] at HMN1
            clear hse
            by_cases h0 : i = 0 ∨ s < l
            · rw [if_pos h0] at HLN1
              rcases Nat.eq_zero_or_pos i with hz | hz
              · have hne : ((i : Int) == 0) = true := by rw [beq_iff_eq]; omega
                clear h0
                go_wp2_with fail
                refine (HMX.out _ _ _).mono ?_
                rintro e w2 ⟨rfl, rfl⟩
                go_wp2
                go_roundw
                case rel => exact ⟨i + 1, _, _, by omega, by go_num, rfl, rfl, Lib.hid HLN1.out.symm, Lib.hid HMN1.out.symm, trivial⟩
                case measure => simp [intOf]; omega
              · have h1 : s < l := by omega
                have hne : ((i : Int) == 0) = false := by rw [beq_eq_false_iff_ne]; omega
                clear h0
                go_wp2_with fail
                refine (HMX.out _ _ _).mono ?_
                rintro e w2 ⟨rfl, rfl⟩
                go_wp2
                go_roundw
                case rel => exact ⟨i + 1, _, _, by omega, by go_num, rfl, rfl, Lib.hid HLN1.out.symm, Lib.hid HMN1.out.symm, trivial⟩
                case measure => simp [intOf]; omega
            · rw [if_neg h0] at HLN1
              have h1 : ¬ s < l := fun h => h0 (Or.inr h)
              have hne : ((i : Int) == 0) = false := by
                rw [beq_eq_false_iff_ne]
                intro e
                exact h0 (Or.inl (by omega))
              clear h0
              go_wp2_with fail
              refine (HMX.out _ _ _).mono ?_
              rintro e w2 ⟨rfl, rfl⟩
              go_wp2
              go_roundw
              case rel => exact ⟨i + 1, _, _, by omega, by go_num, rfl, rfl, Lib.hid HLN1.out.symm, Lib.hid HMN1.out.symm, trivial⟩
              case measure => simp [intOf]; omega
      · obtain rfl : i = m.length := by omega
        have HL2 := Lib.hid hl.out
        have HH2 := Lib.hid hh.out
        clear hl hh
        go_wp2
        go_ret2
        exact ⟨by have h1 := HL2.out; have h2 := HH2.out; simp [h1, h2], rfl⟩
end Go.Proofs.YtanelokploifhaaDoor
namespace Go.Proofs.YtanelokploifhaaDoor
open Go Go.RowKit

theorem reachM_facts (m : List (List Int)) : (reachM m).length = m.length ∧ (∀ i, i < m.length → ((reachM m).getD i []).length = m.length) ∧ ∀ i j, i < m.length → j < m.length → cellOf (reachM m) i j = bI (reachB m i j) := by
  unfold reachM
  refine ⟨tabOf_length _ _ _, fun i hi => ?_, fun i j hi hj => tabOf_cell hi hj⟩
  rw [tabOf_row hi]; simp
theorem irr_bad {m : List (List Int)} {i j : Nat} (hi : i < m.length) (hj : j < m.length) (h : reachB m i j = false) : irrM m = false := by
  cases e : irrM m with
  | false => rfl
  | true =>
    have := (reachB_iff hi hj).2 ((irrM_iff.1 e).2 i j hi hj)
    rw [h] at this; cases this
theorem irr_all {m : List (List Int)} (hm : isMat m = true) (h : ∀ i j, i < m.length → j < m.length → reachB m i j = true) : irrM m = true :=
  irrM_iff.2 ⟨hm, fun i j hi hj => (reachB_iff hi hj).1 (h i j hi hj)⟩

end Go.Proofs.YtanelokploifhaaDoor
namespace Go.Proofs.YtanelokploifhaaDoor
open Go Go.RowKit

theorem From.grown {B : Nat} {w1 w w' : World} {r : Option Nat} (h : From B w1 w) (hg : w.grownBy w' r) (hr : ∀ g, r = some g → g < B ∨ w1.heap.size ≤ g) : From B w1 w' :=
  ⟨Nat.le_trans h.size hg.size, fun k h1 h2 => (hg.block k (Nat.lt_of_lt_of_le h2 h.size) (fun e => by
    have := hr k e.symm
    omega)).trans (h.block k h1 h2)⟩
theorem From.below {B : Nat} {w1 w w' : World} (h : From B w1 w) (hb : Below w.heap.size w w') : From B w1 w' :=
  ⟨Nat.le_trans h.size hb.size, fun k h1 h2 => (hb.block k (Nat.lt_of_lt_of_le h2 h.size)).trans (h.block k h1 h2)⟩
theorem OwnG.fromB {B : Nat} {w1 w : World} {v : Value} {m : List (List Int)} (h : OwnG w1 B v m) (hf : From B w1 w) : OwnG w B v m := (From.ownIn h.ownIn hf).ownG
theorem compM_next (m : List (List Int)) (n : Nat) : compM m (n + 1) = compM m n ++ compList m n := by
  unfold compM
  rw [List.range_succ, List.map_append, List.flatten_append]
  simp
/-- The vertices below j that vertex i reaches in both directions. -/
def compTo (m : List (List Int)) (i j : Nat) : List Int := ((List.range j).filter fun b => reachB m i b && reachB m b i).map fun (b : Nat) => (b : Int)
theorem compTo_next (m : List (List Int)) (i j : Nat) : compTo m i (j + 1) = if reachB m i j && reachB m j i then compTo m i j ++ [(j : Int)] else compTo m i j := by
  unfold compTo
  rw [List.range_succ, List.filter_append, List.map_append]
  by_cases h : (reachB m i j && reachB m j i) = true
  · rw [if_pos h]
    simp only [List.filter_cons, List.filter_nil, h, if_true]; rfl
  · rw [if_neg h]
    simp only [List.filter_cons, List.filter_nil, if_neg h, List.map_nil, List.append_nil]
theorem compTo_len (m : List (List Int)) (i j : Nat) : (compTo m i j).length ≤ j := by
  unfold compTo
  rw [List.length_map]
  exact Nat.le_trans (List.length_filter_le _ _) (by simp)
theorem compList_is (m : List (List Int)) (i : Nat) : compList m i = if 0 < (compTo m i m.length).length ∧ (compTo m i m.length).getD 0 0 = (i : Int) then [compTo m i m.length] else [] := by
  unfold compList compTo compRow
  cases (List.range m.length).filter fun b => reachB m i b && reachB m b i with
  | nil => simp
  | cons x xs =>
    by_cases h : x = i
    · subst h; simp
    · simp [h]
      omega
theorem compM_len (m : List (List Int)) : ∀ n, (compM m n).length ≤ n
  | 0 => by simp [compM]
  | n + 1 => by
    have h := compM_len m n
    rw [compM_next, List.length_append]
    have : (compList m n).length ≤ 1 := by
      unfold compList
      split <;> simp
    omega

set_option maxRecDepth 100000 in
set_option maxHeartbeats 6400000 in
theorem spec_components (A1 : Option Addr) (c1 : Nat) (m : List (List Int)) (hl : m.length ≤ 1048576) (ht : tot m ≤ 1048576) (w : World) (h1 : GridS w A1 m) :
    Calls Tryd.prog 75 #[.slice A1 m.length c1] w (NewG (compS m) w) := by
  obtain ⟨i0, hi, hz0, hz1, hz2⟩ := info_parts infoSl
  obtain ⟨j0, hj0, hy0, hy1, hy2⟩ := info_parts infoInt
  have hb0 : Below w.heap.size w (w.alloc (.cells #[] 48)) := below_new
  have HR := Lib.hid (spec_reachOf A1 c1 m hl ht _ (h1.below hb0))
  have HB0 := Lib.hid hb0
  have HE : Hid ((w.alloc (.cells #[] 48)).ownsRow w.heap.size 48 1 (.slice (some ⟨w.heap.size, 0, none⟩) 0 0) 0 []) := Lib.hid (World.ownsRow_made (base := w.heap.size) (e := 48) (size := 1) w #[] 0 (Nat.le_refl _) (by unfold maxLen; omega) rfl)
  have hrl : ∃ n, (reachS m).length = n ∧ n ≤ 9 ∧ (n = 0 ∨ n = m.length) ∧ compS m = compM m n ∧ (∀ i, i < n → ((reachS m).getD i []).length = n) ∧ ∀ i j, i < n → j < n → cellOf (reachS m) i j = bI (reachB m i j) := by
    unfold reachS compS
    cases hm : isMat m with
    | false =>
      rw [if_neg (by decide), if_neg (by decide)]
      exact ⟨0, rfl, by omega, Or.inl rfl, rfl, fun i h => by omega, fun i j h => by omega⟩
    | true =>
      rw [if_pos rfl, if_pos rfl]
      obtain ⟨f1, f2, f3⟩ := reachM_facts m
      exact ⟨m.length, f1, (isMat_facts hm).le, Or.inr rfl, rfl, f2, f3⟩
  obtain ⟨n, hn, hn9, hnm, hcs, hrow, hcell⟩ := hrl
  have HNM := Lib.hid hnm
  have HROW := Lib.hid hrow
  have HCELL := Lib.hid hcell
  have HN := Lib.hid hn
  rw [hcs]
  clear h1 hb0 hnm hcs hrow hcell
  go_enter Tryd.func75, Tryd.ntmps75
  go_wp2_with fail
  refine HR.out.mono ?_
  rintro e w1 ⟨vR, rfl, hoR, b1⟩
  obtain ⟨AR, cR, rfl, -⟩ := hoR.gridS
  rw [World.size_alloc] at hoR b1
  rw [hn]
  have HOR := Lib.hid hoR
  have HB1 : Hid (Below w.heap.size w w1) := Lib.hid (HB0.out.trans (b1.mono (by omega)))
  have hs1 : w.heap.size + 1 ≤ w1.heap.size := by have := b1.size; rw [World.size_alloc] at this; exact this
  have HK1 := Lib.hid (kept_below HE.out (by rw [World.size_alloc]; exact b1))
  clear hoR b1 hn
  go_wp2
  go_loopw [3, 5] (fun v iv wr => ∃ (k : Nat) (vs : List Value), k ≤ n ∧ iv = .int .i64 (k : Int) ∧ wr.ownsRow w.heap.size 48 1 v (compM m k).length vs ∧ RowsOwn wr w.heap.size v.ownBlock vs (compM m k) ∧ Hid (∀ g, v.ownBlock = some g → g < w.heap.size + 1 ∨ w1.heap.size ≤ g) ∧ Hid (From (w.heap.size + 1) w1 wr) ∧ Hid (Below w.heap.size w wr)) (fun _ iv _ => n - (intOf iv).toNat)
  case atStart => exact ⟨0, [], Nat.zero_le _, rfl, HK1.out, RowsOwn.nil _ _ _, Lib.hid (fun g h => by have h2 : w.heap.size = g := Option.some.inj h; omega), Lib.hid (From.refl _ _), HB1⟩
  case round =>
    obtain ⟨k, vs, hk, rfl, hO, hR, hblk, hfr, hbl⟩ := hrel
    obtain ⟨W0, rfl⟩ : ∃ W0 : World, W0 = wr := ⟨_, rfl⟩
    by_cases hlt : k < n
    · have HO := Lib.hid hO
      have HRW := Lib.hid hR
      have hwr := hbl.out.size
      have hw1 := hfr.out.size
      have HI0 : Hid ((W0.alloc (.cells #[] 3)).ownsRow W0.heap.size 3 1 (.slice (some ⟨W0.heap.size, 0, none⟩) 0 0) 0 []) := Lib.hid (World.ownsRow_made (base := W0.heap.size) (e := 3) (size := 1) W0 #[] 0 (Nat.le_refl _) (by unfold maxLen; omega) rfl)
      have HBI : Hid (Below W0.heap.size W0 (W0.alloc (.cells #[] 3))) := Lib.hid below_new
      clear hO hR
      go_wp2
      go_loopw [6, 7] (fun u jv w4 => ∃ j : Nat, j ≤ n ∧ jv = .int .i64 (j : Int) ∧ w4.ownsRow W0.heap.size 3 1 u (compTo m k j).length ((compTo m k j).map (Value.int .i64)) ∧ Hid (Below W0.heap.size W0 w4)) (fun _ jv _ => n - (intOf jv).toNat)
      case atStart => exact ⟨0, Nat.zero_le _, rfl, HI0.out, HBI⟩
      case round =>
        obtain ⟨j, hj, rfl, hU, hb4⟩ := hrel
        by_cases hjl : j < n
        · have hG := (HOR.out.fromB (hfr.out.below hb4.out)).gridS
          obtain ⟨A', c', e', hG⟩ := hG
          rw [HN.out] at e'
          simp only [Value.slice.injEq, true_and] at e'
          obtain ⟨rfl, rfl⟩ := e'
          obtain ⟨p1, p2, p3, p4, p5, rfl, k1, k2, _, _⟩ := hG.num (i := k) (by rw [HN.out]; exact hlt) (j := j) (by rw [HROW.out k hlt]; exact hjl)
          obtain ⟨q1, q2, q3, q4, q5, hq, k3, k4, _, _⟩ := hG.num (i := j) (by rw [HN.out]; exact hjl) (j := k) (by rw [HROW.out j hjl]; exact hlt)
          simp only [Option.some.injEq, Addr.mk.injEq, and_true] at hq
          obtain ⟨rfl, rfl⟩ := hq
          rw [HROW.out k hlt] at k1
          rw [HROW.out j hjl] at k3
          rw [HCELL.out k j hlt hjl] at k2
          rw [HCELL.out j k hjl hlt] at k4
          have HNX := Lib.hid (compTo_next m k j)
          have hcl := compTo_len m k j
          have HU := Lib.hid hU
          have hs4 := hb4.out.size
          clear hU hG
          cases hx : reachB m k j with
          | false =>
            rw [hx, show bI false = 0 from rfl] at k2
            rw [hx] at HNX
            have HNX2 : Hid (compTo m k (j + 1) = compTo m k j) := Lib.hid (by rw [HNX.out]; rfl)
            clear hx
            go_wp2
            go_roundw
            case rel => exact ⟨j + 1, by omega, by go_num, by rw [HNX2.out]; exact HU.out, hb4⟩
            case measure => simp [intOf]; omega
          | true =>
            cases hy : reachB m j k with
            | false =>
              rw [hx, show bI true = 1 from rfl] at k2
              rw [hy, show bI false = 0 from rfl] at k4
              rw [hx, hy] at HNX
              have HNX2 : Hid (compTo m k (j + 1) = compTo m k j) := Lib.hid (by rw [HNX.out]; rfl)
              clear hx hy
              go_wp2
              go_roundw
              case rel => exact ⟨j + 1, by omega, by go_num, by rw [HNX2.out]; exact HU.out, hb4⟩
              case measure => simp [intOf]; omega
            | true =>
              rw [hx, show bI true = 1 from rfl] at k2
              rw [hy, show bI true = 1 from rfl] at k4
              rw [hx, hy] at HNX
              have HNX2 : Hid (compTo m k (j + 1) = compTo m k j ++ [(j : Int)]) := Lib.hid (by rw [HNX.out]; rfl)
              clear hx hy HNX
              obtain ⟨Y, HY⟩ : ∃ Y, Hid (compTo m k (j + 1) = Y) := ⟨_, Lib.hid rfl⟩
              rw [HY.out] at HNX2
              generalize compTo m k j = X at *
              have HMAP : Hid (X.map (Value.int .i64) ++ [.int .i64 (j : Int)] = Y.map (Value.int .i64)) := Lib.hid (by rw [HNX2.out, List.map_append]; rfl)
              have HLEN : Hid (X.length + 1 = Y.length) := Lib.hid (by rw [HNX2.out, List.length_append]; rfl)
              go_wp2_with (at_builtin; refine wpList_append_lies _ rfl (.tmp 42) (.tmp 44) 48 rfl W0.heap.size 3 j0 (.int .i64 0) 1 8 Tryd.underlying48 hj0 hy0 hy1 hy2 rfl (by decide) _ _ _ rfl (HU.out.alloc _) ⟨wr.heap.size, 0, none⟩ 1 1 [.int .i64 (j : Int)] rfl rfl (World.news_of_block (cs := #[.int .i64 (j : Int)]) (t := 3) (fr := (0, 0)) (heap_alloc_new wr _)) (by simp [Value.oneCell']) (by decide) (by unfold maxLen; omega) (by omega) (by simp; omega) (wr.heap.size + 1) (by simp) ?_; intro gg cap w6 ho6 hg6 hat6 hlt6; rw [HMAP.out] at ho6; have HM := Lib.hid ho6; have HB6 := Lib.hid ((hb4.out.alloc hs4 _).grown hg6 (by simp; omega) fun q hq => (HU.out.lt q hq).1); clear ho6 hg6 hat6)
              go_roundw
              case rel => exact ⟨j + 1, by omega, by go_num, by rw [HY.out, ← HLEN.out]; exact HM.out, HB6⟩
              case measure => simp [intOf]; omega
        · obtain rfl : j = n := by omega
          have hnm : j = m.length := by
            rcases HNM.out with h | h
            · omega
            · exact h
          have HCL := Lib.hid (compList_is m k)
          rw [← hnm] at HCL
          have HCN := Lib.hid (compM_next m k)
          have hcml := compM_len m k
          have hxl := compTo_len m k j
          have HOK := Lib.hid (kept_below HO.out hb4.out)
          have HRK := Lib.hid (HRW.out.below hb4.out)
          have HFR := Lib.hid (hfr.out.below hb4.out)
          have HBL := Lib.hid (hbl.out.trans (hb4.out.mono hwr))
          have hs4 := hb4.out.size
          have HU := Lib.hid hU
          clear hU hnm
          generalize compTo m k j = X at *
          by_cases hx0 : X.length = 0
          · have HNX : Hid (compM m (k + 1) = compM m k) := Lib.hid (by rw [HCN.out, HCL.out, if_neg (by omega), List.append_nil])
            obtain ⟨Au, cu, rfl⟩ := slice_of_owns HU.out
            rw [hx0]
            go_wp2
            go_roundw
            case rel => exact ⟨k + 1, vs, by omega, by go_num, by rw [HNX.out]; exact HOK.out, by rw [HNX.out]; exact HRK.out, hblk, HFR, HBL⟩
            case measure => simp [intOf]; omega
          · obtain ⟨gu, cu, rfl, _, _⟩ := HU.out.form (by omega)
            have kx := (HU.out.cellAt 0 (by omega)).trans (show (X.map (Value.int .i64))[0]? = some (Value.int .i64 (X.getD 0 0)) by rw [List.getElem?_map, List.getElem?_eq_getElem (by omega), List.getD_eq_getElem?_getD, List.getElem?_eq_getElem (by omega)]; rfl)
            have hpos : (0 : Int) < (X.length : Int) := by omega
            by_cases hx : X.getD 0 0 = (k : Int)
            · have HNX : Hid (compM m (k + 1) = compM m k ++ [X]) := Lib.hid (by rw [HCN.out, HCL.out, if_pos ⟨by omega, hx⟩])
              rw [hx] at kx
              have hbe : ((k : Int) == (k : Int)) = true := beq_self_eq_true _
              have HLEN : Hid ((compM m k).length + 1 = (compM m (k + 1)).length) := Lib.hid (by rw [HNX.out, List.length_append]; rfl)
              clear hx HCL
              go_wp2_with (at_builtin; refine wpList_append_lies _ rfl (.tmp 56) (.tmp 58) 24 rfl w.heap.size 48 i0 (.slice none 0 0) 1 24 Tryd.underlying24 hi hz0 hz1 hz2 rfl (by decide) _ _ _ rfl (HOK.out.alloc _) ⟨wr.heap.size, 0, none⟩ 1 1 [.slice (some ⟨gu, 0, none⟩) X.length cu] rfl rfl (World.news_of_block (cs := #[.slice (some ⟨gu, 0, none⟩) X.length cu]) (t := 48) (fr := (0, 0)) (heap_alloc_new wr _)) (by simp [Value.oneCell']) (by decide) (by unfold maxLen; omega) (by omega) (by simp; omega) (wr.heap.size + 1) (by simp) ?_; intro gg cap w6 ho6 hg6 hat6 hlt6; have HRN := Lib.hid (own_append (w := wr.alloc (.cells #[.slice (some ⟨gu, 0, none⟩) X.length cu] 48)) HO.out HRW.out (hb4.out.alloc hs4 _) (World.ownsRow.alloc (World.ownsRow.mono HU.out hwr) _) (fun g hg => (HU.out.lt g hg).1) ho6 hg6 (by rw [World.size_alloc]; exact hat6)); have HM := Lib.hid ho6; have HB6 : Hid (Below w.heap.size w w6) := Lib.hid ((HBL.out.alloc HBL.out.size _).grown hg6 (by have := HBL.out.size; simp; omega) fun q hq => (HO.out.lt q hq).1); have HF6 : Hid (From (w.heap.size + 1) w1 w6) := Lib.hid ((HFR.out.below below_new).grown hg6 hblk.out); have HBK : Hid (∀ q, (Value.slice (some ⟨gg, 0, none⟩) ((compM m k).length + 1) cap).ownBlock = some q → q < w.heap.size + 1 ∨ w1.heap.size ≤ q) := Lib.hid (fun q hq => by have h2 : gg = q := Option.some.inj hq; subst h2; rcases hat6 with h | h; exact hblk.out _ h; right; omega); clear ho6 hg6 hat6)
              go_roundw
              case rel => exact ⟨k + 1, _, by omega, by go_num, by rw [← HLEN.out]; exact HM.out, by rw [HNX.out]; exact HRN.out, HBK, HF6, HB6⟩
              case measure => simp [intOf]; omega
            · have HNX : Hid (compM m (k + 1) = compM m k) := Lib.hid (by rw [HCN.out, HCL.out, if_neg (fun h => hx h.2), List.append_nil])
              have hbe : (X.getD 0 0 == (k : Int)) = false := by rw [beq_eq_false_iff_ne]; exact hx
              clear HCL
              generalize X.getD 0 0 = x at *
              go_wp2
              go_roundw
              case rel => exact ⟨k + 1, vs, by omega, by go_num, by rw [HNX.out]; exact HOK.out, by rw [HNX.out]; exact HRK.out, hblk, HFR, HBL⟩
              case measure => simp [intOf]; omega
    · obtain rfl : k = n := by omega
      have HOG : Hid (OwnG W0 w.heap.size _ (compM m k)) := Lib.hid ⟨vs, hO, hR⟩
      clear hO hR
      go_wp2
      go_ret
      exact ⟨_, rfl, HOG.out, hbl.out⟩
end Go.Proofs.YtanelokploifhaaDoor
namespace Go.Proofs.YtanelokploifhaaDoor
open Go Go.RowKit

theorem bl8 {w w1 w2 : World} (h : Below w.heap.size w w1) (k : Below w1.heap.size w1 w2) : Below w.heap.size w w2 := h.trans (k.mono h.size)
theorem comp_in {m : List (List Int)} {l : List Int} (h : l ∈ compS m) : l.length ≤ m.length ∧ ∀ k, k < l.length → 0 ≤ l.getD k 0 ∧ l.getD k 0 < (m.length : Int) := by
  unfold compS at h
  split at h
  · unfold compM at h
    obtain ⟨ll, h1, h2⟩ := List.mem_flatten.1 h
    obtain ⟨i, _, rfl⟩ := List.mem_map.1 h1
    unfold compList at h2
    split at h2
    · rw [List.mem_singleton] at h2
      subst h2
      have hle : (compRow m i).length ≤ m.length := Nat.le_trans (List.length_filter_le _ _) (by simp)
      refine ⟨by rw [List.length_map]; exact hle, fun k hk => ?_⟩
      rw [List.length_map] at hk
      rw [List.getD_eq_getElem?_getD, List.getElem?_map, List.getElem?_eq_getElem hk]
      have h3 := List.mem_range.1 (List.mem_filter.1 (List.getElem_mem hk)).1
      show 0 ≤ (((compRow m i)[k] : Nat) : Int) ∧ (((compRow m i)[k] : Nat) : Int) < (m.length : Int)
      omega
    · cases h2
  · cases h

set_option maxRecDepth 100000 in
set_option maxHeartbeats 1600000 in
theorem spec_light (A : Option Addr) (c : Nat) (m : List (List Int)) (hm : smallM m = true) (w : World) (hg : GridS w A m) :
    Calls Tryd.prog 55 #[.slice A m.length c] w (Scalar (.bool (lightB m)) w) := by
  obtain ⟨hmat, h4, _⟩ := small_facts hm
  have hf := isMat_facts hmat
  have htot : tot m ≤ 1048576 := by
    have := tot_le_of (m := m) (n := 9) fun r hr => by
      obtain ⟨i, hi, rfl⟩ := List.getElem_of_mem hr
      have e : m.getD i [] = m[i] := by simp [List.getD, hi]
      have := hf.row i hi
      rw [e] at this
      have := hf.le
      omega
    omega
  have HC := Lib.hid (spec_components A c m (by omega) htot w hg)
  have HG := Lib.hid hg
  have HIN := Lib.hid (fun l h => comp_in (m := m) (l := l) h)
  have HP : Hid (∀ (l : List Int) (Al : Option Addr) (cl : Nat) (w' : World), l ∈ compS m → Below w.heap.size w w' → RowS w' Al l → Calls Tryd.prog 66 #[.slice A m.length c, .slice Al l.length cl] w' (NewG (partM m l) w')) := Lib.hid fun l Al cl w' hl hb hr => spec_part A c m hf Al cl l (by have := (comp_in hl).1; omega) (comp_in hl).2 w' (HG.out.below hb) hr
  have HSM : Hid (∀ (l : List Int) (A' : Option Addr) (c' : Nat) (w' : World), l ∈ compS m → GridS w' A' (partM m l) → Calls Tryd.prog 76 #[.slice A' l.length c'] w' fun e w2 => e = .returned (.int .i64 (sumM (partM m l))) ∧ w2 = w') := Lib.hid fun l A' c' w' hl hg' => by
    have h1 := (comp_in hl).1
    have e := (part_rows m l).1
    have h := spec_sumOf A' c' (partM m l) (by omega) (fun k hk => by rw [e] at hk; rw [(part_rows m l).2 k hk]; omega) w' hg'
    rw [e] at h
    exact h
  have HPL := Lib.hid (fun l => (part_rows m l).1)
  have HALL : Hid (lightB m = (compS m).all fun l => decide (sumM (partM m l) = (l.length : Int))) := Lib.hid rfl
  have hcl : (compS m).length ≤ 9 := by
    unfold compS
    rw [if_pos hmat]
    have := compM_len m m.length
    omega
  clear hg hf hmat htot hm
  generalize compS m = cs at *
  go_enter Tryd.func55, Tryd.ntmps55
  go_wp2_with fail
  refine HC.out.mono ?_
  rintro e w1 ⟨v1, rfl, ho1, hb1⟩
  obtain ⟨A1, c1, rfl, hg1⟩ := ho1.gridC
  have HG1 := Lib.hid hg1
  have HB1 := Lib.hid hb1
  clear ho1 hb1 hg1 HC
  go_wp2
  go_loopw [4] (fun kv wr => ∃ k : Nat, k ≤ cs.length ∧ kv = .int .i64 (k : Int) ∧ Hid (∀ i, i < k → sumM (partM m (cs.getD i [])) = ((cs.getD i []).length : Int)) ∧ Hid (Below w1.heap.size w1 wr)) (fun kv _ => cs.length - (intOf kv).toNat)
  case atStart => exact ⟨0, Nat.zero_le _, rfl, Lib.hid (fun i hi => by omega), Lib.hid (Below.refl _ _)⟩
  case round =>
    obtain ⟨k, hk, rfl, hno, hbl⟩ := hrel
    by_cases hlt : k < cs.length
    · obtain ⟨b, off, Al, cl, rfl, k1, hr, _, hbb⟩ := HG1.out.rowAt hlt
      have hmem : cs.getD k [] ∈ cs := by
        rw [List.getD_eq_getElem?_getD, List.getElem?_eq_getElem hlt]; exact List.getElem_mem hlt
      have hll := (HIN.out _ hmem).1
      have x0 := (hbl.out.cell (p := ⟨b, off + k, none⟩) hbb).trans k1
      have HCELL : Hid (∀ w', Below wr.heap.size wr w' → w'.cell? ⟨b, off + k, none⟩ = some (.slice Al (cs.getD k []).length cl)) := Lib.hid fun w' hb => (hb.cell (p := ⟨b, off + k, none⟩) (by have := hbl.out.size; show b < _; omega)).trans x0
      have C1 := Lib.hid (fun w' (hb : Below wr.heap.size wr w') => HP.out (cs.getD k []) Al cl w' hmem (below_behind HB1.out (bl8 hbl.out hb)) (hr.below (bl8 hbl.out hb)))
      have C2 := Lib.hid (fun A' c' w' => HSM.out (cs.getD k []) A' c' w' hmem)
      have HPL1 := Lib.hid (HPL.out (cs.getD k []))
      have HNX : Hid (sumM (partM m (cs.getD k [])) = ((cs.getD k []).length : Int) → ∀ i, i < k + 1 → sumM (partM m (cs.getD i [])) = ((cs.getD i []).length : Int)) := Lib.hid fun h i hi => by
        by_cases e : i = k
        · subst e; exact h
        · exact hno.out i (by omega)
      have HBAD : Hid (¬ sumM (partM m (cs.getD k [])) = ((cs.getD k []).length : Int) → lightB m = false) := Lib.hid fun h => by
        rw [HALL.out, Bool.eq_false_iff]
        intro hh
        exact h (of_decide_eq_true (List.all_eq_true.1 hh _ hmem))
      clear hr k1 hno hmem
      generalize hln : cs.getD k [] = l at *
      clear hln
      generalize sumM (partM m l) = s at *
      generalize partM m l = pt at *
      generalize l.length = ll at *
      go_wp2
      go_region_held3 (fun w' => w'.cell? ⟨b, off + k, none⟩ = some (.slice Al ll cl)) (first | exact z0 | exact y0 | exact x0 | go_keep) (first | (go_at_call 66; refine (C1.out _ (by first | exact Below.refl _ _ | exact (Below.refl _ _).drew | exact below_drewN (Below.refl _ _) 1)).mono ?_; rintro e w6 ⟨v6, rfl, ho6, hb6⟩; obtain ⟨A6, c6, rfl, hg6⟩ := ho6.gridS; rw [HPL1.out]; have hq6 : Below wr.heap.size wr w6 := (below_drewN (Below.refl _ _) 1).trans hb6; have y0 := HCELL.out w6 hq6; have HQ6 := Lib.hid hq6; clear hb6 hq6) | (go_at_call 76; refine (C2.out A6 c6 w6 hg6).mono ?_; rintro e w7 ⟨rfl, rfl⟩; have z0 := y0))
      by_cases hs : s = (ll : Int)
      · have hne : (s != (ll : Int)) = false := by rw [hs]; simp
        have HN := Lib.hid (HNX.out hs)
        have HBN := Lib.hid (bl8 hbl.out HQ6.out)
        go_wp2
        go_roundw
        case rel => exact ⟨k + 1, by omega, by go_num, HN, HBN⟩
        case measure => simp [intOf]; omega
      · have hne : (s != (ll : Int)) = true := by rw [bne_iff_ne]; exact hs
        have HB : Hid (lightB m = false) := Lib.hid (HBAD.out hs)
        have HBN := Lib.hid (below_behind HB1.out (bl8 hbl.out HQ6.out))
        go_wp2
        go_ret
        exact ⟨by rw [HB.out]; rfl, HBN.out⟩
    · obtain rfl : k = cs.length := by omega
      have HB : Hid (lightB m = true) := Lib.hid (by
        rw [HALL.out, List.all_eq_true]
        intro l hl
        obtain ⟨i, hi, rfl⟩ := List.getElem_of_mem hl
        have := hno.out i hi
        rw [List.getD_eq_getElem?_getD, List.getElem?_eq_getElem hi] at this
        exact decide_eq_true this)
      have HBN := Lib.hid (below_behind HB1.out hbl.out)
      clear hno
      go_wp2
      go_ret
      exact ⟨by rw [HB.out]; rfl, HBN.out⟩

set_option maxRecDepth 100000 in
set_option maxHeartbeats 800000 in
theorem spec_isGrowthless (A : Option Addr) (c : Nat) (m : List (List Int)) (hn : m.length ≤ 1048576) (ht : ∀ k, k < m.length → (m.getD k []).length ≤ 1099511627776) (w : World) (hg : GridS w A m) :
    Calls Tryd.prog 20 #[.slice A m.length c] w (Scalar (.bool (growthlessS m)) w) := by
  have HI := Lib.hid (spec_isSmall A c m (by omega) ht w hg)
  unfold growthlessS
  cases hm : smallM m with
  | false =>
    rw [hm] at HI
    clear hg ht hm
    go_enter Tryd.func20, Tryd.ntmps20
    go_wp2_with fail
    refine HI.out.mono ?_
    rintro e w1 ⟨rfl, rfl⟩
    go_wp2
    go_ret
    exact ⟨rfl, Below.refl _ _⟩
  | true =>
    rw [hm] at HI
    have HL := Lib.hid (spec_light A c m hm w hg)
    rw [Bool.true_and]
    clear hg ht hm
    generalize lightB m = b at *
    go_enter Tryd.func20, Tryd.ntmps20
    go_wp2_with fail
    refine HI.out.mono ?_
    rintro e w1 ⟨rfl, hw⟩
    obtain rfl : w = w1 := hw.symm
    clear HI hw
    go_wp2_with fail
    refine HL.out.mono ?_
    rintro e w2 ⟨rfl, hb⟩
    go_wp2
    go_ret
    exact ⟨rfl, hb⟩
end Go.Proofs.YtanelokploifhaaDoor
namespace Go.Proofs.YtanelokploifhaaDoor
open Go Go.RowKit

theorem specV_isBelow {m : List (List Int)} (hz : SizeB m) (q d : Int) {v : Value} {w : World} (h : GridV w v m) : Calls Tryd.prog 14 #[v, .int .i64 q, .int .i64 d] w (Scalar (.bool (belowS m q d)) w) := by
  obtain ⟨A, c, rfl, hg⟩ := h
  obtain ⟨h1, _, h3⟩ := rows_le hz
  exact spec_isBelow A c m h1 h3 q d w hg
theorem specV_floor {m : List (List Int)} (hz : SizeB m) (d : Int) {v : Value} {w : World} (h : GridV w v m) : Calls Tryd.prog 12 #[v, .int .i64 d] w (Scalar (.int .i64 (floorS m d)) w) := by
  obtain ⟨A, c, rfl, hg⟩ := h
  obtain ⟨h1, _, h3⟩ := rows_le hz
  exact spec_floor A c m h1 h3 d w hg
theorem specV_compare {a b : List (List Int)} (hz : SizeB a) (hz' : SizeB b) (d : Int) {v v' : Value} {w : World} (h : GridV w v a) (h' : GridV w v' b) : Calls Tryd.prog 16 #[v, v', .int .i64 d] w (Scalar (.int .i64 (cmpS a b d)) w) := by
  obtain ⟨A, c, rfl, hg⟩ := h
  obtain ⟨A', c', rfl, hg'⟩ := h'
  obtain ⟨h1, _, h3⟩ := rows_le hz
  obtain ⟨k1, _, k3⟩ := rows_le hz'
  exact spec_compare A A' c c' a b h1 h3 k1 k3 d w hg hg'
theorem specV_rowBounds {m : List (List Int)} (hz : SizeB m) {v : Value} {w : World} (h : GridV w v m) : Calls Tryd.prog 11 #[v] w (Scalar (.tuple #[.int .i64 (lowS m), .int .i64 (highS m)]) w) := by
  obtain ⟨A, c, rfl, hg⟩ := h
  obtain ⟨h1, _, h3⟩ := rows_le hz
  exact (spec_rowBounds A c m h1 h3 w hg).mono fun e w2 ⟨he, hw⟩ => ⟨he, hw ▸ Below.refl _ _⟩
theorem specV_isGrowthless {m : List (List Int)} (hz : SizeB m) {v : Value} {w : World} (h : GridV w v m) : Calls Tryd.prog 20 #[v] w (Scalar (.bool (growthlessS m)) w) := by
  obtain ⟨A, c, rfl, hg⟩ := h
  obtain ⟨h1, _, h3⟩ := rows_le hz
  exact spec_isGrowthless A c m h1 h3 w hg
theorem atSpec_isBelow (W : World) (m : List (List Int)) (q d : Int) : ∀ v w', Below W.heap.size W w' → SizeB m → OwnG w' W.heap.size v m → Calls Tryd.prog 14 #[v, .int .i64 q, .int .i64 d] w' (Scalar (.bool (belowS m q d)) w') := fun _ _ _ hz ho => specV_isBelow hz q d ho.gridV
theorem atSpec_floor (W : World) (m : List (List Int)) (d : Int) : ∀ v w', Below W.heap.size W w' → SizeB m → OwnG w' W.heap.size v m → Calls Tryd.prog 12 #[v, .int .i64 d] w' (Scalar (.int .i64 (floorS m d)) w') := fun _ _ _ hz ho => specV_floor hz d ho.gridV
theorem atSpec_compare (W : World) (a b : List (List Int)) (d : Int) : ∀ v v' w', Below W.heap.size W w' → SizeB a → SizeB b → OwnG w' W.heap.size v a → OwnG w' W.heap.size v' b → Calls Tryd.prog 16 #[v, v', .int .i64 d] w' (Scalar (.int .i64 (cmpS a b d)) w') := fun _ _ _ _ hz hz' ho ho' => specV_compare hz hz' d ho.gridV ho'.gridV
theorem atSpec_rowBounds (W : World) (m : List (List Int)) : ∀ v w', Below W.heap.size W w' → SizeB m → OwnG w' W.heap.size v m → Calls Tryd.prog 11 #[v] w' (Scalar (.tuple #[.int .i64 (lowS m), .int .i64 (highS m)]) w') := fun _ _ _ hz ho => specV_rowBounds hz ho.gridV
theorem atSpec_isGrowthless (W : World) (m : List (List Int)) : ∀ v w', Below W.heap.size W w' → SizeB m → OwnG w' W.heap.size v m → Calls Tryd.prog 20 #[v] w' (Scalar (.bool (growthlessS m)) w') := fun _ _ _ hz ho => specV_isGrowthless hz ho.gridV
end Go.Proofs.YtanelokploifhaaDoor
