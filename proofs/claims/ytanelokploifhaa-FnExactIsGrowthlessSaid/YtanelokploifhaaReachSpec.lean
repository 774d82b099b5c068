/-
  The model's ReachOf: what the plain words say, in new memory; nothing that was there before is changed.
-/
import Derived.Test.YtanelokploifhaaMidTexts
import Derived.Test.YtanelokploifhaaBaseTexts
import Derived.BigRegion
namespace Go.Proofs.Ytanelokploifhaa
open Go Go.RowKit

theorem m_bit (b : Bool) (w : World) : Calls Try.prog 39 #[.bool b] w fun e w' => e = .returned (.int .i64 (bI b)) ∧ w' = w := by
  go_enter Try.func39, Try.ntmps39
  cases b with
  | false => go_wp2; go_ret; exact ⟨rfl, rfl⟩
  | true => go_wp2; go_ret; exact ⟨rfl, rfl⟩
theorem cell_far {w : World} {a p : Addr} {v u : Value} (hne : p.block ≠ a.block) (h : w.cell? p = some u) : (w.setCell a v).cell? p = some u := by
  have hb := heap_setCell_other w a p.block v hne
  unfold World.cell? at h ⊢
  rw [hb]; exact h
/-- Number j of row i, as OwnG.at, and the row's block is not the table's. -/
theorem OwnG.at2 {w : World} {B : Nat} {v : Value} {m : List (List Int)} (h : OwnG w B v m) {i j : Nat} (hi : i < m.length) (hj : j < (m.getD i []).length) :
    ∃ g cap gi ci, v = .slice (some ⟨g, 0, none⟩) m.length cap ∧ w.cell? ⟨g, i, none⟩ = some (.slice (some ⟨gi, 0, none⟩) (m.getD i []).length ci) ∧ w.cell? ⟨gi, j, none⟩ = some (.int .i64 (cellOf m i j)) ∧ w.frozen? ⟨gi, j, none⟩ = false ∧ B ≤ gi ∧ gi < w.heap.size ∧ g ≠ gi ∧ B ≤ g ∧
      ∀ x : Int, OwnG (w.setCell ⟨gi, j, none⟩ (.int .i64 x)) B v (m.set i ((m.getD i []).set j x)) := by
  obtain ⟨g, cap, gi, ci, rfl, h1, h2, h3, h4, h5, h6⟩ := h.at hi hj
  obtain ⟨vs, ho, hr⟩ := h
  have hv : vs[i]? = some vs[i]! := by
    have := hr.len
    rw [getElem!_pos vs i (by omega)]
    exact List.getElem?_eq_getElem (by omega)
  have hc := (ho.cellAt i (by omega)).trans hv
  rw [h1] at hc
  have hrow := hr.row i _ hv
  rw [← Option.some.inj hc] at hrow
  refine ⟨g, cap, gi, ci, rfl, h1, h2, h3, h4, h5, ?_, (ho.lt g rfl).1, h6⟩
  rcases hrow.2 with e | e
  · cases e
  · intro e2
    exact e (by rw [e2]; rfl)

/-- The arcs so far. -/
def arcF (m : List (List Int)) (i j : Nat) : Nat → Nat → Int := fun a b => if a < i ∨ (a = i ∧ b < j) then bI (arcB m a b) else 0
theorem arcF_zero (m : List (List Int)) (n : Nat) : tabOf n n (arcF m 0 0) = tabOf n n fun _ _ => 0 := tabOf_congr fun i j _ _ => by unfold arcF; rw [if_neg (by omega)]
theorem arcF_next (m : List (List Int)) (n i j : Nat) (hi : i < n) : (tabOf n n (arcF m i j)).set i (((tabOf n n (arcF m i j)).getD i []).set j (bI (arcB m i j))) = tabOf n n (arcF m i (j + 1)) := by
  rw [tabOf_set _ _ hi]
  refine tabOf_congr fun a b _ _ => ?_
  unfold arcF
  by_cases e : a = i ∧ b = j
  · obtain ⟨rfl, rfl⟩ := e
    rw [if_pos ⟨rfl, rfl⟩, if_pos (by omega)]
  · rw [if_neg e]
    by_cases h : a < i ∨ (a = i ∧ b < j)
    · rw [if_pos h, if_pos (by omega)]
    · rw [if_neg h, if_neg (by omega)]
theorem arcF_row (m : List (List Int)) (n i : Nat) : tabOf n n (arcF m i n) = tabOf n n (arcF m (i + 1) 0) := tabOf_congr fun a b _ hb => by
  unfold arcF
  by_cases h : a < i ∨ (a = i ∧ b < n)
  · rw [if_pos h, if_pos (by omega)]
  · rw [if_neg h, if_neg (by omega)]
/-- The pairs that are joined by way of vertices below k, and below k + 1 ahead of i and j. -/
def viaF (m : List (List Int)) (k i j : Nat) : Nat → Nat → Int := fun a b => bI (if a < i ∨ (a = i ∧ b < j) then viaB m (k + 1) a b else viaB m k a b)
theorem viaF_zero (m : List (List Int)) (n : Nat) : tabOf n n (arcF m n 0) = tabOf n n (viaF m 0 0 0) := tabOf_congr fun a b ha _ => by
  unfold arcF viaF
  rw [if_pos (Or.inl ha), if_neg (by omega)]; rfl
theorem viaF_col (m : List (List Int)) (k i j a : Nat) : viaF m k i j a k = bI (viaB m k a k) := by
  unfold viaF
  split
  · rw [viaB_col]
  · rfl
theorem viaF_rowk (m : List (List Int)) (k i j b : Nat) : viaF m k i j k b = bI (viaB m k k b) := by
  unfold viaF
  split
  · rw [viaB_row]
  · rfl
theorem viaF_at (m : List (List Int)) (k i j : Nat) : viaF m k i j i j = bI (viaB m k i j) := by
  unfold viaF
  rw [if_neg (by omega)]
theorem viaF_next (m : List (List Int)) (n k i j : Nat) (hi : i < n) : (tabOf n n (viaF m k i j)).set i (((tabOf n n (viaF m k i j)).getD i []).set j (bI (viaB m k i j || (viaB m k i k && viaB m k k j)))) = tabOf n n (viaF m k i (j + 1)) := by
  rw [tabOf_set _ _ hi]
  refine tabOf_congr fun a b _ _ => ?_
  by_cases e : a = i ∧ b = j
  · obtain ⟨rfl, rfl⟩ := e
    rw [if_pos ⟨rfl, rfl⟩]
    unfold viaF
    rw [if_pos (by omega)]; rfl
  · rw [if_neg e]
    unfold viaF
    by_cases h : a < i ∨ (a = i ∧ b < j)
    · rw [if_pos h, if_pos (by omega)]
    · rw [if_neg h, if_neg (by omega)]
theorem viaF_row (m : List (List Int)) (n k i : Nat) : tabOf n n (viaF m k i n) = tabOf n n (viaF m k (i + 1) 0) := tabOf_congr fun a b _ hb => by
  unfold viaF
  by_cases h : a < i ∨ (a = i ∧ b < n)
  · rw [if_pos h, if_pos (by omega)]
  · rw [if_neg h, if_neg (by omega)]
theorem viaF_all (m : List (List Int)) (n k : Nat) : tabOf n n (viaF m k n 0) = tabOf n n (viaF m (k + 1) 0 0) := tabOf_congr fun a b ha _ => by
  unfold viaF
  rw [if_pos (Or.inl ha), if_neg (by omega)]
theorem viaF_end (m : List (List Int)) : tabOf m.length m.length (viaF m m.length 0 0) = reachM m := tabOf_congr fun a b _ _ => by
  unfold viaF reachB
  rw [if_neg (by omega)]

set_option maxRecDepth 100000 in
set_option maxHeartbeats 6400000 in
theorem spec_reach6 (A1 : Option Addr) (c1 : Nat) (m : List (List Int)) (hm : MatFacts m) (w : World) (h1 : GridS w A1 m) :
    Calls Try.prog 65 #[.slice A1 m.length c1] w (NewG (reachM m) w) := by
  have H1 := Lib.hid h1
  have HA := Lib.hid hm
  have HZ := Lib.hid (spec_zero m.length m.length (by have := hm.le; omega) (by have := hm.le; omega) w)
  have HBIT := Lib.hid m_bit
  have hand := bI_and
  have hor := bI_or
  have l1 := hm.le
  clear h1 hm
  go_enter Try.func65, Try.ntmps65
  go_wp2_with fail
  refine HZ.out.mono ?_
  rintro e w1 ⟨v, rfl, hown, b1⟩
  obtain ⟨A, c, rfl, -⟩ := hown.gridS
  rw [← arcF_zero m] at hown
  rw [tabOf_length] at hown ⊢
  have HO := Lib.hid hown
  have HB1 := Lib.hid b1
  clear hown b1
  go_wp2
  go_loopw [4] (fun iv wr => ∃ i : Nat, i ≤ m.length ∧ iv = .int .i64 i ∧ OwnG wr w.heap.size (.slice A m.length c) (tabOf m.length m.length (arcF m i 0)) ∧ Below w.heap.size w wr) (fun i _ => m.length - (intOf i).toNat)
  case atStart => exact ⟨0, Nat.zero_le _, rfl, HO.out, HB1.out⟩
  case round =>
    obtain ⟨i, hi, rfl, hown, hbl⟩ := hrel
    by_cases hil : i < m.length
    · have HO1 := Lib.hid hown
      have HB2 := Lib.hid hbl
      clear hown hbl
      obtain ⟨W1, rfl⟩ : ∃ W1 : World, W1 = wr := ⟨_, rfl⟩
      go_wp2
      go_loopw [5] (fun jv wr => ∃ j : Nat, j ≤ m.length ∧ jv = .int .i64 j ∧ OwnG wr w.heap.size (.slice A m.length c) (tabOf m.length m.length (arcF m i j)) ∧ Below w.heap.size w wr) (fun j _ => m.length - (intOf j).toNat)
      case atStart => exact ⟨0, Nat.zero_le _, rfl, HO1.out, HB2.out⟩
      case round =>
        obtain ⟨j, hj, rfl, hown, hbl⟩ := hrel
        by_cases hjl : j < m.length
        · have hrl : ((tabOf m.length m.length (arcF m i j)).getD i []).length = m.length := by rw [tabOf_row hil]; simp
          obtain ⟨g, cap, gi, ci, hv, k1, k2, kf, kb, kl, kne, kg, hset⟩ := hown.at2 (i := i) (j := j) (by rw [tabOf_length]; exact hil) (by rw [hrl]; exact hjl)
          rw [tabOf_length] at hv
          simp only [Value.slice.injEq, true_and] at hv
          obtain ⟨rfl, rfl⟩ := hv
          rw [hrl] at k1
          obtain ⟨p1, p2, p3, p4, p5, rfl, ka1, ka2, pb1, pb2⟩ := H1.out.num hil (j := j) (by rw [HA.out.row i hil]; exact hjl)
          have ka1' := (hbl.cell (p := ⟨p1, p2 + i, none⟩) pb1).trans ka1
          have ka2' := (hbl.cell (p := ⟨p3, p4 + j, none⟩) pb2).trans ka2
          rw [HA.out.row i hil] at ka1'
          have hs1 := hset (bI (arcB m i j))
          rw [arcF_next m _ i j hil] at hs1
          have HS := Lib.hid hs1
          have HB4 := Lib.hid hbl
          have n1 : p1 ≠ gi := by omega
          have n2 : p3 ≠ gi := by omega
          have HARC : Hid (arcB m i j = decide (0 < cellOf m i j)) := Lib.hid rfl
          clear hset hs1 hown hbl ka1 ka2
          generalize cellOf (tabOf m.length m.length (arcF m i j)) i j = T at *
          generalize cellOf m i j = x at *
          generalize arcB m i j = y at *
          have hy := HARC.out
          subst hy
          go_wp2
          go_region_held3 (fun w' => w'.cell? ⟨g, i, none⟩ = some (.slice (some ⟨gi, 0, none⟩) m.length ci) ∧ w'.cell? ⟨p1, p2 + i, none⟩ = some (.slice (some ⟨p3, p4, none⟩) m.length p5) ∧ w'.cell? ⟨p3, p4 + j, none⟩ = some (.int .i64 x)) (first | exact ⟨k1, ka1', ka2'⟩ | exact ⟨cell_far kne k1, cell_far n1 ka1', cell_far n2 ka2'⟩ | go_keep) (first | (go_at_call 39; refine (HBIT.out _ _).mono ?_; rintro e w2 ⟨rfl, rfl⟩))
          go_wp2
          go_roundw
          case rel => exact ⟨j + 1, by omega, by go_num, HS.out.drew, (HB4.out.setCell kb _).drew⟩
          case measure => simp [intOf]; omega
        · obtain rfl : j = m.length := by omega
          rw [arcF_row] at hown
          have HO3 := Lib.hid hown
          clear hown
          go_wp2
          go_roundw
          case rel => exact ⟨i + 1, by omega, by go_num, HO3.out, hbl⟩
          case measure => simp [intOf]; omega
    · obtain rfl : i = m.length := by omega
      rw [viaF_zero] at hown
      have HO2 := Lib.hid hown
      have HB2 := Lib.hid hbl
      clear hown hbl
      obtain ⟨W1, rfl⟩ : ∃ W1 : World, W1 = wr := ⟨_, rfl⟩
      go_wp2
      go_loopw [6] (fun kv wr => ∃ k : Nat, k ≤ m.length ∧ kv = .int .i64 k ∧ OwnG wr w.heap.size (.slice A m.length c) (tabOf m.length m.length (viaF m k 0 0)) ∧ Below w.heap.size w wr) (fun k _ => m.length - (intOf k).toNat)
      case atStart => exact ⟨0, Nat.zero_le _, rfl, HO2.out, HB2.out⟩
      case round =>
        obtain ⟨k, hk, rfl, hown, hbl⟩ := hrel
        by_cases hkl : k < m.length
        · have HO3 := Lib.hid hown
          have HB3 := Lib.hid hbl
          clear hown hbl
          obtain ⟨W2, rfl⟩ : ∃ W2 : World, W2 = wr := ⟨_, rfl⟩
          go_wp2
          go_loopw [7] (fun iv wr => ∃ i : Nat, i ≤ m.length ∧ iv = .int .i64 i ∧ OwnG wr w.heap.size (.slice A m.length c) (tabOf m.length m.length (viaF m k i 0)) ∧ Below w.heap.size w wr) (fun i _ => m.length - (intOf i).toNat)
          case atStart => exact ⟨0, Nat.zero_le _, rfl, HO3.out, HB3.out⟩
          case round =>
            obtain ⟨i, hi, rfl, hown, hbl⟩ := hrel
            by_cases hil : i < m.length
            · have HO4 := Lib.hid hown
              have HB4 := Lib.hid hbl
              clear hown hbl
              obtain ⟨W3, rfl⟩ : ∃ W3 : World, W3 = wr := ⟨_, rfl⟩
              go_wp2
              go_loopw [8] (fun jv wr => ∃ j : Nat, j ≤ m.length ∧ jv = .int .i64 j ∧ OwnG wr w.heap.size (.slice A m.length c) (tabOf m.length m.length (viaF m k i j)) ∧ Below w.heap.size w wr) (fun j _ => m.length - (intOf j).toNat)
              case atStart => exact ⟨0, Nat.zero_le _, rfl, HO4.out, HB4.out⟩
              case round =>
                obtain ⟨j, hj, rfl, hown, hbl⟩ := hrel
                by_cases hjl : j < m.length
                · have hrl : ∀ t, t < m.length → ((tabOf m.length m.length (viaF m k i j)).getD t []).length = m.length := fun t ht => by rw [tabOf_row ht]; simp
                  obtain ⟨g, cap, gi, ci, hv, k1, k2, kf, kb, kl, kne, kg, hset⟩ := hown.at2 (i := i) (j := j) (by rw [tabOf_length]; exact hil) (by rw [hrl i hil]; exact hjl)
                  obtain ⟨g2, cap2, gi2, ci2, hv2, k12, k22, _⟩ := hown.at2 (i := i) (j := k) (by rw [tabOf_length]; exact hil) (by rw [hrl i hil]; exact hkl)
                  obtain ⟨g3, cap3, gk, ck, hv3, k13, k23, _⟩ := hown.at2 (i := k) (j := j) (by rw [tabOf_length]; exact hkl) (by rw [hrl k hkl]; exact hjl)
                  rw [tabOf_length] at hv hv2 hv3
                  simp only [Value.slice.injEq, true_and] at hv hv2 hv3
                  obtain ⟨rfl, rfl⟩ := hv
                  obtain ⟨e2, rfl⟩ := hv2
                  obtain ⟨e3, rfl⟩ := hv3
                  simp only [Option.some.injEq, Addr.mk.injEq, and_true] at e2 e3
                  subst e2
                  subst e3
                  rw [k1] at k12
                  simp only [Option.some.injEq, Value.slice.injEq, Addr.mk.injEq, and_true, true_and] at k12
                  obtain ⟨rfl, rfl⟩ := k12
                  rw [hrl i hil] at k1
                  rw [hrl k hkl] at k13
                  rw [tabOf_cell hil hjl, viaF_at] at k2
                  rw [tabOf_cell hil hkl, viaF_col] at k22
                  rw [tabOf_cell hkl hjl, viaF_rowk] at k23
                  have hs1 := hset (bI (viaB m k i j || (viaB m k i k && viaB m k k j)))
                  rw [viaF_next m _ k i j hil] at hs1
                  have HS := Lib.hid hs1
                  have HB5 := Lib.hid hbl
                  clear hset hs1 hown hbl hrl
                  generalize viaB m k i j = x at *
                  generalize viaB m k i k = y at *
                  generalize viaB m k k j = z at *
                  go_wp2
                  go_region
                  go_wp2
                  go_roundw
                  case rel => exact ⟨j + 1, by omega, by go_num, HS.out.drew, (HB5.out.setCell kb _).drew⟩
                  case measure => simp [intOf]; omega
                · obtain rfl : j = m.length := by omega
                  rw [viaF_row] at hown
                  have HO5 := Lib.hid hown
                  clear hown
                  go_wp2
                  go_roundw
                  case rel => exact ⟨i + 1, by omega, by go_num, HO5.out, hbl⟩
                  case measure => simp [intOf]; omega
            · obtain rfl : i = m.length := by omega
              rw [viaF_all] at hown
              have HO5 := Lib.hid hown
              clear hown
              go_wp2
              go_roundw
              case rel => exact ⟨k + 1, by omega, by go_num, HO5.out, hbl⟩
              case measure => simp [intOf]; omega
        · obtain rfl : k = m.length := by omega
          rw [viaF_end] at hown
          have HO5 := Lib.hid hown
          clear hown
          go_wp2
          go_ret
          exact ⟨_, rfl, HO5.out, hbl⟩

set_option maxRecDepth 100000 in
set_option maxHeartbeats 800000 in
theorem spec_reachOf (A1 : Option Addr) (c1 : Nat) (m : List (List Int)) (hl : m.length ≤ 1048576) (ht : tot m ≤ 1048576) (w : World) (h1 : GridS w A1 m) :
    Calls Try.prog 60 #[.slice A1 m.length c1] w (NewG (reachS m) w) := by
  have I1 := Lib.hid (spec_isMatrix A1 c1 m (by omega) (fun k hk => by have := row_le_tot hk; omega) w h1)
  unfold reachS
  cases hm : isMat m with
  | false =>
    rw [hm] at I1
    rw [if_neg (by decide)]
    have HE := Lib.hid (ownG_empty w)
    clear h1 hm
    go_enter Try.func60, Try.ntmps60
    go_wp2_with fail
    refine I1.out.mono ?_
    rintro e w1 ⟨rfl, rfl⟩
    go_wp2
    go_ret
    exact ⟨_, rfl, HE.out, below_new⟩
  | true =>
    rw [hm] at I1
    rw [if_pos rfl]
    have HR := Lib.hid (spec_reach6 A1 c1 m (isMat_facts hm) w h1)
    clear h1 hm
    go_enter Try.func60, Try.ntmps60
    go_wp2_with fail
    refine I1.out.mono ?_
    rintro e w1 ⟨rfl, rfl⟩
    go_wp2_with fail
    refine HR.out.mono ?_
    rintro e w2 ⟨v, rfl, ho, hb⟩
    have HO := Lib.hid ho
    clear ho
    go_wp2
    go_ret
    exact ⟨_, rfl, HO.out, hb⟩
end Go.Proofs.Ytanelokploifhaa
