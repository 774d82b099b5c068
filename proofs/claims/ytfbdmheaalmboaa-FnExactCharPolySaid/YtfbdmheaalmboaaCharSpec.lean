/-
  The model's TurnedPoly and CharPoly: what the plain words say, in new memory; nothing that was there before is changed.
-/
import Derived.Test.YtfbdmheaalmboaaMinorsSpec
namespace Go.Proofs.Ytfbdmheaalmboaa
open Go Go.RowKit

def turnedTo (m : List (List Int)) (k : Nat) : List Int := (List.range k).map fun j => sgn j * minorsN m j
theorem turnedTo_next (m : List (List Int)) (k : Nat) : turnedTo m (k + 1) = turnedTo m k ++ [sgn k * minorsN m k] := by
  unfold turnedTo
  rw [List.range_succ, List.map_append]; rfl
theorem turnedTo_len (m : List (List Int)) (k : Nat) : (turnedTo m k).length = k := by simp [turnedTo]
theorem turnedTo_all (m : List (List Int)) : turnedTo m (m.length + 1) = turnedL m := rfl
def charTo (m : List (List Int)) (k : Nat) : List Int := (List.range (m.length + 1)).map fun t => if m.length - t < k then sgn (m.length - t) * minorsN m (m.length - t) else 0
theorem charTo_len (m : List (List Int)) (k : Nat) : (charTo m k).length = m.length + 1 := by simp [charTo]
theorem charTo_zero (m : List (List Int)) : charTo m 0 = (List.range (m.length + 1)).map fun _ => (0 : Int) := by
  unfold charTo
  exact List.map_congr_left fun t _ => by rw [if_neg (by omega)]
theorem charTo_next (m : List (List Int)) {k : Nat} (hk : k ≤ m.length) : (charTo m k).set (m.length - k) (sgn k * minorsN m k) = charTo m (k + 1) := by
  refine List.ext_getElem (by simp [charTo]) fun t h1 h2 => ?_
  have ht : t < m.length + 1 := by rw [charTo_len] at h2; exact h2
  rw [List.getElem_set]
  simp only [charTo, List.getElem_map, List.getElem_range]
  by_cases e : m.length - k = t
  · rw [if_pos e, if_pos (by omega), show m.length - t = k by omega]
  · rw [if_neg e]
    by_cases h : m.length - t < k
    · rw [if_pos h, if_pos (by omega)]
    · rw [if_neg h, if_neg (by omega)]
theorem charTo_all (m : List (List Int)) : charTo m (m.length + 1) = charL m := by
  unfold charTo charL
  exact List.map_congr_left fun t _ => by rw [if_pos (by omega)]

set_option maxRecDepth 100000 in
set_option maxHeartbeats 1600000 in
theorem spec_turnedPoly (A : Option Addr) (c : Nat) (m : List (List Int)) (hn : m.length ≤ 1048576) (ht : tot m ≤ 1048576) (w : World) (hg : GridC w A m) :
    Calls Try.prog 17 #[.slice A m.length c] w (NewA (turnedM m) w) := by
  obtain ⟨j0, hj0, hy0, hy1, hy2⟩ := info_parts infoInt
  have HS := Lib.hid (spec_isSmall A c m (by omega) (fun k hk => by have := row_le_tot hk; omega) w hg.gridS)
  have HN := Lib.hid (emptyA (B := w.heap.size) (w := w) (Nat.le_refl _))
  cases hm : smallM m with
  | false =>
    have HE : Hid (turnedM m = []) := Lib.hid (by unfold turnedM; rw [hm]; rfl)
    rw [hm] at HS
    clear hg hm
    go_enter Try.func17, Try.ntmps17
    go_wp2_with fail
    refine HS.out.mono ?_
    rintro e w1 ⟨rfl, rfl⟩
    go_wp2
    go_ret
    exact ⟨_, rfl, by rw [HE.out]; exact HN.out, below_new⟩
  | true =>
    have HE : Hid (turnedM m = cutL (turnedTo m (m.length + 1))) := Lib.hid (by unfold turnedM; rw [hm]; rfl)
    rw [hm] at HS
    obtain ⟨h1, h2, _⟩ := small_facts hm
    have HMI : Hid (∀ (k : Nat) (w' : World), k ≤ m.length → Below w.heap.size w w' → Calls Try.prog 40 #[.slice A m.length c, .int .i64 (k : Int)] w' (Scalar (.int .i64 (minorsN m k)) w')) := Lib.hid fun k w' hk hb => spec_minors A c m hm k (by omega) w' (hg.below hb)
    have HAB : Hid (∀ k, (minorsN m k).natAbs ≤ 1000000) := Lib.hid fun k => minors_abs hm k
    have HB0 : Hid (Below w.heap.size w (w.alloc (.cells #[] 3))) := Lib.hid below_new
    clear hg hm h1
    go_enter Try.func17, Try.ntmps17
    go_wp2_with fail
    refine HS.out.mono ?_
    rintro e w1 ⟨rfl, rfl⟩
    go_wp2
    go_loopw [3, 4, 5] (fun v gv kv wr => ∃ k : Nat, k ≤ m.length + 1 ∧ kv = .int .i64 (k : Int) ∧ gv = .int .i64 (sgn k) ∧ wr.ownsRow w1.heap.size 3 1 v k ((turnedTo m k).map (Value.int .i64)) ∧ Hid (Below w1.heap.size w1 wr)) (fun _ _ kv _ => m.length + 1 - (intOf kv).toNat)
    case atStart => exact ⟨0, Nat.zero_le _, rfl, rfl, HN.out, HB0⟩
    case round =>
      obtain ⟨k, hk, rfl, rfl, hO, hbl⟩ := hrel
      by_cases hlt : k ≤ m.length
      · have HC := Lib.hid (HMI.out k wr hlt hbl.out)
        have HO := Lib.hid hO
        have HNX := Lib.hid (turnedTo_next m k)
        have HSN := Lib.hid (sgn_next k)
        have hmb := HAB.out k
        have hs2 := sgn_two k
        have hw := hbl.out.size
        clear hO
        generalize minorsN m k = d at *
        generalize sgn k = s at *
        have hsd : (s * d).natAbs ≤ 1000000 := by rcases hs2 with rfl | rfl <;> omega
        have hda : -1000000 ≤ s * d := by omega
        have hdb : s * d ≤ 1000000 := by omega
        have hsa : -1 ≤ s := by omega
        have hsb : s ≤ 1 := by omega
        have hMAP : Hid ((turnedTo m k).map (Value.int .i64) ++ [.int .i64 (s * d)] = (turnedTo m (k + 1)).map (Value.int .i64)) := Lib.hid (by rw [HNX.out, List.map_append]; rfl)
        clear hmb hs2 hsd
        go_wp2_with fail
        refine HC.out.mono ?_
        rintro e w6 ⟨rfl, hb6⟩
        have HO6 := Lib.hid (kept_below HO.out hb6)
        have HB6 := Lib.hid (hbl.out.trans (hb6.mono hw))
        have hw6 := HB6.out.size
        clear hb6
        go_wp2_with (at_builtin; refine wpList_append_lies _ rfl (.tmp 17) (.tmp 23) 29 rfl w1.heap.size 3 j0 (.int .i64 0) 1 8 Try.underlying29 hj0 hy0 hy1 hy2 rfl (by decide) _ _ _ rfl (HO6.out.alloc _) ⟨w6.heap.size, 0, none⟩ 1 1 [.int .i64 (s * d)] rfl rfl (World.news_of_block (cs := #[.int .i64 (s * d)]) (t := 3) (fr := (0, 0)) (heap_alloc_new w6 _)) (by simp [Value.oneCell']) (by decide) (by unfold maxLen; omega) (by omega) (by simp; omega) (w6.heap.size + 1) (by simp) ?_; intro gg cap w7 ho7 hg7 hat7 hlt7; rw [hMAP.out] at ho7; have HM := Lib.hid ho7; have HB7 := Lib.hid ((HB6.out.alloc hw6 _).grown hg7 (by simp; omega) fun q hq => (HO.out.lt q hq).1); clear ho7 hg7 hat7)
        go_roundw
        case rel => exact ⟨k + 1, by omega, by go_num, by rw [HSN.out], HM.out, HB7⟩
        case measure => simp [intOf]; omega
      · obtain rfl : k = m.length + 1 := by omega
        obtain ⟨g, cap, rfl, _, _⟩ := hO.form (by omega)
        have hll := turnedTo_len m (m.length + 1)
        have hOA : OwnA wr w1.heap.size (.slice (some ⟨g, 0, none⟩) (turnedTo m (m.length + 1)).length cap) (turnedTo m (m.length + 1)) := by unfold OwnA; rw [hll]; exact hO
        have HC := Lib.hid (spec_cut w1.heap.size g cap (turnedTo m (m.length + 1)) (by omega) (by omega) wr hOA)
        rw [hll] at HC
        have hw := hbl.out.size
        clear hO hOA
        go_wp2_with fail
        refine HC.out.mono ?_
        rintro e w5 ⟨v, rfl, hv, b5⟩
        have HV := Lib.hid hv
        have HB5 := Lib.hid b5
        clear hv b5
        go_wp2
        go_ret
        exact ⟨v, rfl, by rw [HE.out]; exact HV.out.mono hw, hbl.out.trans (HB5.out.mono hw)⟩

set_option maxRecDepth 100000 in
set_option maxHeartbeats 1600000 in
theorem spec_charPoly (A : Option Addr) (c : Nat) (m : List (List Int)) (hn : m.length ≤ 1048576) (ht : tot m ≤ 1048576) (w : World) (hg : GridC w A m) :
    Calls Try.prog 23 #[.slice A m.length c] w (NewA (charM m) w) := by
  obtain ⟨j0, hj0, hy0, hy1, hy2⟩ := info_parts infoInt
  have HS := Lib.hid (spec_isSmall A c m (by omega) (fun k hk => by have := row_le_tot hk; omega) w hg.gridS)
  have HN := Lib.hid (emptyA (B := w.heap.size) (w := w) (Nat.le_refl _))
  cases hm : smallM m with
  | false =>
    have HE : Hid (charM m = []) := Lib.hid (by unfold charM; rw [hm]; rfl)
    rw [hm] at HS
    clear hg hm
    go_enter Try.func23, Try.ntmps23
    go_wp2_with fail
    refine HS.out.mono ?_
    rintro e w1 ⟨rfl, rfl⟩
    go_wp2
    go_ret
    exact ⟨_, rfl, by rw [HE.out]; exact HN.out, below_new⟩
  | true =>
    have HE : Hid (charM m = charTo m (m.length + 1)) := Lib.hid (by unfold charM; rw [hm, charTo_all]; rfl)
    rw [hm] at HS
    obtain ⟨h1, h2, _⟩ := small_facts hm
    have HMI : Hid (∀ (k : Nat) (w' : World), k ≤ m.length → Below w.heap.size w w' → Calls Try.prog 40 #[.slice A m.length c, .int .i64 (k : Int)] w' (Scalar (.int .i64 (minorsN m k)) w')) := Lib.hid fun k w' hk hb => spec_minors A c m hm k (by omega) w' (hg.below hb)
    have HAB : Hid (∀ k, (minorsN m k).natAbs ≤ 1000000) := Lib.hid fun k => minors_abs hm k
    clear hg hm h1 HN
    obtain ⟨N, hN⟩ : ∃ N, m.length + 1 = N := ⟨_, rfl⟩
    have hNi : (m.length : Int) + 1 = (N : Int) := by omega
    go_enter Try.func23, Try.ntmps23
    go_wp2_with fail
    refine HS.out.mono ?_
    rintro e w0 ⟨rfl, rfl⟩
    go_wp2_with (at_make; refine wpList_make_full _ rfl _ _ 29 rfl w0.heap.size 3 j0 (.int .i64 0) 1 Try.underlying29 hj0 hy0 hy1 .i64 .i64 _ _ N rfl rfl rfl rfl (by rw [hy2]; omega) (by unfold maxLen; omega) (Nat.le_refl _) ?_; intro w1 hown hgrow)
    have ho0 := made_ints hown
    have hbel : Below w0.heap.size w0 w1 := (Below.refl _ _).grown hgrow (Nat.le_refl _) (fun k hk => by cases hk)
    have hpz : (List.range N).map (fun _ => (0 : Int)) = charTo m 0 := by rw [charTo_zero, hN]
    rw [hpz] at ho0
    have HO := Lib.hid ho0
    have HB := Lib.hid hbel
    clear hown hgrow hbel ho0 hpz
    go_loopw [4, 5] (fun gv kv wr => ∃ k : Nat, k ≤ N ∧ kv = .int .i64 (k : Int) ∧ gv = .int .i64 (sgn k) ∧ wr.ownsRow w0.heap.size 3 1 (.slice (some ⟨w0.heap.size, 0, none⟩) N N) N ((charTo m k).map (Value.int .i64)) ∧ Hid (Below w0.heap.size w0 wr)) (fun _ kv _ => N - (intOf kv).toNat)
    case atStart => exact ⟨0, Nat.zero_le _, rfl, rfl, HO.out, HB⟩
    case round =>
      obtain ⟨k, hk, rfl, rfl, hO, hbl⟩ := hrel
      by_cases hlt : k ≤ m.length
      · have HC := Lib.hid (HMI.out k wr hlt hbl.out)
        have HO := Lib.hid hO
        have HNX := Lib.hid (charTo_next m hlt)
        have HSN := Lib.hid (sgn_next k)
        have hmb := HAB.out k
        have hs2 := sgn_two k
        have hw := hbl.out.size
        have hcl : (charTo m k).length = N := by rw [charTo_len, hN]
        obtain ⟨d, hd⟩ : ∃ d, m.length - k = d := ⟨_, rfl⟩
        have hdi : (m.length : Int) - (k : Int) = (d : Int) := by omega
        have hdN : d < N := by omega
        rw [hd] at HNX
        clear hO
        generalize minorsN m k = x at *
        generalize sgn k = s at *
        have hsd : (s * x).natAbs ≤ 1000000 := by rcases hs2 with rfl | rfl <;> omega
        have hda : -1000000 ≤ s * x := by omega
        have hdb : s * x ≤ 1000000 := by omega
        have hsa : -1 ≤ s := by omega
        have hsb : s ≤ 1 := by omega
        clear hmb hs2 hsd
        go_wp2_with fail
        refine HC.out.mono ?_
        rintro e w6 ⟨rfl, hb6⟩
        have ho6 := kept_below HO.out hb6
        have kf := ho6.frozenAt d
        have kc := (ho6.cellAt d (by omega)).trans (List.getElem?_eq_getElem (by rw [List.length_map]; omega))
        have hst := (ho6.stored d (.int .i64 (s * x))).1
        rw [← List.map_set, HNX.out] at hst
        have HST := Lib.hid hst
        have HB6 : Hid (Below w0.heap.size w0 (w6.setCell ⟨w0.heap.size, d, none⟩ (.int .i64 (s * x)))) := Lib.hid ((hbl.out.trans (hb6.mono hw)).setCell (Nat.le_refl _) _)
        generalize ((charTo m k).map (Value.int .i64))[d]'_ = y at *
        clear hb6 ho6 hst
        go_wp2
        go_roundw
        case rel => exact ⟨k + 1, by omega, by go_num, by rw [HSN.out], HST.out, HB6⟩
        case measure => simp [intOf]; omega
      · obtain rfl : k = N := by omega
        have HE2 : Hid (charM m = charTo m k) := Lib.hid (by rw [HE.out, hN])
        have hcl : (charTo m k).length = k := by rw [charTo_len, hN]
        have hOA : OwnA wr w0.heap.size (.slice (some ⟨w0.heap.size, 0, none⟩) k k) (charTo m k) := by unfold OwnA; rw [hcl]; exact hO
        have HOA := Lib.hid hOA
        clear hO hOA
        go_wp2
        go_ret
        exact ⟨_, rfl, by rw [HE2.out]; exact HOA.out, hbl.out⟩
end Go.Proofs.Ytfbdmheaalmboaa
