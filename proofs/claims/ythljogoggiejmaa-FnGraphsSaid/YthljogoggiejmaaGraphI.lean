/-
  The program's IsGraph, ArcsOf and IsPath: what the plain words say, tables in new memory; nothing that was there before is changed.
-/
import Derived.Test.YthljogoggiejmaaGraphSpec
import Derived.Test.YthljogoggiejmaaRowSums
import Derived.Test.YthljogoggiejmaaGraphFill
namespace Go.Proofs.Ythljogoggiejmaa
open Go Go.RowKit

set_option maxRecDepth 100000 in
set_option maxHeartbeats 400000 in
theorem impl_isGraph (A : Option Addr) (c : Nat) (m : List (List Int)) (hn : m.length ≤ 1099511627776) (ht : ∀ k, k < m.length → (m.getD k []).length ≤ 1099511627776) (w : World) (hg : GridS w A m) :
    Calls Try.prog 30 #[.slice A m.length c] w fun e w' => e = .returned (.bool (isGraphM m)) ∧ w' = w := by
  have HI := Lib.hid (impl_isMatrix A c m hn ht w hg)
  have HS := Lib.hid (impl_sumOf A c m hn ht w hg)
  clear hg ht
  unfold isGraphM
  cases hm : isMat m with
  | false =>
    rw [hm] at HI
    go_enter Try.func30, Try.ntmps30
    go_wp2_with fail
    refine HI.out.mono ?_
    rintro e w1 ⟨rfl, rfl⟩
    go_wp2
    go_ret
    exact ⟨rfl, rfl⟩
  | true =>
    rw [hm] at HI
    clear hm
    generalize sumM m = s at *
    go_enter Try.func30, Try.ntmps30
    go_wp2_with fail
    refine HI.out.mono ?_
    rintro e w1 ⟨rfl, rfl⟩
    go_wp2_with fail
    refine HS.out.mono ?_
    rintro e w2 ⟨rfl, rfl⟩
    go_wp2
    go_ret
    exact ⟨by simp, rfl⟩

set_option maxRecDepth 100000 in
set_option maxHeartbeats 3200000 in
theorem impl_arcsOf (A : Option Addr) (c : Nat) (m : List (List Int)) (hn : m.length ≤ 1099511627776) (ht : ∀ k, k < m.length → (m.getD k []).length ≤ 1099511627776) (w : World) (hg : GridS w A m) :
    Calls Try.prog 20 #[.slice A m.length c] w (NewG (arcsOfM m) w) := by
  have HI := Lib.hid (impl_isGraph A c m hn ht w hg)
  unfold arcsOfM
  cases hm0 : isGraphM m with
  | false =>
    rw [hm0] at HI
    rw [if_neg (by decide)]
    have HE := Lib.hid (ownG_empty w)
    clear hg ht
    go_enter Try.func20, Try.ntmps20
    go_wp2_with fail
    refine HI.out.mono ?_
    rintro e w1 ⟨rfl, rfl⟩
    go_wp2
    go_ret
    exact ⟨_, rfl, ⟨[], World.ownsRow_nil _ _ _ _, RowsOwn.nil _ _ _⟩, Below.refl _ _⟩
  | true =>
    rw [hm0] at HI
    rw [if_pos rfl]
    have hm := (isGraphM_facts hm0).1
    obtain ⟨i0, hi0, hz0, hz1, hz2⟩ := info_parts infoSl
    have hf := isMat_facts hm
    have hle := hf.le
    have HG := Lib.hid hg
    have HF := Lib.hid hf
    have HM := Lib.hid hm
    clear hg hf hm hm0 ht
    go_enter Try.func20, Try.ntmps20
    go_wp2_with fail
    refine HI.out.mono ?_
    rintro e w1 ⟨rfl, hw⟩
    obtain rfl : w = w1 := hw.symm
    have HM0 : Hid (w.ownsRow w.heap.size 28 1 (.slice none 0 0) 0 []) := Lib.hid (World.ownsRow_nil _ _ _ _)
    go_wp2
    go_loopw [3, 13] (fun v iv wr => ∃ (i : Nat) (vs : List Value), i ≤ m.length ∧ iv = .int .i64 i ∧ wr.ownsRow w.heap.size 28 1 v (arcsTo m i 0 0).length vs ∧ RowsOwn wr w.heap.size v.ownBlock vs (arcsTo m i 0 0) ∧ Below w.heap.size w wr) (fun _ i _ => m.length - (intOf i).toNat)
    case atStart => exact ⟨0, [], Nat.zero_le _, rfl, HM0.out, RowsOwn.nil _ _ _, Below.refl _ _⟩
    case round =>
      obtain ⟨i, vs, hi, rfl, hO, hR, hbl⟩ := hrel
      by_cases hil : i < m.length
      · have HO := Lib.hid hO
        have HR := Lib.hid hR
        have HB := Lib.hid hbl
        obtain ⟨b, off, A', c', hA, k0, hrow, hlt0⟩ := HG.out.row hil
        rw [HF.out.row i hil] at k0
        obtain ⟨b2, off2, rfl, hat, hlt2⟩ := hrow (by rw [HF.out.row i hil]; omega)
        have HAT : Hid (∀ t w', t < m.length → Below w.heap.size w w' → w'.cell? ⟨b2, off2 + t, none⟩ = some (.int .i64 (cellOf m i t))) := Lib.hid fun t w' htt hb => (hb.cell (p := ⟨b2, off2 + t, none⟩) hlt2).trans (hat t (by rw [HF.out.row i hil]; exact htt))
        have k1 := (hbl.cell (p := ⟨b, off + i, none⟩) hlt0).trans k0
        subst hA
        obtain ⟨Wr, hWr⟩ : ∃ Wr : World, Wr = wr := ⟨_, rfl⟩
        have k3 := k1
        rw [← hWr] at k3
        clear hO hR hbl hat k0
        go_wp2
        go_loopw [3, 20] (fun v jv w2 => ∃ (j : Nat) (vs : List Value), j ≤ m.length ∧ jv = .int .i64 j ∧ w2.ownsRow w.heap.size 28 1 v (arcsTo m i j 0).length vs ∧ RowsOwn w2 w.heap.size v.ownBlock vs (arcsTo m i j 0) ∧ Below w.heap.size w w2) (fun _ j _ => m.length - (intOf j).toNat)
        case atStart => exact ⟨0, vs, Nat.zero_le _, rfl, HO.out, HR.out, HB.out⟩
        case round =>
          clear HO HR HB vs
          obtain ⟨j, vs, hj, rfl, hO, hR, hbl⟩ := hrel
          by_cases hjl : j < m.length
          · have HO := Lib.hid hO
            have HR := Lib.hid hR
            have HB := Lib.hid hbl
            have hcl := HF.out.cell i j hil hjl
            have k2 := HAT.out j _ hjl hbl
            clear hO hR hbl
            have hcell : (0 : Int) ≤ cellOf m i j ∧ cellOf m i j ≤ 1000000 := hcl
            obtain ⟨x, hx⟩ : ∃ x : Nat, cellOf m i j = (x : Int) := ⟨(cellOf m i j).toNat, by omega⟩
            rw [hx] at k2 hcl
            go_wp2
            go_loopw [3, 26] (fun v kv w3 => ∃ (k : Nat) (vs : List Value), k ≤ x ∧ kv = .int .i64 k ∧ w3.ownsRow w.heap.size 28 1 v (arcsTo m i j k).length vs ∧ RowsOwn w3 w.heap.size v.ownBlock vs (arcsTo m i j k) ∧ Below w.heap.size w w3) (fun _ k _ => x - (intOf k).toNat)
            case atStart => exact ⟨0, vs, Nat.zero_le _, rfl, HO.out, HR.out, HB.out⟩
            case round =>
              clear HO HR HB vs k2
              obtain ⟨k, vs, hk, rfl, hO, hR, hbl⟩ := hrel
              have hal := arcsTo_le HM.out (Nat.le_of_lt hil) (Nat.le_of_lt hjl) (Or.inl hil) (k := k) (by omega)
              by_cases hkl : k < x
              · have HO := Lib.hid hO
                have HR := Lib.hid hR
                have HB := Lib.hid hbl
                have hsz := hbl.size
                clear hO hR hbl
                go_wp2_with (at_builtin; refine wpList_append_lies _ rfl (.tmp 28) (.tmp 32) 24 rfl w.heap.size 28 i0 (.slice none 0 0) 1 24 Try.underlying24 hi0 hz0 hz1 hz2 rfl (by decide) _ _ _ rfl ((HO.out.alloc _).alloc _) ⟨wr.heap.size + 1, 0, none⟩ 1 1 [.slice (some ⟨wr.heap.size, 0, none⟩) 2 2] rfl rfl (World.news_of_block (cs := #[.slice (some ⟨wr.heap.size, 0, none⟩) 2 2]) (t := 28) (fr := (0, 0)) (by have := heap_alloc_new (wr.alloc (.cells #[.int .i64 (i : Int), .int .i64 (j : Int)] 3)) (.cells #[.slice (some ⟨wr.heap.size, 0, none⟩) 2 2] 28); rw [World.size_alloc] at this; exact this)) (by simp [Value.oneCell']) (by decide) (by unfold maxLen; omega) (by omega) (by simp; omega) (wr.heap.size + 1 + 1) (by simp) ?_; intro gg cap w3 ho3 hg3 hat hlt3; have HN := Lib.hid (arcs_next HB.out HO.out HR.out ho3 hg3 hat); clear ho3 hg3 hat)
                go_roundw
                case rel => exact ⟨k + 1, _, by omega, by go_num, HN.out.1, HN.out.2.1, HN.out.2.2⟩
                case measure => simp [intOf]; omega
              · have hkk : k = (cellOf m i j).toNat := by omega
                rw [hkk, arcsTo_col] at hO hR
                have HO := Lib.hid hO
                have HR := Lib.hid hR
                clear hO hR
                go_wp2
                go_roundw
                case rel => exact ⟨j + 1, vs, by omega, by go_num, HO.out, HR.out, hbl⟩
                case measure => simp [intOf]; omega
          · obtain rfl : j = m.length := by omega
            rw [arcsTo_row] at hO hR
            have HO := Lib.hid hO
            have HR := Lib.hid hR
            clear hO hR
            go_wp2
            go_roundw
            case rel => exact ⟨i + 1, vs, by omega, by go_num, HO.out, HR.out, hbl⟩
            case measure => simp [intOf]; omega
      · obtain rfl : i = m.length := by omega
        rw [arcsTo_all] at hO hR
        have HO := Lib.hid hO
        have HR := Lib.hid hR
        clear hO hR
        go_wp2
        go_ret
        exact ⟨_, rfl, ⟨vs, HO.out, HR.out⟩, hbl⟩

/-! ### goesOn, IsPath -/

set_option maxRecDepth 100000 in
set_option maxHeartbeats 1600000 in
theorem impl_goesOn (A : Option Addr) (c : Nat) (arcs : List (List Int)) (h2 : ∀ r ∈ arcs, r.length = 2) (A2 : Option Addr) (c2 : Nat) (head : List Int) (hl : head.length ≤ 1099511627776) (hin : 0 < head.length → 0 ≤ head.getD (head.length - 1) 0 ∧ head.getD (head.length - 1) 0 < (arcs.length : Int)) (k : Nat) (hk : k < arcs.length) (w : World) (hg : GridS w A arcs) (hr : RowS w A2 head) :
    Calls Try.prog 58 #[.slice A arcs.length c, .slice A2 head.length c2, .int .i64 (k : Int)] w (Scalar (.bool (goesOnM arcs head k)) w) := by
  by_cases h0 : head.length = 0
  · have hres : goesOnM arcs head k = true := by unfold goesOnM; rw [decide_eq_true h0]; rfl
    rw [hres, h0]
    clear hin hg hr
    go_enter Try.func58, Try.ntmps58
    go_wp2
    go_ret
    exact ⟨rfl, Below.refl _ _⟩
  · obtain ⟨pb, po, rfl, hat, _⟩ := hr (by omega)
    have hx0 := hat (head.length - 1) (by omega)
    have hin' := hin (by omega)
    obtain ⟨z, hz⟩ : ∃ z : Nat, head.getD (head.length - 1) 0 = (z : Int) := ⟨(head.getD (head.length - 1) 0).toNat, by omega⟩
    have hres : goesOnM arcs head k = decide (cellOf arcs z 1 = cellOf arcs k 0) := by
      unfold goesOnM endOf
      rw [decide_eq_false h0, hz, Int.toNat_natCast]; rfl
    rw [hres]
    rw [hz] at hx0 hin'
    obtain ⟨b, off, b1, o1, d1, rfl, k1, k2, k3⟩ := arc_at hg h2 (k := z) (by omega)
    obtain ⟨b', off', b2, o2, d2, hbb, k4, k5, k6⟩ := arc_at hg h2 hk
    simp only [Option.some.injEq, Addr.mk.injEq, and_true] at hbb
    obtain ⟨rfl, rfl⟩ := hbb
    have g0 : (0 : Int) < (head.length : Int) := by omega
    have g1 : (z : Int) < (arcs.length : Int) := hin'.2
    have g2 : (k : Int) < (arcs.length : Int) := by omega
    obtain ⟨n, hn⟩ : ∃ n : Nat, head.length = n + 1 := ⟨head.length - 1, by omega⟩
    rw [hn, Nat.add_sub_cancel] at hx0
    rw [hn] at hl g0 ⊢
    clear hin hg hr hat hres hz hin' h0 k2 k6 hn
    generalize cellOf arcs z 1 = e1 at *
    generalize cellOf arcs k 0 = e2 at *
    have hn0 : (((n + 1 : Nat) : Int) == 0) = false := by rw [beq_eq_false_iff_ne]; omega
    go_enter Try.func58, Try.ntmps58
    go_wp2
    go_quiet (fail)
    go_wp2
    go_ret
    have he : (e1 == e2) = decide (e1 = e2) := by rw [Bool.eq_iff_iff]; simp
    exact ⟨by simp [he], below_drewN (Below.refl _ _) _⟩

theorem take_getD {p : List Int} {k j : Nat} (hj : j < k) : (p.take k).getD j 0 = p.getD j 0 := by
  simp only [List.getD_eq_getElem?_getD, List.getElem?_take]
  rw [if_pos hj]
/-- What is asked of arc k of a path whose arcs ahead of it are known. -/
theorem pathOk_goes {arcs : List (List Int)} {p : List Int} {k y : Nat} (hk : k < p.length) (hy : p.getD k 0 = (y : Int)) (hl : y < arcs.length) : pathOk arcs p k = goesOnM arcs (p.take k) y := by
  have hlen : (p.take k).length = k := by rw [List.length_take]; omega
  unfold pathOk goesOnM startOf
  rw [hy, decide_eq_true (show (0 : Int) ≤ (y : Int) by omega), decide_eq_true (show (y : Int) ≤ (arcs.length : Int) - 1 by omega), hlen, Int.toNat_natCast]
  cases k with
  | zero => simp
  | succ k => rw [Nat.add_sub_cancel, take_getD (Nat.lt_succ_self k)]; simp

set_option maxRecDepth 100000 in
set_option maxHeartbeats 3200000 in
theorem impl_isPath (A : Option Addr) (c : Nat) (m : List (List Int)) (hn : m.length ≤ 1099511627776) (ht : ∀ k, k < m.length → (m.getD k []).length ≤ 1099511627776) (A2 : Option Addr) (c2 : Nat) (p : List Int) (hp : p.length ≤ 1099511627776) (hc2 : p.length ≤ c2) (w : World) (hg : GridS w A m) (hr : RowS w A2 p) :
    Calls Try.prog 23 #[.slice A m.length c, .slice A2 p.length c2] w (Scalar (.bool (isGraphM m && isPathM (arcsM m) p)) w) := by
  have HI := Lib.hid (impl_isGraph A c m hn ht w hg)
  have HA := Lib.hid (impl_arcsOf A c m hn ht w hg)
  cases hm : isGraphM m with
  | false =>
    rw [hm] at HI
    clear hg ht hr
    go_enter Try.func23, Try.ntmps23
    go_wp2_with fail
    refine HI.out.mono ?_
    rintro e w1 ⟨rfl, rfl⟩
    go_wp2
    go_ret
    exact ⟨rfl, Below.refl _ _⟩
  | true =>
    rw [hm] at HI
    rw [Bool.true_and]
    obtain ⟨hz, hs⟩ := isGraphM_facts hm
    have hlen := arcsM_length hz
    have H2 := Lib.hid (arcsM_two m)
    have hal : (arcsM m).length ≤ 60 := by omega
    unfold arcsOfM at HA
    rw [if_pos hm] at HA
    have HBAD : Hid (∀ k, k < p.length → pathOk (arcsM m) p k = false → isPathM (arcsM m) p = false) := Lib.hid fun k hk => isPathM_bad hk
    have HALL : Hid ((∀ k, k < p.length → pathOk (arcsM m) p k = true) → isPathM (arcsM m) p = true) := Lib.hid isPathM_all
    have HR := Lib.hid hr
    clear hg ht hm hz hs hlen hr
    generalize arcsM m = arcs at *
    generalize isPathM arcs p = res at *
    go_enter Try.func23, Try.ntmps23
    go_wp2_with fail
    refine HI.out.mono ?_
    rintro e w1 ⟨rfl, hw⟩
    obtain rfl : w = w1 := hw.symm
    go_wp2_with fail
    refine HA.out.mono ?_
    rintro e w2 ⟨v, rfl, ho, hb⟩
    obtain ⟨Aa, ca, rfl, hga⟩ := ho.gridS
    have HG := Lib.hid hga
    have HB := Lib.hid hb
    have HR2 := Lib.hid (HR.out.below hb)
    clear ho hga hb HI HA
    go_wp2
    go_loopw [15] (fun i wr => ∃ k : Nat, k ≤ p.length ∧ i = .int .i64 k ∧ Below w2.heap.size w2 wr ∧ Hid (∀ j, j < k → pathOk arcs p j = true)) (fun i _ => p.length - (intOf i).toNat)
    case atStart => exact ⟨0, Nat.zero_le _, rfl, Below.refl _ _, Lib.hid (fun j h => by omega)⟩
    case round =>
      obtain ⟨k, hk, rfl, hbl, hok⟩ := hrel
      have HBL := Lib.hid hbl
      by_cases hlt : k < p.length
      · obtain ⟨pb, po, rfl, hat, hpl⟩ := (HR2.out.below hbl) (by omega)
        have hy0 := hat k hlt
        have HNEXT : Hid (pathOk arcs p k = true → ∀ j, j < k + 1 → pathOk arcs p j = true) := Lib.hid fun h j hj => by
          by_cases e : j = k
          · subst e; exact h
          · exact hok.out j (by omega)
        by_cases hx0 : p.getD k 0 < 0
        · have hres := HBAD.out k hlt (pathOk_out (by rw [decide_eq_false (show ¬ (0 : Int) ≤ p.getD k 0 by omega)]; rfl))
          subst hres
          clear hat HNEXT
          generalize p.getD k 0 = y at *
          go_wp2
          go_ret
          exact ⟨rfl, below_behind HB.out HBL.out⟩
        · by_cases hx1 : p.getD k 0 < (arcs.length : Int)
          · obtain ⟨y, hy⟩ : ∃ y : Nat, p.getD k 0 = (y : Int) := ⟨(p.getD k 0).toNat, by omega⟩
            have hlen : (p.take k).length = k := by rw [List.length_take]; omega
            have hin : 0 < (p.take k).length → 0 ≤ (p.take k).getD ((p.take k).length - 1) 0 ∧ (p.take k).getD ((p.take k).length - 1) 0 < (arcs.length : Int) := by
              intro h0
              rw [hlen] at h0 ⊢
              rw [take_getD (by omega)]
              have h1 := hok.out (k - 1) (by omega)
              unfold pathOk at h1
              rw [Bool.and_eq_true, Bool.and_eq_true, decide_eq_true_iff, decide_eq_true_iff] at h1
              omega
            have hrow : RowS wr (some ⟨pb, po, none⟩) (p.take k) := fun _ => ⟨pb, po, rfl, fun t htt => by rw [take_getD (by omega)]; exact hat t (by omega), hpl⟩
            have HC := impl_goesOn Aa ca arcs H2.out (some ⟨pb, po, none⟩) c2 (p.take k) (by omega) hin y (by omega) wr (HG.out.below hbl) hrow
            rw [hlen, ← pathOk_goes hlt hy (by omega)] at HC
            have HC2 := Lib.hid HC
            have hkc : (k : Int) ≤ (c2 : Int) := by omega
            have hyl : (y : Int) < (arcs.length : Int) := by omega
            have hbad := HBAD.out k hlt
            rw [hy] at hy0
            clear hat hok HC hrow hin hlen hx0 hx1 hy
            cases hpo : pathOk arcs p k with
            | false =>
              rw [hpo] at HC2
              have hres := hbad hpo
              subst hres
              clear HNEXT hpo hbad
              go_wp2_with fail
              refine HC2.out.mono ?_
              rintro e w3 ⟨rfl, hb3⟩
              go_wp2
              go_ret
              exact ⟨rfl, below_behind HB.out (below_behind HBL.out hb3)⟩
            | true =>
              rw [hpo] at HC2
              have HN2 := Lib.hid (HNEXT.out hpo)
              clear HNEXT hpo hbad
              go_wp2_with fail
              refine HC2.out.mono ?_
              rintro e w3 ⟨rfl, hb3⟩
              have HB3 := Lib.hid (below_behind HBL.out hb3)
              clear hb3
              go_wp2
              go_roundw
              case rel => exact ⟨k + 1, by omega, by go_num, HB3.out, HN2⟩
              case measure => simp [intOf]; omega
          · have hres := HBAD.out k hlt (pathOk_out (by rw [decide_eq_false (show ¬ p.getD k 0 ≤ (arcs.length : Int) - 1 by omega), Bool.and_false]))
            subst hres
            clear hat HNEXT
            generalize p.getD k 0 = y at *
            go_wp2
            go_ret
            exact ⟨rfl, below_behind HB.out HBL.out⟩
      · obtain rfl : k = p.length := by omega
        have hres := HALL.out hok.out
        subst hres
        go_wp2
        go_ret
        exact ⟨rfl, below_behind HB.out HBL.out⟩
end Go.Proofs.Ythljogoggiejmaa
