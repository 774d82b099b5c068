/-
  The model's IsGraph, ArcsOf and CountPaths: what the plain words say, tables in new memory; nothing that was there before is changed.
-/
import Derived.Test.YthljogoggiejmaaGraphNum
import Derived.Test.YthljogoggiejmaaMatPower
namespace Go.Proofs.Ythljogoggiejmaa
open Go Go.RowKit

theorem isGraphM_facts {m : List (List Int)} (h : isGraphM m = true) : isMat m = true ∧ sumM m ≤ 60 := by
  unfold isGraphM at h
  rw [Bool.and_eq_true] at h
  exact ⟨h.1, of_decide_eq_true h.2⟩

set_option maxRecDepth 100000 in
set_option maxHeartbeats 400000 in
theorem spec_isGraph (A : Option Addr) (c : Nat) (m : List (List Int)) (hn : m.length ≤ 1099511627776) (ht : ∀ k, k < m.length → (m.getD k []).length ≤ 1099511627776) (w : World) (hg : GridS w A m) :
    Calls Try.prog 31 #[.slice A m.length c] w fun e w' => e = .returned (.bool (isGraphM m)) ∧ w' = w := by
  have HI := Lib.hid (spec_isMatrix A c m hn ht w hg)
  have HS := Lib.hid (spec_sumOf A c m hn ht w hg)
  clear hg ht
  unfold isGraphM
  cases hm : isMat m with
  | false =>
    rw [hm] at HI
    go_enter Try.func31, Try.ntmps31
    go_wp2_with fail
    refine HI.out.mono ?_
    rintro e w1 ⟨rfl, rfl⟩
    go_wp2
    go_ret
    exact ⟨rfl, rfl⟩
  | true =>
    rw [hm] at HI
    clear hm
    generalize sumM m = s at *
    go_enter Try.func31, Try.ntmps31
    go_wp2_with fail
    refine HI.out.mono ?_
    rintro e w1 ⟨rfl, rfl⟩
    go_wp2_with fail
    refine HS.out.mono ?_
    rintro e w2 ⟨rfl, rfl⟩
    go_wp2
    go_ret
    exact ⟨by simp, rfl⟩

/-- A row that is new in memory of the call's own. -/
theorem row_two {w : World} (x y : Int) : (w.alloc (.cells #[.int .i64 x, .int .i64 y] 3)).ownsRow w.heap.size 3 1 (.slice (some ⟨w.heap.size, 0, none⟩) 2 2) 2 ([x, y].map (Value.int .i64)) :=
  World.ownsRow_lit (base := w.heap.size) (e := 3) (size := 1) w #[.int .i64 x, .int .i64 y] 2 (Nat.le_refl _) (by decide) rfl
theorem arcs_next {w wr w3 : World} {gg cap i j k : Nat} {m : List (List Int)} {v : Value} {vs : List Value} {o : Obj} (hB : Below w.heap.size w wr) (hO : wr.ownsRow w.heap.size 28 1 v (arcsTo m i j k).length vs) (hR : RowsOwn wr w.heap.size v.ownBlock vs (arcsTo m i j k))
    (ho3 : w3.ownsRow w.heap.size 28 1 (.slice (some ⟨gg, 0, none⟩) ((arcsTo m i j k).length + 1) cap) ((arcsTo m i j k).length + 1) (vs ++ [.slice (some ⟨wr.heap.size, 0, none⟩) 2 2])) (hg3 : ((wr.alloc (.cells #[.int .i64 (i : Int), .int .i64 (j : Int)] 3)).alloc o).grownBy w3 v.ownBlock) (hat : v.ownBlock = some gg ∨ gg = wr.heap.size + 1 + 1) :
    w3.ownsRow w.heap.size 28 1 (.slice (some ⟨gg, 0, none⟩) ((arcsTo m i j k).length + 1) cap) (arcsTo m i j (k + 1)).length (vs ++ [.slice (some ⟨wr.heap.size, 0, none⟩) 2 2]) ∧
    RowsOwn w3 w.heap.size (Value.slice (some ⟨gg, 0, none⟩) ((arcsTo m i j k).length + 1) cap).ownBlock (vs ++ [.slice (some ⟨wr.heap.size, 0, none⟩) 2 2]) (arcsTo m i j (k + 1)) ∧ Below w.heap.size w w3 := by
  have hb1 : Below wr.heap.size wr ((wr.alloc (.cells #[.int .i64 (i : Int), .int .i64 (j : Int)] 3)).alloc o) := ((Below.refl _ _).alloc (Nat.le_refl _) _).alloc (by simp) _
  refine ⟨by rw [arcsTo_next, List.length_append]; exact ho3, ?_, ?_⟩
  · rw [arcsTo_next]
    refine own_append (cap := cap) (xs := [(i : Int), (j : Int)]) hO hR hb1 (World.ownsRow.mono (World.ownsRow.alloc (row_two (i : Int) (j : Int)) o) hB.size) (fun g hg => ?_) ho3 hg3 ?_
    · have : wr.heap.size = g := Option.some.inj hg
      omega
    · rw [World.size_alloc, World.size_alloc]; exact hat
  · have hb2 := hB.trans (hb1.mono hB.size)
    exact hb2.grown hg3 (by have := hb2.size; omega) (fun q hq => (hO.lt q hq).1)

set_option maxRecDepth 100000 in
set_option maxHeartbeats 3200000 in
theorem spec_arcs (A : Option Addr) (c : Nat) (m : List (List Int)) (hm : isMat m = true) (w : World) (hg : GridS w A m) :
    Calls Try.prog 57 #[.slice A m.length c] w (NewG (arcsM m) w) := by
  obtain ⟨i0, hi0, hz0, hz1, hz2⟩ := info_parts infoSl
  have hf := isMat_facts hm
  have hle := hf.le
  have HG := Lib.hid hg
  have HF := Lib.hid hf
  have HM := Lib.hid hm
  have HM0 := Lib.hid (World.ownsRow_made (base := w.heap.size) (e := 28) (size := 1) w #[] 0 (Nat.le_refl _) (by unfold maxLen; omega) rfl)
  clear hg hf hm
  go_enter Try.func57, Try.ntmps57
  go_wp2
  go_loopw [3, 4] (fun v iv wr => ∃ (i : Nat) (vs : List Value), i ≤ m.length ∧ iv = .int .i64 i ∧ wr.ownsRow w.heap.size 28 1 v (arcsTo m i 0 0).length vs ∧ RowsOwn wr w.heap.size v.ownBlock vs (arcsTo m i 0 0) ∧ Below w.heap.size w wr) (fun _ i _ => m.length - (intOf i).toNat)
  case atStart => exact ⟨0, [], Nat.zero_le _, rfl, HM0.out, RowsOwn.nil _ _ _, (Below.refl _ _).alloc (Nat.le_refl _) _⟩
  case round =>
    obtain ⟨i, vs, hi, rfl, hO, hR, hbl⟩ := hrel
    by_cases hil : i < m.length
    · have HO := Lib.hid hO
      have HR := Lib.hid hR
      have HB := Lib.hid hbl
      clear hO hR hbl
      go_wp2
      go_loopw [3, 5] (fun v jv w2 => ∃ (j : Nat) (vs : List Value), j ≤ m.length ∧ jv = .int .i64 j ∧ w2.ownsRow w.heap.size 28 1 v (arcsTo m i j 0).length vs ∧ RowsOwn w2 w.heap.size v.ownBlock vs (arcsTo m i j 0) ∧ Below w.heap.size w w2) (fun _ j _ => m.length - (intOf j).toNat)
      case atStart => exact ⟨0, vs, Nat.zero_le _, rfl, HO.out, HR.out, HB.out⟩
      case round =>
        obtain ⟨j, vs, hj, rfl, hO, hR, hbl⟩ := hrel
        by_cases hjl : j < m.length
        · have HO := Lib.hid hO
          have HR := Lib.hid hR
          have HB := Lib.hid hbl
          have hcl := HF.out.cell i j hil hjl
          clear hO hR hbl
          go_wp2
          go_loopw [3, 6] (fun v kv w3 => ∃ (k : Nat) (vs : List Value), (k : Int) ≤ cellOf m i j ∧ kv = .int .i64 k ∧ w3.ownsRow w.heap.size 28 1 v (arcsTo m i j k).length vs ∧ RowsOwn w3 w.heap.size v.ownBlock vs (arcsTo m i j k) ∧ Below w.heap.size w w3) (fun _ k _ => (cellOf m i j).toNat - (intOf k).toNat)
          case atStart => exact ⟨0, vs, by have := hcl.1; simpa using this, rfl, HO.out, HR.out, HB.out⟩
          case round =>
            obtain ⟨k, vs, hk, rfl, hO, hR, hbl⟩ := hrel
            obtain ⟨b, off, b2, off2, c', rfl, k1, k2, _, _⟩ := (HG.out.below hbl).num hil (j := j) (by rw [HF.out.row i hil]; exact hjl)
            rw [HF.out.row i hil] at k1
            have hal := arcsTo_le HM.out (Nat.le_of_lt hil) (Nat.le_of_lt hjl) (Or.inl hil) (k := k) (by omega)
            by_cases hkl : (k : Int) < cellOf m i j
            · have HO := Lib.hid hO
              have HR := Lib.hid hR
              have HB := Lib.hid hbl
              have hsz := hbl.size
              clear hO hR hbl
              generalize hx : cellOf m i j = x at *
              go_wp2_with (at_builtin; refine wpList_append_lies _ rfl (.tmp 31) (.tmp 35) 24 rfl w.heap.size 28 i0 (.slice none 0 0) 1 24 Try.underlying24 hi0 hz0 hz1 hz2 rfl (by decide) _ _ _ rfl ((HO.out.alloc _).alloc _) ⟨wr.heap.size + 1, 0, none⟩ 1 1 [.slice (some ⟨wr.heap.size, 0, none⟩) 2 2] rfl rfl (World.news_of_block (cs := #[.slice (some ⟨wr.heap.size, 0, none⟩) 2 2]) (t := 28) (fr := (0, 0)) (by have := heap_alloc_new (wr.alloc (.cells #[.int .i64 (i : Int), .int .i64 (j : Int)] 3)) (.cells #[.slice (some ⟨wr.heap.size, 0, none⟩) 2 2] 28); rw [World.size_alloc] at this; exact this)) (by simp [Value.oneCell']) (by decide) (by unfold maxLen; omega) (by omega) (by simp; omega) (wr.heap.size + 1 + 1) (by simp) ?_; intro gg cap w3 ho3 hg3 hat hlt3; have HN := Lib.hid (arcs_next HB.out HO.out HR.out ho3 hg3 hat); clear ho3 hg3 hat)
              go_roundw
              case rel => exact ⟨k + 1, _, by omega, by go_num, HN.out.1, HN.out.2.1, HN.out.2.2⟩
              case measure => simp [intOf]; omega
            · have hkk : k = (cellOf m i j).toNat := by omega
              rw [hkk, arcsTo_col] at hO hR
              have HO := Lib.hid hO
              have HR := Lib.hid hR
              clear hO hR
              generalize hx : cellOf m i j = x at *
              go_wp2
              go_roundw
              case rel => exact ⟨j + 1, vs, by omega, by go_num, HO.out, HR.out, hbl⟩
              case measure => simp [intOf]; omega
        · obtain rfl : j = m.length := by omega
          rw [arcsTo_row] at hO hR
          have HO := Lib.hid hO
          have HR := Lib.hid hR
          clear hO hR
          go_wp2
          go_roundw
          case rel => exact ⟨i + 1, vs, by omega, by go_num, HO.out, HR.out, hbl⟩
          case measure => simp [intOf]; omega
    · obtain rfl : i = m.length := by omega
      rw [arcsTo_all] at hO hR
      have HO := Lib.hid hO
      have HR := Lib.hid hR
      clear hO hR
      go_wp2
      go_ret
      exact ⟨_, rfl, ⟨vs, HO.out, HR.out⟩, hbl⟩

/-- ArcsOf, CountPaths. -/
def arcsOfM (m : List (List Int)) : List (List Int) := if isGraphM m = true then arcsM m else []
def countM (m : List (List Int)) (n : Int) : Int := match powS m n with | some p => sumM p | none => -1

set_option maxRecDepth 100000 in
theorem spec_arcsOf (A : Option Addr) (c : Nat) (m : List (List Int)) (hn : m.length ≤ 1099511627776) (ht : ∀ k, k < m.length → (m.getD k []).length ≤ 1099511627776) (w : World) (hg : GridS w A m) :
    Calls Try.prog 27 #[.slice A m.length c] w (NewG (arcsOfM m) w) := by
  have HI := Lib.hid (spec_isGraph A c m hn ht w hg)
  unfold arcsOfM
  cases hm : isGraphM m with
  | false =>
    rw [hm] at HI
    rw [if_neg (by decide)]
    have HE := Lib.hid (ownG_empty w)
    clear hg ht
    go_enter Try.func27, Try.ntmps27
    go_wp2_with fail
    refine HI.out.mono ?_
    rintro e w1 ⟨rfl, rfl⟩
    go_wp2
    go_ret
    exact ⟨_, rfl, HE.out, below_new⟩
  | true =>
    rw [hm] at HI
    rw [if_pos rfl]
    have HA := Lib.hid (spec_arcs A c m (isGraphM_facts hm).1 w hg)
    clear hg ht hm
    go_enter Try.func27, Try.ntmps27
    go_wp2_with fail
    refine HI.out.mono ?_
    rintro e w1 ⟨rfl, rfl⟩
    go_wp2_with fail
    refine HA.out.mono ?_
    rintro e w2 ⟨v, rfl, ho, hb⟩
    have HO := Lib.hid ho
    clear ho
    go_wp2
    go_ret
    exact ⟨_, rfl, HO.out, hb⟩

set_option maxRecDepth 100000 in
theorem spec_countPaths (A : Option Addr) (c : Nat) (m : List (List Int)) (hl : m.length ≤ 1048576) (ht : tot m ≤ 1048576) (n : Int) (w : World) (hg : GridS w A m) :
    Calls Try.prog 29 #[.slice A m.length c, .int .i64 n] w (Scalar (.int .i64 (countM m n)) w) := by
  have HP := Lib.hid (spec_power A c m hl ht n w hg)
  unfold countM
  cases hp : powS m n with
  | none =>
    rw [hp] at HP
    clear hg
    go_enter Try.func29, Try.ntmps29
    go_wp2_with fail
    refine HP.out.mono ?_
    rintro e w1 ⟨v, rfl, ho, hb⟩
    clear ho
    go_wp2
    go_ret
    exact ⟨rfl, hb⟩
  | some p =>
    rw [hp] at HP
    have hz : isMat p = true := by
      unfold powS at hp
      split at hp
      · next hc => exact powM_isMat hc.1 _ hp
      · cases hp
    have fz := isMat_facts hz
    have tz := tot_isMat fz
    have lz := fz.le
    have HS : Hid (∀ A' c' w', GridS w' A' p → Calls Try.prog 62 #[.slice A' p.length c'] w' fun e w2 => e = .returned (.int .i64 (sumM p)) ∧ w2 = w') := Lib.hid fun A' c' w' h => spec_sumOf A' c' p (by omega) (fun k hk => by have := row_le_tot hk; omega) w' h
    clear hg hp hz fz tz lz
    go_enter Try.func29, Try.ntmps29
    go_wp2_with fail
    refine HP.out.mono ?_
    rintro e w1 ⟨v, rfl, ho, hb⟩
    obtain ⟨A', c', rfl, hg'⟩ := ho.gridS
    have HS1 := Lib.hid (HS.out A' c' w1 hg')
    clear ho hg'
    go_wp2_with fail
    refine HS1.out.mono ?_
    rintro e w2 ⟨rfl, hw⟩
    obtain rfl : w1 = w2 := hw.symm
    go_wp2
    go_ret
    exact ⟨rfl, hb⟩

/-! ### Is it a path -/

theorem pathOk_out {arcs : List (List Int)} {p : List Int} {k : Nat} (h : (decide ((0 : Int) ≤ p.getD k 0) && decide (p.getD k 0 ≤ (arcs.length : Int) - 1)) = false) : pathOk arcs p k = false := by
  unfold pathOk; rw [h]; rfl
/-- The two ends of an arc in memory. -/
theorem arc_at {w : World} {A : Option Addr} {arcs : List (List Int)} (h : GridS w A arcs) (h2 : ∀ r ∈ arcs, r.length = 2) {k : Nat} (hk : k < arcs.length) :
    ∃ b off b2 off2 c', A = some ⟨b, off, none⟩ ∧ w.cell? ⟨b, off + k, none⟩ = some (.slice (some ⟨b2, off2, none⟩) 2 c') ∧ w.cell? ⟨b2, off2, none⟩ = some (.int .i64 (cellOf arcs k 0)) ∧ w.cell? ⟨b2, off2 + 1, none⟩ = some (.int .i64 (cellOf arcs k 1)) := by
  have hl : (arcs.getD k []).length = 2 := by
    have e : arcs.getD k [] = arcs[k] := by simp [List.getD, hk]
    rw [e]; exact h2 _ (List.getElem_mem hk)
  obtain ⟨b, off, A', c', hA, hc, hr, _⟩ := h.row hk
  obtain ⟨b2, off2, rfl, hat, _⟩ := hr (by omega)
  rw [hl] at hc
  exact ⟨b, off, b2, off2, c', hA, hc, hat 0 (by omega), hat 1 (by omega)⟩

set_option maxRecDepth 100000 in
set_option maxHeartbeats 3200000 in
theorem spec_isPath (A : Option Addr) (c : Nat) (m : List (List Int)) (hn : m.length ≤ 1099511627776) (ht : ∀ k, k < m.length → (m.getD k []).length ≤ 1099511627776) (A2 : Option Addr) (c2 : Nat) (p : List Int) (hp : p.length ≤ 1099511627776) (w : World) (hg : GridS w A m) (hr : RowS w A2 p) :
    Calls Try.prog 24 #[.slice A m.length c, .slice A2 p.length c2] w (Scalar (.bool (isGraphM m && isPathM (arcsM m) p)) w) := by
  have HI := Lib.hid (spec_isGraph A c m hn ht w hg)
  cases hm : isGraphM m with
  | false =>
    rw [hm] at HI
    clear hg ht hr
    go_enter Try.func24, Try.ntmps24
    go_wp2_with fail
    refine HI.out.mono ?_
    rintro e w1 ⟨rfl, rfl⟩
    go_wp2
    go_ret
    exact ⟨rfl, Below.refl _ _⟩
  | true =>
    rw [hm] at HI
    rw [Bool.true_and]
    obtain ⟨hz, hs⟩ := isGraphM_facts hm
    have HA := Lib.hid (spec_arcs A c m hz w hg)
    have hlen := arcsM_length hz
    have H2 := Lib.hid (arcsM_two m)
    have hal : (arcsM m).length ≤ 60 := by omega
    have HBAD : Hid (∀ k, k < p.length → pathOk (arcsM m) p k = false → isPathM (arcsM m) p = false) := Lib.hid fun k hk => isPathM_bad hk
    have HALL : Hid ((∀ k, k < p.length → pathOk (arcsM m) p k = true) → isPathM (arcsM m) p = true) := Lib.hid isPathM_all
    have HR := Lib.hid hr
    have HIN := Lib.hid m_in
    clear hg ht hm hz hs hlen hr
    generalize arcsM m = arcs at *
    generalize isPathM arcs p = res at *
    go_enter Try.func24, Try.ntmps24
    go_wp2_with fail
    refine HI.out.mono ?_
    rintro e w1 ⟨rfl, hw⟩
    obtain rfl : w = w1 := hw.symm
    go_wp2_with fail
    refine HA.out.mono ?_
    rintro e w2 ⟨v, rfl, ho, hb⟩
    obtain ⟨Aa, ca, rfl, hga⟩ := ho.gridS
    have HG := Lib.hid hga
    have HB := Lib.hid hb
    have HR2 := Lib.hid (HR.out.below hb)
    clear ho hga hb HI HA
    go_wp2
    go_loopw [6] (fun i wr => ∃ k : Nat, k ≤ p.length ∧ i = .int .i64 k ∧ Below w2.heap.size w2 wr ∧ Hid (∀ j, j < k → pathOk arcs p j = true)) (fun i _ => p.length - (intOf i).toNat)
    case atStart => exact ⟨0, Nat.zero_le _, rfl, Below.refl _ _, Lib.hid (fun j h => by omega)⟩
    case round =>
      obtain ⟨k, hk, rfl, hbl, hok⟩ := hrel
      have HBL := Lib.hid hbl
      by_cases hlt : k < p.length
      · obtain ⟨pb, po, rfl, hat, _⟩ := (HR2.out.below hbl) (by omega)
        have hy0 := hat k hlt
        have HNEXT : Hid (pathOk arcs p k = true → ∀ j, j < k + 1 → pathOk arcs p j = true) := Lib.hid fun h j hj => by
          by_cases e : j = k
          · subst e; exact h
          · exact hok.out j (by omega)
        cases hx : (decide ((0 : Int) ≤ p.getD k 0) && decide (p.getD k 0 ≤ (arcs.length : Int) - 1)) with
        | false =>
          have hres := HBAD.out k hlt (pathOk_out hx)
          subst hres
          have HI1 := Lib.hid (fun w' => HIN.out (p.getD k 0) 0 ((arcs.length : Int) - 1) w')
          rw [hx] at HI1
          clear hx hat HNEXT
          generalize p.getD k 0 = y at *
          go_wp2
          go_quiet (first | (go_at_call 55; refine Calls.quiet_of_same (HI1.out _)))
          go_wp2
          go_ret
          exact ⟨rfl, below_drewN (below_behind HB.out HBL.out) _⟩
        | true =>
          have HI1 := Lib.hid (fun w' => HIN.out (p.getD k 0) 0 ((arcs.length : Int) - 1) w')
          rw [hx] at HI1
          rw [Bool.and_eq_true, decide_eq_true_iff, decide_eq_true_iff] at hx
          cases k with
          | zero =>
            have HN2 := Lib.hid (HNEXT.out (by unfold pathOk; rw [decide_eq_true hx.1, decide_eq_true hx.2]; rfl))
            clear hat HNEXT hok
            generalize p.getD 0 0 = y at *
            rw [Nat.add_zero] at hy0
            have g0 : (0 : Int) < (p.length : Int) := by omega
            go_wp2
            go_quiet (first | (go_at_call 55; refine Calls.quiet_of_same (HI1.out _)))
            go_wp2
            go_roundw
            case rel => exact ⟨1, by omega, by go_num, below_drewN HBL.out _, HN2⟩
            case measure => simp [intOf]; omega
          | succ k =>
            have hok0 := hok.out k (by omega)
            unfold pathOk at hok0
            rw [Bool.and_eq_true, Bool.and_eq_true, decide_eq_true_iff, decide_eq_true_iff] at hok0
            have hz0 := hat k (by omega)
            have HCASE : Hid (decide (endOf arcs (p.getD k 0) = startOf arcs (p.getD (k + 1) 0)) = pathOk arcs p (k + 1)) := Lib.hid (by
              unfold pathOk; rw [decide_eq_true hx.1, decide_eq_true hx.2, Nat.add_sub_cancel]; simp)
            obtain ⟨⟨z0, z1⟩, _⟩ := hok0
            clear hat hok
            generalize p.getD (k + 1) 0 = y at *
            generalize p.getD k 0 = z at *
            obtain ⟨yn, rfl⟩ : ∃ n : Nat, y = (n : Int) := ⟨y.toNat, by omega⟩
            obtain ⟨zn, rfl⟩ : ∃ n : Nat, z = (n : Int) := ⟨z.toNat, by omega⟩
            obtain ⟨b, off, b1, o1, d1, rfl, k1, k2, k3⟩ := arc_at (HG.out.below hbl) H2.out (k := zn) (by omega)
            obtain ⟨b', off', b2, o2, d2, hbb, k4, k5, k6⟩ := arc_at (HG.out.below hbl) H2.out (k := yn) (by omega)
            simp only [Option.some.injEq, Addr.mk.injEq, and_true] at hbb
            obtain ⟨rfl, rfl⟩ := hbb
            unfold endOf startOf at HCASE
            rw [Int.toNat_natCast, Int.toNat_natCast] at HCASE
            have g1 : (zn : Int) < (arcs.length : Int) := by omega
            have g2 : (yn : Int) < (arcs.length : Int) := by omega
            clear k2 k6
            generalize cellOf arcs zn 1 = e1 at *
            generalize cellOf arcs yn 0 = e2 at *
            by_cases he : e1 = e2
            · have HN2 := Lib.hid (HNEXT.out (by rw [← HCASE.out]; exact decide_eq_true he))
              subst he
              clear HNEXT HCASE
              go_wp2
              go_quiet (first | (go_at_call 55; refine Calls.quiet_of_same (HI1.out _)))
              go_wp2
              go_roundw
              case rel => exact ⟨k + 2, by omega, by go_num, below_drewN HBL.out _, HN2⟩
              case measure => simp [intOf]; omega
            · have hres := HBAD.out (k + 1) hlt (by rw [← HCASE.out]; exact decide_eq_false he)
              subst hres
              clear HNEXT HCASE
              go_wp2
              go_quiet (first | (go_at_call 55; refine Calls.quiet_of_same (HI1.out _)))
              go_wp2
              go_ret
              exact ⟨rfl, below_drewN (below_behind HB.out HBL.out) _⟩
      · obtain rfl : k = p.length := by omega
        have hres := HALL.out hok.out
        subst hres
        go_wp2
        go_ret
        exact ⟨rfl, below_behind HB.out HBL.out⟩
end Go.Proofs.Ythljogoggiejmaa
