/-
  The model's IsGraph, ArcsOf and CountPaths: what the plain words say, tables in new memory; nothing that was there before is changed.
-/
import Derived.Test.YtfgjlpnmjfekhaaGraphNum
import Derived.Test.YtfgjlpnmjfekhaaMatPower
namespace Go.Proofs.Ytfgjlpnmjfekhaa
open Go Go.RowKit

theorem isGraphM_facts {m : List (List Int)} (h : isGraphM m = true) : isMat m = true ∧ sumM m ≤ 60 := by
  unfold isGraphM at h
  rw [Bool.and_eq_true] at h
  exact ⟨h.1, of_decide_eq_true h.2⟩

set_option maxRecDepth 100000 in
set_option maxHeartbeats 400000 in
theorem spec_isGraph (A : Option Addr) (c : Nat) (m : List (List Int)) (hn : m.length ≤ 1099511627776) (ht : ∀ k, k < m.length → (m.getD k []).length ≤ 1099511627776) (w : World) (hg : GridS w A m) :
    Calls Try.prog 43 #[.slice A m.length c] w fun e w' => e = .returned (.bool (isGraphM m)) ∧ w' = w := by
  have HI := Lib.hid (spec_isMatrix A c m hn ht w hg)
  have HS := Lib.hid (spec_sumOf A c m hn ht w hg)
  clear hg ht
  unfold isGraphM
  cases hm : isMat m with
  | false =>
    rw [hm] at HI
    go_enter Try.func43, Try.ntmps43
    go_wp2_with fail
    refine HI.out.mono ?_
    rintro e w1 ⟨rfl, rfl⟩
    go_wp2
    go_ret
    exact ⟨rfl, rfl⟩
  | true =>
    rw [hm] at HI
    clear hm
    generalize sumM m = s at *
    go_enter Try.func43, Try.ntmps43
    go_wp2_with fail
    refine HI.out.mono ?_
    rintro e w1 ⟨rfl, rfl⟩
    go_wp2_with fail
    refine HS.out.mono ?_
    rintro e w2 ⟨rfl, rfl⟩
    go_wp2
    go_ret
    exact ⟨by simp, rfl⟩

/-- A row that is new in memory of the call's own. -/
theorem row_two {w : World} (x y : Int) : (w.alloc (.cells #[.int .i64 x, .int .i64 y] 3)).ownsRow w.heap.size 3 1 (.slice (some ⟨w.heap.size, 0, none⟩) 2 2) 2 ([x, y].map (Value.int .i64)) :=
  World.ownsRow_lit (base := w.heap.size) (e := 3) (size := 1) w #[.int .i64 x, .int .i64 y] 2 (Nat.le_refl _) (by decide) rfl
theorem arcs_next {w wr w3 : World} {gg cap i j k : Nat} {m : List (List Int)} {v : Value} {vs : List Value} {o : Obj} (hB : Below w.heap.size w wr) (hO : wr.ownsRow w.heap.size 33 1 v (arcsTo m i j k).length vs) (hR : RowsOwn wr w.heap.size v.ownBlock vs (arcsTo m i j k))
    (ho3 : w3.ownsRow w.heap.size 33 1 (.slice (some ⟨gg, 0, none⟩) ((arcsTo m i j k).length + 1) cap) ((arcsTo m i j k).length + 1) (vs ++ [.slice (some ⟨wr.heap.size, 0, none⟩) 2 2])) (hg3 : ((wr.alloc (.cells #[.int .i64 (i : Int), .int .i64 (j : Int)] 3)).alloc o).grownBy w3 v.ownBlock) (hat : v.ownBlock = some gg ∨ gg = wr.heap.size + 1 + 1) :
    w3.ownsRow w.heap.size 33 1 (.slice (some ⟨gg, 0, none⟩) ((arcsTo m i j k).length + 1) cap) (arcsTo m i j (k + 1)).length (vs ++ [.slice (some ⟨wr.heap.size, 0, none⟩) 2 2]) ∧
    RowsOwn w3 w.heap.size (Value.slice (some ⟨gg, 0, none⟩) ((arcsTo m i j k).length + 1) cap).ownBlock (vs ++ [.slice (some ⟨wr.heap.size, 0, none⟩) 2 2]) (arcsTo m i j (k + 1)) ∧ Below w.heap.size w w3 := by
  have hb1 : Below wr.heap.size wr ((wr.alloc (.cells #[.int .i64 (i : Int), .int .i64 (j : Int)] 3)).alloc o) := ((Below.refl _ _).alloc (Nat.le_refl _) _).alloc (by simp) _
  refine ⟨by rw [arcsTo_next, List.length_append]; exact ho3, ?_, ?_⟩
  · rw [arcsTo_next]
    refine own_append (cap := cap) (xs := [(i : Int), (j : Int)]) hO hR hb1 (World.ownsRow.mono (World.ownsRow.alloc (row_two (i : Int) (j : Int)) o) hB.size) (fun g hg => ?_) ho3 hg3 ?_
    · have : wr.heap.size = g := Option.some.inj hg
      omega
    · rw [World.size_alloc, World.size_alloc]; exact hat
  · have hb2 := hB.trans (hb1.mono hB.size)
    exact hb2.grown hg3 (by have := hb2.size; omega) (fun q hq => (hO.lt q hq).1)

set_option maxRecDepth 100000 in
set_option maxHeartbeats 3200000 in
theorem spec_arcs (A : Option Addr) (c : Nat) (m : List (List Int)) (hm : isMat m = true) (w : World) (hg : GridS w A m) :
    Calls Try.prog 44 #[.slice A m.length c] w (NewG (arcsM m) w) := by
  obtain ⟨i0, hi0, hz0, hz1, hz2⟩ := info_parts infoSl
  have hf := isMat_facts hm
  have hle := hf.le
  have HG := Lib.hid hg
  have HF := Lib.hid hf
  have HM := Lib.hid hm
  have HM0 := Lib.hid (World.ownsRow_made (base := w.heap.size) (e := 33) (size := 1) w #[] 0 (Nat.le_refl _) (by unfold maxLen; omega) rfl)
  clear hg hf hm
  go_enter Try.func44, Try.ntmps44
  go_wp2
  go_loopw [3, 4] (fun v iv wr => ∃ (i : Nat) (vs : List Value), i ≤ m.length ∧ iv = .int .i64 i ∧ wr.ownsRow w.heap.size 33 1 v (arcsTo m i 0 0).length vs ∧ RowsOwn wr w.heap.size v.ownBlock vs (arcsTo m i 0 0) ∧ Below w.heap.size w wr) (fun _ i _ => m.length - (intOf i).toNat)
  case atStart => exact ⟨0, [], Nat.zero_le _, rfl, HM0.out, RowsOwn.nil _ _ _, (Below.refl _ _).alloc (Nat.le_refl _) _⟩
  case round =>
    obtain ⟨i, vs, hi, rfl, hO, hR, hbl⟩ := hrel
    by_cases hil : i < m.length
    · have HO := Lib.hid hO
      have HR := Lib.hid hR
      have HB := Lib.hid hbl
      clear hO hR hbl
      go_wp2
      go_loopw [3, 5] (fun v jv w2 => ∃ (j : Nat) (vs : List Value), j ≤ m.length ∧ jv = .int .i64 j ∧ w2.ownsRow w.heap.size 33 1 v (arcsTo m i j 0).length vs ∧ RowsOwn w2 w.heap.size v.ownBlock vs (arcsTo m i j 0) ∧ Below w.heap.size w w2) (fun _ j _ => m.length - (intOf j).toNat)
      case atStart => exact ⟨0, vs, Nat.zero_le _, rfl, HO.out, HR.out, HB.out⟩
      case round =>
        obtain ⟨j, vs, hj, rfl, hO, hR, hbl⟩ := hrel
        by_cases hjl : j < m.length
        · have HO := Lib.hid hO
          have HR := Lib.hid hR
          have HB := Lib.hid hbl
          have hcl := HF.out.cell i j hil hjl
          clear hO hR hbl
          go_wp2
          go_loopw [3, 6] (fun v kv w3 => ∃ (k : Nat) (vs : List Value), (k : Int) ≤ cellOf m i j ∧ kv = .int .i64 k ∧ w3.ownsRow w.heap.size 33 1 v (arcsTo m i j k).length vs ∧ RowsOwn w3 w.heap.size v.ownBlock vs (arcsTo m i j k) ∧ Below w.heap.size w w3) (fun _ k _ => (cellOf m i j).toNat - (intOf k).toNat)
          case atStart => exact ⟨0, vs, by have := hcl.1; simpa using this, rfl, HO.out, HR.out, HB.out⟩
          case round =>
            obtain ⟨k, vs, hk, rfl, hO, hR, hbl⟩ := hrel
            obtain ⟨b, off, b2, off2, c', rfl, k1, k2, _, _⟩ := (HG.out.below hbl).num hil (j := j) (by rw [HF.out.row i hil]; exact hjl)
            rw [HF.out.row i hil] at k1
            have hal := arcsTo_le HM.out (Nat.le_of_lt hil) (Nat.le_of_lt hjl) (Or.inl hil) (k := k) (by omega)
            by_cases hkl : (k : Int) < cellOf m i j
            · have HO := Lib.hid hO
              have HR := Lib.hid hR
              have HB := Lib.hid hbl
              have hsz := hbl.size
              clear hO hR hbl
              generalize hx : cellOf m i j = x at *
              go_wp2_with (at_builtin; refine wpList_append_lies _ rfl (.tmp 31) (.tmp 35) 22 rfl w.heap.size 33 i0 (.slice none 0 0) 1 24 Try.underlying22 hi0 hz0 hz1 hz2 rfl (by decide) _ _ _ rfl ((HO.out.alloc _).alloc _) ⟨wr.heap.size + 1, 0, none⟩ 1 1 [.slice (some ⟨wr.heap.size, 0, none⟩) 2 2] rfl rfl (World.news_of_block (cs := #[.slice (some ⟨wr.heap.size, 0, none⟩) 2 2]) (t := 33) (fr := (0, 0)) (by have := heap_alloc_new (wr.alloc (.cells #[.int .i64 (i : Int), .int .i64 (j : Int)] 3)) (.cells #[.slice (some ⟨wr.heap.size, 0, none⟩) 2 2] 33); rw [World.size_alloc] at this; exact this)) (by simp [Value.oneCell']) (by decide) (by unfold maxLen; omega) (by omega) (by simp; omega) (wr.heap.size + 1 + 1) (by simp) ?_; intro gg cap w3 ho3 hg3 hat hlt3; have HN := Lib.hid (arcs_next HB.out HO.out HR.out ho3 hg3 hat); clear ho3 hg3 hat)
              go_roundw
              case rel => exact ⟨k + 1, _, by omega, by go_num, HN.out.1, HN.out.2.1, HN.out.2.2⟩
              case measure => simp [intOf]; omega
            · have hkk : k = (cellOf m i j).toNat := by omega
              rw [hkk, arcsTo_col] at hO hR
              have HO := Lib.hid hO
              have HR := Lib.hid hR
              clear hO hR
              generalize hx : cellOf m i j = x at *
              go_wp2
              go_roundw
              case rel => exact ⟨j + 1, vs, by omega, by go_num, HO.out, HR.out, hbl⟩
              case measure => simp [intOf]; omega
        · obtain rfl : j = m.length := by omega
          rw [arcsTo_row] at hO hR
          have HO := Lib.hid hO
          have HR := Lib.hid hR
          clear hO hR
          go_wp2
          go_roundw
          case rel => exact ⟨i + 1, vs, by omega, by go_num, HO.out, HR.out, hbl⟩
          case measure => simp [intOf]; omega
    · obtain rfl : i = m.length := by omega
      rw [arcsTo_all] at hO hR
      have HO := Lib.hid hO
      have HR := Lib.hid hR
      clear hO hR
      go_wp2
      go_ret
      exact ⟨_, rfl, ⟨vs, HO.out, HR.out⟩, hbl⟩

/-- ArcsOf, CountPaths. -/
def arcsOfM (m : List (List Int)) : List (List Int) := if isGraphM m = true then arcsM m else []
def countM (m : List (List Int)) (n : Int) : Int := match powS m n with | some p => sumM p | none => -1

set_option maxRecDepth 100000 in
theorem spec_arcsOf (A : Option Addr) (c : Nat) (m : List (List Int)) (hn : m.length ≤ 1099511627776) (ht : ∀ k, k < m.length → (m.getD k []).length ≤ 1099511627776) (w : World) (hg : GridS w A m) :
    Calls Try.prog 24 #[.slice A m.length c] w (NewG (arcsOfM m) w) := by
  have HI := Lib.hid (spec_isGraph A c m hn ht w hg)
  unfold arcsOfM
  cases hm : isGraphM m with
  | false =>
    rw [hm] at HI
    rw [if_neg (by decide)]
    have HE := Lib.hid (ownG_empty w)
    clear hg ht
    go_enter Try.func24, Try.ntmps24
    go_wp2_with fail
    refine HI.out.mono ?_
    rintro e w1 ⟨rfl, rfl⟩
    go_wp2
    go_ret
    exact ⟨_, rfl, HE.out, below_new⟩
  | true =>
    rw [hm] at HI
    rw [if_pos rfl]
    have HA := Lib.hid (spec_arcs A c m (isGraphM_facts hm).1 w hg)
    clear hg ht hm
    go_enter Try.func24, Try.ntmps24
    go_wp2_with fail
    refine HI.out.mono ?_
    rintro e w1 ⟨rfl, rfl⟩
    go_wp2_with fail
    refine HA.out.mono ?_
    rintro e w2 ⟨v, rfl, ho, hb⟩
    have HO := Lib.hid ho
    clear ho
    go_wp2
    go_ret
    exact ⟨_, rfl, HO.out, hb⟩

theorem pathOk_out {arcs : List (List Int)} {p : List Int} {k : Nat} (h : (decide ((0 : Int) ≤ p.getD k 0) && decide (p.getD k 0 ≤ (arcs.length : Int) - 1)) = false) : pathOk arcs p k = false := by
  unfold pathOk; rw [h]; rfl
/-- The two ends of an arc in memory. -/
theorem arc_at {w : World} {A : Option Addr} {arcs : List (List Int)} (h : GridS w A arcs) (h2 : ∀ r ∈ arcs, r.length = 2) {k : Nat} (hk : k < arcs.length) :
    ∃ b off b2 off2 c', A = some ⟨b, off, none⟩ ∧ w.cell? ⟨b, off + k, none⟩ = some (.slice (some ⟨b2, off2, none⟩) 2 c') ∧ w.cell? ⟨b2, off2, none⟩ = some (.int .i64 (cellOf arcs k 0)) ∧ w.cell? ⟨b2, off2 + 1, none⟩ = some (.int .i64 (cellOf arcs k 1)) := by
  have hl : (arcs.getD k []).length = 2 := by
    have e : arcs.getD k [] = arcs[k] := by simp [List.getD, hk]
    rw [e]; exact h2 _ (List.getElem_mem hk)
  obtain ⟨b, off, A', c', hA, hc, hr, _⟩ := h.row hk
  obtain ⟨b2, off2, rfl, hat, _⟩ := hr (by omega)
  rw [hl] at hc
  exact ⟨b, off, b2, off2, c', hA, hc, hat 0 (by omega), hat 1 (by omega)⟩

end Go.Proofs.Ytfgjlpnmjfekhaa
