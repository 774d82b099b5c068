/-
  The program's BlockGraph, PowerGraph and IsBlockOf: what the plain words say, in new memory; nothing that was there before is changed.
-/
import Derived.Test.YtalclebehbdliaaGreatDoorGridTexts
import Derived.Test.YtalclebehbdliaaGreatDoorGraphI
import Derived.Test.YtalclebehbdliaaGreatDoorGraphTrim
import Derived.Test.YtalclebehbdliaaGreatDoorMatPowI
import Derived.Test.YtalclebehbdliaaGreatDoorMatEqI
namespace Go.Proofs.YtalclebehbdliaaGreatDoor
open Go Go.RowKit

/-! ### A list that is filled -/

def upL (f : Nat → Int) (n i : Nat) : List Int := (List.range n).map fun a => if a < i then f a else 0
theorem upL_len (f : Nat → Int) (n i : Nat) : (upL f n i).length = n := by simp [upL]
theorem upL_zero (f : Nat → Int) (n : Nat) : (List.range n).map (fun _ => (0 : Int)) = upL f n 0 := by
  unfold upL; exact List.map_congr_left fun a _ => (if_neg (Nat.not_lt_zero a)).symm
theorem upL_all (f : Nat → Int) (n : Nat) : upL f n n = (List.range n).map f := by
  unfold upL; exact List.map_congr_left fun a ha => if_pos (List.mem_range.1 ha)
theorem upL_next (f : Nat → Int) (n i : Nat) : (upL f n i).set i (f i) = upL f n (i + 1) := by
  refine List.ext_getElem (by simp [upL]) fun j h1 h2 => ?_
  rw [List.getElem_set]
  simp only [upL, List.getElem_map, List.getElem_range]
  by_cases e : i = j
  · subst e; rw [if_pos rfl, if_pos (by omega)]
  · rw [if_neg e]
    by_cases h : j < i
    · rw [if_pos h, if_pos (by omega)]
    · rw [if_neg h, if_neg (by omega)]
theorem upL_still (f : Nat → Int) (n i : Nat) (h : f i = 0) : upL f n i = upL f n (i + 1) := by
  unfold upL
  refine List.map_congr_left fun a _ => ?_
  by_cases e : a = i
  · subst e; rw [if_neg (by omega), if_pos (by omega), h]
  · by_cases h2 : a < i
    · rw [if_pos h2, if_pos (by omega)]
    · rw [if_neg h2, if_neg (by omega)]
/-- A number is put into a list that the call owns. -/
theorem put_num {w W0 : World} {g n i : Nat} {xs ys : List Int} {y : Int} (hl : xs.length = n) (hi : i < n) (hy : xs.set i y = ys) (ho : w.ownsRow W0.heap.size 3 1 (.slice (some ⟨g, 0, none⟩) n n) n (xs.map (Value.int .i64))) (hg : W0.heap.size ≤ g) (hb : Below W0.heap.size W0 w) :
    w.cell? ⟨g, i, none⟩ = some (.int .i64 (xs.getD i 0)) ∧ w.frozen? ⟨g, i, none⟩ = false ∧ Hid ((w.setCell ⟨g, i, none⟩ (.int .i64 y)).ownsRow W0.heap.size 3 1 (.slice (some ⟨g, 0, none⟩) n n) n (ys.map (Value.int .i64))) ∧ Hid (Below W0.heap.size W0 (w.setCell ⟨g, i, none⟩ (.int .i64 y))) := by
  refine ⟨?_, ho.frozenAt i, Lib.hid ?_, Lib.hid (hb.setCell (p := ⟨g, i, none⟩) hg _)⟩
  · have h := (IntsAt.of_owns ho hl.symm) i (by omega)
    rwa [Nat.zero_add] at h
  · obtain ⟨ho5, _⟩ := ho.stored i (.int .i64 y)
    rw [← hy, List.map_set]; exact ho5

def beginsF (arcs : List (List Int)) (v : Int) (j : Nat) : Int := if cellOf arcs j 0 = v then 1 else 0

set_option maxRecDepth 100000 in
set_option maxHeartbeats 3200000 in
theorem impl_beginningAt (A : Option Addr) (c : Nat) (arcs : List (List Int)) (h2 : ∀ r ∈ arcs, r.length = 2) (hl : arcs.length ≤ 9) (v : Int) (w : World) (hg : GridS w A arcs) :
    Calls Tryz.prog 31 #[.slice A arcs.length c, .int .i64 v] w (NewA ((List.range arcs.length).map (beginsF arcs v)) w) := by
  obtain ⟨j0, hj0, hy0, hy1, hy2⟩ := info_parts infoInt
  have HG := Lib.hid hg
  have H2 := Lib.hid h2
  have HALL := Lib.hid (upL_all (beginsF arcs v) arcs.length)
  clear hg h2
  go_enter Tryz.func31, Tryz.ntmps31
  go_wp2_with (at_make; refine wpList_make_full _ rfl _ _ 48 rfl w.heap.size 3 j0 (.int .i64 0) 1 Tryz.underlying48 hj0 hy0 hy1 .i64 .i64 _ _ arcs.length rfl rfl rfl rfl (by rw [hy2]; omega) (by unfold maxLen; omega) (Nat.le_refl _) ?_; intro w2 hown hgrow)
  have ho0 := made_ints hown
  have hbel : Below w.heap.size w w2 := grown_below hgrow
  rw [upL_zero (beginsF arcs v)] at ho0
  have HO2 := Lib.hid ho0
  have HB2 := Lib.hid hbel
  clear hown hgrow hbel ho0
  go_loopw [13] (fun iv wr => ∃ i : Nat, i ≤ arcs.length ∧ iv = .int .i64 (i : Int) ∧ Hid (wr.ownsRow w.heap.size 3 1 (.slice (some ⟨w.heap.size, 0, none⟩) arcs.length arcs.length) arcs.length ((upL (beginsF arcs v) arcs.length i).map (Value.int .i64))) ∧ Hid (Below w.heap.size w wr)) (fun iv _ => arcs.length - (intOf iv).toNat)
  case atStart => exact ⟨0, Nat.zero_le _, rfl, HO2, HB2⟩
  case round =>
    clear HO2 HB2
    obtain ⟨i, hi, rfl, HO3, HB3⟩ := hrel
    by_cases hil : i < arcs.length
    · obtain ⟨p1, p2, p3, p4, p5, rfl, ka1, ka0, _, pb1, pb2⟩ := arc_at10 (HG.out.below HB3.out) H2.out hil
      by_cases e : cellOf arcs i 0 = v
      · have hf : beginsF arcs v i = 1 := if_pos e
        have hnx := upL_next (beginsF arcs v) arcs.length i
        rw [hf] at hnx
        obtain ⟨hc4, hf4, HO5, HB5⟩ := put_num (upL_len _ _ _) hil hnx HO3.out (Nat.le_refl _) HB3.out
        generalize (upL (beginsF arcs v) arcs.length i).getD i 0 = z at *
        rw [e] at ka0
        clear hf hnx e
        go_wp2
        go_roundw
        case rel => exact ⟨i + 1, by omega, by go_num, HO5, HB5⟩
        case measure => simp [intOf]; omega
      · have hf : beginsF arcs v i = 0 := if_neg e
        have hst := upL_still _ arcs.length i hf
        rw [hst] at HO3
        have hij : (cellOf arcs i 0 == v) = false := by rw [beq_eq_false_iff_ne]; exact e
        generalize cellOf arcs i 0 = x at *
        clear hf hst
        go_wp2
        go_roundw
        case rel => exact ⟨i + 1, by omega, by go_num, HO3, HB3⟩
        case measure => simp [intOf]; omega
    · obtain rfl : i = arcs.length := by omega
      have ho3 := HO3.out
      rw [HALL.out] at ho3
      have HO4 : Hid (OwnA wr w.heap.size (.slice (some ⟨w.heap.size, 0, none⟩) arcs.length arcs.length) ((List.range arcs.length).map (beginsF arcs v))) := Lib.hid (by
        unfold OwnA
        rw [List.length_map, List.length_range]
        exact ho3)
      clear ho3
      go_wp2
      go_ret
      exact ⟨_, rfl, HO4.out, HB3.out⟩

/-! ### BlockGraph -/

/-- A row in new memory behind a table that the call owns. -/
theorem row_more {w wr w4 w5 : World} {gg cap k : Nat} {v u : Value} {vs : List Value} {G G' : List (List Int)} {xs : List Int} (hk : G.length = k) (hO : wr.ownsRow w.heap.size 48 1 v k vs) (hR : RowsOwn wr w.heap.size v.ownBlock vs G) (hB : Below w.heap.size w wr) (hb : Below wr.heap.size wr w4)
    (hu : OwnA w4 wr.heap.size u xs) (hG : G ++ [xs] = G') (o : Obj)
    (ho3 : w5.ownsRow w.heap.size 48 1 (.slice (some ⟨gg, 0, none⟩) (k + 1) cap) (k + 1) (vs ++ [u])) (hg3 : (w4.alloc o).grownBy w5 v.ownBlock) (hat : v.ownBlock = some gg ∨ gg = w4.heap.size + 1) :
    w5.ownsRow w.heap.size 48 1 (.slice (some ⟨gg, 0, none⟩) (k + 1) cap) (k + 1) (vs ++ [u]) ∧ RowsOwn w5 w.heap.size (Value.slice (some ⟨gg, 0, none⟩) (k + 1) cap).ownBlock (vs ++ [u]) G' ∧ Below w.heap.size w w5 := by
  subst hk hG
  obtain ⟨h1, h2, h3⟩ := part_more hO hR hb hB.size hu o ho3 hg3 hat
  exact ⟨ho3, h2, h3 w rfl hB⟩

set_option maxRecDepth 100000 in
set_option maxHeartbeats 3200000 in
theorem impl_blockGraph (A0 : Option Addr) (c0 : Nat) (m : List (List Int)) (hn : m.length ≤ 1099511627776) (ht : ∀ k, k < m.length → (m.getD k []).length ≤ 1099511627776) (w : World) (hg : GridS w A0 m) :
    Calls Tryz.prog 6 #[.slice A0 m.length c0] w (NewGB (blockG m) w) := by
  obtain ⟨i0, hi, hz0, hz1, hz2⟩ := info_parts infoSl
  have HA := Lib.hid (impl_arcsOf A0 c0 m hn ht w hg)
  have h2 := arcsOfM_two m
  unfold blockG
  clear hg ht
  generalize arcsOfM m = arcs at *
  by_cases hc : 1 ≤ arcs.length ∧ arcs.length ≤ 9
  · rw [if_pos hc]
    obtain ⟨h1, h9⟩ := hc
    have HBA : Hid (∀ A c v w', GridS w' A arcs → Calls Tryz.prog 31 #[.slice A arcs.length c, .int .i64 v] w' (NewA ((List.range arcs.length).map (beginsF arcs v)) w')) := Lib.hid fun A c v w' hg => impl_beginningAt A c arcs h2 h9 v w' hg
    obtain ⟨f, hf⟩ : ∃ f : Nat → Nat → Int, (fun i j => if cellOf arcs i 1 = cellOf arcs j 0 then 1 else 0) = f := ⟨_, rfl⟩
    have HFE : Hid (tabOf arcs.length arcs.length f = blockT arcs) := Lib.hid (by rw [← hf]; rfl)
    have HRW : Hid (∀ i, (List.range arcs.length).map (beginsF arcs (cellOf arcs i 1)) = (List.range arcs.length).map (f i)) := Lib.hid fun i => List.map_congr_left fun j _ => by
      rw [← hf]
      show (if cellOf arcs j 0 = cellOf arcs i 1 then (1 : Int) else 0) = if cellOf arcs i 1 = cellOf arcs j 0 then 1 else 0
      by_cases c : cellOf arcs i 1 = cellOf arcs j 0
      · rw [if_pos c, if_pos c.symm]
      · rw [if_neg c, if_neg (fun h => c h.symm)]
    have HNX : Hid (∀ i, tabOf i arcs.length f ++ [(List.range arcs.length).map (f i)] = tabOf (i + 1) arcs.length f) := Lib.hid fun i => (tabOf_next i arcs.length f).symm
    have HTL : Hid (∀ i, (tabOf i arcs.length f).length = i) := Lib.hid fun i => tabOf_length _ _ _
    have H2 := Lib.hid h2
    have z0 : ((arcs.length : Int) == 0) = false := by rw [beq_eq_false_iff_ne]; omega
    clear h2 hf
    go_enter Tryz.func6, Tryz.ntmps6
    go_wp2_with fail
    refine HA.out.mono ?_
    rintro e w0 ⟨v0, rfl, ho0, b0⟩
    obtain ⟨A1, c1, rfl, hg1⟩ := ho0.gridS
    have B0 := Lib.hid b0
    have H1 := Lib.hid hg1
    have HM0 := Lib.hid (World.ownsRow_nil w0 w0.heap.size 48 1)
    clear ho0 b0 hg1 HA
    go_wp2
    go_loopw [5, 20] (fun v iv wr => ∃ (i : Nat) (vs : List Value), i ≤ arcs.length ∧ iv = .int .i64 i ∧ wr.ownsRow w0.heap.size 48 1 v i vs ∧ RowsOwn wr w0.heap.size v.ownBlock vs (tabOf i arcs.length f) ∧ Below w0.heap.size w0 wr) (fun _ i _ => arcs.length - (intOf i).toNat)
    case atStart => exact ⟨0, [], Nat.zero_le _, rfl, HM0.out, RowsOwn.nil _ _ _, Below.refl _ _⟩
    case round =>
      obtain ⟨i, vs, hi2, rfl, hO, hR, hbl⟩ := hrel
      by_cases hil : i < arcs.length
      · obtain ⟨p1, p2, p3, p4, p5, rfl, ka1, _, ka2, pb1, pb2⟩ := arc_at10 (H1.out.below hbl) H2.out hil
        have HO := Lib.hid hO
        have HRO := Lib.hid hR
        have HB := Lib.hid hbl
        have CB := Lib.hid (HBA.out (some ⟨p1, p2, none⟩) c1 (cellOf arcs i 1) wr (H1.out.below hbl))
        rw [HRW.out i] at CB
        have HNX1 := Lib.hid (HNX.out i)
        have HTL1 := Lib.hid (HTL.out i)
        have hgi : (i : Int) < (arcs.length : Int) := by omega
        clear hO hR hbl
        generalize cellOf arcs i 1 = x at *
        generalize (List.range arcs.length).map (f i) = X at *
        generalize tabOf i arcs.length f = G at *
        go_wp2_with fail
        refine CB.out.mono ?_
        rintro e w4 ⟨v4, rfl, ho4, b4⟩
        have HOK := Lib.hid (kept_below HO.out b4)
        have HU := Lib.hid ho4
        have HB4 := Lib.hid b4
        have hs4 := b4.size
        have hw0 := HB.out.size
        obtain ⟨A7, c7, rfl⟩ := slice_of_owns ho4
        clear ho4 b4 CB
        go_wp2_with (at_builtin; refine wpList_append_lies _ rfl (.tmp 24) (.tmp 30) 24 rfl w0.heap.size 48 i0 (.slice none 0 0) 1 24 Tryz.underlying24 hi hz0 hz1 hz2 rfl (by decide) _ _ _ rfl (HOK.out.alloc _) ⟨w4.heap.size, 0, none⟩ 1 1 [.slice A7 X.length c7] rfl rfl (World.news_of_block (cs := #[.slice A7 X.length c7]) (t := 48) (fr := (0, 0)) (heap_alloc_new w4 _)) (by simp [Value.oneCell']) (by decide) (by unfold maxLen; omega) (by omega) (by simp; omega) (w4.heap.size + 1) (by simp) ?_; intro gg cap w6 ho6 hg6 hat6 hlt6; have HM := Lib.hid (row_more HTL1.out HO.out HRO.out HB.out HB4.out HU.out HNX1.out _ ho6 hg6 hat6); clear ho6 hg6 hat6)
        go_roundw
        case rel => exact ⟨i + 1, _, by omega, by go_num, HM.out.1, HM.out.2.1, HM.out.2.2⟩
        case measure => simp [intOf]; omega
      · obtain rfl : i = arcs.length := by omega
        rw [HFE.out] at hR
        have hs0 := B0.out.size
        have HOG : Hid (OwnG wr w.heap.size _ (blockT arcs)) := Lib.hid (OwnG.mono ⟨vs, by rw [show (blockT arcs).length = arcs.length from tabOf_length _ _ _]; exact hO, hR⟩ hs0)
        have HB3 := Lib.hid (below_behind B0.out hbl)
        clear hO hR hbl
        go_wp2
        go_ret2
        exact ⟨_, rfl, HOG.out, HB3.out⟩
  · rw [if_neg hc]
    have HE : Hid (∀ w' : World, OwnG w' w.heap.size (.slice none 0 0) []) := Lib.hid fun w' => ownG_nil w' w.heap.size
    clear h2
    by_cases h0 : arcs.length = 0
    · obtain rfl : arcs = [] := List.eq_nil_of_length_eq_zero h0
      go_enter Tryz.func6, Tryz.ntmps6
      go_wp2_with fail
      refine HA.out.mono ?_
      rintro e w0 ⟨v0, rfl, ho0, b0⟩
      obtain ⟨A1, c1, rfl, hg1⟩ := ho0.gridS
      have B0 := Lib.hid b0
      clear ho0 b0 hg1
      go_wp2
      go_ret2
      exact ⟨_, rfl, HE.out _, B0.out⟩
    · have z0 : ((arcs.length : Int) == 0) = false := by rw [beq_eq_false_iff_ne]; omega
      have z9 : (9 : Int) < (arcs.length : Int) := by omega
      go_enter Tryz.func6, Tryz.ntmps6
      go_wp2_with fail
      refine HA.out.mono ?_
      rintro e w0 ⟨v0, rfl, ho0, b0⟩
      obtain ⟨A1, c1, rfl, hg1⟩ := ho0.gridS
      have B0 := Lib.hid b0
      clear ho0 b0 hg1
      go_wp2
      go_ret2
      exact ⟨_, rfl, HE.out _, B0.out⟩

/-! ### PowerGraph, IsBlockOf -/

set_option maxRecDepth 100000 in
set_option maxHeartbeats 800000 in
theorem impl_powerGraph (A1 : Option Addr) (c1 : Nat) (m : List (List Int)) (hl : m.length ≤ 1048576) (ht : tot m ≤ 1048576) (n : Int) (w : World) (h1 : GridS w A1 m) :
    Calls Tryz.prog 16 #[.slice A1 m.length c1, .int .i64 n] w (NewGB (powG m n) w) := by
  have HP := Lib.hid (impl_power A1 c1 m hl ht n w h1)
  have HE := Lib.hid (ownG_nil w w.heap.size)
  clear h1
  by_cases hn : n = 0
  · subst hn
    rw [show powG m 0 = none from if_neg (by omega)]
    clear HP
    go_enter Tryz.func16, Tryz.ntmps16
    go_wp2
    go_ret2
    exact ⟨_, rfl, HE.out, Below.refl _ _⟩
  · rw [show powG m n = powS m n by
      unfold powG
      split
      · rfl
      · next h => exact (if_neg (by omega)).symm]
    have z0 : (n == 0) = false := by rw [beq_eq_false_iff_ne]; exact hn
    generalize powS m n = o at *
    go_enter Tryz.func16, Tryz.ntmps16
    go_wp2_with fail
    refine HP.out.mono ?_
    rintro e w1 ⟨v, rfl, ho, hb⟩
    obtain ⟨A, c, rfl, -⟩ := ho.gridS
    have HO := Lib.hid ho
    clear ho
    go_wp2
    go_ret2
    exact ⟨_, rfl, HO.out, hb⟩

set_option maxRecDepth 100000 in
set_option maxHeartbeats 800000 in
theorem impl_isBlockOf (A1 A2 : Option Addr) (c1 c2 : Nat) (m n : List (List Int)) (hl : m.length ≤ 1048576) (ht : tot m ≤ 1048576) (hnl : n.length ≤ 1048576) (hn : tot n ≤ 1048576) (w : World) (h1 : GridS w A1 m) (h2 : GridS w A2 n) :
    Calls Tryz.prog 23 #[.slice A1 m.length c1, .slice A2 n.length c2] w (Scalar (.bool (isBlockM m n)) w) := by
  have HB := Lib.hid (impl_blockGraph A1 c1 m (by omega) (fun k hk => by have := row_le_tot hk; omega) w h1)
  have H2 := Lib.hid h2
  have hz := sizeB_block m
  unfold isBlockM
  clear h1 h2
  generalize blockG m = o at *
  have hz1 : (o.getD []).length ≤ 1048576 ∧ tot (o.getD []) ≤ 1048576 := by unfold SizeB at hz; omega
  have HEQ : Hid (∀ (A : Option Addr) (c : Nat) (w' : World), GridS w' A (o.getD []) → GridS w' A2 n → Calls Tryz.prog 56 #[.slice A (o.getD []).length c, .slice A2 n.length c2] w' (fun e w2 => e = .returned (.bool (decide (o.getD [] = n))) ∧ Below w'.heap.size w' w2)) := Lib.hid fun A c w' hg hg2 => (impl_equalMatrix A A2 c c2 (o.getD []) n hz1.1 hnl hz1.2 hn w' hg hg2).mono fun e w2 ⟨he, hb⟩ => ⟨he, hb⟩
  clear hz hz1
  cases o with
  | none =>
    go_enter Tryz.func23, Tryz.ntmps23
    go_wp2_with fail
    refine HB.out.mono ?_
    rintro e w1 ⟨v, rfl, ho, hb⟩
    go_wp2
    go_ret
    exact ⟨rfl, hb⟩
  | some x =>
    go_enter Tryz.func23, Tryz.ntmps23
    go_wp2_with fail
    refine HB.out.mono ?_
    rintro e w1 ⟨v, rfl, ho, hb⟩
    obtain ⟨A, c, rfl, hg⟩ := ho.gridS
    have HC := Lib.hid (HEQ.out A c w1 hg (H2.out.below hb))
    clear ho hg
    go_wp2_with fail
    refine HC.out.mono ?_
    rintro e w2 ⟨rfl, hb2⟩
    go_wp2
    go_ret
    exact ⟨by simp, below_behind hb hb2⟩
end Go.Proofs.YtalclebehbdliaaGreatDoor
