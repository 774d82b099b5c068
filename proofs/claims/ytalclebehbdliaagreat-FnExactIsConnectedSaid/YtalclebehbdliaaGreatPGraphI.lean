/-
  The program's GraphOf: at every shift in memory the table that the plain words say, in new memory; nothing that was there before is changed.
-/
import Derived.Test.YtalclebehbdliaaGreatStatesI
import Derived.Test.YtalclebehbdliaaGreatSquareRows
import Derived.Deep.RegionHeld3
import Derived.Deep.CutRange
namespace Go.Proofs.YtalclebehbdliaaGreat
open Go Go.RowKit

theorem idx_at {M : List ByteArray} (hn : M.Nodup) {x : ByteArray} (h : x ∈ M) : ∃ i : Nat, i < M.length ∧ M.getD i ByteArray.empty = x ∧ Lib.idxOfS M x = (i : Int) := by
  obtain ⟨i, hi, rfl⟩ := List.getElem_of_mem h
  have e : M.getD i ByteArray.empty = M[i] := by rw [List.getD_eq_getElem?_getD, List.getElem?_eq_getElem hi]; rfl
  refine ⟨i, hi, e, ?_⟩
  have h2 := Lib.idxOfS_hit M M.length i M[i] hi (Nat.le_refl _) e fun j hj he => by
    have hj2 : j < M.length := by omega
    rw [List.getD_eq_getElem?_getD, List.getElem?_eq_getElem hj2, Option.getD_some] at he
    have := nodup_at hn hj2 hi he
    omega
  rwa [List.take_length] at h2
/-- What the words of three letters say of the states, and the table. -/
structure ArcsOf (M A : List ByteArray) (ps : List ByteArray) : Prop where
  nine : M.length ≤ 9
  nodup : M.Nodup
  len : A.length ≤ 27
  ends : ∀ k, k < A.length → (A.getD k ByteArray.empty).size = 3 ∧ (A.getD k ByteArray.empty).extract 0 2 ∈ M ∧ (A.getD k ByteArray.empty).extract 1 3 ∈ M
  tab : tabOf M.length M.length (pArcF M A A.length) = tabQ ps M
theorem arcs_of (L : Int) (ps : List ByteArray) : ArcsOf (langOfS L ps 2) (langOfS L ps 3) ps := by
  cases h : isShift L ps with
  | true =>
    obtain ⟨_, k3, _, _⟩ := shift_sizes h
    have e2 : langOfS L ps 2 = statesW L.toNat ps := langOfS_is h (by decide) (by decide)
    rw [e2, langOfS_is h (by decide) (by decide)]
    refine ⟨states_le k3 ps, states_nodup k3 ps, lang3_le k3 ps, fun k hk => arc_ends k3 (getD_mem hk), ?_⟩
    rw [graph_same k3]
    exact graph_arcs k3 ps
  | false =>
    have e : ∀ n, langOfS L ps n = [] := fun n => by unfold langOfS; rw [if_neg (fun hc => by rw [h] at hc; exact absurd hc.1 (by decide))]
    rw [e, e]
    exact ⟨by simp, List.nodup_nil, by simp, fun k hk => by simp at hk, rfl⟩
theorem strs_grown {w w' : World} {g o q : Nat} {xs : List ByteArray} (h : StrsAt w g o xs) (hg : w.grownBy w' (some q)) (hl : g < w.heap.size) (hne : g ≠ q) : StrsAt w' g o xs := fun k hk =>
  (World.cell?_of_block (w := w) (w' := w') (a := ⟨g, o + k, none⟩) (hg.block g hl fun e => hne (Option.some.inj e))).trans (h k hk)
theorem grown_set {w w' : World} {q j : Nat} {v : Value} (h : w.grownBy w' (some q)) : w.grownBy (w'.drew.setCell ⟨q, j, none⟩ v) (some q) :=
  grown_trans h ⟨rfl, rfl, rfl, by simp [World.setCell], fun k _ hne => (Below.heap_setCell _ ⟨q, j, none⟩ v k (fun e => hne (by rw [e]))).trans rfl⟩
theorem ownG_none (w : World) (B : Nat) : OwnG w B (.slice none 0 0) [] := ⟨[], World.ownsRow_nil w B 56 1, RowsOwn.nil _ _ _⟩

set_option maxRecDepth 100000 in
set_option maxHeartbeats 3200000 in
theorem impl_graphOf (L : Int) (G : Option Addr) (c : Nat) (ps : List ByteArray) (hl : ps.length ≤ 1048576) (hz : ∀ k, k < ps.length → (ps.getD k ByteArray.empty).size ≤ 2147483648) (w : World) (hs : StrsG w G ps)
    (hsh : ∀ w', Below w.heap.size w w' → w'.ShapedOpen Tryz.prog) :
    Calls Tryz.prog 8 #[.agg #[.int .i64 L, .slice G ps.length c]] w (NewGB (graphS L ps) w) := by
  obtain ⟨Z, hzz, HZ⟩ := sq_zero
  have hb := (Below.refl w.heap.size w).alloc (Nat.le_refl _) (.cells #[.int .i64 L, .slice G ps.length c] 26)
  have hbx := boxAt_new w L (.slice G ps.length c) 26
  have hsz0 : (w.alloc (.cells #[.int .i64 L, .slice G ps.length c] 26)).heap.size = w.heap.size + 1 := World.size_alloc _ _
  have C := Lib.hid (impl_statesOf L G c ps hl hz _ (hs.below hb) (fun w' h => hsh w' (below_after hb h)))
  have CA := Lib.hid (fun w' (h : Below w.heap.size w w') => impl_arcWords L G c ps hl hz w' (hs.below h) (fun w2 h2 => hsh w2 (below_after h h2)))
  have HB := Lib.hid hb
  have XB := Lib.hid (fun w' (h : Below (w.heap.size + 1) (w.alloc (.cells #[.int .i64 L, .slice G ps.length c] 26)) w') => hbx.below h (by omega))
  have HF := arcs_of L ps
  have h9 := HF.nine
  have h27 := HF.len
  have HND := Lib.hid HF.nodup
  have HEN := Lib.hid HF.ends
  have HT := Lib.hid HF.tab
  have HR : Hid (graphS L ps = if (langOfS L ps 2).length = 0 then none else some (tabQ ps (langOfS L ps 2))) := Lib.hid rfl
  generalize graphS L ps = R at *
  generalize langOfS L ps 3 = A at *
  generalize langOfS L ps 2 = M at *
  clear hs hz hb hsh HF hbx
  go_enter Tryz.func8, Tryz.ntmps8
  go_wp2_with fail
  refine C.out.mono ?_
  rintro e w1 h1
  obtain ⟨GM, cM, rfl, hrM, b1⟩ := ListPost.rowAt h1
  have RM := Lib.hid hrM
  have s1 := b1.size
  rw [hsz0] at s1
  have B1 := Lib.hid (HB.out.trans (b1.mono HB.out.size))
  have X1 := Lib.hid (XB.out w1 (b1.mono (by omega)))
  clear h1 hrM b1 C HB XB hsz0
  by_cases h0 : M.length = 0
  · have HN : Hid (R = none) := Lib.hid (by rw [HR.out, if_pos h0])
    have hz0 : ((M.length : Int) == 0) = true := by rw [h0]; rfl
    go_wp2
    go_ret2
    rw [HN.out]
    exact ⟨_, rfl, ownG_none w1 _, B1.out⟩
  · have HN : Hid (R = some (tabQ ps M)) := Lib.hid (by rw [HR.out, if_neg h0])
    have hz0 : ((M.length : Int) == 0) = false := beq_eq_false_iff_ne.2 (by omega)
    obtain ⟨gM, rfl, hsM, hgM⟩ := RM.out (by omega)
    have hq0 : SqAt (w1.alloc (.cells Z 62)) w1.heap.size (pArcF M A 0) := by
      rw [HZ.out]
      exact (SqAt.new w1 _).congr fun i j _ _ => (pArcF_zero M A i j).symm
    have hbq : Below w.heap.size w (w1.alloc (.cells Z 62)) := B1.out.alloc (by omega) _
    have hxq := X1.out.below ((Below.refl w1.heap.size w1).alloc (Nat.le_refl _) (.cells Z 62)) (by omega)
    have hsMq := hsM.below ((Below.refl w1.heap.size w1).alloc (Nat.le_refl _) (.cells Z 62)) hgM
    have hsq : (w1.alloc (.cells Z 62)).heap.size = w1.heap.size + 1 := World.size_alloc _ _
    have CA1 := Lib.hid (CA.out _ hbq)
    have Q0 := Lib.hid hq0
    have SM := Lib.hid hsMq
    have BQ := Lib.hid hbq
    obtain ⟨x0, x1⟩ := hxq
    clear hq0 hbq hsMq hsM HZ CA X1 RM
    go_wp2_with fail
    refine CA1.out.mono ?_
    rintro e w2 ⟨vA, rfl, hoA, b2⟩
    obtain ⟨GA, cA, hvA, hrA, _⟩ := ListPost.rowAt (ps := A) ⟨vA, rfl, hoA, b2⟩
    have hvA' : vA = .slice GA A.length cA := Ending.returned.inj hvA
    subst hvA'
    have hgA : Hid (∀ gA, GA = some ⟨gA, 0, none⟩ → w1.heap.size < gA) := Lib.hid fun gA e => by
      subst e
      have := (hoA.lt gA rfl).1
      omega
    have s2 := b2.size
    rw [hsq] at s2
    have RA := Lib.hid hrA
    have Q2 := Lib.hid (Q0.out.below b2)
    have SM2 := Lib.hid (SM.out.below b2 (by omega))
    have B2 := Lib.hid (below_after BQ.out b2)
    clear hvA hoA hrA b2 x0 x1 CA1 Q0 SM BQ hzz
    go_wp2
    go_loopw [16] (fun iv wr => ∃ k : Nat, k ≤ A.length ∧ iv = .int .i64 (k : Int) ∧ Hid (SqAt wr w1.heap.size (pArcF M A k)) ∧ Hid (w2.grownBy wr (some w1.heap.size))) (fun iv _ => A.length - (intOf iv).toNat)
    case atStart => exact ⟨0, Nat.zero_le _, rfl, Q2, Lib.hid (World.grownBy.refl _ _)⟩
    case round =>
      obtain ⟨k, hk, rfl, HQ, HG⟩ := hrel
      have hsr := HG.out.size
      by_cases hkl : k < A.length
      · obtain ⟨gA, rfl, hst, hgA2⟩ := RA.out (by omega)
        have hgAq := hgA.out gA rfl
        have hc := strs_grown hst HG.out hgA2 (by omega) k hkl
        rw [Nat.zero_add] at hc
        obtain ⟨h3, hf, hbk⟩ := HEN.out k hkl
        obtain ⟨i0, hi0, ei0, ix0⟩ := idx_at HND.out hf
        obtain ⟨j0, hj0, ej0, jx0⟩ := idx_at HND.out hbk
        have HNX := Lib.hid (fun i j => pArcF_next HND.out hkl hi0 hj0 h3 ei0 ej0 i j)
        have hsM3 := strs_grown SM2.out HG.out (by omega) (show gM ≠ w1.heap.size by omega)
        have CI : ∀ x, Calls Tryz.prog 42 #[.slice (some ⟨gM, 0, none⟩) M.length cM, .string x] wr.drew fun e w' => e = .returned (.int .i64 (Lib.idxOfS M x)) ∧ w' = wr.drew := fun x => by
          have h := Tryz.slices_Index_string gM 0 M.length cM M x wr.drew (Nat.le_refl _) (by omega) hsM3
          rwa [List.take_length] at h
        have C1 := Lib.hid (CI ((A.getD k ByteArray.empty).extract 0 2))
        have C2 := Lib.hid (CI ((A.getD k ByteArray.empty).extract 1 3))
        rw [ix0] at C1
        rw [jx0] at C2
        have hi9 : i0 < 9 := by omega
        have hj9 : j0 < 9 := by omega
        have i1 : (0 : Int) ≤ (i0 : Int) := by omega
        have i2 : (i0 : Int) < 9 := by omega
        have j1 : (0 : Int) ≤ (j0 : Int) := by omega
        have j2 : (j0 : Int) < 9 := by omega
        have hcell := HQ.out.cell hi9 hj9
        have hfz := HQ.out.frozen (i0 * 9 + j0)
        have HQ3 : Hid (SqAt (wr.drew.setCell ⟨w1.heap.size, i0 * 9 + j0, none⟩ (.int .i64 1)) w1.heap.size (pArcF M A (k + 1))) := Lib.hid ((SqAt.put (w := wr.drew) HQ.out hi9 hj9 1).congr fun a b _ _ => HNX.out a b)
        have HG3 : Hid (w2.grownBy (wr.drew.setCell ⟨w1.heap.size, i0 * 9 + j0, none⟩ (.int .i64 1)) (some w1.heap.size)) := Lib.hid (grown_set HG.out)
        generalize A.getD k ByteArray.empty = y at *
        generalize pArcF M A k i0 j0 = x at *
        clear hst hf hbk ei0 ej0 ix0 jx0 HNX hsM3 CI HQ HG hgA
        go_wp2
        refine wp_region_held_drew (S := (fun _ => True)) (by kernel_rfl) ?hS0a (fun hHeld => ?_)
        case hS0a => exact trivial
        refine wpAnyH_take (i := 0) (v := ?v0a) rfl (by kernel_rfl) (by kernel_rfl) (by kernel_rfl) (fun _ _ _ h => h) (Or.inl ⟨by rfl, ?hy0a⟩) (by assumption) ?_
        case hy0a => (intro w hSw; (try dsimp only at hSw); go_simp; try with_reducible rfl)
        try simp only [Act.put, List.getElem_toArray, List.getElem_cons_zero, List.setIfInBounds_toArray, List.set_cons_zero, List.set_cons_succ]
        refine wpAnyH_take (i := 1) (v := ?v1a) rfl (by kernel_rfl) (by kernel_rfl) (by kernel_rfl) (fun _ _ _ h => h) (Or.inl ⟨by rfl, ?hy1a⟩) (by assumption) ?_
        case hy1a => (intro w hSw; (try dsimp only at hSw); go_simp; try with_reducible rfl)
        try simp only [Act.put, List.getElem_toArray, List.getElem_cons_succ, List.getElem_cons_zero, List.setIfInBounds_toArray, List.set_cons_zero, List.set_cons_succ]
        refine wpAnyH_take (i := 2) (v := ?v2a) rfl (by kernel_rfl) (by kernel_rfl) (by kernel_rfl) (fun _ _ _ h => h) (Or.inl ⟨by rfl, ?hy2a⟩) (by assumption) ?_
        case hy2a => (intro w hSw; (try dsimp only at hSw); go_simp; try with_reducible rfl)
        try simp only [Act.put, List.getElem_toArray, List.getElem_cons_succ, List.getElem_cons_zero, List.setIfInBounds_toArray, List.set_cons_zero, List.set_cons_succ]
        refine wpAnyH_take (i := 4) (v := ?v4a) rfl (by kernel_rfl) (by kernel_rfl) (by kernel_rfl) (fun _ _ _ h => h) (Or.inl ⟨by rfl, ?hy4a⟩) (by assumption) ?_
        case hy4a => (intro w hSw; (try dsimp only at hSw); go_simp; try with_reducible rfl)
        try simp only [Act.put, List.getElem_toArray, List.getElem_cons_succ, List.getElem_cons_zero, List.setIfInBounds_toArray, List.set_cons_zero, List.set_cons_succ]
        refine wpAnyH_take (i := 5) (v := ?v5a) rfl (by kernel_rfl) (by kernel_rfl) (by kernel_rfl) (fun _ _ _ h => h) (Or.inl ⟨by rfl, ?hy5a⟩) (by assumption) ?_
        case hy5a => (intro w hSw; (try dsimp only at hSw); go_simp; try with_reducible rfl)
        try simp only [Act.put, List.getElem_toArray, List.getElem_cons_succ, List.getElem_cons_zero, List.setIfInBounds_toArray, List.set_cons_zero, List.set_cons_succ]
        refine wpAnyH_take (i := 6) (v := ?v6a) rfl (by kernel_rfl) (by kernel_rfl) (by kernel_rfl) (fun _ _ _ h => h) (Or.inl ⟨by rfl, ?hy6a⟩) (by assumption) ?_
        case hy6a => (intro w hSw; (try dsimp only at hSw); go_simp; try with_reducible rfl)
        try simp only [Act.put, List.getElem_toArray, List.getElem_cons_succ, List.getElem_cons_zero, List.setIfInBounds_toArray, List.set_cons_zero, List.set_cons_succ]
        refine wpAnyH_ready (rs := [3]) (by kernel_rfl) (by simp) ?_
        refine AllReadyH.cons rfl (fun K hK => ?_) AllReadyH.nil
        go_simp
        go_at_call 42
        refine C1.out.mono ?_
        rintro e u1 ⟨rfl, rfl⟩
        go_wp2_with fail
        refine hK.out _ _ ?hS3a (fun hHeld => ?_)
        case hS3a => (try dsimp only); first | done | exact trivial
        clear hK K
        try simp only [Act.put, List.getElem_toArray, List.getElem_cons_succ, List.getElem_cons_zero, List.setIfInBounds_toArray, List.set_cons_zero, List.set_cons_succ]
        refine wpAnyH_take (i := 8) (v := ?v8a) rfl (by kernel_rfl) (by kernel_rfl) (by kernel_rfl) (fun _ _ _ h => h) (Or.inl ⟨by rfl, ?hy8a⟩) (by assumption) ?_
        case hy8a => (intro w hSw; (try dsimp only at hSw); go_simp; try with_reducible rfl)
        try simp only [Act.put, List.getElem_toArray, List.getElem_cons_succ, List.getElem_cons_zero, List.setIfInBounds_toArray, List.set_cons_zero, List.set_cons_succ]
        refine wpAnyH_ready (rs := [7]) (by kernel_rfl) (by simp) ?_
        refine AllReadyH.cons rfl (fun K hK => ?_) AllReadyH.nil
        go_simp
        go_at_call 42
        refine C2.out.mono ?_
        rintro e u2 ⟨rfl, rfl⟩
        go_wp2_with fail
        refine hK.out _ _ ?hS7a (fun hHeld => ?_)
        case hS7a => (try dsimp only); first | done | exact trivial
        clear hK K
        try simp only [Act.put, List.getElem_toArray, List.getElem_cons_succ, List.getElem_cons_zero, List.setIfInBounds_toArray, List.set_cons_zero, List.set_cons_succ]
        refine wpAnyH_take (i := 9) (v := ?v9a) rfl (by kernel_rfl) (by kernel_rfl) (by kernel_rfl) (fun _ _ _ h => h) (Or.inl ⟨by rfl, ?hy9a⟩) (by assumption) ?_
        case hy9a => (intro w hSw; (try dsimp only at hSw); go_simp; try with_reducible rfl)
        try simp only [Act.put, List.getElem_toArray, List.getElem_cons_succ, List.getElem_cons_zero, List.setIfInBounds_toArray, List.set_cons_zero, List.set_cons_succ]
        refine wpAnyH_ready (rs := [10]) (by kernel_rfl) (by simp) ?_
        refine AllReadyH.cons rfl (fun K hK => ?_) AllReadyH.nil
        go_simp
        refine hK.out _ _ ?hS10a (fun hHeld => ?_)
        case hS10a => (try dsimp only); first | done | exact trivial
        clear hK K
        try simp only [Act.put, List.getElem_toArray, List.getElem_cons_succ, List.getElem_cons_zero, List.setIfInBounds_toArray, List.set_cons_zero, List.set_cons_succ]
        refine wpAnyH_done (by kernel_rfl) ?_ _
        go_wp2
        go_roundw
        case rel => exact ⟨k + 1, by omega, by go_num, HQ3, HG3⟩
        case measure => simp [intOf]; omega
      · obtain rfl : k = A.length := by omega
        have HB3 := Lib.hid (B2.out.grown HG.out (by omega) fun q hq => by have := Option.some.inj hq; omega)
        have HQ3 := Lib.hid HQ.out
        have CR := Lib.hid (impl_rows (pArcF M A A.length) M.length h9 wr)
        rw [HT.out] at CR
        clear HQ HG hgA
        go_wp2
        refine sq_load HQ3.out _ rfl rfl ?_
        go_wp2_with fail
        refine CR.out.mono ?_
        rintro e w4 ⟨v4, rfl, ho4, b4⟩
        have HO4 := Lib.hid (ho4.mono (show w.heap.size ≤ wr.heap.size by omega))
        have HB4 := Lib.hid (HB3.out.trans (b4.mono (by omega)))
        clear ho4 b4
        go_wp2
        go_ret2
        rw [HN.out]
        exact ⟨_, rfl, HO4.out, HB4.out⟩
end Go.Proofs.YtalclebehbdliaaGreat
