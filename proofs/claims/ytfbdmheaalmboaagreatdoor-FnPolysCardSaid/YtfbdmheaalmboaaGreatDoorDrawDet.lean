/-
  The model's draw of a table that often has a determinant: a table of one's own; only the cursor has turned of what was there.
-/
import Derived.Test.YtfbdmheaalmboaaGreatDoorDrawPolys
import Derived.Deep.RegionHeld3
namespace Go.Proofs.YtfbdmheaalmboaaGreatDoor
open Go Go.RowKit

/-- The first row of a table of one's own has grown by a number. -/
theorem OwnG.longRow {w w2 : World} {B g cap gg cc : Nat} {m : List (List Int)} {vs : List Value} {r : Value} {x : Int} (o : Obj) (hm : 0 < m.length)
    (ho : w.ownsRow B 26 1 (.slice (some ⟨g, 0, none⟩) m.length cap) m.length vs) (hr : RowsOwn w B (some g) vs m) (hk : vs[0]? = some r)
    (ho2 : w2.ownsRow B 3 1 (.slice (some ⟨gg, 0, none⟩) ((m.getD 0 []).length + 1) cc) ((m.getD 0 []).length + 1) ((m.getD 0 []).map (Value.int .i64) ++ [.int .i64 x])) (hg2 : (w.alloc o).grownBy w2 r.ownBlock) (hat : r.ownBlock = some gg ∨ gg = w.heap.size + 1) :
    OwnG (w2.setCell ⟨g, 0, none⟩ (.slice (some ⟨gg, 0, none⟩) ((m.getD 0 []).length + 1) cc)) B (.slice (some ⟨g, 0, none⟩) m.length cap) (m.set 0 (m.getD 0 [] ++ [x])) ∧ w2.cell? ⟨g, 0, none⟩ = some r ∧ w2.frozen? ⟨g, 0, none⟩ = false := by
  have hgl := (ho.lt g rfl).2
  have hrow := hr.row 0 r hk
  have hl := hr.len
  have hrg : r.ownBlock = none ∨ r.ownBlock ≠ some g := hrow.2
  have hgg : gg ≠ g := by
    rcases hat with h | h
    · intro e
      rcases hrg with h2 | h2
      · rw [h] at h2; cases h2
      · exact h2 (by rw [h, e])
    · omega
  have hout : w2.ownsRow B 26 1 (.slice (some ⟨g, 0, none⟩) m.length cap) m.length vs := (ho.alloc o).kept hg2 (by
    rcases hrg with e | e
    · rw [e]; exact Or.inr (by intro h; cases h)
    · exact Or.inr (Ne.symm e))
  have hrows : RowsOwn w2 B (some g) (vs.set 0 (.slice (some ⟨gg, 0, none⟩) ((m.getD 0 []).length + 1) cc)) (m.set 0 (m.getD 0 [] ++ [x])) := by
    have hfar : ∀ (k : Nat) (s : Value), 0 < k → vs[k]? = some s → (s.ownBlock = none ∨ s.ownBlock ≠ r.ownBlock) ∧ (s.ownBlock = none ∨ s.ownBlock ≠ some gg) := fun k s hk0 hs => by
      have h2 := hr.two 0 k r s hk0 hk hs
      have hne : s.ownBlock = none ∨ s.ownBlock ≠ r.ownBlock := by
        rcases h2 with e1 | e1
        · cases e2 : s.ownBlock with
          | none => exact Or.inl rfl
          | some q => exact Or.inr (by rw [e1]; intro h; cases h)
        · exact Or.inr (Ne.symm e1)
      refine ⟨hne, ?_⟩
      rcases hat with h | h
      · rw [← h]; exact hne
      · cases e2 : s.ownBlock with
        | none => exact Or.inl rfl
        | some q =>
          refine Or.inr fun e => ?_
          have := (hr.lt hs q e2).2
          have := Option.some.inj e
          omega
    refine ⟨by simp [hl], fun k s hs => ?_, fun j k s t hjk hs ht => ?_⟩
    · by_cases hk0 : k = 0
      · subst hk0
        have e : (Value.slice (some ⟨gg, 0, none⟩) ((m.getD 0 []).length + 1) cc) = s := by
          rw [List.getElem?_set] at hs
          simp only [if_true] at hs
          rw [if_pos (by omega)] at hs
          exact Option.some.inj hs
        have e2 : (m.set 0 (m.getD 0 [] ++ [x])).getD 0 [] = m.getD 0 [] ++ [x] := by simp [List.getD, hm]
        rw [e2, ← e]
        refine ⟨by rw [List.length_append, List.map_append]; exact ho2, Or.inr fun h => hgg (Option.some.inj h)⟩
      · rw [List.getElem?_set_ne (Ne.symm hk0)] at hs
        have e2 : (m.set 0 (m.getD 0 [] ++ [x])).getD k [] = m.getD k [] := by simp [List.getD, List.getElem?_set_ne (Ne.symm hk0)]
        rw [e2]
        have h1 := hr.row k s hs
        exact ⟨(World.ownsRow.alloc h1.1 o).kept hg2 (hfar k s (by omega) hs).1, h1.2⟩
    · have hk0 : ¬ k = 0 := by omega
      rw [List.getElem?_set_ne (Ne.symm hk0)] at ht
      by_cases hj0 : j = 0
      · subst hj0
        have e : (Value.slice (some ⟨gg, 0, none⟩) ((m.getD 0 []).length + 1) cc) = s := by
          rw [List.getElem?_set] at hs
          simp only [if_true] at hs
          rw [if_pos (by omega)] at hs
          exact Option.some.inj hs
        rw [← e]
        rcases (hfar k t (by omega) ht).2 with h | h
        · exact Or.inr (by rw [h]; intro h; cases h)
        · exact Or.inr fun h2 => h h2.symm
      · rw [List.getElem?_set_ne (Ne.symm hj0)] at hs
        exact hr.two j k s t hjk hs ht
  have hst := hout.stored 0 (.slice (some ⟨gg, 0, none⟩) ((m.getD 0 []).length + 1) cc)
  refine ⟨⟨_, ?_, hrows.keptOuter hst.2⟩, (hout.cellAt 0 (by omega)).trans hk, hout.frozenAt 0⟩
  rw [List.length_set]
  exact hst.1

/-- A table of n rows of n numbers. -/
def SqD (n : Nat) (M : List (List Int)) : Prop := M.length = n ∧ ∀ k, k < n → (M.getD k []).length = n
theorem SqD.set {n : Nat} {M : List (List Int)} (h : SqD n M) (i j : Nat) (x : Int) : SqD n (M.set i ((M.getD i []).set j x)) := by
  obtain ⟨h1, h2⟩ := h
  refine ⟨by simp [h1], fun k hk => ?_⟩
  by_cases e : i = k
  · subst e
    have : (M.set i ((M.getD i []).set j x)).getD i [] = (M.getD i []).set j x := by simp [List.getD, show i < M.length by omega]
    rw [this, List.length_set]
    exact h2 i hk
  · have : (M.set i ((M.getD i []).set j x)).getD k [] = M.getD k [] := by simp [List.getD, List.getElem?_set_ne e]
    rw [this]
    exact h2 k hk
theorem SqD.zero (n : Nat) : SqD n (tabOf n n fun _ _ => 0) := ⟨tabOf_length _ _ _, fun k hk => by rw [tabOf_row hk]; simp⟩
theorem tot_most {m : List (List Int)} {n : Nat} (h : ∀ r, r ∈ m → r.length ≤ n) : tot m ≤ m.length * n := by
  induction m with
  | nil => simp [tot]
  | cons r m ih =>
    have h1 := h r (by simp)
    have h2 := ih fun s hs => h s (by simp [hs])
    have e : tot (r :: m) = r.length + tot m := by simp [tot]
    rw [e, List.length_cons, Nat.add_mul, Nat.one_mul]; omega
theorem drawn_of {M : List (List Int)} (h1 : M.length ≤ 4) (h2 : ∀ k, k < M.length → (M.getD k []).length ≤ 5) : Drawn M := by
  have h3 := tot_most (m := M) (n := 5) fun r hr => by
    obtain ⟨i, hi, rfl⟩ := List.getElem_of_mem hr
    have := h2 i hi
    have e : M.getD i [] = M[i] := by simp [List.getD, hi]
    rw [e] at this; omega
  have h4 : M.length * 5 ≤ 4 * 5 := Nat.mul_le_mul_right 5 h1
  exact ⟨by omega, by omega⟩
theorem SqD.drawn {n : Nat} {M : List (List Int)} (h : SqD n M) (hn : n ≤ 4) : Drawn M := drawn_of (by have := h.1; omega) fun k hk => by have := h.1; have := h.2 k (by omega); omega
theorem SqD.long {n : Nat} {M : List (List Int)} (h : SqD n M) (hn : n ≤ 4) (x : Int) : Drawn (M.set 0 (M.getD 0 [] ++ [x])) := by
  obtain ⟨h1, h2⟩ := h
  refine drawn_of (by rw [List.length_set]; omega) fun k hk => ?_
  rw [List.length_set] at hk
  by_cases e : k = 0
  · subst e
    have : (M.set 0 (M.getD 0 [] ++ [x])).getD 0 [] = M.getD 0 [] ++ [x] := by simp [List.getD, hk]
    rw [this, List.length_append]
    have := h2 0 (by omega)
    rw [List.length_singleton]; omega
  · have : (M.set 0 (M.getD 0 [] ++ [x])).getD k [] = M.getD k [] := by simp [List.getD, List.getElem?_set_ne (Ne.symm e)]
    rw [this]
    have := h2 k (by omega)
    omega
theorem long_row {w w2 : World} {B g cap gg cc n : Nat} {m : List (List Int)} {vs : List Value} {r : Value} {x : Int} (hml : m.length = n) (hrl : (m.getD 0 []).length = n) (hn : 0 < n) (o : Obj)
    (ho : w.ownsRow B 26 1 (.slice (some ⟨g, 0, none⟩) n cap) n vs) (hr : RowsOwn w B (some g) vs m) (hk : vs[0]? = some r)
    (ho2 : w2.ownsRow B 3 1 (.slice (some ⟨gg, 0, none⟩) (n + 1) cc) (n + 1) ((m.getD 0 []).map (Value.int .i64) ++ [.int .i64 x])) (hg2 : (w.alloc o).grownBy w2 r.ownBlock) (hat : r.ownBlock = some gg ∨ gg = w.heap.size + 1) :
    OwnG (w2.setCell ⟨g, 0, none⟩ (.slice (some ⟨gg, 0, none⟩) (n + 1) cc)) B (.slice (some ⟨g, 0, none⟩) n cap) (m.set 0 (m.getD 0 [] ++ [x])) ∧ w2.cell? ⟨g, 0, none⟩ = some r ∧ w2.frozen? ⟨g, 0, none⟩ = false := by
  subst hml
  rw [← hrl] at ho2
  have h := OwnG.longRow (x := x) o hn ho hr hk ho2 hg2 hat
  rwa [hrl] at h
def detEnds : List Int := [10000, 10001, -10000]

set_option maxRecDepth 100000 in
set_option maxHeartbeats 3200000 in
theorem draw_det (a : Option Addr) (n c : Nat) (w : World) (hcode : CodeAt w w.heap.size a n) (hn : n ≤ 1048576) :
    Calls Tryz.prog 8 #[.slice a n c] w (GridOwnDrawn w) := by
  obtain ⟨j0, hj0, hy0, hy1, hy2⟩ := info_parts infoInt
  have HN := Lib.hid (l1New w.heap.size a n c w w hcode hn (Below.refl _ _) (Nat.le_refl _))
  have HBW := Lib.hid (fun m (hm : m ≤ 1000000000) g w' => l1Below m hm w.heap.size a n c g w w' hcode hn)
  have HON := Lib.hid (fun m (hm : m ≤ 1000000000) g w' => l1Once m hm w.heap.size a n c g w w' hcode hn)
  have HPI := Lib.hid (fun g b w' (hc : Cur w.heap.size a n c g w w') (hs : NumsAt w' b detEnds) (hbg : b ≠ g) => l1PickInt b 3 detEnds (by decide) (by decide) w.heap.size a n c g w w' hcode hn hc hs hbg)
  clear hcode
  go_enter Tryz.func8, Tryz.ntmps8
  go_wp2_with fail
  refine HN.out.mono ?_
  rintro e w1 ⟨g, rfl, hc1, _⟩
  have HB1 := Lib.hid (HBW.out 5 (by decide) g w1 hc1)
  have hBg := hc1.from
  clear hc1
  go_wp2_with fail
  refine HB1.out.mono ?_
  rintro e w2 ⟨x, x0, x1, rfl, hc2, _⟩
  obtain ⟨N, rfl⟩ : ∃ N : Nat, x = (N : Int) := ⟨x.toNat, by omega⟩
  have hN4 : N ≤ 4 := by omega
  have HZ := Lib.hid (spec_zero N N (by omega) (by omega) w2)
  have HC2 := Lib.hid hc2
  have hg2 := hc2.lt
  clear x0 x1 hc2
  go_wp2_with fail
  refine HZ.out.mono ?_
  rintro e w4 ⟨v4, rfl, ho4, hb4⟩
  have HC4 := Lib.hid (HC2.out.step hb4)
  have HO4 := Lib.hid (ho4.mono (show g + 1 ≤ w2.heap.size by omega))
  obtain ⟨A4, c4, rfl, -⟩ := ho4.gridS
  rw [tabOf_length] at *
  clear ho4 hb4
  go_wp2
  go_loopw [6] (fun iv wr => ∃ (i : Nat) (T : List (List Int)), i ≤ N ∧ iv = .int .i64 (i : Int) ∧ OwnG wr (g + 1) (.slice A4 N c4) T ∧ Hid (SqD N T) ∧ Hid (Cur w.heap.size a n c g w wr)) (fun iv _ => N - (intOf iv).toNat)
  case atStart => exact ⟨0, _, Nat.zero_le _, rfl, HO4.out, Lib.hid (SqD.zero N), HC4⟩
  case round =>
    obtain ⟨i, T, hi, rfl, hown, hsq, hcu⟩ := hrel
    by_cases hil : i < N
    · have HO := Lib.hid hown
      clear hown
      obtain ⟨W1, rfl⟩ : ∃ W1 : World, W1 = wr := ⟨_, rfl⟩
      go_wp2
      go_loopw [7] (fun jv wr => ∃ (j : Nat) (T : List (List Int)), j ≤ N ∧ jv = .int .i64 (j : Int) ∧ OwnG wr (g + 1) (.slice A4 N c4) T ∧ Hid (SqD N T) ∧ Hid (Cur w.heap.size a n c g w wr)) (fun jv _ => N - (intOf jv).toNat)
      case atStart => exact ⟨0, T, Nat.zero_le _, rfl, HO.out, hsq, hcu⟩
      case round =>
        obtain ⟨j, T, hj, rfl, hown, hsq, hcu⟩ := hrel
        by_cases hjl : j < N
        · have hTl := hsq.out.1
          obtain ⟨gm, cap, gi, ci, hv, gb, gib, gne, hat⟩ := hown.ats (i := i) (j := j) (by omega) (by rw [hsq.out.2 i hil]; exact hjl)
          rw [hTl] at hv
          simp only [Value.slice.injEq, true_and] at hv
          obtain ⟨rfl, rfl⟩ := hv
          have y0 := (hat wr (From.refl _ _)).1
          rw [hsq.out.2 i hil] at hat y0
          have HAT := Lib.hid hat
          have HSQ := Lib.hid (fun x => hsq.out.set i j x)
          clear hat hown hTl
          go_wp2
          go_region_held3 (fun w' => w'.cell? ⟨gm, i, none⟩ = some (.slice (some ⟨gi, 0, none⟩) N ci)) (first | exact y0 | exact cell_far_set gne y0 | go_keep) (first | (go_at_call 33; refine (HBW.out 9 (by decide) g _ (hcu.out.drewN 1)).mono ?_; rintro e w8 ⟨y, s0, s1, rfl, hc8, ho8⟩; have hfr8 : From (g + 1) wr w8 := (From.of_below (below_drewN (Below.refl wr.heap.size wr) 1)).trans (from_only ho8); obtain ⟨y0, y1, y2, y3, y4⟩ := HAT.out w8 hfr8; have HSET := Lib.hid y4; have HC8 := Lib.hid hc8; clear y4 hc8 ho8 hfr8))
          go_wp2
          go_roundw
          case rel => exact ⟨j + 1, _, by omega, by go_num, HSET.out _, Lib.hid (HSQ.out _), Lib.hid (HC8.out.setOther (by omega) (by omega) _ _)⟩
          case measure => simp [intOf]; omega
        · obtain rfl : j = N := by omega
          have HO3 := Lib.hid hown
          clear hown
          go_wp2
          go_roundw
          case rel => exact ⟨i + 1, T, by omega, by go_num, HO3.out, hsq, hcu⟩
          case measure => simp [intOf]; omega
    · obtain rfl : i = N := by omega
      have HO := Lib.hid hown
      clear hown
      rcases Nat.eq_zero_or_pos i with h0 | hpos
      · subst h0
        go_wp2
        go_ret
        exact ⟨_, T, rfl, HO.out.mono (by omega), hsq.out.drawn hN4, hcu.out.below⟩
      · have hgt : (0 : Int) < (i : Int) := by omega
        go_wp2_with fail
        refine (HON.out 12 (by decide) g wr hcu.out).mono ?_
        rintro e w5 ⟨b5, rfl, hc5, ho5⟩
        have HO5 := Lib.hid (OwnG.from HO.out (from_only ho5))
        have HC5 := Lib.hid hc5
        clear hc5 ho5
        cases b5 with
        | false =>
          go_wp2_with fail
          refine (HON.out 14 (by decide) g w5 HC5.out).mono ?_
          rintro e w7 ⟨b7, rfl, hc7, ho7⟩
          have HO7 := Lib.hid (OwnG.from HO5.out (from_only ho7))
          have HC7 := Lib.hid hc7
          have HSQ7 : Hid (SqD i T) := Lib.hid hsq.out
          clear hc7 ho7
          generalize T = T7 at *
          cases b7 with
          | false =>
            go_wp2
            go_ret
            exact ⟨_, T7, rfl, HO7.out.mono (by omega), HSQ7.out.drawn hN4, HC7.out.below⟩
          | true =>
            obtain ⟨vs, hO, hR⟩ := HO7.out
            have hTl := HSQ7.out.1
            rw [hTl] at hO
            obtain ⟨gm, cap, hv, _, _⟩ := hO.form hpos
            simp only [Value.slice.injEq, true_and] at hv
            obtain ⟨rfl, rfl⟩ := hv
            have hvl := hR.len
            have hk0 : vs[0]? = some vs[0] := List.getElem?_eq_getElem (by omega)
            have hrow := (hR.row 0 _ hk0).1
            rw [HSQ7.out.2 0 hpos] at hrow
            obtain ⟨gr, cr, hrv, hgr, _⟩ := hrow.form hpos
            have k1 := (hO.cellAt 0 (by omega)).trans hk0
            have hgs := hO.lt gm rfl
            have HK := Lib.hid hk0
            rw [hrv] at k1 hrow HK
            have HROW := Lib.hid hrow
            have HOO := Lib.hid hO
            have HRR := Lib.hid hR
            have HL7 := Lib.hid hTl
            have HL8 := Lib.hid (HSQ7.out.2 0 hpos)
            clear hO hR hrow hTl hk0 hrv
            go_wp2_with (at_builtin; refine wpList_append_lies _ rfl (.tmp 56) (.tmp 57) 26 rfl (g + 1) 3 j0 (.int .i64 0) 1 8 Tryz.underlying26 hj0 hy0 hy1 hy2 rfl (by decide) _ _ _ rfl (HROW.out.alloc _) ⟨w7.heap.size, 0, none⟩ 1 1 [.int .i64 1] rfl rfl (World.news_of_block (cs := #[.int .i64 1]) (t := 3) (fr := (0, 0)) (heap_alloc_new w7 _)) (by simp [Value.oneCell']) (by decide) (by unfold maxLen; omega) (by omega) (by simp; omega) (w7.heap.size + 1) (by simp) ?_; intro gg cc w8 ho8 hg8 hat8 hlt8; have HLR := Lib.hid (long_row HL7.out HL8.out hpos _ HOO.out HRR.out HK.out ho8 hg8 hat8); have kc := HLR.out.2.1; have kf := HLR.out.2.2; have HC8 := Lib.hid ((HC7.out.alloc _).grown hg8 (fun q hq => (HROW.out.lt q hq).1)); clear ho8 hg8 hat8)
            go_ret
            exact ⟨_, _, rfl, OwnG.mono HLR.out.1 (by omega), HSQ7.out.long hN4 1, (HC8.out.setOther (by omega) (by omega) _ _).below⟩
        | true =>
          have hTl := hsq.out.1
          obtain ⟨gm, cap, gi, ci, hv, gb, gib, gne, hat⟩ := HO5.out.ats (i := 0) (j := 0) (by omega) (by rw [hsq.out.2 0 hpos]; exact hpos)
          rw [hTl] at hv
          simp only [Value.slice.injEq, true_and] at hv
          obtain ⟨rfl, rfl⟩ := hv
          have y0 := (hat w5 (From.refl _ _)).1
          rw [hsq.out.2 0 hpos] at hat y0
          have hg5 := HC5.out.lt
          have HAT := Lib.hid hat
          have HSQ6 := Lib.hid (fun x => hsq.out.set 0 0 x)
          clear hat hTl
          go_wp2
          go_region_held3 (fun w' => w'.cell? ⟨gm, 0, none⟩ = some (.slice (some ⟨gi, 0, none⟩) i ci)) (first | exact y0 | exact cell_far_set gne y0 | go_keep) (first | (go_at_call 36; refine (HPI.out g w5.heap.size _ ((HC5.out.alloc _).drewN 1) (intsAt_new w5 detEnds 3) (by omega)).mono ?_; rintro e w6 ⟨kk, hkk, rfl, hc6, ho6⟩; generalize detEnds.getD kk 0 = ye; have hfr : From (g + 1) w5 w6 := (From.of_below (below_drewN ((Below.refl w5.heap.size w5).alloc (Nat.le_refl _) _) 1)).trans (from_only ho6); obtain ⟨y0, y1, y2, y3, y4⟩ := HAT.out w6 hfr; have HSET := Lib.hid y4; have HC6 := Lib.hid hc6; clear y4 hc6 ho6 hfr)
          )
          have HO6 := Lib.hid (HSET.out ye)
          have HS6 := Lib.hid (HSQ6.out ye)
          have HC9 := Lib.hid (HC6.out.setOther (b := gi) (by omega) (by omega) 0 (.int .i64 ye))
          go_wp2_with fail
          refine (HON.out 14 (by decide) g (w6.setCell ⟨gi, 0, none⟩ (.int .i64 ye)) HC9.out).mono ?_
          rintro e w7 ⟨b7, rfl, hc7, ho7⟩
          have HO7 := Lib.hid (OwnG.from HO6.out (from_only ho7))
          have HC7 := Lib.hid hc7
          have HSQ7 : Hid (SqD i (T.set 0 ((T.getD 0 []).set 0 ye))) := Lib.hid HS6.out
          clear hc7 ho7
          generalize (T.set 0 ((T.getD 0 []).set 0 ye)) = T7 at *
          cases b7 with
          | false =>
            go_wp2
            go_ret
            exact ⟨_, T7, rfl, HO7.out.mono (by omega), HSQ7.out.drawn hN4, HC7.out.below⟩
          | true =>
            obtain ⟨vs, hO, hR⟩ := HO7.out
            have hTl := HSQ7.out.1
            rw [hTl] at hO
            obtain ⟨gm, cap, hv, _, _⟩ := hO.form hpos
            simp only [Value.slice.injEq, Option.some.injEq, Addr.mk.injEq, and_true, true_and] at hv
            obtain ⟨rfl, rfl⟩ := hv
            have hvl := hR.len
            have hk0 : vs[0]? = some vs[0] := List.getElem?_eq_getElem (by omega)
            have hrow := (hR.row 0 _ hk0).1
            rw [HSQ7.out.2 0 hpos] at hrow
            obtain ⟨gr, cr, hrv, hgr, _⟩ := hrow.form hpos
            have k1 := (hO.cellAt 0 (by omega)).trans hk0
            have hgs := hO.lt gm rfl
            have HK := Lib.hid hk0
            rw [hrv] at k1 hrow HK
            have HROW := Lib.hid hrow
            have HOO := Lib.hid hO
            have HRR := Lib.hid hR
            have HL7 := Lib.hid hTl
            have HL8 := Lib.hid (HSQ7.out.2 0 hpos)
            clear hO hR hrow hTl hk0 hrv
            go_wp2_with (at_builtin; refine wpList_append_lies _ rfl (.tmp 56) (.tmp 57) 26 rfl (g + 1) 3 j0 (.int .i64 0) 1 8 Tryz.underlying26 hj0 hy0 hy1 hy2 rfl (by decide) _ _ _ rfl (HROW.out.alloc _) ⟨w7.heap.size, 0, none⟩ 1 1 [.int .i64 1] rfl rfl (World.news_of_block (cs := #[.int .i64 1]) (t := 3) (fr := (0, 0)) (heap_alloc_new w7 _)) (by simp [Value.oneCell']) (by decide) (by unfold maxLen; omega) (by omega) (by simp; omega) (w7.heap.size + 1) (by simp) ?_; intro gg cc w8 ho8 hg8 hat8 hlt8; have HLR := Lib.hid (long_row HL7.out HL8.out hpos _ HOO.out HRR.out HK.out ho8 hg8 hat8); have kc := HLR.out.2.1; have kf := HLR.out.2.2; have HC8 := Lib.hid ((HC7.out.alloc _).grown hg8 (fun q hq => (HROW.out.lt q hq).1)); clear ho8 hg8 hat8)
            go_ret
            exact ⟨_, _, rfl, OwnG.mono HLR.out.1 (by omega), HSQ7.out.long hN4 1, (HC8.out.setOther (by omega) (by omega) _ _).below⟩
end Go.Proofs.YtfbdmheaalmboaaGreatDoor
