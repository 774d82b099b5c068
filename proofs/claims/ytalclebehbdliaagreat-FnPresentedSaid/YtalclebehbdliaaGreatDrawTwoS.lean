/-
  The model's draw of two shifts: whatever the bytes, two short shifts in new memory; nothing that was there before is changed.
-/
import Derived.Test.YtalclebehbdliaaGreatDrawTexts
import Derived.Test.YtalclebehbdliaaGreatPresLeast
namespace Go.Proofs.YtalclebehbdliaaGreat
open Go Go.RowKit

section
variable {P : Program}
theorem results_two {fn : Func} {p q : Tmp} {ty : TypeId} (h : fn.results = #[.cell p ty, .cell q ty]) (tmps : Array Value) (w : World) (g g' : Nat) (t : TypeId) (cs ds : Array Value) (fr fr' : Nat × Nat) (d : TypeDesc)
    (hp : tmps.getD p undef = .pointer (some ⟨g, 0, none⟩)) (hp' : tmps.getD q undef = .pointer (some ⟨g', 0, none⟩)) (hg : w.heap[g]? = some (.cells cs t fr)) (hg' : w.heap[g']? = some (.cells ds t fr'))
    (hu : P.underlying ty = some d) (hd : (match d with | .struct _ | .array _ _ => true | _ => false) = true) (hi : (P.info? ty).map (·.size) = some cs.size) (hi' : (P.info? ty).map (·.size) = some ds.size) :
    (results fn tmps).run P w = .ok (.tuple #[.agg cs, .agg ds]) w := by
  have hp2 : tmps[p]?.getD undef = .pointer (some ⟨g, 0, none⟩) := by simpa using hp
  have hp3 : tmps[q]?.getD undef = .pointer (some ⟨g', 0, none⟩) := by simpa using hp'
  simp [results, h, hp2, hp3, asAddr, run_loadVar_row w g t ty cs fr d hg hu hd hi, run_loadVar_row w g' t ty ds fr' d hg' hu hd hi']
end
theorem forb_small {L : Int} {ps : List ByteArray} {L' : Int} {qs : List ByteArray} (h : forbS L ps = some (L', qs)) : SmallM qs := by
  unfold forbS at h
  split at h
  · next hc =>
    rw [Option.some.injEq, Prod.mk.injEq] at h
    obtain ⟨rfl, rfl⟩ := h
    simp only [Bool.and_eq_true, decide_eq_true_eq] at hc
    obtain ⟨⟨h1, -⟩, h8⟩ := hc
    obtain ⟨hL1, hL3, -⟩ := isShift_letters h1
    exact ⟨by omega, fun x hx => by have := ((leastW_out (k := L.toNat) (by omega) ps x).1 hx).1; omega⟩
  · cases h
theorem below_cells {b : Nat} {W U : World} {p : Addr} (h : Below b W U) (hp : p.block < b) : U.cell? p = W.cell? p := World.cell?_of_block (h.block p.block hp)
theorem four_stores {V : World} {r s : Nat} {x0 x1 y0 y1 a0 a1 b0 b1 : Value} {t : TypeId} (hr : V.heap[r]? = some (.cells #[x0, x1] t (0, 0))) (hs : V.heap[s]? = some (.cells #[y0, y1] t (0, 0))) (hne : r ≠ s) :
    ((((V.setCell ⟨r, 0, none⟩ a0).setCell ⟨r, 1, none⟩ a1).setCell ⟨s, 0, none⟩ b0).setCell ⟨s, 1, none⟩ b1).heap[r]? = some (.cells #[a0, a1] t (0, 0)) ∧
    ((((V.setCell ⟨r, 0, none⟩ a0).setCell ⟨r, 1, none⟩ a1).setCell ⟨s, 0, none⟩ b0).setCell ⟨s, 1, none⟩ b1).heap[s]? = some (.cells #[b0, b1] t (0, 0)) := by
  have h1 : ((V.setCell ⟨r, 0, none⟩ a0).setCell ⟨r, 1, none⟩ a1).heap[s]? = some (.cells #[y0, y1] t (0, 0)) := by
    rw [Below.heap_setCell _ ⟨r, 1, none⟩ _ s (by show s ≠ r; omega), Below.heap_setCell _ ⟨r, 0, none⟩ _ s (by show s ≠ r; omega)]; exact hs
  refine ⟨?_, sh_stores h1⟩
  rw [Below.heap_setCell _ ⟨s, 1, none⟩ _ r (by show r ≠ s; omega), Below.heap_setCell _ ⟨s, 0, none⟩ _ r (by show r ≠ s; omega)]
  exact sh_stores hr
def TwoDrawn (w : World) (e : Ending) (w' : World) : Prop := ∃ L G c ps L' G' c' qs, e = .returned (.tuple #[.agg #[.int .i64 L, .slice G ps.length c], .agg #[.int .i64 L', .slice G' qs.length c']]) ∧ w'.ownsRow w.heap.size 9 1 (.slice G ps.length c) ps.length (ps.map Value.string) ∧ w'.ownsRow w.heap.size 9 1 (.slice G' qs.length c') qs.length (qs.map Value.string) ∧ SmallM ps ∧ SmallM qs ∧ Below w.heap.size w w'
theorem two_end {w V : World} {r s B : Nat} {x0 x1 y0 y1 : Value} {L L' : Int} {G G' : Option Addr} {c c' : Nat} {ps qs : List ByteArray} (hr : w.heap.size ≤ r) (hs : w.heap.size ≤ s) (hrB : r < B) (hsB : s < B)
    (ho : V.ownsRow B 9 1 (.slice G ps.length c) ps.length (ps.map Value.string)) (ho' : V.ownsRow B 9 1 (.slice G' qs.length c') qs.length (qs.map Value.string)) (hm : SmallM ps) (hm' : SmallM qs) (hb : Below w.heap.size w V) :
    TwoDrawn w (.returned (.tuple #[.agg #[.int .i64 L, .slice G ps.length c], .agg #[.int .i64 L', .slice G' qs.length c']])) ((((V.setCell ⟨r, 0, none⟩ x0).setCell ⟨r, 1, none⟩ x1).setCell ⟨s, 0, none⟩ y0).setCell ⟨s, 1, none⟩ y1) :=
  ⟨L, G, c, ps, L', G', c', qs, rfl, World.ownsRow.mono (owns_stores (owns_stores ho hrB) hsB) (by omega), World.ownsRow.mono (owns_stores (owns_stores ho' hrB) hsB) (by omega), hm, hm', below_stores (below_stores hb hr _ _) hs _ _⟩

theorem two_drew {w V : World} {e : Ending} (h : TwoDrawn w e V) : TwoDrawn w e V.drew := by
  obtain ⟨L, G, c, ps, L', G', c', qs, he, h1, h2, h3, h4, h5⟩ := h
  exact ⟨L, G, c, ps, L', G', c', qs, he, h1.drew, h2.drew, h3, h4, h5.drew⟩

set_option maxRecDepth 100000 in
set_option maxHeartbeats 3200000 in
theorem draw_two (a : Option Addr) (n c : Nat) (w : World) (hcode : CodeAt w w.heap.size a n) (hn : n ≤ 1048576) :
    Calls Tryz.prog 55 #[.slice a n c] w (TwoDrawn w) := by
  have hb0 := (Below.refl w.heap.size w).alloc (Nat.le_refl _) (.cells #[.int .i64 0, .slice none 0 0] 26)
  have hbw := hb0.alloc (by rw [World.size_alloc]; omega) (.cells #[.int .i64 0, .slice none 0 0] 26)
  have hgr := (heap_alloc_old (w.alloc (.cells #[.int .i64 0, .slice none 0 0] 26)) (.cells #[.int .i64 0, .slice none 0 0] 26) (show w.heap.size < (w.alloc (.cells #[.int .i64 0, .slice none 0 0] 26)).heap.size by rw [World.size_alloc]; omega)).trans (heap_alloc_new w (.cells #[.int .i64 0, .slice none 0 0] 26))
  have hgr' := heap_alloc_new (w.alloc (.cells #[.int .i64 0, .slice none 0 0] 26)) (.cells #[.int .i64 0, .slice none 0 0] 26)
  rw [World.size_alloc] at hgr'
  have hc1 := codeAt_after hcode hbw
  obtain ⟨W, hW⟩ : ∃ W, (w.alloc (.cells #[.int .i64 0, .slice none 0 0] 26)).alloc (.cells #[.int .i64 0, .slice none 0 0] 26) = W := ⟨_, rfl⟩
  have hsW : W.heap.size = w.heap.size + 2 := by rw [← hW, World.size_alloc, World.size_alloc]
  rw [hW] at hbw hgr hgr' hc1
  have HN := Lib.hid (l1New W.heap.size a n c W W hc1 hn (Below.refl _ _) (Nat.le_refl _))
  have HB := Lib.hid (fun g w' => bent_shift W.heap.size a n c g W w' hc1 hn)
  have HO := Lib.hid (fun g w' => l1Once 2 (by decide) W.heap.size a n c g W w' hc1 hn)
  have HGR := Lib.hid (fun U (h : Below W.heap.size W U) => (h.block w.heap.size (by omega)).trans hgr)
  have HGR' := Lib.hid (fun U (h : Below W.heap.size W U) => (h.block (w.heap.size + 1) (by omega)).trans hgr')
  have HBW := Lib.hid (fun U (h : Below W.heap.size W U) => hbw.trans (h.mono (show w.heap.size ≤ W.heap.size by omega)))
  have hq0 : w.heap.size + 2 ≤ W.heap.size := by omega
  clear hcode hb0 hbw hgr hgr' hc1 hsW
  go_enter Tryz.func55, Tryz.ntmps55
  go_wp2_with fail
  try simp only [hW]
  refine HN.out.mono ?_
  rintro e w1 ⟨g, rfl, hc1, hgl⟩
  have hBg := cur_from hc1
  have HB1 := Lib.hid (HB.out g w1 hc1)
  clear HN hc1
  go_wp2_with fail
  refine HB1.out.mono ?_
  rintro e w2 ⟨L, A, cA, ps, rfl, ho2, hsm, hc2, hf2⟩
  have hO2 := HO.out g _ (hc2.alloc (.cells #[.int .i64 L, .slice A ps.length cA] 26))
  have HO1 := Lib.hid hO2
  have hq2 := hf2.size
  have HR2 := Lib.hid (ho2.alloc (.cells #[.int .i64 L, .slice A ps.length cA] 26))
  have HK2 := Lib.hid (heap_alloc_new w2 (.cells #[.int .i64 L, .slice A ps.length cA] 26))
  have HSM := Lib.hid hsm
  have hs2 : (w2.alloc (.cells #[.int .i64 L, .slice A ps.length cA] 26)).heap.size = w2.heap.size + 1 := World.size_alloc _ _
  clear ho2 hsm hc2 hf2 HB1 hO2
  go_wp2_with fail
  refine HO1.out.mono ?_
  rintro e w3 ⟨x, rfl, hc3, ho3⟩
  have hq3e := ho3.1
  rw [hs2] at hq3e
  have hq3 : w2.heap.size + 1 ≤ w3.heap.size := by omega
  have HC3 := Lib.hid hc3
  have HR3 := Lib.hid (owns_from HR2.out (only_from ho3) (by omega))
  have HK3 := Lib.hid ((ho3.2 w2.heap.size (by omega)).trans HK2.out)
  clear hs2 hq3e hc3 ho3 HR2 HK2 HO1
  cases x with
  | true =>
    have C4 := Lib.hid (spec_forbiddenOf L A cA ps HSM.out.sizes.1 HSM.out.sizes.2 w3 (strsG_of_owns HR3.out))
    obtain ⟨v0, v1, v2⟩ := sh_cells HK3.out
    go_wp2_with fail
    refine C4.out.mono ?_
    rintro e w4 ⟨v, rfl, ⟨G4, c4, rfl, ho4⟩, hb4⟩
    have HFS := Lib.hid (fun L' qs (h : forbS L ps = some (L', qs)) => forb_small h)
    have hq4 := hb4.size
    have HC4 := Lib.hid ((HC3.out.step hb4))
    have HR4 := Lib.hid (owns_below HR3.out hb4)
    have HK4 := Lib.hid ((hb4.block w2.heap.size (by omega)).trans HK3.out)
    have HQ4 := Lib.hid ho4
    clear ho4 hb4 C4 v0 v1 v2 HK3 HR3 HC3
    generalize forbS L ps = o at *
    cases o with
    | some p =>
      obtain ⟨L', qs⟩ := p
      have HSQ := Lib.hid (HFS.out L' qs rfl)
      simp only [Option.isSome, Option.getD] at HQ4 ⊢
      have hk5 := (heap_alloc_old w4 (.cells #[.int .i64 L', .slice G4 qs.length c4] 26) (show w2.heap.size < w4.heap.size by omega)).trans HK4.out
      have hk6 := heap_alloc_new w4 (.cells #[.int .i64 L', .slice G4 qs.length c4] 26)
      have hR5 := HR4.out.alloc (.cells #[.int .i64 L', .slice G4 qs.length c4] 26)
      have hQ5 := World.ownsRow.mono (base' := w1.heap.size) (HQ4.out.alloc (.cells #[.int .i64 L', .slice G4 qs.length c4] 26)) (by omega)
      have hc5 := HC4.out.alloc (.cells #[.int .i64 L', .slice G4 qs.length c4] 26)
      have hgr5 := HGR.out _ hc5.1
      have hgs5 := HGR'.out _ hc5.1
      have hbw5 := HBW.out _ hc5.1
      have s5 : (w4.alloc (.cells #[.int .i64 L', .slice G4 qs.length c4] 26)).heap.size = w4.heap.size + 1 := World.size_alloc _ _
      have HR5 := Lib.hid hR5
      have HQ5 := Lib.hid hQ5
      have HBW5 := Lib.hid hbw5
      have HK5 := Lib.hid hk5
      have HK6 := Lib.hid hk6
      have HG5 := Lib.hid hgr5
      have HS5 := Lib.hid hgs5
      clear hR5 hQ5 hc5 hbw5 s5 hk5 hk6 hgr5 hgs5 HQ4 HR4 HC4 HK4 HFS
      obtain ⟨y0, y1, y2⟩ := sh_cells HK5.out
      obtain ⟨z0, z1, z2⟩ := sh_cells HK6.out
      obtain ⟨d0, d1, d2⟩ := sh_cells HG5.out
      obtain ⟨e0, e1, e2⟩ := sh_cells HS5.out
      have HGE := HG5
      have HSE := HS5

      have n1 : w.heap.size ≠ w2.heap.size := by omega
      have n2 : w.heap.size ≠ w4.heap.size := by omega
      have n3 : w.heap.size + 1 ≠ w2.heap.size := by omega
      have n4 : w.heap.size + 1 ≠ w4.heap.size := by omega
      go_wp2
      go_region
      all_goals go_wp2
      refine bodyPost_ret (results_two rfl _ _ w.heap.size (w.heap.size + 1) 26 #[.int .i64 L, .slice A ps.length cA] #[.int .i64 L', .slice G4 qs.length c4] (0, 0) (0, 0) _ rfl rfl (four_stores HGE.out HSE.out (by omega)).1 (four_stores HGE.out HSE.out (by omega)).2 Tryz.underlying26 rfl (by kernel_rfl) (by kernel_rfl)) rfl ?_
      exact two_drew (two_end (B := w1.heap.size) (Nat.le_refl _) (by omega) (by omega) (by omega) HR5.out HQ5.out HSM.out HSQ.out HBW5.out)
    | none =>
      simp only [Option.isSome, Option.getD] at HQ4 ⊢
      have HC5 := Lib.hid (HC4.out.alloc (.cells #[.int .i64 0, .slice G4 0 c4] 26))
      have HB5 := Lib.hid (HB.out g _ HC5.out)
      have HR5 := Lib.hid (HR4.out.alloc (.cells #[.int .i64 0, .slice G4 0 c4] 26))
      have HK5 := Lib.hid ((heap_alloc_old w4 (.cells #[.int .i64 0, .slice G4 0 c4] 26) (show w2.heap.size < w4.heap.size by omega)).trans HK4.out)
      have hq5 : w4.heap.size ≤ (w4.alloc (.cells #[.int .i64 0, .slice G4 0 c4] 26)).heap.size := by rw [World.size_alloc]; omega
      clear HC4 HR4 HK4 HQ4 HFS
      go_wp2_with fail
      refine HB5.out.mono ?_
      rintro e w6 ⟨L', G6, c6, qs, rfl, ho6, hsq, hc6, hf6⟩
      have hq6 := hf6.size
      have hr6 := owns_from HR5.out hf6 (by omega)
      have HSQ := Lib.hid hsq
      have HLR : Hid (∀ q, (Value.slice A ps.length cA).ownBlock = some q → q < w6.heap.size) := Lib.hid fun q hq => (hr6.lt q hq).2
      have HLQ : Hid (∀ q, (Value.slice G6 qs.length c6).ownBlock = some q → q < w6.heap.size) := Lib.hid fun q hq => (ho6.lt q hq).2
      have HR6 := Lib.hid (hr6.alloc (.cells #[.int .i64 L', .slice G6 qs.length c6] 26))
      have HQ6 := Lib.hid (World.ownsRow.mono (base' := w1.heap.size) (ho6.alloc (.cells #[.int .i64 L', .slice G6 qs.length c6] 26)) (by omega))
      have HK6 := Lib.hid ((heap_alloc_old w6 (.cells #[.int .i64 L', .slice G6 qs.length c6] 26) (show w2.heap.size < w6.heap.size by omega)).trans ((hf6.block w2.heap.size (by omega) (by omega)).trans HK5.out))
      have HJ6 := Lib.hid (heap_alloc_new w6 (.cells #[.int .i64 L', .slice G6 qs.length c6] 26))
      have HO6 := Lib.hid (HO.out g _ (hc6.alloc (.cells #[.int .i64 L', .slice G6 qs.length c6] 26)))
      have s6 : (w6.alloc (.cells #[.int .i64 L', .slice G6 qs.length c6] 26)).heap.size = w6.heap.size + 1 := World.size_alloc _ _
      clear ho6 hsq hc6 hf6 hr6 HB5 HB HR5 HK5 HC5 HO
      go_wp2_with fail
      refine HO6.out.mono ?_
      rintro e w7 ⟨y, rfl, hc7, ho7⟩
      have hq7e := ho7.1
      rw [s6] at hq7e
      have hq7 : w6.heap.size + 1 ≤ w7.heap.size := by omega
      have HR7 := Lib.hid (owns_from HR6.out (only_from ho7) (by omega))
      have HQ7 := Lib.hid (owns_from HQ6.out (only_from ho7) (by omega))
      have HK7 := Lib.hid ((ho7.2 w2.heap.size (by omega)).trans HK6.out)
      have HJ7 := Lib.hid ((ho7.2 w6.heap.size (by omega)).trans HJ6.out)
      have HBW7 := Lib.hid (HBW.out _ hc7.1)
      have HG7 := Lib.hid (HGR.out _ hc7.1)
      have HS7 := Lib.hid (HGR'.out _ hc7.1)
      clear s6 hq7e hc7 ho7 HR6 HQ6 HK6 HJ6 HO6 HBW HGR HGR'
      obtain ⟨y0, y1, y2⟩ := sh_cells HK7.out
      obtain ⟨z0, z1, z2⟩ := sh_cells HJ7.out
      cases y with
      | true =>
        have hne : w6.heap.size ≠ w2.heap.size := by omega
        have hkv := (Below.heap_setCell w7 ⟨w6.heap.size, 0, none⟩ (.int .i64 L) w2.heap.size (by show w2.heap.size ≠ w6.heap.size; omega)).trans HK7.out
        have hjv := (heap_setCell_same w7 w6.heap.size 0 _ _ (.int .i64 L) HJ7.out).trans rfl
        have hgv := (Below.heap_setCell w7 ⟨w6.heap.size, 0, none⟩ (.int .i64 L) w.heap.size (by show w.heap.size ≠ w6.heap.size; omega)).trans HG7.out
        have hsv := (Below.heap_setCell w7 ⟨w6.heap.size, 0, none⟩ (.int .i64 L) (w.heap.size + 1) (by show w.heap.size + 1 ≠ w6.heap.size; omega)).trans HS7.out
        have HRV := Lib.hid (ownsRow_setCell_other HR7.out (a := ⟨w6.heap.size, 0, none⟩) (by intro h; have := HLR.out w6.heap.size h; omega) (.int .i64 L))
        have HQV := Lib.hid (ownsRow_setCell_other HQ7.out (a := ⟨w6.heap.size, 0, none⟩) (by intro h; have := HLQ.out w6.heap.size h; omega) (.int .i64 L))
        have HBV := Lib.hid (HBW7.out.setCell (p := ⟨w6.heap.size, 0, none⟩) (by show w.heap.size ≤ w6.heap.size; omega) (.int .i64 L))
        have HGE := Lib.hid hgv
        have HSE := Lib.hid hsv
        obtain ⟨p0, p1, p2⟩ := sh_cells hkv
        obtain ⟨q0, q1, q2⟩ := sh_cells hjv
        obtain ⟨d0, d1, d2⟩ := sh_cells hgv
        obtain ⟨e0, e1, e2⟩ := sh_cells hsv
        clear hkv hjv hgv hsv
        have n1 : w.heap.size ≠ w2.heap.size := by omega
        have n2 : w.heap.size ≠ w6.heap.size := by omega
        have n3 : w.heap.size + 1 ≠ w2.heap.size := by omega
        have n4 : w.heap.size + 1 ≠ w6.heap.size := by omega
        go_wp2
        go_region
        all_goals go_wp2
        refine bodyPost_ret (results_two rfl _ _ w.heap.size (w.heap.size + 1) 26 #[.int .i64 L, .slice A ps.length cA] #[.int .i64 L, .slice G6 qs.length c6] (0, 0) (0, 0) _ rfl rfl (four_stores HGE.out HSE.out (by omega)).1 (four_stores HGE.out HSE.out (by omega)).2 Tryz.underlying26 rfl (by kernel_rfl) (by kernel_rfl)) rfl ?_
        exact two_drew (two_end (B := w1.heap.size) (Nat.le_refl _) (by omega) (by omega) (by omega) HRV.out HQV.out HSM.out HSQ.out HBV.out)
      | false =>
        obtain ⟨d0, d1, d2⟩ := sh_cells HG7.out
        obtain ⟨e0, e1, e2⟩ := sh_cells HS7.out
        have HGE := HG7
        have HSE := HS7
        have n1 : w.heap.size ≠ w2.heap.size := by omega
        have n2 : w.heap.size ≠ w6.heap.size := by omega
        have n3 : w.heap.size + 1 ≠ w2.heap.size := by omega
        have n4 : w.heap.size + 1 ≠ w6.heap.size := by omega
        go_wp2
        go_region
        all_goals go_wp2
        refine bodyPost_ret (results_two rfl _ _ w.heap.size (w.heap.size + 1) 26 #[.int .i64 L, .slice A ps.length cA] #[.int .i64 L', .slice G6 qs.length c6] (0, 0) (0, 0) _ rfl rfl (four_stores HGE.out HSE.out (by omega)).1 (four_stores HGE.out HSE.out (by omega)).2 Tryz.underlying26 rfl (by kernel_rfl) (by kernel_rfl)) rfl ?_
        exact two_drew (two_end (B := w1.heap.size) (Nat.le_refl _) (by omega) (by omega) (by omega) HR7.out HQ7.out HSM.out HSQ.out HBW7.out)
  | false =>
    have HC5 := HC3
    have HB5 := Lib.hid (HB.out g _ HC5.out)
    have HR5 := HR3
    have HK5 := HK3
    have w4 := w3
    clear HC3 HR3 HK3
    go_wp2_with fail
    refine HB5.out.mono ?_
    rintro e w6 ⟨L', G6, c6, qs, rfl, ho6, hsq, hc6, hf6⟩
    have hq6 := hf6.size
    have hr6 := owns_from HR5.out hf6 (by omega)
    have HSQ := Lib.hid hsq
    have HLR : Hid (∀ q, (Value.slice A ps.length cA).ownBlock = some q → q < w6.heap.size) := Lib.hid fun q hq => (hr6.lt q hq).2
    have HLQ : Hid (∀ q, (Value.slice G6 qs.length c6).ownBlock = some q → q < w6.heap.size) := Lib.hid fun q hq => (ho6.lt q hq).2
    have HR6 := Lib.hid (hr6.alloc (.cells #[.int .i64 L', .slice G6 qs.length c6] 26))
    have HQ6 := Lib.hid (World.ownsRow.mono (base' := w1.heap.size) (ho6.alloc (.cells #[.int .i64 L', .slice G6 qs.length c6] 26)) (by omega))
    have HK6 := Lib.hid ((heap_alloc_old w6 (.cells #[.int .i64 L', .slice G6 qs.length c6] 26) (show w2.heap.size < w6.heap.size by omega)).trans ((hf6.block w2.heap.size (by omega) (by omega)).trans HK5.out))
    have HJ6 := Lib.hid (heap_alloc_new w6 (.cells #[.int .i64 L', .slice G6 qs.length c6] 26))
    have HO6 := Lib.hid (HO.out g _ (hc6.alloc (.cells #[.int .i64 L', .slice G6 qs.length c6] 26)))
    have s6 : (w6.alloc (.cells #[.int .i64 L', .slice G6 qs.length c6] 26)).heap.size = w6.heap.size + 1 := World.size_alloc _ _
    clear ho6 hsq hc6 hf6 hr6 HB5 HB HR5 HK5 HC5 HO
    go_wp2_with fail
    refine HO6.out.mono ?_
    rintro e w7 ⟨y, rfl, hc7, ho7⟩
    have hq7e := ho7.1
    rw [s6] at hq7e
    have hq7 : w6.heap.size + 1 ≤ w7.heap.size := by omega
    have HR7 := Lib.hid (owns_from HR6.out (only_from ho7) (by omega))
    have HQ7 := Lib.hid (owns_from HQ6.out (only_from ho7) (by omega))
    have HK7 := Lib.hid ((ho7.2 w2.heap.size (by omega)).trans HK6.out)
    have HJ7 := Lib.hid ((ho7.2 w6.heap.size (by omega)).trans HJ6.out)
    have HBW7 := Lib.hid (HBW.out _ hc7.1)
    have HG7 := Lib.hid (HGR.out _ hc7.1)
    have HS7 := Lib.hid (HGR'.out _ hc7.1)
    clear s6 hq7e hc7 ho7 HR6 HQ6 HK6 HJ6 HO6 HBW HGR HGR'
    obtain ⟨y0, y1, y2⟩ := sh_cells HK7.out
    obtain ⟨z0, z1, z2⟩ := sh_cells HJ7.out
    cases y with
    | true =>
      have hne : w6.heap.size ≠ w2.heap.size := by omega
      have hkv := (Below.heap_setCell w7 ⟨w6.heap.size, 0, none⟩ (.int .i64 L) w2.heap.size (by show w2.heap.size ≠ w6.heap.size; omega)).trans HK7.out
      have hjv := (heap_setCell_same w7 w6.heap.size 0 _ _ (.int .i64 L) HJ7.out).trans rfl
      have hgv := (Below.heap_setCell w7 ⟨w6.heap.size, 0, none⟩ (.int .i64 L) w.heap.size (by show w.heap.size ≠ w6.heap.size; omega)).trans HG7.out
      have hsv := (Below.heap_setCell w7 ⟨w6.heap.size, 0, none⟩ (.int .i64 L) (w.heap.size + 1) (by show w.heap.size + 1 ≠ w6.heap.size; omega)).trans HS7.out
      have HRV := Lib.hid (ownsRow_setCell_other HR7.out (a := ⟨w6.heap.size, 0, none⟩) (by intro h; have := HLR.out w6.heap.size h; omega) (.int .i64 L))
      have HQV := Lib.hid (ownsRow_setCell_other HQ7.out (a := ⟨w6.heap.size, 0, none⟩) (by intro h; have := HLQ.out w6.heap.size h; omega) (.int .i64 L))
      have HBV := Lib.hid (HBW7.out.setCell (p := ⟨w6.heap.size, 0, none⟩) (by show w.heap.size ≤ w6.heap.size; omega) (.int .i64 L))
      have HGE := Lib.hid hgv
      have HSE := Lib.hid hsv
      obtain ⟨p0, p1, p2⟩ := sh_cells hkv
      obtain ⟨q0, q1, q2⟩ := sh_cells hjv
      obtain ⟨d0, d1, d2⟩ := sh_cells hgv
      obtain ⟨e0, e1, e2⟩ := sh_cells hsv
      clear hkv hjv hgv hsv
      have n1 : w.heap.size ≠ w2.heap.size := by omega
      have n2 : w.heap.size ≠ w6.heap.size := by omega
      have n3 : w.heap.size + 1 ≠ w2.heap.size := by omega
      have n4 : w.heap.size + 1 ≠ w6.heap.size := by omega
      go_wp2
      go_region
      all_goals go_wp2
      refine bodyPost_ret (results_two rfl _ _ w.heap.size (w.heap.size + 1) 26 #[.int .i64 L, .slice A ps.length cA] #[.int .i64 L, .slice G6 qs.length c6] (0, 0) (0, 0) _ rfl rfl (four_stores HGE.out HSE.out (by omega)).1 (four_stores HGE.out HSE.out (by omega)).2 Tryz.underlying26 rfl (by kernel_rfl) (by kernel_rfl)) rfl ?_
      exact two_drew (two_end (B := w1.heap.size) (Nat.le_refl _) (by omega) (by omega) (by omega) HRV.out HQV.out HSM.out HSQ.out HBV.out)
    | false =>
      obtain ⟨d0, d1, d2⟩ := sh_cells HG7.out
      obtain ⟨e0, e1, e2⟩ := sh_cells HS7.out
      have HGE := HG7
      have HSE := HS7
      have n1 : w.heap.size ≠ w2.heap.size := by omega
      have n2 : w.heap.size ≠ w6.heap.size := by omega
      have n3 : w.heap.size + 1 ≠ w2.heap.size := by omega
      have n4 : w.heap.size + 1 ≠ w6.heap.size := by omega
      go_wp2
      go_region
      all_goals go_wp2
      refine bodyPost_ret (results_two rfl _ _ w.heap.size (w.heap.size + 1) 26 #[.int .i64 L, .slice A ps.length cA] #[.int .i64 L', .slice G6 qs.length c6] (0, 0) (0, 0) _ rfl rfl (four_stores HGE.out HSE.out (by omega)).1 (four_stores HGE.out HSE.out (by omega)).2 Tryz.underlying26 rfl (by kernel_rfl) (by kernel_rfl)) rfl ?_
      exact two_drew (two_end (B := w1.heap.size) (Nat.le_refl _) (by omega) (by omega) (by omega) HR7.out HQ7.out HSM.out HSQ.out HBW7.out)
end Go.Proofs.YtalclebehbdliaaGreat
