/-
  The model's CountWords: at every shift in memory and every int what the plain words say; nothing that was there before is changed.
-/
import Derived.Test.YtalclebehbdliaaGreatFactTexts
import Derived.Test.YtalclebehbdliaaGreatGraphTrim
namespace Go.Proofs.YtalclebehbdliaaGreat
open Go Go.RowKit

theorem gridS_one {w : World} {A : Option Addr} {c : Nat} {xs : List Int} (h : RowS w A xs) (t : TypeId) : GridS (w.alloc (.cells #[.slice A xs.length c] t)) (some ⟨w.heap.size, 0, none⟩) [xs] := fun _ => by
  refine ⟨w.heap.size, 0, rfl, fun k hk => ?_, by rw [World.size_alloc]; omega⟩
  obtain rfl : k = 0 := by simpa using hk
  refine ⟨A, c, ?_, h.below ((Below.refl _ _).alloc (Nat.le_refl _) _)⟩
  rw [Nat.zero_add, World.cell?_alloc_mark]
  rfl
theorem ones_next (k : Nat) : (List.replicate k (1 : Int)) ++ [1] = List.replicate (k + 1) 1 := by rw [List.replicate_succ']
theorem count_one {k : Nat} (hk : k ≤ 3) (ps : List ByteArray) {t j : Nat} (ht : t ≤ 20) : 0 ≤ (rowW k ps t).getD j 0 ∧ (rowW k ps t).getD j 0 ≤ 3486784401 := by
  by_cases hj : j < (statesW k ps).length
  · rw [rowW_at hj]
    have h1 := cntW_le hk ps t j
    have h2 := three_pow ht
    omega
  · rw [List.getD_eq_getElem?_getD, List.getElem?_eq_none (by rw [rowW_len]; omega)]
    simp

set_option maxRecDepth 100000 in
set_option maxHeartbeats 6400000 in
theorem spec_countWords (L n : Int) (G : Option Addr) (c : Nat) (ps : List ByteArray) (hl : ps.length ≤ 1048576) (hz : ∀ k, k < ps.length → (ps.getD k ByteArray.empty).size ≤ 2147483648) (w : World) (hs : StrsG w G ps) :
    Calls Tryz.prog 15 #[.agg #[.int .i64 L, .slice G ps.length c], .int .i64 n] w (Scalar (.int .i64 (countS L n ps)) w) := by
  obtain ⟨j0, hj0, hy0, hy1, hy2⟩ := info_parts infoInt
  have HI := Lib.hid (fun w' (h : Below w.heap.size w w') => spec_isShift L G c ps hl (fun k hk => by have := hz k hk; omega) w' (hs.below h))
  have HG := Lib.hid (fun w' (h : Below w.heap.size w w') => spec_graphOf L G c ps hl hz w' (hs.below h))
  have HLG := Lib.hid (fun w' (h : Below w.heap.size w w') => spec_languageOf L n G c ps hl hz w' (hs.below h))
  have HN := Lib.hid (fun w' => spec_in n 0 20 w')
  clear hs hz
  go_enter Tryz.func15, Tryz.ntmps15
  go_wp2_with fail
  obtain ⟨Wb, hWb⟩ : ∃ Wb, w.alloc (.cells #[.int .i64 L, .slice G ps.length c] 26) = Wb := ⟨_, rfl⟩
  have sb : Wb.heap.size = w.heap.size + 1 := by rw [← hWb]; simp
  have xb : BoxAt Wb w.heap.size L (.slice G ps.length c) := by rw [← hWb]; exact boxAt_new w L _ 26
  have bb : Below w.heap.size w Wb := by rw [← hWb]; exact (Below.refl _ _).alloc (Nat.le_refl _) _
  rw [hWb]
  clear hWb
  have XB := Lib.hid xb
  have BB := Lib.hid bb
  clear xb bb
  refine (HI.out Wb BB.out).mono ?_
  rintro e w1 ⟨rfl, h1⟩
  have B1 := Lib.hid h1
  have C1 := Lib.hid (BB.out.trans (h1.mono (by omega)))
  have s1 := h1.size
  obtain ⟨x0, x1⟩ := XB.out.below h1 (by omega)
  clear h1
  cases hsft : isShift L ps with
  | false =>
    have HR : Hid (countS L n ps = -1) := Lib.hid (by unfold countS; rw [if_neg (by rw [hsft]; simp)])
    clear hsft
    go_wp2
    go_ret
    exact ⟨by rw [HR.out]; rfl, C1.out⟩
  | true =>
    cases hnn : (decide (0 ≤ n) && decide (n ≤ 20)) with
    | false =>
      have HR : Hid (countS L n ps = -1) := Lib.hid (by
        unfold countS
        rw [if_neg]
        rintro ⟨_, h1, h2⟩
        rw [decide_eq_true h1, decide_eq_true h2] at hnn; cases hnn)
      rw [hnn] at HN
      clear hsft hnn
      go_wp2_with fail
      refine (HN.out _).mono ?_
      rintro e w2 ⟨rfl, rfl⟩
      go_wp2
      go_ret
      exact ⟨by rw [HR.out]; rfl, C1.out⟩
    | true =>
      have hn2 : 0 ≤ n ∧ n ≤ 20 := by simpa [Bool.and_eq_true, decide_eq_true_eq] using hnn
      obtain ⟨k1, k3, kL, hps⟩ := shift_sizes hsft
      have HR : Hid (countS L n ps = ((langW L.toNat ps n.toNat).length : Int)) := Lib.hid (by unfold countS; rw [if_pos ⟨hsft, hn2⟩])
      rw [hnn] at HN
      have C2 := Lib.hid (HG.out w1 C1.out)
      rw [graphS_is hsft] at C2
      have HSI := Lib.hid hsft
      have HPS := Lib.hid hps
      clear hnn hps
      by_cases h0 : (statesW L.toNat ps).length = 0
      · rw [if_pos h0] at C2
        have HR0 : Hid (countS L n ps = 0) := Lib.hid (by rw [HR.out, no_words k3 h0]; rfl)
        clear hsft h0
        go_wp2_with fail
        refine (HN.out _).mono ?_
        rintro e w2 ⟨rfl, hw⟩
        obtain rfl : w1 = w2 := hw.symm
        clear hw
        go_wp2_with fail
        refine C2.out.mono ?_
        rintro e w2 ⟨v, rfl, ho, b2⟩
        have B2 := Lib.hid (C1.out.trans (b2.mono C1.out.size))
        clear ho b2
        go_wp2
        go_ret
        exact ⟨by rw [HR0.out]; rfl, B2.out⟩
      · rw [if_neg h0] at C2
        have hpos : 0 < (statesW L.toNat ps).length := by omega
        have h9 := states_le k3 ps
        have HM := Lib.hid (isMat_facts (graph_isMat k3 hpos))
        have HLEN := Lib.hid (graph_length L.toNat ps)
        have HROW1 := Lib.hid (row_first k3 ps)
        have HNEXT := Lib.hid (fun t (ht : 2 ≤ t) => row_next k3 HPS.out (t := t) ht)
        have HWIDE := Lib.hid (fun t (ht : t ≤ 20) => row_wide k3 ps (t := t) ht)
        have HRL := Lib.hid (fun t => rowW_len L.toNat ps t)
        have HC1 := Lib.hid (fun t j (ht : t ≤ 20) => count_one k3 ps (t := t) (j := j) ht)
        have HSM := Lib.hid (fun t (ht : 2 ≤ t) => row_sum k3 ps (n := t) ht)
        have HLW : Hid (n < 2 → (langOfS L ps n).length = (langW L.toNat ps n.toNat).length) := Lib.hid fun h => by rw [langOfS_is hsft hn2.1 (by omega)]
        generalize countS L n ps = R at *
        clear hsft h0
        go_wp2_with fail
        refine (HN.out _).mono ?_
        rintro e w2 ⟨rfl, hw⟩
        obtain rfl : w1 = w2 := hw.symm
        clear hw
        go_wp2_with fail
        refine C2.out.mono ?_
        rintro e w2 ⟨v, rfl, ho, b2⟩
        have s2 := b2.size
        have B2 := Lib.hid (C1.out.trans (b2.mono C1.out.size))
        have BX2 := Lib.hid (B1.out.trans (b2.mono s1))
        obtain ⟨A2, c2, rfl, hg2⟩ := OwnG.gridS ho
        have G2 := Lib.hid hg2
        clear ho b2 hg2 x0 x1 C2
        dsimp only [Option.getD, Option.isSome] at G2 ⊢
        rw [HLEN.out]
        obtain ⟨x0, x1⟩ := XB.out.below BX2.out (by omega)
        by_cases hlt : n < 2
        · have C3 := Lib.hid (HLG.out w2 B2.out)
          have HE := Lib.hid (HLW.out hlt)
          go_wp2_with fail
          refine C3.out.mono ?_
          rintro e w3 ⟨v3, rfl, ho3, b3⟩
          obtain ⟨A3, c3, rfl⟩ : ∃ A c, v3 = .slice A (langOfS L ps n).length c := by
            rcases ho3.2 with ⟨rfl, h0⟩ | ⟨b, cc, cur, rfl, _⟩
            · exact ⟨none, 0, by rw [h0]⟩
            · exact ⟨_, cc, rfl⟩
          have B3 := Lib.hid (B2.out.trans (b3.mono B2.out.size))
          clear ho3 b3
          rw [HE.out]
          go_wp2
          go_ret
          exact ⟨by rw [HR.out]; rfl, B3.out⟩
        · have hn1 : 2 ≤ n.toNat := by omega
          have hn20 : n.toNat ≤ 20 := by omega
          have hnN : ((n.toNat : Nat) : Int) = n := by omega
          have HSN := Lib.hid (HSM.out n.toNat hn1)
          generalize n.toNat = N at *
          obtain rfl : n = (N : Int) := hnN.symm
          clear hnN HLW HLG HG HI HN
          obtain ⟨S, hS⟩ : ∃ S, (statesW L.toNat ps).length = S := ⟨_, rfl⟩
          rw [hS] at HROW1 HWIDE HRL HSN hpos h9 HLEN ⊢
          obtain ⟨m, hm⟩ : ∃ m, graphW L.toNat ps = m := ⟨_, rfl⟩
          rw [hm] at HM HLEN HNEXT G2
          have h2n : ¬ (N : Int) < 2 := by omega
          clear x0 x1 hS hm
          have HI0 := Lib.hid (World.ownsRow_made (base := w2.heap.size) (e := 3) (size := 1) w2 #[] 0 (Nat.le_refl _) (by unfold maxLen; omega) rfl)
          go_wp2
          go_loopw [7, 8] (fun u iv wr => ∃ k : Nat, k ≤ S ∧ iv = .int .i64 (k : Int) ∧ wr.ownsRow w2.heap.size 3 1 u k ((List.replicate k (1 : Int)).map (Value.int .i64)) ∧ Hid (Below w2.heap.size w2 wr)) (fun _ iv _ => S - (intOf iv).toNat)
          case atStart => exact ⟨0, Nat.zero_le _, rfl, HI0.out, Lib.hid ((Below.refl _ _).alloc (Nat.le_refl _) _)⟩
          case round =>
            obtain ⟨k, hk, rfl, hU, hb4⟩ := hrel
            by_cases hkS : k < S
            · have HU := Lib.hid hU
              have hs4 := hb4.out.size
              have hk2 : (k : Int) < (S : Int) := by omega
              clear hU
              go_wp2_with (at_builtin; refine wpList_append_lies _ rfl (.tmp 40) (.tmp 41) 56 rfl w2.heap.size 3 j0 (.int .i64 0) 1 8 Tryz.underlying56 hj0 hy0 hy1 hy2 rfl (by decide) _ _ _ rfl (HU.out.alloc _) ⟨wr.heap.size, 0, none⟩ 1 1 [.int .i64 1] rfl rfl (World.news_of_block (cs := #[.int .i64 1]) (t := 3) (fr := (0, 0)) (heap_alloc_new wr _)) (by simp [Value.oneCell']) (by decide) (by unfold maxLen; omega) (by omega) (by simp; omega) (wr.heap.size + 1) (by simp) ?_; intro gg cap w6 ho6 hg6 hat6 hlt6; have HM6 := Lib.hid (show w6.ownsRow w2.heap.size 3 1 (.slice (some ⟨gg, 0, none⟩) (k + 1) cap) (k + 1) ((List.replicate (k + 1) (1 : Int)).map (Value.int .i64)) by rw [← ones_next, List.map_append]; exact ho6); have HB6 := Lib.hid ((hb4.out.alloc hs4 _).grown hg6 (by simp; omega) fun q hq => (HU.out.lt q hq).1); clear ho6 hg6 hat6)
              go_wp2
              go_roundw
              case rel => exact ⟨k + 1, by omega, by go_num, HM6.out, HB6⟩
              case measure => simp [intOf]; omega
            · obtain rfl : k = S := by omega
              obtain ⟨A3, c3, rfl⟩ := slice_of_owns hU
              have R3 : Hid (RowS wr A3 (rowW L.toNat ps 2)) := Lib.hid (by
                rw [HROW1.out]
                have hU2 : wr.ownsRow w2.heap.size 3 1 (.slice A3 (List.replicate k (1 : Int)).length c3) (List.replicate k (1 : Int)).length ((List.replicate k (1 : Int)).map (Value.int .i64)) := by rw [List.length_replicate]; exact hU
                obtain ⟨A', c', h1, h2⟩ := OwnA.rowV hU2
                simp only [Value.slice.injEq] at h1
                obtain ⟨rfl, _, _⟩ := h1
                exact h2)
              have B4 := Lib.hid hb4.out
              have hkk : ¬ (k : Int) < (k : Int) := by omega
              clear hU hb4 HI0
              go_wp2
              go_loopw [7, 9] (fun u iv wr => ∃ (t : Nat) (A3 : Option Addr) (c3 : Nat), 2 ≤ t ∧ t ≤ N ∧ iv = .int .i64 (t : Int) ∧ u = .slice A3 k c3 ∧ Hid (RowS wr A3 (rowW L.toNat ps t)) ∧ Hid (Below w2.heap.size w2 wr)) (fun _ iv _ => N - (intOf iv).toNat)
              case atStart => exact ⟨2, A3, c3, Nat.le_refl _, hn1, rfl, rfl, R3, B4⟩
              case round =>
                clear R3 B4
                obtain ⟨t, A4, c4, ht2, htN, rfl, rfl, hr, hb⟩ := hrel
                by_cases htl : t < N
                · have hg1 := gridS_one (c := c4) hr.out 56
                  rw [HRL.out t] at hg1
                  have hba : Below wr.heap.size wr (wr.alloc (.cells #[.slice A4 k c4] 56)) := (Below.refl _ _).alloc (Nat.le_refl _) _
                  have hw := HWIDE.out t (by omega)
                  rw [← HLEN.out] at hw
                  have hc5 := spec_times_wide (some ⟨wr.heap.size, 0, none⟩) A2 1 c2 [rowW L.toNat ps t] m hw HM.out _ hg1 ((G2.out.below hb.out).below hba)
                  rw [HLEN.out, HNEXT.out t ht2] at hc5
                  have C5 := Lib.hid hc5
                  have BA := Lib.hid (hb.out.trans (hba.mono hb.out.size))
                  have htn : (t : Int) < (N : Int) := by omega
                  clear hg1 hba hw hc5
                  go_wp2_with fail
                  refine C5.out.mono ?_
                  rintro e w5 ⟨v5, rfl, ho5, b5⟩
                  obtain ⟨A5, c5, rfl, hg5⟩ := OwnG.gridS ho5
                  obtain ⟨b6, o6, A6, c6, rfl, k6, r6, _⟩ := hg5.row (k := 0) (by simp)
                  have k6' : w5.cell? ⟨b6, o6 + 0, none⟩ = some (.slice A6 (rowW L.toNat ps (t + 1)).length c6) := k6
                  rw [HRL.out, Nat.add_zero] at k6'
                  have R6 := Lib.hid (show RowS w5 A6 (rowW L.toNat ps (t + 1)) from r6)
                  have B5 := Lib.hid (BA.out.trans (b5.mono BA.out.size))
                  clear ho5 hg5 k6 r6 b5 C5
                  have hl1 : [rowW L.toNat ps (t + 1)].length = 1 := rfl
                  rw [hl1]
                  go_wp2
                  go_roundw
                  case rel => exact ⟨t + 1, A6, c6, by omega, by omega, by go_num, rfl, R6, B5⟩
                  case measure => simp [intOf]; omega
                · obtain rfl : t = N := by omega
                  have R4 := Lib.hid hr.out
                  have B4 := Lib.hid hb.out
                  have HRLt := Lib.hid (HRL.out t)
                  have HCt := Lib.hid (fun j => HC1.out t j hn20)
                  have htt : ¬ (t : Int) < (t : Int) := by omega
                  clear hr hb
                  generalize rowW L.toNat ps t = xs at *
                  obtain ⟨W4, rfl⟩ : ∃ W4 : World, W4 = wr := ⟨_, rfl⟩
                  go_wp2
                  go_loopw [10, 11] (fun sv jv wr => ∃ (j : Nat) (s : Int), j ≤ k ∧ jv = .int .i64 (j : Int) ∧ sv = .int .i64 s ∧ Hid (s = sumTo j fun i => xs.getD i 0) ∧ 0 ≤ s ∧ s ≤ (j : Int) * 3486784401 ∧ wr = W4) (fun _ jv _ => k - (intOf jv).toNat)
                  case atStart => exact ⟨0, 0, Nat.zero_le _, rfl, rfl, Lib.hid rfl, by omega, by omega, rfl⟩
                  case round =>
                    obtain ⟨j, s, hj, rfl, rfl, hsm, hs0, hs1, rfl⟩ := hrel
                    by_cases hjl : j < k
                    · obtain ⟨bx, ox, rfl, hat, _⟩ := R4.out (by rw [HRLt.out]; omega)
                      have hc := hat j (by rw [HRLt.out]; exact hjl)
                      have hcj := HCt.out j
                      have HSN : Hid (s + xs.getD j 0 = sumTo (j + 1) fun i => xs.getD i 0) := Lib.hid (by rw [hsm.out]; rfl)
                      have hjk : (j : Int) < (k : Int) := by omega
                      clear hat hsm
                      generalize xs.getD j 0 = x at *
                      have hw : RowKit.wrap64 (s + x) = s + x := by unfold RowKit.wrap64; omega
                      go_wp2
                      go_roundw
                      case rel => exact ⟨j + 1, s + x, by omega, by go_num, rfl, HSN, by omega, by omega, trivial⟩
                      case measure => simp [intOf]; omega
                    · obtain rfl : j = k := by omega
                      have HE : Hid (s = R) := Lib.hid (by rw [hsm.out, HSN.out, HR.out])
                      have hjj : ¬ (j : Int) < (j : Int) := by omega
                      have BR := Lib.hid (below_behind B2.out B4.out)
                      clear hsm
                      go_wp2
                      go_ret
                      exact ⟨by rw [← HE.out]; rfl, BR.out⟩
end Go.Proofs.YtalclebehbdliaaGreat
