/-
  The model's LanguageOf: at every shift in memory and every int it returns the words that the plain list holds, in new memory; nothing that was there before is changed.
-/
import Derived.Test.YtalclebehbdliaaGreatLangSame
import Derived.Test.YtalclebehbdliaaGreatLangTexts
namespace Go.Proofs.YtalclebehbdliaaGreat
open Go Go.RowKit

/-- Behind an append a row that lies elsewhere is owned as it was. -/
theorem appended3 {B gv gg len cv n : Nat} {wr w2 : World} {o : Obj} {v : Value} {xs ys : List Value} (hs : wr.ownsRow B 9 1 v n ys) (ho : wr.ownsRow B 9 1 (.slice (some ⟨gv, 0, none⟩) len cv) len xs) (hne : v.ownBlock ≠ some gv)
    (hg : (wr.alloc o).grownBy w2 (Value.slice (some ⟨gv, 0, none⟩) len cv).ownBlock) (hat : (Value.slice (some ⟨gv, 0, none⟩) len cv).ownBlock = some gg ∨ gg = wr.heap.size + 1) :
    w2.ownsRow B 9 1 v n ys ∧ v.ownBlock ≠ some gg := by
  have hgB := (ho.lt gv rfl)
  have e : (Value.slice (some ⟨gv, 0, none⟩) len cv).ownBlock = some gv := rfl
  rw [e] at hg hat
  refine ⟨(hs.alloc o).kept hg (Or.inr hne), ?_⟩
  rcases hat with h | h
  · have := Option.some.inj h; subst this; exact hne
  · intro h2
    have := (hs.lt gg h2).2
    omega

set_option maxRecDepth 100000 in
set_option maxHeartbeats 6400000 in
theorem spec_languageOf (L n : Int) (G : Option Addr) (c : Nat) (ps : List ByteArray) (hl : ps.length ≤ 1048576) (hz : ∀ k, k < ps.length → (ps.getD k ByteArray.empty).size ≤ 2147483648) (w : World) (hs : StrsG w G ps) :
    Calls Tryz.prog 25 #[.agg #[.int .i64 L, .slice G ps.length c], .int .i64 n] w (ListPost (langOfS L ps n) w) := by
  obtain ⟨i0, hi, hz0, hz1, hz2⟩ := info_parts infoStr
  have HS := Lib.hid hs
  have HZ := Lib.hid hz
  have HN := Lib.hid (fun w' => spec_in n 0 6 w')
  clear hs hz
  go_enter Tryz.func25, Tryz.ntmps25
  go_wp2_with fail
  obtain ⟨Wb, hWb⟩ : ∃ Wb, w.alloc (.cells #[.int .i64 L, .slice G ps.length c] 26) = Wb := ⟨_, rfl⟩
  have sb : Wb.heap.size = w.heap.size + 1 := by rw [← hWb]; simp
  have xb : BoxAt Wb w.heap.size L (.slice G ps.length c) := by rw [← hWb]; exact boxAt_new w L _ 26
  have bb : Below w.heap.size w Wb := by rw [← hWb]; exact (Below.refl _ _).alloc (Nat.le_refl _) _
  rw [hWb]
  clear hWb
  have b0 := (Below.refl Wb.heap.size Wb).alloc (Nat.le_refl _) (.cells #[] 9)
  have O0 := Lib.hid (World.ownsRow_made (base := Wb.heap.size) (e := 9) (size := 1) Wb #[] 0 (Nat.le_refl _) (by decide) rfl)
  have XB := Lib.hid xb
  have BB := Lib.hid bb
  have B0 := Lib.hid b0
  have HST := Lib.hid (fun w' (h : Below Wb.heap.size Wb w') => (show StrsG w' G ps from (HS.out.below bb).below h))
  have HI := Lib.hid (fun w' (h : Below Wb.heap.size Wb w') => spec_isShift L G c ps hl (fun k hk => by have := HZ.out k hk; omega) w' (HST.out w' h))
  clear b0 xb bb
  refine (HI.out _ B0.out).mono ?_
  rintro e w1 ⟨rfl, hb1⟩
  have O1 := Lib.hid (owns_below O0.out hb1)
  have s1 : Wb.heap.size + 1 ≤ w1.heap.size := by have := hb1.size; rw [World.size_alloc] at this; exact this
  have B1 := Lib.hid (B0.out.trans (hb1.mono (by simp)))
  obtain ⟨x0, x1⟩ := XB.out.below B1.out (by omega)
  have OW : Hid (w1.ownsRow w.heap.size 9 1 (.slice (some ⟨w.heap.size + 1, 0, none⟩) 0 0) 0 []) := Lib.hid (by
    have h := World.ownsRow.mono O1.out (show w.heap.size ≤ Wb.heap.size by omega)
    rw [sb] at h
    exact h)
  clear hb1 B0 O0
  cases hsft : isShift L ps with
  | false =>
    have HR : Hid (langOfS L ps n = []) := Lib.hid (by unfold langOfS; rw [if_neg (by rw [hsft]; simp)])
    clear hsft
    go_wp2
    go_ret
    rw [HR.out]
    exact ⟨_, rfl, OW.out, BB.out.trans (B1.out.mono (by omega))⟩
  | true =>
    obtain ⟨l1, l3, _⟩ := isShift_letters hsft
    cases hnn : (decide (0 ≤ n) && decide (n ≤ 6)) with
    | false =>
      have HR : Hid (langOfS L ps n = []) := Lib.hid (by
        unfold langOfS
        rw [if_neg]
        rintro ⟨_, h1, h2⟩
        rw [decide_eq_true h1, decide_eq_true h2] at hnn; cases hnn)
      rw [hnn] at HN
      clear hsft hnn
      go_wp2_with fail
      refine (HN.out _).mono ?_
      rintro e w2 ⟨rfl, rfl⟩
      go_wp2
      go_ret
      rw [HR.out]
      exact ⟨_, rfl, OW.out, BB.out.trans (B1.out.mono (by omega))⟩
    | true =>
      have hn2 : 0 ≤ n ∧ n ≤ 6 := by simpa [Bool.and_eq_true, decide_eq_true_eq] using hnn
      have HR : Hid (langOfS L ps n = (allW L.toNat n.toNat).filter (inM ps (pairsW L.toNat ps))) := Lib.hid (by unfold langOfS; rw [if_pos ⟨hsft, hn2⟩])
      rw [hnn] at HN
      have eL : ((L.toNat : Nat) : Int) = L := by omega
      have en : ((n.toNat : Nat) : Int) = n := by omega
      have HP := Lib.hid (spec_pairs L.toNat G c ps (by omega) (by omega) hl HZ.out w1 (HST.out w1 B1.out))
      have HM2 := Lib.hid (pairsW_two (ps := ps) (k := L.toNat) (by omega))
      have hM9 := pairsW_length (ps := ps) (k := L.toNat) (by omega)
      have HA := Lib.hid (fun w' => spec_all L.toNat n.toNat (by omega) (by omega) (by omega) (pow_six (by omega) (by omega)) w')
      have hlen : (allW L.toNat n.toNat).length ≤ 729 := by rw [allW_length]; exact pow_six (k := L.toNat) (n := n.toNat) (by omega) (by omega) n.toNat (Nat.le_refl _)
      have hpos : 0 < (allW L.toNat n.toNat).length := by rw [allW_length]; exact Nat.pow_pos (by omega)
      have HY := Lib.hid (fun y (hy : y ∈ allW L.toNat n.toNat) => (show y.size ≤ 16 from by rw [allW_size L.toNat n.toNat y hy]; omega))
      rw [eL, en] at HA
      rw [eL] at HP
      clear hsft hnn hn2 eL en
      generalize pairsW L.toNat ps = M at *
      generalize allW L.toNat n.toNat = ws at *
      go_wp2_with fail
      refine (HN.out _).mono ?_
      rintro e w2 ⟨rfl, rfl⟩
      go_wp2_with fail
      refine HP.out.mono ?_
      rintro e w3 ⟨vM, rfl, oM, b3⟩
      obtain ⟨A, cM, rfl⟩ : ∃ A c, vM = .slice A M.length c := by
        rcases oM.2 with ⟨rfl, h0⟩ | ⟨b, cc, cur, rfl, _⟩
        · exact ⟨none, 0, by rw [h0]⟩
        · exact ⟨_, cc, rfl⟩
      have B3 := Lib.hid (B1.out.trans (b3.mono (Nat.le_of_succ_le s1)))
      have O3 := Lib.hid (owns_below O1.out b3)
      have OM3 := Lib.hid (World.ownsRow.mono oM (show Wb.heap.size ≤ _ by omega))
      have NE3 : Hid ((Value.slice A M.length cM).ownBlock ≠ some Wb.heap.size) := Lib.hid (fun h => by
        have := (oM.lt _ h).1
        omega)
      have s3 := b3.size
      obtain ⟨u0, u1⟩ := XB.out.below B3.out (by omega)
      clear oM b3 x0 x1 O1
      go_wp2_with fail
      refine (HA.out _).mono fun e w4 h4 => ?_
      obtain ⟨gw, cw, rfl, ow, b4⟩ := h4.full hpos
      have hgw := ow.lt gw rfl
      have SW := Lib.hid (StrsAt.of_owns ow rfl)
      have B4 := Lib.hid (B3.out.trans (b4.mono (by omega)))
      have O4 := Lib.hid (owns_below O3.out b4)
      have OM4 := Lib.hid (owns_below OM3.out b4)
      clear h4 ow b4 u0 u1 O3 OM3 B3 B1
      go_wp2
      go_loopw [5, 8] (fun v i wr => ∃ k gv cv : Nat, k ≤ ws.length ∧ i = .int .i64 k ∧ v = .slice (some ⟨gv, 0, none⟩) ((ws.take k).filter (inM ps M)).length cv ∧ gv ≠ gw ∧ gw < wr.heap.size ∧ Hid ((Value.slice A M.length cM).ownBlock ≠ some gv) ∧ Hid (wr.ownsRow Wb.heap.size 9 1 (.slice (some ⟨gv, 0, none⟩) ((ws.take k).filter (inM ps M)).length cv) ((ws.take k).filter (inM ps M)).length (((ws.take k).filter (inM ps M)).map Value.string)) ∧ Hid (wr.ownsRow Wb.heap.size 9 1 (.slice A M.length cM) M.length (M.map Value.string)) ∧ Hid (Below Wb.heap.size Wb wr) ∧ Hid (StrsAt wr gw 0 ws)) (fun _ i _ => ws.length - (intOf i).toNat)
      case atStart => exact ⟨0, Wb.heap.size, 0, Nat.zero_le _, rfl, by simp [sb], by omega, hgw.2, NE3, O4, OM4, B4, SW⟩
      case round =>
        obtain ⟨k, gv, cv, hk, rfl, rfl, hne, hgl, HNE, HO, HOM, HB, HSW⟩ := hrel
        by_cases hlt : k < ws.length
        · have hc := HSW.out k hlt
          rw [Nat.zero_add] at hc
          obtain ⟨y0, y1⟩ := XB.out.below HB.out (by omega)
          have hsz := HY.out _ (getD_mem hlt)
          have hbl := HB.out.size
          have HRM : Hid (RowAt wr A M) := Lib.hid (fun hp => by
            obtain ⟨b, cc, hf, _, hbs⟩ := HOM.out.form hp
            simp only [Value.slice.injEq, true_and] at hf
            obtain ⟨rfl, rfl⟩ := hf
            exact ⟨b, rfl, StrsAt.of_owns HOM.out rfl, hbs⟩)
          have HIN := Lib.hid (fun w' (h : Below wr.heap.size wr w') => spec_l3In L G c ps hl HZ.out A cM M (by omega) HM2.out (ws.getD k ByteArray.empty) (by omega) w' (HST.out w' (HB.out.trans (h.mono hbl))) (HRM.out.below h))
          have k0 : (0 : Int) ≤ (k : Int) := by omega
          have k1' : (k : Int) < (ws.length : Int) := by omega
          have HYes := Lib.hid (step_yes (f := inM ps M) hlt)
          have HNo := Lib.hid (step_no (f := inM ps M) hlt)
          have hq : ((ws.take k).filter (inM ps M)).length ≤ 729 := by
            have h1 := List.length_filter_le (inM ps M) (ws.take k)
            rw [List.length_take] at h1
            omega
          generalize ws.getD k ByteArray.empty = y at *
          cases him : inM ps M y with
          | false =>
            rw [him] at HIN
            have HN2 := Lib.hid (HNo.out him)
            clear him
            generalize (ws.take k).filter (inM ps M) = qs at *
            go_wp2
            go_region_held3 (fun w' => w'.cell? ⟨w.heap.size, 0, none⟩ = some (.int .i64 L) ∧ w'.cell? ⟨w.heap.size, 1, none⟩ = some (.slice G ps.length c) ∧ w'.cell? ⟨gw, k, none⟩ = some (.string y)) (first | exact ⟨y0, y1, hc⟩ | exact ⟨z0, z1, z2⟩ | go_keep) (first | (go_at_call 53; refine (HIN.out _ (by first | exact Below.refl _ _ | exact (Below.refl _ _).drew)).mono ?_; rintro e w6 ⟨rfl, hb6⟩; have hq6 : Below wr.heap.size wr w6 := (Below.refl wr.heap.size wr).drew.trans hb6; have z0 := (hb6.cell (p := ⟨w.heap.size, 0, none⟩) (by show w.heap.size < wr.heap.size; omega)).trans y0; have z1 := (hb6.cell (p := ⟨w.heap.size, 1, none⟩) (by show w.heap.size < wr.heap.size; omega)).trans y1; have z2 := (hb6.cell (p := ⟨gw, k, none⟩) (by show gw < wr.heap.size; omega)).trans hc))
            go_wp2
            go_roundw
            case rel => exact ⟨k + 1, gv, cv, by omega, by go_num, by rw [HN2.out], hne, by have := hq6.size; omega, HNE, Lib.hid (by rw [HN2.out]; exact owns_below HO.out hq6), Lib.hid (owns_below HOM.out hq6), Lib.hid (HB.out.trans (hq6.mono hbl)), Lib.hid (HSW.out.below hq6 hgl)⟩
            case measure => simp [intOf]; omega
          | true =>
            rw [him] at HIN
            have HN2 := Lib.hid (HYes.out him)
            clear him
            generalize (ws.take k).filter (inM ps M) = qs at *
            go_wp2
            go_region_held3 (fun w' => w'.cell? ⟨w.heap.size, 0, none⟩ = some (.int .i64 L) ∧ w'.cell? ⟨w.heap.size, 1, none⟩ = some (.slice G ps.length c) ∧ w'.cell? ⟨gw, k, none⟩ = some (.string y)) (first | exact ⟨y0, y1, hc⟩ | exact ⟨z0, z1, z2⟩ | go_keep) (first | (go_at_call 53; refine (HIN.out _ (by first | exact Below.refl _ _ | exact (Below.refl _ _).drew)).mono ?_; rintro e w6 ⟨rfl, hb6⟩; have hq6 : Below wr.heap.size wr w6 := (Below.refl wr.heap.size wr).drew.trans hb6; have z0 := (hb6.cell (p := ⟨w.heap.size, 0, none⟩) (by show w.heap.size < wr.heap.size; omega)).trans y0; have z1 := (hb6.cell (p := ⟨w.heap.size, 1, none⟩) (by show w.heap.size < wr.heap.size; omega)).trans y1; have z2 := (hb6.cell (p := ⟨gw, k, none⟩) (by show gw < wr.heap.size; omega)).trans hc))
            have OQ := Lib.hid (owns_below HO.out hq6)
            have OM6 := Lib.hid (owns_below HOM.out hq6)
            have B6 := Lib.hid (HB.out.trans (hq6.mono hbl))
            have ST6 := Lib.hid (HSW.out.below hq6 hgl)
            have s6 : wr.heap.size ≤ w6.heap.size := hq6.size
            go_wp2_with (at_builtin; refine wpList_append_lies _ rfl (.tmp 38) (.tmp 43) 24 rfl Wb.heap.size 9 i0 (.string ByteArray.empty) 1 16 Tryz.underlying24 hi hz0 hz1 hz2 rfl (by decide) _ _ _ rfl (OQ.out.alloc _) ⟨w6.heap.size, 0, none⟩ 1 1 [.string y] rfl rfl (cell_one_new w6 _ _) (one_cell y) (by decide) (by unfold maxLen; omega) (by omega) (by simp; omega) (w6.heap.size + 1) (by simp) ?_; intro gg cap2 w2 ho2 hg2 hat2 hlt2; have HAP := Lib.hid (appended (nq := 0) B6.out ST6.out OQ.out (by omega) hne hg2 hat2); have HAM := Lib.hid (appended3 OM6.out OQ.out HNE.out hg2 hat2); have HO2 := Lib.hid ho2; clear ho2 hg2 hat2)
            obtain ⟨p1, p2, p3, p4⟩ := HAP.out
            go_roundw
            case rel => exact ⟨k + 1, gg, cap2, by omega, by go_num, by rw [HN2.out]; simp, p3, p4, Lib.hid HAM.out.2, Lib.hid (by rw [HN2.out, List.length_append, List.map_append]; exact HO2.out), Lib.hid HAM.out.1, Lib.hid p1, Lib.hid p2⟩
            case measure => simp [intOf]; omega
        · obtain rfl : k = ws.length := by omega
          have h := HO.out
          rw [List.take_length] at h
          rw [List.take_length]
          have HF := Lib.hid h
          clear h
          generalize ws.filter (inM ps M) = qs at *
          go_wp2
          go_ret
          rw [HR.out]
          exact ⟨_, rfl, World.ownsRow.mono HF.out (by omega), BB.out.trans (HB.out.mono (by omega))⟩
theorem atCopies_languageOf (W : World) (L : Int) (xs : List ByteArray) (n : Int) : AtCopiesL W 25 L xs n (langOf L xs n) :=
  fun g c w' _ hl ht hst hg => by
    rw [← langOf_same]
    exact spec_languageOf L n (some ⟨g, 0, none⟩) c xs hl (fun k hk => by have := size_le_total hk; omega) w' (.of hst hg)
end Go.Proofs.YtalclebehbdliaaGreat
