/-
  The model's ForbiddenOf: at every shift in memory the least words that are not in the language, in new memory; nothing that was there before is changed.
-/
import Derived.Test.YtalclebehbdliaaGreatMidTexts
import Derived.Test.YtalclebehbdliaaGreatBaseTexts
import Derived.Deep.RegionHeld3
namespace Go.Proofs.YtalclebehbdliaaGreat
open Go Go.RowKit

def prevW (k : Nat) : Nat → List ByteArray
  | 0 => []
  | n + 1 => prevW k n ++ allW k (n + 1)
/-- The words so far that are not in the language while their parts are, put in order. -/
def outTo (k : Nat) (ps : List ByteArray) (n j : Nat) : List ByteArray := putAll ((prevW k n ++ (allW k (n + 1)).take j).filter (outB k ps)) []
theorem outTo_zero (k : Nat) (ps : List ByteArray) : outTo k ps 0 0 = [] := rfl
theorem outTo_row (k : Nat) (ps : List ByteArray) (n : Nat) : outTo k ps n (allW k (n + 1)).length = outTo k ps (n + 1) 0 := by
  unfold outTo
  rw [List.take_length, List.take_zero, List.append_nil]; rfl
theorem outTo_all (k : Nat) (ps : List ByteArray) : outTo k ps 3 0 = leastW k ps := by
  unfold outTo leastW
  rw [List.take_zero, List.append_nil]
  simp [prevW]
theorem outTo_yes {k : Nat} {ps : List ByteArray} {n j : Nat} (hj : j < (allW k (n + 1)).length) (h : outB k ps ((allW k (n + 1)).getD j ByteArray.empty) = true) : outTo k ps n (j + 1) = putW ((allW k (n + 1)).getD j ByteArray.empty) (outTo k ps n j) := by
  unfold outTo
  rw [take_next _ j hj, ← List.append_assoc, List.filter_append, List.filter_cons_of_pos h, List.filter_nil, putAll_app]
  rfl
theorem outTo_no {k : Nat} {ps : List ByteArray} {n j : Nat} (hj : j < (allW k (n + 1)).length) (h : outB k ps ((allW k (n + 1)).getD j ByteArray.empty) = false) : outTo k ps n (j + 1) = outTo k ps n j := by
  unfold outTo
  rw [take_next _ j hj, ← List.append_assoc, List.filter_append, List.filter_cons_of_neg (by rw [h]; decide), List.filter_nil, List.append_nil]
theorem putW_len (x : ByteArray) : ∀ ps : List ByteArray, (putW x ps).length ≤ ps.length + 1
  | [] => by simp [putW]
  | y :: ps => by
    have := putW_len x ps
    unfold putW
    split
    · simp only [List.length_cons]; omega
    · split <;> simp only [List.length_cons] <;> omega
theorem putAll_len : ∀ (ws l : List ByteArray), (putAll ws l).length ≤ ws.length + l.length
  | [], l => by simp [putAll]
  | x :: ws, l => by
    have h1 := putAll_len ws (putW x l)
    have h2 := putW_len x l
    have e : putAll (x :: ws) l = putAll ws (putW x l) := rfl
    rw [e, List.length_cons]
    omega
theorem prevW_len {k : Nat} (hk : k ≤ 3) : ∀ {n : Nat}, n ≤ 3 → (prevW k n).length ≤ n * 27
  | 0, _ => by simp [prevW]
  | n + 1, h => by
    have h1 := prevW_len hk (n := n) (by omega)
    have h2 : k ^ (n + 1) ≤ 3 ^ (n + 1) := Nat.pow_le_pow_left hk _
    have h3 : 3 ^ (n + 1) ≤ 3 ^ 3 := Nat.pow_le_pow_right (by decide) h
    have h4 : 3 ^ 3 = 27 := by decide
    unfold prevW
    rw [List.length_append, allW_length]
    omega
theorem outTo_len {k : Nat} (hk : k ≤ 3) (ps : List ByteArray) {n j : Nat} (hn : n ≤ 3) (hj : j ≤ 81) : (outTo k ps n j).length ≤ 200 := by
  unfold outTo
  have h1 := putAll_len ((prevW k n ++ (allW k (n + 1)).take j).filter (outB k ps)) []
  have h2 := List.length_filter_le (outB k ps) (prevW k n ++ (allW k (n + 1)).take j)
  have h3 := prevW_len hk hn
  rw [List.length_append, List.length_take] at h2
  simp only [List.length_nil] at h1
  omega
def forbS (L : Int) (ps : List ByteArray) : Option (Int × List ByteArray) := if ((isShift L ps && !emptyT L ps) && decide ((leastW L.toNat ps).length ≤ 8)) = true then some (L, leastW L.toNat ps) else none
theorem wrap_three {n : Nat} (h : n < 3) : IntKind.i64.wrap (n : Int) = (n : Int) := by rw [IntKind.wrap_i64]; omega

set_option maxRecDepth 100000 in
set_option maxHeartbeats 6400000 in
theorem spec_forbiddenOf (L : Int) (G : Option Addr) (c : Nat) (ps : List ByteArray) (hl : ps.length ≤ 1048576) (hz : ∀ k, k < ps.length → (ps.getD k ByteArray.empty).size ≤ 2147483648) (w : World) (hs : StrsG w G ps) :
    Calls Tryz.prog 11 #[.agg #[.int .i64 L, .slice G ps.length c]] w (NewShB (forbS L ps) w) := by
  obtain ⟨i0, hi, hz0, hz1, hz2⟩ := info_parts infoStr
  have HI := Lib.hid (fun w' (h : Below w.heap.size w w') => spec_isShift L G c ps hl (fun k hk => by have := hz k hk; omega) w' (hs.below h))
  have HE := Lib.hid (fun w' (h : Below w.heap.size w w') => spec_isEmptyShift L G c ps hl hz w' (hs.below h))
  have HS := Lib.hid (fun w' (h : Below w.heap.size w w') => hs.below h)
  have HZ := Lib.hid hz
  obtain ⟨R, hR⟩ : ∃ R, forbS L ps = R := ⟨_, rfl⟩
  have HR : Hid (forbS L ps = if ((isShift L ps && !emptyT L ps) && decide ((leastW L.toNat ps).length ≤ 8)) = true then some (L, leastW L.toNat ps) else none) := Lib.hid rfl
  rw [hR] at HR ⊢
  clear hs hz hR
  go_enter Tryz.func11, Tryz.ntmps11
  go_wp2_with fail
  obtain ⟨Wb, hWb⟩ : ∃ Wb, (w.alloc (.cells #[.int .i64 L, .slice G ps.length c] 26)).alloc (.cells #[.int .i64 0, .slice none 0 0] 26) = Wb := ⟨_, rfl⟩
  have sb : Wb.heap.size = w.heap.size + 1 + 1 := by rw [← hWb]; simp
  have xb : BoxAt Wb w.heap.size L (.slice G ps.length c) := by
    rw [← hWb]
    exact (boxAt_new w L _ 26).below ((Below.refl (w.heap.size + 1) _).alloc (by simp) _) (by omega)
  have rb : Wb.heap[w.heap.size + 1]? = some (.cells #[.int .i64 0, .slice none 0 0] 26) := by
    rw [← hWb]
    have h := heap_alloc_new (w.alloc (.cells #[.int .i64 L, .slice G ps.length c] 26)) (.cells #[.int .i64 0, .slice none 0 0] 26)
    rw [World.size_alloc] at h; exact h
  have bb : Below w.heap.size w Wb := by rw [← hWb]; exact ((Below.refl _ _).alloc (Nat.le_refl _) _).alloc (by simp) _
  rw [hWb]
  clear hWb
  have XB := Lib.hid (fun w' (h : Below Wb.heap.size Wb w') => xb.below h (by omega))
  have RB := Lib.hid (fun w' (h : Below Wb.heap.size Wb w') => (h.block (w.heap.size + 1) (by omega)).trans rb)
  have BB := Lib.hid (fun w' (h : Below Wb.heap.size Wb w') => bb.trans (h.mono (by omega)))
  -- nothing
  have HNO : Hid (∀ w', Below Wb.heap.size Wb w' → NewShB none w (.returned (.tuple #[.agg #[.int .i64 0, .slice none 0 0], .bool false])) ((w'.setCell ⟨w.heap.size + 1, 0, none⟩ (.int .i64 0)).setCell ⟨w.heap.size + 1, 1, none⟩ (.slice none 0 0))) := Lib.hid fun w' h => ⟨_, rfl, ownSh_nil _ _ _, below_stores (bb.trans (h.mono (by omega))) (by omega) _ _⟩
  clear xb rb bb
  refine (HI.out Wb (BB.out Wb (Below.refl _ _))).mono ?_
  rintro e w1 ⟨rfl, h1⟩
  have B1 : Hid (Below Wb.heap.size Wb w1) := Lib.hid (h1.mono (by omega))
  clear h1
  obtain ⟨x0, x1⟩ := XB.out w1 B1.out
  cases hsft : isShift L ps with
  | false =>
    have HN : Hid (R = none) := Lib.hid (by rw [HR.out, hsft]; rfl)
    have h5 := RB.out w1 B1.out
    obtain ⟨d0, d1, d2⟩ := sh_cells h5
    have HH := Lib.hid h5
    clear hsft h5 HR
    go_wp2
    refine bodyPost_ret (results_sh rfl _ _ (w.heap.size + 1) 26 #[.int .i64 0, .slice none 0 0] (0, 0) _ rfl (sh_stores HH.out) Tryz.underlying26 rfl (by kernel_rfl)) rfl ?_
    rw [HN.out]
    exact HNO.out w1 B1.out
  | true =>
    go_wp2_with fail
    refine (HE.out w1 (BB.out w1 B1.out)).mono ?_
    rintro e w2 ⟨rfl, h2⟩
    have B2 : Hid (Below Wb.heap.size Wb w2) := Lib.hid (B1.out.trans (h2.mono B1.out.size))
    clear h2 x0 x1
    obtain ⟨x0, x1⟩ := XB.out w2 B2.out
    cases hem : emptyT L ps with
    | true =>
      have HN : Hid (R = none) := Lib.hid (by rw [HR.out, hsft, hem]; rfl)
      have h5 := RB.out w2 B2.out
      obtain ⟨d0, d1, d2⟩ := sh_cells h5
      have HH := Lib.hid h5
      clear hsft hem h5 HR
      go_wp2
      refine bodyPost_ret (results_sh rfl _ _ (w.heap.size + 1) 26 #[.int .i64 0, .slice none 0 0] (0, 0) _ rfl (sh_stores HH.out) Tryz.underlying26 rfl (by kernel_rfl)) rfl ?_
      rw [HN.out]
      exact HNO.out w2 B2.out
    | false =>
      obtain ⟨l1, l3, _⟩ := isShift_letters hsft
      obtain ⟨kk, rfl⟩ := Int.eq_ofNat_of_zero_le (show 0 ≤ L by omega)
      have k1 : 1 ≤ kk := by omega
      have k3 : kk ≤ 3 := by omega
      have HR2 : Hid (R = if (leastW kk ps).length ≤ 8 then some ((kk : Int), leastW kk ps) else none) := Lib.hid (by
        rw [HR.out, hsft, hem, Int.toNat_natCast]
        by_cases h8 : (leastW kk ps).length ≤ 8
        · rw [if_pos h8, decide_eq_true h8]; rfl
        · rw [if_neg h8, decide_eq_false h8]; rfl)
      have C3 := Lib.hid (spec_pairs kk G c ps k1 k3 hl HZ.out w2 (HS.out w2 (BB.out w2 B2.out)))
      have h9 := pairsW_length (ps := ps) k3
      have H2 := Lib.hid (pairsW_two (ps := ps) k3)
      have HIN := Lib.hid (fun A cm y (hy : y.size ≤ 2147483648) w' (hb : Below Wb.heap.size Wb w') (hm : RowAt w' A (pairsW kk ps)) => spec_l3In (kk : Int) G c ps hl HZ.out A cm (pairsW kk ps) (by omega) H2.out y hy w' (HS.out w' (BB.out w' hb)) hm)
      have HOUT : Hid (∀ y, outB kk ps y = ((!inM ps (pairsW kk ps) y && inM ps (pairsW kk ps) (y.extract 1 y.size)) && inM ps (pairsW kk ps) (y.extract 0 (y.size - 1)))) := Lib.hid fun y => rfl
      have HZERO := Lib.hid (outTo_zero kk ps)
      have HROW := Lib.hid (outTo_row kk ps)
      have HALL := Lib.hid (outTo_all kk ps)
      have HYES := Lib.hid (fun n j hj => outTo_yes (k := kk) (ps := ps) (n := n) (j := j) hj)
      have HNOT := Lib.hid (fun n j hj => outTo_no (k := kk) (ps := ps) (n := n) (j := j) hj)
      have HLEN := Lib.hid (fun n j hn hj => outTo_len k3 ps (n := n) (j := j) hn hj)
      clear hsft hem HR HI HE HS HZ
      generalize pairsW kk ps = M at *
      generalize leastW kk ps = LW at *
      generalize outB kk ps = OB at *
      generalize outTo kk ps = OT at *
      go_wp2_with fail
      refine C3.out.mono ?_
      rintro e w3 ⟨v3, rfl, ho3, b3⟩
      obtain ⟨A4, c4, hv4, hr4, _⟩ := ListPost.rowAt (ps := M) (w := w2) (w' := w3) ⟨v3, rfl, ho3, b3⟩
      have hv4' : v3 = .slice A4 M.length c4 := Ending.returned.inj hv4
      subst hv4'
      have R4 := Lib.hid hr4
      have B3 := Lib.hid (B2.out.trans (b3.mono B2.out.size))
      have s3 := B3.out.size
      have HX0 := Lib.hid (World.ownsRow_made (base := w3.heap.size) (e := 9) (size := 1) w3 #[] 0 (Nat.le_refl _) (by decide) rfl)
      have HL0 : Hid ((OT 0 0).length = 0) := Lib.hid (by rw [HZERO.out]; rfl)
      clear ho3 b3 hr4 hv4 C3 x0 x1
      go_wp2
      go_loopw [5, 6] (fun u nv wr => ∃ n gl cl : Nat, n ≤ 3 ∧ nv = .int .i64 ((n : Int) + 1) ∧ u = .slice (some ⟨gl, 0, none⟩) (OT n 0).length cl ∧ Hid (wr.ownsRow w3.heap.size 9 1 (.slice (some ⟨gl, 0, none⟩) (OT n 0).length cl) (OT n 0).length ((OT n 0).map Value.string)) ∧ Hid (Below w3.heap.size w3 wr)) (fun _ nv _ => 4 - (intOf nv).toNat)
      case atStart => exact ⟨0, w3.heap.size, 0, by omega, rfl, by rw [HL0.out], Lib.hid (by rw [HZERO.out]; exact HX0.out), Lib.hid ((Below.refl _ _).alloc (Nat.le_refl _) _)⟩
      case round =>
        clear HX0 HL0
        obtain ⟨n, gl, cl, hn, rfl, rfl, HO, HB⟩ := hrel
        have hsr := HB.out.size
        have BR := Lib.hid (B3.out.trans (HB.out.mono s3))
        by_cases hn3 : n < 3
        · have hgn : (n : Int) + 1 ≤ 3 := by omega
          have hmax : ∀ i, i ≤ n + 1 → kk ^ i ≤ 729 := pow_six k3 (by omega)
          have CA := Lib.hid (spec_all kk (n + 1) k1 k3 (by omega) hmax wr)
          have hpos : 0 < (allW kk (n + 1)).length := by rw [allW_length]; exact Nat.pow_pos k1
          have hlen : (allW kk (n + 1)).length ≤ 27 := by
            have h2 : kk ^ (n + 1) ≤ 3 ^ (n + 1) := Nat.pow_le_pow_left k3 _
            have h3 : 3 ^ (n + 1) ≤ 3 ^ 3 := Nat.pow_le_pow_right (by decide) (by omega)
            have h4 : 3 ^ 3 = 27 := by decide
            rw [allW_length]; omega
          have HSZ := Lib.hid (fun y hy => allW_size kk (n + 1) y hy)
          have HROWn := Lib.hid (HROW.out n)
          have HYESn := Lib.hid (HYES.out n)
          have HNOTn := Lib.hid (HNOT.out n)
          have HLENn := Lib.hid (fun j hj => HLEN.out n j (by omega) hj)
          obtain ⟨x0, x1⟩ := XB.out wr BR.out
          rw [show ((n + 1 : Nat) : Int) = (n : Int) + 1 by omega] at CA
          clear hmax
          generalize allW kk (n + 1) = ws at *
          go_wp2_with fail
          refine CA.out.mono fun e w5 h5 => ?_
          obtain ⟨gw, cw, rfl, ow, b5⟩ := h5.full hpos
          have hgw := ow.lt gw rfl
          have SW := Lib.hid (StrsAt.of_owns ow rfl)
          have O5 := Lib.hid (owns_below HO.out b5)
          have B5 := Lib.hid (HB.out.trans (b5.mono hsr))
          have hgl := HO.out.lt gl rfl
          obtain ⟨W1, rfl⟩ : ∃ W1 : World, W1 = wr := ⟨_, rfl⟩
          clear h5 ow b5 CA HO HB BR x0 x1
          go_wp2
          go_loopw [5, 8] (fun u jv wq => ∃ j gl cl : Nat, j ≤ ws.length ∧ jv = .int .i64 (j : Int) ∧ u = .slice (some ⟨gl, 0, none⟩) (OT n j).length cl ∧ gl ≠ gw ∧ gw < wq.heap.size ∧ Hid (wq.ownsRow w3.heap.size 9 1 (.slice (some ⟨gl, 0, none⟩) (OT n j).length cl) (OT n j).length ((OT n j).map Value.string)) ∧ Hid (StrsAt wq gw 0 ws) ∧ Hid (Below w3.heap.size w3 wq)) (fun _ jv _ => ws.length - (intOf jv).toNat)
          case atStart => exact ⟨0, gl, cl, Nat.zero_le _, rfl, rfl, by omega, hgw.2, O5, SW, B5⟩
          case round =>
            obtain ⟨j, gl, cl, hj, rfl, rfl, hne, hgl2, HO, HSW, HB⟩ := hrel
            clear O5 SW B5
            by_cases hjl : j < ws.length
            · have hc := HSW.out j hjl
              rw [Nat.zero_add] at hc
              have hy := HSZ.out _ (getD_mem hjl)
              have hq := HB.out.size
              have BQ := Lib.hid (B3.out.trans (HB.out.mono s3))
              have HY : Hid (OB (ws.getD j ByteArray.empty) = ((!inM ps M (ws.getD j ByteArray.empty) && inM ps M ((ws.getD j ByteArray.empty).extract 1 (n + 1))) && inM ps M ((ws.getD j ByteArray.empty).extract 0 n))) := Lib.hid (by rw [HOUT.out, hy, Nat.add_sub_cancel])
              have HIJ := Lib.hid (fun y (hy : y.size ≤ 2147483648) w' (hb : Below wr.heap.size wr w') => HIN.out A4 c4 y hy w' (BQ.out.trans (hb.mono (by omega))) (R4.out.below (HB.out.trans (hb.mono hq))))
              have HYj := Lib.hid (HYESn.out j hjl)
              have HNj := Lib.hid (HNOTn.out j hjl)
              have hlj := HLENn.out j (by omega)
              obtain ⟨x0, x1⟩ := XB.out wr BQ.out
              have j0 : (0 : Int) ≤ (j : Int) := by omega
              have j1 : (j : Int) < (ws.length : Int) := by omega
              generalize ws.getD j ByteArray.empty = y at *
              have HA := Lib.hid (HIJ.out y (by omega))
              have HT := Lib.hid (HIJ.out (y.extract 1 (n + 1)) (by rw [ByteArray.size_extract]; omega))
              have HF := Lib.hid (HIJ.out (y.extract 0 n) (by rw [ByteArray.size_extract]; omega))
              have n1 : (1 : Int) ≤ (n : Int) + 1 := by omega
              have n2 : (n : Int) ≤ (n : Int) + 1 := by omega
              have n3 : (0 : Int) ≤ (n : Int) := by omega
              cases ha : inM ps M y with
              | true =>
                have HOB := Lib.hid (HNj.out (by rw [HY.out, ha]; rfl))
                rw [ha] at HA
                clear ha HY HYj HNj HIJ HT HF
                go_wp2
                refine wp_region_held_drew (S := (fun w' => w'.cell? ⟨w.heap.size, 0, none⟩ = some (.int .i64 (kk : Int)) ∧ w'.cell? ⟨w.heap.size, 1, none⟩ = some (.slice G ps.length c))) (by kernel_rfl) ?hS0a (fun hHeld => ?_)
                case hS0a => exact ⟨x0, x1⟩
                refine wpAnyH_take (i := 0) (v := ?v0a) rfl (by kernel_rfl) (by kernel_rfl) (by kernel_rfl) (fun _ _ _ h => h) (Or.inl ⟨by rfl, ?hy0a⟩) (by assumption) ?_
                case hy0a => (intro w hSw; (try dsimp only at hSw); go_simp; try with_reducible rfl)
                try simp only [Act.put, List.getElem_toArray, List.getElem_cons_zero, List.setIfInBounds_toArray, List.set_cons_zero, List.set_cons_succ]
                refine wpAnyH_take (i := 1) (v := ?v1a) rfl (by kernel_rfl) (by kernel_rfl) (by kernel_rfl) (fun _ _ _ h => h) (Or.inl ⟨by rfl, ?hy1a⟩) (by assumption) ?_
                case hy1a => (intro w hSw; (try dsimp only at hSw); go_simp; try with_reducible rfl)
                try simp only [Act.put, List.getElem_toArray, List.getElem_cons_succ, List.getElem_cons_zero, List.setIfInBounds_toArray, List.set_cons_zero, List.set_cons_succ]
                refine wpAnyH_take (i := 2) (v := ?v2a) rfl (by kernel_rfl) (by kernel_rfl) (by kernel_rfl) (fun _ _ _ h => h) (Or.inl ⟨by rfl, ?hy2a⟩) (by assumption) ?_
                case hy2a => (intro w hSw; (try dsimp only at hSw); go_simp; try with_reducible rfl)
                try simp only [Act.put, List.getElem_toArray, List.getElem_cons_succ, List.getElem_cons_zero, List.setIfInBounds_toArray, List.set_cons_zero, List.set_cons_succ]
                refine wpAnyH_ready (rs := [3]) (by kernel_rfl) (by simp) ?_
                refine AllReadyH.cons rfl (fun K hK => ?_) AllReadyH.nil
                go_simp
                go_at_call 53
                refine (HA.out _ (Below.refl _ _).drew).mono ?_
                rintro e w6 ⟨rfl, hb6⟩
                have hq6 : Below wr.heap.size wr w6 := (Below.refl wr.heap.size wr).drew.trans hb6
                have z0 := (hq6.cell (p := ⟨w.heap.size, 0, none⟩) (by show w.heap.size < wr.heap.size; omega)).trans x0
                have z1 := (hq6.cell (p := ⟨w.heap.size, 1, none⟩) (by show w.heap.size < wr.heap.size; omega)).trans x1
                go_wp2_with fail
                refine hK.out _ _ ?hS3a (fun hHeld => ?_)
                case hS3a => (try dsimp only); exact ⟨z0, z1⟩
                clear hK K
                try simp only [Act.put, List.getElem_toArray, List.getElem_cons_succ, List.getElem_cons_zero, List.setIfInBounds_toArray, List.set_cons_zero, List.set_cons_succ]
                refine wpAnyH_take (i := 4) (v := ?v4a) rfl (by kernel_rfl) (by kernel_rfl) (by kernel_rfl) (fun _ _ _ h => h) (Or.inl ⟨by rfl, ?hy4a⟩) (by assumption) ?_
                case hy4a => (intro w hSw; (try dsimp only at hSw); go_simp; try with_reducible rfl)
                try simp only [Act.put, List.getElem_toArray, List.getElem_cons_succ, List.getElem_cons_zero, List.setIfInBounds_toArray, List.set_cons_zero, List.set_cons_succ]
                refine wpAnyH_take (i := 5) (v := ?v5a) rfl (by kernel_rfl) (by kernel_rfl) (by kernel_rfl) (fun _ _ _ h => h) (Or.inl ⟨by rfl, ?hy5a⟩) (by assumption) ?_
                case hy5a => (intro w hSw; (try dsimp only at hSw); go_simp; try with_reducible rfl)
                try simp only [Act.put, List.getElem_toArray, List.getElem_cons_succ, List.getElem_cons_zero, List.setIfInBounds_toArray, List.set_cons_zero, List.set_cons_succ]
                refine wpAnyH_take (i := 6) (v := undef) rfl (by kernel_rfl) (by kernel_rfl) (by kernel_rfl) (fun _ _ _ h => h) (Or.inr ⟨by rfl, rfl⟩) (by assumption) ?_
                try simp only [Act.put, List.getElem_toArray, List.getElem_cons_succ, List.getElem_cons_zero, List.setIfInBounds_toArray, List.set_cons_zero, List.set_cons_succ]
                refine wpAnyH_take (i := 7) (v := undef) rfl (by kernel_rfl) (by kernel_rfl) (by kernel_rfl) (fun _ _ _ h => h) (Or.inr ⟨by rfl, rfl⟩) (by assumption) ?_
                try simp only [Act.put, List.getElem_toArray, List.getElem_cons_succ, List.getElem_cons_zero, List.setIfInBounds_toArray, List.set_cons_zero, List.set_cons_succ]
                refine wpAnyH_take (i := 8) (v := undef) rfl (by kernel_rfl) (by kernel_rfl) (by kernel_rfl) (fun _ _ _ h => h) (Or.inr ⟨by rfl, rfl⟩) (by assumption) ?_
                try simp only [Act.put, List.getElem_toArray, List.getElem_cons_succ, List.getElem_cons_zero, List.setIfInBounds_toArray, List.set_cons_zero, List.set_cons_succ]
                refine wpAnyH_take (i := 9) (v := undef) rfl (by kernel_rfl) (by kernel_rfl) (by kernel_rfl) (fun _ _ _ h => h) (Or.inr ⟨by rfl, rfl⟩) (by assumption) ?_
                try simp only [Act.put, List.getElem_toArray, List.getElem_cons_succ, List.getElem_cons_zero, List.setIfInBounds_toArray, List.set_cons_zero, List.set_cons_succ]
                refine wpAnyH_ready (rs := [10]) (by kernel_rfl) (by simp) ?_
                refine AllReadyH.cons rfl (fun K hK => ?_) AllReadyH.nil
                go_simp
                refine hK.out _ _ ?hS10a (fun hHeld => ?_)
                case hS10a => (try dsimp only); exact ⟨z0, z1⟩
                clear hK K
                try simp only [Act.put, List.getElem_toArray, List.getElem_cons_succ, List.getElem_cons_zero, List.setIfInBounds_toArray, List.set_cons_zero, List.set_cons_succ]
                refine wpAnyH_take (i := 11) (v := ?v11a) rfl (by kernel_rfl) (by kernel_rfl) (by kernel_rfl) (fun _ _ _ h => h) (Or.inl ⟨by rfl, ?hy11a⟩) (by assumption) ?_
                case hy11a => (intro w hSw; (try dsimp only at hSw); go_simp; try with_reducible rfl)
                try simp only [Act.put, List.getElem_toArray, List.getElem_cons_succ, List.getElem_cons_zero, List.setIfInBounds_toArray, List.set_cons_zero, List.set_cons_succ]
                refine wpAnyH_take (i := 12) (v := ?v12a) rfl (by kernel_rfl) (by kernel_rfl) (by kernel_rfl) (fun _ _ _ h => h) (Or.inl ⟨by rfl, ?hy12a⟩) (by assumption) ?_
                case hy12a => (intro w hSw; (try dsimp only at hSw); go_simp; try with_reducible rfl)
                try simp only [Act.put, List.getElem_toArray, List.getElem_cons_succ, List.getElem_cons_zero, List.setIfInBounds_toArray, List.set_cons_zero, List.set_cons_succ]
                refine wpAnyH_take (i := 13) (v := undef) rfl (by kernel_rfl) (by kernel_rfl) (by kernel_rfl) (fun _ _ _ h => h) (Or.inr ⟨by rfl, rfl⟩) (by assumption) ?_
                try simp only [Act.put, List.getElem_toArray, List.getElem_cons_succ, List.getElem_cons_zero, List.setIfInBounds_toArray, List.set_cons_zero, List.set_cons_succ]
                refine wpAnyH_take (i := 14) (v := undef) rfl (by kernel_rfl) (by kernel_rfl) (by kernel_rfl) (fun _ _ _ h => h) (Or.inr ⟨by rfl, rfl⟩) (by assumption) ?_
                try simp only [Act.put, List.getElem_toArray, List.getElem_cons_succ, List.getElem_cons_zero, List.setIfInBounds_toArray, List.set_cons_zero, List.set_cons_succ]
                refine wpAnyH_take (i := 15) (v := undef) rfl (by kernel_rfl) (by kernel_rfl) (by kernel_rfl) (fun _ _ _ h => h) (Or.inr ⟨by rfl, rfl⟩) (by assumption) ?_
                try simp only [Act.put, List.getElem_toArray, List.getElem_cons_succ, List.getElem_cons_zero, List.setIfInBounds_toArray, List.set_cons_zero, List.set_cons_succ]
                refine wpAnyH_take (i := 16) (v := undef) rfl (by kernel_rfl) (by kernel_rfl) (by kernel_rfl) (fun _ _ _ h => h) (Or.inr ⟨by rfl, rfl⟩) (by assumption) ?_
                try simp only [Act.put, List.getElem_toArray, List.getElem_cons_succ, List.getElem_cons_zero, List.setIfInBounds_toArray, List.set_cons_zero, List.set_cons_succ]
                refine wpAnyH_take (i := 17) (v := undef) rfl (by kernel_rfl) (by kernel_rfl) (by kernel_rfl) (fun _ _ _ h => h) (Or.inr ⟨by rfl, rfl⟩) (by assumption) ?_
                try simp only [Act.put, List.getElem_toArray, List.getElem_cons_succ, List.getElem_cons_zero, List.setIfInBounds_toArray, List.set_cons_zero, List.set_cons_succ]
                refine wpAnyH_take (i := 18) (v := undef) rfl (by kernel_rfl) (by kernel_rfl) (by kernel_rfl) (fun _ _ _ h => h) (Or.inr ⟨by rfl, rfl⟩) (by assumption) ?_
                try simp only [Act.put, List.getElem_toArray, List.getElem_cons_succ, List.getElem_cons_zero, List.setIfInBounds_toArray, List.set_cons_zero, List.set_cons_succ]
                refine wpAnyH_ready (rs := [19]) (by kernel_rfl) (by simp) ?_
                refine AllReadyH.cons rfl (fun K hK => ?_) AllReadyH.nil
                go_simp
                refine hK.out _ _ ?hS19a (fun hHeld => ?_)
                case hS19a => (try dsimp only); exact ⟨z0, z1⟩
                clear hK K
                try simp only [Act.put, List.getElem_toArray, List.getElem_cons_succ, List.getElem_cons_zero, List.setIfInBounds_toArray, List.set_cons_zero, List.set_cons_succ]
                refine wpAnyH_take (i := 20) (v := ?v20a) rfl (by kernel_rfl) (by kernel_rfl) (by kernel_rfl) (fun _ _ _ h => h) (Or.inl ⟨by rfl, ?hy20a⟩) (by assumption) ?_
                case hy20a => (intro w hSw; (try dsimp only at hSw); go_simp; try with_reducible rfl)
                try simp only [Act.put, List.getElem_toArray, List.getElem_cons_succ, List.getElem_cons_zero, List.setIfInBounds_toArray, List.set_cons_zero, List.set_cons_succ]
                refine wpAnyH_done (by kernel_rfl) ?_ _
                go_wp2
                go_roundw
                case rel => exact ⟨j + 1, gl, cl, by omega, by go_num, by rw [HOB.out], hne, by have := hq6.size; omega, Lib.hid (by rw [HOB.out]; exact owns_below HO.out hq6), Lib.hid (HSW.out.below hq6 hgl2), Lib.hid (HB.out.trans (hq6.mono hq))⟩
                case measure => simp [intOf]; omega
              | false =>
                rw [ha] at HA
                cases ht : inM ps M (y.extract 1 (n + 1)) with
                | false =>
                  have HOB := Lib.hid (HNj.out (by rw [HY.out, ha, ht]; rfl))
                  rw [ht] at HT
                  clear ha ht HY HYj HNj HIJ HF
                  go_wp2
                  refine wp_region_held_drew (S := (fun w' => w'.cell? ⟨w.heap.size, 0, none⟩ = some (.int .i64 (kk : Int)) ∧ w'.cell? ⟨w.heap.size, 1, none⟩ = some (.slice G ps.length c))) (by kernel_rfl) ?hS0b (fun hHeld => ?_)
                  case hS0b => exact ⟨x0, x1⟩
                  refine wpAnyH_take (i := 0) (v := ?v0b) rfl (by kernel_rfl) (by kernel_rfl) (by kernel_rfl) (fun _ _ _ h => h) (Or.inl ⟨by rfl, ?hy0b⟩) (by assumption) ?_
                  case hy0b => (intro w hSw; (try dsimp only at hSw); go_simp; try with_reducible rfl)
                  try simp only [Act.put, List.getElem_toArray, List.getElem_cons_zero, List.setIfInBounds_toArray, List.set_cons_zero, List.set_cons_succ]
                  refine wpAnyH_take (i := 1) (v := ?v1b) rfl (by kernel_rfl) (by kernel_rfl) (by kernel_rfl) (fun _ _ _ h => h) (Or.inl ⟨by rfl, ?hy1b⟩) (by assumption) ?_
                  case hy1b => (intro w hSw; (try dsimp only at hSw); go_simp; try with_reducible rfl)
                  try simp only [Act.put, List.getElem_toArray, List.getElem_cons_succ, List.getElem_cons_zero, List.setIfInBounds_toArray, List.set_cons_zero, List.set_cons_succ]
                  refine wpAnyH_take (i := 2) (v := ?v2b) rfl (by kernel_rfl) (by kernel_rfl) (by kernel_rfl) (fun _ _ _ h => h) (Or.inl ⟨by rfl, ?hy2b⟩) (by assumption) ?_
                  case hy2b => (intro w hSw; (try dsimp only at hSw); go_simp; try with_reducible rfl)
                  try simp only [Act.put, List.getElem_toArray, List.getElem_cons_succ, List.getElem_cons_zero, List.setIfInBounds_toArray, List.set_cons_zero, List.set_cons_succ]
                  refine wpAnyH_ready (rs := [3]) (by kernel_rfl) (by simp) ?_
                  refine AllReadyH.cons rfl (fun K hK => ?_) AllReadyH.nil
                  go_simp
                  go_at_call 53
                  refine (HA.out _ (Below.refl _ _).drew).mono ?_
                  rintro e w6 ⟨rfl, hb6⟩
                  have hq6 : Below wr.heap.size wr w6 := (Below.refl wr.heap.size wr).drew.trans hb6
                  have z0 := (hq6.cell (p := ⟨w.heap.size, 0, none⟩) (by show w.heap.size < wr.heap.size; omega)).trans x0
                  have z1 := (hq6.cell (p := ⟨w.heap.size, 1, none⟩) (by show w.heap.size < wr.heap.size; omega)).trans x1
                  go_wp2_with fail
                  refine hK.out _ _ ?hS3b (fun hHeld => ?_)
                  case hS3b => (try dsimp only); exact ⟨z0, z1⟩
                  clear hK K
                  try simp only [Act.put, List.getElem_toArray, List.getElem_cons_succ, List.getElem_cons_zero, List.setIfInBounds_toArray, List.set_cons_zero, List.set_cons_succ]
                  refine wpAnyH_take (i := 4) (v := ?v4b) rfl (by kernel_rfl) (by kernel_rfl) (by kernel_rfl) (fun _ _ _ h => h) (Or.inl ⟨by rfl, ?hy4b⟩) (by assumption) ?_
                  case hy4b => (intro w hSw; (try dsimp only at hSw); go_simp; try with_reducible rfl)
                  try simp only [Act.put, List.getElem_toArray, List.getElem_cons_succ, List.getElem_cons_zero, List.setIfInBounds_toArray, List.set_cons_zero, List.set_cons_succ]
                  refine wpAnyH_take (i := 5) (v := ?v5b) rfl (by kernel_rfl) (by kernel_rfl) (by kernel_rfl) (fun _ _ _ h => h) (Or.inl ⟨by rfl, ?hy5b⟩) (by assumption) ?_
                  case hy5b => (intro w hSw; (try dsimp only at hSw); go_simp; try with_reducible rfl)
                  try simp only [Act.put, List.getElem_toArray, List.getElem_cons_succ, List.getElem_cons_zero, List.setIfInBounds_toArray, List.set_cons_zero, List.set_cons_succ]
                  refine wpAnyH_take (i := 6) (v := ?v6b) rfl (by kernel_rfl) (by kernel_rfl) (by kernel_rfl) (fun _ _ _ h => h) (Or.inl ⟨by rfl, ?hy6b⟩) (by assumption) ?_
                  case hy6b => (intro w hSw; (try dsimp only at hSw); go_simp; try with_reducible rfl)
                  try simp only [Act.put, List.getElem_toArray, List.getElem_cons_succ, List.getElem_cons_zero, List.setIfInBounds_toArray, List.set_cons_zero, List.set_cons_succ]
                  refine wpAnyH_take (i := 7) (v := ?v7b) rfl (by kernel_rfl) (by kernel_rfl) (by kernel_rfl) (fun _ _ _ h => h) (Or.inl ⟨by rfl, ?hy7b⟩) (by assumption) ?_
                  case hy7b => (intro w hSw; (try dsimp only at hSw); go_simp; try with_reducible rfl)
                  try simp only [Act.put, List.getElem_toArray, List.getElem_cons_succ, List.getElem_cons_zero, List.setIfInBounds_toArray, List.set_cons_zero, List.set_cons_succ]
                  refine wpAnyH_take (i := 8) (v := ?v8b) rfl (by kernel_rfl) (by kernel_rfl) (by kernel_rfl) (fun _ _ _ h => h) (Or.inl ⟨by rfl, ?hy8b⟩) (by assumption) ?_
                  case hy8b => (intro w hSw; (try dsimp only at hSw); go_simp; try with_reducible rfl)
                  try simp only [Act.put, List.getElem_toArray, List.getElem_cons_succ, List.getElem_cons_zero, List.setIfInBounds_toArray, List.set_cons_zero, List.set_cons_succ]
                  refine wpAnyH_take (i := 9) (v := ?v9b) rfl (by kernel_rfl) (by kernel_rfl) (by kernel_rfl) (fun _ _ _ h => h) (Or.inl ⟨by rfl, ?hy9b⟩) (by assumption) ?_
                  case hy9b => (intro w hSw; (try dsimp only at hSw); go_simp; try with_reducible rfl)
                  try simp only [Act.put, List.getElem_toArray, List.getElem_cons_succ, List.getElem_cons_zero, List.setIfInBounds_toArray, List.set_cons_zero, List.set_cons_succ]
                  refine wpAnyH_ready (rs := [10]) (by kernel_rfl) (by simp) ?_
                  refine AllReadyH.cons rfl (fun K hK => ?_) AllReadyH.nil
                  go_simp
                  go_at_call 53
                  refine (HT.out _ hq6).mono ?_
                  rintro e w7 ⟨rfl, hb7⟩
                  have hq7 : Below wr.heap.size wr w7 := hq6.trans (hb7.mono hq6.size)
                  have y0 := (hq7.cell (p := ⟨w.heap.size, 0, none⟩) (by show w.heap.size < wr.heap.size; omega)).trans x0
                  have y1 := (hq7.cell (p := ⟨w.heap.size, 1, none⟩) (by show w.heap.size < wr.heap.size; omega)).trans x1
                  go_wp2_with fail
                  refine hK.out _ _ ?hS10b (fun hHeld => ?_)
                  case hS10b => (try dsimp only); exact ⟨y0, y1⟩
                  clear hK K
                  try simp only [Act.put, List.getElem_toArray, List.getElem_cons_succ, List.getElem_cons_zero, List.setIfInBounds_toArray, List.set_cons_zero, List.set_cons_succ]
                  refine wpAnyH_take (i := 11) (v := ?v11b) rfl (by kernel_rfl) (by kernel_rfl) (by kernel_rfl) (fun _ _ _ h => h) (Or.inl ⟨by rfl, ?hy11b⟩) (by assumption) ?_
                  case hy11b => (intro w hSw; (try dsimp only at hSw); go_simp; try with_reducible rfl)
                  try simp only [Act.put, List.getElem_toArray, List.getElem_cons_succ, List.getElem_cons_zero, List.setIfInBounds_toArray, List.set_cons_zero, List.set_cons_succ]
                  refine wpAnyH_take (i := 12) (v := ?v12b) rfl (by kernel_rfl) (by kernel_rfl) (by kernel_rfl) (fun _ _ _ h => h) (Or.inl ⟨by rfl, ?hy12b⟩) (by assumption) ?_
                  case hy12b => (intro w hSw; (try dsimp only at hSw); go_simp; try with_reducible rfl)
                  try simp only [Act.put, List.getElem_toArray, List.getElem_cons_succ, List.getElem_cons_zero, List.setIfInBounds_toArray, List.set_cons_zero, List.set_cons_succ]
                  refine wpAnyH_take (i := 13) (v := undef) rfl (by kernel_rfl) (by kernel_rfl) (by kernel_rfl) (fun _ _ _ h => h) (Or.inr ⟨by rfl, rfl⟩) (by assumption) ?_
                  try simp only [Act.put, List.getElem_toArray, List.getElem_cons_succ, List.getElem_cons_zero, List.setIfInBounds_toArray, List.set_cons_zero, List.set_cons_succ]
                  refine wpAnyH_take (i := 14) (v := undef) rfl (by kernel_rfl) (by kernel_rfl) (by kernel_rfl) (fun _ _ _ h => h) (Or.inr ⟨by rfl, rfl⟩) (by assumption) ?_
                  try simp only [Act.put, List.getElem_toArray, List.getElem_cons_succ, List.getElem_cons_zero, List.setIfInBounds_toArray, List.set_cons_zero, List.set_cons_succ]
                  refine wpAnyH_take (i := 15) (v := undef) rfl (by kernel_rfl) (by kernel_rfl) (by kernel_rfl) (fun _ _ _ h => h) (Or.inr ⟨by rfl, rfl⟩) (by assumption) ?_
                  try simp only [Act.put, List.getElem_toArray, List.getElem_cons_succ, List.getElem_cons_zero, List.setIfInBounds_toArray, List.set_cons_zero, List.set_cons_succ]
                  refine wpAnyH_take (i := 16) (v := undef) rfl (by kernel_rfl) (by kernel_rfl) (by kernel_rfl) (fun _ _ _ h => h) (Or.inr ⟨by rfl, rfl⟩) (by assumption) ?_
                  try simp only [Act.put, List.getElem_toArray, List.getElem_cons_succ, List.getElem_cons_zero, List.setIfInBounds_toArray, List.set_cons_zero, List.set_cons_succ]
                  refine wpAnyH_take (i := 17) (v := undef) rfl (by kernel_rfl) (by kernel_rfl) (by kernel_rfl) (fun _ _ _ h => h) (Or.inr ⟨by rfl, rfl⟩) (by assumption) ?_
                  try simp only [Act.put, List.getElem_toArray, List.getElem_cons_succ, List.getElem_cons_zero, List.setIfInBounds_toArray, List.set_cons_zero, List.set_cons_succ]
                  refine wpAnyH_take (i := 18) (v := undef) rfl (by kernel_rfl) (by kernel_rfl) (by kernel_rfl) (fun _ _ _ h => h) (Or.inr ⟨by rfl, rfl⟩) (by assumption) ?_
                  try simp only [Act.put, List.getElem_toArray, List.getElem_cons_succ, List.getElem_cons_zero, List.setIfInBounds_toArray, List.set_cons_zero, List.set_cons_succ]
                  refine wpAnyH_ready (rs := [19]) (by kernel_rfl) (by simp) ?_
                  refine AllReadyH.cons rfl (fun K hK => ?_) AllReadyH.nil
                  go_simp
                  refine hK.out _ _ ?hS19b (fun hHeld => ?_)
                  case hS19b => (try dsimp only); exact ⟨y0, y1⟩
                  clear hK K
                  try simp only [Act.put, List.getElem_toArray, List.getElem_cons_succ, List.getElem_cons_zero, List.setIfInBounds_toArray, List.set_cons_zero, List.set_cons_succ]
                  refine wpAnyH_take (i := 20) (v := ?v20b) rfl (by kernel_rfl) (by kernel_rfl) (by kernel_rfl) (fun _ _ _ h => h) (Or.inl ⟨by rfl, ?hy20b⟩) (by assumption) ?_
                  case hy20b => (intro w hSw; (try dsimp only at hSw); go_simp; try with_reducible rfl)
                  try simp only [Act.put, List.getElem_toArray, List.getElem_cons_succ, List.getElem_cons_zero, List.setIfInBounds_toArray, List.set_cons_zero, List.set_cons_succ]
                  refine wpAnyH_done (by kernel_rfl) ?_ _
                  go_wp2
                  go_roundw
                  case rel => exact ⟨j + 1, gl, cl, by omega, by go_num, by rw [HOB.out], hne, by have := hq7.size; omega, Lib.hid (by rw [HOB.out]; exact owns_below HO.out hq7), Lib.hid (HSW.out.below hq7 hgl2), Lib.hid (HB.out.trans (hq7.mono hq))⟩
                  case measure => simp [intOf]; omega
                | true =>
                  rw [ht] at HT
                  cases hf : inM ps M (y.extract 0 n) with
                  | false =>
                    have HOB := Lib.hid (HNj.out (by rw [HY.out, ha, ht, hf]; rfl))
                    rw [hf] at HF
                    clear ha ht hf HY HYj HNj HIJ
                    go_wp2
                    have n4 := wrap_three hn3
                    refine wp_region_held_drew (S := (fun w' => w'.cell? ⟨w.heap.size, 0, none⟩ = some (.int .i64 (kk : Int)) ∧ w'.cell? ⟨w.heap.size, 1, none⟩ = some (.slice G ps.length c))) (by kernel_rfl) ?hS0c (fun hHeld => ?_)
                    case hS0c => exact ⟨x0, x1⟩
                    refine wpAnyH_take (i := 0) (v := ?v0c) rfl (by kernel_rfl) (by kernel_rfl) (by kernel_rfl) (fun _ _ _ h => h) (Or.inl ⟨by rfl, ?hy0c⟩) (by assumption) ?_
                    case hy0c => (intro w hSw; (try dsimp only at hSw); go_simp; try with_reducible rfl)
                    try simp only [Act.put, List.getElem_toArray, List.getElem_cons_zero, List.setIfInBounds_toArray, List.set_cons_zero, List.set_cons_succ]
                    refine wpAnyH_take (i := 1) (v := ?v1c) rfl (by kernel_rfl) (by kernel_rfl) (by kernel_rfl) (fun _ _ _ h => h) (Or.inl ⟨by rfl, ?hy1c⟩) (by assumption) ?_
                    case hy1c => (intro w hSw; (try dsimp only at hSw); go_simp; try with_reducible rfl)
                    try simp only [Act.put, List.getElem_toArray, List.getElem_cons_succ, List.getElem_cons_zero, List.setIfInBounds_toArray, List.set_cons_zero, List.set_cons_succ]
                    refine wpAnyH_take (i := 2) (v := ?v2c) rfl (by kernel_rfl) (by kernel_rfl) (by kernel_rfl) (fun _ _ _ h => h) (Or.inl ⟨by rfl, ?hy2c⟩) (by assumption) ?_
                    case hy2c => (intro w hSw; (try dsimp only at hSw); go_simp; try with_reducible rfl)
                    try simp only [Act.put, List.getElem_toArray, List.getElem_cons_succ, List.getElem_cons_zero, List.setIfInBounds_toArray, List.set_cons_zero, List.set_cons_succ]
                    refine wpAnyH_ready (rs := [3]) (by kernel_rfl) (by simp) ?_
                    refine AllReadyH.cons rfl (fun K hK => ?_) AllReadyH.nil
                    go_simp
                    go_at_call 53
                    refine (HA.out _ (Below.refl _ _).drew).mono ?_
                    rintro e w6 ⟨rfl, hb6⟩
                    have hq6 : Below wr.heap.size wr w6 := (Below.refl wr.heap.size wr).drew.trans hb6
                    have z0 := (hq6.cell (p := ⟨w.heap.size, 0, none⟩) (by show w.heap.size < wr.heap.size; omega)).trans x0
                    have z1 := (hq6.cell (p := ⟨w.heap.size, 1, none⟩) (by show w.heap.size < wr.heap.size; omega)).trans x1
                    go_wp2_with fail
                    refine hK.out _ _ ?hS3c (fun hHeld => ?_)
                    case hS3c => (try dsimp only); exact ⟨z0, z1⟩
                    clear hK K
                    try simp only [Act.put, List.getElem_toArray, List.getElem_cons_succ, List.getElem_cons_zero, List.setIfInBounds_toArray, List.set_cons_zero, List.set_cons_succ]
                    refine wpAnyH_take (i := 4) (v := ?v4c) rfl (by kernel_rfl) (by kernel_rfl) (by kernel_rfl) (fun _ _ _ h => h) (Or.inl ⟨by rfl, ?hy4c⟩) (by assumption) ?_
                    case hy4c => (intro w hSw; (try dsimp only at hSw); go_simp; try with_reducible rfl)
                    try simp only [Act.put, List.getElem_toArray, List.getElem_cons_succ, List.getElem_cons_zero, List.setIfInBounds_toArray, List.set_cons_zero, List.set_cons_succ]
                    refine wpAnyH_take (i := 5) (v := ?v5c) rfl (by kernel_rfl) (by kernel_rfl) (by kernel_rfl) (fun _ _ _ h => h) (Or.inl ⟨by rfl, ?hy5c⟩) (by assumption) ?_
                    case hy5c => (intro w hSw; (try dsimp only at hSw); go_simp; try with_reducible rfl)
                    try simp only [Act.put, List.getElem_toArray, List.getElem_cons_succ, List.getElem_cons_zero, List.setIfInBounds_toArray, List.set_cons_zero, List.set_cons_succ]
                    refine wpAnyH_take (i := 6) (v := ?v6c) rfl (by kernel_rfl) (by kernel_rfl) (by kernel_rfl) (fun _ _ _ h => h) (Or.inl ⟨by rfl, ?hy6c⟩) (by assumption) ?_
                    case hy6c => (intro w hSw; (try dsimp only at hSw); go_simp; try with_reducible rfl)
                    try simp only [Act.put, List.getElem_toArray, List.getElem_cons_succ, List.getElem_cons_zero, List.setIfInBounds_toArray, List.set_cons_zero, List.set_cons_succ]
                    refine wpAnyH_take (i := 7) (v := ?v7c) rfl (by kernel_rfl) (by kernel_rfl) (by kernel_rfl) (fun _ _ _ h => h) (Or.inl ⟨by rfl, ?hy7c⟩) (by assumption) ?_
                    case hy7c => (intro w hSw; (try dsimp only at hSw); go_simp; try with_reducible rfl)
                    try simp only [Act.put, List.getElem_toArray, List.getElem_cons_succ, List.getElem_cons_zero, List.setIfInBounds_toArray, List.set_cons_zero, List.set_cons_succ]
                    refine wpAnyH_take (i := 8) (v := ?v8c) rfl (by kernel_rfl) (by kernel_rfl) (by kernel_rfl) (fun _ _ _ h => h) (Or.inl ⟨by rfl, ?hy8c⟩) (by assumption) ?_
                    case hy8c => (intro w hSw; (try dsimp only at hSw); go_simp; try with_reducible rfl)
                    try simp only [Act.put, List.getElem_toArray, List.getElem_cons_succ, List.getElem_cons_zero, List.setIfInBounds_toArray, List.set_cons_zero, List.set_cons_succ]
                    refine wpAnyH_take (i := 9) (v := ?v9c) rfl (by kernel_rfl) (by kernel_rfl) (by kernel_rfl) (fun _ _ _ h => h) (Or.inl ⟨by rfl, ?hy9c⟩) (by assumption) ?_
                    case hy9c => (intro w hSw; (try dsimp only at hSw); go_simp; try with_reducible rfl)
                    try simp only [Act.put, List.getElem_toArray, List.getElem_cons_succ, List.getElem_cons_zero, List.setIfInBounds_toArray, List.set_cons_zero, List.set_cons_succ]
                    refine wpAnyH_ready (rs := [10]) (by kernel_rfl) (by simp) ?_
                    refine AllReadyH.cons rfl (fun K hK => ?_) AllReadyH.nil
                    go_simp
                    go_at_call 53
                    refine (HT.out _ hq6).mono ?_
                    rintro e w7 ⟨rfl, hb7⟩
                    have hq7 : Below wr.heap.size wr w7 := hq6.trans (hb7.mono hq6.size)
                    have y0 := (hq7.cell (p := ⟨w.heap.size, 0, none⟩) (by show w.heap.size < wr.heap.size; omega)).trans x0
                    have y1 := (hq7.cell (p := ⟨w.heap.size, 1, none⟩) (by show w.heap.size < wr.heap.size; omega)).trans x1
                    go_wp2_with fail
                    refine hK.out _ _ ?hS10c (fun hHeld => ?_)
                    case hS10c => (try dsimp only); exact ⟨y0, y1⟩
                    clear hK K
                    try simp only [Act.put, List.getElem_toArray, List.getElem_cons_succ, List.getElem_cons_zero, List.setIfInBounds_toArray, List.set_cons_zero, List.set_cons_succ]
                    refine wpAnyH_take (i := 11) (v := ?v11c) rfl (by kernel_rfl) (by kernel_rfl) (by kernel_rfl) (fun _ _ _ h => h) (Or.inl ⟨by rfl, ?hy11c⟩) (by assumption) ?_
                    case hy11c => (intro w hSw; (try dsimp only at hSw); go_simp; try with_reducible rfl)
                    try simp only [Act.put, List.getElem_toArray, List.getElem_cons_succ, List.getElem_cons_zero, List.setIfInBounds_toArray, List.set_cons_zero, List.set_cons_succ]
                    refine wpAnyH_take (i := 12) (v := ?v12c) rfl (by kernel_rfl) (by kernel_rfl) (by kernel_rfl) (fun _ _ _ h => h) (Or.inl ⟨by rfl, ?hy12c⟩) (by assumption) ?_
                    case hy12c => (intro w hSw; (try dsimp only at hSw); go_simp; try with_reducible rfl)
                    try simp only [Act.put, List.getElem_toArray, List.getElem_cons_succ, List.getElem_cons_zero, List.setIfInBounds_toArray, List.set_cons_zero, List.set_cons_succ]
                    refine wpAnyH_take (i := 13) (v := ?v13c) rfl (by kernel_rfl) (by kernel_rfl) (by kernel_rfl) (fun _ _ _ h => h) (Or.inl ⟨by rfl, ?hy13c⟩) (by assumption) ?_
                    case hy13c => (intro w hSw; (try dsimp only at hSw); go_simp; try with_reducible rfl)
                    try simp only [Act.put, List.getElem_toArray, List.getElem_cons_succ, List.getElem_cons_zero, List.setIfInBounds_toArray, List.set_cons_zero, List.set_cons_succ]
                    refine wpAnyH_take (i := 14) (v := ?v14c) rfl (by kernel_rfl) (by kernel_rfl) (by kernel_rfl) (fun _ _ _ h => h) (Or.inl ⟨by rfl, ?hy14c⟩) (by assumption) ?_
                    case hy14c => (intro w hSw; (try dsimp only at hSw); go_simp; try with_reducible rfl)
                    try simp only [Act.put, List.getElem_toArray, List.getElem_cons_succ, List.getElem_cons_zero, List.setIfInBounds_toArray, List.set_cons_zero, List.set_cons_succ]
                    refine wpAnyH_take (i := 15) (v := ?v15c) rfl (by kernel_rfl) (by kernel_rfl) (by kernel_rfl) (fun _ _ _ h => h) (Or.inl ⟨by rfl, ?hy15c⟩) (by assumption) ?_
                    case hy15c => (intro w hSw; (try dsimp only at hSw); go_simp; try with_reducible rfl)
                    try simp only [Act.put, List.getElem_toArray, List.getElem_cons_succ, List.getElem_cons_zero, List.setIfInBounds_toArray, List.set_cons_zero, List.set_cons_succ]
                    refine wpAnyH_take (i := 16) (v := ?v16c) rfl (by kernel_rfl) (by kernel_rfl) (by kernel_rfl) (fun _ _ _ h => h) (Or.inl ⟨by rfl, ?hy16c⟩) (by assumption) ?_
                    case hy16c => (intro w hSw; (try dsimp only at hSw); go_simp; try with_reducible rfl)
                    try simp only [Act.put, List.getElem_toArray, List.getElem_cons_succ, List.getElem_cons_zero, List.setIfInBounds_toArray, List.set_cons_zero, List.set_cons_succ]
                    refine wpAnyH_take (i := 17) (v := ?v17c) rfl (by kernel_rfl) (by kernel_rfl) (by kernel_rfl) (fun _ _ _ h => h) (Or.inl ⟨by rfl, ?hy17c⟩) (by assumption) ?_
                    case hy17c => (intro w hSw; (try dsimp only at hSw); go_simp; try with_reducible rfl)
                    try simp only [Act.put, List.getElem_toArray, List.getElem_cons_succ, List.getElem_cons_zero, List.setIfInBounds_toArray, List.set_cons_zero, List.set_cons_succ]
                    refine wpAnyH_take (i := 18) (v := ?v18c) rfl (by kernel_rfl) (by kernel_rfl) (by kernel_rfl) (fun _ _ _ h => h) (Or.inl ⟨by rfl, ?hy18c⟩) (by assumption) ?_
                    case hy18c => (intro w hSw; (try dsimp only at hSw); go_simp; try with_reducible rfl)
                    try simp only [Act.put, List.getElem_toArray, List.getElem_cons_succ, List.getElem_cons_zero, List.setIfInBounds_toArray, List.set_cons_zero, List.set_cons_succ]
                    refine wpAnyH_ready (rs := [19]) (by kernel_rfl) (by simp) ?_
                    refine AllReadyH.cons rfl (fun K hK => ?_) AllReadyH.nil
                    go_simp
                    go_at_call 53
                    refine (HF.out _ hq7).mono ?_
                    rintro e w8 ⟨rfl, hb8⟩
                    have hq8 : Below wr.heap.size wr w8 := hq7.trans (hb8.mono hq7.size)
                    have u0 := (hq8.cell (p := ⟨w.heap.size, 0, none⟩) (by show w.heap.size < wr.heap.size; omega)).trans x0
                    have u1 := (hq8.cell (p := ⟨w.heap.size, 1, none⟩) (by show w.heap.size < wr.heap.size; omega)).trans x1
                    go_wp2_with fail
                    refine hK.out _ _ ?hS19c (fun hHeld => ?_)
                    case hS19c => (try dsimp only); exact ⟨u0, u1⟩
                    clear hK K
                    try simp only [Act.put, List.getElem_toArray, List.getElem_cons_succ, List.getElem_cons_zero, List.setIfInBounds_toArray, List.set_cons_zero, List.set_cons_succ]
                    refine wpAnyH_take (i := 20) (v := ?v20c) rfl (by kernel_rfl) (by kernel_rfl) (by kernel_rfl) (fun _ _ _ h => h) (Or.inl ⟨by rfl, ?hy20c⟩) (by assumption) ?_
                    case hy20c => (intro w hSw; (try dsimp only at hSw); go_simp; try with_reducible rfl)
                    try simp only [Act.put, List.getElem_toArray, List.getElem_cons_succ, List.getElem_cons_zero, List.setIfInBounds_toArray, List.set_cons_zero, List.set_cons_succ]
                    refine wpAnyH_done (by kernel_rfl) ?_ _
                    clear n4
                    go_wp2
                    go_roundw
                    case rel => exact ⟨j + 1, gl, cl, by omega, by go_num, by rw [HOB.out], hne, by have := hq8.size; omega, Lib.hid (by rw [HOB.out]; exact owns_below HO.out hq8), Lib.hid (HSW.out.below hq8 hgl2), Lib.hid (HB.out.trans (hq8.mono hq))⟩
                    case measure => simp [intOf]; omega
                  | true =>
                    have HOB := Lib.hid (HYj.out (by rw [HY.out, ha, ht, hf]; rfl))
                    rw [hf] at HF
                    clear ha ht hf HY HYj HNj HIJ
                    go_wp2
                    have n4 := wrap_three hn3
                    refine wp_region_held_drew (S := (fun w' => w'.cell? ⟨w.heap.size, 0, none⟩ = some (.int .i64 (kk : Int)) ∧ w'.cell? ⟨w.heap.size, 1, none⟩ = some (.slice G ps.length c))) (by kernel_rfl) ?hS0d (fun hHeld => ?_)
                    case hS0d => exact ⟨x0, x1⟩
                    refine wpAnyH_take (i := 0) (v := ?v0d) rfl (by kernel_rfl) (by kernel_rfl) (by kernel_rfl) (fun _ _ _ h => h) (Or.inl ⟨by rfl, ?hy0d⟩) (by assumption) ?_
                    case hy0d => (intro w hSw; (try dsimp only at hSw); go_simp; try with_reducible rfl)
                    try simp only [Act.put, List.getElem_toArray, List.getElem_cons_zero, List.setIfInBounds_toArray, List.set_cons_zero, List.set_cons_succ]
                    refine wpAnyH_take (i := 1) (v := ?v1d) rfl (by kernel_rfl) (by kernel_rfl) (by kernel_rfl) (fun _ _ _ h => h) (Or.inl ⟨by rfl, ?hy1d⟩) (by assumption) ?_
                    case hy1d => (intro w hSw; (try dsimp only at hSw); go_simp; try with_reducible rfl)
                    try simp only [Act.put, List.getElem_toArray, List.getElem_cons_succ, List.getElem_cons_zero, List.setIfInBounds_toArray, List.set_cons_zero, List.set_cons_succ]
                    refine wpAnyH_take (i := 2) (v := ?v2d) rfl (by kernel_rfl) (by kernel_rfl) (by kernel_rfl) (fun _ _ _ h => h) (Or.inl ⟨by rfl, ?hy2d⟩) (by assumption) ?_
                    case hy2d => (intro w hSw; (try dsimp only at hSw); go_simp; try with_reducible rfl)
                    try simp only [Act.put, List.getElem_toArray, List.getElem_cons_succ, List.getElem_cons_zero, List.setIfInBounds_toArray, List.set_cons_zero, List.set_cons_succ]
                    refine wpAnyH_ready (rs := [3]) (by kernel_rfl) (by simp) ?_
                    refine AllReadyH.cons rfl (fun K hK => ?_) AllReadyH.nil
                    go_simp
                    go_at_call 53
                    refine (HA.out _ (Below.refl _ _).drew).mono ?_
                    rintro e w6 ⟨rfl, hb6⟩
                    have hq6 : Below wr.heap.size wr w6 := (Below.refl wr.heap.size wr).drew.trans hb6
                    have z0 := (hq6.cell (p := ⟨w.heap.size, 0, none⟩) (by show w.heap.size < wr.heap.size; omega)).trans x0
                    have z1 := (hq6.cell (p := ⟨w.heap.size, 1, none⟩) (by show w.heap.size < wr.heap.size; omega)).trans x1
                    go_wp2_with fail
                    refine hK.out _ _ ?hS3d (fun hHeld => ?_)
                    case hS3d => (try dsimp only); exact ⟨z0, z1⟩
                    clear hK K
                    try simp only [Act.put, List.getElem_toArray, List.getElem_cons_succ, List.getElem_cons_zero, List.setIfInBounds_toArray, List.set_cons_zero, List.set_cons_succ]
                    refine wpAnyH_take (i := 4) (v := ?v4d) rfl (by kernel_rfl) (by kernel_rfl) (by kernel_rfl) (fun _ _ _ h => h) (Or.inl ⟨by rfl, ?hy4d⟩) (by assumption) ?_
                    case hy4d => (intro w hSw; (try dsimp only at hSw); go_simp; try with_reducible rfl)
                    try simp only [Act.put, List.getElem_toArray, List.getElem_cons_succ, List.getElem_cons_zero, List.setIfInBounds_toArray, List.set_cons_zero, List.set_cons_succ]
                    refine wpAnyH_take (i := 5) (v := ?v5d) rfl (by kernel_rfl) (by kernel_rfl) (by kernel_rfl) (fun _ _ _ h => h) (Or.inl ⟨by rfl, ?hy5d⟩) (by assumption) ?_
                    case hy5d => (intro w hSw; (try dsimp only at hSw); go_simp; try with_reducible rfl)
                    try simp only [Act.put, List.getElem_toArray, List.getElem_cons_succ, List.getElem_cons_zero, List.setIfInBounds_toArray, List.set_cons_zero, List.set_cons_succ]
                    refine wpAnyH_take (i := 6) (v := ?v6d) rfl (by kernel_rfl) (by kernel_rfl) (by kernel_rfl) (fun _ _ _ h => h) (Or.inl ⟨by rfl, ?hy6d⟩) (by assumption) ?_
                    case hy6d => (intro w hSw; (try dsimp only at hSw); go_simp; try with_reducible rfl)
                    try simp only [Act.put, List.getElem_toArray, List.getElem_cons_succ, List.getElem_cons_zero, List.setIfInBounds_toArray, List.set_cons_zero, List.set_cons_succ]
                    refine wpAnyH_take (i := 7) (v := ?v7d) rfl (by kernel_rfl) (by kernel_rfl) (by kernel_rfl) (fun _ _ _ h => h) (Or.inl ⟨by rfl, ?hy7d⟩) (by assumption) ?_
                    case hy7d => (intro w hSw; (try dsimp only at hSw); go_simp; try with_reducible rfl)
                    try simp only [Act.put, List.getElem_toArray, List.getElem_cons_succ, List.getElem_cons_zero, List.setIfInBounds_toArray, List.set_cons_zero, List.set_cons_succ]
                    refine wpAnyH_take (i := 8) (v := ?v8d) rfl (by kernel_rfl) (by kernel_rfl) (by kernel_rfl) (fun _ _ _ h => h) (Or.inl ⟨by rfl, ?hy8d⟩) (by assumption) ?_
                    case hy8d => (intro w hSw; (try dsimp only at hSw); go_simp; try with_reducible rfl)
                    try simp only [Act.put, List.getElem_toArray, List.getElem_cons_succ, List.getElem_cons_zero, List.setIfInBounds_toArray, List.set_cons_zero, List.set_cons_succ]
                    refine wpAnyH_take (i := 9) (v := ?v9d) rfl (by kernel_rfl) (by kernel_rfl) (by kernel_rfl) (fun _ _ _ h => h) (Or.inl ⟨by rfl, ?hy9d⟩) (by assumption) ?_
                    case hy9d => (intro w hSw; (try dsimp only at hSw); go_simp; try with_reducible rfl)
                    try simp only [Act.put, List.getElem_toArray, List.getElem_cons_succ, List.getElem_cons_zero, List.setIfInBounds_toArray, List.set_cons_zero, List.set_cons_succ]
                    refine wpAnyH_ready (rs := [10]) (by kernel_rfl) (by simp) ?_
                    refine AllReadyH.cons rfl (fun K hK => ?_) AllReadyH.nil
                    go_simp
                    go_at_call 53
                    refine (HT.out _ hq6).mono ?_
                    rintro e w7 ⟨rfl, hb7⟩
                    have hq7 : Below wr.heap.size wr w7 := hq6.trans (hb7.mono hq6.size)
                    have y0 := (hq7.cell (p := ⟨w.heap.size, 0, none⟩) (by show w.heap.size < wr.heap.size; omega)).trans x0
                    have y1 := (hq7.cell (p := ⟨w.heap.size, 1, none⟩) (by show w.heap.size < wr.heap.size; omega)).trans x1
                    go_wp2_with fail
                    refine hK.out _ _ ?hS10d (fun hHeld => ?_)
                    case hS10d => (try dsimp only); exact ⟨y0, y1⟩
                    clear hK K
                    try simp only [Act.put, List.getElem_toArray, List.getElem_cons_succ, List.getElem_cons_zero, List.setIfInBounds_toArray, List.set_cons_zero, List.set_cons_succ]
                    refine wpAnyH_take (i := 11) (v := ?v11d) rfl (by kernel_rfl) (by kernel_rfl) (by kernel_rfl) (fun _ _ _ h => h) (Or.inl ⟨by rfl, ?hy11d⟩) (by assumption) ?_
                    case hy11d => (intro w hSw; (try dsimp only at hSw); go_simp; try with_reducible rfl)
                    try simp only [Act.put, List.getElem_toArray, List.getElem_cons_succ, List.getElem_cons_zero, List.setIfInBounds_toArray, List.set_cons_zero, List.set_cons_succ]
                    refine wpAnyH_take (i := 12) (v := ?v12d) rfl (by kernel_rfl) (by kernel_rfl) (by kernel_rfl) (fun _ _ _ h => h) (Or.inl ⟨by rfl, ?hy12d⟩) (by assumption) ?_
                    case hy12d => (intro w hSw; (try dsimp only at hSw); go_simp; try with_reducible rfl)
                    try simp only [Act.put, List.getElem_toArray, List.getElem_cons_succ, List.getElem_cons_zero, List.setIfInBounds_toArray, List.set_cons_zero, List.set_cons_succ]
                    refine wpAnyH_take (i := 13) (v := ?v13d) rfl (by kernel_rfl) (by kernel_rfl) (by kernel_rfl) (fun _ _ _ h => h) (Or.inl ⟨by rfl, ?hy13d⟩) (by assumption) ?_
                    case hy13d => (intro w hSw; (try dsimp only at hSw); go_simp; try with_reducible rfl)
                    try simp only [Act.put, List.getElem_toArray, List.getElem_cons_succ, List.getElem_cons_zero, List.setIfInBounds_toArray, List.set_cons_zero, List.set_cons_succ]
                    refine wpAnyH_take (i := 14) (v := ?v14d) rfl (by kernel_rfl) (by kernel_rfl) (by kernel_rfl) (fun _ _ _ h => h) (Or.inl ⟨by rfl, ?hy14d⟩) (by assumption) ?_
                    case hy14d => (intro w hSw; (try dsimp only at hSw); go_simp; try with_reducible rfl)
                    try simp only [Act.put, List.getElem_toArray, List.getElem_cons_succ, List.getElem_cons_zero, List.setIfInBounds_toArray, List.set_cons_zero, List.set_cons_succ]
                    refine wpAnyH_take (i := 15) (v := ?v15d) rfl (by kernel_rfl) (by kernel_rfl) (by kernel_rfl) (fun _ _ _ h => h) (Or.inl ⟨by rfl, ?hy15d⟩) (by assumption) ?_
                    case hy15d => (intro w hSw; (try dsimp only at hSw); go_simp; try with_reducible rfl)
                    try simp only [Act.put, List.getElem_toArray, List.getElem_cons_succ, List.getElem_cons_zero, List.setIfInBounds_toArray, List.set_cons_zero, List.set_cons_succ]
                    refine wpAnyH_take (i := 16) (v := ?v16d) rfl (by kernel_rfl) (by kernel_rfl) (by kernel_rfl) (fun _ _ _ h => h) (Or.inl ⟨by rfl, ?hy16d⟩) (by assumption) ?_
                    case hy16d => (intro w hSw; (try dsimp only at hSw); go_simp; try with_reducible rfl)
                    try simp only [Act.put, List.getElem_toArray, List.getElem_cons_succ, List.getElem_cons_zero, List.setIfInBounds_toArray, List.set_cons_zero, List.set_cons_succ]
                    refine wpAnyH_take (i := 17) (v := ?v17d) rfl (by kernel_rfl) (by kernel_rfl) (by kernel_rfl) (fun _ _ _ h => h) (Or.inl ⟨by rfl, ?hy17d⟩) (by assumption) ?_
                    case hy17d => (intro w hSw; (try dsimp only at hSw); go_simp; try with_reducible rfl)
                    try simp only [Act.put, List.getElem_toArray, List.getElem_cons_succ, List.getElem_cons_zero, List.setIfInBounds_toArray, List.set_cons_zero, List.set_cons_succ]
                    refine wpAnyH_take (i := 18) (v := ?v18d) rfl (by kernel_rfl) (by kernel_rfl) (by kernel_rfl) (fun _ _ _ h => h) (Or.inl ⟨by rfl, ?hy18d⟩) (by assumption) ?_
                    case hy18d => (intro w hSw; (try dsimp only at hSw); go_simp; try with_reducible rfl)
                    try simp only [Act.put, List.getElem_toArray, List.getElem_cons_succ, List.getElem_cons_zero, List.setIfInBounds_toArray, List.set_cons_zero, List.set_cons_succ]
                    refine wpAnyH_ready (rs := [19]) (by kernel_rfl) (by simp) ?_
                    refine AllReadyH.cons rfl (fun K hK => ?_) AllReadyH.nil
                    go_simp
                    go_at_call 53
                    refine (HF.out _ hq7).mono ?_
                    rintro e w8 ⟨rfl, hb8⟩
                    have hq8 : Below wr.heap.size wr w8 := hq7.trans (hb8.mono hq7.size)
                    have u0 := (hq8.cell (p := ⟨w.heap.size, 0, none⟩) (by show w.heap.size < wr.heap.size; omega)).trans x0
                    have u1 := (hq8.cell (p := ⟨w.heap.size, 1, none⟩) (by show w.heap.size < wr.heap.size; omega)).trans x1
                    go_wp2_with fail
                    refine hK.out _ _ ?hS19d (fun hHeld => ?_)
                    case hS19d => (try dsimp only); exact ⟨u0, u1⟩
                    clear hK K
                    try simp only [Act.put, List.getElem_toArray, List.getElem_cons_succ, List.getElem_cons_zero, List.setIfInBounds_toArray, List.set_cons_zero, List.set_cons_succ]
                    refine wpAnyH_take (i := 20) (v := ?v20d) rfl (by kernel_rfl) (by kernel_rfl) (by kernel_rfl) (fun _ _ _ h => h) (Or.inl ⟨by rfl, ?hy20d⟩) (by assumption) ?_
                    case hy20d => (intro w hSw; (try dsimp only at hSw); go_simp; try with_reducible rfl)
                    try simp only [Act.put, List.getElem_toArray, List.getElem_cons_succ, List.getElem_cons_zero, List.setIfInBounds_toArray, List.set_cons_zero, List.set_cons_succ]
                    refine wpAnyH_done (by kernel_rfl) ?_ _
                    clear n4
                    have OQ := Lib.hid (owns_below HO.out hq8)
                    have CP := Lib.hid (spec_put2 w3.heap.size gl cl (OT n j) y (by omega) w8 OQ.out)
                    have s8 := hq8.size
                    go_wp2_with fail
                    refine CP.out.mono ?_
                    rintro e w9 ⟨gp, cp, rfl, ho9, hb9, hk9, hat9⟩
                    have B9 := Lib.hid ((HB.out.trans (hq8.mono hq)).trans (hb9.mono (Nat.le_refl _)))
                    have S9 : Hid (StrsAt w9 gw 0 ws) := Lib.hid fun k hk => (hk9.cell (p := ⟨gw, 0 + k, none⟩) (by show gw < w8.heap.size; omega) (by show gw ≠ gl; omega)).trans ((HSW.out.below hq8 hgl2) k hk)
                    have hg9 : gp ≠ gw := by rcases hat9 with h | h <;> omega
                    have O9 := Lib.hid ho9
                    have hs9 := hk9.1
                    clear ho9 hb9 hk9 hat9 CP
                    go_wp2
                    go_roundw
                    case rel => exact ⟨j + 1, gp, cp, by omega, by go_num, by rw [HOB.out], hg9, by omega, Lib.hid (by rw [HOB.out]; exact O9.out), S9, B9⟩
                    case measure => simp [intOf]; omega
            · obtain rfl : j = ws.length := by omega
              have HO2 := HO.out
              rw [HROWn.out] at HO2
              rw [HROWn.out]
              have HO3 := Lib.hid HO2
              clear HO2
              go_wp2
              go_roundw
              case rel => exact ⟨n + 1, gl, cl, by omega, by go_num, rfl, HO3, HB⟩
              case measure => simp [intOf]; omega
        · obtain rfl : n = 3 := by omega
          have HO2 := HO.out
          rw [HALL.out] at HO2
          rw [HALL.out]
          have HO3 := Lib.hid HO2
          have h5 := RB.out wr BR.out
          obtain ⟨d0, d1, d2⟩ := sh_cells h5
          have HH := Lib.hid h5
          obtain ⟨x0, x1⟩ := XB.out wr BR.out
          clear HO2 h5
          by_cases h8 : LW.length ≤ 8
          · have hg8 : ¬ (LW.length : Int) > 8 := by omega
            have HN : Hid (R = some ((kk : Int), LW)) := Lib.hid (by rw [HR2.out, if_pos h8])
            go_wp2
            refine bodyPost_ret (results_sh rfl _ _ (w.heap.size + 1) 26 #[.int .i64 (kk : Int), .slice (some ⟨gl, 0, none⟩) LW.length cl] (0, 0) _ rfl (sh_stores HH.out) Tryz.underlying26 rfl (by kernel_rfl)) rfl ?_
            rw [HN.out]
            exact ⟨_, rfl, ⟨some ⟨gl, 0, none⟩, cl, rfl, World.ownsRow.mono (owns_stores HO3.out (by omega)) (by omega)⟩, below_stores (BB.out wr BR.out) (by omega) _ _⟩
          · have hg8 : (LW.length : Int) > 8 := by omega
            have HN : Hid (R = none) := Lib.hid (by rw [HR2.out, if_neg h8])
            go_wp2
            refine bodyPost_ret (results_sh rfl _ _ (w.heap.size + 1) 26 #[.int .i64 0, .slice none 0 0] (0, 0) _ rfl (sh_stores HH.out) Tryz.underlying26 rfl (by kernel_rfl)) rfl ?_
            rw [HN.out]
            exact HNO.out wr BR.out
end Go.Proofs.YtalclebehbdliaaGreat
