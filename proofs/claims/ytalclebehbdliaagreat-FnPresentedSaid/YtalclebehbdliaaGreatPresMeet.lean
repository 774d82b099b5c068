/-
  The model's MeetShifts: at every two shifts in memory the forbidden words of both, in new memory; nothing that was there before is changed.
-/
import Derived.Test.YtalclebehbdliaaGreatPresCopy
import Derived.Test.YtalclebehbdliaaGreatMidTexts
import Derived.Test.YtalclebehbdliaaGreatBaseTexts
import Derived.OneCell
import Derived.Deep.RegionLaw
namespace Go.Proofs.YtalclebehbdliaaGreat
open Go Go.RowKit

def meetS (L : Int) (ps : List ByteArray) (L' : Int) (qs : List ByteArray) : Option (Int × List ByteArray) := if (((isShift L ps && isShift L' qs) && decide (L = L')) && decide ((putAll qs ps).length ≤ 8)) = true then some (L, putAll qs ps) else none
theorem putAll_one {qs ps : List ByteArray} {k : Nat} (hk : k < qs.length) : putAll (qs.take (k + 1)) ps = putW (qs.getD k ByteArray.empty) (putAll (qs.take k) ps) := by
  rw [take_next qs k hk, putAll_app]; rfl
theorem putW_le (x : ByteArray) : ∀ ps : List ByteArray, (putW x ps).length ≤ ps.length + 1
  | [] => by simp [putW]
  | y :: ps => by
    have := putW_le x ps
    unfold putW
    split
    · simp only [List.length_cons]; omega
    · split <;> simp only [List.length_cons] <;> omega
theorem putAll_le : ∀ (ws l : List ByteArray), (putAll ws l).length ≤ ws.length + l.length
  | [], l => by simp [putAll]
  | x :: ws, l => by
    have h1 := putAll_le ws (putW x l)
    have h2 := putW_le x l
    have e : putAll (x :: ws) l = putAll ws (putW x l) := rfl
    rw [e, List.length_cons]
    omega

set_option maxRecDepth 100000 in
set_option maxHeartbeats 3200000 in
theorem spec_meetShifts (L L' : Int) (G G' : Option Addr) (c c' : Nat) (ps qs : List ByteArray) (hl : ps.length ≤ 1048576) (hl' : qs.length ≤ 1048576) (hz : ∀ k, k < ps.length → (ps.getD k ByteArray.empty).size ≤ 2147483648) (hz' : ∀ k, k < qs.length → (qs.getD k ByteArray.empty).size ≤ 2147483648) (w : World) (hs : StrsG w G ps) (hs' : StrsG w G' qs) :
    Calls Tryz.prog 14 #[.agg #[.int .i64 L, .slice G ps.length c], .agg #[.int .i64 L', .slice G' qs.length c']] w (NewShB (meetS L ps L' qs) w) := by
  have HI := Lib.hid (fun w' (h : Below w.heap.size w w') => spec_isShift L G c ps hl (fun k hk => by have := hz k hk; omega) w' (hs.below h))
  have HI' := Lib.hid (fun w' (h : Below w.heap.size w w') => spec_isShift L' G' c' qs hl' (fun k hk => by have := hz' k hk; omega) w' (hs'.below h))
  have HCP := Lib.hid (fun w' (h : Below w.heap.size w w') => spec_l3Copy L G c ps hl w' (hs.below h))
  have HQ := Lib.hid (fun w' (h : Below w.heap.size w w') => hs'.below h)
  obtain ⟨R, hR⟩ : ∃ R, meetS L ps L' qs = R := ⟨_, rfl⟩
  have HR : Hid (meetS L ps L' qs = if (((isShift L ps && isShift L' qs) && decide (L = L')) && decide ((putAll qs ps).length ≤ 8)) = true then some (L, putAll qs ps) else none) := Lib.hid rfl
  rw [hR] at HR ⊢
  clear hs hs' hz hz' hR
  go_enter Tryz.func14, Tryz.ntmps14
  go_wp2_with fail
  obtain ⟨Wb, hWb⟩ : ∃ Wb, ((w.alloc (.cells #[.int .i64 L, .slice G ps.length c] 26)).alloc (.cells #[.int .i64 L', .slice G' qs.length c'] 26)).alloc (.cells #[.int .i64 0, .slice none 0 0] 26) = Wb := ⟨_, rfl⟩
  have sb : Wb.heap.size = w.heap.size + 1 + 1 + 1 := by rw [← hWb]; simp
  have xb : BoxAt Wb w.heap.size L (.slice G ps.length c) := by
    rw [← hWb]
    exact (boxAt_new w L _ 26).below (((Below.refl (w.heap.size + 1) _).alloc (by simp) _).alloc (by simp) _) (by omega)
  have xb' : BoxAt Wb (w.heap.size + 1) L' (.slice G' qs.length c') := by
    rw [← hWb]
    have h := boxAt_new (w.alloc (.cells #[.int .i64 L, .slice G ps.length c] 26)) L' (.slice G' qs.length c') 26
    rw [World.size_alloc] at h
    exact h.below ((Below.refl (w.heap.size + 1 + 1) _).alloc (by simp) _) (by omega)
  have rb : Wb.heap[w.heap.size + 1 + 1]? = some (.cells #[.int .i64 0, .slice none 0 0] 26) := by
    rw [← hWb]
    have h := heap_alloc_new ((w.alloc (.cells #[.int .i64 L, .slice G ps.length c] 26)).alloc (.cells #[.int .i64 L', .slice G' qs.length c'] 26)) (.cells #[.int .i64 0, .slice none 0 0] 26)
    rw [World.size_alloc, World.size_alloc] at h; exact h
  have bb : Below w.heap.size w Wb := by rw [← hWb]; exact (((Below.refl _ _).alloc (Nat.le_refl _) _).alloc (by simp) _).alloc (by simp; omega) _
  rw [hWb]
  clear hWb
  have XB := Lib.hid (fun w' (h : Below Wb.heap.size Wb w') => (show BoxAt w' w.heap.size L (.slice G ps.length c) ∧ BoxAt w' (w.heap.size + 1) L' (.slice G' qs.length c') from ⟨xb.below h (by omega), xb'.below h (by omega)⟩))
  have RB := Lib.hid (fun w' (h : Below Wb.heap.size Wb w') => (h.block (w.heap.size + 1 + 1) (by omega)).trans rb)
  have BB := Lib.hid (fun w' (h : Below Wb.heap.size Wb w') => bb.trans (h.mono (by omega)))
  have HNO : Hid (∀ w', Below Wb.heap.size Wb w' → NewShB none w (.returned (.tuple #[.agg #[.int .i64 0, .slice none 0 0], .bool false])) ((w'.setCell ⟨w.heap.size + 1 + 1, 0, none⟩ (.int .i64 0)).setCell ⟨w.heap.size + 1 + 1, 1, none⟩ (.slice none 0 0))) := Lib.hid fun w' h => ⟨_, rfl, ownSh_nil _ _ _, below_stores (bb.trans (h.mono (by omega))) (by omega) _ _⟩
  clear xb xb' rb bb
  refine (HI.out Wb (BB.out Wb (Below.refl _ _))).mono ?_
  rintro e w1 ⟨rfl, h1⟩
  have B1 : Hid (Below Wb.heap.size Wb w1) := Lib.hid (h1.mono (by omega))
  clear h1
  obtain ⟨⟨x0, x1⟩, ⟨x2, x3⟩⟩ := XB.out w1 B1.out
  cases hsft : isShift L ps with
  | false =>
    have HN : Hid (R = none) := Lib.hid (by rw [HR.out, hsft]; rfl)
    have h5 := RB.out w1 B1.out
    obtain ⟨d0, d1, d2⟩ := sh_cells h5
    have HH := Lib.hid h5
    clear hsft h5 HR
    go_wp2
    refine bodyPost_ret (results_sh rfl _ _ (w.heap.size + 1 + 1) 26 #[.int .i64 0, .slice none 0 0] (0, 0) _ rfl (sh_stores HH.out) Tryz.underlying26 rfl (by kernel_rfl)) rfl ?_
    rw [HN.out]
    exact HNO.out w1 B1.out
  | true =>
    go_wp2_with fail
    refine (HI'.out w1 (BB.out w1 B1.out)).mono ?_
    rintro e w2 ⟨rfl, h2⟩
    have B2 : Hid (Below Wb.heap.size Wb w2) := Lib.hid (B1.out.trans (h2.mono B1.out.size))
    clear h2 x0 x1 x2 x3
    obtain ⟨⟨x0, x1⟩, ⟨x2, x3⟩⟩ := XB.out w2 B2.out
    cases hsft' : isShift L' qs with
    | false =>
      have HN : Hid (R = none) := Lib.hid (by rw [HR.out, hsft, hsft']; rfl)
      have h5 := RB.out w2 B2.out
      obtain ⟨d0, d1, d2⟩ := sh_cells h5
      have HH := Lib.hid h5
      clear hsft hsft' h5 HR
      go_wp2
      refine bodyPost_ret (results_sh rfl _ _ (w.heap.size + 1 + 1) 26 #[.int .i64 0, .slice none 0 0] (0, 0) _ rfl (sh_stores HH.out) Tryz.underlying26 rfl (by kernel_rfl)) rfl ?_
      rw [HN.out]
      exact HNO.out w2 B2.out
    | true =>
      by_cases hLL : L = L'
      · subst hLL
        have hp8 := (isShift_letters hsft).2.2
        have hq8 := (isShift_letters hsft').2.2
        have HR2 : Hid (R = if (putAll qs ps).length ≤ 8 then some (L, putAll qs ps) else none) := Lib.hid (by
          rw [HR.out, hsft, hsft', decide_eq_true (rfl : L = L)]
          by_cases h8 : (putAll qs ps).length ≤ 8
          · rw [if_pos h8, decide_eq_true h8]; rfl
          · rw [if_neg h8, decide_eq_false h8]; rfl)
        have C3 := Lib.hid (HCP.out w2 (BB.out w2 B2.out))
        have hLL : (L == L) = true := beq_self_eq_true L
        clear hsft hsft' HR HI HI' HCP
        go_wp2_with fail
        refine C3.out.mono ?_
        rintro e w3 ⟨g3, c3, rfl, ho3, b3⟩
        have hg3 := ho3.lt g3 rfl
        have B3 := Lib.hid (b3)
        have O3 := Lib.hid (ho3.alloc (.cells #[.int .i64 L, .slice (some ⟨g3, 0, none⟩) ps.length c3] 26))
        have s3 := b3.size
        have s2 := B2.out.size
        clear ho3 b3 C3 x0 x1 x2 x3
        go_wp2
        have HBX0 := Lib.hid (heap_alloc_new w3 (.cells #[.int .i64 L, .slice (some ⟨g3, 0, none⟩) ps.length c3] 26))
        have HB0 := Lib.hid (B3.out.alloc s3 (.cells #[.int .i64 L, .slice (some ⟨g3, 0, none⟩) ps.length c3] 26))
        have HP0 : Hid (putAll (qs.take 0) ps = ps) := Lib.hid rfl
        have HPN := Lib.hid (fun k hk => putAll_one (qs := qs) (ps := ps) (k := k) hk)
        have HPL : Hid (∀ k, (putAll (qs.take k) ps).length ≤ 16) := Lib.hid fun k => by
          have h1 := putAll_le (qs.take k) ps
          have h2 := List.length_take_le k qs
          have h3 : (qs.take k).length ≤ qs.length := by rw [List.length_take]; omega
          omega
        go_loopw [7] (fun kv wr => ∃ k gl cl : Nat, k ≤ qs.length ∧ kv = .int .i64 (k : Int) ∧ gl ≠ w3.heap.size ∧ w3.heap.size < wr.heap.size ∧ Hid (wr.heap[w3.heap.size]? = some (.cells #[.int .i64 L, .slice (some ⟨gl, 0, none⟩) (putAll (qs.take k) ps).length cl] 26)) ∧ Hid (wr.ownsRow w2.heap.size 9 1 (.slice (some ⟨gl, 0, none⟩) (putAll (qs.take k) ps).length cl) (putAll (qs.take k) ps).length ((putAll (qs.take k) ps).map Value.string)) ∧ Hid (Below w2.heap.size w2 wr)) (fun kv _ => qs.length - (intOf kv).toNat)
        case atStart => exact ⟨0, g3, c3, Nat.zero_le _, rfl, by omega, by simp, by rw [HP0.out]; exact HBX0, by rw [HP0.out]; exact O3, HB0⟩
        case round =>
          clear HBX0 HB0 O3
          obtain ⟨k, gl, cl, hk, rfl, hne, hlt6, HBX, HO, HB⟩ := hrel
          have BW := Lib.hid (B2.out.trans (HB.out.mono s2))
          obtain ⟨-, ⟨x2, x3⟩⟩ := XB.out wr BW.out
          obtain ⟨d0, d1, d2⟩ := sh_cells HBX.out
          have hgl := HO.out.lt gl rfl
          by_cases hkl : k < qs.length
          · obtain ⟨bq, oq, rfl, hst, hbq⟩ := HQ.out w (Below.refl _ _) (by omega)
            have hc := (hst.below (BB.out wr BW.out) hbq) k hkl
            have hlen := HPL.out k
            have HPk := Lib.hid (HPN.out k hkl)
            have k0 : (0 : Int) ≤ (k : Int) := by omega
            have k1 : (k : Int) < (qs.length : Int) := by omega
            generalize qs.getD k ByteArray.empty = y at *
            generalize putAll (qs.take k) ps = X at *
            obtain ⟨Y, hY⟩ : ∃ Y, putAll (qs.take (k + 1)) ps = Y := ⟨_, rfl⟩
            have HY := Lib.hid hY
            rw [hY] at HPk
            have CP := Lib.hid (spec_put2 w2.heap.size gl cl X y (by omega) wr.drew HO.out.drew)
            clear hst hY
            go_wp2
            go_region_law (first | (go_simp; go_at_call 54; refine CP.out.mono ?_; rintro e w6 ⟨gp, cp, rfl, ho6, hb6, hk6, hat6⟩; have z0 := (hk6.cell (p := ⟨w3.heap.size, 1, none⟩) (by show w3.heap.size < wr.heap.size; omega) (by show w3.heap.size ≠ gl; omega)).trans d1; have h6 := (hk6.2 w3.heap.size (by show w3.heap.size < wr.heap.size; omega) (by omega)).trans HBX.out; obtain ⟨f0, f1, f2⟩ := sh_cells h6))
            all_goals (
              have hm6 := heap_setCell_same w6 w3.heap.size 1 _ _ (.slice (some ⟨gp, 0, none⟩) (putW y X).length cp) h6
              have hpne : gp ≠ w3.heap.size := by
                have h9 : wr.drew.heap.size = wr.heap.size := rfl
                rcases hat6 with h | h <;> omega
              have hown := ownsRow_setCell_other ho6 (a := ⟨w3.heap.size, 1, none⟩) (by intro h; exact hpne (Option.some.inj h)) (.slice (some ⟨gp, 0, none⟩) (putW y X).length cp)
              have hbb := ((HB.out.trans ((Below.refl w2.heap.size wr).drew.trans hb6)).setCell (p := ⟨w3.heap.size, 1, none⟩) (by show w2.heap.size ≤ w3.heap.size; omega) (.slice (some ⟨gp, 0, none⟩) (putW y X).length cp))
              have hsz : w3.heap.size < (w6.setCell ⟨w3.heap.size, 1, none⟩ (.slice (some ⟨gp, 0, none⟩) (putW y X).length cp)).heap.size := by
                have h9 : wr.drew.heap.size = wr.heap.size := rfl
                have := hk6.1
                simp; omega
              have HM6 := Lib.hid hm6
              have HOWN := Lib.hid hown
              have HBB := Lib.hid hbb
              clear hm6 hown hbb ho6 hb6 hk6 hat6 h6 z0 f0 f1 f2
              go_wp2
              go_roundw
              case rel => exact ⟨k + 1, gp, cp, by omega, by go_num, hpne, hsz, by rw [HY.out, HPk.out]; exact Lib.hid (HM6.out.trans rfl), by rw [HY.out, HPk.out]; exact HOWN, HBB⟩
              case measure => simp [intOf]; omega)
          · obtain rfl : k = qs.length := by omega
            have HE : Hid (putAll (qs.take qs.length) ps = putAll qs ps) := Lib.hid (by rw [List.take_length])
            rw [HE.out] at HBX HO d1
            have h5 := RB.out wr BW.out
            obtain ⟨e0, e1, e2⟩ := sh_cells h5
            have HH := Lib.hid h5
            clear h5 HPN HPL HE
            generalize putAll qs ps = Z at *
            by_cases h8 : Z.length ≤ 8
            · have hg8 : ¬ (Z.length : Int) > 8 := by omega
              have HN : Hid (R = some (L, Z)) := Lib.hid (by rw [HR2.out, if_pos h8])
              go_wp2
              refine bodyPost_ret (results_sh rfl _ _ (w.heap.size + 1 + 1) 26 #[.int .i64 L, .slice (some ⟨gl, 0, none⟩) Z.length cl] (0, 0) _ rfl (sh_stores HH.out) Tryz.underlying26 rfl (by kernel_rfl)) rfl ?_
              rw [HN.out]
              exact ⟨_, rfl, ⟨some ⟨gl, 0, none⟩, cl, rfl, World.ownsRow.mono (owns_stores HO.out (by omega)) (by omega)⟩, below_stores (BB.out wr BW.out) (by omega) _ _⟩
            · have hg8 : (Z.length : Int) > 8 := by omega
              have HN : Hid (R = none) := Lib.hid (by rw [HR2.out, if_neg h8])
              go_wp2
              refine bodyPost_ret (results_sh rfl _ _ (w.heap.size + 1 + 1) 26 #[.int .i64 0, .slice none 0 0] (0, 0) _ rfl (sh_stores HH.out) Tryz.underlying26 rfl (by kernel_rfl)) rfl ?_
              rw [HN.out]
              exact HNO.out wr BW.out
      · have HN : Hid (R = none) := Lib.hid (by rw [HR.out, hsft, hsft', decide_eq_false hLL]; rfl)
        have hLL' : (L == L') = false := beq_eq_false_iff_ne.2 hLL
        have h5 := RB.out w2 B2.out
        obtain ⟨d0, d1, d2⟩ := sh_cells h5
        have HH := Lib.hid h5
        clear hsft hsft' h5 HR hLL
        go_wp2
        refine bodyPost_ret (results_sh rfl _ _ (w.heap.size + 1 + 1) 26 #[.int .i64 0, .slice none 0 0] (0, 0) _ rfl (sh_stores HH.out) Tryz.underlying26 rfl (by kernel_rfl)) rfl ?_
        rw [HN.out]
        exact HNO.out w2 B2.out
end Go.Proofs.YtalclebehbdliaaGreat
