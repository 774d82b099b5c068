/-
  The program's MultiplyPolys: what the plain words say, a list in new memory; nothing that was there before is changed.
-/
import Derived.Test.YtfbdmheaalmboaaPolyAtI
import Derived.Test.YtfbdmheaalmboaaPolyCutI
namespace Go.Proofs.Ytfbdmheaalmboaa
open Go Go.RowKit Go.Shelf

theorem cell_far_set2 {w : World} {g g' i j : Nat} {v u : Value} (hne : g ≠ g') (h : w.cell? ⟨g, i, none⟩ = some u) : (w.setCell ⟨g', j, none⟩ v).cell? ⟨g, i, none⟩ = some u := by
  have hb := heap_setCell_other w ⟨g', j, none⟩ g v hne
  unfold World.cell? at h ⊢
  rw [hb]; exact h
theorem enters_mul (args : Array Value) (w : World) : (callFunc 48 args).run Try.prog w = .ok (.enter 48 args) w := enters_of Try.func48 (by kernel_rfl) rfl args w

set_option maxRecDepth 100000 in
set_option maxHeartbeats 800000 in
theorem impl_coef (A : Option Addr) (c : Nat) (b : List Int) (hb : b.length ≤ 1000) (q : Int) (hq : q.natAbs ≤ 1000) (W : World) (hr : RowS W A b) :
    Calls Try.prog 49 #[.slice A b.length c, .int .i64 q] W fun e w' => e = .returned (.int .i64 (coefI b q)) ∧ w' = W := by
  unfold coefI
  by_cases h0 : q < 0
  · rw [if_pos (Or.inl h0)]
    clear hr
    go_enter Try.func49, Try.ntmps49
    go_wp2
    go_ret
    exact ⟨rfl, rfl⟩
  · by_cases h1 : (b.length : Int) ≤ q
    · rw [if_pos (Or.inr h1)]
      clear hr
      go_enter Try.func49, Try.ntmps49
      go_wp2
      go_ret
      exact ⟨rfl, rfl⟩
    · rw [if_neg (by omega)]
      obtain ⟨k, rfl⟩ : ∃ k : Nat, q = (k : Int) := ⟨q.toNat, by omega⟩
      rw [Int.toNat_natCast]
      obtain ⟨bb, off, rfl, hat, _⟩ := hr (by omega)
      have hc := hat k (by omega)
      have g1 : (k : Int) < (b.length : Int) := by omega
      clear hat hr
      generalize b.getD k 0 = x at *
      go_enter Try.func49, Try.ntmps49
      go_wp2
      go_ret
      exact ⟨rfl, rfl⟩

set_option maxRecDepth 100000 in
set_option maxHeartbeats 800000 in
theorem mul_term (gb gp : Nat) (A : Option Addr) (c : Nat) (b : List Int) (hb : b.length ≤ 30) (hall : ∀ k, (b.getD k 0).natAbs ≤ 1000000) (k i : Nat) (hk : k ≤ 60) (hi : i ≤ 60) (y : Int) (hy : y.natAbs ≤ 1000000) (W : World)
    (h1 : W.cell? ⟨gb, 0, none⟩ = some (.slice A b.length c)) (h2 : W.cell? ⟨gp, 0, none⟩ = some (.int .i64 (k : Int))) (hr : RowS W A b) :
    Calls Try.prog 48 #[.int .i64 (i : Int), .int .i64 y, .pointer (some ⟨gb, 0, none⟩), .pointer (some ⟨gp, 0, none⟩)] W (Scalar (.int .i64 (y * coefI b ((k : Int) - i))) W) := by
  have HC := Lib.hid (impl_coef A c b (by omega) ((k : Int) - i) (by omega) W hr)
  have h3 := coefI_abs hall ((k : Int) - i)
  have h4 : (y * coefI b ((k : Int) - i)).natAbs ≤ 1000000 * 1000000 := by
    rw [Int.natAbs_mul]
    exact Nat.mul_le_mul hy h3
  generalize coefI b ((k : Int) - i) = z at *
  have HW : Hid (RowKit.wrap64 (y * z) = y * z) := Lib.hid (by
    generalize y * z = q at *
    unfold RowKit.wrap64; omega)
  clear hall hr hy h3 h4
  go_enter Try.func48, Try.ntmps48
  go_wp2_with fail
  refine HC.out.mono ?_
  rintro e w1 ⟨rfl, hw⟩
  obtain rfl : W = w1 := hw.symm
  clear HC hw
  go_wp2
  go_ret
  exact ⟨by have := HW.out; simp [this], Below.refl _ _⟩

theorem prod_sum (gb gp : Nat) (A2 : Option Addr) (c2 : Nat) (a b : List Int) (ha : a.length ≤ 30) (hb : b.length ≤ 30) (hfa : ∀ k, (a.getD k 0).natAbs ≤ 1000000) (hfb : ∀ k, (b.getD k 0).natAbs ≤ 1000000) (k : Nat) (hk : k ≤ 60) (A : Option Addr) (c : Nat) (W : World)
    (h1 : W.cell? ⟨gb, 0, none⟩ = some (.slice A2 b.length c2)) (h2 : W.cell? ⟨gp, 0, none⟩ = some (.int .i64 (k : Int))) (hra : RowS W A a) (hrb : RowS W A2 b) :
    Calls Try.prog 47 #[.slice A a.length c, .func (.func 48) #[] #[.pointer (some ⟨gb, 0, none⟩), .pointer (some ⟨gp, 0, none⟩)]] W (Scalar (.int .i64 (prodAt a b k)) W) := by
  have hT : TermI W.heap.size W 48 #[.pointer (some ⟨gb, 0, none⟩), .pointer (some ⟨gp, 0, none⟩)] a (fun i => a.getD i 0 * coefI b ((k : Int) - i)) := by
    intro i W' hi hW
    have hi60 : i ≤ 60 := by omega
    exact mul_term gb gp A2 c2 b hb hfb k i hk hi60 (a.getD i 0) (hfa i) W' ((hW.cell (p := ⟨gb, 0, none⟩) (cell_in h1)).trans h1) ((hW.cell (p := ⟨gp, 0, none⟩) (cell_in h2)).trans h2) (hrb.below hW)
  have hB : ∀ n, n ≤ a.length → (sumTo n (fun i => a.getD i 0 * coefI b ((k : Int) - i))).natAbs ≤ 4611686018427387904 := fun n hn => by
    have h3 := sumTo_abs (n := n) (B := 1000000 * 1000000) (f := fun i => a.getD i 0 * coefI b ((k : Int) - i)) fun i _ => by
      rw [Int.natAbs_mul]
      exact Nat.mul_le_mul (hfa i) (coefI_abs hfb _)
    have h4 : n ≤ 30 := Nat.le_trans hn ha
    have h5 : n * (1000000 * 1000000) ≤ 30 * (1000000 * 1000000) := Nat.mul_le_mul_right _ h4
    exact Nat.le_trans h3 (Nat.le_trans h5 (by decide))
  exact sum_ints W.heap.size W 48 _ enters_mul A c a _ hT (Nat.le_trans ha (by decide)) hB W (Below.refl _ _) (Nat.le_refl _) hra

set_option maxRecDepth 100000 in
set_option maxHeartbeats 3200000 in
theorem impl_mulPolys (A A2 : Option Addr) (c c2 : Nat) (a b : List Int) (hna : a.length ≤ 1099511627776) (hnb : b.length ≤ 1099511627776) (w : World) (hra : RowS w A a) (hrb : RowS w A2 b) :
    Calls Try.prog 27 #[.slice A a.length c, .slice A2 b.length c2] w (NewA (mulP a b) w) := by
  obtain ⟨W1, hW1⟩ : ∃ W1, w.alloc (.cells #[.slice A2 b.length c2] 29) = W1 := ⟨_, rfl⟩
  have hb1 : Below w.heap.size w W1 := by rw [← hW1]; exact below_new
  have hbox : W1.cell? ⟨w.heap.size, 0, none⟩ = some (.slice A2 b.length c2) := by rw [← hW1]; exact box_at w _ _
  have hlt : w.heap.size < W1.heap.size := cell_in hbox
  have HBOX : Hid (∀ w', Below W1.heap.size W1 w' → w'.cell? ⟨w.heap.size, 0, none⟩ = some (.slice A2 b.length c2)) := Lib.hid fun w' hb => (hb.cell (p := ⟨w.heap.size, 0, none⟩) hlt).trans hbox
  have HA := Lib.hid (impl_isFactor A c a hna W1 (hra.below hb1))
  have HB1 := Lib.hid hb1
  cases hfa : fitsB a 30 with
  | false =>
    have hs : mulP a b = [] := by unfold mulP; rw [hfa]; rfl
    rw [hfa] at HA
    rw [hs]
    clear hra hrb hb1 hbox hs hfa
    go_enter Try.func27, Try.ntmps27
    go_wp2_with fail
    refine HA.out.mono ?_
    rintro e w2 ⟨rfl, hb2⟩
    have HB2 := Lib.hid (below_behind HB1.out hb2)
    clear hb2 hW1
    go_wp2
    go_ret
    exact ⟨_, rfl, World.ownsRow_nil _ _ _ _, HB2.out⟩
  | true =>
    have HF := Lib.hid (fun w' (hb : Below W1.heap.size W1 w') => impl_isFactor A2 c2 b hnb w' ((hrb.below hb1).below hb))
    rw [hfa] at HA
    cases hfb : fitsB b 30 with
    | false =>
      have hs : mulP a b = [] := by unfold mulP; rw [hfa, hfb]; rfl
      rw [hfb] at HF
      rw [hs]
      clear hra hrb hb1 hbox hs hfa hfb
      go_enter Try.func27, Try.ntmps27
      go_wp2_with fail
      refine HA.out.mono ?_
      rintro e w2 ⟨rfl, hb2⟩
      have k2 := HBOX.out w2 hb2
      have HF2 := Lib.hid (HF.out w2 hb2)
      have HB2 := Lib.hid (below_behind HB1.out hb2)
      clear hb2 hW1 HF
      go_wp2_with fail
      refine HF2.out.mono ?_
      rintro e w3 ⟨rfl, hb3⟩
      have HB3 := Lib.hid (below_behind HB2.out hb3)
      clear hb3
      go_wp2
      go_ret
      exact ⟨_, rfl, World.ownsRow_nil _ _ _ _, HB3.out⟩
    | true =>
      obtain ⟨j0, hj, hy0, hy1, hy2⟩ := info_parts infoInt
      obtain ⟨la, hla⟩ := fits_at hfa
      obtain ⟨lb, hlb⟩ := fits_at hfb
      rw [hfb] at HF
      rw [← prodL_cut (by rw [hfa, hfb]; rfl)]
      have HSUM : Hid (∀ (gp k : Nat) (W : World), k ≤ 60 → Below W1.heap.size W1 W → W.cell? ⟨gp, 0, none⟩ = some (.int .i64 (k : Int)) → Calls Try.prog 47 #[.slice A a.length c, .func (.func 48) #[] #[.pointer (some ⟨w.heap.size, 0, none⟩), .pointer (some ⟨gp, 0, none⟩)]] W (Scalar (.int .i64 (prodAt a b k)) W)) := Lib.hid fun gp k W hk hW hc =>
        prod_sum w.heap.size gp A2 c2 a b la lb hla hlb k hk A c W (HBOX.out W hW) hc ((hra.below hb1).below hW) ((hrb.below hb1).below hW)
      have HPL : Hid ((prodL a b).length = a.length + b.length) := Lib.hid (prodL_len a b)
      have HPA : Hid (∀ k, k < a.length + b.length → (prodL a b).getD k 0 = prodAt a b k) := Lib.hid fun k hk => prodL_at a b hk
      have HCUT := Lib.hid (fun g cap B w' => impl_cut g cap B (prodL a b) (by rw [prodL_len]; omega) w')
      have HS1 : Hid (w.heap.size ≤ W1.heap.size) := Lib.hid hb1.size
      rw [prodL_len] at HCUT
      clear hra hrb hb1 hbox hfa hfb hla hlb
      generalize prodL a b = P at *
      obtain ⟨n, hn⟩ : ∃ n, a.length + b.length = n := ⟨_, rfl⟩
      rw [hn] at HPL HPA HCUT
      have hn60 : n ≤ 60 := by omega
      go_enter Try.func27, Try.ntmps27
      go_wp2_with fail
      refine HA.out.mono ?_
      rintro e w2 ⟨rfl, hb2⟩
      have k2 := HBOX.out w2 hb2
      have HF2 := Lib.hid (HF.out w2 hb2)
      have HB2 := Lib.hid hb2
      clear hb2 hW1 HF HA
      go_wp2_with fail
      refine HF2.out.mono ?_
      rintro e w3 ⟨rfl, hb3⟩
      have HB3 := Lib.hid (HB2.out.trans (hb3.mono HB2.out.size))
      have k3 := HBOX.out w3 HB3.out
      clear hb3 HF2 k2 HB2
      have hs3 := HB3.out.size
      have hn61 : a.length + b.length ≤ 60 := by omega
      go_wp2_with (at_make; refine wpList_make_full _ rfl _ _ 29 rfl w3.heap.size 3 j0 (.int .i64 0) 1 Try.underlying29 hj hy0 hy1 .i64 .i64 _ _ (a.length + b.length) rfl rfl rfl rfl (by rw [hy2]; omega) (by unfold maxLen; omega) (Nat.le_refl _) ?_; intro w4 hown hgrow; rw [hn]; rw [hn] at hown)
      have hown0 : w4.ownsRow w3.heap.size 3 1 (.slice (some ⟨w3.heap.size, 0, none⟩) n n) n (filledI P 0 n) := by
        have e : (madeCells (Value.int .i64 0).cells (n * 1)).toList = List.replicate n (.int .i64 0) := by rw [Nat.mul_one]; exact toList_madeCells_one _ _
        rw [filledI_none, ← e]; exact hown
      have hbel : Below w3.heap.size w3 w4 := (Below.refl _ _).grown hgrow (Nat.le_refl _) (fun k hk => by cases hk)
      have HB4 : Hid (Below W1.heap.size W1 w4) := Lib.hid (HB3.out.trans (hbel.mono hs3))
      clear hown hgrow hbel
      go_loopw [23] (fun i wr => ∃ k : Nat, k ≤ n ∧ i = .int .i64 (k : Int) ∧ wr.ownsRow w3.heap.size 3 1 (.slice (some ⟨w3.heap.size, 0, none⟩) n n) n (filledI P k n) ∧ Below W1.heap.size W1 wr ∧ w3.heap.size < wr.heap.size) (fun i _ => n - (intOf i).toNat)
      case atStart => exact ⟨0, Nat.zero_le _, rfl, hown0, HB4.out, (hown0.lt _ rfl).2⟩
      case round =>
        obtain ⟨k, hk, rfl, ho, hbl, hlt4⟩ := hrel
        by_cases hkl : k < n
        · obtain ⟨W5, hW5⟩ : ∃ W5, wr.alloc (.cells #[.int .i64 (k : Int)] 3) = W5 := ⟨_, rfl⟩
          have hb5 : Below wr.heap.size wr W5 := by rw [← hW5]; exact below_new
          have hs5 : W5.heap.size = wr.heap.size + 1 := by rw [← hW5]; simp
          have hpow : W5.cell? ⟨wr.heap.size, 0, none⟩ = some (.int .i64 (k : Int)) := by rw [← hW5]; exact box_at wr _ _
          have hbl5 : Below W1.heap.size W1 W5 := hbl.trans (hb5.mono hbl.size)
          have HPOW : Hid (∀ W, Below W5.heap.size W5 W → W.cell? ⟨wr.heap.size, 0, none⟩ = some (.int .i64 (k : Int))) := Lib.hid fun W hW => (hW.cell (p := ⟨wr.heap.size, 0, none⟩) (by show wr.heap.size < _; omega)).trans hpow
          have HS : Hid (∀ W, Below W5.heap.size W5 W → Calls Try.prog 47 #[.slice A a.length c, .func (.func 48) #[] #[.pointer (some ⟨w.heap.size, 0, none⟩), .pointer (some ⟨wr.heap.size, 0, none⟩)]] W (Scalar (.int .i64 (prodAt a b k)) W)) := Lib.hid fun W hW => HSUM.out wr.heap.size k W (by omega) (hbl5.trans (hW.mono hbl5.size)) (HPOW.out W hW)
          have HO5 := Lib.hid (kept_below ho hb5)
          have HPK := Lib.hid (HPA.out k hkl)
          have HBL5 := Lib.hid hbl5
          have gne : wr.heap.size ≠ w3.heap.size := by omega
          have y0 := hpow
          have HSZ : Hid (w3.heap.size < W5.heap.size) := Lib.hid (by omega)
          clear ho hbl hb5 hbl5 hpow
          obtain ⟨z, hz⟩ : ∃ z, prodAt a b k = z := ⟨_, rfl⟩
          rw [hz] at HS HPK
          clear hz
          go_wp2
          go_region_held3 (fun w' => w'.cell? ⟨wr.heap.size, 0, none⟩ = some (.int .i64 (k : Int))) (first | exact y0 | exact cell_far_set2 gne y0 | go_keep) (first | (go_at_call 47; refine (HS.out _ (by first | exact below_drewN (Below.refl _ _) 1 | exact Below.refl _ _)).mono ?_; rintro e w6 ⟨rfl, hb6⟩; have hq6 : Below W5.heap.size W5 w6 := (below_drewN (Below.refl _ _) 1).trans hb6; have y0 := HPOW.out w6 hq6; have HO6 := Lib.hid (kept_below HO5.out hq6); have y1 : w6.cell? ⟨w3.heap.size, k, none⟩ = some (.int .i64 0) := (HO6.out.cellAt k (by omega)).trans (by have h := filledI_at P k (by rw [HPL.out]; exact hkl); rw [HPL.out] at h; exact h); have y2 : w6.frozen? ⟨w3.heap.size, k, none⟩ = false := HO6.out.frozenAt k; have HB6 := Lib.hid (HBL5.out.trans (hq6.mono HBL5.out.size)); have hs6 := hq6.size; clear hb6 hq6))
          have hst := (HO6.out.stored k (.int .i64 z)).1
          have hset := filledI_set P k (by rw [HPL.out]; exact hkl)
          rw [HPL.out, HPK.out] at hset
          rw [hset] at hst
          have HST := Lib.hid hst
          clear hst hset
          go_wp2
          go_roundw
          case rel => exact ⟨k + 1, by omega, by go_num, HST.out, HB6.out.setCell (by omega) _, by have := HSZ.out; simp; omega⟩
          case measure => simp [intOf]; omega
        · obtain rfl : k = n := by omega
          have HO : Hid (OwnA wr w3.heap.size (.slice (some ⟨w3.heap.size, 0, none⟩) k k) P) := Lib.hid (by
            have h := filledI_all P
            rw [HPL.out] at h
            rw [h] at ho
            unfold OwnA
            rw [HPL.out]
            exact ho)
          have HC := Lib.hid (HCUT.out w3.heap.size k w3.heap.size wr HO.out)
          have HBL : Hid (Below w.heap.size w wr) := Lib.hid (below_behind HB1.out hbl)
          clear ho
          go_wp2_with fail
          refine HC.out.mono ?_
          rintro e w5 ⟨v5, rfl, ho5, hw⟩
          obtain rfl : wr = w5 := hw.symm
          have HO5 : Hid (OwnA wr w.heap.size v5 (cutL P)) := Lib.hid (ho5.mono (by have := HS1.out; omega))
          clear hw ho5
          go_wp2
          go_ret
          exact ⟨_, rfl, HO5.out, HBL.out⟩
end Go.Proofs.Ytfbdmheaalmboaa
