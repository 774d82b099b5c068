/-
  The program's PolyAt, and its test of factors: what the plain words say; nothing that was there before is changed.
-/
import Derived.Test.YtfbdmheaalmboaaPolyScal
namespace Go.Proofs.Ytfbdmheaalmboaa
open Go Go.RowKit Go.Shelf

theorem fits_within (p : List Int) (most : Nat) : fitsB p most = (withinL 1000000 p && decide (p.length ≤ most)) := rfl
theorem enters_at (args : Array Value) (w : World) : (callFunc 50 args).run Try.prog w = .ok (.enter 50 args) w := enters_of Try.func50 (by kernel_rfl) rfl args w

theorem pow_small {x : Int} (hx : x.natAbs ≤ 1000) {k : Nat} (hk : k ≤ 4) : (x ^ k).natAbs ≤ 1000 ^ k ∧ 1000 ^ k ≤ 1000000000000 := by
  refine ⟨pow_abs hx k, ?_⟩
  have : k = 0 ∨ k = 1 ∨ k = 2 ∨ k = 3 ∨ k = 4 := by omega
  rcases this with rfl | rfl | rfl | rfl | rfl <;> decide
theorem value_abs {p : List Int} {x : Int} (hp : ∀ k, (p.getD k 0).natAbs ≤ 1000000) (hx : x.natAbs ≤ 1000) {k : Nat} (hk : k ≤ 5) : (sumTo k fun i => p.getD i 0 * x ^ i).natAbs ≤ 1001001001001000000 := by
  have h : ∀ i, i ≤ 4 → (p.getD i 0 * x ^ i).natAbs ≤ 1000000 * 1000 ^ i := fun i hi => by
    rw [Int.natAbs_mul]
    exact Nat.mul_le_mul (hp i) (pow_small hx hi).1
  have h0 := h 0 (by omega)
  have h1 := h 1 (by omega)
  have h2 := h 2 (by omega)
  have h3 := h 3 (by omega)
  have h4 := h 4 (by omega)
  have : k = 0 ∨ k = 1 ∨ k = 2 ∨ k = 3 ∨ k = 4 ∨ k = 5 := by omega
  rcases this with rfl | rfl | rfl | rfl | rfl | rfl <;> simp only [sumTo] <;> omega

set_option maxRecDepth 100000 in
set_option maxHeartbeats 800000 in
theorem at_term (gt : Nat) (x y : Int) (hx : x.natAbs ≤ 1000) (hy : y.natAbs ≤ 1000000) (k : Nat) (hk : k ≤ 4) (W : World) (hc : W.cell? ⟨gt, 0, none⟩ = some (.int .i64 x)) :
    Calls Try.prog 50 #[.int .i64 (k : Int), .int .i64 y, .pointer (some ⟨gt, 0, none⟩)] W (Scalar (.int .i64 (y * x ^ k)) W) := by
  have HP := Lib.hid (impl_power x k (by omega) (fun i hi => by have := pow_small hx (k := i) (by omega); omega) W)
  obtain ⟨h1, h2⟩ := pow_small hx hk
  have h3 : (y * x ^ k).natAbs ≤ 1000000 * 1000000000000 := by
    rw [Int.natAbs_mul]
    exact Nat.mul_le_mul hy (Nat.le_trans h1 h2)
  generalize x ^ k = z at *
  have HW : Hid (RowKit.wrap64 (y * z) = y * z) := Lib.hid (by
    generalize y * z = q at *
    unfold RowKit.wrap64; omega)
  clear h1 h2 h3 hx hy
  go_enter Try.func50, Try.ntmps50
  go_wp2_with fail
  refine HP.out.mono ?_
  rintro e w1 ⟨rfl, hw⟩
  obtain rfl : W = w1 := hw.symm
  clear HP hw
  go_wp2
  go_ret
  exact ⟨by have := HW.out; simp [this], Below.refl _ _⟩

theorem value_sum (gt : Nat) (x : Int) (p : List Int) (h5 : p.length ≤ 5) (hall : ∀ k, (p.getD k 0).natAbs ≤ 1000000) (hx : x.natAbs ≤ 1000) (A : Option Addr) (c : Nat) (W : World) (hc : W.cell? ⟨gt, 0, none⟩ = some (.int .i64 x)) (hgt : gt < W.heap.size) (hr : RowS W A p) :
    Calls Try.prog 47 #[.slice A p.length c, .func (.func 50) #[] #[.pointer (some ⟨gt, 0, none⟩)]] W (Scalar (.int .i64 (hor p x p.length)) W) := by
  have hT : TermI W.heap.size W 50 #[.pointer (some ⟨gt, 0, none⟩)] p (fun i => p.getD i 0 * x ^ i) := by
    intro k W' hk hW
    have hk4 : k ≤ 4 := by omega
    exact at_term gt x (p.getD k 0) hx (hall k) k hk4 W' ((hW.cell (p := ⟨gt, 0, none⟩) hgt).trans hc)
  have hB : ∀ k, k ≤ p.length → (sumTo k (fun i => p.getD i 0 * x ^ i)).natAbs ≤ 4611686018427387904 := fun k hk => Nat.le_trans (value_abs hall hx (Nat.le_trans hk h5)) (by decide)
  have h := sum_ints W.heap.size W 50 #[.pointer (some ⟨gt, 0, none⟩)] enters_at A c p (fun i => p.getD i 0 * x ^ i) hT (Nat.le_trans h5 (by decide)) hB W (Below.refl _ _) (Nat.le_refl _) hr
  rw [← hor_sum] at h
  exact h

set_option maxRecDepth 100000 in
set_option maxHeartbeats 1600000 in
theorem impl_polyAt (A : Option Addr) (c : Nat) (p : List Int) (x : Int) (hn : p.length ≤ 1099511627776) (w : World) (hr : RowS w A p) :
    Calls Try.prog 29 #[.slice A p.length c, .int .i64 x] w (Scalar (.tuple #[.int .i64 ((atP p x).getD 0), .bool (atP p x).isSome]) w) := by
  obtain ⟨W1, hW1⟩ : ∃ W1, w.alloc (.cells #[.int .i64 x] 3) = W1 := ⟨_, rfl⟩
  have hb1 : Below w.heap.size w W1 := by rw [← hW1]; exact below_new
  have hbox : W1.cell? ⟨w.heap.size, 0, none⟩ = some (.int .i64 x) := by rw [← hW1]; exact box_at w _ _
  have hlt : w.heap.size < W1.heap.size := cell_in hbox
  have HB1 := Lib.hid hb1
  by_cases h5 : p.length ≤ 5
  · have HW := Lib.hid (impl_within A c p (by omega) 1000000 (by decide) (by decide) W1 (hr.below hb1))
    have k5 : ¬ (5 : Int) < (p.length : Int) := by omega
    cases hq : withinL 1000000 p with
    | false =>
      have hs : atP p x = none := by unfold atP; rw [fits_within, hq]; rfl
      rw [hq] at HW
      rw [hs]
      clear hr hb1 hlt hq hs
      go_enter Try.func29, Try.ntmps29
      go_wp2_with fail
      refine HW.out.mono ?_
      rintro e w2 ⟨rfl, hb2⟩
      have HB2 := Lib.hid (below_behind HB1.out hb2)
      clear hb2 hW1
      go_wp2
      go_ret2
      exact ⟨rfl, HB2.out⟩
    | true =>
      have hfit : fitsB p 5 = true := by rw [fits_within, hq, decide_eq_true h5]; rfl
      rw [hq] at HW
      by_cases hx : -1000 ≤ x ∧ x ≤ 1000
      · have hs : atP p x = some (hor p x p.length) := by unfold atP; rw [hfit, decide_eq_true hx]; rfl
        obtain ⟨_, hall⟩ := fits_at hfit
        have HS : Hid (∀ w', Below W1.heap.size W1 w' → Calls Try.prog 47 #[.slice A p.length c, .func (.func 50) #[] #[.pointer (some ⟨w.heap.size, 0, none⟩)]] w' (Scalar (.int .i64 (hor p x p.length)) w')) := Lib.hid fun w' hb => value_sum w.heap.size x p h5 hall (by omega) A c w' ((hb.cell (p := ⟨w.heap.size, 0, none⟩) hlt).trans hbox) (Nat.lt_of_lt_of_le hlt hb.size) ((hr.below hb1).below hb)
        have HBOX : Hid (∀ w', Below W1.heap.size W1 w' → w'.cell? ⟨w.heap.size, 0, none⟩ = some (.int .i64 x)) := Lib.hid fun w' hb => (hb.cell (p := ⟨w.heap.size, 0, none⟩) hlt).trans hbox
        rw [hs]
        have hx1 : ¬ x < -1000 := by omega
        have hx2 : ¬ 1000 < x := by omega
        clear hr hb1 hlt hq hs hfit hall hx
        generalize hor p x p.length = v at *
        go_enter Try.func29, Try.ntmps29
        go_wp2_with fail
        refine HW.out.mono ?_
        rintro e w2 ⟨rfl, hb2⟩
        have k2 := HBOX.out w2 hb2
        have HS2 := Lib.hid (HS.out w2 hb2)
        have HB2 := Lib.hid (below_behind HB1.out hb2)
        clear hb2 HS hW1
        go_wp2_with fail
        refine HS2.out.mono ?_
        rintro e w3 ⟨rfl, hb3⟩
        have HB3 := Lib.hid (below_behind HB2.out hb3)
        clear hb3
        go_wp2
        go_ret2
        exact ⟨rfl, HB3.out⟩
      · have hs : atP p x = none := by unfold atP; rw [decide_eq_false hx, Bool.and_false]; rfl
        have HBOX : Hid (∀ w', Below W1.heap.size W1 w' → w'.cell? ⟨w.heap.size, 0, none⟩ = some (.int .i64 x)) := Lib.hid fun w' hb => (hb.cell (p := ⟨w.heap.size, 0, none⟩) hlt).trans hbox
        rw [hs]
        clear hr hb1 hlt hq hs hfit
        by_cases hx1 : x < -1000
        · clear hx
          go_enter Try.func29, Try.ntmps29
          go_wp2_with fail
          refine HW.out.mono ?_
          rintro e w2 ⟨rfl, hb2⟩
          have k2 := HBOX.out w2 hb2
          have HB2 := Lib.hid (below_behind HB1.out hb2)
          clear hb2 hW1
          go_wp2
          go_ret2
          exact ⟨rfl, HB2.out⟩
        · have hx2 : 1000 < x := by omega
          clear hx
          go_enter Try.func29, Try.ntmps29
          go_wp2_with fail
          refine HW.out.mono ?_
          rintro e w2 ⟨rfl, hb2⟩
          have k2 := HBOX.out w2 hb2
          have HB2 := Lib.hid (below_behind HB1.out hb2)
          clear hb2 hW1
          go_wp2
          go_ret2
          exact ⟨rfl, HB2.out⟩
  · have hs : atP p x = none := by unfold atP; rw [fits_within, decide_eq_false h5, Bool.and_false, Bool.false_and]; rfl
    have k5 : (5 : Int) < (p.length : Int) := by omega
    rw [hs]
    clear hr hb1 hlt hs h5
    go_enter Try.func29, Try.ntmps29
    go_wp2
    go_ret2
    exact ⟨rfl, HB1.out⟩

set_option maxRecDepth 100000 in
set_option maxHeartbeats 800000 in
theorem impl_isFactor (A : Option Addr) (c : Nat) (p : List Int) (hn : p.length ≤ 1099511627776) (w : World) (hr : RowS w A p) :
    Calls Try.prog 46 #[.slice A p.length c] w (Scalar (.bool (fitsB p 30)) w) := by
  rw [fits_within]
  by_cases h30 : p.length ≤ 30
  · have HW := Lib.hid (impl_within A c p (by omega) 1000000 (by decide) (by decide) w hr)
    have k30 : (p.length : Int) ≤ 30 := by omega
    rw [decide_eq_true h30, Bool.and_true]
    clear hr
    generalize withinL 1000000 p = b at *
    go_enter Try.func46, Try.ntmps46
    go_wp2_with fail
    refine HW.out.mono ?_
    rintro e w2 ⟨rfl, hb2⟩
    go_wp2
    go_ret
    exact ⟨rfl, hb2⟩
  · have k30 : ¬ (p.length : Int) ≤ 30 := by omega
    rw [decide_eq_false h30, Bool.and_false]
    clear hr h30
    go_enter Try.func46, Try.ntmps46
    go_wp2
    go_ret
    exact ⟨rfl, Below.refl _ _⟩
end Go.Proofs.Ytfbdmheaalmboaa
