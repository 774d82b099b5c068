/-
  The program's powers and its sums over a list, for whatever function value tells the terms: what the plain words say; nothing that was there before is changed.
-/
import Derived.Test.YtanelokploifhaaDoorMidTexts
import Derived.Test.YtanelokploifhaaDoorIntsFind
import Derived.Test.YtanelokploifhaaDoorModelTexts
namespace Go.Proofs.YtanelokploifhaaDoor
open Go Go.RowKit

set_option maxRecDepth 100000 in
set_option maxHeartbeats 800000 in
theorem impl_power (x : Int) (n : Nat) (hn : n ≤ 1000) (hB : ∀ k, k ≤ n → (x ^ k).natAbs ≤ 4611686018427387904) (w : World) :
    Calls Tryd.prog 68 #[.int .i64 x, .int .i64 (n : Int)] w fun e w' => e = .returned (.int .i64 (x ^ n)) ∧ w' = w := by
  have HB := Lib.hid hB
  have HS : Hid (∀ k : Nat, x ^ (k + 1) = x ^ k * x) := Lib.hid fun k => Int.pow_succ x k
  have H0 : Hid (x ^ 0 = 1) := Lib.hid (Int.pow_zero x)
  clear hB
  go_enter Tryd.func68, Tryd.ntmps68
  go_wp2
  go_loopw [5, 7] (fun p i wr => ∃ (k : Nat) (v : Int), k ≤ n ∧ i = .int .i64 k ∧ p = .int .i64 v ∧ Hid (v = x ^ k) ∧ wr = w) (fun _ i _ => n - (intOf i).toNat)
  case atStart => exact ⟨0, 1, Nat.zero_le _, rfl, rfl, Lib.hid H0.out.symm, rfl⟩
  case round =>
    obtain ⟨k, v, hk, rfl, rfl, hv, rfl⟩ := hrel
    by_cases hlt : k < n
    · have hb := HB.out (k + 1) (by omega)
      have hs := HS.out k
      rw [← hv.out] at hs
      obtain ⟨q, hq⟩ : ∃ q, x ^ (k + 1) = q := ⟨_, rfl⟩
      rw [hq] at hb hs
      have hw : RowKit.wrap64 (v * x) = q := by rw [← hs]; unfold RowKit.wrap64; omega
      have HQ := Lib.hid hq
      have g : (k : Int) < (n : Int) := by omega
      clear hs hb hq
      go_wp2
      go_roundw
      case rel => exact ⟨k + 1, _, by omega, by go_num, rfl, Lib.hid (hw.trans HQ.out.symm), trivial⟩
      case measure => simp [intOf]; omega
    · obtain rfl : k = n := by omega
      have HV := Lib.hid hv.out
      go_wp2
      go_ret
      exact ⟨by have := HV.out; simp [this], rfl⟩

/-- The function value g with the captured places lb tells the terms t at a list of numbers | of rows, in every world behind W0 in which what lay below H0 lies. -/
def TermI (H0 : Nat) (W0 : World) (g : Nat) (lb : Array Value) (xs : List Int) (t : Nat → Int) : Prop :=
  ∀ k W, k < xs.length → Below H0 W0 W → Calls Tryd.prog g (#[.int .i64 (k : Int), .int .i64 (xs.getD k 0)] ++ lb) W (Scalar (.int .i64 (t k)) W)
def TermR (H0 : Nat) (W0 : World) (g : Nat) (lb : Array Value) (xs : List (List Int)) (t : Nat → Int) : Prop :=
  ∀ k W A c, k < xs.length → Below H0 W0 W → RowS W A (xs.getD k []) → (xs.getD k []).length ≤ c → Calls Tryd.prog g (#[.int .i64 (k : Int), .slice A (xs.getD k []).length c] ++ lb) W (Scalar (.int .i64 (t k)) W)

set_option maxRecDepth 100000 in
set_option maxHeartbeats 1600000 in
theorem sum_ints (H0 : Nat) (W0 : World) (g : Nat) (lb : Array Value) (eg : ∀ args w, (callFunc g args).run Tryd.prog w = .ok (.enter g args) w) (A : Option Addr) (c : Nat) (xs : List Int) (t : Nat → Int) (hp : TermI H0 W0 g lb xs t) (hn : xs.length ≤ 1000000)
    (hB : ∀ k, k ≤ xs.length → (sumTo k t).natAbs ≤ 4611686018427387904) (w : World) (hw : Below H0 W0 w) (hH : H0 ≤ w.heap.size) (hs : RowS w A xs) :
    Calls Tryd.prog 36 #[.slice A xs.length c, .func (.func g) #[] lb] w (Scalar (.int .i64 (sumTo xs.length t)) w) := by
  have HP := Lib.hid (fun k (hk : k < xs.length) w1 (h1 : Below w.heap.size w w1) => hp k w1 hk (hw.trans (h1.mono hH)))
  have HS := Lib.hid hs
  have HB := Lib.hid hB
  have HN : Hid (∀ k, sumTo (k + 1) t = sumTo k t + t k) := Lib.hid fun k => rfl
  clear hs hp hB
  go_enter Tryd.func36, Tryd.ntmps36
  go_wp2
  go_loopw [5, 10] (fun s i wr => ∃ (k : Nat) (v : Int), k ≤ xs.length ∧ i = .int .i64 k ∧ s = .int .i64 v ∧ Hid (v = sumTo k t) ∧ Hid (Below w.heap.size w wr)) (fun _ i _ => xs.length - (intOf i).toNat)
  case atStart => exact ⟨0, 0, Nat.zero_le _, rfl, rfl, Lib.hid rfl, Lib.hid (Below.refl _ _)⟩
  case round =>
    obtain ⟨k, v, hk, rfl, rfl, hv, hbl⟩ := hrel
    by_cases hlt : k < xs.length
    · obtain ⟨b, off, rfl, hat, _⟩ := (HS.out.below hbl.out) (by omega)
      have hc := hat k hlt
      have HC := Lib.hid (HP.out k hlt _ hbl.out)
      have hb := HB.out (k + 1) (by omega)
      have hs := HN.out k
      rw [← hv.out] at hs
      obtain ⟨q, hq⟩ : ∃ q, sumTo (k + 1) t = q := ⟨_, rfl⟩
      rw [hq] at hb hs
      have HQ := Lib.hid hq
      clear hat hq
      generalize xs.getD k 0 = x at hc HC
      generalize t k = y at *
      have hw : RowKit.wrap64 (v + y) = q := by rw [← hs]; unfold RowKit.wrap64; omega
      clear hs hb
      go_wp2_with fail
      refine HC.out.mono ?_
      rintro e w' ⟨rfl, hb1⟩
      have HB1 := Lib.hid (below_behind hbl.out hb1)
      clear hb1
      go_wp2
      go_roundw
      case rel => exact ⟨k + 1, _, by omega, by go_num, rfl, Lib.hid (hw.trans HQ.out.symm), HB1⟩
      case measure => simp [intOf]; omega
    · obtain rfl : k = xs.length := by omega
      have HV := Lib.hid hv.out
      go_wp2
      go_ret
      exact ⟨by have := HV.out; simp [this], hbl.out⟩

end Go.Proofs.YtanelokploifhaaDoor
