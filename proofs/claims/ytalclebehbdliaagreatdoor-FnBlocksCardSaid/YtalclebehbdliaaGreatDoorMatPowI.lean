/-
  The program's PowerMatrix: what the plain words say, in new memory; nothing that was there before is changed.
-/
import Derived.Test.YtalclebehbdliaaGreatDoorMatMulI
import Derived.Test.YtalclebehbdliaaGreatDoorSquareUnit
namespace Go.Proofs.YtalclebehbdliaaGreatDoor
open Go Go.RowKit

theorem oneF_rows {n : Nat} (hn : n ≤ 9) : tabOf n n (oneF 9) = oneM n := tabOf_congr fun i j hi _ => by
  unfold oneF
  by_cases h : i = j
  · rw [if_pos ⟨h, by omega⟩, if_pos h]
  · rw [if_neg (fun e => h e.1), if_neg h]

set_option maxRecDepth 100000 in
set_option maxHeartbeats 1600000 in
theorem impl_power_ok (A1 : Option Addr) (c1 : Nat) (m : List (List Int)) (hm : isMat m = true) (n : Nat) (hn : n ≤ 30) (w : World) (h1 : GridS w A1 m) :
    Calls Tryz.prog 46 #[.slice A1 m.length c1, .int .i64 (n : Int)] w (NewGB (powM m n) w) := by
  have fm := isMat_facts hm
  have lm := fm.le
  have tm := tot_isMat fm
  have I1 := Lib.hid (impl_isMatrix A1 c1 m (by omega) (fun k hk => by have := row_le_tot hk; omega) w h1)
  rw [hm] at I1
  have HU := Lib.hid (fun w' => impl_unitSquare w')
  have HR := Lib.hid (fun w' => impl_rows (oneF 9) m.length lm w')
  rw [oneF_rows lm] at HR
  have H1 := Lib.hid h1
  have HM := Lib.hid hm
  have HMUL : Hid (∀ A c p w', isMat p = true → GridS w' A p → Below w.heap.size w w' → Calls Tryz.prog 71 #[.slice A p.length c, .slice A1 m.length c1] w' (NewGB (prodM p m) w')) := Lib.hid fun A c p w' hp hg hb => by
    have fp := isMat_facts hp
    have := tot_isMat fp
    have := fp.le
    exact impl_multiply A A1 c c1 p m (by omega) (by omega) (by omega) (by omega) w' hg (h1.below hb)
  clear h1 fm hm
  go_enter Tryz.func46, Tryz.ntmps46
  go_wp2_with fail
  refine I1.out.mono ?_
  rintro e w1 ⟨rfl, rfl⟩
  go_wp2_with fail
  refine (HU.out _).mono ?_
  rintro e w2 ⟨rfl, b2⟩
  have B2 := Lib.hid b2
  clear b2
  go_wp2_with fail
  refine (HR.out _).mono ?_
  rintro e w3 ⟨v, rfl, hown, b3⟩
  have hs2 := B2.out.size
  have HO := Lib.hid (hown.mono hs2)
  have HB := Lib.hid (B2.out.trans (b3.mono hs2))
  clear hown b3
  go_wp2
  go_loopw [6, 25] (fun v i wr => ∃ (k : Nat) (p : List (List Int)), k ≤ n ∧ i = .int .i64 k ∧ Hid (powM m k = some p) ∧ OwnG wr w1.heap.size v p ∧ Below w1.heap.size w1 wr) (fun _ i _ => n - (intOf i).toNat)
  case atStart => exact ⟨0, _, Nat.zero_le _, rfl, Lib.hid rfl, HO.out, HB.out⟩
  case round =>
    obtain ⟨k, p, hk, rfl, hp, hown, hbl⟩ := hrel
    obtain ⟨A, c, rfl, hg⟩ := hown.gridS
    by_cases hlt : k < n
    · have HC := Lib.hid (HMUL.out A c p wr (powM_isMat HM.out k hp.out) hg hbl)
      have HP1 : Hid (powM m (k + 1) = prodM p m) := Lib.hid (by rw [powM, hp.out]; rfl)
      have HST : Hid (powM m (k + 1) = none → powM m n = none) := Lib.hid fun h => powM_stuck h n hlt
      have HB2 := Lib.hid hbl
      have hsb := hbl.size
      clear hown hbl hg hp
      generalize prodM p m = r at *
      go_wp2_with fail
      refine HC.out.mono ?_
      rintro e w4 ⟨v4, rfl, ho4, b4⟩
      have HB4 := Lib.hid (HB2.out.trans (b4.mono HB2.out.size))
      have HO4 := Lib.hid (ho4.mono hsb)
      clear ho4 b4
      cases r with
      | none =>
        have HN2 := Lib.hid (HST.out HP1.out)
        go_wp2
        go_ret2
        rw [HN2.out]
        exact ⟨_, rfl, ownG_nil _ _, HB4.out⟩
      | some q =>
        go_wp2
        go_roundw
        case rel => exact ⟨k + 1, q, by omega, by go_num, Lib.hid HP1.out, HO4.out, HB4.out⟩
        case measure => simp [intOf]; omega
    · obtain rfl : k = n := by omega
      have HO2 := Lib.hid hown
      clear hown hg
      go_wp2
      go_ret2
      rw [hp.out]
      exact ⟨_, rfl, HO2.out, hbl⟩

set_option maxRecDepth 100000 in
set_option maxHeartbeats 800000 in
theorem impl_power (A1 : Option Addr) (c1 : Nat) (m : List (List Int)) (hl : m.length ≤ 1048576) (ht : tot m ≤ 1048576) (n : Int) (w : World) (h1 : GridS w A1 m) :
    Calls Tryz.prog 46 #[.slice A1 m.length c1, .int .i64 n] w (NewGB (powS m n) w) := by
  by_cases hok : isMat m = true ∧ 0 ≤ n ∧ n ≤ 30
  · unfold powS
    rw [if_pos hok]
    obtain ⟨hm, h0, h30⟩ := hok
    obtain ⟨k, rfl⟩ : ∃ k : Nat, n = (k : Int) := ⟨n.toNat, by omega⟩
    rw [Int.toNat_natCast]
    exact impl_power_ok A1 c1 m hm k (by omega) w h1
  · have e : powS m n = none := if_neg hok
    rw [e]
    have I1 := Lib.hid (impl_isMatrix A1 c1 m (by omega) (fun k hk => by have := row_le_tot hk; omega) w h1)
    have HE := Lib.hid (ownG_nil w w.heap.size)
    clear h1 e
    cases hm : isMat m with
    | false =>
      rw [hm] at I1
      go_enter Tryz.func46, Tryz.ntmps46
      go_wp2_with fail
      refine I1.out.mono ?_
      rintro e w1 ⟨rfl, rfl⟩
      go_wp2
      go_ret2
      exact ⟨_, rfl, HE.out, Below.refl _ _⟩
    | true =>
      rw [hm] at I1
      by_cases h0 : n < 0
      · clear hok
        go_enter Tryz.func46, Tryz.ntmps46
        go_wp2_with fail
        refine I1.out.mono ?_
        rintro e w1 ⟨rfl, rfl⟩
        go_wp2
        go_ret2
        exact ⟨_, rfl, HE.out, Below.refl _ _⟩
      · have h30 : 30 < n := by
          by_cases h : 30 < n
          · exact h
          · exact absurd ⟨hm, by omega, by omega⟩ hok
        clear hok
        go_enter Tryz.func46, Tryz.ntmps46
        go_wp2_with fail
        refine I1.out.mono ?_
        rintro e w1 ⟨rfl, rfl⟩
        go_wp2
        go_ret2
        exact ⟨_, rfl, HE.out, Below.refl _ _⟩
end Go.Proofs.YtalclebehbdliaaGreatDoor
