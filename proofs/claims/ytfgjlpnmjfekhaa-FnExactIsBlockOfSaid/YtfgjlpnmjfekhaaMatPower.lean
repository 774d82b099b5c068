/-
  The model's PowerMatrix and TurnMatrix: what the plain words say, in new memory; nothing that was there before is changed.
-/
import Derived.Test.YtfgjlpnmjfekhaaMatTimes
import Derived.Test.YtfgjlpnmjfekhaaMatSize
namespace Go.Proofs.Ytfgjlpnmjfekhaa
open Go Go.RowKit

/-- The diagonal's first k ones. -/
def oneF (k : Nat) : Nat → Nat → Int := fun i j => if i = j ∧ i < k then 1 else 0
theorem oneF_zero (n : Nat) : tabOf n n (oneF 0) = tabOf n n fun _ _ => 0 := tabOf_congr fun i j _ _ => by unfold oneF; rw [if_neg (by omega)]
theorem oneF_next (n k : Nat) (hk : k < n) : (tabOf n n (oneF k)).set k (((tabOf n n (oneF k)).getD k []).set k 1) = tabOf n n (oneF (k + 1)) := by
  rw [tabOf_set _ _ hk]
  refine tabOf_congr fun i j _ _ => ?_
  unfold oneF
  by_cases e : i = k ∧ j = k
  · obtain ⟨rfl, rfl⟩ := e
    rw [if_pos ⟨rfl, rfl⟩, if_pos ⟨rfl, by omega⟩]
  · rw [if_neg e]
    by_cases h : i = j ∧ i < k
    · rw [if_pos h, if_pos (by omega)]
    · rw [if_neg h, if_neg (by omega)]
theorem oneF_all (n : Nat) : tabOf n n (oneF n) = oneM n := tabOf_congr fun i j hi _ => by
  unfold oneF
  by_cases h : i = j
  · rw [if_pos ⟨h, hi⟩, if_pos h]
  · rw [if_neg (fun e => h e.1), if_neg h]

set_option maxRecDepth 100000 in
set_option maxHeartbeats 1600000 in
theorem spec_one (n : Nat) (hn : n ≤ 1048576) (w : World) :
    Calls Try.prog 46 #[.int .i64 n] w (NewG (oneM n) w) := by
  have HZ := Lib.hid (spec_zero n n hn hn w)
  go_enter Try.func46, Try.ntmps46
  go_wp2_with fail
  refine HZ.out.mono ?_
  rintro e w1 ⟨v, rfl, hown, b1⟩
  obtain ⟨A, c, rfl, -⟩ := hown.gridS
  rw [← oneF_zero] at hown
  rw [tabOf_length] at hown ⊢
  have HO := Lib.hid hown
  have HB1 := Lib.hid b1
  clear hown b1
  go_wp2
  go_loopw [4] (fun i wr => ∃ k : Nat, k ≤ n ∧ i = .int .i64 k ∧ OwnG wr w.heap.size (.slice A n c) (tabOf n n (oneF k)) ∧ Below w.heap.size w wr) (fun i _ => n - (intOf i).toNat)
  case atStart => exact ⟨0, Nat.zero_le _, rfl, HO.out, HB1.out⟩
  case round =>
    obtain ⟨k, hk, rfl, hown, hbl⟩ := hrel
    by_cases hlt : k < n
    · have hrl : ((tabOf n n (oneF k)).getD k []).length = n := by rw [tabOf_row hlt]; simp
      obtain ⟨g, cap, gi, ci, hv, k1, k2, kf, kb, kl, hset⟩ := hown.at (i := k) (j := k) (by rw [tabOf_length]; exact hlt) (by rw [hrl]; exact hlt)
      rw [tabOf_length] at hv
      simp only [Value.slice.injEq, true_and] at hv
      obtain ⟨rfl, rfl⟩ := hv
      rw [hrl] at k1
      have hs1 := hset 1
      rw [oneF_next n k hlt] at hs1
      have HS := Lib.hid hs1
      have HB4 := Lib.hid hbl
      clear hset hs1 hown hbl
      generalize cellOf (tabOf n n (oneF k)) k k = T at *
      go_wp2
      go_roundw
      case rel => exact ⟨k + 1, by omega, by go_num, HS.out, HB4.out.setCell kb _⟩
      case measure => simp [intOf]; omega
    · obtain rfl : k = n := by omega
      rw [oneF_all] at hown
      have HO3 := Lib.hid hown
      clear hown
      go_wp2
      go_ret
      exact ⟨_, rfl, HO3.out, hbl⟩

/-- PowerMatrix. -/
def powS (m : List (List Int)) (n : Int) : Option (List (List Int)) := if isMat m = true ∧ 0 ≤ n ∧ n ≤ 30 then powM m n.toNat else none

set_option maxRecDepth 100000 in
set_option maxHeartbeats 1600000 in
theorem spec_power_ok (A1 : Option Addr) (c1 : Nat) (m : List (List Int)) (hm : isMat m = true) (n : Nat) (hn : n ≤ 30) (w : World) (h1 : GridS w A1 m) :
    Calls Try.prog 34 #[.slice A1 m.length c1, .int .i64 (n : Int)] w (NewGB (powM m n) w) := by
  have fm := isMat_facts hm
  have lm := fm.le
  have tm := tot_isMat fm
  have I1 := Lib.hid (spec_isMatrix A1 c1 m (by omega) (fun k hk => by have := row_le_tot hk; omega) w h1)
  rw [hm] at I1
  have IN := Lib.hid (m_in n 0 30)
  have e0 : decide ((0 : Int) ≤ (n : Int)) = true := decide_eq_true (by omega)
  have e1 : decide ((n : Int) ≤ 30) = true := decide_eq_true (by omega)
  rw [e0, e1] at IN
  have HO1 := Lib.hid (spec_one m.length (by omega) w)
  have H1 := Lib.hid h1
  have HM := Lib.hid hm
  have HMUL : Hid (∀ A c p w', isMat p = true → GridS w' A p → Below w.heap.size w w' → Calls Try.prog 47 #[.slice A p.length c, .slice A1 m.length c1] w' (NewGB (prodM p m) w')) := Lib.hid fun A c p w' hp hg hb => by
    have fp := isMat_facts hp
    have := tot_isMat fp
    have := fp.le
    exact spec_multiply A A1 c c1 p m (by omega) (by omega) (by omega) (by omega) w' hg (h1.below hb)
  clear h1 fm hm e0 e1
  go_enter Try.func34, Try.ntmps34
  go_wp2_with fail
  refine I1.out.mono ?_
  rintro e w1 ⟨rfl, rfl⟩
  go_wp2_with fail
  refine (IN.out _).mono ?_
  rintro e w2 ⟨rfl, rfl⟩
  go_wp2_with fail
  refine HO1.out.mono ?_
  rintro e w3 ⟨v, rfl, hown, b3⟩
  have HO := Lib.hid hown
  have HB := Lib.hid b3
  clear hown b3
  go_wp2
  go_loopw [6, 7] (fun v i wr => ∃ (k : Nat) (p : List (List Int)), k ≤ n ∧ i = .int .i64 k ∧ Hid (powM m k = some p) ∧ OwnG wr w2.heap.size v p ∧ Below w2.heap.size w2 wr) (fun _ i _ => n - (intOf i).toNat)
  case atStart => exact ⟨0, _, Nat.zero_le _, rfl, Lib.hid rfl, HO.out, HB.out⟩
  case round =>
    obtain ⟨k, p, hk, rfl, hp, hown, hbl⟩ := hrel
    obtain ⟨A, c, rfl, hg⟩ := hown.gridS
    by_cases hlt : k < n
    · have HC := Lib.hid (HMUL.out A c p wr (powM_isMat HM.out k hp.out) hg hbl)
      have HP1 : Hid (powM m (k + 1) = prodM p m) := Lib.hid (by rw [powM, hp.out]; rfl)
      have HST : Hid (powM m (k + 1) = none → powM m n = none) := Lib.hid fun h => powM_stuck h n hlt
      have HB2 := Lib.hid hbl
      have hs2 := hbl.size
      clear hown hbl hg hp
      generalize prodM p m = r at *
      go_wp2_with fail
      refine HC.out.mono ?_
      rintro e w4 ⟨v4, rfl, ho4, b4⟩
      have HB4 := Lib.hid (HB2.out.trans (b4.mono HB2.out.size))
      have hs4 := HB4.out.size
      have HE := Lib.hid ((ownG_empty w4).mono hs4)
      have HO4 := Lib.hid (ho4.mono hs2)
      clear ho4 b4
      cases r with
      | none =>
        have hn2 := HST.out HP1.out
        have HN2 := Lib.hid hn2
        clear hn2
        go_wp2
        go_ret2
        rw [HN2.out]
        exact ⟨_, rfl, HE.out, HB4.out.alloc hs4 _⟩
      | some q =>
        go_wp2
        go_roundw
        case rel => exact ⟨k + 1, q, by omega, by go_num, Lib.hid HP1.out, HO4.out, HB4.out⟩
        case measure => simp [intOf]; omega
    · obtain rfl : k = n := by omega
      have HO2 := Lib.hid hown
      clear hown hg
      go_wp2
      go_ret2
      rw [hp.out]
      exact ⟨_, rfl, HO2.out, hbl⟩

set_option maxRecDepth 100000 in
set_option maxHeartbeats 800000 in
theorem spec_power (A1 : Option Addr) (c1 : Nat) (m : List (List Int)) (hl : m.length ≤ 1048576) (ht : tot m ≤ 1048576) (n : Int) (w : World) (h1 : GridS w A1 m) :
    Calls Try.prog 34 #[.slice A1 m.length c1, .int .i64 n] w (NewGB (powS m n) w) := by
  by_cases hok : isMat m = true ∧ 0 ≤ n ∧ n ≤ 30
  · unfold powS
    rw [if_pos hok]
    obtain ⟨hm, h0, h30⟩ := hok
    obtain ⟨k, rfl⟩ : ∃ k : Nat, n = (k : Int) := ⟨n.toNat, by omega⟩
    rw [Int.toNat_natCast]
    exact spec_power_ok A1 c1 m hm k (by omega) w h1
  · have e : powS m n = none := if_neg hok
    rw [e]
    have I1 := Lib.hid (spec_isMatrix A1 c1 m (by omega) (fun k hk => by have := row_le_tot hk; omega) w h1)
    have IN := Lib.hid (m_in n 0 30)
    have HE := Lib.hid (ownG_empty w)
    clear h1 e
    cases hm : isMat m with
    | false =>
      rw [hm] at I1
      go_enter Try.func34, Try.ntmps34
      go_wp2_with fail
      refine I1.out.mono ?_
      rintro e w1 ⟨rfl, rfl⟩
      go_wp2
      go_ret2
      exact ⟨_, rfl, HE.out, below_new⟩
    | true =>
      rw [hm] at I1
      have hx : (decide ((0 : Int) ≤ n) && decide (n ≤ 30)) = false := by
        cases hx : (decide ((0 : Int) ≤ n) && decide (n ≤ 30)) with
        | false => rfl
        | true =>
          rw [Bool.and_eq_true, decide_eq_true_iff, decide_eq_true_iff] at hx
          exact absurd ⟨hm, hx⟩ hok
      rw [hx] at IN
      clear hx hok
      go_enter Try.func34, Try.ntmps34
      go_wp2_with fail
      refine I1.out.mono ?_
      rintro e w1 ⟨rfl, rfl⟩
      go_wp2_with fail
      refine (IN.out _).mono ?_
      rintro e w2 ⟨rfl, rfl⟩
      go_wp2
      go_ret2
      exact ⟨_, rfl, HE.out, below_new⟩

/-! ### Turning around -/

/-- A table that is being filled: all columns ahead of i, and j numbers of column i. -/
def turnF (m : List (List Int)) (i j : Nat) : Nat → Nat → Int := fun i' j' => if j' < i ∨ (j' = i ∧ i' < j) then cellOf m j' i' else 0
theorem turnF_zero (m : List (List Int)) (n : Nat) : tabOf n n (turnF m 0 0) = tabOf n n fun _ _ => 0 := tabOf_congr fun i j _ _ => by unfold turnF; rw [if_neg (by omega)]
theorem turnF_next (m : List (List Int)) (n i j : Nat) (hj : j < n) : (tabOf n n (turnF m i j)).set j (((tabOf n n (turnF m i j)).getD j []).set i (cellOf m i j)) = tabOf n n (turnF m i (j + 1)) := by
  rw [tabOf_set _ _ hj]
  refine tabOf_congr fun i' j' _ _ => ?_
  unfold turnF
  by_cases e : i' = j ∧ j' = i
  · obtain ⟨rfl, rfl⟩ := e
    rw [if_pos ⟨rfl, rfl⟩, if_pos (by omega)]
  · rw [if_neg e]
    by_cases h : j' < i ∨ (j' = i ∧ i' < j)
    · rw [if_pos h, if_pos (by omega)]
    · rw [if_neg h, if_neg (by omega)]
theorem turnF_row (m : List (List Int)) (n i : Nat) : tabOf n n (turnF m i n) = tabOf n n (turnF m (i + 1) 0) := tabOf_congr fun i' j' hi _ => by
  unfold turnF
  by_cases h : j' < i ∨ (j' = i ∧ i' < n)
  · rw [if_pos h, if_pos (by omega)]
  · rw [if_neg h, if_neg (by omega)]
theorem turnF_all (m : List (List Int)) : tabOf m.length m.length (turnF m m.length 0) = turnM m := tabOf_congr fun i' j' _ hj => by
  unfold turnF; rw [if_pos (Or.inl hj)]

/-- TurnMatrix. -/
def turnS (m : List (List Int)) : List (List Int) := if isMat m = true then turnM m else []
end Go.Proofs.Ytfgjlpnmjfekhaa
