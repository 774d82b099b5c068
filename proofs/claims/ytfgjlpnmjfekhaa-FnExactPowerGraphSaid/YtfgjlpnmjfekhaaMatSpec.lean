/-
  The model's IsMatrix, EqualMatrix, TraceOf and SumOf: at every table they answer what the plain words say, and change nothing.
-/
import Derived.Test.YtfgjlpnmjfekhaaGridOps
import Derived.Deep.RegionHeld3
namespace Go.Proofs.Ytfgjlpnmjfekhaa
open Go Go.RowKit

theorem m_in (x lo hi : Int) (w : World) :
    Calls Try.prog 25 #[.int .i64 x, .int .i64 lo, .int .i64 hi] w fun e w' => e = .returned (.bool (decide (lo ≤ x) && decide (x ≤ hi))) ∧ w' = w := by
  go_enter Try.func25, Try.ntmps25
  cases h1 : decide (lo ≤ x) with
  | false => go_wp2; go_ret; exact ⟨rfl, rfl⟩
  | true => go_wp2; go_ret; exact ⟨rfl, rfl⟩

theorem isMat_not {m : List (List Int)} {k : Nat} (hk : k < m.length) (h : rowOk m.length (m.getD k []) = false) : isMat m = false := by
  unfold isMat
  have : m.all (rowOk m.length) = false := by
    rw [List.all_eq_false]
    refine ⟨m[k], List.getElem_mem hk, ?_⟩
    rw [show m[k] = m.getD k [] by simp [List.getD, hk], h]; simp
  rw [this]; rfl
theorem isMat_rows {m : List (List Int)} (h : ∀ j, j < m.length → rowOk m.length (m.getD j []) = true) : isMat m = (decide (1 ≤ (m.length : Int)) && decide ((m.length : Int) ≤ 9)) := by
  unfold isMat
  have : m.all (rowOk m.length) = true := by
    rw [List.all_eq_true]
    intro r hr
    obtain ⟨i, hi, rfl⟩ := List.getElem_of_mem hr
    have := h i hi
    simpa [List.getD, hi] using this
  rw [this, Bool.true_and]
  by_cases h1 : 1 ≤ m.length <;> by_cases h2 : m.length ≤ 9 <;> simp [h1, h2] <;> omega
theorem rowOk_short {n : Nat} {r : List Int} (h : ¬ r.length = n) : rowOk n r = false := by unfold rowOk; simp [h]
theorem rowOk_bad {n k : Nat} {r : List Int} (hk : k < r.length) (h : (decide ((0 : Int) ≤ r.getD k 0) && decide (r.getD k 0 ≤ 1000000)) = false) : rowOk n r = false := by
  cases e : rowOk n r with
  | false => rfl
  | true =>
    have := (rowOk_iff.1 e).2 k hk
    rw [decide_eq_true this.1, decide_eq_true this.2] at h
    cases h

set_option maxRecDepth 100000 in
set_option maxHeartbeats 1600000 in
theorem spec_isMatrix (A : Option Addr) (c : Nat) (m : List (List Int)) (hn : m.length ≤ 1099511627776) (ht : ∀ k, k < m.length → (m.getD k []).length ≤ 1099511627776) (w : World) (hg : GridS w A m) :
    Calls Try.prog 36 #[.slice A m.length c] w fun e w' => e = .returned (.bool (isMat m)) ∧ w' = w := by
  have HG := Lib.hid hg
  have HT := Lib.hid ht
  have HI := Lib.hid m_in
  clear hg ht
  go_enter Try.func36, Try.ntmps36
  go_wp2
  go_loop [3] (fun i => ∃ k : Nat, k ≤ m.length ∧ i = .int .i64 k ∧ Hid (∀ j, j < k → rowOk m.length (m.getD j []) = true)) (fun i => m.length - (intOf i).toNat)
  case atStart => exact ⟨0, Nat.zero_le _, rfl, Lib.hid (fun j h => by omega)⟩
  case round =>
    obtain ⟨k, hk, rfl, hto⟩ := hrel
    by_cases hlt : k < m.length
    · obtain ⟨b, off, A', c', rfl, hc, hrow, hb⟩ := HG.out.row hlt
      have hxl := HT.out k hlt
      by_cases hlen : (m.getD k []).length = m.length
      · have HNX : Hid (rowOk m.length (m.getD k []) = true → ∀ j, j < k + 1 → rowOk m.length (m.getD j []) = true) := Lib.hid (fun h j hj => by
          by_cases e : j = k
          · subst e; exact h
          · exact hto.out j (by omega))
        have HNO : Hid (rowOk m.length (m.getD k []) = false → isMat m = false) := Lib.hid (isMat_not hlt)
        have HR := Lib.hid hrow
        have HLN := Lib.hid hlen
        rw [hlen] at hc
        clear hrow hxl hlen hto
        generalize m.getD k [] = x at *
        go_wp2
        go_loop [4] (fun j => ∃ t : Nat, t ≤ m.length ∧ j = .int .i64 t ∧ Hid (∀ u, u < t → 0 ≤ x.getD u 0 ∧ x.getD u 0 ≤ 1000000)) (fun j => m.length - (intOf j).toNat)
        case atStart => exact ⟨0, Nat.zero_le _, rfl, Lib.hid (fun j h => by omega)⟩
        case round =>
          obtain ⟨t, htl, rfl, hok⟩ := hrel
          by_cases htt : t < m.length
          · obtain ⟨b2, off2, rfl, hat, hb2⟩ := HR.out (by rw [HLN.out]; omega)
            have hcx := hat t (by rw [HLN.out]; exact htt)
            have HBAD := Lib.hid (rowOk_bad (n := m.length) (k := t) (r := x) (by rw [HLN.out]; exact htt))
            clear hat
            generalize hy : x.getD t 0 = y at *
            go_wp2_with fail
            refine (HI.out _ _ _ _).mono ?_
            rintro e w1 ⟨rfl, rfl⟩
            cases hx : (decide (0 ≤ y) && decide (y ≤ 1000000)) with
            | false =>
              go_wp2
              go_ret
              exact ⟨by rw [HNO.out (HBAD.out hx)]; rfl, rfl⟩
            | true =>
              have hy2 : 0 ≤ y ∧ y ≤ 1000000 := by simpa using hx
              have HOK : Hid (∀ u, u < t + 1 → 0 ≤ x.getD u 0 ∧ x.getD u 0 ≤ 1000000) := Lib.hid (fun u hu => by
                by_cases e : u = t
                · subst e; rw [hy]; exact hy2
                · exact hok.out u (by omega))
              clear hy hx hy2 hok
              go_wp2
              go_round
              case rel => exact ⟨t + 1, by omega, by go_num, HOK⟩
              case measure => simp [intOf]; omega
          · obtain rfl : t = m.length := by omega
            have HROW : Hid (rowOk m.length x = true) := Lib.hid (rowOk_iff.2 ⟨HLN.out, fun u hu => hok.out u (by rw [HLN.out] at hu; exact hu)⟩)
            clear hok
            go_wp2
            go_round
            case rel => exact ⟨k + 1, by omega, by go_num, Lib.hid (HNX.out HROW.out)⟩
            case measure => simp [intOf]; omega
      · have HNO := Lib.hid (isMat_not hlt (rowOk_short hlen))
        have hne : ¬ ((m.getD k []).length : Int) = (m.length : Int) := by omega
        clear hrow
        generalize m.getD k [] = x at *
        go_wp2
        go_ret
        exact ⟨by rw [HNO.out]; rfl, rfl⟩
    · obtain rfl : k = m.length := by omega
      have HE := Lib.hid (isMat_rows hto.out)
      go_wp2_with fail
      refine (HI.out _ _ _ _).mono ?_
      rintro e w1 ⟨rfl, rfl⟩
      go_wp2
      go_ret
      exact ⟨by rw [HE.out]; rfl, rfl⟩

/-! ### Two tables -/

theorem take_same_next {xs ys : List Int} {k : Nat} (h : xs.take k = ys.take k) (h1 : k < xs.length) (h2 : k < ys.length) (he : xs.getD k 0 = ys.getD k 0) : xs.take (k + 1) = ys.take (k + 1) := by
  rw [ints_take_next xs k h1, ints_take_next ys k h2, h, he]
theorem rows_same_next {a b : List (List Int)} {k : Nat} (h : a.take k = b.take k) (h1 : k < a.length) (h2 : k < b.length) (he : a.getD k [] = b.getD k []) : a.take (k + 1) = b.take (k + 1) := by
  rw [rows_take_next a k h1, rows_take_next b k h2, h, he]
theorem lists_same {α : Type} {xs ys : List α} {n : Nat} (h : xs.take n = ys.take n) (h1 : xs.length = n) (h2 : ys.length = n) : xs = ys := by
  rwa [List.take_of_length_le (by omega), List.take_of_length_le (by omega)] at h

def BelowBool (b : Bool) (w : World) (e : Ending) (w' : World) : Prop := e = .returned (.bool b) ∧ Below w.heap.size w w'

set_option maxRecDepth 100000 in
set_option maxHeartbeats 800000 in
theorem spec_sameRow (A1 A2 : Option Addr) (c1 c2 : Nat) (xs ys : List Int) (hx : xs.length ≤ 1099511627776) (w : World) (h1 : RowS w A1 xs) (h2 : RowS w A2 ys) :
    Calls Try.prog 53 #[.slice A1 xs.length c1, .slice A2 ys.length c2] w (BelowBool (decide (xs = ys)) w) := by
  have H1 := Lib.hid h1
  have H2 := Lib.hid h2
  clear h1 h2
  by_cases hl : xs.length = ys.length
  · have HF : Hid (∀ k, k < xs.length → ¬ xs.getD k 0 = ys.getD k 0 → decide (xs = ys) = false) := Lib.hid (fun k _ h => decide_eq_false (fun e => h (by rw [e])))
    have HT : Hid (xs.take xs.length = ys.take xs.length → decide (xs = ys) = true) := Lib.hid (fun h => decide_eq_true (lists_same h rfl hl.symm))
    have HN : Hid (∀ k, k < xs.length → xs.take k = ys.take k → xs.getD k 0 = ys.getD k 0 → xs.take (k + 1) = ys.take (k + 1)) := Lib.hid (fun k hk h e => take_same_next h hk (by omega) e)
    generalize decide (xs = ys) = r at *
    rw [← hl]
    have HL := Lib.hid hl
    clear hl
    go_enter Try.func53, Try.ntmps53
    go_wp2
    go_loopw [5] (fun i wr => ∃ k q : Nat, k ≤ xs.length ∧ i = .int .i64 k ∧ wr = w.drewN q ∧ Hid (xs.take k = ys.take k)) (fun i _ => xs.length - (intOf i).toNat)
    case atStart => exact ⟨0, 0, Nat.zero_le _, rfl, rfl, Lib.hid rfl⟩
    case round =>
      obtain ⟨k, q, hk, rfl, rfl, hs⟩ := hrel
      by_cases hlt : k < xs.length
      · obtain ⟨b1, o1, rfl, s1, _⟩ := H1.out (by omega)
        obtain ⟨b2, o2, rfl, s2, _⟩ := H2.out (by have := HL.out; omega)
        have ha := s1 k hlt
        have hb := s2 k (by have := HL.out; omega)
        have HF1 := Lib.hid (HF.out k hlt)
        have HN1 := Lib.hid (HN.out k hlt hs.out)
        clear s1 s2
        generalize xs.getD k 0 = x at ha HF1 HN1
        generalize ys.getD k 0 = y at hb HF1 HN1
        by_cases hxy : x = y
        · subst hxy
          have HN2 := Lib.hid (HN1.out rfl)
          clear HN1 HF1
          go_wp2
          go_quiet (fail)
          go_wp2
          go_roundw
          case rel => exact ⟨k + 1, q + nq, by omega, by go_num, rfl, HN2⟩
          case measure => simp [intOf]; omega
        · have hr := HF1.out hxy
          subst hr
          clear HN1 HF1
          go_wp2
          go_quiet (fail)
          go_wp2
          go_ret
          exact ⟨rfl, below_drewN (below_drewN (Below.refl _ _) _) _⟩
      · obtain rfl : k = xs.length := by omega
        have hr := HT.out hs.out
        subst hr
        go_wp2
        go_ret
        exact ⟨rfl, below_drewN (Below.refl _ _) _⟩
  · have hr : decide (xs = ys) = false := decide_eq_false (fun e => hl (by rw [e]))
    rw [hr]
    have hne : ¬ (xs.length : Int) = (ys.length : Int) := by omega
    go_enter Try.func53, Try.ntmps53
    go_wp2
    go_ret
    exact ⟨rfl, Below.refl _ _⟩

set_option maxRecDepth 100000 in
set_option maxHeartbeats 1600000 in
theorem spec_equalMatrix (A1 A2 : Option Addr) (c1 c2 : Nat) (a b : List (List Int)) (ha : a.length ≤ 1048576) (ta : tot a ≤ 1048576) (tb : tot b ≤ 1048576) (w : World) (h1 : GridS w A1 a) (h2 : GridS w A2 b) :
    Calls Try.prog 41 #[.slice A1 a.length c1, .slice A2 b.length c2] w (BelowBool (decide (a = b)) w) := by
  have H1 := Lib.hid h1
  have H2 := Lib.hid h2
  clear h1 h2
  by_cases hl : a.length = b.length
  · have HF : Hid (∀ k, k < a.length → decide (a.getD k [] = b.getD k []) = false → decide (a = b) = false) := Lib.hid (fun k _ h => decide_eq_false (fun e => (of_decide_eq_false h) (by rw [e])))
    have HT : Hid (a.take a.length = b.take a.length → decide (a = b) = true) := Lib.hid (fun h => decide_eq_true (lists_same h rfl hl.symm))
    have HN : Hid (∀ k, k < a.length → a.take k = b.take k → decide (a.getD k [] = b.getD k []) = true → a.take (k + 1) = b.take (k + 1)) := Lib.hid (fun k hk h e => rows_same_next h hk (by omega) (of_decide_eq_true e))
    generalize decide (a = b) = r at *
    rw [← hl]
    have HL := Lib.hid hl
    clear hl
    go_enter Try.func41, Try.ntmps41
    go_wp2
    go_loopw [5] (fun i wr => ∃ k : Nat, k ≤ a.length ∧ i = .int .i64 k ∧ Below w.heap.size w wr ∧ Hid (a.take k = b.take k)) (fun i _ => a.length - (intOf i).toNat)
    case atStart => exact ⟨0, Nat.zero_le _, rfl, Below.refl _ _, Lib.hid rfl⟩
    case round =>
      obtain ⟨k, hk, rfl, hbl, hs⟩ := hrel
      by_cases hlt : k < a.length
      · obtain ⟨b1, o1, R1, d1, rfl, k1, hr1, hb1⟩ := (H1.out.below hbl).row hlt
        obtain ⟨b2, o2, R2, d2, rfl, k2, hr2, hb2⟩ := (H2.out.below hbl).row (k := k) (by have := HL.out; omega)
        have hx : (a.getD k []).length ≤ 1048576 := Nat.le_trans (row_le_tot hlt) ta
        have hy : (b.getD k []).length ≤ 1048576 := Nat.le_trans (row_le_tot (by have := HL.out; omega)) tb
        have HF1 := Lib.hid (HF.out k hlt)
        have HN1 := Lib.hid (HN.out k hlt hs.out)
        generalize a.getD k [] = x at k1 hr1 hx HF1 HN1
        generalize b.getD k [] = y at k2 hr2 hy HF1 HN1
        have HE : Hid (∀ w', Below wr.heap.size wr w' → Calls Try.prog 53 #[.slice R1 x.length d1, .slice R2 y.length d2] w' (BelowBool (decide (x = y)) w')) := Lib.hid fun w' hb => spec_sameRow R1 R2 d1 d2 x y (by omega) w' (hr1.below hb) (hr2.below hb)
        have HB := Lib.hid hbl
        clear hbl hr1 hr2
        have g0 : (0 : Int) ≤ (k : Int) := by omega
        have g1 : (k : Int) < (a.length : Int) := by omega
        cases hd : decide (x = y) with
        | true =>
          have HN2 := Lib.hid (HN1.out hd)
          rw [hd] at HE
          clear hd HN1 HF1
          go_wp2
          go_region_held3 (fun w' => w'.cell? ⟨b1, o1 + k, none⟩ = some (.slice R1 x.length d1) ∧ w'.cell? ⟨b2, o2 + k, none⟩ = some (.slice R2 y.length d2)) (first | exact ⟨y0, y1⟩ | go_keep) (first | (go_at_call 53; refine (HE.out _ (by first | exact Below.refl _ _ | exact (Below.refl _ _).drew)).mono ?_; rintro e w2 ⟨rfl, hb3⟩; have y0 := (hb3.cell (p := ⟨b1, o1 + k, none⟩) hb1).trans k1; have y1 := (hb3.cell (p := ⟨b2, o2 + k, none⟩) hb2).trans k2))
          go_wp2
          go_roundw
          case rel => exact ⟨k + 1, by omega, by go_num, HB.out.drew.trans (hb3.mono HB.out.size), HN2⟩
          case measure => simp [intOf]; omega
        | false =>
          have hr := HF1.out hd
          subst hr
          rw [hd] at HE
          clear hd HN1 HF1
          go_wp2
          go_region_held3 (fun w' => w'.cell? ⟨b1, o1 + k, none⟩ = some (.slice R1 x.length d1) ∧ w'.cell? ⟨b2, o2 + k, none⟩ = some (.slice R2 y.length d2)) (first | exact ⟨y0, y1⟩ | go_keep) (first | (go_at_call 53; refine (HE.out _ (by first | exact Below.refl _ _ | exact (Below.refl _ _).drew)).mono ?_; rintro e w2 ⟨rfl, hb3⟩; have y0 := (hb3.cell (p := ⟨b1, o1 + k, none⟩) hb1).trans k1; have y1 := (hb3.cell (p := ⟨b2, o2 + k, none⟩) hb2).trans k2))
          go_wp2
          go_ret
          exact ⟨rfl, HB.out.drew.trans (hb3.mono HB.out.size)⟩
      · obtain rfl : k = a.length := by omega
        have hr := HT.out hs.out
        subst hr
        go_wp2
        go_ret
        exact ⟨rfl, hbl⟩
  · have hr : decide (a = b) = false := decide_eq_false (fun e => hl (by rw [e]))
    rw [hr]
    have hne : ¬ (a.length : Int) = (b.length : Int) := by omega
    go_enter Try.func41, Try.ntmps41
    go_wp2
    go_ret
    exact ⟨rfl, Below.refl _ _⟩

/-! ### Sums -/

/-- A matrix: at most nine rows, each as long, its numbers from 0 to a million. -/
structure MatFacts (m : List (List Int)) : Prop where
  pos : 1 ≤ m.length
  le : m.length ≤ 9
  row : ∀ i, i < m.length → (m.getD i []).length = m.length
  cell : ∀ i j, i < m.length → j < m.length → 0 ≤ cellOf m i j ∧ cellOf m i j ≤ 1000000
theorem isMat_facts {m : List (List Int)} (h : isMat m = true) : MatFacts m := by
  obtain ⟨⟨h1, h2⟩, h3⟩ := isMat_iff.1 h
  exact ⟨h1, h2, fun i hi => (h3 i hi).1, fun i j hi hj => (h3 i hi).2 j hj⟩
/-- A number of a matrix in memory. -/
theorem GridS.num {w : World} {A : Option Addr} {m : List (List Int)} (h : GridS w A m) {i j : Nat} (hi : i < m.length) (hj : j < (m.getD i []).length) :
    ∃ b off b2 off2 c', A = some ⟨b, off, none⟩ ∧ w.cell? ⟨b, off + i, none⟩ = some (.slice (some ⟨b2, off2, none⟩) (m.getD i []).length c') ∧ w.cell? ⟨b2, off2 + j, none⟩ = some (.int .i64 (cellOf m i j)) ∧ b < w.heap.size ∧ b2 < w.heap.size := by
  obtain ⟨b, off, A', c', hA, hc, hr, hb⟩ := h.row hi
  obtain ⟨b2, off2, rfl, hat, hb2⟩ := hr (by omega)
  exact ⟨b, off, b2, off2, c', hA, hc, hat j hj, hb, hb2⟩

set_option maxRecDepth 100000 in
set_option maxHeartbeats 1600000 in
theorem spec_sumOf (A : Option Addr) (c : Nat) (m : List (List Int)) (hn : m.length ≤ 1099511627776) (ht : ∀ k, k < m.length → (m.getD k []).length ≤ 1099511627776) (w : World) (hg : GridS w A m) :
    Calls Try.prog 56 #[.slice A m.length c] w fun e w' => e = .returned (.int .i64 (sumM m)) ∧ w' = w := by
  have HG := Lib.hid hg
  have HI := Lib.hid (spec_isMatrix A c m hn ht w hg)
  clear hg ht
  unfold sumM
  cases hm : isMat m with
  | false =>
    rw [hm] at HI
    go_enter Try.func56, Try.ntmps56
    go_wp2_with fail
    refine HI.out.mono ?_
    rintro e w1 ⟨rfl, rfl⟩
    go_wp2
    go_ret
    exact ⟨rfl, rfl⟩
  | true =>
    rw [hm] at HI
    have hf := isMat_facts hm
    have hle := hf.le
    have HF := Lib.hid hf
    rw [if_pos rfl]
    clear hm hf
    go_enter Try.func56, Try.ntmps56
    go_wp2_with fail
    refine HI.out.mono ?_
    rintro e w1 ⟨rfl, rfl⟩
    go_wp2
    go_loop [3, 4] (fun s i => ∃ k : Nat, k ≤ m.length ∧ s = .int .i64 (sumTo k fun i => sumTo m.length fun j => cellOf m i j) ∧ i = .int .i64 k) (fun _ i => m.length - (intOf i).toNat)
    case atStart => exact ⟨0, Nat.zero_le _, rfl, rfl⟩
    case round =>
      obtain ⟨k, hk, rfl, rfl⟩ := hrel
      by_cases hlt : k < m.length
      · have hb1 := sumTo_le (f := fun i => sumTo m.length fun j => cellOf m i j) (B := 9000000) k (fun t ht => by
          have h := sumTo_le (f := fun j => cellOf m t j) (B := 1000000) m.length (fun u hu => HF.out.cell t u (by omega) hu)
          exact ⟨h.1, by omega⟩)
        have HN : Hid ((sumTo k fun i => sumTo m.length fun j => cellOf m i j) + (sumTo m.length fun j => cellOf m k j) = sumTo (k + 1) fun i => sumTo m.length fun j => cellOf m i j) := Lib.hid rfl
        generalize (sumTo k fun i => sumTo m.length fun j => cellOf m i j) = s at *
        have hb3 : s ≤ 81000000 := by omega
        go_wp2
        go_loop [3, 5] (fun s' j => ∃ t : Nat, t ≤ m.length ∧ s' = .int .i64 (s + sumTo t fun j => cellOf m k j) ∧ j = .int .i64 t) (fun _ j => m.length - (intOf j).toNat)
        case atStart => exact ⟨0, Nat.zero_le _, by simp [sumTo], rfl⟩
        case round =>
          obtain ⟨t, htl, rfl, rfl⟩ := hrel
          by_cases htt : t < m.length
          · obtain ⟨b, off, b2, off2, c', rfl, k1, k2, _, _⟩ := HG.out.num hlt (j := t) (by rw [HF.out.row k hlt]; exact htt)
            rw [HF.out.row k hlt] at k1
            have hb4 := sumTo_le (f := fun j => cellOf m k j) (B := 1000000) t (fun u hu => HF.out.cell k u hlt (by omega))
            have hb2 := HF.out.cell k t hlt htt
            have HN2 : Hid ((sumTo t fun j => cellOf m k j) + cellOf m k t = sumTo (t + 1) fun j => cellOf m k j) := Lib.hid rfl
            generalize (sumTo t fun j => cellOf m k j) = s2 at *
            generalize cellOf m k t = y at *
            have hb5 : s2 ≤ 9000000 := by omega
            go_wp2
            go_round
            case rel => exact ⟨t + 1, by omega, by rw [← HN2.out]; go_num, by go_num⟩
            case measure => simp [intOf]; omega
          · obtain rfl : t = m.length := by omega
            go_wp2
            go_round
            case rel => exact ⟨k + 1, by omega, by rw [← HN.out], by go_num⟩
            case measure => simp [intOf]; omega
      · obtain rfl : k = m.length := by omega
        go_wp2
        go_ret
        exact ⟨rfl, rfl⟩
end Go.Proofs.Ytfgjlpnmjfekhaa
