/-
  Merged: The model's IsMatrix, EqualMatrix, TraceOf and SumOf: at every table they answer what the plain words say, and change nothing.
  The model's products: what the plain words say, in new memory; nothing that was there before is changed.
  PLAIN FACTS (no program in this text): a square table that is filled row by row.
  PLAIN FACTS ON THE LANGUAGE OF A SHIFT (no program in this text): the pairs of letters that go on without end on both sides, once as a list of words and once as a set of bits. Both are the greatest set of its kind, so both decide alike which words are in the language.
  The laws' helper that compares two lists of strings: two lists that hold the same strings are found equal.
  The model's l2HasText and l3Goes: at lists of strings in memory they answer as the plain words say; nothing that was there before is changed.
  A matrix is not too large; what a function answers at the laws' copies of tables.
  The model's PowerMatrix and TurnMatrix: what the plain words say, in new memory; nothing that was there before is changed.
  The model's GraphOf, over the states that its StatesOf gives: the table that the plain words say, in new memory; nothing that was there before is changed.
  The model's AreSameShift, over the words that its LanguageOf gives: what the plain words say; nothing that was there before is changed.
  A slice of strings that came in as a shift's words, in the words of the laws; what the model's functions answer at copies.
  The laws' helpers at slices of strings of whatever length, none too: compared, marked, looked at.
  A copy of a shift is marked: its number as before, each of its words overwritten; nothing else is changed.
  The law on AvoidingWords, and on every function of a shift and an int that answers a list of strings: where the model's and the program's function give the same list in new memory at every copy of the shift, the law returns true; nothing that was there before is changed.
  The model's l3Words and AvoidingWords: at every shift in memory the words of a length that avoid the forbidden ones, in new memory; nothing that was there before is changed.
  The model's l3Pairs: at every shift in memory the list of the pairs that go on, in new memory; nothing that was there before is changed.
  The laws on AvoidsAll, InLanguage and IsEmptyShift: where the model's and the program's function answer the same at every copy of the shift, the law returns true; nothing that was there before is changed.
  The model's l3In, InLanguage and IsEmptyShift: at every shift in memory they answer as the plain words say; nothing that was there before is changed.
-/
import Derived.Test.YtalclebehbdliaaGreatBaseTexts
import Derived.Deep.RegionHeld3
import Derived.Lib.SlicesS
import Derived.Lib.AtoiErrMem
import Derived.Deep.AppendLies
namespace Go.Proofs.YtalclebehbdliaaGreat
open Go Go.RowKit

theorem m_in (x lo hi : Int) (w : World) :
    Calls Tryz.prog 59 #[.int .i64 x, .int .i64 lo, .int .i64 hi] w fun e w' => e = .returned (.bool (decide (lo ≤ x) && decide (x ≤ hi))) ∧ w' = w := by
  go_enter Tryz.func59, Tryz.ntmps59
  cases h1 : decide (lo ≤ x) with
  | false => go_wp2; go_ret; exact ⟨rfl, rfl⟩
  | true => go_wp2; go_ret; exact ⟨rfl, rfl⟩

theorem isMat_not {m : List (List Int)} {k : Nat} (hk : k < m.length) (h : rowOk m.length (m.getD k []) = false) : isMat m = false := by
  unfold isMat
  have : m.all (rowOk m.length) = false := by
    rw [List.all_eq_false]
    refine ⟨m[k], List.getElem_mem hk, ?_⟩
    rw [show m[k] = m.getD k [] by simp [List.getD, hk], h]; simp
  rw [this]; rfl
theorem isMat_rows {m : List (List Int)} (h : ∀ j, j < m.length → rowOk m.length (m.getD j []) = true) : isMat m = (decide (1 ≤ (m.length : Int)) && decide ((m.length : Int) ≤ 9)) := by
  unfold isMat
  have : m.all (rowOk m.length) = true := by
    rw [List.all_eq_true]
    intro r hr
    obtain ⟨i, hi, rfl⟩ := List.getElem_of_mem hr
    have := h i hi
    simpa [List.getD, hi] using this
  rw [this, Bool.true_and]
  by_cases h1 : 1 ≤ m.length <;> by_cases h2 : m.length ≤ 9 <;> simp [h1, h2] <;> omega
theorem rowOk_short {n : Nat} {r : List Int} (h : ¬ r.length = n) : rowOk n r = false := by unfold rowOk; simp [h]
theorem rowOk_bad {n k : Nat} {r : List Int} (hk : k < r.length) (h : (decide ((0 : Int) ≤ r.getD k 0) && decide (r.getD k 0 ≤ 1000000)) = false) : rowOk n r = false := by
  cases e : rowOk n r with
  | false => rfl
  | true =>
    have := (rowOk_iff.1 e).2 k hk
    rw [decide_eq_true this.1, decide_eq_true this.2] at h
    cases h

set_option maxRecDepth 100000 in
set_option maxHeartbeats 1600000 in
theorem spec_isMatrix (A : Option Addr) (c : Nat) (m : List (List Int)) (hn : m.length ≤ 1099511627776) (ht : ∀ k, k < m.length → (m.getD k []).length ≤ 1099511627776) (w : World) (hg : GridS w A m) :
    Calls Tryz.prog 70 #[.slice A m.length c] w fun e w' => e = .returned (.bool (isMat m)) ∧ w' = w := by
  have HG := Lib.hid hg
  have HT := Lib.hid ht
  have HI := Lib.hid m_in
  clear hg ht
  go_enter Tryz.func70, Tryz.ntmps70
  go_wp2
  go_loop [3] (fun i => ∃ k : Nat, k ≤ m.length ∧ i = .int .i64 k ∧ Hid (∀ j, j < k → rowOk m.length (m.getD j []) = true)) (fun i => m.length - (intOf i).toNat)
  case atStart => exact ⟨0, Nat.zero_le _, rfl, Lib.hid (fun j h => by omega)⟩
  case round =>
    obtain ⟨k, hk, rfl, hto⟩ := hrel
    by_cases hlt : k < m.length
    · obtain ⟨b, off, A', c', rfl, hc, hrow, hb⟩ := HG.out.row hlt
      have hxl := HT.out k hlt
      by_cases hlen : (m.getD k []).length = m.length
      · have HNX : Hid (rowOk m.length (m.getD k []) = true → ∀ j, j < k + 1 → rowOk m.length (m.getD j []) = true) := Lib.hid (fun h j hj => by
          by_cases e : j = k
          · subst e; exact h
          · exact hto.out j (by omega))
        have HNO : Hid (rowOk m.length (m.getD k []) = false → isMat m = false) := Lib.hid (isMat_not hlt)
        have HR := Lib.hid hrow
        have HLN := Lib.hid hlen
        rw [hlen] at hc
        clear hrow hxl hlen hto
        generalize m.getD k [] = x at *
        go_wp2
        go_loop [4] (fun j => ∃ t : Nat, t ≤ m.length ∧ j = .int .i64 t ∧ Hid (∀ u, u < t → 0 ≤ x.getD u 0 ∧ x.getD u 0 ≤ 1000000)) (fun j => m.length - (intOf j).toNat)
        case atStart => exact ⟨0, Nat.zero_le _, rfl, Lib.hid (fun j h => by omega)⟩
        case round =>
          obtain ⟨t, htl, rfl, hok⟩ := hrel
          by_cases htt : t < m.length
          · obtain ⟨b2, off2, rfl, hat, hb2⟩ := HR.out (by rw [HLN.out]; omega)
            have hcx := hat t (by rw [HLN.out]; exact htt)
            have HBAD := Lib.hid (rowOk_bad (n := m.length) (k := t) (r := x) (by rw [HLN.out]; exact htt))
            clear hat
            generalize hy : x.getD t 0 = y at *
            go_wp2_with fail
            refine (HI.out _ _ _ _).mono ?_
            rintro e w1 ⟨rfl, rfl⟩
            cases hx : (decide (0 ≤ y) && decide (y ≤ 1000000)) with
            | false =>
              go_wp2
              go_ret
              exact ⟨by rw [HNO.out (HBAD.out hx)]; rfl, rfl⟩
            | true =>
              have hy2 : 0 ≤ y ∧ y ≤ 1000000 := by simpa using hx
              have HOK : Hid (∀ u, u < t + 1 → 0 ≤ x.getD u 0 ∧ x.getD u 0 ≤ 1000000) := Lib.hid (fun u hu => by
                by_cases e : u = t
                · subst e; rw [hy]; exact hy2
                · exact hok.out u (by omega))
              clear hy hx hy2 hok
              go_wp2
              go_round
              case rel => exact ⟨t + 1, by omega, by go_num, HOK⟩
              case measure => simp [intOf]; omega
          · obtain rfl : t = m.length := by omega
            have HROW : Hid (rowOk m.length x = true) := Lib.hid (rowOk_iff.2 ⟨HLN.out, fun u hu => hok.out u (by rw [HLN.out] at hu; exact hu)⟩)
            clear hok
            go_wp2
            go_round
            case rel => exact ⟨k + 1, by omega, by go_num, Lib.hid (HNX.out HROW.out)⟩
            case measure => simp [intOf]; omega
      · have HNO := Lib.hid (isMat_not hlt (rowOk_short hlen))
        have hne : ¬ ((m.getD k []).length : Int) = (m.length : Int) := by omega
        clear hrow
        generalize m.getD k [] = x at *
        go_wp2
        go_ret
        exact ⟨by rw [HNO.out]; rfl, rfl⟩
    · obtain rfl : k = m.length := by omega
      have HE := Lib.hid (isMat_rows hto.out)
      go_wp2_with fail
      refine (HI.out _ _ _ _).mono ?_
      rintro e w1 ⟨rfl, rfl⟩
      go_wp2
      go_ret
      exact ⟨by rw [HE.out]; rfl, rfl⟩

/-! ### Two tables -/

theorem take_same_next {xs ys : List Int} {k : Nat} (h : xs.take k = ys.take k) (h1 : k < xs.length) (h2 : k < ys.length) (he : xs.getD k 0 = ys.getD k 0) : xs.take (k + 1) = ys.take (k + 1) := by
  rw [ints_take_next xs k h1, ints_take_next ys k h2, h, he]
theorem rows_same_next {a b : List (List Int)} {k : Nat} (h : a.take k = b.take k) (h1 : k < a.length) (h2 : k < b.length) (he : a.getD k [] = b.getD k []) : a.take (k + 1) = b.take (k + 1) := by
  rw [rows_take_next a k h1, rows_take_next b k h2, h, he]
theorem lists_same {α : Type} {xs ys : List α} {n : Nat} (h : xs.take n = ys.take n) (h1 : xs.length = n) (h2 : ys.length = n) : xs = ys := by
  rwa [List.take_of_length_le (by omega), List.take_of_length_le (by omega)] at h

def BelowBool (b : Bool) (w : World) (e : Ending) (w' : World) : Prop := e = .returned (.bool b) ∧ Below w.heap.size w w'

/-- A matrix: at most nine rows, each as long, its numbers from 0 to a million. -/
structure MatFacts (m : List (List Int)) : Prop where
  pos : 1 ≤ m.length
  le : m.length ≤ 9
  row : ∀ i, i < m.length → (m.getD i []).length = m.length
  cell : ∀ i j, i < m.length → j < m.length → 0 ≤ cellOf m i j ∧ cellOf m i j ≤ 1000000
theorem isMat_facts {m : List (List Int)} (h : isMat m = true) : MatFacts m := by
  obtain ⟨⟨h1, h2⟩, h3⟩ := isMat_iff.1 h
  exact ⟨h1, h2, fun i hi => (h3 i hi).1, fun i j hi hj => (h3 i hi).2 j hj⟩
/-- A number of a matrix in memory. -/
theorem GridS.num {w : World} {A : Option Addr} {m : List (List Int)} (h : GridS w A m) {i j : Nat} (hi : i < m.length) (hj : j < (m.getD i []).length) :
    ∃ b off b2 off2 c', A = some ⟨b, off, none⟩ ∧ w.cell? ⟨b, off + i, none⟩ = some (.slice (some ⟨b2, off2, none⟩) (m.getD i []).length c') ∧ w.cell? ⟨b2, off2 + j, none⟩ = some (.int .i64 (cellOf m i j)) ∧ b < w.heap.size ∧ b2 < w.heap.size := by
  obtain ⟨b, off, A', c', hA, hc, hr, hb⟩ := h.row hi
  obtain ⟨b2, off2, rfl, hat, hb2⟩ := hr (by omega)
  exact ⟨b, off, b2, off2, c', hA, hc, hat j hj, hb, hb2⟩

set_option maxRecDepth 100000 in
set_option maxHeartbeats 1600000 in
theorem spec_sumOf (A : Option Addr) (c : Nat) (m : List (List Int)) (hn : m.length ≤ 1099511627776) (ht : ∀ k, k < m.length → (m.getD k []).length ≤ 1099511627776) (w : World) (hg : GridS w A m) :
    Calls Tryz.prog 68 #[.slice A m.length c] w fun e w' => e = .returned (.int .i64 (sumM m)) ∧ w' = w := by
  have HG := Lib.hid hg
  have HI := Lib.hid (spec_isMatrix A c m hn ht w hg)
  clear hg ht
  unfold sumM
  cases hm : isMat m with
  | false =>
    rw [hm] at HI
    go_enter Tryz.func68, Tryz.ntmps68
    go_wp2_with fail
    refine HI.out.mono ?_
    rintro e w1 ⟨rfl, rfl⟩
    go_wp2
    go_ret
    exact ⟨rfl, rfl⟩
  | true =>
    rw [hm] at HI
    have hf := isMat_facts hm
    have hle := hf.le
    have HF := Lib.hid hf
    rw [if_pos rfl]
    clear hm hf
    go_enter Tryz.func68, Tryz.ntmps68
    go_wp2_with fail
    refine HI.out.mono ?_
    rintro e w1 ⟨rfl, rfl⟩
    go_wp2
    go_loop [3, 4] (fun s i => ∃ k : Nat, k ≤ m.length ∧ s = .int .i64 (sumTo k fun i => sumTo m.length fun j => cellOf m i j) ∧ i = .int .i64 k) (fun _ i => m.length - (intOf i).toNat)
    case atStart => exact ⟨0, Nat.zero_le _, rfl, rfl⟩
    case round =>
      obtain ⟨k, hk, rfl, rfl⟩ := hrel
      by_cases hlt : k < m.length
      · have hb1 := sumTo_le (f := fun i => sumTo m.length fun j => cellOf m i j) (B := 9000000) k (fun t ht => by
          have h := sumTo_le (f := fun j => cellOf m t j) (B := 1000000) m.length (fun u hu => HF.out.cell t u (by omega) hu)
          exact ⟨h.1, by omega⟩)
        have HN : Hid ((sumTo k fun i => sumTo m.length fun j => cellOf m i j) + (sumTo m.length fun j => cellOf m k j) = sumTo (k + 1) fun i => sumTo m.length fun j => cellOf m i j) := Lib.hid rfl
        generalize (sumTo k fun i => sumTo m.length fun j => cellOf m i j) = s at *
        have hb3 : s ≤ 81000000 := by omega
        go_wp2
        go_loop [3, 5] (fun s' j => ∃ t : Nat, t ≤ m.length ∧ s' = .int .i64 (s + sumTo t fun j => cellOf m k j) ∧ j = .int .i64 t) (fun _ j => m.length - (intOf j).toNat)
        case atStart => exact ⟨0, Nat.zero_le _, by simp [sumTo], rfl⟩
        case round =>
          obtain ⟨t, htl, rfl, rfl⟩ := hrel
          by_cases htt : t < m.length
          · obtain ⟨b, off, b2, off2, c', rfl, k1, k2, _, _⟩ := HG.out.num hlt (j := t) (by rw [HF.out.row k hlt]; exact htt)
            rw [HF.out.row k hlt] at k1
            have hb4 := sumTo_le (f := fun j => cellOf m k j) (B := 1000000) t (fun u hu => HF.out.cell k u hlt (by omega))
            have hb2 := HF.out.cell k t hlt htt
            have HN2 : Hid ((sumTo t fun j => cellOf m k j) + cellOf m k t = sumTo (t + 1) fun j => cellOf m k j) := Lib.hid rfl
            generalize (sumTo t fun j => cellOf m k j) = s2 at *
            generalize cellOf m k t = y at *
            have hb5 : s2 ≤ 9000000 := by omega
            go_wp2
            go_round
            case rel => exact ⟨t + 1, by omega, by rw [← HN2.out]; go_num, by go_num⟩
            case measure => simp [intOf]; omega
          · obtain rfl : t = m.length := by omega
            go_wp2
            go_round
            case rel => exact ⟨k + 1, by omega, by rw [← HN.out], by go_num⟩
            case measure => simp [intOf]; omega
      · obtain rfl : k = m.length := by omega
        go_wp2
        go_ret
        exact ⟨rfl, rfl⟩
end Go.Proofs.YtalclebehbdliaaGreat
namespace Go.Proofs.YtalclebehbdliaaGreat
open Go Go.RowKit

/-- The product's number at i and j, of its first t terms. -/
def termsM (a b : List (List Int)) (i j t : Nat) : Int := sumTo t fun k => cellOf a i k * cellOf b k j
/-- A product that is being made: all numbers ahead of i and j, and t terms there. -/
def timesF (a b : List (List Int)) (i j t : Nat) : Nat → Nat → Int := fun i' j' => if i' < i ∨ (i' = i ∧ j' < j) then termsM a b i' j' b.length else if i' = i ∧ j' = j then termsM a b i j t else 0
theorem timesF_zero (a b : List (List Int)) (n m : Nat) : tabOf n m (timesF a b 0 0 0) = tabOf n m fun _ _ => 0 := tabOf_congr fun i j _ _ => by
  unfold timesF termsM
  rw [if_neg (by omega)]
  split <;> rfl
theorem timesF_cell (a b : List (List Int)) (n m i j t : Nat) (hi : i < n) (hj : j < m) : cellOf (tabOf n m (timesF a b i j t)) i j = termsM a b i j t := by
  rw [tabOf_cell hi hj]
  unfold timesF
  rw [if_neg (by omega), if_pos ⟨rfl, rfl⟩]
theorem timesF_term (a b : List (List Int)) (n m i j t : Nat) (hi : i < n) : (tabOf n m (timesF a b i j t)).set i (((tabOf n m (timesF a b i j t)).getD i []).set j (termsM a b i j t + cellOf a i t * cellOf b t j)) = tabOf n m (timesF a b i j (t + 1)) := by
  rw [tabOf_set _ _ hi]
  refine tabOf_congr fun i' j' _ _ => ?_
  by_cases e : i' = i ∧ j' = j
  · obtain ⟨rfl, rfl⟩ := e
    rw [if_pos ⟨rfl, rfl⟩]
    unfold timesF
    rw [if_neg (by omega), if_pos ⟨rfl, rfl⟩]; rfl
  · rw [if_neg e]
    unfold timesF
    rw [if_neg e, if_neg e]
theorem timesF_next (a b : List (List Int)) (n m i j : Nat) : tabOf n m (timesF a b i j b.length) = tabOf n m (timesF a b i (j + 1) 0) := tabOf_congr fun i' j' _ _ => by
  unfold timesF
  by_cases h1 : i' < i ∨ (i' = i ∧ j' < j)
  · rw [if_pos h1, if_pos (by omega)]
  · rw [if_neg h1]
    by_cases h2 : i' = i ∧ j' = j
    · obtain ⟨rfl, rfl⟩ := h2
      rw [if_pos ⟨rfl, rfl⟩, if_pos (by omega)]
    · rw [if_neg h2, if_neg (by omega)]
      split <;> rfl
theorem timesF_row (a b : List (List Int)) (n m i : Nat) : tabOf n m (timesF a b i m 0) = tabOf n m (timesF a b (i + 1) 0 0) := tabOf_congr fun i' j' _ hj => by
  unfold timesF
  by_cases h1 : i' < i ∨ (i' = i ∧ j' < m)
  · rw [if_pos h1, if_pos (by omega)]
  · rw [if_neg h1, if_neg (by omega), if_neg (by omega)]
    split <;> rfl
theorem timesF_all (a b : List (List Int)) : tabOf a.length b.length (timesF a b a.length 0 0) = mulM a b := tabOf_congr fun i' j' hi _ => by
  unfold timesF termsM
  rw [if_pos (Or.inl hi)]
theorem termsM_le {a b : List (List Int)} (ha : MatFacts a) (hb : MatFacts b) (hab : a.length = b.length) {i j t : Nat} (hi : i < a.length) (hj : j < b.length) (ht : t ≤ b.length) : 0 ≤ termsM a b i j t ∧ termsM a b i j t ≤ t * 1000000000000 :=
  sumTo_le t fun k hk => by
    obtain ⟨x1, x2⟩ := ha.cell i k hi (by omega)
    obtain ⟨y1, y2⟩ := hb.cell k j (by omega) hj
    refine ⟨Int.mul_nonneg x1 y1, ?_⟩
    calc cellOf a i k * cellOf b k j ≤ 1000000 * cellOf b k j := Int.mul_le_mul_of_nonneg_right x2 y1
      _ ≤ 1000000 * 1000000 := Int.mul_le_mul_of_nonneg_left y2 (by decide)
theorem prod_le {x y : Int} (hx : 0 ≤ x ∧ x ≤ 1000000) (hy : 0 ≤ y ∧ y ≤ 1000000) : 0 ≤ x * y ∧ x * y ≤ 1000000000000 := by
  refine ⟨Int.mul_nonneg hx.1 hy.1, ?_⟩
  calc x * y ≤ 1000000 * y := Int.mul_le_mul_of_nonneg_right hx.2 hy.1
    _ ≤ 1000000 * 1000000 := Int.mul_le_mul_of_nonneg_left hy.2 (by decide)

set_option maxRecDepth 100000 in
set_option maxHeartbeats 3200000 in
theorem spec_times (A1 A2 : Option Addr) (c1 c2 : Nat) (a b : List (List Int)) (ha : MatFacts a) (hb : MatFacts b) (hab : a.length = b.length) (w : World) (h1 : GridS w A1 a) (h2 : GridS w A2 b) :
    Calls Tryz.prog 60 #[.slice A1 a.length c1, .slice A2 b.length c2, .int .i64 (b.length : Int)] w (NewG (mulM a b) w) := by
  have H1 := Lib.hid h1
  have H2 := Lib.hid h2
  have HA := Lib.hid ha
  have HBF := Lib.hid hb
  have HZ := Lib.hid (spec_zero a.length b.length (by have := ha.le; omega) (by have := hb.le; omega) w)
  have HL := Lib.hid hab
  have l1 := ha.le
  have l2 := hb.le
  clear h1 h2 ha hb hab
  go_enter Tryz.func60, Tryz.ntmps60
  go_wp2_with fail
  refine HZ.out.mono ?_
  rintro e w1 ⟨v, rfl, hown, b1⟩
  obtain ⟨A, c, rfl, -⟩ := hown.gridS
  rw [← timesF_zero a b] at hown
  rw [tabOf_length] at hown ⊢
  have HO := Lib.hid hown
  have HB1 := Lib.hid b1
  clear hown b1
  go_wp2
  go_loopw [8] (fun i wr => ∃ k : Nat, k ≤ a.length ∧ i = .int .i64 k ∧ OwnG wr w.heap.size (.slice A a.length c) (tabOf a.length b.length (timesF a b k 0 0)) ∧ Below w.heap.size w wr) (fun i _ => a.length - (intOf i).toNat)
  case atStart => exact ⟨0, Nat.zero_le _, rfl, HO.out, HB1.out⟩
  case round =>
    obtain ⟨i, hi, rfl, hown, hbl⟩ := hrel
    by_cases hil : i < a.length
    · have HO1 := Lib.hid hown
      have HB2 := Lib.hid hbl
      clear hown hbl
      go_wp2
      go_loopw [9] (fun jv w2 => ∃ j : Nat, j ≤ b.length ∧ jv = .int .i64 j ∧ OwnG w2 w.heap.size (.slice A a.length c) (tabOf a.length b.length (timesF a b i j 0)) ∧ Below w.heap.size w w2) (fun j _ => b.length - (intOf j).toNat)
      case atStart => exact ⟨0, Nat.zero_le _, rfl, HO1.out, HB2.out⟩
      case round =>
        obtain ⟨j, hj, rfl, hown, hbl⟩ := hrel
        by_cases hjl : j < b.length
        · have HO2 := Lib.hid hown
          have HB3 := Lib.hid hbl
          clear hown hbl
          go_wp2
          go_loopw [10] (fun tv w3 => ∃ t : Nat, t ≤ b.length ∧ tv = .int .i64 t ∧ OwnG w3 w.heap.size (.slice A a.length c) (tabOf a.length b.length (timesF a b i j t)) ∧ Below w.heap.size w w3) (fun t _ => b.length - (intOf t).toNat)
          case atStart => exact ⟨0, Nat.zero_le _, rfl, HO2.out, HB3.out⟩
          case round =>
            obtain ⟨t, ht, rfl, hown, hbl⟩ := hrel
            by_cases htl : t < b.length
            · have hrl : ((tabOf a.length b.length (timesF a b i j t)).getD i []).length = b.length := by rw [tabOf_row hil]; simp
              obtain ⟨g, cap, gi, ci, hv, k1, k2, kf, kb, kl, hset⟩ := hown.at (i := i) (j := j) (by rw [tabOf_length]; exact hil) (by rw [hrl]; exact hjl)
              rw [tabOf_length] at hv
              simp only [Value.slice.injEq, true_and] at hv
              obtain ⟨rfl, rfl⟩ := hv
              rw [hrl] at k1
              rw [timesF_cell a b _ _ i j t hil hjl] at k2
              obtain ⟨p1, p2, p3, p4, p5, rfl, ka1, ka2, _, _⟩ := (H1.out.below hbl).num hil (j := t) (by rw [HA.out.row i hil]; have := HL.out; omega)
              obtain ⟨q1, q2, q3, q4, q5, rfl, kb1, kb2, _, _⟩ := (H2.out.below hbl).num htl (j := j) (by rw [HBF.out.row t htl]; exact hjl)
              rw [HA.out.row i hil] at ka1
              rw [HBF.out.row t htl] at kb1
              have hs1 := hset (termsM a b i j t + cellOf a i t * cellOf b t j)
              rw [timesF_term a b _ _ i j t hil] at hs1
              have HS := Lib.hid hs1
              have hT := termsM_le HA.out HBF.out HL.out hil hjl (Nat.le_of_lt htl)
              have hxy := prod_le (HA.out.cell i t hil (by have := HL.out; omega)) (HBF.out.cell t j htl hjl)
              have HB4 := Lib.hid hbl
              have hta : t < a.length := by have := HL.out; omega
              clear hset hs1 hown hbl
              generalize termsM a b i j t = T at *
              generalize cellOf a i t = x at *
              generalize cellOf b t j = y at *
              have hT2 : T ≤ 9000000000000 := by omega
              go_wp2
              go_region
              go_wp2
              go_roundw
              case rel => exact ⟨t + 1, by omega, by go_num, HS.out.drew, (HB4.out.setCell kb _).drew⟩
              case measure => simp [intOf]; omega
            · obtain rfl : t = b.length := by omega
              rw [timesF_next] at hown
              have HO3 := Lib.hid hown
              clear hown
              go_wp2
              go_roundw
              case rel => exact ⟨j + 1, by omega, by go_num, HO3.out, hbl⟩
              case measure => simp [intOf]; omega
        · obtain rfl : j = b.length := by omega
          rw [timesF_row] at hown
          have HO3 := Lib.hid hown
          clear hown
          go_wp2
          go_roundw
          case rel => exact ⟨i + 1, by omega, by go_num, HO3.out, hbl⟩
          case measure => simp [intOf]; omega
    · obtain rfl : i = a.length := by omega
      rw [timesF_all] at hown
      have HO3 := Lib.hid hown
      clear hown
      go_wp2
      go_ret
      exact ⟨_, rfl, HO3.out, hbl⟩

/-- A table and whether there is one. -/
def NewGB (o : Option (List (List Int))) (w : World) (e : Ending) (w' : World) : Prop := ∃ v, e = .returned (.tuple #[v, .bool o.isSome]) ∧ OwnG w' w.heap.size v (o.getD []) ∧ Below w.heap.size w w'
theorem ownG_empty (w : World) : OwnG (w.alloc (.cells #[] 56)) w.heap.size (.slice (some ⟨w.heap.size, 0, none⟩) 0 0) [] := by
  have h := World.ownsRow_made (base := w.heap.size) (e := 56) (size := 1) w #[] 0 (Nat.le_refl _) (by unfold maxLen; omega) rfl
  exact ⟨[], h, RowsOwn.nil _ _ _⟩
theorem below_new {w : World} {o : Obj} : Below w.heap.size w (w.alloc o) := (Below.refl _ _).alloc (Nat.le_refl _) _
theorem prodM_none {a b : List (List Int)} (h : isMat a = false ∨ isMat b = false ∨ ¬ a.length = b.length) : prodM a b = none := by
  unfold prodM
  rw [if_neg]
  intro hc
  rw [Bool.and_eq_true, Bool.and_eq_true, Bool.and_eq_true, decide_eq_true_iff] at hc
  obtain ⟨⟨⟨h1, h2⟩, h3⟩, _⟩ := hc
  rcases h with h | h | h
  · rw [h] at h1; cases h1
  · rw [h] at h2; cases h2
  · exact h h3
theorem prodM_if {a b : List (List Int)} (h1 : isMat a = true) (h2 : isMat b = true) (h3 : a.length = b.length) : prodM a b = if isMat (mulM a b) = true then some (mulM a b) else none := by
  unfold prodM
  rw [h1, h2, decide_eq_true h3, Bool.true_and, Bool.true_and, Bool.true_and]
theorem mulM_length (a b : List (List Int)) : (mulM a b).length = a.length := tabOf_length _ _ _
theorem mulM_row {a b : List (List Int)} {k : Nat} (hk : k < (mulM a b).length) : ((mulM a b).getD k []).length = b.length := by
  rw [mulM_length] at hk
  unfold mulM
  rw [tabOf_row hk]; simp

set_option maxRecDepth 100000 in
set_option maxHeartbeats 1600000 in
theorem spec_multiply (A1 A2 : Option Addr) (c1 c2 : Nat) (a b : List (List Int)) (ha : a.length ≤ 1048576) (hb : b.length ≤ 1048576) (ta : tot a ≤ 1048576) (tb : tot b ≤ 1048576) (w : World) (h1 : GridS w A1 a) (h2 : GridS w A2 b) :
    Calls Tryz.prog 101 #[.slice A1 a.length c1, .slice A2 b.length c2] w (NewGB (prodM a b) w) := by
  have I1 := Lib.hid (fun w' (hb : Below w.heap.size w w') => spec_isMatrix A1 c1 a (by omega) (fun k hk => by have := row_le_tot hk; omega) w' (h1.below hb))
  have I2 := Lib.hid (fun w' (hb : Below w.heap.size w w') => spec_isMatrix A2 c2 b (by omega) (fun k hk => by have := row_le_tot hk; omega) w' (h2.below hb))
  have HE := Lib.hid (ownG_empty w)
  cases ma : isMat a with
  | false =>
    rw [ma] at I1
    rw [prodM_none (Or.inl ma)]
    clear h1 h2 I2
    go_enter Tryz.func101, Tryz.ntmps101
    go_wp2_with fail
    refine (I1.out w (Below.refl _ _)).mono ?_
    rintro e w1 ⟨rfl, rfl⟩
    go_wp2
    go_ret2
    exact ⟨_, rfl, HE.out, below_new⟩
  | true =>
    rw [ma] at I1
    cases mb : isMat b with
    | false =>
      rw [mb] at I2
      rw [prodM_none (Or.inr (Or.inl mb))]
      clear h1 h2
      go_enter Tryz.func101, Tryz.ntmps101
      go_wp2_with fail
      refine (I1.out w (Below.refl _ _)).mono ?_
      rintro e w1 ⟨rfl, rfl⟩
      go_wp2_with fail
      refine (I2.out w1 (Below.refl _ _)).mono ?_
      rintro e w2 ⟨rfl, rfl⟩
      go_wp2
      go_ret2
      exact ⟨_, rfl, HE.out, below_new⟩
    | true =>
      rw [mb] at I2
      by_cases hab : a.length = b.length
      · rw [prodM_if ma mb hab]
        have fa := isMat_facts ma
        have fb := isMat_facts mb
        have HT := Lib.hid (spec_times A1 A2 c1 c2 a b fa fb hab w h1 h2)
        have l1 := fa.le
        have HI3 : Hid (∀ A c w', GridS w' A (mulM a b) → Calls Tryz.prog 70 #[.slice A (mulM a b).length c] w' fun e w2 => e = .returned (.bool (isMat (mulM a b))) ∧ w2 = w') := Lib.hid fun A c w' hg => spec_isMatrix A c (mulM a b) (by rw [mulM_length]; omega) (fun k hk => by rw [mulM_row hk]; omega) w' hg
        have HR1 : Hid (isMat (mulM a b) = true → (if isMat (mulM a b) = true then some (mulM a b) else none) = some (mulM a b)) := Lib.hid fun h => if_pos h
        have HR2 : Hid (isMat (mulM a b) = false → (if isMat (mulM a b) = true then some (mulM a b) else none) = none) := Lib.hid fun h => if_neg (by rw [h]; decide)
        generalize (if isMat (mulM a b) = true then some (mulM a b) else none) = r at *
        rw [← hab] at I2 HT ⊢
        clear h1 h2 fa fb ma mb hab
        generalize mulM a b = p at *
        go_enter Tryz.func101, Tryz.ntmps101
        go_wp2_with fail
        refine (I1.out w (Below.refl _ _)).mono ?_
        rintro e w1 ⟨rfl, rfl⟩
        go_wp2_with fail
        refine (I2.out w1 (Below.refl _ _)).mono ?_
        rintro e w2 ⟨rfl, rfl⟩
        go_wp2_with fail
        refine HT.out.mono ?_
        rintro e w3 ⟨v, rfl, ho3, b3⟩
        obtain ⟨A, c, rfl, hg3⟩ := ho3.gridS
        have HO3 := Lib.hid ho3
        have HC := Lib.hid (HI3.out A c w3 hg3)
        have HE3 := Lib.hid (ownG_empty w3)
        have hs3 := b3.size
        clear ho3 hg3
        go_wp2_with fail
        refine HC.out.mono ?_
        rintro e w4 ⟨rfl, rfl⟩
        cases hp : isMat p with
        | true =>
          have hr := HR1.out hp
          subst hr
          clear HR1 HR2
          go_wp2
          go_ret2
          exact ⟨_, rfl, HO3.out, b3⟩
        | false =>
          have hr := HR2.out hp
          subst hr
          clear HR1 HR2
          go_wp2
          go_ret2
          exact ⟨_, rfl, HE3.out.mono hs3, b3.alloc hs3 _⟩
      · rw [prodM_none (Or.inr (Or.inr hab))]
        have hne : ¬ (a.length : Int) = (b.length : Int) := by omega
        clear h1 h2
        go_enter Tryz.func101, Tryz.ntmps101
        go_wp2_with fail
        refine (I1.out w (Below.refl _ _)).mono ?_
        rintro e w1 ⟨rfl, rfl⟩
        go_wp2_with fail
        refine (I2.out w1 (Below.refl _ _)).mono ?_
        rintro e w2 ⟨rfl, rfl⟩
        go_wp2
        go_ret2
        exact ⟨_, rfl, HE.out, below_new⟩
end Go.Proofs.YtalclebehbdliaaGreat
namespace Go.Proofs.YtalclebehbdliaaGreat
open Go Go.RowKit

/-- The numbers f up to place j of row i, zeros behind. -/
def fillF (f : Nat → Nat → Int) (i j : Nat) : Nat → Nat → Int := fun a b => if a < i ∨ (a = i ∧ b < j) then f a b else 0
theorem fillF_zero (f : Nat → Nat → Int) (n : Nat) : tabOf n n (fillF f 0 0) = tabOf n n fun _ _ => 0 := tabOf_congr fun i j _ _ => by unfold fillF; rw [if_neg (by omega)]
theorem fillF_next (f : Nat → Nat → Int) (n i j : Nat) (hi : i < n) : (tabOf n n (fillF f i j)).set i (((tabOf n n (fillF f i j)).getD i []).set j (f i j)) = tabOf n n (fillF f i (j + 1)) := by
  rw [tabOf_set _ _ hi]
  refine tabOf_congr fun a b _ _ => ?_
  unfold fillF
  by_cases e : a = i ∧ b = j
  · obtain ⟨rfl, rfl⟩ := e
    rw [if_pos ⟨rfl, rfl⟩, if_pos (by omega)]
  · rw [if_neg e]
    by_cases h : a < i ∨ (a = i ∧ b < j)
    · rw [if_pos h, if_pos (by omega)]
    · rw [if_neg h, if_neg (by omega)]
theorem fillF_row (f : Nat → Nat → Int) (n i : Nat) : tabOf n n (fillF f i n) = tabOf n n (fillF f (i + 1) 0) := tabOf_congr fun a b _ hb => by
  unfold fillF
  by_cases h : a < i ∨ (a = i ∧ b < n)
  · rw [if_pos h, if_pos (by omega)]
  · rw [if_neg h, if_neg (by omega)]
theorem fillF_all (f : Nat → Nat → Int) (n : Nat) : tabOf n n (fillF f n 0) = tabOf n n f := tabOf_congr fun a b ha _ => by unfold fillF; rw [if_pos (by omega)]

theorem fillF_still (f : Nat → Nat → Int) (n i j : Nat) (h : f i j = 0) : tabOf n n (fillF f i (j + 1)) = tabOf n n (fillF f i j) := tabOf_congr fun a b _ _ => by
  unfold fillF
  by_cases e : a = i ∧ b = j
  · obtain ⟨rfl, rfl⟩ := e
    rw [if_pos (by omega), if_neg (by omega), h]
  · by_cases h2 : a < i ∨ (a = i ∧ b < j)
    · rw [if_pos h2, if_pos (by omega)]
    · rw [if_neg h2, if_neg (by omega)]
end Go.Proofs.YtalclebehbdliaaGreat
namespace Go.Proofs.YtalclebehbdliaaGreat
open Go Go.RowKit

/-! ### Parts of words -/
theorem contains_iff {s sub : List UInt8} : Lib.contains s sub = true ↔ sub <:+: s := by
  constructor
  · intro h
    by_cases hx : ∃ i, i + sub.length ≤ s.length ∧ Lib.occAt s sub i = true
    · obtain ⟨i, _, hi⟩ := hx
      unfold Lib.occAt at hi
      exact (List.isPrefixOf_iff_prefix.1 hi).isInfix.trans (List.drop_suffix i s).isInfix
    · have := contains_no (s := s) (sub := sub) (fun i hi => by
        rw [← Bool.not_eq_true]; exact fun ho => hx ⟨i, hi, ho⟩)
      rw [this] at h; cases h
  · rintro ⟨x, y, rfl⟩
    refine contains_yes (i := x.length) (by simp) ?_
    unfold Lib.occAt
    rw [List.isPrefixOf_iff_prefix, List.append_assoc, List.drop_left]
    exact List.prefix_append sub y
theorem avoids_part {ps : List ByteArray} {u v : ByteArray} (h : u.data.toList <:+: v.data.toList) (ha : avoids ps v = true) : avoids ps u = true := by
  unfold avoids at ha ⊢
  rw [List.all_eq_true] at ha ⊢
  intro f hf
  have := ha f hf
  cases hc : Lib.contains u.data.toList f.data.toList with
  | false => rfl
  | true => rw [contains_iff.2 ((contains_iff.1 hc).trans h)] at this; cases this
def pr (a b : UInt8) : ByteArray := ⟨#[a, b]⟩
def tri (a b c : UInt8) : ByteArray := ⟨#[a, b, c]⟩
/-- The byte at a place. -/
def ch (w : ByteArray) (i : Nat) : UInt8 := w.data.toList.getD i 0
theorem ch_lt (w : ByteArray) (i : Nat) (h : i < w.size) : ch w i = w[i] := by
  unfold ch
  rw [List.getD_eq_getElem?_getD, List.getElem?_eq_getElem (by exact h), Option.getD_some]; rfl
theorem list2 {l : List UInt8} (h : l.length = 2) : ∃ a b, l = [a, b] := by
  match l, h with
  | [a, b], _ => exact ⟨a, b, rfl⟩
theorem list3 {l : List UInt8} (h : l.length = 3) : ∃ a b c, l = [a, b, c] := by
  match l, h with
  | [a, b, c], _ => exact ⟨a, b, c, rfl⟩
theorem is_pr {w : ByteArray} (h : w.size = 2) : ∃ a b, w = pr a b := by
  obtain ⟨a, b, e⟩ := list2 (l := w.data.toList) h
  exact ⟨a, b, ba_ext e⟩
theorem is_tri {w : ByteArray} (h : w.size = 3) : ∃ a b c, w = tri a b c := by
  obtain ⟨a, b, c, e⟩ := list3 (l := w.data.toList) h
  exact ⟨a, b, c, ba_ext e⟩
theorem pr_inj {a b c d : UInt8} (h : pr a b = pr c d) : a = c ∧ b = d := by
  have : [a, b] = [c, d] := congrArg (fun w : ByteArray => w.data.toList) h
  simpa using this

theorem getD_mem {ps : List ByteArray} {k : Nat} (h : k < ps.length) : ps.getD k ByteArray.empty ∈ ps := by
  rw [List.getD_eq_getElem?_getD, List.getElem?_eq_getElem h]; exact List.getElem_mem h

/-! ### All words of a length -/
theorem isL_letter {k j : Nat} (hk : k ≤ 3) (hj : j < k) : isL (k : Int) (UInt8.ofNat (97 + j)) = true := by
  have e : (UInt8.ofNat (97 + j)).toNat = 97 + j := by rw [UInt8.toNat_ofNat']; omega
  unfold isL
  rw [e, Bool.and_eq_true, decide_eq_true_eq, decide_eq_true_eq]
  exact ⟨by omega, by omega⟩
theorem isL_is {k : Nat} {b : UInt8} (h : isL (k : Int) b = true) : ∃ j, j < k ∧ b = UInt8.ofNat (97 + j) := by
  unfold isL at h
  rw [Bool.and_eq_true, decide_eq_true_eq, decide_eq_true_eq] at h
  refine ⟨b.toNat - 97, by omega, ?_⟩
  rw [show 97 + (b.toNat - 97) = b.toNat by omega, UInt8.ofNat_toNat]
theorem mem_allW (k : Nat) (hk : k ≤ 3) : ∀ (n : Nat) (w : ByteArray), w ∈ allW k n ↔ w.size = n ∧ w.data.toList.all (isL (k : Int)) = true
  | 0, w => by
    show w ∈ [ByteArray.empty] ↔ _
    rw [List.mem_singleton]
    constructor
    · rintro rfl; exact ⟨rfl, rfl⟩
    · rintro ⟨h, _⟩
      exact ba_ext (List.eq_nil_of_length_eq_zero h)
  | n + 1, w => by
    show w ∈ longer (allW k n) k ↔ _
    unfold longer
    rw [List.mem_flatMap]
    constructor
    · rintro ⟨u, hu, hw⟩
      obtain ⟨j, hj, rfl⟩ := List.mem_map.1 hw
      obtain ⟨h1, h2⟩ := (mem_allW k hk n u).1 hu
      refine ⟨by rw [ByteArray.size_append, letterB_size, h1], ?_⟩
      rw [ba_append, List.all_append, h2]
      show (true && ([UInt8.ofNat (97 + j)].all (isL (k : Int)))) = true
      simp only [List.all_cons, List.all_nil, Bool.and_true, Bool.true_and]
      exact isL_letter hk (List.mem_range.1 hj)
    · rintro ⟨h1, h2⟩
      have hl : w.data.toList.length = n + 1 := h1
      have hne : w.data.toList ≠ [] := by intro e; rw [e] at hl; cases hl
      have hsplit := List.dropLast_concat_getLast hne
      rw [← hsplit, List.all_append, Bool.and_eq_true] at h2
      obtain ⟨j, hj, hb⟩ := isL_is (b := w.data.toList.getLast hne) (by have := h2.2; simp only [List.all_cons, List.all_nil, Bool.and_true] at this; exact this)
      refine ⟨⟨w.data.toList.dropLast.toArray⟩, (mem_allW k hk n _).2 ⟨?_, by simpa using h2.1⟩, List.mem_map.2 ⟨j, List.mem_range.2 hj, ?_⟩⟩
      · show w.data.toList.dropLast.toArray.size = n
        rw [List.size_toArray, List.length_dropLast, hl]; rfl
      · refine ba_ext ?_
        rw [ba_append]
        show w.data.toList.dropLast ++ [UInt8.ofNat (97 + j)] = w.data.toList
        rw [← hb]
        exact hsplit

/-! ### The pairs that go on -/
def Closed (L : Int) (ps : List ByteArray) (S : UInt8 → UInt8 → Prop) : Prop :=
  ∀ a b, S a b → isL L a = true ∧ isL L b = true ∧ (∃ c, isL L c = true ∧ avoids ps (tri a b c) = true ∧ S b c) ∧ (∃ c, isL L c = true ∧ avoids ps (tri c a b) = true ∧ S c a)
def Lively (L : Int) (ps : List ByteArray) (a b : UInt8) : Prop := ∃ S, Closed L ps S ∧ S a b
theorem Lively.closed (L : Int) (ps : List ByteArray) : Closed L ps (Lively L ps) := by
  rintro a b ⟨S, hS, hab⟩
  obtain ⟨h1, h2, ⟨c, hc, ht, hs⟩, d, hd, ht', hs'⟩ := hS a b hab
  exact ⟨h1, h2, ⟨c, hc, ht, S, hS, hs⟩, d, hd, ht', S, hS, hs'⟩

/-! ### As a list -/
def goesB (ps list : List ByteArray) (w : ByteArray) : Bool := list.any fun q => decide (ch q 0 = ch w 1) && avoids ps (w ++ q.extract 1 q.size)
def goesA (ps list : List ByteArray) (w : ByteArray) : Bool := list.any fun q => decide (ch q 1 = ch w 0) && avoids ps (q ++ w.extract 1 w.size)
def stepW (ps l : List ByteArray) : List ByteArray := l.filter fun w => goesB ps l w && goesA ps l w
def fixW (ps : List ByteArray) : Nat → List ByteArray → List ByteArray
  | 0, l => l
  | n + 1, l => if (stepW ps l).length = l.length then l else fixW ps n (stepW ps l)
theorem stepW_length (ps l : List ByteArray) : (stepW ps l).length ≤ l.length := List.length_filter_le _ _
theorem stepW_same {ps l : List ByteArray} (h : (stepW ps l).length = l.length) : stepW ps l = l := by
  unfold stepW at h ⊢
  exact List.filter_eq_self.2 (List.length_filter_eq_length_iff.1 h)
theorem fixW_fixed (ps : List ByteArray) : ∀ (n : Nat) (l : List ByteArray), l.length ≤ n → stepW ps (fixW ps n l) = fixW ps n l
  | 0, l, h => by
    obtain rfl : l = [] := List.eq_nil_of_length_eq_zero (by omega)
    rfl
  | n + 1, l, h => by
    unfold fixW
    split
    · next e => exact stepW_same e
    · next e =>
      have := stepW_length ps l
      exact fixW_fixed ps n _ (by omega)
theorem fixW_sub (ps : List ByteArray) : ∀ (n : Nat) (l : List ByteArray), ∀ x ∈ fixW ps n l, x ∈ l
  | 0, l, x, h => h
  | n + 1, l, x, h => by
    unfold fixW at h
    split at h
    · exact h
    · exact (List.mem_filter.1 (fixW_sub ps n _ x h)).1
theorem pr_tail (a b c d : UInt8) : pr a b ++ (pr c d).extract 1 (pr c d).size = tri a b d := ba_ext (by rw [ba_append, ba_extract]; rfl)
theorem lively_step {L : Int} {ps l : List ByteArray} (h : ∀ a b, Lively L ps a b → pr a b ∈ l) : ∀ a b, Lively L ps a b → pr a b ∈ stepW ps l := by
  intro a b hab
  obtain ⟨_, _, ⟨c, _, hc, hbc⟩, d, _, hd, hda⟩ := Lively.closed L ps a b hab
  unfold stepW
  refine List.mem_filter.2 ⟨h a b hab, ?_⟩
  rw [Bool.and_eq_true]
  refine ⟨List.any_eq_true.2 ⟨pr b c, h b c hbc, ?_⟩, List.any_eq_true.2 ⟨pr d a, h d a hda, ?_⟩⟩
  · rw [Bool.and_eq_true, decide_eq_true_eq, pr_tail]; exact ⟨rfl, hc⟩
  · rw [Bool.and_eq_true, decide_eq_true_eq, pr_tail]; exact ⟨rfl, hd⟩
theorem lively_fix {L : Int} {ps : List ByteArray} : ∀ (n : Nat) (l : List ByteArray), (∀ a b, Lively L ps a b → pr a b ∈ l) → ∀ a b, Lively L ps a b → pr a b ∈ fixW ps n l
  | 0, l, h => h
  | n + 1, l, h => by
    unfold fixW
    split
    · exact h
    · exact lively_fix n _ (lively_step h)
def keepW (ps ws : List ByteArray) : List ByteArray := ws.filter (avoids ps)
def pairsW (k : Nat) (ps : List ByteArray) : List ByteArray := fixW ps 9 (keepW ps (allW k 2))
theorem two_le {k : Nat} (hk : k ≤ 3) : k ^ 2 ≤ 9 := Nat.le_trans (Nat.pow_le_pow_left hk 2) (by decide)
theorem keepW_two (ps : List ByteArray) {k : Nat} (hk : k ≤ 3) : (keepW ps (allW k 2)).length ≤ 9 :=
  Nat.le_trans (List.length_filter_le _ _) (by rw [allW_length]; exact two_le hk)
theorem pairsW_fixed (ps : List ByteArray) {k : Nat} (hk : k ≤ 3) : stepW ps (pairsW k ps) = pairsW k ps := fixW_fixed ps 9 _ (keepW_two ps hk)
theorem mem_pairsW' {ps : List ByteArray} {k : Nat} (hk : k ≤ 3) {w : ByteArray} (h : w ∈ pairsW k ps) : ∃ a b, w = pr a b ∧ isL (k : Int) a = true ∧ isL (k : Int) b = true := by
  have h1 := fixW_sub ps 9 _ w h
  obtain ⟨h2, h3⟩ := (mem_allW k hk 2 w).1 ((List.mem_filter.1 h1).1)
  obtain ⟨a, b, rfl⟩ := is_pr h2
  have h4 : ([a, b].all (isL (k : Int))) = true := h3
  simp at h4
  exact ⟨a, b, rfl, h4.1, h4.2⟩
theorem mem_pairsW {ps : List ByteArray} {k : Nat} (hk : k ≤ 3) (a b : UInt8) : pr a b ∈ pairsW k ps ↔ Lively (k : Int) ps a b := by
  constructor
  · intro h
    refine ⟨fun x y => pr x y ∈ pairsW k ps, ?_, h⟩
    intro x y hxy
    obtain ⟨x', y', e, hx, hy⟩ := mem_pairsW' hk hxy
    obtain ⟨rfl, rfl⟩ := pr_inj e
    have h2 := hxy
    rw [← pairsW_fixed ps hk] at h2
    have h3 := (List.mem_filter.1 h2).2
    rw [Bool.and_eq_true] at h3
    obtain ⟨q, hq, hq2⟩ := List.any_eq_true.1 h3.1
    obtain ⟨r, hr, hr2⟩ := List.any_eq_true.1 h3.2
    obtain ⟨a1, b1, rfl, _, hb1⟩ := mem_pairsW' hk hq
    obtain ⟨a2, b2, rfl, ha2, _⟩ := mem_pairsW' hk hr
    rw [Bool.and_eq_true, decide_eq_true_eq, pr_tail] at hq2 hr2
    have e1 : a1 = y := hq2.1
    have e2 : b2 = x := hr2.1
    subst e1 e2
    exact ⟨hx, hy, ⟨b1, hb1, hq2.2, hq⟩, a2, ha2, hr2.2, hr⟩
  · refine lively_fix 9 _ ?_ a b
    intro a b hab
    obtain ⟨h1, h2, ⟨c, _, hc, _⟩, _⟩ := Lively.closed _ _ a b hab
    refine List.mem_filter.2 ⟨(mem_allW k hk 2 _).2 ⟨rfl, ?_⟩, avoids_part ⟨[], [c], rfl⟩ hc⟩
    show ([a, b].all (isL (k : Int))) = true
    simp [h1, h2]

/-! ### As bits -/
def ix (b : UInt8) : Nat := b.toNat - 97
def bitOf (a b : UInt8) : Nat := 3 * ix a + ix b
def bitAt (w : ByteArray) (i : Nat) : Nat := bitOf (ch w i) (ch w (i + 1))
def hasP (p : Nat) (w : ByteArray) (i : Nat) : Bool := p.testBit (bitAt w i)
def stepF (p : Nat) (r : Nat × Nat) (w : ByteArray) : Nat × Nat :=
  if (hasP p w 0 && hasP p w 1) = true then (r.1 ||| 2 ^ bitAt w 0, r.2 ||| 2 ^ bitAt w 1) else r
def stepB (ws : List ByteArray) (p : Nat) : Nat := (ws.foldl (stepF p) (0, 0)).1 &&& (ws.foldl (stepF p) (0, 0)).2
theorem foldl_next (ws : List ByteArray) (p k : Nat) (r : Nat × Nat) (h : k < ws.length) : (ws.take (k + 1)).foldl (stepF p) r = stepF p ((ws.take k).foldl (stepF p) r) (ws.getD k ByteArray.empty) := by
  rw [List.take_succ_eq_append_getElem h, List.foldl_append, List.getD_eq_getElem?_getD, List.getElem?_eq_getElem h]; rfl
theorem foldl_ahead (p b : Nat) : ∀ (ws : List ByteArray) (r : Nat × Nat), (ws.foldl (stepF p) r).1.testBit b = true ↔ r.1.testBit b = true ∨ ∃ w ∈ ws, hasP p w 0 = true ∧ hasP p w 1 = true ∧ bitAt w 0 = b
  | [], r => by simp
  | w :: ws, r => by
    rw [List.foldl_cons, foldl_ahead p b ws]
    unfold stepF
    by_cases h : (hasP p w 0 && hasP p w 1) = true
    · rw [if_pos h]
      rw [Bool.and_eq_true] at h
      simp only [Nat.testBit_or, Bool.or_eq_true, Nat.testBit_two_pow, decide_eq_true_eq, List.mem_cons, exists_eq_or_imp, h, true_and, or_assoc]
    · rw [if_neg h]
      rw [Bool.and_eq_true] at h
      simp only [List.mem_cons, exists_eq_or_imp]
      constructor
      · rintro (h1 | h1)
        · exact .inl h1
        · exact .inr (.inr h1)
      · rintro (h1 | h1 | h1)
        · exact .inl h1
        · exact absurd ⟨h1.1, h1.2.1⟩ h
        · exact .inr h1
theorem foldl_behind (p b : Nat) : ∀ (ws : List ByteArray) (r : Nat × Nat), (ws.foldl (stepF p) r).2.testBit b = true ↔ r.2.testBit b = true ∨ ∃ w ∈ ws, hasP p w 0 = true ∧ hasP p w 1 = true ∧ bitAt w 1 = b
  | [], r => by simp
  | w :: ws, r => by
    rw [List.foldl_cons, foldl_behind p b ws]
    unfold stepF
    by_cases h : (hasP p w 0 && hasP p w 1) = true
    · rw [if_pos h]
      rw [Bool.and_eq_true] at h
      simp only [Nat.testBit_or, Bool.or_eq_true, Nat.testBit_two_pow, decide_eq_true_eq, List.mem_cons, exists_eq_or_imp, h, true_and, or_assoc]
    · rw [if_neg h]
      rw [Bool.and_eq_true] at h
      simp only [List.mem_cons, exists_eq_or_imp]
      constructor
      · rintro (h1 | h1)
        · exact .inl h1
        · exact .inr (.inr h1)
      · rintro (h1 | h1 | h1)
        · exact .inl h1
        · exact absurd ⟨h1.1, h1.2.1⟩ h
        · exact .inr h1
theorem stepB_iff (ws : List ByteArray) (p b : Nat) : (stepB ws p).testBit b = true ↔ (∃ w ∈ ws, hasP p w 0 = true ∧ hasP p w 1 = true ∧ bitAt w 0 = b) ∧ ∃ w ∈ ws, hasP p w 0 = true ∧ hasP p w 1 = true ∧ bitAt w 1 = b := by
  unfold stepB
  rw [Nat.testBit_and, Bool.and_eq_true, foldl_ahead, foldl_behind]
  simp
theorem stepB_le (ws : List ByteArray) (p : Nat) : stepB ws p ≤ p := by
  have : stepB ws p &&& p = stepB ws p := by
    apply Nat.eq_of_testBit_eq
    intro b
    rw [Nat.testBit_and]
    cases h : (stepB ws p).testBit b with
    | false => rfl
    | true =>
      obtain ⟨⟨w, _, h1, _, rfl⟩, _⟩ := (stepB_iff ws p b).1 h
      rw [Bool.true_and]; exact h1
  rw [← this]; exact Nat.and_le_right
def fixB (ws : List ByteArray) : Nat → Nat → Nat
  | 0, p => p
  | n + 1, p => if stepB ws p = p then p else fixB ws n (stepB ws p)
theorem fixB_fixed (ws : List ByteArray) : ∀ (n p : Nat), p ≤ n → stepB ws (fixB ws n p) = fixB ws n p
  | 0, p, h => by
    have := stepB_le ws p
    unfold fixB; omega
  | n + 1, p, h => by
    unfold fixB
    split
    · next e => exact e
    · next e =>
      have := stepB_le ws p
      exact fixB_fixed ws n _ (by omega)
def setB (ws : List ByteArray) : Nat := fixB ws 511 511
theorem setB_fixed (ws : List ByteArray) : stepB ws (setB ws) = setB ws := fixB_fixed ws 511 511 (Nat.le_refl _)
theorem fixB_le (ws : List ByteArray) : ∀ (n p : Nat), fixB ws n p ≤ p
  | 0, p => Nat.le_refl _
  | n + 1, p => by
    unfold fixB
    split
    · exact Nat.le_refl _
    · exact Nat.le_trans (fixB_le ws n _) (stepB_le ws p)
theorem ix_lt {L : Int} {a : UInt8} (hL : L ≤ 3) (h : isL L a = true) : 97 ≤ a.toNat ∧ ix a < 3 := by
  unfold isL at h
  rw [Bool.and_eq_true, decide_eq_true_eq, decide_eq_true_eq] at h
  unfold ix
  omega
theorem bitOf_inj {L : Int} {a b c d : UInt8} (hL : L ≤ 3) (ha : isL L a = true) (hb : isL L b = true) (hc : isL L c = true) (hd : isL L d = true) (h : bitOf a b = bitOf c d) : a = c ∧ b = d := by
  have h1 := ix_lt hL ha; have h2 := ix_lt hL hb; have h3 := ix_lt hL hc; have h4 := ix_lt hL hd
  unfold bitOf at h
  have e1 : a.toNat = c.toNat := by unfold ix at *; omega
  have e2 : b.toNat = d.toNat := by unfold ix at *; omega
  exact ⟨UInt8.toNat_inj.1 e1, UInt8.toNat_inj.1 e2⟩
/-- The avoiding words of three letters. -/
def trisW (k : Nat) (ps : List ByteArray) : List ByteArray := keepW ps (allW k 3)
theorem mem_trisW {ps : List ByteArray} {k : Nat} (hk : k ≤ 3) (w : ByteArray) : w ∈ trisW k ps ↔ ∃ a b c, w = tri a b c ∧ isL (k : Int) a = true ∧ isL (k : Int) b = true ∧ isL (k : Int) c = true ∧ avoids ps (tri a b c) = true := by
  unfold trisW keepW
  rw [List.mem_filter, mem_allW k hk]
  constructor
  · rintro ⟨⟨h1, h2⟩, h3⟩
    obtain ⟨a, b, c, rfl⟩ := is_tri h1
    have h4 : ([a, b, c].all (isL (k : Int))) = true := h2
    simp at h4
    exact ⟨a, b, c, rfl, h4.1, h4.2.1, h4.2.2, h3⟩
  · rintro ⟨a, b, c, rfl, h1, h2, h3, h4⟩
    refine ⟨⟨rfl, ?_⟩, h4⟩
    show ([a, b, c].all (isL (k : Int))) = true
    simp [h1, h2, h3]
theorem lively_stepB {ps : List ByteArray} {k : Nat} (hk : k ≤ 3) {p : Nat} (h : ∀ a b, Lively (k : Int) ps a b → p.testBit (bitOf a b) = true) : ∀ a b, Lively (k : Int) ps a b → (stepB (trisW k ps) p).testBit (bitOf a b) = true := by
  intro a b hab
  obtain ⟨ha, hb, ⟨c, hc, htc, hbc⟩, d, hd, htd, hda⟩ := Lively.closed (k : Int) ps a b hab
  rw [stepB_iff]
  exact ⟨⟨tri a b c, (mem_trisW hk _).2 ⟨a, b, c, rfl, ha, hb, hc, htc⟩, h a b hab, h b c hbc, rfl⟩, tri d a b, (mem_trisW hk _).2 ⟨d, a, b, rfl, hd, ha, hb, htd⟩, h d a hda, h a b hab, rfl⟩
theorem lively_fixB {ps : List ByteArray} {k : Nat} (hk : k ≤ 3) : ∀ (n p : Nat), (∀ a b, Lively (k : Int) ps a b → p.testBit (bitOf a b) = true) → ∀ a b, Lively (k : Int) ps a b → (fixB (trisW k ps) n p).testBit (bitOf a b) = true
  | 0, p, h => h
  | n + 1, p, h => by
    unfold fixB
    split
    · exact h
    · exact lively_fixB hk n _ (lively_stepB hk h)
theorem all_bits : ∀ b, b < 9 → (511 : Nat).testBit b = true := by decide
theorem setB_iff {ps : List ByteArray} {k : Nat} (hk : k ≤ 3) (n : Nat) : (setB (trisW k ps)).testBit n = true ↔ ∃ a b, Lively (k : Int) ps a b ∧ n = bitOf a b := by
  have hk3 : (k : Int) ≤ 3 := by omega
  constructor
  · intro h
    have h0 := h
    rw [← setB_fixed, stepB_iff] at h0
    obtain ⟨⟨w, hw, hw0, hw1, hwb⟩, _⟩ := h0
    obtain ⟨a, b, c, rfl, ha, hb, hc, ht⟩ := (mem_trisW hk _).1 hw
    refine ⟨a, b, ⟨fun x y => isL (k : Int) x = true ∧ isL (k : Int) y = true ∧ (setB (trisW k ps)).testBit (bitOf x y) = true, ?_, ha, hb, by rw [show bitOf a b = n from hwb]; exact h⟩, hwb.symm⟩
    rintro x y ⟨hx, hy, hxy⟩
    have h1 := hxy
    rw [← setB_fixed, stepB_iff] at h1
    obtain ⟨⟨u, hu, hu0, hu1, hub⟩, v, hv, hv0, hv1, hvb⟩ := h1
    obtain ⟨a1, b1, c1, rfl, ha1, hb1, hc1, ht1⟩ := (mem_trisW hk _).1 hu
    obtain ⟨a2, b2, c2, rfl, ha2, hb2, hc2, ht2⟩ := (mem_trisW hk _).1 hv
    obtain ⟨rfl, rfl⟩ := bitOf_inj hk3 ha1 hb1 hx hy hub
    obtain ⟨rfl, rfl⟩ := bitOf_inj hk3 hb2 hc2 hx hy hvb
    exact ⟨hx, hy, ⟨c1, hc1, ht1, hy, hc1, hu1⟩, a2, ha2, ht2, ha2, hx, hv0⟩
  · rintro ⟨a, b, hab, rfl⟩
    refine lively_fixB hk 511 511 ?_ a b hab
    intro a b hab
    obtain ⟨ha, hb, _⟩ := Lively.closed _ _ a b hab
    have h1 := ix_lt hk3 ha; have h2 := ix_lt hk3 hb
    exact all_bits _ (by unfold bitOf; omega)
theorem setB_at {ps : List ByteArray} {k : Nat} (hk : k ≤ 3) {a b : UInt8} (ha : isL (k : Int) a = true) (hb : isL (k : Int) b = true) : (setB (trisW k ps)).testBit (bitOf a b) = true ↔ Lively (k : Int) ps a b := by
  rw [setB_iff hk]
  constructor
  · rintro ⟨c, d, hcd, e⟩
    obtain ⟨hc, hd, _⟩ := Lively.closed _ _ c d hcd
    obtain ⟨rfl, rfl⟩ := bitOf_inj (by omega : (k : Int) ≤ 3) ha hb hc hd e
    exact hcd
  · exact fun h => ⟨a, b, h, rfl⟩
theorem setB_zero {ps : List ByteArray} {k : Nat} (hk : k ≤ 3) : setB (trisW k ps) = 0 ↔ pairsW k ps = [] := by
  constructor
  · intro h
    cases e : pairsW k ps with
    | nil => rfl
    | cons w r =>
      have hw : w ∈ pairsW k ps := by rw [e]; exact List.mem_cons_self ..
      obtain ⟨a, b, rfl, _, _⟩ := mem_pairsW' hk hw
      have := (setB_iff hk (bitOf a b)).2 ⟨a, b, (mem_pairsW hk a b).1 hw, rfl⟩
      rw [h] at this
      simp at this
  · intro h
    apply Nat.eq_of_testBit_eq
    intro n
    rw [Nat.zero_testBit]
    cases hn : (setB (trisW k ps)).testBit n with
    | false => rfl
    | true =>
      obtain ⟨a, b, hab, _⟩ := (setB_iff hk n).1 hn
      have := (mem_pairsW hk a b).2 hab
      rw [h] at this; cases this

/-! ### Which words are in the language -/
def coverB (p : Nat) (w : ByteArray) : Bool :=
  if w.size = 0 then decide (p ≠ 0) else if w.size = 1 then decide ((p >>> (3 * ix (ch w 0))) &&& 7 ≠ 0) else (List.range (w.size - 1)).all (hasP p w)
def inM (ps M : List ByteArray) (w : ByteArray) : Bool :=
  (!decide (M.length = 0) && avoids ps w) && (if 2 ≤ w.size then Lib.containsS M (w.extract 0 2) && Lib.containsS M (w.extract (w.size - 2) w.size) else M.any fun q => Lib.contains q.data.toList w.data.toList)
theorem ch_isL {k : Int} {w : ByteArray} (h : w.data.toList.all (isL k) = true) {i : Nat} (hi : i < w.size) : isL k (ch w i) = true := by
  rw [List.all_eq_true] at h
  unfold ch
  rw [List.getD_eq_getElem?_getD, List.getElem?_eq_getElem (by exact hi), Option.getD_some]
  exact h _ (List.getElem_mem _)
theorem pr_at {w : ByteArray} {i : Nat} (h : i + 2 ≤ w.size) : w.extract i (i + 2) = pr (ch w i) (ch w (i + 1)) := by
  refine ba_ext ?_
  rw [ba_extract, Nat.add_sub_cancel_left]
  show _ = [ch w i, ch w (i + 1)]
  have hl : w.data.toList.length = w.size := rfl
  rw [List.drop_eq_getElem_cons (by omega), List.drop_eq_getElem_cons (by omega)]
  unfold ch
  rw [List.getD_eq_getElem?_getD, List.getElem?_eq_getElem (by omega), List.getD_eq_getElem?_getD, List.getElem?_eq_getElem (by omega)]
  rfl
theorem tri_at {w : ByteArray} {i : Nat} (h : i + 3 ≤ w.size) : (tri (ch w i) (ch w (i + 1)) (ch w (i + 2))).data.toList <:+: w.data.toList := by
  have hl : w.data.toList.length = w.size := rfl
  refine ⟨w.data.toList.take i, w.data.toList.drop (i + 3), ?_⟩
  have e : w.data.toList.drop i = (tri (ch w i) (ch w (i + 1)) (ch w (i + 2))).data.toList ++ w.data.toList.drop (i + 3) := by
    rw [List.drop_eq_getElem_cons (by omega), List.drop_eq_getElem_cons (by omega), List.drop_eq_getElem_cons (by omega)]
    unfold ch
    rw [List.getD_eq_getElem?_getD, List.getElem?_eq_getElem (by omega), List.getD_eq_getElem?_getD, List.getElem?_eq_getElem (by omega), List.getD_eq_getElem?_getD, List.getElem?_eq_getElem (by omega)]
    rfl
  rw [List.append_assoc, ← e, List.take_append_drop]
/-- If the first pair and the last of a word that avoids go on, each of its pairs does. -/
theorem lively_inner {L : Int} {ps : List ByteArray} {w : ByteArray} (hw : w.data.toList.all (isL L) = true) (ha : avoids ps w = true) (h2 : 2 ≤ w.size) (hf : Lively L ps (ch w 0) (ch w 1)) (hl : Lively L ps (ch w (w.size - 2)) (ch w (w.size - 1))) :
    ∀ i, i + 2 ≤ w.size → Lively L ps (ch w i) (ch w (i + 1)) := by
  intro i hi
  refine ⟨fun a b => Lively L ps a b ∨ ∃ j, j + 2 ≤ w.size ∧ a = ch w j ∧ b = ch w (j + 1), ?_, .inr ⟨i, hi, rfl, rfl⟩⟩
  have hc := Lively.closed L ps
  rintro a b (hab | ⟨j, hj, rfl, rfl⟩)
  · obtain ⟨h1, h3, ⟨c, h4, h5, h6⟩, d, h7, h8, h9⟩ := hc a b hab
    exact ⟨h1, h3, ⟨c, h4, h5, .inl h6⟩, d, h7, h8, .inl h9⟩
  · refine ⟨ch_isL hw (by omega), ch_isL hw (by omega), ?_, ?_⟩
    · by_cases hj3 : j + 3 ≤ w.size
      · exact ⟨ch w (j + 2), ch_isL hw (by omega), avoids_part (tri_at hj3) ha, .inr ⟨j + 1, by omega, rfl, rfl⟩⟩
      · rw [show w.size - 2 = j by omega, show w.size - 1 = j + 1 by omega] at hl
        obtain ⟨_, _, ⟨c, h4, h5, h6⟩, _⟩ := hc _ _ hl
        exact ⟨c, h4, h5, .inl h6⟩
    · by_cases hj0 : j = 0
      · subst hj0
        obtain ⟨_, _, _, d, h7, h8, h9⟩ := hc _ _ hf
        exact ⟨d, h7, h8, .inl h9⟩
      · obtain ⟨m, rfl⟩ : ∃ m, j = m + 1 := ⟨j - 1, by omega⟩
        exact ⟨ch w m, ch_isL hw (by omega), avoids_part (tri_at (by omega)) ha, .inr ⟨m, by omega, rfl, rfl⟩⟩
theorem seven_bit : ∀ j, j < 3 → (7 : Nat).testBit j = true := by decide
theorem begin_iff (p n : Nat) : (p >>> n) &&& 7 ≠ 0 ↔ ∃ j, j < 3 ∧ p.testBit (n + j) = true := by
  constructor
  · intro h
    by_cases hx : ∃ j, j < 3 ∧ p.testBit (n + j) = true
    · exact hx
    · exfalso; apply h
      apply Nat.eq_of_testBit_eq
      intro j
      rw [Nat.testBit_and, Nat.testBit_shiftRight, Nat.zero_testBit]
      by_cases hj : j < 3
      · have : p.testBit (n + j) = false := by
          rw [← Bool.not_eq_true]; exact fun e => hx ⟨j, hj, e⟩
        rw [this, Bool.false_and]
      · have : (7 : Nat).testBit j = false := Nat.testBit_lt_two_pow (Nat.lt_of_lt_of_le (by decide : 7 < 2 ^ 3) (Nat.pow_le_pow_right (by decide) (by omega)))
        rw [this, Bool.and_false]
  · rintro ⟨j, hj, h⟩ e
    have := congrArg (fun x => Nat.testBit x j) e
    simp only [Nat.testBit_and, Nat.testBit_shiftRight, Nat.zero_testBit, h, seven_bit j hj] at this
    cases this
theorem in_same {ps : List ByteArray} {k : Nat} (hk : k ≤ 3) {w : ByteArray} (hw : w.data.toList.all (isL (k : Int)) = true) : inM ps (pairsW k ps) w = (avoids ps w && coverB (setB (trisW k ps)) w) := by
  have hk3 : (k : Int) ≤ 3 := by omega
  unfold inM
  cases ha : avoids ps w with
  | false => rw [Bool.and_false, Bool.false_and, Bool.false_and]
  | true =>
    rw [Bool.and_true, Bool.true_and]
    by_cases hM : pairsW k ps = []
    · have h0 := (setB_zero hk).2 hM
      rw [hM, h0]
      show false = coverB 0 w
      unfold coverB
      split
      · rfl
      · split
        · simp
        · next h1 h2 =>
          have : (List.range (w.size - 1)).all (hasP 0 w) = false := by
            rw [← Bool.not_eq_true, List.all_eq_true]
            intro h
            have := h 0 (List.mem_range.2 (by omega))
            unfold hasP at this
            rw [Nat.zero_testBit] at this
            cases this
          exact this.symm
    · have hne : setB (trisW k ps) ≠ 0 := fun e => hM ((setB_zero hk).1 e)
      have hlen : decide ((pairsW k ps).length = 0) = false := by
        rw [decide_eq_false_iff_not]; exact fun e => hM (List.eq_nil_of_length_eq_zero e)
      obtain ⟨q0, hq0⟩ : ∃ q, q ∈ pairsW k ps := by
        cases e : pairsW k ps with
        | nil => exact absurd e hM
        | cons a r => exact ⟨a, List.mem_cons_self ..⟩
      rw [hlen, Bool.not_false, Bool.true_and]
      by_cases h2 : 2 ≤ w.size
      · rw [if_pos h2]
        unfold coverB
        rw [if_neg (by omega), if_neg (by omega), Bool.eq_iff_iff, Bool.and_eq_true, Lib.containsS_iff, Lib.containsS_iff, List.all_eq_true]
        have e1 := pr_at (w := w) (i := 0) (by omega)
        have e2 := pr_at (w := w) (i := w.size - 2) (by omega)
        rw [show w.size - 2 + 2 = w.size by omega, show w.size - 2 + 1 = w.size - 1 by omega] at e2
        rw [e1, e2, mem_pairsW hk, mem_pairsW hk]
        constructor
        · rintro ⟨hf, hl⟩ i hi
          have hi2 : i + 2 ≤ w.size := by have := List.mem_range.1 hi; omega
          have := lively_inner hw ha h2 hf hl i hi2
          exact (setB_at hk (ch_isL hw (by omega)) (ch_isL hw (by omega))).2 this
        · intro h
          have at' : ∀ i, i + 2 ≤ w.size → Lively (k : Int) ps (ch w i) (ch w (i + 1)) := fun i hi =>
            (setB_at hk (ch_isL hw (by omega)) (ch_isL hw (by omega))).1 (h i (List.mem_range.2 (by omega)))
          have h3 := at' (w.size - 2) (by omega)
          rw [show w.size - 2 + 1 = w.size - 1 by omega] at h3
          exact ⟨at' 0 (by omega), h3⟩
      · rw [if_neg h2]
        by_cases h0 : w.size = 0
        · unfold coverB
          rw [if_pos h0, decide_eq_true hne, List.any_eq_true]
          have : w.data.toList = [] := List.eq_nil_of_length_eq_zero h0
          exact ⟨q0, hq0, by rw [this]; exact contains_iff.2 (List.nil_infix)⟩
        · have h1 : w.size = 1 := by omega
          unfold coverB
          rw [if_neg h0, if_pos h1, Bool.eq_iff_iff, decide_eq_true_eq, begin_iff, List.any_eq_true]
          have hwl : w.data.toList = [ch w 0] := by
            have hl : w.data.toList.length = w.size := rfl
            match e : w.data.toList with
            | [] => rw [e] at hl; simp at hl; omega
            | [a] => unfold ch; rw [e]; rfl
            | a :: b :: r => rw [e] at hl; simp at hl; omega
          have hca := ch_isL hw (i := 0) (by omega)
          rw [hwl]
          constructor
          · rintro ⟨q, hq, hc⟩
            obtain ⟨a, b, rfl, hla, hlb⟩ := mem_pairsW' hk hq
            have hab := (mem_pairsW hk a b).1 hq
            have hmem : ch w 0 ∈ [a, b] := by
              have := contains_iff.1 hc
              exact this.subset (List.mem_singleton.2 rfl)
            have : ∃ c, Lively (k : Int) ps (ch w 0) c := by
              simp at hmem
              rcases hmem with e | e
              · exact ⟨b, by rw [e]; exact hab⟩
              · obtain ⟨_, _, ⟨c, _, _, h6⟩, _⟩ := Lively.closed _ _ a b hab
                exact ⟨c, by rw [e]; exact h6⟩
            obtain ⟨c, hc⟩ := this
            obtain ⟨_, hlc, _⟩ := Lively.closed _ _ _ c hc
            exact ⟨ix c, (ix_lt hk3 hlc).2, (setB_at hk hca hlc).2 hc⟩
          · rintro ⟨j, hj, hb⟩
            obtain ⟨a, b, hab, e⟩ := (setB_iff hk _).1 hb
            obtain ⟨hla, hlb, _⟩ := Lively.closed _ _ a b hab
            have := ix_lt hk3 hla; have := ix_lt hk3 hlb; have := ix_lt hk3 hca
            have ea : ix a = ix (ch w 0) := by unfold bitOf at e; omega
            have ea2 : a = ch w 0 := UInt8.toNat_inj.1 (by unfold ix at ea; omega)
            refine ⟨pr a b, (mem_pairsW hk a b).2 hab, contains_iff.2 ?_⟩
            rw [← ea2]
            exact ⟨[], [b], rfl⟩
end Go.Proofs.YtalclebehbdliaaGreat
namespace Go.Proofs.YtalclebehbdliaaGreat
open Go Go.RowKit

set_option maxRecDepth 100000 in
set_option maxHeartbeats 800000 in
theorem texts_some (b1 o1 c1 b2 o2 c2 : Nat) (xs : List ByteArray) (hn : xs.length ≤ 1099511627776) (w : World) (h1 : StrsAt w b1 o1 xs) (h2 : StrsAt w b2 o2 xs) :
    Calls Tryz.prog 22 #[.slice (some ⟨b1, o1, none⟩) xs.length c1, .slice (some ⟨b2, o2, none⟩) xs.length c2] w (TrueBelow w) := by
  have H1 := Lib.hid h1
  have H2 := Lib.hid h2
  clear h1 h2
  go_enter Tryz.func22, Tryz.ntmps22
  go_wp2
  go_loopw [5] (fun i wr => ∃ k q : Nat, k ≤ xs.length ∧ i = .int .i64 k ∧ wr = w.drewN q) (fun i _ => xs.length - (intOf i).toNat)
  case atStart => exact ⟨0, 0, Nat.zero_le _, rfl, rfl⟩
  case round =>
    obtain ⟨k, q, hk, rfl, rfl⟩ := hrel
    by_cases hlt : k < xs.length
    · have ha := H1.out k hlt
      have hb := H2.out k hlt
      generalize xs.getD k ByteArray.empty = x at ha hb
      go_wp2
      go_quiet (fail)
      go_wp2
      go_roundw
      case rel => exact ⟨k + 1, q + nq, by omega, by go_num, rfl⟩
      case measure => simp [intOf]; omega
    · obtain rfl : k = xs.length := by omega
      go_wp2
      go_ret
      exact ⟨rfl, below_drewN (Below.refl _ _) _⟩

theorem texts_none (a1 a2 : Option Addr) (c1 c2 : Nat) (w : World) :
    Calls Tryz.prog 22 #[.slice a1 0 c1, .slice a2 0 c2] w fun e w' => e = .returned (.bool true) ∧ w' = w := by
  go_enter Tryz.func22, Tryz.ntmps22
  go_wp2
  go_loop [5] (fun i => i = .int .i64 0) (fun _ => 0)
  case atStart => rfl
  case round =>
    obtain rfl := hrel
    go_wp2
    go_ret
    exact ⟨rfl, rfl⟩
/-- The slice A holds the strings ps. -/
def RowAt (w : World) (A : Option Addr) (ps : List ByteArray) : Prop := 0 < ps.length → ∃ g, A = some ⟨g, 0, none⟩ ∧ StrsAt w g 0 ps ∧ g < w.heap.size
theorem RowAt.below {w w' : World} {A : Option Addr} {ps : List ByteArray} (h : RowAt w A ps) (hb : Below w.heap.size w w') : RowAt w' A ps := by
  intro hp
  obtain ⟨g, hA, hs, hg⟩ := h hp
  exact ⟨g, hA, hs.below hb hg, Nat.lt_of_lt_of_le hg hb.size⟩
theorem ListPost.rowAt {ps : List ByteArray} {w w' : World} {e : Ending} (h : ListPost ps w e w') : ∃ A cap, e = .returned (.slice A ps.length cap) ∧ RowAt w' A ps ∧ Below w.heap.size w w' := by
  obtain ⟨v, rfl, ho, hb⟩ := h
  rcases ho.2 with ⟨rfl, h0⟩ | ⟨g, cap, cur, rfl, _, _, _⟩
  · exact ⟨none, 0, by rw [h0], fun hp => by omega, hb⟩
  · exact ⟨some ⟨g, 0, none⟩, cap, rfl, fun _ => ⟨g, rfl, StrsAt.of_owns ho rfl, (ho.lt g rfl).2⟩, hb⟩
theorem texts_rows (A1 A2 : Option Addr) (c1 c2 : Nat) (ps : List ByteArray) (hn : ps.length ≤ 1000000) (w : World) (h1 : RowAt w A1 ps) (h2 : RowAt w A2 ps) :
    Calls Tryz.prog 22 #[.slice A1 ps.length c1, .slice A2 ps.length c2] w (TrueBelow w) := by
  by_cases hp : 0 < ps.length
  · obtain ⟨g1, rfl, s1, _⟩ := h1 hp
    obtain ⟨g2, rfl, s2, _⟩ := h2 hp
    exact texts_some g1 0 c1 g2 0 c2 ps (by omega) w s1 s2
  · have h0 : ps.length = 0 := by omega
    rw [h0]
    exact (texts_none A1 A2 c1 c2 w).mono fun e w' ⟨he, hw⟩ => ⟨he, hw ▸ Below.refl _ _⟩
end Go.Proofs.YtalclebehbdliaaGreat
namespace Go.Proofs.YtalclebehbdliaaGreat
open Go Go.RowKit

theorem hasText_no {M : List ByteArray} {x : ByteArray} (h : ∀ j, j < M.length → ((M.getD j ByteArray.empty).toList == x.toList) = false) : Lib.containsS M x = false := by
  rw [← Bool.not_eq_true, Lib.containsS_iff]
  intro hx
  obtain ⟨j, hj, rfl⟩ := List.getElem_of_mem hx
  have := h j hj
  rw [List.getD_eq_getElem?_getD, List.getElem?_eq_getElem hj, Option.getD_some, ba_same, decide_eq_false_iff_not] at this
  exact this rfl
theorem hasText_yes {M : List ByteArray} {x : ByteArray} {k : Nat} (hk : k < M.length) (h : ((M.getD k ByteArray.empty).toList == x.toList) = true) : Lib.containsS M x = true := by
  rw [Lib.containsS_iff]
  rw [ba_same, decide_eq_true_eq] at h
  rw [← h, List.getD_eq_getElem?_getD, List.getElem?_eq_getElem hk]
  exact List.getElem_mem hk

set_option maxRecDepth 100000 in
theorem spec_hasText (A : Option Addr) (c : Nat) (M : List ByteArray) (x : ByteArray) (hn : M.length ≤ 1000000) (w : World) (hm : RowAt w A M) :
    Calls Tryz.prog 63 #[.slice A M.length c, .string x] w fun e w' => e = .returned (.bool (Lib.containsS M x)) ∧ w' = w := by
  have HM := Lib.hid hm
  clear hm
  go_enter Tryz.func63, Tryz.ntmps63
  go_wp2
  go_loop [5] (fun i => ∃ k : Nat, k ≤ M.length ∧ i = .int .i64 k ∧ Hid (∀ j, j < k → ((M.getD j ByteArray.empty).toList == x.toList) = false)) (fun i => M.length - (intOf i).toNat)
  case atStart => exact ⟨0, Nat.zero_le _, rfl, Lib.hid (fun j h => by omega)⟩
  case round =>
    obtain ⟨k, hk, rfl, hto⟩ := hrel
    by_cases hlt : k < M.length
    · obtain ⟨g, rfl, hst, hg⟩ := HM.out (by omega)
      have hc := hst k hlt
      rw [Nat.zero_add] at hc
      clear hst
      cases he : ((M.getD k ByteArray.empty).toList == x.toList) with
      | true =>
        have HR := Lib.hid (hasText_yes hlt he)
        generalize M.getD k ByteArray.empty = y at *
        go_wp2
        go_ret
        exact ⟨by rw [HR.out]; rfl, rfl⟩
      | false =>
        have HT : Hid (∀ j, j < k + 1 → ((M.getD j ByteArray.empty).toList == x.toList) = false) := Lib.hid (fun j hj => by
          by_cases e : j = k
          · subst e; exact he
          · exact hto.out j (by omega))
        generalize M.getD k ByteArray.empty = y at *
        go_wp2
        go_round
        case rel => exact ⟨k + 1, by omega, by go_num, HT⟩
        case measure => simp [intOf]; omega
    · have HR := Lib.hid (hasText_no (x := x) (fun j (hj : j < M.length) => hto.out j (by omega)))
      go_wp2
      go_ret
      exact ⟨by rw [HR.out]; rfl, rfl⟩

/-- A struct that was laid lies in every later world; what lay ahead of it, too. -/
theorem box_below (w : World) (L : Int) (V : Value) (t : TypeId) (w' : World) (h : Below (w.heap.size + 1) (w.alloc (.cells #[.int .i64 L, V] t)) w') :
    w'.cell? ⟨w.heap.size, 0, none⟩ = some (.int .i64 L) ∧ w'.cell? ⟨w.heap.size, 1, none⟩ = some V ∧ Below w.heap.size w w' :=
  ⟨(h.cell (p := ⟨w.heap.size, 0, none⟩) (by show w.heap.size < _; omega)).trans (by simp), (h.cell (p := ⟨w.heap.size, 1, none⟩) (by show w.heap.size < _; omega)).trans (by simp),
    ((Below.refl w.heap.size w).alloc (Nat.le_refl _) _).trans (h.mono (by omega))⟩
/-! ### Whether a pair goes on -/
def testB (ps : List ByteArray) (x q : ByteArray) : Bool := decide (ch q 0 = ch x 1) && avoids ps (x ++ q.extract 1 q.size)
def testA (ps : List ByteArray) (x q : ByteArray) : Bool := decide (ch q 1 = ch x 0) && avoids ps (q ++ x.extract 1 x.size)
theorem any_no {f : ByteArray → Bool} {M : List ByteArray} (h : ∀ j, j < M.length → f (M.getD j ByteArray.empty) = false) : M.any f = false := by
  rw [← Bool.not_eq_true, List.any_eq_true]
  rintro ⟨q, hq, hf⟩
  obtain ⟨j, hj, rfl⟩ := List.getElem_of_mem hq
  have := h j hj
  rw [List.getD_eq_getElem?_getD, List.getElem?_eq_getElem hj, Option.getD_some, hf] at this
  cases this
theorem any_yes {f : ByteArray → Bool} {M : List ByteArray} {k : Nat} (hk : k < M.length) (h : f (M.getD k ByteArray.empty) = true) : M.any f = true := by
  rw [List.any_eq_true]
  refine ⟨_, ?_, h⟩
  rw [List.getD_eq_getElem?_getD, List.getElem?_eq_getElem hk]
  exact List.getElem_mem hk
theorem byte_eq (a b : UInt8) : ((a.toNat : Int) == (b.toNat : Int)) = decide (a = b) := by
  by_cases h : a = b
  · subst h; simp
  · rw [decide_eq_false h, beq_eq_false_iff_ne]
    intro e
    exact h (UInt8.toNat_inj.1 (by omega))

set_option maxRecDepth 100000 in
set_option maxHeartbeats 1600000 in
theorem spec_goesB (L : Int) (G : Option Addr) (c : Nat) (ps : List ByteArray) (hl : ps.length ≤ 1048576) (hz : ∀ k, k < ps.length → (ps.getD k ByteArray.empty).size ≤ 2147483648) (gm cm : Nat) (M : List ByteArray) (hn : M.length ≤ 1000000) (h2 : ∀ k, k < M.length → (M.getD k ByteArray.empty).size = 2) (x : ByteArray) (hx : x.size = 2) (w : World) (hs : StrsG w G ps) (hm : StrsAt w gm 0 M) (hgm : gm < w.heap.size) :
    Calls Tryz.prog 90 #[.agg #[.int .i64 L, .slice G ps.length c], .slice (some ⟨gm, 0, none⟩) M.length cm, .string x, .bool true] w (BoolPost (goesB ps M x) w) := by
  have HS := Lib.hid hs
  have HM := Lib.hid hm
  have HZ := Lib.hid hz
  have H2 := Lib.hid h2
  have HG : Hid (goesB ps M x = M.any (testB ps x)) := Lib.hid rfl
  clear hs hm hz h2
  go_enter Tryz.func90, Tryz.ntmps90
  go_wp2
  have HBX := Lib.hid (fun w' (h : Below (w.heap.size + 1) (w.alloc (.cells #[.int .i64 L, .slice G ps.length c] 26)) w') => box_below w L (.slice G ps.length c) 26 w' h)
  go_loopw [9] (fun i wr => ∃ k : Nat, k ≤ M.length ∧ i = .int .i64 k ∧ Hid (Below (w.heap.size + 1) (w.alloc (.cells #[.int .i64 L, .slice G ps.length c] 26)) wr) ∧ Hid (∀ j, j < k → testB ps x (M.getD j ByteArray.empty) = false)) (fun i _ => M.length - (intOf i).toNat)
  case atStart => exact ⟨0, Nat.zero_le _, rfl, Lib.hid (Below.refl _ _), Lib.hid (fun j h => by omega)⟩
  case round =>
    obtain ⟨k, hk, rfl, hbl, hto⟩ := hrel
    obtain ⟨x0, x1, hB⟩ := HBX.out wr hbl.out
    have HB := Lib.hid hB
    clear hB
    by_cases hlt : k < M.length
    · have hc := (HM.out.below HB.out hgm) k hlt
      rw [Nat.zero_add] at hc
      have hy := H2.out k hlt
      have HAV : Hid (∀ w', Below w.heap.size w w' → Calls Tryz.prog 45 #[.slice G ps.length c, .string (x ++ (M.getD k ByteArray.empty).extract 1 2)] w' fun e w'' => e = .returned (.bool (avoids ps (x ++ (M.getD k ByteArray.empty).extract 1 2))) ∧ w'' = w') :=
        Lib.hid (fun w' hw => spec_avoids G c ps _ hl HZ.out (by rw [ByteArray.size_append, ByteArray.size_extract]; omega) w' (HS.out.below hw))
      have j0 : (0 : Int) ≤ (k : Int) := by omega
      have j1 : (k : Int) < (M.length : Int) := by omega
      have HT : Hid (testB ps x (M.getD k ByteArray.empty) = (decide (ch (M.getD k ByteArray.empty) 0 = ch x 1) && avoids ps (x ++ (M.getD k ByteArray.empty).extract 1 2))) := Lib.hid (by
        unfold testB; rw [hy])
      have x8 : x.size + ((M.getD k ByteArray.empty).extract 1 2).size ≤ 9223372036854775807 := by rw [ByteArray.size_extract]; omega
      have x9 : ∀ w, (Op.stringOp .add x ((M.getD k ByteArray.empty).extract 1 2)).run Tryz.prog w = .ok (.string (x ++ (M.getD k ByteArray.empty).extract 1 2)) w := fun w => run_string_add_sum w _ _ x8
      have HY : Hid (∀ b, testB ps x (M.getD k ByteArray.empty) = b → (b = false → ∀ j, j < k + 1 → testB ps x (M.getD j ByteArray.empty) = false) ∧ (b = true → goesB ps M x = true)) := Lib.hid (fun b hb => ⟨fun e j hj => by
          by_cases ej : j = k
          · subst ej; rw [hb, e]
          · exact hto.out j (by omega), fun e => by rw [HG.out]; exact any_yes hlt (hb.trans e)⟩)
      generalize M.getD k ByteArray.empty = y at *
      clear x8
      have k0 : (0 : Nat) < y.size := by omega
      have k1 : (1 : Nat) < x.size := by omega
      have k2 : (1 : Nat) ≤ 2 := by omega
      have be := byte_eq y[0] x[1]
      rw [← ch_lt y 0 k0, ← ch_lt x 1 k1] at be
      cases he : decide (ch y 0 = ch x 1) with
      | false =>
        rw [he, ch_lt y 0 k0, ch_lt x 1 k1] at be
        have HF := Lib.hid ((HY.out _ HT.out).1 (by rw [he]; rfl))
        clear he
        go_wp2
        go_quiet (fail)
        go_wp2
        go_quiet (fail)
        go_wp2
        go_roundw
        case rel => exact ⟨k + 1, by omega, by go_num, Lib.hid (below_drewN hbl.out _), HF⟩
        case measure => simp [intOf]; omega
      | true =>
        rw [he, ch_lt y 0 k0, ch_lt x 1 k1] at be
        cases hv : avoids ps (x ++ y.extract 1 2) with
        | false =>
          have HF := Lib.hid ((HY.out _ HT.out).1 (by rw [he, hv]; rfl))
          rw [hv] at HAV
          clear he hv
          go_wp2
          go_quiet (first | (go_at_call 45; refine Calls.quiet_of_same (HAV.out _ (below_drewN HB.out _))))
          go_wp2
          go_quiet (fail)
          go_wp2
          go_roundw
          case rel => exact ⟨k + 1, by omega, by go_num, Lib.hid (below_drewN hbl.out _), HF⟩
          case measure => simp [intOf]; omega
        | true =>
          have HF := Lib.hid ((HY.out _ HT.out).2 (by rw [he, hv]; rfl))
          rw [hv] at HAV
          clear he hv
          go_wp2
          go_quiet (first | (go_at_call 45; refine Calls.quiet_of_same (HAV.out _ (below_drewN HB.out _))))
          go_wp2
          go_ret
          exact ⟨by rw [HF.out]; rfl, below_drewN HB.out _⟩
    · have HR := Lib.hid (any_no (fun j (hj : j < M.length) => hto.out j (by omega)))
      go_wp2
      go_ret
      exact ⟨by rw [HG.out, HR.out]; rfl, HB.out⟩
set_option maxRecDepth 100000 in
set_option maxHeartbeats 1600000 in
theorem spec_goesA (L : Int) (G : Option Addr) (c : Nat) (ps : List ByteArray) (hl : ps.length ≤ 1048576) (hz : ∀ k, k < ps.length → (ps.getD k ByteArray.empty).size ≤ 2147483648) (gm cm : Nat) (M : List ByteArray) (hn : M.length ≤ 1000000) (h2 : ∀ k, k < M.length → (M.getD k ByteArray.empty).size = 2) (x : ByteArray) (hx : x.size = 2) (w : World) (hs : StrsG w G ps) (hm : StrsAt w gm 0 M) (hgm : gm < w.heap.size) :
    Calls Tryz.prog 90 #[.agg #[.int .i64 L, .slice G ps.length c], .slice (some ⟨gm, 0, none⟩) M.length cm, .string x, .bool false] w (BoolPost (goesA ps M x) w) := by
  have HS := Lib.hid hs
  have HM := Lib.hid hm
  have HZ := Lib.hid hz
  have H2 := Lib.hid h2
  have HG : Hid (goesA ps M x = M.any (testA ps x)) := Lib.hid rfl
  clear hs hm hz h2
  go_enter Tryz.func90, Tryz.ntmps90
  go_wp2
  have HBX := Lib.hid (fun w' (h : Below (w.heap.size + 1) (w.alloc (.cells #[.int .i64 L, .slice G ps.length c] 26)) w') => box_below w L (.slice G ps.length c) 26 w' h)
  go_loopw [9] (fun i wr => ∃ k : Nat, k ≤ M.length ∧ i = .int .i64 k ∧ Hid (Below (w.heap.size + 1) (w.alloc (.cells #[.int .i64 L, .slice G ps.length c] 26)) wr) ∧ Hid (∀ j, j < k → testA ps x (M.getD j ByteArray.empty) = false)) (fun i _ => M.length - (intOf i).toNat)
  case atStart => exact ⟨0, Nat.zero_le _, rfl, Lib.hid (Below.refl _ _), Lib.hid (fun j h => by omega)⟩
  case round =>
    obtain ⟨k, hk, rfl, hbl, hto⟩ := hrel
    obtain ⟨x0, x1, hB⟩ := HBX.out wr hbl.out
    have HB := Lib.hid hB
    clear hB
    by_cases hlt : k < M.length
    · have hc := (HM.out.below HB.out hgm) k hlt
      rw [Nat.zero_add] at hc
      have hy := H2.out k hlt
      have HAV : Hid (∀ w', Below w.heap.size w w' → Calls Tryz.prog 45 #[.slice G ps.length c, .string ((M.getD k ByteArray.empty) ++ x.extract 1 2)] w' fun e w'' => e = .returned (.bool (avoids ps ((M.getD k ByteArray.empty) ++ x.extract 1 2))) ∧ w'' = w') :=
        Lib.hid (fun w' hw => spec_avoids G c ps _ hl HZ.out (by rw [ByteArray.size_append, ByteArray.size_extract]; omega) w' (HS.out.below hw))
      have j0 : (0 : Int) ≤ (k : Int) := by omega
      have j1 : (k : Int) < (M.length : Int) := by omega
      have HT : Hid (testA ps x (M.getD k ByteArray.empty) = (decide (ch (M.getD k ByteArray.empty) 1 = ch x 0) && avoids ps ((M.getD k ByteArray.empty) ++ x.extract 1 2))) := Lib.hid (by
        unfold testA; rw [hx])
      have x8 : (M.getD k ByteArray.empty).size + (x.extract 1 2).size ≤ 9223372036854775807 := by rw [ByteArray.size_extract]; omega
      have x9 : ∀ w, (Op.stringOp .add (M.getD k ByteArray.empty) (x.extract 1 2)).run Tryz.prog w = .ok (.string ((M.getD k ByteArray.empty) ++ x.extract 1 2)) w := fun w => run_string_add_sum w _ _ x8
      have HY : Hid (∀ b, testA ps x (M.getD k ByteArray.empty) = b → (b = false → ∀ j, j < k + 1 → testA ps x (M.getD j ByteArray.empty) = false) ∧ (b = true → goesA ps M x = true)) := Lib.hid (fun b hb => ⟨fun e j hj => by
          by_cases ej : j = k
          · subst ej; rw [hb, e]
          · exact hto.out j (by omega), fun e => by rw [HG.out]; exact any_yes hlt (hb.trans e)⟩)
      generalize M.getD k ByteArray.empty = y at *
      clear x8
      have k0 : (1 : Nat) < y.size := by omega
      have k1 : (0 : Nat) < x.size := by omega
      have k2 : (1 : Nat) ≤ 2 := by omega
      have be := byte_eq y[1] x[0]
      rw [← ch_lt y 1 k0, ← ch_lt x 0 k1] at be
      cases he : decide (ch y 1 = ch x 0) with
      | false =>
        rw [he, ch_lt y 1 k0, ch_lt x 0 k1] at be
        have HF := Lib.hid ((HY.out _ HT.out).1 (by rw [he]; rfl))
        clear he
        go_wp2
        go_quiet (fail)
        go_wp2
        go_quiet (fail)
        go_wp2
        go_roundw
        case rel => exact ⟨k + 1, by omega, by go_num, Lib.hid (below_drewN hbl.out _), HF⟩
        case measure => simp [intOf]; omega
      | true =>
        rw [he, ch_lt y 1 k0, ch_lt x 0 k1] at be
        cases hv : avoids ps (y ++ x.extract 1 2) with
        | false =>
          have HF := Lib.hid ((HY.out _ HT.out).1 (by rw [he, hv]; rfl))
          rw [hv] at HAV
          clear he hv
          go_wp2
          go_quiet (fail)
          have HB2 := Lib.hid (below_drewN HB.out nq)
          have HL2 := Lib.hid (below_drewN hbl.out nq)
          have hc2 : (wr.drewN nq).cell? ⟨gm, k, none⟩ = some (.string y) := hc
          have y0 : (wr.drewN nq).cell? ⟨w.heap.size, 0, none⟩ = some (.int .i64 L) := x0
          have y1 : (wr.drewN nq).cell? ⟨w.heap.size, 1, none⟩ = some (.slice G ps.length c) := x1
          obtain ⟨wq, hwq⟩ : ∃ wq, wr.drewN nq = wq := ⟨_, rfl⟩
          rw [hwq] at HB2 HL2 hc2 y0 y1 ⊢
          clear hwq
          go_wp2
          go_quiet (first | (go_at_call 45; refine Calls.quiet_of_same (HAV.out _ (below_drewN HB2.out _))))
          go_wp2
          go_roundw
          case rel => exact ⟨k + 1, by omega, by go_num, Lib.hid (below_drewN HL2.out _), HF⟩
          case measure => simp [intOf]; omega
        | true =>
          have HF := Lib.hid ((HY.out _ HT.out).2 (by rw [he, hv]; rfl))
          rw [hv] at HAV
          clear he hv
          go_wp2
          go_quiet (fail)
          have HB2 := Lib.hid (below_drewN HB.out nq)
          have HL2 := Lib.hid (below_drewN hbl.out nq)
          have hc2 : (wr.drewN nq).cell? ⟨gm, k, none⟩ = some (.string y) := hc
          have y0 : (wr.drewN nq).cell? ⟨w.heap.size, 0, none⟩ = some (.int .i64 L) := x0
          have y1 : (wr.drewN nq).cell? ⟨w.heap.size, 1, none⟩ = some (.slice G ps.length c) := x1
          obtain ⟨wq, hwq⟩ : ∃ wq, wr.drewN nq = wq := ⟨_, rfl⟩
          rw [hwq] at HB2 HL2 hc2 y0 y1 ⊢
          clear hwq
          go_wp2
          go_quiet (first | (go_at_call 45; refine Calls.quiet_of_same (HAV.out _ (below_drewN HB2.out _))))
          go_wp2
          go_ret
          exact ⟨by rw [HF.out]; rfl, below_drewN HB2.out _⟩
    · have HR := Lib.hid (any_no (fun j (hj : j < M.length) => hto.out j (by omega)))
      go_wp2
      go_ret
      exact ⟨by rw [HG.out, HR.out]; rfl, HB.out⟩
end Go.Proofs.YtalclebehbdliaaGreat
namespace Go.Proofs.YtalclebehbdliaaGreat
open Go Go.RowKit

theorem tot_le_of {m : List (List Int)} {n : Nat} (h : ∀ r, r ∈ m → r.length ≤ n) : tot m ≤ m.length * n := by
  induction m with
  | nil => simp [tot]
  | cons r m ih =>
    have h1 := h r (by simp)
    have h2 := ih fun s hs => h s (by simp [hs])
    have e : tot (r :: m) = r.length + tot m := by simp [tot]
    rw [e, List.length_cons, Nat.add_mul, Nat.one_mul]; omega
theorem tot_isMat {m : List (List Int)} (h : MatFacts m) : tot m ≤ 81 := by
  have h1 := tot_le_of (m := m) (n := 9) fun r hr => by
    obtain ⟨i, hi, rfl⟩ := List.getElem_of_mem hr
    have := h.row i hi
    have e : m.getD i [] = m[i] := by simp [List.getD, hi]
    rw [e] at this
    have := h.le
    omega
  have := h.le
  omega

theorem sizeB_facts {m : List (List Int)} (h : MatFacts m) : SizeB m := by
  have := h.le
  have := tot_isMat h
  unfold SizeB; omega
theorem sizeB_nil : SizeB [] := by unfold SizeB; decide
/-- What a function of one table, of two answers at the laws' copies. -/
def At1 (W : World) (f : Nat) (m : List (List Int)) (P : World → Ending → World → Prop) : Prop := ∀ v w', Below W.heap.size W w' → SizeB m → OwnG w' W.heap.size v m → Calls Tryz.prog f #[v] w' (P w')
def At1I (W : World) (f : Nat) (m : List (List Int)) (n : Int) (P : World → Ending → World → Prop) : Prop := ∀ v w', Below W.heap.size W w' → SizeB m → OwnG w' W.heap.size v m → Calls Tryz.prog f #[v, .int .i64 n] w' (P w')
def At2 (W : World) (f : Nat) (a b : List (List Int)) (P : World → Ending → World → Prop) : Prop := ∀ v v' w', Below W.heap.size W w' → SizeB a → SizeB b → OwnG w' W.heap.size v a → OwnG w' W.heap.size v' b → Calls Tryz.prog f #[v, v'] w' (P w')

theorem rows_le {m : List (List Int)} (h : SizeB m) : m.length ≤ 1048576 ∧ tot m ≤ 1048576 ∧ ∀ k, k < m.length → (m.getD k []).length ≤ 1099511627776 := by
  unfold SizeB at h
  exact ⟨by omega, by omega, fun k hk => by have := row_le_tot hk; omega⟩
end Go.Proofs.YtalclebehbdliaaGreat
namespace Go.Proofs.YtalclebehbdliaaGreat
open Go Go.RowKit

/-- The diagonal's first k ones. -/
def oneF (k : Nat) : Nat → Nat → Int := fun i j => if i = j ∧ i < k then 1 else 0
theorem oneF_zero (n : Nat) : tabOf n n (oneF 0) = tabOf n n fun _ _ => 0 := tabOf_congr fun i j _ _ => by unfold oneF; rw [if_neg (by omega)]
theorem oneF_next (n k : Nat) (hk : k < n) : (tabOf n n (oneF k)).set k (((tabOf n n (oneF k)).getD k []).set k 1) = tabOf n n (oneF (k + 1)) := by
  rw [tabOf_set _ _ hk]
  refine tabOf_congr fun i j _ _ => ?_
  unfold oneF
  by_cases e : i = k ∧ j = k
  · obtain ⟨rfl, rfl⟩ := e
    rw [if_pos ⟨rfl, rfl⟩, if_pos ⟨rfl, by omega⟩]
  · rw [if_neg e]
    by_cases h : i = j ∧ i < k
    · rw [if_pos h, if_pos (by omega)]
    · rw [if_neg h, if_neg (by omega)]
theorem oneF_all (n : Nat) : tabOf n n (oneF n) = oneM n := tabOf_congr fun i j hi _ => by
  unfold oneF
  by_cases h : i = j
  · rw [if_pos ⟨h, hi⟩, if_pos h]
  · rw [if_neg (fun e => h e.1), if_neg h]

set_option maxRecDepth 100000 in
set_option maxHeartbeats 1600000 in
theorem spec_one (n : Nat) (hn : n ≤ 1048576) (w : World) :
    Calls Tryz.prog 100 #[.int .i64 n] w (NewG (oneM n) w) := by
  have HZ := Lib.hid (spec_zero n n hn hn w)
  go_enter Tryz.func100, Tryz.ntmps100
  go_wp2_with fail
  refine HZ.out.mono ?_
  rintro e w1 ⟨v, rfl, hown, b1⟩
  obtain ⟨A, c, rfl, -⟩ := hown.gridS
  rw [← oneF_zero] at hown
  rw [tabOf_length] at hown ⊢
  have HO := Lib.hid hown
  have HB1 := Lib.hid b1
  clear hown b1
  go_wp2
  go_loopw [4] (fun i wr => ∃ k : Nat, k ≤ n ∧ i = .int .i64 k ∧ OwnG wr w.heap.size (.slice A n c) (tabOf n n (oneF k)) ∧ Below w.heap.size w wr) (fun i _ => n - (intOf i).toNat)
  case atStart => exact ⟨0, Nat.zero_le _, rfl, HO.out, HB1.out⟩
  case round =>
    obtain ⟨k, hk, rfl, hown, hbl⟩ := hrel
    by_cases hlt : k < n
    · have hrl : ((tabOf n n (oneF k)).getD k []).length = n := by rw [tabOf_row hlt]; simp
      obtain ⟨g, cap, gi, ci, hv, k1, k2, kf, kb, kl, hset⟩ := hown.at (i := k) (j := k) (by rw [tabOf_length]; exact hlt) (by rw [hrl]; exact hlt)
      rw [tabOf_length] at hv
      simp only [Value.slice.injEq, true_and] at hv
      obtain ⟨rfl, rfl⟩ := hv
      rw [hrl] at k1
      have hs1 := hset 1
      rw [oneF_next n k hlt] at hs1
      have HS := Lib.hid hs1
      have HB4 := Lib.hid hbl
      clear hset hs1 hown hbl
      generalize cellOf (tabOf n n (oneF k)) k k = T at *
      go_wp2
      go_roundw
      case rel => exact ⟨k + 1, by omega, by go_num, HS.out, HB4.out.setCell kb _⟩
      case measure => simp [intOf]; omega
    · obtain rfl : k = n := by omega
      rw [oneF_all] at hown
      have HO3 := Lib.hid hown
      clear hown
      go_wp2
      go_ret
      exact ⟨_, rfl, HO3.out, hbl⟩

/-- PowerMatrix. -/
def powS (m : List (List Int)) (n : Int) : Option (List (List Int)) := if isMat m = true ∧ 0 ≤ n ∧ n ≤ 30 then powM m n.toNat else none

set_option maxRecDepth 100000 in
set_option maxHeartbeats 1600000 in
theorem spec_power_ok (A1 : Option Addr) (c1 : Nat) (m : List (List Int)) (hm : isMat m = true) (n : Nat) (hn : n ≤ 30) (w : World) (h1 : GridS w A1 m) :
    Calls Tryz.prog 67 #[.slice A1 m.length c1, .int .i64 (n : Int)] w (NewGB (powM m n) w) := by
  have fm := isMat_facts hm
  have lm := fm.le
  have tm := tot_isMat fm
  have I1 := Lib.hid (spec_isMatrix A1 c1 m (by omega) (fun k hk => by have := row_le_tot hk; omega) w h1)
  rw [hm] at I1
  have IN := Lib.hid (m_in n 0 30)
  have e0 : decide ((0 : Int) ≤ (n : Int)) = true := decide_eq_true (by omega)
  have e1 : decide ((n : Int) ≤ 30) = true := decide_eq_true (by omega)
  rw [e0, e1] at IN
  have HO1 := Lib.hid (spec_one m.length (by omega) w)
  have H1 := Lib.hid h1
  have HM := Lib.hid hm
  have HMUL : Hid (∀ A c p w', isMat p = true → GridS w' A p → Below w.heap.size w w' → Calls Tryz.prog 101 #[.slice A p.length c, .slice A1 m.length c1] w' (NewGB (prodM p m) w')) := Lib.hid fun A c p w' hp hg hb => by
    have fp := isMat_facts hp
    have := tot_isMat fp
    have := fp.le
    exact spec_multiply A A1 c c1 p m (by omega) (by omega) (by omega) (by omega) w' hg (h1.below hb)
  clear h1 fm hm e0 e1
  go_enter Tryz.func67, Tryz.ntmps67
  go_wp2_with fail
  refine I1.out.mono ?_
  rintro e w1 ⟨rfl, rfl⟩
  go_wp2_with fail
  refine (IN.out _).mono ?_
  rintro e w2 ⟨rfl, rfl⟩
  go_wp2_with fail
  refine HO1.out.mono ?_
  rintro e w3 ⟨v, rfl, hown, b3⟩
  have HO := Lib.hid hown
  have HB := Lib.hid b3
  clear hown b3
  go_wp2
  go_loopw [6, 7] (fun v i wr => ∃ (k : Nat) (p : List (List Int)), k ≤ n ∧ i = .int .i64 k ∧ Hid (powM m k = some p) ∧ OwnG wr w2.heap.size v p ∧ Below w2.heap.size w2 wr) (fun _ i _ => n - (intOf i).toNat)
  case atStart => exact ⟨0, _, Nat.zero_le _, rfl, Lib.hid rfl, HO.out, HB.out⟩
  case round =>
    obtain ⟨k, p, hk, rfl, hp, hown, hbl⟩ := hrel
    obtain ⟨A, c, rfl, hg⟩ := hown.gridS
    by_cases hlt : k < n
    · have HC := Lib.hid (HMUL.out A c p wr (powM_isMat HM.out k hp.out) hg hbl)
      have HP1 : Hid (powM m (k + 1) = prodM p m) := Lib.hid (by rw [powM, hp.out]; rfl)
      have HST : Hid (powM m (k + 1) = none → powM m n = none) := Lib.hid fun h => powM_stuck h n hlt
      have HB2 := Lib.hid hbl
      have hs2 := hbl.size
      clear hown hbl hg hp
      generalize prodM p m = r at *
      go_wp2_with fail
      refine HC.out.mono ?_
      rintro e w4 ⟨v4, rfl, ho4, b4⟩
      have HB4 := Lib.hid (HB2.out.trans (b4.mono HB2.out.size))
      have hs4 := HB4.out.size
      have HE := Lib.hid ((ownG_empty w4).mono hs4)
      have HO4 := Lib.hid (ho4.mono hs2)
      clear ho4 b4
      cases r with
      | none =>
        have hn2 := HST.out HP1.out
        have HN2 := Lib.hid hn2
        clear hn2
        go_wp2
        go_ret2
        rw [HN2.out]
        exact ⟨_, rfl, HE.out, HB4.out.alloc hs4 _⟩
      | some q =>
        go_wp2
        go_roundw
        case rel => exact ⟨k + 1, q, by omega, by go_num, Lib.hid HP1.out, HO4.out, HB4.out⟩
        case measure => simp [intOf]; omega
    · obtain rfl : k = n := by omega
      have HO2 := Lib.hid hown
      clear hown hg
      go_wp2
      go_ret2
      rw [hp.out]
      exact ⟨_, rfl, HO2.out, hbl⟩

set_option maxRecDepth 100000 in
set_option maxHeartbeats 800000 in
theorem spec_power (A1 : Option Addr) (c1 : Nat) (m : List (List Int)) (hl : m.length ≤ 1048576) (ht : tot m ≤ 1048576) (n : Int) (w : World) (h1 : GridS w A1 m) :
    Calls Tryz.prog 67 #[.slice A1 m.length c1, .int .i64 n] w (NewGB (powS m n) w) := by
  by_cases hok : isMat m = true ∧ 0 ≤ n ∧ n ≤ 30
  · unfold powS
    rw [if_pos hok]
    obtain ⟨hm, h0, h30⟩ := hok
    obtain ⟨k, rfl⟩ : ∃ k : Nat, n = (k : Int) := ⟨n.toNat, by omega⟩
    rw [Int.toNat_natCast]
    exact spec_power_ok A1 c1 m hm k (by omega) w h1
  · have e : powS m n = none := if_neg hok
    rw [e]
    have I1 := Lib.hid (spec_isMatrix A1 c1 m (by omega) (fun k hk => by have := row_le_tot hk; omega) w h1)
    have IN := Lib.hid (m_in n 0 30)
    have HE := Lib.hid (ownG_empty w)
    clear h1 e
    cases hm : isMat m with
    | false =>
      rw [hm] at I1
      go_enter Tryz.func67, Tryz.ntmps67
      go_wp2_with fail
      refine I1.out.mono ?_
      rintro e w1 ⟨rfl, rfl⟩
      go_wp2
      go_ret2
      exact ⟨_, rfl, HE.out, below_new⟩
    | true =>
      rw [hm] at I1
      have hx : (decide ((0 : Int) ≤ n) && decide (n ≤ 30)) = false := by
        cases hx : (decide ((0 : Int) ≤ n) && decide (n ≤ 30)) with
        | false => rfl
        | true =>
          rw [Bool.and_eq_true, decide_eq_true_iff, decide_eq_true_iff] at hx
          exact absurd ⟨hm, hx⟩ hok
      rw [hx] at IN
      clear hx hok
      go_enter Tryz.func67, Tryz.ntmps67
      go_wp2_with fail
      refine I1.out.mono ?_
      rintro e w1 ⟨rfl, rfl⟩
      go_wp2_with fail
      refine (IN.out _).mono ?_
      rintro e w2 ⟨rfl, rfl⟩
      go_wp2
      go_ret2
      exact ⟨_, rfl, HE.out, below_new⟩

/-! ### Turning around -/

/-- A table that is being filled: all columns ahead of i, and j numbers of column i. -/
def turnF (m : List (List Int)) (i j : Nat) : Nat → Nat → Int := fun i' j' => if j' < i ∨ (j' = i ∧ i' < j) then cellOf m j' i' else 0
theorem turnF_zero (m : List (List Int)) (n : Nat) : tabOf n n (turnF m 0 0) = tabOf n n fun _ _ => 0 := tabOf_congr fun i j _ _ => by unfold turnF; rw [if_neg (by omega)]
theorem turnF_next (m : List (List Int)) (n i j : Nat) (hj : j < n) : (tabOf n n (turnF m i j)).set j (((tabOf n n (turnF m i j)).getD j []).set i (cellOf m i j)) = tabOf n n (turnF m i (j + 1)) := by
  rw [tabOf_set _ _ hj]
  refine tabOf_congr fun i' j' _ _ => ?_
  unfold turnF
  by_cases e : i' = j ∧ j' = i
  · obtain ⟨rfl, rfl⟩ := e
    rw [if_pos ⟨rfl, rfl⟩, if_pos (by omega)]
  · rw [if_neg e]
    by_cases h : j' < i ∨ (j' = i ∧ i' < j)
    · rw [if_pos h, if_pos (by omega)]
    · rw [if_neg h, if_neg (by omega)]
theorem turnF_row (m : List (List Int)) (n i : Nat) : tabOf n n (turnF m i n) = tabOf n n (turnF m (i + 1) 0) := tabOf_congr fun i' j' hi _ => by
  unfold turnF
  by_cases h : j' < i ∨ (j' = i ∧ i' < n)
  · rw [if_pos h, if_pos (by omega)]
  · rw [if_neg h, if_neg (by omega)]
theorem turnF_all (m : List (List Int)) : tabOf m.length m.length (turnF m m.length 0) = turnM m := tabOf_congr fun i' j' _ hj => by
  unfold turnF; rw [if_pos (Or.inl hj)]

/-- TurnMatrix. -/
def turnS (m : List (List Int)) : List (List Int) := if isMat m = true then turnM m else []
end Go.Proofs.YtalclebehbdliaaGreat
namespace Go.Proofs.YtalclebehbdliaaGreat
open Go Go.RowKit

def goesQ (ps : List ByteArray) (p q : ByteArray) : Bool := decide (ch p 1 = ch q 0) && avoids ps (p ++ q.extract 1 q.size)
def arcQ (ps M : List ByteArray) (i j : Nat) : Int := if goesQ ps (M.getD i ByteArray.empty) (M.getD j ByteArray.empty) = true then 1 else 0
def tabQ (ps M : List ByteArray) : List (List Int) := tabOf M.length M.length (arcQ ps M)

set_option maxRecDepth 100000 in
set_option maxHeartbeats 6400000 in
theorem spec_graphOf_of (L : Int) (G : Option Addr) (c : Nat) (ps : List ByteArray) (hl : ps.length ≤ 1048576) (hz : ∀ k, k < ps.length → (ps.getD k ByteArray.empty).size ≤ 2147483648) (M : List ByteArray) (h2 : ∀ k, k < M.length → (M.getD k ByteArray.empty).size = 2) (h9 : M.length ≤ 1000) (w : World) (hs : StrsG w G ps)
    (hST : ∀ w', Below w.heap.size w w' → Calls Tryz.prog 24 #[.agg #[.int .i64 L, .slice G ps.length c]] w' (ListPost M w')) :
    Calls Tryz.prog 9 #[.agg #[.int .i64 L, .slice G ps.length c]] w (NewGB (if M.length = 0 then none else some (tabQ ps M)) w) := by
  have HS := Lib.hid hs
  have HZ := Lib.hid hz
  have H2 := Lib.hid h2
  have HST := Lib.hid hST
  have HZR := Lib.hid (fun w' => spec_zero M.length M.length (by omega) (by omega) w')
  obtain ⟨R, hR⟩ : ∃ R, (if M.length = 0 then none else some (tabQ ps M)) = R := ⟨_, rfl⟩
  have HR0 := Lib.hid hR
  rw [hR]
  clear hs hz h2 hST hR
  go_enter Tryz.func9, Tryz.ntmps9
  go_wp2_with fail
  obtain ⟨Wb, hWb⟩ : ∃ Wb, w.alloc (.cells #[.int .i64 L, .slice G ps.length c] 26) = Wb := ⟨_, rfl⟩
  have sb : Wb.heap.size = w.heap.size + 1 := by rw [← hWb]; simp
  have xb : BoxAt Wb w.heap.size L (.slice G ps.length c) := by rw [← hWb]; exact boxAt_new w L _ 26
  have bb : Below w.heap.size w Wb := by rw [← hWb]; exact (Below.refl _ _).alloc (Nat.le_refl _) _
  rw [hWb]
  clear hWb
  have XB := Lib.hid xb
  have BB := Lib.hid bb
  clear xb bb
  refine (HST.out Wb BB.out).mono ?_
  rintro e w1 ⟨v, rfl, ho, b1⟩
  obtain ⟨A, cM, rfl⟩ : ∃ A c, v = .slice A M.length c := by
    rcases ho.2 with ⟨rfl, h0⟩ | ⟨b, cc, cur, rfl, _⟩
    · exact ⟨none, 0, by rw [h0]⟩
    · exact ⟨_, cc, rfl⟩
  have s1 := b1.size
  have B1 := Lib.hid (BB.out.trans (b1.mono (by omega)))
  have X1 := Lib.hid (XB.out.below b1 (by omega))
  have O1 := Lib.hid ho
  clear ho b1
  by_cases h0 : M.length = 0
  · obtain rfl : R = none := HR0.out.symm.trans (if_pos h0)
    clear HR0
    have hz0 : ((M.length : Int) == 0) = true := by rw [h0]; rfl
    go_wp2
    go_ret2
    exact ⟨_, rfl, (ownG_empty w1).mono (by omega), B1.out.alloc (by omega) _⟩
  · obtain rfl : R = some (tabQ ps M) := HR0.out.symm.trans (if_neg h0)
    clear HR0
    obtain ⟨gm, rfl⟩ : ∃ gm, A = some ⟨gm, 0, none⟩ := by
      rcases O1.out.2 with ⟨h, h'⟩ | ⟨b, cc, cur, h, _⟩
      · exact absurd h' h0
      · injection h with h3 _ _
        exact ⟨b, h3⟩
    have HM := Lib.hid (StrsAt.of_owns O1.out rfl)
    have hgm := O1.out.lt gm rfl
    have hz0 : ((M.length : Int) == 0) = false := by rw [beq_eq_false_iff_ne]; omega
    have Z1 := Lib.hid (HZR.out w1)
    clear O1 HZR
    go_wp2_with fail
    refine Z1.out.mono ?_
    rintro e w2 ⟨v2, rfl, hown, b2⟩
    obtain ⟨A2, c2, rfl, -⟩ := hown.gridS
    rw [← fillF_zero (arcQ ps M)] at hown
    rw [tabOf_length] at hown ⊢
    have s2 := b2.size
    have HO := Lib.hid hown
    have HB2 := Lib.hid b2
    have HMW := Lib.hid (fun w' (h : Below w1.heap.size w1 w') => (show StrsAt w' gm 0 M from HM.out.below h hgm.2))
    have HXW := Lib.hid (fun w' (h : Below w1.heap.size w1 w') => X1.out.below h (by omega))
    have HAV : Hid (∀ i j w', i < M.length → j < M.length → Below w1.heap.size w1 w' → Calls Tryz.prog 45 #[.slice G ps.length c, .string (M.getD i ByteArray.empty ++ (M.getD j ByteArray.empty).extract 1 2)] w' fun e w'' => e = .returned (.bool (avoids ps (M.getD i ByteArray.empty ++ (M.getD j ByteArray.empty).extract 1 2))) ∧ w'' = w') :=
      Lib.hid (fun i j w' hi hj hw => spec_avoids G c ps _ hl HZ.out (by rw [ByteArray.size_append, ByteArray.size_extract]; have := H2.out i hi; have := H2.out j hj; omega) w' (HS.out.below (B1.out.trans (hw.mono (by omega)))))
    clear hown b2 HM X1 HST XB
    go_wp2
    go_loopw [6] (fun iv wr => ∃ i : Nat, i ≤ M.length ∧ iv = .int .i64 i ∧ OwnG wr w1.heap.size (.slice A2 M.length c2) (tabOf M.length M.length (fillF (arcQ ps M) i 0)) ∧ Below w1.heap.size w1 wr) (fun i _ => M.length - (intOf i).toNat)
    case atStart => exact ⟨0, Nat.zero_le _, rfl, HO.out, HB2.out⟩
    case round =>
      obtain ⟨i, hi, rfl, hown, hbl⟩ := hrel
      by_cases hil : i < M.length
      · have HO1 := Lib.hid hown
        have HB3 := Lib.hid hbl
        clear hown hbl
        obtain ⟨W1, rfl⟩ : ∃ W1 : World, W1 = wr := ⟨_, rfl⟩
        go_wp2
        go_loopw [7] (fun jv wr => ∃ j : Nat, j ≤ M.length ∧ jv = .int .i64 j ∧ OwnG wr w1.heap.size (.slice A2 M.length c2) (tabOf M.length M.length (fillF (arcQ ps M) i j)) ∧ Below w1.heap.size w1 wr) (fun j _ => M.length - (intOf j).toNat)
        case atStart => exact ⟨0, Nat.zero_le _, rfl, HO1.out, HB3.out⟩
        case round =>
          obtain ⟨j, hj, rfl, hown, hbl⟩ := hrel
          by_cases hjl : j < M.length
          · have hrl : ((tabOf M.length M.length (fillF (arcQ ps M) i j)).getD i []).length = M.length := by rw [tabOf_row hil]; simp
            obtain ⟨gq, cap, gi, ci, hv, k1, k2, kf, kb, kl, hset⟩ := hown.at (i := i) (j := j) (by rw [tabOf_length]; exact hil) (by rw [hrl]; exact hjl)
            rw [tabOf_length] at hv
            simp only [Value.slice.injEq, true_and] at hv
            obtain ⟨rfl, rfl⟩ := hv
            rw [hrl] at k1
            have hcx := (HMW.out wr hbl) i hil
            have hcy := (HMW.out wr hbl) j hjl
            rw [Nat.zero_add] at hcx hcy
            obtain ⟨x0, x1⟩ := HXW.out wr hbl
            have sx := H2.out i hil
            have sy := H2.out j hjl
            have HAVW := Lib.hid (fun w' hb => HAV.out i j w' hil hjl hb)
            have HT : Hid (goesQ ps (M.getD i ByteArray.empty) (M.getD j ByteArray.empty) = (decide (ch (M.getD i ByteArray.empty) 1 = ch (M.getD j ByteArray.empty) 0) && avoids ps (M.getD i ByteArray.empty ++ (M.getD j ByteArray.empty).extract 1 2))) := Lib.hid (by unfold goesQ; rw [sy])
            have HA : Hid (arcQ ps M i j = if goesQ ps (M.getD i ByteArray.empty) (M.getD j ByteArray.empty) = true then 1 else 0) := Lib.hid rfl
            have HNO : Hid (arcQ ps M i j = 0 → OwnG wr w1.heap.size (.slice (some ⟨gq, 0, none⟩) M.length _) (tabOf M.length M.length (fillF (arcQ ps M) i (j + 1)))) := Lib.hid fun h => by rw [fillF_still _ _ _ _ h]; exact hown
            have HYES : Hid (arcQ ps M i j = 1 → OwnG (wr.setCell ⟨gi, j, none⟩ (.int .i64 1)) w1.heap.size (.slice (some ⟨gq, 0, none⟩) M.length _) (tabOf M.length M.length (fillF (arcQ ps M) i (j + 1)))) := Lib.hid fun h => by have h1 := hset (arcQ ps M i j); rw [fillF_next _ _ i j hil, h] at h1; exact h1
            have HB4 := Lib.hid hbl
            clear hset hown hbl
            generalize cellOf (tabOf M.length M.length (fillF (arcQ ps M) i j)) i j = T at *
            have j0 : (0 : Int) ≤ (i : Int) := by omega
            have j1 : (i : Int) < (M.length : Int) := by omega
            have j2 : (0 : Int) ≤ (j : Int) := by omega
            have j3 : (j : Int) < (M.length : Int) := by omega
            generalize M.getD i ByteArray.empty = x at *
            generalize M.getD j ByteArray.empty = y at *
            have x8 : x.size + (y.extract 1 2).size ≤ 9223372036854775807 := by rw [ByteArray.size_extract]; omega
            have x9 : ∀ w, (Op.stringOp .add x (y.extract 1 2)).run Tryz.prog w = .ok (.string (x ++ y.extract 1 2)) w := fun w => run_string_add_sum w _ _ x8
            clear x8
            have n0 : (0 : Nat) < y.size := by omega
            have n1 : (1 : Nat) < x.size := by omega
            have n2 : (1 : Nat) ≤ 2 := by omega
            have be := byte_eq x[1] y[0]
            rw [← ch_lt x 1 n1, ← ch_lt y 0 n0] at be
            cases he : decide (ch x 1 = ch y 0) with
            | false =>
              rw [he, ch_lt x 1 n1, ch_lt y 0 n0] at be
              have HF := Lib.hid (HNO.out (by rw [HA.out, HT.out, he]; rfl))
              clear he k1 k2 kf kb kl
              go_wp2
              go_quiet (fail)
              go_wp2
              go_roundw
              case rel => exact ⟨j + 1, by omega, by go_num, (From.ownIn HF.out.ownIn (From.of_below (below_drewN (Below.refl _ _) _))).ownG, below_drewN HB4.out _⟩
              case measure => simp [intOf]; omega
            | true =>
              rw [he, ch_lt x 1 n1, ch_lt y 0 n0] at be
              cases hvv : avoids ps (x ++ y.extract 1 2) with
              | false =>
                have HF := Lib.hid (HNO.out (by rw [HA.out, HT.out, he, hvv]; rfl))
                rw [hvv] at HAVW
                clear he hvv k1 k2 kf kb kl
                go_wp2
                go_quiet (first | (go_at_call 45; refine Calls.quiet_of_same (HAVW.out _ (below_drewN HB4.out _))))
                go_wp2
                go_roundw
                case rel => exact ⟨j + 1, by omega, by go_num, (From.ownIn HF.out.ownIn (From.of_below (below_drewN (Below.refl _ _) _))).ownG, below_drewN HB4.out _⟩
                case measure => simp [intOf]; omega
              | true =>
                have HF := Lib.hid (HYES.out (by rw [HA.out, HT.out, he, hvv]; rfl))
                rw [hvv] at HAVW
                clear he hvv
                go_wp2
                go_quiet (first | (go_at_call 45; refine Calls.quiet_of_same (HAVW.out _ (below_drewN HB4.out _))))
                go_wp2
                go_roundw
                case rel => exact ⟨j + 1, by omega, by go_num, (From.ownIn HF.out.ownIn (From.of_below (below_drewN (Below.refl _ _) _))).ownG, below_drewN (HB4.out.setCell kb _) _⟩
                case measure => simp [intOf]; omega
          · obtain rfl : j = M.length := by omega
            rw [fillF_row] at hown
            have HO3 := Lib.hid hown
            clear hown
            go_wp2
            go_roundw
            case rel => exact ⟨i + 1, by omega, by go_num, HO3.out, hbl⟩
            case measure => simp [intOf]; omega
      · obtain rfl : i = M.length := by omega
        rw [fillF_all] at hown
        have HO3 := Lib.hid hown
        clear hown
        go_wp2
        go_ret2
        exact ⟨_, rfl, HO3.out.mono (by omega), B1.out.trans (hbl.mono (by omega))⟩
end Go.Proofs.YtalclebehbdliaaGreat
namespace Go.Proofs.YtalclebehbdliaaGreat
open Go Go.RowKit

def sameA (a b : List ByteArray) : Bool := (a.all fun x => Lib.containsS b x) && decide (a.length = b.length)
def sameS (L : Int) (ps : List ByteArray) (L' : Int) (qs a b : List ByteArray) : Bool := ((isShift L ps && isShift L' qs) && decide (L = L')) && sameA a b
theorem allA_not {f : ByteArray → Bool} {a : List ByteArray} {k : Nat} (hk : k < a.length) (h : f (a.getD k ByteArray.empty) = false) : a.all f = false := by
  rw [← Bool.not_eq_true, List.all_eq_true]
  intro hall
  rw [List.getD_eq_getElem?_getD, List.getElem?_eq_getElem hk, Option.getD_some] at h
  have := hall _ (List.getElem_mem hk)
  rw [h] at this; cases this
theorem allA_done {f : ByteArray → Bool} {a : List ByteArray} (h : ∀ j, j < a.length → f (a.getD j ByteArray.empty) = true) : a.all f = true := by
  rw [List.all_eq_true]
  intro x hx
  obtain ⟨j, hj, rfl⟩ := List.getElem_of_mem hx
  have := h j hj
  rwa [List.getD_eq_getElem?_getD, List.getElem?_eq_getElem hj, Option.getD_some] at this

set_option maxRecDepth 100000 in
set_option maxHeartbeats 6400000 in
theorem spec_areSame_of (L L' : Int) (G G' : Option Addr) (c c' : Nat) (ps qs : List ByteArray) (hl : ps.length ≤ 1048576) (hl' : qs.length ≤ 1048576) (hz : ∀ k, k < ps.length → (ps.getD k ByteArray.empty).size ≤ 2147483648) (hz' : ∀ k, k < qs.length → (qs.getD k ByteArray.empty).size ≤ 2147483648) (a b : List ByteArray) (h9 : a.length ≤ 1000) (h9' : b.length ≤ 1000) (w : World) (hs : StrsG w G ps) (hs' : StrsG w G' qs)
    (hA : isShift L ps = true → isShift L' qs = true → ∀ w', Below w.heap.size w w' → Calls Tryz.prog 25 #[.agg #[.int .i64 L, .slice G ps.length c], .int .i64 3] w' (ListPost a w'))
    (hB : isShift L ps = true → isShift L' qs = true → ∀ w', Below w.heap.size w w' → Calls Tryz.prog 25 #[.agg #[.int .i64 L', .slice G' qs.length c'], .int .i64 3] w' (ListPost b w')) :
    Calls Tryz.prog 19 #[.agg #[.int .i64 L, .slice G ps.length c], .agg #[.int .i64 L', .slice G' qs.length c']] w (BoolPost (sameS L ps L' qs a b) w) := by
  have HI := Lib.hid (fun w' (h : Below w.heap.size w w') => spec_isShift L G c ps hl (fun k hk => by have := hz k hk; omega) w' (hs.below h))
  have HI' := Lib.hid (fun w' (h : Below w.heap.size w w') => spec_isShift L' G' c' qs hl' (fun k hk => by have := hz' k hk; omega) w' (hs'.below h))
  have HA := Lib.hid hA
  have HB := Lib.hid hB
  have HSS : Hid (sameS L ps L' qs a b = (((isShift L ps && isShift L' qs) && decide (L = L')) && sameA a b)) := Lib.hid rfl
  generalize sameS L ps L' qs a b = R at *
  clear hs hs' hz hz' hA hB
  go_enter Tryz.func19, Tryz.ntmps19
  go_wp2_with fail
  obtain ⟨Wb, hWb⟩ : ∃ Wb, (w.alloc (.cells #[.int .i64 L, .slice G ps.length c] 26)).alloc (.cells #[.int .i64 L', .slice G' qs.length c'] 26) = Wb := ⟨_, rfl⟩
  have sb : Wb.heap.size = w.heap.size + 2 := by rw [← hWb]; simp
  have b1 : Below w.heap.size w (w.alloc (.cells #[.int .i64 L, .slice G ps.length c] 26)) := (Below.refl _ _).alloc (Nat.le_refl _) _
  have bb : Below w.heap.size w Wb := by rw [← hWb]; exact b1.alloc b1.size _
  have xb : BoxAt Wb w.heap.size L (.slice G ps.length c) := by
    rw [← hWb]
    exact (boxAt_new w L _ 26).below ((Below.refl (w.heap.size + 1) _).alloc (by simp) _) (by omega)
  have xb' : BoxAt Wb (w.heap.size + 1) L' (.slice G' qs.length c') := by
    rw [← hWb]
    have h := boxAt_new (w.alloc (.cells #[.int .i64 L, .slice G ps.length c] 26)) L' (.slice G' qs.length c') 26
    rw [World.size_alloc] at h; exact h
  have hbx : ((w.alloc (.cells #[.int .i64 L, .slice G ps.length c] 26)).heap.size) = w.heap.size + 1 := by simp
  rw [hWb]
  try rw [hbx]
  clear hWb hbx b1
  have BB := Lib.hid bb
  have XB := Lib.hid (fun w' (h : Below Wb.heap.size Wb w') => (show BoxAt w' w.heap.size L (.slice G ps.length c) ∧ BoxAt w' (w.heap.size + 1) L' (.slice G' qs.length c') from ⟨xb.below h (by omega), xb'.below h (by omega)⟩))
  clear bb xb xb'
  refine (HI.out Wb BB.out).mono ?_
  rintro e w1 ⟨rfl, h1⟩
  have B1 := Lib.hid h1
  clear h1
  have C1 := Lib.hid (BB.out.trans (B1.out.mono (by omega)))
  obtain ⟨⟨x0, x1⟩, ⟨x2, x3⟩⟩ := XB.out w1 B1.out
  cases e1 : isShift L ps with
  | false =>
    have HR : Hid (R = false) := Lib.hid (by rw [HSS.out, e1]; rfl)
    clear e1 HSS
    go_wp2
    go_ret
    exact ⟨by rw [HR.out]; rfl, C1.out⟩
  | true =>
    go_wp2_with fail
    refine (HI'.out w1 C1.out).mono ?_
    rintro e w2 ⟨rfl, h2⟩
    have B2 := Lib.hid (B1.out.trans (h2.mono B1.out.size))
    have C2 := Lib.hid (C1.out.trans (h2.mono C1.out.size))
    clear h2 x0 x1 x2 x3
    obtain ⟨⟨x0, x1⟩, ⟨x2, x3⟩⟩ := XB.out w2 B2.out
    cases e2 : isShift L' qs with
    | false =>
      have HR : Hid (R = false) := Lib.hid (by rw [HSS.out, e1, e2]; rfl)
      clear e1 e2 HSS
      go_wp2
      go_ret
      exact ⟨by rw [HR.out]; rfl, C2.out⟩
    | true =>
      by_cases hL : L = L'
      · subst hL
        have HR : Hid (R = sameA a b) := Lib.hid (by rw [HSS.out, e1, e2, decide_eq_true (show L = L from rfl)]; rfl)
        have HA1 := Lib.hid (HA.out e1 e2)
        have HB1 := Lib.hid (HB.out e1 e2)
        clear e1 e2 HSS HA HB HI HI' B1 C1
        go_wp2_with fail
        refine (HA1.out w2 C2.out).mono ?_
        rintro e w3 ⟨va, rfl, oa, b3⟩
        have B3 := Lib.hid (B2.out.trans (b3.mono B2.out.size))
        have C3 := Lib.hid (C2.out.trans (b3.mono C2.out.size))
        have OA3 := Lib.hid oa
        clear oa b3 x0 x1 x2 x3
        obtain ⟨⟨x0, x1⟩, ⟨x2, x3⟩⟩ := XB.out w3 B3.out
        go_wp2_with fail
        refine (HB1.out w3 C3.out).mono ?_
        rintro e w4 ⟨vb, rfl, ob, b4⟩
        have C4 := Lib.hid (C3.out.trans (b4.mono C3.out.size))
        have OA4 := Lib.hid (owns_below OA3.out b4)
        obtain ⟨Aa, ca, rfl⟩ : ∃ A c, va = .slice A a.length c := by
          rcases OA4.out.2 with ⟨rfl, h0⟩ | ⟨b, cc, cur, rfl, _⟩
          · exact ⟨none, 0, by rw [h0]⟩
          · exact ⟨_, cc, rfl⟩
        obtain ⟨Ab, cb, rfl⟩ : ∃ A c, vb = .slice A b.length c := by
          rcases ob.2 with ⟨rfl, h0⟩ | ⟨b, cc, cur, rfl, _⟩
          · exact ⟨none, 0, by rw [h0]⟩
          · exact ⟨_, cc, rfl⟩
        have RB : Hid (RowAt w4 Ab b) := Lib.hid fun hp => by
          rcases ob.2 with ⟨_, h0⟩ | ⟨gb, cc, cur, h, _⟩
          · omega
          · injection h with h3 _ _
            subst h3
            exact ⟨gb, rfl, StrsAt.of_owns ob rfl, (ob.lt gb rfl).2⟩
        have HH := Lib.hid (fun x => spec_hasText Ab cb b x (by omega) w4 RB.out)
        clear ob b4 x0 x1 x2 x3 OA3 B2 B3 C2 C3 HA1 HB1 XB BB RB
        go_wp2
        go_loop [7] (fun i => ∃ k : Nat, k ≤ a.length ∧ i = .int .i64 k ∧ Hid (∀ j, j < k → Lib.containsS b (a.getD j ByteArray.empty) = true)) (fun i => a.length - (intOf i).toNat)
        case atStart => exact ⟨0, Nat.zero_le _, rfl, Lib.hid (fun j h => by omega)⟩
        case round =>
          obtain ⟨k, hk, rfl, hto⟩ := hrel
          by_cases hlt : k < a.length
          · obtain ⟨ga, rfl⟩ : ∃ ga, Aa = some ⟨ga, 0, none⟩ := by
              rcases OA4.out.2 with ⟨_, h0⟩ | ⟨gb, cc, cur, h, _⟩
              · omega
              · injection h with h3 _ _
                exact ⟨gb, h3⟩
            have hc := (StrsAt.of_owns OA4.out rfl) k hlt
            rw [Nat.zero_add] at hc
            have hh := HH.out (a.getD k ByteArray.empty)
            cases hx : Lib.containsS b (a.getD k ByteArray.empty) with
            | false =>
              have HF : Hid (R = false) := Lib.hid (by rw [HR.out]; unfold sameA; rw [allA_not hlt hx]; rfl)
              rw [hx] at hh
              have HH1 := Lib.hid hh
              generalize a.getD k ByteArray.empty = y at *
              clear hh hx
              go_wp2_with fail
              refine HH1.out.mono ?_
              rintro e w5 ⟨rfl, rfl⟩
              go_wp2
              go_ret
              exact ⟨by rw [HF.out]; rfl, C4.out⟩
            | true =>
              have HN : Hid (∀ j, j < k + 1 → Lib.containsS b (a.getD j ByteArray.empty) = true) := Lib.hid fun j hj => by
                by_cases ej : j = k
                · subst ej; exact hx
                · exact hto.out j (by omega)
              rw [hx] at hh
              have HH1 := Lib.hid hh
              generalize a.getD k ByteArray.empty = y at *
              clear hh hx
              go_wp2_with fail
              refine HH1.out.mono ?_
              rintro e w5 ⟨rfl, rfl⟩
              go_wp2
              go_round
              case rel => exact ⟨k + 1, by omega, by go_num, HN⟩
              case measure => simp [intOf]; omega
          · obtain rfl : k = a.length := by omega
            have HF : Hid (R = decide (a.length = b.length)) := Lib.hid (by rw [HR.out]; unfold sameA; rw [allA_done hto.out]; rfl)
            have hd : ((a.length : Int) == (b.length : Int)) = decide (a.length = b.length) := by
              rw [Bool.eq_iff_iff, beq_iff_eq, decide_eq_true_iff]; omega
            go_wp2
            go_ret
            exact ⟨by rw [HF.out, ← hd]; rfl, C4.out⟩
      · have HR : Hid (R = false) := Lib.hid (by rw [HSS.out, e1, e2, decide_eq_false hL]; rfl)
        have hb : (L == L') = false := by rw [beq_eq_false_iff_ne]; exact hL
        clear e1 e2 HSS
        go_wp2
        go_ret
        exact ⟨by rw [HR.out]; rfl, C2.out⟩
end Go.Proofs.YtalclebehbdliaaGreat
namespace Go.Proofs.YtalclebehbdliaaGreat
open Go Go.RowKit

theorem sliceArg_none (a : Option Addr) (c : Nat) (W : World) : SliceArg W (.slice a 0 c) [] :=
  ⟨fun w' _ => sz_none a c _ (by decide) (by decide) w', fun _ w' _ => copy_none a c w'⟩
theorem sliceArg_some (b off c : Nat) (xs : List ByteArray) (hn : xs.length ≤ 9223372036854775807) (hz : ∀ k, k < xs.length → (xs.getD k ByteArray.empty).size ≤ 9223372036854775807) (W : World) (hs : StrsAt W b off xs) (hb : b < W.heap.size) :
    SliceArg W (.slice (some ⟨b, off, none⟩) xs.length c) xs :=
  ⟨fun w' h => sz_some b off c xs 1048576 (by decide) (by decide) hn hz w' (hs.below h hb),
   fun hl w' h => copy_some b off c xs (by omega) w' (hs.below h hb) (Nat.lt_of_lt_of_le hb h.size)⟩
theorem atCopies_isShift (W : World) (L : Int) (xs : List ByteArray) : AtCopies W 49 L xs (isShift L xs) :=
  fun g c w' _ hl ht hs hg => spec_isShift L (some ⟨g, 0, none⟩) c xs hl (fun k hk => by have := size_le_total hk; omega) w' (.of hs hg)
end Go.Proofs.YtalclebehbdliaaGreat
namespace Go.Proofs.YtalclebehbdliaaGreat
open Go Go.RowKit

theorem same_rows (A1 A2 : Option Addr) (c1 c2 : Nat) (ps : List ByteArray) (hn : ps.length ≤ 1048576) (w : World) (h1 : RowAt w A1 ps) (h2 : RowAt w A2 ps) :
    Calls Tryz.prog 74 #[.slice A1 ps.length c1, .slice A2 ps.length c2] w (TrueBelow w) := by
  by_cases hp : 0 < ps.length
  · obtain ⟨g1, rfl, s1, _⟩ := h1 hp
    obtain ⟨g2, rfl, s2, _⟩ := h2 hp
    exact same_some g1 0 c1 g2 0 c2 ps (by omega) w s1 s2
  · have h0 : ps.length = 0 := by omega
    rw [h0]
    exact (same_none A1 A2 c1 c2 w).mono fun e w' ⟨he, hw⟩ => ⟨he, hw ▸ Below.refl _ _⟩
/-- The slice A holds the strings ps in memory from block B on. -/
def OwnAt (w : World) (B : Nat) (A : Option Addr) (c : Nat) (ps : List ByteArray) : Prop :=
  0 < ps.length → ∃ g, A = some ⟨g, 0, none⟩ ∧ w.ownsRow B 9 1 (.slice (some ⟨g, 0, none⟩) ps.length c) ps.length (ps.map Value.string)
theorem OwnAt.row {w : World} {B : Nat} {A : Option Addr} {c : Nat} {ps : List ByteArray} (h : OwnAt w B A c ps) : RowAt w A ps := by
  intro hp
  obtain ⟨g, hA, ho⟩ := h hp
  exact ⟨g, hA, StrsAt.of_owns ho rfl, (ho.lt g rfl).2⟩
theorem OwnAt.below {w w' : World} {B : Nat} {A : Option Addr} {c : Nat} {ps : List ByteArray} (h : OwnAt w B A c ps) (hb : Below w.heap.size w w') : OwnAt w' B A c ps := by
  intro hp
  obtain ⟨g, hA, ho⟩ := h hp
  exact ⟨g, hA, owns_below ho hb⟩
theorem ListPost.ownAt {ps : List ByteArray} {w w' : World} {e : Ending} (h : ListPost ps w e w') : ∃ A cap, e = .returned (.slice A ps.length cap) ∧ OwnAt w' w.heap.size A cap ps ∧ Below w.heap.size w w' := by
  obtain ⟨v, rfl, ho, hb⟩ := h
  rcases ho.2 with ⟨rfl, h0⟩ | ⟨g, cap, cur, rfl, _, _, _⟩
  · exact ⟨none, 0, by rw [h0], fun hp => by omega, hb⟩
  · exact ⟨some ⟨g, 0, none⟩, cap, rfl, fun _ => ⟨g, rfl, ho⟩, hb⟩
/-- Only the slice's own block has been written. -/
def OnlyAt (B : Nat) (A : Option Addr) (w w' : World) : Prop := ∃ r, w.grownBy w' r ∧ (r = none ∨ ∃ g, A = some ⟨g, 0, none⟩ ∧ B ≤ g ∧ r = some g)
theorem OnlyAt.below {B : Nat} {A : Option Addr} {w w' : World} (h : OnlyAt B A w w') (hB : B ≤ w.heap.size) : Below B w w' := by
  obtain ⟨r, hg, hr⟩ := h
  refine ⟨hg.os, hg.tape, hg.output, hg.size, fun k hk => hg.block k (by omega) ?_⟩
  rcases hr with rfl | ⟨g, _, hBg, rfl⟩
  · intro e; cases e
  · intro e
    have := Option.some.inj e
    omega
end Go.Proofs.YtalclebehbdliaaGreat
namespace Go.Proofs.YtalclebehbdliaaGreat
open Go Go.RowKit

end Go.Proofs.YtalclebehbdliaaGreat
namespace Go.Proofs.YtalclebehbdliaaGreat
open Go Go.RowKit

/-- What a function of a shift and an int answers at copies of the shift: a list, in new memory. -/
def AtCopiesL (W : World) (f : Nat) (L : Int) (xs : List ByteArray) (n : Int) (ps : List ByteArray) : Prop :=
  ∀ g c w', Below W.heap.size W w' → xs.length ≤ 1048576 → total xs ≤ 1048576 → StrsAt w' g 0 xs → g < w'.heap.size → Calls Tryz.prog f #[.agg #[.int .i64 L, .slice (some ⟨g, 0, none⟩) xs.length c], .int .i64 n] w' (ListPost ps w')
/-- The slice A holds the strings ps in a block below H. -/
def RowIn (H : Nat) (w : World) (A : Option Addr) (ps : List ByteArray) : Prop := 0 < ps.length → ∃ g, A = some ⟨g, 0, none⟩ ∧ StrsAt w g 0 ps ∧ g < H
theorem RowIn.below {H B : Nat} {w w' : World} {A : Option Addr} {ps : List ByteArray} (h : RowIn H w A ps) (hb : Below B w w') (hB : H ≤ B) : RowIn H w' A ps := by
  intro hp
  obtain ⟨g, hA, hs, hg⟩ := h hp
  exact ⟨g, hA, hs.below (hb.mono hB) hg, hg⟩
theorem RowIn.row {H : Nat} {w : World} {A : Option Addr} {ps : List ByteArray} (h : RowIn H w A ps) (hH : H ≤ w.heap.size) : RowAt w A ps := by
  intro hp
  obtain ⟨g, hA, hs, hg⟩ := h hp
  exact ⟨g, hA, hs, Nat.lt_of_lt_of_le hg hH⟩
theorem OwnAt.only {w w' : World} {B B4 g4 c : Nat} {A : Option Addr} {ps : List ByteArray} (h : OwnAt w B A c ps) (ho : OnlyAt B4 (some ⟨g4, 0, none⟩) w w') (hlt : g4 < B) : OwnAt w' B A c ps := by
  intro hp
  obtain ⟨g, hA, hw⟩ := h hp
  obtain ⟨r, hg, hr⟩ := ho
  refine ⟨g, hA, hw.kept hg ?_⟩
  have hgB := (hw.lt g rfl).1
  rcases hr with rfl | ⟨g', hg', _, rfl⟩
  · exact Or.inr (by intro e; cases e)
  · refine Or.inr ?_
    intro e
    have h1 : g = g' := Option.some.inj e
    have h2 : g4 = g' := by
      have := Option.some.inj hg'
      injection this
    omega

end Go.Proofs.YtalclebehbdliaaGreat
namespace Go.Proofs.YtalclebehbdliaaGreat
open Go Go.RowKit

theorem pow_six {k n : Nat} (hk : k ≤ 3) (hn : n ≤ 6) : ∀ i, i ≤ n → k ^ i ≤ 729 := by
  intro i hi
  have h1 : k ^ i ≤ 3 ^ i := Nat.pow_le_pow_left hk i
  have h2 : 3 ^ i ≤ 3 ^ 6 := Nat.pow_le_pow_right (by decide) (by omega)
  have h3 : 3 ^ 6 = 729 := by decide
  omega
/-- The words that avoid, out of a list. -/
theorem keepW_length (ps ws : List ByteArray) : (keepW ps ws).length ≤ ws.length := List.length_filter_le _ _
theorem keepW_yes {ps ws : List ByteArray} {k : Nat} (hk : k < ws.length) (h : avoids ps (ws.getD k ByteArray.empty) = true) : keepW ps (ws.take (k + 1)) = keepW ps (ws.take k) ++ [ws.getD k ByteArray.empty] := by
  unfold keepW
  rw [take_next ws k hk, List.filter_append, List.filter_cons_of_pos h]
  rfl
theorem keepW_no {ps ws : List ByteArray} {k : Nat} (hk : k < ws.length) (h : avoids ps (ws.getD k ByteArray.empty) = false) : keepW ps (ws.take (k + 1)) = keepW ps (ws.take k) := by
  unfold keepW
  rw [take_next ws k hk, List.filter_append, List.filter_cons_of_neg (by rw [h]; decide)]
  simp

theorem one_cell (x : ByteArray) : ∀ u ∈ [Value.string x], u.oneCell' = true := by
  intro u hu
  rw [List.mem_singleton] at hu
  subst hu; rfl
/-- Behind an append the other list lies as it lay. -/
theorem appended {B gv gw gg nq len cv : Nat} {ws : List ByteArray} {W wr w2 : World} {o : Obj} {xs : List Value} (hB : Below B W wr) (hs : StrsAt wr gw 0 ws) (ho : wr.ownsRow B 9 1 (.slice (some ⟨gv, 0, none⟩) len cv) len xs) (hgl : gw < wr.heap.size) (hne : gv ≠ gw)
    (hg : ((wr.drewN nq).alloc o).grownBy w2 (Value.slice (some ⟨gv, 0, none⟩) len cv).ownBlock) (hat : (Value.slice (some ⟨gv, 0, none⟩) len cv).ownBlock = some gg ∨ gg = wr.heap.size + 1) :
    Below B W w2 ∧ StrsAt w2 gw 0 ws ∧ gg ≠ gw ∧ gw < w2.heap.size := by
  have hgB := (ho.lt gv rfl).1
  have hsz := hg.size
  simp at hsz
  have hlB := hB.size
  have e : (Value.slice (some ⟨gv, 0, none⟩) len cv).ownBlock = some gv := rfl
  rw [e] at hg hat
  have hWB : B ≤ ((wr.drewN nq).alloc o).heap.size := by
    have := (ho.lt gv rfl).2
    simp; omega
  refine ⟨((below_drewN hB nq).alloc (by have := (ho.lt gv rfl).2; simp; omega) o).grown hg hWB (fun q hq => by have := Option.some.inj hq; omega), ?_, ?_, by omega⟩
  · intro j hj
    have h1 := hs j hj
    have h2 : ((wr.drewN nq).alloc o).cell? ⟨gw, 0 + j, none⟩ = some (.string (ws.getD j ByteArray.empty)) := ((((below_drewN (Below.refl wr.heap.size wr) nq).alloc (Nat.le_refl _) o)).cell (p := ⟨gw, 0 + j, none⟩) hgl).trans h1
    exact hg.cell h2 (by intro h; exact hne (Option.some.inj h).symm)
  · rcases hat with h | h
    · have := Option.some.inj h; omega
    · omega

set_option maxRecDepth 100000 in
set_option maxHeartbeats 3200000 in
theorem spec_l3Words (kk nn : Nat) (G : Option Addr) (c : Nat) (ps : List ByteArray) (k1 : 1 ≤ kk) (k3 : kk ≤ 3) (n6 : nn ≤ 6) (hl : ps.length ≤ 1048576) (hz : ∀ k, k < ps.length → (ps.getD k ByteArray.empty).size ≤ 2147483648) (w : World) (hs : StrsG w G ps) :
    Calls Tryz.prog 89 #[.agg #[.int .i64 kk, .slice G ps.length c], .int .i64 nn] w (ListPost (keepW ps (allW kk nn)) w) := by
  obtain ⟨i0, hi, hz0, hz1, hz2⟩ := info_parts infoStr
  have HS := Lib.hid hs
  have HZ := Lib.hid hz
  have HA := Lib.hid (spec_all kk nn k1 k3 (by omega) (pow_six k3 n6))
  clear hs hz
  go_enter Tryz.func89, Tryz.ntmps89
  go_wp2_with fail
  obtain ⟨Wb, hWb⟩ : ∃ Wb, w.alloc (.cells #[.int .i64 kk, .slice G ps.length c] 26) = Wb := ⟨_, rfl⟩
  have sb : Wb.heap.size = w.heap.size + 1 := by rw [← hWb]; simp
  have xb : BoxAt Wb w.heap.size kk (.slice G ps.length c) := by rw [← hWb]; exact boxAt_new w kk _ 26
  have bb : Below w.heap.size w Wb := by rw [← hWb]; exact (Below.refl _ _).alloc (Nat.le_refl _) _
  rw [hWb]
  clear hWb
  have b0 := (Below.refl Wb.heap.size Wb).alloc (Nat.le_refl _) (.cells #[] 9)
  have o0 := World.ownsRow_made (base := Wb.heap.size) (e := 9) (size := 1) Wb #[] 0 (Nat.le_refl _) (by decide) rfl
  have XB := Lib.hid xb
  have BB := Lib.hid bb
  have B0 := Lib.hid b0
  have O0 := Lib.hid o0
  clear b0 o0 xb bb
  refine (HA.out _).mono fun e w1 h1 => ?_
  have hlen : (allW kk nn).length ≤ 729 := by rw [allW_length]; exact pow_six k3 n6 nn (Nat.le_refl _)
  have hpos : 0 < (allW kk nn).length := by rw [allW_length]; exact Nat.pow_pos k1
  have hb : ∀ y ∈ allW kk nn, y.size ≤ 16 := fun y hy => by rw [allW_size kk nn y hy]; omega
  obtain ⟨gw, c1, rfl, ow, b1⟩ := h1.full hpos
  rw [World.size_alloc] at ow
  have hgw := ow.lt gw rfl
  have stw := StrsAt.of_owns ow rfl
  have B1 := Lib.hid (B0.out.trans (b1.mono (by simp)))
  have O1 := Lib.hid (owns_below O0.out b1)
  have SW := Lib.hid stw
  clear h1 b1 ow stw B0 O0
  generalize allW kk nn = ws at *
  go_wp2
  go_loopw [5, 7] (fun v i wr => ∃ k gv cv : Nat, k ≤ ws.length ∧ i = .int .i64 k ∧ v = .slice (some ⟨gv, 0, none⟩) (keepW ps (ws.take k)).length cv ∧ gv ≠ gw ∧ gw < wr.heap.size ∧ wr.ownsRow Wb.heap.size 9 1 (.slice (some ⟨gv, 0, none⟩) (keepW ps (ws.take k)).length cv) (keepW ps (ws.take k)).length ((keepW ps (ws.take k)).map Value.string) ∧ Hid (Below Wb.heap.size Wb wr) ∧ Hid (StrsAt wr gw 0 ws)) (fun _ i _ => ws.length - (intOf i).toNat)
  case atStart => exact ⟨0, Wb.heap.size, 0, Nat.zero_le _, rfl, by simp [keepW, sb], by omega, hgw.2, O1.out, B1, SW⟩
  case round =>
    obtain ⟨k, gv, cv, hk, rfl, rfl, hne, hgl, ho, HB, HST⟩ := hrel
    have HO := Lib.hid ho
    clear ho
    by_cases hlt : k < ws.length
    · have hc := HST.out k hlt
      rw [Nat.zero_add] at hc
      obtain ⟨x0, x1⟩ := XB.out.below HB.out (by omega)
      have hmem : ws.getD k ByteArray.empty ∈ ws := by
        simp only [List.getD_eq_getElem?_getD, List.getElem?_eq_getElem hlt, Option.getD_some]
        exact List.getElem_mem hlt
      have hsz := hb _ hmem
      have HAV : Hid (∀ w', Below Wb.heap.size Wb w' → Calls Tryz.prog 45 #[.slice G ps.length c, .string (ws.getD k ByteArray.empty)] w' fun e w'' => e = .returned (.bool (avoids ps (ws.getD k ByteArray.empty))) ∧ w'' = w') :=
        Lib.hid (fun w' hw => spec_avoids G c ps (ws.getD k ByteArray.empty) hl HZ.out (by omega) w' ((HS.out.below BB.out).below hw))
      have k0 : (0 : Int) ≤ (k : Int) := by omega
      have k1' : (k : Int) < (ws.length : Int) := by omega
      have hlen2 : (keepW ps (ws.take k)).length ≤ 729 := by
        have h1 := keepW_length ps (ws.take k)
        rw [List.length_take] at h1
        omega
      have lb : Wb.heap.size ≤ wr.heap.size := HB.out.size
      cases hav : avoids ps (ws.getD k ByteArray.empty) with
      | true =>
        have HN := Lib.hid (keepW_yes hlt hav)
        rw [hav] at HAV
        generalize ws.getD k ByteArray.empty = y at *
        generalize keepW ps (ws.take k) = qs at *
        clear hav hmem
        go_wp2_with fail
        go_quiet (first | (go_at_call 45; refine Calls.quiet_of_same (HAV.out _ (below_drewN HB.out _))))
        have OQ := Lib.hid (owns_below HO.out (below_drewN (Below.refl wr.heap.size wr) nq))
        go_wp2_with (at_builtin; refine wpList_append_lies _ rfl (.tmp 26) (.tmp 31) 24 rfl Wb.heap.size 9 i0 (.string ByteArray.empty) 1 16 Tryz.underlying24 hi hz0 hz1 hz2 rfl (by decide) _ _ _ rfl (OQ.out.alloc _) ⟨wr.heap.size, 0, none⟩ 1 1 [.string y] rfl rfl (cell_one_new (wr.drewN nq) _ _) (one_cell y) (by decide) (by unfold maxLen; omega) (by omega) (by simp; omega) (wr.heap.size + 1) (by simp) ?_; intro gg cap2 w2 ho2 hg2 hat2 hlt2; have HAP := Lib.hid (appended HB.out HST.out HO.out hgl hne hg2 hat2); have HO2 := Lib.hid ho2; clear ho2 hg2 hat2)
        obtain ⟨p1, p2, p3, p4⟩ := HAP.out
        go_roundw
        case rel => exact ⟨k + 1, gg, cap2, by omega, by go_num, by rw [HN.out]; simp, p3, p4, by rw [HN.out, List.length_append, List.map_append]; exact HO2.out, p1, p2⟩
        case measure => simp [intOf]; omega
      | false =>
        have HN := Lib.hid (keepW_no hlt hav)
        rw [hav] at HAV
        generalize ws.getD k ByteArray.empty = y at *
        clear hav hmem
        go_wp2_with fail
        go_quiet (first | (go_at_call 45; refine Calls.quiet_of_same (HAV.out _ (below_drewN HB.out _))))
        go_wp2
        go_roundw
        case rel => exact ⟨k + 1, gv, cv, by omega, by go_num, by rw [HN.out], hne, hgl, by rw [HN.out]; exact owns_below HO.out (below_drewN (Below.refl _ _) _), below_drewN HB.out _, HST.out.below (below_drewN (Below.refl wr.heap.size _) _) hgl⟩
        case measure => simp [intOf]; omega
    · obtain rfl : k = ws.length := by omega
      have h := HO.out
      rw [List.take_length] at h
      have HF := Lib.hid h
      clear h
      go_wp2
      go_ret
      refine ⟨_, rfl, ?_, BB.out.trans (HB.out.mono (by omega))⟩
      rw [List.take_length]
      exact World.ownsRow.mono HF.out (by omega)
/-- The words of a length that avoid the forbidden ones; none where there is no shift or the length is out of bounds. -/
def avoidingWords (L : Int) (ps : List ByteArray) (n : Int) : List ByteArray := if isShift L ps = true ∧ 0 ≤ n ∧ n ≤ 6 then keepW ps (allW L.toNat n.toNat) else []
theorem avoidingWords_length (L : Int) (ps : List ByteArray) (n : Int) : (avoidingWords L ps n).length ≤ 1000000 := by
  unfold avoidingWords
  split
  · next h =>
    have h1 := keepW_length ps (allW L.toNat n.toNat)
    have h2 := isShift_letters h.1
    rw [allW_length] at h1
    have h3 := pow_six (k := L.toNat) (n := n.toNat) (by omega) (by omega) n.toNat (Nat.le_refl _)
    omega
  · simp

end Go.Proofs.YtalclebehbdliaaGreat
namespace Go.Proofs.YtalclebehbdliaaGreat
open Go Go.RowKit

def sliceLen : Value → Nat
  | .slice _ n _ => n
  | _ => 0
def goesOn (ps l : List ByteArray) (x : ByteArray) : Bool := goesB ps l x && goesA ps l x
theorem stepW_is (ps l : List ByteArray) : stepW ps l = l.filter (goesOn ps l) := rfl
theorem step_yes {f : ByteArray → Bool} {l : List ByteArray} {k : Nat} (hk : k < l.length) (h : f (l.getD k ByteArray.empty) = true) : (l.take (k + 1)).filter f = (l.take k).filter f ++ [l.getD k ByteArray.empty] := by
  rw [take_next l k hk, List.filter_append, List.filter_cons_of_pos h, List.filter_nil]
theorem step_no {f : ByteArray → Bool} {l : List ByteArray} {k : Nat} (hk : k < l.length) (h : f (l.getD k ByteArray.empty) = false) : (l.take (k + 1)).filter f = (l.take k).filter f := by
  rw [take_next l k hk, List.filter_append, List.filter_cons_of_neg (by rw [h]; decide), List.filter_nil, List.append_nil]
theorem fixW_stop {ps l : List ByteArray} (h : (stepW ps l).length = l.length) : ∀ n, fixW ps n l = l
  | 0 => rfl
  | n + 1 => by show (if (stepW ps l).length = l.length then l else fixW ps n (stepW ps l)) = l; rw [if_pos h]
theorem fixW_go {ps l : List ByteArray} {n : Nat} (h : (stepW ps l).length ≠ l.length) : fixW ps (n + 1) l = fixW ps n (stepW ps l) := by
  show (if (stepW ps l).length = l.length then l else fixW ps n (stepW ps l)) = _; rw [if_neg h]
/-- Behind an append the other row is owned as it was. -/
theorem appended2 {B gv gw gg len cv n cw : Nat} {W wr w2 : World} {o : Obj} {xs ys : List Value} (hB : Below B W wr) (hs : wr.ownsRow B 9 1 (.slice (some ⟨gw, 0, none⟩) n cw) n ys) (ho : wr.ownsRow B 9 1 (.slice (some ⟨gv, 0, none⟩) len cv) len xs) (hne : gv ≠ gw)
    (hg : (wr.alloc o).grownBy w2 (Value.slice (some ⟨gv, 0, none⟩) len cv).ownBlock) (hat : (Value.slice (some ⟨gv, 0, none⟩) len cv).ownBlock = some gg ∨ gg = wr.heap.size + 1) :
    Below B W w2 ∧ w2.ownsRow B 9 1 (.slice (some ⟨gw, 0, none⟩) n cw) n ys ∧ gg ≠ gw := by
  have hgB := (ho.lt gv rfl)
  have hwB := (hs.lt gw rfl)
  have e : (Value.slice (some ⟨gv, 0, none⟩) len cv).ownBlock = some gv := rfl
  rw [e] at hg hat
  refine ⟨(hB.alloc (by omega) o).grown hg (by simp; omega) (fun q hq => by have := Option.some.inj hq; omega), (hs.alloc o).kept hg (Or.inr fun h => hne (Option.some.inj h).symm), ?_⟩
  rcases hat with h | h
  · have := Option.some.inj h; omega
  · omega

set_option maxRecDepth 100000 in
set_option maxHeartbeats 6400000 in
theorem spec_pairs (kk : Nat) (G : Option Addr) (c : Nat) (ps : List ByteArray) (k1 : 1 ≤ kk) (k3 : kk ≤ 3) (hl : ps.length ≤ 1048576) (hz : ∀ k, k < ps.length → (ps.getD k ByteArray.empty).size ≤ 2147483648) (w : World) (hs : StrsG w G ps) :
    Calls Tryz.prog 51 #[.agg #[.int .i64 kk, .slice G ps.length c]] w (ListPost (pairsW kk ps) w) := by
  obtain ⟨i0, hi, hz0, hz1, hz2⟩ := info_parts infoStr
  have HS := Lib.hid hs
  have HZ := Lib.hid hz
  clear hs hz
  go_enter Tryz.func51, Tryz.ntmps51
  go_wp2_with fail
  obtain ⟨Wb, hWb⟩ : ∃ Wb, w.alloc (.cells #[.int .i64 kk, .slice G ps.length c] 26) = Wb := ⟨_, rfl⟩
  have sb : Wb.heap.size = w.heap.size + 1 := by rw [← hWb]; simp
  have xb : BoxAt Wb w.heap.size kk (.slice G ps.length c) := by rw [← hWb]; exact boxAt_new w kk _ 26
  have bb : Below w.heap.size w Wb := by rw [← hWb]; exact (Below.refl _ _).alloc (Nat.le_refl _) _
  rw [hWb]
  clear hWb
  have XB := Lib.hid xb
  have BB := Lib.hid bb
  have HW := Lib.hid (spec_l3Words kk 2 G c ps k1 k3 (by omega) hl HZ.out Wb (HS.out.below bb))
  clear xb bb
  refine HW.out.mono ?_
  rintro e w1 ⟨v, rfl, ho1, hb1⟩
  have HF0 : Hid (pairsW kk ps = fixW ps 9 (keepW ps (allW kk 2))) := Lib.hid rfl
  have h9 := keepW_two ps k3
  have H20 : Hid (∀ x ∈ keepW ps (allW kk 2), x.size = 2) := Lib.hid (fun x hx => ((mem_allW kk k3 2 x).1 (List.mem_filter.1 hx).1).1)
  generalize keepW ps (allW kk 2) = l0 at *
  obtain ⟨A0, c0, rfl⟩ : ∃ A c, v = .slice A l0.length c := by
    rcases ho1.2 with ⟨rfl, h0⟩ | ⟨b, cc, cur, rfl, _⟩
    · exact ⟨none, 0, by rw [h0]⟩
    · exact ⟨_, cc, rfl⟩
  have HO1 := Lib.hid ho1
  have HB1 := Lib.hid hb1
  clear ho1 hb1
  go_wp2
  go_loopw [3] (fun v wr => ∃ (n : Nat) (l : List ByteArray) (A : Option Addr) (cap : Nat), v = .slice A l.length cap ∧ l.length ≤ n ∧ n ≤ 9 ∧ Hid (pairsW kk ps = fixW ps n l) ∧ Hid (∀ x ∈ l, x.size = 2) ∧ Hid (wr.ownsRow Wb.heap.size 9 1 (.slice A l.length cap) l.length (l.map Value.string)) ∧ Hid (Below Wb.heap.size Wb wr)) (fun v _ => sliceLen v)
  case atStart => exact ⟨9, l0, A0, c0, rfl, h9, Nat.le_refl _, HF0, H20, HO1, HB1⟩
  case round =>
    obtain ⟨n, l, A, cap, rfl, hln, hn9, HF, H2, HO, HB⟩ := hrel
    clear h9
    have lb : Wb.heap.size ≤ wr.heap.size := HB.out.size
    have HN0 := Lib.hid (World.ownsRow_made (base := Wb.heap.size) (e := 9) (size := 1) wr #[] 0 lb (by decide) rfl)
    have HO' := Lib.hid (owns_below HO.out ((Below.refl wr.heap.size wr).alloc (Nat.le_refl _) (.cells #[] 9)))
    have HB' := Lib.hid (HB.out.alloc lb (.cells #[] 9))
    have HA' : Hid (∀ b, A = some ⟨b, 0, none⟩ → wr.heap.size ≠ b) := Lib.hid (fun b hb e => by
      subst hb
      have := (HO.out.lt b rfl).2
      omega)
    clear HO HB
    go_wp2
    go_loopw [4, 5] (fun v i wq => ∃ k gv cv : Nat, k ≤ l.length ∧ i = .int .i64 k ∧ v = .slice (some ⟨gv, 0, none⟩) ((l.take k).filter (goesOn ps l)).length cv ∧ Hid (∀ b, A = some ⟨b, 0, none⟩ → gv ≠ b) ∧ Hid (wq.ownsRow Wb.heap.size 9 1 (.slice (some ⟨gv, 0, none⟩) ((l.take k).filter (goesOn ps l)).length cv) ((l.take k).filter (goesOn ps l)).length (((l.take k).filter (goesOn ps l)).map Value.string)) ∧ Hid (wq.ownsRow Wb.heap.size 9 1 (.slice A l.length cap) l.length (l.map Value.string)) ∧ Hid (Below Wb.heap.size Wb wq)) (fun _ i _ => l.length - (intOf i).toNat)
    case atStart => exact ⟨0, wr.heap.size, 0, Nat.zero_le _, rfl, rfl, HA', HN0, HO', HB'⟩
    case round =>
      obtain ⟨k, gv, cv, hk, rfl, rfl, hne, HN, HO, HB⟩ := hrel
      clear HN0 HO' HB' HA'
      by_cases hlt : k < l.length
      · obtain ⟨gm, cm, hform, hgmB, hgml⟩ := HO.out.form (by omega)
        simp only [Value.slice.injEq, true_and] at hform
        obtain ⟨rfl, rfl⟩ := hform
        have hgne := hne.out gm rfl
        have hst := StrsAt.of_owns HO.out rfl
        have hc := hst k hlt
        rw [Nat.zero_add] at hc
        obtain ⟨x0, x1⟩ := XB.out.below HB.out (by omega)
        have hmem := getD_mem hlt
        have hx2 := H2.out _ hmem
        have HGB := Lib.hid (fun w' (h : Below wr.heap.size wr w') => spec_goesB kk G c ps hl HZ.out gm cap l (by omega) (fun k hk => H2.out _ (getD_mem hk)) (l.getD k ByteArray.empty) hx2 w' ((HS.out.below BB.out).below (HB.out.trans (h.mono HB.out.size))) (hst.below h hgml) (by have := h.size; omega))
        have HGA := Lib.hid (fun w' (h : Below wr.heap.size wr w') => spec_goesA kk G c ps hl HZ.out gm cap l (by omega) (fun k hk => H2.out _ (getD_mem hk)) (l.getD k ByteArray.empty) hx2 w' ((HS.out.below BB.out).below (HB.out.trans (h.mono HB.out.size))) (hst.below h hgml) (by have := h.size; omega))
        have hbl := HB.out.size
        have k0 : (0 : Int) ≤ (k : Int) := by omega
        have k1' : (k : Int) < (l.length : Int) := by omega
        clear hst hmem
        have HY : Hid (goesOn ps l (l.getD k ByteArray.empty) = (goesB ps l (l.getD k ByteArray.empty) && goesA ps l (l.getD k ByteArray.empty))) := Lib.hid rfl
        have HYes := Lib.hid (step_yes (f := goesOn ps l) hlt)
        have HNo := Lib.hid (step_no (f := goesOn ps l) hlt)
        have hq : ((l.take k).filter (goesOn ps l)).length ≤ 9 := by
          have h1 := List.length_filter_le (goesOn ps l) (l.take k)
          rw [List.length_take] at h1
          omega
        generalize l.getD k ByteArray.empty = x at *
        cases hgb : goesB ps l x with
        | false =>
          rw [hgb] at HGB
          have HN2 := Lib.hid (HNo.out (by rw [HY.out, hgb]; rfl))
          clear hgb
          generalize (l.take k).filter (goesOn ps l) = qs at *
          go_wp2
          refine wp_region_held_drew (S := (fun w' => w'.cell? ⟨w.heap.size, 0, none⟩ = some (.int .i64 kk) ∧ w'.cell? ⟨w.heap.size, 1, none⟩ = some (.slice G ps.length c) ∧ w'.cell? ⟨gm, k, none⟩ = some (.string x))) (by kernel_rfl) ?hS0a (fun hHeld => ?_)
          case hS0a => exact ⟨x0, x1, hc⟩
          refine wpAnyH_take (i := 0) (v := ?v0a) rfl (by kernel_rfl) (by kernel_rfl) (by kernel_rfl) (fun _ _ _ h => h) (Or.inl ⟨by rfl, ?hy0a⟩) (by assumption) ?_
          case hy0a => (intro w hSw; (try dsimp only at hSw); go_simp; try with_reducible rfl)
          try simp only [Act.put, List.setIfInBounds_toArray]
          refine wpAnyH_take (i := 1) (v := ?v1a) rfl (by kernel_rfl) (by kernel_rfl) (by kernel_rfl) (fun _ _ _ h => h) (Or.inl ⟨by rfl, ?hy1a⟩) (by assumption) ?_
          case hy1a => (intro w hSw; (try dsimp only at hSw); go_simp; try with_reducible rfl)
          try simp only [Act.put]
          refine wpAnyH_take (i := 2) (v := ?v2a) rfl (by kernel_rfl) (by kernel_rfl) (by kernel_rfl) (fun _ _ _ h => h) (Or.inl ⟨by rfl, ?hy2a⟩) (by assumption) ?_
          case hy2a => (intro w hSw; (try dsimp only at hSw); go_simp; try with_reducible rfl)
          try simp only [Act.put]
          refine wpAnyH_take (i := 3) (v := ?v3a) rfl (by kernel_rfl) (by kernel_rfl) (by kernel_rfl) (fun _ _ _ h => h) (Or.inl ⟨by rfl, ?hy3a⟩) (by assumption) ?_
          case hy3a => (intro w hSw; (try dsimp only at hSw); go_simp; try with_reducible rfl)
          try simp only [Act.put]
          refine wpAnyH_take (i := 4) (v := ?v4a) rfl (by kernel_rfl) (by kernel_rfl) (by kernel_rfl) (fun _ _ _ h => h) (Or.inl ⟨by rfl, ?hy4a⟩) (by assumption) ?_
          case hy4a => (intro w hSw; (try dsimp only at hSw); go_simp; try with_reducible rfl)
          try simp only [Act.put]
          refine wpAnyH_take (i := 5) (v := ?v5a) rfl (by kernel_rfl) (by kernel_rfl) (by kernel_rfl) (fun _ _ _ h => h) (Or.inl ⟨by rfl, ?hy5a⟩) (by assumption) ?_
          case hy5a => (intro w hSw; (try dsimp only at hSw); go_simp; try with_reducible rfl)
          try simp only [Act.put]
          refine wpAnyH_ready (rs := [6]) (by kernel_rfl) (by simp) ?_
          refine AllReadyH.cons rfl (fun K hK => ?_) AllReadyH.nil
          go_simp
          go_at_call 90
          refine (HGB.out _ (Below.refl _ _).drew).mono ?_
          rintro e w6 ⟨rfl, hb6⟩
          have hq6 : Below wr.heap.size wr w6 := (Below.refl wr.heap.size wr).drew.trans hb6
          have z0 := (hb6.cell (p := ⟨w.heap.size, 0, none⟩) (by show w.heap.size < wr.heap.size; omega)).trans x0
          have z1 := (hb6.cell (p := ⟨w.heap.size, 1, none⟩) (by show w.heap.size < wr.heap.size; omega)).trans x1
          have z2 := (hb6.cell (p := ⟨gm, k, none⟩) (by show gm < wr.heap.size; omega)).trans hc
          go_wp2_with fail
          refine hK.out _ _ ?hS6a (fun hHeld => ?_)
          case hS6a => (try dsimp only); exact ⟨z0, z1, z2⟩
          clear hK K
          try simp only [Act.put, List.setIfInBounds_toArray, List.set_cons_zero, List.set_cons_succ]
          refine wpAnyH_take (i := 7) (v := ?v7a) rfl (by kernel_rfl) (by kernel_rfl) (by kernel_rfl) (fun _ _ _ h => h) (Or.inl ⟨by rfl, ?hy7a⟩) (by assumption) ?_
          case hy7a => (intro w hSw; (try dsimp only at hSw); go_simp; try with_reducible rfl)
          try simp only [Act.put, List.setIfInBounds_toArray]
          refine wpAnyH_take (i := 8) (v := undef) rfl (by kernel_rfl) (by kernel_rfl) (by kernel_rfl) (fun _ _ _ h => h) (Or.inr ⟨by rfl, rfl⟩) (by assumption) ?_
          try simp only [Act.put]
          refine wpAnyH_take (i := 9) (v := undef) rfl (by kernel_rfl) (by kernel_rfl) (by kernel_rfl) (fun _ _ _ h => h) (Or.inr ⟨by rfl, rfl⟩) (by assumption) ?_
          try simp only [Act.put]
          refine wpAnyH_take (i := 10) (v := undef) rfl (by kernel_rfl) (by kernel_rfl) (by kernel_rfl) (fun _ _ _ h => h) (Or.inr ⟨by rfl, rfl⟩) (by assumption) ?_
          try simp only [Act.put]
          refine wpAnyH_take (i := 11) (v := undef) rfl (by kernel_rfl) (by kernel_rfl) (by kernel_rfl) (fun _ _ _ h => h) (Or.inr ⟨by rfl, rfl⟩) (by assumption) ?_
          try simp only [Act.put]
          refine wpAnyH_take (i := 12) (v := undef) rfl (by kernel_rfl) (by kernel_rfl) (by kernel_rfl) (fun _ _ _ h => h) (Or.inr ⟨by rfl, rfl⟩) (by assumption) ?_
          try simp only [Act.put]
          refine wpAnyH_take (i := 13) (v := undef) rfl (by kernel_rfl) (by kernel_rfl) (by kernel_rfl) (fun _ _ _ h => h) (Or.inr ⟨by rfl, rfl⟩) (by assumption) ?_
          try simp only [Act.put]
          refine wpAnyH_ready (rs := [14]) (by kernel_rfl) (by simp) ?_
          refine AllReadyH.cons rfl (fun K hK => ?_) AllReadyH.nil
          go_simp
          refine hK.out _ _ ?hS14a (fun hHeld => ?_)
          case hS14a => (try dsimp only); exact ⟨z0, z1, z2⟩
          clear hK K
          try simp only [Act.put, List.setIfInBounds_toArray, List.set_cons_zero, List.set_cons_succ]
          refine wpAnyH_take (i := 15) (v := ?v15a) rfl (by kernel_rfl) (by kernel_rfl) (by kernel_rfl) (fun _ _ _ h => h) (Or.inl ⟨by rfl, ?hy15a⟩) (by assumption) ?_
          case hy15a => (intro w hSw; (try dsimp only at hSw); go_simp; try with_reducible rfl)
          try simp only [Act.put, List.setIfInBounds_toArray]
          refine wpAnyH_done (by kernel_rfl) ?_ _
          go_wp2
          go_roundw
          case rel => exact ⟨k + 1, gv, cv, by omega, by go_num, by rw [HN2.out], hne, Lib.hid (by rw [HN2.out]; exact owns_below HN.out hq6), Lib.hid (owns_below HO.out hq6), Lib.hid (HB.out.trans (hq6.mono hbl))⟩
          case measure => simp [intOf]; omega
        | true =>
          rw [hgb] at HGB
          cases hga : goesA ps l x with
          | false =>
            rw [hga] at HGA
            have HN2 := Lib.hid (HNo.out (by rw [HY.out, hgb, hga]; rfl))
            clear hgb hga
            generalize (l.take k).filter (goesOn ps l) = qs at *
            go_wp2
            refine wp_region_held_drew (S := (fun w' => w'.cell? ⟨w.heap.size, 0, none⟩ = some (.int .i64 kk) ∧ w'.cell? ⟨w.heap.size, 1, none⟩ = some (.slice G ps.length c) ∧ w'.cell? ⟨gm, k, none⟩ = some (.string x))) (by kernel_rfl) ?hS0b (fun hHeld => ?_)
            case hS0b => exact ⟨x0, x1, hc⟩
            refine wpAnyH_take (i := 0) (v := ?v0b) rfl (by kernel_rfl) (by kernel_rfl) (by kernel_rfl) (fun _ _ _ h => h) (Or.inl ⟨by rfl, ?hy0b⟩) (by assumption) ?_
            case hy0b => (intro w hSw; (try dsimp only at hSw); go_simp; try with_reducible rfl)
            try simp only [Act.put, List.setIfInBounds_toArray]
            refine wpAnyH_take (i := 1) (v := ?v1b) rfl (by kernel_rfl) (by kernel_rfl) (by kernel_rfl) (fun _ _ _ h => h) (Or.inl ⟨by rfl, ?hy1b⟩) (by assumption) ?_
            case hy1b => (intro w hSw; (try dsimp only at hSw); go_simp; try with_reducible rfl)
            try simp only [Act.put]
            refine wpAnyH_take (i := 2) (v := ?v2b) rfl (by kernel_rfl) (by kernel_rfl) (by kernel_rfl) (fun _ _ _ h => h) (Or.inl ⟨by rfl, ?hy2b⟩) (by assumption) ?_
            case hy2b => (intro w hSw; (try dsimp only at hSw); go_simp; try with_reducible rfl)
            try simp only [Act.put]
            refine wpAnyH_take (i := 3) (v := ?v3b) rfl (by kernel_rfl) (by kernel_rfl) (by kernel_rfl) (fun _ _ _ h => h) (Or.inl ⟨by rfl, ?hy3b⟩) (by assumption) ?_
            case hy3b => (intro w hSw; (try dsimp only at hSw); go_simp; try with_reducible rfl)
            try simp only [Act.put]
            refine wpAnyH_take (i := 4) (v := ?v4b) rfl (by kernel_rfl) (by kernel_rfl) (by kernel_rfl) (fun _ _ _ h => h) (Or.inl ⟨by rfl, ?hy4b⟩) (by assumption) ?_
            case hy4b => (intro w hSw; (try dsimp only at hSw); go_simp; try with_reducible rfl)
            try simp only [Act.put]
            refine wpAnyH_take (i := 5) (v := ?v5b) rfl (by kernel_rfl) (by kernel_rfl) (by kernel_rfl) (fun _ _ _ h => h) (Or.inl ⟨by rfl, ?hy5b⟩) (by assumption) ?_
            case hy5b => (intro w hSw; (try dsimp only at hSw); go_simp; try with_reducible rfl)
            try simp only [Act.put]
            refine wpAnyH_ready (rs := [6]) (by kernel_rfl) (by simp) ?_
            refine AllReadyH.cons rfl (fun K hK => ?_) AllReadyH.nil
            go_simp
            go_at_call 90
            refine (HGB.out _ (Below.refl _ _).drew).mono ?_
            rintro e w6 ⟨rfl, hb6⟩
            have hq6 : Below wr.heap.size wr w6 := (Below.refl wr.heap.size wr).drew.trans hb6
            have z0 := (hb6.cell (p := ⟨w.heap.size, 0, none⟩) (by show w.heap.size < wr.heap.size; omega)).trans x0
            have z1 := (hb6.cell (p := ⟨w.heap.size, 1, none⟩) (by show w.heap.size < wr.heap.size; omega)).trans x1
            have z2 := (hb6.cell (p := ⟨gm, k, none⟩) (by show gm < wr.heap.size; omega)).trans hc
            go_wp2_with fail
            refine hK.out _ _ ?hS6b (fun hHeld => ?_)
            case hS6b => (try dsimp only); exact ⟨z0, z1, z2⟩
            clear hK K
            try simp only [Act.put, List.setIfInBounds_toArray, List.set_cons_zero, List.set_cons_succ]
            refine wpAnyH_take (i := 7) (v := ?v7b) rfl (by kernel_rfl) (by kernel_rfl) (by kernel_rfl) (fun _ _ _ h => h) (Or.inl ⟨by rfl, ?hy7b⟩) (by assumption) ?_
            case hy7b => (intro w hSw; (try dsimp only at hSw); go_simp; try with_reducible rfl)
            try simp only [Act.put, List.setIfInBounds_toArray]
            refine wpAnyH_take (i := 8) (v := ?v8b) rfl (by kernel_rfl) (by kernel_rfl) (by kernel_rfl) (fun _ _ _ h => h) (Or.inl ⟨by rfl, ?hy8b⟩) (by assumption) ?_
            case hy8b => (intro w hSw; (try dsimp only at hSw); go_simp; try with_reducible rfl)
            try simp only [Act.put]
            refine wpAnyH_take (i := 9) (v := ?v9b) rfl (by kernel_rfl) (by kernel_rfl) (by kernel_rfl) (fun _ _ _ h => h) (Or.inl ⟨by rfl, ?hy9b⟩) (by assumption) ?_
            case hy9b => (intro w hSw; (try dsimp only at hSw); go_simp; try with_reducible rfl)
            try simp only [Act.put]
            refine wpAnyH_take (i := 10) (v := ?v10b) rfl (by kernel_rfl) (by kernel_rfl) (by kernel_rfl) (fun _ _ _ h => h) (Or.inl ⟨by rfl, ?hy10b⟩) (by assumption) ?_
            case hy10b => (intro w hSw; (try dsimp only at hSw); go_simp; try with_reducible rfl)
            try simp only [Act.put]
            refine wpAnyH_take (i := 11) (v := ?v11b) rfl (by kernel_rfl) (by kernel_rfl) (by kernel_rfl) (fun _ _ _ h => h) (Or.inl ⟨by rfl, ?hy11b⟩) (by assumption) ?_
            case hy11b => (intro w hSw; (try dsimp only at hSw); go_simp; try with_reducible rfl)
            try simp only [Act.put]
            refine wpAnyH_take (i := 12) (v := ?v12b) rfl (by kernel_rfl) (by kernel_rfl) (by kernel_rfl) (fun _ _ _ h => h) (Or.inl ⟨by rfl, ?hy12b⟩) (by assumption) ?_
            case hy12b => (intro w hSw; (try dsimp only at hSw); go_simp; try with_reducible rfl)
            try simp only [Act.put]
            refine wpAnyH_take (i := 13) (v := ?v13b) rfl (by kernel_rfl) (by kernel_rfl) (by kernel_rfl) (fun _ _ _ h => h) (Or.inl ⟨by rfl, ?hy13b⟩) (by assumption) ?_
            case hy13b => (intro w hSw; (try dsimp only at hSw); go_simp; try with_reducible rfl)
            try simp only [Act.put]
            refine wpAnyH_ready (rs := [14]) (by kernel_rfl) (by simp) ?_
            refine AllReadyH.cons rfl (fun K hK => ?_) AllReadyH.nil
            go_simp
            go_at_call 90
            refine (HGA.out _ hq6).mono ?_
            rintro e w7 ⟨rfl, hb7⟩
            have hq7 : Below wr.heap.size wr w7 := hq6.trans (hb7.mono hq6.size)
            have y0 := (hq7.cell (p := ⟨w.heap.size, 0, none⟩) (by show w.heap.size < wr.heap.size; omega)).trans x0
            have y1 := (hq7.cell (p := ⟨w.heap.size, 1, none⟩) (by show w.heap.size < wr.heap.size; omega)).trans x1
            have y2 := (hq7.cell (p := ⟨gm, k, none⟩) (by show gm < wr.heap.size; omega)).trans hc
            go_wp2_with fail
            refine hK.out _ _ ?hS14b (fun hHeld => ?_)
            case hS14b => (try dsimp only); exact ⟨y0, y1, y2⟩
            clear hK K
            try simp only [Act.put, List.setIfInBounds_toArray, List.set_cons_zero, List.set_cons_succ]
            refine wpAnyH_take (i := 15) (v := ?v15b) rfl (by kernel_rfl) (by kernel_rfl) (by kernel_rfl) (fun _ _ _ h => h) (Or.inl ⟨by rfl, ?hy15b⟩) (by assumption) ?_
            case hy15b => (intro w hSw; (try dsimp only at hSw); go_simp; try with_reducible rfl)
            try simp only [Act.put, List.setIfInBounds_toArray]
            refine wpAnyH_done (by kernel_rfl) ?_ _
            go_wp2
            go_roundw
            case rel => exact ⟨k + 1, gv, cv, by omega, by go_num, by rw [HN2.out], hne, Lib.hid (by rw [HN2.out]; exact owns_below HN.out hq7), Lib.hid (owns_below HO.out hq7), Lib.hid (HB.out.trans (hq7.mono hbl))⟩
            case measure => simp [intOf]; omega
          | true =>
            rw [hga] at HGA
            have HN2 := Lib.hid (HYes.out (by rw [HY.out, hgb, hga]; rfl))
            clear hgb hga
            generalize (l.take k).filter (goesOn ps l) = qs at *
            go_wp2
            refine wp_region_held_drew (S := (fun w' => w'.cell? ⟨w.heap.size, 0, none⟩ = some (.int .i64 kk) ∧ w'.cell? ⟨w.heap.size, 1, none⟩ = some (.slice G ps.length c) ∧ w'.cell? ⟨gm, k, none⟩ = some (.string x))) (by kernel_rfl) ?hS0c (fun hHeld => ?_)
            case hS0c => exact ⟨x0, x1, hc⟩
            refine wpAnyH_take (i := 0) (v := ?v0c) rfl (by kernel_rfl) (by kernel_rfl) (by kernel_rfl) (fun _ _ _ h => h) (Or.inl ⟨by rfl, ?hy0c⟩) (by assumption) ?_
            case hy0c => (intro w hSw; (try dsimp only at hSw); go_simp; try with_reducible rfl)
            try simp only [Act.put, List.setIfInBounds_toArray]
            refine wpAnyH_take (i := 1) (v := ?v1c) rfl (by kernel_rfl) (by kernel_rfl) (by kernel_rfl) (fun _ _ _ h => h) (Or.inl ⟨by rfl, ?hy1c⟩) (by assumption) ?_
            case hy1c => (intro w hSw; (try dsimp only at hSw); go_simp; try with_reducible rfl)
            try simp only [Act.put]
            refine wpAnyH_take (i := 2) (v := ?v2c) rfl (by kernel_rfl) (by kernel_rfl) (by kernel_rfl) (fun _ _ _ h => h) (Or.inl ⟨by rfl, ?hy2c⟩) (by assumption) ?_
            case hy2c => (intro w hSw; (try dsimp only at hSw); go_simp; try with_reducible rfl)
            try simp only [Act.put]
            refine wpAnyH_take (i := 3) (v := ?v3c) rfl (by kernel_rfl) (by kernel_rfl) (by kernel_rfl) (fun _ _ _ h => h) (Or.inl ⟨by rfl, ?hy3c⟩) (by assumption) ?_
            case hy3c => (intro w hSw; (try dsimp only at hSw); go_simp; try with_reducible rfl)
            try simp only [Act.put]
            refine wpAnyH_take (i := 4) (v := ?v4c) rfl (by kernel_rfl) (by kernel_rfl) (by kernel_rfl) (fun _ _ _ h => h) (Or.inl ⟨by rfl, ?hy4c⟩) (by assumption) ?_
            case hy4c => (intro w hSw; (try dsimp only at hSw); go_simp; try with_reducible rfl)
            try simp only [Act.put]
            refine wpAnyH_take (i := 5) (v := ?v5c) rfl (by kernel_rfl) (by kernel_rfl) (by kernel_rfl) (fun _ _ _ h => h) (Or.inl ⟨by rfl, ?hy5c⟩) (by assumption) ?_
            case hy5c => (intro w hSw; (try dsimp only at hSw); go_simp; try with_reducible rfl)
            try simp only [Act.put]
            refine wpAnyH_ready (rs := [6]) (by kernel_rfl) (by simp) ?_
            refine AllReadyH.cons rfl (fun K hK => ?_) AllReadyH.nil
            go_simp
            go_at_call 90
            refine (HGB.out _ (Below.refl _ _).drew).mono ?_
            rintro e w6 ⟨rfl, hb6⟩
            have hq6 : Below wr.heap.size wr w6 := (Below.refl wr.heap.size wr).drew.trans hb6
            have z0 := (hb6.cell (p := ⟨w.heap.size, 0, none⟩) (by show w.heap.size < wr.heap.size; omega)).trans x0
            have z1 := (hb6.cell (p := ⟨w.heap.size, 1, none⟩) (by show w.heap.size < wr.heap.size; omega)).trans x1
            have z2 := (hb6.cell (p := ⟨gm, k, none⟩) (by show gm < wr.heap.size; omega)).trans hc
            go_wp2_with fail
            refine hK.out _ _ ?hS6c (fun hHeld => ?_)
            case hS6c => (try dsimp only); exact ⟨z0, z1, z2⟩
            clear hK K
            try simp only [Act.put, List.setIfInBounds_toArray, List.set_cons_zero, List.set_cons_succ]
            refine wpAnyH_take (i := 7) (v := ?v7c) rfl (by kernel_rfl) (by kernel_rfl) (by kernel_rfl) (fun _ _ _ h => h) (Or.inl ⟨by rfl, ?hy7c⟩) (by assumption) ?_
            case hy7c => (intro w hSw; (try dsimp only at hSw); go_simp; try with_reducible rfl)
            try simp only [Act.put, List.setIfInBounds_toArray]
            refine wpAnyH_take (i := 8) (v := ?v8c) rfl (by kernel_rfl) (by kernel_rfl) (by kernel_rfl) (fun _ _ _ h => h) (Or.inl ⟨by rfl, ?hy8c⟩) (by assumption) ?_
            case hy8c => (intro w hSw; (try dsimp only at hSw); go_simp; try with_reducible rfl)
            try simp only [Act.put]
            refine wpAnyH_take (i := 9) (v := ?v9c) rfl (by kernel_rfl) (by kernel_rfl) (by kernel_rfl) (fun _ _ _ h => h) (Or.inl ⟨by rfl, ?hy9c⟩) (by assumption) ?_
            case hy9c => (intro w hSw; (try dsimp only at hSw); go_simp; try with_reducible rfl)
            try simp only [Act.put]
            refine wpAnyH_take (i := 10) (v := ?v10c) rfl (by kernel_rfl) (by kernel_rfl) (by kernel_rfl) (fun _ _ _ h => h) (Or.inl ⟨by rfl, ?hy10c⟩) (by assumption) ?_
            case hy10c => (intro w hSw; (try dsimp only at hSw); go_simp; try with_reducible rfl)
            try simp only [Act.put]
            refine wpAnyH_take (i := 11) (v := ?v11c) rfl (by kernel_rfl) (by kernel_rfl) (by kernel_rfl) (fun _ _ _ h => h) (Or.inl ⟨by rfl, ?hy11c⟩) (by assumption) ?_
            case hy11c => (intro w hSw; (try dsimp only at hSw); go_simp; try with_reducible rfl)
            try simp only [Act.put]
            refine wpAnyH_take (i := 12) (v := ?v12c) rfl (by kernel_rfl) (by kernel_rfl) (by kernel_rfl) (fun _ _ _ h => h) (Or.inl ⟨by rfl, ?hy12c⟩) (by assumption) ?_
            case hy12c => (intro w hSw; (try dsimp only at hSw); go_simp; try with_reducible rfl)
            try simp only [Act.put]
            refine wpAnyH_take (i := 13) (v := ?v13c) rfl (by kernel_rfl) (by kernel_rfl) (by kernel_rfl) (fun _ _ _ h => h) (Or.inl ⟨by rfl, ?hy13c⟩) (by assumption) ?_
            case hy13c => (intro w hSw; (try dsimp only at hSw); go_simp; try with_reducible rfl)
            try simp only [Act.put]
            refine wpAnyH_ready (rs := [14]) (by kernel_rfl) (by simp) ?_
            refine AllReadyH.cons rfl (fun K hK => ?_) AllReadyH.nil
            go_simp
            go_at_call 90
            refine (HGA.out _ hq6).mono ?_
            rintro e w7 ⟨rfl, hb7⟩
            have hq7 : Below wr.heap.size wr w7 := hq6.trans (hb7.mono hq6.size)
            have y0 := (hq7.cell (p := ⟨w.heap.size, 0, none⟩) (by show w.heap.size < wr.heap.size; omega)).trans x0
            have y1 := (hq7.cell (p := ⟨w.heap.size, 1, none⟩) (by show w.heap.size < wr.heap.size; omega)).trans x1
            have y2 := (hq7.cell (p := ⟨gm, k, none⟩) (by show gm < wr.heap.size; omega)).trans hc
            go_wp2_with fail
            refine hK.out _ _ ?hS14c (fun hHeld => ?_)
            case hS14c => (try dsimp only); exact ⟨y0, y1, y2⟩
            clear hK K
            try simp only [Act.put, List.setIfInBounds_toArray, List.set_cons_zero, List.set_cons_succ]
            refine wpAnyH_take (i := 15) (v := ?v15c) rfl (by kernel_rfl) (by kernel_rfl) (by kernel_rfl) (fun _ _ _ h => h) (Or.inl ⟨by rfl, ?hy15c⟩) (by assumption) ?_
            case hy15c => (intro w hSw; (try dsimp only at hSw); go_simp; try with_reducible rfl)
            try simp only [Act.put, List.setIfInBounds_toArray]
            refine wpAnyH_done (by kernel_rfl) ?_ _
            have OQ := Lib.hid (owns_below HN.out hq7)
            have OL := Lib.hid (owns_below HO.out hq7)
            have B7 := Lib.hid (HB.out.trans (hq7.mono hbl))
            have s7 : wr.heap.size ≤ w7.heap.size := hq7.size
            go_wp2_with (at_builtin; refine wpList_append_lies _ rfl (.tmp 31) (.tmp 36) 24 rfl Wb.heap.size 9 i0 (.string ByteArray.empty) 1 16 Tryz.underlying24 hi hz0 hz1 hz2 rfl (by decide) _ _ _ rfl (OQ.out.alloc _) ⟨w7.heap.size, 0, none⟩ 1 1 [.string x] rfl rfl (cell_one_new w7 _ _) (one_cell x) (by decide) (by unfold maxLen; omega) (by omega) (by simp; omega) (w7.heap.size + 1) (by simp) ?_; intro gg cap2 w2 ho2 hg2 hat2 hlt2; have HAP := Lib.hid (appended2 B7.out OL.out OQ.out hgne hg2 hat2); have HO2 := Lib.hid ho2; clear ho2 hg2 hat2)
            obtain ⟨p1, p2, p3⟩ := HAP.out
            go_roundw
            case rel => exact ⟨k + 1, gg, cap2, by omega, by go_num, by rw [HN2.out]; simp, Lib.hid (fun b hb => by have := Option.some.inj hb; injection this with h1; omega), Lib.hid (by rw [HN2.out, List.length_append, List.map_append]; exact HO2.out), Lib.hid p2, Lib.hid p1⟩
            case measure => simp [intOf]; omega
      · obtain rfl : k = l.length := by omega
        have HN' := HN.out
        rw [List.take_length] at HN'
        rw [List.take_length]
        have HN2 := Lib.hid HN'
        have hst : (stepW ps l).length = (l.filter (goesOn ps l)).length := rfl
        have hle := stepW_length ps l
        have HM : Hid (∀ x ∈ l.filter (goesOn ps l), x.size = 2) := Lib.hid (fun x hx => H2.out x (List.mem_filter.1 hx).1)
        clear HN'
        by_cases he : (stepW ps l).length = l.length
        · have HP := Lib.hid (HF.out.trans (fixW_stop he n))
          have ge : (((l.filter (goesOn ps l)).length : Int) == (l.length : Int)) = true := by rw [beq_iff_eq]; omega
          generalize l.filter (goesOn ps l) = qs at *
          go_wp2
          go_ret
          rw [HP.out]
          exact ⟨_, rfl, HO.out.mono (by omega), BB.out.trans (HB.out.mono (by omega))⟩
        · have ge : (((l.filter (goesOn ps l)).length : Int) == (l.length : Int)) = false := beq_eq_false_iff_ne.2 (by omega)
          obtain ⟨m, rfl⟩ : ∃ m, n = m + 1 := ⟨n - 1, by omega⟩
          have HP := Lib.hid (HF.out.trans (fixW_go (n := m) he))
          have HD : Hid (stepW ps l = l.filter (goesOn ps l)) := Lib.hid rfl
          rw [HD.out] at HP
          generalize l.filter (goesOn ps l) = qs at *
          go_wp2
          go_roundw
          case rel => exact ⟨m, qs, some ⟨gv, 0, none⟩, cv, rfl, by omega, by omega, HP, HM, HN2, HB⟩
          case measure => simp [sliceLen]; omega
end Go.Proofs.YtalclebehbdliaaGreat
namespace Go.Proofs.YtalclebehbdliaaGreat
open Go Go.RowKit

/-- What a function of a shift and a string answers at copies of the shift. -/
def AtCopiesS (W : World) (f : Nat) (L : Int) (xs : List ByteArray) (s : ByteArray) (b : Bool) : Prop :=
  ∀ g c w', Below W.heap.size W w' → s.size ≤ 1048576 → xs.length ≤ 1048576 → total xs ≤ 1048576 → StrsAt w' g 0 xs → g < w'.heap.size → Calls Tryz.prog f #[.agg #[.int .i64 L, .slice (some ⟨g, 0, none⟩) xs.length c], .string s] w' (BoolPost b w')
end Go.Proofs.YtalclebehbdliaaGreat
namespace Go.Proofs.YtalclebehbdliaaGreat
open Go Go.RowKit

set_option maxRecDepth 100000 in
set_option maxHeartbeats 1600000 in
theorem spec_l3In (L : Int) (G : Option Addr) (c : Nat) (ps : List ByteArray) (hl : ps.length ≤ 1048576) (hz : ∀ k, k < ps.length → (ps.getD k ByteArray.empty).size ≤ 2147483648) (A : Option Addr) (cm : Nat) (M : List ByteArray) (hn : M.length ≤ 1000000) (h2 : ∀ x ∈ M, x.size = 2) (x : ByteArray) (hx : x.size ≤ 2147483648) (w : World) (hs : StrsG w G ps) (hm : RowAt w A M) :
    Calls Tryz.prog 53 #[.agg #[.int .i64 L, .slice G ps.length c], .slice A M.length cm, .string x] w (BoolPost (inM ps M x) w) := by
  have hb := (Below.refl w.heap.size w).alloc (Nat.le_refl _) (.cells #[.int .i64 L, .slice G ps.length c] 26)
  have HB := Lib.hid hb
  have HA := Lib.hid (spec_avoids G c ps x hl hz hx _ (hs.below hb))
  have HM := Lib.hid (hm.below hb)
  have HT := Lib.hid (fun y => spec_hasText A cm M y hn _ (hm.below hb))
  have H2 := Lib.hid h2
  clear hs hz hb hm h2
  go_enter Tryz.func53, Tryz.ntmps53
  by_cases h0 : M.length = 0
  · have g0 : ((M.length : Int) == 0) = true := by rw [beq_iff_eq]; omega
    have HR : Hid (inM ps M x = false) := Lib.hid (by unfold inM; rw [decide_eq_true h0]; rfl)
    go_wp2
    go_ret
    exact ⟨by rw [HR.out]; rfl, HB.out⟩
  · have g0 : ((M.length : Int) == 0) = false := beq_eq_false_iff_ne.2 (by omega)
    cases ha : avoids ps x with
    | false =>
      have HR : Hid (inM ps M x = false) := Lib.hid (by unfold inM; rw [ha, Bool.and_false, Bool.false_and])
      rw [ha] at HA
      clear ha
      go_wp2_with fail
      refine HA.out.mono ?_
      rintro e w1 ⟨rfl, rfl⟩
      go_wp2
      go_ret
      exact ⟨by rw [HR.out]; rfl, HB.out⟩
    | true =>
      have HD : Hid (inM ps M x = (if 2 ≤ x.size then Lib.containsS M (x.extract 0 2) && Lib.containsS M (x.extract (x.size - 2) x.size) else M.any fun q => Lib.contains q.data.toList x.data.toList)) := Lib.hid (by
        unfold inM; rw [ha, decide_eq_false h0]; rfl)
      rw [ha] at HA
      clear ha
      by_cases h2 : 2 ≤ x.size
      · have g2 : decide ((2 : Int) ≤ (x.size : Int)) = true := by rw [decide_eq_true_eq]; omega
        rw [if_pos h2] at HD
        have HT1 := Lib.hid (HT.out (x.extract 0 2))
        have HT2 := Lib.hid (HT.out (x.extract (x.size - 2) x.size))
        have e2 : ((x.size : Int) - 2).toNat = x.size - 2 := by omega
        cases hc : Lib.containsS M (x.extract 0 2) with
        | false =>
          rw [hc] at HT1 HD
          clear hc
          go_wp2_with fail
          refine HA.out.mono ?_
          rintro e w1 ⟨rfl, rfl⟩
          go_wp2_with fail
          refine HT1.out.mono ?_
          rintro e w2 ⟨rfl, rfl⟩
          go_wp2
          go_ret
          exact ⟨by rw [HD.out]; rfl, HB.out⟩
        | true =>
          rw [hc] at HT1 HD
          rw [Bool.true_and] at HD
          clear hc
          go_wp2_with fail
          refine HA.out.mono ?_
          rintro e w1 ⟨rfl, rfl⟩
          go_wp2_with fail
          refine HT1.out.mono ?_
          rintro e w2 ⟨rfl, rfl⟩
          go_wp2_with fail
          refine HT2.out.mono ?_
          rintro e w3 ⟨rfl, rfl⟩
          go_wp2
          go_ret
          exact ⟨by rw [HD.out]; rfl, HB.out⟩
      · have g2 : decide ((2 : Int) ≤ (x.size : Int)) = false := by rw [decide_eq_false_iff_not]; omega
        rw [if_neg h2] at HD
        go_wp2_with fail
        refine HA.out.mono ?_
        rintro e w1 ⟨rfl, rfl⟩
        go_wp2
        go_loop [7] (fun i => ∃ k : Nat, k ≤ M.length ∧ i = .int .i64 k ∧ Hid (∀ j, j < k → Lib.contains (M.getD j ByteArray.empty).data.toList x.data.toList = false)) (fun i => M.length - (intOf i).toNat)
        case atStart => exact ⟨0, Nat.zero_le _, rfl, Lib.hid (fun j h => by omega)⟩
        case round =>
          obtain ⟨k, hk, rfl, hto⟩ := hrel
          by_cases hlt : k < M.length
          · obtain ⟨gm, rfl, hst, hgm⟩ := HM.out (by omega)
            have hc := hst k hlt
            rw [Nat.zero_add] at hc
            have HO := Lib.hid (fun w' => spec_occurs (M.getD k ByteArray.empty) x (by rw [H2.out _ (getD_mem hlt)]; omega) hx w')
            clear hst
            cases he : occ (M.getD k ByteArray.empty) x with
            | true =>
              have HY := Lib.hid (any_yes (f := fun q : ByteArray => Lib.contains q.data.toList x.data.toList) hlt he)
              rw [he] at HO
              clear he
              generalize M.getD k ByteArray.empty = y at *
              go_wp2_with fail
              refine (HO.out _).mono ?_
              rintro e w2 ⟨rfl, rfl⟩
              go_wp2
              go_ret
              exact ⟨by rw [HD.out, HY.out]; rfl, HB.out⟩
            | false =>
              have HN : Hid (∀ j, j < k + 1 → Lib.contains (M.getD j ByteArray.empty).data.toList x.data.toList = false) := Lib.hid (fun j hj => by
                by_cases e : j = k
                · subst e; exact he
                · exact hto.out j (by omega))
              rw [he] at HO
              clear he
              generalize M.getD k ByteArray.empty = y at *
              go_wp2_with fail
              refine (HO.out _).mono ?_
              rintro e w2 ⟨rfl, rfl⟩
              go_wp2
              go_round
              case rel => exact ⟨k + 1, by omega, by go_num, HN⟩
              case measure => simp [intOf]; omega
          · have HY := Lib.hid (any_no (f := fun q : ByteArray => Lib.contains q.data.toList x.data.toList) (M := M) (fun j hj => hto.out j (by omega)))
            go_wp2
            go_ret
            exact ⟨by rw [HD.out, HY.out]; rfl, HB.out⟩
/-! ### InLanguage -/
def inLangS (L : Int) (ps : List ByteArray) (s : ByteArray) : Bool := (isShift L ps && isW L s) && inM ps (pairsW L.toNat ps) s
def emptyT (L : Int) (ps : List ByteArray) : Bool := isShift L ps && decide ((pairsW L.toNat ps).length = 0)
theorem pairsW_two {ps : List ByteArray} {k : Nat} (hk : k ≤ 3) : ∀ x ∈ pairsW k ps, x.size = 2 := by
  intro x hx
  obtain ⟨a, b, rfl, _, _⟩ := mem_pairsW' hk hx
  rfl
theorem pairsW_length {ps : List ByteArray} {k : Nat} (hk : k ≤ 3) : (pairsW k ps).length ≤ 9 := by
  have h1 := keepW_two ps hk
  have h2 : ∀ (n : Nat) (l : List ByteArray), (fixW ps n l).length ≤ l.length := by
    intro n
    induction n with
    | zero => intro l; exact Nat.le_refl _
    | succ n ih =>
      intro l
      unfold fixW
      split
      · exact Nat.le_refl _
      · exact Nat.le_trans (ih _) (stepW_length ps l)
  exact Nat.le_trans (h2 9 _) h1

set_option maxRecDepth 100000 in
set_option maxHeartbeats 6400000 in
theorem spec_inLanguage (L : Int) (G : Option Addr) (c : Nat) (ps : List ByteArray) (s : ByteArray) (hl : ps.length ≤ 1048576) (hz : ∀ k, k < ps.length → (ps.getD k ByteArray.empty).size ≤ 2147483648) (hs2 : s.size ≤ 2147483648) (w : World) (hs : StrsG w G ps) :
    Calls Tryz.prog 27 #[.agg #[.int .i64 L, .slice G ps.length c], .string s] w (BoolPost (inLangS L ps s) w) := by
  have HS := Lib.hid hs
  have HZ := Lib.hid hz
  have HW := Lib.hid (fun w' => spec_isWord L s (by omega) w')
  clear hs hz
  go_enter Tryz.func27, Tryz.ntmps27
  go_wp2_with fail
  obtain ⟨Wb, hWb⟩ : ∃ Wb, w.alloc (.cells #[.int .i64 L, .slice G ps.length c] 26) = Wb := ⟨_, rfl⟩
  have sb : Wb.heap.size = w.heap.size + 1 := by rw [← hWb]; simp
  have xb : BoxAt Wb w.heap.size L (.slice G ps.length c) := by rw [← hWb]; exact boxAt_new w L _ 26
  have bb : Below w.heap.size w Wb := by rw [← hWb]; exact (Below.refl _ _).alloc (Nat.le_refl _) _
  rw [hWb]
  clear hWb
  obtain ⟨x0, x1⟩ := xb
  have BB := Lib.hid bb
  have HST := Lib.hid (fun w' (h : Below Wb.heap.size Wb w') => (show StrsG w' G ps from (HS.out.below bb).below h))
  have HI := Lib.hid (fun w' (h : Below Wb.heap.size Wb w') => spec_isShift L G c ps hl (fun k hk => by have := HZ.out k hk; omega) w' (HST.out w' h))
  clear bb
  cases hi : isShift L ps with
  | false =>
    have HR : Hid (inLangS L ps s = false) := Lib.hid (by unfold inLangS; rw [hi]; rfl)
    rw [hi] at HI
    clear hi
    refine wp_region_held_drew (S := (fun w' => w'.cell? ⟨w.heap.size, 0, none⟩ = some (.int .i64 L) ∧ w'.cell? ⟨w.heap.size, 1, none⟩ = some (.slice G ps.length c))) (by kernel_rfl) ?hS0a (fun hHeld => ?_)
    case hS0a => exact ⟨x0, x1⟩
    refine wpAnyH_take (i := 0) (v := ?v0a) rfl (by kernel_rfl) (by kernel_rfl) (by kernel_rfl) (fun _ _ _ h => h) (Or.inl ⟨by rfl, ?hy0a⟩) (by assumption) ?_
    case hy0a => (intro w hSw; (try dsimp only at hSw); go_simp; try with_reducible rfl)
    try simp only [Act.put, List.setIfInBounds_toArray]
    refine wpAnyH_ready (rs := [1]) (by kernel_rfl) (by simp) ?_
    refine AllReadyH.cons rfl (fun K hK => ?_) AllReadyH.nil
    go_simp
    go_at_call 49
    refine (HI.out _ (Below.refl _ _).drew).mono ?_
    rintro e w2 ⟨rfl, hb2⟩
    have q2 : Below Wb.heap.size Wb w2 := (Below.refl Wb.heap.size Wb).drew.trans hb2
    have z0 := (q2.cell (p := ⟨w.heap.size, 0, none⟩) (by show w.heap.size < Wb.heap.size; omega)).trans x0
    have z1 := (q2.cell (p := ⟨w.heap.size, 1, none⟩) (by show w.heap.size < Wb.heap.size; omega)).trans x1
    go_wp2_with fail
    refine hK.out _ _ ?hS1a (fun hHeld => ?_)
    case hS1a => (try dsimp only); exact ⟨z0, z1⟩
    clear hK K
    try simp only [Act.put, List.setIfInBounds_toArray, List.set_cons_zero, List.set_cons_succ]
    refine wpAnyH_take (i := 2) (v := ?v2a) rfl (by kernel_rfl) (by kernel_rfl) (by kernel_rfl) (fun _ _ _ h => h) (Or.inl ⟨by rfl, ?hy2a⟩) (by assumption) ?_
    case hy2a => (intro w hSw; (try dsimp only at hSw); go_simp; try with_reducible rfl)
    try simp only [Act.put, List.setIfInBounds_toArray]
    refine wpAnyH_take (i := 3) (v := undef) rfl (by kernel_rfl) (by kernel_rfl) (by kernel_rfl) (fun _ _ _ h => h) (Or.inr ⟨by rfl, rfl⟩) (by assumption) ?_
    try simp only [Act.put]
    refine wpAnyH_take (i := 4) (v := undef) rfl (by kernel_rfl) (by kernel_rfl) (by kernel_rfl) (fun _ _ _ h => h) (Or.inr ⟨by rfl, rfl⟩) (by assumption) ?_
    try simp only [Act.put]
    refine wpAnyH_take (i := 5) (v := undef) rfl (by kernel_rfl) (by kernel_rfl) (by kernel_rfl) (fun _ _ _ h => h) (Or.inr ⟨by rfl, rfl⟩) (by assumption) ?_
    try simp only [Act.put]
    refine wpAnyH_ready (rs := [6]) (by kernel_rfl) (by simp) ?_
    refine AllReadyH.cons rfl (fun K hK => ?_) AllReadyH.nil
    go_simp
    refine hK.out _ _ ?hS6a (fun hHeld => ?_)
    case hS6a => (try dsimp only); exact ⟨z0, z1⟩
    clear hK K
    try simp only [Act.put, List.setIfInBounds_toArray, List.set_cons_zero, List.set_cons_succ]
    refine wpAnyH_take (i := 7) (v := ?v7a) rfl (by kernel_rfl) (by kernel_rfl) (by kernel_rfl) (fun _ _ _ h => h) (Or.inl ⟨by rfl, ?hy7a⟩) (by assumption) ?_
    case hy7a => (intro w hSw; (try dsimp only at hSw); go_simp; try with_reducible rfl)
    try simp only [Act.put, List.setIfInBounds_toArray]
    refine wpAnyH_take (i := 8) (v := ?v8a) rfl (by kernel_rfl) (by kernel_rfl) (by kernel_rfl) (fun _ _ _ h => h) (Or.inl ⟨by rfl, ?hy8a⟩) (by assumption) ?_
    case hy8a => (intro w hSw; (try dsimp only at hSw); go_simp; try with_reducible rfl)
    try simp only [Act.put]
    refine wpAnyH_take (i := 9) (v := undef) rfl (by kernel_rfl) (by kernel_rfl) (by kernel_rfl) (fun _ _ _ h => h) (Or.inr ⟨by rfl, rfl⟩) (by assumption) ?_
    try simp only [Act.put]
    refine wpAnyH_take (i := 10) (v := undef) rfl (by kernel_rfl) (by kernel_rfl) (by kernel_rfl) (fun _ _ _ h => h) (Or.inr ⟨by rfl, rfl⟩) (by assumption) ?_
    try simp only [Act.put]
    refine wpAnyH_take (i := 12) (v := undef) rfl (by kernel_rfl) (by kernel_rfl) (by kernel_rfl) (fun _ _ _ h => h) (Or.inr ⟨by rfl, rfl⟩) (by assumption) ?_
    try simp only [Act.put]
    refine wpAnyH_ready (rs := [11]) (by kernel_rfl) (by simp) ?_
    refine AllReadyH.cons rfl (fun K hK => ?_) AllReadyH.nil
    go_simp
    refine hK.out _ _ ?hS11a (fun hHeld => ?_)
    case hS11a => (try dsimp only); exact ⟨z0, z1⟩
    clear hK K
    try simp only [Act.put, List.setIfInBounds_toArray, List.set_cons_zero, List.set_cons_succ]
    refine wpAnyH_ready (rs := [13]) (by kernel_rfl) (by simp) ?_
    refine AllReadyH.cons rfl (fun K hK => ?_) AllReadyH.nil
    go_simp
    refine hK.out _ _ ?hS13a (fun hHeld => ?_)
    case hS13a => (try dsimp only); exact ⟨z0, z1⟩
    clear hK K
    try simp only [Act.put, List.setIfInBounds_toArray, List.set_cons_zero, List.set_cons_succ]
    refine wpAnyH_take (i := 14) (v := ?v14a) rfl (by kernel_rfl) (by kernel_rfl) (by kernel_rfl) (fun _ _ _ h => h) (Or.inl ⟨by rfl, ?hy14a⟩) (by assumption) ?_
    case hy14a => (intro w hSw; (try dsimp only at hSw); go_simp; try with_reducible rfl)
    try simp only [Act.put, List.setIfInBounds_toArray]
    refine wpAnyH_ready (rs := [15]) (by kernel_rfl) (by simp) ?_
    refine AllReadyH.cons rfl (fun K hK => ?_) AllReadyH.nil
    go_simp
    refine hK.out _ _ ?hS15a (fun hHeld => ?_)
    case hS15a => (try dsimp only); exact ⟨z0, z1⟩
    clear hK K
    try simp only [Act.put, List.setIfInBounds_toArray, List.set_cons_zero, List.set_cons_succ]
    refine wpAnyH_done (by kernel_rfl) ?_ _
    go_wp2
    go_ret
    exact ⟨by rw [HR.out]; rfl, BB.out.trans (q2.mono (by omega))⟩
  | true =>
    obtain ⟨l1, l3, _⟩ := isShift_letters hi
    rw [hi] at HI
    cases hw : isW L s with
    | false =>
      have HR : Hid (inLangS L ps s = false) := Lib.hid (by unfold inLangS; rw [hw, Bool.and_false]; rfl)
      rw [hw] at HW
      clear hi hw
      refine wp_region_held_drew (S := (fun w' => w'.cell? ⟨w.heap.size, 0, none⟩ = some (.int .i64 L) ∧ w'.cell? ⟨w.heap.size, 1, none⟩ = some (.slice G ps.length c))) (by kernel_rfl) ?hS0b (fun hHeld => ?_)
      case hS0b => exact ⟨x0, x1⟩
      refine wpAnyH_take (i := 0) (v := ?v0b) rfl (by kernel_rfl) (by kernel_rfl) (by kernel_rfl) (fun _ _ _ h => h) (Or.inl ⟨by rfl, ?hy0b⟩) (by assumption) ?_
      case hy0b => (intro w hSw; (try dsimp only at hSw); go_simp; try with_reducible rfl)
      try simp only [Act.put, List.setIfInBounds_toArray]
      refine wpAnyH_ready (rs := [1]) (by kernel_rfl) (by simp) ?_
      refine AllReadyH.cons rfl (fun K hK => ?_) AllReadyH.nil
      go_simp
      go_at_call 49
      refine (HI.out _ (Below.refl _ _).drew).mono ?_
      rintro e w2 ⟨rfl, hb2⟩
      have q2 : Below Wb.heap.size Wb w2 := (Below.refl Wb.heap.size Wb).drew.trans hb2
      have z0 := (q2.cell (p := ⟨w.heap.size, 0, none⟩) (by show w.heap.size < Wb.heap.size; omega)).trans x0
      have z1 := (q2.cell (p := ⟨w.heap.size, 1, none⟩) (by show w.heap.size < Wb.heap.size; omega)).trans x1
      go_wp2_with fail
      refine hK.out _ _ ?hS1b (fun hHeld => ?_)
      case hS1b => (try dsimp only); exact ⟨z0, z1⟩
      clear hK K
      try simp only [Act.put, List.setIfInBounds_toArray, List.set_cons_zero, List.set_cons_succ]
      refine wpAnyH_take (i := 2) (v := ?v2b) rfl (by kernel_rfl) (by kernel_rfl) (by kernel_rfl) (fun _ _ _ h => h) (Or.inl ⟨by rfl, ?hy2b⟩) (by assumption) ?_
      case hy2b => (intro w hSw; (try dsimp only at hSw); go_simp; try with_reducible rfl)
      try simp only [Act.put, List.setIfInBounds_toArray]
      refine wpAnyH_take (i := 3) (v := ?v3b) rfl (by kernel_rfl) (by kernel_rfl) (by kernel_rfl) (fun _ _ _ h => h) (Or.inl ⟨by rfl, ?hy3b⟩) (by assumption) ?_
      case hy3b => (intro w hSw; (try dsimp only at hSw); go_simp; try with_reducible rfl)
      try simp only [Act.put]
      refine wpAnyH_take (i := 4) (v := ?v4b) rfl (by kernel_rfl) (by kernel_rfl) (by kernel_rfl) (fun _ _ _ h => h) (Or.inl ⟨by rfl, ?hy4b⟩) (by assumption) ?_
      case hy4b => (intro w hSw; (try dsimp only at hSw); go_simp; try with_reducible rfl)
      try simp only [Act.put]
      refine wpAnyH_take (i := 5) (v := ?v5b) rfl (by kernel_rfl) (by kernel_rfl) (by kernel_rfl) (fun _ _ _ h => h) (Or.inl ⟨by rfl, ?hy5b⟩) (by assumption) ?_
      case hy5b => (intro w hSw; (try dsimp only at hSw); go_simp; try with_reducible rfl)
      try simp only [Act.put]
      refine wpAnyH_ready (rs := [6]) (by kernel_rfl) (by simp) ?_
      refine AllReadyH.cons rfl (fun K hK => ?_) AllReadyH.nil
      go_simp
      go_at_call 69
      refine (HW.out _).mono ?_
      rintro e w3 ⟨rfl, rfl⟩
      go_wp2_with fail
      refine hK.out _ _ ?hS6b (fun hHeld => ?_)
      case hS6b => (try dsimp only); exact ⟨z0, z1⟩
      clear hK K
      try simp only [Act.put, List.setIfInBounds_toArray, List.set_cons_zero, List.set_cons_succ]
      refine wpAnyH_take (i := 7) (v := ?v7b) rfl (by kernel_rfl) (by kernel_rfl) (by kernel_rfl) (fun _ _ _ h => h) (Or.inl ⟨by rfl, ?hy7b⟩) (by assumption) ?_
      case hy7b => (intro w hSw; (try dsimp only at hSw); go_simp; try with_reducible rfl)
      try simp only [Act.put, List.setIfInBounds_toArray]
      refine wpAnyH_take (i := 8) (v := ?v8b) rfl (by kernel_rfl) (by kernel_rfl) (by kernel_rfl) (fun _ _ _ h => h) (Or.inl ⟨by rfl, ?hy8b⟩) (by assumption) ?_
      case hy8b => (intro w hSw; (try dsimp only at hSw); go_simp; try with_reducible rfl)
      try simp only [Act.put]
      refine wpAnyH_take (i := 9) (v := undef) rfl (by kernel_rfl) (by kernel_rfl) (by kernel_rfl) (fun _ _ _ h => h) (Or.inr ⟨by rfl, rfl⟩) (by assumption) ?_
      try simp only [Act.put]
      refine wpAnyH_take (i := 10) (v := undef) rfl (by kernel_rfl) (by kernel_rfl) (by kernel_rfl) (fun _ _ _ h => h) (Or.inr ⟨by rfl, rfl⟩) (by assumption) ?_
      try simp only [Act.put]
      refine wpAnyH_take (i := 12) (v := undef) rfl (by kernel_rfl) (by kernel_rfl) (by kernel_rfl) (fun _ _ _ h => h) (Or.inr ⟨by rfl, rfl⟩) (by assumption) ?_
      try simp only [Act.put]
      refine wpAnyH_ready (rs := [11]) (by kernel_rfl) (by simp) ?_
      refine AllReadyH.cons rfl (fun K hK => ?_) AllReadyH.nil
      go_simp
      refine hK.out _ _ ?hS11b (fun hHeld => ?_)
      case hS11b => (try dsimp only); exact ⟨z0, z1⟩
      clear hK K
      try simp only [Act.put, List.setIfInBounds_toArray, List.set_cons_zero, List.set_cons_succ]
      refine wpAnyH_ready (rs := [13]) (by kernel_rfl) (by simp) ?_
      refine AllReadyH.cons rfl (fun K hK => ?_) AllReadyH.nil
      go_simp
      refine hK.out _ _ ?hS13b (fun hHeld => ?_)
      case hS13b => (try dsimp only); exact ⟨z0, z1⟩
      clear hK K
      try simp only [Act.put, List.setIfInBounds_toArray, List.set_cons_zero, List.set_cons_succ]
      refine wpAnyH_take (i := 14) (v := ?v14b) rfl (by kernel_rfl) (by kernel_rfl) (by kernel_rfl) (fun _ _ _ h => h) (Or.inl ⟨by rfl, ?hy14b⟩) (by assumption) ?_
      case hy14b => (intro w hSw; (try dsimp only at hSw); go_simp; try with_reducible rfl)
      try simp only [Act.put, List.setIfInBounds_toArray]
      refine wpAnyH_ready (rs := [15]) (by kernel_rfl) (by simp) ?_
      refine AllReadyH.cons rfl (fun K hK => ?_) AllReadyH.nil
      go_simp
      refine hK.out _ _ ?hS15b (fun hHeld => ?_)
      case hS15b => (try dsimp only); exact ⟨z0, z1⟩
      clear hK K
      try simp only [Act.put, List.setIfInBounds_toArray, List.set_cons_zero, List.set_cons_succ]
      refine wpAnyH_done (by kernel_rfl) ?_ _
      go_wp2
      go_ret
      exact ⟨by rw [HR.out]; rfl, BB.out.trans (q2.mono (by omega))⟩
    | true =>
      have HR : Hid (inLangS L ps s = inM ps (pairsW L.toNat ps) s) := Lib.hid (by unfold inLangS; rw [hi, hw]; rfl)
      rw [hw] at HW
      have eL : ((L.toNat : Nat) : Int) = L := by omega
      have HP := Lib.hid (fun w' (h : Below Wb.heap.size Wb w') => spec_pairs L.toNat G c ps (by omega) (by omega) hl HZ.out w' (HST.out w' h))
      rw [eL] at HP
      have HN := Lib.hid (fun A cap w' (h : Below Wb.heap.size Wb w') (hm : RowAt w' A (pairsW L.toNat ps)) => spec_l3In L G c ps hl HZ.out A cap (pairsW L.toNat ps) (by have := pairsW_length (ps := ps) (k := L.toNat) (by omega); omega) (pairsW_two (by omega)) s hs2 w' (HST.out w' h) hm)
      clear hi hw eL
      generalize pairsW L.toNat ps = M at *
      refine wp_region_held_drew (S := (fun w' => w'.cell? ⟨w.heap.size, 0, none⟩ = some (.int .i64 L) ∧ w'.cell? ⟨w.heap.size, 1, none⟩ = some (.slice G ps.length c))) (by kernel_rfl) ?hS0c (fun hHeld => ?_)
      case hS0c => exact ⟨x0, x1⟩
      refine wpAnyH_take (i := 0) (v := ?v0c) rfl (by kernel_rfl) (by kernel_rfl) (by kernel_rfl) (fun _ _ _ h => h) (Or.inl ⟨by rfl, ?hy0c⟩) (by assumption) ?_
      case hy0c => (intro w hSw; (try dsimp only at hSw); go_simp; try with_reducible rfl)
      try simp only [Act.put, List.setIfInBounds_toArray]
      refine wpAnyH_ready (rs := [1]) (by kernel_rfl) (by simp) ?_
      refine AllReadyH.cons rfl (fun K hK => ?_) AllReadyH.nil
      go_simp
      go_at_call 49
      refine (HI.out _ (Below.refl _ _).drew).mono ?_
      rintro e w2 ⟨rfl, hb2⟩
      have q2 : Below Wb.heap.size Wb w2 := (Below.refl Wb.heap.size Wb).drew.trans hb2
      have z0 := (q2.cell (p := ⟨w.heap.size, 0, none⟩) (by show w.heap.size < Wb.heap.size; omega)).trans x0
      have z1 := (q2.cell (p := ⟨w.heap.size, 1, none⟩) (by show w.heap.size < Wb.heap.size; omega)).trans x1
      go_wp2_with fail
      refine hK.out _ _ ?hS1c (fun hHeld => ?_)
      case hS1c => (try dsimp only); exact ⟨z0, z1⟩
      clear hK K
      try simp only [Act.put, List.setIfInBounds_toArray, List.set_cons_zero, List.set_cons_succ]
      refine wpAnyH_take (i := 2) (v := ?v2c) rfl (by kernel_rfl) (by kernel_rfl) (by kernel_rfl) (fun _ _ _ h => h) (Or.inl ⟨by rfl, ?hy2c⟩) (by assumption) ?_
      case hy2c => (intro w hSw; (try dsimp only at hSw); go_simp; try with_reducible rfl)
      try simp only [Act.put, List.setIfInBounds_toArray]
      refine wpAnyH_take (i := 3) (v := ?v3c) rfl (by kernel_rfl) (by kernel_rfl) (by kernel_rfl) (fun _ _ _ h => h) (Or.inl ⟨by rfl, ?hy3c⟩) (by assumption) ?_
      case hy3c => (intro w hSw; (try dsimp only at hSw); go_simp; try with_reducible rfl)
      try simp only [Act.put]
      refine wpAnyH_take (i := 4) (v := ?v4c) rfl (by kernel_rfl) (by kernel_rfl) (by kernel_rfl) (fun _ _ _ h => h) (Or.inl ⟨by rfl, ?hy4c⟩) (by assumption) ?_
      case hy4c => (intro w hSw; (try dsimp only at hSw); go_simp; try with_reducible rfl)
      try simp only [Act.put]
      refine wpAnyH_take (i := 5) (v := ?v5c) rfl (by kernel_rfl) (by kernel_rfl) (by kernel_rfl) (fun _ _ _ h => h) (Or.inl ⟨by rfl, ?hy5c⟩) (by assumption) ?_
      case hy5c => (intro w hSw; (try dsimp only at hSw); go_simp; try with_reducible rfl)
      try simp only [Act.put]
      refine wpAnyH_ready (rs := [6]) (by kernel_rfl) (by simp) ?_
      refine AllReadyH.cons rfl (fun K hK => ?_) AllReadyH.nil
      go_simp
      go_at_call 69
      refine (HW.out _).mono ?_
      rintro e w3 ⟨rfl, rfl⟩
      go_wp2_with fail
      refine hK.out _ _ ?hS6c (fun hHeld => ?_)
      case hS6c => (try dsimp only); exact ⟨z0, z1⟩
      clear hK K
      try simp only [Act.put, List.setIfInBounds_toArray, List.set_cons_zero, List.set_cons_succ]
      refine wpAnyH_take (i := 7) (v := ?v7c) rfl (by kernel_rfl) (by kernel_rfl) (by kernel_rfl) (fun _ _ _ h => h) (Or.inl ⟨by rfl, ?hy7c⟩) (by assumption) ?_
      case hy7c => (intro w hSw; (try dsimp only at hSw); go_simp; try with_reducible rfl)
      try simp only [Act.put, List.setIfInBounds_toArray]
      refine wpAnyH_take (i := 8) (v := ?v8c) rfl (by kernel_rfl) (by kernel_rfl) (by kernel_rfl) (fun _ _ _ h => h) (Or.inl ⟨by rfl, ?hy8c⟩) (by assumption) ?_
      case hy8c => (intro w hSw; (try dsimp only at hSw); go_simp; try with_reducible rfl)
      try simp only [Act.put]
      refine wpAnyH_take (i := 9) (v := ?v9c) rfl (by kernel_rfl) (by kernel_rfl) (by kernel_rfl) (fun _ _ _ h => h) (Or.inl ⟨by rfl, ?hy9c⟩) (by assumption) ?_
      case hy9c => (intro w hSw; (try dsimp only at hSw); go_simp; try with_reducible rfl)
      try simp only [Act.put]
      refine wpAnyH_take (i := 10) (v := ?v10c) rfl (by kernel_rfl) (by kernel_rfl) (by kernel_rfl) (fun _ _ _ h => h) (Or.inl ⟨by rfl, ?hy10c⟩) (by assumption) ?_
      case hy10c => (intro w hSw; (try dsimp only at hSw); go_simp; try with_reducible rfl)
      try simp only [Act.put]
      refine wpAnyH_take (i := 12) (v := ?v12c) rfl (by kernel_rfl) (by kernel_rfl) (by kernel_rfl) (fun _ _ _ h => h) (Or.inl ⟨by rfl, ?hy12c⟩) (by assumption) ?_
      case hy12c => (intro w hSw; (try dsimp only at hSw); go_simp; try with_reducible rfl)
      try simp only [Act.put]
      refine wpAnyH_ready (rs := [11]) (by kernel_rfl) (by simp) ?_
      refine AllReadyH.cons rfl (fun K hK => ?_) AllReadyH.nil
      go_simp
      go_at_call 51
      refine (HP.out _ q2).mono ?_
      intro e w4 hp4
      obtain ⟨A, cap, rfl, hr4, hb4⟩ := hp4.rowAt
      have q4 : Below Wb.heap.size Wb w4 := q2.trans (hb4.mono q2.size)
      clear hp4
      have y0 := (q4.cell (p := ⟨w.heap.size, 0, none⟩) (by show w.heap.size < Wb.heap.size; omega)).trans x0
      have y1 := (q4.cell (p := ⟨w.heap.size, 1, none⟩) (by show w.heap.size < Wb.heap.size; omega)).trans x1
      go_wp2_with fail
      refine hK.out _ _ ?hS11c (fun hHeld => ?_)
      case hS11c => (try dsimp only); exact ⟨y0, y1⟩
      clear hK K
      try simp only [Act.put, List.setIfInBounds_toArray, List.set_cons_zero, List.set_cons_succ]
      refine wpAnyH_ready (rs := [13]) (by kernel_rfl) (by simp) ?_
      refine AllReadyH.cons rfl (fun K hK => ?_) AllReadyH.nil
      go_simp
      go_at_call 53
      refine (HN.out A cap _ q4 hr4).mono ?_
      rintro e w5 ⟨rfl, hb5⟩
      have q5 : Below Wb.heap.size Wb w5 := q4.trans (hb5.mono q4.size)
      have u0 := (q5.cell (p := ⟨w.heap.size, 0, none⟩) (by show w.heap.size < Wb.heap.size; omega)).trans x0
      have u1 := (q5.cell (p := ⟨w.heap.size, 1, none⟩) (by show w.heap.size < Wb.heap.size; omega)).trans x1
      go_wp2_with fail
      refine hK.out _ _ ?hS13c (fun hHeld => ?_)
      case hS13c => (try dsimp only); exact ⟨u0, u1⟩
      clear hK K
      try simp only [Act.put, List.setIfInBounds_toArray, List.set_cons_zero, List.set_cons_succ]
      refine wpAnyH_take (i := 14) (v := ?v14c) rfl (by kernel_rfl) (by kernel_rfl) (by kernel_rfl) (fun _ _ _ h => h) (Or.inl ⟨by rfl, ?hy14c⟩) (by assumption) ?_
      case hy14c => (intro w hSw; (try dsimp only at hSw); go_simp; try with_reducible rfl)
      try simp only [Act.put, List.setIfInBounds_toArray]
      refine wpAnyH_ready (rs := [15]) (by kernel_rfl) (by simp) ?_
      refine AllReadyH.cons rfl (fun K hK => ?_) AllReadyH.nil
      go_simp
      refine hK.out _ _ ?hS15c (fun hHeld => ?_)
      case hS15c => (try dsimp only); exact ⟨u0, u1⟩
      clear hK K
      try simp only [Act.put, List.setIfInBounds_toArray, List.set_cons_zero, List.set_cons_succ]
      refine wpAnyH_done (by kernel_rfl) ?_ _
      go_wp2
      go_ret
      exact ⟨by rw [HR.out]; rfl, BB.out.trans (q5.mono (by omega))⟩
end Go.Proofs.YtalclebehbdliaaGreat
