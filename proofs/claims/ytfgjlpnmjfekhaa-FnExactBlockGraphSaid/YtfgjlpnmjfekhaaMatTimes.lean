/-
  The model's products: what the plain words say, in new memory; nothing that was there before is changed.
-/
import Derived.Test.YtfgjlpnmjfekhaaMatZero
import Derived.Test.YtfgjlpnmjfekhaaMatSpec
namespace Go.Proofs.Ytfgjlpnmjfekhaa
open Go Go.RowKit

/-- The product's number at i and j, of its first t terms. -/
def termsM (a b : List (List Int)) (i j t : Nat) : Int := sumTo t fun k => cellOf a i k * cellOf b k j
/-- A product that is being made: all numbers ahead of i and j, and t terms there. -/
def timesF (a b : List (List Int)) (i j t : Nat) : Nat → Nat → Int := fun i' j' => if i' < i ∨ (i' = i ∧ j' < j) then termsM a b i' j' b.length else if i' = i ∧ j' = j then termsM a b i j t else 0
theorem timesF_zero (a b : List (List Int)) (n m : Nat) : tabOf n m (timesF a b 0 0 0) = tabOf n m fun _ _ => 0 := tabOf_congr fun i j _ _ => by
  unfold timesF termsM
  rw [if_neg (by omega)]
  split <;> rfl
theorem timesF_cell (a b : List (List Int)) (n m i j t : Nat) (hi : i < n) (hj : j < m) : cellOf (tabOf n m (timesF a b i j t)) i j = termsM a b i j t := by
  rw [tabOf_cell hi hj]
  unfold timesF
  rw [if_neg (by omega), if_pos ⟨rfl, rfl⟩]
theorem timesF_term (a b : List (List Int)) (n m i j t : Nat) (hi : i < n) : (tabOf n m (timesF a b i j t)).set i (((tabOf n m (timesF a b i j t)).getD i []).set j (termsM a b i j t + cellOf a i t * cellOf b t j)) = tabOf n m (timesF a b i j (t + 1)) := by
  rw [tabOf_set _ _ hi]
  refine tabOf_congr fun i' j' _ _ => ?_
  by_cases e : i' = i ∧ j' = j
  · obtain ⟨rfl, rfl⟩ := e
    rw [if_pos ⟨rfl, rfl⟩]
    unfold timesF
    rw [if_neg (by omega), if_pos ⟨rfl, rfl⟩]; rfl
  · rw [if_neg e]
    unfold timesF
    rw [if_neg e, if_neg e]
theorem timesF_next (a b : List (List Int)) (n m i j : Nat) : tabOf n m (timesF a b i j b.length) = tabOf n m (timesF a b i (j + 1) 0) := tabOf_congr fun i' j' _ _ => by
  unfold timesF
  by_cases h1 : i' < i ∨ (i' = i ∧ j' < j)
  · rw [if_pos h1, if_pos (by omega)]
  · rw [if_neg h1]
    by_cases h2 : i' = i ∧ j' = j
    · obtain ⟨rfl, rfl⟩ := h2
      rw [if_pos ⟨rfl, rfl⟩, if_pos (by omega)]
    · rw [if_neg h2, if_neg (by omega)]
      split <;> rfl
theorem timesF_row (a b : List (List Int)) (n m i : Nat) : tabOf n m (timesF a b i m 0) = tabOf n m (timesF a b (i + 1) 0 0) := tabOf_congr fun i' j' _ hj => by
  unfold timesF
  by_cases h1 : i' < i ∨ (i' = i ∧ j' < m)
  · rw [if_pos h1, if_pos (by omega)]
  · rw [if_neg h1, if_neg (by omega), if_neg (by omega)]
    split <;> rfl
theorem timesF_all (a b : List (List Int)) : tabOf a.length b.length (timesF a b a.length 0 0) = mulM a b := tabOf_congr fun i' j' hi _ => by
  unfold timesF termsM
  rw [if_pos (Or.inl hi)]
theorem termsM_le {a b : List (List Int)} (ha : MatFacts a) (hb : MatFacts b) (hab : a.length = b.length) {i j t : Nat} (hi : i < a.length) (hj : j < b.length) (ht : t ≤ b.length) : 0 ≤ termsM a b i j t ∧ termsM a b i j t ≤ t * 1000000000000 :=
  sumTo_le t fun k hk => by
    obtain ⟨x1, x2⟩ := ha.cell i k hi (by omega)
    obtain ⟨y1, y2⟩ := hb.cell k j (by omega) hj
    refine ⟨Int.mul_nonneg x1 y1, ?_⟩
    calc cellOf a i k * cellOf b k j ≤ 1000000 * cellOf b k j := Int.mul_le_mul_of_nonneg_right x2 y1
      _ ≤ 1000000 * 1000000 := Int.mul_le_mul_of_nonneg_left y2 (by decide)
theorem prod_le {x y : Int} (hx : 0 ≤ x ∧ x ≤ 1000000) (hy : 0 ≤ y ∧ y ≤ 1000000) : 0 ≤ x * y ∧ x * y ≤ 1000000000000 := by
  refine ⟨Int.mul_nonneg hx.1 hy.1, ?_⟩
  calc x * y ≤ 1000000 * y := Int.mul_le_mul_of_nonneg_right hx.2 hy.1
    _ ≤ 1000000 * 1000000 := Int.mul_le_mul_of_nonneg_left hy.2 (by decide)

set_option maxRecDepth 100000 in
set_option maxHeartbeats 3200000 in
theorem spec_times (A1 A2 : Option Addr) (c1 c2 : Nat) (a b : List (List Int)) (ha : MatFacts a) (hb : MatFacts b) (hab : a.length = b.length) (w : World) (h1 : GridS w A1 a) (h2 : GridS w A2 b) :
    Calls Try.prog 58 #[.slice A1 a.length c1, .slice A2 b.length c2, .int .i64 (b.length : Int)] w (NewG (mulM a b) w) := by
  have H1 := Lib.hid h1
  have H2 := Lib.hid h2
  have HA := Lib.hid ha
  have HBF := Lib.hid hb
  have HZ := Lib.hid (spec_zero a.length b.length (by have := ha.le; omega) (by have := hb.le; omega) w)
  have HL := Lib.hid hab
  have l1 := ha.le
  have l2 := hb.le
  clear h1 h2 ha hb hab
  go_enter Try.func58, Try.ntmps58
  go_wp2_with fail
  refine HZ.out.mono ?_
  rintro e w1 ⟨v, rfl, hown, b1⟩
  obtain ⟨A, c, rfl, -⟩ := hown.gridS
  rw [← timesF_zero a b] at hown
  rw [tabOf_length] at hown ⊢
  have HO := Lib.hid hown
  have HB1 := Lib.hid b1
  clear hown b1
  go_wp2
  go_loopw [8] (fun i wr => ∃ k : Nat, k ≤ a.length ∧ i = .int .i64 k ∧ OwnG wr w.heap.size (.slice A a.length c) (tabOf a.length b.length (timesF a b k 0 0)) ∧ Below w.heap.size w wr) (fun i _ => a.length - (intOf i).toNat)
  case atStart => exact ⟨0, Nat.zero_le _, rfl, HO.out, HB1.out⟩
  case round =>
    obtain ⟨i, hi, rfl, hown, hbl⟩ := hrel
    by_cases hil : i < a.length
    · have HO1 := Lib.hid hown
      have HB2 := Lib.hid hbl
      clear hown hbl
      go_wp2
      go_loopw [9] (fun jv w2 => ∃ j : Nat, j ≤ b.length ∧ jv = .int .i64 j ∧ OwnG w2 w.heap.size (.slice A a.length c) (tabOf a.length b.length (timesF a b i j 0)) ∧ Below w.heap.size w w2) (fun j _ => b.length - (intOf j).toNat)
      case atStart => exact ⟨0, Nat.zero_le _, rfl, HO1.out, HB2.out⟩
      case round =>
        obtain ⟨j, hj, rfl, hown, hbl⟩ := hrel
        by_cases hjl : j < b.length
        · have HO2 := Lib.hid hown
          have HB3 := Lib.hid hbl
          clear hown hbl
          go_wp2
          go_loopw [10] (fun tv w3 => ∃ t : Nat, t ≤ b.length ∧ tv = .int .i64 t ∧ OwnG w3 w.heap.size (.slice A a.length c) (tabOf a.length b.length (timesF a b i j t)) ∧ Below w.heap.size w w3) (fun t _ => b.length - (intOf t).toNat)
          case atStart => exact ⟨0, Nat.zero_le _, rfl, HO2.out, HB3.out⟩
          case round =>
            obtain ⟨t, ht, rfl, hown, hbl⟩ := hrel
            by_cases htl : t < b.length
            · have hrl : ((tabOf a.length b.length (timesF a b i j t)).getD i []).length = b.length := by rw [tabOf_row hil]; simp
              obtain ⟨g, cap, gi, ci, hv, k1, k2, kf, kb, kl, hset⟩ := hown.at (i := i) (j := j) (by rw [tabOf_length]; exact hil) (by rw [hrl]; exact hjl)
              rw [tabOf_length] at hv
              simp only [Value.slice.injEq, true_and] at hv
              obtain ⟨rfl, rfl⟩ := hv
              rw [hrl] at k1
              rw [timesF_cell a b _ _ i j t hil hjl] at k2
              obtain ⟨p1, p2, p3, p4, p5, rfl, ka1, ka2, _, _⟩ := (H1.out.below hbl).num hil (j := t) (by rw [HA.out.row i hil]; have := HL.out; omega)
              obtain ⟨q1, q2, q3, q4, q5, rfl, kb1, kb2, _, _⟩ := (H2.out.below hbl).num htl (j := j) (by rw [HBF.out.row t htl]; exact hjl)
              rw [HA.out.row i hil] at ka1
              rw [HBF.out.row t htl] at kb1
              have hs1 := hset (termsM a b i j t + cellOf a i t * cellOf b t j)
              rw [timesF_term a b _ _ i j t hil] at hs1
              have HS := Lib.hid hs1
              have hT := termsM_le HA.out HBF.out HL.out hil hjl (Nat.le_of_lt htl)
              have hxy := prod_le (HA.out.cell i t hil (by have := HL.out; omega)) (HBF.out.cell t j htl hjl)
              have HB4 := Lib.hid hbl
              have hta : t < a.length := by have := HL.out; omega
              clear hset hs1 hown hbl
              generalize termsM a b i j t = T at *
              generalize cellOf a i t = x at *
              generalize cellOf b t j = y at *
              have hT2 : T ≤ 9000000000000 := by omega
              go_wp2
              go_region
              go_wp2
              go_roundw
              case rel => exact ⟨t + 1, by omega, by go_num, HS.out.drew, (HB4.out.setCell kb _).drew⟩
              case measure => simp [intOf]; omega
            · obtain rfl : t = b.length := by omega
              rw [timesF_next] at hown
              have HO3 := Lib.hid hown
              clear hown
              go_wp2
              go_roundw
              case rel => exact ⟨j + 1, by omega, by go_num, HO3.out, hbl⟩
              case measure => simp [intOf]; omega
        · obtain rfl : j = b.length := by omega
          rw [timesF_row] at hown
          have HO3 := Lib.hid hown
          clear hown
          go_wp2
          go_roundw
          case rel => exact ⟨i + 1, by omega, by go_num, HO3.out, hbl⟩
          case measure => simp [intOf]; omega
    · obtain rfl : i = a.length := by omega
      rw [timesF_all] at hown
      have HO3 := Lib.hid hown
      clear hown
      go_wp2
      go_ret
      exact ⟨_, rfl, HO3.out, hbl⟩

/-- A table and whether there is one. -/
def NewGB (o : Option (List (List Int))) (w : World) (e : Ending) (w' : World) : Prop := ∃ v, e = .returned (.tuple #[v, .bool o.isSome]) ∧ OwnG w' w.heap.size v (o.getD []) ∧ Below w.heap.size w w'
theorem ownG_empty (w : World) : OwnG (w.alloc (.cells #[] 33)) w.heap.size (.slice (some ⟨w.heap.size, 0, none⟩) 0 0) [] := by
  have h := World.ownsRow_made (base := w.heap.size) (e := 33) (size := 1) w #[] 0 (Nat.le_refl _) (by unfold maxLen; omega) rfl
  exact ⟨[], h, RowsOwn.nil _ _ _⟩
theorem below_new {w : World} {o : Obj} : Below w.heap.size w (w.alloc o) := (Below.refl _ _).alloc (Nat.le_refl _) _
theorem prodM_none {a b : List (List Int)} (h : isMat a = false ∨ isMat b = false ∨ ¬ a.length = b.length) : prodM a b = none := by
  unfold prodM
  rw [if_neg]
  intro hc
  rw [Bool.and_eq_true, Bool.and_eq_true, Bool.and_eq_true, decide_eq_true_iff] at hc
  obtain ⟨⟨⟨h1, h2⟩, h3⟩, _⟩ := hc
  rcases h with h | h | h
  · rw [h] at h1; cases h1
  · rw [h] at h2; cases h2
  · exact h h3
theorem prodM_if {a b : List (List Int)} (h1 : isMat a = true) (h2 : isMat b = true) (h3 : a.length = b.length) : prodM a b = if isMat (mulM a b) = true then some (mulM a b) else none := by
  unfold prodM
  rw [h1, h2, decide_eq_true h3, Bool.true_and, Bool.true_and, Bool.true_and]
theorem mulM_length (a b : List (List Int)) : (mulM a b).length = a.length := tabOf_length _ _ _
theorem mulM_row {a b : List (List Int)} {k : Nat} (hk : k < (mulM a b).length) : ((mulM a b).getD k []).length = b.length := by
  rw [mulM_length] at hk
  unfold mulM
  rw [tabOf_row hk]; simp

set_option maxRecDepth 100000 in
set_option maxHeartbeats 1600000 in
theorem spec_multiply (A1 A2 : Option Addr) (c1 c2 : Nat) (a b : List (List Int)) (ha : a.length ≤ 1048576) (hb : b.length ≤ 1048576) (ta : tot a ≤ 1048576) (tb : tot b ≤ 1048576) (w : World) (h1 : GridS w A1 a) (h2 : GridS w A2 b) :
    Calls Try.prog 47 #[.slice A1 a.length c1, .slice A2 b.length c2] w (NewGB (prodM a b) w) := by
  have I1 := Lib.hid (fun w' (hb : Below w.heap.size w w') => spec_isMatrix A1 c1 a (by omega) (fun k hk => by have := row_le_tot hk; omega) w' (h1.below hb))
  have I2 := Lib.hid (fun w' (hb : Below w.heap.size w w') => spec_isMatrix A2 c2 b (by omega) (fun k hk => by have := row_le_tot hk; omega) w' (h2.below hb))
  have HE := Lib.hid (ownG_empty w)
  cases ma : isMat a with
  | false =>
    rw [ma] at I1
    rw [prodM_none (Or.inl ma)]
    clear h1 h2 I2
    go_enter Try.func47, Try.ntmps47
    go_wp2_with fail
    refine (I1.out w (Below.refl _ _)).mono ?_
    rintro e w1 ⟨rfl, rfl⟩
    go_wp2
    go_ret2
    exact ⟨_, rfl, HE.out, below_new⟩
  | true =>
    rw [ma] at I1
    cases mb : isMat b with
    | false =>
      rw [mb] at I2
      rw [prodM_none (Or.inr (Or.inl mb))]
      clear h1 h2
      go_enter Try.func47, Try.ntmps47
      go_wp2_with fail
      refine (I1.out w (Below.refl _ _)).mono ?_
      rintro e w1 ⟨rfl, rfl⟩
      go_wp2_with fail
      refine (I2.out w1 (Below.refl _ _)).mono ?_
      rintro e w2 ⟨rfl, rfl⟩
      go_wp2
      go_ret2
      exact ⟨_, rfl, HE.out, below_new⟩
    | true =>
      rw [mb] at I2
      by_cases hab : a.length = b.length
      · rw [prodM_if ma mb hab]
        have fa := isMat_facts ma
        have fb := isMat_facts mb
        have HT := Lib.hid (spec_times A1 A2 c1 c2 a b fa fb hab w h1 h2)
        have l1 := fa.le
        have HI3 : Hid (∀ A c w', GridS w' A (mulM a b) → Calls Try.prog 36 #[.slice A (mulM a b).length c] w' fun e w2 => e = .returned (.bool (isMat (mulM a b))) ∧ w2 = w') := Lib.hid fun A c w' hg => spec_isMatrix A c (mulM a b) (by rw [mulM_length]; omega) (fun k hk => by rw [mulM_row hk]; omega) w' hg
        have HR1 : Hid (isMat (mulM a b) = true → (if isMat (mulM a b) = true then some (mulM a b) else none) = some (mulM a b)) := Lib.hid fun h => if_pos h
        have HR2 : Hid (isMat (mulM a b) = false → (if isMat (mulM a b) = true then some (mulM a b) else none) = none) := Lib.hid fun h => if_neg (by rw [h]; decide)
        generalize (if isMat (mulM a b) = true then some (mulM a b) else none) = r at *
        rw [← hab] at I2 HT ⊢
        clear h1 h2 fa fb ma mb hab
        generalize mulM a b = p at *
        go_enter Try.func47, Try.ntmps47
        go_wp2_with fail
        refine (I1.out w (Below.refl _ _)).mono ?_
        rintro e w1 ⟨rfl, rfl⟩
        go_wp2_with fail
        refine (I2.out w1 (Below.refl _ _)).mono ?_
        rintro e w2 ⟨rfl, rfl⟩
        go_wp2_with fail
        refine HT.out.mono ?_
        rintro e w3 ⟨v, rfl, ho3, b3⟩
        obtain ⟨A, c, rfl, hg3⟩ := ho3.gridS
        have HO3 := Lib.hid ho3
        have HC := Lib.hid (HI3.out A c w3 hg3)
        have HE3 := Lib.hid (ownG_empty w3)
        have hs3 := b3.size
        clear ho3 hg3
        go_wp2_with fail
        refine HC.out.mono ?_
        rintro e w4 ⟨rfl, rfl⟩
        cases hp : isMat p with
        | true =>
          have hr := HR1.out hp
          subst hr
          clear HR1 HR2
          go_wp2
          go_ret2
          exact ⟨_, rfl, HO3.out, b3⟩
        | false =>
          have hr := HR2.out hp
          subst hr
          clear HR1 HR2
          go_wp2
          go_ret2
          exact ⟨_, rfl, HE3.out.mono hs3, b3.alloc hs3 _⟩
      · rw [prodM_none (Or.inr (Or.inr hab))]
        have hne : ¬ (a.length : Int) = (b.length : Int) := by omega
        clear h1 h2
        go_enter Try.func47, Try.ntmps47
        go_wp2_with fail
        refine (I1.out w (Below.refl _ _)).mono ?_
        rintro e w1 ⟨rfl, rfl⟩
        go_wp2_with fail
        refine (I2.out w1 (Below.refl _ _)).mono ?_
        rintro e w2 ⟨rfl, rfl⟩
        go_wp2
        go_ret2
        exact ⟨_, rfl, HE.out, below_new⟩
end Go.Proofs.Ytfgjlpnmjfekhaa
