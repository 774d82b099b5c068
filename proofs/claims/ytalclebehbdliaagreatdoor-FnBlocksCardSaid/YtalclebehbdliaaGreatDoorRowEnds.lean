/-
  The program's library functions slices.Min and slices.Max at rows of numbers, and IsMatrix, TraceOf, SumOf: at every table they answer what the plain words say, and change nothing.
-/
import Derived.Test.YtalclebehbdliaaGreatDoorBaseTexts
namespace Go.Proofs.YtalclebehbdliaaGreatDoor
open Go Go.RowKit

/-- v is the least | the greatest of the first k numbers. -/
def LeastI (xs : List Int) (k : Nat) (v : Int) : Prop := (∀ j, j < k → v ≤ xs.getD j 0) ∧ ∃ j, j < k ∧ xs.getD j 0 = v
def MostI (xs : List Int) (k : Nat) (v : Int) : Prop := (∀ j, j < k → xs.getD j 0 ≤ v) ∧ ∃ j, j < k ∧ xs.getD j 0 = v
theorem LeastI.one (xs : List Int) : LeastI xs 1 (xs.getD 0 0) := by
  refine ⟨fun j h => ?_, 0, by omega, rfl⟩
  obtain rfl : j = 0 := by omega
  exact Int.le_refl _
theorem MostI.one (xs : List Int) : MostI xs 1 (xs.getD 0 0) := by
  refine ⟨fun j h => ?_, 0, by omega, rfl⟩
  obtain rfl : j = 0 := by omega
  exact Int.le_refl _
theorem LeastI.next {xs : List Int} {k : Nat} {v : Int} (h : LeastI xs k v) : LeastI xs (k + 1) (min v (xs.getD k 0)) := by
  obtain ⟨h1, j, hj, hv⟩ := h
  refine ⟨fun i hi => ?_, ?_⟩
  · by_cases e : i = k
    · subst e; omega
    · have := h1 i (by omega); omega
  · by_cases e : xs.getD k 0 ≤ v
    · exact ⟨k, by omega, by omega⟩
    · exact ⟨j, by omega, by omega⟩
theorem MostI.next {xs : List Int} {k : Nat} {v : Int} (h : MostI xs k v) : MostI xs (k + 1) (max v (xs.getD k 0)) := by
  obtain ⟨h1, j, hj, hv⟩ := h
  refine ⟨fun i hi => ?_, ?_⟩
  · by_cases e : i = k
    · subst e; omega
    · have := h1 i (by omega); omega
  · by_cases e : v ≤ xs.getD k 0
    · exact ⟨k, by omega, by omega⟩
    · exact ⟨j, by omega, by omega⟩
theorem run_min_z (w : World) (ts : Array TypeId) (t : TypeId) (k k' : IntKind) (x y : Int) : (Builtin.min_ ts t #[.int k x, .int k' y]).run Tryz.prog w = .ok (.int k (min x y)) w := by
  have e : (if y < x then y else x) = min x y := by
    rw [Int.min_def]
    split <;> split <;> omega
  simp [Builtin.min_, Builtin.min2, e]
theorem run_max_z (w : World) (ts : Array TypeId) (t : TypeId) (k k' : IntKind) (x y : Int) : (Builtin.max_ ts t #[.int k x, .int k' y]).run Tryz.prog w = .ok (.int k (max x y)) w := by
  have e : (if y > x then y else x) = max x y := by
    rw [Int.max_def]
    split <;> split <;> omega
  simp [Builtin.max_, Builtin.max2, e]

set_option maxRecDepth 100000 in
set_option maxHeartbeats 800000 in
theorem min_row (A : Option Addr) (c : Nat) (xs : List Int) (h0 : 0 < xs.length) (hn : xs.length ≤ 1099511627776) (w : World) (hc : RowS w A xs) :
    Calls Tryz.prog 66 #[.slice A xs.length c] w fun e w' => ∃ v, e = .returned (.int .i64 v) ∧ LeastI xs xs.length v ∧ w' = w := by
  obtain ⟨b, off, rfl, hat, hb⟩ := hc h0
  have hmn := fun w ts t k k' x y => run_min_z w ts t k k' x y
  have h1 := hat 0 h0
  have HC := Lib.hid hat
  have H1 := Lib.hid (LeastI.one xs)
  clear hc hat
  rw [Nat.add_zero] at h1
  generalize xs.getD 0 0 = x0 at h1 H1
  go_enter Tryz.func66, Tryz.ntmps66
  go_wp2
  go_loopw [3, 4] (fun m i wr => ∃ (k : Nat) (v : Int), 0 < k ∧ k ≤ xs.length ∧ i = .int .i64 k ∧ m = .int .i64 v ∧ Hid (LeastI xs k v) ∧ wr = w) (fun _ i _ => xs.length - (intOf i).toNat)
  case atStart => exact ⟨1, _, Nat.one_pos, h0, rfl, rfl, H1, rfl⟩
  case round =>
    obtain ⟨k, v, hk0, hk, rfl, rfl, hl, rfl⟩ := hrel
    by_cases hlt : k < xs.length
    · have hc1 := HC.out k hlt
      have HN := Lib.hid hl.out.next
      clear h1 H1
      generalize xs.getD k 0 = y at *
      go_wp2
      go_roundw
      case rel => exact ⟨k + 1, _, by omega, by omega, by go_num, rfl, HN, trivial⟩
      case measure => simp [intOf]; omega
    · obtain rfl : k = xs.length := by omega
      clear h1 H1
      go_wp2
      go_ret
      exact ⟨v, rfl, hl.out, rfl⟩

set_option maxRecDepth 100000 in
set_option maxHeartbeats 800000 in
theorem max_row (A : Option Addr) (c : Nat) (xs : List Int) (h0 : 0 < xs.length) (hn : xs.length ≤ 1099511627776) (w : World) (hc : RowS w A xs) :
    Calls Tryz.prog 67 #[.slice A xs.length c] w fun e w' => ∃ v, e = .returned (.int .i64 v) ∧ MostI xs xs.length v ∧ w' = w := by
  obtain ⟨b, off, rfl, hat, hb⟩ := hc h0
  have hmn := fun w ts t k k' x y => run_max_z w ts t k k' x y
  have h1 := hat 0 h0
  have HC := Lib.hid hat
  have H1 := Lib.hid (MostI.one xs)
  clear hc hat
  rw [Nat.add_zero] at h1
  generalize xs.getD 0 0 = x0 at h1 H1
  go_enter Tryz.func67, Tryz.ntmps67
  go_wp2
  go_loopw [3, 4] (fun m i wr => ∃ (k : Nat) (v : Int), 0 < k ∧ k ≤ xs.length ∧ i = .int .i64 k ∧ m = .int .i64 v ∧ Hid (MostI xs k v) ∧ wr = w) (fun _ i _ => xs.length - (intOf i).toNat)
  case atStart => exact ⟨1, _, Nat.one_pos, h0, rfl, rfl, H1, rfl⟩
  case round =>
    obtain ⟨k, v, hk0, hk, rfl, rfl, hl, rfl⟩ := hrel
    by_cases hlt : k < xs.length
    · have hc1 := HC.out k hlt
      have HN := Lib.hid hl.out.next
      clear h1 H1
      generalize xs.getD k 0 = y at *
      go_wp2
      go_roundw
      case rel => exact ⟨k + 1, _, by omega, by omega, by go_num, rfl, HN, trivial⟩
      case measure => simp [intOf]; omega
    · obtain rfl : k = xs.length := by omega
      clear h1 H1
      go_wp2
      go_ret
      exact ⟨v, rfl, hl.out, rfl⟩

theorem least_bad {n : Nat} {xs : List Int} {v : Int} (h : LeastI xs xs.length v) (hv : v < 0) : rowOk n xs = false := by
  obtain ⟨j, hj, e⟩ := h.2
  exact rowOk_bad hj (by rw [e, decide_eq_false (by omega)]; rfl)
theorem most_bad {n : Nat} {xs : List Int} {v : Int} (h : MostI xs xs.length v) (hv : 1000000 < v) : rowOk n xs = false := by
  obtain ⟨j, hj, e⟩ := h.2
  exact rowOk_bad hj (by rw [e, decide_eq_false (show ¬ v ≤ 1000000 by omega), Bool.and_false])
theorem ends_ok {n : Nat} {xs : List Int} {u v : Int} (hl : xs.length = n) (h : LeastI xs xs.length u) (k : MostI xs xs.length v) (hu : ¬ u < 0) (hv : ¬ 1000000 < v) : rowOk n xs = true :=
  rowOk_iff.2 ⟨hl, fun j hj => ⟨by have := h.1 j hj; omega, by have := k.1 j hj; omega⟩⟩

set_option maxRecDepth 100000 in
set_option maxHeartbeats 1600000 in
theorem impl_isMatrix (A : Option Addr) (c : Nat) (m : List (List Int)) (hn : m.length ≤ 1099511627776) (ht : ∀ k, k < m.length → (m.getD k []).length ≤ 1099511627776) (w : World) (hg : GridS w A m) :
    Calls Tryz.prog 39 #[.slice A m.length c] w fun e w' => e = .returned (.bool (isMat m)) ∧ w' = w := by
  by_cases h0 : m.length = 0
  · have e0 : ((m.length : Int) == 0) = true := by rw [h0]; rfl
    have hr : isMat m = false := by
      unfold isMat
      rw [decide_eq_false (show ¬ (1 ≤ m.length ∧ m.length ≤ 9) by omega), Bool.and_false]
    rw [hr]
    clear hg ht hr h0
    go_enter Tryz.func39, Tryz.ntmps39
    go_wp2
    go_ret
    exact ⟨rfl, rfl⟩
  have e0 : ((m.length : Int) == 0) = false := by
    rw [beq_eq_false_iff_ne]; omega
  by_cases h9 : 9 < m.length
  · have e9 : (9 : Int) < (m.length : Int) := by omega
    have hr : isMat m = false := by
      unfold isMat
      rw [decide_eq_false (show ¬ (1 ≤ m.length ∧ m.length ≤ 9) by omega), Bool.and_false]
    rw [hr]
    clear hg ht hr h0
    go_enter Tryz.func39, Tryz.ntmps39
    go_wp2
    go_ret
    exact ⟨rfl, rfl⟩
  have e9 : ¬ (9 : Int) < (m.length : Int) := by omega
  have HG := Lib.hid hg
  have HT := Lib.hid ht
  have HE : Hid ((∀ j, j < m.length → rowOk m.length (m.getD j []) = true) → isMat m = true) := Lib.hid fun h => by
    rw [isMat_rows h, decide_eq_true (by omega), decide_eq_true (by omega)]; rfl
  clear hg ht
  go_enter Tryz.func39, Tryz.ntmps39
  go_wp2
  go_loop [15] (fun i => ∃ k : Nat, k ≤ m.length ∧ i = .int .i64 k ∧ Hid (∀ j, j < k → rowOk m.length (m.getD j []) = true)) (fun i => m.length - (intOf i).toNat)
  case atStart => exact ⟨0, Nat.zero_le _, rfl, Lib.hid (fun j h => by omega)⟩
  case round =>
    obtain ⟨k, hk, rfl, hto⟩ := hrel
    by_cases hlt : k < m.length
    · obtain ⟨b, off, A', c', rfl, hc, hrow, hb⟩ := HG.out.row hlt
      have hxl := HT.out k hlt
      by_cases hlen : (m.getD k []).length = m.length
      · have HNX : Hid (rowOk m.length (m.getD k []) = true → ∀ j, j < k + 1 → rowOk m.length (m.getD j []) = true) := Lib.hid (fun h j hj => by
          by_cases e : j = k
          · subst e; exact h
          · exact hto.out j (by omega))
        have HNO : Hid (rowOk m.length (m.getD k []) = false → isMat m = false) := Lib.hid (isMat_not hlt)
        have HMI := Lib.hid (min_row A' c' (m.getD k []) (by omega) hxl)
        have HMA := Lib.hid (max_row A' c' (m.getD k []) (by omega) hxl)
        have HR := Lib.hid hrow
        have HLN := Lib.hid hlen
        rw [hlen] at hc HMI HMA
        clear hrow hxl hlen hto
        generalize m.getD k [] = x at *
        go_wp2_with fail
        refine (HMI.out _ HR.out).mono ?_
        rintro e w1 ⟨u, rfl, hu, rfl⟩
        have HU := Lib.hid hu
        clear hu
        by_cases hu0 : u < 0
        · have HF := Lib.hid (HNO.out (least_bad (by rw [HLN.out]; exact HU.out) hu0))
          go_wp2
          go_ret
          exact ⟨by rw [HF.out]; rfl, rfl⟩
        · go_wp2_with fail
          refine (HMA.out _ HR.out).mono ?_
          rintro e w2 ⟨v, rfl, hv, rfl⟩
          have HV := Lib.hid hv
          clear hv
          by_cases hv1 : 1000000 < v
          · have HF := Lib.hid (HNO.out (most_bad (by rw [HLN.out]; exact HV.out) hv1))
            go_wp2
            go_ret
            exact ⟨by rw [HF.out]; rfl, rfl⟩
          · have HN := Lib.hid (HNX.out (ends_ok (u := u) (v := v) HLN.out (by rw [HLN.out]; exact HU.out) (by rw [HLN.out]; exact HV.out) (by omega) (by omega)))
            go_wp2
            go_round
            case rel => exact ⟨k + 1, by omega, by go_num, HN⟩
            case measure => simp [intOf]; omega
      · have HNO := Lib.hid (isMat_not hlt (rowOk_short hlen))
        have hne : (((m.getD k []).length : Int) == (m.length : Int)) = false := by
          rw [beq_eq_false_iff_ne]; omega
        have hne2 : (((m.getD k []).length : Int) != (m.length : Int)) = true := by
          rw [bne, hne]; rfl
        clear hrow
        generalize m.getD k [] = x at *
        go_wp2
        go_ret
        exact ⟨by rw [HNO.out]; rfl, rfl⟩
    · obtain rfl : k = m.length := by omega
      have HR := Lib.hid (HE.out hto.out)
      clear hto
      go_wp2
      go_ret
      exact ⟨by rw [HR.out]; rfl, rfl⟩
end Go.Proofs.YtalclebehbdliaaGreatDoor
