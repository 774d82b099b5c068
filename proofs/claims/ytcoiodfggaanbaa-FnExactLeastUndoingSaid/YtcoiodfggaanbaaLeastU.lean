/-
  LeastUndoing, the model's and the program's: as the plain words say; nothing that was there before is changed.
-/
import Derived.Test.YtcoiodfggaanbaaUndoSpec
import Derived.Test.YtcoiodfggaanbaaUndoIB
namespace Go.Proofs.Ytcoiodfggaanbaa
open Go Go.RowKit

/-- The least width for which there is a code that undoes, 0 for none. -/
def leastU (K N : Int) (o : ByteArray) : Int := (((List.range 4).find? fun i : Nat => (undoS K N o ((i : Int) + 1)).isSome).map fun i : Nat => (i : Int) + 1).getD 0
/-- None of the first i widths serves. -/
def NoW (K N : Int) (o : ByteArray) (i : Nat) : Prop := ∀ j, j < i → (undoS K N o ((j : Int) + 1)).isSome = false
theorem NoW.next {K N : Int} {o : ByteArray} {i : Nat} (h : NoW K N o i) (hi : (undoS K N o ((i : Int) + 1)).isSome = false) : NoW K N o (i + 1) := fun j hj => by
  by_cases e : j = i
  · rw [e]; exact hi
  · exact h j (by omega)
theorem least_found {K N : Int} {o : ByteArray} {i : Nat} (hi : i < 4) (h : NoW K N o i) (hs : (undoS K N o ((i : Int) + 1)).isSome = true) : leastU K N o = (i : Int) + 1 := by
  unfold leastU
  obtain ⟨r, hr⟩ := Nat.exists_eq_add_of_lt hi
  have e : (List.range 4).find? (fun i : Nat => (undoS K N o ((i : Int) + 1)).isSome) = some i := by
    rw [show 4 = i + (r + 1) by omega, List.range_add, List.find?_append]
    have h1 : (List.range i).find? (fun i : Nat => (undoS K N o ((i : Int) + 1)).isSome) = none := by
      rw [List.find?_eq_none]
      intro j hj
      rw [h j (List.mem_range.1 hj)]; decide
    rw [h1, Option.none_or, List.range_succ_eq_map, List.map_cons, Nat.add_zero]
    exact List.find?_cons_of_pos hs
  rw [e]; rfl
theorem least_none {K N : Int} {o : ByteArray} (h : NoW K N o 4) : leastU K N o = 0 := by
  unfold leastU
  have e : (List.range 4).find? (fun i : Nat => (undoS K N o ((i : Int) + 1)).isSome) = none := by
    rw [List.find?_eq_none]
    intro j hj
    rw [h j (List.mem_range.1 hj)]; decide
  rw [e]; rfl

set_option maxRecDepth 100000 in
set_option maxHeartbeats 1600000 in
theorem spec_leastUndoing (K N : Int) (o : ByteArray) (ho : o.size ≤ 1099511627776) (w : World) :
    Calls Try.prog 38 #[.agg #[.int .i64 K, .int .i64 N, .string o]] w (Says (.int .i64 (leastU K N o)) w) := by
  have hk := codeIn_new w K N o
  have HK := Lib.hid hk
  have c0 := hk.c0
  have c1 := hk.c1
  have c2 := hk.c2
  have HB0 := Lib.hid ((Below.refl w.heap.size w).alloc (Nat.le_refl _) (.cells #[.int .i64 K, .int .i64 N, .string o] 25))
  have HU := Lib.hid (fun i w' => spec_undoingCode K N o ((i : Int) + 1) ho w')
  obtain ⟨W0, hW0⟩ : ∃ W0, w.alloc (.cells #[.int .i64 K, .int .i64 N, .string o] 25) = W0 := ⟨_, rfl⟩
  rw [hW0] at c0 c1 c2 HK HB0
  have HW := Lib.hid hW0
  clear hk hW0
  go_enter Try.func38, Try.ntmps38
  go_wp2
  rw [HW.out]
  go_loopw [3] (fun av wr => ∃ i : Nat, i ≤ 4 ∧ av = .int .i64 ((i : Int) + 1) ∧ Hid (NoW K N o i) ∧ Hid (Below W0.heap.size W0 wr)) (fun av _ => 5 - (intOf av).toNat)
  case atStart => exact ⟨0, by decide, rfl, Lib.hid (fun _ h => absurd h (Nat.not_lt_zero _)), Lib.hid (Below.refl _ _)⟩
  case round =>
    clear c0 c1 c2
    obtain ⟨i, hi, rfl, HN, HB⟩ := hrel
    have HCr := Lib.hid (HK.out.below HB.out)
    have HBr := Lib.hid (HB0.out.trans (HB.out.mono HB0.out.size))
    have c0 := HCr.out.c0
    have c1 := HCr.out.c1
    have c2 := HCr.out.c2
    by_cases hlt : i < 4
    · have HT := Lib.hid (HU.out i wr)
      have HFD := Lib.hid (fun h => least_found hlt HN.out h)
      have HNX := Lib.hid (fun h => HN.out.next h)
      have g1 : (i : Int) + 1 ≤ 4 := by omega
      have hr : UndoRes (undoS K N o ((i : Int) + 1)) K ((i : Int) + 1) = .tuple #[.agg #[.int .i64 (zeroCU (undoS K N o ((i : Int) + 1)) K), .int .i64 (zeroCU (undoS K N o ((i : Int) + 1)) ((i : Int) + 1)), .string (undoD (undoS K N o ((i : Int) + 1)))], .int .i64 (undoI (undoS K N o ((i : Int) + 1))), .bool (undoS K N o ((i : Int) + 1)).isSome] := rfl
      rw [hr] at HT
      clear hr
      generalize zeroCU (undoS K N o ((i : Int) + 1)) K = z1 at *
      generalize zeroCU (undoS K N o ((i : Int) + 1)) ((i : Int) + 1) = z2 at *
      generalize undoD (undoS K N o ((i : Int) + 1)) = z3 at *
      generalize undoI (undoS K N o ((i : Int) + 1)) = z4 at *
      generalize (undoS K N o ((i : Int) + 1)).isSome = b at *
      have HLT := Lib.hid hlt
      have hi1000 : i + 1 ≤ 1000 := by omega
      clear hlt
      go_wp2_with fail
      refine HT.out.mono ?_
      rintro e w8 ⟨rfl, hb8⟩
      have HB8 := Lib.hid (HB.out.trans (hb8.mono HB.out.size))
      have HB9 := Lib.hid (HB8.out.alloc HB8.out.size (.cells #[.int .i64 z1, .int .i64 z2, .string z3] 25))
      have HBx := Lib.hid (HB0.out.trans (HB9.out.mono HB0.out.size))
      clear hb8 c0 c1 c2
      cases b with
      | true =>
        have HF := Lib.hid (HFD.out rfl)
        go_wp2
        go_ret
        exact ⟨by rw [HF.out]; rfl, HBx.out⟩
      | false =>
        have HN2 := Lib.hid (HNX.out rfl)
        have e3 : wrap64 ((i : Int) + 1 + 1) = (i : Int) + 1 + 1 := small_wrap (by clear g1; omega)
        go_wp2
        go_roundw
        case rel => exact ⟨i + 1, HLT.out, by clear e3; congr 1, HN2, HB9⟩
        case measure =>
          have := HLT.out
          clear e3
          simp [intOf]; omega
    · obtain rfl : i = 4 := by omega
      have HF := Lib.hid (least_none HN.out)
      have g1 : ¬ ((4 : Nat) : Int) + 1 ≤ 4 := by omega
      go_wp2
      go_ret
      exact ⟨by rw [HF.out]; rfl, HBr.out⟩

set_option maxRecDepth 100000 in
set_option maxHeartbeats 1600000 in
theorem impl_leastUndoing (K N : Int) (o : ByteArray) (ho : o.size ≤ 1099511627776) (w : World) :
    Calls Try.prog 39 #[.agg #[.int .i64 K, .int .i64 N, .string o]] w (Says (.int .i64 (leastU K N o)) w) := by
  have hk := codeIn_new w K N o
  have HK := Lib.hid hk
  have c0 := hk.c0
  have c1 := hk.c1
  have c2 := hk.c2
  have HB0 := Lib.hid ((Below.refl w.heap.size w).alloc (Nat.le_refl _) (.cells #[.int .i64 K, .int .i64 N, .string o] 25))
  have HU := Lib.hid (fun i w' => impl_undoingCode K N o ((i : Int) + 1) ho w')
  obtain ⟨W0, hW0⟩ : ∃ W0, w.alloc (.cells #[.int .i64 K, .int .i64 N, .string o] 25) = W0 := ⟨_, rfl⟩
  rw [hW0] at c0 c1 c2 HK HB0
  have HW := Lib.hid hW0
  clear hk hW0
  go_enter Try.func39, Try.ntmps39
  go_wp2
  rw [HW.out]
  go_loopw [3] (fun av wr => ∃ i : Nat, i ≤ 4 ∧ av = .int .i64 ((i : Int) + 1) ∧ Hid (NoW K N o i) ∧ Hid (Below W0.heap.size W0 wr)) (fun av _ => 5 - (intOf av).toNat)
  case atStart => exact ⟨0, by decide, rfl, Lib.hid (fun _ h => absurd h (Nat.not_lt_zero _)), Lib.hid (Below.refl _ _)⟩
  case round =>
    clear c0 c1 c2
    obtain ⟨i, hi, rfl, HN, HB⟩ := hrel
    have HCr := Lib.hid (HK.out.below HB.out)
    have HBr := Lib.hid (HB0.out.trans (HB.out.mono HB0.out.size))
    have c0 := HCr.out.c0
    have c1 := HCr.out.c1
    have c2 := HCr.out.c2
    by_cases hlt : i < 4
    · have HT := Lib.hid (HU.out i wr)
      have HFD := Lib.hid (fun h => least_found hlt HN.out h)
      have HNX := Lib.hid (fun h => HN.out.next h)
      have g1 : (i : Int) + 1 ≤ 4 := by omega
      have hr : UndoRes (undoS K N o ((i : Int) + 1)) K ((i : Int) + 1) = .tuple #[.agg #[.int .i64 (zeroCU (undoS K N o ((i : Int) + 1)) K), .int .i64 (zeroCU (undoS K N o ((i : Int) + 1)) ((i : Int) + 1)), .string (undoD (undoS K N o ((i : Int) + 1)))], .int .i64 (undoI (undoS K N o ((i : Int) + 1))), .bool (undoS K N o ((i : Int) + 1)).isSome] := rfl
      rw [hr] at HT
      clear hr
      generalize zeroCU (undoS K N o ((i : Int) + 1)) K = z1 at *
      generalize zeroCU (undoS K N o ((i : Int) + 1)) ((i : Int) + 1) = z2 at *
      generalize undoD (undoS K N o ((i : Int) + 1)) = z3 at *
      generalize undoI (undoS K N o ((i : Int) + 1)) = z4 at *
      generalize (undoS K N o ((i : Int) + 1)).isSome = b at *
      have HLT := Lib.hid hlt
      have hi1000 : i + 1 ≤ 1000 := by omega
      clear hlt
      go_wp2_with fail
      refine HT.out.mono ?_
      rintro e w8 ⟨rfl, hb8⟩
      have HB8 := Lib.hid (HB.out.trans (hb8.mono HB.out.size))
      have HB9 := Lib.hid (HB8.out.alloc HB8.out.size (.cells #[.int .i64 z1, .int .i64 z2, .string z3] 25))
      have HBx := Lib.hid (HB0.out.trans (HB9.out.mono HB0.out.size))
      clear hb8 c0 c1 c2
      cases b with
      | true =>
        have HF := Lib.hid (HFD.out rfl)
        go_wp2
        go_ret
        exact ⟨by rw [HF.out]; rfl, HBx.out⟩
      | false =>
        have HN2 := Lib.hid (HNX.out rfl)
        have e3 : wrap64 ((i : Int) + 1 + 1) = (i : Int) + 1 + 1 := small_wrap (by clear g1; omega)
        go_wp2
        go_roundw
        case rel => exact ⟨i + 1, HLT.out, by clear e3; congr 1, HN2, HB9⟩
        case measure =>
          have := HLT.out
          clear e3
          simp [intOf]; omega
    · obtain rfl : i = 4 := by omega
      have HF := Lib.hid (least_none HN.out)
      have g1 : ¬ ((4 : Nat) : Int) + 1 ≤ 4 := by omega
      go_wp2
      go_ret
      exact ⟨by rw [HF.out]; rfl, HBr.out⟩
end Go.Proofs.Ytcoiodfggaanbaa
