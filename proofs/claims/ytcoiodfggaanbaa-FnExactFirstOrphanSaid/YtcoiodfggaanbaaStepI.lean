/-
  The program's step along the arcs, a closure over the matrix: from a set of vertices to those at which the arcs from them end; nothing that was there before is changed.
-/
import Derived.Test.YtcoiodfggaanbaaVertI
import Derived.Test.YtcoiodfggaanbaaGridOps
import Derived.Shelf.Abstract
namespace Go.Proofs.Ytcoiodfggaanbaa
open Go Go.RowKit Go.Shelf

theorem entersStep (args : Array Value) (w : World) : (callFunc 134 args).run Try.prog w = .ok (.enter 134 args) w := enters_of Try.func134 (by kernel_rfl) rfl args w
theorem box_new (w : World) (v : Value) (t : TypeId) : (w.alloc (.cells #[v] t)).cell? ⟨w.heap.size, 0, none⟩ = some v := by
  unfold World.cell?; rw [heap_alloc_new w _]; rfl

set_option maxRecDepth 100000 in
set_option maxHeartbeats 3200000 in
theorem step_at (gm : Nat) (A : Option Addr) (c : Nat) (m : List (List Int)) (hf : MatFacts m) (s : Nat) (hs : s < 512) (W : World) (h1 : W.cell? ⟨gm, 0, none⟩ = some (.slice A m.length c)) (hg : GridS W A m) :
    Calls Try.prog 134 #[.int .u16 (s : Int), .pointer (some ⟨gm, 0, none⟩)] W (Scalar (.int .u16 ((stepS m s : Nat) : Int)) W) := by
  have HG := Lib.hid hg
  have HF := Lib.hid hf
  have hle := hf.le
  have HH := Lib.hid (fun v (hv : v < 16) w => impl_hasV s hs v hv w)
  have HV := Lib.hid (fun v (hv : v < 16) w => impl_onlyVertex v hv w)
  have HEL : Hid (∀ i j, endS m s i j < 512) := Lib.hid fun i j => endS_le m s i j hle
  have HE0 := Lib.hid (endS_zero m s)
  have HER := Lib.hid (endS_row m s)
  have HEA := Lib.hid (endS_all m s)
  have HEN : Hid (∀ i j, (s.testBit i && arcB m i j) = false → endS m s i (j + 1) = endS m s i j) := Lib.hid fun i j h => endS_not m h
  have HEP : Hid (∀ i j, j < m.length → (s.testBit i && arcB m i j) = true → endS m s i (j + 1) = endS m s i j ||| 2 ^ j) := Lib.hid fun i j hj h => endS_put m hj h
  clear hg hf
  go_enter Try.func134, Try.ntmps134
  go_wp2
  go_loopw [4, 11] (fun ev iv wr => ∃ i : Nat, i ≤ m.length ∧ iv = .int .i64 (i : Int) ∧ ev = .int .u16 ((endS m s i 0 : Nat) : Int) ∧ Below W.heap.size W wr) (fun _ iv _ => m.length - (intOf iv).toNat)
  case atStart => exact ⟨0, Nat.zero_le _, rfl, by rw [HE0.out]; rfl, Below.refl _ _⟩
  case round =>
    obtain ⟨i, hi, rfl, rfl, hbl⟩ := hrel
    by_cases hil : i < m.length
    · obtain ⟨b, off, A', c', hA, k0, hrow, hlt0⟩ := HG.out.row hil
      rw [HF.out.row i hil] at k0
      obtain ⟨b2, off2, rfl, hat, hlt2⟩ := hrow (by rw [HF.out.row i hil]; omega)
      have HAT : Hid (∀ t w', t < m.length → Below W.heap.size W w' → w'.cell? ⟨b2, off2 + t, none⟩ = some (.int .i64 (cellOf m i t))) := Lib.hid fun t w' htt hb => (hb.cell (p := ⟨b2, off2 + t, none⟩) hlt2).trans (hat t (by rw [HF.out.row i hil]; exact htt))
      have k1 := (hbl.cell (p := ⟨b, off + i, none⟩) hlt0).trans k0
      subst hA
      have HB := Lib.hid hbl
      clear hbl hat k0
      obtain ⟨W1, rfl⟩ : ∃ W1 : World, W1 = wr := ⟨_, rfl⟩
      go_wp2
      go_loopw [4, 18] (fun ev jv wr => ∃ j : Nat, j ≤ m.length ∧ jv = .int .i64 (j : Int) ∧ ev = .int .u16 ((endS m s i j : Nat) : Int) ∧ Below W.heap.size W wr) (fun _ jv _ => m.length - (intOf jv).toNat)
      case atStart => exact ⟨0, Nat.zero_le _, rfl, rfl, HB.out⟩
      case round =>
        clear HB
        obtain ⟨j, hj, rfl, rfl, hbl⟩ := hrel
        by_cases hjl : j < m.length
        · have k2 := HAT.out j _ hjl hbl
          have HC1 := Lib.hid (HH.out i (by omega))
          have HC2 := Lib.hid (HV.out j (by omega))
          have hel := HEL.out i j
          have hpw : 2 ^ j < 512 := Nat.lt_of_lt_of_le (Nat.pow_lt_pow_of_lt (by decide) (show j < 9 by omega)) (Nat.le_refl _)
          have HOR := Lib.hid (or_u16U (endS m s i j) (2 ^ j) (by omega) (by omega))
          have HEN1 := Lib.hid (HEN.out i j)
          have HEP1 := Lib.hid (HEP.out i j hjl)
          have HARC : Hid (arcB m i j = decide (0 < cellOf m i j)) := Lib.hid rfl
          generalize 2 ^ j = P at *
          generalize s.testBit i = t at *
          generalize arcB m i j = y at *
          generalize cellOf m i j = x at *
          cases t with
          | false =>
            have HN := Lib.hid (HEN1.out rfl)
            go_wp2_with fail
            refine (HC1.out _).mono ?_
            rintro e w2 ⟨rfl, rfl⟩
            go_wp2
            go_roundw
            case rel => exact ⟨j + 1, by omega, by go_num, by rw [HN.out], hbl⟩
            case measure => simp [intOf]; omega
          | true =>
            by_cases hx : 0 < x
            · have HN := Lib.hid (HEP1.out (by rw [HARC.out, decide_eq_true hx]; rfl))
              go_wp2_with fail
              refine (HC1.out _).mono ?_
              rintro e w2 ⟨rfl, rfl⟩
              go_wp2_with fail
              refine (HC2.out _).mono ?_
              rintro e w3 ⟨rfl, rfl⟩
              go_wp2
              go_roundw
              case rel => exact ⟨j + 1, by omega, by go_num, by rw [HN.out, HOR.out], hbl⟩
              case measure => simp [intOf]; omega
            · have HN := Lib.hid (HEN1.out (by rw [HARC.out, decide_eq_false hx]; rfl))
              go_wp2_with fail
              refine (HC1.out _).mono ?_
              rintro e w2 ⟨rfl, rfl⟩
              go_wp2
              go_roundw
              case rel => exact ⟨j + 1, by omega, by go_num, by rw [HN.out], hbl⟩
              case measure => simp [intOf]; omega
        · obtain rfl : j = m.length := by omega
          have HN := Lib.hid (HER.out i)
          go_wp2
          go_roundw
          case rel => exact ⟨i + 1, by omega, by go_num, by rw [← HN.out], hbl⟩
          case measure => simp [intOf]; omega
    · obtain rfl : i = m.length := by omega
      rw [HEA.out]
      go_wp2
      go_ret
      exact ⟨rfl, hbl⟩

/-- The function value v steps along the arcs of m, in every world behind W0. -/
def StepV (W0 : World) (v : Value) (m : List (List Int)) : Prop := ∃ lb : Array Value, v = .func (.func 134) #[] lb ∧
  ∀ s W, s < 512 → Below W0.heap.size W0 W → Calls Try.prog 134 (#[.int .u16 (s : Int)] ++ lb) W (Scalar (.int .u16 ((stepS m s : Nat) : Int)) W)
theorem StepV.below {W0 W1 : World} {v : Value} {m : List (List Int)} (h : StepV W0 v m) (hb : Below W0.heap.size W0 W1) : StepV W1 v m := by
  obtain ⟨lb, hv, hs⟩ := h
  exact ⟨lb, hv, fun s W h1 h2 => hs s W h1 (hb.trans (h2.mono hb.size))⟩

set_option maxRecDepth 100000 in
theorem impl_stepOf (A : Option Addr) (c : Nat) (m : List (List Int)) (hf : MatFacts m) (w : World) (hg : GridS w A m) :
    Calls Try.prog 116 #[.slice A m.length c] w fun e w' => ∃ v, e = .returned v ∧ StepV w' v m ∧ Below w.heap.size w w' := by
  have hb0 : Below w.heap.size w (w.alloc (.cells #[.slice A m.length c] 78)) := (Below.refl _ _).alloc (Nat.le_refl _) _
  have HB0 := Lib.hid hb0
  have HS : Hid (StepV (w.alloc (.cells #[.slice A m.length c] 78)) (.func (.func 134) #[] #[.pointer (some ⟨w.heap.size, 0, none⟩)]) m) := Lib.hid ⟨_, rfl, fun s W hs hb => by
    have hs1 : w.heap.size < (w.alloc (.cells #[.slice A m.length c] 78)).heap.size := by rw [World.size_alloc]; omega
    exact step_at w.heap.size A c m hf s hs W ((hb.cell (p := ⟨w.heap.size, 0, none⟩) hs1).trans (box_new w _ _)) ((hg.below hb0).below hb)⟩
  clear hg hf hb0
  go_enter Try.func116, Try.ntmps116
  go_wp2
  go_ret
  exact ⟨_, rfl, HS.out, HB0.out⟩

end Go.Proofs.Ytcoiodfggaanbaa
