/-
  The model's IsIrreducible and ComponentsOf: what the plain words say; nothing that was there before is changed.
-/
import Derived.Test.YtjmjcegaomhdcaaReachSpec
namespace Go.Proofs.Ytjmjcegaomhdcaa
open Go Go.RowKit

theorem reachM_facts (m : List (List Int)) : (reachM m).length = m.length ∧ (∀ i, i < m.length → ((reachM m).getD i []).length = m.length) ∧ ∀ i j, i < m.length → j < m.length → cellOf (reachM m) i j = bI (reachB m i j) := by
  unfold reachM
  refine ⟨tabOf_length _ _ _, fun i hi => ?_, fun i j hi hj => tabOf_cell hi hj⟩
  rw [tabOf_row hi]; simp
theorem irr_bad {m : List (List Int)} {i j : Nat} (hi : i < m.length) (hj : j < m.length) (h : reachB m i j = false) : irrM m = false := by
  cases e : irrM m with
  | false => rfl
  | true =>
    have := (reachB_iff hi hj).2 ((irrM_iff.1 e).2 i j hi hj)
    rw [h] at this; cases this
theorem irr_all {m : List (List Int)} (hm : isMat m = true) (h : ∀ i j, i < m.length → j < m.length → reachB m i j = true) : irrM m = true :=
  irrM_iff.2 ⟨hm, fun i j hi hj => (reachB_iff hi hj).1 (h i j hi hj)⟩

set_option maxRecDepth 100000 in
set_option maxHeartbeats 1600000 in
theorem spec_irreducible (A1 : Option Addr) (c1 : Nat) (m : List (List Int)) (hl : m.length ≤ 1048576) (ht : tot m ≤ 1048576) (w : World) (h1 : GridS w A1 m) :
    Calls Try.prog 26 #[.slice A1 m.length c1] w (Scalar (.bool (irrM m)) w) := by
  have HR := Lib.hid (spec_reachOf A1 c1 m hl ht w h1)
  have HI := Lib.hid (fun w' (hb : Below w.heap.size w w') => spec_isMatrix A1 c1 m (by omega) (fun k hk => by have := row_le_tot hk; omega) w' (h1.below hb))
  clear h1
  cases hm : isMat m with
  | false =>
    have hr : irrM m = false := by unfold irrM; rw [hm]; rfl
    have hs : reachS m = [] := by unfold reachS; rw [if_neg (by rw [hm]; decide)]
    rw [hs] at HR
    rw [hm] at HI
    rw [hr]
    clear hm hr hs
    go_enter Try.func26, Try.ntmps26
    go_wp2_with fail
    refine HR.out.mono ?_
    rintro e w1 ⟨v, rfl, ho, hb⟩
    obtain ⟨A, c, rfl, -⟩ := ho.gridS
    have HB := Lib.hid hb
    clear hb ho
    go_wp2
    go_loopw [4] (fun iv wr => iv = .int .i64 0 ∧ wr = w1) (fun _ _ => 0)
    case atStart => exact ⟨rfl, rfl⟩
    case round =>
      obtain ⟨rfl, rfl⟩ := hrel
      go_wp2_with fail
      refine (HI.out _ HB.out).mono ?_
      rintro e w2 ⟨rfl, rfl⟩
      go_wp2
      go_ret
      exact ⟨rfl, HB.out⟩
  | true =>
    have hs : reachS m = reachM m := by unfold reachS; rw [if_pos hm]
    have hf := isMat_facts hm
    have hle := hf.le
    obtain ⟨f1, f2, f3⟩ := reachM_facts m
    rw [hs] at HR
    rw [hm] at HI
    have HBAD : Hid (∀ i j, i < m.length → j < m.length → reachB m i j = false → irrM m = false) := Lib.hid fun i j hi hj => irr_bad hi hj
    have HALL : Hid ((∀ i j, i < m.length → j < m.length → reachB m i j = true) → irrM m = true) := Lib.hid (irr_all hm)
    have F1 := Lib.hid f1
    have F2 := Lib.hid f2
    have F3 := Lib.hid f3
    generalize irrM m = r at *
    clear hm hs hf f1 f2 f3
    go_enter Try.func26, Try.ntmps26
    go_wp2_with fail
    refine HR.out.mono ?_
    rintro e w1 ⟨v, rfl, ho, hb⟩
    obtain ⟨A, c, rfl, hg⟩ := ho.gridS
    have HG := Lib.hid hg
    have HB := Lib.hid hb
    rw [F1.out]
    clear hb ho hg
    go_wp2
    go_loop [4] (fun iv => ∃ i : Nat, i ≤ m.length ∧ iv = .int .i64 i ∧ Hid (∀ a b, a < i → b < m.length → reachB m a b = true)) (fun i => m.length - (intOf i).toNat)
    case atStart => exact ⟨0, Nat.zero_le _, rfl, Lib.hid fun a b h => by omega⟩
    case round =>
      obtain ⟨i, hi, rfl, hrow⟩ := hrel
      by_cases hil : i < m.length
      · go_wp2
        go_loop [5] (fun jv => ∃ j : Nat, j ≤ m.length ∧ jv = .int .i64 j ∧ Hid (∀ b, b < j → reachB m i b = true)) (fun j => m.length - (intOf j).toNat)
        case atStart => exact ⟨0, Nat.zero_le _, rfl, Lib.hid fun b h => by omega⟩
        case round =>
          obtain ⟨j, hj, rfl, hcol⟩ := hrel
          by_cases hjl : j < m.length
          · obtain ⟨p1, p2, p3, p4, p5, rfl, k1, k2, _, _⟩ := HG.out.num (i := i) (by rw [F1.out]; exact hil) (j := j) (by rw [F2.out i hil]; exact hjl)
            rw [F2.out i hil] at k1
            rw [F3.out i j hil hjl] at k2
            cases hx : reachB m i j with
            | false =>
              have hr := HBAD.out i j hil hjl hx
              subst hr
              rw [hx, show bI false = 0 from rfl] at k2
              clear hx
              go_wp2
              go_ret
              exact ⟨rfl, HB.out⟩
            | true =>
              have HN : Hid (∀ b, b < j + 1 → reachB m i b = true) := Lib.hid fun b hb => by
                by_cases e : b = j
                · subst e; exact hx
                · exact hcol.out b (by omega)
              rw [hx, show bI true = 1 from rfl] at k2
              clear hx hcol
              go_wp2
              go_round
              case rel => exact ⟨j + 1, by omega, by go_num, HN⟩
              case measure => simp [intOf]; omega
          · obtain rfl : j = m.length := by omega
            have HN : Hid (∀ a b, a < i + 1 → b < m.length → reachB m a b = true) := Lib.hid fun a b ha hb => by
              by_cases e : a = i
              · subst e; exact hcol.out b hb
              · exact hrow.out a b (by omega) hb
            go_wp2
            go_round
            case rel => exact ⟨i + 1, by omega, by go_num, HN⟩
            case measure => simp [intOf]; omega
      · obtain rfl : i = m.length := by omega
        have hr := HALL.out fun a b ha hb => hrow.out a b ha hb
        subst hr
        go_wp2_with fail
        refine (HI.out _ HB.out).mono ?_
        rintro e w2 ⟨rfl, rfl⟩
        go_wp2
        go_ret
        exact ⟨rfl, HB.out⟩
end Go.Proofs.Ytjmjcegaomhdcaa
