/-
  The model's IsPrimitive and PrimitiveStep: what the plain words say; nothing that was there before is changed.
-/
import Derived.Test.YtjmjcegaomhdcaaPerSpec
namespace Go.Proofs.Ytjmjcegaomhdcaa
open Go Go.RowKit

theorem perS_irr {m : List (List Int)} (h : irrM m = true) : perS m = ((perM m : Nat) : Int) := by
  unfold perS
  rw [if_pos (irrM_iff.1 h).1]

set_option maxRecDepth 100000 in
set_option maxHeartbeats 1600000 in
theorem spec_primitive (A1 : Option Addr) (c1 : Nat) (m : List (List Int)) (hl : m.length ≤ 1048576) (ht : tot m ≤ 1048576) (w : World) (h1 : GridS w A1 m) :
    Calls Try.prog 36 #[.slice A1 m.length c1] w (Scalar (.bool (primM m)) w) := by
  have HI := Lib.hid (spec_irreducible A1 c1 m hl ht w h1)
  have HP := Lib.hid (fun w' (hb : Below w.heap.size w w') => spec_period A1 c1 m hl ht w' (h1.below hb))
  clear h1
  cases hi : irrM m with
  | false =>
    have hr : primM m = false := by unfold primM; rw [hi]; rfl
    rw [hi] at HI
    rw [hr]
    clear hi hr
    go_enter Try.func36, Try.ntmps36
    go_wp2_with fail
    refine HI.out.mono ?_
    rintro e w1 ⟨rfl, b1⟩
    go_wp2
    go_ret
    exact ⟨rfl, b1⟩
  | true =>
    have hr : primM m = decide (perM m = 1) := by unfold primM; rw [hi, Bool.true_and]
    rw [hi] at HI
    rw [hr]
    rw [perS_irr hi] at HP
    clear hi hr
    generalize perM m = p at *
    by_cases hp : p = 1
    · subst hp
      rw [show decide ((1 : Nat) = 1) = true from rfl]
      go_enter Try.func36, Try.ntmps36
      go_wp2_with fail
      refine HI.out.mono ?_
      rintro e w1 ⟨rfl, b1⟩
      have B1 := Lib.hid b1
      clear b1
      go_wp2_with fail
      refine (HP.out _ B1.out).mono ?_
      rintro e w2 ⟨rfl, b2⟩
      have B2 := Lib.hid (B1.out.trans (b2.mono B1.out.size))
      clear b2
      go_wp2
      go_ret
      exact ⟨rfl, B2.out⟩
    · rw [decide_eq_false hp]
      have hne : ((p : Int) == 1) = false := by rw [beq_eq_false_iff_ne]; omega
      go_enter Try.func36, Try.ntmps36
      go_wp2_with fail
      refine HI.out.mono ?_
      rintro e w1 ⟨rfl, b1⟩
      have B1 := Lib.hid b1
      clear b1
      go_wp2_with fail
      refine (HP.out _ B1.out).mono ?_
      rintro e w2 ⟨rfl, b2⟩
      have B2 := Lib.hid (B1.out.trans (b2.mono B1.out.size))
      clear b2
      go_wp2
      go_ret
      exact ⟨rfl, B2.out⟩

/-- All marks of the rows ahead of i, and of row i ahead of j. -/
def allTo (m : List (List Int)) (k i j : Nat) : Bool := ((List.range i).all fun a => (List.range m.length).all fun b => wkB m k a b) && (List.range j).all fun b => wkB m k i b
theorem allTo_zero (m : List (List Int)) (k : Nat) : allTo m k 0 0 = true := rfl
theorem allTo_next (m : List (List Int)) (k i j : Nat) : allTo m k i (j + 1) = (allTo m k i j && wkB m k i j) := by
  unfold allTo
  rw [List.range_succ, List.all_append, Bool.and_assoc]
  simp
theorem allTo_row (m : List (List Int)) (k i : Nat) : allTo m k i m.length = allTo m k (i + 1) 0 := by
  unfold allTo
  rw [List.range_succ (n := i), List.all_append]
  simp
theorem allTo_end (m : List (List Int)) (k : Nat) : allTo m k m.length 0 = fullB m k := by
  unfold allTo fullB
  simp

set_option maxRecDepth 100000 in
set_option maxHeartbeats 1600000 in
theorem spec_primStep (A1 : Option Addr) (c1 : Nat) (m : List (List Int)) (hl : m.length ≤ 1048576) (ht : tot m ≤ 1048576) (w : World) (h1 : GridS w A1 m) :
    Calls Try.prog 24 #[.slice A1 m.length c1] w (Scalar (.int .i64 ((stepN m : Nat) : Int)) w) := by
  have HP := Lib.hid (spec_primitive A1 c1 m hl ht w h1)
  cases hp : primM m with
  | false =>
    have hr : stepN m = 0 := by unfold stepN; rw [if_neg (by rw [hp]; decide)]
    rw [hp] at HP
    rw [hr]
    clear h1 hp hr
    go_enter Try.func24, Try.ntmps24
    go_wp2_with fail
    refine HP.out.mono ?_
    rintro e w1 ⟨rfl, b1⟩
    go_wp2
    go_ret
    exact ⟨rfl, b1⟩
  | true =>
    have hirr : irrM m = true := by
      unfold primM at hp
      rw [Bool.and_eq_true] at hp
      exact hp.1
    have hf := isMat_facts (irrM_iff.1 hirr).1
    have hle := hf.le
    obtain ⟨bd, hb0, hbd, hfull⟩ := primM_full hp
    have hsq : m.length * m.length ≤ 81 := by
      calc m.length * m.length ≤ 9 * m.length := Nat.mul_le_mul_right _ hle
        _ ≤ 9 * 9 := Nat.mul_le_mul_left 9 hle
    have hbd2 : bd ≤ 83 := by omega
    have HFB : Hid (fullB m bd = true) := Lib.hid (fullB_iff.2 hfull)
    have HIS : Hid (∀ n, 0 < n → fullB m n = true → (∀ k, 0 < k → k < n → fullB m k = false) → stepN m = n) := Lib.hid fun n h0 h2 h3 => stepN_is hp h0 h2 h3
    rw [hp] at HP
    have HON : Hid (∀ w', Calls Try.prog 51 #[.int .i64 (m.length : Int)] w' (NewG (markM (wkB m 0) m.length) w')) := Lib.hid fun w' => by
      have h := spec_one m.length (by omega) w'
      rw [wk_one m] at h
      exact h
    have HST : Hid (∀ A c k w', Below w.heap.size w w' → GridS w' A (markM (wkB m k) m.length) → Calls Try.prog 52 #[.slice A m.length c, .slice A1 m.length c1] w' (NewG (markM (wkB m (k + 1)) m.length) w')) :=
      Lib.hid fun A c k w' hb hg => spec_step6 A A1 c c1 m hf (wkB m k) w' hg (h1.below hb)
    generalize stepN m = r at *
    clear h1 hp hf hirr hfull hbd hsq
    go_enter Try.func24, Try.ntmps24
    go_wp2_with fail
    refine HP.out.mono ?_
    rintro e w1 ⟨rfl, b1⟩
    have B1 := Lib.hid b1
    clear b1
    go_wp2_with fail
    refine (HON.out _).mono ?_
    rintro e w2 ⟨v2, rfl, ho2, b2⟩
    have hs1 := B1.out.size
    have B2 := Lib.hid (B1.out.trans (b2.mono hs1))
    obtain ⟨A2, c2, rfl, hg2⟩ := ho2.gridS
    rw [markM_length] at *
    have HC2 := Lib.hid (HST.out A2 c2 0 w2 B2.out hg2)
    clear ho2 b2 hg2
    go_wp2_with fail
    refine HC2.out.mono ?_
    rintro e w3 ⟨v3, rfl, ho3, b3⟩
    have hs2 := B2.out.size
    have B3 := Lib.hid (B2.out.trans (b3.mono hs2))
    have HO3 := Lib.hid (ho3.mono hs2)
    clear ho3 b3
    go_wp2
    go_loopw [3, 4] (fun av nv wr => ∃ k : Nat, 0 < k ∧ k ≤ bd ∧ nv = .int .i64 (k : Int) ∧ OwnG wr w.heap.size av (markM (wkB m k) m.length) ∧ Hid (∀ t, 0 < t → t < k → fullB m t = false) ∧ Below w.heap.size w wr) (fun _ nv _ => bd - (intOf nv).toNat)
    case atStart => exact ⟨1, Nat.one_pos, by omega, rfl, HO3.out, Lib.hid fun t h h2 => by omega, B3.out⟩
    case round =>
      obtain ⟨k, hk0, hk, rfl, hown, hno, hbl⟩ := hrel
      obtain ⟨A, c, rfl, hg⟩ := hown.gridS
      rw [markM_length] at *
      have HG := Lib.hid hg
      have HC := Lib.hid (HST.out A c k wr hbl hg)
      have HB := Lib.hid hbl
      have hsz := hbl.size
      have HA0 : Hid (allTo m k 0 0 = true) := Lib.hid (allTo_zero m k)
      have HAN := Lib.hid (allTo_next m k)
      have HAR := Lib.hid (allTo_row m k)
      have HAE : Hid (allTo m k m.length 0 = fullB m k) := Lib.hid (allTo_end m k)
      clear hown hg hbl
      obtain ⟨W1, rfl⟩ : ∃ W1 : World, W1 = wr := ⟨_, rfl⟩
      go_wp2
      go_loopw [5, 6] (fun fv iv wr => ∃ i : Nat, i ≤ m.length ∧ iv = .int .i64 (i : Int) ∧ fv = .bool (allTo m k i 0) ∧ wr = W1) (fun _ iv _ => m.length - (intOf iv).toNat)
      case atStart => exact ⟨0, Nat.zero_le _, rfl, by rw [HA0.out], rfl⟩
      case round =>
        obtain ⟨i, hi, rfl, rfl, rfl⟩ := hrel
        by_cases hil : i < m.length
        · obtain ⟨W2, rfl⟩ : ∃ W2 : World, W2 = wr := ⟨_, rfl⟩
          go_wp2
          go_loopw [5, 7] (fun fv jv wr => ∃ j : Nat, j ≤ m.length ∧ jv = .int .i64 (j : Int) ∧ fv = .bool (allTo m k i j) ∧ wr = W2) (fun _ jv _ => m.length - (intOf jv).toNat)
          case atStart => exact ⟨0, Nat.zero_le _, rfl, rfl, rfl⟩
          case round =>
            obtain ⟨j, hj, rfl, rfl, rfl⟩ := hrel
            by_cases hjl : j < m.length
            · have HN := Lib.hid (HAN.out i j)
              obtain ⟨q1, q2, q3, q4, q5, rfl, kq1, kq2, _, _⟩ := HG.out.num (i := i) (by rw [markM_length]; exact hil) (j := j) (by rw [markM_row _ hil]; exact hjl)
              rw [markM_row _ hil] at kq1
              rw [markM_cell _ hil hjl] at kq2
              generalize allTo m k i j = F at *
              cases F with
              | false =>
                go_wp2
                go_roundw
                case rel => exact ⟨j + 1, by omega, by go_num, by rw [HN.out]; rfl, trivial⟩
                case measure => simp [intOf]; omega
              | true =>
                cases hx : wkB m k i j with
                | false =>
                  rw [hx, show bI false = 0 from rfl] at kq2
                  rw [hx] at HN
                  clear hx
                  go_wp2
                  go_roundw
                  case rel => exact ⟨j + 1, by omega, by go_num, by rw [HN.out]; rfl, trivial⟩
                  case measure => simp [intOf]; omega
                | true =>
                  rw [hx, show bI true = 1 from rfl] at kq2
                  rw [hx] at HN
                  clear hx
                  go_wp2
                  go_roundw
                  case rel => exact ⟨j + 1, by omega, by go_num, by rw [HN.out]; rfl, trivial⟩
                  case measure => simp [intOf]; omega
            · obtain rfl : j = m.length := by omega
              go_wp2
              go_roundw
              case rel => exact ⟨i + 1, by omega, by go_num, by rw [HAR.out], trivial⟩
              case measure => simp [intOf]; omega
        · obtain rfl : i = m.length := by omega
          rw [HAE.out] at *
          cases hfl : fullB m k with
          | true =>
            have hr := HIS.out k hk0 hfl hno.out
            subst hr
            clear hfl
            go_wp2
            go_ret
            exact ⟨rfl, HB.out⟩
          | false =>
            have hlt : k < bd := by
              by_cases e : k = bd
              · subst e; rw [HFB.out] at hfl; cases hfl
              · omega
            have HNO : Hid (∀ t, 0 < t → t < k + 1 → fullB m t = false) := Lib.hid fun t h h2 => by
              by_cases e : t = k
              · subst e; exact hfl
              · exact hno.out t h (by omega)
            clear hfl hno
            go_wp2_with fail
            refine HC.out.mono ?_
            rintro e w4 ⟨v4, rfl, ho4, b4⟩
            have HO4 := Lib.hid (ho4.mono hsz)
            have HB4 := Lib.hid (HB.out.trans (b4.mono hsz))
            clear ho4 b4
            go_wp2
            go_roundw
            case rel => exact ⟨k + 1, by omega, by omega, by go_num, HO4.out, HNO, HB4.out⟩
            case measure => simp [intOf]; omega
end Go.Proofs.Ytjmjcegaomhdcaa
