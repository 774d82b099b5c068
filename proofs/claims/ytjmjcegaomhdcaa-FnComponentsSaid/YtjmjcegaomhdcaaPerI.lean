/-
  The program's PeriodOf, IsPrimitive and PrimitiveStep: what the plain words say; nothing that was there before is changed.
-/
import Derived.Test.YtjmjcegaomhdcaaCompI
namespace Go.Proofs.Ytjmjcegaomhdcaa
open Go Go.RowKit

set_option maxRecDepth 100000 in
set_option maxHeartbeats 3200000 in
theorem impl_periodOf (A : Option Addr) (c : Nat) (m : List (List Int)) (hn : m.length ≤ 1099511627776) (ht : ∀ k, k < m.length → (m.getD k []).length ≤ 1099511627776) (w : World) (hg : GridS w A m) :
    Calls Try.prog 13 #[.slice A m.length c] w (Scalar (.int .i64 (perS m)) w) := by
  have HI := Lib.hid (impl_isMatrix A c m hn ht w hg)
  cases hm : isMat m with
  | false =>
    have hr : perS m = 0 := by unfold perS; rw [if_neg (by rw [hm]; decide)]
    rw [hm] at HI
    rw [hr]
    clear hg ht hm hr
    go_enter Try.func13, Try.ntmps13
    go_wp2_with fail
    refine HI.out.mono ?_
    rintro e w1 ⟨rfl, rfl⟩
    go_wp2
    go_ret
    exact ⟨rfl, Below.refl _ _⟩
  | true =>
    have hr : perS m = ((perM m : Nat) : Int) := by unfold perS; rw [if_pos hm]
    have hf := isMat_facts hm
    have hle := hf.le
    rw [hm] at HI
    rw [hr]
    have HST := Lib.hid (impl_stepOf A c m hf w hg)
    have HV := Lib.hid (fun v (hv : v < 16) w => impl_onlyVertex v hv w)
    have HHAS := Lib.hid (fun s (hs : s < 512) v (hv : v < 16) w => impl_has s hs v hv w)
    have HGC := Lib.hid (fun a b ha hb w' => impl_gcd a b ha hb w')
    have HW0 : Hid (∀ v, v < m.length → wkS m 0 v = 2 ^ v) := Lib.hid fun v hv => wkS_zero m hv
    have HWN := Lib.hid (wkS_step m)
    have HWL : Hid (∀ n v, wkS m n v < 512) := Lib.hid fun n v => wkS_le m n v hle
    have HWB : Hid (∀ n v, v < m.length → (wkS m n v).testBit v = wkB m n v v) := Lib.hid fun n v hv => wkS_bit m n v hv
    have HVL := Lib.hid (perVs_le (m := m))
    have HVN : Hid (∀ v, perVs m (v + 1) = perCol m v (2 * m.length) (perVs m v)) := Lib.hid fun _ => rfl
    have HEND := Lib.hid (perVs_all m)
    have HV0 : Hid (perVs m 0 = 0) := Lib.hid rfl
    have eg := entersStep
    clear hg ht hm hr hf hn
    go_enter Try.func13, Try.ntmps13
    go_wp2_with fail
    refine HI.out.mono ?_
    rintro e w1 ⟨rfl, hw⟩
    obtain rfl : w = w1 := hw.symm
    go_wp2_with fail
    refine HST.out.mono ?_
    rintro e w1 ⟨F, rfl, hF, hb1⟩
    obtain ⟨lb, rfl, hs⟩ := hF
    have HS := Lib.hid hs
    have HB1 := Lib.hid hb1
    clear hs hb1 HST HI
    go_wp2
    go_loopw [4, 15] (fun pv iv wr => ∃ v : Nat, v ≤ m.length ∧ iv = .int .i64 (v : Int) ∧ pv = .int .i64 ((perVs m v : Nat) : Int) ∧ Below w1.heap.size w1 wr) (fun _ iv _ => m.length - (intOf iv).toNat)
    case atStart => exact ⟨0, Nat.zero_le _, rfl, by rw [HV0.out]; rfl, Below.refl _ _⟩
    case round =>
      obtain ⟨v, hv, rfl, rfl, hbl⟩ := hrel
      have hvl := HVL.out v
      by_cases hvn : v < m.length
      · have HC1 := Lib.hid (HV.out v (by omega))
        have HB := Lib.hid hbl
        have hw0 := HW0.out v hvn
        have HCOL : Hid (∀ k, perCol m v (k + 1) (perVs m v) = if wkB m (k + 1) v v then Nat.gcd (perCol m v k (perVs m v)) (k + 1) else perCol m v k (perVs m v)) := Lib.hid fun _ => rfl
        have HCO0 : Hid (perCol m v 0 (perVs m v) = perVs m v) := Lib.hid rfl
        have HCOL9 : Hid (∀ k, k ≤ 18 → perCol m v k (perVs m v) ≤ 18) := Lib.hid fun k hk => perCol_le (by omega) hk
        have HCOE := Lib.hid (HVN.out v)
        clear hbl
        generalize perVs m v = p0 at *
        go_wp2_with fail
        refine (HC1.out _).mono ?_
        rintro e w2 ⟨rfl, rfl⟩
        rw [← hw0]
        clear hw0
        obtain ⟨W1, rfl⟩ : ∃ W1 : World, W1 = w2 := ⟨_, rfl⟩
        go_wp2
        go_loopw [4, 6, 7] (fun pv ev nv wr => ∃ k : Nat, k ≤ 2 * m.length ∧ nv = .int .i64 ((k + 1 : Nat) : Int) ∧ ev = .int .u16 ((wkS m k v : Nat) : Int) ∧ pv = .int .i64 ((perCol m v k p0 : Nat) : Int) ∧ Below w1.heap.size w1 wr) (fun _ _ nv _ => 2 * m.length + 1 - (intOf nv).toNat)
        case atStart => exact ⟨0, Nat.zero_le _, rfl, rfl, by rw [HCO0.out], HB.out⟩
        case round =>
          clear HB
          obtain ⟨k, hk, rfl, rfl, rfl, hbl⟩ := hrel
          have hpk := HCOL9.out k (by omega)
          by_cases hlt : k < 2 * m.length
          · have HC2 := Lib.hid (HS.out (wkS m k v) wr (HWL.out k v) hbl)
            rw [HWN.out k v] at HC2
            have HC3 := Lib.hid (HHAS.out (wkS m (k + 1) v) (HWL.out _ _) v (by omega))
            rw [HWB.out (k + 1) v hvn] at HC3
            have HC4 := Lib.hid (HGC.out (perCol m v k p0) (k + 1) (by omega) (by omega))
            have HNX := Lib.hid (HCOL.out k)
            have HB := Lib.hid hbl
            clear hbl
            generalize perCol m v k p0 = p at *
            generalize hs1 : wkS m (k + 1) v = s1 at *
            generalize wkS m k v = s0 at *
            cases hx : wkB m (k + 1) v v with
            | false =>
              rw [hx] at HC3 HNX
              have HNX2 : Hid (perCol m v (k + 1) p0 = p) := Lib.hid (by rw [HNX.out]; rfl)
              clear hx HNX
              go_wp2_with fail
              refine HC2.out.mono ?_
              rintro e w3 ⟨rfl, b3⟩
              have HB3 := Lib.hid (below_behind HB.out b3)
              clear b3
              go_wp2_with fail
              refine (HC3.out _).mono ?_
              rintro e w4 ⟨rfl, rfl⟩
              go_wp2
              go_roundw
              case rel => exact ⟨k + 1, by omega, by go_num, by rw [hs1], by rw [HNX2.out], HB3.out⟩
              case measure => simp [intOf]; omega
            | true =>
              rw [hx] at HC3 HNX
              have HNX2 : Hid (perCol m v (k + 1) p0 = Nat.gcd p (k + 1)) := Lib.hid (by rw [HNX.out]; rfl)
              clear hx HNX
              go_wp2_with fail
              refine HC2.out.mono ?_
              rintro e w3 ⟨rfl, b3⟩
              have HB3 := Lib.hid (below_behind HB.out b3)
              clear b3
              go_wp2_with fail
              refine (HC3.out _).mono ?_
              rintro e w4 ⟨rfl, rfl⟩
              go_wp2_with fail
              refine (HC4.out _).mono ?_
              rintro e w5 ⟨rfl, b5⟩
              have HB5 := Lib.hid (below_behind HB3.out b5)
              clear b5
              go_wp2
              go_roundw
              case rel => exact ⟨k + 1, by omega, by go_num, by rw [hs1], by rw [HNX2.out], HB5.out⟩
              case measure => simp [intOf]; omega
          · obtain rfl : k = 2 * m.length := by omega
            rw [← HCOE.out]
            have HB := Lib.hid hbl
            clear hbl
            go_wp2
            go_roundw
            case rel => exact ⟨v + 1, by omega, by go_num, rfl, HB.out⟩
            case measure => simp [intOf]; omega
      · obtain rfl : v = m.length := by omega
        rw [HEND.out]
        go_wp2
        go_ret
        exact ⟨rfl, below_behind HB1.out hbl⟩

set_option maxRecDepth 100000 in
set_option maxHeartbeats 800000 in
theorem impl_isPrimitive (A : Option Addr) (c : Nat) (m : List (List Int)) (hn : m.length ≤ 1099511627776) (ht : ∀ k, k < m.length → (m.getD k []).length ≤ 1099511627776) (w : World) (hg : GridS w A m) :
    Calls Try.prog 27 #[.slice A m.length c] w (Scalar (.bool (primM m)) w) := by
  have HI := Lib.hid (impl_isIrreducible A c m hn ht w hg)
  have HP := Lib.hid (fun w' (hb : Below w.heap.size w w') => impl_periodOf A c m hn ht w' (hg.below hb))
  cases hi : irrM m with
  | false =>
    have hr : primM m = false := by unfold primM; rw [hi]; rfl
    rw [hi] at HI
    rw [hr]
    clear hg ht hi hr HP
    go_enter Try.func27, Try.ntmps27
    go_wp2_with fail
    refine HI.out.mono ?_
    rintro e w1 ⟨rfl, hb⟩
    go_wp2
    go_ret
    exact ⟨rfl, hb⟩
  | true =>
    have hr : primM m = decide (perM m = 1) := by unfold primM; rw [hi]; rfl
    have hp : perS m = ((perM m : Nat) : Int) := by unfold perS; rw [if_pos (irrM_iff.1 hi).1]
    rw [hi] at HI
    rw [hp] at HP
    rw [hr]
    clear hg ht hi hr hp
    generalize perM m = p at *
    have he : ((p : Int) == 1) = decide (p = 1) := by rw [Bool.eq_iff_iff]; simp; omega
    go_enter Try.func27, Try.ntmps27
    go_wp2_with fail
    refine HI.out.mono ?_
    rintro e w1 ⟨rfl, hb⟩
    have HB := Lib.hid hb
    clear hb
    go_wp2_with fail
    refine (HP.out _ HB.out).mono ?_
    rintro e w2 ⟨rfl, hb2⟩
    have HB2 := Lib.hid (below_behind HB.out hb2)
    clear hb2
    go_wp2
    go_ret
    exact ⟨by simp, HB2.out⟩

set_option maxRecDepth 100000 in
set_option maxHeartbeats 1600000 in
theorem impl_stepsToAll (m : List (List Int)) (hle : m.length ≤ 9) (v : Nat) (hv : v < m.length) (bd : Nat) (hb0 : 0 < bd) (hb : bd ≤ 128) (hfull : fullRow m v bd = true) (w : World) (F : Value) (hF : StepV w F m) :
    Calls Try.prog 50 #[.int .i64 (v : Int), .int .i64 (m.length : Int), F] w fun e w' => ∃ n : Nat, e = .returned (.int .i64 (n : Int)) ∧ n ≤ 128 ∧ FirstN m v n ∧ Below w.heap.size w w' := by
  obtain ⟨lb, rfl, hs⟩ := hF
  have eg := entersStep
  have HS := Lib.hid hs
  have HV := Lib.hid (impl_onlyVertex v (by omega) w)
  have HALL := Lib.hid (fun w' => impl_allVertices m.length (by omega) w')
  have HW0 : Hid (wkS m 0 v = 2 ^ v) := Lib.hid (wkS_zero m hv)
  have HWN := Lib.hid (fun n => wkS_step m n v)
  have HWL : Hid (∀ n, wkS m n v < 512) := Lib.hid fun n => wkS_le m n v hle
  have HFU : Hid (∀ n, wkS m n v = 2 ^ m.length - 1 ↔ fullRow m v n = true) := Lib.hid fun n => wkS_full
  have HBD := Lib.hid hfull
  clear hs hfull
  generalize 2 ^ m.length - 1 = T at *
  go_enter Try.func50, Try.ntmps50
  go_wp2_with fail
  refine HV.out.mono ?_
  rintro e w1 ⟨rfl, rfl⟩
  rw [← HW0.out]
  have HC0 := Lib.hid (HS.out (wkS m 0 v) _ (HWL.out 0) (Below.refl _ _))
  rw [HWN.out 0] at HC0
  go_wp2_with fail
  refine HC0.out.mono ?_
  rintro e w2 ⟨rfl, hb2⟩
  have HB2 := Lib.hid hb2
  clear hb2 HC0
  go_wp2
  go_loopw [7, 8] (fun nv ev wr => ∃ k : Nat, 0 < k ∧ k ≤ bd ∧ nv = .int .i64 (k : Int) ∧ ev = .int .u16 ((wkS m k v : Nat) : Int) ∧ Hid (∀ t, 0 < t → t < k → fullRow m v t = false) ∧ Below w1.heap.size w1 wr) (fun nv _ _ => bd - (intOf nv).toNat)
  case atStart => exact ⟨1, Nat.one_pos, hb0, rfl, rfl, Lib.hid fun t h h2 => by omega, HB2.out⟩
  case round =>
    clear HB2
    obtain ⟨k, hk0, hk, rfl, rfl, hno, hbl⟩ := hrel
    have hfu := HFU.out k
    have HC := Lib.hid (HS.out (wkS m k v) wr (HWL.out k) hbl)
    rw [HWN.out k] at HC
    have HB := Lib.hid hbl
    clear hbl
    generalize hs1 : wkS m (k + 1) v = s1 at *
    generalize wkS m k v = s0 at *
    by_cases he : s0 = T
    · have HFI : Hid (FirstN m v k) := Lib.hid ⟨hk0, hfu.1 he, hno.out⟩
      have hbe : (((s0 : Nat) : Int) != ((T : Nat) : Int)) = false := by rw [he]; simp
      clear hfu hno he
      go_wp2_with fail
      refine (HALL.out _).mono ?_
      rintro e w3 ⟨rfl, rfl⟩
      go_wp2
      go_ret
      exact ⟨k, rfl, by omega, HFI.out, HB.out⟩
    · have hbe : (((s0 : Nat) : Int) != ((T : Nat) : Int)) = true := by rw [bne_iff_ne]; omega
      have hnf : fullRow m v k = false := by
        cases e : fullRow m v k with
        | false => rfl
        | true => exact absurd (hfu.2 e) he
      have hlt : k < bd := by
        by_cases e : k = bd
        · rw [e, HBD.out] at hnf; cases hnf
        · omega
      have HNO : Hid (∀ t, 0 < t → t < k + 1 → fullRow m v t = false) := Lib.hid fun t h h2 => by
        by_cases e : t = k
        · subst e; exact hnf
        · exact hno.out t h (by omega)
      clear hfu hno he hnf
      go_wp2_with fail
      refine (HALL.out _).mono ?_
      rintro e w3 ⟨rfl, rfl⟩
      go_wp2_with fail
      refine HC.out.mono ?_
      rintro e w4 ⟨rfl, b4⟩
      have HB4 := Lib.hid (below_behind HB.out b4)
      clear b4
      go_wp2
      go_roundw
      case rel => exact ⟨k + 1, by omega, by omega, by go_num, by rw [hs1], HNO, HB4.out⟩
      case measure => simp [intOf]; omega

set_option maxRecDepth 100000 in
set_option maxHeartbeats 1600000 in
theorem impl_primitiveStep (A : Option Addr) (c : Nat) (m : List (List Int)) (hn : m.length ≤ 1099511627776) (ht : ∀ k, k < m.length → (m.getD k []).length ≤ 1099511627776) (w : World) (hg : GridS w A m) :
    Calls Try.prog 17 #[.slice A m.length c] w (Scalar (.int .i64 ((stepN m : Nat) : Int)) w) := by
  have HI := Lib.hid (impl_isPrimitive A c m hn ht w hg)
  cases hp : primM m with
  | false =>
    have hr : stepN m = 0 := by unfold stepN; rw [hp]; rfl
    rw [hp] at HI
    rw [hr]
    clear hg ht hp hr
    go_enter Try.func17, Try.ntmps17
    go_wp2_with fail
    refine HI.out.mono ?_
    rintro e w1 ⟨rfl, hb⟩
    go_wp2
    go_ret
    exact ⟨rfl, hb⟩
  | true =>
    have hi : irrM m = true := by
      have h := hp
      unfold primM at h
      rw [Bool.and_eq_true] at h
      exact h.1
    have hf := isMat_facts (irrM_iff.1 hi).1
    have hle := hf.le
    obtain ⟨bd, hb0, hb128, hfull⟩ := full_exists hp
    rw [hp] at HI
    have HST := Lib.hid (fun w' (hb : Below w.heap.size w w') => impl_stepOf A c m hf w' (hg.below hb))
    have HALL := Lib.hid (fun v (hv : v < m.length) w' F (hF : StepV w' F m) => impl_stepsToAll m hle v hv bd hb0 hb128 (hfull v hv) w' F hF)
    have HIS : Hid (∀ L, MostN m m.length L → stepN m = L) := Lib.hid fun L h => h.is hp
    have HM0 := Lib.hid (MostN.start m)
    have hmx := fun w ts t k k' x y => run_max_z w ts t k k' x y
    clear hg ht hp hi hf hfull hn
    go_enter Try.func17, Try.ntmps17
    go_wp2_with fail
    refine HI.out.mono ?_
    rintro e w1 ⟨rfl, hb1⟩
    have HB1 := Lib.hid hb1
    clear hb1
    go_wp2_with fail
    refine (HST.out _ HB1.out).mono ?_
    rintro e w2 ⟨F, rfl, hF, hb2⟩
    have HF := Lib.hid hF
    have HB2 := Lib.hid (below_behind HB1.out hb2)
    clear hF hb2 HST HI
    go_wp2
    go_loopw [4, 13] (fun lv iv wr => ∃ v L : Nat, v ≤ m.length ∧ L ≤ 128 ∧ iv = .int .i64 (v : Int) ∧ lv = .int .i64 (L : Int) ∧ Hid (MostN m v L) ∧ Below w2.heap.size w2 wr) (fun _ iv _ => m.length - (intOf iv).toNat)
    case atStart => exact ⟨0, 0, Nat.zero_le _, by omega, rfl, rfl, HM0, Below.refl _ _⟩
    case round =>
      clear HM0
      obtain ⟨v, L, hv, hL, rfl, rfl, hM, hbl⟩ := hrel
      by_cases hvn : v < m.length
      · have HC := Lib.hid (HALL.out v hvn wr F (HF.out.below hbl))
        have HB := Lib.hid hbl
        clear hbl
        go_wp2_with fail
        refine HC.out.mono ?_
        rintro e w3 ⟨n, rfl, hn, hfn, hb3⟩
        have HN := Lib.hid (hM.out.next hfn)
        have HB3 := Lib.hid (below_behind HB.out hb3)
        have hmxe : max (L : Int) (n : Int) = ((max L n : Nat) : Int) := by omega
        clear hfn hb3
        go_wp2
        go_roundw
        case rel => exact ⟨v + 1, max L n, by omega, by omega, by go_num, rfl, HN, HB3.out⟩
        case measure => simp [intOf]; omega
      · obtain rfl : v = m.length := by omega
        have HR := Lib.hid (HIS.out L hM.out)
        go_wp2
        go_ret
        exact ⟨by rw [HR.out]; rfl, below_behind HB2.out hbl⟩

set_option maxRecDepth 100000 in
set_option maxHeartbeats 3200000 in
theorem impl_turnsOf (A : Option Addr) (c : Nat) (m : List (List Int)) (hn : m.length ≤ 1099511627776) (ht : ∀ k, k < m.length → (m.getD k []).length ≤ 1099511627776) (w : World) (hg : GridS w A m) :
    Calls Try.prog 16 #[.slice A m.length c] w (NewA (turnsM m) w) := by
  obtain ⟨i0, hi0, hz0, hz1, hz2⟩ := info_parts infoInt
  have HI := Lib.hid (impl_isIrreducible A c m hn ht w hg)
  cases hi : irrM m with
  | false =>
    have hr : turnsM m = [] := by unfold turnsM; rw [hi]; rfl
    have HNIL := Lib.hid (fun w' => World.ownsRow_nil w' w.heap.size 3 1)
    rw [hi] at HI
    rw [hr]
    clear hg ht hi hr
    go_enter Try.func16, Try.ntmps16
    go_wp2_with fail
    refine HI.out.mono ?_
    rintro e w1 ⟨rfl, hb⟩
    go_wp2
    go_ret
    exact ⟨_, rfl, HNIL.out _, hb⟩
  | true =>
    obtain ⟨hm, hJ⟩ := irrM_iff.1 hi
    have hf := isMat_facts hm
    have hle := hf.le
    have hpos := hf.pos
    have hpp := perM_pos hpos hJ
    have hps : perS m = ((perM m : Nat) : Int) := by unfold perS; rw [if_pos hm]
    rw [hi] at HI
    have HPR := Lib.hid (fun w' (hb : Below w.heap.size w w') => impl_periodOf A c m hn ht w' (hg.below hb))
    rw [hps] at HPR
    have HST := Lib.hid (fun w' (hb : Below w.heap.size w w') => impl_stepOf A c m hf w' (hg.below hb))
    have HV0 := Lib.hid (fun w' => impl_onlyVertex 0 (by omega) w')
    have HHAS := Lib.hid (fun s (hs : s < 512) v (hv : v < 16) w => impl_has s hs v hv w)
    have HW0 : Hid (wkS m 0 0 = 2 ^ 0) := Lib.hid (wkS_zero m hpos)
    have HWN := Lib.hid (fun n => wkS_step m n 0)
    have HWL : Hid (∀ n, wkS m n 0 < 512) := Lib.hid fun n => wkS_le m n 0 hle
    have HWB : Hid (∀ n j, j < m.length → (wkS m n 0).testBit j = wkB m n 0 j) := Lib.hid fun n j hj => wkS_bit m n 0 hj
    have HTW : Hid (∀ n j, j < m.length → wkB m n 0 j = true → n % perM m = turnN m j) := Lib.hid fun n j hj h => turn_walk hpos hJ hj h
    have HDONE : Hid (∀ ys, TurnsTo m m.length 0 ys → ys = turnsM m) := Lib.hid fun ys h => h.done hi
    have hpl : perM m ≤ 18 := by
      have := perAcc_le (m := m) (2 * m.length)
      unfold perM; omega
    have eg := entersStep
    generalize perM m = p at *
    clear hg ht hi hm hJ hf hps hn
    go_enter Try.func16, Try.ntmps16
    go_wp2_with fail
    refine HI.out.mono ?_
    rintro e w1 ⟨rfl, hb1⟩
    have HB1 := Lib.hid hb1
    clear hb1
    go_wp2_with fail
    refine (HST.out _ HB1.out).mono ?_
    rintro e w2 ⟨F, rfl, hF, hb2⟩
    obtain ⟨lb, rfl, hs⟩ := hF
    have HS := Lib.hid hs
    have HB2 := Lib.hid (below_behind HB1.out hb2)
    clear hs hb2
    go_wp2_with fail
    refine (HPR.out _ HB2.out).mono ?_
    rintro e w3 ⟨rfl, hb3⟩
    have HB3 := Lib.hid (below_behind HB2.out hb3)
    have HB23 := Lib.hid hb3
    clear hb3
    go_wp2_with (at_make; refine wpList_make_full _ rfl _ _ 28 rfl w3.heap.size 3 i0 (.int .i64 0) 1 Try.underlying28 hi0 hz0 hz1 .i64 .i64 _ _ m.length rfl rfl rfl rfl (by rw [hz2]; omega) (by unfold maxLen; omega) (Nat.le_refl _) ?_; intro w4 hown hgrow; have HY0 := Lib.hid (made_ints hown); have HB34 := Lib.hid (grown_below hgrow); clear hown hgrow)
    refine (HV0.out _).mono ?_
    rintro e w5 ⟨rfl, rfl⟩
    rw [← HW0.out]
    have HL0 : Hid (((List.range m.length).map fun _ => (0 : Int)).length = m.length) := Lib.hid (by simp)
    have HT0 := Lib.hid (TurnsTo.start m HL0.out)
    go_wp2
    go_loopw [6, 22] (fun ev nv wr => ∃ (n : Nat) (ys : List Int), n ≤ m.length ∧ nv = .int .i64 (n : Int) ∧ ev = .int .u16 ((wkS m n 0 : Nat) : Int) ∧ Hid (TurnsTo m n 0 ys) ∧ wr.ownsRow w3.heap.size 3 1 (.slice (some ⟨w3.heap.size, 0, none⟩) m.length m.length) m.length (ys.map (Value.int .i64)) ∧ Below w3.heap.size w3 wr) (fun _ nv _ => m.length - (intOf nv).toNat)
    case atStart => exact ⟨0, _, Nat.zero_le _, rfl, rfl, HT0, HY0.out, HB34.out⟩
    case round =>
      clear HT0 HY0 HB34 HL0
      obtain ⟨n, ys, hnn, rfl, rfl, hT, hO, hbl⟩ := hrel
      by_cases hlt : n < m.length
      · have HO := Lib.hid hO
        have HB := Lib.hid hbl
        clear hO hbl
        obtain ⟨W1, rfl⟩ : ∃ W1 : World, W1 = wr := ⟨_, rfl⟩
        go_wp2
        go_loopw [27] (fun jv wr => ∃ (j : Nat) (ys : List Int), j ≤ m.length ∧ jv = .int .i64 (j : Int) ∧ Hid (TurnsTo m n j ys) ∧ wr.ownsRow w3.heap.size 3 1 (.slice (some ⟨w3.heap.size, 0, none⟩) m.length m.length) m.length (ys.map (Value.int .i64)) ∧ Below w3.heap.size w3 wr) (fun jv _ => m.length - (intOf jv).toNat)
        case atStart => exact ⟨0, ys, Nat.zero_le _, rfl, hT, HO.out, HB.out⟩
        case round =>
          clear hT HO HB ys
          obtain ⟨j, ys, hj, rfl, hT, hO, hbl⟩ := hrel
          by_cases hjl : j < m.length
          · have HC := Lib.hid (HHAS.out (wkS m n 0) (HWL.out n) j (by omega))
            rw [HWB.out n j hjl] at HC
            have HTW1 := Lib.hid (HTW.out n j hjl)
            have HSK := Lib.hid (fun h => hT.out.skip (j := j) h)
            have HPU := Lib.hid (hT.out.put hjl)
            have hyl := hT.out.1
            have kc : wr.cell? ⟨w3.heap.size, j, none⟩ = some (.int .i64 (ys.getD j 0)) := (hO.cellAt j (by omega)).trans (by rw [List.getElem?_map, List.getElem?_eq_getElem (by omega), List.getD_eq_getElem?_getD, List.getElem?_eq_getElem (by omega)]; rfl)
            have kf : wr.frozen? ⟨w3.heap.size, j, none⟩ = false := hO.frozenAt j
            have HST2 := Lib.hid (hO.stored j (.int .i64 ((turnN m j : Nat) : Int))).1
            rw [← List.map_set] at HST2
            have HO := Lib.hid hO
            have HB := Lib.hid hbl
            clear hO hbl
            generalize wkS m n 0 = s at *
            generalize ys.getD j 0 = y at *
            cases hx : wkB m n 0 j with
            | false =>
              rw [hx] at HC
              have HN := Lib.hid (HSK.out hx)
              clear hx HTW1 HSK HPU
              go_wp2_with fail
              refine (HC.out _).mono ?_
              rintro e w6 ⟨rfl, rfl⟩
              go_wp2
              go_roundw
              case rel => exact ⟨j + 1, ys, by omega, by go_num, HN, HO.out, HB.out⟩
              case measure => simp [intOf]; omega
            | true =>
              rw [hx] at HC
              have htw := HTW1.out hx
              have hmod : Int.tmod (n : Int) (p : Int) = ((n % p : Nat) : Int) := rfl
              have hmod2 : (n : Int) % (p : Int) = ((n % p : Nat) : Int) := rfl
              rw [htw] at hmod hmod2
              have hp0 : (p : Int) ≠ 0 := by omega
              clear hx HTW1 HSK htw
              generalize turnN m j = tj at *
              go_wp2_with fail
              refine (HC.out _).mono ?_
              rintro e w6 ⟨rfl, rfl⟩
              go_wp2
              go_roundw
              case rel => exact ⟨j + 1, _, by omega, by go_num, HPU, HST2.out, HB.out.setCell (Nat.le_refl _) _⟩
              case measure => simp [intOf]; omega
          · obtain rfl : j = m.length := by omega
            have HN := Lib.hid hT.out.row
            have HC2 := Lib.hid (HS.out (wkS m n 0) wr (HWL.out n) (HB23.out.trans (hbl.mono HB23.out.size)))
            rw [HWN.out n] at HC2
            have HO := Lib.hid hO
            have HB := Lib.hid hbl
            clear hO hbl
            generalize hs1 : wkS m (n + 1) 0 = s1 at *
            go_wp2_with fail
            refine HC2.out.mono ?_
            rintro e w6 ⟨rfl, b6⟩
            have HO6 := Lib.hid (kept_below HO.out b6)
            have HB6 := Lib.hid (below_behind HB.out b6)
            clear b6
            go_wp2
            go_roundw
            case rel => exact ⟨n + 1, ys, by omega, by go_num, by rw [hs1], HN, HO6.out, HB6.out⟩
            case measure => simp [intOf]; omega
      · obtain rfl : n = m.length := by omega
        have hr := HDONE.out ys hT.out
        have hyl := hT.out.1
        have hs3 := HB3.out.size
        have HO : Hid (OwnA wr w.heap.size (.slice (some ⟨w3.heap.size, 0, none⟩) m.length m.length) (turnsM m)) := Lib.hid (by rw [← hr]; unfold OwnA; rw [hyl]; exact World.ownsRow.mono hO hs3)
        clear hO hr
        go_wp2
        go_ret
        exact ⟨_, rfl, HO.out, below_behind HB3.out hbl⟩
end Go.Proofs.Ytjmjcegaomhdcaa
