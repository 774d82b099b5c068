/-
  The model's IsPermutive: as the plain words say; nothing that was there before is changed.
-/
import Derived.Test.YtcoiodfggaanbaaPermNum
import Derived.Test.YtcoiodfggaanbaaRingSpec
namespace Go.Proofs.Ytcoiodfggaanbaa
open Go Go.RowKit

set_option maxRecDepth 100000 in
set_option maxHeartbeats 3200000 in
theorem spec_isPermutive (K N : Int) (o : ByteArray) (l : Bool) (ho : o.size ≤ 1099511627776) (w : World) :
    Calls Try.prog 40 #[.agg #[.int .i64 K, .int .i64 N, .string o], .bool l] w (Says (.bool (permB K N o l)) w) := by
  have hk := codeIn_new w K N o
  have HK := Lib.hid hk
  have c0 := hk.c0
  have c1 := hk.c1
  have c2 := hk.c2
  have HB0 := Lib.hid ((Below.refl w.heap.size w).alloc (Nat.le_refl _) (.cells #[.int .i64 K, .int .i64 N, .string o] 25))
  have HI := Lib.hid (spec_isCode K N o ho)
  clear hk
  cases hc : isCodeB K N o with
  | false =>
    rw [hc] at HI
    have HR := Lib.hid (perm_no (l := l) hc)
    clear hc
    go_enter Try.func40, Try.ntmps40
    go_wp2_with fail
    refine (HI.out _).mono ?_
    rintro e w1 ⟨rfl, hb1⟩
    have HB1 := Lib.hid (HB0.out.trans (hb1.mono HB0.out.size))
    clear hb1
    go_wp2
    go_ret
    exact ⟨by rw [HR.out]; rfl, HB1.out⟩
  | true =>
    rw [hc] at HI
    obtain ⟨k, n, rfl, rfl, ok⟩ := codeOk_of hc
    have n1 := ok.n1
    have n4 := ok.n4
    have k2 := ok.k2
    have k3 := ok.k3
    have HRES := Lib.hid (perm_yes (l := l) ok)
    have HALL := Lib.hid (fun w => spec_all k (n - 1) (by omega) k3 (by omega) (fun i hi => six_pow k3 (by omega)) w)
    have HSZ : Hid (∀ x ∈ allW k (n - 1), x.size = n - 1) := Lib.hid (allW_size k (n - 1))
    have hl : (allW k (n - 1)).length ≤ 729 ∧ 0 < (allW k (n - 1)).length := by rw [allW_length]; exact ⟨six_pow k3 (by omega), Nat.pow_pos (by omega)⟩
    have HLET : Hid (∀ y ∈ allW k (n - 1), ∀ x, x < k → ∀ w', Calls Try.prog 78 #[.agg #[.int .i64 (k : Int), .int .i64 (n : Int), .string o], .string (besideB l y x)] w' (Says (.string (oneB (letterC k o (besideB l y x)))) w')) := Lib.hid fun y hy x hx w' =>
      spec_letter k n o _ ok (by rw [beside_size (allW_size k _ y hy)]; omega) (beside_all k3 hx (allW_all k3 _ y hy)) w'
    have HOCC := Lib.hid (fun s b (hs : s.size ≤ 1000) w' => spec_occurs s (oneB b) (by omega) (by rw [oneB_size]; omega) w')
    have e1 : wrap64 ((n : Int) - 1) = ((n - 1 : Nat) : Int) := by rw [small_wrap (by omega)]; omega
    have e2 : IntKind.i64.wrap ((n : Int) - 1) = ((n - 1 : Nat) : Int) := by rw [IntKind.wrap_i64]; omega
    have HLEN := Lib.hid hl
    clear hc ok hl
    generalize allW k (n - 1) = ws at *
    obtain ⟨m, hm⟩ : ∃ m, n - 1 = m := ⟨_, rfl⟩
    rw [hm] at HALL HSZ e1 e2
    have hm4 : m ≤ 4 := by omega
    clear hm
    go_enter Try.func40, Try.ntmps40
    go_wp2_with fail
    refine (HI.out _).mono ?_
    rintro e w1 ⟨rfl, hb1⟩
    have HB1 := Lib.hid (HB0.out.trans (hb1.mono HB0.out.size))
    have HK1 := Lib.hid (HK.out.below hb1)
    clear c0 c1 c2 hb1
    have c0 := HK1.out.c0
    have c1 := HK1.out.c1
    have c2 := HK1.out.c2
    go_wp2_with fail
    refine (HALL.out _).mono ?_
    rintro e w2 hp2
    obtain ⟨v2, rfl, ho2, hb2⟩ := hp2
    rcases ho2.2 with ⟨rfl, h0⟩ | ⟨g, cap, cur, rfl, _, _, _⟩
    · have := HLEN.out.2; omega
    have HST := Lib.hid (StrsAt.of_owns ho2 rfl)
    have hgl := (ho2.lt g rfl).2
    have HB2 := Lib.hid (HB1.out.trans (hb2.mono HB1.out.size))
    have HK2 := Lib.hid (HK1.out.below hb2)
    clear c0 c1 c2 hb2 ho2 e1 e2
    go_wp2
    go_loopw [6] (fun iv wr => ∃ i : Nat, i ≤ ws.length ∧ iv = .int .i64 (i : Int) ∧ Hid (AllTo (permW k o l) ws i) ∧ Hid (Below w2.heap.size w2 wr)) (fun iv _ => ws.length - (intOf iv).toNat)
    case atStart => exact ⟨0, Nat.zero_le _, rfl, Lib.hid (AllTo.zero _ _), Lib.hid (Below.refl _ _)⟩
    case round =>
      obtain ⟨i, hi, rfl, hA, HB⟩ := hrel
      by_cases hlt : i < ws.length
      · have HNEXT := Lib.hid (fun h => hA.out.next (i := i) h)
        have HNO := Lib.hid (fun h => allW_not (p := permW k o l) hlt h)
        have hmem := getD_memR hlt
        have hys := HSZ.out _ hmem
        have HLY := Lib.hid (HLET.out _ hmem)
        have HKX := Lib.hid (HST.out i hlt)
        have hl9 := HLEN.out.1
        have hi0 : (0 : Int) ≤ (i : Int) := by omega
        have hi1 : (i : Int) < (ws.length : Int) := by omega
        have hmi : ws.length - (i + 1) < ws.length - i := by omega
        have hi1000 : i ≤ 1000 := by omega
        have HLT := Lib.hid hlt
        generalize ws.getD i ByteArray.empty = y at *
        clear hA hlt hmem
        go_wp2
        go_loopw [7, 8] (fun sv xv wr => ∃ x : Nat, x ≤ k ∧ xv = .int .i64 (x : Int) ∧ sv = .string (givenTo k o l y x) ∧ Hid (NoTw (givenTo k o l y k) x) ∧ Hid (Below w2.heap.size w2 wr)) (fun _ xv _ => k - (intOf xv).toNat)
        case atStart => exact ⟨0, Nat.zero_le _, rfl, rfl, Lib.hid (fun a b _ h => absurd h (Nat.not_lt_zero _)), HB⟩
        case round =>
          clear HB
          obtain ⟨x, hx, rfl, rfl, hT, HB⟩ := hrel
          have HCr := Lib.hid (HK2.out.below HB.out)
          have c0 := HCr.out.c0
          have c1 := HCr.out.c1
          have c2 := HCr.out.c2
          by_cases hxk : x < k
          · have kx := HKX.out
            rw [Nat.zero_add] at kx
            have kx := (HB.out.cell (p := ⟨g, i, none⟩) hgl).trans kx
            have HLX := Lib.hid (HLY.out x hxk)
            have HTN := Lib.hid (fun h => noTw_next hxk hT.out h)
            have HPN := Lib.hid (fun h => permW_no (k := k) (o := o) (l := l) (w := y) hxk h)
            have HGN := Lib.hid (givenTo_next k o l y x)
            have hgs := givenTo_size k o l y x
            have HOX := Lib.hid (HOCC.out (givenTo k o l y x) (letterC k o (besideB l y x)) (by rw [hgs]; omega))
            have x6 := letter_at x (by omega)
            have x7 := letterB_size x
            have x0 : (0 : Int) ≤ (x : Int) := by omega
            have x1 : (x : Int) + 1 ≤ 3 := by omega
            have x2 : (x : Int) ≤ (x : Int) + 1 := by omega
            have x4 : (⟨#[97, 98, 99]⟩ : ByteArray).size = 3 := rfl
            have x5 : (x : Int) + 1 ≤ ((⟨#[97, 98, 99]⟩ : ByteArray).size : Int) := x1
            have hx1000 : x ≤ 1000 := by omega
            have hmx : k - (x + 1) < k - x := by omega
            have x8 : y.size + (letterB x).size ≤ 9223372036854775807 := by rw [x7, hys]; omega
            have x9 : ∀ w, (Op.stringOp .add y (letterB x)).run Try.prog w = .ok (.string (y ++ letterB x)) w := fun w => run_string_add_sum w _ _ x8
            have y8 : (letterB x).size + y.size ≤ 9223372036854775807 := by rw [x7, hys]; omega
            have y9 : ∀ w, (Op.stringOp .add (letterB x) y).run Try.prog w = .ok (.string (letterB x ++ y)) w := fun w => run_string_add_sum w _ _ y8
            have z8 : (givenTo k o l y x).size + (oneB (letterC k o (besideB l y x))).size ≤ 9223372036854775807 := by rw [hgs, oneB_size]; omega
            obtain ⟨bz, hbz⟩ : ∃ bz, besideB l y x = bz := ⟨_, rfl⟩
            rw [hbz] at HLX HTN HPN HGN HOX z8
            have HBZ := Lib.hid hbz
            clear hbz
            generalize letterC k o bz = a at *
            generalize givenTo k o l y x = s at *
            clear hT x7 hgs
            obtain ⟨W3, rfl⟩ : ∃ W3 : World, W3 = wr := ⟨_, rfl⟩
            obtain ⟨x3, x3b⟩ := one_wrapsR hx1000
            cases l with
            | false =>
              have hz : y ++ letterB x = bz := by have h := HBZ.out; unfold besideB at h; rwa [if_neg (by decide)] at h
              rw [hz] at x9
              go_wp2
              go_quiet (fail)
              go_wp2_with fail
              refine (HLX.out _).mono ?_
              rintro e w9 ⟨rfl, hb9⟩
              have HB9 := Lib.hid (HB.out.trans (((drewN_below (Below.refl W3.heap.size W3) _).trans hb9).mono HB.out.size))
              clear hb9 c0 c1 c2 kx
              go_wp2_with fail
              refine (HOX.out _).mono ?_
              rintro e w10 ⟨rfl, rfl⟩
              cases hoc : occ s (oneB a) with
              | true =>
                have HF := Lib.hid (HNO.out (HPN.out hoc))
                clear hoc
                go_wp2
                go_ret
                exact ⟨by rw [HRES.out, HF.out]; rfl, HB2.out.trans (HB9.out.mono HB2.out.size)⟩
              | false =>
                have HT2 := Lib.hid (HTN.out hoc)
                have z9 : ∀ w, (Op.stringOp .add s (oneB a)).run Try.prog w = .ok (.string (s ++ oneB a)) w := fun w => run_string_add_sum w _ _ z8
                clear hoc
                go_wp2
                go_roundw
                case rel => exact ⟨x + 1, hxk, by go_num, by rw [HGN.out], HT2, HB9⟩
                case measure => clear x3 x3b; simp [intOf]; omega
            | true =>
              have hz : letterB x ++ y = bz := by have h := HBZ.out; unfold besideB at h; rwa [if_pos rfl] at h
              rw [hz] at y9
              go_wp2
              go_quiet (fail)
              obtain ⟨W4, hW4⟩ : ∃ W4, W3.drewN nq = W4 := ⟨_, rfl⟩
              have hb4 : Below W3.heap.size W3 W4 := by rw [← hW4]; exact drewN_below (Below.refl _ _) _
              have HB4 := Lib.hid (HB.out.trans (hb4.mono HB.out.size))
              have c0 := (HCr.out.below hb4).c0
              have c1 := (HCr.out.below hb4).c1
              have c2 := (HCr.out.below hb4).c2
              have kx := (hb4.cell (p := ⟨g, i, none⟩) (Nat.lt_of_lt_of_le hgl HB.out.size)).trans kx
              rw [hW4]
              clear hW4 hb4
              go_wp2
              go_quiet (fail)
              go_wp2_with fail
              refine (HLX.out _).mono ?_
              rintro e w9 ⟨rfl, hb9⟩
              have HB9 := Lib.hid (HB4.out.trans (((drewN_below (Below.refl W4.heap.size W4) _).trans hb9).mono HB4.out.size))
              clear hb9 c0 c1 c2 kx
              go_wp2_with fail
              refine (HOX.out _).mono ?_
              rintro e w10 ⟨rfl, rfl⟩
              cases hoc : occ s (oneB a) with
              | true =>
                have HF := Lib.hid (HNO.out (HPN.out hoc))
                clear hoc
                go_wp2
                go_ret
                exact ⟨by rw [HRES.out, HF.out]; rfl, HB2.out.trans (HB9.out.mono HB2.out.size)⟩
              | false =>
                have HT2 := Lib.hid (HTN.out hoc)
                have z9 : ∀ w, (Op.stringOp .add s (oneB a)).run Try.prog w = .ok (.string (s ++ oneB a)) w := fun w => run_string_add_sum w _ _ z8
                clear hoc
                go_wp2
                go_roundw
                case rel => exact ⟨x + 1, hxk, by go_num, by rw [HGN.out], HT2, HB9⟩
                case measure => clear x3 x3b; simp [intOf]; omega
          · obtain rfl : x = k := by omega
            have HN := Lib.hid (HNEXT.out (permW_yes hT.out))
            obtain ⟨i3, i3b⟩ := one_wrapsR hi1000
            go_wp2
            go_roundw
            case rel => exact ⟨i + 1, HLT.out, by go_num, HN, HB⟩
            case measure => clear i3 i3b; simp [intOf]; omega
      · obtain rfl : i = ws.length := by omega
        have HF := Lib.hid hA.out.all
        go_wp2
        go_ret
        exact ⟨by rw [HRES.out, HF.out]; rfl, HB2.out.trans (HB.out.mono HB2.out.size)⟩
end Go.Proofs.Ytcoiodfggaanbaa
