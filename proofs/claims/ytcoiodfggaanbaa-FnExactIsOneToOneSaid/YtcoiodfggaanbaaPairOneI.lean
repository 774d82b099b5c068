/-
  The program's lasting pairs, its search for one that differs, and its IsOneToOne: as the plain words say; nothing that was there before is changed.
-/
import Derived.Test.YtcoiodfggaanbaaPairContI
import Derived.Test.YtcoiodfggaanbaaOneSpec
import Derived.Test.YtcoiodfggaanbaaCodeI
import Derived.Shelf.Abstract
namespace Go.Proofs.Ytcoiodfggaanbaa
open Go Go.RowKit Go.Shelf

def lenPV (v : Value) : Nat := match v with
  | .slice _ n _ => n
  | _ => 0
def LastPost (ps : List PW) (w : World) (e : Ending) (w' : World) : Prop := ∃ (r : List PW) (A : Option Addr) (c : Nat), e = .returned (.slice A r.length c) ∧ ResP ps r ∧ PairsAt w' A r ∧ r.length ≤ ps.length ∧ Below w.heap.size w w'

set_option maxRecDepth 100000 in
set_option maxHeartbeats 1600000 in
theorem impl_last (A : Option Addr) (c : Nat) (ps : List PW) (hl : ps.length ≤ 800) (hz : ∀ p ∈ ps, (1 ≤ p.1.size ∧ p.1.size ≤ 1000) ∧ 1 ≤ p.2.size ∧ p.2.size ≤ 1000) (w : World) (hp : PairsAt w A ps) :
    Calls Try.prog 72 #[.slice A ps.length c] w (LastPost ps w) := by
  have HC := Lib.hid (fun A c qs (hl : qs.length ≤ 800) (hs : LeftP ps qs) w' hq => impl_cont A c qs hl (fun p hp => hz p (hs.1 p hp)) w' hq)
  have HP := Lib.hid hp
  clear hz hp
  go_enter Try.func72, Try.ntmps72
  go_wp2
  go_loopw [0] (fun v wr => ∃ (qs : List PW) (A : Option Addr) (c : Nat), v = .slice A qs.length c ∧ Hid (LeftP ps qs) ∧ Hid (PairsAt wr A qs) ∧ qs.length ≤ ps.length ∧ Hid (Below w.heap.size w wr)) (fun v _ => lenPV v)
  case atStart => exact ⟨ps, A, c, rfl, Lib.hid (left_self ps), HP, Nat.le_refl _, Lib.hid (Below.refl _ _)⟩
  case round =>
    clear HP
    obtain ⟨qs, A, c, rfl, HL, HP, hql, HB⟩ := hrel
    have hq8 : qs.length ≤ 800 := Nat.le_trans hql hl
    have HCA := Lib.hid (HC.out A c qs hq8 HL.out wr HP.out)
    have hle := contP_len (ps := qs)
    have HNX := Lib.hid HL.out.next
    have HD := Lib.hid (fun h => HL.out.done h)
    generalize contP qs = ks at *
    go_wp2_with fail
    refine HCA.out.mono ?_
    rintro e w2 ⟨v, rfl, ho, hb⟩
    obtain ⟨A2, c2, rfl, hp2⟩ := pairsAt_of ho
    have HP2 := Lib.hid hp2
    have HB2 := Lib.hid (HB.out.trans (hb.mono HB.out.size))
    clear hb ho hp2 HCA
    by_cases he : ks.length = qs.length
    · have hb1 : ((ks.length : Int) == (qs.length : Int)) = true := by rw [he]; exact beq_self_eq_true _
      have HRS := Lib.hid (HD.out he)
      have HE := Lib.hid he
      clear he
      go_wp2
      go_ret
      exact ⟨ks, A2, c2, by rw [HE.out]; rfl, HRS.out, HP2.out, Nat.le_trans hle hql, HB2.out⟩
    · have hb1 : ((ks.length : Int) == (qs.length : Int)) = false := by rw [beq_eq_false_iff_ne]; omega
      go_wp2
      go_roundw
      case rel => exact ⟨ks, A2, c2, rfl, HNX, HP2, Nat.le_trans hle hql, HB2⟩
      case measure => simp [lenPV]; omega

def DifPost (ps : List PW) (w : World) (e : Ending) (w' : World) : Prop := Below w.heap.size w w' ∧ ((e = .returned (.int .i64 (-1)) ∧ ps.any difP = false) ∨ ∃ i : Nat, e = .returned (.int .i64 (i : Int)) ∧ ps.any difP = true)
def NoneP (ps : List PW) (i : Nat) : Prop := ∀ j, j < i → difP (ps.getD j pw0) = false
theorem noneP_next {ps : List PW} {i : Nat} (h : NoneP ps i) (h2 : difP (ps.getD i pw0) = false) : NoneP ps (i + 1) := fun j hj => by
  rcases Nat.lt_or_eq_of_le (Nat.le_of_lt_succ hj) with e | rfl
  · exact h j e
  · exact h2
theorem noneP_all {ps : List PW} (h : NoneP ps ps.length) : ps.any difP = false := by
  rw [← Bool.not_eq_true, List.any_eq_true]
  rintro ⟨p, hp, hd⟩
  obtain ⟨j, hj, rfl⟩ := List.getElem_of_mem hp
  have := h j hj
  rw [List.getD_eq_getElem?_getD, List.getElem?_eq_getElem hj, Option.getD_some, hd] at this
  cases this
theorem enters_dif : ∀ args w, (callFunc 74 args).run Try.prog w = .ok (.enter 74 args) w := enters_of Try.func74 (by kernel_rfl) rfl

set_option maxRecDepth 100000 in
set_option maxHeartbeats 1600000 in
theorem impl_indexD (A : Option Addr) (c : Nat) (ps : List PW) (hl : ps.length ≤ 800) (w : World) (hp : PairsAt w A ps) :
    Calls Try.prog 106 #[.slice A ps.length c, .func (.func 74) #[] #[]] w (DifPost ps w) := by
  have HP := Lib.hid hp
  have eg := enters_dif
  have HD := Lib.hid impl_differs
  unfold valP at HD
  clear hp
  go_enter Try.func106, Try.ntmps106
  go_wp2
  go_loopw [8] (fun iv wr => ∃ i : Nat, i ≤ ps.length ∧ iv = .int .i64 (i : Int) ∧ Hid (NoneP ps i) ∧ Hid (Below w.heap.size w wr)) (fun iv _ => ps.length - (intOf iv).toNat)
  case atStart => exact ⟨0, Nat.zero_le _, rfl, Lib.hid (fun j h => absurd h (Nat.not_lt_zero _)), Lib.hid (Below.refl _ _)⟩
  case round =>
    obtain ⟨i, hi, rfl, HN, HB⟩ := hrel
    by_cases hlt : i < ps.length
    · obtain ⟨b, hA, hbl, kx, ky⟩ := (HP.out.below HB.out) i hlt
      subst hA
      have p0 : (0 : Int) ≤ (i : Int) := Int.natCast_nonneg i
      have p1 : (i : Int) < (ps.length : Int) := Int.ofNat_lt.2 hlt
      have HCA := Lib.hid (HD.out (ps.getD i pw0))
      have HMEM := Lib.hid (getP_mem hlt)
      have HNX := Lib.hid (fun h => noneP_next (i := i) HN.out h)
      generalize ps.getD i pw0 = p at *
      cases hq : difP p with
      | false =>
        rw [hq] at HCA
        have HN2 := Lib.hid (HNX.out hq)
        clear HNX HMEM hq
        go_wp2_with fail
        refine (HCA.out _).mono ?_
        rintro e w2 ⟨rfl, hb⟩
        have HB2 := Lib.hid (HB.out.trans (hb.mono HB.out.size))
        clear hb
        go_wp2
        go_roundw
        case rel => exact ⟨i + 1, hlt, by go_num, HN2, HB2⟩
        case measure => simp [intOf]; exact Nat.sub_lt_sub_left hlt (Nat.lt_succ_self i)
      | true =>
        rw [hq] at HCA
        have HAN : Hid (ps.any difP = true) := Lib.hid (List.any_eq_true.2 ⟨p, HMEM.out, hq⟩)
        clear HNX HMEM hq
        go_wp2_with fail
        refine (HCA.out _).mono ?_
        rintro e w2 ⟨rfl, hb⟩
        have HB2 := Lib.hid (HB.out.trans (hb.mono HB.out.size))
        clear hb
        go_wp2
        go_ret
        exact ⟨HB2.out, .inr ⟨i, rfl, HAN.out⟩⟩
    · obtain rfl : i = ps.length := Nat.le_antisymm hi (Nat.le_of_not_lt hlt)
      have HAN := Lib.hid (noneP_all HN.out)
      go_wp2
      go_ret
      exact ⟨HB.out, .inl ⟨rfl, HAN.out⟩⟩

set_option maxRecDepth 100000 in
set_option maxHeartbeats 1600000 in
theorem impl_containsD (A : Option Addr) (c : Nat) (ps : List PW) (hl : ps.length ≤ 800) (w : World) (hp : PairsAt w A ps) :
    Calls Try.prog 71 #[.slice A ps.length c, .func (.func 74) #[] #[]] w (Says (.bool (ps.any difP)) w) := by
  have HI := Lib.hid (impl_indexD A c ps hl w hp)
  clear hp
  go_enter Try.func71, Try.ntmps71
  go_wp2_with fail
  refine HI.out.mono ?_
  rintro e w1 ⟨hb1, ⟨rfl, hno⟩ | ⟨k, rfl, hit⟩⟩
  · have HB1 := Lib.hid hb1
    have HA := Lib.hid hno
    clear hb1 hno
    go_wp2
    go_ret
    exact ⟨by rw [HA.out]; rfl, HB1.out⟩
  · have HB1 := Lib.hid hb1
    have HA := Lib.hid hit
    have g0 : (0 : Int) ≤ (k : Int) := Int.natCast_nonneg k
    clear hb1 hit
    go_wp2
    go_ret
    exact ⟨by rw [HA.out]; simp, HB1.out⟩

theorem eqP_sizes {k n : Nat} {o : ByteArray} (ok : CodeOk k n o) : ∀ p ∈ eqP k n (outC o) (k ^ n) (k ^ n) 0, (1 ≤ p.1.size ∧ p.1.size ≤ 1000) ∧ 1 ≤ p.2.size ∧ p.2.size ≤ 1000 := fun p hp => by
  have n1 := ok.n1
  have n4 := ok.n4
  obtain ⟨i, j, hi, hj, _, rfl⟩ := eqP_mem.1 hp
  have h1 := wd_size hi
  have h2 := wd_size hj
  exact ⟨⟨by rw [h1]; exact n1, by rw [h1]; omega⟩, by rw [h2]; exact n1, by rw [h2]; omega⟩
theorem eqP_few {k n : Nat} {o : ByteArray} (ok : CodeOk k n o) : (eqP k n (outC o) (k ^ n) (k ^ n) 0).length ≤ 800 := by
  have h1 := eqP_len (k := k) (n := n) (out := outC o) (k ^ n) 0 (k ^ n)
  have h2 : k ^ n * k ^ n ≤ 27 * 27 := Nat.mul_le_mul ok.le ok.le
  omega
theorem inj_pairs {k n : Nat} {o : ByteArray} (ok : CodeOk k n o) {r : List PW} (h : ResP (eqP k n (outC o) (k ^ n) (k ^ n) 0) r) : injB (k : Int) (n : Int) o = !r.any difP := by
  have n1 := ok.n1
  have k2 := ok.k2
  obtain ⟨m, rfl⟩ : ∃ m, n = m + 1 := ⟨n - 1, by omega⟩
  exact injB_yes ok (by rw [Nat.add_sub_cancel]; exact one_pairs (by omega) ok.k3 h)

set_option maxRecDepth 100000 in
set_option maxHeartbeats 1600000 in
theorem impl_isOneToOne (K N : Int) (o : ByteArray) (ho : o.size ≤ 1099511627776) (w : World) :
    Calls Try.prog 34 #[.agg #[.int .i64 K, .int .i64 N, .string o]] w (Says (.bool (injB K N o)) w) := by
  have hk := codeIn_new w K N o
  have HK := Lib.hid hk
  have c0 := hk.c0
  have c1 := hk.c1
  have c2 := hk.c2
  have HB0 := Lib.hid ((Below.refl w.heap.size w).alloc (Nat.le_refl _) (.cells #[.int .i64 K, .int .i64 N, .string o] 25))
  have HI := Lib.hid (impl_isCode K N o ho)
  clear hk
  cases hc : isCodeB K N o with
  | false =>
    rw [hc] at HI
    have HR := Lib.hid (injB_no hc)
    clear hc
    go_enter Try.func34, Try.ntmps34
    go_wp2_with fail
    refine (HI.out _).mono ?_
    rintro e w1 ⟨rfl, hb1⟩
    have HB1 := Lib.hid (HB0.out.trans (hb1.mono HB0.out.size))
    clear hb1
    go_wp2
    go_ret
    exact ⟨by rw [HR.out]; rfl, HB1.out⟩
  | true =>
    rw [hc] at HI
    obtain ⟨k, n, rfl, rfl, ok⟩ := codeOk_of hc
    have HE := Lib.hid (impl_eqs k n o ok)
    have HZ := Lib.hid (eqP_sizes ok)
    have hfew := eqP_few ok
    have HRES := Lib.hid (fun r h => inj_pairs (r := r) ok h)
    clear hc ok
    generalize eqP k n (outC o) (k ^ n) (k ^ n) 0 = ps at *
    generalize injB (k : Int) (n : Int) o = R at *
    go_enter Try.func34, Try.ntmps34
    go_wp2_with fail
    refine (HI.out _).mono ?_
    rintro e w1 ⟨rfl, hb1⟩
    have HB1 := Lib.hid (HB0.out.trans (hb1.mono HB0.out.size))
    have HK1 := Lib.hid (HK.out.below hb1)
    clear c0 c1 c2 hb1
    have c0 := HK1.out.c0
    have c1 := HK1.out.c1
    have c2 := HK1.out.c2
    go_wp2_with fail
    refine (HE.out _).mono ?_
    rintro e w2 ⟨v, rfl, ho2, hb2⟩
    obtain ⟨A, cA, rfl, hp2⟩ := pairsAt_of ho2
    have HB2 := Lib.hid (HB1.out.trans (hb2.mono HB1.out.size))
    have HL := Lib.hid (impl_last A cA ps hfew HZ.out w2 hp2)
    clear ho2 hb2 hp2
    go_wp2_with fail
    refine HL.out.mono ?_
    rintro e w3 ⟨r, A3, c3, rfl, hres, hp3, hle3, hb3⟩
    have HB3 := Lib.hid (HB2.out.trans (hb3.mono HB2.out.size))
    have HR := Lib.hid (HRES.out r hres)
    have HCN := Lib.hid (impl_containsD A3 c3 r (Nat.le_trans hle3 hfew) w3 hp3)
    clear hres hp3 hb3 HRES HL
    generalize r.any difP = b at *
    go_wp2_with fail
    refine HCN.out.mono ?_
    rintro e w4 ⟨rfl, hb4⟩
    have HB4 := Lib.hid (HB3.out.trans (hb4.mono HB3.out.size))
    clear hb4
    go_wp2
    go_ret
    exact ⟨by rw [HR.out]; rfl, HB4.out⟩
end Go.Proofs.Ytcoiodfggaanbaa
