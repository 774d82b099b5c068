/-
  The program's UndoingCode: as the plain words say; nothing that was there before is changed.
-/
import Derived.Test.YtcoiodfggaanbaaUndoI
namespace Go.Proofs.Ytcoiodfggaanbaa
open Go Go.RowKit

set_option maxRecDepth 100000 in
set_option maxHeartbeats 1600000 in
theorem impl_undoing_no (K N M : Int) (o : ByteArray) (ho : o.size ≤ 1099511627776) (h : ¬ (isCodeB K N o = true ∧ codeForm K M = true)) (w : World) :
    Calls Try.prog 36 #[.agg #[.int .i64 K, .int .i64 N, .string o], .int .i64 M] w (Says (.tuple #[.agg #[.int .i64 0, .int .i64 0, .string ⟨#[]⟩], .int .i64 0, .bool false]) w) := by
  obtain ⟨W2, hW2, hb2, z2, k1, k2⟩ := two_start K N 0 0 o ⟨#[]⟩ w
  have c0 := k1.c0
  have c1 := k1.c1
  have c2 := k1.c2
  have HI := Lib.hid (impl_isCode K N o ho W2)
  have HF := Lib.hid (fun w' => impl_form K M w')
  have HK1 := Lib.hid k1
  have HK2 := Lib.hid k2
  have HB2 := Lib.hid hb2
  have HW := Lib.hid hW2
  clear k1 k2 hb2 hW2 z2
  cases h1 : isCodeB K N o with
  | false =>
    rw [h1] at HI
    clear h h1
    go_enter Try.func36, Try.ntmps36
    go_wp2_with fail
    rw [HW.out]
    refine HI.out.mono ?_
    rintro e w4 ⟨rfl, hb4⟩
    have HB4 := Lib.hid (HB2.out.trans (hb4.mono HB2.out.size))
    have HK4 := Lib.hid (HK2.out.below hb4)
    have q0 := HK4.out.c0
    have q1 := HK4.out.c1
    have q2 := HK4.out.c2
    have f0 := HK4.out.f 0
    have f1 := HK4.out.f 1
    have f2 := HK4.out.f 2
    clear hb4
    go_wp2
    refine bodyPost_ret (results_code3 rfl _ _ _ 25 #[.int .i64 0, .int .i64 0, .string ⟨#[]⟩] (0, 0) _ rfl (codeIn_set HK4.out _ _ _) Try.underlying25 rfl (by kernel_rfl)) rfl ?_
    exact ⟨rfl, below_set HB4.out (by omega) _ _ _⟩
  | true =>
    rw [h1] at HI
    have hf : codeForm K M = false := by
      rw [← Bool.not_eq_true]; exact fun e => h ⟨h1, e⟩
    rw [hf] at HF
    clear h h1 hf
    go_enter Try.func36, Try.ntmps36
    go_wp2_with fail
    rw [HW.out]
    refine HI.out.mono ?_
    rintro e w4 ⟨rfl, hb4⟩
    have HB4 := Lib.hid (HB2.out.trans (hb4.mono HB2.out.size))
    have HK4 := Lib.hid (HK2.out.below hb4)
    have HC4 := Lib.hid (HK1.out.below hb4)
    have q0 := HK4.out.c0
    have q1 := HK4.out.c1
    have q2 := HK4.out.c2
    have f0 := HK4.out.f 0
    have f1 := HK4.out.f 1
    have f2 := HK4.out.f 2
    clear hb4 c0 c1 c2
    have c0 := HC4.out.c0
    go_wp2_with fail
    refine (HF.out _).mono ?_
    rintro e w5 ⟨rfl, rfl⟩
    go_wp2
    refine bodyPost_ret (results_code3 rfl _ _ _ 25 #[.int .i64 0, .int .i64 0, .string ⟨#[]⟩] (0, 0) _ rfl (codeIn_set HK4.out _ _ _) Try.underlying25 rfl (by kernel_rfl)) rfl ?_
    exact ⟨rfl, below_set HB4.out (by omega) _ _ _⟩

set_option maxRecDepth 100000 in
set_option maxHeartbeats 1600000 in
theorem impl_undoing_yes (k n m : Nat) (o : ByteArray) (ok : CodeOk k n o) (okm : FormOk k m) (r : Option (ByteArray × Nat)) (hr : undoS (k : Int) (n : Int) o (m : Int) = r) (w : World) :
    Calls Try.prog 36 #[.agg #[.int .i64 (k : Int), .int .i64 (n : Int), .string o], .int .i64 (m : Int)] w (Says (UndoRes r (k : Int) (m : Int)) w) := by
  have n1 := ok.n1
  have n4 := ok.n4
  have m1 := okm.n1
  have m4 := okm.n4
  have ho : o.size ≤ 1099511627776 := by rw [ok.len]; have := ok.le; omega
  obtain ⟨W2, hW2, hb2, z2, k1, k2⟩ := two_start (k : Int) (n : Int) 0 0 o ⟨#[]⟩ w
  have c0 := k1.c0
  have c1 := k1.c1
  have c2 := k1.c2
  have hi := impl_isCode (k : Int) (n : Int) o ho W2
  rw [code_is ok] at hi
  have hf := fun w' => impl_form (k : Int) (m : Int) w'
  rw [form_is okm] at hf
  have HI := Lib.hid hi
  have HF := Lib.hid hf
  have HK1 := Lib.hid k1
  have HK2 := Lib.hid k2
  have HB2 := Lib.hid hb2
  have HW := Lib.hid hW2
  have HZ2 := Lib.hid z2
  have HTRY := Lib.hid (fun a (ha : a < n + m - 1) w' => impl_undoingAt k n m a o ok okm ha w')
  have HFOUND := Lib.hid (fun a (ha : a < n + m - 1) (h : NoAt k n o m a) d hd => undo_found (d := d) ok okm ha h hd)
  have HNONE := Lib.hid (fun h => undo_none ok okm h)
  have HR := Lib.hid hr
  have HSUM : Hid ((n : Int) + (m : Int) - 1 = ((n + m - 1 : Nat) : Int)) := Lib.hid (by omega)
  have hL7 : n + m - 1 ≤ 7 := by omega
  clear k1 k2 hb2 hW2 z2 hr ok okm hi hf
  go_enter Try.func36, Try.ntmps36
  go_wp2_with fail
  rw [HW.out]
  refine HI.out.mono ?_
  rintro e w4 ⟨rfl, hb4⟩
  have HB4 := Lib.hid (HB2.out.trans (hb4.mono HB2.out.size))
  have HK4 := Lib.hid (HK2.out.below hb4)
  have HC4 := Lib.hid (HK1.out.below hb4)
  have HZ4 : Hid (w.heap.size + 2 ≤ w4.heap.size) := Lib.hid (by have := hb4.size; have := HZ2.out; omega)
  clear hb4 c0 c1 c2
  have c0 := HC4.out.c0
  have c1 := HC4.out.c1
  have c2 := HC4.out.c2
  go_wp2_with fail
  refine (HF.out _).mono ?_
  rintro e w5 ⟨rfl, rfl⟩
  obtain ⟨W5, rfl⟩ : ∃ W5 : World, W5 = w5 := ⟨_, rfl⟩
  go_wp2
  rw [HSUM.out]
  generalize hL : n + m - 1 = L at *
  go_loopw [26] (fun av wr => ∃ a : Nat, a ≤ L ∧ av = .int .i64 (a : Int) ∧ Hid (NoAt k n o m a) ∧ Hid (Below W5.heap.size W5 wr)) (fun av _ => L - (intOf av).toNat)
  case atStart => exact ⟨0, Nat.zero_le _, rfl, Lib.hid (fun _ h => absurd h (Nat.not_lt_zero _)), Lib.hid (Below.refl _ _)⟩
  case round =>
    clear c0 c1 c2
    obtain ⟨a, ha, rfl, HN, HB⟩ := hrel
    have HCr := Lib.hid (HC4.out.below HB.out)
    have HKr := Lib.hid (HK4.out.below HB.out)
    have HBr := Lib.hid (HB4.out.trans (HB.out.mono HB4.out.size))
    have c0 := HCr.out.c0
    have c1 := HCr.out.c1
    have c2 := HCr.out.c2
    by_cases hlt : a < L
    · have HT := Lib.hid (HTRY.out a hlt wr)
      have HFD := Lib.hid (HFOUND.out a hlt HN.out)
      have hma : L - (a + 1) < L - a := by omega
      have ha1000 : a ≤ 1000 := by omega
      have HLT := Lib.hid hlt
      rw [← hL] at HT
      cases hcl : clashB (undoFA k n o) (undoAA a) (allW k (n + m - 1)) with
      | true =>
        rw [hcl] at HT
        have HN2 := Lib.hid (HN.out.next (undoAt_none hcl))
        have HT2 : Hid (Calls Try.prog 77 #[.agg #[.int .i64 (k : Int), .int .i64 (n : Int), .string o], .int .i64 (m : Int), .int .i64 (a : Int)] wr (Says (.tuple #[.agg #[.int .i64 0, .int .i64 0, .string ⟨#[]⟩], .bool false]) wr)) := HT
        clear hcl hlt HT hL
        go_wp2_with fail
        refine HT2.out.mono ?_
        rintro e w8 ⟨rfl, hb8⟩
        have HB8 := Lib.hid (HB.out.trans (hb8.mono HB.out.size))
        have HB9 := Lib.hid (HB8.out.alloc HB8.out.size (.cells #[.int .i64 0, .int .i64 0, .string ⟨#[]⟩] 25))
        clear hb8 c0 c1 c2
        obtain ⟨j3, j3b⟩ := one_wrapsR ha1000
        go_wp2
        go_roundw
        case rel => exact ⟨a + 1, HLT.out, by go_num, HN2, HB9⟩
        case measure => clear j3 j3b; simp [intOf]; omega
      | false =>
        rw [hcl] at HT
        have HRE := Lib.hid (HFD.out _ (undoAt_some hcl))
        rw [HR.out] at HRE
        have HT2 : Hid (Calls Try.prog 77 #[.agg #[.int .i64 (k : Int), .int .i64 (n : Int), .string o], .int .i64 (m : Int), .int .i64 (a : Int)] wr (Says (.tuple #[.agg #[.int .i64 (k : Int), .int .i64 (m : Int), .string (undoO k n o m a)], .bool true]) wr)) := HT
        clear hcl hlt HT hL
        generalize undoO k n o m a = d at *
        go_wp2_with fail
        refine HT2.out.mono ?_
        rintro e w8 ⟨rfl, hb8⟩
        have HB8 := Lib.hid (HBr.out.trans (hb8.mono HBr.out.size))
        have HK8 := Lib.hid (HKr.out.below hb8)
        obtain ⟨W9, hW9⟩ : ∃ W9, w8.alloc (.cells #[.int .i64 (k : Int), .int .i64 (m : Int), .string d] 25) = W9 := ⟨_, rfl⟩
        have hb9 : Below w8.heap.size w8 W9 := by rw [← hW9]; exact (Below.refl _ _).alloc (Nat.le_refl _) _
        have HK9 : Hid (CodeIn (w8.alloc (.cells #[.int .i64 (k : Int), .int .i64 (m : Int), .string d] 25)) (w.heap.size + 1) 0 0 ⟨#[]⟩) := Lib.hid (by rw [hW9]; exact HK8.out.below hb9)
        have HB9 : Hid (Below w.heap.size w (w8.alloc (.cells #[.int .i64 (k : Int), .int .i64 (m : Int), .string d] 25))) := Lib.hid (by rw [hW9]; exact HB8.out.trans (hb9.mono HB8.out.size))
        have n0 := codeIn_new w8 (k : Int) (m : Int) d
        have e0 := n0.c0
        have e1 := n0.c1
        have e2 := n0.c2
        have q0 := HK9.out.c0
        have q1 := HK9.out.c1
        have q2 := HK9.out.c2
        have f0 := HK9.out.f 0
        have f1 := HK9.out.f 1
        have f2 := HK9.out.f 2
        clear hb8 hb9 hW9 n0 c0 c1 c2
        go_wp2
        refine bodyPost_ret (results_code3 rfl _ _ _ 25 #[.int .i64 (k : Int), .int .i64 (m : Int), .string d] (0, 0) _ rfl (codeIn_set HK9.out _ _ _) Try.underlying25 rfl (by kernel_rfl)) rfl ?_
        exact ⟨by rw [HRE.out]; rfl, below_set HB9.out (by omega) _ _ _⟩
    · obtain rfl : a = L := by omega
      have HRE := Lib.hid (HNONE.out HN.out)
      rw [HR.out] at HRE
      clear HN hL
      have q0 := HKr.out.c0
      have q1 := HKr.out.c1
      have q2 := HKr.out.c2
      have f0 := HKr.out.f 0
      have f1 := HKr.out.f 1
      have f2 := HKr.out.f 2
      go_wp2
      refine bodyPost_ret (results_code3 rfl _ _ _ 25 #[.int .i64 0, .int .i64 0, .string ⟨#[]⟩] (0, 0) _ rfl (codeIn_set HKr.out _ _ _) Try.underlying25 rfl (by kernel_rfl)) rfl ?_
      exact ⟨by rw [HRE.out]; rfl, below_set HBr.out (by omega) _ _ _⟩
theorem impl_undoingCode (K N : Int) (o : ByteArray) (M : Int) (ho : o.size ≤ 1099511627776) (w : World) :
    Calls Try.prog 36 #[.agg #[.int .i64 K, .int .i64 N, .string o], .int .i64 M] w (Says (UndoRes (undoS K N o M) K M) w) := by
  by_cases h : isCodeB K N o = true ∧ codeForm K M = true
  · obtain ⟨k, n, rfl, rfl, ok⟩ := codeOk_of h.1
    obtain ⟨k', m, e, rfl, okm⟩ := formOk_of h.2
    obtain rfl : k = k' := by omega
    exact impl_undoing_yes k n m o ok okm _ rfl w
  · rw [undo_no h, undoRes_none]
    exact impl_undoing_no K N M o ho h w
end Go.Proofs.Ytcoiodfggaanbaa
