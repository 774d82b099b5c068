/-
  The model's UndoingCode: as the plain words say; nothing that was there before is changed.
-/
import Derived.Test.YtcoiodfggaanbaaUndoTryB
namespace Go.Proofs.Ytcoiodfggaanbaa
open Go Go.RowKit

section
variable {P : Program}
/-- A struct's cell and two slots as three results. -/
theorem results_code3 {fn : Func} {p u v : Tmp} {ty : TypeId} (h : fn.results = #[.cell p ty, .tmp u, .tmp v]) (tmps : Array Value) (w : World) (g : Nat) (t : TypeId) (cs : Array Value) (fr : Nat × Nat) (d : TypeDesc)
    (hp : tmps.getD p undef = .pointer (some ⟨g, 0, none⟩)) (hg : w.heap[g]? = some (.cells cs t fr))
    (hu : P.underlying ty = some d) (hd : (match d with | .struct _ | .array _ _ => true | _ => false) = true) (hi : (P.info? ty).map (·.size) = some cs.size) :
    (results fn tmps).run P w = .ok (.tuple #[.agg cs, tmps.getD u undef, tmps.getD v undef]) w := by
  have hp' : tmps[p]?.getD undef = .pointer (some ⟨g, 0, none⟩) := by simpa using hp
  simp [results, h, hp', asAddr, run_loadVar_row w g t ty cs fr d hg hu hd hi]
end
theorem undoRes_none (K M : Int) : UndoRes none K M = .tuple #[.agg #[.int .i64 0, .int .i64 0, .string ⟨#[]⟩], .int .i64 0, .bool false] := rfl
theorem undoRes_some (d : ByteArray) (a : Nat) (K M : Int) : UndoRes (some (d, a)) K M = .tuple #[.agg #[.int .i64 K, .int .i64 M, .string d], .int .i64 (a : Int), .bool true] := rfl
theorem undoAt_none {k n m a : Nat} {o : ByteArray} (h : clashB (undoFA k n o) (undoAA a) (allW k (n + m - 1)) = true) : undoAt k n o m a = none := by unfold undoAt; rw [if_pos h]
theorem undoAt_some {k n m a : Nat} {o : ByteArray} (h : clashB (undoFA k n o) (undoAA a) (allW k (n + m - 1)) = false) : undoAt k n o m a = some (undoO k n o m a) := by unfold undoAt; rw [if_neg (by rw [h]; decide)]
theorem form_cases {k : Nat} {M : Int} (k2 : 2 ≤ k) (k3 : k ≤ 3) (h : codeForm (k : Int) M = false) : ¬ (1 ≤ M ∧ M ≤ 4) ∨ ∃ m : Nat, M = (m : Int) ∧ 1 ≤ m ∧ m ≤ 4 ∧ 27 < k ^ m := by
  by_cases h1 : 1 ≤ M ∧ M ≤ 4
  · right
    obtain ⟨m, rfl⟩ := Int.eq_ofNat_of_zero_le (show 0 ≤ M by omega)
    refine ⟨m, rfl, by omega, by omega, ?_⟩
    by_cases h2 : k ^ m ≤ 27
    · exact absurd (form_is ⟨k2, k3, by omega, by omega, h2⟩) (by rw [h]; decide)
    · omega
  · exact Or.inl h1

set_option maxRecDepth 100000 in
set_option maxHeartbeats 1600000 in
theorem spec_undoing_no (K N M : Int) (o : ByteArray) (ho : o.size ≤ 1099511627776) (h : ¬ (isCodeB K N o = true ∧ codeForm K M = true)) (w : World) :
    Calls Try.prog 35 #[.agg #[.int .i64 K, .int .i64 N, .string o], .int .i64 M] w (Says (.tuple #[.agg #[.int .i64 0, .int .i64 0, .string ⟨#[]⟩], .int .i64 0, .bool false]) w) := by
  obtain ⟨W2, hW2, hb2, z2, k1, k2⟩ := two_start K N 0 0 o ⟨#[]⟩ w
  have c0 := k1.c0
  have c1 := k1.c1
  have c2 := k1.c2
  have HI := Lib.hid (spec_isCode K N o ho W2)
  have HK1 := Lib.hid k1
  have HK2 := Lib.hid k2
  have HB2 := Lib.hid hb2
  have HW := Lib.hid hW2
  have HZ2 := Lib.hid z2
  clear k1 k2 hb2 hW2 z2
  cases h1 : isCodeB K N o with
  | false =>
    rw [h1] at HI
    clear h h1
    go_enter Try.func35, Try.ntmps35
    go_wp2_with fail
    rw [HW.out]
    refine HI.out.mono ?_
    rintro e w4 ⟨rfl, hb4⟩
    have HB4 := Lib.hid (HB2.out.trans (hb4.mono HB2.out.size))
    have HK4 := Lib.hid (HK2.out.below hb4)
    have q0 := HK4.out.c0
    have q1 := HK4.out.c1
    have q2 := HK4.out.c2
    have f0 := HK4.out.f 0
    have f1 := HK4.out.f 1
    have f2 := HK4.out.f 2
    clear hb4
    go_wp2
    refine bodyPost_ret (results_code3 rfl _ _ _ 25 #[.int .i64 0, .int .i64 0, .string ⟨#[]⟩] (0, 0) _ rfl (codeIn_set HK4.out _ _ _) Try.underlying25 rfl (by kernel_rfl)) rfl ?_
    exact ⟨rfl, below_set HB4.out (by omega) _ _ _⟩
  | true =>
    rw [h1] at HI
    obtain ⟨k, n, rfl, rfl, ok⟩ := codeOk_of h1
    have hf : codeForm (k : Int) M = false := by
      rw [← Bool.not_eq_true]; exact fun e => h ⟨h1, e⟩
    rcases form_cases ok.k2 ok.k3 hf with h3 | ⟨m, rfl, m1, m4, hp⟩
    · have HL := Lib.hid (fun w' => spec_inB M 1 4 w')
      rw [show inB M 1 4 = false by
        rw [← Bool.not_eq_true]
        intro e
        unfold inB at e
        simp only [Bool.and_eq_true, decide_eq_true_eq] at e
        exact h3 e] at HL
      clear h h1 hf h3 ok
      go_enter Try.func35, Try.ntmps35
      go_wp2_with fail
      rw [HW.out]
      refine HI.out.mono ?_
      rintro e w4 ⟨rfl, hb4⟩
      have HB4 := Lib.hid (HB2.out.trans (hb4.mono HB2.out.size))
      have HK4 := Lib.hid (HK2.out.below hb4)
      have q0 := HK4.out.c0
      have q1 := HK4.out.c1
      have q2 := HK4.out.c2
      have f0 := HK4.out.f 0
      have f1 := HK4.out.f 1
      have f2 := HK4.out.f 2
      clear hb4
      go_wp2_with fail
      refine (HL.out _).mono ?_
      rintro e w5 ⟨rfl, rfl⟩
      go_wp2
      refine bodyPost_ret (results_code3 rfl _ _ _ 25 #[.int .i64 0, .int .i64 0, .string ⟨#[]⟩] (0, 0) _ rfl (codeIn_set HK4.out _ _ _) Try.underlying25 rfl (by kernel_rfl)) rfl ?_
      exact ⟨rfl, below_set HB4.out (by omega) _ _ _⟩
    · have HL := Lib.hid (fun w' => spec_inB (m : Int) 1 4 w')
      rw [show inB (m : Int) 1 4 = true by unfold inB; simp only [Bool.and_eq_true, decide_eq_true_eq]; omega] at HL
      have HP := Lib.hid (fun w' => spec_codePow k m ok.k3 m4 w')
      obtain ⟨P, hP⟩ : ∃ P, k ^ m = P := ⟨_, rfl⟩
      rw [hP] at HP hp
      have g1 : (27 : Int) < (P : Int) := by omega
      clear h h1 hf hP ok
      go_enter Try.func35, Try.ntmps35
      go_wp2_with fail
      rw [HW.out]
      refine HI.out.mono ?_
      rintro e w4 ⟨rfl, hb4⟩
      have HB4 := Lib.hid (HB2.out.trans (hb4.mono HB2.out.size))
      have HK4 := Lib.hid (HK2.out.below hb4)
      have HC4 := Lib.hid (HK1.out.below hb4)
      have q0 := HK4.out.c0
      have q1 := HK4.out.c1
      have q2 := HK4.out.c2
      have f0 := HK4.out.f 0
      have f1 := HK4.out.f 1
      have f2 := HK4.out.f 2
      clear hb4 c0 c1 c2
      have c0 := HC4.out.c0
      go_wp2_with fail
      refine (HL.out _).mono ?_
      rintro e w5 ⟨rfl, rfl⟩
      go_wp2_with fail
      refine (HP.out _).mono ?_
      rintro e w6 ⟨rfl, rfl⟩
      go_wp2
      refine bodyPost_ret (results_code3 rfl _ _ _ 25 #[.int .i64 0, .int .i64 0, .string ⟨#[]⟩] (0, 0) _ rfl (codeIn_set HK4.out _ _ _) Try.underlying25 rfl (by kernel_rfl)) rfl ?_
      exact ⟨rfl, below_set HB4.out (by omega) _ _ _⟩

set_option maxRecDepth 100000 in
set_option maxHeartbeats 1600000 in
theorem spec_undoing_yes (k n m : Nat) (o : ByteArray) (ok : CodeOk k n o) (okm : FormOk k m) (r : Option (ByteArray × Nat)) (hr : undoS (k : Int) (n : Int) o (m : Int) = r) (w : World) :
    Calls Try.prog 35 #[.agg #[.int .i64 (k : Int), .int .i64 (n : Int), .string o], .int .i64 (m : Int)] w (Says (UndoRes r (k : Int) (m : Int)) w) := by
  have n1 := ok.n1
  have n4 := ok.n4
  have m1 := okm.n1
  have m4 := okm.n4
  have k3 := ok.k3
  have ho : o.size ≤ 1099511627776 := by rw [ok.len]; have := ok.le; omega
  obtain ⟨W2, hW2, hb2, z2, k1, k2⟩ := two_start (k : Int) (n : Int) 0 0 o ⟨#[]⟩ w
  have c0 := k1.c0
  have c1 := k1.c1
  have c2 := k1.c2
  have hi := spec_isCode (k : Int) (n : Int) o ho W2
  rw [code_is ok] at hi
  have HI := Lib.hid hi
  have HK1 := Lib.hid k1
  have HK2 := Lib.hid k2
  have HB2 := Lib.hid hb2
  have HW := Lib.hid hW2
  have HZ2 := Lib.hid z2
  have HL := Lib.hid (fun w' => spec_inB (m : Int) 1 4 w')
  rw [show inB (m : Int) 1 4 = true by unfold inB; simp only [Bool.and_eq_true, decide_eq_true_eq]; omega] at HL
  have hp := fun w' => spec_codePow k m ok.k3 m4 w'
  have hp27 := okm.le
  have HTRY := Lib.hid (fun a (ha : a < n + m - 1) w' => spec_try k n m a o ok okm ha w')
  have HFOUND := Lib.hid (fun a (ha : a < n + m - 1) (h : NoAt k n o m a) d hd => undo_found (d := d) ok okm ha h hd)
  have HNONE := Lib.hid (fun h => undo_none ok okm h)
  have HR := Lib.hid hr
  have hsum : (n : Int) + (m : Int) - 1 = ((n + m - 1 : Nat) : Int) := by omega
  have HSUM := Lib.hid hsum
  have hL7 : n + m - 1 ≤ 7 := by omega
  obtain ⟨P, hP⟩ : ∃ P, k ^ m = P := ⟨_, rfl⟩
  rw [hP] at hp hp27
  have HP := Lib.hid hp
  have g1 : ¬ (27 : Int) < (P : Int) := by omega
  clear k1 k2 hb2 hW2 z2 hr hp hP ok okm hi hsum
  go_enter Try.func35, Try.ntmps35
  go_wp2_with fail
  rw [HW.out]
  refine HI.out.mono ?_
  rintro e w4 ⟨rfl, hb4⟩
  have HB4 := Lib.hid (HB2.out.trans (hb4.mono HB2.out.size))
  have HK4 := Lib.hid (HK2.out.below hb4)
  have HC4 := Lib.hid (HK1.out.below hb4)
  have HZ4 : Hid (w.heap.size + 2 ≤ w4.heap.size) := Lib.hid (by have := hb4.size; have := HZ2.out; omega)
  clear hb4 c0 c1 c2
  have c0 := HC4.out.c0
  have c1 := HC4.out.c1
  have c2 := HC4.out.c2
  go_wp2_with fail
  refine (HL.out _).mono ?_
  rintro e w5 ⟨rfl, rfl⟩
  go_wp2_with fail
  refine (HP.out _).mono ?_
  rintro e w6 ⟨rfl, rfl⟩
  obtain ⟨W5, rfl⟩ : ∃ W5 : World, W5 = w6 := ⟨_, rfl⟩
  go_wp2
  go_loopw [7] (fun av wr => ∃ a : Nat, a ≤ n + m - 1 ∧ av = .int .i64 (a : Int) ∧ Hid (NoAt k n o m a) ∧ Hid (Below W5.heap.size W5 wr)) (fun av _ => n + m - 1 - (intOf av).toNat)
  case atStart => exact ⟨0, Nat.zero_le _, rfl, Lib.hid (fun _ h => absurd h (Nat.not_lt_zero _)), Lib.hid (Below.refl _ _)⟩
  case round =>
    clear c0 c1 c2
    obtain ⟨a, ha, rfl, HN, HB⟩ := hrel
    have HCr := Lib.hid (HC4.out.below HB.out)
    have HKr := Lib.hid (HK4.out.below HB.out)
    have HBr := Lib.hid (HB4.out.trans (HB.out.mono HB4.out.size))
    have c0 := HCr.out.c0
    have c1 := HCr.out.c1
    have c2 := HCr.out.c2
    by_cases hlt : a < n + m - 1
    · have HT := Lib.hid (HTRY.out a hlt wr)
      have HF := Lib.hid (HFOUND.out a hlt HN.out)
      have hal : (a : Int) < (n : Int) + (m : Int) - 1 := by omega
      have hma : n + m - 1 - (a + 1) < n + m - 1 - a := by omega
      have ha1000 : a ≤ 1000 := by omega
      have HLT := Lib.hid hlt
      cases hcl : clashB (undoFA k n o) (undoAA a) (allW k (n + m - 1)) with
      | true =>
        rw [hcl, if_pos rfl] at HT
        have HN2 := Lib.hid (HN.out.next (undoAt_none hcl))
        clear hcl hlt
        go_wp2_with fail
        refine HT.out.mono ?_
        rintro e w8 ⟨rfl, hb8⟩
        have HB8 := Lib.hid (HB.out.trans (hb8.mono HB.out.size))
        clear hb8 c0 c1 c2
        obtain ⟨j3, j3b⟩ := one_wrapsR ha1000
        go_wp2
        go_roundw
        case rel => exact ⟨a + 1, HLT.out, by go_num, HN2, HB8⟩
        case measure => clear j3 j3b; simp [intOf]; omega
      | false =>
        rw [hcl, if_neg (by decide)] at HT
        have HRE := Lib.hid (HF.out _ (undoAt_some hcl))
        rw [HR.out] at HRE
        clear hcl hlt
        generalize undoO k n o m a = d at *
        go_wp2_with fail
        refine HT.out.mono ?_
        rintro e w8 ⟨rfl, hb8⟩
        have HB8 := Lib.hid (HBr.out.trans (hb8.mono HBr.out.size))
        have HK8 := Lib.hid (HKr.out.below hb8)
        have HC8 := Lib.hid (HCr.out.below hb8)
        clear hb8 c0 c1 c2
        have c0 := HC8.out.c0
        have q0 := HK8.out.c0
        have q1 := HK8.out.c1
        have q2 := HK8.out.c2
        have f0 := HK8.out.f 0
        have f1 := HK8.out.f 1
        have f2 := HK8.out.f 2
        go_wp2
        refine bodyPost_ret (results_code3 rfl _ _ _ 25 #[.int .i64 (k : Int), .int .i64 (m : Int), .string d] (0, 0) _ rfl (codeIn_set HK8.out _ _ _) Try.underlying25 rfl (by kernel_rfl)) rfl ?_
        exact ⟨by rw [HRE.out]; rfl, below_set HB8.out (by omega) _ _ _⟩
    · obtain rfl : a = n + m - 1 := by omega
      have HRE := Lib.hid (HNONE.out HN.out)
      rw [HR.out] at HRE
      have hal : ¬ ((n + m - 1 : Nat) : Int) < (n : Int) + (m : Int) - 1 := by omega
      obtain ⟨L, hL⟩ : ∃ L, n + m - 1 = L := ⟨_, rfl⟩
      rw [hL] at hal ⊢
      clear hL HN
      have q0 := HKr.out.c0
      have q1 := HKr.out.c1
      have q2 := HKr.out.c2
      have f0 := HKr.out.f 0
      have f1 := HKr.out.f 1
      have f2 := HKr.out.f 2
      go_wp2
      refine bodyPost_ret (results_code3 rfl _ _ _ 25 #[.int .i64 0, .int .i64 0, .string ⟨#[]⟩] (0, 0) _ rfl (codeIn_set HKr.out _ _ _) Try.underlying25 rfl (by kernel_rfl)) rfl ?_
      exact ⟨by rw [HRE.out]; rfl, below_set HBr.out (by omega) _ _ _⟩
theorem spec_undoingCode (K N : Int) (o : ByteArray) (M : Int) (ho : o.size ≤ 1099511627776) (w : World) :
    Calls Try.prog 35 #[.agg #[.int .i64 K, .int .i64 N, .string o], .int .i64 M] w (Says (UndoRes (undoS K N o M) K M) w) := by
  by_cases h : isCodeB K N o = true ∧ codeForm K M = true
  · obtain ⟨k, n, rfl, rfl, ok⟩ := codeOk_of h.1
    obtain ⟨k', m, e, rfl, okm⟩ := formOk_of h.2
    obtain rfl : k = k' := by omega
    exact spec_undoing_yes k n m o ok okm _ rfl w
  · rw [undo_no h, undoRes_none]
    exact spec_undoing_no K N M o ho h w
end Go.Proofs.Ytcoiodfggaanbaa
