/-
  The model's CopyCode where there is such a code: as the plain words say; nothing that was there before is changed.
-/
import Derived.Test.YtogmmjiajajinaaCodeSpecD
import Derived.StillTailTactics
namespace Go.Proofs.Ytogmmjiajajinaa
open Go Go.RowKit

set_option maxRecDepth 100000 in
set_option maxHeartbeats 1600000 in
theorem spec_copy_yes (k n a : Nat) (ok : FormOk k n) (ha : a < n) (w : World) :
    Calls Try.prog 20 #[.int .i64 (k : Int), .int .i64 (n : Int), .int .i64 (a : Int)] w (Says (.tuple #[.agg #[.int .i64 (k : Int), .int .i64 (n : Int), .string (copied k n a)], .bool true]) w) := by
  have k2 := ok.k2
  have k3 := ok.k3
  have n1 := ok.n1
  have n4 := ok.n4
  have HI := Lib.hid spec_inB
  have q1 := inB_yes (x := (k : Int)) (lo := 2) (hi := 3) (by omega)
  have q2 := inB_yes (x := (n : Int)) (lo := 1) (hi := 4) (by omega)
  have q3 := inB_yes (x := (a : Int)) (lo := 0) (hi := (n : Int) - 1) (by omega)
  have e1 : wrap64 ((n : Int) - 1) = (n : Int) - 1 := small_wrap (by omega)
  have e2 : wrap64 ((a : Int) + 1) = (a : Int) + 1 := small_wrap (by omega)
  have e3 : IntKind.i64.wrap ((a : Int) + 1) = (a : Int) + 1 := by rw [IntKind.wrap_i64]; omega
  obtain ⟨P, hP⟩ : ∃ P, k ^ n = P := ⟨_, rfl⟩
  have hp := fun w => spec_codePow k n (by omega) (by omega) w
  rw [hP] at hp
  have HP := Lib.hid hp
  have g1 : decide ((27 : Int) < (P : Int)) = false := by rw [decide_eq_false_iff_not, ← hP]; have := ok.le; omega
  have HALL := Lib.hid (fun w => spec_all k n (by omega) k3 (by omega) (pow_upTo (by omega) ok.le) w)
  have hl27 : (allW k n).length ≤ 27 := by rw [allW_length]; exact ok.le
  have hl0 : 0 < (allW k n).length := by rw [allW_length]; exact Nat.pow_pos (by omega)
  have HSZ : Hid (∀ x ∈ allW k n, x.size = n) := Lib.hid (allW_size k n)
  have HONE : Hid (∀ x ∈ allW k n, (copyF a x).size = 1) := Lib.hid fun x hx => by
    have := allW_size k n x hx
    unfold copyF
    rw [ByteArray.size_extract]; omega
  have HCN : Hid (∀ i, i < (allW k n).length → catTo (copyF a) (allW k n) (i + 1) = catTo (copyF a) (allW k n) i ++ copyF a ((allW k n).getD i ByteArray.empty)) := Lib.hid fun i hi => catTo_next _ hi
  have HCS : Hid (∀ i, i ≤ (allW k n).length → (catTo (copyF a) (allW k n) i).size = i) := Lib.hid fun i hi => catTo_size HONE.out hi
  have HV : Hid (copied k n a = catTo (copyF a) (allW k n) (allW k n).length) := Lib.hid rfl
  rw [HV.out]
  clear hp hP ok HV
  generalize allW k n = ws at *
  -- the world ahead of the list
  obtain ⟨W2, hW2⟩ : ∃ W2, (w.alloc (.cells #[.int .i64 0, .int .i64 0, .string ⟨#[]⟩] 26)).alloc (.cells #[.int .i64 (k : Int), .int .i64 (n : Int), .string ⟨#[]⟩] 26) = W2 := ⟨_, rfl⟩
  have hb2 : Below w.heap.size w W2 := by rw [← hW2]; exact ((Below.refl _ _).alloc (Nat.le_refl _) _).alloc (by simp) _
  have z2 : W2.heap.size = w.heap.size + 2 := by rw [← hW2]; simp
  have hr : CodeIn W2 w.heap.size 0 0 ⟨#[]⟩ := by rw [← hW2]; exact (codeIn_new w 0 0 ⟨#[]⟩).below ((Below.refl _ _).alloc (Nat.le_refl _) _)
  have hx : CodeIn W2 (w.heap.size + 1) (k : Int) (n : Int) ⟨#[]⟩ := by
    rw [← hW2]
    have h := codeIn_new (w.alloc (.cells #[.int .i64 0, .int .i64 0, .string ⟨#[]⟩] 26)) (k : Int) (n : Int) ⟨#[]⟩
    rw [World.size_alloc] at h
    exact h
  have HW := Lib.hid hW2
  have HB2 := Lib.hid hb2
  have HZ := Lib.hid z2
  have HR2 := Lib.hid hr
  have HX2 := Lib.hid hx
  have HA2 := Lib.hid (HALL.out W2)
  clear hW2 hb2 z2 hr hx
  go_enter Try.func20, Try.ntmps20
  go_wp2_with (first | (go_at_call 24; refine (HI.out _ _ _ _).mono ?_; rintro e w9 ⟨rfl, rfl⟩) | (go_at_call 25; refine (HP.out _).mono ?_; rintro e w9 ⟨rfl, rfl⟩))
  rw [HW.out]
  refine HA2.out.mono ?_
  rintro e w3 hw3
  obtain ⟨v, rfl, ho3, hb3⟩ := hw3
  rcases ho3.2 with ⟨rfl, h0⟩ | ⟨g, cap, cur, rfl, _, _, _⟩
  · omega
  have HS3 := Lib.hid (StrsAt.of_owns ho3 rfl)
  have hgl := ho3.lt g rfl
  have hne1 : g ≠ w.heap.size := by have h1 := hgl.1; have h2 := HZ.out; omega
  have hne2 : g ≠ w.heap.size + 1 := by have h1 := hgl.1; have h2 := HZ.out; omega
  have HB3 := Lib.hid (HB2.out.trans (hb3.mono HB2.out.size))
  have HR3 := Lib.hid (HR2.out.below hb3)
  have HX3 := Lib.hid (HX2.out.below hb3)
  clear ho3 hb3 hgl
  go_wp2
  go_loopw [10] (fun iv wr => ∃ i : Nat, i ≤ ws.length ∧ iv = .int .i64 (i : Int) ∧ Hid (Below w.heap.size w wr) ∧ Hid (CodeIn wr w.heap.size 0 0 ⟨#[]⟩) ∧ Hid (CodeIn wr (w.heap.size + 1) (k : Int) (n : Int) (catTo (copyF a) ws i)) ∧ Hid (StrsAt wr g 0 ws)) (fun iv _ => ws.length - (intOf iv).toNat)
  case atStart => exact ⟨0, Nat.zero_le _, rfl, HB3, HR3, HX3, HS3⟩
  case round =>
    obtain ⟨i, hi, rfl, HB, HR, HX, HS⟩ := hrel
    by_cases hlt : i < ws.length
    · have hc := HS.out i hlt
      rw [Nat.zero_add] at hc
      have HCNI := Lib.hid (HCN.out i hlt)
      have hcs := HCS.out i hi
      have h1 := HONE.out _ (getD_in hlt)
      have hxn := HSZ.out _ (getD_in hlt)
      have x2 := HX.out.c2
      have xf := HX.out.f 2
      obtain ⟨y, hy⟩ : ∃ y, catTo (copyF a) ws i = y := ⟨_, rfl⟩
      obtain ⟨x, hxx⟩ : ∃ x, ws.getD i ByteArray.empty = x := ⟨_, rfl⟩
      rw [hxx] at hc HCNI h1 hxn
      rw [hy] at x2 HCNI hcs HX
      clear hy hxx
      unfold copyF at h1
      have x8 : y.size + (x.extract a (a + 1)).size ≤ 9223372036854775807 := by rw [h1, hcs]; omega
      have x9 : ∀ w, (Op.stringOp .add y (x.extract a (a + 1))).run Try.prog w = .ok (.string (y ++ x.extract a (a + 1))) w := fun w => run_string_add_sum w _ _ x8
      have HX4 := Lib.hid (HX.out.set2 (y ++ x.extract a (a + 1)))
      have HR4 := Lib.hid (HR.out.far (b := w.heap.size + 1) (by omega) (.string (y ++ x.extract a (a + 1))))
      have HB4 := Lib.hid (HB.out.setCell (p := ⟨w.heap.size + 1, 2, none⟩) (by show w.heap.size ≤ w.heap.size + 1; omega) (.string (y ++ x.extract a (a + 1))))
      have HS4 : Hid (StrsAt (wr.setCell ⟨w.heap.size + 1, 2, none⟩ (.string (y ++ x.extract a (a + 1)))) g 0 ws) := Lib.hid fun j hj => cell_farC hne2 (HS.out j hj)
      have HCX : Hid (catTo (copyF a) ws (i + 1) = y ++ x.extract a (a + 1)) := HCNI
      have j0 : (0 : Int) ≤ (a : Int) := by omega
      have j1 : (a : Int) ≤ (a : Int) + 1 := by omega
      have j2 : (a : Int) + 1 ≤ (x.size : Int) := by rw [hxn]; omega
      have i0 : (0 : Int) ≤ (i : Int) := by omega
      have i1 : (i : Int) < (ws.length : Int) := by omega
      clear HCNI h1 hxn
      go_wp2
      go_still_tail 12, (by kernel_rfl)
      change wpList _ _ _ _ _ wr.drew
      go_wp2
      go_roundw
      case rel => exact ⟨i + 1, by omega, by go_num, Lib.hid HB4.out.drew, Lib.hid HR4.out, Lib.hid (by rw [HCX.out]; exact HX4.out), Lib.hid HS4.out⟩
      case measure => simp [intOf]; omega
    · obtain rfl : i = ws.length := by omega
      generalize catTo (copyF a) ws ws.length = y at *
      have r0 := HR.out.c0
      have r1 := HR.out.c1
      have r2 := HR.out.c2
      have f0 := HR.out.f 0
      have f1 := HR.out.f 1
      have f2 := HR.out.f 2
      have x0 := HX.out.c0
      have x1 := HX.out.c1
      have x2 := HX.out.c2
      go_wp2
      refine bodyPost_ret (results_code rfl _ _ _ 26 #[.int .i64 (k : Int), .int .i64 (n : Int), .string y] (0, 0) _ rfl (codeIn_set HR.out _ _ _) Try.underlying26 rfl (by kernel_rfl)) rfl ?_
      exact ⟨rfl, below_set HB.out (Nat.le_refl _) _ _ _⟩

theorem spec_copyCode (K N a : Int) (w : World) :
    Calls Try.prog 20 #[.int .i64 K, .int .i64 N, .int .i64 a] w (Says (CodeRes (copyB K N a) K N (copyO K N a)) w) := by
  cases h : copyB K N a with
  | false =>
    have hs := spec_copy_no K N a h w
    rw [h] at hs
    exact hs
  | true =>
    have h0 := h
    unfold copyB at h0
    simp only [Bool.and_eq_true, decide_eq_true_eq] at h0
    obtain ⟨h1, h2, h3⟩ := h0
    obtain ⟨k, n, rfl, rfl, ok⟩ := formOk_of h1
    obtain ⟨a, rfl⟩ := Int.eq_ofNat_of_zero_le h2
    have hs := spec_copy_yes k n a ok (by omega) w
    unfold copyO
    rw [Int.toNat_natCast, Int.toNat_natCast, Int.toNat_natCast]
    exact hs
end Go.Proofs.Ytogmmjiajajinaa
