/-
  The model's ComposeCodes of two codes with the same letters: as the plain words say; nothing that was there before is changed.
-/
import Derived.Test.YtogmmjiajajinaaCodeSpecF
import Derived.Lib.AtoiErrMem
namespace Go.Proofs.Ytogmmjiajajinaa
open Go Go.RowKit

set_option maxRecDepth 100000 in
set_option maxHeartbeats 3200000 in
theorem spec_compose_over (k nc nd M : Nat) (oc od : ByteArray) (okc : CodeOk k nc oc) (okd : CodeOk k nd od) (hM : nc + nd - 1 = M) (hf : codeForm (k : Int) (M : Int) = false) (w : World) :
    Calls Try.prog 17 #[.agg #[.int .i64 (k : Int), .int .i64 (nc : Int), .string oc], .agg #[.int .i64 (k : Int), .int .i64 (nd : Int), .string od]] w (Says (.tuple #[.agg #[.int .i64 0, .int .i64 0, .string ⟨#[]⟩], .bool false]) w) := by
  obtain ⟨W3, hW3, hb3, z3, k1, k2, k3⟩ := compose_start (k : Int) (nc : Int) (k : Int) (nd : Int) oc od w
  have ho : oc.size ≤ 1099511627776 := by rw [okc.len]; have := okc.le; omega
  have ho' : od.size ≤ 1099511627776 := by rw [okd.len]; have := okd.le; omega
  have hi := spec_isCode (k : Int) (nc : Int) oc ho W3
  have hi' := fun w' => spec_isCode (k : Int) (nd : Int) od ho' w'
  rw [code_is okc] at hi
  rw [code_is okd] at hi'
  have HI := Lib.hid hi
  have HI' := Lib.hid hi'
  have HK1 := Lib.hid k1
  have HK2 := Lib.hid k2
  have HK3 := Lib.hid k3
  have HB3 := Lib.hid hb3
  have HW := Lib.hid hW3
  have HZ := Lib.hid z3
  have c0 := k1.c0
  have c1 := k1.c1
  have c2 := k1.c2
  have c1n := okc.n1
  have c4n := okc.n4
  have d4n := okd.n4
  have hk3 := okc.k3
  have hk2 := okc.k2
  have e1 : wrap64 ((nc : Int) + (nd : Int)) = (nc : Int) + (nd : Int) := small_wrap (by omega)
  have hMI : (nc : Int) + (nd : Int) - 1 = (M : Int) := by omega
  have e2 : wrap64 ((nc : Int) + (nd : Int) - 1) = (M : Int) := by rw [hMI]; exact small_wrap (by omega)
  have hkk : ((k : Int) != (k : Int)) = false := by simp
  clear k1 k2 k3 hb3 hW3 z3 hi hi'
  by_cases h4 : 4 < M
  · have g4 : (4 : Int) < (M : Int) := by omega
    clear okc okd hM hMI ho ho' hf c1n c4n d4n hk2 hk3
    go_enter Try.func17, Try.ntmps17
    go_wp2_with fail
    rw [HW.out]
    refine HI.out.mono ?_
    rintro e w4 ⟨rfl, hb4⟩
    have HB4 := Lib.hid (HB3.out.trans (hb4.mono HB3.out.size))
    have HX4 : Hid (Below W3.heap.size W3 w4) := Lib.hid hb4
    have HD4 := Lib.hid (HK2.out.below hb4)
    have d0 := HD4.out.c0
    have d1 := HD4.out.c1
    have d2 := HD4.out.c2
    clear hb4
    go_wp2_with fail
    refine (HI'.out _).mono ?_
    rintro e w5 ⟨rfl, hb5⟩
    have HX5 : Hid (Below W3.heap.size W3 w5) := Lib.hid (HX4.out.trans (hb5.mono HX4.out.size))
    have HB5 := Lib.hid (HB4.out.trans (hb5.mono HB4.out.size))
    clear hb5 c0 c1 c2 d0 d1 d2
    have HT5 : Hid (TwoIn w5 w.heap.size k nc nd oc od) := Lib.hid ⟨HK1.out.below HX5.out, HK2.out.below HX5.out⟩
    obtain ⟨c0, c1, c2, d0, d1, d2⟩ := HT5.out.six
    have HR5 := Lib.hid (HK3.out.below HX5.out)
    have hz5 : w.heap.size + 2 < w5.heap.size := by have h1 := HX5.out.size; have h2 := HZ.out; omega
    -- the code that is written out, in a new block
    obtain ⟨W6, hW6⟩ : ∃ W6, w5.alloc (.cells #[.int .i64 (k : Int), .int .i64 (M : Int), .string ⟨#[]⟩] 26) = W6 := ⟨_, rfl⟩
    have hb6 : Below w5.heap.size w5 W6 := by rw [← hW6]; exact (Below.refl _ _).alloc (Nat.le_refl _) _
    have hx6 : CodeIn W6 w5.heap.size (k : Int) (M : Int) ⟨#[]⟩ := by rw [← hW6]; exact codeIn_new _ _ _ _
    have HT6 := Lib.hid (HT5.out.later hb6 (by omega))
    have HR6 := Lib.hid (HR5.out.below hb6)
    have HX6 := Lib.hid hx6
    have HB6 := Lib.hid (HB5.out.trans (hb6.mono HB5.out.size))
    have HW6 := Lib.hid hW6
    have z6 : W6.heap.size = w5.heap.size + 1 := by rw [← hW6]; exact World.size_alloc _ _
    have HZ6 := Lib.hid z6
    have HZ5 := Lib.hid hz5
    obtain ⟨p0, p1, p2, p3, p4, p5⟩ := (show TwoIn (w5.alloc (.cells #[.int .i64 (k : Int), .int .i64 (M : Int), .string ⟨#[]⟩] 26)) w.heap.size k nc nd oc od by rw [hW6]; exact HT6.out).six
    clear hx6 hb6 z6
    have r0 := HR5.out.c0
    have r1 := HR5.out.c1
    have r2 := HR5.out.c2
    have f0 := HR5.out.f 0
    have f1 := HR5.out.f 1
    have f2 := HR5.out.f 2
    have h1 : w.heap.size + 1 + 1 < w5.heap.size := HZ5.out
    have hne : ¬ (w.heap.size + 1 + 1 = w5.heap.size) := by omega
    clear hW6
    go_wp2
    refine bodyPost_ret (results_code rfl _ _ _ 26 #[.int .i64 0, .int .i64 0, .string ⟨#[]⟩] (0, 0) _ rfl ((codeIn_set HR5.out _ _ _).below ((Below.refl _ _).alloc (Nat.le_refl _) _)) Try.underlying26 rfl (by kernel_rfl)) rfl ?_
    have hbs := below_set HB5.out (show w.heap.size ≤ w.heap.size + 1 + 1 by omega) (.int .i64 0) (.int .i64 0) (.string ⟨#[]⟩)
    exact ⟨rfl, hbs.alloc hbs.size _⟩
  · have g4 : ¬ (4 : Int) < (M : Int) := by omega
    have d1n := okd.n1
    obtain ⟨P, hP⟩ : ∃ P, k ^ M = P := ⟨_, rfl⟩
    have hp := fun w => spec_codePow k M (by omega) (by omega) w
    rw [hP] at hp
    have HP := Lib.hid hp
    have g5 : (27 : Int) < (P : Int) := by
      by_cases h : (27 : Int) < (P : Int)
      · exact h
      · rw [form_is ⟨hk2, hk3, by omega, by omega, by rw [hP]; omega⟩] at hf
        cases hf
    clear hp hP okc okd hM hMI ho ho' hf c1n c4n d4n d1n hk2 hk3
    go_enter Try.func17, Try.ntmps17
    go_wp2_with fail
    rw [HW.out]
    refine HI.out.mono ?_
    rintro e w4 ⟨rfl, hb4⟩
    have HB4 := Lib.hid (HB3.out.trans (hb4.mono HB3.out.size))
    have HX4 : Hid (Below W3.heap.size W3 w4) := Lib.hid hb4
    have HD4 := Lib.hid (HK2.out.below hb4)
    have d0 := HD4.out.c0
    have d1 := HD4.out.c1
    have d2 := HD4.out.c2
    clear hb4
    go_wp2_with fail
    refine (HI'.out _).mono ?_
    rintro e w5 ⟨rfl, hb5⟩
    have HX5 : Hid (Below W3.heap.size W3 w5) := Lib.hid (HX4.out.trans (hb5.mono HX4.out.size))
    have HB5 := Lib.hid (HB4.out.trans (hb5.mono HB4.out.size))
    clear hb5 c0 c1 c2 d0 d1 d2
    have HT5 : Hid (TwoIn w5 w.heap.size k nc nd oc od) := Lib.hid ⟨HK1.out.below HX5.out, HK2.out.below HX5.out⟩
    obtain ⟨c0, c1, c2, d0, d1, d2⟩ := HT5.out.six
    have HR5 := Lib.hid (HK3.out.below HX5.out)
    have hz5 : w.heap.size + 2 < w5.heap.size := by have h1 := HX5.out.size; have h2 := HZ.out; omega
    -- the code that is written out, in a new block
    obtain ⟨W6, hW6⟩ : ∃ W6, w5.alloc (.cells #[.int .i64 (k : Int), .int .i64 (M : Int), .string ⟨#[]⟩] 26) = W6 := ⟨_, rfl⟩
    have hb6 : Below w5.heap.size w5 W6 := by rw [← hW6]; exact (Below.refl _ _).alloc (Nat.le_refl _) _
    have hx6 : CodeIn W6 w5.heap.size (k : Int) (M : Int) ⟨#[]⟩ := by rw [← hW6]; exact codeIn_new _ _ _ _
    have HT6 := Lib.hid (HT5.out.later hb6 (by omega))
    have HR6 := Lib.hid (HR5.out.below hb6)
    have HX6 := Lib.hid hx6
    have HB6 := Lib.hid (HB5.out.trans (hb6.mono HB5.out.size))
    have HW6 := Lib.hid hW6
    have z6 : W6.heap.size = w5.heap.size + 1 := by rw [← hW6]; exact World.size_alloc _ _
    have HZ6 := Lib.hid z6
    have HZ5 := Lib.hid hz5
    obtain ⟨p0, p1, p2, p3, p4, p5⟩ := (show TwoIn (w5.alloc (.cells #[.int .i64 (k : Int), .int .i64 (M : Int), .string ⟨#[]⟩] 26)) w.heap.size k nc nd oc od by rw [hW6]; exact HT6.out).six
    clear hx6 hb6 z6
    clear hW6
    go_wp2_with (first | (go_at_call 25; refine (HP.out _).mono ?_; rintro e w9 ⟨rfl, hw9⟩; have HE : Hid (w9 = W6) := Lib.hid (by rw [hw9]; exact HW6.out); have HRR : Hid (CodeIn w9 (w.heap.size + 1 + 1) 0 0 ⟨#[]⟩) := Lib.hid (by rw [HE.out]; exact HR6.out); have r0 := HRR.out.c0; have r1 := HRR.out.c1; have r2 := HRR.out.c2; have f0 := HRR.out.f 0; have f1 := HRR.out.f 1; have f2 := HRR.out.f 2; clear hw9))
    refine bodyPost_ret (results_code rfl _ _ _ 26 #[.int .i64 0, .int .i64 0, .string ⟨#[]⟩] (0, 0) _ rfl (codeIn_set HRR.out _ _ _) Try.underlying26 rfl (by kernel_rfl)) rfl ?_
    exact ⟨rfl, below_set (by rw [HE.out]; exact HB6.out) (by omega) _ _ _⟩

set_option maxRecDepth 100000 in
set_option maxHeartbeats 3200000 in
theorem spec_compose_yes (k nc nd M : Nat) (oc od : ByteArray) (okc : CodeOk k nc oc) (okd : CodeOk k nd od) (hM : nc + nd - 1 = M) (ok : FormOk k M) (w : World) :
    Calls Try.prog 17 #[.agg #[.int .i64 (k : Int), .int .i64 (nc : Int), .string oc], .agg #[.int .i64 (k : Int), .int .i64 (nd : Int), .string od]] w (Says (.tuple #[.agg #[.int .i64 (k : Int), .int .i64 (M : Int), .string (composed k nc nd oc od)], .bool true]) w) := by
  obtain ⟨W3, hW3, hb3, z3, k1, k2, k3⟩ := compose_start (k : Int) (nc : Int) (k : Int) (nd : Int) oc od w
  have ho : oc.size ≤ 1099511627776 := by rw [okc.len]; have := okc.le; omega
  have ho' : od.size ≤ 1099511627776 := by rw [okd.len]; have := okd.le; omega
  have hi := spec_isCode (k : Int) (nc : Int) oc ho W3
  have hi' := fun w' => spec_isCode (k : Int) (nd : Int) od ho' w'
  rw [code_is okc] at hi
  rw [code_is okd] at hi'
  have HI := Lib.hid hi
  have HI' := Lib.hid hi'
  have HK1 := Lib.hid k1
  have HK2 := Lib.hid k2
  have HK3 := Lib.hid k3
  have HB3 := Lib.hid hb3
  have HW := Lib.hid hW3
  have HZ := Lib.hid z3
  have c0 := k1.c0
  have c1 := k1.c1
  have c2 := k1.c2
  have c1n := okc.n1
  have c4n := okc.n4
  have d4n := okd.n4
  have hk3 := okc.k3
  have hk2 := okc.k2
  have e1 : wrap64 ((nc : Int) + (nd : Int)) = (nc : Int) + (nd : Int) := small_wrap (by omega)
  have hMI : (nc : Int) + (nd : Int) - 1 = (M : Int) := by omega
  have e2 : wrap64 ((nc : Int) + (nd : Int) - 1) = (M : Int) := by rw [hMI]; exact small_wrap (by omega)
  have hkk : ((k : Int) != (k : Int)) = false := by simp
  clear k1 k2 k3 hb3 hW3 z3 hi hi'
  have m4 := ok.n4
  have d1n := okd.n1
  have g4 : ¬ (4 : Int) < (M : Int) := by omega
  obtain ⟨P, hP⟩ : ∃ P, k ^ M = P := ⟨_, rfl⟩
  have hp := fun w => spec_codePow k M (by omega) (by omega) w
  rw [hP] at hp
  have HP := Lib.hid hp
  have g5 : ¬ (27 : Int) < (P : Int) := by rw [← hP]; have := ok.le; omega
  have HALL := Lib.hid (fun w => spec_all k M (by omega) (by omega) (by omega) (pow_upTo (by omega) ok.le) w)
  have hl27 : (allW k M).length ≤ 27 := by rw [allW_length]; exact ok.le
  have hl0 : 0 < (allW k M).length := by rw [allW_length]; exact Nat.pow_pos (by omega)
  have HAPP : Hid (∀ x ∈ allW k M, ∀ w', Calls Try.prog 30 #[.agg #[.int .i64 (k : Int), .int .i64 (nd : Int), .string od], .string x] w' (Says (.string (applied k nd od x)) w')) := Lib.hid fun x hx w' =>
    spec_apply k nd od x okd (by have := allW_size k M x hx; omega) (allW_all ok.k3 M x hx) w'
  have HLET : Hid (∀ x ∈ allW k M, ∀ w', Calls Try.prog 35 #[.agg #[.int .i64 (k : Int), .int .i64 (nc : Int), .string oc], .string (applied k nd od x)] w' (Says (.string (oneB (letterC k oc (applied k nd od x)))) w')) := Lib.hid fun x hx w' =>
    spec_letter k nc oc (applied k nd od x) okc (by rw [applied_size, allW_size k M x hx]; omega) (applied_all okd (allW_all ok.k3 M x hx)) w'
  have HCN : Hid (∀ i, i < (allW k M).length → catTo (composedF k nd od oc) (allW k M) (i + 1) = catTo (composedF k nd od oc) (allW k M) i ++ oneB (letterC k oc (applied k nd od ((allW k M).getD i ByteArray.empty)))) := Lib.hid fun i hi => catTo_next _ hi
  have HCS : Hid (∀ i, i ≤ (allW k M).length → (catTo (composedF k nd od oc) (allW k M) i).size = i) := Lib.hid fun i hi => catTo_size (fun x _ => rfl) hi
  have HV : Hid (composed k nc nd oc od = catTo (composedF k nd od oc) (allW k M) (allW k M).length) := Lib.hid (by unfold composed; rw [hM]; rfl)
  rw [HV.out]
  clear hp hP ok HV okc okd hM hMI ho ho' c1n c4n d4n d1n
  generalize allW k M = ws at *
  go_enter Try.func17, Try.ntmps17
  go_wp2_with fail
  rw [HW.out]
  refine HI.out.mono ?_
  rintro e w4 ⟨rfl, hb4⟩
  have HB4 := Lib.hid (HB3.out.trans (hb4.mono HB3.out.size))
  have HX4 : Hid (Below W3.heap.size W3 w4) := Lib.hid hb4
  have HD4 := Lib.hid (HK2.out.below hb4)
  have d0 := HD4.out.c0
  have d1 := HD4.out.c1
  have d2 := HD4.out.c2
  clear hb4
  go_wp2_with fail
  refine (HI'.out _).mono ?_
  rintro e w5 ⟨rfl, hb5⟩
  have HX5 : Hid (Below W3.heap.size W3 w5) := Lib.hid (HX4.out.trans (hb5.mono HX4.out.size))
  have HB5 := Lib.hid (HB4.out.trans (hb5.mono HB4.out.size))
  clear hb5 c0 c1 c2 d0 d1 d2
  have HT5 : Hid (TwoIn w5 w.heap.size k nc nd oc od) := Lib.hid ⟨HK1.out.below HX5.out, HK2.out.below HX5.out⟩
  obtain ⟨c0, c1, c2, d0, d1, d2⟩ := HT5.out.six
  have HR5 := Lib.hid (HK3.out.below HX5.out)
  have hz5 : w.heap.size + 2 < w5.heap.size := by have h1 := HX5.out.size; have h2 := HZ.out; omega
  -- the code that is written out, in a new block
  obtain ⟨W6, hW6⟩ : ∃ W6, w5.alloc (.cells #[.int .i64 (k : Int), .int .i64 (M : Int), .string ⟨#[]⟩] 26) = W6 := ⟨_, rfl⟩
  have hb6 : Below w5.heap.size w5 W6 := by rw [← hW6]; exact (Below.refl _ _).alloc (Nat.le_refl _) _
  have hx6 : CodeIn W6 w5.heap.size (k : Int) (M : Int) ⟨#[]⟩ := by rw [← hW6]; exact codeIn_new _ _ _ _
  have HT6 := Lib.hid (HT5.out.later hb6 (by omega))
  have HR6 := Lib.hid (HR5.out.below hb6)
  have HX6 := Lib.hid hx6
  have HB6 := Lib.hid (HB5.out.trans (hb6.mono HB5.out.size))
  have HW6 := Lib.hid hW6
  have z6 : W6.heap.size = w5.heap.size + 1 := by rw [← hW6]; exact World.size_alloc _ _
  have HZ6 := Lib.hid z6
  have HZ5 := Lib.hid hz5
  obtain ⟨p0, p1, p2, p3, p4, p5⟩ := (show TwoIn (w5.alloc (.cells #[.int .i64 (k : Int), .int .i64 (M : Int), .string ⟨#[]⟩] 26)) w.heap.size k nc nd oc od by rw [hW6]; exact HT6.out).six
  clear hx6 hb6 z6
  have HA6 := Lib.hid (HALL.out W6)
  clear hW6
  go_wp2_with (first | (go_at_call 25; refine (HP.out _).mono ?_; rintro e w9 ⟨rfl, rfl⟩))
  rw [HW6.out]
  refine HA6.out.mono ?_
  rintro e w7 hw7
  obtain ⟨v, rfl, ho7, hb7⟩ := hw7
  rcases ho7.2 with ⟨rfl, h0⟩ | ⟨g, cap, cur, rfl, _, _, _⟩
  · omega
  have HS7 := Lib.hid (StrsAt.of_owns ho7 rfl)
  have hgl := ho7.lt g rfl
  obtain ⟨G, hG⟩ : ∃ G, w5.heap.size = G := ⟨_, rfl⟩
  rw [hG] at HX6 HZ6 HZ5
  have HGe := Lib.hid hG
  have HN3 : Hid (g ≠ G) := Lib.hid (by have h1 := hgl.1; have h2 := HZ6.out; omega)
  have HN1 : Hid (G ≠ w.heap.size) := Lib.hid (by have h1 := HZ5.out; omega)
  have HN2 : Hid (G ≠ w.heap.size + 1) := Lib.hid (by have h1 := HZ5.out; omega)
  have HN4 : Hid (G ≠ w.heap.size + 1 + 1) := Lib.hid (by have h1 := HZ5.out; omega)
  have HBG : Hid (w.heap.size ≤ G) := Lib.hid (by have h1 := HZ5.out; omega)
  have HB7 := Lib.hid (HB6.out.trans (hb7.mono HB6.out.size))
  have HT7 := Lib.hid (HT6.out.later hb7 (by have h1 := HZ5.out; have h2 := HZ6.out; omega))
  have HR7 := Lib.hid (HR6.out.below hb7)
  have HX7 := Lib.hid (HX6.out.below hb7)
  clear ho7 hb7 hgl
  go_wp2
  clear hG
  go_loopw [8] (fun iv wr => ∃ i : Nat, i ≤ ws.length ∧ iv = .int .i64 (i : Int) ∧ Hid (Below w.heap.size w wr) ∧ Hid (TwoIn wr w.heap.size k nc nd oc od) ∧ Hid (CodeIn wr (w.heap.size + 1 + 1) 0 0 ⟨#[]⟩) ∧ Hid (CodeIn wr G (k : Int) (M : Int) (catTo (composedF k nd od oc) ws i)) ∧ Hid (StrsAt wr g 0 ws)) (fun iv _ => ws.length - (intOf iv).toNat)
  case atStart => exact ⟨0, Nat.zero_le _, rfl, HB7, HT7, HR7, HX7, HS7⟩
  case round =>
    clear c0 c1 c2 d0 d1 d2
    obtain ⟨i, hi, rfl, HB, HT, HR, HX, HS⟩ := hrel
    by_cases hlt : i < ws.length
    · have hc := HS.out i hlt
      rw [Nat.zero_add] at hc
      have hgl := Lib.lt_of_cell hc
      have HCNI := Lib.hid (HCN.out i hlt)
      have hcs := HCS.out i hi
      have HAX := Lib.hid (HAPP.out _ (getD_in hlt))
      have HLX := Lib.hid (HLET.out _ (getD_in hlt))
      have x2 := HX.out.c2
      obtain ⟨y, hy⟩ : ∃ y, catTo (composedF k nd od oc) ws i = y := ⟨_, rfl⟩
      obtain ⟨x, hxx⟩ : ∃ x, ws.getD i ByteArray.empty = x := ⟨_, rfl⟩
      rw [hxx] at hc HCNI HAX HLX
      rw [hy] at x2 HCNI hcs HX
      clear hy hxx
      generalize applied k nd od x = y1 at *
      obtain ⟨b, hb⟩ : ∃ b, letterC k oc y1 = b := ⟨_, rfl⟩
      rw [hb] at HCNI HLX
      clear hb
      have HCX := Lib.hid HCNI.out
      have x8 : y.size + (oneB b).size ≤ 9223372036854775807 := by rw [oneB_size, hcs]; omega
      have x9 : ∀ w, (Op.stringOp .add y (oneB b)).run Try.prog w = .ok (.string (y ++ oneB b)) w := fun w => run_string_add_sum w _ _ x8
      have i0 : (0 : Int) ≤ (i : Int) := by omega
      have i1 : (i : Int) < (ws.length : Int) := by omega
      obtain ⟨W0, rfl⟩ : ∃ W0 : World, W0 = wr := ⟨_, rfl⟩
      have s0 := HT.out.six
      have HGL : Hid (g < W0.heap.size) := Lib.hid hgl
      have HGG : Hid (G < W0.heap.size) := Lib.hid HX.out.lt
      have HLT : Hid (w.heap.size + 1 < W0.heap.size) := Lib.hid HT.out.2.lt
      clear HCNI hgl
      go_wp2
      refine wp_region_held_drew (S := (fun w' => (w'.cell? ⟨w.heap.size, 0, none⟩ = some (.int .i64 (k : Int)) ∧ w'.cell? ⟨w.heap.size, 1, none⟩ = some (.int .i64 (nc : Int)) ∧ w'.cell? ⟨w.heap.size, 2, none⟩ = some (.string oc) ∧ w'.cell? ⟨w.heap.size + 1, 0, none⟩ = some (.int .i64 (k : Int)) ∧ w'.cell? ⟨w.heap.size + 1, 1, none⟩ = some (.int .i64 (nd : Int)) ∧ w'.cell? ⟨w.heap.size + 1, 2, none⟩ = some (.string od)) ∧ w'.cell? ⟨g, i, none⟩ = some (.string x))) (by kernel_rfl) ?hS0a (fun hHeld => ?_)
      case hS0a => exact ⟨s0, hc⟩
      refine wpAnyH_take (i := 0) (v := ?v0a) rfl (by kernel_rfl) (by kernel_rfl) (by kernel_rfl) (fun _ _ _ h => h) (Or.inl ⟨by rfl, ?hy0a⟩) (by assumption) ?_
      case hy0a => (intro w hSw; (try dsimp only at hSw); go_split_ands; go_simp; try with_reducible rfl)
      try simp only [Act.put, List.getElem_toArray, List.getElem_cons_zero, List.setIfInBounds_toArray, List.set_cons_zero, List.set_cons_succ]
      refine wpAnyH_take (i := 2) (v := ?v2a) rfl (by kernel_rfl) (by kernel_rfl) (by kernel_rfl) (fun _ _ _ h => h) (Or.inl ⟨by rfl, ?hy2a⟩) (by assumption) ?_
      case hy2a => (intro w hSw; (try dsimp only at hSw); go_split_ands; go_simp; try with_reducible rfl)
      try simp only [Act.put, List.getElem_toArray, List.getElem_cons_succ, List.getElem_cons_zero, List.setIfInBounds_toArray, List.set_cons_zero, List.set_cons_succ]
      refine wpAnyH_take (i := 3) (v := ?v3a) rfl (by kernel_rfl) (by kernel_rfl) (by kernel_rfl) (fun _ _ _ h => h) (Or.inl ⟨by rfl, ?hy3a⟩) (by assumption) ?_
      case hy3a => (intro w hSw; (try dsimp only at hSw); go_split_ands; go_simp; try with_reducible rfl)
      try simp only [Act.put, List.getElem_toArray, List.getElem_cons_succ, List.getElem_cons_zero, List.setIfInBounds_toArray, List.set_cons_zero, List.set_cons_succ]
      refine wpAnyH_take (i := 4) (v := ?v4a) rfl (by kernel_rfl) (by kernel_rfl) (by kernel_rfl) (fun _ _ _ h => h) (Or.inl ⟨by rfl, ?hy4a⟩) (by assumption) ?_
      case hy4a => (intro w hSw; (try dsimp only at hSw); go_split_ands; go_simp; try with_reducible rfl)
      try simp only [Act.put, List.getElem_toArray, List.getElem_cons_succ, List.getElem_cons_zero, List.setIfInBounds_toArray, List.set_cons_zero, List.set_cons_succ]
      refine wpAnyH_take (i := 5) (v := ?v5a) rfl (by kernel_rfl) (by kernel_rfl) (by kernel_rfl) (fun _ _ _ h => h) (Or.inl ⟨by rfl, ?hy5a⟩) (by assumption) ?_
      case hy5a => (intro w hSw; (try dsimp only at hSw); go_split_ands; go_simp; try with_reducible rfl)
      try simp only [Act.put, List.getElem_toArray, List.getElem_cons_succ, List.getElem_cons_zero, List.setIfInBounds_toArray, List.set_cons_zero, List.set_cons_succ]
      refine wpAnyH_take (i := 6) (v := ?v6a) rfl (by kernel_rfl) (by kernel_rfl) (by kernel_rfl) (fun _ _ _ h => h) (Or.inl ⟨by rfl, ?hy6a⟩) (by assumption) ?_
      case hy6a => (intro w hSw; (try dsimp only at hSw); go_split_ands; go_simp; try with_reducible rfl)
      try simp only [Act.put, List.getElem_toArray, List.getElem_cons_succ, List.getElem_cons_zero, List.setIfInBounds_toArray, List.set_cons_zero, List.set_cons_succ]
      refine wpAnyH_take (i := 7) (v := ?v7a) rfl (by kernel_rfl) (by kernel_rfl) (by kernel_rfl) (fun _ _ _ h => h) (Or.inl ⟨by rfl, ?hy7a⟩) (by assumption) ?_
      case hy7a => (intro w hSw; (try dsimp only at hSw); go_split_ands; go_simp; try with_reducible rfl)
      try simp only [Act.put, List.getElem_toArray, List.getElem_cons_succ, List.getElem_cons_zero, List.setIfInBounds_toArray, List.set_cons_zero, List.set_cons_succ]
      refine wpAnyH_ready (rs := [1, 8]) (by kernel_rfl) (by simp) ?_
      refine AllReadyH.cons rfl (fun K hK => ?_) (AllReadyH.cons rfl (fun K hK => ?_) AllReadyH.nil)
      · go_simp
        refine hK.out _ _ ?hS1p (fun hHeld => ?_)
        case hS1p => (try dsimp only); exact ⟨s0, hc⟩
        clear hK K
        try simp only [Act.put, List.getElem_toArray, List.getElem_cons_succ, List.getElem_cons_zero, List.setIfInBounds_toArray, List.set_cons_zero, List.set_cons_succ]
        refine wpAnyH_ready (rs := [8]) (by kernel_rfl) (by simp) ?_
        refine AllReadyH.cons rfl (fun K hK => ?_) AllReadyH.nil
        go_simp
        go_at_call 30
        refine (HAX.out _).mono ?_
        rintro e w9 ⟨rfl, hb9⟩
        have B9 : Hid (Below W0.heap.size W0 w9) := Lib.hid ((drewN_below (Below.refl _ _) 1).trans hb9)
        have s9 := (HT.out.later B9.out HLT.out).six
        have z9 : w9.cell? ⟨g, i, none⟩ = some (.string x) := (B9.out.cell (p := ⟨g, i, none⟩) HGL.out).trans hc
        have y9 : w9.cell? ⟨G, 2, none⟩ = some (.string y) := (B9.out.cell (p := ⟨G, 2, none⟩) HGG.out).trans x2
        clear hb9
        go_wp2_with fail
        refine hK.out _ _ ?hS8p (fun hHeld => ?_)
        case hS8p => (try dsimp only); exact ⟨s9, z9⟩
        clear hK K
        try simp only [Act.put, List.getElem_toArray, List.getElem_cons_succ, List.getElem_cons_zero, List.setIfInBounds_toArray, List.set_cons_zero, List.set_cons_succ]
        refine wpAnyH_ready (rs := [9]) (by kernel_rfl) (by simp) ?_
        refine AllReadyH.cons rfl (fun K hK => ?_) AllReadyH.nil
        go_simp
        go_at_call 35
        refine (HLX.out _).mono ?_
        rintro e w10 ⟨rfl, hb10⟩
        have B10 : Hid (Below W0.heap.size W0 w10) := Lib.hid (B9.out.trans (hb10.mono B9.out.size))
        have s10 := (HT.out.later B10.out HLT.out).six
        have z10 : w10.cell? ⟨g, i, none⟩ = some (.string x) := (B10.out.cell (p := ⟨g, i, none⟩) HGL.out).trans hc
        have X10 := Lib.hid (HX.out.below B10.out)
        have y10 := X10.out.c2
        have f10 := X10.out.f 2
        clear hb10
        go_wp2_with fail
        refine hK.out _ _ ?hS9p (fun hHeld => ?_)
        case hS9p => (try dsimp only); exact ⟨s10, z10⟩
        clear hK K
        try simp only [Act.put, List.getElem_toArray, List.getElem_cons_succ, List.getElem_cons_zero, List.setIfInBounds_toArray, List.set_cons_zero, List.set_cons_succ]
        refine wpAnyH_take (i := 10) (v := ?v10p) rfl (by kernel_rfl) (by kernel_rfl) (by kernel_rfl) (fun _ _ _ h => h) (Or.inl ⟨by rfl, ?hy10p⟩) (by assumption) ?_
        case hy10p => (intro w hSw; (try dsimp only at hSw); go_split_ands; go_simp; try with_reducible rfl)
        try simp only [Act.put, List.getElem_toArray, List.getElem_cons_succ, List.getElem_cons_zero, List.setIfInBounds_toArray, List.set_cons_zero, List.set_cons_succ]
        refine wpAnyH_take (i := 11) (v := ?v11p) rfl (by kernel_rfl) (by kernel_rfl) (by kernel_rfl) (fun _ _ _ h => h) (Or.inl ⟨by rfl, ?hy11p⟩) (by assumption) ?_
        case hy11p => (intro w hSw; (try dsimp only at hSw); go_split_ands; go_simp; try with_reducible rfl)
        try simp only [Act.put, List.getElem_toArray, List.getElem_cons_succ, List.getElem_cons_zero, List.setIfInBounds_toArray, List.set_cons_zero, List.set_cons_succ]
        refine wpAnyH_ready (rs := [12]) (by kernel_rfl) (by simp) ?_
        refine AllReadyH.cons rfl (fun K hK => ?_) AllReadyH.nil
        go_simp
        refine hK.out _ _ ?hS12p (fun hHeld => ?_)
        case hS12p => (try dsimp only); exact ⟨((HT.out.later B10.out HLT.out).far HN1.out HN2.out _).six, cell_farC HN3.out z10⟩
        clear hK K
        try simp only [Act.put, List.getElem_toArray, List.getElem_cons_succ, List.getElem_cons_zero, List.setIfInBounds_toArray, List.set_cons_zero, List.set_cons_succ]
        refine wpAnyH_done (by kernel_rfl) ?_ _
        have HX4 : Hid (CodeIn (w10.setCell ⟨G, 2, none⟩ (.string (y ++ oneB b))) G (k : Int) (M : Int) (catTo (composedF k nd od oc) ws (i + 1))) := Lib.hid (by rw [HCX.out]; exact X10.out.set2 _)
        have HR4 := Lib.hid ((HR.out.below B10.out).far HN4.out (.string (y ++ oneB b)))
        have HT4 := Lib.hid ((HT.out.later B10.out HLT.out).far HN1.out HN2.out (.string (y ++ oneB b)))
        have HB4 := Lib.hid ((HB.out.trans (B10.out.mono HB.out.size)).setCell (p := ⟨G, 2, none⟩) HBG.out (.string (y ++ oneB b)))
        have HS4 : Hid (StrsAt (w10.setCell ⟨G, 2, none⟩ (.string (y ++ oneB b))) g 0 ws) := Lib.hid fun j hj => cell_farC HN3.out ((HS.out.below B10.out HGL.out) j hj)
        go_wp2
        go_roundw
        case rel => exact ⟨i + 1, by omega, by go_num, HB4, HT4, HR4, HX4, HS4⟩
        case measure => simp [intOf]; omega
      · go_simp
        go_at_call 30
        refine (HAX.out _).mono ?_
        rintro e w9 ⟨rfl, hb9⟩
        have B9 : Hid (Below W0.heap.size W0 w9) := Lib.hid ((drewN_below (Below.refl _ _) 1).trans hb9)
        have s9 := (HT.out.later B9.out HLT.out).six
        have z9 : w9.cell? ⟨g, i, none⟩ = some (.string x) := (B9.out.cell (p := ⟨g, i, none⟩) HGL.out).trans hc
        have y9 : w9.cell? ⟨G, 2, none⟩ = some (.string y) := (B9.out.cell (p := ⟨G, 2, none⟩) HGG.out).trans x2
        clear hb9
        go_wp2_with fail
        refine hK.out _ _ ?hS8q (fun hHeld => ?_)
        case hS8q => (try dsimp only); exact ⟨s9, z9⟩
        clear hK K
        try simp only [Act.put, List.getElem_toArray, List.getElem_cons_succ, List.getElem_cons_zero, List.setIfInBounds_toArray, List.set_cons_zero, List.set_cons_succ]
        refine wpAnyH_ready (rs := [1, 9]) (by kernel_rfl) (by simp) ?_
        refine AllReadyH.cons rfl (fun K hK => ?_) (AllReadyH.cons rfl (fun K hK => ?_) AllReadyH.nil)
        · go_simp
          refine hK.out _ _ ?hS1r (fun hHeld => ?_)
          case hS1r => (try dsimp only); exact ⟨s9, z9⟩
          clear hK K
          try simp only [Act.put, List.getElem_toArray, List.getElem_cons_succ, List.getElem_cons_zero, List.setIfInBounds_toArray, List.set_cons_zero, List.set_cons_succ]
          refine wpAnyH_ready (rs := [9]) (by kernel_rfl) (by simp) ?_
          refine AllReadyH.cons rfl (fun K hK => ?_) AllReadyH.nil
          go_simp
          go_at_call 35
          refine (HLX.out _).mono ?_
          rintro e w10 ⟨rfl, hb10⟩
          have B10 : Hid (Below W0.heap.size W0 w10) := Lib.hid (B9.out.trans (hb10.mono B9.out.size))
          have s10 := (HT.out.later B10.out HLT.out).six
          have z10 : w10.cell? ⟨g, i, none⟩ = some (.string x) := (B10.out.cell (p := ⟨g, i, none⟩) HGL.out).trans hc
          have X10 := Lib.hid (HX.out.below B10.out)
          have y10 := X10.out.c2
          have f10 := X10.out.f 2
          clear hb10
          go_wp2_with fail
          refine hK.out _ _ ?hS9r (fun hHeld => ?_)
          case hS9r => (try dsimp only); exact ⟨s10, z10⟩
          clear hK K
          try simp only [Act.put, List.getElem_toArray, List.getElem_cons_succ, List.getElem_cons_zero, List.setIfInBounds_toArray, List.set_cons_zero, List.set_cons_succ]
          refine wpAnyH_take (i := 10) (v := ?v10r) rfl (by kernel_rfl) (by kernel_rfl) (by kernel_rfl) (fun _ _ _ h => h) (Or.inl ⟨by rfl, ?hy10r⟩) (by assumption) ?_
          case hy10r => (intro w hSw; (try dsimp only at hSw); go_split_ands; go_simp; try with_reducible rfl)
          try simp only [Act.put, List.getElem_toArray, List.getElem_cons_succ, List.getElem_cons_zero, List.setIfInBounds_toArray, List.set_cons_zero, List.set_cons_succ]
          refine wpAnyH_take (i := 11) (v := ?v11r) rfl (by kernel_rfl) (by kernel_rfl) (by kernel_rfl) (fun _ _ _ h => h) (Or.inl ⟨by rfl, ?hy11r⟩) (by assumption) ?_
          case hy11r => (intro w hSw; (try dsimp only at hSw); go_split_ands; go_simp; try with_reducible rfl)
          try simp only [Act.put, List.getElem_toArray, List.getElem_cons_succ, List.getElem_cons_zero, List.setIfInBounds_toArray, List.set_cons_zero, List.set_cons_succ]
          refine wpAnyH_ready (rs := [12]) (by kernel_rfl) (by simp) ?_
          refine AllReadyH.cons rfl (fun K hK => ?_) AllReadyH.nil
          go_simp
          refine hK.out _ _ ?hS12r (fun hHeld => ?_)
          case hS12r => (try dsimp only); exact ⟨((HT.out.later B10.out HLT.out).far HN1.out HN2.out _).six, cell_farC HN3.out z10⟩
          clear hK K
          try simp only [Act.put, List.getElem_toArray, List.getElem_cons_succ, List.getElem_cons_zero, List.setIfInBounds_toArray, List.set_cons_zero, List.set_cons_succ]
          refine wpAnyH_done (by kernel_rfl) ?_ _
          have HX4 : Hid (CodeIn (w10.setCell ⟨G, 2, none⟩ (.string (y ++ oneB b))) G (k : Int) (M : Int) (catTo (composedF k nd od oc) ws (i + 1))) := Lib.hid (by rw [HCX.out]; exact X10.out.set2 _)
          have HR4 := Lib.hid ((HR.out.below B10.out).far HN4.out (.string (y ++ oneB b)))
          have HT4 := Lib.hid ((HT.out.later B10.out HLT.out).far HN1.out HN2.out (.string (y ++ oneB b)))
          have HB4 := Lib.hid ((HB.out.trans (B10.out.mono HB.out.size)).setCell (p := ⟨G, 2, none⟩) HBG.out (.string (y ++ oneB b)))
          have HS4 : Hid (StrsAt (w10.setCell ⟨G, 2, none⟩ (.string (y ++ oneB b))) g 0 ws) := Lib.hid fun j hj => cell_farC HN3.out ((HS.out.below B10.out HGL.out) j hj)
          go_wp2
          go_roundw
          case rel => exact ⟨i + 1, by omega, by go_num, HB4, HT4, HR4, HX4, HS4⟩
          case measure => simp [intOf]; omega
        · go_simp
          go_at_call 35
          refine (HLX.out _).mono ?_
          rintro e w10 ⟨rfl, hb10⟩
          have B10 : Hid (Below W0.heap.size W0 w10) := Lib.hid (B9.out.trans (hb10.mono B9.out.size))
          have s10 := (HT.out.later B10.out HLT.out).six
          have z10 : w10.cell? ⟨g, i, none⟩ = some (.string x) := (B10.out.cell (p := ⟨g, i, none⟩) HGL.out).trans hc
          have X10 := Lib.hid (HX.out.below B10.out)
          have y10 := X10.out.c2
          have f10 := X10.out.f 2
          clear hb10
          go_wp2_with fail
          refine hK.out _ _ ?hS9s (fun hHeld => ?_)
          case hS9s => (try dsimp only); exact ⟨s10, z10⟩
          clear hK K
          try simp only [Act.put, List.getElem_toArray, List.getElem_cons_succ, List.getElem_cons_zero, List.setIfInBounds_toArray, List.set_cons_zero, List.set_cons_succ]
          refine wpAnyH_ready (rs := [1]) (by kernel_rfl) (by simp) ?_
          refine AllReadyH.cons rfl (fun K hK => ?_) AllReadyH.nil
          go_simp
          refine hK.out _ _ ?hS1s (fun hHeld => ?_)
          case hS1s => (try dsimp only); exact ⟨s10, z10⟩
          clear hK K
          try simp only [Act.put, List.getElem_toArray, List.getElem_cons_succ, List.getElem_cons_zero, List.setIfInBounds_toArray, List.set_cons_zero, List.set_cons_succ]
          refine wpAnyH_take (i := 10) (v := ?v10s) rfl (by kernel_rfl) (by kernel_rfl) (by kernel_rfl) (fun _ _ _ h => h) (Or.inl ⟨by rfl, ?hy10s⟩) (by assumption) ?_
          case hy10s => (intro w hSw; (try dsimp only at hSw); go_split_ands; go_simp; try with_reducible rfl)
          try simp only [Act.put, List.getElem_toArray, List.getElem_cons_succ, List.getElem_cons_zero, List.setIfInBounds_toArray, List.set_cons_zero, List.set_cons_succ]
          refine wpAnyH_take (i := 11) (v := ?v11s) rfl (by kernel_rfl) (by kernel_rfl) (by kernel_rfl) (fun _ _ _ h => h) (Or.inl ⟨by rfl, ?hy11s⟩) (by assumption) ?_
          case hy11s => (intro w hSw; (try dsimp only at hSw); go_split_ands; go_simp; try with_reducible rfl)
          try simp only [Act.put, List.getElem_toArray, List.getElem_cons_succ, List.getElem_cons_zero, List.setIfInBounds_toArray, List.set_cons_zero, List.set_cons_succ]
          refine wpAnyH_ready (rs := [12]) (by kernel_rfl) (by simp) ?_
          refine AllReadyH.cons rfl (fun K hK => ?_) AllReadyH.nil
          go_simp
          refine hK.out _ _ ?hS12s (fun hHeld => ?_)
          case hS12s => (try dsimp only); exact ⟨((HT.out.later B10.out HLT.out).far HN1.out HN2.out _).six, cell_farC HN3.out z10⟩
          clear hK K
          try simp only [Act.put, List.getElem_toArray, List.getElem_cons_succ, List.getElem_cons_zero, List.setIfInBounds_toArray, List.set_cons_zero, List.set_cons_succ]
          refine wpAnyH_done (by kernel_rfl) ?_ _
          have HX4 : Hid (CodeIn (w10.setCell ⟨G, 2, none⟩ (.string (y ++ oneB b))) G (k : Int) (M : Int) (catTo (composedF k nd od oc) ws (i + 1))) := Lib.hid (by rw [HCX.out]; exact X10.out.set2 _)
          have HR4 := Lib.hid ((HR.out.below B10.out).far HN4.out (.string (y ++ oneB b)))
          have HT4 := Lib.hid ((HT.out.later B10.out HLT.out).far HN1.out HN2.out (.string (y ++ oneB b)))
          have HB4 := Lib.hid ((HB.out.trans (B10.out.mono HB.out.size)).setCell (p := ⟨G, 2, none⟩) HBG.out (.string (y ++ oneB b)))
          have HS4 : Hid (StrsAt (w10.setCell ⟨G, 2, none⟩ (.string (y ++ oneB b))) g 0 ws) := Lib.hid fun j hj => cell_farC HN3.out ((HS.out.below B10.out HGL.out) j hj)
          go_wp2
          go_roundw
          case rel => exact ⟨i + 1, by omega, by go_num, HB4, HT4, HR4, HX4, HS4⟩
          case measure => simp [intOf]; omega
    · obtain rfl : i = ws.length := by omega
      generalize catTo (composedF k nd od oc) ws ws.length = y at *
      have r0 := HR.out.c0
      have r1 := HR.out.c1
      have r2 := HR.out.c2
      have f0 := HR.out.f 0
      have f1 := HR.out.f 1
      have f2 := HR.out.f 2
      have x0 := HX.out.c0
      have x1 := HX.out.c1
      have x2 := HX.out.c2
      go_wp2
      refine bodyPost_ret (results_code rfl _ _ _ 26 #[.int .i64 (k : Int), .int .i64 (M : Int), .string y] (0, 0) _ rfl (codeIn_set HR.out _ _ _) Try.underlying26 rfl (by kernel_rfl)) rfl ?_
      exact ⟨rfl, below_set HB.out (by omega) _ _ _⟩

theorem spec_composeCodes (K N K' N' : Int) (o o' : ByteArray) (ho : o.size ≤ 1099511627776) (ho' : o'.size ≤ 1099511627776) (w : World) :
    Calls Try.prog 17 #[.agg #[.int .i64 K, .int .i64 N, .string o], .agg #[.int .i64 K', .int .i64 N', .string o']] w (Says (CodeRes (compB K N o K' N' o') K (N + N' - 1) (compO K N N' o o')) w) := by
  by_cases h : (isCodeB K N o = true ∧ isCodeB K' N' o' = true) ∧ K = K'
  · obtain ⟨⟨h1, h2⟩, rfl⟩ := h
    obtain ⟨k, nc, rfl, rfl, okc⟩ := codeOk_of h1
    obtain ⟨k', nd, e1, rfl, okd⟩ := codeOk_of h2
    obtain rfl : k = k' := by omega
    have c1 := okc.n1
    have e : (nc : Int) + (nd : Int) - 1 = ((nc + nd - 1 : Nat) : Int) := by omega
    have hB : compB (k : Int) (nc : Int) o (k : Int) (nd : Int) o' = codeForm (k : Int) ((nc + nd - 1 : Nat) : Int) := by
      unfold compB
      rw [h1, h2, e]; simp
    rw [hB, e]
    cases hf : codeForm (k : Int) ((nc + nd - 1 : Nat) : Int) with
    | false => exact spec_compose_over k nc nd (nc + nd - 1) o o' okc okd rfl hf w
    | true =>
      obtain ⟨k', n', e2, e3, ok⟩ := formOk_of hf
      obtain rfl : k = k' := by omega
      obtain rfl : nc + nd - 1 = n' := by omega
      exact spec_compose_yes k nc nd (nc + nd - 1) o o' okc okd rfl ok w
  · exact spec_compose_no K N K' N' o o' ho ho' h w
end Go.Proofs.Ytogmmjiajajinaa
