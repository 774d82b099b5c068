/-
  ParseCode: the model's and the program's, at every text: as the plain words say; nothing that was there before is changed.
-/
import Derived.Test.YtogmmjiajajinaaDoorCodeTextNum
import Derived.Test.YtogmmjiajajinaaDoorCodeSpec
import Derived.Test.YtogmmjiajajinaaDoorCodeI
import Derived.Test.YtogmmjiajajinaaDoorSplitSpec
import Derived.Test.YtogmmjiajajinaaDoorSplitImpl
import Derived.Test.YtogmmjiajajinaaDoorImplRead
namespace Go.Proofs.YtogmmjiajajinaaDoor
open Go Go.RowKit

set_option maxRecDepth 100000 in
set_option maxHeartbeats 1600000 in
theorem spec_parse_other (s : ByteArray) (hs : s.size ≤ 1048576) (h3 : ¬ (parts 32 s).length = 3) (w : World) :
    Calls Tryd.prog 9 #[.string s] w (Says (.tuple #[.agg #[.int .i64 0, .int .i64 0, .string ⟨#[]⟩], .bool false]) w) := by
  obtain ⟨W1, hW1⟩ : ∃ W1, w.alloc (.cells #[.int .i64 0, .int .i64 0, .string ⟨#[]⟩] 26) = W1 := ⟨_, rfl⟩
  have hb1 : Below w.heap.size w W1 := by rw [← hW1]; exact (Below.refl _ _).alloc (Nat.le_refl _) _
  have hr : CodeIn W1 w.heap.size 0 0 ⟨#[]⟩ := by rw [← hW1]; exact codeIn_new _ _ _ _
  have HW := Lib.hid hW1
  have HB1 := Lib.hid hb1
  have HR1 := Lib.hid hr
  have hsp := spec_split 32 s hs W1
  unfold PartsPost at hsp
  have g3 : (((parts 32 s).length : Int) != 3) = true := by rw [bne_iff_ne]; omega
  have HSP := Lib.hid hsp
  clear hW1 hb1 hr hsp h3
  generalize parts 32 s = ps at *
  go_enter Tryd.func9, Tryd.ntmps9
  go_wp2_with fail
  rw [HW.out]
  refine HSP.out.mono ?_
  rintro e w2 ⟨g, cap, rfl, ow, b2⟩
  have HB2 := Lib.hid (HB1.out.trans (b2.mono HB1.out.size))
  have HR2 := Lib.hid (HR1.out.below b2)
  have r0 := HR2.out.c0
  have r1 := HR2.out.c1
  have r2 := HR2.out.c2
  have f0 := HR2.out.f 0
  have f1 := HR2.out.f 1
  have f2 := HR2.out.f 2
  clear ow b2
  go_wp2
  refine bodyPost_ret (results_code rfl _ _ _ 26 #[.int .i64 0, .int .i64 0, .string ⟨#[]⟩] (0, 0) _ rfl (codeIn_set HR2.out _ _ _) Tryd.underlying26 rfl (by kernel_rfl)) rfl ?_
  exact ⟨rfl, below_set HB2.out (Nat.le_refl _) _ _ _⟩

set_option maxRecDepth 100000 in
set_option maxHeartbeats 3200000 in
theorem spec_parse_three (s p q r : ByteArray) (hs : s.size ≤ 1048576) (h3 : parts 32 s = [p, q, r]) (w : World) :
    Calls Tryd.prog 9 #[.string s] w (Says (.tuple #[.agg #[.int .i64 (parsedK intOfS [p, q, r]), .int .i64 (parsedN intOfS [p, q, r]), .string (parsedO intOfS [p, q, r])], .bool (parsedB intOfS [p, q, r])]) w) := by
  obtain ⟨W1, hW1⟩ : ∃ W1, w.alloc (.cells #[.int .i64 0, .int .i64 0, .string ⟨#[]⟩] 26) = W1 := ⟨_, rfl⟩
  have hb1 : Below w.heap.size w W1 := by rw [← hW1]; exact (Below.refl _ _).alloc (Nat.le_refl _) _
  have hr : CodeIn W1 w.heap.size 0 0 ⟨#[]⟩ := by rw [← hW1]; exact codeIn_new _ _ _ _
  have HW := Lib.hid hW1
  have HB1 := Lib.hid hb1
  have HR1 := Lib.hid hr
  have hsp := spec_split 32 s hs W1
  unfold PartsPost at hsp
  rw [h3] at hsp
  obtain ⟨_, htot, _⟩ := parts_facts 32 s.size s (Nat.le_refl _)
  rw [h3] at htot
  have htt : total [p, q, r] = p.size + (q.size + r.size) := by simp [total]
  have HPN : Hid (∀ x, x.size ≤ 1048576 → ∀ w', Below w.heap.size w w' → Calls Tryd.prog 18 #[.string x] w' (Says (.tuple #[.int .i64 (numV (intOfS x)), .bool (numB (intOfS x))]) w')) := Lib.hid fun x hx w' hb => spec_parseInt x (by omega) w'
  have hpz : p.size ≤ 1048576 := by omega
  have hqz : q.size ≤ 1048576 := by omega
  have hrz : r.size ≤ 1048576 := by omega
  have HP1 := Lib.hid (HPN.out p hpz)
  have HP2 := Lib.hid (HPN.out q hqz)
  have HIC := Lib.hid (fun w' => spec_isCode (numV (intOfS p)) (numV (intOfS q)) r (by omega) w')
  have HSP := Lib.hid hsp
  clear hW1 hb1 hr hsp htot htt HPN h3
  have HNB : Hid (parsedB intOfS [p, q, r] = ((numB (intOfS p) && numB (intOfS q)) && isCodeB (numV (intOfS p)) (numV (intOfS q)) r)) := Lib.hid rfl
  have HK0 : Hid (∀ b, parsedB intOfS [p, q, r] = b → parsedK intOfS [p, q, r] = if b = true then numV (intOfS p) else 0) := Lib.hid fun b h => by unfold parsedK; rw [h]; rfl
  have HN0 : Hid (∀ b, parsedB intOfS [p, q, r] = b → parsedN intOfS [p, q, r] = if b = true then numV (intOfS q) else 0) := Lib.hid fun b h => by unfold parsedN; rw [h]; rfl
  have HO0 : Hid (∀ b, parsedB intOfS [p, q, r] = b → parsedO intOfS [p, q, r] = if b = true then r else ⟨#[]⟩) := Lib.hid fun b h => by unfold parsedO; rw [h]; rfl
  generalize parsedB intOfS [p, q, r] = B at *
  generalize parsedK intOfS [p, q, r] = PK at *
  generalize parsedN intOfS [p, q, r] = PN at *
  generalize parsedO intOfS [p, q, r] = PO at *
  generalize numV (intOfS p) = a at *
  generalize numV (intOfS q) = c at *
  generalize numB (intOfS p) = ba at *
  generalize numB (intOfS q) = bc at *
  go_enter Tryd.func9, Tryd.ntmps9
  go_wp2_with fail
  rw [HW.out]
  refine HSP.out.mono ?_
  rintro e w2 ⟨g, cap, rfl, ow, b2⟩
  have hg := ow.lt g rfl
  have HB2 := Lib.hid (HB1.out.trans (b2.mono HB1.out.size))
  have HR2 := Lib.hid (HR1.out.below b2)
  have t0 : w2.cell? ⟨g, 0, none⟩ = some (.string p) := by have := ow.cellAt 0 (by simp); simpa using this
  have t1 : w2.cell? ⟨g, 1, none⟩ = some (.string q) := by have := ow.cellAt 1 (by simp); simpa using this
  have t2 : w2.cell? ⟨g, 2, none⟩ = some (.string r) := by have := ow.cellAt 2 (by simp); simpa using this
  have T1 := Lib.hid t1
  have T2 := Lib.hid t2
  have HG := Lib.hid hg.2
  clear ow b2 hg t1 t2
  go_wp2_with fail
  refine (HP1.out _ HB2.out).mono ?_
  rintro e w3 ⟨rfl, b3⟩
  have HB3 := Lib.hid (HB2.out.trans (b3.mono HB2.out.size))
  have HR3 := Lib.hid (HR2.out.below b3)
  have t1 := (b3.cell (p := ⟨g, 1, none⟩) HG.out).trans T1.out
  have U2 := Lib.hid ((b3.cell (p := ⟨g, 2, none⟩) HG.out).trans T2.out)
  have HG3 : Hid (g < w3.heap.size) := Lib.hid (Nat.lt_of_lt_of_le HG.out b3.size)
  clear b3 t0
  go_wp2_with fail
  refine (HP2.out _ HB3.out).mono ?_
  rintro e w4 ⟨rfl, b4⟩
  have HB4 := Lib.hid (HB3.out.trans (b4.mono HB3.out.size))
  have HR4 := Lib.hid (HR3.out.below b4)
  have t2 := (b4.cell (p := ⟨g, 2, none⟩) HG3.out).trans U2.out
  have hl4 : w.heap.size < w4.heap.size := HR4.out.lt
  have hne4 : ¬ (w.heap.size = w4.heap.size) := by omega
  clear b4 t1
  have r0 := HR4.out.c0
  have r1 := HR4.out.c1
  have r2 := HR4.out.c2
  have f0 := HR4.out.f 0
  have f1 := HR4.out.f 1
  have f2 := HR4.out.f 2
  cases ba with
  | false =>
    have hB : B = false := by rw [HNB.out]; simp
    have HX := Lib.hid (And.intro (HK0.out false hB) (And.intro (HN0.out false hB) (And.intro (HO0.out false hB) hB)))
    clear hB
    go_wp2
    obtain ⟨rfl, rfl, rfl, rfl⟩ := HX.out
    refine bodyPost_ret (results_code rfl _ _ _ 26 #[.int .i64 0, .int .i64 0, .string ⟨#[]⟩] (0, 0) _ rfl ((codeIn_set HR4.out _ _ _).below ((Below.refl _ _).alloc (Nat.le_refl _) _)) Tryd.underlying26 rfl (by kernel_rfl)) rfl ?_
    have hbs := below_set HB4.out (Nat.le_refl _) (.int .i64 0) (.int .i64 0) (.string ⟨#[]⟩)
    exact ⟨rfl, hbs.alloc hbs.size _⟩
  | true =>
    cases bc with
    | false =>
      have hB : B = false := by rw [HNB.out]; simp
      have HX := Lib.hid (And.intro (HK0.out false hB) (And.intro (HN0.out false hB) (And.intro (HO0.out false hB) hB)))
      clear hB
      go_wp2
      obtain ⟨rfl, rfl, rfl, rfl⟩ := HX.out
      refine bodyPost_ret (results_code rfl _ _ _ 26 #[.int .i64 0, .int .i64 0, .string ⟨#[]⟩] (0, 0) _ rfl ((codeIn_set HR4.out _ _ _).below ((Below.refl _ _).alloc (Nat.le_refl _) _)) Tryd.underlying26 rfl (by kernel_rfl)) rfl ?_
      have hbs := below_set HB4.out (Nat.le_refl _) (.int .i64 0) (.int .i64 0) (.string ⟨#[]⟩)
      exact ⟨rfl, hbs.alloc hbs.size _⟩
    | true =>
      have hb5 : Below w4.heap.size w4 (w4.alloc (.cells #[.int .i64 a, .int .i64 c, .string r] 26)) := (Below.refl _ _).alloc (Nat.le_refl _) _
      have HB5 := Lib.hid (HB4.out.trans (hb5.mono HB4.out.size))
      have HR5 := Lib.hid (HR4.out.below hb5)
      have HX5 := Lib.hid (codeIn_new w4 a c r)
      clear hb5 r0 r1 r2 f0 f1 f2
      go_wp2_with fail
      refine (HIC.out _).mono ?_
      rintro e w6 ⟨rfl, b6⟩
      have HB6 := Lib.hid (HB5.out.trans (b6.mono HB5.out.size))
      have HR6 := Lib.hid (HR5.out.below b6)
      have HX6 := Lib.hid (HX5.out.below b6)
      have r0 := HR6.out.c0
      have r1 := HR6.out.c1
      have r2 := HR6.out.c2
      have f0 := HR6.out.f 0
      have f1 := HR6.out.f 1
      have f2 := HR6.out.f 2
      have y0 := HX6.out.c0
      have y1 := HX6.out.c1
      have y2 := HX6.out.c2
      clear b6
      cases hc : isCodeB a c r with
      | false =>
        have hB : B = false := by rw [HNB.out, hc]; rfl
        have HX := Lib.hid (And.intro (HK0.out false hB) (And.intro (HN0.out false hB) (And.intro (HO0.out false hB) hB)))
        clear hB hc
        go_wp2
        obtain ⟨rfl, rfl, rfl, rfl⟩ := HX.out
        refine bodyPost_ret (results_code rfl _ _ _ 26 #[.int .i64 0, .int .i64 0, .string ⟨#[]⟩] (0, 0) _ rfl (codeIn_set HR6.out _ _ _) Tryd.underlying26 rfl (by kernel_rfl)) rfl ?_
        exact ⟨rfl, below_set HB6.out (Nat.le_refl _) _ _ _⟩
      | true =>
        have hB : B = true := by rw [HNB.out, hc]; rfl
        have HX := Lib.hid (And.intro (HK0.out true hB) (And.intro (HN0.out true hB) (And.intro (HO0.out true hB) hB)))
        clear hB hc
        go_wp2
        obtain ⟨rfl, rfl, rfl, rfl⟩ := HX.out
        refine bodyPost_ret (results_code rfl _ _ _ 26 _ (0, 0) _ rfl (codeIn_set HR6.out _ _ _) Tryd.underlying26 rfl (by kernel_rfl)) rfl ?_
        exact ⟨rfl, below_set HB6.out (Nat.le_refl _) _ _ _⟩

theorem spec_parseCode (s : ByteArray) (hs : s.size ≤ 1048576) (w : World) :
    Calls Tryd.prog 9 #[.string s] w (Says (.tuple #[.agg #[.int .i64 (parsedK intOfS (parts 32 s)), .int .i64 (parsedN intOfS (parts 32 s)), .string (parsedO intOfS (parts 32 s))], .bool (parsedB intOfS (parts 32 s))]) w) := by
  by_cases h : (parts 32 s).length = 3
  · obtain ⟨p, q, r, h3⟩ : ∃ p q r, parts 32 s = [p, q, r] := by
      match h0 : parts 32 s, h with
      | [p, q, r], _ => exact ⟨p, q, r, rfl⟩
    rw [h3]
    exact spec_parse_three s p q r hs h3 w
  · have hB : parsedB intOfS (parts 32 s) = false := by
      rw [← Bool.not_eq_true]
      intro hb
      obtain ⟨p, q, r, h3⟩ := parsed_three hb
      rw [h3] at h
      exact h rfl
    unfold parsedK parsedN parsedO
    rw [hB]
    exact spec_parse_other s hs h w

set_option maxRecDepth 100000 in
set_option maxHeartbeats 1600000 in
theorem impl_parse_other (s : ByteArray) (hs : s.size ≤ 1048576) (h3 : ¬ (parts 32 s).length = 3) (w : World) (hsh : w.ShapedOpen Tryd.prog) :
    Calls Tryd.prog 10 #[.string s] w (Says (.tuple #[.agg #[.int .i64 0, .int .i64 0, .string ⟨#[]⟩], .bool false]) w) := by
  obtain ⟨W1, hW1⟩ : ∃ W1, w.alloc (.cells #[.int .i64 0, .int .i64 0, .string ⟨#[]⟩] 26) = W1 := ⟨_, rfl⟩
  have hb1 : Below w.heap.size w W1 := by rw [← hW1]; exact (Below.refl _ _).alloc (Nat.le_refl _) _
  have hr : CodeIn W1 w.heap.size 0 0 ⟨#[]⟩ := by rw [← hW1]; exact codeIn_new _ _ _ _
  have HW := Lib.hid hW1
  have HB1 := Lib.hid hb1
  have HR1 := Lib.hid hr
  have hsp := impl_split 32 s hs W1 (shaped_below hsh hb1)
  unfold PartsPost at hsp
  have g3 : (((parts 32 s).length : Int) != 3) = true := by rw [bne_iff_ne]; omega
  have HSP := Lib.hid hsp
  clear hW1 hb1 hr hsp h3 hsh
  generalize parts 32 s = ps at *
  go_enter Tryd.func10, Tryd.ntmps10
  go_wp2_with fail
  rw [HW.out]
  refine HSP.out.mono ?_
  rintro e w2 ⟨g, cap, rfl, ow, b2⟩
  have HB2 := Lib.hid (HB1.out.trans (b2.mono HB1.out.size))
  have HR2 := Lib.hid (HR1.out.below b2)
  have r0 := HR2.out.c0
  have r1 := HR2.out.c1
  have r2 := HR2.out.c2
  have f0 := HR2.out.f 0
  have f1 := HR2.out.f 1
  have f2 := HR2.out.f 2
  clear ow b2
  go_wp2
  refine bodyPost_ret (results_code rfl _ _ _ 26 #[.int .i64 0, .int .i64 0, .string ⟨#[]⟩] (0, 0) _ rfl (codeIn_set HR2.out _ _ _) Tryd.underlying26 rfl (by kernel_rfl)) rfl ?_
  exact ⟨rfl, below_set HB2.out (Nat.le_refl _) _ _ _⟩

set_option maxRecDepth 100000 in
set_option maxHeartbeats 3200000 in
theorem impl_parse_three (s p q r : ByteArray) (hs : s.size ≤ 1048576) (h3 : parts 32 s = [p, q, r]) (w : World) (hsh : w.ShapedOpen Tryd.prog) (hpw : Pow w) (her : Errs w) :
    Calls Tryd.prog 10 #[.string s] w (Says (.tuple #[.agg #[.int .i64 (parsedK numOfS [p, q, r]), .int .i64 (parsedN numOfS [p, q, r]), .string (parsedO numOfS [p, q, r])], .bool (parsedB numOfS [p, q, r])]) w) := by
  obtain ⟨W1, hW1⟩ : ∃ W1, w.alloc (.cells #[.int .i64 0, .int .i64 0, .string ⟨#[]⟩] 26) = W1 := ⟨_, rfl⟩
  have hb1 : Below w.heap.size w W1 := by rw [← hW1]; exact (Below.refl _ _).alloc (Nat.le_refl _) _
  have hr : CodeIn W1 w.heap.size 0 0 ⟨#[]⟩ := by rw [← hW1]; exact codeIn_new _ _ _ _
  have HW := Lib.hid hW1
  have HB1 := Lib.hid hb1
  have HR1 := Lib.hid hr
  have hsp := impl_split 32 s hs W1 (shaped_below hsh hb1)
  unfold PartsPost at hsp
  rw [h3] at hsp
  obtain ⟨_, htot, _⟩ := parts_facts 32 s.size s (Nat.le_refl _)
  rw [h3] at htot
  have htt : total [p, q, r] = p.size + (q.size + r.size) := by simp [total]
  have HPN : Hid (∀ x, x.size ≤ 1048576 → ∀ w', Below w.heap.size w w' → Calls Tryd.prog 20 #[.string x] w' (Says (.tuple #[.int .i64 (numV (numOfS x)), .bool (numB (numOfS x))]) w')) := Lib.hid fun x hx w' hb => impl_parseNumber x (by omega) w' (hpw.below hb) (her.below hb)
  have hpz : p.size ≤ 1048576 := by omega
  have hqz : q.size ≤ 1048576 := by omega
  have hrz : r.size ≤ 1048576 := by omega
  have HP1 := Lib.hid (HPN.out p hpz)
  have HP2 := Lib.hid (HPN.out q hqz)
  have HIC := Lib.hid (fun w' => impl_isCode (numV (numOfS p)) (numV (numOfS q)) r (by omega) w')
  have HSP := Lib.hid hsp
  clear hW1 hb1 hr hsp htot htt HPN h3 hsh hpw her
  have HNB : Hid (parsedB numOfS [p, q, r] = ((numB (numOfS p) && numB (numOfS q)) && isCodeB (numV (numOfS p)) (numV (numOfS q)) r)) := Lib.hid rfl
  have HK0 : Hid (∀ b, parsedB numOfS [p, q, r] = b → parsedK numOfS [p, q, r] = if b = true then numV (numOfS p) else 0) := Lib.hid fun b h => by unfold parsedK; rw [h]; rfl
  have HN0 : Hid (∀ b, parsedB numOfS [p, q, r] = b → parsedN numOfS [p, q, r] = if b = true then numV (numOfS q) else 0) := Lib.hid fun b h => by unfold parsedN; rw [h]; rfl
  have HO0 : Hid (∀ b, parsedB numOfS [p, q, r] = b → parsedO numOfS [p, q, r] = if b = true then r else ⟨#[]⟩) := Lib.hid fun b h => by unfold parsedO; rw [h]; rfl
  generalize parsedB numOfS [p, q, r] = B at *
  generalize parsedK numOfS [p, q, r] = PK at *
  generalize parsedN numOfS [p, q, r] = PN at *
  generalize parsedO numOfS [p, q, r] = PO at *
  generalize numV (numOfS p) = a at *
  generalize numV (numOfS q) = c at *
  generalize numB (numOfS p) = ba at *
  generalize numB (numOfS q) = bc at *
  go_enter Tryd.func10, Tryd.ntmps10
  go_wp2_with fail
  rw [HW.out]
  refine HSP.out.mono ?_
  rintro e w2 ⟨g, cap, rfl, ow, b2⟩
  have hg := ow.lt g rfl
  have HB2 := Lib.hid (HB1.out.trans (b2.mono HB1.out.size))
  have HR2 := Lib.hid (HR1.out.below b2)
  have t0 : w2.cell? ⟨g, 0, none⟩ = some (.string p) := by have := ow.cellAt 0 (by simp); simpa using this
  have t1 : w2.cell? ⟨g, 1, none⟩ = some (.string q) := by have := ow.cellAt 1 (by simp); simpa using this
  have t2 : w2.cell? ⟨g, 2, none⟩ = some (.string r) := by have := ow.cellAt 2 (by simp); simpa using this
  have T1 := Lib.hid t1
  have T2 := Lib.hid t2
  have HG := Lib.hid hg.2
  clear ow b2 hg t1 t2
  go_wp2_with fail
  refine (HP1.out _ HB2.out).mono ?_
  rintro e w3 ⟨rfl, b3⟩
  have HB3 := Lib.hid (HB2.out.trans (b3.mono HB2.out.size))
  have HR3 := Lib.hid (HR2.out.below b3)
  have t1 := (b3.cell (p := ⟨g, 1, none⟩) HG.out).trans T1.out
  have U2 := Lib.hid ((b3.cell (p := ⟨g, 2, none⟩) HG.out).trans T2.out)
  have HG3 : Hid (g < w3.heap.size) := Lib.hid (Nat.lt_of_lt_of_le HG.out b3.size)
  clear b3 t0
  go_wp2_with fail
  refine (HP2.out _ HB3.out).mono ?_
  rintro e w4 ⟨rfl, b4⟩
  have HB4 := Lib.hid (HB3.out.trans (b4.mono HB3.out.size))
  have HR4 := Lib.hid (HR3.out.below b4)
  have t2 := (b4.cell (p := ⟨g, 2, none⟩) HG3.out).trans U2.out
  have hl4 : w.heap.size < w4.heap.size := HR4.out.lt
  have hne4 : ¬ (w.heap.size = w4.heap.size) := by omega
  clear b4 t1
  have r0 := HR4.out.c0
  have r1 := HR4.out.c1
  have r2 := HR4.out.c2
  have f0 := HR4.out.f 0
  have f1 := HR4.out.f 1
  have f2 := HR4.out.f 2
  cases ba with
  | false =>
    have hB : B = false := by rw [HNB.out]; simp
    have HX := Lib.hid (And.intro (HK0.out false hB) (And.intro (HN0.out false hB) (And.intro (HO0.out false hB) hB)))
    clear hB
    go_wp2
    obtain ⟨rfl, rfl, rfl, rfl⟩ := HX.out
    refine bodyPost_ret (results_code rfl _ _ _ 26 #[.int .i64 0, .int .i64 0, .string ⟨#[]⟩] (0, 0) _ rfl ((codeIn_set HR4.out _ _ _).below ((Below.refl _ _).alloc (Nat.le_refl _) _)) Tryd.underlying26 rfl (by kernel_rfl)) rfl ?_
    have hbs := below_set HB4.out (Nat.le_refl _) (.int .i64 0) (.int .i64 0) (.string ⟨#[]⟩)
    exact ⟨rfl, hbs.alloc hbs.size _⟩
  | true =>
    cases bc with
    | false =>
      have hB : B = false := by rw [HNB.out]; simp
      have HX := Lib.hid (And.intro (HK0.out false hB) (And.intro (HN0.out false hB) (And.intro (HO0.out false hB) hB)))
      clear hB
      go_wp2
      obtain ⟨rfl, rfl, rfl, rfl⟩ := HX.out
      refine bodyPost_ret (results_code rfl _ _ _ 26 #[.int .i64 0, .int .i64 0, .string ⟨#[]⟩] (0, 0) _ rfl ((codeIn_set HR4.out _ _ _).below ((Below.refl _ _).alloc (Nat.le_refl _) _)) Tryd.underlying26 rfl (by kernel_rfl)) rfl ?_
      have hbs := below_set HB4.out (Nat.le_refl _) (.int .i64 0) (.int .i64 0) (.string ⟨#[]⟩)
      exact ⟨rfl, hbs.alloc hbs.size _⟩
    | true =>
      have hb5 : Below w4.heap.size w4 (w4.alloc (.cells #[.int .i64 a, .int .i64 c, .string r] 26)) := (Below.refl _ _).alloc (Nat.le_refl _) _
      have HB5 := Lib.hid (HB4.out.trans (hb5.mono HB4.out.size))
      have HR5 := Lib.hid (HR4.out.below hb5)
      have HX5 := Lib.hid (codeIn_new w4 a c r)
      clear hb5 r0 r1 r2 f0 f1 f2
      go_wp2_with fail
      refine (HIC.out _).mono ?_
      rintro e w6 ⟨rfl, b6⟩
      have HB6 := Lib.hid (HB5.out.trans (b6.mono HB5.out.size))
      have HR6 := Lib.hid (HR5.out.below b6)
      have HX6 := Lib.hid (HX5.out.below b6)
      have r0 := HR6.out.c0
      have r1 := HR6.out.c1
      have r2 := HR6.out.c2
      have f0 := HR6.out.f 0
      have f1 := HR6.out.f 1
      have f2 := HR6.out.f 2
      have y0 := HX6.out.c0
      have y1 := HX6.out.c1
      have y2 := HX6.out.c2
      clear b6
      cases hc : isCodeB a c r with
      | false =>
        have hB : B = false := by rw [HNB.out, hc]; rfl
        have HX := Lib.hid (And.intro (HK0.out false hB) (And.intro (HN0.out false hB) (And.intro (HO0.out false hB) hB)))
        clear hB hc
        go_wp2
        obtain ⟨rfl, rfl, rfl, rfl⟩ := HX.out
        refine bodyPost_ret (results_code rfl _ _ _ 26 #[.int .i64 0, .int .i64 0, .string ⟨#[]⟩] (0, 0) _ rfl (codeIn_set HR6.out _ _ _) Tryd.underlying26 rfl (by kernel_rfl)) rfl ?_
        exact ⟨rfl, below_set HB6.out (Nat.le_refl _) _ _ _⟩
      | true =>
        have hB : B = true := by rw [HNB.out, hc]; rfl
        have HX := Lib.hid (And.intro (HK0.out true hB) (And.intro (HN0.out true hB) (And.intro (HO0.out true hB) hB)))
        clear hB hc
        go_wp2
        obtain ⟨rfl, rfl, rfl, rfl⟩ := HX.out
        refine bodyPost_ret (results_code rfl _ _ _ 26 _ (0, 0) _ rfl (codeIn_set HR6.out _ _ _) Tryd.underlying26 rfl (by kernel_rfl)) rfl ?_
        exact ⟨rfl, below_set HB6.out (Nat.le_refl _) _ _ _⟩

theorem impl_parseCode (s : ByteArray) (hs : s.size ≤ 1048576) (w : World) (hsh : w.ShapedOpen Tryd.prog) (hpw : Pow w) (her : Errs w) :
    Calls Tryd.prog 10 #[.string s] w (Says (.tuple #[.agg #[.int .i64 (parsedK numOfS (parts 32 s)), .int .i64 (parsedN numOfS (parts 32 s)), .string (parsedO numOfS (parts 32 s))], .bool (parsedB numOfS (parts 32 s))]) w) := by
  by_cases h : (parts 32 s).length = 3
  · obtain ⟨p, q, r, h3⟩ : ∃ p q r, parts 32 s = [p, q, r] := by
      match h0 : parts 32 s, h with
      | [p, q, r], _ => exact ⟨p, q, r, rfl⟩
    rw [h3]
    exact impl_parse_three s p q r hs h3 w hsh hpw her
  · have hB : parsedB numOfS (parts 32 s) = false := by
      rw [← Bool.not_eq_true]
      intro hb
      obtain ⟨p, q, r, h3⟩ := parsed_three hb
      rw [h3] at h
      exact h rfl
    unfold parsedK parsedN parsedO
    rw [hB]
    exact impl_parse_other s hs h w hsh
end Go.Proofs.YtogmmjiajajinaaDoor
