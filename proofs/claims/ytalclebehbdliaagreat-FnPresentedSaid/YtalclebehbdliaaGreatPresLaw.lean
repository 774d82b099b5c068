/-
  The law on graphs of shifts: whatever the bytes it returns true; nothing that was there before is changed. Over the program's contracts.
-/
import Derived.Test.YtalclebehbdliaaGreatDrawAreS
import Derived.Test.YtalclebehbdliaaGreatPresLawNum
import Derived.Test.YtalclebehbdliaaGreatPresLawOps
import Derived.Test.YtalclebehbdliaaGreatMidTexts
import Derived.Test.YtalclebehbdliaaGreatPresCount
import Derived.Test.YtalclebehbdliaaGreatCompTexts
import Derived.Test.YtalclebehbdliaaGreatPConnI
import Derived.Test.YtalclebehbdliaaGreatPMissI
import Derived.Test.YtalclebehbdliaaGreatPMeetI
import Derived.Test.YtalclebehbdliaaGreatAreI
import Derived.Test.YtalclebehbdliaaGreatStatesI
import Derived.Test.YtalclebehbdliaaGreatLangListSpec
import Derived.Test.YtalclebehbdliaaGreatSameLists
import Derived.Test.YtalclebehbdliaaGreatFactTexts
import Derived.Test.YtalclebehbdliaaGreatGraphTrim
import Derived.Test.YtalclebehbdliaaGreatBig
import Derived.BigRegion
import Derived.Deep.RegionHeld3
import Derived.Deep.CutRange
namespace Go.Proofs.YtalclebehbdliaaGreat
open Go Go.RowKit

theorem blw {w w1 w2 : World} (h : Below w.heap.size w w1) (k : Below w1.heap.size w1 w2) : Below w.heap.size w w2 := h.trans (k.mono h.size)
theorem SmallM.of8 {ps : List ByteArray} (h : ps.length ≤ 8) (h3 : ∀ x ∈ ps, x.size ≤ 3) : SmallM ps := ⟨by omega, fun x hx => by have := h3 x hx; omega⟩
/-- A table and a bool; a shift and a bool. -/
def GB (m : List (List Int)) (b : Bool) (w : World) (e : Ending) (w' : World) : Prop := ∃ A c, e = .returned (.tuple #[.slice A m.length c, .bool b]) ∧ GridS w' A m ∧ Below w.heap.size w w'
def SB (L : Int) (ps : List ByteArray) (b : Bool) (w : World) (e : Ending) (w' : World) : Prop := ∃ A c, e = .returned (.tuple #[.agg #[.int .i64 L, .slice A ps.length c], .bool b]) ∧ RowAt w' A ps ∧ StrsG w' A ps ∧ Below w.heap.size w w'
theorem NewGB.gb {o : Option (List (List Int))} {m : List (List Int)} {b : Bool} (h1 : o.getD [] = m) (h2 : o.isSome = b) {w : World} {e : Ending} {w' : World} (h : NewGB o w e w') : GB m b w e w' := by
  obtain ⟨v, he, ho, hb⟩ := h
  rw [h1] at ho
  rw [h2] at he
  obtain ⟨A, c, rfl, hg⟩ := ho.gridV
  exact ⟨A, c, he, hg, hb⟩
theorem NewShB.sb {o : Option (Int × List ByteArray)} {L : Int} {ps : List ByteArray} {b : Bool} (h1 : o.getD (0, []) = (L, ps)) (h2 : o.isSome = b) {w : World} {e : Ending} {w' : World} (h : NewShB o w e w') : SB L ps b w e w' := by
  obtain ⟨v, he, ho, hb⟩ := h
  rw [h1] at ho
  rw [h2] at he
  obtain ⟨A, c, rfl, hg⟩ := ho
  exact ⟨A, c, he, rowAt_of_owns hg, strsG_of_owns hg, hb⟩
/-- What the law asks of a shift that may be. -/
theorem forb_facts (L : Int) (ps : List ByteArray) : ∃ fL fs fb, (forbS L ps).getD (0, []) = (fL, fs) ∧ (forbS L ps).isSome = fb ∧ SmallM fs ∧ (fb = true → areS fL fs L ps = true) := by
  cases h : forbS L ps with
  | none => exact ⟨0, [], false, rfl, rfl, SmallM.of8 (by simp) (by simp), by simp⟩
  | some p =>
    obtain ⟨fL, fs⟩ := p
    obtain ⟨h8, h3⟩ := forb_len h
    exact ⟨fL, fs, true, rfl, rfl, SmallM.of8 h8 h3, fun _ => forb_same h⟩
theorem meet_facts (L : Int) (ps : List ByteArray) (L' : Int) (qs : List ByteArray) : ∃ mL ms mb, (meetS L ps L' qs).getD (0, []) = (mL, ms) ∧ (meetS L ps L' qs).isSome = mb ∧ SmallM ms ∧ (mb = true → ∀ k, k < (langOfS mL ms 3).length → inLangS L ps ((langOfS mL ms 3).getD k ByteArray.empty) = true ∧ inLangS L' qs ((langOfS mL ms 3).getD k ByteArray.empty) = true) := by
  cases h : meetS L ps L' qs with
  | none => exact ⟨0, [], false, rfl, rfl, SmallM.of8 (by simp) (by simp), by simp⟩
  | some p =>
    obtain ⟨mL, ms⟩ := p
    obtain ⟨h8, h3⟩ := meet_len h
    exact ⟨mL, ms, true, rfl, rfl, SmallM.of8 h8 h3, fun _ k hk => meet_in h _ (getD_memS hk)⟩
theorem graph_facts (L n : Int) (ps : List ByteArray) : ∃ gm gb, (graphS L ps).getD [] = gm ∧ (graphS L ps).isSome = gb ∧ (gm.length ≤ 9 ∧ tot gm ≤ 1048576 ∧ ∀ k, k < gm.length → (gm.getD k []).length ≤ 9) ∧ (gb = true → isLivelyM gm = true ∧ gm.length = (langOfS L ps 2).length) ∧ (gb = true → 2 ≤ n → n ≤ 8 → countS L n ps = countM gm (n - 2)) := by
  cases h : graphS L ps with
  | none => exact ⟨[], false, rfl, rfl, ⟨by simp, by simp [tot], by simp⟩, by simp, by simp⟩
  | some m =>
    obtain ⟨h9, ht, hr, -⟩ := graphS_size h
    exact ⟨m, true, rfl, rfl, ⟨h9, ht, hr⟩, fun _ => graph_live h, fun _ h2 h8 => count_graph h h2 h8⟩

set_option maxRecDepth 100000 in
set_option maxHeartbeats 16000000 in
theorem law_presented (a : Option Addr) (n cp : Nat) (w : World) (hcode : n ≤ 1048576 → CodeAt w w.heap.size a n) (hsh : ∀ w', Below w.heap.size w w' → w'.ShapedOpen Tryz.prog) :
    Calls Tryz.prog 3 #[.slice a n cp] w fun e w' => e = .returned (.bool true) ∧ Below w.heap.size w w' := by
  by_cases hle : n ≤ 1048576
  · have HG := Lib.hid (big_is a n cp false (by simp; omega) w)
    have D1 := Lib.hid (draw_countWords a n cp w (hcode hle) hle)
    have HCODE := Lib.hid (fun w' (hb : Below w.heap.size w w') => draw_areSame a n cp w' (codeAt_after (hcode hle) hb) hle)
    have HSH := Lib.hid (fun w' (hb : Below w.heap.size w w') w2 (h2 : Below w'.heap.size w' w2) => hsh w2 (blw hb h2))
    clear hcode hsh
    go_enter Tryz.func3, Tryz.ntmps3
    go_wp2_with fail
    refine HG.out.mono ?_
    rintro e w0 ⟨rfl, rfl⟩
    go_wp2_with fail
    refine D1.out.mono ?_
    rintro e w1 ⟨L, G, c, ps, m, rfl, hs1, hsm, hm, hb1⟩
    obtain ⟨fL, fs, fb, hf1, hf2, hfm, hfa⟩ := forb_facts L ps
    obtain ⟨gm, gb, hg1, hg2, hgz, hgl, hgc⟩ := graph_facts L m ps
    obtain ⟨cw, hcw⟩ : ∃ x, countS L m ps = x := ⟨_, rfl⟩
    have HCL : Hid (0 ≤ cw → m ≤ 6 → cw = ((langOfS L ps m).length : Int)) := Lib.hid fun h h6 => by rw [← hcw] at h ⊢; exact count_lang h h6
    rw [hcw] at hgc
    obtain ⟨z1, z2⟩ := hsm.sizes
    obtain ⟨u1, hu1⟩ : ∃ u, w1.alloc (.cells #[.int .i64 L, .slice G ps.length c] 26) = u := ⟨_, rfl⟩
    have su1 : w1.heap.size + 1 ≤ u1.heap.size := by rw [← hu1, World.size_alloc]; omega
    have bu1 : Below w1.heap.size w1 u1 := by rw [← hu1]; exact (Below.refl _ _).alloc (Nat.le_refl _) _
    have k3 : u1.heap[w1.heap.size]? = some (.cells #[.int .i64 L, .slice G ps.length c] 26) := by rw [← hu1]; exact heap_alloc_new w1 _
    have HP : Hid (∀ w', Below u1.heap.size u1 w' → StrsG w' G ps) := Lib.hid (fun w' h => (hs1.below bu1).below h)
    have HK3 : Hid (∀ w', Below u1.heap.size u1 w' → w'.heap[w1.heap.size]? = some (.cells #[.int .i64 L, .slice G ps.length c] 26)) := Lib.hid (fun w' h => (h.block w1.heap.size (by omega)).trans k3)
    have HW : Hid (∀ w', Below u1.heap.size u1 w' → Below w.heap.size w w') := Lib.hid (fun w' h => blw (blw hb1 bu1) h)
    have IC := Lib.hid (fun w' (h : Below u1.heap.size u1 w') => impl_countWords L m G c ps z1 z2 w' (HP.out w' h) (HSH.out w' (HW.out w' h)))
    have SC := Lib.hid (fun w' (h : Below u1.heap.size u1 w') => spec_countWords L m G c ps z1 z2 w' (HP.out w' h))
    rw [hcw] at IC SC
    have IG := Lib.hid (fun w' (h : Below u1.heap.size u1 w') => (impl_graphOf L G c ps z1 z2 w' (HP.out w' h) (HSH.out w' (HW.out w' h))).mono fun _ _ => NewGB.gb hg1 hg2)
    have SG := Lib.hid (fun w' (h : Below u1.heap.size u1 w') => (spec_graphOf L G c ps z1 z2 w' (HP.out w' h)).mono fun _ _ => NewGB.gb hg1 hg2)
    have IF := Lib.hid (fun w' (h : Below u1.heap.size u1 w') => (impl_forbiddenOf L G c ps z1 z2 w' (HP.out w' h) (HSH.out w' (HW.out w' h))).mono fun _ _ => NewShB.sb hf1 hf2)
    have SF := Lib.hid (fun w' (h : Below u1.heap.size u1 w') => (spec_forbiddenOf L G c ps z1 z2 w' (HP.out w' h)).mono fun _ _ => NewShB.sb hf1 hf2)
    have IN := Lib.hid (fun w' (h : Below u1.heap.size u1 w') => impl_isConnected L G c ps z1 z2 w' (HP.out w' h) (HSH.out w' (HW.out w' h)))
    have SN := Lib.hid (fun w' (h : Below u1.heap.size u1 w') => spec_isConnected L G c ps z1 z2 w' (HP.out w' h))
    have IS := Lib.hid (fun w' (h : Below u1.heap.size u1 w') => impl_statesOf L G c ps z1 z2 w' (HP.out w' h) (HSH.out w' (HW.out w' h)))
    have SS := Lib.hid (fun w' (h : Below u1.heap.size u1 w') => spec_statesOf L G c ps z1 z2 w' (HP.out w' h))
    have SLM := Lib.hid (fun w' (h : Below u1.heap.size u1 w') => spec_languageOf L m G c ps z1 z2 w' (HP.out w' h))
    have h29 := (langOfS_two L ps).1
    generalize connS L ps = cn at IN SN
    obtain ⟨ST, hST⟩ : ∃ x, langOfS L ps 2 = x := ⟨_, rfl⟩
    rw [hST] at IS SS hgl h29
    have HM := Lib.hid hm
    have HFM := Lib.hid hfm
    have HFA := Lib.hid hfa
    have HGZ := Lib.hid hgz
    have HGL := Lib.hid hgl
    have HGC := Lib.hid hgc
    have HPS := Lib.hid z1
    have HPZ := Lib.hid z2
    clear hs1 hsm hm hb1 hf1 hf2 hfm hfa hg1 hg2 hgz hgl hgc hcw z1 z2 bu1 k3 hST D1 HG
    obtain ⟨d0, d1, d2⟩ := sh_cells (HK3.out u1 (Below.refl _ _))
    go_wp2_with fail
    try simp only [hu1]
    refine (IC.out u1 (Below.refl _ _)).mono ?_
    rintro e w2 ⟨rfl, b⟩
    have H2 : Hid (Below u1.heap.size u1 w2) := Lib.hid b
    clear b IC d0 d1 d2 hu1
    obtain ⟨d0, d1, d2⟩ := sh_cells (HK3.out w2 H2.out)
    go_wp2_with fail
    refine (IG.out w2 H2.out).mono ?_
    rintro e w3 ⟨A1, c1, rfl, g1, b⟩
    have H3 : Hid (Below u1.heap.size u1 w3) := Lib.hid (blw H2.out b)
    have G1 := Lib.hid g1
    clear b g1 IG d0 d1 d2
    obtain ⟨d0, d1, d2⟩ := sh_cells (HK3.out w3 H3.out)
    go_wp2_with fail
    refine (SG.out w3 H3.out).mono ?_
    rintro e w4 ⟨A2, c2, rfl, g2, b⟩
    have H4 : Hid (Below u1.heap.size u1 w4) := Lib.hid (blw H3.out b)
    have G1 := Lib.hid (G1.out.below b)
    have G2 := Lib.hid g2
    clear b g2 SG d0 d1 d2
    obtain ⟨d0, d1, d2⟩ := sh_cells (HK3.out w4 H4.out)
    go_wp2_with fail
    refine (IF.out w4 H4.out).mono ?_
    rintro e w5 ⟨F1, c3, rfl, r1, s1, b⟩
    obtain ⟨u5, hu5⟩ : ∃ u, w5.alloc (.cells #[.int .i64 fL, .slice F1 fs.length c3] 26) = u := ⟨_, rfl⟩
    have su5 : w5.heap.size + 1 ≤ u5.heap.size := by rw [← hu5, World.size_alloc]; omega
    have bu5 : Below w5.heap.size w5 u5 := by rw [← hu5]; exact (Below.refl _ _).alloc (Nat.le_refl _) _
    have K10 : Hid (u5.heap[w5.heap.size]? = some (.cells #[.int .i64 fL, .slice F1 fs.length c3] 26)) := Lib.hid (by rw [← hu5]; exact heap_alloc_new w5 _)
    have B45 := Lib.hid (blw b bu5)
    have H5 : Hid (Below u1.heap.size u1 u5) := Lib.hid (blw H4.out B45.out)
    have R1 := Lib.hid (r1.below bu5)
    have S1 := Lib.hid (s1.below bu5)
    clear b r1 s1 bu5 IF d0 d1 d2
    obtain ⟨d0, d1, d2⟩ := sh_cells (HK3.out u5 H5.out)
    go_wp2_with fail
    try simp only [hu5]
    refine (SF.out u5 H5.out).mono ?_
    rintro e w6 ⟨F2, c4, rfl, r2, s2, b⟩
    obtain ⟨u6, hu6⟩ : ∃ u, w6.alloc (.cells #[.int .i64 fL, .slice F2 fs.length c4] 26) = u := ⟨_, rfl⟩
    have su6 : w6.heap.size + 1 ≤ u6.heap.size := by rw [← hu6, World.size_alloc]; omega
    have bu6 : Below w6.heap.size w6 u6 := by rw [← hu6]; exact (Below.refl _ _).alloc (Nat.le_refl _) _
    have K12 : Hid (u6.heap[w6.heap.size]? = some (.cells #[.int .i64 fL, .slice F2 fs.length c4] 26)) := Lib.hid (by rw [← hu6]; exact heap_alloc_new w6 _)
    have B56 := Lib.hid (blw b bu6)
    have H6 : Hid (Below u1.heap.size u1 u6) := Lib.hid (blw H5.out B56.out)
    have R2 := Lib.hid (r2.below bu6)
    clear b r2 s2 bu6 SF d0 d1 d2 hu5
    have D7 := Lib.hid (HCODE.out u6 (HW.out u6 H6.out))
    go_wp2_with fail
    try simp only [hu6]
    refine D7.out.mono ?_
    rintro e w7 ⟨aL, Ga, ca, as', bL, Gb, cb, bs, rfl, sa, sb, ma, mb0, b⟩
    obtain ⟨u7, hu7⟩ : ∃ u, (w7.alloc (.cells #[.int .i64 aL, .slice Ga as'.length ca] 26)).alloc (.cells #[.int .i64 bL, .slice Gb bs.length cb] 26) = u := ⟨_, rfl⟩
    have su7 : w7.heap.size + 2 ≤ u7.heap.size := by rw [← hu7, World.size_alloc, World.size_alloc]; omega
    have bu7 : Below w7.heap.size w7 u7 := by rw [← hu7]; exact ((Below.refl _ _).alloc (Nat.le_refl _) _).alloc (by rw [World.size_alloc]; omega) _
    have k14 : u7.heap[w7.heap.size]? = some (.cells #[.int .i64 aL, .slice Ga as'.length ca] 26) := by rw [← hu7]; exact (heap_alloc_old (w7.alloc (.cells #[.int .i64 aL, .slice Ga as'.length ca] 26)) (.cells #[.int .i64 bL, .slice Gb bs.length cb] 26) (by rw [World.size_alloc]; omega)).trans (heap_alloc_new w7 _)
    have k15 : u7.heap[w7.heap.size + 1]? = some (.cells #[.int .i64 bL, .slice Gb bs.length cb] 26) := by
      rw [← hu7]
      have h := heap_alloc_new (w7.alloc (.cells #[.int .i64 aL, .slice Ga as'.length ca] 26)) (.cells #[.int .i64 bL, .slice Gb bs.length cb] 26)
      rw [World.size_alloc] at h; exact h
    have B67 := Lib.hid (blw b bu7)
    have H7 : Hid (Below u1.heap.size u1 u7) := Lib.hid (blw H6.out B67.out)
    obtain ⟨mL, ms, mb, hm1, hm2, hmm, hma⟩ := meet_facts aL as' bL bs
    obtain ⟨za1, za2⟩ := ma.sizes
    obtain ⟨zb1, zb2⟩ := mb0.sizes
    have HA : Hid (∀ w', Below u7.heap.size u7 w' → StrsG w' Ga as') := Lib.hid (fun w' h => (sa.below bu7).below h)
    have HB : Hid (∀ w', Below u7.heap.size u7 w' → StrsG w' Gb bs) := Lib.hid (fun w' h => (sb.below bu7).below h)
    have HK14 : Hid (∀ w', Below u7.heap.size u7 w' → w'.heap[w7.heap.size]? = some (.cells #[.int .i64 aL, .slice Ga as'.length ca] 26)) := Lib.hid (fun w' h => (h.block w7.heap.size (by omega)).trans k14)
    have HK15 : Hid (∀ w', Below u7.heap.size u7 w' → w'.heap[w7.heap.size + 1]? = some (.cells #[.int .i64 bL, .slice Gb bs.length cb] 26)) := Lib.hid (fun w' h => (h.block (w7.heap.size + 1) (by omega)).trans k15)
    have HW7 : Hid (∀ w', Below u7.heap.size u7 w' → Below w.heap.size w w') := Lib.hid (fun w' h => HW.out w' (blw H7.out h))
    have IM := Lib.hid (fun w' (h : Below u7.heap.size u7 w') => (impl_meetShifts aL bL Ga Gb ca cb as' bs za1 zb1 za2 zb2 w' (HA.out w' h) (HB.out w' h)).mono fun _ _ => NewShB.sb hm1 hm2)
    have SM := Lib.hid (fun w' (h : Below u7.heap.size u7 w') => (spec_meetShifts aL bL Ga Gb ca cb as' bs za1 zb1 za2 zb2 w' (HA.out w' h) (HB.out w' h)).mono fun _ _ => NewShB.sb hm1 hm2)
    have IA := Lib.hid (fun w' (h : Below u7.heap.size u7 w') => impl_areSame aL bL Ga Gb ca cb as' bs za1 zb1 za2 zb2 w' (HA.out w' h) (HB.out w' h) (HSH.out w' (HW7.out w' h)))
    have SA := Lib.hid (fun w' (h : Below u7.heap.size u7 w') => spec_areSame aL bL Ga Gb ca cb as' bs za1 zb1 za2 zb2 w' (HA.out w' h) (HB.out w' h))
    generalize areS aL as' bL bs = ar at IA SA
    have SIA := Lib.hid (fun y w' (hy : y.size ≤ 2147483648) (h : Below u7.heap.size u7 w') => spec_inLanguage aL Ga ca as' y za1 za2 hy w' (HA.out w' h))
    have SIB := Lib.hid (fun y w' (hy : y.size ≤ 2147483648) (h : Below u7.heap.size u7 w') => spec_inLanguage bL Gb cb bs y zb1 zb2 hy w' (HB.out w' h))
    have HMM := Lib.hid hmm
    have HMA := Lib.hid hma
    clear sa sb ma mb0 b bu7 k14 k15 hm1 hm2 hmm hma za1 za2 zb1 zb2 D7 HCODE hu6
    obtain ⟨d0, d1, d2⟩ := sh_cells (HK14.out u7 (Below.refl _ _))
    obtain ⟨e0, e1, e2⟩ := sh_cells (HK15.out u7 (Below.refl _ _))
    go_wp2_with fail
    try simp only [hu7]
    refine (IM.out u7 (Below.refl _ _)).mono ?_
    rintro e w8 ⟨X1, c5, rfl, r3, s3, b⟩
    obtain ⟨u8, hu8⟩ : ∃ u, w8.alloc (.cells #[.int .i64 mL, .slice X1 ms.length c5] 26) = u := ⟨_, rfl⟩
    have su8 : w8.heap.size + 1 ≤ u8.heap.size := by rw [← hu8, World.size_alloc]; omega
    have bu8 : Below w8.heap.size w8 u8 := by rw [← hu8]; exact (Below.refl _ _).alloc (Nat.le_refl _) _
    have K16 : Hid (u8.heap[w8.heap.size]? = some (.cells #[.int .i64 mL, .slice X1 ms.length c5] 26)) := Lib.hid (by rw [← hu8]; exact heap_alloc_new w8 _)
    have B78 : Hid (Below u7.heap.size u7 u8) := Lib.hid (blw b bu8)
    have R3 := Lib.hid (r3.below bu8)
    have S3 := Lib.hid (s3.below bu8)
    clear b r3 s3 bu8 IM d0 d1 d2 e0 e1 e2 hu7
    obtain ⟨d0, d1, d2⟩ := sh_cells (HK14.out u8 B78.out)
    obtain ⟨e0, e1, e2⟩ := sh_cells (HK15.out u8 B78.out)
    go_wp2_with fail
    try simp only [hu8]
    refine (SM.out u8 B78.out).mono ?_
    rintro e w9 ⟨X2, c6, rfl, r4, s4, b⟩
    obtain ⟨u9, hu9⟩ : ∃ u, w9.alloc (.cells #[.int .i64 mL, .slice X2 ms.length c6] 26) = u := ⟨_, rfl⟩
    have su9 : w9.heap.size + 1 ≤ u9.heap.size := by rw [← hu9, World.size_alloc]; omega
    have bu9 : Below w9.heap.size w9 u9 := by rw [← hu9]; exact (Below.refl _ _).alloc (Nat.le_refl _) _
    have k18 : u9.heap[w9.heap.size]? = some (.cells #[.int .i64 mL, .slice X2 ms.length c6] 26) := by rw [← hu9]; exact heap_alloc_new w9 _
    have B89 : Below u8.heap.size u8 u9 := blw b bu9
    have B79 : Below u7.heap.size u7 u9 := blw B78.out B89
    have B69 : Below u6.heap.size u6 u9 := blw B67.out B79
    have B59 : Below u5.heap.size u5 u9 := blw B56.out B69
    have B49 : Below w4.heap.size w4 u9 := blw B45.out B59
    have B19 : Below u1.heap.size u1 u9 := blw H7.out B79
    have R4 := r4.below bu9
    obtain ⟨q1, q2⟩ : w1.heap.size < u1.heap.size ∧ w5.heap.size < u5.heap.size := ⟨by omega, by omega⟩
    have x0 : Below u9.heap.size u9 u9 := Below.refl _ _
    have XS : Hid (∀ w', Below u9.heap.size u9 w' → w'.cell? ⟨w1.heap.size, 0, none⟩ = some (.int .i64 L) ∧ w'.cell? ⟨w1.heap.size, 1, none⟩ = some (.slice G ps.length c) ∧ w'.cell? ⟨w5.heap.size, 0, none⟩ = some (.int .i64 fL) ∧ w'.cell? ⟨w5.heap.size, 1, none⟩ = some (.slice F1 fs.length c3) ∧ w'.cell? ⟨w6.heap.size, 0, none⟩ = some (.int .i64 fL) ∧ w'.cell? ⟨w6.heap.size, 1, none⟩ = some (.slice F2 fs.length c4) ∧ w'.cell? ⟨w7.heap.size, 0, none⟩ = some (.int .i64 aL) ∧ w'.cell? ⟨w7.heap.size, 1, none⟩ = some (.slice Ga as'.length ca) ∧ w'.cell? ⟨w7.heap.size + 1, 0, none⟩ = some (.int .i64 bL) ∧ w'.cell? ⟨w7.heap.size + 1, 1, none⟩ = some (.slice Gb bs.length cb) ∧ w'.cell? ⟨w8.heap.size, 0, none⟩ = some (.int .i64 mL) ∧ w'.cell? ⟨w8.heap.size, 1, none⟩ = some (.slice X1 ms.length c5) ∧ w'.cell? ⟨w9.heap.size, 0, none⟩ = some (.int .i64 mL) ∧ w'.cell? ⟨w9.heap.size, 1, none⟩ = some (.slice X2 ms.length c6)) := Lib.hid fun w' h => by
      obtain ⟨a0, a1, -⟩ := sh_cells (HK3.out w' (blw B19 h))
      obtain ⟨b0, b1, -⟩ := sh_cells (((blw B59 h).block w5.heap.size (by omega)).trans K10.out)
      obtain ⟨c0, c1, -⟩ := sh_cells (((blw B69 h).block w6.heap.size (by omega)).trans K12.out)
      obtain ⟨f0, f1, -⟩ := sh_cells (HK14.out w' (blw B79 h))
      obtain ⟨g0, g1, -⟩ := sh_cells (HK15.out w' (blw B79 h))
      obtain ⟨i0, i1, -⟩ := sh_cells (((blw B89 h).block w8.heap.size (by omega)).trans K16.out)
      obtain ⟨j0, j1, -⟩ := sh_cells ((h.block w9.heap.size (by omega)).trans k18)
      exact ⟨a0, a1, b0, b1, c0, c1, f0, f1, g0, g1, i0, i1, j0, j1⟩
    have CC := Lib.hid (fun w' (h : Below u9.heap.size u9 w') => SC.out w' (blw B19 h))
    have CE := Lib.hid (fun w' (h : Below u9.heap.size u9 w') => like_grids A1 A2 c1 c2 gm (by have := HGZ.out.1; omega) HGZ.out.2.1 w' (G1.out.below (blw B49 h)) (G2.out.below (blw B49 h)))
    have CF := Lib.hid (fun w' (h : Below u9.heap.size u9 w') => same_shiftL fL F1 F2 c3 c4 fs (by have := HFM.out.1; omega) w' (R1.out.below (blw B59 h)) (R2.out.below (blw B69 h)))
    have CI := Lib.hid (fun w' (h : Below u9.heap.size u9 w') => IA.out w' (blw B79 h))
    have CA := Lib.hid (fun w' (h : Below u9.heap.size u9 w') => SA.out w' (blw B79 h))
    have CM := Lib.hid (fun w' (h : Below u9.heap.size u9 w') => same_shiftL mL X1 X2 c5 c6 ms (by have := HMM.out.1; omega) w' (R3.out.below (blw B89 h)) (R4.below h))
    have CN := Lib.hid (fun w' (h : Below u9.heap.size u9 w') => IN.out w' (blw B19 h))
    have CS := Lib.hid (fun w' (h : Below u9.heap.size u9 w') => SN.out w' (blw B19 h))
    have CT := Lib.hid (fun w' (h : Below u9.heap.size u9 w') => IS.out w' (blw B19 h))
    have CU := Lib.hid (fun w' (h : Below u9.heap.size u9 w') => SS.out w' (blw B19 h))
    have CV := Lib.hid (fun w' (A B : Option Addr) (ca cb : Nat) (h1 : RowAt w' A ST) (h2 : RowAt w' B ST) => texts_rows A B ca cb ST (by omega) w' h1 h2)
    have CL := Lib.hid (fun w' (h : Below u9.heap.size u9 w') => SLM.out w' (blw B19 h))
    have CP := Lib.hid (fun w' (h : Below u9.heap.size u9 w') => spec_countPaths A1 c1 gm (by have := HGZ.out.1; omega) HGZ.out.2.1 (m - 2) w' (G1.out.below (blw B49 h)))
    have CFA := Lib.hid (fun w' (h : Below u9.heap.size u9 w') => impl_areSame fL L F1 G c3 c fs ps HFM.out.sizes.1 HPS.out HFM.out.sizes.2 HPZ.out w' (S1.out.below (blw B59 h)) (HP.out w' (blw B19 h)) (HSH.out w' (HW.out w' (blw B19 h))))
    have CX := Lib.hid (fun w' (h : Below u9.heap.size u9 w') => spec_languageOf mL 3 X1 c5 ms HMM.out.sizes.1 HMM.out.sizes.2 w' (S3.out.below (blw B89 h)))
    have CYA := Lib.hid (fun y w' (hy : y.size ≤ 2147483648) (h : Below u9.heap.size u9 w') => SIA.out y w' hy (blw B79 h))
    have CYB := Lib.hid (fun y w' (hy : y.size ≤ 2147483648) (h : Below u9.heap.size u9 w') => SIB.out y w' hy (blw B79 h))
    have CLV := Lib.hid (fun w' (h : Below u9.heap.size u9 w') => spec_isLively A1 c1 gm (by have := HGZ.out.1; omega) (fun k hk => by have := HGZ.out.2.2 k hk; omega) w' (G1.out.below (blw B49 h)))
    have HEND := Lib.hid (fun w' (h : Below u9.heap.size u9 w') => HW.out w' (blw B19 h))
    clear H2 H3 H4 H5 H6 H7 B45 B56 B67 B78 B89 B79 B69 B59 B49 B19 R4 R1 R2 R3 S1 S3 K10 K12 K16 k18 G1 G2 HK3 HK14 HK15 HA HB HW HW7 HP HSH IA SA SIA SIB IN SN IS SS SLM SC d0 d1 d2 e0 e1 e2 hu8 bu9 r4 s4 su1 su5 su6 su7 su8 su9 q1 q2 HPS HPZ HFM HGZ
    go_upto_region 12 with (fail)
    try simp only [hu9]
    clear hu9
    go_cut [130] from 69 to 129 (fun s130 wx => s130 = .bool false ∧ Hid (Below u9.heap.size u9 wx))
    case first =>
      have hd : Below u9.heap.size u9 u9.drew := x0.drew
      clear CL CP CFA CX CYA CYB CLV HEND HCL HM HFA HGL HGC HMM HMA
      go_region_held3 (fun w' => w'.cell? ⟨w1.heap.size, 0, none⟩ = some (.int .i64 L) ∧ w'.cell? ⟨w1.heap.size, 1, none⟩ = some (.slice G ps.length c) ∧ w'.cell? ⟨w5.heap.size, 0, none⟩ = some (.int .i64 fL) ∧ w'.cell? ⟨w5.heap.size, 1, none⟩ = some (.slice F1 fs.length c3) ∧ w'.cell? ⟨w6.heap.size, 0, none⟩ = some (.int .i64 fL) ∧ w'.cell? ⟨w6.heap.size, 1, none⟩ = some (.slice F2 fs.length c4) ∧ w'.cell? ⟨w7.heap.size, 0, none⟩ = some (.int .i64 aL) ∧ w'.cell? ⟨w7.heap.size, 1, none⟩ = some (.slice Ga as'.length ca) ∧ w'.cell? ⟨w7.heap.size + 1, 0, none⟩ = some (.int .i64 bL) ∧ w'.cell? ⟨w7.heap.size + 1, 1, none⟩ = some (.slice Gb bs.length cb) ∧ w'.cell? ⟨w8.heap.size, 0, none⟩ = some (.int .i64 mL) ∧ w'.cell? ⟨w8.heap.size, 1, none⟩ = some (.slice X1 ms.length c5) ∧ w'.cell? ⟨w9.heap.size, 0, none⟩ = some (.int .i64 mL) ∧ w'.cell? ⟨w9.heap.size, 1, none⟩ = some (.slice X2 ms.length c6)) (first | exact XS.out _ h11 | exact XS.out _ h10 | exact XS.out _ h9 | exact XS.out _ h8 | exact XS.out _ h7 | exact XS.out _ h6 | exact XS.out _ h5 | exact XS.out _ h4 | exact XS.out _ h3 | exact XS.out _ h2 | exact XS.out _ h1 | exact XS.out _ hd | exact XS.out _ x0) (first
        | (go_at_call 15; refine (CC.out _ hd).mono ?_; rintro e x1 ⟨rfl, b⟩; have h1 : Below u9.heap.size u9 x1 := blw hd b; clear b)
        | (go_at_call 16; refine (CE.out _ h1).mono ?_; rintro e x2 ⟨rfl, b⟩; have h2 : Below u9.heap.size u9 x2 := blw h1 b; clear b)
        | (go_at_call 17; refine (CM.out _ h5).mono ?_; rintro e x6 ⟨rfl, b⟩; have h6 : Below u9.heap.size u9 x6 := blw h5 b; clear b)
        | (go_at_call 17; refine (CF.out _ h2).mono ?_; rintro e x3 ⟨rfl, b⟩; have h3 : Below u9.heap.size u9 x3 := blw h2 b; clear b)
        | (go_at_call 18; refine (CI.out _ h3).mono ?_; rintro e x4 ⟨rfl, b⟩; have h4 : Below u9.heap.size u9 x4 := blw h3 b; clear b)
        | (go_at_call 19; refine (CA.out _ h4).mono ?_; rintro e x5 ⟨rfl, b⟩; have h5 : Below u9.heap.size u9 x5 := blw h4 b; clear b)
        | (go_at_call 20; refine (CN.out _ h6).mono ?_; rintro e x7 ⟨rfl, b⟩; have h7 : Below u9.heap.size u9 x7 := blw h6 b; clear b)
        | (go_at_call 21; refine (CS.out _ h7).mono ?_; rintro e x8 ⟨rfl, b⟩; have h8 : Below u9.heap.size u9 x8 := blw h7 b; clear b)
        | (go_at_call 23; refine (CT.out _ h8).mono ?_; rintro e x9 ⟨v9, rfl, o9, b⟩; have h9 : Below u9.heap.size u9 x9 := blw h8 b; obtain ⟨A9, k9, rfl⟩ := slice_of_owns o9; have T9 := Lib.hid (rowAt_of_owns o9); clear b o9)
        | (go_at_call 24; refine (CU.out _ h9).mono ?_; rintro e x10 ⟨v10, rfl, o10, b⟩; have h10 : Below u9.heap.size u9 x10 := blw h9 b; obtain ⟨A10, k10, rfl⟩ := slice_of_owns o10; have T10 := Lib.hid (rowAt_of_owns o10); have T9 := Lib.hid (T9.out.below b); clear b o10)
        | (go_at_call 22; refine (CV.out _ _ _ _ _ T9.out T10.out).mono ?_; rintro e x11 ⟨rfl, b⟩; have h11 : Below u9.heap.size u9 x11 := blw h10 b; clear b))
      all_goals (
        go_wp2
        go_meet
        exact ⟨rfl, Lib.hid h11⟩)
    case rest =>
      obtain ⟨rfl, H12⟩ := hcut
      have CTT := CT
      clear CC CE CF CI CA CM CN CS CU CV CT x0
      go_upto_region 14 with (fail)
      go_cut [144] from 131 to 143 (fun s144 wx => s144 = .bool false ∧ Hid (Below u9.heap.size u9 wx))
      case first =>
        obtain ⟨d0, d1, -⟩ := XS.out wc H12.out
        clear CP CFA CX CYA CYB CLV HEND HFA HGL HGC HMM HMA CTT XS
        by_cases hk : 0 ≤ cw
        · by_cases h6 : m ≤ 6
          · have he := HCL.out hk h6
            have CL1 := Lib.hid (CL.out wc H12.out)
            go_wp2_with fail
            refine CL1.out.mono ?_
            rintro e1 y1 ⟨v1, rfl, o1, b⟩
            obtain ⟨A9, k9, rfl⟩ := slice_of_owns o1
            have h1 : Hid (Below u9.heap.size u9 y1) := Lib.hid (blw H12.out b)
            clear b o1 CL1 CL HCL
            generalize (langOfS L ps m).length = ln at *
            subst he
            go_wp2
            go_meet
            exact ⟨by first | rfl | (simp; done), h1⟩
          · clear CL HCL
            go_wp2
            go_meet
            exact ⟨rfl, H12⟩
        · clear CL HCL
          go_wp2
          go_meet
          exact ⟨rfl, H12⟩
      case rest =>
        clear H12
        obtain ⟨rfl, H12⟩ := hcut
        clear CL HCL
        go_upto_region 16 with (fail)
        go_cut [165] from 145 to 164 (fun s165 wx => s165 = .bool false ∧ Hid (Below u9.heap.size u9 wx))
        case first =>
          clear CFA CX CYA CYB CLV HEND HFA HGL HMM HMA CTT XS
          cases gb with
          | false =>
            clear CP HGC
            go_wp2
            go_meet
            exact ⟨rfl, H12⟩
          | true =>
            by_cases h2 : 2 ≤ m
            · by_cases h8 : m ≤ 8
              · by_cases hk : 0 ≤ cw
                · have he := HGC.out rfl h2 h8
                  have CP1 := Lib.hid (CP.out wc H12.out)
                  have hw1 : RowKit.wrap64 (m - 2) = m - 2 := by unfold RowKit.wrap64; omega
                  have hw2 : IntKind.i64.wrap (m - 2) = m - 2 := by rw [IntKind.wrap_i64]; omega
                  clear HM
                  go_wp2_with fail
                  refine CP1.out.mono ?_
                  rintro e1 y1 ⟨rfl, b⟩
                  have h1 : Hid (Below u9.heap.size u9 y1) := Lib.hid (blw H12.out b)
                  clear b CP1 CP HGC
                  generalize countM gm (m - 2) = cm at *
                  subst he
                  go_wp2
                  go_meet
                  exact ⟨by first | rfl | (simp; done), h1⟩
                · clear CP HGC
                  go_wp2
                  go_meet
                  exact ⟨rfl, H12⟩
              · clear CP HGC
                go_wp2
                go_meet
                exact ⟨rfl, H12⟩
            · clear CP HGC
              go_wp2
              go_meet
              exact ⟨rfl, H12⟩
        case rest =>
          clear H12
          obtain ⟨rfl, H12⟩ := hcut
          clear CP HGC
          go_upto_region 18 with (fail)
          go_cut [172] from 166 to 171 (fun s172 wx => s172 = .bool false ∧ Hid (Below u9.heap.size u9 wx))
          case first =>
            obtain ⟨d0, d1, d2, d3, -⟩ := XS.out wc H12.out
            clear CX CYA CYB CLV HEND HGL HMM HMA CTT XS
            cases fb with
            | false =>
              clear CFA HFA
              go_wp2
              go_meet
              exact ⟨rfl, H12⟩
            | true =>
              have CF1 := CFA.out wc H12.out
              rw [HFA.out rfl] at CF1
              have CF2 := Lib.hid CF1
              clear CF1 CFA HFA
              go_wp2_with fail
              refine CF2.out.mono ?_
              rintro e1 y1 ⟨rfl, b⟩
              have h1 : Hid (Below u9.heap.size u9 y1) := Lib.hid (blw H12.out b)
              clear b CF2
              go_wp2
              go_meet
              exact ⟨by first | rfl | (simp; done), h1⟩
          case rest =>
            clear H12
            obtain ⟨rfl, H12⟩ := hcut
            clear CFA HFA
            cases mb with
            | false =>
              clear CX CYA CYB HMM HMA
              cases gb with
              | false =>
                clear CLV HGL CTT XS
                go_wp2
                go_ret
                exact ⟨by first | rfl | (simp; done), HEND.out _ H12.out⟩
              | true =>
                obtain ⟨hlv, hlen⟩ := HGL.out rfl
                have HLEN := Lib.hid hlen
                have CV1 := CLV.out wc H12.out
                rw [hlv] at CV1
                have CV2 := Lib.hid CV1
                clear CV1 CLV HGL hlv hlen
                go_wp2_with fail
                refine CV2.out.mono ?_
                rintro e1 z1 ⟨rfl, b⟩
                have H13 : Hid (Below u9.heap.size u9 z1) := Lib.hid (blw H12.out b)
                clear b CV2 H12
                obtain ⟨d0, d1, -⟩ := XS.out z1 H13.out
                have CT2 := Lib.hid (CTT.out z1 H13.out)
                clear XS CTT
                go_wp2_with fail
                refine CT2.out.mono ?_
                rintro e1 z2 ⟨v2, rfl, o2, b⟩
                obtain ⟨A8, k8, rfl⟩ := slice_of_owns o2
                have H14 : Hid (Below u9.heap.size u9 z2) := Lib.hid (blw H13.out b)
                clear b o2 CT2 H13 d0 d1
                have hlen := HLEN.out
                go_wp2
                go_ret
                exact ⟨by first | rfl | (simp [hlen]; done) | (rw [hlen]; simp; done), HEND.out _ H14.out⟩
            | true =>
              have CX1 := Lib.hid (CX.out wc H12.out)
              have HL3 := Lib.hid (lang_three mL ms)
              have HIN := Lib.hid (HMA.out rfl)
              obtain ⟨-, -, -, -, -, -, -, -, -, -, i0, i1, -, -⟩ := XS.out wc H12.out
              clear CX HMA
              go_wp2_with fail
              refine CX1.out.mono ?_
              rintro e1 y1 ⟨v1, rfl, o1, b⟩
              obtain ⟨A9, k9, rfl⟩ := slice_of_owns o1
              have T1 := Lib.hid (rowAt_of_owns o1)
              have h1 : Hid (Below u9.heap.size u9 y1) := Lib.hid (blw H12.out b)
              clear b o1 CX1 H12 i0 i1
              generalize langOfS mL ms 3 = ls at *
              go_wp2
              go_loopw [21] (fun iv wr => ∃ i : Nat, i ≤ ls.length ∧ iv = .int .i64 (i : Int) ∧ Hid (Below y1.heap.size y1 wr)) (fun iv _ => ls.length - (intOf iv).toNat)
              case atStart => exact ⟨0, Nat.zero_le _, rfl, Lib.hid (Below.refl _ _)⟩
              case round =>
                obtain ⟨i, hi, rfl, HR⟩ := hrel
                by_cases hil : i < ls.length
                · obtain ⟨g, rfl, hst, hgl⟩ := (T1.out.below HR.out) (by omega)
                  have HU := Lib.hid (blw h1.out HR.out)
                  have hy3 := HL3.out.2 _ (getD_memS hil)
                  have hl1 := HL3.out.1
                  obtain ⟨hin1, hin2⟩ := HIN.out i hil
                  have hc0 : ∀ w', Below wr.heap.size wr w' → w'.cell? ⟨g, i, none⟩ = some (.string (ls.getD i ByteArray.empty)) := fun w' h => by
                    have h5 := (h.cell (p := ⟨g, 0 + i, none⟩) hgl).trans (hst i hil)
                    rwa [Nat.zero_add] at h5
                  generalize ls.getD i ByteArray.empty = y at *
                  have CA1 := fun w' h => CYA.out y w' (by omega) h
                  have CB1 := fun w' h => CYB.out y w' (by omega) h
                  rw [hin1] at CA1
                  rw [hin2] at CB1
                  have CA2 := Lib.hid CA1
                  have CB2 := Lib.hid CB1
                  have HS5 : Hid (∀ w', Below wr.heap.size wr w' → w'.cell? ⟨w7.heap.size, 0, none⟩ = some (.int .i64 aL) ∧ w'.cell? ⟨w7.heap.size, 1, none⟩ = some (.slice Ga as'.length ca) ∧ w'.cell? ⟨w7.heap.size + 1, 0, none⟩ = some (.int .i64 bL) ∧ w'.cell? ⟨w7.heap.size + 1, 1, none⟩ = some (.slice Gb bs.length cb) ∧ w'.cell? ⟨g, i, none⟩ = some (.string y)) := Lib.hid fun w' h => by
                    obtain ⟨-, -, -, -, -, -, a1, a2, a3, a4, -⟩ := XS.out w' (blw HU.out h)
                    exact ⟨a1, a2, a3, a4, hc0 w' h⟩
                  have hdd : Below wr.heap.size wr wr.drew := (Below.refl _ _).drew
                  have k0 : (0 : Int) ≤ (i : Int) := by omega
                  have k1 : (i : Int) < (ls.length : Int) := by omega
                  clear hc0 hst hin1 hin2 CA1 CB1 hy3 CYA CYB CLV CTT XS HIN HL3 HMM HEND HGL T1 HM
                  go_wp2
                  go_region_held3 (fun w' => w'.cell? ⟨w7.heap.size, 0, none⟩ = some (.int .i64 aL) ∧ w'.cell? ⟨w7.heap.size, 1, none⟩ = some (.slice Ga as'.length ca) ∧ w'.cell? ⟨w7.heap.size + 1, 0, none⟩ = some (.int .i64 bL) ∧ w'.cell? ⟨w7.heap.size + 1, 1, none⟩ = some (.slice Gb bs.length cb) ∧ w'.cell? ⟨g, i, none⟩ = some (.string y)) (first | exact HS5.out _ p2 | exact HS5.out _ p1 | exact HS5.out _ hdd | exact HS5.out _ (Below.refl _ _)) (first
                    | (go_at_call 27; refine (CB2.out _ (blw HU.out p1)).mono ?_; rintro e x2 ⟨rfl, b⟩; have p2 : Below wr.heap.size wr x2 := blw p1 b; clear b)
                    | (go_at_call 27; refine (CA2.out _ (blw HU.out hdd)).mono ?_; rintro e x1 ⟨rfl, b⟩; have p1 : Below wr.heap.size wr x1 := blw hdd b; clear b))
                  all_goals (
                    have P2 := Lib.hid (blw HR.out p2)
                    clear HR HU CA2 CB2 HS5 p1 p2 hdd k0
                    go_wp2
                    go_roundw
                    case rel => exact ⟨i + 1, by omega, by go_num, P2⟩
                    case measure => simp [intOf]; omega)
                · obtain rfl : i = ls.length := by omega
                  have H12 : Hid (Below u9.heap.size u9 wr) := Lib.hid (blw h1.out HR.out)
                  clear CYA CYB HMM HIN HL3 T1 HR h1
                  cases gb with
                  | false =>
                    clear CLV HGL CTT XS
                    go_wp2
                    go_ret
                    exact ⟨by first | rfl | (simp; done), HEND.out _ H12.out⟩
                  | true =>
                    obtain ⟨hlv, hlen⟩ := HGL.out rfl
                    have HLEN := Lib.hid hlen
                    have CV1 := CLV.out wr H12.out
                    rw [hlv] at CV1
                    have CV2 := Lib.hid CV1
                    clear CV1 CLV HGL hlv hlen
                    go_wp2_with fail
                    refine CV2.out.mono ?_
                    rintro e1 z1 ⟨rfl, b⟩
                    have H13 : Hid (Below u9.heap.size u9 z1) := Lib.hid (blw H12.out b)
                    clear b CV2 H12
                    obtain ⟨d0, d1, -⟩ := XS.out z1 H13.out
                    have CT2 := Lib.hid (CTT.out z1 H13.out)
                    clear XS CTT
                    go_wp2_with fail
                    refine CT2.out.mono ?_
                    rintro e1 z2 ⟨v2, rfl, o2, b⟩
                    obtain ⟨A8, k8, rfl⟩ := slice_of_owns o2
                    have H14 : Hid (Below u9.heap.size u9 z2) := Lib.hid (blw H13.out b)
                    clear b o2 CT2 H13 d0 d1
                    have hlen := HLEN.out
                    go_wp2
                    go_ret
                    exact ⟨by first | rfl | (simp [hlen]; done) | (rw [hlen]; simp; done), HEND.out _ H14.out⟩
  · have HG := Lib.hid (big_is a n cp true (by simp; omega) w)
    clear hcode hsh
    go_enter Tryz.func3, Tryz.ntmps3
    go_wp2_with fail
    refine HG.out.mono ?_
    rintro e w0 ⟨rfl, rfl⟩
    go_wp2
    go_ret
    exact ⟨rfl, Below.refl _ _⟩
end Go.Proofs.YtalclebehbdliaaGreat
