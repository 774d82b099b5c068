/-
  The law on growth: whatever the bytes it returns true; nothing that was there before is changed. Over the program's contracts.
-/
import Derived.Test.YtanelokploifhaaDoorLawKit
import Derived.Test.YtanelokploifhaaDoorGrowLawFacts
import Derived.Test.YtanelokploifhaaDoorDrawGrowth
import Derived.Deep.CutRange
import Derived.Deep.RegionHeld3
import Derived.IntWalk
namespace Go.Proofs.YtanelokploifhaaDoor
open Go Go.RowKit

/-- The value is a slice that holds the table; it has room for itself, and so has each row. -/
def GridVR (w : World) (v : Value) (m : List (List Int)) : Prop := ∃ A c, v = .slice A m.length c ∧ GridC w A m ∧ m.length ≤ c
theorem GridVR.gridV {w : World} {v : Value} {m : List (List Int)} (h : GridVR w v m) : GridV w v m := by
  obtain ⟨A, c, hv, hg, _⟩ := h
  exact ⟨A, c, hv, hg.gridS⟩
theorem GridVR.below {w w' : World} {v : Value} {m : List (List Int)} (h : GridVR w v m) (hb : Below w.heap.size w w') : GridVR w' v m := by
  obtain ⟨A, c, hv, hg, hc⟩ := h
  exact ⟨A, c, hv, hg.below hb, hc⟩
theorem OwnG.gridVR {w : World} {B : Nat} {v : Value} {m : List (List Int)} (h : OwnG w B v m) : GridVR w v m := by
  obtain ⟨A, c, rfl, hg⟩ := h.gridC
  obtain ⟨vs, ho, hr⟩ := h
  obtain ⟨A2, c2, e, hc⟩ := row_room ho
  simp only [Value.slice.injEq, true_and] at e
  obtain ⟨_, rfl⟩ := e
  exact ⟨A, c, rfl, hg, hc⟩
/-- The program's functions of the chapter, in every later world. -/
structure GrowAt (W : World) : Prop where
  isBelow : ∀ m q d v w', Below W.heap.size W w' → SizeB m → GridVR w' v m → Calls Tryd.prog 13 #[v, .int .i64 q, .int .i64 d] w' (Scalar (.bool (belowS m q d)) w')
  floor : ∀ m d v w', Below W.heap.size W w' → SizeB m → GridVR w' v m → Calls Tryd.prog 7 #[v, .int .i64 d] w' (Scalar (.int .i64 (floorS m d)) w')
  compare : ∀ a b d v v' w', Below W.heap.size W w' → SizeB a → SizeB b → GridVR w' v a → GridVR w' v' b → Calls Tryd.prog 15 #[v, v', .int .i64 d] w' (Scalar (.int .i64 (cmpS a b d)) w')
  rowBounds : ∀ m v w', Below W.heap.size W w' → SizeB m → GridVR w' v m → Calls Tryd.prog 10 #[v] w' (Scalar (.tuple #[.int .i64 (lowS m), .int .i64 (highS m)]) w')
  growthText : ∀ m d v w', Below W.heap.size W w' → SizeB m → GridVR w' v m → Calls Tryd.prog 17 #[v, .int .i64 d] w' (Scalar (.string (textG m d)) w')
  isGrowthless : ∀ m v w', Below W.heap.size W w' → SizeB m → GridVR w' v m → Calls Tryd.prog 19 #[v] w' (Scalar (.bool (growthlessS m)) w')
theorem specW_isSmall {m : List (List Int)} (hz : SizeB m) {v : Value} {w : World} (h : GridV w v m) : Calls Tryd.prog 23 #[v] w (Scalar (.bool (smallM m)) w) := by
  obtain ⟨A, c, rfl, hg⟩ := h
  obtain ⟨h1, h2, h3⟩ := rows_le hz
  exact (spec_isSmall A c m (by omega) h3 w hg).mono fun e w2 ⟨he, hw⟩ => ⟨he, hw ▸ Below.refl _ _⟩
theorem specW_turnMatrix {m : List (List Int)} (hz : SizeB m) {v : Value} {w : World} (h : GridV w v m) : Calls Tryd.prog 21 #[v] w (NewG (turnS m) w) := by
  obtain ⟨A, c, rfl, hg⟩ := h
  obtain ⟨h1, h2, _⟩ := rows_le hz
  exact spec_turnMatrix A c m h1 h2 w hg
theorem specW_power {m : List (List Int)} (hz : SizeB m) (n : Int) {v : Value} {w : World} (h : GridV w v m) : Calls Tryd.prog 22 #[v, .int .i64 n] w (NewGB (powS m n) w) := by
  obtain ⟨A, c, rfl, hg⟩ := h
  obtain ⟨h1, h2, _⟩ := rows_le hz
  exact spec_power A c m h1 h2 n w hg
theorem small_turnS {m : List (List Int)} (h : smallM m = true) : turnS m = turnM m ∧ SizeB (turnM m) := by
  refine ⟨?_, sizeB_facts (isMat_facts (small_facts (turn_small h)).1)⟩
  unfold turnS
  rw [if_pos (small_facts h).1]
theorem sizeB_powS2 {m P : List (List Int)} (h : powS m 2 = some P) : SizeB P := by
  unfold powS at h
  split at h
  · next hc => exact sizeB_facts (isMat_facts (powM_isMat hc.1 _ h))
  · cases h

set_option maxRecDepth 100000 in
set_option maxHeartbeats 40000000 in
theorem law_growth (a : Option Addr) (n cp : Nat) (w : World) (hcode : n ≤ 1048576 → CodeAt w w.heap.size a n) (hI : GrowAt w) :
    Calls Tryd.prog 3 #[.slice a n cp] w fun e w' => e = .returned (.bool true) ∧ Below w.heap.size w w' := by
  by_cases hle : n ≤ 1048576
  · have HG := Lib.hid (big_is a n cp false (by simp; omega) w)
    have D1 := Lib.hid (draw_floor a n cp w (hcode hle) hle)
    have HCODE := Lib.hid (fun w' (hb : Below w.heap.size w w') => codeAt_next (hcode hle) hb)
    have HI := Lib.hid hI
    clear hcode hI
    go_enter Tryd.func3, Tryd.ntmps3
    go_wp2_with fail
    refine HG.out.mono ?_
    rintro e w0 ⟨rfl, rfl⟩
    go_wp2_with fail
    refine D1.out.mono ?_
    rintro e w1 ⟨vm, M, d, rfl, om, dm, hd, b1⟩
    have ZM := Lib.hid dm.size
    have B1 := Lib.hid b1
    have M1 := Lib.hid om.gridVR
    clear dm b1 om
    have C2 := Lib.hid (HI.out.floor M d vm w1 B1.out ZM.out M1.out)
    go_wp2_with fail
    refine C2.out.mono ?_
    rintro e w2 ⟨rfl, b⟩
    have B2 := Lib.hid (bl B1.out b)
    have M2 := Lib.hid (M1.out.below b)
    clear b C2
    have D3 := Lib.hid (draw_below a n cp w2 (HCODE.out w2 B2.out) hle)
    go_wp2_with fail
    refine D3.out.mono ?_
    rintro e w3 ⟨va, A, x, y, rfl, oa, da, b⟩
    have B3 := Lib.hid (bl B2.out b)
    have M3 := Lib.hid (M2.out.below b)
    have A3 := Lib.hid oa.gridVR
    have ZA := Lib.hid da.size
    clear b oa da D3
    have D4 := Lib.hid (draw_compare a n cp w3 (HCODE.out w3 B3.out) hle)
    go_wp2_with fail
    refine D4.out.mono ?_
    rintro e w4 ⟨vb, T, vc, U, z, rfl, ob, db, oc, dc, b⟩
    have B4 := Lib.hid (bl B3.out b)
    have M4 := Lib.hid (M3.out.below b)
    have A4 := Lib.hid (A3.out.below b)
    have T4 := Lib.hid ob.gridVR
    have U4 := Lib.hid oc.gridVR
    have ZT := Lib.hid db.size
    have ZU := Lib.hid dc.size
    clear b ob oc db dc D4
    have C5 := Lib.hid (HI.out.rowBounds M vm w4 B4.out ZM.out M4.out)
    go_wp2_with fail
    refine C5.out.mono ?_
    rintro e w5 ⟨rfl, b⟩
    have B5 := Lib.hid (bl B4.out b)
    have M5 := Lib.hid (M4.out.below b)
    have A5 := Lib.hid (A4.out.below b)
    have T5 := Lib.hid (T4.out.below b)
    have U5 := Lib.hid (U4.out.below b)
    clear b C5
    have S6 := Lib.hid (specV_rowBounds ZM.out M5.out.gridV)
    go_wp2_with fail
    refine S6.out.mono ?_
    rintro e w6 ⟨rfl, b⟩
    have B6 := Lib.hid (bl B5.out b)
    have M6 := Lib.hid (M5.out.below b)
    have A6 := Lib.hid (A5.out.below b)
    have T6 := Lib.hid (T5.out.below b)
    have U6 := Lib.hid (U5.out.below b)
    clear b S6
    have SF := Lib.hid (fun w' (hb : Below w6.heap.size w6 w') => specV_floor ZM.out d (M6.out.below hb).gridV)
    have IB := Lib.hid (fun w' (hb : Below w6.heap.size w6 w') => HI.out.isBelow A x y va w' (bl B6.out hb) ZA.out (A6.out.below hb))
    have SB := Lib.hid (fun w' (hb : Below w6.heap.size w6 w') => specV_isBelow ZA.out x y (A6.out.below hb).gridV)
    have IC := Lib.hid (fun w' (hb : Below w6.heap.size w6 w') => HI.out.compare T U z vb vc w' (bl B6.out hb) ZT.out ZU.out (T6.out.below hb) (U6.out.below hb))
    have SC := Lib.hid (fun w' (hb : Below w6.heap.size w6 w') => specV_compare ZT.out ZU.out z (T6.out.below hb).gridV (U6.out.below hb).gridV)
    have IT := Lib.hid (fun w' (hb : Below w6.heap.size w6 w') => HI.out.growthText M d vm w' (bl B6.out hb) ZM.out (M6.out.below hb))
    have STX := Lib.hid (fun w' (hb : Below w6.heap.size w6 w') => specV_growthText ZM.out d (M6.out.below hb).gridV)
    have IG := Lib.hid (fun w' (hb : Below w6.heap.size w6 w') => HI.out.isGrowthless M vm w' (bl B6.out hb) ZM.out (M6.out.below hb))
    have SG := Lib.hid (fun w' (hb : Below w6.heap.size w6 w') => specV_isGrowthless ZM.out (M6.out.below hb).gridV)
    have IBM := Lib.hid (fun q w' (hb : Below w6.heap.size w6 w') => HI.out.isBelow M q d vm w' (bl B6.out hb) ZM.out (M6.out.below hb))
    have STU := Lib.hid (fun w' (hb : Below w6.heap.size w6 w') => specW_turnMatrix ZM.out (M6.out.below hb).gridV)
    have IFV := Lib.hid (fun K v' w' (hb : Below w6.heap.size w6 w') (hz : SizeB K) (h : GridVR w' v' K) => HI.out.floor K d v' w' (bl B6.out hb) hz h)
    have IFH := Lib.hid (fun w' (hb : Below w6.heap.size w6 w') => HI.out.floor M 100 vm w' (bl B6.out hb) ZM.out (M6.out.below hb))
    have SPW := Lib.hid (fun w' (hb : Below w6.heap.size w6 w') => specW_power ZM.out 2 (M6.out.below hb).gridV)
    have HFR := floorS_range M d
    have HGF := Lib.hid (fun q (hq : floorS M d = q) (h0 : ¬ q < 0) => grow_facts hq h0)
    have HGS := Lib.hid (fun q r (hq : floorS M d = q) (h0 : ¬ q < 0) (hp : smallM (mulM M M) = true) (hr : floorS (mulM M M) d = r) => grow_square hq h0 hp hr)
    have HGL := Lib.hid (fun (h : smallM M = true) => grow_light h)
    have HGT := Lib.hid (fun (h : floorS M d < 0) => grow_text h)
    obtain ⟨Am, cm, hvm, _, _⟩ := M6.out
    obtain ⟨Aa, ca, hva, _, _⟩ := A6.out
    obtain ⟨At, ct, hvt, _, _⟩ := T6.out
    obtain ⟨Au, cu, hvu, _, _⟩ := U6.out
    subst hvm hva hvt hvu
    clear M1 M2 M3 M4 M5 M6 A3 A4 A5 A6 T4 T5 T6 U4 U5 U6 HI HCODE ZM ZA ZT ZU B1 B2 B3 B4 B5
    obtain ⟨q, hq⟩ : ∃ q, floorS M d = q := ⟨_, rfl⟩
    obtain ⟨lo, hlo⟩ : ∃ q, lowS M = q := ⟨_, rfl⟩
    obtain ⟨hi, hhi⟩ : ∃ q, highS M = q := ⟨_, rfl⟩
    obtain ⟨tx, htx⟩ : ∃ q, textG M d = q := ⟨_, rfl⟩
    obtain ⟨gl, hgl⟩ : ∃ q, growthlessS M = q := ⟨_, rfl⟩
    rw [hq] at SF HFR HGT ⊢
    rw [hlo, hhi]
    rw [htx] at IT STX HGT
    rw [hgl] at IG SG HGL
    generalize belowS A x y = bl1 at IB SB
    generalize cmpS T U z = cmp1 at IC SC
    have HQ := Lib.hid hq
    have HLO := Lib.hid hlo
    have HHI := Lib.hid hhi
    clear hq hlo hhi htx hgl
    go_wp2_with fail
    refine (SF.out w6 (Below.refl _ _)).mono ?_
    rintro e w12 ⟨rfl, b⟩
    have H12 := Lib.hid b
    clear b
    go_wp2_with fail
    refine (IB.out w12 H12.out).mono ?_
    rintro e w13 ⟨rfl, b⟩
    have H13 := Lib.hid (bl H12.out b)
    clear b
    go_wp2_with fail
    refine (SB.out w13 H13.out).mono ?_
    rintro e w14 ⟨rfl, b⟩
    have H14 := Lib.hid (bl H13.out b)
    clear b
    go_wp2_with fail
    refine (IC.out w14 H14.out).mono ?_
    rintro e w15 ⟨rfl, b⟩
    have H15 := Lib.hid (bl H14.out b)
    clear b
    go_wp2_with fail
    refine (SC.out w15 H15.out).mono ?_
    rintro e w16 ⟨rfl, b⟩
    have H16 := Lib.hid (bl H15.out b)
    clear b
    go_wp2_with fail
    refine (IT.out w16 H16.out).mono ?_
    rintro e w17 ⟨rfl, b⟩
    have H17 := Lib.hid (bl H16.out b)
    clear b
    go_wp2_with fail
    refine (STX.out w17 H17.out).mono ?_
    rintro e w18 ⟨rfl, b⟩
    have H18 := Lib.hid (bl H17.out b)
    clear b
    go_wp2_with fail
    refine (IG.out w18 H18.out).mono ?_
    rintro e w19 ⟨rfl, b⟩
    have H19 := Lib.hid (bl H18.out b)
    clear b
    go_wp2_with fail
    refine (SG.out w19 H19.out).mono ?_
    rintro e w20 ⟨rfl, b⟩
    have H20 := Lib.hid (bl H19.out b)
    clear b SF IB SB IC SC STX SG H12 H13 H14 H15 H16 H17 H18 H19
    by_cases hneg : q < 0
    · have HT := HGT.out hneg
      have HTX := Lib.hid HT
      clear HT HGT HGF HGS HGL HQ HLO HHI IBM STU IFV IFH SPW IG
      go_wp2_with fail
      refine (IT.out w20 H20.out).mono ?_
      rintro e w21 ⟨rfl, b⟩
      have H21 := Lib.hid (bl H20.out b)
      clear b
      have HTT := HTX.out
      subst HTT
      go_wp2
      go_ret
      exact ⟨by first | rfl | (simp; done) | (simp; omega), bl B6.out H21.out⟩
    · obtain ⟨hm, ⟨d1, d2⟩, f1, f2, f3, f4, f5, ⟨l0, l1⟩, u0, u1⟩ := HGF.out q HQ.out (by omega)
      obtain ⟨k1, k2⟩ := small_turnS hm
      rw [HLO.out] at f3 l0 l1
      rw [HHI.out] at f4 u0 u1
      have HM := Lib.hid hm
      have HL := HGL.out hm
      have hq0 : 0 ≤ q := by omega
      have hq1 : q ≤ 3600 := HFR.2
      rw [k1] at STU
      have IB1 := IBM.out q
      rw [f1] at IB1
      have IBQ := Lib.hid IB1
      have IB2 : Hid (q + 1 ≤ 3600 → ∀ w', Below w6.heap.size w6 w' → Calls Tryd.prog 13 #[.slice Am M.length cm, .int .i64 (q + 1), .int .i64 d] w' (Scalar (.bool true) w')) := Lib.hid fun h => by have h1 := IBM.out (q + 1); rw [f2 h] at h1; exact h1
      have IFT1 := fun v' w' hb h => IFV.out (turnM M) v' w' hb k2 h
      rw [f5] at IFT1
      have IFT := Lib.hid IFT1
      have HGS2 := Lib.hid (fun r => HGS.out q r HQ.out (by omega))
      obtain ⟨p1, p2⟩ := mul_range l0 l1 (show 0 ≤ d by omega) d2
      obtain ⟨p3, p4⟩ := mul_range u0 u1 (show 0 ≤ d by omega) d2
      obtain ⟨ld, hld⟩ : ∃ x, lo * d = x := ⟨_, rfl⟩
      obtain ⟨ud, hud⟩ : ∃ x, hi * d = x := ⟨_, rfl⟩
      rw [hld] at p1 p2 f3
      rw [hud] at p3 p4 f4
      have wl1 : IntKind.i64.wrap (lo * d) = ld := by rw [hld, IntKind.wrap_i64]; omega
      have wl2 : RowKit.wrap64 (lo * d) = ld := by rw [hld]; unfold RowKit.wrap64; omega
      have wu1 : IntKind.i64.wrap (hi * d) = ud := by rw [hud, IntKind.wrap_i64]; omega
      have wu2 : RowKit.wrap64 (hi * d) = ud := by rw [hud]; unfold RowKit.wrap64; omega
      have x1 : ¬ q < ld := by omega
      have x2 : ¬ ud < q := by omega
      have HXL := Lib.hid HL
      clear hld hud p1 p2 p3 p4 f1 f2 f5 k1 k2 IB1 IFT1 HL HGT HGF HGS HGL HQ HLO HHI IBM hm f3 f4 l0 l1 u0 u1 HFR IT
      go_upto_region 13 with (fail)
      go_cut [148] from 110 to 147 (fun s148 wx => s148 = .bool false ∧ Hid (Below w6.heap.size w6 wx))
      case first =>
        clear IG IFH SPW HGS2 HXL
        go_wp2_with fail
        refine (IBQ.out w20 H20.out).mono ?_
        rintro e w21 ⟨rfl, b⟩
        have H21 := Lib.hid (bl H20.out b)
        clear b
        by_cases h36 : q + 1 ≤ 3600
        · have IB3 := Lib.hid (IB2.out h36)
          go_wp2_with fail
          refine (IB3.out w21 H21.out).mono ?_
          rintro e w22 ⟨rfl, b⟩
          have H22 := Lib.hid (bl H21.out b)
          clear b
          go_wp2_with fail
          refine (STU.out w22 H22.out).mono ?_
          rintro e w23 ⟨v23, rfl, o, b⟩
          have H23 := Lib.hid (bl H22.out b)
          have G23 := Lib.hid o.gridVR
          clear b o
          go_wp2_with fail
          refine (IFT.out v23 w23 H23.out G23.out).mono ?_
          rintro e w24 ⟨rfl, b⟩
          have H24 := Lib.hid (bl H23.out b)
          clear b
          go_wp2
          go_meet
          exact ⟨by first | rfl | (simp; done) | (simp; omega), H24⟩
        · go_wp2_with fail
          refine (STU.out w21 H21.out).mono ?_
          rintro e w23 ⟨v23, rfl, o, b⟩
          have H23 := Lib.hid (bl H21.out b)
          have G23 := Lib.hid o.gridVR
          clear b o
          go_wp2_with fail
          refine (IFT.out v23 w23 H23.out G23.out).mono ?_
          rintro e w24 ⟨rfl, b⟩
          have H24 := Lib.hid (bl H23.out b)
          clear b
          go_wp2
          go_meet
          exact ⟨by first | rfl | (simp; done) | (simp; omega), H24⟩
      case rest =>
        obtain ⟨rfl, H30⟩ := hcut
        clear IBQ IB2 IFT STU wl1 wl2 wu1 wu2 x1 x2 H20
        have HEND : Hid (gl = decide (floorS M 100 ≤ 100)) := HXL
        obtain ⟨fh, hfh⟩ : ∃ x, floorS M 100 = x := ⟨_, rfl⟩
        rw [hfh] at IFH HEND
        clear hfh HXL
        have SPW1 := Lib.hid (SPW.out wc H30.out)
        go_wp2_with fail
        refine SPW1.out.mono ?_
        rintro e w31 ⟨vp, rfl, o, b⟩
        have H31 := Lib.hid (bl H30.out b)
        clear b SPW SPW1
        cases hp : powS M 2 with
        | none =>
          rw [Option.isSome_none]
          clear hp o HGS2
          go_wp2_with fail
          refine (IG.out w31 H31.out).mono ?_
          rintro e w32 ⟨rfl, b⟩
          have H32 := Lib.hid (bl H31.out b)
          clear b
          go_wp2_with fail
          refine (IFH.out w32 H32.out).mono ?_
          rintro e w33 ⟨rfl, b⟩
          have H33 := Lib.hid (bl H32.out b)
          clear b
          have HE := HEND.out
          subst HE
          go_wp2
          go_ret
          exact ⟨by first | rfl | (simp; done) | (simp; omega), bl B6.out H33.out⟩
        | some P =>
          have hpm := power_two hp
          have HZP := Lib.hid (sizeB_powS2 hp)
          rw [hp, Option.getD_some] at o
          have GP := Lib.hid o.gridVR
          rw [Option.isSome_some]
          clear hp o
          subst hpm
          generalize hsp : smallM (mulM M M) = sp
          have SIS := Lib.hid (specW_isSmall HZP.out GP.out.gridV)
          rw [hsp] at SIS
          have IFP := Lib.hid (fun w' (hb : Below w31.heap.size w31 w') => IFV.out (mulM M M) vp w' (bl H31.out hb) HZP.out (GP.out.below hb))
          obtain ⟨Ap, cpp, hvp, _, _⟩ := GP.out
          subst hvp
          clear GP IFV
          go_wp2_with fail
          refine SIS.out.mono ?_
          rintro e w32 ⟨rfl, b⟩
          have H32 := Lib.hid (bl H31.out b)
          cases sp with
          | false =>
            clear b hsp IFP HGS2
            go_wp2_with fail
            refine (IG.out w32 H32.out).mono ?_
            rintro e w33 ⟨rfl, b⟩
            have H33 := Lib.hid (bl H32.out b)
            clear b
            go_wp2_with fail
            refine (IFH.out w33 H33.out).mono ?_
            rintro e w34 ⟨rfl, b⟩
            have H34 := Lib.hid (bl H33.out b)
            clear b
            have HE := HEND.out
            subst HE
            go_wp2
            go_ret
            exact ⟨by first | rfl | (simp; done) | (simp; omega), bl B6.out H34.out⟩
          | true =>
            have IFP1 := Lib.hid (IFP.out w32 b)
            obtain ⟨r, hr⟩ : ∃ x, floorS (mulM M M) d = x := ⟨_, rfl⟩
            obtain ⟨s1, s2, r0, r1⟩ := HGS2.out r hsp hr
            rw [hr] at IFP1
            clear b hsp IFP HGS2 hr
            obtain ⟨t1, t2⟩ := mul_range (a := r + 1) (A := 3601) (by omega) (by omega) (show 0 ≤ d by omega) d2
            obtain ⟨t3, t4⟩ := mul_range (a := r) (A := 3600) r0 r1 (show 0 ≤ d by omega) d2
            obtain ⟨t5, t6⟩ := mul_range (a := q) (A := 3600) hq0 hq1 hq0 hq1
            obtain ⟨t7, t8⟩ := mul_range (a := q + 1) (A := 3601) (by omega) (by omega) (show 0 ≤ q + 1 by omega) (show q + 1 ≤ 3601 by omega)
            obtain ⟨α, hα⟩ : ∃ x, (r + 1) * d = x := ⟨_, rfl⟩
            obtain ⟨β, hβ⟩ : ∃ x, r * d = x := ⟨_, rfl⟩
            obtain ⟨γ, hγ⟩ : ∃ x, q * q = x := ⟨_, rfl⟩
            obtain ⟨δ, hδ⟩ : ∃ x, (q + 1) * (q + 1) = x := ⟨_, rfl⟩
            rw [hα] at s1 t1 t2
            rw [hβ] at s2 t3 t4
            rw [hγ] at s1 t5 t6
            rw [hδ] at s2 t7 t8
            have wa1 : IntKind.i64.wrap ((r + 1) * d) = α := by rw [hα, IntKind.wrap_i64]; omega
            have wa2 : RowKit.wrap64 ((r + 1) * d) = α := by rw [hα]; unfold RowKit.wrap64; omega
            have wb1 : IntKind.i64.wrap (r * d) = β := by rw [hβ, IntKind.wrap_i64]; omega
            have wb2 : RowKit.wrap64 (r * d) = β := by rw [hβ]; unfold RowKit.wrap64; omega
            have wg1 : IntKind.i64.wrap (q * q) = γ := by rw [hγ, IntKind.wrap_i64]; omega
            have wg2 : RowKit.wrap64 (q * q) = γ := by rw [hγ]; unfold RowKit.wrap64; omega
            have wd1 : IntKind.i64.wrap ((q + 1) * (q + 1)) = δ := by rw [hδ, IntKind.wrap_i64]; omega
            have wd2 : RowKit.wrap64 ((q + 1) * (q + 1)) = δ := by rw [hδ]; unfold RowKit.wrap64; omega
            have y1 : ¬ α ≤ γ := by omega
            have y2 : ¬ δ ≤ β := by omega
            clear hα hβ hγ hδ t1 t2 t3 t4 t5 t6 t7 t8 s1 s2
            go_wp2_with fail
            refine IFP1.out.mono ?_
            rintro e w33 ⟨rfl, b⟩
            have H33 := Lib.hid (bl H32.out b)
            clear b IFP1
            go_wp2_with fail
            refine (IG.out w33 H33.out).mono ?_
            rintro e w34 ⟨rfl, b⟩
            have H34 := Lib.hid (bl H33.out b)
            clear b
            go_wp2_with fail
            refine (IFH.out w34 H34.out).mono ?_
            rintro e w35 ⟨rfl, b⟩
            have H35 := Lib.hid (bl H34.out b)
            clear b
            have HE := HEND.out
            subst HE
            go_wp2
            go_ret
            exact ⟨by first | rfl | (simp; done) | (simp; omega), bl B6.out H35.out⟩
  · have HG := Lib.hid (big_is a n cp true (by simp; omega) w)
    clear hcode hI
    go_enter Tryd.func3, Tryd.ntmps3
    go_wp2_with fail
    refine HG.out.mono ?_
    rintro e w0 ⟨rfl, rfl⟩
    go_wp2
    go_ret
    exact ⟨rfl, Below.refl _ _⟩
end Go.Proofs.YtanelokploifhaaDoor
