/-
  The law on longer blocks: whatever the bytes it returns true; nothing that was there before is changed.
-/
import Derived.Test.YtalclebehbdliaaGreatDoorGridTexts
import Derived.Test.YtalclebehbdliaaGreatDoorWordTexts
import Derived.Test.YtalclebehbdliaaGreatDoorLangTexts
import Derived.Test.YtalclebehbdliaaGreatDoorBWordSpec
import Derived.Test.YtalclebehbdliaaGreatDoorBWordI
import Derived.Test.YtalclebehbdliaaGreatDoorSideSpec
import Derived.Test.YtalclebehbdliaaGreatDoorPairSpec
import Derived.Test.YtalclebehbdliaaGreatDoorBlockI
import Derived.Test.YtalclebehbdliaaGreatDoorSideI
import Derived.Test.YtalclebehbdliaaGreatDoorPairI
import Derived.Test.YtalclebehbdliaaGreatDoorPresLawOps
import Derived.BigRegion
import Derived.Deep.RegionHeld3
import Derived.Deep.CutRange
namespace Go.Proofs.YtalclebehbdliaaGreatDoor
open Go Go.RowKit

theorem bw {w w1 w2 : World} (h : Below w.heap.size w w1) (k : Below w1.heap.size w1 w2) : Below w.heap.size w w2 := h.trans (k.mono h.size)
/-- A table and a bool. -/
def GB10 (m : List (List Int)) (b : Bool) (w : World) (e : Ending) (w' : World) : Prop := ∃ A c, e = .returned (.tuple #[.slice A m.length c, .bool b]) ∧ GridS w' A m ∧ Below w.heap.size w w'
theorem NewGB.gb10 {o : Option (List (List Int))} {m : List (List Int)} {b : Bool} (h1 : o.getD [] = m) (h2 : o.isSome = b) {w : World} {e : Ending} {w' : World} (h : NewGB o w e w') : GB10 m b w e w' := by
  obtain ⟨v, he, ho, hb⟩ := h
  rw [h1] at ho
  rw [h2] at he
  obtain ⟨A, c, rfl, hg⟩ := ho.gridV
  exact ⟨A, c, he, hg, hb⟩
theorem SizeB.parts {m : List (List Int)} (h : SizeB m) : m.length ≤ 1048576 ∧ tot m ≤ 1048576 := ⟨(rows_le h).1, (rows_le h).2.1⟩

set_option maxRecDepth 100000 in
set_option maxHeartbeats 40000000 in
theorem law_blocks (a : Option Addr) (n cp : Nat) (w : World) (hcode : n ≤ 1048576 → CodeAt w w.heap.size a n) (hsh : ∀ w', Below w.heap.size w w' → w'.ShapedOpen Tryz.prog) (hpow : Pow w) :
    Calls Tryz.prog 3 #[.slice a n cp] w fun e w' => e = .returned (.bool true) ∧ Below w.heap.size w w' := by
  by_cases hle : n ≤ 1048576
  · have HG := Lib.hid (big_is a n cp false (by simp; omega) w)
    have D1 := Lib.hid (draw_blockGraph a n cp w (hcode hle) hle)
    have HCODE := Lib.hid (fun w' (hb : Below w.heap.size w w') => codeAt_after (hcode hle) hb)
    have HSH := Lib.hid (fun w' (hb : Below w.heap.size w w') w2 (h2 : Below w'.heap.size w' w2) => hsh w2 (bw hb h2))
    have HPW := Lib.hid (fun w' (hb : Below w.heap.size w w') => hpow.below hb)
    clear hcode hsh hpow
    go_enter Tryz.func3, Tryz.ntmps3
    go_wp2_with fail
    refine HG.out.mono ?_
    rintro e w0 ⟨rfl, rfl⟩
    go_wp2_with fail
    refine D1.out.mono ?_
    rintro e w1 ⟨v, M, rfl, ho, hd, b⟩
    obtain ⟨AM, cM, rfl, gM⟩ := ho.gridV
    have zM := hd.size.parts
    have W1 : Hid (Below w.heap.size w w1) := Lib.hid b
    have GM := Lib.hid gM
    obtain ⟨X, bx, hX1, hX2, hX3, hX4⟩ := block_law M
    have C1 := Lib.hid ((impl_blockGraph AM cM M (by omega) (rows_le hd.size).2.2 w1 gM).mono fun _ _ => NewGB.gb10 hX1 hX2)
    have C2 := Lib.hid (fun w' (h : Below w1.heap.size w1 w') => (spec_blockGraph AM cM M (by omega) (rows_le hd.size).2.2 w' (gM.below h)).mono fun _ _ => NewGB.gb10 hX1 hX2)
    have HX := Lib.hid hX4
    have zX := hX3.parts
    clear ho hd b gM D1 hX1 hX2 hX3 hX4 HG
    go_wp2_with fail
    refine C1.out.mono ?_
    rintro e w2 ⟨AX, cX, rfl, gX, b⟩
    have S1 : Hid (Below w1.heap.size w1 w2) := Lib.hid b
    have W2 : Hid (Below w.heap.size w w2) := Lib.hid (bw W1.out b)
    have GX := Lib.hid gX
    clear b gX C1
    go_wp2_with fail
    refine (C2.out w2 S1.out).mono ?_
    rintro e w3 ⟨AY, cY, rfl, gY, b⟩
    have S2 : Hid (Below w2.heap.size w2 w3) := Lib.hid b
    have W3 : Hid (Below w.heap.size w w3) := Lib.hid (bw W2.out b)
    have GY := Lib.hid gY
    have D4 := Lib.hid (draw_blockWords a n cp w3 (HCODE.out w3 W3.out) hle)
    clear b gY C2
    go_wp2_with fail
    refine D4.out.mono ?_
    rintro e w4 ⟨L, G, c, ps, m, rfl, hs4, hsm, hm, b⟩
    obtain ⟨z1, z2⟩ := hsm.sizes
    obtain ⟨u4, hu4⟩ : ∃ u, w4.alloc (.cells #[.int .i64 L, .slice G ps.length c] 30) = u := ⟨_, rfl⟩
    have su4 : w4.heap.size + 1 ≤ u4.heap.size := by rw [← hu4, World.size_alloc]; omega
    have bu4 : Below w4.heap.size w4 u4 := by rw [← hu4]; exact (Below.refl _ _).alloc (Nat.le_refl _) _
    have k4 : u4.heap[w4.heap.size]? = some (.cells #[.int .i64 L, .slice G ps.length c] 30) := by rw [← hu4]; exact heap_alloc_new w4 _
    have S3 : Hid (Below w3.heap.size w3 u4) := Lib.hid (bw b bu4)
    have W4 : Hid (Below w.heap.size w u4) := Lib.hid (bw W3.out S3.out)
    have HP : Hid (∀ w', Below u4.heap.size u4 w' → StrsG w' G ps) := Lib.hid (fun w' h => (hs4.below bu4).below h)
    have HK4 : Hid (∀ w', Below u4.heap.size u4 w' → w'.heap[w4.heap.size]? = some (.cells #[.int .i64 L, .slice G ps.length c] 30)) := Lib.hid (fun w' h => (h.block w4.heap.size (by omega)).trans k4)
    have IW := Lib.hid (fun w' (h : Below u4.heap.size u4 w') => impl_blockWords L m G c ps z1 z2 w' (HP.out w' h) (HSH.out w' (bw W4.out h)) (HPW.out w' (bw W4.out h)))
    have SW := Lib.hid (fun w' (h : Below u4.heap.size u4 w') => spec_blockWords L m G c ps z1 z2 w' (HP.out w' h))
    have hRl := blockWords_len L ps m
    generalize blockWordsS L ps m = R at *
    have D5 := Lib.hid (draw_joinGraphs a n cp u4 (HCODE.out u4 W4.out) hle)
    clear hs4 hsm hm b bu4 k4 z1 z2 D4
    go_wp2_with fail
    try simp only [hu4]
    refine D5.out.mono ?_
    clear hu4
    rintro e w5 ⟨v, A, u, B, rfl, ho, hd, ho2, hd2, b⟩
    obtain ⟨AA, cA, rfl, gA⟩ := ho.gridV
    obtain ⟨AB, cB, rfl, gB⟩ := ho2.gridV
    have zA := hd.size.parts
    have zB := hd2.size.parts
    have S4 : Hid (Below u4.heap.size u4 w5) := Lib.hid b
    have W5 : Hid (Below w.heap.size w w5) := Lib.hid (bw W4.out b)
    have GA := Lib.hid gA
    have GBt := Lib.hid gB
    obtain ⟨J, bj, hX1, hX2, hX3, hX4⟩ := join_law A B
    have C1 := Lib.hid ((impl_joinGraphs AA AB cA cB A B zA.1 zB.1 zA.2 zB.2 w5 gA gB).mono fun _ _ => NewGB.gb10 hX1 hX2)
    have C2 := Lib.hid (fun w' (h : Below w5.heap.size w5 w') => (spec_joinGraphs AA AB cA cB A B zA.1 zB.1 zA.2 zB.2 w' (gA.below h) (gB.below h)).mono fun _ _ => NewGB.gb10 hX1 hX2)
    have HJ := Lib.hid hX4
    have zJ := hX3.parts
    clear ho hd ho2 hd2 b gA gB D5 hX1 hX2 hX3 hX4
    go_wp2_with fail
    refine C1.out.mono ?_
    rintro e w6 ⟨AJ, cJ, rfl, gX, b⟩
    have S5 : Hid (Below w5.heap.size w5 w6) := Lib.hid b
    have W6 : Hid (Below w.heap.size w w6) := Lib.hid (bw W5.out b)
    have GJ := Lib.hid gX
    clear b gX C1
    go_wp2_with fail
    refine (C2.out w6 S5.out).mono ?_
    rintro e w7 ⟨AK, cK, rfl, gY, b⟩
    have S6 : Hid (Below w6.heap.size w6 w7) := Lib.hid b
    have W7 : Hid (Below w.heap.size w w7) := Lib.hid (bw W6.out b)
    have GK := Lib.hid gY
    have D8 := Lib.hid (draw_pairGraph a n cp w7 (HCODE.out w7 W7.out) hle)
    clear b gY C2
    go_wp2_with fail
    refine D8.out.mono ?_
    rintro e w8 ⟨v, C, u, D, rfl, ho, hd, ho2, hd2, b⟩
    obtain ⟨AC, cC, rfl, gA⟩ := ho.gridV
    obtain ⟨AD, cD, rfl, gB⟩ := ho2.gridV
    have zC := hd.size.parts
    have zD := hd2.size.parts
    have S7 : Hid (Below w7.heap.size w7 w8) := Lib.hid b
    have W8 : Hid (Below w.heap.size w w8) := Lib.hid (bw W7.out b)
    have GC := Lib.hid gA
    have GD := Lib.hid gB
    obtain ⟨P, bp, hX1, hX2, hX3, hX4⟩ := pair_law C D
    have C1 := Lib.hid ((impl_pairGraph AC AD cC cD C D zC.1 zD.1 zC.2 zD.2 w8 gA gB).mono fun _ _ => NewGB.gb10 hX1 hX2)
    have C2 := Lib.hid (fun w' (h : Below w8.heap.size w8 w') => (spec_pairGraph AC AD cC cD C D zC.1 zD.1 zC.2 zD.2 w' (gA.below h) (gB.below h)).mono fun _ _ => NewGB.gb10 hX1 hX2)
    have HPR := Lib.hid hX4
    have zP := hX3.parts
    clear ho hd ho2 hd2 b gA gB D8 hX1 hX2 hX3 hX4
    go_wp2_with fail
    refine C1.out.mono ?_
    rintro e w9 ⟨AP, cP, rfl, gX, b⟩
    have S8 : Hid (Below w8.heap.size w8 w9) := Lib.hid b
    have W9 : Hid (Below w.heap.size w w9) := Lib.hid (bw W8.out b)
    have GP := Lib.hid gX
    clear b gX C1
    go_wp2_with fail
    refine (C2.out w9 S8.out).mono ?_
    rintro e w10 ⟨AQ, cQ, rfl, gY, b⟩
    have S9 : Hid (Below w9.heap.size w9 w10) := Lib.hid b
    have W10 : Hid (Below w.heap.size w w10) := Lib.hid (bw W9.out b)
    have GQ := Lib.hid gY
    have D11 := Lib.hid (draw_powerGraph a n cp w10 (HCODE.out w10 W10.out) hle)
    clear b gY C2
    go_wp2_with fail
    refine D11.out.mono ?_
    rintro e w11 ⟨v, U, l, rfl, ho, hd, b⟩
    obtain ⟨AU, cU, rfl, gA⟩ := ho.gridV
    have zU := hd.size.parts
    have S10 : Hid (Below w10.heap.size w10 w11) := Lib.hid b
    have W11 : Hid (Below w.heap.size w w11) := Lib.hid (bw W10.out b)
    obtain ⟨EE, be, hX1, hX2, hX3⟩ := pow_law U l
    have C1 := Lib.hid ((impl_powerGraph AU cU U zU.1 zU.2 l w11 gA).mono fun _ _ => NewGB.gb10 hX1 hX2)
    have C2 := Lib.hid (fun w' (h : Below w11.heap.size w11 w') => (spec_powerGraph AU cU U zU.1 zU.2 l w' (gA.below h)).mono fun _ _ => NewGB.gb10 hX1 hX2)
    have zE := hX3.parts
    clear ho hd b gA D11 hX1 hX2 hX3
    go_wp2_with fail
    refine C1.out.mono ?_
    rintro e w12 ⟨AE, cE, rfl, gX, b⟩
    have S11 : Hid (Below w11.heap.size w11 w12) := Lib.hid b
    have W12 : Hid (Below w.heap.size w w12) := Lib.hid (bw W11.out b)
    have GE := Lib.hid gX
    clear b gX C1
    go_wp2_with fail
    refine (C2.out w12 S11.out).mono ?_
    rintro e w13 ⟨AF, cF, rfl, gY, b⟩
    have S12 : Hid (Below w12.heap.size w12 w13) := Lib.hid b
    have W13 : Hid (Below w.heap.size w w13) := Lib.hid (bw W12.out b)
    have GF := Lib.hid gY
    have D14 := Lib.hid (draw_isBlockOf a n cp w13 (HCODE.out w13 W13.out) hle)
    clear b gY C2
    go_wp2_with fail
    refine D14.out.mono ?_
    rintro e z ⟨v, H1, u, H2, rfl, ho, hd, ho2, hd2, b⟩
    obtain ⟨AG, cG, rfl, gA⟩ := ho.gridV
    obtain ⟨AH, cH, rfl, gB⟩ := ho2.gridV
    have zG := hd.size.parts
    have zH := hd2.size.parts
    have T13 : Below w13.heap.size w13 z := b
    have WZ : Below w.heap.size w z := bw W13.out b
    have T12 : Below w12.heap.size w12 z := bw S12.out T13
    have T10 : Below w10.heap.size w10 z := bw S10.out (bw S11.out T12)
    have T9 : Below w9.heap.size w9 z := bw S9.out T10
    have T8 : Below w8.heap.size w8 z := bw S8.out T9
    have T7 : Below w7.heap.size w7 z := bw S7.out T8
    have T6 : Below w6.heap.size w6 z := bw S6.out T7
    have T5 : Below w5.heap.size w5 z := bw S5.out T6
    have T4 : Below u4.heap.size u4 z := bw S4.out T5
    have T3 : Below w3.heap.size w3 z := bw S3.out T4
    have T2 : Below w2.heap.size w2 z := bw S2.out T3
    have T1 : Below w1.heap.size w1 z := bw S1.out T2
    have XS : Hid (∀ w', Below z.heap.size z w' → w'.cell? ⟨w4.heap.size, 0, none⟩ = some (.int .i64 L) ∧ w'.cell? ⟨w4.heap.size, 1, none⟩ = some (.slice G ps.length c)) := Lib.hid fun w' h => by
      obtain ⟨a0, a1, -⟩ := sh_cells (HK4.out w' (bw T4 h))
      exact ⟨a0, a1⟩
    have CX := Lib.hid (fun w' (h : Below z.heap.size z w') => like_grids AX AY cX cY X zX.1 zX.2 w' (GX.out.below (bw T2 h)) (GY.out.below (bw T3 h)))
    have CJ := Lib.hid (fun w' (h : Below z.heap.size z w') => like_grids AJ AK cJ cK J zJ.1 zJ.2 w' (GJ.out.below (bw T6 h)) (GK.out.below (bw T7 h)))
    have CP := Lib.hid (fun w' (h : Below z.heap.size z w') => like_grids AP AQ cP cQ P zP.1 zP.2 w' (GP.out.below (bw T9 h)) (GQ.out.below (bw T10 h)))
    have CE := Lib.hid (fun w' (h : Below z.heap.size z w') => like_grids AE AF cE cF EE zE.1 zE.2 w' (GE.out.below (bw T12 h)) (GF.out.below (bw T13 h)))
    have CI := Lib.hid (fun w' (h : Below z.heap.size z w') => IW.out w' (bw T4 h))
    have CS := Lib.hid (fun w' (h : Below z.heap.size z w') => SW.out w' (bw T4 h))
    have CV := Lib.hid (fun w' (A1 A2 : Option Addr) (k1 k2 : Nat) (h1 : RowAt w' A1 R) (h2 : RowAt w' A2 R) => texts_rows A1 A2 k1 k2 R hRl w' h1 h2)
    have CB := Lib.hid (fun w' (h : Below z.heap.size z w') => impl_isBlockOf AG AH cG cH H1 H2 zG.1 zG.2 zH.1 zH.2 w' (gA.below h) (gB.below h))
    have CC := Lib.hid (fun w' (h : Below z.heap.size z w') => spec_isBlockOf AG AH cG cH H1 H2 zG.1 zG.2 zH.2 w' (gA.below h) (gB.below h))
    generalize isBlockM H1 H2 = ib at CB CC
    have KX := Lib.hid (fun i w' (h : Below z.heap.size z w') => spec_closedPaths AX cX X zX.1 zX.2 i w' (GX.out.below (bw T2 h)))
    have KM := Lib.hid (fun i w' (h : Below z.heap.size z w') => spec_closedPaths AM cM M zM.1 zM.2 i w' (GM.out.below (bw T1 h)))
    have KA := Lib.hid (fun i w' (h : Below z.heap.size z w') => spec_closedPaths AA cA A zA.1 zA.2 i w' (GA.out.below (bw T5 h)))
    have KB := Lib.hid (fun i w' (h : Below z.heap.size z w') => spec_closedPaths AB cB B zB.1 zB.2 i w' (GBt.out.below (bw T5 h)))
    have KJ := Lib.hid (fun i w' (h : Below z.heap.size z w') => spec_closedPaths AJ cJ J zJ.1 zJ.2 i w' (GJ.out.below (bw T6 h)))
    have KC := Lib.hid (fun i w' (h : Below z.heap.size z w') => spec_closedPaths AC cC C zC.1 zC.2 i w' (GC.out.below (bw T8 h)))
    have KD := Lib.hid (fun i w' (h : Below z.heap.size z w') => spec_closedPaths AD cD D zD.1 zD.2 i w' (GD.out.below (bw T8 h)))
    have KP := Lib.hid (fun i w' (h : Below z.heap.size z w') => spec_closedPaths AP cP P zP.1 zP.2 i w' (GP.out.below (bw T9 h)))
    have CMX := Lib.hid (fun w' (h : Below z.heap.size z w') => impl_isBlockOf AM AX cM cX M X zM.1 zM.2 zX.1 zX.2 w' (GM.out.below (bw T1 h)) (GX.out.below (bw T2 h)))
    have CSU := Lib.hid (fun w' (h : Below z.heap.size z w') => spec_sumOf AX cX X (by omega) (fun k hk => by have := row_le_tot hk; omega) w' (GX.out.below (bw T2 h)))
    have CCP := Lib.hid (fun w' (h : Below z.heap.size z w') => spec_countPaths AM cM M zM.1 zM.2 2 w' (GM.out.below (bw T1 h)))
    have HEND := Lib.hid (fun w' (h : Below z.heap.size z w') => bw WZ h)
    clear S1 S2 S3 S4 S5 S6 S7 S8 S9 S10 S11 S12 W1 W2 W3 W4 W5 W6 W7 W8 W9 W10 W11 W12 W13 T1 T2 T3 T4 T5 T6 T7 T8 T9 T10 T12 T13 WZ GM GX GY GA GBt GJ GK GC GD GP GQ GE GF gA gB ho hd ho2 hd2 b D14 IW SW HP HK4 HCODE HSH HPW su4 zM zX zA zB zJ zC zD zP zU zE zG zH hRl
    have x0 : Below z.heap.size z z := Below.refl _ _
    go_upto_region 17 with (fail)
    go_cut [166] from 106 to 165 (fun s166 wx => s166 = .bool false ∧ Hid (Below z.heap.size z wx))
    case first =>
      have hd : Below z.heap.size z z.drew := x0.drew
      clear KX KM KA KB KJ KC KD KP CMX CSU CCP HEND HX HJ HPR
      go_region_held3 (fun w' => w'.cell? ⟨w4.heap.size, 0, none⟩ = some (.int .i64 L) ∧ w'.cell? ⟨w4.heap.size, 1, none⟩ = some (.slice G ps.length c)) (first | exact XS.out _ h9 | exact XS.out _ h8 | exact XS.out _ h7 | exact XS.out _ h6 | exact XS.out _ h5 | exact XS.out _ h4 | exact XS.out _ h3 | exact XS.out _ h2 | exact XS.out _ h1 | exact XS.out _ hd | exact XS.out _ x0) (first
        | (go_at_call 24; refine (CC.out _ h8).mono ?_; rintro e x9 ⟨rfl, b⟩; have h9 : Below z.heap.size z x9 := bw h8 b; clear b)
        | (go_at_call 23; refine (CB.out _ h7).mono ?_; rintro e x8 ⟨rfl, b⟩; have h8 : Below z.heap.size z x8 := bw h7 b; clear b)
        | (go_at_call 19; refine (CE.out _ h6).mono ?_; rintro e x7 ⟨rfl, b⟩; have h7 : Below z.heap.size z x7 := bw h6 b; clear b)
        | (go_at_call 19; refine (CP.out _ h5).mono ?_; rintro e x6 ⟨rfl, b⟩; have h6 : Below z.heap.size z x6 := bw h5 b; clear b)
        | (go_at_call 19; refine (CJ.out _ h4).mono ?_; rintro e x5 ⟨rfl, b⟩; have h5 : Below z.heap.size z x5 := bw h4 b; clear b)
        | (go_at_call 20; refine (CV.out _ _ _ _ _ T9.out T10.out).mono ?_; rintro e x4 ⟨rfl, b⟩; have h4 : Below z.heap.size z x4 := bw h3 b; clear b)
        | (go_at_call 22; refine (CS.out _ h2).mono ?_; rintro e x3 ⟨v10, rfl, o10, b⟩; have h3 : Below z.heap.size z x3 := bw h2 b; obtain ⟨A10, k10, rfl⟩ := slice_of_owns o10; have T10 := Lib.hid (rowAt_of_owns o10); have T9 := Lib.hid (T9.out.below b); clear b o10)
        | (go_at_call 21; refine (CI.out _ h1).mono ?_; rintro e x2 ⟨v9, rfl, o9, b⟩; have h2 : Below z.heap.size z x2 := bw h1 b; obtain ⟨A9, k9, rfl⟩ := slice_of_owns o9; have T9 := Lib.hid (rowAt_of_owns o9); clear b o9)
        | (go_at_call 19; refine (CX.out _ hd).mono ?_; rintro e x1 ⟨rfl, b⟩; have h1 : Below z.heap.size z x1 := bw hd b; clear b))
      all_goals (
        go_wp2
        go_meet
        exact ⟨by first | rfl | (simp; done), Lib.hid h9⟩)
    case rest =>
      obtain ⟨rfl, H9⟩ := hcut
      clear CX CJ CP CE CI CS CV CB CC XS x0
      go_wp2
      go_loopw [30] (fun iv wr => ∃ i : Nat, 1 ≤ i ∧ i ≤ 5 ∧ iv = .int .i64 (i : Int) ∧ Hid (Below z.heap.size z wr)) (fun iv _ => 5 - (intOf iv).toNat)
      case atStart => exact ⟨1, by omega, by omega, rfl, H9⟩
      case round =>
        clear H9
        obtain ⟨i, hi1, hi5, rfl, HR⟩ := hrel
        by_cases hi : i ≤ 4
        · have i1 : (1 : Int) ≤ (i : Int) := by omega
          have i4 : (i : Int) ≤ 4 := by omega
          clear CMX CSU CCP HEND
          go_upto_region 22 with (fail)
          go_cut [180] from 171 to 179 (fun s180 wx => s180 = .bool false ∧ Hid (Below z.heap.size z wx))
          case first =>
            clear KA KB KJ KC KD KP HJ HPR
            cases bx with
            | false =>
              clear KX KM HX
              go_wp2
              go_meet
              exact ⟨by first | rfl | (simp; done) | (simp; omega), HR⟩
            | true =>
              have he := (HX.out rfl).1 (i : Int) i1 i4
              have k1 := fun w' (h : Below z.heap.size z w') => KX.out (i : Int) w' h
              have k2 := fun w' (h : Below z.heap.size z w') => KM.out (i : Int) w' h
              generalize closedM X (i : Int) = c1 at k1 he
              generalize closedM M (i : Int) = c2 at k2 he
              subst he
              have K1 := Lib.hid k1
              have K2 := Lib.hid k2
              clear k1 k2 KX KM HX
              go_wp2_with fail
              refine (K1.out _ HR.out).mono ?_
              rintro e y1 ⟨rfl, b⟩
              have Q1 : Hid (Below z.heap.size z y1) := Lib.hid (bw HR.out b)
              clear b
              go_wp2_with fail
              refine (K2.out _ Q1.out).mono ?_
              rintro e y2 ⟨rfl, b⟩
              have Q2 : Hid (Below z.heap.size z y2) := Lib.hid (bw Q1.out b)
              clear b
              go_wp2
              go_meet
              exact ⟨by first | rfl | (simp; done) | (simp; omega), Q2⟩
          case rest =>
            clear HR
            obtain ⟨rfl, HR⟩ := hcut
            go_upto_region 24 with (fail)
            go_cut [212] from 181 to 211 (fun s212 wx => s212 = .bool false ∧ Hid (Below z.heap.size z wx))
            case first =>
              clear KX KM KC KD KP HX HPR
              cases bj with
              | false =>
                clear KA KB KJ HJ
                go_wp2
                go_meet
                exact ⟨by first | rfl | (simp; done) | (simp; omega), HR⟩
              | true =>
                have he := HJ.out rfl (i : Int)
                have k1 := fun w' (h : Below z.heap.size z w') => KA.out (i : Int) w' h
                have k2 := fun w' (h : Below z.heap.size z w') => KB.out (i : Int) w' h
                have k3 := fun w' (h : Below z.heap.size z w') => KJ.out (i : Int) w' h
                have l1 := (closed_le A (i : Int)).2
                have l2 := (closed_le B (i : Int)).2
                generalize closedM A (i : Int) = ca at k1 he l1
                generalize closedM B (i : Int) = cb at k2 he l2
                generalize closedM J (i : Int) = cj at k3 he
                have K1 := Lib.hid k1
                have K2 := Lib.hid k2
                have K3 := Lib.hid k3
                have HE := Lib.hid he
                clear k1 k2 k3 he KA KB KJ HJ
                by_cases ha : 0 ≤ ca
                · by_cases hb : 0 ≤ cb
                  · by_cases hj : 0 ≤ cj
                    · have hs := HE.out ha hb hj
                      have w1 : RowKit.wrap64 (ca + cb) = ca + cb := by unfold RowKit.wrap64; omega
                      have w2 : IntKind.i64.wrap (ca + cb) = ca + cb := by rw [IntKind.wrap_i64]; omega
                      clear HE
                      subst hs
                      go_wp2_with fail
                      refine (K1.out _ HR.out).mono ?_
                      rintro e y1 ⟨rfl, b⟩
                      have Q1 : Hid (Below z.heap.size z y1) := Lib.hid (bw HR.out b)
                      clear b
                      go_wp2_with fail
                      refine (K2.out _ Q1.out).mono ?_
                      rintro e y2 ⟨rfl, b⟩
                      have Q2 : Hid (Below z.heap.size z y2) := Lib.hid (bw Q1.out b)
                      clear b
                      go_wp2_with fail
                      refine (K3.out _ Q2.out).mono ?_
                      rintro e y3 ⟨rfl, b⟩
                      have Q3 : Hid (Below z.heap.size z y3) := Lib.hid (bw Q2.out b)
                      clear b
                      go_wp2_with fail
                      refine (K3.out _ Q3.out).mono ?_
                      rintro e y4 ⟨rfl, b⟩
                      have Q4 : Hid (Below z.heap.size z y4) := Lib.hid (bw Q3.out b)
                      clear b
                      go_wp2_with fail
                      refine (K1.out _ Q4.out).mono ?_
                      rintro e y5 ⟨rfl, b⟩
                      have Q5 : Hid (Below z.heap.size z y5) := Lib.hid (bw Q4.out b)
                      clear b
                      go_wp2_with fail
                      refine (K2.out _ Q5.out).mono ?_
                      rintro e y6 ⟨rfl, b⟩
                      have Q6 : Hid (Below z.heap.size z y6) := Lib.hid (bw Q5.out b)
                      clear b
                      go_wp2
                      go_meet
                      exact ⟨by first | rfl | (simp; done) | (simp; omega), Q6⟩
                    · clear HE
                      go_wp2_with fail
                      refine (K1.out _ HR.out).mono ?_
                      rintro e y1 ⟨rfl, b⟩
                      have Q1 : Hid (Below z.heap.size z y1) := Lib.hid (bw HR.out b)
                      clear b
                      go_wp2_with fail
                      refine (K2.out _ Q1.out).mono ?_
                      rintro e y2 ⟨rfl, b⟩
                      have Q2 : Hid (Below z.heap.size z y2) := Lib.hid (bw Q1.out b)
                      clear b
                      go_wp2_with fail
                      refine (K3.out _ Q2.out).mono ?_
                      rintro e y3 ⟨rfl, b⟩
                      have Q3 : Hid (Below z.heap.size z y3) := Lib.hid (bw Q2.out b)
                      clear b
                      go_wp2
                      go_meet
                      exact ⟨by first | rfl | (simp; done) | (simp; omega), Q3⟩
                  · clear HE
                    go_wp2_with fail
                    refine (K1.out _ HR.out).mono ?_
                    rintro e y1 ⟨rfl, b⟩
                    have Q1 : Hid (Below z.heap.size z y1) := Lib.hid (bw HR.out b)
                    clear b
                    go_wp2_with fail
                    refine (K2.out _ Q1.out).mono ?_
                    rintro e y2 ⟨rfl, b⟩
                    have Q2 : Hid (Below z.heap.size z y2) := Lib.hid (bw Q1.out b)
                    clear b
                    go_wp2
                    go_meet
                    exact ⟨by first | rfl | (simp; done) | (simp; omega), Q2⟩
                · clear HE
                  go_wp2_with fail
                  refine (K1.out _ HR.out).mono ?_
                  rintro e y1 ⟨rfl, b⟩
                  have Q1 : Hid (Below z.heap.size z y1) := Lib.hid (bw HR.out b)
                  clear b
                  go_wp2
                  go_meet
                  exact ⟨by first | rfl | (simp; done) | (simp; omega), Q1⟩
            case rest =>
              clear HR
              obtain ⟨rfl, HR⟩ := hcut
              go_upto_region 26 with (fail)
              go_cut [248] from 213 to 247 (fun s248 wx => s248 = .bool false ∧ Hid (Below z.heap.size z wx))
              case first =>
                clear KX KM KA KB KJ HX HJ
                cases bp with
                | false =>
                  clear KC KD KP HPR
                  go_wp2
                  go_meet
                  exact ⟨by first | rfl | (simp; done) | (simp; omega), HR⟩
                | true =>
                  by_cases h3 : (i : Int) < 3
                  · have he := HPR.out rfl (i : Int)
                    have k1 := fun w' (h : Below z.heap.size z w') => KC.out (i : Int) w' h
                    have k2 := fun w' (h : Below z.heap.size z w') => KD.out (i : Int) w' h
                    have k3 := fun w' (h : Below z.heap.size z w') => KP.out (i : Int) w' h
                    have l1 := (closed_le C (i : Int)).2
                    have l2 := (closed_le D (i : Int)).2
                    generalize closedM C (i : Int) = ca at k1 he l1
                    generalize closedM D (i : Int) = cb at k2 he l2
                    generalize closedM P (i : Int) = cj at k3 he
                    have K1 := Lib.hid k1
                    have K2 := Lib.hid k2
                    have K3 := Lib.hid k3
                    have HE := Lib.hid he
                    clear k1 k2 k3 he KC KD KP HPR
                    by_cases ha : 0 ≤ ca
                    · by_cases hb : 0 ≤ cb
                      · by_cases hj : 0 ≤ cj
                        · have hs := HE.out ha hb hj
                          obtain ⟨p0, p1⟩ := closed_prod ⟨ha, l1⟩ ⟨hb, l2⟩
                          have w1 : RowKit.wrap64 (ca * cb) = ca * cb := by
                            generalize ca * cb = q at p0 p1
                            unfold RowKit.wrap64; omega
                          have w2 : IntKind.i64.wrap (ca * cb) = ca * cb := by
                            generalize ca * cb = q at p0 p1
                            rw [IntKind.wrap_i64]; omega
                          clear HE
                          subst hs
                          go_wp2_with fail
                          refine (K1.out _ HR.out).mono ?_
                          rintro e y1 ⟨rfl, b⟩
                          have Q1 : Hid (Below z.heap.size z y1) := Lib.hid (bw HR.out b)
                          clear b
                          go_wp2_with fail
                          refine (K2.out _ Q1.out).mono ?_
                          rintro e y2 ⟨rfl, b⟩
                          have Q2 : Hid (Below z.heap.size z y2) := Lib.hid (bw Q1.out b)
                          clear b
                          go_wp2_with fail
                          refine (K3.out _ Q2.out).mono ?_
                          rintro e y3 ⟨rfl, b⟩
                          have Q3 : Hid (Below z.heap.size z y3) := Lib.hid (bw Q2.out b)
                          clear b
                          go_wp2_with fail
                          refine (K3.out _ Q3.out).mono ?_
                          rintro e y4 ⟨rfl, b⟩
                          have Q4 : Hid (Below z.heap.size z y4) := Lib.hid (bw Q3.out b)
                          clear b
                          go_wp2_with fail
                          refine (K1.out _ Q4.out).mono ?_
                          rintro e y5 ⟨rfl, b⟩
                          have Q5 : Hid (Below z.heap.size z y5) := Lib.hid (bw Q4.out b)
                          clear b
                          go_wp2_with fail
                          refine (K2.out _ Q5.out).mono ?_
                          rintro e y6 ⟨rfl, b⟩
                          have Q6 : Hid (Below z.heap.size z y6) := Lib.hid (bw Q5.out b)
                          clear b
                          go_wp2
                          go_meet
                          exact ⟨by first | rfl | (simp; done) | (simp; omega), Q6⟩
                        · clear HE
                          go_wp2_with fail
                          refine (K1.out _ HR.out).mono ?_
                          rintro e y1 ⟨rfl, b⟩
                          have Q1 : Hid (Below z.heap.size z y1) := Lib.hid (bw HR.out b)
                          clear b
                          go_wp2_with fail
                          refine (K2.out _ Q1.out).mono ?_
                          rintro e y2 ⟨rfl, b⟩
                          have Q2 : Hid (Below z.heap.size z y2) := Lib.hid (bw Q1.out b)
                          clear b
                          go_wp2_with fail
                          refine (K3.out _ Q2.out).mono ?_
                          rintro e y3 ⟨rfl, b⟩
                          have Q3 : Hid (Below z.heap.size z y3) := Lib.hid (bw Q2.out b)
                          clear b
                          go_wp2
                          go_meet
                          exact ⟨by first | rfl | (simp; done) | (simp; omega), Q3⟩
                      · clear HE
                        go_wp2_with fail
                        refine (K1.out _ HR.out).mono ?_
                        rintro e y1 ⟨rfl, b⟩
                        have Q1 : Hid (Below z.heap.size z y1) := Lib.hid (bw HR.out b)
                        clear b
                        go_wp2_with fail
                        refine (K2.out _ Q1.out).mono ?_
                        rintro e y2 ⟨rfl, b⟩
                        have Q2 : Hid (Below z.heap.size z y2) := Lib.hid (bw Q1.out b)
                        clear b
                        go_wp2
                        go_meet
                        exact ⟨by first | rfl | (simp; done) | (simp; omega), Q2⟩
                    · clear HE
                      go_wp2_with fail
                      refine (K1.out _ HR.out).mono ?_
                      rintro e y1 ⟨rfl, b⟩
                      have Q1 : Hid (Below z.heap.size z y1) := Lib.hid (bw HR.out b)
                      clear b
                      go_wp2
                      go_meet
                      exact ⟨by first | rfl | (simp; done) | (simp; omega), Q1⟩
                  · clear KC KD KP HPR
                    go_wp2
                    go_meet
                    exact ⟨by first | rfl | (simp; done) | (simp; omega), HR⟩
              case rest =>
                clear HR
                obtain ⟨rfl, HR⟩ := hcut
                clear KX KM KA KB KJ KC KD KP HX HJ HPR
                go_wp2
                go_roundw
                case rel => exact ⟨i + 1, by omega, by omega, by go_num, HR⟩
                case measure => simp [intOf]; omega
        · obtain rfl : i = 5 := by omega
          clear KX KM KA KB KJ KC KD KP HJ HPR
          cases bx with
          | false =>
            clear CMX CSU CCP HX
            go_wp2
            go_ret
            exact ⟨by first | rfl | (simp; done), HEND.out _ HR.out⟩
          | true =>
            obtain ⟨-, h2, h3⟩ := HX.out rfl
            have k1 := CMX.out
            have k2 := CSU.out
            have k3 := CCP.out
            rw [h2] at k1
            generalize sumM X = s1 at k2 h3
            generalize countM M 2 = s2 at k3 h3
            subst h3
            have K1 := Lib.hid k1
            have K2 := Lib.hid k2
            have K3 := Lib.hid k3
            clear k1 k2 k3 h2 CMX CSU CCP HX
            go_wp2_with fail
            refine (K1.out _ HR.out).mono ?_
            rintro e y1 ⟨rfl, b⟩
            have Q1 : Hid (Below z.heap.size z y1) := Lib.hid (bw HR.out b)
            clear b
            go_wp2_with fail
            refine (K2.out _ Q1.out).mono ?_
            rintro e y2 ⟨rfl, hw⟩
            obtain rfl : y1 = y2 := hw.symm
            go_wp2_with fail
            refine (K3.out _ Q1.out).mono ?_
            rintro e y3 ⟨rfl, b⟩
            have Q3 : Hid (Below z.heap.size z y3) := Lib.hid (bw Q1.out b)
            clear b
            go_wp2
            go_ret
            exact ⟨by first | rfl | (simp; done), HEND.out _ Q3.out⟩
  · have HG := Lib.hid (big_is a n cp true (by simp; omega) w)
    clear hcode hsh hpow
    go_enter Tryz.func3, Tryz.ntmps3
    go_wp2_with fail
    refine HG.out.mono ?_
    rintro e w0 ⟨rfl, rfl⟩
    go_wp2
    go_ret
    exact ⟨rfl, Below.refl _ _⟩
end Go.Proofs.YtalclebehbdliaaGreatDoor
