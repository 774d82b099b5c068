/-
  The law on graphs: whatever the bytes it returns true; nothing that was there before is changed. Over the program's contracts.
-/
import Derived.Test.YthljogoggiejmaaDrawGraphs
import Derived.Test.YthljogoggiejmaaGraphFacts
import Derived.Test.YthljogoggiejmaaSameLists
import Derived.Test.YthljogoggiejmaaDrawTexts
import Derived.Test.YthljogoggiejmaaGridRoom
namespace Go.Proofs.Ythljogoggiejmaa
open Go Go.RowKit

theorem codeAt_next {w w' : World} {a : Option Addr} {n : Nat} (h : CodeAt w w.heap.size a n) (hb : Below w.heap.size w w') : CodeAt w' w'.heap.size a n := by
  intro k hk
  obtain ⟨b, off, z, rfl, hlt, z0, z1, hc⟩ := h k hk
  exact ⟨b, off, z, rfl, Nat.lt_of_lt_of_le hlt hb.size, z0, z1, (hb.cell (p := ⟨b, off + k, none⟩) hlt).trans hc⟩
theorem bl {w w1 w2 : World} (h : Below w.heap.size w w1) (k : Below w1.heap.size w1 w2) : Below w.heap.size w w2 := h.trans (k.mono h.size)

/-- A contract in every later world, for tables that need not be the caller's own. -/
def At1V (W : World) (f : Nat) (m : List (List Int)) (P : World → Ending → World → Prop) : Prop := ∀ v w', Below W.heap.size W w' → SizeB m → GridV w' v m → Calls Try.prog f #[v] w' (P w')
def At1IV (W : World) (f : Nat) (m : List (List Int)) (n : Int) (P : World → Ending → World → Prop) : Prop := ∀ v w', Below W.heap.size W w' → SizeB m → GridV w' v m → Calls Try.prog f #[v, .int .i64 n] w' (P w')
def At1AV (W : World) (f : Nat) (m : List (List Int)) (l : List Int) (P : World → Ending → World → Prop) : Prop := ∀ v v' w', Below W.heap.size W w' → SizeB m → SizeL l → GridV w' v m → RowV w' v' l → Calls Try.prog f #[v, v'] w' (P w')
/-- The same, for a list that has room for itself. -/
def At1AVC (W : World) (f : Nat) (m : List (List Int)) (l : List Int) (P : World → Ending → World → Prop) : Prop := ∀ v v' w', Below W.heap.size W w' → SizeB m → SizeL l → GridV w' v m → RowVC w' v' l → Calls Try.prog f #[v, v'] w' (P w')
/-- A table whose rows have room for themselves; nothing that was there before is changed. -/
def SpecGC (r : List (List Int)) (w : World) (e : Ending) (w' : World) : Prop := ∃ v, e = .returned v ∧ GridVC w' v r ∧ Below w.heap.size w w'
theorem specV_isGraph (W : World) (m : List (List Int)) : At1V W 31 m (Scalar (.bool (isGraphM m))) := by
  intro v w' _ hz ho
  obtain ⟨A, c, rfl, hg⟩ := ho
  obtain ⟨h1, h2, h3⟩ := rows_le hz
  exact (spec_isGraph A c m (by omega) h3 w' hg).mono fun e w2 ⟨he, hw⟩ => ⟨he, hw ▸ Below.refl _ _⟩
theorem specV_arcsOf (W : World) (m : List (List Int)) : At1V W 27 m (SpecG (arcsOfM m)) := by
  intro v w' _ hz ho
  obtain ⟨A, c, rfl, hg⟩ := ho
  obtain ⟨h1, h2, h3⟩ := rows_le hz
  exact (spec_arcsOf A c m (by omega) h3 w' hg).mono fun _ _ ⟨v, he, ho, hb⟩ => ⟨v, he, ho.gridV, hb⟩
theorem specV_isPath (W : World) (m : List (List Int)) (l : List Int) : At1AV W 24 m l (Scalar (.bool (isGraphM m && isPathM (arcsM m) l))) := by
  intro v v' w' _ hz hl ho ho'
  obtain ⟨A, c, rfl, hg⟩ := ho
  obtain ⟨A', c', rfl, hr⟩ := ho'
  obtain ⟨h1, h2, h3⟩ := rows_le hz
  unfold SizeL at hl
  exact spec_isPath A c m (by omega) h3 A' c' l (by omega) w' hg hr
theorem specV_countPaths (W : World) (m : List (List Int)) (n : Int) : At1IV W 29 m n (Scalar (.int .i64 (countM m n))) := by
  intro v w' _ hz ho
  obtain ⟨A, c, rfl, hg⟩ := ho
  obtain ⟨h1, h2, _⟩ := rows_le hz
  exact spec_countPaths A c m h1 h2 n w' hg
theorem specV_pathsOf (W : World) (m : List (List Int)) (n : Int) : At1IV W 22 m n (SpecG (pathsM m n)) := by
  intro v w' _ hz ho
  obtain ⟨A, c, rfl, hg⟩ := ho
  obtain ⟨h1, h2, _⟩ := rows_le hz
  exact (spec_pathsOf A c m h1 h2 n w' hg).mono fun _ _ ⟨v, he, ho, hb⟩ => ⟨v, he, ho.gridV, hb⟩
theorem specV_livelyOf (W : World) (m : List (List Int)) : At1V W 26 m (SpecA (livelyM m)) := by
  intro v w' _ hz ho
  obtain ⟨A, c, rfl, hg⟩ := ho
  obtain ⟨h1, h2, h3⟩ := rows_le hz
  exact (spec_livelyOf A c m (by omega) h3 w' hg).mono fun _ _ ⟨v, he, ho, hb⟩ => ⟨v, he, ho.rowV, hb⟩
theorem specV_trimGraph (W : World) (m : List (List Int)) : At1V W 18 m (SpecGB ((trimM m).getD []) (trimM m).isSome) := by
  intro v w' _ hz ho
  obtain ⟨A, c, rfl, hg⟩ := ho
  obtain ⟨h1, h2, h3⟩ := rows_le hz
  exact (spec_trimGraph A c m (by omega) h3 w' hg).mono fun _ _ ⟨v, he, ho, hb⟩ => ⟨v, he, ho.gridV, hb⟩
theorem specV_isLively (W : World) (m : List (List Int)) : At1V W 33 m (Scalar (.bool (isLivelyM m))) := by
  intro v w' _ hz ho
  obtain ⟨A, c, rfl, hg⟩ := ho
  obtain ⟨h1, h2, h3⟩ := rows_le hz
  exact spec_isLively A c m (by omega) h3 w' hg
theorem Drawn.size {M : List (List Int)} (h : Drawn M) : SizeB M := by
  have := h.len
  have := h.tot
  unfold SizeB; omega
theorem likeV {w : World} {v v' : Value} {m : List (List Int)} (hz : SizeB m) (h : GridV w v m) (h' : GridV w v' m) : Calls Try.prog 21 #[v, v'] w (TrueBelowG w) := by
  obtain ⟨A, c, rfl, hg⟩ := h
  obtain ⟨A', c', rfl, hg'⟩ := h'
  obtain ⟨h1, h2, _⟩ := rows_le hz
  exact like_grids A A' c c' m h1 h2 w hg hg'
theorem likeR {w : World} {v v' : Value} {l : List Int} (hz : SizeL l) (h : RowV w v l) (h' : RowV w v' l) : Calls Try.prog 25 #[v, v'] w (TrueBelowG w) := by
  obtain ⟨A, c, rfl, hg⟩ := h
  obtain ⟨A', c', rfl, hg'⟩ := h'
  unfold SizeL at hz
  exact like_ints A A' c c' l (by omega) w hg hg'

/-- The program's functions of the chapter, in every later world. -/
structure GraphsAt (W : World) : Prop where
  isGraph : ∀ m, At1V W 30 m (Scalar (.bool (isGraphM m)))
  arcsOf : ∀ m, At1V W 20 m (SpecG (arcsOfM m))
  isPath : ∀ m l, At1AVC W 23 m l (Scalar (.bool (isGraphM m && isPathM (arcsM m) l)))
  countPaths : ∀ m n, At1IV W 28 m n (Scalar (.int .i64 (countM m n)))
  pathsOf : ∀ m n, At1IV W 14 m n (SpecGC (pathsM m n))
  livelyOf : ∀ m, At1V W 19 m (SpecA (livelyM m))
  trimGraph : ∀ m, At1V W 17 m (SpecGB ((trimM m).getD []) (trimM m).isSome)
  isLively : ∀ m, At1V W 32 m (Scalar (.bool (isLivelyM m)))
  sumOf : ∀ m, At1V W 34 m (Scalar (.int .i64 (sumM m)))

set_option maxRecDepth 100000 in
set_option maxHeartbeats 1600000 in
theorem law_graphs (a : Option Addr) (n cp : Nat) (w : World) (hcode : n ≤ 1048576 → CodeAt w w.heap.size a n) (hI : GraphsAt w) :
    Calls Try.prog 3 #[.slice a n cp] w fun e w' => e = .returned (.bool true) ∧ Below w.heap.size w w' := by
  by_cases hle : n ≤ 1048576
  · have HG := Lib.hid (big_is a n cp false (by simp; omega) w)
    have HC := Lib.hid (fun w' (hb : Below w.heap.size w w') => codeAt_next (hcode hle) hb)
    have D1 := Lib.hid (fun w' hb => draw_paths a n cp w' (HC.out w' hb) hle)
    have D2 := Lib.hid (fun w' hb => draw_isPath a n cp w' (HC.out w' hb) hle)
    have D3 := Lib.hid (fun w' hb => draw_trim a n cp w' (HC.out w' hb) hle)
    have HI := Lib.hid hI
    clear hcode hI
    go_enter Try.func3, Try.ntmps3
    go_wp2_with fail
    refine HG.out.mono ?_
    rintro e w0 ⟨rfl, rfl⟩
    go_wp2_with fail
    refine (D1.out _ (Below.refl _ _)).mono ?_
    rintro e w1 ⟨v1, M, x, rfl, g1, d1, b1⟩
    have ZM := Lib.hid d1.size
    have B1 := Lib.hid b1
    have G1 := Lib.hid g1
    clear d1 b1 g1
    have C2 := Lib.hid (HI.out.pathsOf M x v1 w1 B1.out ZM.out G1.out)
    go_wp2_with fail
    refine C2.out.mono ?_
    rintro e w2 ⟨v2, rfl, g2, b2⟩
    have B2 := Lib.hid (bl B1.out b2)
    have M2 := Lib.hid (G1.out.below b2)
    have P2 := Lib.hid g2
    clear b2 g2 C2
    go_wp2_with fail
    refine (D2.out w2 B2.out).mono ?_
    rintro e w3 ⟨v3, Q, v4, l, rfl, g3, d3, r3, hl3, b3⟩
    have ZQ := Lib.hid d3.size
    have B3 := Lib.hid (bl B2.out b3)
    have M3 := Lib.hid (M2.out.below b3)
    have P3 := Lib.hid (P2.out.below b3)
    have Q3 := Lib.hid g3
    have R3 := Lib.hid r3
    have ZL : Hid (SizeL l) := Lib.hid hl3
    clear g3 d3 r3 hl3 b3
    go_wp2_with fail
    refine (D3.out w3 B3.out).mono ?_
    rintro e w4 ⟨v5, T, rfl, g4, d4, b4⟩
    have ZT := Lib.hid d4.size
    have B4 := Lib.hid (bl B3.out b4)
    have M4 := Lib.hid (M3.out.below b4)
    have P4 := Lib.hid (P3.out.below b4)
    have Q4 := Lib.hid (Q3.out.below b4)
    have R4 := Lib.hid (R3.out.below b4)
    have T4 := Lib.hid g4
    clear g4 d4 b4
    have C5 := Lib.hid (HI.out.trimGraph T v5 w4 B4.out ZT.out T4.out)
    go_wp2_with fail
    refine C5.out.mono ?_
    rintro e w5 ⟨v6, rfl, g5, b5⟩
    have B5 := Lib.hid (bl B4.out b5)
    have T5 := Lib.hid (T4.out.below b5)
    have X5 := Lib.hid g5
    have C6 := Lib.hid (specV_trimGraph w T v5 w5 B5.out ZT.out T5.out)
    have L5 := Lib.hid b5
    clear g5 b5 C5
    go_wp2_with fail
    refine C6.out.mono ?_
    rintro e w6 ⟨v7, rfl, g6, b6⟩
    have B6 := Lib.hid (bl B5.out b6)
    have T6 := Lib.hid (T5.out.below b6)
    have X6 := Lib.hid (X5.out.below b6)
    have W6 := Lib.hid g6
    have L6 := Lib.hid (bl L5.out b6)
    clear g6 b6 C6
    have C7 := Lib.hid (HI.out.livelyOf T v5 w6 B6.out ZT.out T6.out)
    go_wp2_with fail
    refine C7.out.mono ?_
    rintro e w7 ⟨v8, rfl, g7, b7⟩
    have B7 := Lib.hid (bl B6.out b7)
    have L7 := Lib.hid (bl L6.out b7)
    have T7 := Lib.hid (T6.out.below b7)
    have X7 := Lib.hid (X6.out.below b7)
    have W7 := Lib.hid (W6.out.below b7)
    have V7 := Lib.hid g7
    have M7 := Lib.hid (M4.out.below L7.out)
    clear g7 b7 C7
    have C8 := Lib.hid (HI.out.arcsOf M v1 w7 B7.out ZM.out M7.out)
    go_wp2_with fail
    refine C8.out.mono ?_
    rintro e w8 ⟨v9, rfl, g8, b8⟩
    have B8 := Lib.hid (bl B7.out b8)
    have L8 := Lib.hid (bl L7.out b8)
    have T8 := Lib.hid (T7.out.below b8)
    have X8 := Lib.hid (X7.out.below b8)
    have W8 := Lib.hid (W7.out.below b8)
    have V8 := Lib.hid (V7.out.below b8)
    have M8 := Lib.hid (M7.out.below b8)
    have P8 := Lib.hid (P4.out.below L8.out)
    have Q8 := Lib.hid (Q4.out.below L8.out)
    have R8 := Lib.hid (R4.out.below L8.out)
    have A8 := Lib.hid g8
    clear g8 b8 C8
    have S9 := Lib.hid (fun w' (hb : Below w8.heap.size w8 w') => specV_pathsOf w M x v1 w' (bl B8.out hb) ZM.out (M8.out.below hb))
    have E9 := Lib.hid (fun w' v' (hb : Below w8.heap.size w8 w') (h : GridV w' v' (pathsM M x)) => likeV (sizeB_paths M x) (P8.out.below hb).gridV h)
    have I10 := Lib.hid (fun w' (hb : Below w8.heap.size w8 w') => HI.out.isPath Q l v3 v4 w' (bl B8.out hb) ZQ.out ZL.out (Q8.out.below hb) (R8.out.below hb))
    have S10 := Lib.hid (fun w' (hb : Below w8.heap.size w8 w') => specV_isPath w Q l v3 v4 w' (bl B8.out hb) ZQ.out ZL.out (Q8.out.below hb) (R8.out.below hb).rowV)
    have E11 := Lib.hid (fun w' (hb : Below w8.heap.size w8 w') => likeV (sizeB_trim T) (X8.out.below hb) (W8.out.below hb))
    have S12 := Lib.hid (fun w' (hb : Below w8.heap.size w8 w') => specV_livelyOf w T v5 w' (bl B8.out hb) ZT.out (T8.out.below hb))
    have E12 := Lib.hid (fun w' v' (hb : Below w8.heap.size w8 w') (h : RowV w' v' (livelyM T)) => likeR (sizeL_lively T) (V8.out.below hb) h)
    have S13 := Lib.hid (fun w' (hb : Below w8.heap.size w8 w') => specV_arcsOf w M v1 w' (bl B8.out hb) ZM.out (M8.out.below hb))
    have E13 := Lib.hid (fun w' v' (hb : Below w8.heap.size w8 w') (h : GridV w' v' (arcsOfM M)) => likeV (sizeB_arcs M) (A8.out.below hb) h)
    have I14 := Lib.hid (fun w' (hb : Below w8.heap.size w8 w') => HI.out.countPaths M x v1 w' (bl B8.out hb) ZM.out (M8.out.below hb))
    have S14 := Lib.hid (fun w' (hb : Below w8.heap.size w8 w') => specV_countPaths w M x v1 w' (bl B8.out hb) ZM.out (M8.out.below hb))
    have I15 := Lib.hid (fun w' (hb : Below w8.heap.size w8 w') => HI.out.isGraph M v1 w' (bl B8.out hb) ZM.out (M8.out.below hb))
    have S15 := Lib.hid (fun w' (hb : Below w8.heap.size w8 w') => specV_isGraph w M v1 w' (bl B8.out hb) ZM.out (M8.out.below hb))
    have I16 := Lib.hid (fun w' (hb : Below w8.heap.size w8 w') => HI.out.isLively T v5 w' (bl B8.out hb) ZT.out (T8.out.below hb))
    have S16 := Lib.hid (fun w' (hb : Below w8.heap.size w8 w') => specV_isLively w T v5 w' (bl B8.out hb) ZT.out (T8.out.below hb))
    have I17 := Lib.hid (fun w' (hb : Below w8.heap.size w8 w') => HI.out.sumOf M v1 w' (bl B8.out hb) ZM.out (M8.out.below hb))
    have I18 := Lib.hid (fun w' (hb : Below w8.heap.size w8 w') => HI.out.isLively ((trimM T).getD []) v6 w' (bl B8.out hb) (sizeB_trim T) (X8.out.below hb))
    have I19 := Lib.hid (fun l' v' w' (hb : Below w8.heap.size w8 w') (hz : SizeL l') (hr : RowVC w' v' l') => HI.out.isPath M l' v1 v' w' (bl B8.out hb) ZM.out hz (M8.out.below hb) hr)
    obtain ⟨Ap, cp2, rfl, gp⟩ := P8.out
    obtain ⟨Ax, cx, rfl, gx⟩ := X8.out
    obtain ⟨Av, cv, rfl, gv⟩ := V8.out
    obtain ⟨Aa, ca, rfl, ga⟩ := A8.out
    obtain ⟨At, ct, rfl, gt⟩ := T8.out
    have HGP := Lib.hid gp
    clear gp gx gv ga gt X8 V8 A8 T8 P8 X7 V7 T7 X6 T6 P4 T4 T5 X5 P3 P2
    have HPF := Lib.hid (pathsM_paths (m := M) (n := x))
    have HPZ := Lib.hid (sizeB_paths M x)
    have hPl : (pathsM M x).length ≤ 1048576 := by have := HPZ.out; unfold SizeB at this; omega
    have HTF := Lib.hid (trimM_facts T)
    have HAL : Hid (isGraphM M = true → ((arcsOfM M).length : Int) = sumM M) := Lib.hid fun h => by
      unfold arcsOfM
      rw [if_pos h]
      exact arcsM_length (isGraphM_facts h).1
    have HCN : Hid (isGraphM M = true → 1 ≤ x → x ≤ 6 → 0 ≤ countM M x → countM M x ≤ 500 → ((pathsM M x).length : Int) = countM M x) := Lib.hid fun h h1 h2 h3 h4 => (pathsM_facts (by unfold pathsOkM; rw [h, decide_eq_true h1, decide_eq_true h2, decide_eq_true h3, decide_eq_true h4]; rfl)).1
    generalize (isGraphM Q && isPathM (arcsM Q) l) = q at I10 S10
    generalize pathsM M x = P at *
    generalize (trimM T).getD [] = X at *
    generalize (trimM T).isSome = ok at *
    generalize livelyM T = lv at *
    generalize arcsOfM M = ar at *
    generalize countM M x = cn at *
    generalize sumM M = sm at *
    generalize isLivelyM T = il at *
    generalize isLivelyM X = ix at *
    go_wp2_with fail
    refine (S9.out w8 (Below.refl _ _)).mono ?_
    rintro e w9 ⟨u9, rfl, g9, b9⟩
    have H9 := Lib.hid b9
    have G9 := Lib.hid g9
    clear b9 g9
    go_wp2_with fail
    refine (E9.out w9 u9 H9.out G9.out).mono ?_
    rintro e w10 ⟨rfl, b10⟩
    have H10 := Lib.hid (bl H9.out b10)
    clear b10
    go_wp2_with fail
    refine (I10.out w10 H10.out).mono ?_
    rintro e w11 ⟨rfl, b11⟩
    have H11 := Lib.hid (bl H10.out b11)
    clear b11
    go_wp2_with fail
    refine (S10.out w11 H11.out).mono ?_
    rintro e w12 ⟨rfl, b12⟩
    have H12 := Lib.hid (bl H11.out b12)
    clear b12
    go_wp2_with fail
    refine (E11.out w12 H12.out).mono ?_
    rintro e w13 ⟨rfl, b13⟩
    have H13 := Lib.hid (bl H12.out b13)
    clear b13
    go_wp2_with fail
    refine (S12.out w13 H13.out).mono ?_
    rintro e w14 ⟨u14, rfl, g14, b14⟩
    have H14 := Lib.hid (bl H13.out b14)
    have G14 := Lib.hid g14
    clear b14 g14
    go_wp2_with fail
    refine (E12.out w14 u14 H14.out G14.out).mono ?_
    rintro e w15 ⟨rfl, b15⟩
    have H15 := Lib.hid (bl H14.out b15)
    clear b15
    go_wp2_with fail
    refine (S13.out w15 H15.out).mono ?_
    rintro e w16 ⟨u16, rfl, g16, b16⟩
    have H16 := Lib.hid (bl H15.out b16)
    have G16 := Lib.hid g16
    clear b16 g16
    go_wp2_with fail
    refine (E13.out w16 u16 H16.out G16.out).mono ?_
    rintro e w17 ⟨rfl, b17⟩
    have H17 := Lib.hid (bl H16.out b17)
    clear b17
    go_wp2_with fail
    refine (I14.out w17 H17.out).mono ?_
    rintro e w18 ⟨rfl, b18⟩
    have H18 := Lib.hid (bl H17.out b18)
    clear b18
    go_wp2_with fail
    refine (S14.out w18 H18.out).mono ?_
    rintro e w19 ⟨rfl, b19⟩
    have H19 := Lib.hid (bl H18.out b19)
    clear b19
    go_wp2_with fail
    refine (I15.out w19 H19.out).mono ?_
    rintro e w20 ⟨rfl, b20⟩
    have H20 := Lib.hid (bl H19.out b20)
    clear b20
    go_wp2_with fail
    refine (S15.out w20 H20.out).mono ?_
    rintro e w21 ⟨rfl, b21⟩
    have H21 := Lib.hid (bl H20.out b21)
    clear b21
    go_wp2_with fail
    refine (I16.out w21 H21.out).mono ?_
    rintro e w22 ⟨rfl, b22⟩
    have H22 := Lib.hid (bl H21.out b22)
    clear b22
    go_wp2_with fail
    refine (S16.out w22 H22.out).mono ?_
    rintro e w23 ⟨rfl, b23⟩
    have H23 := Lib.hid (bl H22.out b23)
    clear b23
    go_wp2
    go_loopw [15] (fun i wr => ∃ k : Nat, k ≤ P.length ∧ i = .int .i64 k ∧ Below w8.heap.size w8 wr) (fun i _ => P.length - (intOf i).toNat)
    case atStart => exact ⟨0, Nat.zero_le _, rfl, H23.out⟩
    case round =>
      obtain ⟨k, hk, rfl, hbl⟩ := hrel
      by_cases hlt : k < P.length
      · obtain ⟨b1, o1, R1, d1, rfl, k1, hr1, hc1, hb1⟩ := (HGP.out.below hbl).rowAt hlt
        have hx := HPF.out (P.getD k []) (by rw [show P.getD k [] = P[k] by simp [List.getD, hlt]]; exact List.getElem_mem hlt)
        have hz : SizeL (P.getD k []) := Nat.le_trans (row_le_tot hlt) (by have := HPZ.out; unfold SizeB at this; omega)
        generalize P.getD k [] = p at k1 hr1 hc1 hx hz
        have CP := Lib.hid (I19.out p (.slice R1 p.length d1) wr hbl hz ⟨R1, d1, rfl, hr1, hc1⟩)
        rw [hx.1] at CP
        have hne : ((p.length : Int) == x) = true := by rw [hx.2]; simp
        have HB := Lib.hid hbl
        clear hbl hr1 hc1 hx hz
        have g0 : (0 : Int) ≤ (k : Int) := by omega
        have g1 : (k : Int) < (P.length : Int) := by omega
        go_wp2_with fail
        refine CP.out.mono ?_
        rintro e w2 ⟨rfl, hb2⟩
        have y0 := (hb2.cell (p := ⟨b1, o1 + k, none⟩) hb1).trans k1
        have HB2 := Lib.hid (bl HB.out hb2)
        clear hb2 k1
        go_wp2
        go_roundw
        case rel => exact ⟨k + 1, by omega, by go_num, HB2.out⟩
        case measure => simp [intOf]; omega
      · obtain rfl : k = P.length := by omega
        have HB := Lib.hid hbl
        clear hbl HPF
        generalize isGraphM M = gm at *
        cases gm with
        | false =>
          go_wp2_with fail
          refine (S15.out wr HB.out).mono ?_
          rintro e wz ⟨rfl, cb⟩
          have HZ := Lib.hid (bl HB.out cb)
          clear cb
          cases ok with
          | false =>
            obtain rfl : lv = [] := List.eq_nil_of_length_eq_zero (HTF.out.2 rfl)
            go_wp2
            go_ret
            exact ⟨rfl, bl B8.out HZ.out⟩
          | true =>
            obtain ⟨hp, hX, hix, hil⟩ := HTF.out.1 rfl
            subst hix
            subst hil
            rw [hX] at I18 ⊢
            clear hp hX
            by_cases hh : lv.length = T.length
            · rw [decide_eq_true hh] at I16
              rw [← hh] at I16 ⊢
              clear hh
              go_wp2_with fail
              refine (I18.out wz HZ.out).mono ?_
              rintro e wy ⟨rfl, c18⟩
              have HY := Lib.hid (bl HZ.out c18)
              clear c18
              go_wp2_with fail
              refine (I16.out wy HY.out).mono ?_
              rintro e wx ⟨rfl, c16⟩
              have HX := Lib.hid (bl HY.out c16)
              clear c16
              go_wp2
              go_ret
              exact ⟨rfl, bl B8.out HX.out⟩
            · rw [decide_eq_false hh] at I16
              have hhb : ((lv.length : Int) == (T.length : Int)) = false := by simp; omega
              clear hh
              go_wp2_with fail
              refine (I18.out wz HZ.out).mono ?_
              rintro e wy ⟨rfl, c18⟩
              have HY := Lib.hid (bl HZ.out c18)
              clear c18
              go_wp2_with fail
              refine (I16.out wy HY.out).mono ?_
              rintro e wx ⟨rfl, c16⟩
              have HX := Lib.hid (bl HY.out c16)
              clear c16
              go_wp2
              go_ret
              exact ⟨rfl, bl B8.out HX.out⟩
        | true =>
          obtain rfl : sm = (ar.length : Int) := (HAL.out rfl).symm
          go_wp2_with fail
          refine (S15.out wr HB.out).mono ?_
          rintro e ws ⟨rfl, cb⟩
          have HS := Lib.hid (bl HB.out cb)
          clear cb
          go_wp2_with fail
          refine (I17.out ws HS.out).mono ?_
          rintro e wq ⟨rfl, cb⟩
          have HQ := Lib.hid (bl HS.out cb)
          clear cb
          by_cases h1 : 1 ≤ x
          · by_cases h6 : x ≤ 6
            · by_cases h0 : 0 ≤ cn
              · by_cases h5 : cn ≤ 500
                · obtain rfl : cn = (P.length : Int) := (HCN.out (by trivial) h1 h6 h0 h5).symm
                  go_wp2_with fail
                  refine (I14.out wq HQ.out).mono ?_
                  rintro e wt ⟨rfl, cb⟩
                  have HT2 := Lib.hid (bl HQ.out cb)
                  clear cb
                  go_wp2_with fail
                  refine (I14.out wt HT2.out).mono ?_
                  rintro e wu ⟨rfl, cb⟩
                  have HU := Lib.hid (bl HT2.out cb)
                  clear cb
                  go_wp2_with fail
                  refine (I14.out wu HU.out).mono ?_
                  rintro e wz ⟨rfl, cb⟩
                  have HZ := Lib.hid (bl HU.out cb)
                  clear cb
                  cases ok with
                  | false =>
                    obtain rfl : lv = [] := List.eq_nil_of_length_eq_zero (HTF.out.2 rfl)
                    go_wp2
                    go_ret
                    exact ⟨rfl, bl B8.out HZ.out⟩
                  | true =>
                    obtain ⟨hp, hX, hix, hil⟩ := HTF.out.1 rfl
                    subst hix
                    subst hil
                    rw [hX] at I18 ⊢
                    clear hp hX
                    by_cases hh : lv.length = T.length
                    · rw [decide_eq_true hh] at I16
                      rw [← hh] at I16 ⊢
                      clear hh
                      go_wp2_with fail
                      refine (I18.out wz HZ.out).mono ?_
                      rintro e wy ⟨rfl, c18⟩
                      have HY := Lib.hid (bl HZ.out c18)
                      clear c18
                      go_wp2_with fail
                      refine (I16.out wy HY.out).mono ?_
                      rintro e wx ⟨rfl, c16⟩
                      have HX := Lib.hid (bl HY.out c16)
                      clear c16
                      go_wp2
                      go_ret
                      exact ⟨rfl, bl B8.out HX.out⟩
                    · rw [decide_eq_false hh] at I16
                      have hhb : ((lv.length : Int) == (T.length : Int)) = false := by simp; omega
                      clear hh
                      go_wp2_with fail
                      refine (I18.out wz HZ.out).mono ?_
                      rintro e wy ⟨rfl, c18⟩
                      have HY := Lib.hid (bl HZ.out c18)
                      clear c18
                      go_wp2_with fail
                      refine (I16.out wy HY.out).mono ?_
                      rintro e wx ⟨rfl, c16⟩
                      have HX := Lib.hid (bl HY.out c16)
                      clear c16
                      go_wp2
                      go_ret
                      exact ⟨rfl, bl B8.out HX.out⟩
                · go_wp2_with fail
                  refine (I14.out wq HQ.out).mono ?_
                  rintro e wt ⟨rfl, cb⟩
                  have HT2 := Lib.hid (bl HQ.out cb)
                  clear cb
                  go_wp2_with fail
                  refine (I14.out wt HT2.out).mono ?_
                  rintro e wz ⟨rfl, cb⟩
                  have HZ := Lib.hid (bl HT2.out cb)
                  clear cb
                  cases ok with
                  | false =>
                    obtain rfl : lv = [] := List.eq_nil_of_length_eq_zero (HTF.out.2 rfl)
                    go_wp2
                    go_ret
                    exact ⟨rfl, bl B8.out HZ.out⟩
                  | true =>
                    obtain ⟨hp, hX, hix, hil⟩ := HTF.out.1 rfl
                    subst hix
                    subst hil
                    rw [hX] at I18 ⊢
                    clear hp hX
                    by_cases hh : lv.length = T.length
                    · rw [decide_eq_true hh] at I16
                      rw [← hh] at I16 ⊢
                      clear hh
                      go_wp2_with fail
                      refine (I18.out wz HZ.out).mono ?_
                      rintro e wy ⟨rfl, c18⟩
                      have HY := Lib.hid (bl HZ.out c18)
                      clear c18
                      go_wp2_with fail
                      refine (I16.out wy HY.out).mono ?_
                      rintro e wx ⟨rfl, c16⟩
                      have HX := Lib.hid (bl HY.out c16)
                      clear c16
                      go_wp2
                      go_ret
                      exact ⟨rfl, bl B8.out HX.out⟩
                    · rw [decide_eq_false hh] at I16
                      have hhb : ((lv.length : Int) == (T.length : Int)) = false := by simp; omega
                      clear hh
                      go_wp2_with fail
                      refine (I18.out wz HZ.out).mono ?_
                      rintro e wy ⟨rfl, c18⟩
                      have HY := Lib.hid (bl HZ.out c18)
                      clear c18
                      go_wp2_with fail
                      refine (I16.out wy HY.out).mono ?_
                      rintro e wx ⟨rfl, c16⟩
                      have HX := Lib.hid (bl HY.out c16)
                      clear c16
                      go_wp2
                      go_ret
                      exact ⟨rfl, bl B8.out HX.out⟩
              · go_wp2_with fail
                refine (I14.out wq HQ.out).mono ?_
                rintro e wz ⟨rfl, cb⟩
                have HZ := Lib.hid (bl HQ.out cb)
                clear cb
                cases ok with
                | false =>
                  obtain rfl : lv = [] := List.eq_nil_of_length_eq_zero (HTF.out.2 rfl)
                  go_wp2
                  go_ret
                  exact ⟨rfl, bl B8.out HZ.out⟩
                | true =>
                  obtain ⟨hp, hX, hix, hil⟩ := HTF.out.1 rfl
                  subst hix
                  subst hil
                  rw [hX] at I18 ⊢
                  clear hp hX
                  by_cases hh : lv.length = T.length
                  · rw [decide_eq_true hh] at I16
                    rw [← hh] at I16 ⊢
                    clear hh
                    go_wp2_with fail
                    refine (I18.out wz HZ.out).mono ?_
                    rintro e wy ⟨rfl, c18⟩
                    have HY := Lib.hid (bl HZ.out c18)
                    clear c18
                    go_wp2_with fail
                    refine (I16.out wy HY.out).mono ?_
                    rintro e wx ⟨rfl, c16⟩
                    have HX := Lib.hid (bl HY.out c16)
                    clear c16
                    go_wp2
                    go_ret
                    exact ⟨rfl, bl B8.out HX.out⟩
                  · rw [decide_eq_false hh] at I16
                    have hhb : ((lv.length : Int) == (T.length : Int)) = false := by simp; omega
                    clear hh
                    go_wp2_with fail
                    refine (I18.out wz HZ.out).mono ?_
                    rintro e wy ⟨rfl, c18⟩
                    have HY := Lib.hid (bl HZ.out c18)
                    clear c18
                    go_wp2_with fail
                    refine (I16.out wy HY.out).mono ?_
                    rintro e wx ⟨rfl, c16⟩
                    have HX := Lib.hid (bl HY.out c16)
                    clear c16
                    go_wp2
                    go_ret
                    exact ⟨rfl, bl B8.out HX.out⟩
            · have HZ := HQ
              obtain ⟨wz, rfl⟩ : ∃ wz, wz = wq := ⟨_, rfl⟩
              cases ok with
              | false =>
                obtain rfl : lv = [] := List.eq_nil_of_length_eq_zero (HTF.out.2 rfl)
                go_wp2
                go_ret
                exact ⟨rfl, bl B8.out HZ.out⟩
              | true =>
                obtain ⟨hp, hX, hix, hil⟩ := HTF.out.1 rfl
                subst hix
                subst hil
                rw [hX] at I18 ⊢
                clear hp hX
                by_cases hh : lv.length = T.length
                · rw [decide_eq_true hh] at I16
                  rw [← hh] at I16 ⊢
                  clear hh
                  go_wp2_with fail
                  refine (I18.out wz HZ.out).mono ?_
                  rintro e wy ⟨rfl, c18⟩
                  have HY := Lib.hid (bl HZ.out c18)
                  clear c18
                  go_wp2_with fail
                  refine (I16.out wy HY.out).mono ?_
                  rintro e wx ⟨rfl, c16⟩
                  have HX := Lib.hid (bl HY.out c16)
                  clear c16
                  go_wp2
                  go_ret
                  exact ⟨rfl, bl B8.out HX.out⟩
                · rw [decide_eq_false hh] at I16
                  have hhb : ((lv.length : Int) == (T.length : Int)) = false := by simp; omega
                  clear hh
                  go_wp2_with fail
                  refine (I18.out wz HZ.out).mono ?_
                  rintro e wy ⟨rfl, c18⟩
                  have HY := Lib.hid (bl HZ.out c18)
                  clear c18
                  go_wp2_with fail
                  refine (I16.out wy HY.out).mono ?_
                  rintro e wx ⟨rfl, c16⟩
                  have HX := Lib.hid (bl HY.out c16)
                  clear c16
                  go_wp2
                  go_ret
                  exact ⟨rfl, bl B8.out HX.out⟩
          · have HZ := HQ
            obtain ⟨wz, rfl⟩ : ∃ wz, wz = wq := ⟨_, rfl⟩
            cases ok with
            | false =>
              obtain rfl : lv = [] := List.eq_nil_of_length_eq_zero (HTF.out.2 rfl)
              go_wp2
              go_ret
              exact ⟨rfl, bl B8.out HZ.out⟩
            | true =>
              obtain ⟨hp, hX, hix, hil⟩ := HTF.out.1 rfl
              subst hix
              subst hil
              rw [hX] at I18 ⊢
              clear hp hX
              by_cases hh : lv.length = T.length
              · rw [decide_eq_true hh] at I16
                rw [← hh] at I16 ⊢
                clear hh
                go_wp2_with fail
                refine (I18.out wz HZ.out).mono ?_
                rintro e wy ⟨rfl, c18⟩
                have HY := Lib.hid (bl HZ.out c18)
                clear c18
                go_wp2_with fail
                refine (I16.out wy HY.out).mono ?_
                rintro e wx ⟨rfl, c16⟩
                have HX := Lib.hid (bl HY.out c16)
                clear c16
                go_wp2
                go_ret
                exact ⟨rfl, bl B8.out HX.out⟩
              · rw [decide_eq_false hh] at I16
                have hhb : ((lv.length : Int) == (T.length : Int)) = false := by simp; omega
                clear hh
                go_wp2_with fail
                refine (I18.out wz HZ.out).mono ?_
                rintro e wy ⟨rfl, c18⟩
                have HY := Lib.hid (bl HZ.out c18)
                clear c18
                go_wp2_with fail
                refine (I16.out wy HY.out).mono ?_
                rintro e wx ⟨rfl, c16⟩
                have HX := Lib.hid (bl HY.out c16)
                clear c16
                go_wp2
                go_ret
                exact ⟨rfl, bl B8.out HX.out⟩
  · have HG := Lib.hid (big_is a n cp true (by simp; omega) w)
    clear hcode
    go_enter Try.func3, Try.ntmps3
    go_wp2_with fail
    refine HG.out.mono ?_
    rintro e w0 ⟨rfl, rfl⟩
    go_wp2
    go_ret
    exact ⟨rfl, Below.refl _ _⟩
end Go.Proofs.Ythljogoggiejmaa
