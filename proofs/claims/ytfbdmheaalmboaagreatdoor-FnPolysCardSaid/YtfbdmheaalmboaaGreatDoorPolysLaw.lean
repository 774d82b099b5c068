/-
  The law on polynomials: whatever the bytes it returns true; nothing that was there before is changed. Over the program's contracts.
-/
import Derived.Test.YtfbdmheaalmboaaGreatDoorMidTexts
import Derived.Test.YtfbdmheaalmboaaGreatDoorPolyCopies
import Derived.Test.YtfbdmheaalmboaaGreatDoorDrawDet
import Derived.Deep.CutRange
import Derived.Deep.RegionHeld3
import Derived.IntWalk
namespace Go.Proofs.YtfbdmheaalmboaaGreatDoor
open Go Go.RowKit

/-- The value is a slice that holds the table; it has room for itself, and so has each row. -/
def GridVR (w : World) (v : Value) (m : List (List Int)) : Prop := ∃ A c, v = .slice A m.length c ∧ GridC w A m ∧ m.length ≤ c
theorem GridVR.gridVC {w : World} {v : Value} {m : List (List Int)} (h : GridVR w v m) : GridVC w v m := by
  obtain ⟨A, c, hv, hg, _⟩ := h
  exact ⟨A, c, hv, hg⟩
theorem GridVR.below {w w' : World} {v : Value} {m : List (List Int)} (h : GridVR w v m) (hb : Below w.heap.size w w') : GridVR w' v m := by
  obtain ⟨A, c, hv, hg, hc⟩ := h
  exact ⟨A, c, hv, hg.below hb, hc⟩
theorem OwnG.gridVR {w : World} {B : Nat} {v : Value} {m : List (List Int)} (h : OwnG w B v m) : GridVR w v m := by
  obtain ⟨A, c, rfl, hg⟩ := h.gridC
  obtain ⟨vs, ho, hr⟩ := h
  obtain ⟨A2, c2, e, hc⟩ := row_room ho
  simp only [Value.slice.injEq, true_and] at e
  obtain ⟨_, rfl⟩ := e
  exact ⟨A, c, rfl, hg, hc⟩
/-- Contracts in every later world, for tables and lists that need not be the caller's own, but have room for themselves. -/
def At1VC (W : World) (f : Nat) (m : List (List Int)) (P : World → Ending → World → Prop) : Prop := ∀ v w', Below W.heap.size W w' → SizeB m → GridVR w' v m → Calls Tryz.prog f #[v] w' (P w')
def At1R (W : World) (f : Nat) (l : List Int) (P : World → Ending → World → Prop) : Prop := ∀ v w', Below W.heap.size W w' → SizeL l → RowVC w' v l → Calls Tryz.prog f #[v] w' (P w')
def At1RI (W : World) (f : Nat) (l : List Int) (x : Int) (P : World → Ending → World → Prop) : Prop := ∀ v w', Below W.heap.size W w' → SizeL l → RowVC w' v l → Calls Tryz.prog f #[v, .int .i64 x] w' (P w')
def At2R (W : World) (f : Nat) (l l2 : List Int) (P : World → Ending → World → Prop) : Prop := ∀ v v' w', Below W.heap.size W w' → SizeL l → SizeL l2 → RowVC w' v l → RowVC w' v' l2 → Calls Tryz.prog f #[v, v'] w' (P w')
theorem cell_in' {w : World} {p : Addr} {v : Value} (h : w.cell? p = some v) : p.block < w.heap.size := World.block_lt_of_cell? w p h
/-- The program's functions of the chapter, in every later world. -/
structure PolysAt (W : World) : Prop where
  isSmall : ∀ m, At1VC W 20 m (Scalar (.bool (smallM m)))
  determinantOf : ∀ m, At1VC W 9 m (Scalar (.tuple #[.int .i64 ((detS m).getD 0), .bool (detS m).isSome]))
  charPoly : ∀ m, At1VC W 6 m (NewA (charM m))
  turnedPoly : ∀ m, At1VC W 7 m (NewA (turnedM m))
  isRootless : ∀ m, At1VC W 22 m (Scalar (.bool (rootM m)))
  multiplyPolys : ∀ a b, At2R W 12 a b (NewA (mulP a b))
  polyAt : ∀ a x, At1RI W 14 a x (Scalar (.tuple #[.int .i64 ((atP a x).getD 0), .bool (atP a x).isSome]))
  polyText : ∀ a, (∀ x ∈ a, -9223372036854775808 ≤ x ∧ x ≤ 9223372036854775807) → At1R W 24 a (Scalar (.string (textP a)))
theorem LowL.wide {l : List Int} (h : LowL l) : ∀ x ∈ l, -9223372036854775808 ≤ x ∧ x ≤ 9223372036854775807 := fun x hx => by have := h x hx; omega
theorem sizeL_short {l : List Int} (h : l.length ≤ 5) : SizeL l := by unfold SizeL; omega
theorem small_rows4 {m : List (List Int)} (h : smallM m = true) : 1 ≤ m.length ∧ m.length ≤ 4 := ⟨(isMat_facts (small_facts h).1).pos, (small_facts h).2.1⟩
theorem small_turn {m : List (List Int)} (h : smallM m = true) : turnS m = turnM m ∧ SizeB (turnM m) ∧ charM (turnM m) = charM m := by
  refine ⟨?_, sizeB_facts (isMat_facts (small_facts (turn_small h)).1), char_turn h⟩
  unfold turnS
  rw [if_pos (small_facts h).1]
theorem specV_turnMatrix {m : List (List Int)} (hz : SizeB m) {v : Value} {w : World} (h : GridV w v m) : Calls Tryz.prog 27 #[v] w (NewG (turnS m) w) := by
  obtain ⟨A, c, rfl, hg⟩ := h
  obtain ⟨h1, h2, _⟩ := rows_le hz
  exact spec_turnMatrix A c m h1 h2 w hg
theorem specV_trace {m : List (List Int)} (hz : SizeB m) {v : Value} {w : World} (h : GridV w v m) : Calls Tryz.prog 26 #[v] w fun e w' => e = .returned (.int .i64 (traceM m)) ∧ w' = w := by
  obtain ⟨A, c, rfl, hg⟩ := h
  obtain ⟨h1, h2, h3⟩ := rows_le hz
  exact spec_traceOf A c m (by omega) h3 w hg

set_option maxRecDepth 100000 in
set_option maxHeartbeats 40000000 in
theorem law_polys (a : Option Addr) (n cp : Nat) (w : World) (hcode : n ≤ 1048576 → CodeAt w w.heap.size a n) (hI : PolysAt w) :
    Calls Tryz.prog 3 #[.slice a n cp] w fun e w' => e = .returned (.bool true) ∧ Below w.heap.size w w' := by
  by_cases hle : n ≤ 1048576
  · have HG := Lib.hid (big_is a n cp false (by simp; omega) w)
    have D1 := Lib.hid (draw_charPoly a n cp w (hcode hle) hle)
    have HCODE := Lib.hid (fun w' (hb : Below w.heap.size w w') => codeAt_next (hcode hle) hb)
    have HI := Lib.hid hI
    clear hcode hI
    go_enter Tryz.func3, Tryz.ntmps3
    go_wp2_with fail
    refine HG.out.mono ?_
    rintro e w0 ⟨rfl, rfl⟩
    go_wp2_with fail
    refine D1.out.mono ?_
    rintro e w1 ⟨vm, M, rfl, om, dm, b1⟩
    have ZM := Lib.hid dm.size
    have B1 := Lib.hid b1
    have M1 := Lib.hid om.gridVR
    clear dm b1 om
    have C2 := Lib.hid (HI.out.charPoly M vm w1 B1.out ZM.out M1.out)
    go_wp2_with fail
    refine C2.out.mono ?_
    rintro e w2 ⟨vc, rfl, oc, b⟩
    have B2 := Lib.hid (bl B1.out b)
    have M2 := Lib.hid (M1.out.below b)
    have P2 := Lib.hid oc.rowVC
    clear b oc C2
    have C3 := Lib.hid (HI.out.turnedPoly M vm w2 B2.out ZM.out M2.out)
    go_wp2_with fail
    refine C3.out.mono ?_
    rintro e w3 ⟨vt, rfl, ot, b⟩
    have B3 := Lib.hid (bl B2.out b)
    have M3 := Lib.hid (M2.out.below b)
    have P3 := Lib.hid (P2.out.below b)
    have T3 := Lib.hid ot.rowVC
    clear b ot C3
    have D4 := Lib.hid (draw_det a n cp w3 (HCODE.out w3 B3.out) hle)
    go_wp2_with fail
    refine D4.out.mono ?_
    rintro e w4 ⟨vd, D, rfl, od, dd, b⟩
    have B4 := Lib.hid (bl B3.out b)
    have M4 := Lib.hid (M3.out.below b)
    have P4 := Lib.hid (P3.out.below b)
    have T4 := Lib.hid (T3.out.below b)
    have ZD := Lib.hid dd.size
    have G4 := Lib.hid od.gridVR
    clear b od dd D4
    have C5 := Lib.hid (HI.out.determinantOf D vd w4 B4.out ZD.out G4.out)
    have S5 := Lib.hid (fun w' (hb : Below w4.heap.size w4 w') => specV_determinantOf ZD.out (G4.out.below hb).gridVC)
    generalize hdet : (detS D).getD 0 = dx at C5
    generalize hdeb : (detS D).isSome = db at C5
    go_wp2_with fail
    refine C5.out.mono ?_
    rintro e w5 ⟨rfl, b⟩
    have B5 := Lib.hid (bl B4.out b)
    have M5 := Lib.hid (M4.out.below b)
    have P5 := Lib.hid (P4.out.below b)
    have T5 := Lib.hid (T4.out.below b)
    have S6 := Lib.hid (S5.out w5 b)
    clear b C5 S5
    go_wp2_with fail
    refine S6.out.mono ?_
    rintro e w6 ⟨rfl, b⟩
    rw [hdet, hdeb]
    have B6 := Lib.hid (bl B5.out b)
    have M6 := Lib.hid (M5.out.below b)
    have P6 := Lib.hid (P5.out.below b)
    have T6 := Lib.hid (T5.out.below b)
    clear b S6 hdet hdeb
    have D7 := Lib.hid (draw_mulPolys a n cp w6 (HCODE.out w6 B6.out) hle)
    go_wp2_with fail
    refine D7.out.mono ?_
    rintro e w7 ⟨va, la, vb, lb, rfl, ra, hla, lowa, rb, hlb, lowb, b⟩
    have B7 := Lib.hid (bl B6.out b)
    have M7 := Lib.hid (M6.out.below b)
    have P7 := Lib.hid (P6.out.below b)
    have T7 := Lib.hid (T6.out.below b)
    have A7 := Lib.hid ra
    have R7 := Lib.hid rb
    have LA := Lib.hid lowa.wide
    clear b ra rb lowa lowb D7
    have C8 := Lib.hid (HI.out.multiplyPolys la lb va vb w7 B7.out (sizeL_short hla) (sizeL_short hlb) A7.out R7.out)
    go_wp2_with fail
    refine C8.out.mono ?_
    rintro e w8 ⟨vp, rfl, op, b⟩
    have B8 := Lib.hid (bl B7.out b)
    have M8 := Lib.hid (M7.out.below b)
    have P8 := Lib.hid (P7.out.below b)
    have T8 := Lib.hid (T7.out.below b)
    have A8 := Lib.hid (A7.out.below b)
    have R8 := Lib.hid (R7.out.below b)
    have O8 := Lib.hid op.rowVC
    clear b op C8
    have D9 := Lib.hid (draw_polyAt a n cp w8 (HCODE.out w8 B8.out) hle)
    go_wp2_with fail
    refine D9.out.mono ?_
    rintro e w9 ⟨vq, lq, xq, rfl, rq, hlq, _, b⟩
    have B9 := Lib.hid (bl B8.out b)
    have M9 := Lib.hid (M8.out.below b)
    have P9 := Lib.hid (P8.out.below b)
    have T9 := Lib.hid (T8.out.below b)
    have A9 := Lib.hid (A8.out.below b)
    have R9 := Lib.hid (R8.out.below b)
    have O9 := Lib.hid (O8.out.below b)
    have Q9 := Lib.hid rq
    clear b rq D9
    have C10 := Lib.hid (HI.out.polyAt lq xq vq w9 B9.out (sizeL_short hlq) Q9.out)
    have S10 := Lib.hid (fun w' (hb : Below w9.heap.size w9 w') => specV_polyAt (sizeL_short hlq) xq (Q9.out.below hb).rowV)
    generalize hpa : (atP lq xq).getD 0 = px at C10
    generalize hpb : (atP lq xq).isSome = pb at C10
    go_wp2_with fail
    refine C10.out.mono ?_
    rintro e w10 ⟨rfl, b⟩
    have B10 := Lib.hid (bl B9.out b)
    have M10 := Lib.hid (M9.out.below b)
    have P10 := Lib.hid (P9.out.below b)
    have T10 := Lib.hid (T9.out.below b)
    have A10 := Lib.hid (A9.out.below b)
    have R10 := Lib.hid (R9.out.below b)
    have O10 := Lib.hid (O9.out.below b)
    have S11 := Lib.hid (S10.out w10 b)
    clear b C10 S10
    go_wp2_with fail
    refine S11.out.mono ?_
    rintro e w11 ⟨rfl, b⟩
    rw [hpa, hpb]
    have B11 := Lib.hid (bl B10.out b)
    have M11 := Lib.hid (M10.out.below b)
    have P11 := Lib.hid (P10.out.below b)
    have T11 := Lib.hid (T10.out.below b)
    have A11 := Lib.hid (A10.out.below b)
    have R11 := Lib.hid (R10.out.below b)
    have O11 := Lib.hid (O10.out.below b)
    clear b S11 hpa hpb
    have SC := Lib.hid (fun w' (hb : Below w11.heap.size w11 w') => specV_charPoly ZM.out (M11.out.below hb).gridVC)
    have EC := Lib.hid (fun w' v' (hb : Below w11.heap.size w11 w') (h : RowV w' v' (charM M)) => likeR (sizeL_char M) (P11.out.below hb).rowV h)
    have EC2 := Lib.hid (fun w' v' (hb : Below w11.heap.size w11 w') (h : RowV w' v' (charM M)) => likeR (sizeL_char M) h (P11.out.below hb).rowV)
    have ST := Lib.hid (fun w' (hb : Below w11.heap.size w11 w') => specV_turnedPoly ZM.out (M11.out.below hb).gridVC)
    have ET := Lib.hid (fun w' v' (hb : Below w11.heap.size w11 w') (h : RowV w' v' (turnedM M)) => likeR (sizeL_turned M) (T11.out.below hb).rowV h)
    have SM := Lib.hid (fun w' (hb : Below w11.heap.size w11 w') => specV_multiplyPolys (sizeL_short hla) (sizeL_short hlb) (A11.out.below hb).rowV (R11.out.below hb).rowV)
    have EM := Lib.hid (fun w' v' (hb : Below w11.heap.size w11 w') (h : RowV w' v' (mulP la lb)) => likeR (sizeL_mul la lb) (O11.out.below hb).rowV h)
    have IS := Lib.hid (fun w' (hb : Below w11.heap.size w11 w') => HI.out.isSmall M vm w' (bl B11.out hb) ZM.out (M11.out.below hb))
    have SS := Lib.hid (fun w' (hb : Below w11.heap.size w11 w') => specV_isSmall ZM.out (M11.out.below hb).gridVC.gridV)
    have IR := Lib.hid (fun w' (hb : Below w11.heap.size w11 w') => HI.out.isRootless M vm w' (bl B11.out hb) ZM.out (M11.out.below hb))
    have SR := Lib.hid (fun w' (hb : Below w11.heap.size w11 w') => specV_isRootless ZM.out (M11.out.below hb).gridVC)
    have IT := Lib.hid (fun w' (hb : Below w11.heap.size w11 w') => HI.out.polyText la LA.out va w' (bl B11.out hb) (sizeL_short hla) (A11.out.below hb))
    have STX := Lib.hid (fun w' (hb : Below w11.heap.size w11 w') => specV_polyText (sizeL_short hla) LA.out (A11.out.below hb).rowV)
    have PA := Lib.hid (fun w' (hb : Below w11.heap.size w11 w') => HI.out.polyAt la 2 va w' (bl B11.out hb) (sizeL_short hla) (A11.out.below hb))
    have PB := Lib.hid (fun w' (hb : Below w11.heap.size w11 w') => HI.out.polyAt lb 2 vb w' (bl B11.out hb) (sizeL_short hlb) (R11.out.below hb))
    have PP := Lib.hid (fun w' (hb : Below w11.heap.size w11 w') => HI.out.polyAt (mulP la lb) 2 vp w' (bl B11.out hb) (sizeL_mul la lb) (O11.out.below hb))
    have PZ := Lib.hid (fun w' (hb : Below w11.heap.size w11 w') => HI.out.polyAt (charM M) 0 vc w' (bl B11.out hb) (sizeL_char M) (P11.out.below hb))
    have SD := Lib.hid (fun w' (hb : Below w11.heap.size w11 w') => specV_determinantOf ZM.out (M11.out.below hb).gridVC)
    have STR := Lib.hid (fun w' (hb : Below w11.heap.size w11 w') => specV_trace ZM.out (M11.out.below hb).gridVC.gridV)
    have STU := Lib.hid (fun w' (hb : Below w11.heap.size w11 w') => specV_turnMatrix ZM.out (M11.out.below hb).gridVC.gridV)
    have ICT := Lib.hid (fun w' v' (hb : Below w11.heap.size w11 w') (hz : SizeB (turnM M)) (h : GridVR w' v' (turnM M)) => HI.out.charPoly (turnM M) v' w' (bl B11.out hb) hz h)
    have HCS : Hid (smallM M = true → (charM M).length = M.length + 1 ∧ (charM M).getD M.length 0 = 1 ∧ (charM M).getD (M.length - 1) 0 = -traceM M) := Lib.hid fun h => (small_ends h).2
    have HTS : Hid (smallM M = true → 0 < (turnedM M).length ∧ (turnedM M).getD 0 0 = 1) := Lib.hid turned_head
    have HNS : Hid (smallM M = false → charM M = [] ∧ turnedM M = []) := Lib.hid not_smallM
    have HML : Hid (smallM M = true → 1 ≤ M.length ∧ M.length ≤ 4) := Lib.hid small_rows4
    have HDA : Hid (smallM M = true → (detT M).natAbs ≤ 1000000 ∧ (traceM M).natAbs ≤ 1000000) := Lib.hid fun h => ⟨det_abs h, trace_abs h⟩
    have HDS : Hid (smallM M = true → detS M = some (detT M)) := Lib.hid small_detS
    have HRT : Hid (smallM M = true → rootM M = decide (detT M ≠ 0)) := Lib.hid small_root
    have HCZ : Hid (smallM M = true → atP (charM M) 0 = some (sgn M.length * detT M)) := Lib.hid fun h => by rw [(small_ends h).1]; exact char_at_zero h
    have HTU : Hid (smallM M = true → turnS M = turnM M ∧ SizeB (turnM M) ∧ charM (turnM M) = charM M) := Lib.hid small_turn
    have HPR : Hid (∀ f g h : Int, la.length ≤ 4 → lb.length ≤ 2 → 0 < (mulP la lb).length → atP la 2 = some f → atP lb 2 = some g → atP (mulP la lb) 2 = some h → f * g = h ∧ (f * g).natAbs ≤ 225000000000000) := Lib.hid fun f g h h1 h2 h3 e1 e2 e3 => ⟨two_prod h1 h2 h3 e1 e2 e3, prod_abs (two_abs h1 e1).2 (two_abs (by omega) e2).2⟩
    have HPL := sizeL_mul la lb
    unfold SizeL at HPL
    have HZM := ZM.out
    unfold SizeB at HZM
    obtain ⟨Am, cm, hvm, gm⟩ := M11.out
    obtain ⟨Ac, cc, hvc, rc, _⟩ := P11.out
    obtain ⟨At, ct, hvt, rt, _⟩ := T11.out
    obtain ⟨Aa, ca, hva, _, _⟩ := A11.out
    obtain ⟨Ab, cb, hvb, _, _⟩ := R11.out
    obtain ⟨Ap, cpp, hvp, _, _⟩ := O11.out
    subst hvm hvc hvt hva hvb hvp
    have HRC := Lib.hid rc
    have HRTT := Lib.hid rt
    clear gm rc rt M1 M2 M3 M4 M5 M6 M7 M8 M9 M10 M11 P2 P3 P4 P5 P6 P7 P8 P9 P10 P11 T3 T4 T5 T6 T7 T8 T9 T10 T11 A7 A8 A9 A10 A11 R7 R8 R9 R10 R11 O8 O9 O10 O11 HI HCODE ZM ZD G4 Q9 LA
    clear B1 B2 B3 B4 B5 B6 B7 B8 B9 B10
    generalize hsm : smallM M = sm at *
    generalize hrt : rootM M = rt at *
    generalize htx : textP la = tx at *
    clear hsm hrt htx
    go_wp2_with fail
    refine (SC.out w11 (Below.refl _ _)).mono ?_
    rintro e w12 ⟨u12, rfl, o, b⟩
    have G12 := Lib.hid o.rowV
    have H12 := Lib.hid b
    clear b o
    go_wp2_with fail
    refine (EC.out w12 u12 H12.out G12.out).mono ?_
    rintro e w13 ⟨rfl, b⟩
    have H13 := Lib.hid (bl H12.out b)
    clear b
    go_wp2_with fail
    refine (ST.out w13 H13.out).mono ?_
    rintro e w14 ⟨u14, rfl, o, b⟩
    have G14 := Lib.hid o.rowV
    have H14 := Lib.hid (bl H13.out b)
    clear b o
    go_wp2_with fail
    refine (ET.out w14 u14 H14.out G14.out).mono ?_
    rintro e w15 ⟨rfl, b⟩
    have H15 := Lib.hid (bl H14.out b)
    clear b
    go_wp2_with fail
    refine (SM.out w15 H15.out).mono ?_
    rintro e w16 ⟨u16, rfl, o, b⟩
    have G16 := Lib.hid o.rowV
    have H16 := Lib.hid (bl H15.out b)
    clear b o
    go_wp2_with fail
    refine (EM.out w16 u16 H16.out G16.out).mono ?_
    rintro e w17 ⟨rfl, b⟩
    have H17 := Lib.hid (bl H16.out b)
    clear b
    go_wp2_with fail
    refine (IS.out w17 H17.out).mono ?_
    rintro e w18 ⟨rfl, b⟩
    have H18 := Lib.hid (bl H17.out b)
    clear b
    go_wp2_with fail
    refine (SS.out w18 H18.out).mono ?_
    rintro e w19 ⟨rfl, b⟩
    have H19 := Lib.hid (bl H18.out b)
    clear b
    go_wp2_with fail
    refine (IR.out w19 H19.out).mono ?_
    rintro e w20 ⟨rfl, b⟩
    have H20 := Lib.hid (bl H19.out b)
    clear b
    go_wp2_with fail
    refine (SR.out w20 H20.out).mono ?_
    rintro e w21 ⟨rfl, b⟩
    have H21 := Lib.hid (bl H20.out b)
    clear b
    go_wp2_with fail
    refine (IT.out w21 H21.out).mono ?_
    rintro e w22 ⟨rfl, b⟩
    have H22 := Lib.hid (bl H21.out b)
    clear b
    go_wp2_with fail
    refine (STX.out w22 H22.out).mono ?_
    rintro e w23 ⟨rfl, b⟩
    have H23 := Lib.hid (bl H22.out b)
    clear b SC EC ST ET SM EM SS SR IT STX H12 H13 H14 H15 H16 H17 H18 H19 H20 H21 H22 G12 G14 G16
    obtain ⟨short, hshort⟩ : ∃ b : Bool, b = decide (0 < (mulP la lb).length ∧ la.length ≤ 4 ∧ lb.length ≤ 2) := ⟨_, rfl⟩
    have HSH := Lib.hid hshort
    clear hshort
    go_upto_region 16 with (fail)
    go_cut [149] from 137 to 148 (fun s149 wx => s149 = .bool short ∧ wx = w23)
    case first =>
      clear HCS HTS HNS HML HDA HDS HRT HCZ HTU IS IR PZ SD STR STU ICT HRC HRTT EC2 HPR PA PB PP
      by_cases h1 : 0 < (mulP la lb).length
      · have k1 : (0 : Int) < ((mulP la lb).length : Int) := by omega
        by_cases h2 : la.length ≤ 4
        · have k2 : (la.length : Int) ≤ 4 := by omega
          by_cases h3 : lb.length ≤ 2
          · have k3 : (lb.length : Int) ≤ 2 := by omega
            have HB : Hid (short = true) := Lib.hid (by rw [HSH.out]; exact decide_eq_true ⟨h1, h2, h3⟩)
            clear h1 h2 h3 HSH
            go_wp2; go_meet; exact ⟨by rw [HB.out], rfl⟩
          · have k3 : ¬ (lb.length : Int) ≤ 2 := by omega
            have HB : Hid (short = false) := Lib.hid (by rw [HSH.out]; exact decide_eq_false fun h => h3 h.2.2)
            clear h1 h2 h3 HSH
            go_wp2; go_meet; exact ⟨by rw [HB.out], rfl⟩
        · have k2 : ¬ (la.length : Int) ≤ 4 := by omega
          have HB : Hid (short = false) := Lib.hid (by rw [HSH.out]; exact decide_eq_false fun h => h2 h.2.1)
          clear h1 h2 HSH
          go_wp2; go_meet; exact ⟨by rw [HB.out], rfl⟩
      · have k1 : ¬ (0 : Int) < ((mulP la lb).length : Int) := by omega
        have HB : Hid (short = false) := Lib.hid (by rw [HSH.out]; exact decide_eq_false fun h => h1 h.1)
        clear h1 HSH
        go_wp2; go_meet; exact ⟨by rw [HB.out], rfl⟩
    case rest =>
      obtain ⟨rfl, rfl⟩ := hcut
      go_upto_if 149 with (fail)
      go_cut [20, 21, 22, 23, 24, 25] from 150 to 178 (fun _ _ _ _ _ _ wx => Hid (Below w11.heap.size w11 wx))
      case first =>
        clear HCS HTS HNS HML HDA HDS HRT HCZ HTU IS IR PZ SD STR STU ICT HRC HRTT EC2
        cases short with
        | false => go_wp2; go_meet; exact H23
        | true =>
          obtain ⟨h1, h2, h3⟩ := of_decide_eq_true HSH.out.symm
          have HP3 := Lib.hid (fun f g h e1 e2 e3 => HPR.out f g h h2 h3 h1 e1 e2 e3)
          clear h1 h2 h3 HSH
          go_wp2_with fail
          refine (PA.out _ H23.out).mono ?_
          rintro e w24 ⟨rfl, b⟩
          have H24 := Lib.hid (bl H23.out b)
          clear b
          go_wp2_with fail
          refine (PB.out w24 H24.out).mono ?_
          rintro e w25 ⟨rfl, b⟩
          have H25 := Lib.hid (bl H24.out b)
          clear b
          go_wp2_with fail
          refine (PP.out w25 H25.out).mono ?_
          rintro e w26 ⟨rfl, b⟩
          have H26 := Lib.hid (bl H25.out b)
          clear b PA PB PP HPR H23 H24 H25
          cases e1 : atP la 2 with
          | none => go_wp2; go_meet; exact H26
          | some f =>
            cases e2 : atP lb 2 with
            | none => go_wp2; go_meet; exact H26
            | some g =>
              cases e3 : atP (mulP la lb) 2 with
              | none => go_wp2; go_meet; exact H26
              | some h =>
                obtain ⟨hv, hv2⟩ := HP3.out f g h e1 e2 e3
                clear HP3 e1 e2 e3
                have hw : RowKit.wrap64 (f * g) = h := by rw [hv] at hv2 ⊢; unfold RowKit.wrap64; omega
                clear hv hv2
                go_wp2
                go_meet
                exact H26
      case rest =>
        have HC0 := Lib.hid hcut.out
        clear hcut H23 PA PB PP HPR HSH
        go_wp2_with fail
        refine (IS.out wc HC0.out).mono ?_
        rintro e w30 ⟨rfl, b⟩
        have H30 := Lib.hid (bl HC0.out b)
        clear b HC0
        cases sm with
        | false =>
          obtain ⟨e1, e2⟩ := HNS.out (by first | rfl | trivial)
          have k1 : (((charM M).length : Int) == 0) = true := by rw [e1]; rfl
          have k2 : (((turnedM M).length : Int) == 0) = true := by rw [e2]; rfl
          clear HCS HTS HNS HML HDA HDS HRT HCZ HTU IR PZ SD STR STU ICT HRC HRTT EC2 e1 e2
          go_wp2
          go_ret
          exact ⟨by first | rfl | simp, bl B11.out H30.out⟩
        | true =>
          obtain ⟨c1, c2, c3⟩ := HCS.out (by first | rfl | trivial)
          obtain ⟨t1, t2⟩ := HTS.out (by first | rfl | trivial)
          obtain ⟨n1, n4⟩ := HML.out (by first | rfl | trivial)
          obtain ⟨d1, d2⟩ := HDA.out (by first | rfl | trivial)
          have dd := HDS.out (by first | rfl | trivial)
          have rr := HRT.out (by first | rfl | trivial)
          have cz := HCZ.out (by first | rfl | trivial)
          obtain ⟨u1, u2, u3⟩ := HTU.out (by first | rfl | trivial)
          have HZT := Lib.hid u2
          rw [u1] at STU
          rw [u3] at ICT
          unfold DetPost at SD
          rw [dd] at SD
          rw [cz] at PZ
          obtain ⟨bc, oc, rfl, hc, _⟩ := HRC.out (by omega)
          obtain ⟨bt, ot, rfl, ht, _⟩ := HRTT.out t1
          have q1 := hc M.length (by omega)
          have q2 := hc (M.length - 1) (by omega)
          have q3 := ht 0 t1
          rw [c2] at q1
          rw [c3] at q2
          rw [t2, Nat.add_zero] at q3
          simp only [Option.getD_some, Option.isSome_some] at SD PZ
          generalize detT M = δ at *
          generalize traceM M = τ at *
          have hσ2 := sgn_two M.length
          have HSG : Hid (sgn M.length = if M.length % 2 = 1 then -1 else 1) := Lib.hid (by
            unfold sgn
            by_cases h : M.length % 2 = 1
            · rw [if_pos h, if_neg (by omega)]
            · rw [if_neg h, if_pos (by omega)])
          generalize sgn M.length = σ at *
          obtain ⟨ζ, hζ⟩ : ∃ ζ : Int, σ * δ = ζ := ⟨_, rfl⟩
          have hζa : ζ.natAbs ≤ 1000000 := by
            rw [← hζ]
            rcases hσ2 with e | e <;> rw [e] <;> omega
          rw [hζ] at PZ
          rw [c1] at PZ EC2
          rw [c1]
          have RR := Lib.hid rr
          have HZE := Lib.hid hζ
          have D1 := Lib.hid d1
          clear c1 rr hζ d1
          clear HCS HTS HNS HML HDA HDS HRT HCZ HTU dd cz u1 u2 u3 c2 c3 t2 hc ht HRC HRTT HZM HPL
          go_wp2_with fail
          refine (PZ.out w30 H30.out).mono ?_
          rintro e w31 ⟨rfl, b⟩
          have H31 := Lib.hid (bl H30.out b)
          clear b
          go_wp2_with fail
          refine (SD.out w31 H31.out).mono ?_
          rintro e w32 ⟨rfl, b⟩
          have H32 := Lib.hid (bl H31.out b)
          clear b H30 H31 PZ SD
          go_upto_if 203 with (fail)
          go_cut [30] from 200 to 203 (fun s30 wx => s30 = .int .i64 σ ∧ wx = w32)
          case first =>
            by_cases h : M.length % 2 = 1
            · have k : ((M.length : Int) % 2 == 1) = true := by rw [beq_iff_eq]; omega
              have HS := HSG.out
              rw [if_pos h] at HS
              subst HS
              clear h HSG
              go_wp2; go_meet; exact ⟨rfl, rfl⟩
            · have k : ((M.length : Int) % 2 == 1) = false := by rw [beq_eq_false_iff_ne]; omega
              have HS := HSG.out
              rw [if_neg h] at HS
              subst HS
              clear h HSG
              go_wp2; go_meet; exact ⟨rfl, rfl⟩
          case rest =>
            obtain ⟨rfl, rfl⟩ := hcut
            have KC : Hid (∀ w', Below w11.heap.size w11 w' → w'.cell? ⟨bc, oc + M.length, none⟩ = some (.int .i64 1) ∧ w'.cell? ⟨bc, oc + (M.length - 1), none⟩ = some (.int .i64 (-τ)) ∧ w'.cell? ⟨bt, ot, none⟩ = some (.int .i64 1)) := Lib.hid fun w' hb => ⟨(hb.cell (p := ⟨bc, oc + M.length, none⟩) (cell_in' q1)).trans q1, (hb.cell (p := ⟨bc, oc + (M.length - 1), none⟩) (cell_in' q2)).trans q2, (hb.cell (p := ⟨bt, ot, none⟩) (cell_in' q3)).trans q3⟩
            have hrr : (rt == (δ != 0)) = true := by
              rw [RR.out]
              by_cases h : δ = 0
              · subst h; rfl
              · simp [h]
            have hw1 : RowKit.wrap64 (σ * δ) = ζ := by rw [HZE.out]; unfold RowKit.wrap64; omega
            have hw2 : IntKind.i64.wrap (σ * δ) = ζ := by rw [HZE.out, IntKind.wrap_i64]; omega
            clear q1 q2 q3 hσ2 HSG IS RR HZE D1
            have HD1 : Hid (Below w11.heap.size w11 wc.drew) := Lib.hid H32.out.drew
            have HD2 : Hid (Below w11.heap.size w11 (wc.drewN 1)) := Lib.hid (below_drewN H32.out 1)
            generalize hml : M.length = ml at *
            clear hml
            obtain ⟨n', rfl⟩ : ∃ n', ml = n' + 1 := ⟨ml - 1, by omega⟩
            rw [Nat.add_sub_cancel] at KC
            obtain ⟨x0, x1, x2⟩ := KC.out wc H32.out
            obtain ⟨lt, hlt⟩ : ∃ lt, (turnedM M).length = lt + 1 := ⟨(turnedM M).length - 1, by omega⟩
            rw [hlt]
            clear hlt
            have t1' : (0 : Int) < (lt : Int) + 1 := by omega
            have t1d : decide ((0 : Int) < (lt : Int) + 1) = true := decide_eq_true t1'
            have hws : IntKind.i64.wrap ((n' : Int) + 1 + 1) = (n' : Int) + 1 + 1 := by rw [IntKind.wrap_i64]; omega
            have hwd : IntKind.i64.wrap ((n' : Int) + 1 - 1) = (n' : Int) := by rw [IntKind.wrap_i64]; omega
            have hwd2 : IntKind.i64.wrap (n' : Int) = (n' : Int) := by rw [IntKind.wrap_i64]; omega
            have hwd3 : (n' : Int) + 1 - 1 = (n' : Int) := by omega
            have hwn : IntKind.i64.wrap (-τ) = -τ := by rw [IntKind.wrap_i64]; omega
            have g0 : (0 : Int) ≤ (n' : Int) + 1 := by omega
            have g1 : (n' : Int) + 1 < (n' : Int) + 1 + 1 := by omega
            have g2 : (0 : Int) ≤ (n' : Int) := by omega
            have g3 : (n' : Int) < (n' : Int) + 1 + 1 := by omega
            have htn : ((n' : Int) + 1).toNat = n' + 1 := by omega
            clear t1 n1
            go_wp2
            go_region_held3 (fun w' => w'.cell? ⟨bc, oc + (n' + 1), none⟩ = some (.int .i64 1) ∧ w'.cell? ⟨bc, oc + n', none⟩ = some (.int .i64 (-τ)) ∧ w'.cell? ⟨bt, ot, none⟩ = some (.int .i64 1)) (first | exact ⟨f0, f1, f2⟩ | exact ⟨a0, a1, a2⟩ | exact ⟨z0, z1, z2⟩ | exact ⟨y0, y1, y2⟩ | exact ⟨x0, x1, x2⟩ | go_keep)
              (first | (go_at_call 26; refine (STR.out _ (by first | exact HD1.out | exact HD2.out | exact H32.out)).mono ?_; rintro e w33 ⟨rfl, rfl⟩)
                     | (go_at_call 27; refine (STU.out _ (by first | exact HD1.out | exact HD2.out | exact H32.out)).mono ?_; rintro e w34 ⟨v34, rfl, o34, b34⟩; have q34 : Below w11.heap.size w11 w34 := bl (by first | exact HD1.out | exact HD2.out | exact H32.out) b34; obtain ⟨y0, y1, y2⟩ := KC.out w34 q34; have G34 := Lib.hid o34.gridVR; have Q34 := Lib.hid q34; clear o34 b34 q34)
                     | (go_at_call 6; refine (ICT.out w34 v34 Q34.out HZT.out G34.out).mono ?_; rintro e w35 ⟨v35, rfl, o35, b35⟩; have q35 : Below w11.heap.size w11 w35 := bl Q34.out b35; obtain ⟨z0, z1, z2⟩ := KC.out w35 q35; have G35 := Lib.hid o35.rowV; have Q35 := Lib.hid q35; clear o35 b35 q35)
                     | (go_at_call 16; refine (EC2.out w35 v35 Q35.out G35.out).mono ?_; rintro e w36 ⟨rfl, b36⟩; have q36 : Below w11.heap.size w11 w36 := bl Q35.out b36; obtain ⟨a0, a1, a2⟩ := KC.out w36 q36; have Q36 := Lib.hid q36; clear b36 q36)
                     | (go_at_call 22; refine (IR.out w36 Q36.out).mono ?_; rintro e w37 ⟨rfl, b37⟩; have q37 : Below w11.heap.size w11 w37 := bl Q36.out b37; obtain ⟨f0, f1, f2⟩ := KC.out w37 q37; have Q37 := Lib.hid q37; clear b37 q37))
            go_wp2
            go_ret
            exact ⟨by first | rfl | simp, bl B11.out Q37.out⟩
  · have HG := Lib.hid (big_is a n cp true (by simp; omega) w)
    clear hcode hI
    go_enter Tryz.func3, Tryz.ntmps3
    go_wp2_with fail
    refine HG.out.mono ?_
    rintro e w0 ⟨rfl, rfl⟩
    go_wp2
    go_ret
    exact ⟨rfl, Below.refl _ _⟩
end Go.Proofs.YtfbdmheaalmboaaGreatDoor
