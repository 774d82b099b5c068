/-
  The model's draws of matrices for growth, with their fractions.
-/
import Derived.Test.YtanelokploifhaaDoorDrawBent
import Derived.Test.YtanelokploifhaaDoorModelTexts
import Derived.Test.YtanelokploifhaaDoorLawKit
namespace Go.Proofs.YtanelokploifhaaDoor
open Go Go.RowKit

theorem results_tmp3 {fn : Func} {t u s : Tmp} (h : fn.results = #[.tmp t, .tmp u, .tmp s]) (tmps : Array Value) (P : Program) (w : World) :
    (results fn tmps).run P w = .ok (.tuple #[tmps.getD t undef, tmps.getD u undef, tmps.getD s undef]) w := by
  simp [results, h]
theorem Cur.from8 {B : Nat} {a : Option Addr} {n c g : Nat} {W0 w : World} (h : Cur B a n c g W0 w) : B ≤ g := h.2.2.1
def OwnIntDrawn (W : World) (e : Ending) (w' : World) : Prop := ∃ v M, ∃ x : Int, e = .returned (.tuple #[v, .int .i64 x]) ∧ OwnG w' W.heap.size v M ∧ Drawn M ∧ (0 ≤ x ∧ x ≤ 101) ∧ Below W.heap.size W w'
def OwnIntsDrawn (W : World) (e : Ending) (w' : World) : Prop := ∃ v M, ∃ x y : Int, e = .returned (.tuple #[v, .int .i64 x, .int .i64 y]) ∧ OwnG w' W.heap.size v M ∧ Drawn M ∧ Below W.heap.size W w'
def OwnsIntDrawn (W : World) (e : Ending) (w' : World) : Prop := ∃ v M u K, ∃ x : Int, e = .returned (.tuple #[v, u, .int .i64 x]) ∧ OwnG w' W.heap.size v M ∧ Drawn M ∧ OwnG w' W.heap.size u K ∧ Drawn K ∧ Below W.heap.size W w'
def caseNums : List Int := [1, 2, 10, 100, 7, 0, 101]
theorem case_range {k : Nat} (hk : k < caseNums.length) : 0 ≤ caseNums.getD k 0 ∧ caseNums.getD k 0 ≤ 101 := by
  have h : k = 0 ∨ k = 1 ∨ k = 2 ∨ k = 3 ∨ k = 4 ∨ k = 5 ∨ k = 6 := by
    have : caseNums.length = 7 := rfl
    omega
  rcases h with rfl | rfl | rfl | rfl | rfl | rfl | rfl <;> decide

set_option maxRecDepth 100000 in
set_option maxHeartbeats 800000 in
theorem draw_case (a : Option Addr) (n c : Nat) (w : World) (hcode : CodeAt w w.heap.size a n) (hn : n ≤ 1048576) :
    Calls Tryd.prog 27 #[.slice a n c] w (OwnIntDrawn w) := by
  have HN := Lib.hid (l1New w.heap.size a n c w w hcode hn (Below.refl _ _) (Nat.le_refl _))
  have HB := Lib.hid (fun g w' => spec_bent w.heap.size a n c g w w' hcode hn)
  have HPI := Lib.hid (fun g b w' (hc : Cur w.heap.size a n c g w w') (hs : NumsAt w' b caseNums) (hbg : b ≠ g) => l1PickInt b 7 caseNums (by decide) (by decide) w.heap.size a n c g w w' hcode hn hc hs hbg)
  clear hcode
  go_enter Tryd.func27, Tryd.ntmps27
  go_wp2_with fail
  refine HN.out.mono ?_
  rintro e w1 ⟨g, rfl, hc1, _⟩
  go_wp2_with fail
  refine (HB.out g w1 hc1).mono ?_
  rintro e w2 ⟨v, M, rfl, ho2, hd2, hc2⟩
  have HO2 := Lib.hid ho2
  have hg2 := hc2.lt
  have HPI2 := Lib.hid (HPI.out g w2.heap.size (w2.alloc (.cells (caseNums.map (Value.int .i64)).toArray 3)) (hc2.alloc _) (intsAt_new w2 caseNums 3) (by omega))
  clear ho2 hc2
  go_wp2_with fail
  refine HPI2.out.mono ?_
  rintro e w3 ⟨k, hk, rfl, hc3, ho3⟩
  have HO3 := Lib.hid (From.ownIn HO2.out.ownIn ((From.of_below below_new).trans (from_only ho3))).ownG
  have HC := Lib.hid hc3
  have HR := Lib.hid (case_range hk)
  clear ho3 hc3
  generalize caseNums.getD k 0 = x at *
  go_wp2
  go_ret2
  exact ⟨v, M, x, rfl, HO3.out.mono (by have := HC.out.from8; omega), hd2, HR.out, HC.out.below⟩

set_option maxRecDepth 100000 in
theorem draw_floor (a : Option Addr) (n c : Nat) (w : World) (hcode : CodeAt w w.heap.size a n) (hn : n ≤ 1048576) :
    Calls Tryd.prog 6 #[.slice a n c] w (OwnIntDrawn w) := by
  have HD := Lib.hid (draw_case a n c w hcode hn)
  clear hcode
  go_enter Tryd.func6, Tryd.ntmps6
  go_wp2_with fail
  refine HD.out.mono ?_
  rintro e w1 ⟨v, M, x, rfl, ho, hd, hx, hb⟩
  have HO := Lib.hid ho
  clear ho
  go_wp2
  go_ret2
  exact ⟨v, M, x, rfl, HO.out, hd, hx, hb⟩

def pairNums : List Int := [1, 10, 100, 0]
set_option maxRecDepth 100000 in
set_option maxHeartbeats 800000 in
theorem draw_compare (a : Option Addr) (n c : Nat) (w : World) (hcode : CodeAt w w.heap.size a n) (hn : n ≤ 1048576) :
    Calls Tryd.prog 9 #[.slice a n c] w (OwnsIntDrawn w) := by
  have HN := Lib.hid (l1New w.heap.size a n c w w hcode hn (Below.refl _ _) (Nat.le_refl _))
  have HB := Lib.hid (fun g w' => spec_bentF w.heap.size a n c g w w' hcode hn)
  have HPI := Lib.hid (fun g b w' (hc : Cur w.heap.size a n c g w w') (hs : NumsAt w' b pairNums) (hbg : b ≠ g) => l1PickInt b 4 pairNums (by decide) (by decide) w.heap.size a n c g w w' hcode hn hc hs hbg)
  clear hcode
  go_enter Tryd.func9, Tryd.ntmps9
  go_wp2_with fail
  refine HN.out.mono ?_
  rintro e w1 ⟨g, rfl, hc1, _⟩
  have hg1 := hc1.lt
  have hg8 := hc1.from8
  go_wp2_with fail
  refine (HB.out g w1 hc1).mono ?_
  rintro e w2 ⟨v, M, rfl, ho2, hd2, hc2, hf2⟩
  have HO2 := Lib.hid ho2
  have HB2 := Lib.hid (HB.out g w2 hc2)
  have hs2 := hf2.size
  clear ho2 hc2 hf2
  go_wp2_with fail
  refine HB2.out.mono ?_
  rintro e w3 ⟨u, K, rfl, ho3, hd3, hc3, hf3⟩
  have HO3 := Lib.hid ho3
  have HO2' := Lib.hid (HO2.out.from (hf3.low (show g + 1 ≤ w1.heap.size by omega)))
  have hg3 := hc3.lt
  have hs3 := hf3.size
  have HPI2 := Lib.hid (HPI.out g w3.heap.size (w3.alloc (.cells (pairNums.map (Value.int .i64)).toArray 3)) (hc3.alloc _) (intsAt_new w3 pairNums 3) (by omega))
  clear ho3 hc3 hf3
  go_wp2_with fail
  refine HPI2.out.mono ?_
  rintro e w4 ⟨k, hk, rfl, hc4, ho4⟩
  have hf4 : From (g + 1) w3 w4 := (From.of_below below_new).trans (from_only ho4)
  have HO4 := Lib.hid (HO3.out.from (hf4.low (show g + 1 ≤ w2.heap.size by omega)))
  have HO4' := Lib.hid (HO2'.out.from (hf4.low (show g + 1 ≤ w1.heap.size by omega)))
  have HC := Lib.hid hc4
  clear ho4 hc4 hf4
  generalize pairNums.getD k 0 = x at *
  go_wp2
  try simp only [Exit.inBlock, Exit.then]
  refine bodyPost_ret (results_tmp3 rfl _ _ _) rfl ?_
  exact ⟨v, M, u, K, x, rfl, HO4'.out.mono (by omega), hd2, HO4.out.mono (by omega), hd3, HC.out.below⟩

def belowNums : List Int := [1, 1, 2, 10, 100, 0, 101]
def askNums : List Int := [-1, 0, 1, 2, 3600, 3601]
set_option maxRecDepth 100000 in
set_option maxHeartbeats 800000 in
theorem draw_below (a : Option Addr) (n c : Nat) (w : World) (hcode : CodeAt w w.heap.size a n) (hn : n ≤ 1048576) :
    Calls Tryd.prog 8 #[.slice a n c] w (OwnIntsDrawn w) := by
  have HN := Lib.hid (l1New w.heap.size a n c w w hcode hn (Below.refl _ _) (Nat.le_refl _))
  have HB := Lib.hid (fun g w' => spec_bentF w.heap.size a n c g w w' hcode hn)
  have HPI := Lib.hid (fun g b w' (hc : Cur w.heap.size a n c g w w') (hs : NumsAt w' b belowNums) (hbg : b ≠ g) => l1PickInt b 7 belowNums (by decide) (by decide) w.heap.size a n c g w w' hcode hn hc hs hbg)
  have HPJ := Lib.hid (fun g b w' (hc : Cur w.heap.size a n c g w w') (hs : NumsAt w' b askNums) (hbg : b ≠ g) => l1PickInt b 6 askNums (by decide) (by decide) w.heap.size a n c g w w' hcode hn hc hs hbg)
  have HON := Lib.hid (fun g w' (hc : Cur w.heap.size a n c g w w') => l1Once 4 (by decide) w.heap.size a n c g w w' hcode hn hc)
  have HBW := Lib.hid (fun g w' (hc : Cur w.heap.size a n c g w w') => l1Below 3 (by decide) w.heap.size a n c g w w' hcode hn hc)
  clear hcode
  go_enter Tryd.func8, Tryd.ntmps8
  go_wp2_with fail
  refine HN.out.mono ?_
  rintro e w1 ⟨g, rfl, hc1, _⟩
  have hg1 := hc1.lt
  have hg8 := hc1.from8
  go_wp2_with fail
  refine (HB.out g w1 hc1).mono ?_
  rintro e w2 ⟨v, M, rfl, ho2, hd2, hc2, hf2⟩
  have HO2 := Lib.hid (ho2.mono hg1)
  have hg2 := hc2.lt
  have HPI2 := Lib.hid (HPI.out g w2.heap.size (w2.alloc (.cells (belowNums.map (Value.int .i64)).toArray 3)) (hc2.alloc _) (intsAt_new w2 belowNums 3) (by omega))
  clear ho2 hc2 hf2
  go_wp2_with fail
  refine HPI2.out.mono ?_
  rintro e w3 ⟨k, hk, rfl, hc3, ho3⟩
  have HO3 := Lib.hid (HO2.out.from ((From.of_below below_new).trans (from_only ho3)))
  have HC3 := Lib.hid hc3
  clear ho3 hc3
  generalize belowNums.getD k 0 = d at *
  have hz : SizeB M := by have := hd2.len; have := hd2.tot; unfold SizeB; omega
  have HFL := Lib.hid (specV_floor hz d HO3.out.gridV)
  obtain ⟨q0, q1⟩ := floorS_range M d
  generalize floorS M d = q at *
  go_wp2_with fail
  refine HFL.out.mono ?_
  rintro e w4 ⟨rfl, hb4⟩
  have HO4 := Lib.hid (HO3.out.from (From.of_below hb4))
  have HC4 := Lib.hid (HC3.out.step hb4)
  clear hb4
  have HEND : ∀ w5, Cur w.heap.size a n c g w w5 → OwnG w5 (g + 1) v M → Hid (Calls Tryd.prog 32 #[.pointer (some ⟨g, 0, none⟩), .slice (some ⟨w5.heap.size, 0, none⟩) 6 6] (w5.alloc (.cells (askNums.map (Value.int .i64)).toArray 3)) (fun e w' => ∃ x : Int, e = .returned (.int .i64 x) ∧ OwnG w' (g + 1) v M ∧ Below w.heap.size w w')) := by
    intro w5 hc5 ho5
    have hg5 := hc5.lt
    refine Lib.hid ((HPJ.out g w5.heap.size _ (hc5.alloc _) (intsAt_new w5 askNums 3) (by omega)).mono ?_)
    rintro e w6 ⟨k, hk, rfl, hc6, ho6⟩
    exact ⟨_, rfl, ho5.from (((From.of_below below_new).trans (from_only ho6)).low (Nat.le_refl _)), hc6.below⟩
  have HENDH := Lib.hid HEND
  clear HEND
  by_cases hq : q < 0
  · have HE := HENDH.out w4 HC4.out HO4.out
    go_wp2_with fail
    refine HE.out.mono ?_
    rintro e w5 ⟨x, rfl, ho5, hb5⟩
    have HO5 := Lib.hid ho5
    clear ho5
    go_wp2
    try simp only [Exit.inBlock, Exit.then]
    refine bodyPost_ret (results_tmp3 rfl _ _ _) rfl ?_
    exact ⟨v, M, x, d, rfl, HO5.out.mono (by omega), hd2, hb5⟩
  · have HON4 := Lib.hid (HON.out g w4 HC4.out)
    go_wp2_with fail
    refine HON4.out.mono ?_
    rintro e w5 ⟨b, rfl, hc5, ho5⟩
    have HO5 := Lib.hid (HO4.out.from ((from_only ho5).low (Nat.le_refl _)))
    have HE := HENDH.out w5 hc5 HO5.out
    have HBW5 := Lib.hid (HBW.out g w5 hc5)
    clear hc5 ho5
    cases b with
    | true =>
      go_wp2_with fail
      refine HE.out.mono ?_
      rintro e w6 ⟨x, rfl, ho6, hb6⟩
      have HO6 := Lib.hid ho6
      clear ho6
      go_wp2
      try simp only [Exit.inBlock, Exit.then]
      refine bodyPost_ret (results_tmp3 rfl _ _ _) rfl ?_
      exact ⟨v, M, x, d, rfl, HO6.out.mono (by omega), hd2, hb6⟩
    | false =>
      go_wp2_with fail
      refine HBW5.out.mono ?_
      rintro e w6 ⟨x, x0, x1, rfl, hc6, ho6⟩
      have HO6 := Lib.hid (HO5.out.from ((from_only ho6).low (Nat.le_refl _)))
      have HC6 := Lib.hid hc6
      clear hc6 ho6
      go_wp2
      try simp only [Exit.inBlock, Exit.then]
      refine bodyPost_ret (results_tmp3 rfl _ _ _) rfl ?_
      exact ⟨v, M, q + x, d, rfl, HO6.out.mono (by omega), hd2, HC6.out.below⟩
end Go.Proofs.YtanelokploifhaaDoor
