/-
  The draws of the law on graphs: whatever the bytes, small tables, a list, ints; nothing that was there before is changed.
-/
import Derived.Test.YthljogoggiejmaaDrawBent
import Derived.Test.YthljogoggiejmaaIntsLaw
import Derived.Test.YthljogoggiejmaaGraphCopies
import Derived.Test.YthljogoggiejmaaGridRoom
namespace Go.Proofs.Ythljogoggiejmaa
open Go Go.RowKit

def GridDrawnV (W : World) (e : Ending) (w' : World) : Prop := ∃ v M, e = .returned v ∧ GridV w' v M ∧ Drawn M ∧ Below W.heap.size W w'
def GridIntDrawn (W : World) (e : Ending) (w' : World) : Prop := ∃ v M, ∃ x : Int, e = .returned (.tuple #[v, .int .i64 x]) ∧ GridV w' v M ∧ Drawn M ∧ Below W.heap.size W w'
def GridRowDrawn (W : World) (e : Ending) (w' : World) : Prop := ∃ v M u l, e = .returned (.tuple #[v, u]) ∧ GridV w' v M ∧ Drawn M ∧ RowVC w' u l ∧ l.length ≤ 1048576 ∧ Below W.heap.size W w'

theorem draw_trim (a : Option Addr) (n c : Nat) (w : World) (hcode : CodeAt w w.heap.size a n) (hn : n ≤ 1048576) :
    Calls Try.prog 16 #[.slice a n c] w (GridDrawnV w) := by
  have HN := Lib.hid (l1New w.heap.size a n c w w hcode hn (Below.refl _ _) (Nat.le_refl _))
  have HB := Lib.hid (fun g w' => spec_bent w.heap.size a n c g w w' hcode hn)
  clear hcode
  go_enter Try.func16, Try.ntmps16
  go_wp2_with fail
  refine HN.out.mono ?_
  rintro e w1 ⟨g, rfl, hc1, _⟩
  go_wp2_with fail
  refine (HB.out g w1 hc1).mono ?_
  rintro e w2 ⟨v, M, rfl, ho2, hs2, hc2⟩
  have HG := Lib.hid ho2.gridV
  have HS := Lib.hid hs2
  clear ho2 hs2
  go_wp2
  go_ret
  exact ⟨v, M, rfl, HG.out, HS.out, hc2.below⟩

def steps : List Int := [0, 0, 0, 0, -3, 4]
set_option maxRecDepth 100000 in
set_option maxHeartbeats 1600000 in
theorem draw_paths (a : Option Addr) (n c : Nat) (w : World) (hcode : CodeAt w w.heap.size a n) (hn : n ≤ 1048576) :
    Calls Try.prog 13 #[.slice a n c] w (GridIntDrawn w) := by
  have HN := Lib.hid (l1New w.heap.size a n c w w hcode hn (Below.refl _ _) (Nat.le_refl _))
  have HB := Lib.hid (fun g w' => spec_bent w.heap.size a n c g w w' hcode hn)
  have HBW := Lib.hid (fun g w' => l1Below 3 (by decide) w.heap.size a n c g w w' hcode hn)
  have HPI := Lib.hid (fun g b w' (hc : Cur w.heap.size a n c g w w') (hs : NumsAt w' b steps) (hbg : b ≠ g) => l1PickInt b 6 steps (by decide) (by decide) w.heap.size a n c g w w' hcode hn hc hs hbg)
  clear hcode
  go_enter Try.func13, Try.ntmps13
  go_wp2_with fail
  refine HN.out.mono ?_
  rintro e w1 ⟨g, rfl, hc1, _⟩
  go_wp2_with fail
  refine (HB.out g w1 hc1).mono ?_
  rintro e w2 ⟨v, M, rfl, ho2, hs2, hc2⟩
  have HO2 := Lib.hid ho2
  have HS := Lib.hid hs2
  clear ho2 hs2
  have HBW2 := Lib.hid (HBW.out g w2 hc2)
  clear hc2
  go_wp2_with fail
  refine HBW2.out.mono ?_
  rintro e w3 ⟨x, x0, x1, rfl, hc3, ho3⟩
  have HO3 := Lib.hid (HO2.out.from (from_only ho3))
  have hg3 := hc3.lt
  have HPI3 := Lib.hid (HPI.out g w3.heap.size (w3.alloc (.cells (steps.map (Value.int .i64)).toArray 3)) (hc3.alloc _) (intsAt_new w3 steps 3) (by omega))
  clear hc3 ho3
  go_wp2_with fail
  refine HPI3.out.mono ?_
  rintro e w5 ⟨k, hk, rfl, hc5, ho5⟩
  have HO5 := Lib.hid (HO3.out.from ((From.of_below ((Below.refl w3.heap.size w3).alloc (Nat.le_refl _) _)).trans (from_only ho5)))
  have HC5 := Lib.hid hc5
  clear hc5 ho5
  go_wp2
  go_ret2
  exact ⟨v, M, _, rfl, HO5.out.gridV, HS.out, HC5.out.below⟩

theorem GridV.gridS' {w : World} {A : Option Addr} {cv : Nat} {M : List (List Int)} (h : GridV w (.slice A M.length cv) M) : GridS w A M := by
  obtain ⟨A', c', h1, h2⟩ := h
  simp only [Value.slice.injEq, true_and] at h1
  obtain ⟨rfl, rfl⟩ := h1
  exact h2
/-- Where the rows of a table of one's own lie. -/
theorem rows_of {w : World} {B c : Nat} {A : Option Addr} {m : List (List Int)} (h : OwnG w B (.slice A m.length c) m) (hp : 0 < m.length) :
    ∃ (V : Nat → Value) (g : Nat), A = some ⟨g, 0, none⟩ ∧ B ≤ g ∧ (∀ k, k < m.length → w.cell? ⟨g, k, none⟩ = some (V k)) ∧ ∀ k, k < m.length → OwnA w B (V k) (m.getD k []) := by
  obtain ⟨vs, ho, hr⟩ := h
  have hl := hr.len
  obtain ⟨g, hA, hg⟩ : ∃ g, A = some ⟨g, 0, none⟩ ∧ B ≤ g := by
    rcases ho.2 with ⟨_, h3⟩ | ⟨g, cap, cur, e2, hb, _⟩
    · omega
    · injection e2 with e3
      exact ⟨g, e3, hb⟩
  subst hA
  refine ⟨fun k => vs.getD k (.slice none 0 0), g, rfl, hg, fun k hk => ?_, fun k hk => ?_⟩
  · rw [ho.cellAt k (by omega)]
    simp [List.getD, List.getElem?_eq_getElem (show k < vs.length by omega)]
  · have h1 : vs[k]? = some (vs.getD k (.slice none 0 0)) := by simp [List.getD, List.getElem?_eq_getElem (show k < vs.length by omega)]
    exact (hr.row k _ h1).1
theorem drawn_pair {w0 w : World} {n c g cv : Nat} {a A : Option Addr} {M : List (List Int)} (ho : OwnG w (g + 1) (.slice A M.length cv) M) (hd : Drawn M) (x y : Int) (hc : Cur w0.heap.size a n c g w0 w) :
    GridRowDrawn w0 (.returned (.tuple #[.slice A M.length cv, .slice (some ⟨w.heap.size, 0, none⟩) 2 2])) (w.alloc (.cells #[.int .i64 x, .int .i64 y] 3)) :=
  ⟨_, M, _, [x, y], rfl, (ho.below ((Below.refl w.heap.size w).alloc (Nat.le_refl _) _)).gridV, hd, OwnA.rowVC (B := w.heap.size) (owns_block w (Nat.le_refl _) 3 [.int .i64 x, .int .i64 y] (show 2 ≤ maxLen by decide)), show 2 ≤ 1048576 by decide, (hc.alloc _).below⟩

set_option maxRecDepth 100000 in
set_option maxHeartbeats 3200000 in
theorem draw_isPath (a : Option Addr) (n c : Nat) (w : World) (hcode : CodeAt w w.heap.size a n) (hn : n ≤ 1048576) :
    Calls Try.prog 15 #[.slice a n c] w (GridRowDrawn w) := by
  have HN := Lib.hid (l1New w.heap.size a n c w w hcode hn (Below.refl _ _) (Nat.le_refl _))
  have HB := Lib.hid (fun g w' => spec_bent w.heap.size a n c g w w' hcode hn)
  have HBW := Lib.hid (fun m (hm : m ≤ 1000000000) g w' => l1Below m hm w.heap.size a n c g w w' hcode hn)
  have HON := Lib.hid (fun g w' => l1Once 4 (by decide) w.heap.size a n c g w w' hcode hn)
  clear hcode
  go_enter Try.func15, Try.ntmps15
  go_wp2_with fail
  refine HN.out.mono ?_
  rintro e w1 ⟨g, rfl, hc1, _⟩
  go_wp2_with fail
  refine (HB.out g w1 hc1).mono ?_
  rintro e w2 ⟨v, M, rfl, ho2, hs2, hc2⟩
  have HO2 := Lib.hid ho2
  have HS := Lib.hid hs2
  clear ho2 hs2
  have HBW2 := Lib.hid (HBW.out 4 (by decide) g w2 hc2)
  clear hc2
  go_wp2_with fail
  refine HBW2.out.mono ?_
  rintro e w3 ⟨x, x0, x1, rfl, hc3, ho3⟩
  have ho3' := HO2.out.from (from_only ho3)
  obtain ⟨A, cv, rfl, hg3⟩ := ho3'.gridS
  have HO3 := Lib.hid ho3'
  have HP := Lib.hid (spec_pathsOf A cv M (by have := HS.out.len; omega) (by have := HS.out.tot; omega) (1 + x) w3 hg3)
  have HZ := Lib.hid (sizeB_paths M (1 + x))
  generalize pathsM M (1 + x) = P at HP HZ
  have hl3 := hc3.lt
  have HC3 := Lib.hid hc3
  have hx : 0 ≤ x ∧ x < 4 := by omega
  clear hc3 ho3 ho3' hg3 x0 x1
  go_wp2_with fail
  refine HP.out.mono ?_
  rintro e w4 ⟨v4, rfl, ho4, hb4⟩
  obtain ⟨A4, c4, rfl, -⟩ := ho4.gridS
  have HM4 := Lib.hid (HO3.out.below hb4)
  have HP4 := Lib.hid (ho4.mono (show g + 1 ≤ w3.heap.size by omega))
  have HC4 := Lib.hid (HC3.out.step hb4)
  have hzl : P.length ≤ 1048576 := by have := HZ.out; unfold SizeB at this; omega
  clear ho4 hb4
  by_cases hP : 0 < P.length
  · have HON4 := Lib.hid (HON.out g w4 HC4.out)
    go_wp2_with fail
    refine HON4.out.mono ?_
    rintro e w5 ⟨x1, rfl, hc5, ho5⟩
    have HM5 := Lib.hid (HM4.out.from (from_only ho5))
    have HP5 := Lib.hid (HP4.out.from (from_only ho5))
    have HC5 := Lib.hid hc5
    clear hc5 ho5
    cases x1 with
    | true =>
      have HBW5 := Lib.hid (HBW.out 4 (by decide) g w5 HC5.out)
      go_wp2_with fail
      refine HBW5.out.mono ?_
      rintro e w6 ⟨y, y0, y1, rfl, hc6, ho6⟩
      have HM6 := Lib.hid (HM5.out.from (from_only ho6))
      have HBW6 := Lib.hid (HBW.out 5 (by decide) g w6 hc6)
      clear hc6 ho6
      go_wp2_with fail
      refine HBW6.out.mono ?_
      rintro e w7 ⟨z, z0, z1, rfl, hc7, ho7⟩
      have HM7 := Lib.hid (HM6.out.from (from_only ho7))
      have HC7 := Lib.hid hc7
      clear hc7 ho7
      go_wp2
      go_ret2
      exact drawn_pair HM7.out HS.out y _ HC7.out
    | false =>
      have HBW5 := Lib.hid (fun w' => HBW.out P.length (by omega) g w')
      obtain ⟨V, gb, rfl, hgb, y0, hrow⟩ := rows_of HP5.out hP
      have HR := Lib.hid hrow
      have HY := Lib.hid y0
      clear hrow
      go_wp2
      go_region_held3 (fun w' => ∀ k, k < P.length → w'.cell? ⟨gb, k, none⟩ = some (V k)) (first | exact y0 | go_keep) (first | (go_at_call 47; refine (HBW5.out _ (HC5.out.drewN 1)).mono ?_; rintro e w6 ⟨y, z0, z1, rfl, hc6, ho6⟩; obtain ⟨k, rfl⟩ := Int.eq_ofNat_of_zero_le z0; have hk : k < P.length := (by omega); have hfr : From (g + 1) w5 w6 := (From.of_below (below_drewN (Below.refl w5.heap.size w5) 1)).trans (from_only ho6); have HM6 := Lib.hid (HM5.out.from hfr); have HKR := Lib.hid (From.owns (HR.out k hk) hfr); have y0 : ∀ k, k < P.length → w6.cell? ⟨gb, k, none⟩ = some (V k) := fun k hk => (ho6.cell (p := ⟨gb, k, none⟩) (show gb ≠ g by omega)).trans (HY.out k hk); have y1 := y0 k hk; have HC6 := Lib.hid hc6; clear hc6 ho6 hfr))
      have HLK := Lib.hid (Nat.le_trans (row_le_tot hk) (show tot P ≤ 1048576 by have := HZ.out; unfold SizeB at this; omega))
      go_wp2
      go_ret2
      exact ⟨_, M, _, P.getD k [], rfl, HM6.out.gridV, HS.out, OwnA.rowVC HKR.out, HLK.out, HC6.out.below⟩
  · have HBW4 := Lib.hid (HBW.out 4 (by decide) g w4 HC4.out)
    go_wp2_with fail
    refine HBW4.out.mono ?_
    rintro e w6 ⟨y, y0, y1, rfl, hc6, ho6⟩
    have HM6 := Lib.hid (HM4.out.from (from_only ho6))
    have HBW6 := Lib.hid (HBW.out 5 (by decide) g w6 hc6)
    clear hc6 ho6
    go_wp2_with fail
    refine HBW6.out.mono ?_
    rintro e w7 ⟨z, z0, z1, rfl, hc7, ho7⟩
    have HM7 := Lib.hid (HM6.out.from (from_only ho7))
    have HC7 := Lib.hid hc7
    clear hc7 ho7
    go_wp2
    go_ret2
    exact drawn_pair HM7.out HS.out y _ HC7.out
end Go.Proofs.Ythljogoggiejmaa
