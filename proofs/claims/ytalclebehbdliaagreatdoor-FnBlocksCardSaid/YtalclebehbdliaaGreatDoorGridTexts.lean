/-
  Merged: The model's drawn matrices (l4Draw, l4Bent): whatever the bytes, a small table in memory of the draw's own; it changes nothing below its block.
  PLAIN FACTS ON GRAPHS (no program in this text): the arcs of a matrix, paths of arcs, the vertices through which endless paths go, and the matrix of some vertices only.
  The model's IsGraph, ArcsOf and CountPaths: what the plain words say, tables in new memory; nothing that was there before is changed.
  An append of nothing, from a slice that is not nil: the slice stays as it is.
  The model's PathsOf: the paths that the plain words say, in new memory; nothing that was there before is changed.
  The model's bent matrices (l4Bent): whatever the bytes, a small table in memory of the draw's own; it changes nothing below its block.
  PLAIN WORDS ON LONGER BLOCKS (no program in this text): the graph of the arcs of a graph, two graphs side by side, the pairs of two graphs.
  PLAIN FACTS (no program in this text): a square table that is filled row by row.
  The model's BlockGraph, PowerGraph and IsBlockOf: what the plain words say, in new memory; nothing that was there before is changed.
  The laws' own comparisons: of two lists of ints that are alike, of two tables that are alike.
  The laws' test of a draw's size: it tells whether there are more than 2^20 bytes; nothing is changed.
  What the laws on lists of integers share: the helpers' contracts at whatever slice holds a list; a result that is marked, and what stays as it was.
  What the laws over drawn tables share: contracts in every later world, and the laws' comparisons.
  The model's draws of graphs for longer blocks: whatever the bytes, short tables in new memory; nothing that was there before is changed.
-/
import Derived.Test.YtalclebehbdliaaGreatDoorBaseTexts
import Derived.Deep.RegionHeld3
import Derived.WalkKit
import Derived.RegionTactic
import Derived.BigRegion
import Derived.Test.YtalclebehbdliaaGreatDoorRows
import Derived.WalkSpells
import Derived.WalkLawsBesides
namespace Go.Proofs.YtalclebehbdliaaGreatDoor
open Go Go.RowKit

def matTexts : List ByteArray := [⟨#[49, 44, 49, 47, 49, 44, 48]⟩, ⟨#[50]⟩, ⟨#[49, 44, 49, 47, 49, 44, 49]⟩, ⟨#[48, 44, 49, 47, 49, 44, 48]⟩, ⟨#[48, 44, 49, 44, 48, 47, 48, 44, 48, 44, 49, 47, 49, 44, 49, 44, 48]⟩, ⟨#[49, 44, 49, 44, 48, 47, 48, 44, 49, 44, 49, 47, 49, 44, 48, 44, 49]⟩, ⟨#[49, 44, 48, 47, 49, 44, 49]⟩, ⟨#[48, 44, 49, 47, 48, 44, 48]⟩, ⟨#[51]⟩, ⟨#[49, 44, 50, 47, 49, 44, 48]⟩, ⟨#[48]⟩, ⟨#[48, 44, 50, 47, 49, 44, 48]⟩]
theorem matTexts_ok : (matTexts.all fun s => (parseM intOfS s).isSome && decide (s.size ≤ 100)) = true := by kernel_rfl
theorem matText_mat {s : ByteArray} (h : s ∈ matTexts) : s.size ≤ 100 ∧ ∃ M, parseM intOfS s = some M ∧ MatFacts M := by
  have h1 := List.all_eq_true.1 matTexts_ok s h
  rw [Bool.and_eq_true, decide_eq_true_iff] at h1
  refine ⟨h1.2, ?_⟩
  cases e : parseM intOfS s with
  | none => rw [e] at h1; cases h1.1
  | some M =>
    refine ⟨M, rfl, ?_⟩
    unfold parseM at e
    split at e
    · next hc =>
      obtain rfl := Option.some.inj e
      exact isMat_facts hc.2
    · cases e

/-- A small table that is not empty, its first row neither. -/
structure Small (M : List (List Int)) : Prop where
  len : M.length ≤ 10
  tot : tot M ≤ 200
  pos : 0 < M.length
  first : 0 < (M.getD 0 []).length
theorem MatFacts.small {M : List (List Int)} (h : MatFacts M) : Small M :=
  ⟨by have := h.le; omega, by have := tot_isMat h; omega, h.pos, by rw [h.row 0 h.pos]; exact h.pos⟩
theorem OwnG.from {w w' : World} {B : Nat} {v : Value} {m : List (List Int)} (h : OwnG w B v m) (hf : From B w w') : OwnG w' B v m := (From.ownIn h.ownIn hf).ownG
theorem from_only {g : Nat} {w w' : World} (h : Only g w w') : From (g + 1) w w' := ⟨Nat.le_of_eq h.1.symm, fun k hk _ => h.2 k (by omega)⟩
/-- Number j of row i, now and as long as the table's memory stays as it is. -/
theorem OwnG.ats {w : World} {B : Nat} {v : Value} {m : List (List Int)} (h : OwnG w B v m) {i j : Nat} (hi : i < m.length) (hj : j < (m.getD i []).length) :
    ∃ g cap gi ci, v = .slice (some ⟨g, 0, none⟩) m.length cap ∧ B ≤ g ∧ B ≤ gi ∧ g ≠ gi ∧ ∀ w', From B w w' → w'.cell? ⟨g, i, none⟩ = some (.slice (some ⟨gi, 0, none⟩) (m.getD i []).length ci) ∧ w'.cell? ⟨gi, j, none⟩ = some (.int .i64 (cellOf m i j)) ∧ w'.frozen? ⟨gi, j, none⟩ = false ∧ gi < w'.heap.size ∧
      ∀ x : Int, OwnG (w'.setCell ⟨gi, j, none⟩ (.int .i64 x)) B v (m.set i ((m.getD i []).set j x)) := by
  obtain ⟨g, cap, gi, ci, hv, k1, _, _, kb, _, _⟩ := h.at hi hj
  have hgb : B ≤ g := by
    obtain ⟨vs, ho, _⟩ := h
    subst hv
    exact (ho.lt g rfl).1
  have hgi : g ≠ gi := by
    obtain ⟨vs, ho, hr⟩ := h
    subst hv
    have hl := hr.len
    have hvi : vs[i]? = some vs[i] := List.getElem?_eq_getElem (by omega)
    have h2 := (hr.row i _ hvi).2
    have h3 := (ho.cellAt i (by omega)).trans hvi
    rw [k1] at h3
    have h4 : vs[i] = .slice (some ⟨gi, 0, none⟩) (m.getD i []).length ci := (Option.some.inj h3).symm
    rw [h4] at h2
    rcases h2 with h2 | h2
    · cases h2
    · exact fun e => h2 (by rw [e]; rfl)
  refine ⟨g, cap, gi, ci, hv, hgb, kb, hgi, fun w' hf => ?_⟩
  obtain ⟨g', cap', gi', ci', hv', q1, q2, q3, _, q5, q6⟩ := (h.from hf).at hi hj
  rw [hv] at hv'
  simp only [Value.slice.injEq, Option.some.injEq, Addr.mk.injEq, and_true, true_and] at hv'
  obtain ⟨rfl, rfl⟩ := hv'
  have hgl : g < w.heap.size := by
    refine Nat.lt_of_not_le fun hc => ?_
    have hn : w.heap[g]? = none := Array.getElem?_eq_none hc
    unfold World.cell? at k1
    rw [hn] at k1; simp at k1
  have e : w'.cell? ⟨g, i, none⟩ = w.cell? ⟨g, i, none⟩ := by
    unfold World.cell?
    rw [hf.block g hgb hgl]
  rw [e, k1] at q1
  simp only [Option.some.injEq, Value.slice.injEq, Addr.mk.injEq, and_true, true_and] at q1
  obtain ⟨rfl, rfl⟩ := q1
  exact ⟨e.trans k1, q2, q3, q5, q6⟩
theorem cell_far_set {w : World} {g g' i j : Nat} {v u : Value} (hne : g ≠ g') (h : w.cell? ⟨g, i, none⟩ = some u) : (w.setCell ⟨g', j, none⟩ v).cell? ⟨g, i, none⟩ = some u := by
  have hb := heap_setCell_other w ⟨g', j, none⟩ g v hne
  unfold World.cell? at h ⊢
  rw [hb]; exact h
theorem Cur.setOther {B : Nat} {a : Option Addr} {n c g : Nat} {W0 w : World} (h : Cur B a n c g W0 w) {b : Nat} (hb : B ≤ b) (hne : b ≠ g) (o : Nat) (v : Value) : Cur B a n c g W0 (w.setCell ⟨b, o, none⟩ v) := by
  obtain ⟨h1, h2, h3, i, x, h4, h5⟩ := h
  exact ⟨h1.setCell (p := ⟨b, o, none⟩) hb v, by simpa using h2, h3, i, x, h4, by rw [heap_setCell_other _ ⟨b, o, none⟩ g v (Ne.symm hne)]; exact h5⟩

def GridDrawn (B : Nat) (a : Option Addr) (n c g : Nat) (W0 : World) (e : Ending) (w' : World) : Prop := ∃ v M, e = .returned v ∧ OwnG w' (g + 1) v M ∧ Small M ∧ Cur B a n c g W0 w'

theorem Cur.lt {B : Nat} {a : Option Addr} {n c g : Nat} {W0 w : World} (h : Cur B a n c g W0 w) : g < w.heap.size := by
  obtain ⟨_, _, _, i, x, _, h5⟩ := h
  exact lt_of_block h5

theorem From.low {B B' : Nat} {w w' : World} (h : From B w w') (hb : B ≤ B') : From B' w w' := ⟨h.size, fun k h1 h2 => h.block k (Nat.le_trans hb h1) h2⟩
theorem From.put {b : Nat} {w w' : World} (h : From b w w') {gi : Nat} (hgi : w.heap.size ≤ gi) (o : Nat) (v : Value) : From b w (w'.setCell ⟨gi, o, none⟩ v) :=
  ⟨by simpa using h.size, fun k h1 h2 => by rw [heap_setCell_other w' ⟨gi, o, none⟩ k v (show k ≠ gi by omega)]; exact h.block k h1 h2⟩
/-- The same, and the table is new: what lay above the cursor is as it was. -/
def GridNew (B : Nat) (a : Option Addr) (n c g : Nat) (W0 W : World) (e : Ending) (w' : World) : Prop := ∃ v M, e = .returned v ∧ OwnG w' W.heap.size v M ∧ Small M ∧ Cur B a n c g W0 w' ∧ From (g + 1) W w'

set_option maxRecDepth 100000 in
set_option maxHeartbeats 3200000 in
theorem draw_gridF (most : Int) (hm1 : 1 ≤ most) (hm : most ≤ 5) (B : Nat) (a : Option Addr) (n c g : Nat) (W0 w : World) (hcode : CodeAt W0 B a n) (hn : n ≤ 1048576) (hcur : Cur B a n c g W0 w) :
    Calls Tryz.prog 43 #[.pointer (some ⟨g, 0, none⟩), .int .i64 most] w (GridNew B a n c g W0 w) := by
  have hg0 := hcur.lt
  have HO := Lib.hid (l1Once 3 (by decide) B a n c g W0 w hcode hn hcur)
  have HBW := Lib.hid (fun w' => l1Below most (by omega) B a n c g W0 w' hcode hn)
  have HPK := Lib.hid (fun b w' (hc : Cur B a n c g W0 w') (hs : StrsAt w' b 0 matTexts) (hbg : b ≠ g) => l1Pick b 12 matTexts (by decide) (by decide) B a n c g W0 w' hcode hn hc hs hbg)
  have HPI := Lib.hid (fun b w' (hc : Cur B a n c g W0 w') (hs : NumsAt w' b [0, 1, 0, 1, 2]) (hbg : b ≠ g) => l1PickInt b 5 [0, 1, 0, 1, 2] (by decide) (by decide) B a n c g W0 w' hcode hn hc hs hbg)
  clear hcode hcur
  go_enter Tryz.func43, Tryz.ntmps43
  go_wp2_with fail
  refine HO.out.mono ?_
  rintro e w1 ⟨x, rfl, hc1, ho1⟩
  have HF1 := Lib.hid (from_only ho1)
  clear ho1
  have hg1 := hc1.lt
  have HC1 := Lib.hid hc1
  clear hc1
  cases x with
  | true =>
    have hcp : Cur B a n c g W0 (w1.alloc (.cells (matTexts.map Value.string).toArray 9)) := HC1.out.alloc _
    have HPK1 := Lib.hid (HPK.out w1.heap.size _ hcp (strsAt_new w1 matTexts 9) (by omega))
    clear hcp
    go_wp2_with fail
    refine HPK1.out.mono ?_
    rintro e w2 ⟨k, hk, rfl, hc2, ho2⟩
    have HF2 := Lib.hid (HF1.out.trans ((From.of_below ((Below.refl w1.heap.size w1).alloc (Nat.le_refl _) _)).trans (from_only ho2)))
    clear ho2
    have hs2 := HF2.out.size
    obtain ⟨hs, M, hM, hf⟩ := matText_mat (List.getElem_mem hk)
    rw [show matTexts.getD k ByteArray.empty = matTexts[k] by simp [List.getD, hk]]
    have HP := Lib.hid (spec_parseMatrix matTexts[k] (by omega) w2)
    rw [hM] at HP
    have hg2 := hc2.lt
    have HC2 := Lib.hid hc2
    have HSM := Lib.hid hf.small
    clear hc2 hM hf
    generalize matTexts[k] = s at *
    go_wp2_with fail
    refine HP.out.mono ?_
    rintro e w3 ⟨v, rfl, ho, hb⟩
    have HO3 := Lib.hid (ho.mono hs2)
    have HC3 := Lib.hid (HC2.out.step hb)
    have HF3 := Lib.hid (HF2.out.trans (From.of_below hb))
    clear ho hb
    go_wp2
    go_ret
    exact ⟨_, M, rfl, HO3.out, HSM.out, HC3.out, HF3.out⟩
  | false =>
    have HBW1 := Lib.hid (HBW.out w1 HC1.out)
    go_wp2_with fail
    refine HBW1.out.mono ?_
    rintro e w2 ⟨x, x0, x1, rfl, hc2, ho2⟩
    have HF2 := Lib.hid (HF1.out.trans (from_only ho2))
    clear ho2
    have hs2 := HF2.out.size
    obtain ⟨N, he⟩ : ∃ N : Nat, 1 + x = (N : Int) := ⟨(1 + x).toNat, by omega⟩
    have hN : 1 ≤ N ∧ N ≤ 5 := by omega
    have HZ := Lib.hid (spec_zero N N (by omega) (by omega) w2)
    have hg2 := hc2.lt
    have HC2 := Lib.hid hc2
    clear hc2
    go_wp2_with fail
    refine HZ.out.mono ?_
    rintro e w3 ⟨v, rfl, ho, hb⟩
    obtain ⟨A, cv, rfl, -⟩ := ho.gridS
    rw [tabOf_length] at ho ⊢
    have HO3 : Hid (OwnG w3 w.heap.size (.slice A N cv) (tabOf N N fun _ _ => 0)) := Lib.hid (ho.mono hs2)
    have HC3 := Lib.hid (HC2.out.step hb)
    have HF3 := Lib.hid (HF2.out.trans (From.of_below hb))
    have HS0 : Hid ((tabOf N N fun _ _ => (0 : Int)).length = N ∧ ∀ r, r < N → ((tabOf N N fun _ _ => (0 : Int)).getD r []).length = N) := Lib.hid ⟨tabOf_length _ _ _, fun r hr => by rw [tabOf_row hr]; simp⟩
    clear ho hb
    generalize (tabOf N N fun _ _ => (0 : Int)) = M0 at *
    go_wp2
    go_loopw [9] (fun iv wr => ∃ (i : Nat) (M : List (List Int)), i ≤ N ∧ iv = .int .i64 i ∧ OwnG wr w.heap.size (.slice A N cv) M ∧ Hid (M.length = N ∧ ∀ r, r < N → (M.getD r []).length = N) ∧ Hid (Cur B a n c g W0 wr) ∧ Hid (From (g + 1) w wr)) (fun i _ => N - (intOf i).toNat)
    case atStart => exact ⟨0, M0, Nat.zero_le _, rfl, HO3.out, HS0, HC3, HF3⟩
    case round =>
      obtain ⟨i, M, hi, rfl, ho, hs, hc, hf⟩ := hrel
      have HO4 := Lib.hid ho
      clear ho
      by_cases hil : i < N
      · go_wp2
        go_loopw [10] (fun jv wr => ∃ (j : Nat) (M : List (List Int)), j ≤ N ∧ jv = .int .i64 j ∧ OwnG wr w.heap.size (.slice A N cv) M ∧ Hid (M.length = N ∧ ∀ r, r < N → (M.getD r []).length = N) ∧ Hid (Cur B a n c g W0 wr) ∧ Hid (From (g + 1) w wr)) (fun j _ => N - (intOf j).toNat)
        case atStart => exact ⟨0, M, Nat.zero_le _, rfl, HO4.out, hs, hc, hf⟩
        case round =>
          obtain ⟨j, M, hj, rfl, ho, hs, hc, hf⟩ := hrel
          by_cases hjl : j < N
          · obtain ⟨gm, cap, gi, ci, hv, gb, gib, gne, hat⟩ := ho.ats (i := i) (j := j) (by rw [hs.out.1]; exact hil) (by rw [hs.out.2 i hil]; exact hjl)
            rw [hs.out.1] at hv
            simp only [Value.slice.injEq, true_and] at hv
            obtain ⟨rfl, rfl⟩ := hv
            rw [hs.out.2 i hil] at hat
            have k1 := (hat wr (From.refl _ _)).1
            have HAT := Lib.hid hat
            have HNX : Hid (∀ x : Int, (M.set i ((M.getD i []).set j x)).length = N ∧ ∀ r, r < N → ((M.set i ((M.getD i []).set j x)).getD r []).length = N) := Lib.hid fun x => by
              refine ⟨by rw [List.length_set]; exact hs.out.1, fun r hr => ?_⟩
              have hil2 : i < M.length := by rw [hs.out.1]; exact hil
              by_cases e : r = i
              · subst e
                have : (M.set r ((M.getD r []).set j x)).getD r [] = (M.getD r []).set j x := by simp [List.getD, hil2]
                rw [this, List.length_set]; exact hs.out.2 r hr
              · have : (M.set i ((M.getD i []).set j x)).getD r [] = M.getD r [] := by simp [List.getD, List.getElem?_set_ne (Ne.symm e)]
                rw [this]; exact hs.out.2 r hr
            have hglt := hc.out.lt
            clear hat ho
            have i0 : (0 : Int) ≤ (i : Int) := by omega
            have i1 : (i : Int) < (N : Int) := by omega
            go_wp2
            go_region_held3 (fun w' => w'.cell? ⟨gm, i, none⟩ = some (.slice (some ⟨gi, 0, none⟩) N ci)) (first | exact y0 | exact cell_far_set gne y0 | go_keep) (first | (go_at_call 59; refine (HPI.out wr.heap.size _ ((hc.out.alloc _).drewN 1) (intsAt_new wr [0, 1, 0, 1, 2] 3) (by omega)).mono ?_; rintro e w5 ⟨kk, hkk, rfl, hc5, ho5⟩; have hfr0 : From (g + 1) wr w5 := (From.of_below (below_drewN ((Below.refl wr.heap.size wr).alloc (Nat.le_refl _) _) 1)).trans (from_only ho5); have hfr := hfr0.low (show g + 1 ≤ w.heap.size by omega); obtain ⟨y0, y1, y2, y3, y4⟩ := HAT.out w5 hfr; have HSET := Lib.hid y4; have HC5 := Lib.hid hc5; have HF5 := Lib.hid (hf.out.trans hfr0); clear y4 hc5 ho5 hfr hfr0))
            go_wp2
            go_roundw
            case rel => exact ⟨j + 1, _, by omega, by go_num, HSET.out _, Lib.hid (HNX.out _), Lib.hid (HC5.out.setOther (b := gi) (by have := hc.out.2.2.1; omega) (by omega) _ _), Lib.hid (HF5.out.put gib _ _)⟩
            case measure => simp [intOf]; omega
          · obtain rfl : j = N := by omega
            have HO5 := Lib.hid ho
            clear ho
            go_wp2
            go_roundw
            case rel => exact ⟨i + 1, M, by omega, by go_num, HO5.out, hs, hc, hf⟩
            case measure => simp [intOf]; omega
      · obtain rfl : i = N := by omega
        have hsm : Small M := ⟨by rw [hs.out.1]; omega, by
          have h1 := tot_le_of (m := M) (n := 5) fun r hr => by
            obtain ⟨q, hq, rfl⟩ := List.getElem_of_mem hr
            have e : M.getD q [] = M[q] := by simp [List.getD, hq]
            rw [← e, hs.out.2 q (by rw [hs.out.1] at hq; exact hq)]; omega
          rw [hs.out.1] at h1
          omega, by rw [hs.out.1]; omega, by rw [hs.out.2 0 (by omega)]; omega⟩
        have HSM := Lib.hid hsm
        clear hsm
        go_wp2
        go_ret
        exact ⟨_, M, rfl, HO4.out, HSM.out, hc.out, hf.out⟩
theorem draw_grid (most : Int) (hm1 : 1 ≤ most) (hm : most ≤ 5) (B : Nat) (a : Option Addr) (n c g : Nat) (W0 w : World) (hcode : CodeAt W0 B a n) (hn : n ≤ 1048576) (hcur : Cur B a n c g W0 w) :
    Calls Tryz.prog 43 #[.pointer (some ⟨g, 0, none⟩), .int .i64 most] w (GridDrawn B a n c g W0) := by
  refine (draw_gridF most hm1 hm B a n c g W0 w hcode hn hcur).mono ?_
  rintro e w' ⟨v, M, he, ho, hs, hc, _⟩
  exact ⟨v, M, he, ho.mono hcur.lt, hs, hc⟩
end Go.Proofs.YtalclebehbdliaaGreatDoor
namespace Go.Proofs.YtalclebehbdliaaGreatDoor
open Go Go.RowKit

def isGraphM (m : List (List Int)) : Bool := isMat m && decide (sumM m ≤ 60)

/-! ### Arcs -/

def arcsRow (m : List (List Int)) (i j : Nat) : List (List Int) := (List.range j).flatMap fun j' => List.replicate (cellOf m i j').toNat [(i : Int), (j' : Int)]
def arcsRows (m : List (List Int)) (i : Nat) : List (List Int) := (List.range i).flatMap fun i' => arcsRow m i' m.length
/-- The arcs ahead of i and j, and k arcs there. -/
def arcsTo (m : List (List Int)) (i j k : Nat) : List (List Int) := arcsRows m i ++ arcsRow m i j ++ List.replicate k [(i : Int), (j : Int)]
def arcsM (m : List (List Int)) : List (List Int) := arcsRows m m.length
theorem arcsRow_next (m : List (List Int)) (i j : Nat) : arcsRow m i (j + 1) = arcsRow m i j ++ List.replicate (cellOf m i j).toNat [(i : Int), (j : Int)] := by
  unfold arcsRow; rw [List.range_succ, List.flatMap_append]; simp
theorem arcsRows_next (m : List (List Int)) (i : Nat) : arcsRows m (i + 1) = arcsRows m i ++ arcsRow m i m.length := by
  unfold arcsRows; rw [List.range_succ, List.flatMap_append]; simp
theorem arcsTo_zero (m : List (List Int)) : arcsTo m 0 0 0 = [] := rfl
theorem arcsTo_next (m : List (List Int)) (i j k : Nat) : arcsTo m i j (k + 1) = arcsTo m i j k ++ [[(i : Int), (j : Int)]] := by
  unfold arcsTo; rw [List.replicate_succ', ← List.append_assoc]
theorem arcsTo_col (m : List (List Int)) (i j : Nat) : arcsTo m i j (cellOf m i j).toNat = arcsTo m i (j + 1) 0 := by
  unfold arcsTo; rw [arcsRow_next, List.replicate_zero, List.append_nil, List.append_assoc]
theorem arcsTo_row (m : List (List Int)) (i : Nat) : arcsTo m i m.length 0 = arcsTo m (i + 1) 0 0 := by
  unfold arcsTo; rw [arcsRows_next]; simp [arcsRow]
theorem arcsTo_all (m : List (List Int)) : arcsTo m m.length 0 0 = arcsM m := by
  unfold arcsTo arcsM; simp [arcsRow]
theorem arcsRow_length {m : List (List Int)} {i : Nat} : ∀ (j : Nat), (∀ j', j' < j → 0 ≤ cellOf m i j') → ((arcsRow m i j).length : Int) = sumTo j fun j' => cellOf m i j'
  | 0, _ => rfl
  | j + 1, h => by
    have h1 := arcsRow_length j fun j' hj => h j' (by omega)
    have h2 := h j (by omega)
    rw [arcsRow_next, List.length_append, List.length_replicate, sumTo, ← h1]
    omega
theorem arcsRows_length {m : List (List Int)} : ∀ (i : Nat), (∀ i' j', i' < i → j' < m.length → 0 ≤ cellOf m i' j') → ((arcsRows m i).length : Int) = sumTo i fun i' => sumTo m.length fun j' => cellOf m i' j'
  | 0, _ => rfl
  | i + 1, h => by
    have h1 := arcsRows_length i fun i' j' hi hj => h i' j' (by omega) hj
    have h2 := arcsRow_length (i := i) m.length fun j' hj => h i j' (by omega) hj
    rw [arcsRows_next, List.length_append, sumTo, ← h1, ← h2]
    omega
/-- As many arcs as the sum of all numbers. -/
theorem arcsM_length {m : List (List Int)} (h : isMat m = true) : ((arcsM m).length : Int) = sumM m := by
  unfold arcsM sumM
  rw [if_pos h]
  exact arcsRows_length m.length fun i' j' hi hj => (((isMat_iff.1 h).2 i' hi).2 j' hj).1
theorem arcsTo_le {m : List (List Int)} (h : isMat m = true) {i j k : Nat} (hi : i ≤ m.length) (hj : j ≤ m.length) (hij : i < m.length ∨ j = 0) (hk : k ≤ 1000000) : (arcsTo m i j k).length ≤ 100000000 := by
  obtain ⟨⟨_, h9⟩, hc⟩ := isMat_iff.1 h
  have h1 := arcsRows_length (m := m) i fun i' j' hi' hj' => ((hc i' (by omega)).2 j' hj').1
  have h2 := sumTo_le (f := fun i' => sumTo m.length fun j' => cellOf m i' j') (B := 9000000) i fun i' hi' => by
    have := sumTo_le (f := fun j' => cellOf m i' j') (B := 1000000) m.length fun j' hj' => (hc i' (by omega)).2 j' hj'
    exact ⟨this.1, by omega⟩
  have h3 : (arcsRow m i j).length ≤ 9000000 := by
    rcases hij with hij | rfl
    · have h4 := arcsRow_length (m := m) (i := i) j fun j' hj' => ((hc i hij).2 j' (by omega)).1
      have h5 := sumTo_le (f := fun j' => cellOf m i j') (B := 1000000) j fun j' hj' => (hc i hij).2 j' (by omega)
      omega
    · simp [arcsRow]
  unfold arcsTo
  rw [List.length_append, List.length_append, List.length_replicate]
  omega
/-- Each arc has two ends. -/
theorem arcsM_two (m : List (List Int)) : ∀ r ∈ arcsM m, r.length = 2 := by
  intro r hr
  unfold arcsM arcsRows arcsRow at hr
  simp only [List.mem_flatMap, List.mem_range, List.mem_replicate] at hr
  obtain ⟨i, _, j, _, _, rfl⟩ := hr
  rfl

/-! ### Paths -/

def endOf (arcs : List (List Int)) (k : Int) : Int := cellOf arcs k.toNat 1
def startOf (arcs : List (List Int)) (k : Int) : Int := cellOf arcs k.toNat 0
def pathOk (arcs : List (List Int)) (p : List Int) (k : Nat) : Bool :=
  (decide (0 ≤ p.getD k 0) && decide (p.getD k 0 ≤ (arcs.length : Int) - 1)) && (decide (k = 0) || decide (endOf arcs (p.getD (k - 1) 0) = startOf arcs (p.getD k 0)))
def isPathM (arcs : List (List Int)) (p : List Int) : Bool := (List.range p.length).all (pathOk arcs p)
theorem isPathM_bad {arcs : List (List Int)} {p : List Int} {k : Nat} (hk : k < p.length) (h : pathOk arcs p k = false) : isPathM arcs p = false := by
  unfold isPathM
  rw [List.all_eq_false]
  exact ⟨k, List.mem_range.2 hk, by rw [h]; simp⟩
theorem isPathM_all {arcs : List (List Int)} {p : List Int} (h : ∀ k, k < p.length → pathOk arcs p k = true) : isPathM arcs p = true := by
  unfold isPathM
  rw [List.all_eq_true]
  exact fun k hk => h k (List.mem_range.1 hk)

/-- Whether arc k goes on where the path's last arc ends. -/
def goesOnM (arcs : List (List Int)) (head : List Int) (k : Nat) : Bool := decide (head.length = 0) || decide (endOf arcs (head.getD (head.length - 1) 0) = cellOf arcs k 0)
/-- The paths that begin with head and have d arcs more. -/
def fillM (arcs : List (List Int)) : Nat → List Int → List (List Int)
  | 0, head => [head]
  | d + 1, head => (List.range arcs.length).flatMap fun k => if goesOnM arcs head k = true then fillM arcs d (head ++ [(k : Int)]) else []
/-- Those whose next arc is ahead of k. -/
def fillTo (arcs : List (List Int)) (d : Nat) (head : List Int) (k : Nat) : List (List Int) := (List.range k).flatMap fun k => if goesOnM arcs head k = true then fillM arcs d (head ++ [(k : Int)]) else []
theorem fillTo_zero (arcs : List (List Int)) (d : Nat) (head : List Int) : fillTo arcs d head 0 = [] := rfl
theorem fillTo_next (arcs : List (List Int)) (d : Nat) (head : List Int) (k : Nat) : fillTo arcs d head (k + 1) = fillTo arcs d head k ++ (if goesOnM arcs head k = true then fillM arcs d (head ++ [(k : Int)]) else []) := by
  unfold fillTo; rw [List.range_succ, List.flatMap_append]; simp
theorem fillTo_all (arcs : List (List Int)) (d : Nat) (head : List Int) : fillTo arcs d head arcs.length = fillM arcs (d + 1) head := rfl
theorem fillM_le (arcs : List (List Int)) : ∀ (d : Nat) (head : List Int), (fillM arcs d head).length ≤ arcs.length ^ d
  | 0, head => by simp [fillM]
  | d + 1, head => by
    have h : ∀ k, (fillTo arcs d head k).length ≤ k * arcs.length ^ d := by
      intro k
      induction k with
      | zero => simp [fillTo]
      | succ k ih =>
        rw [fillTo_next, List.length_append, Nat.add_mul, Nat.one_mul]
        split
        · have := fillM_le arcs d (head ++ [(k : Int)])
          omega
        · simp; omega
    have := h arcs.length
    rw [fillTo_all] at this
    rw [Nat.pow_succ, Nat.mul_comm]; exact this

/-! ### What goes on for ever -/

/-- Each vertex of T has arcs to and from vertices of T. -/
def Good (m : List (List Int)) (T : Nat → Bool) : Prop := ∀ i, T i = true → i < m.length ∧ (∃ j, T j = true ∧ 0 < cellOf m i j) ∧ ∃ j, T j = true ∧ 0 < cellOf m j i
def liveStep (m : List (List Int)) (S : Nat → Bool) : Nat → Bool := fun i => S i && ((List.range m.length).any fun j => S j && decide (0 < cellOf m i j)) && ((List.range m.length).any fun j => S j && decide (0 < cellOf m j i))
def liveK (m : List (List Int)) : Nat → Nat → Bool
  | 0 => fun i => decide (i < m.length)
  | k + 1 => liveStep m (liveK m k)
def liveM (m : List (List Int)) : Nat → Bool := liveK m m.length
theorem liveK_lt {m : List (List Int)} : ∀ (k : Nat) {i : Nat}, liveK m k i = true → i < m.length
  | 0, i, h => of_decide_eq_true h
  | k + 1, i, h => by
    unfold liveK liveStep at h
    rw [Bool.and_eq_true, Bool.and_eq_true] at h
    exact liveK_lt k h.1.1
theorem liveK_less {m : List (List Int)} (k i : Nat) (h : liveK m (k + 1) i = true) : liveK m k i = true := by
  unfold liveK liveStep at h
  rw [Bool.and_eq_true, Bool.and_eq_true] at h
  exact h.1.1
theorem good_in_step {m : List (List Int)} {T S : Nat → Bool} (hT : Good m T) (hS : ∀ i, T i = true → S i = true) : ∀ i, T i = true → liveStep m S i = true := by
  intro i hi
  obtain ⟨_, ⟨j, hj, hj2⟩, k, hk, hk2⟩ := hT i hi
  unfold liveStep
  rw [Bool.and_eq_true, Bool.and_eq_true, List.any_eq_true, List.any_eq_true]
  refine ⟨⟨hS i hi, j, List.mem_range.2 (hT j hj).1, ?_⟩, k, List.mem_range.2 (hT k hk).1, ?_⟩
  · rw [hS j hj, decide_eq_true hj2]; rfl
  · rw [hS k hk, decide_eq_true hk2]; rfl
theorem good_in_liveK {m : List (List Int)} {T : Nat → Bool} (hT : Good m T) : ∀ (k i : Nat), T i = true → liveK m k i = true
  | 0, i, h => decide_eq_true (hT i h).1
  | k + 1, i, h => good_in_step hT (good_in_liveK hT k) i h
theorem good_of_step {m : List (List Int)} {S : Nat → Bool} (hl : ∀ i, S i = true → i < m.length) (h : ∀ i, S i = true → liveStep m S i = true) : Good m S := by
  intro i hi
  have h1 := h i hi
  unfold liveStep at h1
  rw [Bool.and_eq_true, Bool.and_eq_true, List.any_eq_true, List.any_eq_true] at h1
  obtain ⟨⟨_, j, _, hj⟩, k, _, hk⟩ := h1
  rw [Bool.and_eq_true] at hj hk
  exact ⟨hl i hi, ⟨j, hj.1, of_decide_eq_true hj.2⟩, k, hk.1, of_decide_eq_true hk.2⟩
theorem filter_lt {α : Type} {p q : α → Bool} (hpq : ∀ x, p x = true → q x = true) : ∀ (l : List α), (∃ x ∈ l, q x = true ∧ p x = false) → (l.filter p).length < (l.filter q).length
  | [], h => by obtain ⟨x, hx, _⟩ := h; cases hx
  | y :: l, h => by
    have hle : (l.filter p).length ≤ (l.filter q).length := by
      clear h
      induction l with
      | nil => exact Nat.le_refl _
      | cons z l ih =>
        cases hp : p z with
        | true => rw [List.filter_cons_of_pos hp, List.filter_cons_of_pos (hpq z hp)]; simp; exact ih
        | false =>
          rw [List.filter_cons_of_neg (by rw [hp]; simp)]
          cases hq : q z with
          | true => rw [List.filter_cons_of_pos hq]; simp; omega
          | false => rw [List.filter_cons_of_neg (by rw [hq]; simp)]; exact ih
    obtain ⟨x, hx, hq, hp⟩ := h
    rcases List.mem_cons.1 hx with rfl | hx
    · rw [List.filter_cons_of_neg (by rw [hp]; simp), List.filter_cons_of_pos hq]; simp; omega
    · have ih := filter_lt hpq l ⟨x, hx, hq, hp⟩
      cases hp2 : p y with
      | true => rw [List.filter_cons_of_pos hp2, List.filter_cons_of_pos (hpq y hp2)]; simp; exact ih
      | false =>
        rw [List.filter_cons_of_neg (by rw [hp2]; simp)]
        cases hq2 : q y with
        | true => rw [List.filter_cons_of_pos hq2]; simp; omega
        | false => rw [List.filter_cons_of_neg (by rw [hq2]; simp)]; exact ih
def liveCount (m : List (List Int)) (k : Nat) : Nat := ((List.range m.length).filter (liveK m k)).length
/-- Either a step changes nothing, or there are fewer vertices. -/
theorem live_step_or (m : List (List Int)) (k : Nat) : (∀ i, liveK m k i = true → liveK m (k + 1) i = true) ∨ liveCount m (k + 1) < liveCount m k := by
  by_cases h : ∀ i, liveK m k i = true → liveK m (k + 1) i = true
  · exact Or.inl h
  · right
    have hx : ∃ i, liveK m k i = true ∧ liveK m (k + 1) i = false := by
      refine Classical.byContradiction fun hn => h fun i hi => ?_
      cases e : liveK m (k + 1) i with
      | true => rfl
      | false => exact absurd ⟨i, hi, e⟩ hn
    obtain ⟨i, h1, h2⟩ := hx
    exact filter_lt (liveK_less k) _ ⟨i, List.mem_range.2 (liveK_lt k h1), h1, h2⟩
theorem live_still {m : List (List Int)} {k : Nat} (h : ∀ i, liveK m k i = true → liveK m (k + 1) i = true) : ∀ (d : Nat), liveK m (k + d) = liveK m k
  | 0 => rfl
  | d + 1 => by
    have ih := live_still h d
    show liveStep m (liveK m (k + d)) = _
    rw [ih]
    funext i
    cases e : liveK m k i with
    | true => exact h i e
    | false =>
      cases e2 : liveStep m (liveK m k) i with
      | false => rfl
      | true => rw [liveK_less k i e2] at e; cases e
theorem live_count_le (m : List (List Int)) : ∀ (k : Nat), (∃ j, j < k ∧ ∀ i, liveK m j i = true → liveK m (j + 1) i = true) ∨ liveCount m k + k ≤ m.length
  | 0 => by
    right
    unfold liveCount
    have := List.length_filter_le (liveK m 0) (List.range m.length)
    rw [List.length_range] at this
    omega
  | k + 1 => by
    rcases live_count_le m k with ⟨j, hj, h⟩ | h
    · exact Or.inl ⟨j, by omega, h⟩
    · rcases live_step_or m k with h2 | h2
      · exact Or.inl ⟨k, by omega, h2⟩
      · exact Or.inr (by omega)
theorem liveM_good (m : List (List Int)) : Good m (liveM m) := by
  refine good_of_step (fun i h => liveK_lt m.length h) fun i h => ?_
  rcases live_count_le m m.length with ⟨j, hj, hs⟩ | hc
  · have e := live_still hs (m.length - j)
    rw [show j + (m.length - j) = m.length by omega] at e
    unfold liveM at h ⊢
    rw [e] at h ⊢
    exact hs i h
  · exfalso
    have h0 : liveCount m m.length = 0 := by omega
    unfold liveCount at h0
    have := List.eq_nil_of_length_eq_zero h0
    have hm : i ∈ (List.range m.length).filter (liveK m m.length) := List.mem_filter.2 ⟨List.mem_range.2 (liveK_lt m.length h), h⟩
    rw [this] at hm
    cases hm
/-- The greatest set of this kind is the only one that has every other. -/
theorem live_only {m : List (List Int)} {S : Nat → Bool} (h1 : Good m S) (h2 : ∀ T, Good m T → ∀ i, T i = true → S i = true) : S = liveM m := by
  funext i
  cases e : S i with
  | true => exact (good_in_liveK h1 m.length i e).symm
  | false =>
    cases e2 : liveM m i with
    | false => rfl
    | true => rw [h2 _ (liveM_good m) i e2] at e; cases e
/-- The vertices, in order. -/
def liveList (m : List (List Int)) (k : Nat) : List Int := ((List.range k).filter (liveM m)).map fun (i : Nat) => (i : Int)
def livelyM (m : List (List Int)) : List Int := if isMat m = true then liveList m m.length else []
theorem liveList_next (m : List (List Int)) (k : Nat) : liveList m (k + 1) = liveList m k ++ (if liveM m k = true then [(k : Int)] else []) := by
  unfold liveList
  rw [List.range_succ, List.filter_append, List.map_append]
  cases h : liveM m k <;> simp [h]
theorem liveList_le (m : List (List Int)) (k : Nat) : (liveList m k).length ≤ k := by
  unfold liveList
  rw [List.length_map]
  have := List.length_filter_le (liveM m) (List.range k)
  rwa [List.length_range] at this
theorem liveList_mem {m : List (List Int)} {k : Nat} {x : Int} (h : x ∈ liveList m k) : ∃ i : Nat, x = (i : Int) ∧ i < k ∧ liveM m i = true := by
  unfold liveList at h
  obtain ⟨i, hi, rfl⟩ := List.mem_map.1 h
  obtain ⟨h1, h2⟩ := List.mem_filter.1 hi
  exact ⟨i, rfl, List.mem_range.1 h1, h2⟩
/-- The matrix of some rows and columns. -/
def partM (m : List (List Int)) (l : List Int) : List (List Int) := tabOf l.length l.length fun i j => cellOf m (l.getD i 0).toNat (l.getD j 0).toNat
def trimM (m : List (List Int)) : Option (List (List Int)) := if (livelyM m).length = 0 then none else some (partM m (livelyM m))
def isLivelyM (m : List (List Int)) : Bool := isMat m && decide ((livelyM m).length = m.length)
end Go.Proofs.YtalclebehbdliaaGreatDoor
namespace Go.Proofs.YtalclebehbdliaaGreatDoor
open Go Go.RowKit

theorem isGraphM_facts {m : List (List Int)} (h : isGraphM m = true) : isMat m = true ∧ sumM m ≤ 60 := by
  unfold isGraphM at h
  rw [Bool.and_eq_true] at h
  exact ⟨h.1, of_decide_eq_true h.2⟩

set_option maxRecDepth 100000 in
set_option maxHeartbeats 400000 in
theorem spec_isGraph (A : Option Addr) (c : Nat) (m : List (List Int)) (hn : m.length ≤ 1099511627776) (ht : ∀ k, k < m.length → (m.getD k []).length ≤ 1099511627776) (w : World) (hg : GridS w A m) :
    Calls Tryz.prog 61 #[.slice A m.length c] w fun e w' => e = .returned (.bool (isGraphM m)) ∧ w' = w := by
  have HI := Lib.hid (spec_isMatrix A c m hn ht w hg)
  have HS := Lib.hid (spec_sumOf A c m hn ht w hg)
  clear hg ht
  unfold isGraphM
  cases hm : isMat m with
  | false =>
    rw [hm] at HI
    go_enter Tryz.func61, Tryz.ntmps61
    go_wp2_with fail
    refine HI.out.mono ?_
    rintro e w1 ⟨rfl, rfl⟩
    go_wp2
    go_ret
    exact ⟨rfl, rfl⟩
  | true =>
    rw [hm] at HI
    clear hm
    generalize sumM m = s at *
    go_enter Tryz.func61, Tryz.ntmps61
    go_wp2_with fail
    refine HI.out.mono ?_
    rintro e w1 ⟨rfl, rfl⟩
    go_wp2_with fail
    refine HS.out.mono ?_
    rintro e w2 ⟨rfl, rfl⟩
    go_wp2
    go_ret
    exact ⟨by simp, rfl⟩

/-- A row that is new in memory of the call's own. -/
theorem row_two {w : World} (x y : Int) : (w.alloc (.cells #[.int .i64 x, .int .i64 y] 3)).ownsRow w.heap.size 3 1 (.slice (some ⟨w.heap.size, 0, none⟩) 2 2) 2 ([x, y].map (Value.int .i64)) :=
  World.ownsRow_lit (base := w.heap.size) (e := 3) (size := 1) w #[.int .i64 x, .int .i64 y] 2 (Nat.le_refl _) (by decide) rfl
theorem arcs_next {w wr w3 : World} {gg cap i j k : Nat} {m : List (List Int)} {v : Value} {vs : List Value} {o : Obj} (hB : Below w.heap.size w wr) (hO : wr.ownsRow w.heap.size 48 1 v (arcsTo m i j k).length vs) (hR : RowsOwn wr w.heap.size v.ownBlock vs (arcsTo m i j k))
    (ho3 : w3.ownsRow w.heap.size 48 1 (.slice (some ⟨gg, 0, none⟩) ((arcsTo m i j k).length + 1) cap) ((arcsTo m i j k).length + 1) (vs ++ [.slice (some ⟨wr.heap.size, 0, none⟩) 2 2])) (hg3 : ((wr.alloc (.cells #[.int .i64 (i : Int), .int .i64 (j : Int)] 3)).alloc o).grownBy w3 v.ownBlock) (hat : v.ownBlock = some gg ∨ gg = wr.heap.size + 1 + 1) :
    w3.ownsRow w.heap.size 48 1 (.slice (some ⟨gg, 0, none⟩) ((arcsTo m i j k).length + 1) cap) (arcsTo m i j (k + 1)).length (vs ++ [.slice (some ⟨wr.heap.size, 0, none⟩) 2 2]) ∧
    RowsOwn w3 w.heap.size (Value.slice (some ⟨gg, 0, none⟩) ((arcsTo m i j k).length + 1) cap).ownBlock (vs ++ [.slice (some ⟨wr.heap.size, 0, none⟩) 2 2]) (arcsTo m i j (k + 1)) ∧ Below w.heap.size w w3 := by
  have hb1 : Below wr.heap.size wr ((wr.alloc (.cells #[.int .i64 (i : Int), .int .i64 (j : Int)] 3)).alloc o) := ((Below.refl _ _).alloc (Nat.le_refl _) _).alloc (by simp) _
  refine ⟨by rw [arcsTo_next, List.length_append]; exact ho3, ?_, ?_⟩
  · rw [arcsTo_next]
    refine own_append (cap := cap) (xs := [(i : Int), (j : Int)]) hO hR hb1 (World.ownsRow.mono (World.ownsRow.alloc (row_two (i : Int) (j : Int)) o) hB.size) (fun g hg => ?_) ho3 hg3 ?_
    · have : wr.heap.size = g := Option.some.inj hg
      omega
    · rw [World.size_alloc, World.size_alloc]; exact hat
  · have hb2 := hB.trans (hb1.mono hB.size)
    exact hb2.grown hg3 (by have := hb2.size; omega) (fun q hq => (hO.lt q hq).1)

set_option maxRecDepth 100000 in
set_option maxHeartbeats 3200000 in
theorem spec_arcs (A : Option Addr) (c : Nat) (m : List (List Int)) (hm : isMat m = true) (w : World) (hg : GridS w A m) :
    Calls Tryz.prog 62 #[.slice A m.length c] w (NewG (arcsM m) w) := by
  obtain ⟨i0, hi0, hz0, hz1, hz2⟩ := info_parts infoSl
  have hf := isMat_facts hm
  have hle := hf.le
  have HG := Lib.hid hg
  have HF := Lib.hid hf
  have HM := Lib.hid hm
  have HM0 := Lib.hid (World.ownsRow_made (base := w.heap.size) (e := 48) (size := 1) w #[] 0 (Nat.le_refl _) (by unfold maxLen; omega) rfl)
  clear hg hf hm
  go_enter Tryz.func62, Tryz.ntmps62
  go_wp2
  go_loopw [3, 4] (fun v iv wr => ∃ (i : Nat) (vs : List Value), i ≤ m.length ∧ iv = .int .i64 i ∧ wr.ownsRow w.heap.size 48 1 v (arcsTo m i 0 0).length vs ∧ RowsOwn wr w.heap.size v.ownBlock vs (arcsTo m i 0 0) ∧ Below w.heap.size w wr) (fun _ i _ => m.length - (intOf i).toNat)
  case atStart => exact ⟨0, [], Nat.zero_le _, rfl, HM0.out, RowsOwn.nil _ _ _, (Below.refl _ _).alloc (Nat.le_refl _) _⟩
  case round =>
    obtain ⟨i, vs, hi, rfl, hO, hR, hbl⟩ := hrel
    by_cases hil : i < m.length
    · have HO := Lib.hid hO
      have HR := Lib.hid hR
      have HB := Lib.hid hbl
      clear hO hR hbl
      go_wp2
      go_loopw [3, 5] (fun v jv w2 => ∃ (j : Nat) (vs : List Value), j ≤ m.length ∧ jv = .int .i64 j ∧ w2.ownsRow w.heap.size 48 1 v (arcsTo m i j 0).length vs ∧ RowsOwn w2 w.heap.size v.ownBlock vs (arcsTo m i j 0) ∧ Below w.heap.size w w2) (fun _ j _ => m.length - (intOf j).toNat)
      case atStart => exact ⟨0, vs, Nat.zero_le _, rfl, HO.out, HR.out, HB.out⟩
      case round =>
        obtain ⟨j, vs, hj, rfl, hO, hR, hbl⟩ := hrel
        by_cases hjl : j < m.length
        · have HO := Lib.hid hO
          have HR := Lib.hid hR
          have HB := Lib.hid hbl
          have hcl := HF.out.cell i j hil hjl
          clear hO hR hbl
          go_wp2
          go_loopw [3, 6] (fun v kv w3 => ∃ (k : Nat) (vs : List Value), (k : Int) ≤ cellOf m i j ∧ kv = .int .i64 k ∧ w3.ownsRow w.heap.size 48 1 v (arcsTo m i j k).length vs ∧ RowsOwn w3 w.heap.size v.ownBlock vs (arcsTo m i j k) ∧ Below w.heap.size w w3) (fun _ k _ => (cellOf m i j).toNat - (intOf k).toNat)
          case atStart => exact ⟨0, vs, by have := hcl.1; simpa using this, rfl, HO.out, HR.out, HB.out⟩
          case round =>
            obtain ⟨k, vs, hk, rfl, hO, hR, hbl⟩ := hrel
            obtain ⟨b, off, b2, off2, c', rfl, k1, k2, _, _⟩ := (HG.out.below hbl).num hil (j := j) (by rw [HF.out.row i hil]; exact hjl)
            rw [HF.out.row i hil] at k1
            have hal := arcsTo_le HM.out (Nat.le_of_lt hil) (Nat.le_of_lt hjl) (Or.inl hil) (k := k) (by omega)
            by_cases hkl : (k : Int) < cellOf m i j
            · have HO := Lib.hid hO
              have HR := Lib.hid hR
              have HB := Lib.hid hbl
              have hsz := hbl.size
              clear hO hR hbl
              generalize hx : cellOf m i j = x at *
              go_wp2_with (at_builtin; refine wpList_append_lies _ rfl (.tmp 31) (.tmp 35) 24 rfl w.heap.size 48 i0 (.slice none 0 0) 1 24 Tryz.underlying24 hi0 hz0 hz1 hz2 rfl (by decide) _ _ _ rfl ((HO.out.alloc _).alloc _) ⟨wr.heap.size + 1, 0, none⟩ 1 1 [.slice (some ⟨wr.heap.size, 0, none⟩) 2 2] rfl rfl (World.news_of_block (cs := #[.slice (some ⟨wr.heap.size, 0, none⟩) 2 2]) (t := 48) (fr := (0, 0)) (by have := heap_alloc_new (wr.alloc (.cells #[.int .i64 (i : Int), .int .i64 (j : Int)] 3)) (.cells #[.slice (some ⟨wr.heap.size, 0, none⟩) 2 2] 48); rw [World.size_alloc] at this; exact this)) (by simp [Value.oneCell']) (by decide) (by unfold maxLen; omega) (by omega) (by simp; omega) (wr.heap.size + 1 + 1) (by simp) ?_; intro gg cap w3 ho3 hg3 hat hlt3; have HN := Lib.hid (arcs_next HB.out HO.out HR.out ho3 hg3 hat); clear ho3 hg3 hat)
              go_roundw
              case rel => exact ⟨k + 1, _, by omega, by go_num, HN.out.1, HN.out.2.1, HN.out.2.2⟩
              case measure => simp [intOf]; omega
            · have hkk : k = (cellOf m i j).toNat := by omega
              rw [hkk, arcsTo_col] at hO hR
              have HO := Lib.hid hO
              have HR := Lib.hid hR
              clear hO hR
              generalize hx : cellOf m i j = x at *
              go_wp2
              go_roundw
              case rel => exact ⟨j + 1, vs, by omega, by go_num, HO.out, HR.out, hbl⟩
              case measure => simp [intOf]; omega
        · obtain rfl : j = m.length := by omega
          rw [arcsTo_row] at hO hR
          have HO := Lib.hid hO
          have HR := Lib.hid hR
          clear hO hR
          go_wp2
          go_roundw
          case rel => exact ⟨i + 1, vs, by omega, by go_num, HO.out, HR.out, hbl⟩
          case measure => simp [intOf]; omega
    · obtain rfl : i = m.length := by omega
      rw [arcsTo_all] at hO hR
      have HO := Lib.hid hO
      have HR := Lib.hid hR
      clear hO hR
      go_wp2
      go_ret
      exact ⟨_, rfl, ⟨vs, HO.out, HR.out⟩, hbl⟩

/-- ArcsOf, CountPaths. -/
def arcsOfM (m : List (List Int)) : List (List Int) := if isGraphM m = true then arcsM m else []
def countM (m : List (List Int)) (n : Int) : Int := match powS m n with | some p => sumM p | none => -1

set_option maxRecDepth 100000 in
theorem spec_arcsOf (A : Option Addr) (c : Nat) (m : List (List Int)) (hn : m.length ≤ 1099511627776) (ht : ∀ k, k < m.length → (m.getD k []).length ≤ 1099511627776) (w : World) (hg : GridS w A m) :
    Calls Tryz.prog 32 #[.slice A m.length c] w (NewG (arcsOfM m) w) := by
  have HI := Lib.hid (spec_isGraph A c m hn ht w hg)
  unfold arcsOfM
  cases hm : isGraphM m with
  | false =>
    rw [hm] at HI
    rw [if_neg (by decide)]
    have HE := Lib.hid (ownG_empty w)
    clear hg ht
    go_enter Tryz.func32, Tryz.ntmps32
    go_wp2_with fail
    refine HI.out.mono ?_
    rintro e w1 ⟨rfl, rfl⟩
    go_wp2
    go_ret
    exact ⟨_, rfl, HE.out, below_new⟩
  | true =>
    rw [hm] at HI
    rw [if_pos rfl]
    have HA := Lib.hid (spec_arcs A c m (isGraphM_facts hm).1 w hg)
    clear hg ht hm
    go_enter Tryz.func32, Tryz.ntmps32
    go_wp2_with fail
    refine HI.out.mono ?_
    rintro e w1 ⟨rfl, rfl⟩
    go_wp2_with fail
    refine HA.out.mono ?_
    rintro e w2 ⟨v, rfl, ho, hb⟩
    have HO := Lib.hid ho
    clear ho
    go_wp2
    go_ret
    exact ⟨_, rfl, HO.out, hb⟩

set_option maxRecDepth 100000 in
theorem spec_countPaths (A : Option Addr) (c : Nat) (m : List (List Int)) (hl : m.length ≤ 1048576) (ht : tot m ≤ 1048576) (n : Int) (w : World) (hg : GridS w A m) :
    Calls Tryz.prog 27 #[.slice A m.length c, .int .i64 n] w (Scalar (.int .i64 (countM m n)) w) := by
  have HP := Lib.hid (spec_power A c m hl ht n w hg)
  unfold countM
  cases hp : powS m n with
  | none =>
    rw [hp] at HP
    clear hg
    go_enter Tryz.func27, Tryz.ntmps27
    go_wp2_with fail
    refine HP.out.mono ?_
    rintro e w1 ⟨v, rfl, ho, hb⟩
    clear ho
    go_wp2
    go_ret
    exact ⟨rfl, hb⟩
  | some p =>
    rw [hp] at HP
    have hz : isMat p = true := by
      unfold powS at hp
      split at hp
      · next hc => exact powM_isMat hc.1 _ hp
      · cases hp
    have fz := isMat_facts hz
    have tz := tot_isMat fz
    have lz := fz.le
    have HS : Hid (∀ A' c' w', GridS w' A' p → Calls Tryz.prog 26 #[.slice A' p.length c'] w' fun e w2 => e = .returned (.int .i64 (sumM p)) ∧ w2 = w') := Lib.hid fun A' c' w' h => spec_sumOf A' c' p (by omega) (fun k hk => by have := row_le_tot hk; omega) w' h
    clear hg hp hz fz tz lz
    go_enter Tryz.func27, Tryz.ntmps27
    go_wp2_with fail
    refine HP.out.mono ?_
    rintro e w1 ⟨v, rfl, ho, hb⟩
    obtain ⟨A', c', rfl, hg'⟩ := ho.gridS
    have HS1 := Lib.hid (HS.out A' c' w1 hg')
    clear ho hg'
    go_wp2_with fail
    refine HS1.out.mono ?_
    rintro e w2 ⟨rfl, hw⟩
    obtain rfl : w1 = w2 := hw.symm
    go_wp2
    go_ret
    exact ⟨rfl, hb⟩

/-! ### Is it a path -/

theorem pathOk_out {arcs : List (List Int)} {p : List Int} {k : Nat} (h : (decide ((0 : Int) ≤ p.getD k 0) && decide (p.getD k 0 ≤ (arcs.length : Int) - 1)) = false) : pathOk arcs p k = false := by
  unfold pathOk; rw [h]; rfl
/-- The two ends of an arc in memory. -/
theorem arc_at {w : World} {A : Option Addr} {arcs : List (List Int)} (h : GridS w A arcs) (h2 : ∀ r ∈ arcs, r.length = 2) {k : Nat} (hk : k < arcs.length) :
    ∃ b off b2 off2 c', A = some ⟨b, off, none⟩ ∧ w.cell? ⟨b, off + k, none⟩ = some (.slice (some ⟨b2, off2, none⟩) 2 c') ∧ w.cell? ⟨b2, off2, none⟩ = some (.int .i64 (cellOf arcs k 0)) ∧ w.cell? ⟨b2, off2 + 1, none⟩ = some (.int .i64 (cellOf arcs k 1)) := by
  have hl : (arcs.getD k []).length = 2 := by
    have e : arcs.getD k [] = arcs[k] := by simp [List.getD, hk]
    rw [e]; exact h2 _ (List.getElem_mem hk)
  obtain ⟨b, off, A', c', hA, hc, hr, _⟩ := h.row hk
  obtain ⟨b2, off2, rfl, hat, _⟩ := hr (by omega)
  rw [hl] at hc
  exact ⟨b, off, b2, off2, c', hA, hc, hat 0 (by omega), hat 1 (by omega)⟩

end Go.Proofs.YtalclebehbdliaaGreatDoor
namespace Go.Proofs.YtalclebehbdliaaGreatDoor
open Go Go.RowKit

section
variable {P : Program} {w : World}
theorem run_append_zero (t ty e : TypeId) (i : TypeInfo) (ht : P.underlying t = some (.slice e)) (hi : P.info? e = some i) (g n cap : Nat) (hn : n ≤ cap) (ad : Addr) (c : Nat) :
    (Builtin.append_ #[t, t] ty #[.slice (some ⟨g, 0, none⟩) n cap, .slice (some ad) 0 c]).run P w = .ok (.slice (some ⟨g, 0, none⟩) n cap) w := by
  simp [Builtin.append_, run_underlying ht, sizeOf, typeInfo, hi, Builtin.lenOf, Builtin.firstCells, hn, loadCells, loadCellsFrom, storeCells]
theorem wp_append_zero {o : Oper} {a : Act} {K : Act → World → Prop} {Q : Exit → Act → World → Prop} (s x : Operand) (t : TypeId)
    (ho : o.op = .call { callee := .builtin .append, args := #[s, x], argTypes := #[t, t] })
    (e : TypeId) (i : TypeInfo) (ht : P.underlying t = some (.slice e)) (hi : P.info? e = some i)
    (g n cap : Nat) (hn : n ≤ cap) (ad : Addr) (c : Nat) (hs : a.eval s = .slice (some ⟨g, 0, none⟩) n cap) (hx : a.eval x = .slice (some ad) 0 c)
    (h : K (a.put o.dst (.slice (some ⟨g, 0, none⟩) n cap)) w) : Oper.wp P o a w K Q := by
  have hrun := run_append_zero (P := P) (w := w) t o.type e i ht hi g n cap hn ad c
  unfold Oper.wp
  simp [execOp, ho, resolve, invoke, builtin, hs, hx, hrun, Result.andThen]
  exact h
theorem step_append_zero {ops : Array Oper} {o : Oper} {a : Act} {K : Act → World → Prop} {Q : Exit → Act → World → Prop} {E : Prop} (hgd : o.guard = none) (s x : Operand) (t : TypeId)
    (ho : o.op = .call { callee := .builtin .append, args := #[s, x], argTypes := #[t, t] })
    (e : TypeId) (i : TypeInfo) (ht : P.underlying t = some (.slice e)) (hi : P.info? e = some i)
    (g n cap : Nat) (hn : n ≤ cap) (ad : Addr) (c : Nat) (hs : a.eval s = .slice (some ⟨g, 0, none⟩) n cap) (hx : a.eval x = .slice (some ad) 0 c)
    (h : K (a.put o.dst (.slice (some ⟨g, 0, none⟩) n cap)) w) : if Region.wanted o (yielded ops a.tmps) = true then Oper.wp P o a w K Q else E := by
  have hw : Region.wanted o (yielded ops a.tmps) = true := by simp [Region.wanted, hgd]
  rw [if_pos hw]
  exact wp_append_zero s x t ho e i ht hi g n cap hn ad c hs hx h
theorem wpList_append_zero {ops : Array Oper} {rest : List Oper} {o : Oper} {a : Act} {Q : Exit → Act → World → Prop} (hgd : o.guard = none) (s x : Operand) (t : TypeId)
    (ho : o.op = .call { callee := .builtin .append, args := #[s, x], argTypes := #[t, t] })
    (e : TypeId) (i : TypeInfo) (ht : P.underlying t = some (.slice e)) (hi : P.info? e = some i)
    (g n cap : Nat) (hn : n ≤ cap) (ad : Addr) (c : Nat) (hs : a.eval s = .slice (some ⟨g, 0, none⟩) n cap) (hx : a.eval x = .slice (some ad) 0 c)
    (h : wpList P ops Q rest (a.put o.dst (.slice (some ⟨g, 0, none⟩) n cap)) w) : wpList P ops Q (o :: rest) a w :=
  wpList_plain hgd fun _ hK => wp_append_zero s x t ho e i ht hi g n cap hn ad c hs hx (hK _ _ h)
/-- The same, wherever the nothing lies. -/
theorem run_append_zeroG (t ty e : TypeId) (i : TypeInfo) (ht : P.underlying t = some (.slice e)) (hi : P.info? e = some i) (g n cap : Nat) (hn : n ≤ cap) (A : Option Addr) (c : Nat) :
    (Builtin.append_ #[t, t] ty #[.slice (some ⟨g, 0, none⟩) n cap, .slice A 0 c]).run P w = .ok (.slice (some ⟨g, 0, none⟩) n cap) w := by
  cases A with
  | none => simp [Builtin.append_, run_underlying ht, sizeOf, typeInfo, hi, Builtin.lenOf, Builtin.firstCells, hn, storeCells]
  | some ad => exact run_append_zero t ty e i ht hi g n cap hn ad c
theorem step_append_zeroG {ops : Array Oper} {o : Oper} {a : Act} {K : Act → World → Prop} {Q : Exit → Act → World → Prop} {E : Prop} (hgd : o.guard = none) (s x : Operand) (t : TypeId)
    (ho : o.op = .call { callee := .builtin .append, args := #[s, x], argTypes := #[t, t] })
    (e : TypeId) (i : TypeInfo) (ht : P.underlying t = some (.slice e)) (hi : P.info? e = some i)
    (g n cap : Nat) (hn : n ≤ cap) (A : Option Addr) (c : Nat) (hs : a.eval s = .slice (some ⟨g, 0, none⟩) n cap) (hx : a.eval x = .slice A 0 c)
    (h : K (a.put o.dst (.slice (some ⟨g, 0, none⟩) n cap)) w) : if Region.wanted o (yielded ops a.tmps) = true then Oper.wp P o a w K Q else E := by
  have hw : Region.wanted o (yielded ops a.tmps) = true := by simp [Region.wanted, hgd]
  rw [if_pos hw]
  have hrun := run_append_zeroG (P := P) (w := w) t o.type e i ht hi g n cap hn A c
  unfold Oper.wp
  simp [execOp, ho, resolve, invoke, builtin, hs, hx, hrun, Result.andThen]
  exact h
end
end Go.Proofs.YtalclebehbdliaaGreatDoor
namespace Go.Proofs.YtalclebehbdliaaGreatDoor
open Go Go.RowKit

theorem fillTo_mono (arcs : List (List Int)) (d : Nat) (head : List Int) {k : Nat} : ∀ (n : Nat), k ≤ n → (fillTo arcs d head k).length ≤ (fillTo arcs d head n).length
  | 0, h => by obtain rfl : k = 0 := by omega
               exact Nat.le_refl _
  | n + 1, h => by
    by_cases e : k = n + 1
    · subst e; exact Nat.le_refl _
    · have := fillTo_mono arcs d head n (k := k) (by omega)
      rw [fillTo_next, List.length_append]; omega
theorem ints_one (xs : List Int) : ∀ u ∈ xs.map (Value.int .i64), u.oneCell' = true := by
  intro u hu
  obtain ⟨x, _, rfl⟩ := List.mem_map.1 hu
  rfl
theorem ints_cells {w : World} {g : Nat} {xs : List Int} (h : IntsAt w g 0 xs) : ∀ j u, (xs.map (Value.int .i64))[j]? = some u → w.cell? ((⟨g, 0, none⟩ : Addr).add j) = some u := by
  intro j u hu
  rw [List.getElem?_map] at hu
  obtain ⟨x, hx, rfl⟩ := Option.map_eq_some_iff.1 hu
  have hj := (List.getElem?_eq_some_iff.1 hx).1
  have := h j hj
  rw [Nat.zero_add] at this
  rw [show (⟨g, 0, none⟩ : Addr).add j = ⟨g, j, none⟩ by unfold Addr.add; split <;> simp_all, this, List.getD_eq_getElem?_getD, hx]; rfl
theorem ints_far {w w' : World} {g : Nat} {xs : List Int} {r : Option Nat} (h : IntsAt w g 0 xs) (hl : g < w.heap.size) (hg : w.grownBy w' r) (hne : r ≠ some g) : IntsAt w' g 0 xs ∧ g < w'.heap.size := by
  refine ⟨fun k hk => ?_, Nat.lt_of_lt_of_le hl hg.size⟩
  have hb := hg.block g hl (Ne.symm hne)
  have := h k hk
  unfold World.cell? at this ⊢
  rw [hb]; exact this

/-- Paths are put behind others, in the same block or in a new one. -/
def FillPost (B : Nat) (v : Value) (m : List (List Int)) (w : World) (e : Ending) (w' : World) : Prop :=
  ∃ v' vs, e = .returned v' ∧ w'.ownsRow B 48 1 v' m.length vs ∧ RowsOwn w' B v'.ownBlock vs m ∧ w.grownBy w' v.ownBlock ∧ (v'.ownBlock = v.ownBlock ∨ ∃ g, v'.ownBlock = some g ∧ w.heap.size ≤ g)
theorem grown_trans {w w1 w2 : World} {r r1 : Option Nat} (h : w.grownBy w1 r) (k : w1.grownBy w2 r1) (hr : r1 = r ∨ ∃ g, r1 = some g ∧ w.heap.size ≤ g) : w.grownBy w2 r := by
  refine ⟨k.os.trans h.os, k.tape.trans h.tape, k.output.trans h.output, Nat.le_trans h.size k.size, fun j hj hne => ?_⟩
  refine (k.block j (Nat.lt_of_lt_of_le hj h.size) ?_).trans (h.block j hj hne)
  rcases hr with rfl | ⟨g, rfl, hg⟩
  · exact hne
  · intro e
    have := Option.some.inj e
    omega
theorem below_grown {w w' : World} (h : Below w.heap.size w w') (r : Option Nat) : w.grownBy w' r := ⟨h.os, h.tape, h.output, h.size, fun k hk _ => h.block k hk⟩

theorem fill_next {B : Nat} {w0 w w3 : World} {gg cap : Nat} {v u : Value} {vs : List Value} {out : List (List Int)} {head : List Int} (hO : w0.ownsRow B 48 1 v out.length vs) (hR : RowsOwn w0 B v.ownBlock vs out) (h0 : Below w0.heap.size w0 w) (hB : B ≤ w0.heap.size)
    (hu : w.ownsRow w0.heap.size 3 1 u head.length (head.map (Value.int .i64))) (o : Obj)
    (ho3 : w3.ownsRow B 48 1 (.slice (some ⟨gg, 0, none⟩) (out.length + 1) cap) (out.length + 1) (vs ++ [u])) (hg3 : (w.alloc o).grownBy w3 v.ownBlock) (hat : v.ownBlock = some gg ∨ gg = w.heap.size + 1) :
    w3.ownsRow B 48 1 (.slice (some ⟨gg, 0, none⟩) (out.length + 1) cap) (out ++ [head]).length (vs ++ [u]) ∧ RowsOwn w3 B (Value.slice (some ⟨gg, 0, none⟩) (out.length + 1) cap).ownBlock (vs ++ [u]) (out ++ [head]) ∧ w.grownBy w3 v.ownBlock ∧
      ((Value.slice (some ⟨gg, 0, none⟩) (out.length + 1) cap).ownBlock = v.ownBlock ∨ ∃ g, (Value.slice (some ⟨gg, 0, none⟩) (out.length + 1) cap).ownBlock = some g ∧ w.heap.size ≤ g) := by
  have hb1 : Below w0.heap.size w0 (w.alloc o) := h0.alloc h0.size o
  refine ⟨by rw [List.length_append]; exact ho3, own_append (w := w.alloc o) (cap := cap) hO hR hb1 (World.ownsRow.alloc (World.ownsRow.mono hu hB) o) (fun g hg => (hu.lt g hg).1) ho3 hg3 (by rw [World.size_alloc]; exact hat), grown_trans (World.grownBy_alloc w o none |> fun h => ⟨h.os, h.tape, h.output, h.size, fun k hk _ => h.block k hk (by intro e; cases e)⟩) hg3 (Or.inl rfl), ?_⟩
  rcases hat with h | h
  · exact Or.inl h.symm
  · exact Or.inr ⟨gg, rfl, by omega⟩

theorem head_next {W1 w1 w3 : World} {gg cap n : Nat} {u : Value} {head : List Int} {x : Int} (hb : Below W1.heap.size W1 w1) (hU : w1.ownsRow W1.heap.size 3 1 u head.length (head.map (Value.int .i64))) (o : Obj) (hn : n = head.length + 1)
    (ho3 : w3.ownsRow W1.heap.size 3 1 (.slice (some ⟨gg, 0, none⟩) n cap) n (head.map (Value.int .i64) ++ [.int .i64 x])) (hg3 : (w1.alloc o).grownBy w3 u.ownBlock) :
    w3.ownsRow W1.heap.size 3 1 (.slice (some ⟨gg, 0, none⟩) (head ++ [x]).length cap) (head ++ [x]).length ((head ++ [x]).map (Value.int .i64)) ∧ Below W1.heap.size W1 w3 := by
  subst hn
  refine ⟨?_, (hb.alloc hb.size o).grown hg3 (by have := hb.size; simp; omega) fun q hq => (hU.lt q hq).1⟩
  rw [List.length_append, List.map_append]; exact ho3

/-- The head's copy. -/
theorem first_part {W1 w1 w2 : World} {gg cap : Nat} {u : Value} {head : List Int} (hb : Below W1.heap.size W1 w1) (hU : w1.ownsRow W1.heap.size 3 1 u 0 [])
    (ho2 : w2.ownsRow W1.heap.size 3 1 (.slice (some ⟨gg, 0, none⟩) (0 + head.length) cap) (0 + head.length) ([] ++ head.map (Value.int .i64))) (hg2 : w1.grownBy w2 u.ownBlock) :
    w2.ownsRow W1.heap.size 3 1 (.slice (some ⟨gg, 0, none⟩) head.length cap) head.length (head.map (Value.int .i64)) ∧ Below W1.heap.size W1 w2 := by
  rw [Nat.zero_add, List.nil_append] at ho2
  exact ⟨ho2, hb.grown hg2 hb.size fun q hq => (hU.lt q hq).1⟩

/-- PathsOf. -/
def pathsOkM (m : List (List Int)) (n : Int) : Bool := isGraphM m && ((decide (1 ≤ n) && decide (n ≤ 6)) && (decide (0 ≤ countM m n) && decide (countM m n ≤ 500)))
def pathsM (m : List (List Int)) (n : Int) : List (List Int) := if pathsOkM m n = true then fillM (arcsM m) n.toNat [] else []
theorem pow_le_six {a n : Nat} (ha : a ≤ 60) (hn : n ≤ 6) : a ^ n ≤ 46656000000 :=
  Nat.le_trans (Nat.pow_le_pow_left ha n) (Nat.le_trans (Nat.pow_le_pow_right (by decide) hn) (by decide))

end Go.Proofs.YtalclebehbdliaaGreatDoor
namespace Go.Proofs.YtalclebehbdliaaGreatDoor
open Go Go.RowKit

theorem Cur.grown {B : Nat} {a : Option Addr} {n c g : Nat} {W0 w w' : World} (h : Cur B a n c g W0 w) {r : Option Nat} (hg : w.grownBy w' r) (hr : ∀ k, r = some k → g + 1 ≤ k) : Cur B a n c g W0 w' := by
  have hl := h.lt
  obtain ⟨h1, h2, h3, i, x, h4, h5⟩ := h
  refine ⟨h1.grown hg h2 fun k hk => by have := hr k hk; omega, Nat.le_trans h2 hg.size, h3, i, x, h4, ?_⟩
  rw [hg.block g hl fun e => by have := hr g e.symm; omega]; exact h5

/-- A table that is not much. -/
structure Drawn (M : List (List Int)) : Prop where
  len : M.length ≤ 11
  tot : tot M ≤ 201
theorem small_drawn {M : List (List Int)} (h : Small M) : Drawn M := ⟨by have := h.len; omega, by have := h.tot; omega⟩
theorem small_set {M : List (List Int)} (h : Small M) (x : Int) : Drawn (M.set 0 ((M.getD 0 []).set 0 x)) := by
  refine ⟨by rw [List.length_set]; have := h.len; omega, ?_⟩
  have h1 := h.tot
  cases M with
  | nil => exact Nat.le_trans h1 (by omega)
  | cons r M =>
    have : tot ((r :: M).set 0 (((r :: M).getD 0 []).set 0 x)) = tot (r :: M) := by simp [tot, List.getD]
    omega
theorem small_app {M : List (List Int)} (h : Small M) : Drawn (M ++ [[1]]) := by
  refine ⟨by rw [List.length_append]; have := h.len; simp; omega, ?_⟩
  have h1 := h.tot
  have : tot (M ++ [[1]]) = tot M + 1 := by simp [tot]
  omega

def BentPost (B : Nat) (a : Option Addr) (n c g : Nat) (W0 : World) (e : Ending) (w' : World) : Prop := ∃ v M, e = .returned v ∧ OwnG w' (g + 1) v M ∧ Drawn M ∧ Cur B a n c g W0 w'
/-- The same, and the table is new: what lay above the cursor is as it was. -/
def BentNew (B : Nat) (a : Option Addr) (n c g : Nat) (W0 W : World) (e : Ending) (w' : World) : Prop := ∃ v M, e = .returned v ∧ OwnG w' W.heap.size v M ∧ Drawn M ∧ Cur B a n c g W0 w' ∧ From (g + 1) W w'
theorem From.grownBy {b : Nat} {W w w' : World} (h : From b W w) {r : Option Nat} (hg : w.grownBy w' r) (hr : ∀ k, r = some k → W.heap.size ≤ k) : From b W w' :=
  ⟨Nat.le_trans h.size hg.size, fun k h1 h2 => by rw [hg.block k (Nat.lt_of_lt_of_le h2 h.size) fun e => by have := hr k e.symm; omega]; exact h.block k h1 h2⟩
def bends : List Int := [-1, 1000000, 1000001, 9]

/-- The row of the one number 1 is put behind the others. -/
theorem bent_next {w w3 : World} {B gg cap : Nat} {v : Value} {vs : List Value} {M : List (List Int)} (ho : w.ownsRow B 48 1 v M.length vs) (hr : RowsOwn w B v.ownBlock vs M) (hg1 : B ≤ w.heap.size) (o o2 : Obj)
    (hu : (w.alloc o).ownsRow w.heap.size 3 1 (.slice (some ⟨w.heap.size, 0, none⟩) 1 1) 1 [.int .i64 1])
    (ho3 : w3.ownsRow B 48 1 (.slice (some ⟨gg, 0, none⟩) (M.length + 1) cap) (M.length + 1) (vs ++ [.slice (some ⟨w.heap.size, 0, none⟩) 1 1])) (hg3 : ((w.alloc o).alloc o2).grownBy w3 v.ownBlock) (hat : v.ownBlock = some gg ∨ gg = w.heap.size + 2) :
    OwnG w3 B (.slice (some ⟨gg, 0, none⟩) (M.length + 1) cap) (M ++ [[1]]) ∧ w.grownBy w3 v.ownBlock := by
  have h0 : Below w.heap.size w (w.alloc o) := (Below.refl _ _).alloc (Nat.le_refl _) o
  obtain ⟨h1, h2, h3, _⟩ := fill_next (head := [1]) ho hr h0 hg1 hu o2 ho3 hg3 (by rw [World.size_alloc]; exact hat)
  rw [List.length_append] at h1
  refine ⟨⟨_, ?_, h2⟩, grown_trans (below_grown h0 _) h3 (Or.inl rfl)⟩
  rw [List.length_append]; exact h1

/-- A new block that is full of its cells. -/
theorem owns_block (w : World) {B : Nat} (hB : B ≤ w.heap.size) (e : TypeId) (xs : List Value) (hm : xs.length ≤ maxLen) : (w.alloc (.cells xs.toArray e)).ownsRow B e 1 (.slice (some ⟨w.heap.size, 0, none⟩) xs.length xs.length) xs.length xs :=
  ⟨by simp, .inr ⟨w.heap.size, xs.length, xs.toArray, rfl, hB, heap_alloc_new w _, Nat.le_refl _, hm, by simp, by simp⟩⟩
theorem block_two (w : World) (o : Obj) (o2 : Obj) : ((w.alloc o).alloc o2).heap[w.heap.size + 1]? = some o2 := by
  have h := heap_alloc_new (w.alloc o) o2
  rw [World.size_alloc] at h; exact h

set_option maxRecDepth 100000 in
set_option maxHeartbeats 3200000 in
theorem spec_bentF (B : Nat) (a : Option Addr) (n c g : Nat) (W0 w : World) (hcode : CodeAt W0 B a n) (hn : n ≤ 1048576) (hcur : Cur B a n c g W0 w) :
    Calls Tryz.prog 28 #[.pointer (some ⟨g, 0, none⟩)] w (BentNew B a n c g W0 w) := by
  have hg0 := hcur.lt
  obtain ⟨i0, hi, hz0, hz1, hz2⟩ := info_parts infoSl
  have HG := Lib.hid (draw_gridF 4 (by decide) (by decide) B a n c g W0 w hcode hn hcur)
  have HBW := Lib.hid (fun w' => l1Below 16 (by decide) B a n c g W0 w' hcode hn)
  have HPI := Lib.hid (fun b w' (hc : Cur B a n c g W0 w') (hs : NumsAt w' b bends) (hbg : b ≠ g) => l1PickInt b 4 bends (by decide) (by decide) B a n c g W0 w' hcode hn hc hs hbg)
  clear hcode hcur
  go_enter Tryz.func28, Tryz.ntmps28
  go_wp2_with fail
  refine HG.out.mono ?_
  rintro e w1 ⟨v, M, rfl, ho1, hs1, hc1, hf1⟩
  have HBW1 := Lib.hid (HBW.out w1 hc1)
  have HO1 := Lib.hid ho1
  have HS1 := Lib.hid hs1
  have HF1 := Lib.hid hf1
  clear ho1 hs1 hc1 hf1
  go_wp2_with fail
  refine HBW1.out.mono ?_
  rintro e w2 ⟨x, x0, x1, rfl, hc2, ho2⟩
  have HO2 := Lib.hid (HO1.out.from ((from_only ho2).low (show g + 1 ≤ w.heap.size by omega)))
  have HF2 := Lib.hid (HF1.out.trans (from_only ho2))
  have hs2 := HF2.out.size
  have hg2 := hc2.lt
  have HC2 := Lib.hid hc2
  clear hc2 ho2
  obtain ⟨xn, rfl⟩ : ∃ xn : Nat, x = (xn : Int) := ⟨x.toNat, by omega⟩
  by_cases hx0 : xn = 0
  · subst hx0
    obtain ⟨gm, cap, gi, ci, rfl, gb, gib, gne, hat⟩ := HO2.out.ats (i := 0) (j := 0) HS1.out.pos HS1.out.first
    have k1 := (hat w2 (From.refl _ _)).1
    have HAT := Lib.hid hat
    have hlp := HS1.out.pos
    have hlf := HS1.out.first
    clear hat
    generalize hml : M.length = ml at *
    generalize hfl : (M.getD 0 []).length = fl at *
    have HML := Lib.hid hml
    have HFL := Lib.hid hfl
    clear hml hfl
    go_wp2
    go_region_held3 (fun w' => w'.cell? ⟨gm, 0, none⟩ = some (.slice (some ⟨gi, 0, none⟩) fl ci)) (first | exact y0 | exact cell_far_set gne y0 | go_keep) (first | (go_at_call 59; refine (HPI.out w2.heap.size _ ((HC2.out.alloc _).drewN 1) (intsAt_new w2 bends 3) (by omega)).mono ?_; rintro e w5 ⟨kk, hkk, rfl, hc5, ho5⟩; have hfr0 : From (g + 1) w2 w5 := (From.of_below (below_drewN ((Below.refl w2.heap.size w2).alloc (Nat.le_refl _) _) 1)).trans (from_only ho5); have hfr := hfr0.low (show g + 1 ≤ w.heap.size by omega); obtain ⟨y0, y1, y2, y3, y4⟩ := HAT.out w5 hfr; have HSET := Lib.hid y4; have HC5 := Lib.hid hc5; have HF5 := Lib.hid (HF2.out.trans hfr0); clear y4 hc5 ho5 hfr hfr0))
    go_wp2
    go_ret
    exact ⟨_, _, rfl, HSET.out _, small_set HS1.out _, HC5.out.setOther (b := gi) (by have := HC2.out.2.2.1; omega) (by omega) _ _, HF5.out.put gib _ _⟩
  · have hb0 : ((xn : Int) == 0) = false := by simp; omega
    by_cases hx1 : xn = 1
    · subst hx1
      obtain ⟨vs, ho, hr⟩ := HO2.out
      obtain ⟨Av, cv, rfl⟩ := slice_of_owns ho
      have HOK := Lib.hid ho
      have HOR := Lib.hid hr
      have hl10 := HS1.out.len
      clear ho hr
      have HU : Hid (((w2.alloc (.cells #[.int .i64 1] 3)).ownsRow w2.heap.size 3 1 (.slice (some ⟨w2.heap.size, 0, none⟩) 1 1) 1 [.int .i64 1])) := Lib.hid (owns_block w2 (Nat.le_refl _) 3 [.int .i64 1] (by decide))
      go_wp2_with (at_builtin; refine wpList_append_lies _ rfl (.tmp 19) (.tmp 21) 24 rfl w.heap.size 48 i0 (.slice none 0 0) 1 24 Tryz.underlying24 hi hz0 hz1 hz2 rfl (by decide) _ _ _ rfl ((HOK.out.alloc _).alloc _) ⟨w2.heap.size + 1, 0, none⟩ 1 1 [.slice (some ⟨w2.heap.size, 0, none⟩) 1 1] rfl rfl (World.news_of_block (cs := #[.slice (some ⟨w2.heap.size, 0, none⟩) 1 1]) (t := 48) (fr := (0, 0)) (block_two w2 _ _)) (by simp [Value.oneCell']) (by decide) (by unfold maxLen; omega) (by omega) (by simp; omega) (w2.heap.size + 2) (by simp) ?_; intro gg cap w3 ho3 hg3 hat hlt3; have HN := Lib.hid (bent_next HOK.out HOR.out (by omega) _ _ HU.out ho3 hg3 hat); clear ho3 hg3 hat)
      go_ret
      exact ⟨_, _, rfl, HN.out.1, small_app HS1.out, HC2.out.grown HN.out.2 fun k hk => by have := (HOK.out.lt k hk).1; omega, HF2.out.grownBy HN.out.2 fun k hk => (HOK.out.lt k hk).1⟩
    · have hb1 : ((xn : Int) == 1) = false := by simp; omega
      go_wp2
      go_ret
      exact ⟨_, M, rfl, HO2.out, small_drawn HS1.out, HC2.out, HF2.out⟩
theorem spec_bent (B : Nat) (a : Option Addr) (n c g : Nat) (W0 w : World) (hcode : CodeAt W0 B a n) (hn : n ≤ 1048576) (hcur : Cur B a n c g W0 w) :
    Calls Tryz.prog 28 #[.pointer (some ⟨g, 0, none⟩)] w (BentPost B a n c g W0) := by
  refine (spec_bentF B a n c g W0 w hcode hn hcur).mono ?_
  rintro e w' ⟨v, M, he, ho, hd, hc, _⟩
  exact ⟨v, M, he, ho.mono hcur.lt, hd, hc⟩
end Go.Proofs.YtalclebehbdliaaGreatDoor
namespace Go.Proofs.YtalclebehbdliaaGreatDoor
open Go Go.RowKit

/-! ### The graph of the arcs -/

def blockT (arcs : List (List Int)) : List (List Int) := tabOf arcs.length arcs.length fun i j => if cellOf arcs i 1 = cellOf arcs j 0 then 1 else 0
def blockG (m : List (List Int)) : Option (List (List Int)) := if 1 ≤ (arcsOfM m).length ∧ (arcsOfM m).length ≤ 9 then some (blockT (arcsOfM m)) else none
def isBlockM (m n : List (List Int)) : Bool := (blockG m).isSome && decide ((blockG m).getD [] = n)
def powG (m : List (List Int)) (n : Int) : Option (List (List Int)) := if 1 ≤ n ∧ n ≤ 30 then powS m n else none
def joinT (a b : List (List Int)) : List (List Int) :=
  tabOf (a.length + b.length) (a.length + b.length) fun i j => if i < a.length then (if j < a.length then cellOf a i j else 0) else if j < a.length then 0 else cellOf b (i - a.length) (j - a.length)
def joinG (a b : List (List Int)) : Option (List (List Int)) := if isMat a = true ∧ isMat b = true ∧ a.length + b.length ≤ 9 then some (joinT a b) else none
def pairT (a b : List (List Int)) : List (List Int) :=
  tabOf (a.length * b.length) (a.length * b.length) fun x y => cellOf a (x / b.length) (y / b.length) * cellOf b (x % b.length) (y % b.length)
def pairG (a b : List (List Int)) : Option (List (List Int)) := if isMat a = true ∧ isMat b = true ∧ a.length * b.length ≤ 9 ∧ isMat (pairT a b) = true then some (pairT a b) else none

theorem tab_facts {n : Nat} (h1 : 1 ≤ n) (h9 : n ≤ 9) {f : Nat → Nat → Int} (h : ∀ i j, i < n → j < n → 0 ≤ f i j ∧ f i j ≤ 1000000) : isMat (tabOf n n f) = true := by
  rw [isMat_iff, tabOf_length]
  refine ⟨⟨h1, h9⟩, fun i hi => ⟨by rw [tabOf_row hi]; simp, fun j hj => ?_⟩⟩
  rw [tabOf_cell hi hj]
  exact h i j hi hj
theorem blockT_isMat {arcs : List (List Int)} (h : 1 ≤ arcs.length) (h9 : arcs.length ≤ 9) : isMat (blockT arcs) = true :=
  tab_facts h h9 fun i j _ _ => by split <;> omega
theorem joinT_isMat {a b : List (List Int)} (ha : isMat a = true) (hb : isMat b = true) (hl : a.length + b.length ≤ 9) : isMat (joinT a b) = true := by
  obtain ⟨⟨a1, _⟩, ac⟩ := isMat_iff.1 ha
  obtain ⟨⟨b1, _⟩, bc⟩ := isMat_iff.1 hb
  refine tab_facts (by omega) hl fun i j hi hj => ?_
  by_cases c1 : i < a.length
  · rw [if_pos c1]
    by_cases c2 : j < a.length
    · rw [if_pos c2]; exact (ac i c1).2 j c2
    · rw [if_neg c2]; omega
  · rw [if_neg c1]
    by_cases c2 : j < a.length
    · rw [if_pos c2]; omega
    · rw [if_neg c2]; exact (bc _ (by omega)).2 _ (by omega)
theorem blockG_isMat {m x : List (List Int)} (h : blockG m = some x) : isMat x = true := by
  unfold blockG at h
  split at h
  · next hc => obtain rfl := Option.some.inj h; exact blockT_isMat hc.1 hc.2
  · cases h
theorem joinG_isMat {a b x : List (List Int)} (h : joinG a b = some x) : isMat x = true := by
  unfold joinG at h
  split at h
  · next hc => obtain rfl := Option.some.inj h; exact joinT_isMat hc.1 hc.2.1 hc.2.2
  · cases h
theorem pairG_isMat {a b x : List (List Int)} (h : pairG a b = some x) : isMat x = true := by
  unfold pairG at h
  split at h
  · next hc => obtain rfl := Option.some.inj h; exact hc.2.2.2
  · cases h
theorem powG_isMat {m x : List (List Int)} {n : Int} (h : powG m n = some x) : isMat x = true := by
  unfold powG at h
  split at h
  · unfold powS at h
    split at h
    · next hc => exact powM_isMat hc.1 _ h
    · cases h
  · cases h
theorem sizeB_mat {o : Option (List (List Int))} (h : ∀ x, o = some x → isMat x = true) : SizeB (o.getD []) := by
  cases ho : o with
  | none => exact sizeB_nil
  | some x => exact sizeB_facts (isMat_facts (h x ho))
theorem sizeB_block (m : List (List Int)) : SizeB ((blockG m).getD []) := sizeB_mat fun _ h => blockG_isMat h
theorem sizeB_joinG (a b : List (List Int)) : SizeB ((joinG a b).getD []) := sizeB_mat fun _ h => joinG_isMat h
theorem sizeB_pairG (a b : List (List Int)) : SizeB ((pairG a b).getD []) := sizeB_mat fun _ h => pairG_isMat h
theorem sizeB_powG (m : List (List Int)) (n : Int) : SizeB ((powG m n).getD []) := sizeB_mat fun _ h => powG_isMat h
end Go.Proofs.YtalclebehbdliaaGreatDoor
namespace Go.Proofs.YtalclebehbdliaaGreatDoor
open Go Go.RowKit

/-- The numbers f up to place j of row i, zeros behind. -/
def fillF (f : Nat → Nat → Int) (i j : Nat) : Nat → Nat → Int := fun a b => if a < i ∨ (a = i ∧ b < j) then f a b else 0
theorem fillF_zero (f : Nat → Nat → Int) (n : Nat) : tabOf n n (fillF f 0 0) = tabOf n n fun _ _ => 0 := tabOf_congr fun i j _ _ => by unfold fillF; rw [if_neg (by omega)]
theorem fillF_next (f : Nat → Nat → Int) (n i j : Nat) (hi : i < n) : (tabOf n n (fillF f i j)).set i (((tabOf n n (fillF f i j)).getD i []).set j (f i j)) = tabOf n n (fillF f i (j + 1)) := by
  rw [tabOf_set _ _ hi]
  refine tabOf_congr fun a b _ _ => ?_
  unfold fillF
  by_cases e : a = i ∧ b = j
  · obtain ⟨rfl, rfl⟩ := e
    rw [if_pos ⟨rfl, rfl⟩, if_pos (by omega)]
  · rw [if_neg e]
    by_cases h : a < i ∨ (a = i ∧ b < j)
    · rw [if_pos h, if_pos (by omega)]
    · rw [if_neg h, if_neg (by omega)]
theorem fillF_row (f : Nat → Nat → Int) (n i : Nat) : tabOf n n (fillF f i n) = tabOf n n (fillF f (i + 1) 0) := tabOf_congr fun a b _ hb => by
  unfold fillF
  by_cases h : a < i ∨ (a = i ∧ b < n)
  · rw [if_pos h, if_pos (by omega)]
  · rw [if_neg h, if_neg (by omega)]
theorem fillF_all (f : Nat → Nat → Int) (n : Nat) : tabOf n n (fillF f n 0) = tabOf n n f := tabOf_congr fun a b ha _ => by unfold fillF; rw [if_pos (by omega)]

theorem fillF_still (f : Nat → Nat → Int) (n i j : Nat) (h : f i j = 0) : tabOf n n (fillF f i (j + 1)) = tabOf n n (fillF f i j) := tabOf_congr fun a b _ _ => by
  unfold fillF
  by_cases e : a = i ∧ b = j
  · obtain ⟨rfl, rfl⟩ := e
    rw [if_pos (by omega), if_neg (by omega), h]
  · by_cases h2 : a < i ∨ (a = i ∧ b < j)
    · rw [if_pos h2, if_pos (by omega)]
    · rw [if_neg h2, if_neg (by omega)]
end Go.Proofs.YtalclebehbdliaaGreatDoor
namespace Go.Proofs.YtalclebehbdliaaGreatDoor
open Go Go.RowKit

theorem bit10 (b : Bool) (w : World) : Calls Tryz.prog 35 #[.bool b] w fun e w' => e = .returned (.int .i64 (if b = true then 1 else 0)) ∧ w' = w := by
  go_enter Tryz.func35, Tryz.ntmps35
  cases b with
  | false => go_wp2; go_ret; exact ⟨rfl, rfl⟩
  | true => go_wp2; go_ret; exact ⟨rfl, rfl⟩
theorem bit10_t (w : World) : Calls Tryz.prog 35 #[.bool true] w fun e w' => e = .returned (.int .i64 1) ∧ w' = w := bit10 true w
theorem bit10_f (w : World) : Calls Tryz.prog 35 #[.bool false] w fun e w' => e = .returned (.int .i64 0) ∧ w' = w := bit10 false w
theorem cell_far10 {w : World} {a p : Addr} {v u : Value} (hne : p.block ≠ a.block) (h : w.cell? p = some u) : (w.setCell a v).cell? p = some u := by
  have hb := heap_setCell_other w a p.block v hne
  unfold World.cell? at h ⊢
  rw [hb]; exact h
/-- Number j of row i, as OwnG.at, and the row's block is not the table's. -/
theorem OwnG.at10 {w : World} {B : Nat} {v : Value} {m : List (List Int)} (h : OwnG w B v m) {i j : Nat} (hi : i < m.length) (hj : j < (m.getD i []).length) :
    ∃ g cap gi ci, v = .slice (some ⟨g, 0, none⟩) m.length cap ∧ w.cell? ⟨g, i, none⟩ = some (.slice (some ⟨gi, 0, none⟩) (m.getD i []).length ci) ∧ w.cell? ⟨gi, j, none⟩ = some (.int .i64 (cellOf m i j)) ∧ w.frozen? ⟨gi, j, none⟩ = false ∧ B ≤ gi ∧ gi < w.heap.size ∧ g ≠ gi ∧ B ≤ g ∧
      ∀ x : Int, OwnG (w.setCell ⟨gi, j, none⟩ (.int .i64 x)) B v (m.set i ((m.getD i []).set j x)) := by
  obtain ⟨g, cap, gi, ci, rfl, h1, h2, h3, h4, h5, h6⟩ := h.at hi hj
  obtain ⟨vs, ho, hr⟩ := h
  have hv : vs[i]? = some vs[i]! := by
    have := hr.len
    rw [getElem!_pos vs i (by omega)]
    exact List.getElem?_eq_getElem (by omega)
  have hc := (ho.cellAt i (by omega)).trans hv
  rw [h1] at hc
  have hrow := hr.row i _ hv
  rw [← Option.some.inj hc] at hrow
  refine ⟨g, cap, gi, ci, rfl, h1, h2, h3, h4, h5, ?_, (ho.lt g rfl).1, h6⟩
  rcases hrow.2 with e | e
  · cases e
  · intro e2
    exact e (by rw [e2]; rfl)
/-- The two ends of an arc in memory, and where they lie. -/
theorem arc_at10 {w : World} {A : Option Addr} {arcs : List (List Int)} (h : GridS w A arcs) (h2 : ∀ r ∈ arcs, r.length = 2) {k : Nat} (hk : k < arcs.length) :
    ∃ b off b2 off2 c', A = some ⟨b, off, none⟩ ∧ w.cell? ⟨b, off + k, none⟩ = some (.slice (some ⟨b2, off2, none⟩) 2 c') ∧ w.cell? ⟨b2, off2, none⟩ = some (.int .i64 (cellOf arcs k 0)) ∧ w.cell? ⟨b2, off2 + 1, none⟩ = some (.int .i64 (cellOf arcs k 1)) ∧ b < w.heap.size ∧ b2 < w.heap.size := by
  have hl : (arcs.getD k []).length = 2 := by
    have e : arcs.getD k [] = arcs[k] := by simp [List.getD, hk]
    rw [e]; exact h2 _ (List.getElem_mem hk)
  obtain ⟨b, off, A', c', hA, hc, hr, hb⟩ := h.row hk
  obtain ⟨b2, off2, rfl, hat, hb2⟩ := hr (by omega)
  rw [hl] at hc
  exact ⟨b, off, b2, off2, c', hA, hc, hat 0 (by omega), hat 1 (by omega), hb, hb2⟩
theorem arcsOfM_two (m : List (List Int)) : ∀ r ∈ arcsOfM m, r.length = 2 := by
  unfold arcsOfM
  split
  · exact arcsM_two m
  · intro r hr; cases hr

set_option maxRecDepth 100000 in
set_option maxHeartbeats 6400000 in
theorem spec_blockGraph (A0 : Option Addr) (c0 : Nat) (m : List (List Int)) (hn : m.length ≤ 1099511627776) (ht : ∀ k, k < m.length → (m.getD k []).length ≤ 1099511627776) (w : World) (hg : GridS w A0 m) :
    Calls Tryz.prog 7 #[.slice A0 m.length c0] w (NewGB (blockG m) w) := by
  have HA := Lib.hid (spec_arcsOf A0 c0 m hn ht w hg)
  have h2 := arcsOfM_two m
  unfold blockG
  clear hg ht
  generalize arcsOfM m = arcs at *
  have HIN := Lib.hid (m_in (arcs.length : Int) 1 9)
  by_cases hc : 1 ≤ arcs.length ∧ arcs.length ≤ 9
  · rw [if_pos hc]
    obtain ⟨h1, h9⟩ := hc
    have HZ := Lib.hid (spec_zero arcs.length arcs.length (by omega) (by omega))
    rw [decide_eq_true (show (1 : Int) ≤ (arcs.length : Int) by omega), decide_eq_true (show (arcs.length : Int) ≤ 9 by omega)] at HIN
    obtain ⟨f, hf⟩ : ∃ f : Nat → Nat → Int, (fun i j => if cellOf arcs i 1 = cellOf arcs j 0 then 1 else 0) = f := ⟨_, rfl⟩
    have HF : Hid (∀ i j, f i j = if cellOf arcs i 1 = cellOf arcs j 0 then 1 else 0) := Lib.hid fun i j => by rw [← hf]
    have HFE : Hid (tabOf arcs.length arcs.length f = blockT arcs) := Lib.hid (by rw [← hf]; rfl)
    have HBT := Lib.hid bit10_t
    have HBF := Lib.hid bit10_f
    have H2 := Lib.hid h2
    clear h2 hf
    go_enter Tryz.func7, Tryz.ntmps7
    go_wp2_with fail
    refine HA.out.mono ?_
    rintro e w0 ⟨v0, rfl, ho0, b0⟩
    obtain ⟨A1, c1, rfl, hg1⟩ := ho0.gridS
    have B0 := Lib.hid b0
    have H1 := Lib.hid hg1
    clear ho0 b0 hg1
    go_wp2_with fail
    refine (HIN.out w0).mono ?_
    rintro e wi ⟨rfl, hw⟩
    obtain rfl : w0 = wi := hw.symm
    go_wp2_with fail
    refine (HZ.out _).mono ?_
    rintro e w1 ⟨v, rfl, hown, b1⟩
    obtain ⟨A, c, rfl, -⟩ := hown.gridS
    rw [← fillF_zero f] at hown
    rw [tabOf_length] at hown ⊢
    have HO := Lib.hid hown
    have HB1 := Lib.hid b1
    clear hown b1 HZ HA HIN
    go_wp2
    go_loopw [6] (fun iv wr => ∃ i : Nat, i ≤ arcs.length ∧ iv = .int .i64 i ∧ OwnG wr w0.heap.size (.slice A arcs.length c) (tabOf arcs.length arcs.length (fillF f i 0)) ∧ Below w0.heap.size w0 wr) (fun i _ => arcs.length - (intOf i).toNat)
    case atStart => exact ⟨0, Nat.zero_le _, rfl, HO.out, HB1.out⟩
    case round =>
      obtain ⟨i, hi, rfl, hown, hbl⟩ := hrel
      by_cases hil : i < arcs.length
      · have HO1 := Lib.hid hown
        have HB2 := Lib.hid hbl
        clear hown hbl
        obtain ⟨W1, rfl⟩ : ∃ W1 : World, W1 = wr := ⟨_, rfl⟩
        go_wp2
        go_loopw [7] (fun jv wr => ∃ j : Nat, j ≤ arcs.length ∧ jv = .int .i64 j ∧ OwnG wr w0.heap.size (.slice A arcs.length c) (tabOf arcs.length arcs.length (fillF f i j)) ∧ Below w0.heap.size w0 wr) (fun j _ => arcs.length - (intOf j).toNat)
        case atStart => exact ⟨0, Nat.zero_le _, rfl, HO1.out, HB2.out⟩
        case round =>
          obtain ⟨j, hj, rfl, hown, hbl⟩ := hrel
          by_cases hjl : j < arcs.length
          · have hrl : ((tabOf arcs.length arcs.length (fillF f i j)).getD i []).length = arcs.length := by rw [tabOf_row hil]; simp
            obtain ⟨g, cap, gi, ci, hv, k1, k2, kf, kb, kl, kne, kg, hset⟩ := hown.at10 (i := i) (j := j) (by rw [tabOf_length]; exact hil) (by rw [hrl]; exact hjl)
            rw [tabOf_length] at hv
            simp only [Value.slice.injEq, true_and] at hv
            obtain ⟨rfl, rfl⟩ := hv
            rw [hrl] at k1
            obtain ⟨p1, p2, p3, p4, p5, rfl, ka1, ka0, ka2, pb1, pb2⟩ := arc_at10 H1.out H2.out hil
            obtain ⟨q1, q2, q3, q4, q5, hqq, kc1, kc2, kc0, qb1, qb2⟩ := arc_at10 H1.out H2.out hjl
            simp only [Option.some.injEq, Addr.mk.injEq, and_true] at hqq
            obtain ⟨rfl, rfl⟩ := hqq
            have ka1' := (hbl.cell (p := ⟨p1, p2 + i, none⟩) pb1).trans ka1
            have ka2' := (hbl.cell (p := ⟨p3, p4 + 1, none⟩) pb2).trans ka2
            have kc1' := (hbl.cell (p := ⟨p1, p2 + j, none⟩) pb1).trans kc1
            have kc2' := (hbl.cell (p := ⟨q3, q4, none⟩) qb2).trans kc2
            have hs1 := hset (f i j)
            rw [fillF_next f _ i j hil] at hs1
            have hfc := HF.out i j
            have HB4 := Lib.hid hbl
            have n1 : p1 ≠ gi := by omega
            have n2 : p3 ≠ gi := by omega
            have n3 : q3 ≠ gi := by omega
            clear hset hown hbl ka1 ka2 kc1 kc2 ka0 kc0
            generalize cellOf (tabOf arcs.length arcs.length (fillF f i j)) i j = T at *
            generalize cellOf arcs i 1 = x at *
            generalize cellOf arcs j 0 = y at *
            by_cases e : x = y
            · subst e
              rw [if_pos rfl] at hfc
              rw [hfc] at hs1
              have HS := Lib.hid hs1
              clear hs1 hfc
              go_wp2
              go_region_held3 (fun w' => w'.cell? ⟨g, i, none⟩ = some (.slice (some ⟨gi, 0, none⟩) arcs.length ci) ∧ w'.cell? ⟨p1, p2 + i, none⟩ = some (.slice (some ⟨p3, p4, none⟩) 2 p5) ∧ w'.cell? ⟨p3, p4 + 1, none⟩ = some (.int .i64 x) ∧ w'.cell? ⟨p1, p2 + j, none⟩ = some (.slice (some ⟨q3, q4, none⟩) 2 q5) ∧ w'.cell? ⟨q3, q4, none⟩ = some (.int .i64 x)) (first | exact ⟨k1, ka1', ka2', kc1', kc2'⟩ | exact ⟨cell_far10 kne k1, cell_far10 n1 ka1', cell_far10 n2 ka2', cell_far10 n1 kc1', cell_far10 n3 kc2'⟩ | go_keep) (first | (go_at_call 35; refine (HBT.out _).mono ?_; rintro e w2 ⟨rfl, rfl⟩))
              go_wp2
              go_roundw
              case rel => exact ⟨j + 1, by omega, by go_num, HS.out.drew, (HB4.out.setCell kb _).drew⟩
              case measure => simp [intOf]; omega
            · rw [if_neg e] at hfc
              rw [hfc] at hs1
              have HS := Lib.hid hs1
              have hij : (x == y) = false := by rw [beq_eq_false_iff_ne]; exact e
              clear hs1 hfc
              go_wp2
              go_region_held3 (fun w' => w'.cell? ⟨g, i, none⟩ = some (.slice (some ⟨gi, 0, none⟩) arcs.length ci) ∧ w'.cell? ⟨p1, p2 + i, none⟩ = some (.slice (some ⟨p3, p4, none⟩) 2 p5) ∧ w'.cell? ⟨p3, p4 + 1, none⟩ = some (.int .i64 x) ∧ w'.cell? ⟨p1, p2 + j, none⟩ = some (.slice (some ⟨q3, q4, none⟩) 2 q5) ∧ w'.cell? ⟨q3, q4, none⟩ = some (.int .i64 y)) (first | exact ⟨k1, ka1', ka2', kc1', kc2'⟩ | exact ⟨cell_far10 kne k1, cell_far10 n1 ka1', cell_far10 n2 ka2', cell_far10 n1 kc1', cell_far10 n3 kc2'⟩ | go_keep) (first | (go_at_call 35; refine (HBF.out _).mono ?_; rintro e w2 ⟨rfl, rfl⟩))
              go_wp2
              go_roundw
              case rel => exact ⟨j + 1, by omega, by go_num, HS.out.drew, (HB4.out.setCell kb _).drew⟩
              case measure => simp [intOf]; omega
          · obtain rfl : j = arcs.length := by omega
            rw [fillF_row] at hown
            have HO3 := Lib.hid hown
            clear hown
            go_wp2
            go_roundw
            case rel => exact ⟨i + 1, by omega, by go_num, HO3.out, hbl⟩
            case measure => simp [intOf]; omega
      · obtain rfl : i = arcs.length := by omega
        rw [fillF_all, HFE.out] at hown
        have hs0 := B0.out.size
        have HO3 := Lib.hid (hown.mono hs0)
        have HB3 := Lib.hid (below_behind B0.out hbl)
        clear hown hbl
        go_wp2
        go_ret2
        exact ⟨_, rfl, HO3.out, HB3.out⟩
  · rw [if_neg hc]
    have hc2 : (decide ((1 : Int) ≤ (arcs.length : Int)) && decide ((arcs.length : Int) ≤ 9)) = false := by
      rw [Bool.and_eq_false_iff, decide_eq_false_iff_not, decide_eq_false_iff_not]; omega
    rw [hc2] at HIN
    clear h2 hc hc2
    go_enter Tryz.func7, Tryz.ntmps7
    go_wp2_with fail
    refine HA.out.mono ?_
    rintro e w0 ⟨v0, rfl, ho0, b0⟩
    obtain ⟨A1, c1, rfl, hg1⟩ := ho0.gridS
    have B0 := Lib.hid b0
    have hs0 := b0.size
    have HE := Lib.hid ((ownG_empty w0).mono hs0)
    clear ho0 b0 hg1
    go_wp2_with fail
    refine (HIN.out w0).mono ?_
    rintro e w1 ⟨rfl, rfl⟩
    go_wp2
    go_ret2
    exact ⟨_, rfl, HE.out, below_behind B0.out below_new⟩

set_option maxRecDepth 100000 in
set_option maxHeartbeats 800000 in
theorem spec_powerGraph (A1 : Option Addr) (c1 : Nat) (m : List (List Int)) (hl : m.length ≤ 1048576) (ht : tot m ≤ 1048576) (n : Int) (w : World) (h1 : GridS w A1 m) :
    Calls Tryz.prog 17 #[.slice A1 m.length c1, .int .i64 n] w (NewGB (powG m n) w) := by
  have HP := Lib.hid (spec_power A1 c1 m hl ht n w h1)
  have HIN := Lib.hid (m_in n 1 30)
  unfold powG
  clear h1
  by_cases hn : 1 ≤ n ∧ n ≤ 30
  · rw [if_pos hn]
    rw [decide_eq_true hn.1, decide_eq_true hn.2] at HIN
    generalize powS m n = o at *
    go_enter Tryz.func17, Tryz.ntmps17
    go_wp2_with fail
    refine (HIN.out _).mono ?_
    rintro e w1 ⟨rfl, rfl⟩
    go_wp2_with fail
    refine HP.out.mono ?_
    rintro e w1 ⟨v, rfl, ho, hb⟩
    obtain ⟨A, c, rfl, -⟩ := ho.gridS
    have HO := Lib.hid ho
    clear ho
    go_wp2
    go_ret2
    exact ⟨_, rfl, HO.out, hb⟩
  · rw [if_neg hn]
    have hc2 : (decide (1 ≤ n) && decide (n ≤ 30)) = false := by
      rw [Bool.and_eq_false_iff, decide_eq_false_iff_not, decide_eq_false_iff_not]; omega
    rw [hc2] at HIN
    have HE := Lib.hid (ownG_empty w)
    clear HP hn hc2
    go_enter Tryz.func17, Tryz.ntmps17
    go_wp2_with fail
    refine (HIN.out _).mono ?_
    rintro e w1 ⟨rfl, rfl⟩
    go_wp2
    go_ret2
    exact ⟨_, rfl, HE.out, below_new⟩

set_option maxRecDepth 100000 in
set_option maxHeartbeats 800000 in
theorem spec_isBlockOf (A1 A2 : Option Addr) (c1 c2 : Nat) (m n : List (List Int)) (hl : m.length ≤ 1048576) (ht : tot m ≤ 1048576) (hn : tot n ≤ 1048576) (w : World) (h1 : GridS w A1 m) (h2 : GridS w A2 n) :
    Calls Tryz.prog 24 #[.slice A1 m.length c1, .slice A2 n.length c2] w (Scalar (.bool (isBlockM m n)) w) := by
  have HB := Lib.hid (spec_blockGraph A1 c1 m (by omega) (fun k hk => by have := row_le_tot hk; omega) w h1)
  have H2 := Lib.hid h2
  have hz := sizeB_block m
  unfold isBlockM
  clear h1 h2
  generalize blockG m = o at *
  have hz1 : (o.getD []).length ≤ 1048576 ∧ tot (o.getD []) ≤ 1048576 := by unfold SizeB at hz; omega
  have HEQ : Hid (∀ (A : Option Addr) (c : Nat) (w' : World), GridS w' A (o.getD []) → GridS w' A2 n → Calls Tryz.prog 57 #[.slice A (o.getD []).length c, .slice A2 n.length c2] w' (BelowBool (decide (o.getD [] = n)) w')) := Lib.hid fun A c w' hg hg2 => spec_equalMatrix A A2 c c2 (o.getD []) n hz1.1 hz1.2 hn w' hg hg2
  clear hz hz1
  cases o with
  | none =>
    go_enter Tryz.func24, Tryz.ntmps24
    go_wp2_with fail
    refine HB.out.mono ?_
    rintro e w1 ⟨v, rfl, ho, hb⟩
    go_wp2
    go_ret
    exact ⟨rfl, hb⟩
  | some x =>
    go_enter Tryz.func24, Tryz.ntmps24
    go_wp2_with fail
    refine HB.out.mono ?_
    rintro e w1 ⟨v, rfl, ho, hb⟩
    obtain ⟨A, c, rfl, hg⟩ := ho.gridS
    have HC := Lib.hid (HEQ.out A c w1 hg (H2.out.below hb))
    clear ho hg
    go_wp2_with fail
    refine HC.out.mono ?_
    rintro e w2 ⟨rfl, hb2⟩
    go_wp2
    go_ret
    exact ⟨by simp, below_behind hb hb2⟩
end Go.Proofs.YtalclebehbdliaaGreatDoor
namespace Go.Proofs.YtalclebehbdliaaGreatDoor
open Go Go.RowKit

set_option maxRecDepth 100000 in
set_option maxHeartbeats 1600000 in
theorem like_ints (A1 A2 : Option Addr) (c1 c2 : Nat) (xs : List Int) (hn : xs.length ≤ 1099511627776) (w : World) (h1 : RowS w A1 xs) (h2 : RowS w A2 xs) :
    Calls Tryz.prog 48 #[.slice A1 xs.length c1, .slice A2 xs.length c2] w (TrueBelowG w) := by
  have H1 := Lib.hid h1
  have H2 := Lib.hid h2
  clear h1 h2
  go_enter Tryz.func48, Tryz.ntmps48
  go_wp2
  go_loopw [5] (fun i wr => ∃ k q : Nat, k ≤ xs.length ∧ i = .int .i64 k ∧ wr = w.drewN q) (fun i _ => xs.length - (intOf i).toNat)
  case atStart => exact ⟨0, 0, Nat.zero_le _, rfl, rfl⟩
  case round =>
    obtain ⟨k, q, hk, rfl, rfl⟩ := hrel
    by_cases hlt : k < xs.length
    · obtain ⟨b1, o1, rfl, s1, _⟩ := H1.out (by omega)
      obtain ⟨b2, o2, rfl, s2, _⟩ := H2.out (by omega)
      have ha := s1 k hlt
      have hb := s2 k hlt
      clear s1 s2
      generalize xs.getD k 0 = x at ha hb
      go_wp2
      go_quiet (fail)
      go_wp2
      go_roundw
      case rel => exact ⟨k + 1, q + nq, by omega, by go_num, rfl⟩
      case measure => simp [intOf]; omega
    · obtain rfl : k = xs.length := by omega
      go_wp2
      go_ret
      exact ⟨rfl, below_drewN (Below.refl _ _) _⟩

set_option maxRecDepth 100000 in
set_option maxHeartbeats 1600000 in
theorem like_grids (A1 A2 : Option Addr) (c1 c2 : Nat) (m : List (List Int)) (hn : m.length ≤ 1048576) (ht : tot m ≤ 1048576) (w : World) (h1 : GridS w A1 m) (h2 : GridS w A2 m) :
    Calls Tryz.prog 19 #[.slice A1 m.length c1, .slice A2 m.length c2] w (TrueBelowG w) := by
  have H1 := Lib.hid h1
  have H2 := Lib.hid h2
  clear h1 h2
  go_enter Tryz.func19, Tryz.ntmps19
  go_wp2
  go_loopw [5] (fun i wr => ∃ k : Nat, k ≤ m.length ∧ i = .int .i64 k ∧ Below w.heap.size w wr) (fun i _ => m.length - (intOf i).toNat)
  case atStart => exact ⟨0, Nat.zero_le _, rfl, Below.refl _ _⟩
  case round =>
    obtain ⟨k, hk, rfl, hbl⟩ := hrel
    by_cases hlt : k < m.length
    · obtain ⟨b1, o1, R1, d1, rfl, k1, hr1, hb1⟩ := (H1.out.below hbl).row hlt
      obtain ⟨b2, o2, R2, d2, rfl, k2, hr2, hb2⟩ := (H2.out.below hbl).row hlt
      have hx : (m.getD k []).length ≤ 1048576 := Nat.le_trans (row_le_tot hlt) ht
      generalize m.getD k [] = x at k1 k2 hr1 hr2 hx
      have HE : Hid (∀ w', Below wr.heap.size wr w' → Calls Tryz.prog 48 #[.slice R1 x.length d1, .slice R2 x.length d2] w' (TrueBelowG w')) := Lib.hid fun w' hb => like_ints R1 R2 d1 d2 x (by omega) w' (hr1.below hb) (hr2.below hb)
      have HB := Lib.hid hbl
      clear hbl hr1 hr2
      have g0 : (0 : Int) ≤ (k : Int) := by omega
      have g1 : (k : Int) < (m.length : Int) := by omega
      go_wp2
      go_region_held3 (fun w' => w'.cell? ⟨b1, o1 + k, none⟩ = some (.slice R1 x.length d1) ∧ w'.cell? ⟨b2, o2 + k, none⟩ = some (.slice R2 x.length d2)) (first | exact ⟨y0, y1⟩ | go_keep) (first | (go_at_call 48; refine (HE.out _ (by first | exact Below.refl _ _ | exact (Below.refl _ _).drew)).mono ?_; rintro e w2 ⟨rfl, hb3⟩; have y0 := (hb3.cell (p := ⟨b1, o1 + k, none⟩) hb1).trans k1; have y1 := (hb3.cell (p := ⟨b2, o2 + k, none⟩) hb2).trans k2))
      go_wp2
      go_roundw
      case rel => exact ⟨k + 1, by omega, by go_num, HB.out.drew.trans (hb3.mono HB.out.size)⟩
      case measure => simp [intOf]; omega
    · obtain rfl : k = m.length := by omega
      go_wp2
      go_ret
      exact ⟨rfl, hbl⟩
end Go.Proofs.YtalclebehbdliaaGreatDoor
namespace Go.Proofs.YtalclebehbdliaaGreatDoor
open Go Go.RowKit

theorem big_is (a : Option Addr) (n c : Nat) (b : Bool) (hb : b = decide (1048576 < n)) (w : World) :
    Calls Tryz.prog 4 #[.slice a n c] w fun e w' => e = .returned (.bool b) ∧ w = w' := by
  have hd : b = decide ((1048576 : Int) < (n : Int)) := by rw [hb]; exact decide_eq_decide.2 (by omega)
  clear hb
  have H : RowKit.Hid (b = decide ((1048576 : Int) < (n : Int))) := hd
  clear hd
  go_enter Tryz.func4, Tryz.ntmps4
  go_wp2
  go_ret
  exact ⟨by rw [H.out]; rfl, rfl⟩
end Go.Proofs.YtalclebehbdliaaGreatDoor
namespace Go.Proofs.YtalclebehbdliaaGreatDoor
open Go Go.RowKit

/-- The value is a slice that holds the integers xs. -/
def RowV (w : World) (v : Value) (xs : List Int) : Prop := ∃ A c, v = .slice A xs.length c ∧ RowS w A xs
theorem RowV.below {w w' : World} {v : Value} {xs : List Int} (h : RowV w v xs) (hb : Below w.heap.size w w') : RowV w' v xs := by
  obtain ⟨A, c, hv, hg⟩ := h
  exact ⟨A, c, hv, hg.below hb⟩
/-- The call owns the list; the block of it lies below S. -/
def OwnA (w : World) (B : Nat) (v : Value) (xs : List Int) : Prop := w.ownsRow B 3 1 v xs.length (xs.map (Value.int .i64))
def OwnAIn (w : World) (B S : Nat) (v : Value) (xs : List Int) : Prop := OwnA w B v xs ∧ ∀ g, v.ownBlock = some g → g < S
theorem OwnA.rowV {w : World} {B : Nat} {v : Value} {xs : List Int} (h : OwnA w B v xs) : RowV w v xs := rowS_of_owns h
theorem OwnA.below {w w' : World} {B : Nat} {v : Value} {xs : List Int} (h : OwnA w B v xs) (hb : Below w.heap.size w w') : OwnA w' B v xs := kept_below h hb
theorem OwnA.mono {w : World} {B B' : Nat} {v : Value} {xs : List Int} (h : OwnA w B v xs) (hB : B' ≤ B) : OwnA w B' v xs := World.ownsRow.mono h hB
theorem OwnA.ownIn {w : World} {B : Nat} {v : Value} {xs : List Int} (h : OwnA w B v xs) : OwnAIn w B w.heap.size v xs := ⟨h, fun g hg => (h.lt g hg).2⟩
theorem OwnAIn.ownG {w : World} {B S : Nat} {v : Value} {xs : List Int} (h : OwnAIn w B S v xs) : OwnA w B v xs := h.1
theorem OwnAIn.below {w w' : World} {B S : Nat} {v : Value} {xs : List Int} (h : OwnAIn w B S v xs) (hb : Below w.heap.size w w') : OwnAIn w' B S v xs := ⟨h.1.below hb, h.2⟩
theorem From.ownAIn {w w' : World} {B S : Nat} {v : Value} {xs : List Int} (h : OwnAIn w B S v xs) (hf : From B w w') : OwnAIn w' B S v xs := ⟨From.owns h.1 hf, h.2⟩
/-- The list is not too long. -/
def SizeL (xs : List Int) : Prop := xs.length ≤ 1048576

def MarkedA (B S : Nat) (v : Value) (xs : List Int) (w : World) (e : Ending) (w' : World) : Prop := e = .returned (.int .i64 ((1 + xs.length : Nat) : Int)) ∧ RowV w' v (marksI 1 xs.length) ∧ Within B S w w'
def NewA (xs : List Int) (w : World) (e : Ending) (w' : World) : Prop := ∃ v, e = .returned v ∧ OwnA w' w.heap.size v xs ∧ Below w.heap.size w w'
def SpecA (xs : List Int) (w : World) (e : Ending) (w' : World) : Prop := ∃ v, e = .returned v ∧ RowV w' v xs ∧ Below w.heap.size w w'
def SpecAB (xs : List Int) (b : Bool) (w : World) (e : Ending) (w' : World) : Prop := ∃ v, e = .returned (.tuple #[v, .bool b]) ∧ RowV w' v xs ∧ Below w.heap.size w w'
end Go.Proofs.YtalclebehbdliaaGreatDoor
namespace Go.Proofs.YtalclebehbdliaaGreatDoor
open Go Go.RowKit

theorem codeAt_next {w w' : World} {a : Option Addr} {n : Nat} (h : CodeAt w w.heap.size a n) (hb : Below w.heap.size w w') : CodeAt w' w'.heap.size a n := by
  intro k hk
  obtain ⟨b, off, z, rfl, hlt, z0, z1, hc⟩ := h k hk
  exact ⟨b, off, z, rfl, Nat.lt_of_lt_of_le hlt hb.size, z0, z1, (hb.cell (p := ⟨b, off + k, none⟩) hlt).trans hc⟩
theorem bl {w w1 w2 : World} (h : Below w.heap.size w w1) (k : Below w1.heap.size w1 w2) : Below w.heap.size w w2 := h.trans (k.mono h.size)
/-- A contract in every later world, for tables that need not be the caller's own. -/
def At1V (W : World) (f : Nat) (m : List (List Int)) (P : World → Ending → World → Prop) : Prop := ∀ v w', Below W.heap.size W w' → SizeB m → GridV w' v m → Calls Tryz.prog f #[v] w' (P w')
theorem Drawn.size {M : List (List Int)} (h : Drawn M) : SizeB M := by
  have := h.len
  have := h.tot
  unfold SizeB; omega
theorem likeV {w : World} {v v' : Value} {m : List (List Int)} (hz : SizeB m) (h : GridV w v m) (h' : GridV w v' m) : Calls Tryz.prog 19 #[v, v'] w (TrueBelowG w) := by
  obtain ⟨A, c, rfl, hg⟩ := h
  obtain ⟨A', c', rfl, hg'⟩ := h'
  obtain ⟨h1, h2, _⟩ := rows_le hz
  exact like_grids A A' c c' m h1 h2 w hg hg'
theorem likeR {w : World} {v v' : Value} {l : List Int} (hz : SizeL l) (h : RowV w v l) (h' : RowV w v' l) : Calls Tryz.prog 48 #[v, v'] w (TrueBelowG w) := by
  obtain ⟨A, c, rfl, hg⟩ := h
  obtain ⟨A', c', rfl, hg'⟩ := h'
  unfold SizeL at hz
  exact like_ints A A' c c' l (by omega) w hg hg'
end Go.Proofs.YtalclebehbdliaaGreatDoor
namespace Go.Proofs.YtalclebehbdliaaGreatDoor
open Go Go.RowKit

theorem Cur.from10 {B : Nat} {a : Option Addr} {n c g : Nat} {W0 w : World} (h : Cur B a n c g W0 w) : B ≤ g := h.2.2.1
def OwnDrawn10 (W : World) (e : Ending) (w' : World) : Prop := ∃ v M, e = .returned v ∧ OwnG w' W.heap.size v M ∧ Drawn M ∧ Below W.heap.size W w'
def OwnNumDrawn10 (W : World) (e : Ending) (w' : World) : Prop := ∃ v M, ∃ x : Int, e = .returned (.tuple #[v, .int .i64 x]) ∧ OwnG w' W.heap.size v M ∧ Drawn M ∧ Below W.heap.size W w'
def OwnTwoDrawn10 (W : World) (e : Ending) (w' : World) : Prop := ∃ v M u K, e = .returned (.tuple #[v, u]) ∧ OwnG w' W.heap.size v M ∧ Drawn M ∧ OwnG w' W.heap.size u K ∧ Drawn K ∧ Below W.heap.size W w'

set_option maxRecDepth 100000 in
set_option maxHeartbeats 800000 in
theorem draw_blockGraph (a : Option Addr) (n c : Nat) (w : World) (hcode : CodeAt w w.heap.size a n) (hn : n ≤ 1048576) :
    Calls Tryz.prog 5 #[.slice a n c] w (OwnDrawn10 w) := by
  have HN := Lib.hid (l1New w.heap.size a n c w w hcode hn (Below.refl _ _) (Nat.le_refl _))
  have HB := Lib.hid (fun g w' => spec_bent w.heap.size a n c g w w' hcode hn)
  clear hcode
  go_enter Tryz.func5, Tryz.ntmps5
  go_wp2_with fail
  refine HN.out.mono ?_
  rintro e w1 ⟨g, rfl, hc1, _⟩
  go_wp2_with fail
  refine (HB.out g w1 hc1).mono ?_
  rintro e w2 ⟨v, M, rfl, ho2, hd2, hc2⟩
  have HO2 := Lib.hid ho2
  have HC := Lib.hid hc2
  clear ho2 hc2
  go_wp2
  go_ret
  exact ⟨v, M, rfl, HO2.out.mono (by have := HC.out.from10; omega), hd2, HC.out.below⟩

set_option maxRecDepth 100000 in
set_option maxHeartbeats 800000 in
theorem draw_joinGraphs (a : Option Addr) (n c : Nat) (w : World) (hcode : CodeAt w w.heap.size a n) (hn : n ≤ 1048576) :
    Calls Tryz.prog 9 #[.slice a n c] w (OwnTwoDrawn10 w) := by
  have HN := Lib.hid (l1New w.heap.size a n c w w hcode hn (Below.refl _ _) (Nat.le_refl _))
  have HB := Lib.hid (fun g w' => spec_bentF w.heap.size a n c g w w' hcode hn)
  clear hcode
  go_enter Tryz.func9, Tryz.ntmps9
  go_wp2_with fail
  refine HN.out.mono ?_
  rintro e w1 ⟨g, rfl, hc1, _⟩
  have hg1 := hc1.lt
  have hg8 := hc1.from10
  go_wp2_with fail
  refine (HB.out g w1 hc1).mono ?_
  rintro e w2 ⟨v, M, rfl, ho2, hd2, hc2, hf2⟩
  have HO2 := Lib.hid ho2
  have HB2 := Lib.hid (HB.out g w2 hc2)
  have hs2 := hf2.size
  clear ho2 hc2 hf2
  go_wp2_with fail
  refine HB2.out.mono ?_
  rintro e w3 ⟨u, K, rfl, ho3, hd3, hc3, hf3⟩
  have HO3 := Lib.hid ho3
  have HO2' := Lib.hid (HO2.out.from (hf3.low (show g + 1 ≤ w1.heap.size by omega)))
  have HC := Lib.hid hc3
  clear ho3 hc3 hf3
  go_wp2
  go_ret2
  exact ⟨v, M, u, K, rfl, HO2'.out.mono (by omega), hd2, HO3.out.mono (by omega), hd3, HC.out.below⟩

set_option maxRecDepth 100000 in
set_option maxHeartbeats 800000 in
theorem draw_pairGraph (a : Option Addr) (n c : Nat) (w : World) (hcode : CodeAt w w.heap.size a n) (hn : n ≤ 1048576) :
    Calls Tryz.prog 12 #[.slice a n c] w (OwnTwoDrawn10 w) := by
  have HN := Lib.hid (l1New w.heap.size a n c w w hcode hn (Below.refl _ _) (Nat.le_refl _))
  have HD := Lib.hid (fun g w' => draw_gridF 3 (by decide) (by decide) w.heap.size a n c g w w' hcode hn)
  have HB := Lib.hid (fun g w' => spec_bentF w.heap.size a n c g w w' hcode hn)
  clear hcode
  go_enter Tryz.func12, Tryz.ntmps12
  go_wp2_with fail
  refine HN.out.mono ?_
  rintro e w1 ⟨g, rfl, hc1, _⟩
  have hg1 := hc1.lt
  have hg8 := hc1.from10
  go_wp2_with fail
  refine (HD.out g w1 hc1).mono ?_
  rintro e w2 ⟨v, M, rfl, ho2, hd2, hc2, hf2⟩
  have HO2 := Lib.hid ho2
  have HB2 := Lib.hid (HB.out g w2 hc2)
  have hs2 := hf2.size
  clear ho2 hc2 hf2
  go_wp2_with fail
  refine HB2.out.mono ?_
  rintro e w3 ⟨u, K, rfl, ho3, hd3, hc3, hf3⟩
  have HO3 := Lib.hid ho3
  have HO2' := Lib.hid (HO2.out.from (hf3.low (show g + 1 ≤ w1.heap.size by omega)))
  have HC := Lib.hid hc3
  clear ho3 hc3 hf3
  go_wp2
  go_ret2
  exact ⟨v, M, u, K, rfl, HO2'.out.mono (by omega), small_drawn hd2, HO3.out.mono (by omega), hd3, HC.out.below⟩

def powerNums : List Int := [0, 0, 0, 0, 26, -6]
theorem power_nums {k : Nat} (hk : k < powerNums.length) : powerNums.getD k 0 = 0 ∨ powerNums.getD k 0 = 26 ∨ powerNums.getD k 0 = -6 := by
  have h : k = 0 ∨ k = 1 ∨ k = 2 ∨ k = 3 ∨ k = 4 ∨ k = 5 := by
    have : powerNums.length = 6 := rfl
    omega
  rcases h with rfl | rfl | rfl | rfl | rfl | rfl <;> simp [powerNums]
set_option maxRecDepth 100000 in
set_option maxHeartbeats 800000 in
theorem draw_powerMatrix (a : Option Addr) (n c : Nat) (w : World) (hcode : CodeAt w w.heap.size a n) (hn : n ≤ 1048576) :
    Calls Tryz.prog 45 #[.slice a n c] w (OwnNumDrawn10 w) := by
  have HN := Lib.hid (l1New w.heap.size a n c w w hcode hn (Below.refl _ _) (Nat.le_refl _))
  have HB := Lib.hid (fun g w' => spec_bentF w.heap.size a n c g w w' hcode hn)
  have H6 := Lib.hid (fun g w' (hc : Cur w.heap.size a n c g w w') => l1Below 6 (by decide) w.heap.size a n c g w w' hcode hn hc)
  have HPI := Lib.hid (fun g b w' (hc : Cur w.heap.size a n c g w w') (hs : NumsAt w' b powerNums) (hbg : b ≠ g) => l1PickInt b 6 powerNums (by decide) (by decide) w.heap.size a n c g w w' hcode hn hc hs hbg)
  clear hcode
  go_enter Tryz.func45, Tryz.ntmps45
  go_wp2_with fail
  refine HN.out.mono ?_
  rintro e w1 ⟨g, rfl, hc1, _⟩
  have hg1 := hc1.lt
  have hg8 := hc1.from10
  go_wp2_with fail
  refine (HB.out g w1 hc1).mono ?_
  rintro e w2 ⟨v, M, rfl, ho2, hd2, hc2, hf2⟩
  have HO2 := Lib.hid (ho2.mono hg1)
  have H62 := Lib.hid (H6.out g w2 hc2)
  clear ho2 hc2 hf2
  go_wp2_with fail
  refine H62.out.mono ?_
  rintro e w3 ⟨x, x0, x1, rfl, hc3, ho3⟩
  have HO3 := Lib.hid (HO2.out.from ((from_only ho3).low (Nat.le_refl _)))
  have hg3 := hc3.lt
  have HPI2 := Lib.hid (HPI.out g w3.heap.size (w3.alloc (.cells (powerNums.map (Value.int .i64)).toArray 3)) (hc3.alloc _) (intsAt_new w3 powerNums 3) (by omega))
  clear hc3 ho3 H62
  go_wp2_with fail
  refine HPI2.out.mono ?_
  rintro e w4 ⟨k, hk, rfl, hc4, ho4⟩
  have HO4 := Lib.hid (HO3.out.from (((From.of_below below_new).trans (from_only ho4)).low (Nat.le_refl _)))
  have HC := Lib.hid hc4
  have hy := power_nums hk
  clear ho4 hc4 hk
  generalize powerNums.getD k 0 = y at *
  have hyw : RowKit.wrap64 (x + y) = x + y := by unfold RowKit.wrap64; omega
  clear hy
  go_wp2
  go_ret2
  exact ⟨v, M, _, rfl, HO4.out.mono (by omega), hd2, HC.out.below⟩
set_option maxRecDepth 100000 in
theorem draw_powerGraph (a : Option Addr) (n c : Nat) (w : World) (hcode : CodeAt w w.heap.size a n) (hn : n ≤ 1048576) :
    Calls Tryz.prog 15 #[.slice a n c] w (OwnNumDrawn10 w) := by
  have HD := Lib.hid (draw_powerMatrix a n c w hcode hn)
  clear hcode
  go_enter Tryz.func15, Tryz.ntmps15
  go_wp2_with fail
  refine HD.out.mono ?_
  rintro e w1 ⟨v, M, x, rfl, ho, hd, hb⟩
  have HO := Lib.hid ho
  clear ho
  go_wp2
  go_ret2
  exact ⟨v, M, x, rfl, HO.out, hd, hb⟩

theorem drawn_block (m : List (List Int)) : Drawn ((blockG m).getD []) := by
  cases h : blockG m with
  | none => exact ⟨by simp, by simp [tot]⟩
  | some x =>
    have f := isMat_facts (blockG_isMat h)
    have h1 := f.le
    have h2 := tot_isMat f
    exact ⟨by simp only [Option.getD_some]; omega, by simp only [Option.getD_some]; omega⟩
set_option maxRecDepth 100000 in
set_option maxHeartbeats 1600000 in
theorem draw_isBlockOf (a : Option Addr) (n c : Nat) (w : World) (hcode : CodeAt w w.heap.size a n) (hn : n ≤ 1048576) :
    Calls Tryz.prog 18 #[.slice a n c] w (OwnTwoDrawn10 w) := by
  have HN := Lib.hid (l1New w.heap.size a n c w w hcode hn (Below.refl _ _) (Nat.le_refl _))
  have HB := Lib.hid (fun g w' => spec_bentF w.heap.size a n c g w w' hcode hn)
  have HON := Lib.hid (fun g w' (hc : Cur w.heap.size a n c g w w') => l1Once 3 (by decide) w.heap.size a n c g w w' hcode hn hc)
  clear hcode
  go_enter Tryz.func18, Tryz.ntmps18
  go_wp2_with fail
  refine HN.out.mono ?_
  rintro e w1 ⟨g, rfl, hc1, _⟩
  have hg1 := hc1.lt
  have hg8 := hc1.from10
  go_wp2_with fail
  refine (HB.out g w1 hc1).mono ?_
  rintro e w2 ⟨v, M, rfl, ho2, hd2, hc2, hf2⟩
  have HO2 := Lib.hid (ho2.mono hg1)
  have HC2 := Lib.hid hc2
  have hg2 := hc2.lt
  obtain ⟨A, cA, hv, hg⟩ := ho2.gridV
  have hsz := hd2.size
  obtain ⟨z1, z2, z3⟩ := rows_le hsz
  have HS := Lib.hid (spec_blockGraph A cA M (by omega) z3 w2 hg)
  rw [← hv] at HS
  clear ho2 hc2 hf2 hg hv z1 z2 z3 hsz
  go_wp2_with fail
  refine HS.out.mono ?_
  rintro e w3 ⟨u, rfl, ho3, hb3⟩
  have HC3 := Lib.hid (HC2.out.step hb3)
  have HO3 := Lib.hid (HO2.out.from (From.of_below hb3))
  have HX := Lib.hid (ho3.mono (show g + 1 ≤ w2.heap.size by omega))
  have hdx := drawn_block M
  clear ho3 hb3 HS
  cases hbk : (blockG M).isSome with
  | false =>
    have HB3 := Lib.hid (HB.out g w3 HC3.out)
    have hg3 := HC3.out.lt
    go_wp2_with fail
    refine HB3.out.mono ?_
    rintro e w4 ⟨u4, K, rfl, ho4, hd4, hc4, hf4⟩
    have HO4 := Lib.hid (HO3.out.from (hf4.low (Nat.le_refl _)))
    have HU := Lib.hid ho4
    have HC := Lib.hid hc4
    clear ho4 hc4 hf4
    go_wp2
    go_ret2
    exact ⟨v, M, u4, K, rfl, HO4.out.mono (by omega), hd2, HU.out.mono (by omega), hd4, HC.out.below⟩
  | true =>
    have HON3 := Lib.hid (HON.out g w3 HC3.out)
    go_wp2_with fail
    refine HON3.out.mono ?_
    rintro e w4 ⟨b, rfl, hc4, ho4⟩
    have HO4 := Lib.hid (HO3.out.from ((from_only ho4).low (Nat.le_refl _)))
    have HX4 := Lib.hid (HX.out.from ((from_only ho4).low (Nat.le_refl _)))
    have HC4 := Lib.hid hc4
    have hg4 := hc4.lt
    clear hc4 ho4
    cases b with
    | false =>
      go_wp2
      go_ret2
      exact ⟨v, M, u, _, rfl, HO4.out.mono (by omega), hd2, HX4.out.mono (by omega), hdx, HC4.out.below⟩
    | true =>
      have HB4 := Lib.hid (HB.out g w4 HC4.out)
      go_wp2_with fail
      refine HB4.out.mono ?_
      rintro e w5 ⟨u5, K, rfl, ho5, hd5, hc5, hf5⟩
      have HO5 := Lib.hid (HO4.out.from (hf5.low (Nat.le_refl _)))
      have HU := Lib.hid ho5
      have HC := Lib.hid hc5
      clear ho5 hc5 hf5
      go_wp2
      go_ret2
      exact ⟨v, M, u5, K, rfl, HO5.out.mono (by omega), hd2, HU.out.mono (by omega), hd5, HC.out.below⟩
end Go.Proofs.YtalclebehbdliaaGreatDoor
