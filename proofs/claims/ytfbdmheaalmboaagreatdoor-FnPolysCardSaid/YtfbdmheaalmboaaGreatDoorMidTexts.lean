/-
  Merged: The model's drawn matrices (l4Draw, l4Bent): whatever the bytes, a small table in memory of the draw's own; it changes nothing below its block.
  PLAIN FACTS ON GRAPHS (no program in this text): the arcs of a matrix, paths of arcs, the vertices through which endless paths go, and the matrix of some vertices only.
  The model's IsGraph, ArcsOf and CountPaths: what the plain words say, tables in new memory; nothing that was there before is changed.
  An append of nothing, from a slice that is not nil: the slice stays as it is.
  The model's PathsOf: the paths that the plain words say, in new memory; nothing that was there before is changed.
  The model's bent matrices (l4Bent): whatever the bytes, a small table in memory of the draw's own; it changes nothing below its block.
  What the laws on lists of integers share: the helpers' contracts at whatever slice holds a list; a result that is marked, and what stays as it was.
  What the laws over drawn tables share: contracts in every later world, and the laws' comparisons.
  PLAIN FACTS ON POLYNOMIALS AND DETERMINANTS (no program in this text): determinants by their first row, and of the table that is turned around; a list without zeros at the end; products, values.
  PLAIN FACTS on polynomials, as the law asks them (no program in this text): the ends of a matrix's polynomial, the polynomial of the matrix that is turned around, the value of a product.
  PLAIN FACTS on polynomials, as the law's last questions ask them (no program in this text): heads and ends of a small matrix's polynomials, its determinant and trace; values of short lists.
  Contracts at lists of integers that the law owns, in every later world.
  The laws' helpers on slices of strings: their size is counted down from a limit; they are copied into new memory.
  The model's Join: at every slice of strings of at most 2^40 bytes together with its separators it returns them joined; nothing that was there before is changed.
  The model's MatrixText: at every table the text that the plain words say; nothing that was there before is changed.
  The model's PolyText: what the plain words say; nothing that was there before is changed.
-/
import Derived.Test.YtfbdmheaalmboaaGreatDoorBaseTexts
import Derived.Deep.RegionHeld3
import Derived.WalkKit
import Derived.RegionTactic
import Derived.Test.YtfbdmheaalmboaaGreatDoorRows
import Derived.WalkLawsBesides
import Derived.Deep.QuietTactic
import Derived.BigQuiet
import Derived.Deep.AppendLies
import Derived.Lib.ItoaLen
namespace Go.Proofs.YtfbdmheaalmboaaGreatDoor
open Go Go.RowKit

def matTexts : List ByteArray := [⟨#[49, 44, 49, 47, 49, 44, 48]⟩, ⟨#[50]⟩, ⟨#[49, 44, 49, 47, 49, 44, 49]⟩, ⟨#[48, 44, 49, 47, 49, 44, 48]⟩, ⟨#[48, 44, 49, 44, 48, 47, 48, 44, 48, 44, 49, 47, 49, 44, 49, 44, 48]⟩, ⟨#[49, 44, 49, 44, 48, 47, 48, 44, 49, 44, 49, 47, 49, 44, 48, 44, 49]⟩, ⟨#[49, 44, 48, 47, 49, 44, 49]⟩, ⟨#[48, 44, 49, 47, 48, 44, 48]⟩, ⟨#[51]⟩, ⟨#[49, 44, 50, 47, 49, 44, 48]⟩, ⟨#[48]⟩, ⟨#[48, 44, 50, 47, 49, 44, 48]⟩]
theorem matTexts_ok : (matTexts.all fun s => (parseM intOfS s).isSome && decide (s.size ≤ 100)) = true := by kernel_rfl
theorem matText_mat {s : ByteArray} (h : s ∈ matTexts) : s.size ≤ 100 ∧ ∃ M, parseM intOfS s = some M ∧ MatFacts M := by
  have h1 := List.all_eq_true.1 matTexts_ok s h
  rw [Bool.and_eq_true, decide_eq_true_iff] at h1
  refine ⟨h1.2, ?_⟩
  cases e : parseM intOfS s with
  | none => rw [e] at h1; cases h1.1
  | some M =>
    refine ⟨M, rfl, ?_⟩
    unfold parseM at e
    split at e
    · next hc =>
      obtain rfl := Option.some.inj e
      exact isMat_facts hc.2
    · cases e

/-- A small table that is not empty, its first row neither. -/
structure Small (M : List (List Int)) : Prop where
  len : M.length ≤ 10
  tot : tot M ≤ 200
  pos : 0 < M.length
  first : 0 < (M.getD 0 []).length
theorem MatFacts.small {M : List (List Int)} (h : MatFacts M) : Small M :=
  ⟨by have := h.le; omega, by have := tot_isMat h; omega, h.pos, by rw [h.row 0 h.pos]; exact h.pos⟩
theorem OwnG.from {w w' : World} {B : Nat} {v : Value} {m : List (List Int)} (h : OwnG w B v m) (hf : From B w w') : OwnG w' B v m := (From.ownIn h.ownIn hf).ownG
theorem from_only {g : Nat} {w w' : World} (h : Only g w w') : From (g + 1) w w' := ⟨Nat.le_of_eq h.1.symm, fun k hk _ => h.2 k (by omega)⟩
/-- Number j of row i, now and as long as the table's memory stays as it is. -/
theorem OwnG.ats {w : World} {B : Nat} {v : Value} {m : List (List Int)} (h : OwnG w B v m) {i j : Nat} (hi : i < m.length) (hj : j < (m.getD i []).length) :
    ∃ g cap gi ci, v = .slice (some ⟨g, 0, none⟩) m.length cap ∧ B ≤ g ∧ B ≤ gi ∧ g ≠ gi ∧ ∀ w', From B w w' → w'.cell? ⟨g, i, none⟩ = some (.slice (some ⟨gi, 0, none⟩) (m.getD i []).length ci) ∧ w'.cell? ⟨gi, j, none⟩ = some (.int .i64 (cellOf m i j)) ∧ w'.frozen? ⟨gi, j, none⟩ = false ∧ gi < w'.heap.size ∧
      ∀ x : Int, OwnG (w'.setCell ⟨gi, j, none⟩ (.int .i64 x)) B v (m.set i ((m.getD i []).set j x)) := by
  obtain ⟨g, cap, gi, ci, hv, k1, _, _, kb, _, _⟩ := h.at hi hj
  have hgb : B ≤ g := by
    obtain ⟨vs, ho, _⟩ := h
    subst hv
    exact (ho.lt g rfl).1
  have hgi : g ≠ gi := by
    obtain ⟨vs, ho, hr⟩ := h
    subst hv
    have hl := hr.len
    have hvi : vs[i]? = some vs[i] := List.getElem?_eq_getElem (by omega)
    have h2 := (hr.row i _ hvi).2
    have h3 := (ho.cellAt i (by omega)).trans hvi
    rw [k1] at h3
    have h4 : vs[i] = .slice (some ⟨gi, 0, none⟩) (m.getD i []).length ci := (Option.some.inj h3).symm
    rw [h4] at h2
    rcases h2 with h2 | h2
    · cases h2
    · exact fun e => h2 (by rw [e]; rfl)
  refine ⟨g, cap, gi, ci, hv, hgb, kb, hgi, fun w' hf => ?_⟩
  obtain ⟨g', cap', gi', ci', hv', q1, q2, q3, _, q5, q6⟩ := (h.from hf).at hi hj
  rw [hv] at hv'
  simp only [Value.slice.injEq, Option.some.injEq, Addr.mk.injEq, and_true, true_and] at hv'
  obtain ⟨rfl, rfl⟩ := hv'
  have hgl : g < w.heap.size := by
    refine Nat.lt_of_not_le fun hc => ?_
    have hn : w.heap[g]? = none := Array.getElem?_eq_none hc
    unfold World.cell? at k1
    rw [hn] at k1; simp at k1
  have e : w'.cell? ⟨g, i, none⟩ = w.cell? ⟨g, i, none⟩ := by
    unfold World.cell?
    rw [hf.block g hgb hgl]
  rw [e, k1] at q1
  simp only [Option.some.injEq, Value.slice.injEq, Addr.mk.injEq, and_true, true_and] at q1
  obtain ⟨rfl, rfl⟩ := q1
  exact ⟨e.trans k1, q2, q3, q5, q6⟩
theorem cell_far_set {w : World} {g g' i j : Nat} {v u : Value} (hne : g ≠ g') (h : w.cell? ⟨g, i, none⟩ = some u) : (w.setCell ⟨g', j, none⟩ v).cell? ⟨g, i, none⟩ = some u := by
  have hb := heap_setCell_other w ⟨g', j, none⟩ g v hne
  unfold World.cell? at h ⊢
  rw [hb]; exact h
theorem Cur.setOther {B : Nat} {a : Option Addr} {n c g : Nat} {W0 w : World} (h : Cur B a n c g W0 w) {b : Nat} (hb : B ≤ b) (hne : b ≠ g) (o : Nat) (v : Value) : Cur B a n c g W0 (w.setCell ⟨b, o, none⟩ v) := by
  obtain ⟨h1, h2, h3, i, x, h4, h5⟩ := h
  exact ⟨h1.setCell (p := ⟨b, o, none⟩) hb v, by simpa using h2, h3, i, x, h4, by rw [heap_setCell_other _ ⟨b, o, none⟩ g v (Ne.symm hne)]; exact h5⟩

def GridDrawn (B : Nat) (a : Option Addr) (n c g : Nat) (W0 : World) (e : Ending) (w' : World) : Prop := ∃ v M, e = .returned v ∧ OwnG w' (g + 1) v M ∧ Small M ∧ Cur B a n c g W0 w'

theorem Cur.lt {B : Nat} {a : Option Addr} {n c g : Nat} {W0 w : World} (h : Cur B a n c g W0 w) : g < w.heap.size := by
  obtain ⟨_, _, _, i, x, _, h5⟩ := h
  exact lt_of_block h5

set_option maxRecDepth 100000 in
set_option maxHeartbeats 3200000 in
theorem draw_grid (most : Int) (hm1 : 1 ≤ most) (hm : most ≤ 5) (B : Nat) (a : Option Addr) (n c g : Nat) (W0 w : World) (hcode : CodeAt W0 B a n) (hn : n ≤ 1048576) (hcur : Cur B a n c g W0 w) :
    Calls Tryz.prog 57 #[.pointer (some ⟨g, 0, none⟩), .int .i64 most] w (GridDrawn B a n c g W0) := by
  have HO := Lib.hid (l1Once 3 (by decide) B a n c g W0 w hcode hn hcur)
  have HBW := Lib.hid (fun w' => l1Below most (by omega) B a n c g W0 w' hcode hn)
  have HPK := Lib.hid (fun b w' (hc : Cur B a n c g W0 w') (hs : StrsAt w' b 0 matTexts) (hbg : b ≠ g) => l1Pick b 12 matTexts (by decide) (by decide) B a n c g W0 w' hcode hn hc hs hbg)
  have HPI := Lib.hid (fun b w' (hc : Cur B a n c g W0 w') (hs : NumsAt w' b [0, 1, 0, 1, 2]) (hbg : b ≠ g) => l1PickInt b 5 [0, 1, 0, 1, 2] (by decide) (by decide) B a n c g W0 w' hcode hn hc hs hbg)
  clear hcode hcur
  go_enter Tryz.func57, Tryz.ntmps57
  go_wp2_with fail
  refine HO.out.mono ?_
  rintro e w1 ⟨x, rfl, hc1, _⟩
  have hg1 := hc1.lt
  have HC1 := Lib.hid hc1
  clear hc1
  cases x with
  | true =>
    have hcp : Cur B a n c g W0 (w1.alloc (.cells (matTexts.map Value.string).toArray 9)) := HC1.out.alloc _
    have HPK1 := Lib.hid (HPK.out w1.heap.size _ hcp (strsAt_new w1 matTexts 9) (by omega))
    clear hcp
    go_wp2_with fail
    refine HPK1.out.mono ?_
    rintro e w2 ⟨k, hk, rfl, hc2, _⟩
    obtain ⟨hs, M, hM, hf⟩ := matText_mat (List.getElem_mem hk)
    rw [show matTexts.getD k ByteArray.empty = matTexts[k] by simp [List.getD, hk]]
    have HP := Lib.hid (spec_parseMatrix matTexts[k] (by omega) w2)
    rw [hM] at HP
    have hg2 := hc2.lt
    have HC2 := Lib.hid hc2
    have HSM := Lib.hid hf.small
    clear hc2 hM hf
    generalize matTexts[k] = s at *
    go_wp2_with fail
    refine HP.out.mono ?_
    rintro e w3 ⟨v, rfl, ho, hb⟩
    have HO3 := Lib.hid (ho.mono (show g + 1 ≤ w2.heap.size by omega))
    have HC3 := Lib.hid (HC2.out.step hb)
    clear ho hb
    go_wp2
    go_ret
    exact ⟨_, M, rfl, HO3.out, HSM.out, HC3.out⟩
  | false =>
    have HBW1 := Lib.hid (HBW.out w1 HC1.out)
    go_wp2_with fail
    refine HBW1.out.mono ?_
    rintro e w2 ⟨x, x0, x1, rfl, hc2, _⟩
    obtain ⟨N, he⟩ : ∃ N : Nat, 1 + x = (N : Int) := ⟨(1 + x).toNat, by omega⟩
    have hN : 1 ≤ N ∧ N ≤ 5 := by omega
    have HZ := Lib.hid (spec_zero N N (by omega) (by omega) w2)
    have hg2 := hc2.lt
    have HC2 := Lib.hid hc2
    clear hc2
    go_wp2_with fail
    refine HZ.out.mono ?_
    rintro e w3 ⟨v, rfl, ho, hb⟩
    obtain ⟨A, cv, rfl, -⟩ := ho.gridS
    rw [tabOf_length] at ho ⊢
    have HO3 : Hid (OwnG w3 (g + 1) (.slice A N cv) (tabOf N N fun _ _ => 0)) := Lib.hid (ho.mono (show g + 1 ≤ w2.heap.size by omega))
    have HC3 := Lib.hid (HC2.out.step hb)
    have HS0 : Hid ((tabOf N N fun _ _ => (0 : Int)).length = N ∧ ∀ r, r < N → ((tabOf N N fun _ _ => (0 : Int)).getD r []).length = N) := Lib.hid ⟨tabOf_length _ _ _, fun r hr => by rw [tabOf_row hr]; simp⟩
    clear ho hb
    generalize (tabOf N N fun _ _ => (0 : Int)) = M0 at *
    go_wp2
    go_loopw [9] (fun iv wr => ∃ (i : Nat) (M : List (List Int)), i ≤ N ∧ iv = .int .i64 i ∧ OwnG wr (g + 1) (.slice A N cv) M ∧ Hid (M.length = N ∧ ∀ r, r < N → (M.getD r []).length = N) ∧ Hid (Cur B a n c g W0 wr)) (fun i _ => N - (intOf i).toNat)
    case atStart => exact ⟨0, M0, Nat.zero_le _, rfl, HO3.out, HS0, HC3⟩
    case round =>
      obtain ⟨i, M, hi, rfl, ho, hs, hc⟩ := hrel
      have HO4 := Lib.hid ho
      clear ho
      by_cases hil : i < N
      · go_wp2
        go_loopw [10] (fun jv wr => ∃ (j : Nat) (M : List (List Int)), j ≤ N ∧ jv = .int .i64 j ∧ OwnG wr (g + 1) (.slice A N cv) M ∧ Hid (M.length = N ∧ ∀ r, r < N → (M.getD r []).length = N) ∧ Hid (Cur B a n c g W0 wr)) (fun j _ => N - (intOf j).toNat)
        case atStart => exact ⟨0, M, Nat.zero_le _, rfl, HO4.out, hs, hc⟩
        case round =>
          obtain ⟨j, M, hj, rfl, ho, hs, hc⟩ := hrel
          by_cases hjl : j < N
          · obtain ⟨gm, cap, gi, ci, hv, gb, gib, gne, hat⟩ := ho.ats (i := i) (j := j) (by rw [hs.out.1]; exact hil) (by rw [hs.out.2 i hil]; exact hjl)
            rw [hs.out.1] at hv
            simp only [Value.slice.injEq, true_and] at hv
            obtain ⟨rfl, rfl⟩ := hv
            rw [hs.out.2 i hil] at hat
            have k1 := (hat wr (From.refl _ _)).1
            have HAT := Lib.hid hat
            have HNX : Hid (∀ x : Int, (M.set i ((M.getD i []).set j x)).length = N ∧ ∀ r, r < N → ((M.set i ((M.getD i []).set j x)).getD r []).length = N) := Lib.hid fun x => by
              refine ⟨by rw [List.length_set]; exact hs.out.1, fun r hr => ?_⟩
              have hil2 : i < M.length := by rw [hs.out.1]; exact hil
              by_cases e : r = i
              · subst e
                have : (M.set r ((M.getD r []).set j x)).getD r [] = (M.getD r []).set j x := by simp [List.getD, hil2]
                rw [this, List.length_set]; exact hs.out.2 r hr
              · have : (M.set i ((M.getD i []).set j x)).getD r [] = M.getD r [] := by simp [List.getD, List.getElem?_set_ne (Ne.symm e)]
                rw [this]; exact hs.out.2 r hr
            have hglt := hc.out.lt
            clear hat ho
            have i0 : (0 : Int) ≤ (i : Int) := by omega
            have i1 : (i : Int) < (N : Int) := by omega
            go_wp2
            go_region_held3 (fun w' => w'.cell? ⟨gm, i, none⟩ = some (.slice (some ⟨gi, 0, none⟩) N ci)) (first | exact y0 | exact cell_far_set gne y0 | go_keep) (first | (go_at_call 36; refine (HPI.out wr.heap.size _ ((hc.out.alloc _).drewN 1) (intsAt_new wr [0, 1, 0, 1, 2] 3) (by omega)).mono ?_; rintro e w5 ⟨kk, hkk, rfl, hc5, ho5⟩; have hfr : From (g + 1) wr w5 := (From.of_below (below_drewN ((Below.refl wr.heap.size wr).alloc (Nat.le_refl _) _) 1)).trans (from_only ho5); obtain ⟨y0, y1, y2, y3, y4⟩ := HAT.out w5 hfr; have HSET := Lib.hid y4; have HC5 := Lib.hid hc5; clear y4 hc5 ho5 hfr))
            go_wp2
            go_roundw
            case rel => exact ⟨j + 1, _, by omega, by go_num, HSET.out _, Lib.hid (HNX.out _), Lib.hid (HC5.out.setOther (b := gi) (by have := hc.out.2.2.1; omega) (by omega) _ _)⟩
            case measure => simp [intOf]; omega
          · obtain rfl : j = N := by omega
            have HO5 := Lib.hid ho
            clear ho
            go_wp2
            go_roundw
            case rel => exact ⟨i + 1, M, by omega, by go_num, HO5.out, hs, hc⟩
            case measure => simp [intOf]; omega
      · obtain rfl : i = N := by omega
        have hsm : Small M := ⟨by rw [hs.out.1]; omega, by
          have h1 := tot_le_of (m := M) (n := 5) fun r hr => by
            obtain ⟨q, hq, rfl⟩ := List.getElem_of_mem hr
            have e : M.getD q [] = M[q] := by simp [List.getD, hq]
            rw [← e, hs.out.2 q (by rw [hs.out.1] at hq; exact hq)]; omega
          rw [hs.out.1] at h1
          omega, by rw [hs.out.1]; omega, by rw [hs.out.2 0 (by omega)]; omega⟩
        have HSM := Lib.hid hsm
        clear hsm
        go_wp2
        go_ret
        exact ⟨_, M, rfl, HO4.out, HSM.out, hc.out⟩
end Go.Proofs.YtfbdmheaalmboaaGreatDoor
namespace Go.Proofs.YtfbdmheaalmboaaGreatDoor
open Go Go.RowKit

def isGraphM (m : List (List Int)) : Bool := isMat m && decide (sumM m ≤ 60)

/-! ### Arcs -/

def arcsRow (m : List (List Int)) (i j : Nat) : List (List Int) := (List.range j).flatMap fun j' => List.replicate (cellOf m i j').toNat [(i : Int), (j' : Int)]
def arcsRows (m : List (List Int)) (i : Nat) : List (List Int) := (List.range i).flatMap fun i' => arcsRow m i' m.length
/-- The arcs ahead of i and j, and k arcs there. -/
def arcsTo (m : List (List Int)) (i j k : Nat) : List (List Int) := arcsRows m i ++ arcsRow m i j ++ List.replicate k [(i : Int), (j : Int)]
def arcsM (m : List (List Int)) : List (List Int) := arcsRows m m.length
theorem arcsRow_next (m : List (List Int)) (i j : Nat) : arcsRow m i (j + 1) = arcsRow m i j ++ List.replicate (cellOf m i j).toNat [(i : Int), (j : Int)] := by
  unfold arcsRow; rw [List.range_succ, List.flatMap_append]; simp
theorem arcsRows_next (m : List (List Int)) (i : Nat) : arcsRows m (i + 1) = arcsRows m i ++ arcsRow m i m.length := by
  unfold arcsRows; rw [List.range_succ, List.flatMap_append]; simp
theorem arcsTo_zero (m : List (List Int)) : arcsTo m 0 0 0 = [] := rfl
theorem arcsTo_next (m : List (List Int)) (i j k : Nat) : arcsTo m i j (k + 1) = arcsTo m i j k ++ [[(i : Int), (j : Int)]] := by
  unfold arcsTo; rw [List.replicate_succ', ← List.append_assoc]
theorem arcsTo_col (m : List (List Int)) (i j : Nat) : arcsTo m i j (cellOf m i j).toNat = arcsTo m i (j + 1) 0 := by
  unfold arcsTo; rw [arcsRow_next, List.replicate_zero, List.append_nil, List.append_assoc]
theorem arcsTo_row (m : List (List Int)) (i : Nat) : arcsTo m i m.length 0 = arcsTo m (i + 1) 0 0 := by
  unfold arcsTo; rw [arcsRows_next]; simp [arcsRow]
theorem arcsTo_all (m : List (List Int)) : arcsTo m m.length 0 0 = arcsM m := by
  unfold arcsTo arcsM; simp [arcsRow]
theorem arcsRow_length {m : List (List Int)} {i : Nat} : ∀ (j : Nat), (∀ j', j' < j → 0 ≤ cellOf m i j') → ((arcsRow m i j).length : Int) = sumTo j fun j' => cellOf m i j'
  | 0, _ => rfl
  | j + 1, h => by
    have h1 := arcsRow_length j fun j' hj => h j' (by omega)
    have h2 := h j (by omega)
    rw [arcsRow_next, List.length_append, List.length_replicate, sumTo, ← h1]
    omega
theorem arcsRows_length {m : List (List Int)} : ∀ (i : Nat), (∀ i' j', i' < i → j' < m.length → 0 ≤ cellOf m i' j') → ((arcsRows m i).length : Int) = sumTo i fun i' => sumTo m.length fun j' => cellOf m i' j'
  | 0, _ => rfl
  | i + 1, h => by
    have h1 := arcsRows_length i fun i' j' hi hj => h i' j' (by omega) hj
    have h2 := arcsRow_length (i := i) m.length fun j' hj => h i j' (by omega) hj
    rw [arcsRows_next, List.length_append, sumTo, ← h1, ← h2]
    omega
/-- As many arcs as the sum of all numbers. -/
theorem arcsM_length {m : List (List Int)} (h : isMat m = true) : ((arcsM m).length : Int) = sumM m := by
  unfold arcsM sumM
  rw [if_pos h]
  exact arcsRows_length m.length fun i' j' hi hj => (((isMat_iff.1 h).2 i' hi).2 j' hj).1
theorem arcsTo_le {m : List (List Int)} (h : isMat m = true) {i j k : Nat} (hi : i ≤ m.length) (hj : j ≤ m.length) (hij : i < m.length ∨ j = 0) (hk : k ≤ 1000000) : (arcsTo m i j k).length ≤ 100000000 := by
  obtain ⟨⟨_, h9⟩, hc⟩ := isMat_iff.1 h
  have h1 := arcsRows_length (m := m) i fun i' j' hi' hj' => ((hc i' (by omega)).2 j' hj').1
  have h2 := sumTo_le (f := fun i' => sumTo m.length fun j' => cellOf m i' j') (B := 9000000) i fun i' hi' => by
    have := sumTo_le (f := fun j' => cellOf m i' j') (B := 1000000) m.length fun j' hj' => (hc i' (by omega)).2 j' hj'
    exact ⟨this.1, by omega⟩
  have h3 : (arcsRow m i j).length ≤ 9000000 := by
    rcases hij with hij | rfl
    · have h4 := arcsRow_length (m := m) (i := i) j fun j' hj' => ((hc i hij).2 j' (by omega)).1
      have h5 := sumTo_le (f := fun j' => cellOf m i j') (B := 1000000) j fun j' hj' => (hc i hij).2 j' (by omega)
      omega
    · simp [arcsRow]
  unfold arcsTo
  rw [List.length_append, List.length_append, List.length_replicate]
  omega
/-- Each arc has two ends. -/
theorem arcsM_two (m : List (List Int)) : ∀ r ∈ arcsM m, r.length = 2 := by
  intro r hr
  unfold arcsM arcsRows arcsRow at hr
  simp only [List.mem_flatMap, List.mem_range, List.mem_replicate] at hr
  obtain ⟨i, _, j, _, _, rfl⟩ := hr
  rfl

/-! ### Paths -/

def endOf (arcs : List (List Int)) (k : Int) : Int := cellOf arcs k.toNat 1
def startOf (arcs : List (List Int)) (k : Int) : Int := cellOf arcs k.toNat 0
def pathOk (arcs : List (List Int)) (p : List Int) (k : Nat) : Bool :=
  (decide (0 ≤ p.getD k 0) && decide (p.getD k 0 ≤ (arcs.length : Int) - 1)) && (decide (k = 0) || decide (endOf arcs (p.getD (k - 1) 0) = startOf arcs (p.getD k 0)))
def isPathM (arcs : List (List Int)) (p : List Int) : Bool := (List.range p.length).all (pathOk arcs p)
theorem isPathM_bad {arcs : List (List Int)} {p : List Int} {k : Nat} (hk : k < p.length) (h : pathOk arcs p k = false) : isPathM arcs p = false := by
  unfold isPathM
  rw [List.all_eq_false]
  exact ⟨k, List.mem_range.2 hk, by rw [h]; simp⟩
theorem isPathM_all {arcs : List (List Int)} {p : List Int} (h : ∀ k, k < p.length → pathOk arcs p k = true) : isPathM arcs p = true := by
  unfold isPathM
  rw [List.all_eq_true]
  exact fun k hk => h k (List.mem_range.1 hk)

/-- Whether arc k goes on where the path's last arc ends. -/
def goesOnM (arcs : List (List Int)) (head : List Int) (k : Nat) : Bool := decide (head.length = 0) || decide (endOf arcs (head.getD (head.length - 1) 0) = cellOf arcs k 0)
/-- The paths that begin with head and have d arcs more. -/
def fillM (arcs : List (List Int)) : Nat → List Int → List (List Int)
  | 0, head => [head]
  | d + 1, head => (List.range arcs.length).flatMap fun k => if goesOnM arcs head k = true then fillM arcs d (head ++ [(k : Int)]) else []
/-- Those whose next arc is ahead of k. -/
def fillTo (arcs : List (List Int)) (d : Nat) (head : List Int) (k : Nat) : List (List Int) := (List.range k).flatMap fun k => if goesOnM arcs head k = true then fillM arcs d (head ++ [(k : Int)]) else []
theorem fillTo_zero (arcs : List (List Int)) (d : Nat) (head : List Int) : fillTo arcs d head 0 = [] := rfl
theorem fillTo_next (arcs : List (List Int)) (d : Nat) (head : List Int) (k : Nat) : fillTo arcs d head (k + 1) = fillTo arcs d head k ++ (if goesOnM arcs head k = true then fillM arcs d (head ++ [(k : Int)]) else []) := by
  unfold fillTo; rw [List.range_succ, List.flatMap_append]; simp
theorem fillTo_all (arcs : List (List Int)) (d : Nat) (head : List Int) : fillTo arcs d head arcs.length = fillM arcs (d + 1) head := rfl
theorem fillM_le (arcs : List (List Int)) : ∀ (d : Nat) (head : List Int), (fillM arcs d head).length ≤ arcs.length ^ d
  | 0, head => by simp [fillM]
  | d + 1, head => by
    have h : ∀ k, (fillTo arcs d head k).length ≤ k * arcs.length ^ d := by
      intro k
      induction k with
      | zero => simp [fillTo]
      | succ k ih =>
        rw [fillTo_next, List.length_append, Nat.add_mul, Nat.one_mul]
        split
        · have := fillM_le arcs d (head ++ [(k : Int)])
          omega
        · simp; omega
    have := h arcs.length
    rw [fillTo_all] at this
    rw [Nat.pow_succ, Nat.mul_comm]; exact this

/-! ### What goes on for ever -/

/-- Each vertex of T has arcs to and from vertices of T. -/
def Good (m : List (List Int)) (T : Nat → Bool) : Prop := ∀ i, T i = true → i < m.length ∧ (∃ j, T j = true ∧ 0 < cellOf m i j) ∧ ∃ j, T j = true ∧ 0 < cellOf m j i
def liveStep (m : List (List Int)) (S : Nat → Bool) : Nat → Bool := fun i => S i && ((List.range m.length).any fun j => S j && decide (0 < cellOf m i j)) && ((List.range m.length).any fun j => S j && decide (0 < cellOf m j i))
def liveK (m : List (List Int)) : Nat → Nat → Bool
  | 0 => fun i => decide (i < m.length)
  | k + 1 => liveStep m (liveK m k)
def liveM (m : List (List Int)) : Nat → Bool := liveK m m.length
theorem liveK_lt {m : List (List Int)} : ∀ (k : Nat) {i : Nat}, liveK m k i = true → i < m.length
  | 0, i, h => of_decide_eq_true h
  | k + 1, i, h => by
    unfold liveK liveStep at h
    rw [Bool.and_eq_true, Bool.and_eq_true] at h
    exact liveK_lt k h.1.1
theorem liveK_less {m : List (List Int)} (k i : Nat) (h : liveK m (k + 1) i = true) : liveK m k i = true := by
  unfold liveK liveStep at h
  rw [Bool.and_eq_true, Bool.and_eq_true] at h
  exact h.1.1
theorem good_in_step {m : List (List Int)} {T S : Nat → Bool} (hT : Good m T) (hS : ∀ i, T i = true → S i = true) : ∀ i, T i = true → liveStep m S i = true := by
  intro i hi
  obtain ⟨_, ⟨j, hj, hj2⟩, k, hk, hk2⟩ := hT i hi
  unfold liveStep
  rw [Bool.and_eq_true, Bool.and_eq_true, List.any_eq_true, List.any_eq_true]
  refine ⟨⟨hS i hi, j, List.mem_range.2 (hT j hj).1, ?_⟩, k, List.mem_range.2 (hT k hk).1, ?_⟩
  · rw [hS j hj, decide_eq_true hj2]; rfl
  · rw [hS k hk, decide_eq_true hk2]; rfl
theorem good_in_liveK {m : List (List Int)} {T : Nat → Bool} (hT : Good m T) : ∀ (k i : Nat), T i = true → liveK m k i = true
  | 0, i, h => decide_eq_true (hT i h).1
  | k + 1, i, h => good_in_step hT (good_in_liveK hT k) i h
theorem good_of_step {m : List (List Int)} {S : Nat → Bool} (hl : ∀ i, S i = true → i < m.length) (h : ∀ i, S i = true → liveStep m S i = true) : Good m S := by
  intro i hi
  have h1 := h i hi
  unfold liveStep at h1
  rw [Bool.and_eq_true, Bool.and_eq_true, List.any_eq_true, List.any_eq_true] at h1
  obtain ⟨⟨_, j, _, hj⟩, k, _, hk⟩ := h1
  rw [Bool.and_eq_true] at hj hk
  exact ⟨hl i hi, ⟨j, hj.1, of_decide_eq_true hj.2⟩, k, hk.1, of_decide_eq_true hk.2⟩
theorem filter_lt {α : Type} {p q : α → Bool} (hpq : ∀ x, p x = true → q x = true) : ∀ (l : List α), (∃ x ∈ l, q x = true ∧ p x = false) → (l.filter p).length < (l.filter q).length
  | [], h => by obtain ⟨x, hx, _⟩ := h; cases hx
  | y :: l, h => by
    have hle : (l.filter p).length ≤ (l.filter q).length := by
      clear h
      induction l with
      | nil => exact Nat.le_refl _
      | cons z l ih =>
        cases hp : p z with
        | true => rw [List.filter_cons_of_pos hp, List.filter_cons_of_pos (hpq z hp)]; simp; exact ih
        | false =>
          rw [List.filter_cons_of_neg (by rw [hp]; simp)]
          cases hq : q z with
          | true => rw [List.filter_cons_of_pos hq]; simp; omega
          | false => rw [List.filter_cons_of_neg (by rw [hq]; simp)]; exact ih
    obtain ⟨x, hx, hq, hp⟩ := h
    rcases List.mem_cons.1 hx with rfl | hx
    · rw [List.filter_cons_of_neg (by rw [hp]; simp), List.filter_cons_of_pos hq]; simp; omega
    · have ih := filter_lt hpq l ⟨x, hx, hq, hp⟩
      cases hp2 : p y with
      | true => rw [List.filter_cons_of_pos hp2, List.filter_cons_of_pos (hpq y hp2)]; simp; exact ih
      | false =>
        rw [List.filter_cons_of_neg (by rw [hp2]; simp)]
        cases hq2 : q y with
        | true => rw [List.filter_cons_of_pos hq2]; simp; omega
        | false => rw [List.filter_cons_of_neg (by rw [hq2]; simp)]; exact ih
def liveCount (m : List (List Int)) (k : Nat) : Nat := ((List.range m.length).filter (liveK m k)).length
/-- Either a step changes nothing, or there are fewer vertices. -/
theorem live_step_or (m : List (List Int)) (k : Nat) : (∀ i, liveK m k i = true → liveK m (k + 1) i = true) ∨ liveCount m (k + 1) < liveCount m k := by
  by_cases h : ∀ i, liveK m k i = true → liveK m (k + 1) i = true
  · exact Or.inl h
  · right
    have hx : ∃ i, liveK m k i = true ∧ liveK m (k + 1) i = false := by
      refine Classical.byContradiction fun hn => h fun i hi => ?_
      cases e : liveK m (k + 1) i with
      | true => rfl
      | false => exact absurd ⟨i, hi, e⟩ hn
    obtain ⟨i, h1, h2⟩ := hx
    exact filter_lt (liveK_less k) _ ⟨i, List.mem_range.2 (liveK_lt k h1), h1, h2⟩
theorem live_still {m : List (List Int)} {k : Nat} (h : ∀ i, liveK m k i = true → liveK m (k + 1) i = true) : ∀ (d : Nat), liveK m (k + d) = liveK m k
  | 0 => rfl
  | d + 1 => by
    have ih := live_still h d
    show liveStep m (liveK m (k + d)) = _
    rw [ih]
    funext i
    cases e : liveK m k i with
    | true => exact h i e
    | false =>
      cases e2 : liveStep m (liveK m k) i with
      | false => rfl
      | true => rw [liveK_less k i e2] at e; cases e
theorem live_count_le (m : List (List Int)) : ∀ (k : Nat), (∃ j, j < k ∧ ∀ i, liveK m j i = true → liveK m (j + 1) i = true) ∨ liveCount m k + k ≤ m.length
  | 0 => by
    right
    unfold liveCount
    have := List.length_filter_le (liveK m 0) (List.range m.length)
    rw [List.length_range] at this
    omega
  | k + 1 => by
    rcases live_count_le m k with ⟨j, hj, h⟩ | h
    · exact Or.inl ⟨j, by omega, h⟩
    · rcases live_step_or m k with h2 | h2
      · exact Or.inl ⟨k, by omega, h2⟩
      · exact Or.inr (by omega)
theorem liveM_good (m : List (List Int)) : Good m (liveM m) := by
  refine good_of_step (fun i h => liveK_lt m.length h) fun i h => ?_
  rcases live_count_le m m.length with ⟨j, hj, hs⟩ | hc
  · have e := live_still hs (m.length - j)
    rw [show j + (m.length - j) = m.length by omega] at e
    unfold liveM at h ⊢
    rw [e] at h ⊢
    exact hs i h
  · exfalso
    have h0 : liveCount m m.length = 0 := by omega
    unfold liveCount at h0
    have := List.eq_nil_of_length_eq_zero h0
    have hm : i ∈ (List.range m.length).filter (liveK m m.length) := List.mem_filter.2 ⟨List.mem_range.2 (liveK_lt m.length h), h⟩
    rw [this] at hm
    cases hm
/-- The greatest set of this kind is the only one that has every other. -/
theorem live_only {m : List (List Int)} {S : Nat → Bool} (h1 : Good m S) (h2 : ∀ T, Good m T → ∀ i, T i = true → S i = true) : S = liveM m := by
  funext i
  cases e : S i with
  | true => exact (good_in_liveK h1 m.length i e).symm
  | false =>
    cases e2 : liveM m i with
    | false => rfl
    | true => rw [h2 _ (liveM_good m) i e2] at e; cases e
/-- The vertices, in order. -/
def liveList (m : List (List Int)) (k : Nat) : List Int := ((List.range k).filter (liveM m)).map fun (i : Nat) => (i : Int)
def livelyM (m : List (List Int)) : List Int := if isMat m = true then liveList m m.length else []
theorem liveList_next (m : List (List Int)) (k : Nat) : liveList m (k + 1) = liveList m k ++ (if liveM m k = true then [(k : Int)] else []) := by
  unfold liveList
  rw [List.range_succ, List.filter_append, List.map_append]
  cases h : liveM m k <;> simp [h]
theorem liveList_le (m : List (List Int)) (k : Nat) : (liveList m k).length ≤ k := by
  unfold liveList
  rw [List.length_map]
  have := List.length_filter_le (liveM m) (List.range k)
  rwa [List.length_range] at this
theorem liveList_mem {m : List (List Int)} {k : Nat} {x : Int} (h : x ∈ liveList m k) : ∃ i : Nat, x = (i : Int) ∧ i < k ∧ liveM m i = true := by
  unfold liveList at h
  obtain ⟨i, hi, rfl⟩ := List.mem_map.1 h
  obtain ⟨h1, h2⟩ := List.mem_filter.1 hi
  exact ⟨i, rfl, List.mem_range.1 h1, h2⟩
/-- The matrix of some rows and columns. -/
def partM (m : List (List Int)) (l : List Int) : List (List Int) := tabOf l.length l.length fun i j => cellOf m (l.getD i 0).toNat (l.getD j 0).toNat
def trimM (m : List (List Int)) : Option (List (List Int)) := if (livelyM m).length = 0 then none else some (partM m (livelyM m))
def isLivelyM (m : List (List Int)) : Bool := isMat m && decide ((livelyM m).length = m.length)
end Go.Proofs.YtfbdmheaalmboaaGreatDoor
namespace Go.Proofs.YtfbdmheaalmboaaGreatDoor
open Go Go.RowKit

theorem isGraphM_facts {m : List (List Int)} (h : isGraphM m = true) : isMat m = true ∧ sumM m ≤ 60 := by
  unfold isGraphM at h
  rw [Bool.and_eq_true] at h
  exact ⟨h.1, of_decide_eq_true h.2⟩

/-- A row that is new in memory of the call's own. -/
theorem row_two {w : World} (x y : Int) : (w.alloc (.cells #[.int .i64 x, .int .i64 y] 3)).ownsRow w.heap.size 3 1 (.slice (some ⟨w.heap.size, 0, none⟩) 2 2) 2 ([x, y].map (Value.int .i64)) :=
  World.ownsRow_lit (base := w.heap.size) (e := 3) (size := 1) w #[.int .i64 x, .int .i64 y] 2 (Nat.le_refl _) (by decide) rfl
theorem arcs_next {w wr w3 : World} {gg cap i j k : Nat} {m : List (List Int)} {v : Value} {vs : List Value} {o : Obj} (hB : Below w.heap.size w wr) (hO : wr.ownsRow w.heap.size 26 1 v (arcsTo m i j k).length vs) (hR : RowsOwn wr w.heap.size v.ownBlock vs (arcsTo m i j k))
    (ho3 : w3.ownsRow w.heap.size 26 1 (.slice (some ⟨gg, 0, none⟩) ((arcsTo m i j k).length + 1) cap) ((arcsTo m i j k).length + 1) (vs ++ [.slice (some ⟨wr.heap.size, 0, none⟩) 2 2])) (hg3 : ((wr.alloc (.cells #[.int .i64 (i : Int), .int .i64 (j : Int)] 3)).alloc o).grownBy w3 v.ownBlock) (hat : v.ownBlock = some gg ∨ gg = wr.heap.size + 1 + 1) :
    w3.ownsRow w.heap.size 26 1 (.slice (some ⟨gg, 0, none⟩) ((arcsTo m i j k).length + 1) cap) (arcsTo m i j (k + 1)).length (vs ++ [.slice (some ⟨wr.heap.size, 0, none⟩) 2 2]) ∧
    RowsOwn w3 w.heap.size (Value.slice (some ⟨gg, 0, none⟩) ((arcsTo m i j k).length + 1) cap).ownBlock (vs ++ [.slice (some ⟨wr.heap.size, 0, none⟩) 2 2]) (arcsTo m i j (k + 1)) ∧ Below w.heap.size w w3 := by
  have hb1 : Below wr.heap.size wr ((wr.alloc (.cells #[.int .i64 (i : Int), .int .i64 (j : Int)] 3)).alloc o) := ((Below.refl _ _).alloc (Nat.le_refl _) _).alloc (by simp) _
  refine ⟨by rw [arcsTo_next, List.length_append]; exact ho3, ?_, ?_⟩
  · rw [arcsTo_next]
    refine own_append (cap := cap) (xs := [(i : Int), (j : Int)]) hO hR hb1 (World.ownsRow.mono (World.ownsRow.alloc (row_two (i : Int) (j : Int)) o) hB.size) (fun g hg => ?_) ho3 hg3 ?_
    · have : wr.heap.size = g := Option.some.inj hg
      omega
    · rw [World.size_alloc, World.size_alloc]; exact hat
  · have hb2 := hB.trans (hb1.mono hB.size)
    exact hb2.grown hg3 (by have := hb2.size; omega) (fun q hq => (hO.lt q hq).1)

/-- ArcsOf, CountPaths. -/
def arcsOfM (m : List (List Int)) : List (List Int) := if isGraphM m = true then arcsM m else []
def countM (m : List (List Int)) (n : Int) : Int := match powS m n with | some p => sumM p | none => -1

theorem pathOk_out {arcs : List (List Int)} {p : List Int} {k : Nat} (h : (decide ((0 : Int) ≤ p.getD k 0) && decide (p.getD k 0 ≤ (arcs.length : Int) - 1)) = false) : pathOk arcs p k = false := by
  unfold pathOk; rw [h]; rfl
/-- The two ends of an arc in memory. -/
theorem arc_at {w : World} {A : Option Addr} {arcs : List (List Int)} (h : GridS w A arcs) (h2 : ∀ r ∈ arcs, r.length = 2) {k : Nat} (hk : k < arcs.length) :
    ∃ b off b2 off2 c', A = some ⟨b, off, none⟩ ∧ w.cell? ⟨b, off + k, none⟩ = some (.slice (some ⟨b2, off2, none⟩) 2 c') ∧ w.cell? ⟨b2, off2, none⟩ = some (.int .i64 (cellOf arcs k 0)) ∧ w.cell? ⟨b2, off2 + 1, none⟩ = some (.int .i64 (cellOf arcs k 1)) := by
  have hl : (arcs.getD k []).length = 2 := by
    have e : arcs.getD k [] = arcs[k] := by simp [List.getD, hk]
    rw [e]; exact h2 _ (List.getElem_mem hk)
  obtain ⟨b, off, A', c', hA, hc, hr, _⟩ := h.row hk
  obtain ⟨b2, off2, rfl, hat, _⟩ := hr (by omega)
  rw [hl] at hc
  exact ⟨b, off, b2, off2, c', hA, hc, hat 0 (by omega), hat 1 (by omega)⟩

end Go.Proofs.YtfbdmheaalmboaaGreatDoor
namespace Go.Proofs.YtfbdmheaalmboaaGreatDoor
open Go Go.RowKit

section
variable {P : Program} {w : World}
theorem run_append_zero (t ty e : TypeId) (i : TypeInfo) (ht : P.underlying t = some (.slice e)) (hi : P.info? e = some i) (g n cap : Nat) (hn : n ≤ cap) (ad : Addr) (c : Nat) :
    (Builtin.append_ #[t, t] ty #[.slice (some ⟨g, 0, none⟩) n cap, .slice (some ad) 0 c]).run P w = .ok (.slice (some ⟨g, 0, none⟩) n cap) w := by
  simp [Builtin.append_, run_underlying ht, sizeOf, typeInfo, hi, Builtin.lenOf, Builtin.firstCells, hn, loadCells, loadCellsFrom, storeCells]
theorem wp_append_zero {o : Oper} {a : Act} {K : Act → World → Prop} {Q : Exit → Act → World → Prop} (s x : Operand) (t : TypeId)
    (ho : o.op = .call { callee := .builtin .append, args := #[s, x], argTypes := #[t, t] })
    (e : TypeId) (i : TypeInfo) (ht : P.underlying t = some (.slice e)) (hi : P.info? e = some i)
    (g n cap : Nat) (hn : n ≤ cap) (ad : Addr) (c : Nat) (hs : a.eval s = .slice (some ⟨g, 0, none⟩) n cap) (hx : a.eval x = .slice (some ad) 0 c)
    (h : K (a.put o.dst (.slice (some ⟨g, 0, none⟩) n cap)) w) : Oper.wp P o a w K Q := by
  have hrun := run_append_zero (P := P) (w := w) t o.type e i ht hi g n cap hn ad c
  unfold Oper.wp
  simp [execOp, ho, resolve, invoke, builtin, hs, hx, hrun, Result.andThen]
  exact h
theorem step_append_zero {ops : Array Oper} {o : Oper} {a : Act} {K : Act → World → Prop} {Q : Exit → Act → World → Prop} {E : Prop} (hgd : o.guard = none) (s x : Operand) (t : TypeId)
    (ho : o.op = .call { callee := .builtin .append, args := #[s, x], argTypes := #[t, t] })
    (e : TypeId) (i : TypeInfo) (ht : P.underlying t = some (.slice e)) (hi : P.info? e = some i)
    (g n cap : Nat) (hn : n ≤ cap) (ad : Addr) (c : Nat) (hs : a.eval s = .slice (some ⟨g, 0, none⟩) n cap) (hx : a.eval x = .slice (some ad) 0 c)
    (h : K (a.put o.dst (.slice (some ⟨g, 0, none⟩) n cap)) w) : if Region.wanted o (yielded ops a.tmps) = true then Oper.wp P o a w K Q else E := by
  have hw : Region.wanted o (yielded ops a.tmps) = true := by simp [Region.wanted, hgd]
  rw [if_pos hw]
  exact wp_append_zero s x t ho e i ht hi g n cap hn ad c hs hx h
theorem wpList_append_zero {ops : Array Oper} {rest : List Oper} {o : Oper} {a : Act} {Q : Exit → Act → World → Prop} (hgd : o.guard = none) (s x : Operand) (t : TypeId)
    (ho : o.op = .call { callee := .builtin .append, args := #[s, x], argTypes := #[t, t] })
    (e : TypeId) (i : TypeInfo) (ht : P.underlying t = some (.slice e)) (hi : P.info? e = some i)
    (g n cap : Nat) (hn : n ≤ cap) (ad : Addr) (c : Nat) (hs : a.eval s = .slice (some ⟨g, 0, none⟩) n cap) (hx : a.eval x = .slice (some ad) 0 c)
    (h : wpList P ops Q rest (a.put o.dst (.slice (some ⟨g, 0, none⟩) n cap)) w) : wpList P ops Q (o :: rest) a w :=
  wpList_plain hgd fun _ hK => wp_append_zero s x t ho e i ht hi g n cap hn ad c hs hx (hK _ _ h)
end
end Go.Proofs.YtfbdmheaalmboaaGreatDoor
namespace Go.Proofs.YtfbdmheaalmboaaGreatDoor
open Go Go.RowKit

theorem fillTo_mono (arcs : List (List Int)) (d : Nat) (head : List Int) {k : Nat} : ∀ (n : Nat), k ≤ n → (fillTo arcs d head k).length ≤ (fillTo arcs d head n).length
  | 0, h => by obtain rfl : k = 0 := by omega
               exact Nat.le_refl _
  | n + 1, h => by
    by_cases e : k = n + 1
    · subst e; exact Nat.le_refl _
    · have := fillTo_mono arcs d head n (k := k) (by omega)
      rw [fillTo_next, List.length_append]; omega
theorem ints_one (xs : List Int) : ∀ u ∈ xs.map (Value.int .i64), u.oneCell' = true := by
  intro u hu
  obtain ⟨x, _, rfl⟩ := List.mem_map.1 hu
  rfl
theorem ints_cells {w : World} {g : Nat} {xs : List Int} (h : IntsAt w g 0 xs) : ∀ j u, (xs.map (Value.int .i64))[j]? = some u → w.cell? ((⟨g, 0, none⟩ : Addr).add j) = some u := by
  intro j u hu
  rw [List.getElem?_map] at hu
  obtain ⟨x, hx, rfl⟩ := Option.map_eq_some_iff.1 hu
  have hj := (List.getElem?_eq_some_iff.1 hx).1
  have := h j hj
  rw [Nat.zero_add] at this
  rw [show (⟨g, 0, none⟩ : Addr).add j = ⟨g, j, none⟩ by unfold Addr.add; split <;> simp_all, this, List.getD_eq_getElem?_getD, hx]; rfl
theorem ints_far {w w' : World} {g : Nat} {xs : List Int} {r : Option Nat} (h : IntsAt w g 0 xs) (hl : g < w.heap.size) (hg : w.grownBy w' r) (hne : r ≠ some g) : IntsAt w' g 0 xs ∧ g < w'.heap.size := by
  refine ⟨fun k hk => ?_, Nat.lt_of_lt_of_le hl hg.size⟩
  have hb := hg.block g hl (Ne.symm hne)
  have := h k hk
  unfold World.cell? at this ⊢
  rw [hb]; exact this

/-- Paths are put behind others, in the same block or in a new one. -/
def FillPost (B : Nat) (v : Value) (m : List (List Int)) (w : World) (e : Ending) (w' : World) : Prop :=
  ∃ v' vs, e = .returned v' ∧ w'.ownsRow B 26 1 v' m.length vs ∧ RowsOwn w' B v'.ownBlock vs m ∧ w.grownBy w' v.ownBlock ∧ (v'.ownBlock = v.ownBlock ∨ ∃ g, v'.ownBlock = some g ∧ w.heap.size ≤ g)
theorem grown_trans {w w1 w2 : World} {r r1 : Option Nat} (h : w.grownBy w1 r) (k : w1.grownBy w2 r1) (hr : r1 = r ∨ ∃ g, r1 = some g ∧ w.heap.size ≤ g) : w.grownBy w2 r := by
  refine ⟨k.os.trans h.os, k.tape.trans h.tape, k.output.trans h.output, Nat.le_trans h.size k.size, fun j hj hne => ?_⟩
  refine (k.block j (Nat.lt_of_lt_of_le hj h.size) ?_).trans (h.block j hj hne)
  rcases hr with rfl | ⟨g, rfl, hg⟩
  · exact hne
  · intro e
    have := Option.some.inj e
    omega
theorem below_grown {w w' : World} (h : Below w.heap.size w w') (r : Option Nat) : w.grownBy w' r := ⟨h.os, h.tape, h.output, h.size, fun k hk _ => h.block k hk⟩

theorem fill_next {B : Nat} {w0 w w3 : World} {gg cap : Nat} {v u : Value} {vs : List Value} {out : List (List Int)} {head : List Int} (hO : w0.ownsRow B 26 1 v out.length vs) (hR : RowsOwn w0 B v.ownBlock vs out) (h0 : Below w0.heap.size w0 w) (hB : B ≤ w0.heap.size)
    (hu : w.ownsRow w0.heap.size 3 1 u head.length (head.map (Value.int .i64))) (o : Obj)
    (ho3 : w3.ownsRow B 26 1 (.slice (some ⟨gg, 0, none⟩) (out.length + 1) cap) (out.length + 1) (vs ++ [u])) (hg3 : (w.alloc o).grownBy w3 v.ownBlock) (hat : v.ownBlock = some gg ∨ gg = w.heap.size + 1) :
    w3.ownsRow B 26 1 (.slice (some ⟨gg, 0, none⟩) (out.length + 1) cap) (out ++ [head]).length (vs ++ [u]) ∧ RowsOwn w3 B (Value.slice (some ⟨gg, 0, none⟩) (out.length + 1) cap).ownBlock (vs ++ [u]) (out ++ [head]) ∧ w.grownBy w3 v.ownBlock ∧
      ((Value.slice (some ⟨gg, 0, none⟩) (out.length + 1) cap).ownBlock = v.ownBlock ∨ ∃ g, (Value.slice (some ⟨gg, 0, none⟩) (out.length + 1) cap).ownBlock = some g ∧ w.heap.size ≤ g) := by
  have hb1 : Below w0.heap.size w0 (w.alloc o) := h0.alloc h0.size o
  refine ⟨by rw [List.length_append]; exact ho3, own_append (w := w.alloc o) (cap := cap) hO hR hb1 (World.ownsRow.alloc (World.ownsRow.mono hu hB) o) (fun g hg => (hu.lt g hg).1) ho3 hg3 (by rw [World.size_alloc]; exact hat), grown_trans (World.grownBy_alloc w o none |> fun h => ⟨h.os, h.tape, h.output, h.size, fun k hk _ => h.block k hk (by intro e; cases e)⟩) hg3 (Or.inl rfl), ?_⟩
  rcases hat with h | h
  · exact Or.inl h.symm
  · exact Or.inr ⟨gg, rfl, by omega⟩

theorem head_next {W1 w1 w3 : World} {gg cap n : Nat} {u : Value} {head : List Int} {x : Int} (hb : Below W1.heap.size W1 w1) (hU : w1.ownsRow W1.heap.size 3 1 u head.length (head.map (Value.int .i64))) (o : Obj) (hn : n = head.length + 1)
    (ho3 : w3.ownsRow W1.heap.size 3 1 (.slice (some ⟨gg, 0, none⟩) n cap) n (head.map (Value.int .i64) ++ [.int .i64 x])) (hg3 : (w1.alloc o).grownBy w3 u.ownBlock) :
    w3.ownsRow W1.heap.size 3 1 (.slice (some ⟨gg, 0, none⟩) (head ++ [x]).length cap) (head ++ [x]).length ((head ++ [x]).map (Value.int .i64)) ∧ Below W1.heap.size W1 w3 := by
  subst hn
  refine ⟨?_, (hb.alloc hb.size o).grown hg3 (by have := hb.size; simp; omega) fun q hq => (hU.lt q hq).1⟩
  rw [List.length_append, List.map_append]; exact ho3

/-- The head's copy. -/
theorem first_part {W1 w1 w2 : World} {gg cap : Nat} {u : Value} {head : List Int} (hb : Below W1.heap.size W1 w1) (hU : w1.ownsRow W1.heap.size 3 1 u 0 [])
    (ho2 : w2.ownsRow W1.heap.size 3 1 (.slice (some ⟨gg, 0, none⟩) (0 + head.length) cap) (0 + head.length) ([] ++ head.map (Value.int .i64))) (hg2 : w1.grownBy w2 u.ownBlock) :
    w2.ownsRow W1.heap.size 3 1 (.slice (some ⟨gg, 0, none⟩) head.length cap) head.length (head.map (Value.int .i64)) ∧ Below W1.heap.size W1 w2 := by
  rw [Nat.zero_add, List.nil_append] at ho2
  exact ⟨ho2, hb.grown hg2 hb.size fun q hq => (hU.lt q hq).1⟩

/-- PathsOf. -/
def pathsOkM (m : List (List Int)) (n : Int) : Bool := isGraphM m && ((decide (1 ≤ n) && decide (n ≤ 6)) && (decide (0 ≤ countM m n) && decide (countM m n ≤ 500)))
def pathsM (m : List (List Int)) (n : Int) : List (List Int) := if pathsOkM m n = true then fillM (arcsM m) n.toNat [] else []
theorem pow_le_six {a n : Nat} (ha : a ≤ 60) (hn : n ≤ 6) : a ^ n ≤ 46656000000 :=
  Nat.le_trans (Nat.pow_le_pow_left ha n) (Nat.le_trans (Nat.pow_le_pow_right (by decide) hn) (by decide))

end Go.Proofs.YtfbdmheaalmboaaGreatDoor
namespace Go.Proofs.YtfbdmheaalmboaaGreatDoor
open Go Go.RowKit

theorem Cur.grown {B : Nat} {a : Option Addr} {n c g : Nat} {W0 w w' : World} (h : Cur B a n c g W0 w) {r : Option Nat} (hg : w.grownBy w' r) (hr : ∀ k, r = some k → g + 1 ≤ k) : Cur B a n c g W0 w' := by
  have hl := h.lt
  obtain ⟨h1, h2, h3, i, x, h4, h5⟩ := h
  refine ⟨h1.grown hg h2 fun k hk => by have := hr k hk; omega, Nat.le_trans h2 hg.size, h3, i, x, h4, ?_⟩
  rw [hg.block g hl fun e => by have := hr g e.symm; omega]; exact h5

/-- A table that is not much. -/
structure Drawn (M : List (List Int)) : Prop where
  len : M.length ≤ 11
  tot : tot M ≤ 201
theorem small_drawn {M : List (List Int)} (h : Small M) : Drawn M := ⟨by have := h.len; omega, by have := h.tot; omega⟩
theorem small_set {M : List (List Int)} (h : Small M) (x : Int) : Drawn (M.set 0 ((M.getD 0 []).set 0 x)) := by
  refine ⟨by rw [List.length_set]; have := h.len; omega, ?_⟩
  have h1 := h.tot
  cases M with
  | nil => exact Nat.le_trans h1 (by omega)
  | cons r M =>
    have : tot ((r :: M).set 0 (((r :: M).getD 0 []).set 0 x)) = tot (r :: M) := by simp [tot, List.getD]
    omega
theorem small_app {M : List (List Int)} (h : Small M) : Drawn (M ++ [[1]]) := by
  refine ⟨by rw [List.length_append]; have := h.len; simp; omega, ?_⟩
  have h1 := h.tot
  have : tot (M ++ [[1]]) = tot M + 1 := by simp [tot]
  omega

def BentPost (B : Nat) (a : Option Addr) (n c g : Nat) (W0 : World) (e : Ending) (w' : World) : Prop := ∃ v M, e = .returned v ∧ OwnG w' (g + 1) v M ∧ Drawn M ∧ Cur B a n c g W0 w'
def bends : List Int := [-1, 1000000, 1000001, 9]

/-- The row of the one number 1 is put behind the others. -/
theorem bent_next {w w3 : World} {g gg cap : Nat} {v : Value} {vs : List Value} {M : List (List Int)} (ho : w.ownsRow (g + 1) 26 1 v M.length vs) (hr : RowsOwn w (g + 1) v.ownBlock vs M) (hg1 : g + 1 ≤ w.heap.size) (o o2 : Obj)
    (hu : (w.alloc o).ownsRow w.heap.size 3 1 (.slice (some ⟨w.heap.size, 0, none⟩) 1 1) 1 [.int .i64 1])
    (ho3 : w3.ownsRow (g + 1) 26 1 (.slice (some ⟨gg, 0, none⟩) (M.length + 1) cap) (M.length + 1) (vs ++ [.slice (some ⟨w.heap.size, 0, none⟩) 1 1])) (hg3 : ((w.alloc o).alloc o2).grownBy w3 v.ownBlock) (hat : v.ownBlock = some gg ∨ gg = w.heap.size + 2) :
    OwnG w3 (g + 1) (.slice (some ⟨gg, 0, none⟩) (M.length + 1) cap) (M ++ [[1]]) ∧ w.grownBy w3 v.ownBlock := by
  have h0 : Below w.heap.size w (w.alloc o) := (Below.refl _ _).alloc (Nat.le_refl _) o
  obtain ⟨h1, h2, h3, _⟩ := fill_next (head := [1]) ho hr h0 hg1 hu o2 ho3 hg3 (by rw [World.size_alloc]; exact hat)
  rw [List.length_append] at h1
  refine ⟨⟨_, ?_, h2⟩, grown_trans (below_grown h0 _) h3 (Or.inl rfl)⟩
  rw [List.length_append]; exact h1

/-- A new block that is full of its cells. -/
theorem owns_block (w : World) {B : Nat} (hB : B ≤ w.heap.size) (e : TypeId) (xs : List Value) (hm : xs.length ≤ maxLen) : (w.alloc (.cells xs.toArray e)).ownsRow B e 1 (.slice (some ⟨w.heap.size, 0, none⟩) xs.length xs.length) xs.length xs :=
  ⟨by simp, .inr ⟨w.heap.size, xs.length, xs.toArray, rfl, hB, heap_alloc_new w _, Nat.le_refl _, hm, by simp, by simp⟩⟩
theorem block_two (w : World) (o : Obj) (o2 : Obj) : ((w.alloc o).alloc o2).heap[w.heap.size + 1]? = some o2 := by
  have h := heap_alloc_new (w.alloc o) o2
  rw [World.size_alloc] at h; exact h

set_option maxRecDepth 100000 in
set_option maxHeartbeats 3200000 in
theorem spec_bent (B : Nat) (a : Option Addr) (n c g : Nat) (W0 w : World) (hcode : CodeAt W0 B a n) (hn : n ≤ 1048576) (hcur : Cur B a n c g W0 w) :
    Calls Tryz.prog 28 #[.pointer (some ⟨g, 0, none⟩)] w (BentPost B a n c g W0) := by
  obtain ⟨i0, hi, hz0, hz1, hz2⟩ := info_parts infoSl
  have HG := Lib.hid (draw_grid 4 (by decide) (by decide) B a n c g W0 w hcode hn hcur)
  have HBW := Lib.hid (fun w' => l1Below 16 (by decide) B a n c g W0 w' hcode hn)
  have HPI := Lib.hid (fun b w' (hc : Cur B a n c g W0 w') (hs : NumsAt w' b bends) (hbg : b ≠ g) => l1PickInt b 4 bends (by decide) (by decide) B a n c g W0 w' hcode hn hc hs hbg)
  clear hcode hcur
  go_enter Tryz.func28, Tryz.ntmps28
  go_wp2_with fail
  refine HG.out.mono ?_
  rintro e w1 ⟨v, M, rfl, ho1, hs1, hc1⟩
  have HBW1 := Lib.hid (HBW.out w1 hc1)
  have HO1 := Lib.hid ho1
  have HS1 := Lib.hid hs1
  clear ho1 hs1 hc1
  go_wp2_with fail
  refine HBW1.out.mono ?_
  rintro e w2 ⟨x, x0, x1, rfl, hc2, ho2⟩
  have HO2 := Lib.hid (HO1.out.from (from_only ho2))
  have hg2 := hc2.lt
  have HC2 := Lib.hid hc2
  clear hc2 ho2
  obtain ⟨xn, rfl⟩ : ∃ xn : Nat, x = (xn : Int) := ⟨x.toNat, by omega⟩
  by_cases hx0 : xn = 0
  · subst hx0
    obtain ⟨gm, cap, gi, ci, rfl, gb, gib, gne, hat⟩ := HO2.out.ats (i := 0) (j := 0) HS1.out.pos HS1.out.first
    have k1 := (hat w2 (From.refl _ _)).1
    have HAT := Lib.hid hat
    have hlp := HS1.out.pos
    have hlf := HS1.out.first
    clear hat
    generalize hml : M.length = ml at *
    generalize hfl : (M.getD 0 []).length = fl at *
    have HML := Lib.hid hml
    have HFL := Lib.hid hfl
    clear hml hfl
    go_wp2
    go_region_held3 (fun w' => w'.cell? ⟨gm, 0, none⟩ = some (.slice (some ⟨gi, 0, none⟩) fl ci)) (first | exact y0 | exact cell_far_set gne y0 | go_keep) (first | (go_at_call 36; refine (HPI.out w2.heap.size _ ((HC2.out.alloc _).drewN 1) (intsAt_new w2 bends 3) (by omega)).mono ?_; rintro e w5 ⟨kk, hkk, rfl, hc5, ho5⟩; have hfr : From (g + 1) w2 w5 := (From.of_below (below_drewN ((Below.refl w2.heap.size w2).alloc (Nat.le_refl _) _) 1)).trans (from_only ho5); obtain ⟨y0, y1, y2, y3, y4⟩ := HAT.out w5 hfr; have HSET := Lib.hid y4; have HC5 := Lib.hid hc5; clear y4 hc5 ho5 hfr))
    go_wp2
    go_ret
    exact ⟨_, _, rfl, HSET.out _, small_set HS1.out _, HC5.out.setOther (b := gi) (by have := HC2.out.2.2.1; omega) (by omega) _ _⟩
  · have hb0 : ((xn : Int) == 0) = false := by simp; omega
    by_cases hx1 : xn = 1
    · subst hx1
      obtain ⟨vs, ho, hr⟩ := HO2.out
      obtain ⟨Av, cv, rfl⟩ := slice_of_owns ho
      have HOK := Lib.hid ho
      have HOR := Lib.hid hr
      have hl10 := HS1.out.len
      clear ho hr
      have HU : Hid (((w2.alloc (.cells #[.int .i64 1] 3)).ownsRow w2.heap.size 3 1 (.slice (some ⟨w2.heap.size, 0, none⟩) 1 1) 1 [.int .i64 1])) := Lib.hid (owns_block w2 (Nat.le_refl _) 3 [.int .i64 1] (by decide))
      go_wp2_with (at_builtin; refine wpList_append_lies _ rfl (.tmp 19) (.tmp 21) 24 rfl (g + 1) 26 i0 (.slice none 0 0) 1 24 Tryz.underlying24 hi hz0 hz1 hz2 rfl (by decide) _ _ _ rfl ((HOK.out.alloc _).alloc _) ⟨w2.heap.size + 1, 0, none⟩ 1 1 [.slice (some ⟨w2.heap.size, 0, none⟩) 1 1] rfl rfl (World.news_of_block (cs := #[.slice (some ⟨w2.heap.size, 0, none⟩) 1 1]) (t := 26) (fr := (0, 0)) (block_two w2 _ _)) (by simp [Value.oneCell']) (by decide) (by unfold maxLen; omega) (by omega) (by simp; omega) (w2.heap.size + 2) (by simp) ?_; intro gg cap w3 ho3 hg3 hat hlt3; have HN := Lib.hid (bent_next HOK.out HOR.out (by omega) _ _ HU.out ho3 hg3 hat); clear ho3 hg3 hat)
      go_ret
      exact ⟨_, _, rfl, HN.out.1, small_app HS1.out, HC2.out.grown HN.out.2 fun k hk => (HOK.out.lt k hk).1⟩
    · have hb1 : ((xn : Int) == 1) = false := by simp; omega
      go_wp2
      go_ret
      exact ⟨_, M, rfl, HO2.out, small_drawn HS1.out, HC2.out⟩
end Go.Proofs.YtfbdmheaalmboaaGreatDoor
namespace Go.Proofs.YtfbdmheaalmboaaGreatDoor
open Go Go.RowKit

/-- The value is a slice that holds the integers xs. -/
def RowV (w : World) (v : Value) (xs : List Int) : Prop := ∃ A c, v = .slice A xs.length c ∧ RowS w A xs
theorem RowV.below {w w' : World} {v : Value} {xs : List Int} (h : RowV w v xs) (hb : Below w.heap.size w w') : RowV w' v xs := by
  obtain ⟨A, c, hv, hg⟩ := h
  exact ⟨A, c, hv, hg.below hb⟩
/-- The call owns the list; the block of it lies below S. -/
def OwnA (w : World) (B : Nat) (v : Value) (xs : List Int) : Prop := w.ownsRow B 3 1 v xs.length (xs.map (Value.int .i64))
def OwnAIn (w : World) (B S : Nat) (v : Value) (xs : List Int) : Prop := OwnA w B v xs ∧ ∀ g, v.ownBlock = some g → g < S
theorem OwnA.rowV {w : World} {B : Nat} {v : Value} {xs : List Int} (h : OwnA w B v xs) : RowV w v xs := rowS_of_owns h
theorem OwnA.below {w w' : World} {B : Nat} {v : Value} {xs : List Int} (h : OwnA w B v xs) (hb : Below w.heap.size w w') : OwnA w' B v xs := kept_below h hb
theorem OwnA.mono {w : World} {B B' : Nat} {v : Value} {xs : List Int} (h : OwnA w B v xs) (hB : B' ≤ B) : OwnA w B' v xs := World.ownsRow.mono h hB
theorem OwnA.ownIn {w : World} {B : Nat} {v : Value} {xs : List Int} (h : OwnA w B v xs) : OwnAIn w B w.heap.size v xs := ⟨h, fun g hg => (h.lt g hg).2⟩
theorem OwnAIn.ownG {w : World} {B S : Nat} {v : Value} {xs : List Int} (h : OwnAIn w B S v xs) : OwnA w B v xs := h.1
theorem OwnAIn.below {w w' : World} {B S : Nat} {v : Value} {xs : List Int} (h : OwnAIn w B S v xs) (hb : Below w.heap.size w w') : OwnAIn w' B S v xs := ⟨h.1.below hb, h.2⟩
theorem From.ownAIn {w w' : World} {B S : Nat} {v : Value} {xs : List Int} (h : OwnAIn w B S v xs) (hf : From B w w') : OwnAIn w' B S v xs := ⟨From.owns h.1 hf, h.2⟩
/-- The list is not too long. -/
def SizeL (xs : List Int) : Prop := xs.length ≤ 1048576

def MarkedA (B S : Nat) (v : Value) (xs : List Int) (w : World) (e : Ending) (w' : World) : Prop := e = .returned (.int .i64 ((1 + xs.length : Nat) : Int)) ∧ RowV w' v (marksI 1 xs.length) ∧ Within B S w w'
def NewA (xs : List Int) (w : World) (e : Ending) (w' : World) : Prop := ∃ v, e = .returned v ∧ OwnA w' w.heap.size v xs ∧ Below w.heap.size w w'
def SpecA (xs : List Int) (w : World) (e : Ending) (w' : World) : Prop := ∃ v, e = .returned v ∧ RowV w' v xs ∧ Below w.heap.size w w'
def SpecAB (xs : List Int) (b : Bool) (w : World) (e : Ending) (w' : World) : Prop := ∃ v, e = .returned (.tuple #[v, .bool b]) ∧ RowV w' v xs ∧ Below w.heap.size w w'
end Go.Proofs.YtfbdmheaalmboaaGreatDoor
namespace Go.Proofs.YtfbdmheaalmboaaGreatDoor
open Go Go.RowKit

theorem codeAt_next {w w' : World} {a : Option Addr} {n : Nat} (h : CodeAt w w.heap.size a n) (hb : Below w.heap.size w w') : CodeAt w' w'.heap.size a n := by
  intro k hk
  obtain ⟨b, off, z, rfl, hlt, z0, z1, hc⟩ := h k hk
  exact ⟨b, off, z, rfl, Nat.lt_of_lt_of_le hlt hb.size, z0, z1, (hb.cell (p := ⟨b, off + k, none⟩) hlt).trans hc⟩
theorem bl {w w1 w2 : World} (h : Below w.heap.size w w1) (k : Below w1.heap.size w1 w2) : Below w.heap.size w w2 := h.trans (k.mono h.size)
/-- A contract in every later world, for tables that need not be the caller's own. -/
def At1V (W : World) (f : Nat) (m : List (List Int)) (P : World → Ending → World → Prop) : Prop := ∀ v w', Below W.heap.size W w' → SizeB m → GridV w' v m → Calls Tryz.prog f #[v] w' (P w')
theorem Drawn.size {M : List (List Int)} (h : Drawn M) : SizeB M := by
  have := h.len
  have := h.tot
  unfold SizeB; omega
theorem likeR {w : World} {v v' : Value} {l : List Int} (hz : SizeL l) (h : RowV w v l) (h' : RowV w v' l) : Calls Tryz.prog 16 #[v, v'] w (TrueBelowG w) := by
  obtain ⟨A, c, rfl, hg⟩ := h
  obtain ⟨A', c', rfl, hg'⟩ := h'
  unfold SizeL at hz
  exact like_ints A A' c c' l (by omega) w hg hg'
end Go.Proofs.YtfbdmheaalmboaaGreatDoor
namespace Go.Proofs.YtfbdmheaalmboaaGreatDoor
open Go Go.RowKit

def sgn (j : Nat) : Int := if j % 2 = 0 then 1 else -1
theorem sgn_next (j : Nat) : sgn (j + 1) = -sgn j := by
  unfold sgn
  by_cases h : j % 2 = 0
  · rw [if_pos h, if_neg (by omega)]
  · rw [if_neg h, if_pos (by omega)]; rfl
theorem sgn_two (j : Nat) : sgn j = 1 ∨ sgn j = -1 := by
  unfold sgn
  split
  · exact Or.inl rfl
  · exact Or.inr rfl
/-- A table without its first row and column j. -/
def lessF (f : Nat → Nat → Int) (j : Nat) : Nat → Nat → Int := fun a b => f (a + 1) (if b < j then b else b + 1)
def detF : Nat → (Nat → Nat → Int) → Int
  | 0, _ => 1
  | n + 1, f => sumTo (n + 1) fun j => sgn j * f 0 j * detF n (lessF f j)
theorem detF_congr : ∀ {n : Nat} {f g : Nat → Nat → Int}, (∀ i j, i < n → j < n → f i j = g i j) → detF n f = detF n g
  | 0, _, _, _ => rfl
  | n + 1, f, g, h => by
    rw [detF, detF]
    refine sumTo_congr _ fun j hj => ?_
    rw [h 0 j (by omega) hj, detF_congr (n := n) (f := lessF f j) (g := lessF g j) fun a b ha hb => ?_]
    unfold lessF
    exact h _ _ (by omega) (by split <;> omega)
theorem detF_turn {n : Nat} (hn : n ≤ 4) (f : Nat → Nat → Int) : detF n (fun i j => f j i) = detF n f := by
  have h : n = 0 ∨ n = 1 ∨ n = 2 ∨ n = 3 ∨ n = 4 := by omega
  rcases h with rfl | rfl | rfl | rfl | rfl
  · rfl
  · rfl
  · simp [detF, sumTo, sgn, lessF]
    grind
  · simp [detF, sumTo, sgn, lessF]
    grind
  · simp [detF, sumTo, sgn, lessF]
    grind
/-- n! times B to the n. -/
def detB (B : Nat) : Nat → Nat
  | 0 => 1
  | n + 1 => (n + 1) * (B * detB B n)
theorem sumTo_abs {f : Nat → Int} {B : Nat} : ∀ {n : Nat}, (∀ k, k < n → (f k).natAbs ≤ B) → (sumTo n f).natAbs ≤ n * B
  | 0, _ => by simp [sumTo]
  | n + 1, h => by
    have h1 := sumTo_abs (n := n) fun k hk => h k (by omega)
    have h2 := h n (by omega)
    rw [sumTo, Nat.add_mul, Nat.one_mul]
    omega
theorem term_abs {s x d : Int} {B D : Nat} (hs : s = 1 ∨ s = -1) (hx : x.natAbs ≤ B) (hd : d.natAbs ≤ D) : (s * x * d).natAbs ≤ B * D := by
  rw [Int.natAbs_mul, Int.natAbs_mul]
  have e : s.natAbs = 1 := by rcases hs with rfl | rfl <;> rfl
  rw [e, Nat.one_mul]
  exact Nat.mul_le_mul hx hd
theorem detF_abs {B : Nat} : ∀ {n : Nat} {f : Nat → Nat → Int}, (∀ i j, i < n → j < n → (f i j).natAbs ≤ B) → (detF n f).natAbs ≤ detB B n
  | 0, _, _ => Nat.le_refl _
  | n + 1, f, h => by
    rw [detF, detB]
    refine sumTo_abs fun j hj => term_abs (sgn_two j) (h 0 j (by omega) hj) (detF_abs fun a b ha hb => ?_)
    exact h _ _ (by omega) (by split <;> omega)

/-! ### Lists of numbers -/

/-- How many numbers are left of the first n without zeros at the end. -/
def cutLen (p : List Int) : Nat → Nat
  | 0 => 0
  | n + 1 => if p.getD n 0 = 0 then cutLen p n else n + 1
theorem cutLen_le (p : List Int) : ∀ n, cutLen p n ≤ n
  | 0 => Nat.le_refl _
  | n + 1 => by
    rw [cutLen]
    split
    · exact Nat.le_trans (cutLen_le p n) (by omega)
    · exact Nat.le_refl _
def cutL (p : List Int) : List Int := p.take (cutLen p p.length)
def fitsB (p : List Int) (most : Nat) : Bool := (p.all fun x => decide (-1000000 ≤ x ∧ x ≤ 1000000)) && decide (p.length ≤ most)
theorem fits_at {p : List Int} {most : Nat} (h : fitsB p most = true) : p.length ≤ most ∧ ∀ k, (p.getD k 0).natAbs ≤ 1000000 := by
  unfold fitsB at h
  rw [Bool.and_eq_true, decide_eq_true_iff, List.all_eq_true] at h
  refine ⟨h.2, fun k => ?_⟩
  by_cases hk : k < p.length
  · have := h.1 p[k] (List.getElem_mem hk)
    rw [decide_eq_true_iff] at this
    rw [List.getD_eq_getElem?_getD, List.getElem?_eq_getElem hk, Option.getD_some]
    omega
  · rw [List.getD_eq_getElem?_getD, List.getElem?_eq_none (by omega)]
    decide
/-- The product's numbers. -/
def termC (a b : List Int) (t i : Nat) : Int := if i ≤ t ∧ t - i < b.length then a.getD i 0 * b.getD (t - i) 0 else 0
def convL (a b : List Int) : List Int := (List.range (a.length + b.length - 1)).map fun t => sumTo a.length (termC a b t)
def mulP (a b : List Int) : List Int := if fitsB a 30 && fitsB b 30 && decide (a ≠ [] ∧ b ≠ []) then cutL (convL a b) else []
/-- The value of the last n numbers. -/
def hor (p : List Int) (x : Int) : Nat → Int
  | 0 => 0
  | n + 1 => hor p x n * x + p.getD (p.length - 1 - n) 0
def atP (p : List Int) (x : Int) : Option Int := if fitsB p 5 && decide (-1000 ≤ x ∧ x ≤ 1000) then some (hor p x p.length) else none

/-! ### Small matrices -/

def smallM (m : List (List Int)) : Bool := isMat m && decide (m.length ≤ 4) && m.all fun r => r.all fun x => decide (x ≤ 9)
def detOk (t : List (List Int)) : Bool := decide (t.length ≤ 4) && t.all fun r => decide (r.length = t.length) && r.all fun x => decide (-10000 ≤ x ∧ x ≤ 10000)
def detT (t : List (List Int)) : Int := detF t.length (cellOf t)
def detS (t : List (List Int)) : Option Int := if detOk t then some (detT t) else none
def rootM (m : List (List Int)) : Bool := smallM m && decide (detT m ≠ 0)
/-- The vertices of which the bits are set. -/
def bitsL (n s : Nat) : List Nat := (List.range n).filter fun i => s.testBit i
def minorF (m : List (List Int)) (l : List Nat) : Int := detF l.length fun a b => cellOf m (l.getD a 0) (l.getD b 0)
def minorsN (m : List (List Int)) (size : Nat) : Int := sumTo (2 ^ m.length) fun s => if (bitsL m.length s).length = size then minorF m (bitsL m.length s) else 0
def turnedL (m : List (List Int)) : List Int := (List.range (m.length + 1)).map fun k => sgn k * minorsN m k
def charL (m : List (List Int)) : List Int := (List.range (m.length + 1)).map fun k => sgn (m.length - k) * minorsN m (m.length - k)
def turnedM (m : List (List Int)) : List Int := if smallM m then cutL (turnedL m) else []
def charM (m : List (List Int)) : List Int := if smallM m then charL m else []
end Go.Proofs.YtfbdmheaalmboaaGreatDoor
namespace Go.Proofs.YtfbdmheaalmboaaGreatDoor
open Go Go.RowKit

theorem small_facts {m : List (List Int)} (h : smallM m = true) : isMat m = true ∧ m.length ≤ 4 ∧ ∀ i j, i < m.length → j < m.length → 0 ≤ cellOf m i j ∧ cellOf m i j ≤ 9 := by
  unfold smallM at h
  rw [Bool.and_eq_true, Bool.and_eq_true, decide_eq_true_iff, List.all_eq_true] at h
  obtain ⟨⟨h1, h2⟩, h3⟩ := h
  have hf := isMat_facts h1
  refine ⟨h1, h2, fun i j hi hj => ⟨(hf.cell i j hi hj).1, ?_⟩⟩
  have h4 := h3 m[i] (List.getElem_mem hi)
  rw [List.all_eq_true] at h4
  have hr := hf.row i hi
  have e : m.getD i [] = m[i] := by simp [List.getD, hi]
  rw [e] at hr
  have h5 := h4 (m[i])[j] (List.getElem_mem (by omega))
  rw [decide_eq_true_iff] at h5
  unfold cellOf
  rw [e, List.getD_eq_getElem?_getD, List.getElem?_eq_getElem (by omega)]
  exact h5
/-- The sums of minors, for each number of rows: none, one, all. -/
theorem minors_zero {m : List (List Int)} (h : m.length ≤ 4) : minorsN m 0 = 1 := by
  unfold minorsN
  have hn : m.length = 0 ∨ m.length = 1 ∨ m.length = 2 ∨ m.length = 3 ∨ m.length = 4 := by omega
  rcases hn with e | e | e | e | e <;> rw [e] <;> simp [sumTo, bitsL, List.range, List.range.loop, List.filter, Nat.testBit, minorF, detF]
theorem minors_one {m : List (List Int)} (h : m.length ≤ 4) : minorsN m 1 = sumTo m.length fun k => cellOf m k k := by
  unfold minorsN
  have hn : m.length = 0 ∨ m.length = 1 ∨ m.length = 2 ∨ m.length = 3 ∨ m.length = 4 := by omega
  rcases hn with e | e | e | e | e <;> rw [e] <;> simp [sumTo, bitsL, List.range, List.range.loop, List.filter, Nat.testBit, minorF, detF, sgn]
theorem minors_all {m : List (List Int)} (h : m.length ≤ 4) : minorsN m m.length = detT m := by
  unfold minorsN detT
  have hn : m.length = 0 ∨ m.length = 1 ∨ m.length = 2 ∨ m.length = 3 ∨ m.length = 4 := by omega
  rcases hn with e | e | e | e | e <;> rw [e] <;> simp [sumTo, bitsL, List.range, List.range.loop, List.filter, Nat.testBit, minorF, detF, sgn, lessF]
theorem bitsL_mem {n s i : Nat} (h : i ∈ bitsL n s) : i < n := by
  unfold bitsL at h
  exact List.mem_range.1 (List.mem_filter.1 h).1
theorem bitsL_len (n s : Nat) : (bitsL n s).length ≤ n := by
  unfold bitsL
  exact Nat.le_trans (List.length_filter_le _ _) (by simp)
theorem bitsL_at {n s a : Nat} (h : a < (bitsL n s).length) : (bitsL n s).getD a 0 < n := by
  rw [List.getD_eq_getElem?_getD, List.getElem?_eq_getElem h]
  exact bitsL_mem (List.getElem_mem h)
theorem minors_turn {m : List (List Int)} (h : m.length ≤ 4) (k : Nat) : minorsN (turnM m) k = minorsN m k := by
  have hl : (turnM m).length = m.length := tabOf_length _ _ _
  unfold minorsN
  rw [hl]
  refine sumTo_congr _ fun s _ => ?_
  split
  · unfold minorF
    have hb := bitsL_len m.length s
    rw [← detF_turn (n := (bitsL m.length s).length) (by omega)]
    refine detF_congr fun a b ha hb => ?_
    unfold turnM
    rw [tabOf_cell (bitsL_at hb) (bitsL_at ha)]
  · rfl
theorem turn_small {m : List (List Int)} (h : smallM m = true) : smallM (turnM m) = true := by
  obtain ⟨h1, h2, h3⟩ := small_facts h
  have hf := isMat_facts h1
  have hl : (turnM m).length = m.length := tabOf_length _ _ _
  have hm : isMat (turnM m) = true := isMat_iff.2 ⟨by rw [hl]; exact ⟨hf.pos, hf.le⟩, fun i hi => by
    rw [hl] at hi
    refine ⟨?_, fun j hj => ?_⟩
    · unfold turnM; rw [tabOf_row hi, tabOf_length]; simp
    · rw [hl] at hj
      unfold turnM
      rw [tabOf_cell hi hj]
      exact hf.cell j i hj hi⟩
  unfold smallM
  rw [hm, hl, decide_eq_true h2, Bool.true_and, Bool.true_and, List.all_eq_true]
  intro r hr
  unfold turnM tabOf at hr
  obtain ⟨i, hi, rfl⟩ := List.mem_map.1 hr
  rw [List.all_eq_true]
  intro x hx
  obtain ⟨j, hj, rfl⟩ := List.mem_map.1 hx
  rw [decide_eq_true_iff]
  exact (h3 j i (List.mem_range.1 hj) (List.mem_range.1 hi)).2
theorem char_turn {m : List (List Int)} (h : smallM m = true) : charM (turnM m) = charM m := by
  obtain ⟨_, h2, _⟩ := small_facts h
  have hl : (turnM m).length = m.length := tabOf_length _ _ _
  unfold charM
  rw [if_pos h, if_pos (turn_small h)]
  unfold charL
  rw [hl]
  refine List.map_congr_left fun k _ => ?_
  rw [minors_turn h2]
theorem charL_len (m : List (List Int)) : (charL m).length = m.length + 1 := by simp [charL]
theorem charL_at (m : List (List Int)) {k : Nat} (hk : k ≤ m.length) : (charL m).getD k 0 = sgn (m.length - k) * minorsN m (m.length - k) := by
  unfold charL
  rw [List.getD_eq_getElem?_getD, List.getElem?_map, List.getElem?_range (by omega)]
  rfl
theorem minors_abs {m : List (List Int)} (h : smallM m = true) (k : Nat) : (minorsN m k).natAbs ≤ 1000000 := by
  obtain ⟨h1, h2, h3⟩ := small_facts h
  have hab : ∀ i j, i < m.length → j < m.length → (cellOf m i j).natAbs ≤ 9 := fun i j hi hj => by have := h3 i j hi hj; omega
  by_cases hk : k = m.length
  · subst hk
    rw [minors_all h2]
    have hd := detF_abs (B := 9) (n := m.length) (f := cellOf m) hab
    have hn : m.length = 0 ∨ m.length = 1 ∨ m.length = 2 ∨ m.length = 3 ∨ m.length = 4 := by omega
    unfold detT
    rcases hn with e | e | e | e | e <;> rw [e] at hd ⊢ <;> simp [detB] at hd <;> omega
  · have hs : (minorsN m k).natAbs ≤ 2 ^ m.length * 4374 := by
      unfold minorsN
      refine sumTo_abs fun s _ => ?_
      split
      · next he =>
        have hb := bitsL_len m.length s
        have hd := detF_abs (B := 9) (n := (bitsL m.length s).length) (f := fun a b => cellOf m ((bitsL m.length s).getD a 0) ((bitsL m.length s).getD b 0)) fun a b ha hb => hab _ _ (bitsL_at ha) (bitsL_at hb)
        unfold minorF
        rw [he] at hd ⊢
        have hk3 : k = 0 ∨ k = 1 ∨ k = 2 ∨ k = 3 := by omega
        rcases hk3 with e | e | e | e <;> rw [e] at hd ⊢ <;> simp only [detB] at hd <;> omega
      · decide
    have hn : m.length = 0 ∨ m.length = 1 ∨ m.length = 2 ∨ m.length = 3 ∨ m.length = 4 := by omega
    rcases hn with e | e | e | e | e <;> rw [e] at hs <;> omega
theorem char_fits {m : List (List Int)} (h : smallM m = true) : fitsB (charL m) 5 = true := by
  obtain ⟨_, h2, _⟩ := small_facts h
  unfold fitsB
  rw [charL_len, decide_eq_true (by omega), Bool.and_true, List.all_eq_true]
  intro x hx
  unfold charL at hx
  obtain ⟨k, _, rfl⟩ := List.mem_map.1 hx
  have := minors_abs h (m.length - k)
  rw [decide_eq_true_iff]
  rcases sgn_two (m.length - k) with e | e <;> rw [e] <;> omega
theorem hor_zero (p : List Int) : ∀ n, 0 < n → hor p 0 n = p.getD (p.length - n) 0
  | n + 1, _ => by rw [hor, Int.mul_zero, Int.zero_add, show p.length - 1 - n = p.length - (n + 1) by omega]
/-- The value at 0. -/
theorem char_at_zero {m : List (List Int)} (h : smallM m = true) : atP (charL m) 0 = some (sgn m.length * detT m) := by
  obtain ⟨_, h2, _⟩ := small_facts h
  unfold atP
  rw [char_fits h, Bool.true_and, if_pos (by decide), hor_zero _ _ (by rw [charL_len]; omega), Nat.sub_self, charL_at m (Nat.zero_le _), Nat.sub_zero, minors_all h2]

/-! ### The value of a product -/
theorem hor_two (p : List Int) (x : Int) : ∀ n, n ≤ p.length → hor p x p.length = hor p x n * x ^ (p.length - n) + sumTo (p.length - n) fun k => p.getD k 0 * x ^ k := by
  intro n hn
  obtain ⟨d, hd⟩ : ∃ d, p.length = n + d := ⟨p.length - n, by omega⟩
  rw [show p.length - n = d by omega]
  clear hn
  induction d generalizing n with
  | zero => rw [hd]; simp [sumTo]
  | succ d ih =>
    have h1 := ih (n + 1) (by omega)
    rw [h1, hor, sumTo, show p.length - 1 - n = d by omega, Int.pow_succ]
    grind
theorem hor_sum (p : List Int) (x : Int) : hor p x p.length = sumTo p.length fun k => p.getD k 0 * x ^ k := by
  have h := hor_two p x 0 (Nat.zero_le _)
  rw [hor, Int.zero_mul, Int.zero_add, Nat.sub_zero] at h
  exact h
theorem cutLen_zero (p : List Int) : ∀ {n k : Nat}, cutLen p n ≤ k → k < n → p.getD k 0 = 0
  | n + 1, k, h, hk => by
    rw [cutLen] at h
    split at h
    · next hz =>
      by_cases e : k = n
      · subst e; exact hz
      · exact cutLen_zero p h (by omega)
    · omega
theorem sumTo_drop {f : Nat → Int} {n : Nat} : ∀ {d : Nat}, (∀ k, n ≤ k → k < n + d → f k = 0) → sumTo (n + d) f = sumTo n f
  | 0, _ => rfl
  | d + 1, h => by
    rw [← Nat.add_assoc, sumTo, h (n + d) (by omega) (by omega), sumTo_drop (d := d) fun k h1 h2 => h k h1 (by omega)]
    omega
theorem cut_value (p : List Int) (x : Int) : (sumTo (cutL p).length fun k => (cutL p).getD k 0 * x ^ k) = sumTo p.length fun k => p.getD k 0 * x ^ k := by
  have hle := cutLen_le p p.length
  have hl : (cutL p).length = cutLen p p.length := by unfold cutL; rw [List.length_take]; omega
  rw [hl]
  obtain ⟨d, hd⟩ : ∃ d, p.length = cutLen p p.length + d := ⟨p.length - cutLen p p.length, by omega⟩
  have h1 : sumTo (cutLen p p.length) (fun k => (cutL p).getD k 0 * x ^ k) = sumTo (cutLen p p.length) fun k => p.getD k 0 * x ^ k := sumTo_congr _ fun k hk => by
    have : (cutL p).getD k 0 = p.getD k 0 := by
      unfold cutL
      simp [List.getD_eq_getElem?_getD, hk]
    rw [this]
  rw [h1]
  have h2 := sumTo_drop (f := fun k => p.getD k 0 * x ^ k) (n := cutLen p p.length) (d := d) fun k h3 h4 => by
    rw [cutLen_zero p h3 (by omega), Int.zero_mul]
  rw [← h2, ← hd]
theorem conv_value (a b : List Int) (ha : a.length ≤ 4) (hb : b.length ≤ 2) (ha0 : a ≠ []) (hb0 : b ≠ []) (x : Int) : (sumTo (convL a b).length fun k => (convL a b).getD k 0 * x ^ k) = (sumTo a.length fun k => a.getD k 0 * x ^ k) * sumTo b.length fun k => b.getD k 0 * x ^ k := by
  match b, hb0, hb with
  | [b0], _, _ =>
    match a, ha0, ha with
    | [a0], _, _ => simp [convL, termC, sumTo, List.range, List.range.loop]
    | [a0, a1], _, _ => simp [convL, termC, sumTo, List.range, List.range.loop]; grind
    | [a0, a1, a2], _, _ => simp [convL, termC, sumTo, List.range, List.range.loop]; grind
    | [a0, a1, a2, a3], _, _ => simp [convL, termC, sumTo, List.range, List.range.loop]; grind
  | [b0, b1], _, _ =>
    match a, ha0, ha with
    | [a0], _, _ => simp [convL, termC, sumTo, List.range, List.range.loop]; grind
    | [a0, a1], _, _ => simp [convL, termC, sumTo, List.range, List.range.loop]; grind
    | [a0, a1, a2], _, _ => simp [convL, termC, sumTo, List.range, List.range.loop]; grind
    | [a0, a1, a2, a3], _, _ => simp [convL, termC, sumTo, List.range, List.range.loop]; grind
theorem prod_value {a b : List Int} {x : Int} (ha : a.length ≤ 4) (hb : b.length ≤ 2) (hp : mulP a b ≠ []) : hor a x a.length * hor b x b.length = hor (mulP a b) x (mulP a b).length := by
  unfold mulP at hp ⊢
  split at hp
  · next h =>
    rw [if_pos h]
    rw [Bool.and_eq_true, decide_eq_true_iff] at h
    rw [hor_sum, hor_sum, hor_sum, cut_value, conv_value a b ha hb h.2.1 h.2.2]
  · exact absurd rfl hp
end Go.Proofs.YtfbdmheaalmboaaGreatDoor
namespace Go.Proofs.YtfbdmheaalmboaaGreatDoor
open Go Go.RowKit

theorem small_detS {m : List (List Int)} (h : smallM m = true) : detS m = some (detT m) := by
  obtain ⟨h1, h2, h3⟩ := small_facts h
  have hf := isMat_facts h1
  unfold detS
  rw [if_pos]
  unfold detOk
  rw [decide_eq_true h2, Bool.true_and, List.all_eq_true]
  intro r hr
  obtain ⟨i, hi, rfl⟩ := List.getElem_of_mem hr
  have e : m.getD i [] = m[i] := by simp [List.getD, hi]
  have hrow := hf.row i hi
  rw [e] at hrow
  rw [decide_eq_true hrow, Bool.true_and, List.all_eq_true]
  intro x hx
  obtain ⟨j, hj, rfl⟩ := List.getElem_of_mem hx
  have hc := h3 i j hi (by omega)
  unfold cellOf at hc
  rw [e, List.getD_eq_getElem?_getD, List.getElem?_eq_getElem hj] at hc
  rw [decide_eq_true_iff]
  have hc2 : 0 ≤ (m[i])[j] ∧ (m[i])[j] ≤ 9 := hc
  omega
theorem small_ends {m : List (List Int)} (h : smallM m = true) : charM m = charL m ∧ (charM m).length = m.length + 1 ∧ (charM m).getD m.length 0 = 1 ∧ (charM m).getD (m.length - 1) 0 = -traceM m := by
  obtain ⟨h1, h2, _⟩ := small_facts h
  have hf := isMat_facts h1
  have hp := hf.pos
  have e : charM m = charL m := by unfold charM; rw [if_pos h]
  rw [e]
  refine ⟨rfl, charL_len m, ?_, ?_⟩
  · rw [charL_at m (Nat.le_refl _), Nat.sub_self, minors_zero h2]; rfl
  · rw [charL_at m (Nat.sub_le _ _), show m.length - (m.length - 1) = 1 by omega, minors_one h2]
    unfold traceM
    rw [if_pos h1]
    show -1 * _ = _
    omega
theorem cut_head {p : List Int} (hp : 0 < p.length) (h : p.getD 0 0 ≠ 0) : 0 < (cutL p).length ∧ (cutL p).getD 0 0 = p.getD 0 0 := by
  have hc : 0 < cutLen p p.length := by
    by_cases h0 : cutLen p p.length = 0
    · exact absurd (cutLen_zero p (n := p.length) (k := 0) (by omega) hp) h
    · omega
  have hle := cutLen_le p p.length
  unfold cutL
  refine ⟨by rw [List.length_take]; omega, ?_⟩
  simp [List.getD_eq_getElem?_getD, hc]
theorem turned_head {m : List (List Int)} (h : smallM m = true) : 0 < (turnedM m).length ∧ (turnedM m).getD 0 0 = 1 := by
  obtain ⟨_, h2, _⟩ := small_facts h
  have e : turnedM m = cutL (turnedL m) := by unfold turnedM; rw [if_pos h]
  have hl : (turnedL m).length = m.length + 1 := by simp [turnedL]
  have h0 : (turnedL m).getD 0 0 = 1 := by
    unfold turnedL
    rw [List.getD_eq_getElem?_getD, List.getElem?_map, List.getElem?_range (by omega)]
    show sgn 0 * minorsN m 0 = 1
    rw [minors_zero h2]; rfl
  rw [e]
  obtain ⟨h3, h4⟩ := cut_head (p := turnedL m) (by omega) (by rw [h0]; decide)
  exact ⟨h3, by rw [h4, h0]⟩
theorem det_abs {m : List (List Int)} (h : smallM m = true) : (detT m).natAbs ≤ 1000000 := by
  have h1 := minors_abs h m.length
  rwa [minors_all (small_facts h).2.1] at h1
theorem trace_abs {m : List (List Int)} (h : smallM m = true) : (traceM m).natAbs ≤ 1000000 := by
  obtain ⟨h1, h2, _⟩ := small_facts h
  have h3 := minors_abs h 1
  rw [minors_one h2] at h3
  unfold traceM
  rwa [if_pos h1]
theorem not_smallM {m : List (List Int)} (h : smallM m = false) : charM m = [] ∧ turnedM m = [] := by
  unfold charM turnedM
  rw [h]
  exact ⟨rfl, rfl⟩
theorem small_root {m : List (List Int)} (h : smallM m = true) : rootM m = decide (detT m ≠ 0) := by
  unfold rootM
  rw [h]; rfl
theorem hor2_abs {p : List Int} (h : ∀ k, (p.getD k 0).natAbs ≤ 1000000) : ∀ n, (hor p 2 n).natAbs ≤ (2 ^ n - 1) * 1000000
  | 0 => by simp [hor]
  | n + 1 => by
    have ih := hor2_abs h n
    have h1 := h (p.length - 1 - n)
    have h2 : 0 < 2 ^ n := Nat.two_pow_pos n
    rw [hor, Nat.pow_succ]
    generalize hor p 2 n = y at *
    generalize p.getD (p.length - 1 - n) 0 = z at *
    generalize 2 ^ n = q at *
    omega
/-- The value at 2 of a list of at most 4 numbers. -/
theorem two_abs {p : List Int} {f : Int} (hl : p.length ≤ 4) (h : atP p 2 = some f) : f = hor p 2 p.length ∧ f.natAbs ≤ 15000000 := by
  unfold atP at h
  split at h
  · next hc =>
    rw [Bool.and_eq_true] at hc
    obtain rfl := Option.some.inj h
    refine ⟨rfl, ?_⟩
    have h1 := hor2_abs (fits_at hc.1).2 p.length
    have h2 : 2 ^ p.length ≤ 2 ^ 4 := Nat.pow_le_pow_right (by decide) hl
    omega
  · cases h
theorem two_prod {a b : List Int} {f g h : Int} (ha : a.length ≤ 4) (hb : b.length ≤ 2) (hp : 0 < (mulP a b).length) (e1 : atP a 2 = some f) (e2 : atP b 2 = some g) (e3 : atP (mulP a b) 2 = some h) : f * g = h := by
  have hv : ∀ (p : List Int) (y : Int), atP p 2 = some y → y = hor p 2 p.length := fun p y hy => by
    unfold atP at hy
    split at hy
    · exact (Option.some.inj hy).symm
    · cases hy
  rw [hv a f e1, hv b g e2, hv _ h e3]
  exact prod_value ha hb fun e => by rw [e] at hp; exact absurd hp (Nat.lt_irrefl 0)
theorem prod_abs {f g : Int} (hf : f.natAbs ≤ 15000000) (hg : g.natAbs ≤ 15000000) : (f * g).natAbs ≤ 225000000000000 := by
  rw [Int.natAbs_mul]
  exact Nat.mul_le_mul hf hg
end Go.Proofs.YtfbdmheaalmboaaGreatDoor
namespace Go.Proofs.YtfbdmheaalmboaaGreatDoor
open Go Go.RowKit

def At1L (W : World) (f : Nat) (l : List Int) (P : World → Ending → World → Prop) : Prop := ∀ v w', Below W.heap.size W w' → SizeL l → OwnA w' W.heap.size v l → Calls Tryz.prog f #[v] w' (P w')
def At1LI (W : World) (f : Nat) (l : List Int) (n : Int) (P : World → Ending → World → Prop) : Prop := ∀ v w', Below W.heap.size W w' → SizeL l → OwnA w' W.heap.size v l → Calls Tryz.prog f #[v, .int .i64 n] w' (P w')
def At2L (W : World) (f : Nat) (l l2 : List Int) (P : World → Ending → World → Prop) : Prop := ∀ v v' w', Below W.heap.size W w' → SizeL l → SizeL l2 → OwnA w' W.heap.size v l → OwnA w' W.heap.size v' l2 → Calls Tryz.prog f #[v, v'] w' (P w')
end Go.Proofs.YtfbdmheaalmboaaGreatDoor
namespace Go.Proofs.YtfbdmheaalmboaaGreatDoor
open Go Go.RowKit

/-- What is left of the limit, or -1. -/
def SzPost (L : Int) (xs : List ByteArray) (w : World) (e : Ending) (w' : World) : Prop := ∃ r : Int, e = .returned (.int .i64 r) ∧ (r = -1 ∨ (0 ≤ r ∧ (xs.length : Int) + total xs ≤ L)) ∧ w = w'

/-- A copy in new memory, at the heap's end. -/
def CopyPost (xs : List ByteArray) (w : World) (e : Ending) (w' : World) : Prop :=
  e = .returned (.slice (some ⟨w.heap.size, 0, none⟩) xs.length xs.length) ∧ w'.ownsRow w.heap.size 9 1 (.slice (some ⟨w.heap.size, 0, none⟩) xs.length xs.length) xs.length (xs.map Value.string) ∧ Below w.heap.size w w' ∧ w.heap.size < w'.heap.size

end Go.Proofs.YtfbdmheaalmboaaGreatDoor
namespace Go.Proofs.YtfbdmheaalmboaaGreatDoor
open Go Go.RowKit

theorem infoByte : (Tryz.prog.info? 5).map (fun i => (i.zero, i.size, i.bytes)) = some (some (.int .u8 0), 1, 1) := by kernel_rfl

def StrPost (l : List UInt8) (w : World) (e : Ending) (w' : World) : Prop := e = .returned (.string ⟨l.toArray⟩) ∧ Below w.heap.size w w'

set_option maxRecDepth 100000 in
set_option maxHeartbeats 1600000 in
theorem spec_join (b off c : Nat) (xs : List ByteArray) (sep : ByteArray) (hn : xs.length ≤ 1099511627776) (hlim : sep.size * xs.length + total xs ≤ 8796093022208) (w : World) (hc : StrsAt w b off xs) (hb : b < w.heap.size) :
    Calls Tryz.prog 73 #[.slice (some ⟨b, off, none⟩) xs.length c, .string sep] w (StrPost (joinOf xs sep) w) := by
  obtain ⟨i0, hi, hz0, hz1, hz2⟩ := info_parts infoByte
  have HC := Lib.hid hc
  have HJ := Lib.hid (fun k => joinOf_take_length xs sep k)
  clear hc
  go_enter Tryz.func73, Tryz.ntmps73
  go_wp2
  go_loopw [5, 6] (fun v i wr => ∃ k : Nat, k ≤ xs.length ∧ i = .int .i64 k ∧ wr.ownsRow w.heap.size 5 1 v (joinOf (xs.take k) sep).length (cellsB (joinOf (xs.take k) sep)) ∧ Below w.heap.size w wr) (fun _ i _ => xs.length - (intOf i).toNat)
  case atStart => exact ⟨0, Nat.zero_le _, rfl, World.ownsRow_made _ _ 0 (Nat.le_refl _) (by decide) rfl, (Below.refl _ _).alloc (Nat.le_refl _) _⟩
  case round =>
    obtain ⟨k, hk, rfl, ho, hbl⟩ := hrel
    by_cases hlt : k < xs.length
    · have hc1 := HC.out.below hbl hb k hlt
      obtain ⟨x, hx⟩ : ∃ x, xs.getD k ByteArray.empty = x := ⟨_, rfl⟩
      rw [hx] at hc1
      have hjl := HJ.out (k + 1)
      have HX := Lib.hid hx
      have HO := Lib.hid ho
      have HB := Lib.hid hbl
      by_cases hk0 : 0 < k
      · have hjn := joinOf_next xs sep k hlt hk0
        rw [hx] at hjn
        rw [hjn] at hjl
        simp only [List.length_append] at hjl
        change _ + sep.size + x.size ≤ _ at hjl
        have HN := Lib.hid hjn
        clear hjn ho hbl hx
        go_wp2_with (first | (at_builtin; refine Lib.wpList_append_own_string _ rfl (.tmp 16) (.tmp 17) 22 9 rfl w.heap.size 5 i0 Tryz.underlying22 Tryz.underlying9 hi hz0 hz1 hz2 _ _ _ rfl HO.out sep rfl (by unfold maxLen; omega) (by omega) HB.out.size ?_; intro v1 w1 ho1 hg1 _; have hb1 : Below w.heap.size w w1 := HB.out.grown hg1 HB.out.size (fun k hk => (HO.out.lt k hk).1); have hc2 : w1.cell? ⟨b, off + k, none⟩ = some (.string x) := (by rw [← HX.out]; exact HC.out.below hb1 hb k hlt); have HO1 := Lib.hid ho1; have HB1 := Lib.hid hb1; clear ho1 hb1 hg1) | (at_builtin; refine Lib.wpList_append_own_string _ rfl (.tmp 19) (.tmp 23) 22 9 rfl w.heap.size 5 i0 Tryz.underlying22 Tryz.underlying9 hi hz0 hz1 hz2 _ _ _ rfl HO1.out x rfl (by unfold maxLen; omega) (by omega) HB1.out.size ?_; intro v2 w2 ho2 hg2 _; have hb2 : Below w.heap.size w w2 := HB1.out.grown hg2 HB1.out.size (fun k hk => (HO1.out.lt k hk).1); have HO2 := Lib.hid ho2; have HB2 := Lib.hid hb2; clear ho2 hb2 hg2))
        go_roundw
        case rel => exact ⟨k + 1, by omega, by go_num, by rw [HN.out]; simp only [List.length_append, ← cellsB_append]; exact HO2.out, HB2.out⟩
        case measure => simp [intOf]; omega
      · obtain rfl : k = 0 := by omega
        have hjn := joinOf_first xs sep hlt
        rw [hx] at hjn
        rw [hjn] at hjl
        change x.size ≤ _ at hjl
        have HN := Lib.hid hjn
        clear HO
        simp only [List.take_zero, joinOf_nil, List.length_nil] at ho
        have HO := Lib.hid ho
        simp only [Nat.add_zero] at hc1
        clear hjn ho hbl hx
        go_wp2_with (at_builtin; refine Lib.wpList_append_own_string _ rfl (.tmp 19) (.tmp 23) 22 9 rfl w.heap.size 5 i0 Tryz.underlying22 Tryz.underlying9 hi hz0 hz1 hz2 _ _ _ rfl HO.out x rfl (by unfold maxLen; omega) (by omega) HB.out.size ?_; intro v2 w2 ho2 hg2 _; have hb2 : Below w.heap.size w w2 := HB.out.grown hg2 HB.out.size (fun k hk => (HO.out.lt k hk).1); have HO2 := Lib.hid ho2; have HB2 := Lib.hid hb2; clear ho2 hb2 hg2)
        go_roundw
        case rel => exact ⟨1, by omega, by go_num, by rw [HN.out]; have h := HO2.out; rw [Nat.zero_add] at h; exact h, HB2.out⟩
        case measure => simp [intOf]; omega
    · obtain rfl : k = xs.length := by omega
      rw [List.take_of_length_le (Nat.le_refl _)] at ho
      have HO := Lib.hid ho
      have hcv := conv_owned (P := Tryz.prog) Tryz.underlying22 Tryz.underlying5 Tryz.underlying9 ho
      clear ho
      go_wp2
      go_ret
      exact ⟨rfl, hbl⟩
end Go.Proofs.YtfbdmheaalmboaaGreatDoor
namespace Go.Proofs.YtfbdmheaalmboaaGreatDoor
open Go Go.RowKit

def itoaB (n : Int) : ByteArray := ⟨(Lib.itoa n).toArray⟩
theorem itoaB_size {n : Int} (h0 : -9223372036854775808 ≤ n) (h1 : n ≤ 9223372036854775807) : (itoaB n).size ≤ 21 := Lib.itoa_length_le n h0 h1
/-- Numbers in decimal, with a string between them; a table's rows, with one between them. -/
def numsB (xs : List Int) (sep : ByteArray) : ByteArray := ⟨(joinOf (xs.map itoaB) sep).toArray⟩
def gridB (m : List (List Int)) : ByteArray := ⟨(joinOf (m.map fun r => numsB r ⟨#[44]⟩) ⟨#[47]⟩).toArray⟩
def textM (m : List (List Int)) : ByteArray := if isMat m = true then gridB m else ByteArray.empty
theorem total_itoaB {xs : List Int} (h : ∀ x ∈ xs, -9223372036854775808 ≤ x ∧ x ≤ 9223372036854775807) : total (xs.map itoaB) ≤ 21 * xs.length := by
  induction xs with
  | nil => simp [total]
  | cons x xs ih =>
    have h1 := itoaB_size (h x (by simp)).1 (h x (by simp)).2
    have h2 := ih fun y hy => h y (by simp [hy])
    have e : total ((x :: xs).map itoaB) = (itoaB x).size + total (xs.map itoaB) := by simp [total]
    rw [e, List.length_cons]; omega
theorem numsB_size {xs : List Int} {sep : ByteArray} (h : ∀ x ∈ xs, -9223372036854775808 ≤ x ∧ x ≤ 9223372036854775807) (hs : sep.size = 1) : (numsB xs sep).size ≤ 22 * xs.length := by
  have h1 := joinOf_length (xs.map itoaB) sep
  have h2 := total_itoaB h
  rw [hs, List.length_map, Nat.one_mul] at h1
  show (joinOf (xs.map itoaB) sep).length ≤ _
  omega
theorem take_strs (ps : List ByteArray) (k : Nat) (h : k < ps.length) : (ps.take k).map Value.string ++ [.string (ps.getD k ByteArray.empty)] = (ps.take (k + 1)).map Value.string := by
  rw [take_next ps k h, List.map_append]; rfl
theorem strs_made {w : World} : (w.alloc (.cells #[] 9)).ownsRow w.heap.size 9 1 (.slice (some ⟨w.heap.size, 0, none⟩) 0 0) 0 [] :=
  World.ownsRow_made (base := w.heap.size) (e := 9) (size := 1) w #[] 0 (Nat.le_refl _) (by unfold maxLen; omega) rfl
theorem strs_more {w w1 w2 : World} {g cap : Nat} {v : Value} {k n : Nat} {ps : List ByteArray} (hB : Below w.heap.size w w1) (hO : w1.ownsRow w.heap.size 9 1 v k ((ps.take k).map Value.string)) (hk : k < ps.length) (o : Obj)
    (ho2 : w2.ownsRow w.heap.size 9 1 (.slice (some ⟨g, 0, none⟩) n cap) n ((ps.take k).map Value.string ++ [.string (ps.getD k ByteArray.empty)])) (hg : (w1.alloc o).grownBy w2 v.ownBlock) :
    w2.ownsRow w.heap.size 9 1 (.slice (some ⟨g, 0, none⟩) n cap) n ((ps.take (k + 1)).map Value.string) ∧ Below w.heap.size w w2 := by
  rw [take_strs ps k hk] at ho2
  refine ⟨ho2, (hB.alloc hB.size o).grown hg (by have := hB.size; simp; omega) fun q hq => (hO.lt q hq).1⟩

set_option maxRecDepth 100000 in
set_option maxHeartbeats 1600000 in
theorem spec_numbers (A : Option Addr) (c : Nat) (xs : List Int) (sep : ByteArray) (hs : sep.size = 1) (h0 : 0 < xs.length) (hn : xs.length ≤ 1048576) (hx : ∀ x ∈ xs, -9223372036854775808 ≤ x ∧ x ≤ 9223372036854775807) (w : World) (hr : RowS w A xs) :
    Calls Tryz.prog 55 #[.slice A xs.length c, .string sep] w (Scalar (.string (numsB xs sep)) w) := by
  obtain ⟨i0, hi, hz0, hz1, hz2⟩ := info_parts infoStr
  obtain ⟨b, off, rfl, hat, hb⟩ := hr h0
  have hpl : (xs.map itoaB).length = xs.length := by simp
  have HAT : Hid (∀ w', Below w.heap.size w w' → IntsAt w' b off xs) := Lib.hid fun w' hbl => hat.below hbl hb
  have HGET : Hid (∀ k, k < xs.length → (xs.map itoaB).getD k ByteArray.empty = itoaB (xs.getD k 0) ∧ -9223372036854775808 ≤ xs.getD k 0 ∧ xs.getD k 0 ≤ 9223372036854775807) := Lib.hid fun k hk => by
    refine ⟨by simp [List.getD, hk], ?_⟩
    have := hx xs[k] (List.getElem_mem hk)
    simpa [List.getD, hk] using this
  have htot := total_itoaB hx
  have HJ : Hid (∀ gg cc w', w'.ownsRow w.heap.size 9 1 (.slice (some ⟨gg, 0, none⟩) xs.length cc) xs.length ((xs.map itoaB).map Value.string) → Calls Tryz.prog 73 #[.slice (some ⟨gg, 0, none⟩) xs.length cc, .string sep] w' (StrPost (joinOf (xs.map itoaB) sep) w')) :=
    Lib.hid (fun gg cc w' ho => by
      have h := spec_join gg 0 cc (xs.map itoaB) sep (by rw [hpl]; omega) (by rw [hs, hpl, Nat.one_mul]; omega) w' (StrsAt.of_owns ho (by rw [hpl])) (ho.lt gg rfl).2
      rw [hpl] at h
      exact h)
  have HALL : Hid ((xs.map itoaB).take xs.length = xs.map itoaB) := Lib.hid (List.take_of_length_le (by rw [hpl]; exact Nat.le_refl _))
  have HPL := Lib.hid hpl
  unfold numsB
  generalize xs.map itoaB = ps at *
  clear hr hat hx htot hpl
  go_enter Tryz.func55, Tryz.ntmps55
  go_wp2
  go_loopw [5, 6] (fun v i wr => ∃ k : Nat, k ≤ xs.length ∧ i = .int .i64 k ∧ wr.ownsRow w.heap.size 9 1 v k ((ps.take k).map Value.string) ∧ Below w.heap.size w wr) (fun _ i _ => xs.length - (intOf i).toNat)
  case atStart => exact ⟨0, Nat.zero_le _, rfl, strs_made, (Below.refl _ _).alloc (Nat.le_refl _) _⟩
  case round =>
    obtain ⟨k, hk, rfl, hO, hbl⟩ := hrel
    by_cases hlt : k < xs.length
    · have hc := HAT.out wr hbl k hlt
      obtain ⟨hget, hx0, hx1⟩ := HGET.out k hlt
      have HG := Lib.hid hget
      have HO := Lib.hid hO
      have HB := Lib.hid hbl
      have hsz := hbl.size
      clear hO hbl hget
      generalize xs.getD k 0 = x at *
      have HF := Lib.hid (fun w' => spec_fmt x hx0 hx1 w')
      go_wp2_with fail
      refine (HF.out _).mono ?_
      rintro e w1 ⟨rfl, hb1⟩
      have HB1 := Lib.hid (HB.out.trans (hb1.mono hsz))
      have HO1 := Lib.hid (kept_below HO.out hb1)
      have hs1 := HB1.out.size
      clear hb1
      go_wp2_with (at_builtin; refine wpList_append_lies _ rfl (.tmp 14) (.tmp 20) 72 rfl w.heap.size 9 i0 (.string ByteArray.empty) 1 16 Tryz.underlying72 hi hz0 hz1 hz2 rfl (by decide) _ _ _ rfl (HO1.out.alloc _) ⟨w1.heap.size, 0, none⟩ 1 1 [.string ⟨(Lib.itoa x).toArray⟩] rfl rfl (World.news_of_block (cs := #[.string ⟨(Lib.itoa x).toArray⟩]) (t := 9) (fr := (0, 0)) (heap_alloc_new w1 _)) (by simp [Value.oneCell']) (by decide) (by unfold maxLen; omega) (by omega) (by simp; omega) (w1.heap.size + 1) (by simp) ?_; intro gg cap w3 ho3 hg3 hat3 hlt3; have HN := Lib.hid (strs_more HB1.out HO1.out (by rw [HPL.out]; exact hlt) _ (by rw [HG.out]; exact ho3) hg3); clear ho3 hg3 hat3)
      go_roundw
      case rel => exact ⟨k + 1, by omega, by go_num, HN.out.1, HN.out.2⟩
      case measure => simp [intOf]; omega
    · obtain rfl : k = xs.length := by omega
      rw [HALL.out] at hO
      obtain ⟨g, cap, rfl, _, _⟩ := hO.form h0
      have HJ1 := Lib.hid (HJ.out g cap wr hO)
      have HB := Lib.hid hbl
      clear hO hbl
      go_wp2_with fail
      refine HJ1.out.mono ?_
      rintro e w1 ⟨rfl, hb1⟩
      have HB1 := Lib.hid (HB.out.trans (hb1.mono HB.out.size))
      clear hb1
      go_wp2
      go_ret
      exact ⟨rfl, HB1.out⟩

end Go.Proofs.YtfbdmheaalmboaaGreatDoor
namespace Go.Proofs.YtfbdmheaalmboaaGreatDoor
open Go Go.RowKit

def textP (p : List Int) : ByteArray := if p.length = 0 then ⟨#[48]⟩ else numsB p ⟨#[32]⟩

set_option maxRecDepth 100000 in
set_option maxHeartbeats 800000 in
theorem spec_polyText (A : Option Addr) (c : Nat) (p : List Int) (hn : p.length ≤ 1048576) (hx : ∀ x ∈ p, -9223372036854775808 ≤ x ∧ x ≤ 9223372036854775807) (w : World) (h : RowS w A p) :
    Calls Tryz.prog 25 #[.slice A p.length c] w (Scalar (.string (textP p)) w) := by
  by_cases h0 : p.length = 0
  · have e : textP p = ⟨#[48]⟩ := by unfold textP; rw [if_pos h0]
    rw [e, h0]
    go_enter Tryz.func25, Tryz.ntmps25
    go_wp2
    go_ret
    exact ⟨rfl, Below.refl _ _⟩
  · have HN := Lib.hid (spec_numbers A c p ⟨#[32]⟩ rfl (by omega) hn hx w h)
    have e : Hid (textP p = numsB p ⟨#[32]⟩) := Lib.hid (by unfold textP; rw [if_neg h0])
    have hne : ((p.length : Int) == 0) = false := by rw [beq_eq_false_iff_ne]; omega
    rw [e.out]
    clear hx h
    go_enter Tryz.func25, Tryz.ntmps25
    go_wp2_with fail
    refine HN.out.mono ?_
    rintro e w1 ⟨rfl, hb⟩
    go_wp2
    go_ret
    exact ⟨rfl, hb⟩
theorem specV_polyText {p : List Int} (hp : SizeL p) (hx : ∀ x ∈ p, -9223372036854775808 ≤ x ∧ x ≤ 9223372036854775807) {v : Value} {w : World} (h : RowV w v p) : Calls Tryz.prog 25 #[v] w (Scalar (.string (textP p)) w) := by
  obtain ⟨A, c, rfl, hg⟩ := h
  unfold SizeL at hp
  exact spec_polyText A c p hp hx w hg
theorem atSpec_polyText (W : World) (p : List Int) (hx : ∀ x ∈ p, -9223372036854775808 ≤ x ∧ x ≤ 9223372036854775807) : At1L W 25 p (Scalar (.string (textP p))) := fun _ _ _ hz ho => specV_polyText hz hx ho.rowV
end Go.Proofs.YtfbdmheaalmboaaGreatDoor
