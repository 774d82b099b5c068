/-
  The model's drawn matrices (l4Draw, l4Bent): whatever the bytes, a small table in memory of the draw's own; it changes nothing below its block.
-/
import Derived.Test.YtanelokploifhaaDoorDrawTexts
import Derived.Test.YtanelokploifhaaDoorMatParse
import Derived.Test.YtanelokploifhaaDoorBaseTexts
import Derived.Deep.RegionHeld3
namespace Go.Proofs.YtanelokploifhaaDoor
open Go Go.RowKit

def matTexts : List ByteArray := [⟨#[49, 44, 49, 47, 49, 44, 48]⟩, ⟨#[50]⟩, ⟨#[49, 44, 49, 47, 49, 44, 49]⟩, ⟨#[48, 44, 49, 47, 49, 44, 48]⟩, ⟨#[48, 44, 49, 44, 48, 47, 48, 44, 48, 44, 49, 47, 49, 44, 49, 44, 48]⟩, ⟨#[49, 44, 49, 44, 48, 47, 48, 44, 49, 44, 49, 47, 49, 44, 48, 44, 49]⟩, ⟨#[49, 44, 48, 47, 49, 44, 49]⟩, ⟨#[48, 44, 49, 47, 48, 44, 48]⟩, ⟨#[51]⟩, ⟨#[49, 44, 50, 47, 49, 44, 48]⟩, ⟨#[48]⟩, ⟨#[48, 44, 50, 47, 49, 44, 48]⟩]
theorem matTexts_ok : (matTexts.all fun s => (parseM intOfS s).isSome && decide (s.size ≤ 100)) = true := by kernel_rfl
theorem matText_mat {s : ByteArray} (h : s ∈ matTexts) : s.size ≤ 100 ∧ ∃ M, parseM intOfS s = some M ∧ MatFacts M := by
  have h1 := List.all_eq_true.1 matTexts_ok s h
  rw [Bool.and_eq_true, decide_eq_true_iff] at h1
  refine ⟨h1.2, ?_⟩
  cases e : parseM intOfS s with
  | none => rw [e] at h1; cases h1.1
  | some M =>
    refine ⟨M, rfl, ?_⟩
    unfold parseM at e
    split at e
    · next hc =>
      obtain rfl := Option.some.inj e
      exact isMat_facts hc.2
    · cases e

/-- A small table that is not empty, its first row neither. -/
structure Small (M : List (List Int)) : Prop where
  len : M.length ≤ 10
  tot : tot M ≤ 200
  pos : 0 < M.length
  first : 0 < (M.getD 0 []).length
theorem MatFacts.small {M : List (List Int)} (h : MatFacts M) : Small M :=
  ⟨by have := h.le; omega, by have := tot_isMat h; omega, h.pos, by rw [h.row 0 h.pos]; exact h.pos⟩
theorem OwnG.from {w w' : World} {B : Nat} {v : Value} {m : List (List Int)} (h : OwnG w B v m) (hf : From B w w') : OwnG w' B v m := (From.ownIn h.ownIn hf).ownG
theorem from_only {g : Nat} {w w' : World} (h : Only g w w') : From (g + 1) w w' := ⟨Nat.le_of_eq h.1.symm, fun k hk _ => h.2 k (by omega)⟩
/-- Number j of row i, now and as long as the table's memory stays as it is. -/
theorem OwnG.ats {w : World} {B : Nat} {v : Value} {m : List (List Int)} (h : OwnG w B v m) {i j : Nat} (hi : i < m.length) (hj : j < (m.getD i []).length) :
    ∃ g cap gi ci, v = .slice (some ⟨g, 0, none⟩) m.length cap ∧ B ≤ g ∧ B ≤ gi ∧ g ≠ gi ∧ ∀ w', From B w w' → w'.cell? ⟨g, i, none⟩ = some (.slice (some ⟨gi, 0, none⟩) (m.getD i []).length ci) ∧ w'.cell? ⟨gi, j, none⟩ = some (.int .i64 (cellOf m i j)) ∧ w'.frozen? ⟨gi, j, none⟩ = false ∧ gi < w'.heap.size ∧
      ∀ x : Int, OwnG (w'.setCell ⟨gi, j, none⟩ (.int .i64 x)) B v (m.set i ((m.getD i []).set j x)) := by
  obtain ⟨g, cap, gi, ci, hv, k1, _, _, kb, _, _⟩ := h.at hi hj
  have hgb : B ≤ g := by
    obtain ⟨vs, ho, _⟩ := h
    subst hv
    exact (ho.lt g rfl).1
  have hgi : g ≠ gi := by
    obtain ⟨vs, ho, hr⟩ := h
    subst hv
    have hl := hr.len
    have hvi : vs[i]? = some vs[i] := List.getElem?_eq_getElem (by omega)
    have h2 := (hr.row i _ hvi).2
    have h3 := (ho.cellAt i (by omega)).trans hvi
    rw [k1] at h3
    have h4 : vs[i] = .slice (some ⟨gi, 0, none⟩) (m.getD i []).length ci := (Option.some.inj h3).symm
    rw [h4] at h2
    rcases h2 with h2 | h2
    · cases h2
    · exact fun e => h2 (by rw [e]; rfl)
  refine ⟨g, cap, gi, ci, hv, hgb, kb, hgi, fun w' hf => ?_⟩
  obtain ⟨g', cap', gi', ci', hv', q1, q2, q3, _, q5, q6⟩ := (h.from hf).at hi hj
  rw [hv] at hv'
  simp only [Value.slice.injEq, Option.some.injEq, Addr.mk.injEq, and_true, true_and] at hv'
  obtain ⟨rfl, rfl⟩ := hv'
  have hgl : g < w.heap.size := by
    refine Nat.lt_of_not_le fun hc => ?_
    have hn : w.heap[g]? = none := Array.getElem?_eq_none hc
    unfold World.cell? at k1
    rw [hn] at k1; simp at k1
  have e : w'.cell? ⟨g, i, none⟩ = w.cell? ⟨g, i, none⟩ := by
    unfold World.cell?
    rw [hf.block g hgb hgl]
  rw [e, k1] at q1
  simp only [Option.some.injEq, Value.slice.injEq, Addr.mk.injEq, and_true, true_and] at q1
  obtain ⟨rfl, rfl⟩ := q1
  exact ⟨e.trans k1, q2, q3, q5, q6⟩
theorem cell_far_set {w : World} {g g' i j : Nat} {v u : Value} (hne : g ≠ g') (h : w.cell? ⟨g, i, none⟩ = some u) : (w.setCell ⟨g', j, none⟩ v).cell? ⟨g, i, none⟩ = some u := by
  have hb := heap_setCell_other w ⟨g', j, none⟩ g v hne
  unfold World.cell? at h ⊢
  rw [hb]; exact h
theorem Cur.setOther {B : Nat} {a : Option Addr} {n c g : Nat} {W0 w : World} (h : Cur B a n c g W0 w) {b : Nat} (hb : B ≤ b) (hne : b ≠ g) (o : Nat) (v : Value) : Cur B a n c g W0 (w.setCell ⟨b, o, none⟩ v) := by
  obtain ⟨h1, h2, h3, i, x, h4, h5⟩ := h
  exact ⟨h1.setCell (p := ⟨b, o, none⟩) hb v, by simpa using h2, h3, i, x, h4, by rw [heap_setCell_other _ ⟨b, o, none⟩ g v (Ne.symm hne)]; exact h5⟩

def GridDrawn (B : Nat) (a : Option Addr) (n c g : Nat) (W0 : World) (e : Ending) (w' : World) : Prop := ∃ v M, e = .returned v ∧ OwnG w' (g + 1) v M ∧ Small M ∧ Cur B a n c g W0 w'

theorem Cur.lt {B : Nat} {a : Option Addr} {n c g : Nat} {W0 w : World} (h : Cur B a n c g W0 w) : g < w.heap.size := by
  obtain ⟨_, _, _, i, x, _, h5⟩ := h
  exact lt_of_block h5

theorem From.low {B B' : Nat} {w w' : World} (h : From B w w') (hb : B ≤ B') : From B' w w' := ⟨h.size, fun k h1 h2 => h.block k (Nat.le_trans hb h1) h2⟩
theorem From.put {b : Nat} {w w' : World} (h : From b w w') {gi : Nat} (hgi : w.heap.size ≤ gi) (o : Nat) (v : Value) : From b w (w'.setCell ⟨gi, o, none⟩ v) :=
  ⟨by simpa using h.size, fun k h1 h2 => by rw [heap_setCell_other w' ⟨gi, o, none⟩ k v (show k ≠ gi by omega)]; exact h.block k h1 h2⟩
/-- The same, and the table is new: what lay above the cursor is as it was. -/
def GridNew (B : Nat) (a : Option Addr) (n c g : Nat) (W0 W : World) (e : Ending) (w' : World) : Prop := ∃ v M, e = .returned v ∧ OwnG w' W.heap.size v M ∧ Small M ∧ Cur B a n c g W0 w' ∧ From (g + 1) W w'

set_option maxRecDepth 100000 in
set_option maxHeartbeats 3200000 in
theorem draw_gridF (most : Int) (hm1 : 1 ≤ most) (hm : most ≤ 5) (B : Nat) (a : Option Addr) (n c g : Nat) (W0 w : World) (hcode : CodeAt W0 B a n) (hn : n ≤ 1048576) (hcur : Cur B a n c g W0 w) :
    Calls Tryd.prog 62 #[.pointer (some ⟨g, 0, none⟩), .int .i64 most] w (GridNew B a n c g W0 w) := by
  have hg0 := hcur.lt
  have HO := Lib.hid (l1Once 3 (by decide) B a n c g W0 w hcode hn hcur)
  have HBW := Lib.hid (fun w' => l1Below most (by omega) B a n c g W0 w' hcode hn)
  have HPK := Lib.hid (fun b w' (hc : Cur B a n c g W0 w') (hs : StrsAt w' b 0 matTexts) (hbg : b ≠ g) => l1Pick b 12 matTexts (by decide) (by decide) B a n c g W0 w' hcode hn hc hs hbg)
  have HPI := Lib.hid (fun b w' (hc : Cur B a n c g W0 w') (hs : NumsAt w' b [0, 1, 0, 1, 2]) (hbg : b ≠ g) => l1PickInt b 5 [0, 1, 0, 1, 2] (by decide) (by decide) B a n c g W0 w' hcode hn hc hs hbg)
  clear hcode hcur
  go_enter Tryd.func62, Tryd.ntmps62
  go_wp2_with fail
  refine HO.out.mono ?_
  rintro e w1 ⟨x, rfl, hc1, ho1⟩
  have HF1 := Lib.hid (from_only ho1)
  clear ho1
  have hg1 := hc1.lt
  have HC1 := Lib.hid hc1
  clear hc1
  cases x with
  | true =>
    have hcp : Cur B a n c g W0 (w1.alloc (.cells (matTexts.map Value.string).toArray 9)) := HC1.out.alloc _
    have HPK1 := Lib.hid (HPK.out w1.heap.size _ hcp (strsAt_new w1 matTexts 9) (by omega))
    clear hcp
    go_wp2_with fail
    refine HPK1.out.mono ?_
    rintro e w2 ⟨k, hk, rfl, hc2, ho2⟩
    have HF2 := Lib.hid (HF1.out.trans ((From.of_below ((Below.refl w1.heap.size w1).alloc (Nat.le_refl _) _)).trans (from_only ho2)))
    clear ho2
    have hs2 := HF2.out.size
    obtain ⟨hs, M, hM, hf⟩ := matText_mat (List.getElem_mem hk)
    rw [show matTexts.getD k ByteArray.empty = matTexts[k] by simp [List.getD, hk]]
    have HP := Lib.hid (spec_parseMatrix matTexts[k] (by omega) w2)
    rw [hM] at HP
    have hg2 := hc2.lt
    have HC2 := Lib.hid hc2
    have HSM := Lib.hid hf.small
    clear hc2 hM hf
    generalize matTexts[k] = s at *
    go_wp2_with fail
    refine HP.out.mono ?_
    rintro e w3 ⟨v, rfl, ho, hb⟩
    have HO3 := Lib.hid (ho.mono hs2)
    have HC3 := Lib.hid (HC2.out.step hb)
    have HF3 := Lib.hid (HF2.out.trans (From.of_below hb))
    clear ho hb
    go_wp2
    go_ret
    exact ⟨_, M, rfl, HO3.out, HSM.out, HC3.out, HF3.out⟩
  | false =>
    have HBW1 := Lib.hid (HBW.out w1 HC1.out)
    go_wp2_with fail
    refine HBW1.out.mono ?_
    rintro e w2 ⟨x, x0, x1, rfl, hc2, ho2⟩
    have HF2 := Lib.hid (HF1.out.trans (from_only ho2))
    clear ho2
    have hs2 := HF2.out.size
    obtain ⟨N, he⟩ : ∃ N : Nat, 1 + x = (N : Int) := ⟨(1 + x).toNat, by omega⟩
    have hN : 1 ≤ N ∧ N ≤ 5 := by omega
    have HZ := Lib.hid (spec_zero N N (by omega) (by omega) w2)
    have hg2 := hc2.lt
    have HC2 := Lib.hid hc2
    clear hc2
    go_wp2_with fail
    refine HZ.out.mono ?_
    rintro e w3 ⟨v, rfl, ho, hb⟩
    obtain ⟨A, cv, rfl, -⟩ := ho.gridS
    rw [tabOf_length] at ho ⊢
    have HO3 : Hid (OwnG w3 w.heap.size (.slice A N cv) (tabOf N N fun _ _ => 0)) := Lib.hid (ho.mono hs2)
    have HC3 := Lib.hid (HC2.out.step hb)
    have HF3 := Lib.hid (HF2.out.trans (From.of_below hb))
    have HS0 : Hid ((tabOf N N fun _ _ => (0 : Int)).length = N ∧ ∀ r, r < N → ((tabOf N N fun _ _ => (0 : Int)).getD r []).length = N) := Lib.hid ⟨tabOf_length _ _ _, fun r hr => by rw [tabOf_row hr]; simp⟩
    clear ho hb
    generalize (tabOf N N fun _ _ => (0 : Int)) = M0 at *
    go_wp2
    go_loopw [9] (fun iv wr => ∃ (i : Nat) (M : List (List Int)), i ≤ N ∧ iv = .int .i64 i ∧ OwnG wr w.heap.size (.slice A N cv) M ∧ Hid (M.length = N ∧ ∀ r, r < N → (M.getD r []).length = N) ∧ Hid (Cur B a n c g W0 wr) ∧ Hid (From (g + 1) w wr)) (fun i _ => N - (intOf i).toNat)
    case atStart => exact ⟨0, M0, Nat.zero_le _, rfl, HO3.out, HS0, HC3, HF3⟩
    case round =>
      obtain ⟨i, M, hi, rfl, ho, hs, hc, hf⟩ := hrel
      have HO4 := Lib.hid ho
      clear ho
      by_cases hil : i < N
      · go_wp2
        go_loopw [10] (fun jv wr => ∃ (j : Nat) (M : List (List Int)), j ≤ N ∧ jv = .int .i64 j ∧ OwnG wr w.heap.size (.slice A N cv) M ∧ Hid (M.length = N ∧ ∀ r, r < N → (M.getD r []).length = N) ∧ Hid (Cur B a n c g W0 wr) ∧ Hid (From (g + 1) w wr)) (fun j _ => N - (intOf j).toNat)
        case atStart => exact ⟨0, M, Nat.zero_le _, rfl, HO4.out, hs, hc, hf⟩
        case round =>
          obtain ⟨j, M, hj, rfl, ho, hs, hc, hf⟩ := hrel
          by_cases hjl : j < N
          · obtain ⟨gm, cap, gi, ci, hv, gb, gib, gne, hat⟩ := ho.ats (i := i) (j := j) (by rw [hs.out.1]; exact hil) (by rw [hs.out.2 i hil]; exact hjl)
            rw [hs.out.1] at hv
            simp only [Value.slice.injEq, true_and] at hv
            obtain ⟨rfl, rfl⟩ := hv
            rw [hs.out.2 i hil] at hat
            have k1 := (hat wr (From.refl _ _)).1
            have HAT := Lib.hid hat
            have HNX : Hid (∀ x : Int, (M.set i ((M.getD i []).set j x)).length = N ∧ ∀ r, r < N → ((M.set i ((M.getD i []).set j x)).getD r []).length = N) := Lib.hid fun x => by
              refine ⟨by rw [List.length_set]; exact hs.out.1, fun r hr => ?_⟩
              have hil2 : i < M.length := by rw [hs.out.1]; exact hil
              by_cases e : r = i
              · subst e
                have : (M.set r ((M.getD r []).set j x)).getD r [] = (M.getD r []).set j x := by simp [List.getD, hil2]
                rw [this, List.length_set]; exact hs.out.2 r hr
              · have : (M.set i ((M.getD i []).set j x)).getD r [] = M.getD r [] := by simp [List.getD, List.getElem?_set_ne (Ne.symm e)]
                rw [this]; exact hs.out.2 r hr
            have hglt := hc.out.lt
            clear hat ho
            have i0 : (0 : Int) ≤ (i : Int) := by omega
            have i1 : (i : Int) < (N : Int) := by omega
            go_wp2
            go_region_held3 (fun w' => w'.cell? ⟨gm, i, none⟩ = some (.slice (some ⟨gi, 0, none⟩) N ci)) (first | exact y0 | exact cell_far_set gne y0 | go_keep) (first | (go_at_call 32; refine (HPI.out wr.heap.size _ ((hc.out.alloc _).drewN 1) (intsAt_new wr [0, 1, 0, 1, 2] 3) (by omega)).mono ?_; rintro e w5 ⟨kk, hkk, rfl, hc5, ho5⟩; have hfr0 : From (g + 1) wr w5 := (From.of_below (below_drewN ((Below.refl wr.heap.size wr).alloc (Nat.le_refl _) _) 1)).trans (from_only ho5); have hfr := hfr0.low (show g + 1 ≤ w.heap.size by omega); obtain ⟨y0, y1, y2, y3, y4⟩ := HAT.out w5 hfr; have HSET := Lib.hid y4; have HC5 := Lib.hid hc5; have HF5 := Lib.hid (hf.out.trans hfr0); clear y4 hc5 ho5 hfr hfr0))
            go_wp2
            go_roundw
            case rel => exact ⟨j + 1, _, by omega, by go_num, HSET.out _, Lib.hid (HNX.out _), Lib.hid (HC5.out.setOther (b := gi) (by have := hc.out.2.2.1; omega) (by omega) _ _), Lib.hid (HF5.out.put gib _ _)⟩
            case measure => simp [intOf]; omega
          · obtain rfl : j = N := by omega
            have HO5 := Lib.hid ho
            clear ho
            go_wp2
            go_roundw
            case rel => exact ⟨i + 1, M, by omega, by go_num, HO5.out, hs, hc, hf⟩
            case measure => simp [intOf]; omega
      · obtain rfl : i = N := by omega
        have hsm : Small M := ⟨by rw [hs.out.1]; omega, by
          have h1 := tot_le_of (m := M) (n := 5) fun r hr => by
            obtain ⟨q, hq, rfl⟩ := List.getElem_of_mem hr
            have e : M.getD q [] = M[q] := by simp [List.getD, hq]
            rw [← e, hs.out.2 q (by rw [hs.out.1] at hq; exact hq)]; omega
          rw [hs.out.1] at h1
          omega, by rw [hs.out.1]; omega, by rw [hs.out.2 0 (by omega)]; omega⟩
        have HSM := Lib.hid hsm
        clear hsm
        go_wp2
        go_ret
        exact ⟨_, M, rfl, HO4.out, HSM.out, hc.out, hf.out⟩
theorem draw_grid (most : Int) (hm1 : 1 ≤ most) (hm : most ≤ 5) (B : Nat) (a : Option Addr) (n c g : Nat) (W0 w : World) (hcode : CodeAt W0 B a n) (hn : n ≤ 1048576) (hcur : Cur B a n c g W0 w) :
    Calls Tryd.prog 62 #[.pointer (some ⟨g, 0, none⟩), .int .i64 most] w (GridDrawn B a n c g W0) := by
  refine (draw_gridF most hm1 hm B a n c g W0 w hcode hn hcur).mono ?_
  rintro e w' ⟨v, M, he, ho, hs, hc, _⟩
  exact ⟨v, M, he, ho.mono hcur.lt, hs, hc⟩
end Go.Proofs.YtanelokploifhaaDoor
