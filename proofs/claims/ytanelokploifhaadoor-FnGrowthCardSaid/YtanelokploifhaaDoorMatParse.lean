/-
  The model's ParseMatrix: at every text the table that the plain words say, in new memory; nothing that was there before is changed.
-/
import Derived.Test.YtanelokploifhaaDoorBaseTexts
import Derived.Test.YtanelokploifhaaDoorDrawTexts
namespace Go.Proofs.YtanelokploifhaaDoor
open Go Go.RowKit

/-- A row and a table that are read from a text by a reader of integers; whether each integer is one; and the matrix that a text is of. -/
def rowOfT (f : ByteArray → Option Int) (r : ByteArray) : List Int := (parts 44 r).map fun p => numV (f p)
def okRow (f : ByteArray → Option Int) (r : ByteArray) : Bool := (parts 44 r).all fun p => numB (f p)
def gridOfT (f : ByteArray → Option Int) (s : ByteArray) : List (List Int) := (parts 47 s).map (rowOfT f)
def parseM (f : ByteArray → Option Int) (s : ByteArray) : Option (List (List Int)) := if (parts 47 s).all (okRow f) = true ∧ isMat (gridOfT f s) = true then some (gridOfT f s) else none
theorem parseM_bad {f : ByteArray → Option Int} {s : ByteArray} {k : Nat} (hk : k < (parts 47 s).length) (h : okRow f ((parts 47 s).getD k ByteArray.empty) = false) : parseM f s = none := by
  unfold parseM
  rw [if_neg]
  rintro ⟨h1, _⟩
  have e : (parts 47 s).getD k ByteArray.empty = (parts 47 s)[k] := by simp [List.getD, hk]
  rw [e] at h
  have := List.all_eq_true.1 h1 _ (List.getElem_mem hk)
  rw [h] at this; cases this
theorem okRow_bad {f : ByteArray → Option Int} {r : ByteArray} {j : Nat} (hj : j < (parts 44 r).length) (h : numB (f ((parts 44 r).getD j ByteArray.empty)) = false) : okRow f r = false := by
  unfold okRow
  rw [List.all_eq_false]
  have e : (parts 44 r).getD j ByteArray.empty = (parts 44 r)[j] := by simp [List.getD, hj]
  rw [e] at h
  exact ⟨_, List.getElem_mem hj, by rw [h]; simp⟩
theorem okRow_all {f : ByteArray → Option Int} {r : ByteArray} (h : ∀ j, j < (parts 44 r).length → numB (f ((parts 44 r).getD j ByteArray.empty)) = true) : okRow f r = true := by
  unfold okRow
  rw [List.all_eq_true]
  intro p hp
  obtain ⟨j, hj, rfl⟩ := List.getElem_of_mem hp
  have := h j hj
  simpa [List.getD, hj] using this
theorem rows_all {f : ByteArray → Option Int} {s : ByteArray} (h : ∀ k, k < (parts 47 s).length → okRow f ((parts 47 s).getD k ByteArray.empty) = true) : (parts 47 s).all (okRow f) = true := by
  rw [List.all_eq_true]
  intro p hp
  obtain ⟨j, hj, rfl⟩ := List.getElem_of_mem hp
  have := h j hj
  simpa [List.getD, hj] using this
theorem parseM_end {f : ByteArray → Option Int} {s : ByteArray} (h : ∀ k, k < (parts 47 s).length → okRow f ((parts 47 s).getD k ByteArray.empty) = true) : parseM f s = if isMat (gridOfT f s) = true then some (gridOfT f s) else none := by
  unfold parseM
  have h1 := rows_all h
  by_cases h2 : isMat (gridOfT f s) = true
  · rw [if_pos ⟨h1, h2⟩, if_pos h2]
  · rw [if_neg (fun e => h2 e.2), if_neg h2]
theorem row_next {f : ByteArray → Option Int} {r : ByteArray} {j : Nat} (hj : j < (parts 44 r).length) : (rowOfT f r).take j ++ [numV (f ((parts 44 r).getD j ByteArray.empty))] = (rowOfT f r).take (j + 1) := by
  have hl : j < (rowOfT f r).length := by unfold rowOfT; rw [List.length_map]; exact hj
  rw [List.take_succ_eq_append_getElem hl]
  simp [rowOfT, List.getD, hj]
theorem row_all {f : ByteArray → Option Int} {r : ByteArray} : (rowOfT f r).take (parts 44 r).length = rowOfT f r := List.take_of_length_le (by unfold rowOfT; rw [List.length_map]; exact Nat.le_refl _)
theorem grid_next {f : ByteArray → Option Int} {s : ByteArray} {k : Nat} (hk : k < (parts 47 s).length) : (gridOfT f s).take k ++ [rowOfT f ((parts 47 s).getD k ByteArray.empty)] = (gridOfT f s).take (k + 1) := by
  have hl : k < (gridOfT f s).length := by unfold gridOfT; rw [List.length_map]; exact hk
  rw [List.take_succ_eq_append_getElem hl]
  simp [gridOfT, List.getD, hk]
theorem grid_all {f : ByteArray → Option Int} {s : ByteArray} : (gridOfT f s).take (parts 47 s).length = gridOfT f s := List.take_of_length_le (by unfold gridOfT; rw [List.length_map]; exact Nat.le_refl _)
theorem gridOfT_length (f : ByteArray → Option Int) (s : ByteArray) : (gridOfT f s).length = (parts 47 s).length := by unfold gridOfT; rw [List.length_map]
theorem take_len {α : Type} {xs : List α} {k n : Nat} (h : xs.length = n) (hk : k ≤ n) : (xs.take k).length = k := by rw [List.length_take]; omega
theorem tot_gridOfT (f : ByteArray → Option Int) (s : ByteArray) : tot (gridOfT f s) ≤ s.size + (parts 47 s).length := by
  have h2 := (parts_facts 47 s.size s (Nat.le_refl _)).2.1
  unfold gridOfT
  generalize parts 47 s = ps at *
  have h : tot (ps.map (rowOfT f)) ≤ total ps + ps.length := by
    clear h2
    induction ps with
    | nil => simp [tot]
    | cons p ps ih =>
      obtain ⟨h1, _, _, _⟩ := parts_facts 44 p.size p (Nat.le_refl _)
      have e1 : tot ((p :: ps).map (rowOfT f)) = (rowOfT f p).length + tot (ps.map (rowOfT f)) := by simp [tot]
      have e2 : total (p :: ps) = p.size + total ps := by simp [total]
      have e3 : (rowOfT f p).length = (parts 44 p).length := by unfold rowOfT; rw [List.length_map]
      rw [e1, e2, e3, List.length_cons]; omega
  omega
theorem ints_made (w : World) : (w.alloc (.cells #[] 3)).ownsRow w.heap.size 3 1 (.slice (some ⟨w.heap.size, 0, none⟩) 0 0) 0 [] :=
  World.ownsRow_made (base := w.heap.size) (e := 3) (size := 1) w #[] 0 (Nat.le_refl _) (by unfold maxLen; omega) rfl
theorem rows_made (w : World) : (w.alloc (.cells #[] 48)).ownsRow w.heap.size 48 1 (.slice (some ⟨w.heap.size, 0, none⟩) 0 0) 0 [] :=
  World.ownsRow_made (base := w.heap.size) (e := 48) (size := 1) w #[] 0 (Nat.le_refl _) (by unfold maxLen; omega) rfl
/-- Strings in another block stay when a row grows. -/
theorem strs_far {w w' : World} {g : Nat} {ps : List ByteArray} {r : Option Nat} (h : StrsAt w g 0 ps) (hl : g < w.heap.size) (hg : w.grownBy w' r) (hne : r ≠ some g) : StrsAt w' g 0 ps ∧ g < w'.heap.size := by
  refine ⟨fun k hk => ?_, Nat.lt_of_lt_of_le hl hg.size⟩
  have hb := hg.block g hl (Ne.symm hne)
  have := h k hk
  unfold World.cell? at this ⊢
  rw [hb]; exact this
theorem strs_alloc {w : World} {g : Nat} {ps : List ByteArray} (h : StrsAt w g 0 ps) (hl : g < w.heap.size) (o : Obj) : StrsAt (w.alloc o) g 0 ps ∧ g < (w.alloc o).heap.size :=
  ⟨h.below ((Below.refl _ _).alloc (Nat.le_refl _) o) hl, by simp; omega⟩
theorem ints_more {b0 : Nat} {w1 w2 : World} {g cap n k gp : Nat} {v : Value} {xs : List Int} {x : Int} {wr : World} {qs : List ByteArray} (hB : Below b0 wr w1) (h0 : b0 ≤ w1.heap.size) (hO : w1.ownsRow b0 3 1 v k ((xs.take k).map (Value.int .i64))) (hS : StrsAt w1 gp 0 qs) (hgp : gp < w1.heap.size) (hne : v.ownBlock ≠ some gp) (o : Obj)
    (hx : xs.take k ++ [x] = xs.take (k + 1)) (ho2 : w2.ownsRow b0 3 1 (.slice (some ⟨g, 0, none⟩) n cap) n ((xs.take k).map (Value.int .i64) ++ [.int .i64 x])) (hg : (w1.alloc o).grownBy w2 v.ownBlock) (hat : v.ownBlock = some g ∨ g = w1.heap.size + 1) :
    w2.ownsRow b0 3 1 (.slice (some ⟨g, 0, none⟩) n cap) n ((xs.take (k + 1)).map (Value.int .i64)) ∧ Below b0 wr w2 ∧ StrsAt w2 gp 0 qs ∧ gp < w2.heap.size ∧ (Value.slice (some ⟨g, 0, none⟩) n cap).ownBlock ≠ some gp := by
  have e : (xs.take k).map (Value.int .i64) ++ [.int .i64 x] = (xs.take (k + 1)).map (Value.int .i64) := by rw [← hx, List.map_append]; rfl
  rw [e] at ho2
  obtain ⟨s1, s2⟩ := strs_alloc hS hgp o
  obtain ⟨t1, t2⟩ := strs_far s1 s2 hg hne
  refine ⟨ho2, (hB.alloc h0 o).grown hg (by simp; omega) fun q hq => (hO.lt q hq).1, t1, t2, fun hh => ?_⟩
  have hh' : g = gp := Option.some.inj hh
  subst hh'
  rcases hat with h | h
  · exact hne h
  · omega
theorem grid_more {B : Nat} {wr w4 w5 : World} {gg cap k gr : Nat} {v u : Value} {vs : List Value} {G : List (List Int)} {xs : List Int} {ps : List ByteArray} (hO : wr.ownsRow B 48 1 v (G.take k).length vs) (hR : RowsOwn wr B v.ownBlock vs (G.take k)) (hb : Below wr.heap.size wr w4) (hB : B ≤ wr.heap.size)
    (hu : w4.ownsRow wr.heap.size 3 1 u xs.length (xs.map (Value.int .i64))) (hS : StrsAt wr gr 0 ps) (hgr : gr < wr.heap.size) (hne : v.ownBlock ≠ some gr) (o : Obj) (hx : G.take k ++ [xs] = G.take (k + 1))
    (ho3 : w5.ownsRow B 48 1 (.slice (some ⟨gg, 0, none⟩) ((G.take k).length + 1) cap) ((G.take k).length + 1) (vs ++ [u])) (hg3 : (w4.alloc o).grownBy w5 v.ownBlock) (hat : v.ownBlock = some gg ∨ gg = w4.heap.size + 1) :
    w5.ownsRow B 48 1 (.slice (some ⟨gg, 0, none⟩) ((G.take k).length + 1) cap) (G.take (k + 1)).length (vs ++ [u]) ∧ RowsOwn w5 B (Value.slice (some ⟨gg, 0, none⟩) ((G.take k).length + 1) cap).ownBlock (vs ++ [u]) (G.take (k + 1)) ∧
      StrsAt w5 gr 0 ps ∧ gr < w5.heap.size ∧ (Value.slice (some ⟨gg, 0, none⟩) ((G.take k).length + 1) cap).ownBlock ≠ some gr ∧ (∀ W : World, B = W.heap.size → Below B W wr → Below B W w5) := by
  have hb1 : Below wr.heap.size wr (w4.alloc o) := hb.alloc hb.size o
  have hh := own_append (w := w4.alloc o) (cap := cap) hO hR hb1 (World.ownsRow.alloc (World.ownsRow.mono hu hB) o) (fun g hg => (hu.lt g hg).1) ho3 hg3 (by rw [World.size_alloc]; exact hat)
  have hs4 := hb.size
  obtain ⟨t1, t2⟩ := strs_far (hS.below hb1 hgr) (Nat.lt_of_lt_of_le hgr hb1.size) hg3 hne
  refine ⟨by rw [← hx, List.length_append]; exact ho3, by rw [← hx]; exact hh, t1, t2, fun e => ?_, fun W hW hbW => ?_⟩
  · have e' : gg = gr := Option.some.inj e
    subst e'
    rcases hat with h | h
    · exact hne h
    · omega
  · exact (hbW.trans (hb1.mono hB)).grown hg3 (by simp; omega) fun q hq => (hO.lt q hq).1
theorem empty_new {w w' : World} (hb : Below w.heap.size w w') : OwnG (w'.alloc (.cells #[] 48)) w.heap.size (.slice (some ⟨w'.heap.size, 0, none⟩) 0 0) [] ∧ Below w.heap.size w (w'.alloc (.cells #[] 48)) :=
  ⟨OwnG.mono ⟨[], rows_made w', RowsOwn.nil _ _ _⟩ hb.size, hb.alloc hb.size _⟩

set_option maxRecDepth 100000 in
set_option maxHeartbeats 3200000 in
theorem spec_parseMatrix (s : ByteArray) (hs : s.size ≤ 1048576) (w : World) :
    Calls Tryd.prog 78 #[.string s] w fun e w' => ∃ v, e = .returned (.tuple #[v, .bool (parseM intOfS s).isSome]) ∧ OwnG w' w.heap.size v ((parseM intOfS s).getD []) ∧ Below w.heap.size w w' := by
  obtain ⟨i0, hi, hz0, hz1, hz2⟩ := info_parts infoSl
  obtain ⟨j0, hj, hy0, hy1, hy2⟩ := info_parts infoInt
  have hlen := (parts_facts 47 s.size s (Nat.le_refl _)).1
  have htot := (parts_facts 47 s.size s (Nat.le_refl _)).2.1
  have HSP := Lib.hid (fun w' => spec_split 47 s hs w')
  have HM0 := Lib.hid (rows_made w)
  have HROWZ : Hid (∀ k, k < (parts 47 s).length → ((parts 47 s).getD k ByteArray.empty).size ≤ 1048576) := Lib.hid fun k hk => by have := size_le_total hk; omega
  have HBADR : Hid (∀ k, k < (parts 47 s).length → okRow intOfS ((parts 47 s).getD k ByteArray.empty) = false → parseM intOfS s = none) := Lib.hid fun k hk => parseM_bad hk
  have HEND : Hid ((∀ k, k < (parts 47 s).length → okRow intOfS ((parts 47 s).getD k ByteArray.empty) = true) → parseM intOfS s = if isMat (gridOfT intOfS s) = true then some (gridOfT intOfS s) else none) := Lib.hid parseM_end
  have HGN : Hid (∀ k, k < (parts 47 s).length → (gridOfT intOfS s).take k ++ [rowOfT intOfS ((parts 47 s).getD k ByteArray.empty)] = (gridOfT intOfS s).take (k + 1)) := Lib.hid fun k hk => grid_next hk
  have HGA : Hid ((gridOfT intOfS s).take (parts 47 s).length = gridOfT intOfS s) := Lib.hid grid_all
  have hgl := gridOfT_length intOfS s
  have HGL := Lib.hid hgl
  have htg := tot_gridOfT intOfS s
  have HISM : Hid (∀ A c w', GridS w' A (gridOfT intOfS s) → Calls Tryd.prog 40 #[.slice A (gridOfT intOfS s).length c] w' fun e w2 => e = .returned (.bool (isMat (gridOfT intOfS s))) ∧ w2 = w') := Lib.hid fun A c w' hg => spec_isMatrix A c (gridOfT intOfS s) (by omega) (fun k hk => by have := row_le_tot hk; omega) w' hg
  generalize parseM intOfS s = R at *
  generalize gridOfT intOfS s = G at *
  clear htot hgl htg
  go_enter Tryd.func78, Tryd.ntmps78
  go_wp2_with fail
  refine (HSP.out _).mono ?_
  rintro e w2 ⟨gr, cr, rfl, ho, hb⟩
  rw [World.size_alloc] at ho hb
  generalize hps : parts 47 s = ps at *
  have hgr := (ho.lt gr rfl).2
  have hst := StrsAt.of_owns ho rfl
  have hgw : w.heap.size + 1 ≤ gr := (ho.lt gr rfl).1
  have HST := Lib.hid hst
  have hb0 : Below w.heap.size w w2 := ((Below.refl _ _).alloc (Nat.le_refl _) _).trans (hb.mono (by omega))
  have HO0 : Hid (w2.ownsRow w.heap.size 48 1 (.slice (some ⟨w.heap.size, 0, none⟩) 0 0) 0 []) := Lib.hid (kept_below HM0.out (by rw [World.size_alloc]; exact hb))
  have HB0 := Lib.hid hb0
  clear ho hb hst hb0 HSP
  go_wp2
  go_loopw [4, 6] (fun v i wr => ∃ (k : Nat) (vs : List Value), k ≤ ps.length ∧ i = .int .i64 k ∧ wr.ownsRow w.heap.size 48 1 v (G.take k).length vs ∧ RowsOwn wr w.heap.size v.ownBlock vs (G.take k) ∧ StrsAt wr gr 0 ps ∧ gr < wr.heap.size ∧ v.ownBlock ≠ some gr ∧ Hid (∀ j, j < k → okRow intOfS (ps.getD j ByteArray.empty) = true) ∧ Below w.heap.size w wr) (fun _ i _ => ps.length - (intOf i).toNat)
  case atStart => exact ⟨0, [], Nat.zero_le _, rfl, by rw [List.take_zero]; exact HO0.out, by rw [List.take_zero]; exact RowsOwn.nil _ _ _, HST.out, hgr, fun h => by have h2 : w.heap.size = gr := Option.some.inj h; omega, Lib.hid (fun j h => by omega), HB0.out⟩
  case round =>
    obtain ⟨k, vs, hk, rfl, hO, hR, hS, hgl, hne, hok, hbl⟩ := hrel
    obtain ⟨W0, rfl⟩ : ∃ W0 : World, W0 = wr := ⟨_, rfl⟩
    by_cases hlt : k < ps.length
    · have hc := hS k hlt
      rw [Nat.zero_add] at hc
      have hpz := HROWZ.out k hlt
      have HBADK := Lib.hid (HBADR.out k hlt)
      have HGNK := Lib.hid (HGN.out k hlt)
      have HOKN : Hid (okRow intOfS (ps.getD k ByteArray.empty) = true → ∀ j, j < k + 1 → okRow intOfS (ps.getD j ByteArray.empty) = true) := Lib.hid fun h j hj => by
        by_cases e : j = k
        · subst e; exact h
        · exact hok.out j (by omega)
      have HO := Lib.hid hO
      have HR := Lib.hid hR
      have HS := Lib.hid hS
      have HNE := Lib.hid hne
      have HB := Lib.hid hbl
      have hwr := hbl.size
      clear hO hR hS hok hbl hne
      generalize ps.getD k ByteArray.empty = p at *
      have HI0 := Lib.hid (ints_made W0)
      have HSP2 := Lib.hid (spec_split 44 p hpz (W0.alloc (.cells #[] 3)))
      have hcp := ((Below.refl W0.heap.size W0).alloc (Nat.le_refl _) (.cells #[] 3)).cell (p := ⟨gr, k, none⟩) hgl
      rw [hc] at hcp
      have hqz := (parts_facts 44 p.size p (Nat.le_refl _)).2.1
      have hqb : (parts 44 p).length ≤ 1048577 := by have := (parts_facts 44 p.size p (Nat.le_refl _)).1; omega
      have HQZ : Hid (∀ t, t < (parts 44 p).length → ((parts 44 p).getD t ByteArray.empty).size ≤ 9223372036854775807) := Lib.hid fun t ht => by have := size_le_total ht; omega
      have HXN : Hid (∀ t, t < (parts 44 p).length → (rowOfT intOfS p).take t ++ [numV (intOfS ((parts 44 p).getD t ByteArray.empty))] = (rowOfT intOfS p).take (t + 1)) := Lib.hid fun t ht => row_next ht
      have HXA : Hid ((rowOfT intOfS p).take (parts 44 p).length = rowOfT intOfS p) := Lib.hid row_all
      have HXL : Hid ((rowOfT intOfS p).length = (parts 44 p).length) := Lib.hid (List.length_map _)
      have HBAD2 : Hid (∀ t, t < (parts 44 p).length → numB (intOfS ((parts 44 p).getD t ByteArray.empty)) = false → R = none) := Lib.hid fun t ht h => HBADK.out (okRow_bad ht h)
      have HALL2 : Hid ((∀ t, t < (parts 44 p).length → numB (intOfS ((parts 44 p).getD t ByteArray.empty)) = true) → ∀ j, j < k + 1 → okRow intOfS (ps.getD j ByteArray.empty) = true) := Lib.hid fun h => HOKN.out (okRow_all h)
      clear hqz HBADK HOKN
      generalize rowOfT intOfS p = X at *
      go_wp2_with fail
      refine HSP2.out.mono ?_
      rintro e w3 ⟨gp, cp, rfl, ho3, b3⟩
      rw [World.size_alloc] at ho3 b3
      generalize parts 44 p = qs at *
      have hgp := ho3.lt gp rfl
      have HQ3 := Lib.hid (StrsAt.of_owns ho3 rfl)
      have HI3 := Lib.hid (kept_below HI0.out (by rw [World.size_alloc]; exact b3))
      have HB3 : Hid (Below W0.heap.size W0 w3) := Lib.hid (((Below.refl _ _).alloc (Nat.le_refl _) _).trans (b3.mono (by omega)))
      clear ho3 b3 HI0 HSP2
      go_wp2
      go_loopw [7, 9] (fun u j w4 => ∃ t : Nat, t ≤ qs.length ∧ j = .int .i64 t ∧ w4.ownsRow W0.heap.size 3 1 u t ((X.take t).map (Value.int .i64)) ∧ StrsAt w4 gp 0 qs ∧ gp < w4.heap.size ∧ u.ownBlock ≠ some gp ∧ Hid (∀ j, j < t → numB (intOfS (qs.getD j ByteArray.empty)) = true) ∧ Below W0.heap.size W0 w4) (fun _ j _ => qs.length - (intOf j).toNat)
      case atStart => exact ⟨0, Nat.zero_le _, rfl, HI3.out, HQ3.out, hgp.2, fun h => by have h2 : W0.heap.size = gp := Option.some.inj h; omega, Lib.hid (fun j h => by omega), HB3.out⟩
      case round =>
        obtain ⟨t, ht, rfl, hU, hSq, hgq, hneq, hnum, hb4⟩ := hrel
        by_cases htl : t < qs.length
        · have hcq := hSq t htl
          rw [Nat.zero_add] at hcq
          have hz := HQZ.out t htl
          have HX := Lib.hid (HXN.out t htl)
          have HBT := Lib.hid (HBAD2.out t htl)
          have HNN : Hid (numB (intOfS (qs.getD t ByteArray.empty)) = true → ∀ j, j < t + 1 → numB (intOfS (qs.getD j ByteArray.empty)) = true) := Lib.hid fun h j hj => by
            by_cases e : j = t
            · subst e; exact h
            · exact hnum.out j (by omega)
          have HU := Lib.hid hU
          have HSQ := Lib.hid hSq
          have HNQ := Lib.hid hneq
          have HB4 := Lib.hid hb4
          have hs4 := hb4.size
          clear hU hSq hneq hnum hb4
          generalize qs.getD t ByteArray.empty = q at *
          have HPI := Lib.hid (fun w' => spec_parseInt q hz w')
          go_wp2_with fail
          refine (HPI.out _).mono ?_
          rintro e w5 ⟨rfl, b5⟩
          have HB5 := Lib.hid (HB4.out.trans (b5.mono hs4))
          have hs5 := HB5.out.size
          have HU5 := Lib.hid (kept_below HU.out b5)
          have HSQ5 := Lib.hid (HSQ.out.below b5 hgq)
          have hgq5 : gp < _ := Nat.lt_of_lt_of_le hgq b5.size
          clear b5
          obtain ⟨x, HV⟩ : ∃ x, Hid (numV (intOfS q) = x) := ⟨_, Lib.hid rfl⟩
          rw [HV.out]
          rw [HV.out] at HX
          cases hnb : numB (intOfS q) with
          | false =>
            have hr := HBT.out hnb
            subst hr
            have HE := Lib.hid (empty_new (HB.out.trans (HB5.out.mono hwr)))
            clear hnb
            go_wp2
            go_ret2
            exact ⟨_, rfl, HE.out.1, HE.out.2⟩
          | true =>
            have HN1 := Lib.hid (HNN.out hnb)
            clear hnb
            go_wp2_with (at_builtin; refine wpList_append_lies _ rfl (.tmp 44) (.tmp 46) 48 rfl W0.heap.size 3 j0 (.int .i64 0) 1 8 Tryd.underlying48 hj hy0 hy1 hy2 rfl (by decide) _ _ _ rfl (HU5.out.alloc _) ⟨w5.heap.size, 0, none⟩ 1 1 [.int .i64 x] rfl rfl (World.news_of_block (cs := #[.int .i64 x]) (t := 3) (fr := (0, 0)) (heap_alloc_new w5 _)) (by simp [Value.oneCell']) (by decide) (by unfold maxLen; omega) (by omega) (by simp; omega) (w5.heap.size + 1) (by simp) ?_; intro gg cap w6 ho6 hg6 hat6 hlt6; have HM := Lib.hid (ints_more HB5.out hs5 HU5.out HSQ5.out hgq5 HNQ.out _ HX.out ho6 hg6 hat6); clear ho6 hg6 hat6)
            go_roundw
            case rel => exact ⟨t + 1, by omega, by go_num, HM.out.1, HM.out.2.2.1, HM.out.2.2.2.1, HM.out.2.2.2.2, HN1, HM.out.2.1⟩
            case measure => simp [intOf]; omega
        · obtain rfl : t = qs.length := by omega
          have HNX := Lib.hid (HALL2.out hnum.out)
          rw [HXA.out, ← HXL.out] at hU
          have HU := Lib.hid hU
          have HB4 := Lib.hid hb4
          have hs4 := hb4.size
          have HOK := Lib.hid (kept_below HO.out hb4)
          have hGk : (G.take k).length = k := take_len HGL.out (by omega)
          obtain ⟨A7, c7, rfl⟩ := slice_of_owns hU
          clear hU hnum hb4 hSq
          go_wp2_with (at_builtin; refine wpList_append_lies _ rfl (.tmp 48) (.tmp 50) 24 rfl w.heap.size 48 i0 (.slice none 0 0) 1 24 Tryd.underlying24 hi hz0 hz1 hz2 rfl (by decide) _ _ _ rfl (HOK.out.alloc _) ⟨wr.heap.size, 0, none⟩ 1 1 [.slice A7 X.length c7] rfl rfl (World.news_of_block (cs := #[.slice A7 X.length c7]) (t := 48) (fr := (0, 0)) (heap_alloc_new wr _)) (by simp [Value.oneCell']) (by decide) (by rw [hGk]; unfold maxLen; omega) (by rw [hGk]; omega) (by simp; omega) (wr.heap.size + 1) (by simp) ?_; intro gg cap w6 ho6 hg6 hat6 hlt6; have hm6 := grid_more HO.out HR.out HB4.out hwr HU.out HS.out hgl HNE.out _ HGNK.out ho6 hg6 hat6; rw [hGk] at hm6; have HM := Lib.hid hm6; clear ho6 hg6 hat6 hm6)
          go_roundw
          case rel => exact ⟨k + 1, _, by omega, by go_num, HM.out.1, HM.out.2.1, HM.out.2.2.1, HM.out.2.2.2.1, HM.out.2.2.2.2.1, HNX, HM.out.2.2.2.2.2 _ rfl HB.out⟩
          case measure => simp [intOf]; omega
    · obtain rfl : k = ps.length := by omega
      have hR2 := HEND.out hok.out
      rw [HGA.out] at hO hR
      have HOG : Hid (OwnG W0 w.heap.size _ G) := Lib.hid ⟨vs, hO, hR⟩
      obtain ⟨A, c, rfl, hg⟩ := HOG.out.gridS
      have HC := Lib.hid (HISM.out A c W0 hg)
      have HE := Lib.hid (empty_new hbl)
      have HB := Lib.hid hbl
      clear hO hR hS hok hbl hne hg
      go_wp2_with fail
      refine HC.out.mono ?_
      rintro e w3 ⟨rfl, hw⟩
      obtain rfl : W0 = w3 := hw.symm
      cases hm : isMat G with
      | true =>
        rw [hm, if_pos rfl] at hR2
        have HR2 := Lib.hid hR2
        clear hR2 hm
        go_wp2
        go_ret2
        rw [HR2.out]
        exact ⟨_, rfl, HOG.out, HB.out⟩
      | false =>
        rw [hm, if_neg (by decide)] at hR2
        have HR2 := Lib.hid hR2
        clear hR2 hm
        go_wp2
        go_ret2
        rw [HR2.out]
        exact ⟨_, rfl, HE.out.1, HE.out.2⟩
end Go.Proofs.YtanelokploifhaaDoor
